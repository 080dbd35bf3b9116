/- Part 7 of the proof. -/
import Derived.Test.YtejkelcaljmnoaaGreatDoorHy06
import Derived.Conc.SmallLaws
set_option maxRecDepth 100000
set_option maxHeartbeats 4000000
set_option linter.all false
namespace Go.Proofs.YtejkelcaljmnoaaGreatDoor
open Go.Conc Go.Hx Go.Lo Tryz
attribute [local irreducible] EY KO K6 Kw Kc Ku Kd Program.underlying
def Calm (P:Nat->Prop)(S:St):Prop:= ∀e∈S.wt,∀c∈e.2,∀y,(c,y)∈S.ps->y.st=1->P c
structure XI (N:Nat->Nat)(S:St):Prop where
 un: ∀q∈S.ps,q.2.used<=S.now
 idn: ∀q∈S.ps,∀r∈S.ps,q.2.id=r.2.id->q=r
 idr: ∀q∈S.ps,1<=q.2.id/\q.2.id<=S.last
 p1: ∃q∈S.ps,q.2.id=1
 p0: ∀q∈S.ps,q.2.par=0↔q.2.id=1
 r3: ∀l,3<=l->S.rows l=[]
 nm: ∀q∈S.ps,N q.1=q.2.id
structure MI (P:Nat->Prop)(N:Nat->Nat)(S:St):Prop where
 i:Inv S
 c:Calm P S
 x:XI N S
section
variable {S S':St}{b:Nat}{x x':PS}{k:Nat×Nat}{P:Nat->Prop}{N:Nat->Nat}
theorem XI.congr (h:XI N S)(h1:S'.ps=S.ps)(h2:S'.last=S.last)(d:S'.now=S.now)(b: ∀l,3<=l->S'.rows l=S.rows l:=by intro l _;rfl):XI N S':=⟨by rw[h1,d];exact h.un,by rw[h1];exact h.idn,by rw[h1,h2];exact h.idr,by rw[h1];exact h.p1,by rw[h1];exact h.p0,λl a=>(b l a).trans (h.r3 l a),by rw[h1];exact h.nm⟩
theorem iH {a:Type}{f:Nat->a}{i:Nat}{v:a}(hi:i<3): ∀l,3<=l->put f i v l=f l:=λl b=>by unfold put;rw[if_neg bl]
theorem XI.ID (h:XI N S)(hn:(S.ps.map (·.1)).Nodup)(hb:(b,x)∈S.ps)(hid:x'.id=x.id)(g:x'.par=0↔x.par=0)(hu:x'.used<=S.now):XI N (S.ID b x'):=by
 refine⟨λq d=> ?_,λq d r k e=> ?_,λq d=> ?_, ?_,λq d=> ?_,h.r3,λq d=> ?_⟩
 ·rcases aN d with rfl|⟨a,_⟩
  ·exact hu
  ·exact h.un q a
 ·rcases aN d with rfl|⟨a,i⟩
  ·rcases aN k with rfl|⟨j,f⟩
   ·rfl
   ·have:=h.idn _ hb _ j (by rw[<-e];exact hid.symm);exact absurd (by rw[<-this]) f
  ·rcases aN k with rfl|⟨j,f⟩
   ·have:=h.idn _ a _ hb (by rw[e];exact hid);exact absurd (by rw[this]) i
   ·exact h.idn q a r j e
 ·rcases aN d with rfl|⟨a,_⟩
  ·show 1<=x'.id/\x'.id<=S.last;rw[hid];exact h.idr _ hb
  ·exact h.idr q a
 ·obtain⟨q,d,a⟩:=h.p1;by_cases e:q.1=b
  ·refine⟨(b,x'),ai hb, ?_⟩;show x'.id=1;rw[hid];obtain⟨c,y⟩:=q;have l:c=b:=e;subst l;rw[aS hn hb d];exact a
  ·exact⟨q,bK (c:=q.1) (y:=q.2) d e,a⟩
 ·rcases aN d with rfl|⟨a,_⟩
  ·show x'.par=0↔x'.id=1;rw[hid];exact g.trans (h.p0 _ hb)
  ·exact h.p0 q a
 ·rcases aN d with rfl|⟨a,_⟩
  ·show N b=x'.id;rw[hid];exact h.nm _ hb
  ·exact h.nm q a
theorem XI.erase (h:XI N S){i:Nat}{q:Nat×PS}(hi:S.ps[i]? =some q)(hq:q.2.id≠1):XI N {S.IP (S.ps.eraseIdx i) with last:=S.last}:=by
 refine⟨λq hq=>h.un q (tD hq),λq hq r b e=>h.idn q (tD hq) r (tD b) e,λq hq=>h.idr q (tD hq), ?_,λq hq=>h.p0 q (tD hq),h.r3,λq hq=>h.nm q (tD hq)⟩;obtain⟨r,b,f⟩:=h.p1;refine⟨r, ?_,f⟩;show r∈S.ps.eraseIdx i;obtain⟨j,d⟩:=mx b;have a:j≠i:=λe=>by subst e;rw[d] at hi;simp at hi;rw[<-hi] at hq;exact hq f
 rw[G2];exact⟨j,a,d⟩
theorem XI.taken (h:XI N S){c:Nat}{y:PS}(hc: ∀q∈S.ps,c≠q.1) (hp:y.par≠0) (hu:y.used<=S.now) (hN:N c=S.last+1):XI N (S.taken c y):=by
 have g:1<=S.last:=by
  obtain⟨q,a,b⟩:=h.p1;have:=h.idr q a;omega
 have cs: ∀q∈(S.taken c y).ps,q∈S.ps\/q=(c,{y with id:=S.last+1}):=λq a=>by
  rcases cE.1 a with h|h
  ·exact .inl h
  ·exact .inr (by simpa using h)
 refine⟨λq a=> ?_,λq a r f e=> ?_,λq a=> ?_, ?_,λq a=> ?_,h.r3,λq a=> ?_⟩
 ·rcases cs q a with b|rfl
  ·exact h.un q b
  ·exact hu
 ·rcases cs q a with b|rfl
  ·rcases cs r f with d|rfl
   ·exact h.idn q b r d e
   ·have:=(h.idr q b).2;simp only at e;omega
  ·rcases cs r f with d|rfl
   ·have:=(h.idr r d).2;simp only at e;omega
   ·rfl
 ·show 1<=q.2.id/\q.2.id<=S.last+1;rcases cs q a with b|rfl
  ·have:=h.idr q b;omega
  ·simp only;omega
 ·obtain⟨q,a,b⟩:=h.p1;exact⟨q,nx _ a,b⟩
 ·rcases cs q a with b|rfl
  ·exact h.p0 q b
  ·simp only;constructor
   ·intro e;exact absurd e hp
   ·intro e;omega
 ·rcases cs q a with b|rfl
  ·exact h.nm q b
  ·exact hN
theorem Calm.JR {Q:Nat->Prop}(h:Calm P S)(a: ∀c,P c->Q c):Calm Q S:=λe he c hc y b d=>a c (h e he c hc y b d)
theorem Calm.IE (h:Calm P S):Calm P (S.IE b k):=λe he c hc y a d=>by
 rcases bW he with ⟨f,_⟩|⟨f,_,xs,i,g⟩
 ·exact h e f c hc y a d
 ·rw[g] at hc;exact h _ i c (l4.1 hc).1 y a d
theorem Calm.ID (h:Calm P S)(hb:S.out b\/P b\/x'.st≠1):Calm P (S.ID b x'):=λe he c hc y f d=>by
 rcases aN f with a|⟨a,_⟩
 ·cases a;rcases hb with hb|hb|hb
  ·exact absurd hc (hb e he)
  ·exact hb
  ·exact absurd d hb
 ·exact h e he c hc y a d
theorem Calm.congr (h:Calm P S)(h1:S'.wt=S.wt)(h2:S'.ps=S.ps):Calm P S':=by unfold Calm;rw[h1,h2];exact h
theorem Calm.join (h:Calm P S)(hb:P b)(hn:(S.wt.map (·.1)).Nodup):Calm P (S.IN b k):=λe he c hc y f i=>by
 by_cases o: ∀e∈S.wt,e.1≠k
 ·have d:(S.IN b k).wt=S.wt++[(k,[b])]:=eU o;rw[d] at he;rcases cE.1 he with a|a
  ·exact h e a c hc y f i
  ·simp at a;subst a;simp at hc;subst hc;exact hb
 ·have m:k∈S.wt.map (·.1):=ti λl=>o λe he d=>l (cm.2 ⟨e,he,d⟩);obtain⟨u,n,s,j,r,p⟩:=cu hn m;have d:(S.IN b k).wt=u++(k,n++[b])::s:=by show KT b k S.wt=_;rw[j,gG r p]
  rw[d] at he;rcases cE.1 he with a|a
  ·exact h e (by rw[j];simp[a]) c hc y f i
  ·rcases gn.1 a with rfl|a
   ·rcases cE.1 hc with g|g
    ·exact h (k,n) (by rw[j];simp) c g y f i
    ·simp at g;subst g;exact hb
   ·exact h e (by rw[j];simp[a]) c hc y f i
theorem MI.IE (h:MI P N S):MI P N (S.IE b k):=⟨h.i.IE,h.c.IE,h.x.congr rfl rfl rfl⟩
theorem MI.IY (h:MI P N S){i:Nat}{ys:List Int}(h8:ys.length<=8)(hb: ∀v∈ys,0<=v/\v<256):MI P N (S.IY i ys):=⟨h.i.IY h8 hb,h.c.congr rfl rfl,h.x.congr rfl rfl rfl⟩
theorem MI.Jq (h:MI P N S)(hb:(b,x)∈S.ps)(ho:S.out b)(hs:x'.st=x.st)(hl:x'.lv=x.lv)(hw:WF x')(hf: ∀i,i<6->x'.f i=(0,0)\/KX (x'.f i)) (hid:x'.id=x.id) (a:x'.par=x.par) (hu:x'.used<=S.now):MI P N (S.ID b x'):=
 ⟨h.i.Jq hb ho hs hl hw hf,h.c.ID (.inl ho),h.x.ID h.i.g.pn hb hid (by rw[a]) hu⟩
theorem MI.r0 (h:MI P N S)(hb:(b,x)∈S.ps)(ho:S.out b){v:Int}(hv:0<=v/\v<65536):MI P N (S.ID b (x.r0 v)):=
 h.Jq hb ho rfl rfl (fT (h.i.wf _ hb) hv) (h.i.fl (b,x) hb) rfl rfl (h.x.un _ hb)
theorem MI.IV (h:MI P N S)(hb:(b,x)∈S.ps)(ho:S.out b)(hs:x.st≠1):MI P N (S.IV b x):=
 ⟨h.i.IV hb ho hs,(h.c.ID (x':={x with st:=1,used:=0}) (.inl ho)).congr rfl rfl,(h.x.ID (x':={x with st:=1,used:=0}) h.i.g.pn hb rfl fz (hX _)).congr rfl rfl rfl (iH (h.i.g.lv _ hb))⟩
theorem MI.IT (h:MI P N S)(hb:(b,x)∈S.ps)(ho:S.out b){s:Nat}(hs:s≠1):MI P N (S.IT b x s):=
 ⟨h.i.IT hb ho hs,(h.c.ID (x':={x with st:=s}) (.inl ho)).congr rfl rfl,(h.x.ID (x':={x with st:=s}) h.i.g.pn hb rfl fz (h.x.un _ hb)).congr rfl rfl rfl (iH (h.i.g.lv _ hb))⟩
theorem nN: ∀(vs:List Int)(x:PS)(i:Nat),(x.Je i vs).used=x.used
 |[],_,_=>rfl
 |v::vs,x,i=>nN vs {x with m:=put x.m i v} (i+1)
theorem pc (S:St)(x:PS)(k:Nat×Nat):(S.carried x k).used=x.used:=by
 unfold St.carried
 split
 ·exact nN _ _ _
 ·split<;>rfl
theorem MI.carry (h:MI P N S)(hb:(b,x)∈S.ps)(ho:S.out b)(f:k.1<5)(ha:x.r 1+x.r 2<=64)(hc:S.IL x k=true):MI P N (S.carry b x k):=by
 obtain⟨m,e,_⟩:=gE S b x k;obtain⟨l,n,j,d,a⟩:=b9 S x k;refine⟨h.i.carry hb ho f ha hc, ?_, ?_⟩
 ·rw[e];exact(h.c.ID (x':=S.carried x k) (.inl ho)).congr rfl rfl
 ·rw[e];exact(h.x.ID (x':=S.carried x k) h.i.g.pn hb d (by rw[a]) (by rw[pc];exact h.x.un _ hb)).congr rfl rfl rfl
theorem MI.serve (h:MI P N S)(o:S.serve k=some S'):MI P N S':=by
 obtain⟨b,x,hm,_,hb,hc,rfl⟩:=cR o;obtain⟨g,l⟩:=h.i.JE hm hb;have m:MI P N (S.IE b k):=h.IE;have d:(S.IE b k).out b:=by have:=h.i.I3 hb;rw[g.f] at this;exact this
 have j:=MI.carry m (b:=b) (x:=x) (k:=k) hb d l.1.2 g.a hc
 split
 ·exact j
 ·rename_i n;refine j.IV ?_ (by intro e he;exact d e (by rw[js] at he;exact he)) (by rw[(b9 S x k).1];exact n);rw[cL];exact ai hb
theorem MI.looks (p:Nat): ∀(n:Nat){S:St},MI P N S->MI P N (St.looks n S p)
 |0,_,h=>h
 |n+1,S,h=>by
  unfold St.looks
  split
  ·exact MI.looks p n (h.serve ‹_›)
  ·split
   ·exact MI.looks p n (h.serve ‹_›)
   ·exact h
theorem MI.shut (h:MI P N S)(hb:(b,x)∈S.ps)(ho:S.out b)(n:Nat):MI P N (S.shut b n):=by
 unfold St.shut;rw[aY h.i.g.pn hb];exact MI.looks _ 16 (h.Jq (x':={x with f:=put x.f n (0,0)}) hb ho rfl rfl ⟨(h.i.wf _ hb).r,(h.i.wf _ hb).m⟩ (iF (h.i.fl _ hb) (.inl rfl)) rfl rfl (h.x.un (b,x) hb))
theorem MI.I1 (f:Nat->Nat×Nat): ∀(a:List Nat){S:St}{x:PS},MI P N S->(b,x)∈S.ps->S.out b->MI P N (S.I1 b f a)
 |[],_,_,h,_,_=>h
 |n::a,S,x,h,hb,ho=>by
  show MI P N ((if f n=(0,0) then S else S.shut b n).I1 b f a)
  split
  ·exact MI.I1 f a h hb ho
  ·have d:=h.i.shut hb ho n;exact MI.I1 f a (h.shut hb ho n) (d.m b _ ho (ai hb)) (d.o b ho)
theorem MI.IH (id:Nat)(h1:1<=id): ∀(bs:List Nat){S:St},MI P N S->MI P N (S.IH id bs)
 |[],S,h=>h
 |b::bs,S,h=>by
  unfold St.IH;cases j:S.get b with
  |none=>exact MI.IH id h1 bs h
  |some y=>
   simp only
   split
   ·rename_i k;have hb:=ba j;refine MI.IH id h1 bs ⟨h.i.alike (x':={y with par:=1}) hb rfl rfl rfl rfl rfl,λe he c hc z f a=> ?_,h.x.ID h.i.g.pn hb rfl ?_ (h.x.un _ hb)⟩
    ·rcases aN f with d|⟨d,_⟩
     ·cases d;exact h.c e he _ hc y hb a
     ·exact h.c e he c hc z d a
    ·simp only;constructor
     ·intro e;cases e
     ·intro e;omega
   ·exact MI.IH id h1 bs h
theorem MI.take (h:MI P N S)(hb:(b,x)∈S.ps)(ho:S.out b){i:Nat}(hc:S.II x=some i)(u:x.st≠6):MI P N (S.take b x i)/\(b,x)∈S.ps.eraseIdx i:=by
 obtain⟨q,d,z,a⟩:=di hc;have s:=h.i.erase (ls:=S.last) (c:=q.1) (y:=q.2) d a;have f:(b,x)∈S.ps.eraseIdx i:=by
  obtain⟨j,m⟩:=mx hb;have l:j≠i:=λe=>by
   subst e;rw[m] at d;simp at d;rw[<-d] at a;exact u a
  rw[G2];exact⟨j,l,m⟩
 have k:=l5 d;have g:q.2.id≠1:=λe=>by
  have:=(h.x.p0 q k).2 e;have:=(h.x.idr _ hb).1;simp only at this;omega
 have n:=h.x.erase d g;have e:S.take b x i=({S.IP (S.ps.eraseIdx i) with last:=S.last}:St).ID b (told x q.2):=by unfold St.take;rw[d]
 rw[e];have r:MI P N ({S.IP (S.ps.eraseIdx i) with last:=S.last}:St):=⟨s,λe he c hc y o p=>h.c e he c hc y (tD o) p,n⟩;exact⟨r.Jq (x':=told x q.2) f ho rfl rfl (BU (h.i.wf _ hb) _) (h.i.fl (b,x) hb) rfl rfl (h.x.un (b,x) hb),f⟩
theorem MI.IJ (h:MI P N S)(c:Nat):MI P N (S.IJ c):=by
 unfold St.IJ;cases g:S.get c with
 |none=>exact h
 |some x=>
  simp only
  split
  ·rename_i k;cases hc:S.II x with
   |none=>exact h
   |some i=>
    obtain⟨q,d,_,j⟩:=di hc;simp only[d];have hb:=ba g;have b:=h.i.JI hb bl bl bl;obtain⟨f,a⟩:=h.take hb b hc bl;have e:S.take c x i=({S.IP (S.ps.eraseIdx i) with last:=S.last}:St).ID c (told x q.2):=by unfold St.take;rw[d]
    refine f.IV (x:=told x q.2) ?_ ?_ (by show x.st≠1;omega)
    ·rw[e];exact ai a
    ·rw[e];exact b
  ·exact h
theorem MI.parents: ∀(bs:List Nat){S:St},MI P N S->MI P N (S.parents bs)
 |[],_,h=>h
 |c::bs,_,h=>MI.parents bs (h.IJ c)
theorem MI.fin (h:MI P N S)(hb:(b,x)∈S.ps)(status:Int):MI P N (S.fin b x status):=by
 have e:=h.i.I3 hb;have j:MI P N (S.IE b (x.file (x.r 0))):=h.IE;have a:(b,x)∈(S.IE b (x.file (x.r 0))).ps:=hb;have k:=j.IT a e (s:=6) bx;have d:(b,{x with st:=6})∈((S.IE b (x.file (x.r 0))).IT b x 6).ps:=ai a;have l:=k.Jq (x':={x with st:=6,stat:=status}) d e rfl rfl ⟨(h.i.wf _ hb).r,(h.i.wf _ hb).m⟩ (h.i.fl (b,x) hb) rfl rfl (h.x.un (b,x) hb);have g:=MI.I1 (b:=b) x.f (List.range' 0 6) l (ai d) e;exact MI.parents _ (MI.IH _ (h.x.idr _ hb).1 _ g)
end
def St.move (S:St)(b:Nat)(x x':PS):St:=
 let S1:=(S.setRow x.lv ((S.rows x.lv).erase b)).ID b x'
 S1.setRow x'.lv (S1.rows x'.lv++[b])
section
variable {S S':St}{b:Nat}{x x':PS}{k:Nat×Nat}{P:Nat->Prop}{N:Nat->Nat}
theorem Good.move (h:Good S)(hb:(b,x)∈S.ps)(hs:x.st=1)(z:x'.st=1)(hl:x'.lv<3):Good (S.move b x x'):=by
 have g:=h.lv _ hb;have B:=h.rr _ hb hs;have i: ∀l,(S.move b x x').rows l=if l=x'.lv then(if x'.lv=x.lv then(S.rows x.lv).erase b else S.rows x'.lv)++[b] else if l=x.lv then(S.rows x.lv).erase b else S.rows l:=λl=>rfl;have m: ∀l,l<3->l≠x.lv->b∉S.rows l:=λl hl d hm=>by
  obtain⟨y,o,f,_⟩:=h.rm l hl b hm;rw[aS h.pn hb o] at d;exact d f.symm
 have k:b∉(S.rows x.lv).erase b:=List.Nodup.not_mem_erase (h.rn _ g);have old: ∀l,l<3-> ∀c,c∈S.rows l->c≠b-> ∃y,(c,y)∈(S.move b x x').ps/\y.lv=l/\y.st=1:=λl hl c hc d=>by
  obtain⟨y,o,f,p⟩:=h.rm l hl c hc;exact⟨y,bK (S:=S) o d,f,p⟩
 refine⟨by show (S.ID b x').ps.map (·.1)|>.Nodup;rw[aV];exact h.pn,by show (S.ID b x').ps.length<=8;rw[fC];exact h.p8,λq s=> ?_,λl j=> ?_,λl j c hc=> ?_,λq s f=> ?_⟩
 ·rcases aN (S:=S) s with rfl|⟨f,_⟩
  ·exact hl
  ·exact h.lv q f
 ·rw[i]
  split
  ·split
   ·refine ss.2 ⟨(h.rn _ g).sublist List.erase_sublist,bE,λa u c hc=> ?_⟩;simp at hc;subst hc;rintro rfl;exact k u
   ·rename_i d;refine ss.2 ⟨h.rn _ hl,bE,λa u c hc=> ?_⟩;simp at hc;subst hc;rintro rfl;exact m _ hl d u
  ·split
   ·exact(h.rn _ g).sublist List.erase_sublist
   ·exact h.rn l j
 ·rw[i] at hc
  split at hc
  ·rename_i e;subst e;rcases cE.1 hc with f|f
   ·split at f
    ·rename_i e;have d:c≠b:=λn=>k (n▸f);obtain⟨y,o,p,r⟩:=old _ g c (List.mem_of_mem_erase f) d;exact⟨y,o,p.trans e.symm,r⟩
    ·rename_i d;exact old _ hl c f λn=>m _ hl d (n▸f)
   ·simp at f;subst f;exact⟨x',ai (S:=S) hb,rfl,z⟩
  ·split at hc
   ·rename_i e;subst e;exact old _ g c (List.mem_of_mem_erase hc) λn=>k (n▸hc)
   ·rename_i d;exact old l j c hc λn=>m l j d (n▸hc)
 ·rw[i];rcases aN (S:=S) s with rfl|⟨p,r⟩
  ·simp
  ·have:=h.rr q p f
   split
   ·rename_i e;apply nx
    split
    ·rename_i A;rw[e,A] at this;exact(List.mem_erase_of_ne r).2 this
    ·rw[e] at this;exact this
   ·split
    ·rename_i e;rw[e] at this;exact(List.mem_erase_of_ne r).2 this
    ·exact this
theorem MI.move (h:MI P N S)(hb:(b,x)∈S.ps)(ho:S.out b)(hs:x.st=1)(m:x'.st=1)(hl:x'.lv<3)(hw:WF x')(hf: ∀i,i<6->x'.f i=(0,0)\/KX (x'.f i)) (hid:x'.id=x.id) (d:x'.par=x.par) (hu:x'.used<=S.now):MI P N (S.move b x x') where
 i:=
  {g:=h.i.g.move hb hs m hl
   wf:=λq j=>by
    rcases aN (S:=S) j with rfl|⟨k,_⟩
    ·exact hw
    ·exact h.i.wf q k
   fl:=λq j=>by
    rcases aN (S:=S) j with rfl|⟨k,_⟩
    ·exact hf
    ·exact h.i.fl q k
   y8:=h.i.y8,yb:=h.i.yb,kn:=h.i.kn,ne:=h.i.ne,nd:=h.i.nd,ke:=h.i.ke
   rm:=λe he c hc=>by
    obtain⟨y,n,o⟩:=h.i.rm e he c hc;exact⟨y,bK (S:=S) n (by rintro rfl;exact ho e he hc),o⟩}
 c:=(h.c.ID (x':=x') (.inl ho)).congr rfl rfl
 x:=(h.x.ID (x':=x') h.i.g.pn hb hid (by rw[d]) hu).congr rfl rfl rfl λl a=>(iH hl l a).trans (iH (h.i.g.lv _ hb) l a)
theorem MI.out (h:MI (λ_=>False) N S)(hb:(b,x)∈S.ps)(hs:x.st=1):S.out b:=λe he hm=>h.c e he b hm x hb hs
theorem MI.Jo (h:MI P N S)(hb:(b,x)∈S.ps)(ho:S.out b)(hs:x.st=1):MI P N (S.Jo b x):=
 h.move (x':=x.r0 0) hb ho hs hs (h.i.g.lv (b,x) hb) (fT (h.i.wf _ hb) bl) (h.i.fl (b,x) hb) rfl rfl (h.x.un (b,x) hb)
theorem MI.I7 (h:MI P N S)(hb:(b,x)∈S.ps)(ho:S.out b):MI P N (S.I7 b x):=by
 unfold St.I7
 split
 ·exact h.r0 hb ho bl
 ·have a:=h.Jq (x':={x.r0 0 with til:=(S.now:Int)+x.r 0}) hb ho rfl rfl ⟨(fT (h.i.wf _ hb) (v:=0) bl).r,(h.i.wf _ hb).m⟩ (h.i.fl (b,x) hb) rfl rfl (h.x.un (b,x) hb);exact a.IT (ai hb) ho bx
theorem MI.Jd (h:MI P N S)(hb:(b,x)∈S.ps)(ho:S.out b)(hs:x.st=1):MI P N (S.Jd b x).2:=by
 unfold St.Jd
 split
 ·simp only
  split
  ·exact(h.take hb ho ‹_› bl).1
  ·exact h.IT hb ho bx
 ·exact h
theorem MI.r0' (h:MI P N S)(ho: ∀z,(b,z)∈S.ps->S.out b) {v:Int} (hv:0<=v/\v<65536):MI P N (S.r0 b v):=by
 unfold St.r0;cases a:S.get b with
 |none=>exact h
 |some z=>exact h.r0 (ba a) (ho z (ba a)) hv
theorem MI.I4 (h:MI P N S)(hb:(b,x)∈S.ps)(ho:S.out b):MI P N (S.I4 b x).2:=by
 unfold St.I4
 split
 ·exact h
 ·rename_i hu
  split
  ·rename_i i j l g;have a: ∀i∈x.IS 6,i<6:=λi e=>by
    unfold PS.IS at e;simpa using (l4.1 e).1
   have e:=a i (by rw[g];simp);have p:=a j (by rw[g];simp);have d:=nI S;have o:=h.IY (i:=S.unused) (ys:=[]) bE bE;refine o.Jq (x':=x.piped S.unused i j) hb ho rfl rfl ⟨λn k=> ?_,(h.i.wf _ hb).m⟩ ?_ rfl rfl (h.x.un (b,x) hb)
   ·show 0<=put (put x.r 0 (i:Int)) 1 (j:Int) n/\put (put x.r 0 (i:Int)) 1 (j:Int) n<65536;have:=(h.i.wf _ hb).r n k;unfold put
    split
    ·omega
    ·split
     ·omega
     ·exact this
   ·exact iF (x:={x with f:=put x.f i (S.unused,4)}) (iF (h.i.fl (b,x) hb) (.inr ⟨⟨by simp only;omega,d⟩, .inl rfl⟩)) (.inr ⟨⟨by simp only;omega,d⟩, .inr rfl⟩)
  ·exact h
theorem MI.IZ (h:MI P N S)(hb:(b,x)∈S.ps)(ho:S.out b):MI P N (S.IZ b x).2:=by
 unfold St.IZ
 split
 ·exact h
 ·exact(h.shut hb ho _).r0' (λz a=>(h.i.shut hb ho _).o b ho) bl
theorem MI.taken (h:MI P N S){c:Nat}{y:PS}(hc: ∀q∈S.ps,c≠q.1) (h8:S.ps.length<8) (hs:y.st=0) (hl:y.lv<3) (hw:WF y) (hf: ∀i,i<6->y.f i=(0,0)\/KX (y.f i)) (hp:y.par≠0) (hu:y.used<=S.now) (hN:N c=S.last+1):MI P N (S.taken c y)/\(S.taken c y).out c:=by
 have cs: ∀q∈(S.taken c y).ps,q∈S.ps\/q=(c,{y with id:=S.last+1}):=λq d=>by
  rcases cE.1 d with h|h
  ·exact .inl h
  ·exact .inr (by simpa using h)
 have p:(S.taken c y).out c:=λe he hm=>by
  obtain⟨z,j,_⟩:=h.i.rm e he c hm;exact hc _ j rfl
 refine⟨⟨{g:= ?_,wf:= ?_,fl:= ?_,y8:=h.i.y8,yb:=h.i.yb,kn:=h.i.kn,ne:=h.i.ne,nd:=h.i.nd,ke:=h.i.ke,rm:= ?_}, ?_,h.x.taken hc hp hu hN⟩,p⟩
 ·refine⟨?_,by show (S.ps++[_]).length<=8;simp;omega,λq d=> ?_,h.i.g.rn,λl hl n b=> ?_,λq d a=> ?_⟩
  ·show ((S.ps++[(c,_)]).map (λq:Nat×PS=>q.1)).Nodup;rw[l3];refine ss.2 ⟨h.i.g.pn,bE,λu hu v o=> ?_⟩;simp at o;subst o;rintro rfl;obtain⟨q,d,e⟩:=cm.1 hu;exact hc q d e.symm
  ·rcases cs q d with a|rfl
   ·exact h.i.g.lv q a
   ·exact hl
  ·obtain⟨z,j,a,k⟩:=h.i.g.rm l hl n b;exact⟨z,nx _ j,a,k⟩
  ·rcases cs q d with k|rfl
   ·exact h.i.g.rr q k a
   ·simp only at a;omega
 ·intro q d;rcases cs q d with a|rfl
  ·exact h.i.wf q a
  ·exact⟨hw.r,hw.m⟩
 ·intro q d;rcases cs q d with a|rfl
  ·exact h.i.fl q a
  ·exact hf
 ·intro e he n b;obtain⟨z,j,s⟩:=h.i.rm e he n b;exact⟨z,nx _ j,s⟩
 ·intro e he n b z j a;rcases cs _ j with k|k
  ·exact h.c e he n b z k a
  ·have A:z={y with id:=S.last+1}:=congrArg Prod.snd k;rw[A] at a;simp only at a;omega
theorem MI.Jt (h:MI P N S)(hb:(b,x)∈S.ps)(ho:S.out b){c:Nat}(hc: ∀q∈S.ps,c≠q.1) (h8:S.ps.length<8) (hN:N c=S.last+1):MI P N (S.Jt b x c):=by
 have hw:=h.i.wf _ hb;have j:=(h.x.idr _ hb).1;obtain⟨l,d⟩:=h.taken (y:=x.copy.r0 0) hc h8 rfl (by show 0<3;omega) (fT (x:=x.copy) (v:=0) ⟨hw.r,hw.m⟩ bl) (h.i.fl (b,x) hb) (by show x.id≠0;simp only at j;omega) (hX _) hN;have g:(c,{x.copy.r0 0 with id:=S.last+1})∈(S.taken c (x.copy.r0 0)).ps:=rv _ eT;have k:=l.IV g d (by show (0:Nat)≠1;omega);have f:b≠c:=λe=>hc _ hb e.symm;have a:(b,x)∈(S.Jw c (x.copy.r0 0)).ps:=bK (nx _ hb) f;exact k.r0 a ho bl
def MX (S S':St):Prop:= ∀e∈S'.wt,∃e'∈S.wt,e'.1=e.1/\ ∀c∈e.2,c∈e'.2
theorem MX.refl (S:St):MX S S:=λe he=>⟨e,he,rfl,λ_ h=>h⟩
theorem MX.trans {S T U:St}(h:MX S T)(k:MX T U):MX S U:=λe he=>by
 obtain⟨i,g,j,l⟩:=k e he;obtain⟨f,d,a,b⟩:=h i g;exact⟨f,d,a.trans j,λc hc=>b c (l c hc)⟩
theorem nO (i:S.serve k=some S'):MX S S':=λe he=>by
 obtain⟨b,j,hw⟩:=ju i;rw[hw] at he;rcases bW he with ⟨d,_⟩|⟨f,_,xs,g,a⟩
 ·exact⟨e,d,rfl,λ_ h=>h⟩
 ·exact⟨(k,xs),g,f.symm,λc hc=>by rw[a] at hc;exact(l4.1 hc).1⟩
theorem fG (p:Nat): ∀(n:Nat)(S:St),MX S (St.looks n S p)
 |0,S=>MX.refl S
 |n+1,S=>by
  unfold St.looks
  split
  ·exact(nO ‹_›).trans (fG p n _)
  ·split
   ·exact(nO ‹_›).trans (fG p n _)
   ·exact MX.refl S
theorem qV {e:(Nat×Nat)×List Nat}(hn:(S.wt.map (·.1)).Nodup)(ho:S.out b)(he:e∈(S.IN b k).wt)(hm:b∈e.2):e.1=k:=by
 by_cases j: ∀e∈S.wt,e.1≠k
 ·have d:(S.IN b k).wt=S.wt++[(k,[b])]:=eU j;rw[d] at he;rcases cE.1 he with a|a
  ·exact absurd hm (ho e a)
  ·simp at a;rw[a]
 ·have i:k∈S.wt.map (·.1):=ti λf=>j λe he d=>f (cm.2 ⟨e,he,d⟩);obtain⟨m,o,p,g,l,n⟩:=cu hn i;have d:(S.IN b k).wt=m++(k,o++[b])::p:=by show KT b k S.wt=_;rw[g,gG l n]
  rw[d] at he;rcases cE.1 he with a|a
  ·exact absurd hm (ho e (by rw[g];simp[a]))
  ·rcases gn.1 a with rfl|a
   ·rfl
   ·exact absurd hm (ho e (by rw[g];simp[a]))
theorem MI.Jf (h:MI (λ_=>False) N S)(hb:(b,x)∈S.ps)(hs:x.st=1){use n:Nat}(hu:use=4\/use=5)(hm:use=5->n<=8):MI (λ_=>False) N (S.Jf b x use n).2:=by
 have K:=h.out hb hs;unfold St.Jf;cases hc:x.IQ use n with
 |some i=>exact h
 |none=>
  obtain⟨E,c2,c3⟩:=ey hc;have T:KX (x.file (x.r 0)):=(h.i.Ju hb _).resolve_left λe=>by rw[e] at E;simp only at E;omega
  have U:MI (· =b) N (S.IN b (x.file (x.r 0))):=⟨h.i.IN hb K ⟨rfl,c3,λG=>by rw[G] at E;have:=hm E.symm;omega, .inl hs⟩ T,(h.c.JR λc hc=>hc.elim).join rfl h.i.kn,h.x.congr rfl rfl rfl⟩;have d:MI (· =b) N ((S.IN b (x.file (x.r 0))).look (x.file (x.r 0)).1):=MI.looks _ 16 U;have u: ∀e∈((S.IN b (x.file (x.r 0))).look (x.file (x.r 0)).1).wt,b∈e.2->e.1=x.file (x.r 0):=λe he I=>by
   obtain⟨W,p,J,G⟩:=fG _ _ _ e he;rw[<-J];exact qV h.i.kn K p (G b I)
  generalize P:(S.IN b (x.file (x.r 0))).look (x.file (x.r 0)).1=S2 at*;generalize M:x.file (x.r 0)=k at*;simp only
  split
  ·rename_i A;have C:b∈S2.ps.map (·.1):=by
    obtain⟨xs,R,Q⟩:=cK A;obtain⟨y,s,_⟩:=d.i.rm _ R b (by rw[Q];exact A);exact fp s
   obtain⟨z,l⟩:=dU C;rw[aY d.i.g.pn l];simp only;have L:=(d.i.JE A l).1;refine⟨{g:=d.i.g.IT l bl,wf:= ?_,fl:= ?_,y8:=d.i.y8,yb:=d.i.yb,kn:=d.i.kn,ne:=d.i.ne,nd:=d.i.nd,ke:=d.i.ke,rm:= ?_}, ?_, ?_⟩
   ·intro q H;rcases aN H with rfl|⟨p,_⟩
    ·exact⟨(d.i.wf _ l).r,(d.i.wf _ l).m⟩
    ·exact d.i.wf q p
   ·intro q H;rcases aN H with rfl|⟨p,_⟩
    ·exact d.i.fl (b,z) l
    ·exact d.i.fl q p
   ·intro e he c j;obtain⟨y,s,F⟩:=d.i.rm e he c j;by_cases o:c=b
    ·subst o;obtain rfl:=aS d.i.g.pn l s;refine⟨{z with st:=use},ai l,F.f,F.a,F.w, .inr ?_⟩;show use=e.1.2;rw[u e he j,E]
    ·exact⟨y,bK s o,F⟩
   ·intro e he c j y s D;rcases aN s with p|⟨p,J⟩
    ·have O:y={z with st:=use}:=congrArg Prod.snd p;rw[O] at D;simp only at D;omega
    ·exact J (d.c e he c j y p D)
   ·exact(d.x.ID (x':={z with st:=use}) d.i.g.pn l rfl fz (d.x.un (b,z) l)).congr rfl rfl rfl (iH (d.i.g.lv _ l))
  ·rename_i B;refine⟨d.i,λe he c j y s D=> ?_,d.x⟩;have o:=d.c e he c j y s D;subst o;have:=u e he j;refine B ?_;have V:(k,e.2)∈S2.wt:=by rw[<-this];exact he
   rw[dr d.i.kn V];exact j
end
structure KA (S S':St):Prop extends Fix S S' where
 last:S'.last=S.last
theorem KA.refl (S:St):KA S S:=⟨Fix.refl S,rfl⟩
theorem KA.trans {S T U:St}(h:KA S T)(k:KA T U):KA S U:=⟨h.toFix.trans k.toFix,k.last.trans h.last⟩
theorem eC {S S':St}(h1:S'.sl=S.sl)(h2:S'.bo=S.bo)(e:S'.pn=S.pn)(a:S'.pg=S.pg)(b:S'.now=S.now)(d:S'.last=S.last):KA S S':=⟨⟨h1,h2,e,a,b⟩,d⟩
theorem dW (S:St)(b:Nat)(x:PS):KA S (S.ID b x):=eC rfl rfl rfl rfl rfl rfl
theorem qW (S:St)(b:Nat)(x:PS)(s:Nat):KA S (S.IT b x s):=eC rfl rfl rfl rfl rfl rfl
theorem qX (S:St)(b:Nat)(x:PS):KA S (S.IV b x):=eC rfl rfl rfl rfl rfl rfl
theorem qY (S:St)(b:Nat)(v:Int):KA S (S.r0 b v):=by
 unfold St.r0
 split
 ·exact dW S b _
 ·exact KA.refl S
theorem zu (S:St)(b:Nat)(x:PS)(k:Nat×Nat):KA S (S.carry b x k):=by
 obtain⟨a,e,_⟩:=gE S b x k;rw[e];exact eC rfl rfl rfl rfl rfl rfl
theorem qZ {S S':St}{k:Nat×Nat}(h:S.serve k=some S'):KA S S':=by
 obtain⟨b,x,_,_,_,_,rfl⟩:=cR h;have a:KA S ((S.IE b k).carry b x k):=KA.trans (T:=S.IE b k) (eC rfl rfl rfl rfl rfl rfl) (zu (S.IE b k) b x k)
 split
 ·exact a
 ·exact a.trans (qX _ _ _)
theorem jw (p:Nat): ∀(n:Nat)(S:St),KA S (St.looks n S p)
 |0,S=>KA.refl S
 |n+1,S=>by
  unfold St.looks
  split
  ·exact(qZ ‹_›).trans (jw p n _)
  ·split
   ·exact(qZ ‹_›).trans (jw p n _)
   ·exact KA.refl S
theorem uq (S:St)(b n:Nat):KA S (S.shut b n):=by
 unfold St.shut
 split
 ·exact(dW S b _).trans (jw _ 16 _)
 ·exact KA.refl S
theorem mr (b:Nat)(f:Nat->Nat×Nat): ∀(a:List Nat)(S:St),KA S (S.I1 b f a)
 |[],S=>KA.refl S
 |n::a,S=>by
  show KA S ((if f n=(0,0) then S else S.shut b n).I1 b f a)
  split
  ·exact mr b f a S
  ·exact(uq S b n).trans (mr b f a _)
theorem q5 (id:Nat): ∀(bs:List Nat)(S:St),KA S (S.IH id bs)
 |[],S=>KA.refl S
 |b::bs,S=>by
  unfold St.IH;refine KA.trans ?_ (q5 id bs _)
  split
  ·split
   ·exact dW S b _
   ·exact KA.refl S
  ·exact KA.refl S
theorem ur (S:St)(b:Nat)(x:PS)(i:Nat):KA S (S.take b x i):=by
 unfold St.take
 split
 ·exact eC rfl rfl rfl rfl rfl rfl
 ·exact KA.refl S
theorem s8 (S:St)(b:Nat):KA S (S.IJ b):=by
 unfold St.IJ
 split
 ·split
  ·split
   ·split
    ·exact(ur S b _ _).trans (qX _ _ _)
    ·exact KA.refl S
   ·exact KA.refl S
  ·exact KA.refl S
 ·exact KA.refl S
theorem mu: ∀(bs:List Nat)(S:St),KA S (S.parents bs)
 |[],S=>KA.refl S
 |b::bs,S=>(s8 S b).trans (mu bs _)
theorem j2 (S:St)(b:Nat)(x:PS)(status:Int):KA S (S.fin b x status):=by
 unfold St.fin;refine KA.trans ?_ (mu _ _);refine KA.trans ?_ (q5 _ _ _);refine KA.trans ?_ (mr b x.f _ _);exact eC rfl rfl rfl rfl rfl rfl
theorem nP (S:St)(b:Nat)(x:PS):KA S (S.I7 b x):=by
 unfold St.I7
 split<;>exact eC rfl rfl rfl rfl rfl rfl
theorem q6 (S:St)(b:Nat)(x:PS):KA S (S.Jd b x).2:=by
 unfold St.Jd
 split
 ·simp only
  split
  ·exact ur S b x _
  ·exact qW S b x 2
 ·exact KA.refl S
theorem q7 (S:St)(b:Nat)(x:PS):KA S (S.I4 b x).2:=by
 unfold St.I4
 split
 ·exact KA.refl S
 ·split
  ·exact eC rfl rfl rfl rfl rfl rfl
  ·exact KA.refl S
theorem nQ (S:St)(b:Nat)(x:PS):KA S (S.IZ b x).2:=by
 unfold St.IZ
 split
 ·exact KA.refl S
 ·exact(uq S b _).trans (qY _ b 0)
theorem kX (S:St)(b:Nat)(x:PS)(use a:Nat):KA S (S.Jf b x use a).2:=by
 unfold St.Jf
 split
 ·exact KA.refl S
 ·have d:KA S ((S.IN b (x.file (x.r 0))).look (x.file (x.r 0)).1):=KA.trans (T:=S.IN b (x.file (x.r 0))) (eC rfl rfl rfl rfl rfl rfl) (jw _ 16 _);simp only
  split
  ·split
   ·exact d.trans (qW _ _ _ _)
   ·exact d
  ·exact d
theorem jx (S:St)(b:Nat):KA S (S.after b):=by
 unfold St.after
 split
 ·split
  ·rename_i z _ _;refine(dW S b z.more).trans ?_;unfold St.JD
   split
   ·exact KA.refl _
   ·exact eC rfl rfl rfl rfl rfl rfl
  ·exact dW S b _
 ·exact KA.refl S
theorem jy (Q:St->Prop){S:St}{b:Nat}{x:PS}{m:Int}{c:Nat}(h0:Q (S.fin b x (x.r 0)))(h1:S.ps.length<8->Q (S.Jt b x c))(h2:Q (S.Jd b x).2)(D: ∀q,S.find (x.r 0)=some q->q.2.st≠6->Q ((S.fin q.1 q.2 65280).r0 b 0)) (F:Q (S.I7 b x)) (E:Q (S.Jo b x)) (C:Q (S.ID b (x.r0 ((x.id:Int)%65536)))) (B:Q (S.I4 b x).2) (h8:Q (S.IZ b x).2) (G:Q (S.Jf b x 4 64).2) (i:Q (S.Jf b x 5 8).2) (g:Q (S.ID b (x.r0 0))) (f:Q S):Q (S.IK b x m c):=by
 unfold St.IK;by_cases o:m=0
 ·rw[if_pos o];exact h0
 rw[if_neg o];by_cases z:m=1
 ·rw[if_pos z];by_cases e:8<=S.ps.length
  ·rw[if_pos e];exact f
  ·rw[if_neg e];exact h1 bl
 rw[if_neg z];by_cases s:m=2
 ·rw[if_pos s];exact h2
 rw[if_neg s];by_cases n:m=3
 ·rw[if_pos n];cases A:S.find (x.r 0) with
  |none=>exact f
  |some q=>
   simp only;by_cases e:q.2.st=6
   ·rw[if_pos e];exact f
   ·rw[if_neg e];exact D q A e
 rw[if_neg n];by_cases l:m=4
 ·rw[if_pos l];exact F
 rw[if_neg l];by_cases j:m=5
 ·rw[if_pos j];exact E
 rw[if_neg j];by_cases p:m=6
 ·rw[if_pos p];exact C
 rw[if_neg p];by_cases y:m=7
 ·rw[if_pos y];exact B
 rw[if_neg y];by_cases u:m=8
 ·rw[if_pos u];exact h8
 rw[if_neg u];by_cases k:m=9
 ·rw[if_pos k];exact G
 rw[if_neg k];by_cases a:m=10
 ·rw[if_pos a];exact i
 rw[if_neg a];by_cases d:m=11
 ·rw[if_pos d];exact g
 rw[if_neg d];exact f
theorem vO (S:St)(b:Nat)(x:PS)(m:Int)(c:Nat):Fix S (S.IK b x m c)/\(S.IK b x m c).last<=S.last+1:=by
 have lift: ∀{T:St},KA S T->Fix S T/\T.last<=S.last+1:=λh=>⟨h.toFix,by rw[h.last];omega⟩;exact jy (λT=>Fix S T/\T.last<=S.last+1) (lift (j2 S b x _)) (λ_=>⟨⟨rfl,rfl,rfl,rfl,rfl⟩,cD _⟩) (lift (q6 S b x)) (λq _ _=>lift ((j2 S q.1 q.2 _).trans (qY _ b 0))) (lift (nP S b x)) (lift (eC rfl rfl rfl rfl rfl rfl)) (lift (dW S b _)) (lift (q7 S b x)) (lift (nQ S b x)) (lift (kX S b x 4 64)) (lift (kX S b x 5 8)) (lift (dW S b _)) (lift (KA.refl S))
theorem mw (Q:St->Prop){S:St}{b:Nat}{x:PS}{c:Nat}(h0:Q (S.fin b x 65281))(h1: ∀i,(S.ID b x.next).IW b x.next (S.pg x.at_ 1)=some i->Q (((S.ID b x.next).IK b x.next (S.pg x.at_ 1) c).r0 b (KB i))) (h2:(S.ID b x.next).IW b x.next (S.pg x.at_ 1)=none->Q ((S.ID b x.next).IK b x.next (S.pg x.at_ 1) c)) (j: ∀x',x.at_<S.pn->S.doR x= .ok x'->Q (S.ID b x')):Q (S.I2 b x c):=by
 unfold St.I2;by_cases d:S.pn<=x.at_
 ·rw[if_pos d];exact h0
 rw[if_neg d];by_cases f:S.pg x.at_ 0=9
 ·rw[if_pos f];cases a:(S.ID b x.next).IW b x.next (S.pg x.at_ 1) with
  |none=>exact h2 a
  |some i=>exact h1 i a
 rw[if_neg f];cases g:S.doR x with
 |ok x'=>exact j x' bl g
 |error e=>exact h0
theorem kY (S:St)(b:Nat)(x:PS)(c:Nat):Fix S (S.I2 b x c)/\(S.I2 b x c).last<=S.last+1:=by
 have lift: ∀{T:St},KA S T->Fix S T/\T.last<=S.last+1:=λh=>⟨h.toFix,by rw[h.last];omega⟩;have a:=vO (S.ID b x.next) b x.next (S.pg x.at_ 1) c
 refine mw (λT=>Fix S T/\T.last<=S.last+1) (lift (j2 S b x _)) (λi _=> ?_) (λ_=>⟨(dW S b x.next).toFix.trans a.1,a.2⟩) λd _ _=>lift (dW S b _);have h:=qY ((S.ID b x.next).IK b x.next (S.pg x.at_ 1) c) b (KB i);exact⟨(dW S b x.next).toFix.trans (a.1.trans h.toFix),by rw[h.last];exact a.2⟩
section
variable {S S':St}{b:Nat}{x x':PS}{k:Nat×Nat}{P:Nat->Prop}{N:Nat->Nat}
theorem MX.out (h:MX S S')(ho:S.out b):S'.out b:=λe he hm=>by
 obtain⟨a,d,_,f⟩:=h e he;exact ho a d (f b hm)
theorem Fg:MX S (S.IE b k):=λe he=>by
 rcases bW he with ⟨d,_⟩|⟨f,_,xs,g,a⟩
 ·exact⟨e,d,rfl,λ_ h=>h⟩
 ·exact⟨(k,xs),g,f.symm,λc hc=>by rw[a] at hc;exact(l4.1 hc).1⟩
theorem pd (h:S'.wt=S.wt):MX S S':=λe he=>⟨e,by rw[<-h];exact he,rfl,λ_ h=>h⟩
theorem j3 (b:Nat)(f:Nat->Nat×Nat): ∀(a:List Nat)(S:St),MX S (S.I1 b f a)
 |[],S=>MX.refl S
 |n::a,S=>by
  show MX S ((if f n=(0,0) then S else S.shut b n).I1 b f a)
  split
  ·exact j3 b f a S
  ·refine MX.trans ?_ (j3 b f a _);unfold St.shut
   split
   ·exact(pd (S':=S.ID b _) rfl).trans (fG _ 16 _)
   ·exact MX.refl S
theorem q8 (id:Nat): ∀(bs:List Nat)(S:St),(S.IH id bs).wt=S.wt
 |[],S=>rfl
 |b::bs,S=>by
  unfold St.IH;rw[q8 id bs]
  split
  ·split<;>rfl
  ·rfl
theorem s9 (S:St)(c:Nat):(S.IJ c).wt=S.wt:=by
 unfold St.IJ
 split
 ·split
  ·split
   ·split
    ·show (S.take c _ _).wt=_;unfold St.take
     split<;>rfl
    ·rfl
   ·rfl
  ·rfl
 ·rfl
theorem mz: ∀(bs:List Nat)(S:St),(S.parents bs).wt=S.wt
 |[],_=>rfl
 |c::bs,S=>by
  show ((S.IJ c).parents bs).wt=_;rw[mz bs,s9]
theorem Ct (S:St)(b:Nat)(x:PS)(status:Int):MX S (S.fin b x status):=by
 unfold St.fin;refine MX.trans ?_ (pd (mz _ _));refine MX.trans ?_ (pd (q8 _ _ _));refine MX.trans ?_ (j3 b x.f _ _);exact Fg.trans (pd rfl)
theorem MI.IK (h:MI (λ_=>False) N S)(hb:(b,x)∈S.ps)(hs:x.st=1){c:Nat}(hc: ∀q∈S.ps,c≠q.1) (hN:N c=S.last+1) (m:Int):MI (λ_=>False) N (S.IK b x m c):=by
 have a:=h.out hb hs;have f:=(h.i.wf _ hb).r 0 bl;exact jy (MI (λ_=>False) N) (h.fin hb _) (λe=>h.Jt hb a hc e hN) (h.Jd hb a hs) (λq d _=>(h.fin (b:=q.1) (x:=q.2) (dK d).1 _).r0' (λz g=>(Ct S q.1 q.2 _).out a) bl) (h.I7 hb a) (h.Jo hb a hs) (h.r0 hb a bl) (h.I4 hb a) (h.IZ hb a) (h.Jf hb hs (.inl rfl) bl) (h.Jf hb hs (.inr rfl) bl) (h.r0 hb a bl) h
theorem uu {op a c d:Int}(hw:WF x)(hc:0<=c/\c<256)(hd:0<=d/\d<256)(h:x.do op a c d= .ok x'):x'.st=x.st/\x'.lv=x.lv/\x'.id=x.id/\x'.par=x.par/\x'.used=x.used/\x'.f=x.f/\WF x':=by
 have b: ∀v:Int,0<=v/\v<65536-> ∀i,WF {x with at_:=x.at_+1,r:=put x.r i v}:=λv C i=>⟨λj g=>by
  show 0<=put x.r i v j/\put x.r i v j<65536;unfold put;split
  ·exact C
  ·exact hw.r j g,hw.m⟩
 have k:(a%8).toNat<8:=bl
 have l:(c%8).toNat<8:=bl
 have D:=hw.r _ k;have B:=hw.r _ l;unfold PS.do at h
 simp only at h;by_cases y:op=1
 ·rw[if_pos y] at h;cases h;exact⟨rfl,rfl,rfl,rfl,rfl,rfl,b _ bl _⟩
 rw[if_neg y] at h;by_cases s:op=2
 ·rw[if_pos s] at h;cases h;exact⟨rfl,rfl,rfl,rfl,rfl,rfl,b _ B _⟩
 rw[if_neg s] at h;by_cases n:op=3
 ·rw[if_pos n] at h;cases h;exact⟨rfl,rfl,rfl,rfl,rfl,rfl,b _ bl _⟩
 rw[if_neg n] at h;by_cases o:op=4
 ·rw[if_pos o] at h;cases h;exact⟨rfl,rfl,rfl,rfl,rfl,rfl,b _ bl _⟩
 rw[if_neg o] at h;by_cases z:op=5
 ·rw[if_pos z] at h;cases h;exact⟨rfl,rfl,rfl,rfl,rfl,rfl,⟨hw.r,hw.m⟩⟩
 rw[if_neg z] at h;by_cases A:op=6
 ·rw[if_pos A] at h;cases h;exact⟨rfl,rfl,rfl,rfl,rfl,rfl,⟨hw.r,hw.m⟩⟩
 rw[if_neg A] at h;by_cases u:op=7
 ·rw[if_pos u] at h
  split at h
  ·rename_i e;have:=hw.m (x.r (c%8).toNat+d).toNat bl;cases h;exact⟨rfl,rfl,rfl,rfl,rfl,rfl,b _ bl _⟩
  ·cases h
 rw[if_neg u] at h;by_cases p:op=8
 ·rw[if_pos p] at h
  split at h
  ·rename_i e;cases h;refine⟨rfl,rfl,rfl,rfl,rfl,rfl,hw.r,λj g=> ?_⟩;show 0<=put x.m (x.r (c%8).toNat+d).toNat (x.r (a%8).toNat%256) j/\put x.m (x.r (c%8).toNat+d).toNat (x.r (a%8).toNat%256) j<256;unfold put;split
   ·omega
   ·exact hw.m j g
  ·cases h
 rw[if_neg p] at h;cases h
def Ms (S:St):Prop:=S.pn<=256/\ ∀i,i<S.pn-> ∀j,j<4->0<=S.pg i j/\S.pg i j<256
theorem MI.I2 (h:MI (λ_=>False) N S)(hp:Ms S)(hb:(b,x)∈S.ps)(hs:x.st=1){c:Nat}(hc: ∀q∈S.ps,c≠q.1) (hN:N c=S.last+1):MI (λ_=>False) N (S.I2 b x c):=by
 have e:=h.out hb hs;have k:MI (λ_=>False) N (S.ID b x.next):=h.Jq (x':=x.next) hb e rfl rfl ⟨(h.i.wf _ hb).r,(h.i.wf _ hb).m⟩ (h.i.fl (b,x) hb) rfl rfl (h.x.un (b,x) hb);have j:(b,x.next)∈(S.ID b x.next).ps:=ai hb;have g: ∀q∈(S.ID b x.next).ps,c≠q.1:=λq z=>by
  rcases aN z with rfl|⟨A,_⟩
  ·exact hc (b,x) hb
  ·exact hc q A
 have p:=k.IK j hs g hN (S.pg x.at_ 1);refine mw (MI (λ_=>False) N) (h.fin hb _) (λi n=> ?_) (λ_=>p) λs f B=> ?_
 ·obtain⟨a,_⟩:=nM n;rw[a];exact k.r0' (λ_ _=>e) (yU i)
 ·have d:=hp.2 _ f;obtain⟨D,C,l,E,u,o,y⟩:=uu (h.i.wf _ hb) (d 2 bl) (d 3 bl) B;exact h.Jq hb e D C y (by rw[o];exact h.i.fl (b,x) hb) l E (by rw[u];exact h.x.un (b,x) hb)
end
section
variable {S S':St}{b:Nat}{x x':PS}{P:Nat->Prop}{N:Nat->Nat}
theorem MI.IF: ∀(bs:List Nat){S:St},MI P N S->MI P N (S.IF bs)
 |[],_,h=>h
 |b::bs,S,h=>by
  unfold St.IF;refine MI.IF bs ?_;cases a:S.get b with
  |none=>exact h
  |some x=>
   simp only
   split
   ·rename_i d;have hb:=ba a;exact h.IV hb (h.i.JI hb bl bl bl) bl
   ·exact h
theorem fH (S:St): ∀n,(S.IG n).ps=S.ps/\(S.IG n).wt=S.wt/\(S.IG n).by_=S.by_/\(S.IG n).last=S.last/\(S.IG n).now=S.now
 |0=>⟨rfl,rfl,rfl,rfl,rfl⟩
 |n+1=>fH S n
theorem nR (S:St)(h: ∀l,3<=l->S.rows l=[]): ∀n,n<3-> ∀l,3<=l->(S.IG n).rows l=[]
 |0,_=>h
 |n+1,hn=>λl a=>by
  show put (put (S.IG n).rows 0 _) (n+1) [] l=[];rw[iH hn l a,iH bl l a];exact nR S h n bl l a
theorem b7 (x:PS):(KD x).st=x.st/\(KD x).id=x.id/\(KD x).par=x.par/\(KD x).r=x.r/\(KD x).m=x.m/\(KD x).f=x.f/\(KD x).used<=x.used:=by
 unfold KD
 split
 ·exact⟨rfl,rfl,rfl,rfl,rfl,rfl,hX _⟩
 ·exact⟨rfl,rfl,rfl,rfl,rfl,rfl,cD _⟩
theorem MI.raised (h:MI P N S):MI P N ((S.IU (S.ps.map (·.1))).IG 2):=by
 have G:=h.i.g.raise;have e:=nG h.i.g.pn;obtain⟨u,E,z,F,C⟩:=fH (S.IU (S.ps.map (·.1))) 2;rw[e] at u E z F C;rw[e] at G⊢;generalize I:(S.IP (S.ps.map λq=>(q.1,KD q.2))).IG 2=T at*;have cs: ∀q∈T.ps,∃r∈S.ps,q=(r.1,KD r.2):=λq b=>by
  rw[u] at b;obtain⟨r,d,e⟩:=cm.1 b;exact⟨r,d,e.symm⟩
 have to: ∀c y,(c,y)∈S.ps->(c,KD y)∈T.ps:=λc y j=>by rw[u];exact cm.2 ⟨(c,y),j,rfl⟩
 have w:T.wt=S.wt:=E;refine⟨{g:=G,wf:= ?_,fl:= ?_,y8:=by rw[z];exact h.i.y8,yb:=by rw[z];exact h.i.yb,kn:=by rw[w];exact h.i.kn,ne:=by rw[w];exact h.i.ne,nd:=by rw[w];exact h.i.nd,ke:=by rw[w];exact h.i.ke,rm:= ?_}, ?_,⟨?_, ?_, ?_, ?_, ?_, ?_, ?_⟩⟩
 ·intro q b;obtain⟨r,d,rfl⟩:=cs q b;obtain⟨_,_,_,k,K,_,_⟩:=b7 r.2;exact⟨by rw[k];exact(h.i.wf r d).r,by rw[K];exact(h.i.wf r d).m⟩
 ·intro q b;obtain⟨r,d,rfl⟩:=cs q b;obtain⟨_,_,_,_,_,o,_⟩:=b7 r.2;simp only;rw[o];exact h.i.fl r d
 ·intro e he c hc;rw[w] at he;obtain⟨y,j,l⟩:=h.i.rm e he c hc;obtain⟨M,_,_,k,_,o,_⟩:=b7 y;refine⟨KD y,to c y j, ?_,by rw[k];exact l.a,by rw[k];exact l.w,by rw[M];exact l.s⟩;have:=l.f;unfold PS.file at*;rw[k,o];exact this
 ·intro e he c hc y j n;rw[w] at he;obtain⟨r,d,H⟩:=cs _ j;have J:c=r.1:=congrArg Prod.fst H;have L:y=KD r.2:=congrArg Prod.snd H;rw[L,(b7 r.2).1] at n;exact h.c e he c hc r.2 (by rw[J];exact d) n
 ·intro q b;obtain⟨r,d,rfl⟩:=cs q b;rw[C];exact l6 (b7 r.2).2.2.2.2.2.2 (h.x.un r d)
 ·intro q b r d e;obtain⟨D,A,rfl⟩:=cs q b;obtain⟨B,p,rfl⟩:=cs r d;simp only at e;rw[(b7 D.2).2.1,(b7 B.2).2.1] at e;rw[h.x.idn D A B p e]
 ·intro q b;obtain⟨r,d,rfl⟩:=cs q b;simp only;rw[(b7 r.2).2.1,F];exact h.x.idr r d
 ·obtain⟨q,b,n⟩:=h.x.p1;exact⟨(q.1,KD q.2),to q.1 q.2 b,by simp only;rw[(b7 q.2).2.1];exact n⟩
 ·intro q b;obtain⟨r,d,rfl⟩:=cs q b;simp only;rw[(b7 r.2).2.1,(b7 r.2).2.2.1];exact h.x.p0 r d
 ·rw[<-I];exact nR _ h.x.r3 2 bl
 ·intro q b;obtain⟨r,d,rfl⟩:=cs q b;simp only;rw[(b7 r.2).2.1];exact h.x.nm r d
theorem MI.Jm (h:MI P N S):MI P N S.Jm:=by
 unfold St.Jm
 split
 ·exact h.raised
 ·exact h
theorem MI.lead (h:MI P N S):MI P N S.lead:=MI.Jm (MI.IF _ h)
def St.later (S:St):St:={S with now:=S.now+1}
theorem MI.later (h:MI P N S):MI P N S.later where
 i:=⟨⟨h.i.g.pn,h.i.g.p8,h.i.g.lv,h.i.g.rn,h.i.g.rm,h.i.g.rr⟩,h.i.wf,h.i.fl,h.i.y8,h.i.yb,h.i.kn,h.i.ne,h.i.nd,h.i.ke,h.i.rm⟩
 c:=h.c
 x:=⟨λq a=>Nat.le_succ_of_le (h.x.un q a),h.x.idn,h.x.idr,h.x.p1,h.x.p0,h.x.r3,h.x.nm⟩
theorem q9 (S:St)(b:Nat):(S.after b).later=S.later.after b:=by
 unfold St.after;have e:S.later.get b=S.get b:=rfl;rw[e];cases S.get b with
 |none=>rfl
 |some z=>
  simp only
  split
  ·show ((S.ID b z.more).JD b z.more).later=(S.later.ID b z.more).JD b z.more;unfold St.JD;have a:(S.later.ID b z.more).sl=(S.ID b z.more).sl:=rfl;rw[a]
   split<;>rfl
  ·rfl
theorem MI.after (h:MI (λ_=>False) N S)(b:Nat):MI (λ_=>False) N (S.after b).later:=by
 rw[q9];have a:=h.later;unfold St.after;cases n:S.later.get b with
 |none=>exact a
 |some z=>
  simp only;have hb:=ba n;have hu:z.more.used<=S.later.now:=Nat.succ_le_succ (h.x.un (b,z) hb);have f:S.later.out b\/False\/z.more.st≠1:=by
   by_cases e:z.st=1
   ·exact .inl (a.out hb e)
   ·exact .inr (.inr e)
  have k:MI (λ_=>False) N (S.later.ID b z.more):=⟨a.i.alike hb rfl rfl rfl rfl rfl,a.c.ID f,a.x.ID a.i.g.pn hb rfl fz hu⟩
  split
  ·rename_i j;have d:(b,z.more)∈(S.later.ID b z.more).ps:=ai hb;have l:(S.later.ID b z.more).out b:=a.out hb j;unfold St.JD
   split
   ·exact k
   ·exact k.move (x':={z.more with lv:=min (z.more.lv+1) 2,used:=0}) d l j j (by show min (z.lv+1) 2<3;omega) ⟨(a.i.wf _ hb).r,(a.i.wf _ hb).m⟩ (a.i.fl (b,z) hb) rfl rfl (hX _)
  ·exact k
structure TI (N:Nat->Nat)(S:St):Prop where
 m:MI (λ_=>False) N S
 p:Ms S
 bo:S.bo≠0
 ls:S.last<=S.now+1
theorem TI.Jj (h:TI N S):Ms S.lead:=by
 have a:=cj S;unfold Ms;rw[a.pn,a.pg];exact h.p
theorem dV (e:Good S)(hf:S.first=some b): ∃x,(b,x)∈S.ps/\x.st=1:=by
 unfold St.first at hf
 have hm:=List.mem_of_head? hf;rcases cE.1 hm with h|h
 ·obtain⟨y,a,_,d⟩:=e.rm 0 bl b h;exact⟨y,a,d⟩
 ·rcases cE.1 h with h|h
  ·obtain⟨y,a,_,d⟩:=e.rm 1 bl b h;exact⟨y,a,d⟩
  ·obtain⟨y,a,_,d⟩:=e.rm 2 bl b h;exact⟨y,a,d⟩
theorem dk (S:St):S.lead.last=S.last:=by
 have d: ∀(a:List Nat)(S:St),(S.IF a).last=S.last:=by
  intro a
  induction a with
  |nil=>intro S;rfl
  |cons b a ih=>
   intro S;unfold St.IF;rw[ih]
   split
   ·split<;>rfl
   ·rfl
 have e: ∀(a:List Nat)(S:St),(S.IU a).last=S.last:=by
  intro a
  induction a with
  |nil=>intro S;rfl
  |cons b a ih=>
   intro S;unfold St.IU;rw[ih]
   split
   ·split<;>rfl
   ·rfl
 unfold St.lead St.Jm
 split
 ·rw[(fH _ 2).2.2.2.1,e];exact d _ S
 ·exact d _ S
theorem TI.running (h:TI N S)(hn:S.now<2305843009213693952)(hf:S.lead.first=some b)(hb:(b,x)∈S.lead.ps):Kt S.lead b x:=by
 have a:=h.m.lead;obtain⟨y,f,e⟩:=dV a.i.g hf;obtain rfl:=aS a.i.g.pn hb f;have d:=cj S;exact⟨a.i,hb,e,a.out hb e,by rw[d.now];omega,by rw[dk];have:=h.ls;omega⟩
theorem TI.idle (h:TI N S):TI N S.lead.later:=by
 have a:=cj S;refine⟨h.m.lead.later,h.Jj,by show S.lead.bo≠0;rw[a.bo];exact h.bo, ?_⟩;show S.lead.last<=S.lead.now+1+1;rw[dk,a.now];have:=h.ls;omega
theorem TI.ran (h:TI N S)(hf:S.lead.first=some b)(hb:(b,x)∈S.lead.ps){c:Nat}(hc: ∀q∈S.lead.ps,c≠q.1) (hN:N c=S.last+1):TI N ((S.lead.I2 b x c).after b).later:=by
 have a:=cj S;have f:=h.m.lead;obtain⟨y,j,k⟩:=dV f.i.g hf;obtain rfl:=aS f.i.g.pn hb j;have e:=kY S.lead b x c;have d:=jx (S.lead.I2 b x c) b;refine⟨(f.I2 h.Jj hb k hc (by rw[dk];exact hN)).after b, ?_, ?_, ?_⟩
 ·show Ms ((S.lead.I2 b x c).after b);unfold Ms;rw[d.pn,d.pg,e.1.pn,e.1.pg];exact h.Jj
 ·show ((S.lead.I2 b x c).after b).bo≠0;rw[d.bo,e.1.bo,a.bo];exact h.bo
 ·show ((S.lead.I2 b x c).after b).last<=((S.lead.I2 b x c).after b).now+1+1;rw[d.last,d.now,e.1.now,a.now];have:=e.2;rw[dk] at this;have:=h.ls;omega
end
abbrev LI (ρ:Nat->Nat):Prop:= ∀a b,ρ a=ρ b->a=b
def LP (ρ:Nat->Nat)(l:Wt):Wt:=l.map λe=>(e.1,e.2.map ρ)
def St.map (ρ:Nat->Nat)(S:St):St:={S with ps:=S.ps.map λq=>(ρ q.1,q.2),rows:=λl=>(S.rows l).map ρ,wt:=LP ρ S.wt}
section
variable {ρ:Nat->Nat}{S S':St}{b:Nat}{x:PS}{k:Nat×Nat}
theorem kZ (ρ:Nat->Nat)(S:St):(S.map ρ).ps.map (·.1)=(S.ps.map (·.1)).map ρ:=by
 simp[St.map,kt,Function.comp]
theorem dL (h:LI ρ)(S:St)(b:Nat):(S.map ρ).get (ρ b)=S.get b:=by
 unfold St.get;show ((S.ps.map λq=>(ρ q.1,q.2)).find? λq=>q.1==ρ b).map (·.2)=_;rw[List.find?_map];have e:((λq:Nat×PS=>q.1==ρ b)∘λq:Nat×PS=>(ρ q.1,q.2))=λq=>q.1==b:=by
  funext q
  simp only[Function.comp];rw[OR];simp only[beq_iff_eq];exact⟨λe=>h _ _ e,λe=>by rw[e]⟩
 rw[e,Option.map_map];cases S.ps.find? λq=>q.1==b<;>rfl
theorem bF (h:LI ρ)(S:St)(b:Nat)(x:PS):(S.map ρ).ID (ρ b) x=(S.ID b x).map ρ:=by
 unfold St.ID St.map;simp only[kt];congr 1;apply k0;intro q _;simp only[Function.comp];by_cases e:q.1=b
 ·rw[if_pos e,if_pos (by rw[e])]
 ·rw[if_neg e,if_neg (λa=>e (h _ _ a))]
theorem cX (S:St)(l:Nat)(xs:List Nat):(S.map ρ).setRow l (xs.map ρ)=(S.setRow l xs).map ρ:=by
 unfold St.setRow St.map;congr 1
 funext j
 by_cases e:j=l
 ·simp[put,e]
 ·simp[put,e]
theorem zv (T:St)(l b:Nat):(T.map ρ).rows l++[ρ b]=(T.rows l++[b]).map ρ:=by
 rw[l3];rfl
theorem re (S:St)(i:Nat)(ys:List Int):(S.map ρ).IY i ys=(S.IY i ys).map ρ:=rfl
theorem gV (h:LI ρ): ∀(xs:List Nat)(b:Nat),(xs.map ρ).erase (ρ b)=(xs.erase b).map ρ
 |[],_=>rfl
 |a::xs,b=>by
  rw[ix,List.erase_cons,List.erase_cons];by_cases e:a=b
  ·subst e;simp
  ·have d: ¬ρ a=ρ b:=λd=>e (h _ _ d);simp only[beq_iff_eq,e,d,if_false,ix];rw[gV h xs b]
theorem gW (h:LI ρ)(S:St)(b:Nat)(x:PS):(S.map ρ).IV (ρ b) x=(S.IV b x).map ρ:=by
 unfold St.IV;rw[bF h,<-cX];congr 1;show (S.rows x.lv).map ρ++[ρ b]=_;simp
theorem gX (h:LI ρ)(S:St)(b:Nat)(x:PS)(s:Nat):(S.map ρ).IT (ρ b) x s=(S.IT b x s).map ρ:=by
 unfold St.IT;rw[bF h,<-cX];congr 1;exact gV h _ _
theorem rf (h:LI ρ)(b:Nat)(k:Nat×Nat)(l:Wt):KR (ρ b) k (LP ρ l)=LP ρ (KR b k l):=by
 have f: ∀xs:List Nat,(xs.map ρ).filter (λc=> !decide (c=ρ b))=(xs.filter λc=> !decide (c=b)).map ρ:=λxs=>by
  rw[List.filter_map];congr 1;apply List.filter_congr;intro c _;simp only[Function.comp];by_cases e:c=b
  ·simp[e]
  ·have a: ¬ρ c=ρ b:=λa=>e (h _ _ a);simp[e,a]
 unfold KR LP
 induction l with
 |nil=>rfl
 |cons e l ih=>
  rw[ix,O9,O9];simp only;by_cases d:e.1=k
  ·simp only[d,if_true,f,ia];by_cases h0:(e.2.filter λc=> !decide (c=b)).length=0
   ·simp only[h0,if_true];exact ih
   ·simp only[h0,if_false,ix];rw[ih]
  ·simp only[d,if_false,ix];rw[ih]
theorem iI (h:LI ρ)(S:St)(b:Nat)(k:Nat×Nat):(S.map ρ).IE (ρ b) k=(S.IE b k).map ρ:=by
 unfold St.IE;show (S.map ρ).I8 (KR (ρ b) k (LP ρ S.wt))=_;rw[rf h];rfl
theorem eV (S:St)(k:Nat×Nat):(S.map ρ).IM k=S.IM k:=by
 unfold St.IM;show (S.ps.map λq=>(ρ q.1,q.2)).any (λq=>q.2.has k)=_;rw[List.any_map];rfl
theorem Cu (S:St)(x:PS)(k:Nat×Nat):(S.map ρ).IL x k=S.IL x k:=by
 unfold St.IL;rw[eV];rfl
theorem rh (S:St)(x:PS)(k:Nat×Nat):(S.map ρ).carried x k=S.carried x k:=by
 unfold St.carried;rw[eV];rfl
theorem nS (h:LI ρ)(S:St)(b:Nat)(x:PS)(k:Nat×Nat):(S.map ρ).carry (ρ b) x k=(S.carry b x k).map ρ:=by
 unfold St.carry;rw[eV]
 split
 ·unfold St.JN;rw[bF h];rfl
 ·split
  ·unfold St.JO;show ((S.map ρ).IY k.1 _).ID (ρ b) x.JQ=_;rw[re,bF h];rfl
  ·exact bF h S b _
theorem nT (S:St)(k:Nat×Nat):(S.map ρ).rowAt k=(S.rowAt k).map ρ:=by
 unfold St.rowAt;show (((LP ρ S.wt).find? λe=>decide (e.1=k)).map (·.2)).getD []=_;unfold LP;rw[List.find?_map];have e:((λe:(Nat×Nat)×List Nat=>decide (e.1=k))∘λe:(Nat×Nat)×List Nat=>(e.1,e.2.map ρ))=λe=>decide (e.1=k):=rfl;rw[e];cases S.wt.find? λe=>decide (e.1=k)<;>rfl
theorem vP (h:LI ρ)(S:St)(k:Nat×Nat):(S.map ρ).serve k=(S.serve k).map (St.map ρ):=by
 unfold St.serve;rw[nT];cases S.rowAt k with
 |nil=>rfl
 |cons b l=>
  simp only[ix,dL h];cases S.get b with
  |none=>rfl
  |some x=>
   simp only[Cu]
   split
   ·simp only[qs];congr 1
    split
    ·rw[iI h,nS h]
    ·rw[iI h,nS h,rh,gW h]
   ·rfl
theorem j4 (h:LI ρ)(p:Nat): ∀(n:Nat)(S:St),St.looks n (S.map ρ) p=(St.looks n S p).map ρ
 |0,_=>rfl
 |n+1,S=>by
  simp only[St.looks,vP h];cases S.serve (p,5) with
  |some S'=>exact j4 h p n S'
  |none=>
   simp only[OM];cases S.serve (p,4) with
   |some S'=>exact j4 h p n S'
   |none=>rfl
theorem ri (h:LI ρ)(S:St)(p:Nat):(S.map ρ).look p=(S.look p).map ρ:=j4 h p 16 S
theorem rj (h:LI ρ)(S:St)(b n:Nat):(S.map ρ).shut (ρ b) n=(S.shut b n).map ρ:=by
 unfold St.shut;rw[dL h];cases S.get b with
 |none=>rfl
 |some x=>
  simp only;rw[bF h,ri h]
theorem j5 (h:LI ρ)(b:Nat)(f:Nat->Nat×Nat): ∀(a:List Nat)(S:St),(S.map ρ).I1 (ρ b) f a=(S.I1 b f a).map ρ
 |[],_=>rfl
 |n::a,S=>by
  show (if f n=(0,0) then S.map ρ else(S.map ρ).shut (ρ b) n).I1 (ρ b) f a=((if f n=(0,0) then S else S.shut b n).I1 b f a).map ρ
  split
  ·exact j5 h b f a S
  ·rw[rj h];exact j5 h b f a _
theorem gY (h:LI ρ)(id:Nat): ∀(bs:List Nat)(S:St),(S.map ρ).IH id (bs.map ρ)=(S.IH id bs).map ρ
 |[],_=>rfl
 |b::bs,S=>by
  simp only[ix,St.IH,dL h];cases S.get b with
  |none=>exact gY h id bs S
  |some y=>
   simp only
   split
   ·rw[bF h];exact gY h id bs _
   ·exact gY h id bs S
theorem kA (S:St)(x:PS):(S.map ρ).II x=S.II x:=by
 unfold St.II;show (S.ps.map λq=>(ρ q.1,q.2)).findIdx? _=_;rw[List.findIdx?_map];rfl
theorem rk (S:St)(i:Nat):(S.map ρ).ps[i]? =(S.ps[i]?).map λq=>(ρ q.1,q.2):=sE ..
theorem rq (h:LI ρ)(S:St)(b:Nat)(x:PS)(i:Nat):(S.map ρ).take (ρ b) x i=(S.take b x i).map ρ:=by
 unfold St.take;rw[rk];cases S.ps[i]? with
 |none=>rfl
 |some q=>
  simp only[qs];rw[<-bF h];congr 1;have e:(S.map ρ).ps.eraseIdx i=(S.ps.eraseIdx i).map λq=>(ρ q.1,q.2):=(jg _ _ _).symm;rw[e];rfl
theorem ru (h:LI ρ)(S:St)(b:Nat):(S.map ρ).IJ (ρ b)=(S.IJ b).map ρ:=by
 unfold St.IJ;rw[dL h];cases S.get b with
 |none=>rfl
 |some x=>
  simp only[kA]
  split
  ·cases S.II x with
   |none=>rfl
   |some i=>
    simp only[rk];cases S.ps[i]? with
    |none=>rfl
    |some q=>
     simp only[qs];rw[rq h,gW h]
  ·rfl
theorem kB (h:LI ρ): ∀(bs:List Nat)(S:St),(S.map ρ).parents (bs.map ρ)=(S.parents bs).map ρ
 |[],_=>rfl
 |b::bs,S=>by
  show ((S.map ρ).IJ (ρ b)).parents (bs.map ρ)=_;rw[ru h];exact kB h bs _
theorem pe (h:LI ρ)(S:St)(b:Nat)(x:PS)(status:Int):(S.map ρ).fin (ρ b) x status=(S.fin b x status).map ρ:=by
 unfold St.fin;simp only;rw[iI h,gX h,bF h,j5 h,kZ,gY h,kZ,kB h]
theorem jz (S:St)(id:Int):(S.map ρ).find id=(S.find id).map λq=>(ρ q.1,q.2):=by
 unfold St.find;show (S.ps.map λq=>(ρ q.1,q.2)).find? _=_;rw[List.find?_map];rfl
theorem tf (h:LI ρ)(S:St)(b:Nat)(v:Int):(S.map ρ).r0 (ρ b) v=(S.r0 b v).map ρ:=by
 unfold St.r0;rw[dL h];cases S.get b with
 |none=>rfl
 |some z=>exact bF h S b _
theorem pj (S:St)(x:PS):(S.map ρ).Ja x=S.Ja x:=by
 unfold St.Ja;show (S.ps.map λq=>(ρ q.1,q.2)).any _=_;rw[List.any_map];rfl
abbrev snd (ρ:Nat->Nat)(p:Option Nat×St):Option Nat×St:=(p.1,p.2.map ρ)
theorem nU (h:LI ρ)(S:St)(b:Nat)(x:PS):(S.map ρ).Jd (ρ b) x=snd ρ (S.Jd b x):=by
 unfold St.Jd;rw[pj,kA]
 split
 ·cases S.II x with
  |none=>simp only[snd];rw[gX h]
  |some i=>simp only[snd];rw[rq h]
 ·rfl
theorem tg (h:LI ρ)(S:St)(b:Nat)(x:PS):(S.map ρ).I7 (ρ b) x=(S.I7 b x).map ρ:=by
 unfold St.I7
 split
 ·exact bF h S b _
 ·show ((S.map ρ).ID (ρ b) _).IT (ρ b) _ 3=_;rw[bF h,gX h];rfl
theorem th (h:LI ρ)(S:St)(b:Nat)(x:PS):(S.map ρ).Jo (ρ b) x=(S.Jo b x).map ρ:=by
 unfold St.Jo;simp only;have a:((S.map ρ).ID (ρ b) (x.r0 0)).setRow x.lv (((S.map ρ).rows x.lv).erase (ρ b))=((S.ID b (x.r0 0)).setRow x.lv ((S.rows x.lv).erase b)).map ρ:=by
  rw[bF h,<-cX];congr 1;exact gV h _ _
 rw[a,zv,cX]
theorem tj (S:St):(S.map ρ).unused=S.unused:=by
 unfold St.unused;have e:(S.map ρ).I0=S.I0:=by
  funext p
  unfold St.I0;rw[eV,eV]
 rw[e]
theorem nV (h:LI ρ)(S:St)(b:Nat)(x:PS):(S.map ρ).I4 (ρ b) x=snd ρ (S.I4 b x):=by
 unfold St.I4;rw[tj]
 split
 ·rfl
 ·split
  ·simp only[snd];rw[re,bF h]
  ·rfl
theorem mA (h:LI ρ)(S:St)(b:Nat)(x:PS):(S.map ρ).IZ (ρ b) x=snd ρ (S.IZ b x):=by
 unfold St.IZ
 split
 ·rfl
 ·simp only[snd];rw[rj h,tf h]
theorem vQ (S:St)(b:Nat)(k:Nat×Nat):(S.map ρ).IN (ρ b) k=(S.IN b k).map ρ:=by
 unfold St.IN;show (S.map ρ).I8 (KT (ρ b) k (LP ρ S.wt))=_;have e:KT (ρ b) k (LP ρ S.wt)=LP ρ (KT b k S.wt):=by
  have g:(∀e∈LP ρ S.wt,e.1≠k)↔ ∀e∈S.wt,e.1≠k:=by
   unfold LP;constructor
   ·intro d e he;exact d (e.1,e.2.map ρ) (cm.2 ⟨e,he,rfl⟩)
   ·intro d e he;obtain⟨i,f,rfl⟩:=cm.1 he;exact d i f
  unfold KT;by_cases a: ∀e∈S.wt,e.1≠k
  ·rw[if_pos a,if_pos (g.2 a)];unfold LP;simp
  ·rw[if_neg a,if_neg (λh=>a (g.1 h))];unfold LP;rw[kt,kt];apply k0;intro e _;simp only[Function.comp]
   split<;>simp
 rw[e];rfl
theorem jA (h:LI ρ)(S:St)(b:Nat)(x:PS)(use a:Nat):(S.map ρ).Jf (ρ b) x use a=snd ρ (S.Jf b x use a):=by
 unfold St.Jf;cases x.IQ use a with
 |some i=>rfl
 |none=>
  simp only;rw[vQ,ri h,nT,dL h];have e:(ρ b∈(((S.IN b (x.file (x.r 0))).look (x.file (x.r 0)).1).rowAt (x.file (x.r 0))).map ρ)↔b∈((S.IN b (x.file (x.r 0))).look (x.file (x.r 0)).1).rowAt (x.file (x.r 0)):=by
   rw[cm];constructor
   ·rintro⟨c,hc,e⟩;have f:=h _ _ e;rw[f] at hc;exact hc
   ·intro hb;exact⟨b,hb,rfl⟩
  by_cases hb:b∈((S.IN b (x.file (x.r 0))).look (x.file (x.r 0)).1).rowAt (x.file (x.r 0))
  ·simp only[if_pos hb,if_pos (e.2 hb)];cases ((S.IN b (x.file (x.r 0))).look (x.file (x.r 0)).1).get b with
   |none=>rfl
   |some z=>simp only[snd];rw[gX h]
  ·simp only[if_neg hb,if_neg (λd=>hb (e.1 d))]
theorem vR (S:St)(c:Nat)(y:PS):(S.map ρ).taken (ρ c) y=(S.taken c y).map ρ:=by
 unfold St.taken;have e:(S.map ρ).ps++[(ρ c,{y with id:=(S.map ρ).last+1})]=(S.ps++[(c,{y with id:=S.last+1})]).map λ(q:Nat×PS)=>(ρ q.1,q.2):=by
  rw[l3];rfl
 rw[e];rfl
theorem vS (h:LI ρ)(S:St)(b:Nat)(x:PS)(c:Nat):(S.map ρ).Jt (ρ b) x (ρ c)=(S.Jt b x c).map ρ:=by
 unfold St.Jt St.Jw;rw[vR];show (((S.taken c (x.copy.r0 0)).map ρ).IV (ρ c) _).ID (ρ b) _=_;rw[gW h,bF h];rfl
theorem tk (S:St)(b:Nat)(x:PS)(m:Int):(S.map ρ).I9 (ρ b) x m=S.I9 b x m:=by
 unfold St.I9;rw[jz];cases S.find (x.r 0)<;>rfl
theorem tl (h:LI ρ)(S:St)(b:Nat)(x:PS)(m:Int):(S.map ρ).IW (ρ b) x m=S.IW b x m:=by
 unfold St.IW;rw[jz,nU h,nV h,mA h,jA h,jA h];have e:(S.map ρ).ps.length=S.ps.length:=by simp[St.map]
 rw[e];cases S.find (x.r 0)<;>rfl
theorem tn (h:LI ρ)(S:St)(b:Nat)(x:PS)(m:Int)(c:Nat):(S.map ρ).IK (ρ b) x m (ρ c)=(S.IK b x m c).map ρ:=by
 have e:(S.map ρ).ps.length=S.ps.length:=by simp[St.map]
 unfold St.IK;rw[jz,nU h,nV h,mA h,jA h,jA h,e,pe h,vS h,tg h,th h,bF h,bF h];by_cases k:m=0
 ·rw[if_pos k,if_pos k]
 rw[if_neg k,if_neg k];by_cases s:m=1
 ·rw[if_pos s,if_pos s];split<;>rfl
 rw[if_neg s,if_neg s];by_cases n:m=2
 ·rw[if_pos n,if_pos n]
 rw[if_neg n,if_neg n];by_cases j:m=3
 ·rw[if_pos j,if_pos j];cases S.find (x.r 0) with
  |none=>rfl
  |some q=>
   simp only[qs]
   split
   ·rfl
   ·rw[pe h,tf h]
 rw[if_neg j,if_neg j];by_cases i:m=4
 ·rw[if_pos i,if_pos i]
 rw[if_neg i,if_neg i];by_cases f:m=5
 ·rw[if_pos f,if_pos f]
 rw[if_neg f,if_neg f];by_cases l:m=6
 ·rw[if_pos l,if_pos l]
 rw[if_neg l,if_neg l];by_cases p:m=7
 ·rw[if_pos p,if_pos p]
 rw[if_neg p,if_neg p];by_cases o:m=8
 ·rw[if_pos o,if_pos o]
 rw[if_neg o,if_neg o];by_cases g:m=9
 ·rw[if_pos g,if_pos g]
 rw[if_neg g,if_neg g];by_cases a:m=10
 ·rw[if_pos a,if_pos a]
 rw[if_neg a,if_neg a];by_cases d:m=11
 ·rw[if_pos d,if_pos d]
 rw[if_neg d,if_neg d]
theorem zw (h:LI ρ)(S:St)(b:Nat)(x:PS):(S.map ρ).Jv (ρ b) x=S.Jv b x:=by
 unfold St.Jv;rw[bF h,tk];rfl
theorem zx (h:LI ρ)(S:St)(b:Nat)(x:PS)(c:Nat):(S.map ρ).I2 (ρ b) x (ρ c)=(S.I2 b x c).map ρ:=by
 unfold St.I2;rw[bF h,pe h]
 show (if S.pn<=x.at_ then _ else if S.pg x.at_ 0=9 then(match ((S.ID b x.next).map ρ).IW (ρ b) x.next (S.pg x.at_ 1) with
  |some i=>(((S.ID b x.next).map ρ).IK (ρ b) x.next (S.pg x.at_ 1) (ρ c)).r0 (ρ b) (KB i)
  |none=>((S.ID b x.next).map ρ).IK (ρ b) x.next (S.pg x.at_ 1) (ρ c)) else match S.doR x with
  | .ok x'=>(S.map ρ).ID (ρ b) x'
  | .error _=>(S.fin b x 65281).map ρ)=_
 rw[tl h,tn h]
 split
 ·rfl
 ·split
  ·cases (S.ID b x.next).IW b x.next (S.pg x.at_ 1) with
   |none=>rfl
   |some i=>simp only;rw[tf h]
  ·cases S.doR x with
   |ok x'=>exact bF h S b _
   |error e=>rfl
theorem zy (h:LI ρ)(S:St)(b:Nat)(x:PS):(S.map ρ).JD (ρ b) x=(S.JD b x).map ρ:=by
 unfold St.JD;show (if(x.used:Int)<S.sl x.lv then _ else _)=_
 split
 ·rfl
 ·simp only;have a:((S.map ρ).setRow x.lv (((S.map ρ).rows x.lv).erase (ρ b))).ID (ρ b) {x with lv:=min (x.lv+1) 2,used:=0}=((S.setRow x.lv ((S.rows x.lv).erase b)).ID b {x with lv:=min (x.lv+1) 2,used:=0}).map ρ:=by
   rw[<-bF h,<-cX];congr 2;exact gV h _ _
  rw[a,<-cX];congr 1;simp[St.map]
theorem vT (h:LI ρ)(S:St)(b:Nat):(S.map ρ).after (ρ b)=(S.after b).map ρ:=by
 unfold St.after;rw[dL h];cases S.get b with
 |none=>rfl
 |some z=>
  simp only;rw[bF h,zy h]
  split<;>rfl
theorem gZ (h:LI ρ): ∀(bs:List Nat)(S:St),(S.map ρ).IF (bs.map ρ)=(S.IF bs).map ρ
 |[],_=>rfl
 |b::bs,S=>by
  simp only[ix,St.IF,dL h];cases S.get b with
  |none=>exact gZ h bs S
  |some x=>
   simp only;by_cases e:x.st=3/\x.til=S.now
   ·rw[if_pos e,if_pos (show x.st=3/\x.til=(S.map ρ).now from e),gW h];exact gZ h bs _
   ·rw[if_neg e,if_neg (show¬(x.st=3/\x.til=(S.map ρ).now) from e)];exact gZ h bs S
theorem hY (h:LI ρ): ∀(bs:List Nat)(S:St),(S.map ρ).IU (bs.map ρ)=(S.IU bs).map ρ
 |[],_=>rfl
 |b::bs,S=>by
  simp only[ix,St.IU,dL h];cases S.get b with
  |none=>exact hY h bs S
  |some x=>
   simp only
   split
   ·rw[bF h];exact hY h bs _
   ·exact hY h bs S
theorem mB (S:St): ∀n,(S.map ρ).IG n=(S.IG n).map ρ
 |0=>rfl
 |n+1=>by
  show ((S.map ρ).IG n).JA (n+1)=((S.IG n).JA (n+1)).map ρ;rw[mB S n];unfold St.JA;have a:((S.IG n).map ρ).rows 0++((S.IG n).map ρ).rows (n+1)=((S.IG n).rows 0++(S.IG n).rows (n+1)).map ρ:=by simp[St.map]
  rw[a,cX,<-cX _ (n+1) []];rfl
theorem vU (h:LI ρ)(S:St):(S.map ρ).Jm=S.Jm.map ρ:=by
 unfold St.Jm;by_cases e:S.Jk
 ·rw[if_pos e,if_pos (show (S.map ρ).Jk from e),kZ,hY h,mB]
 ·rw[if_neg e,if_neg (show¬(S.map ρ).Jk from e)]
theorem ry (h:LI ρ)(S:St):(S.map ρ).lead=S.lead.map ρ:=by
 unfold St.lead St.Js;rw[kZ,gZ h,vU h]
theorem nW (S:St):(S.map ρ).first=S.first.map ρ:=by
 unfold St.first
 show ((S.rows 0).map ρ++((S.rows 1).map ρ++(S.rows 2).map ρ)).head? =_;rw[<-l3,<-l3,List.head?_map]
end
def St.Jh (S:St):List Value:=match S.lead.first with
 |none=>[LK S.lead.now 2 0 0]
 |some b=>match S.lead.get b with
  |some x=>LK S.lead.now 1 x.id x.at_::S.lead.Jv b x
  |none=>[]
def St.I5 (S:St)(c:Nat):St:=match S.lead.first with
 |none=>S.lead
 |some b=>match S.lead.get b with
  |some x=>(S.lead.I2 b x c).after b
  |none=>S.lead
def St.next (T:St):St:=(T.I5 (T.last+1)).later
def St.IX (T:St):Bool:=match T.find 1 with
 |some q=>decide (q.2.st=6)
 |none=>true
def St.evs:Nat->St->List Value
 |0,_=>[]
 |n+1,T=>if T.IX then [] else T.Jh++St.evs n T.next
def St.runs:Nat->St->St
 |0,T=>T
 |n+1,T=>if T.IX then T else St.runs n T.next
section
variable {ρ ρ' N:Nat->Nat}{S T:St}{b c:Nat}{x:PS}
theorem vV (b:Inv S)(r3: ∀l,3<=l->S.rows l=[]) (e: ∀q∈S.ps,ρ q.1=ρ' q.1):S.map ρ=S.map ρ':=by
 unfold St.map;have k:(S.ps.map λq=>(ρ q.1,q.2))=S.ps.map λq=>(ρ' q.1,q.2):=by
  apply k0;intro q j;rw[e q j]
 have f:(λl=>(S.rows l).map ρ)=λl=>(S.rows l).map ρ':=by
  funext l
  by_cases i:l<3
  ·apply k0;intro c hc;obtain⟨y,a,_⟩:=b.g.rm l i c hc;exact e _ a
  ·rw[r3 l bl];rfl
 have d:LP ρ S.wt=LP ρ' S.wt:=by
  unfold LP;apply k0;intro w hw;congr 1;apply k0;intro c hc;obtain⟨y,a,_⟩:=b.rm w hw c hc;exact e _ a
 rw[k,f,d]
def St.nm (S:St)(c:Nat)(b:Nat):Nat:=match S.get b with
 |some x=>x.id
 |none=>if b=c then S.last+1 else b+(S.last+2)
theorem DZ (hn:(S.ps.map (·.1)).Nodup): ∀q∈S.ps,S.nm c q.1=q.2.id:=λq a=>by
 unfold St.nm;rw[aY (b:=q.1) (x:=q.2) hn a]
theorem zz (hc: ∀q∈S.ps,c≠q.1):S.nm c c=S.last+1:=by
 unfold St.nm;rw[gD λq a=>ft (hc q a)];simp
theorem Fh (h:XI N S):LI (S.nm c):=by
 intro a d e;unfold St.nm at e;cases g:S.get a with
 |some x=>
  rw[g] at e;have j:=ba g;have i:=(h.idr _ j).2;simp only at i e;cases b:S.get d with
  |some y=>
   rw[b] at e;have f:=ba b;have:=h.idn _ j _ f e;exact congrArg Prod.fst this
  |none=>
   rw[b] at e;simp only at e
   split at e<;>omega
 |none=>
  rw[g] at e;simp only at e;cases b:S.get d with
  |some y=>
   rw[b] at e;have f:=ba b;have i:=(h.idr _ f).2;simp only at i e
   split at e<;>omega
  |none=>
   rw[b] at e;simp only at e
   split at e
   ·split at e
    ·omega
    ·omega
   ·split at e
    ·omega
    ·omega
theorem XI.rename (h:XI N S)(a: ∀q∈S.ps,ρ q.1=q.2.id):XI ρ S:=⟨h.un,h.idn,h.idr,h.p1,h.p0,h.r3,a⟩
theorem TI.rename (h:TI N S)(a: ∀q∈S.ps,ρ q.1=q.2.id):TI ρ S:=⟨⟨h.m.i,h.m.c,h.m.x.rename a⟩,h.p,h.bo,h.ls⟩
theorem vW (h:LI ρ)(S:St):(S.map ρ).Jh=S.Jh:=by
 unfold St.Jh;rw[ry h,nW];cases S.lead.first with
 |none=>rfl
 |some b=>
  simp only[qs,dL h];cases S.lead.get b with
  |none=>rfl
  |some x=>simp only;rw[zw h];rfl
theorem vX (h:LI ρ)(S:St)(c:Nat):(S.map ρ).I5 (ρ c)=(S.I5 c).map ρ:=by
 unfold St.I5;rw[ry h,nW];cases S.lead.first with
 |none=>rfl
 |some b=>
  simp only[qs,dL h];cases S.lead.get b with
  |none=>rfl
  |some x=>simp only;rw[zx h,vT h]
theorem mC (S:St):(S.map ρ).IX=S.IX:=by
 unfold St.IX;rw[jz];cases S.find 1<;>rfl
theorem mD (S:St):S.lead.ps.map (·.1)=S.ps.map (·.1):=by
 have d: ∀(a:List Nat)(S:St),(S.IF a).ps.map (·.1)=S.ps.map (·.1):=by
  intro a
  induction a with
  |nil=>intro S;rfl
  |cons b a ih=>
   intro S;unfold St.IF;rw[ih]
   split
   ·split
    ·exact aV S b _
    ·rfl
   ·rfl
 have e: ∀(a:List Nat)(S:St),(S.IU a).ps.map (·.1)=S.ps.map (·.1):=by
  intro a
  induction a with
  |nil=>intro S;rfl
  |cons b a ih=>
   intro S;unfold St.IU;rw[ih]
   split
   ·split
    ·exact aV S b _
    ·rfl
   ·rfl
 unfold St.lead St.Jm
 split
 ·rw[(fH _ 2).1,e];exact d _ S
 ·exact d _ S
theorem TI.tick (h:TI N S)(hc: ∀q∈S.lead.ps,c≠q.1) (hN:N c=S.last+1):TI N (S.I5 c).later:=by
 unfold St.I5;cases d:S.lead.first with
 |none=>exact h.idle
 |some b=>
  simp only;obtain⟨x,a,_⟩:=dV h.m.lead.i.g d;rw[aY h.m.lead.i.g.pn a];exact h.ran d a hc hN
structure Ab (S T:St):Prop where
 ex: ∃N,TI N S/\T=S.map N
theorem Ab.tick (h:Ab S T)(hc: ∀q∈S.lead.ps,c≠q.1):T.Jh=S.Jh/\T.IX=S.IX/\Ab (S.I5 c).later T.next:=by
 obtain⟨N,d,rfl⟩:=h.ex;have hcs: ∀q∈S.ps,c≠q.1:=λq j e=>by
  have:q.1∈S.lead.ps.map (·.1):=by rw[mD];exact cm.2 ⟨q,j,rfl⟩
  obtain⟨r,n,l⟩:=cm.1 this;exact hc r n (by rw[e,<-l])
 have f:=DZ (c:=c) d.m.i.g.pn;have k:=d.rename f;have b:=Fh (c:=c) d.m.x;have a:=zz hcs;have e:S.map N=S.map (S.nm c):=vV d.m.i d.m.x.r3 λq j=>by rw[f q j,d.m.x.nm q j]
 rw[e];refine⟨vW b S,mC S,⟨S.nm c,k.tick hc a, ?_⟩⟩;unfold St.next
 show ((S.map (S.nm c)).I5 (S.last+1)).later=_;rw[<-a,vX b];rfl
theorem Ab.self (h:TI N S):Ab S (S.map N):=⟨N,h,rfl⟩
theorem Ab.find1 (h:Ab S T): ∃b x,S.find 1=some (b,x)/\(T.IX=true↔x.st=6):=by
 obtain⟨N,d,rfl⟩:=h.ex;obtain⟨q,e,f⟩:=d.m.x.p1;cases a:S.find 1 with
 |none=>
  unfold St.find at a;have:=sS.1 a q e;simp at this;omega
 |some r=>
  refine⟨r.1,r.2,rfl, ?_⟩;rw[mC];unfold St.IX;rw[a];simp
end
theorem Fi: ∃n,∀{p:KC}{Sh:Loc->Prop}{E Dn:Nat}{PostB:World->Prop}{Aft:Goroutine->World->Prop}{W:World}{O:Nat}{G0:List (Nat×Obj)}{vs:List Value}(K:Nat)(A:Kq)(S:St)(N:Nat->Nat)(Fr L:Ka)(eb:Nat->Nat×Nat),(∀s,K7 (Kx prog p Sh E Dn PostB Aft W O G0 s))->Ke K A S Fr L->KZ eb Fr->TI N S->S.now<2305843009213693952->
 Kb (Kx prog p Sh E Dn PostB Aft W O G0) prog false 63 [ptr K, .chan (some E)].toArray n (S.Jh++vs) L (λs' v L'=>vs=s'/\v= .tuple #[]/\ ∃u c,(∀q∈S.lead.ps,c≠q.1)/\Ke K u (S.I5 c) Fr L'):=by
 obtain⟨R,g0⟩:=Fe;obtain⟨P,U⟩:=Ff;refine⟨R+P,λ{p Sh E Dn PostB Aft W O G0 vs} K A S N Fr L eb H I G a Q=>aG (S.lead.first=none) (λl=> ?_) λl=> ?_⟩
 ·have F:S.Jh=[LK S.lead.now 2 0 0]:=by unfold St.Jh;rw[l]
  have o: ∀c,S.I5 c=S.lead:=λc=>by unfold St.I5;rw[l]
  rw[F];refine aJ (g0 K A S Fr L eb H I G a.m.i a.bo l) λs' v L' ⟨D,C,u,d⟩=>⟨D,C,u,K,λq B=> ?_,by rw[o];exact d⟩;exact d.fn.ne d.k (d.p q B) (aB bx)
 ·obtain⟨b,hb⟩: ∃b,S.lead.first=some b:=by
   cases h:S.lead.first with
   |none=>exact absurd h l
   |some b=>exact⟨b,rfl⟩
  obtain⟨x,y,M⟩:=dV a.m.lead.i.g hb;have F:S.Jh=LK S.lead.now 1 x.id x.at_::S.lead.Jv b x:=by unfold St.Jh;rw[hb];simp only[aY a.m.lead.i.g.pn y]
  have o: ∀c,S.I5 c=(S.lead.I2 b x c).after b:=λc=>by unfold St.I5;rw[hb];simp only[aY a.m.lead.i.g.pn y]
  rw[F];have j: ∀c,(∀q∈S.lead.ps,c≠q.1)->Inv (S.lead.I2 b x c)/\ ∀z,(b,z)∈(S.lead.I2 b x c).ps->z.used<4611686018427387904:=λc hc=>by
   have hcs: ∀q∈S.ps,c≠q.1:=λq B e=>by
    have:q.1∈S.lead.ps.map (·.1):=by rw[mD];exact cm.2 ⟨q,B,rfl⟩
    obtain⟨r,T,o⟩:=cm.1 this;exact hc r T (by rw[e,<-o])
   have f:=a.rename (DZ (c:=c) a.m.i.g.pn);have hm:=f.m.lead.I2 f.Jj y M hc (by rw[dk];exact zz hcs);refine⟨hm.i,λz J=> ?_⟩;have:=hm.x.un _ J;rw[(kY S.lead b x c).1.now,(cj S).now] at this;simp only at this;omega
  exact aJ (U K A S Fr L eb b x H I G a.m.i a.bo hb (a.running Q hb y) a.p.1 a.p.2 j) λs' v L' ⟨D,C,u,c,d,V⟩=>⟨D,C,u,c,d,by rw[o];exact V⟩
theorem zA (k:KS)(v:Nat):(Ks k).setIfInBounds 16 (.int .i64 (v:Nat))=Ks {k with now:=(v:Nat)}:=rfl
theorem Fj: ∃n,∀{p:KC}{Sh:Loc->Prop}{E Dn:Nat}{PostB:World->Prop}{Aft:Goroutine->World->Prop}{W:World}{O:Nat}{G0:List (Nat×Obj)}{vs:List Value}(K:Nat)(A:Kq)(S T:St)(Fr L:Ka)(eb:Nat->Nat×Nat)(m:Nat),(∀s,K7 (Kx prog p Sh E Dn PostB Aft W O G0 s))->Ke K A S Fr L->KZ eb Fr->Ab S T->m<=2000->S.now<1152921504606846976->
 Kb (Kx prog p Sh E Dn PostB Aft W O G0) prog false 33 [ptr K, .int .i64 (m:Nat), .chan (some E)].toArray n (St.evs m T++vs) L (λs' v L'=>vs=s'/\v= .tuple #[]/\ ∃l S',Ab S' (St.runs m T)/\Ke K l S' Fr L'):=by
 obtain⟨n0,g0⟩:=EJ;obtain⟨n1,g1⟩:=Fi;constructor;intro p Sh E Dn PostB Aft W O G0 vs K A S T Fr L eb m hN hR hE hA hm a';co_applyP ar 22 func33 ntmps33;co_applyP(au);co_applyP aU (λc s' z L'=> ∃(i:Nat) (l:Kq) (S' b:St),i<=m/\c+i=2000/\s'=St.evs (m-i) b++vs/\Ab S' b/\St.runs (m-i) b=St.runs m T/\S'.now<=S.now+i/\Ke K l S' Fr L'/\kn z [(0,ptr K),(2, .chan (some E)),(6, .int .i64 (m:Nat)),(7, .int .i64 (i:Nat))]) 2000
 ·exact⟨0,A,S,T,bl,rfl,rfl,hA,rfl,cD _,hR,rfl⟩
 rintro c s' z L' ⟨i,l,S',b,hi,hc,rfl,f,a,c',d,he⟩;co_applyP aA he;have ei:IntKind.i64.wrap ((i:Int)+1)=((i+1:Nat):Int):=by simp[IntKind.wrap_i64];omega
 obtain⟨b1,H,G,D⟩:=f.find1;co_applyP cr (b.IX=true);intro o
 ·skip
  co_applyP(ax);co_applyP aK;co_applyP aI rfl;intro e
  ·have C:i<m:=by simp at e;omega
   obtain⟨j,F⟩: ∃j,m-i=j+1:=⟨m-i-1,bl⟩;have P:((H.st:Int)==6)=true:=by simp;have:=D.1 o;omega
   have M:St.evs (m-i) b=[]:=by rw[F];unfold St.evs;rw[if_pos o]
   have Y:St.runs (m-i) b=b:=by rw[F];unfold St.runs;rw[if_pos o]
   rw[M];co_applyP(zo);co_applyP aK (n₂:=0);co_applyP(zo);co_applyP aK (n₂:=0);co_applyP(ay);co_applyP oc rfl rfl rfl (g0 K l S' Fr L' b1 H d G);rintro _ _ _ ⟨rfl,rfl,rfl⟩;co_applyP(zo);change Kw ..;rw[P];co_applyP(ay);exact xI _ ⟨rfl,rfl,rfl,l,S',by rw[<-a,Y];exact f,d⟩
  intro e;co_applyP(zo);change∃v,Ko .. =some v/\_;have x:i=m:=by simp at e;omega
  subst x;simp only[Nat.sub_self] at a⊢;exact⟨_,rfl,rfl,rfl,l,S',by rw[<-a];exact f,d⟩
 intro o;co_applyP(ax);co_applyP aK;co_applyP aI rfl;intro e
 ·have C:i<m:=by simp at e;omega
  obtain⟨j,F⟩: ∃j,m-i=j+1:=⟨m-i-1,bl⟩;have P:((H.st:Int)==6)=false:=by simp;intro h;exact o (D.2 bl)
  obtain⟨N,V,b'⟩:=f.ex;have X:b.Jh=S'.Jh:=(f.tick (c:=K) (λq hq=>by
   have h1:q.1∈S'.ps.map (·.1):=by rw[<-mD];exact cm.2 ⟨q,hq,rfl⟩
   obtain⟨r,hr,e2⟩:=cm.1 h1;rw[<-e2];exact d.fn.ne d.k (d.p r hr) (aB bx))).1
  have J:St.evs (m-i) b=S'.Jh++St.evs (m-(i+1)) b.next:=by
   rw[F];show (if b.IX then [] else b.Jh++St.evs j b.next)=_;rw[if_neg o,X,show m-(i+1)=j by omega]
  have R:St.runs (m-i) b=St.runs (m-(i+1)) b.next:=by
   rw[F];show (if b.IX then b else St.runs j b.next)=_;rw[if_neg o,show m-(i+1)=j by omega]
  rw[J,r5];co_applyP(aC);co_applyP oc rfl rfl rfl (g0 K l S' Fr L' b1 H d G);rintro _ _ _ ⟨rfl,rfl,rfl⟩;co_applyP(zo);change Kw ..;rw[P];co_applyP(au);co_applyP oc rfl rfl rfl (g1 K l S' N Fr L' eb hN d hE V bl);rintro _ _ _ ⟨rfl,rfl,Z,y,U,u⟩;rename_i L2;have I:=(f.tick U).2.2;have g:(S'.I5 y).now=S'.now:=by
   unfold St.I5
   split
   ·exact(cj S').now
   ·split
    ·rename_i bb _ xx _;rw[(jx _ _).now,(kY _ _ _ _).1.now];exact(cj S').now
    ·exact(cj S').now
  have d':At L2 K 16 (.int .i64 ((S'.I5 y).now:Nat)):=u.kat rfl;have wn:IntKind.i64.wrap (((S'.I5 y).now:Int)+1)=(((S'.I5 y).now+1:Nat):Int):=by rw[g];simp[IntKind.wrap_i64];omega
  co_applyP(bm);rw[wn];co_applyP osm rfl (hs:=bJ) (hm:=u.k) (hi:=by first|decide|(rw[bq];omega)|(rw[bP];omega));intro L3 B;rw[zA] at B;have Q:Ke K Z (S'.I5 y).later Fr L3:=u.JM rfl rfl rfl rfl rfl rfl B;co_applyP(au);change∃k',k'<_/\_;refine⟨c-1,bl,i+1,Z,_,b.next,bl,bl,rfl,I,by rw[<-R];exact a, ?_,Q,by rw[<-ei];rfl⟩;show (S'.I5 y).now+1<=_;rw[g];omega
 intro e;co_applyP(zo);change∃v,Ko .. =some v/\_;have x:i=m:=by simp at e;omega
 subst x;simp only[Nat.sub_self] at a⊢;exact⟨_,rfl,rfl,rfl,l,S',by rw[<-a];exact f,d⟩
end Go.Proofs.YtejkelcaljmnoaaGreatDoor
namespace Go.Proofs.YtejkelcaljmnoaaGreatDoor
open Go.Conc Go.RowKit Go.Hx Go.Lo Go.ConcX Go.Conc.Lib Go.ConcX.Gen Tryz
def call31 (Wg db kb tb eb:Nat):Deferred:={target:= .fn (.func 31) #[.pointer (some ⟨Wg,0,none⟩), .pointer (some ⟨db,0,none⟩), .pointer (some ⟨kb,0,none⟩), .pointer (some ⟨tb,0,none⟩), .pointer (some ⟨eb,0,none⟩)],args:= #[]}
noncomputable def bot:Frame:={(default:Frame) with fn:=prog.funcs.size,defers:=[],mode:= .panicking [goexitEntry]}
theorem vY (Wg db kb a eb:Nat)(w:World): ∃c,Tryz.f31.body=some c/\stepG prog false (born prog (call31 Wg db kb a eb)) w=
 .go (G ((baseD 31).at ⟨#[.pointer (some ⟨Wg,0,none⟩), .pointer (some ⟨db,0,none⟩), .pointer (some ⟨kb,0,none⟩), .pointer (some ⟨a,0,none⟩), .pointer (some ⟨eb,0,none⟩),undef,undef,undef,undef,undef],[]⟩ [.code c]) [bot]) w #[]:=by
 refine⟨_,rfl, ?_⟩;simp[born,call31,stepG,unwind,callDeferred,invoke,callFunc,func31,Tryz.f31,seen,GStep.after,G,Frame.enter,Frame.at,baseD,bot]
theorem vZ (T:Array Value):QuitsD prog 2 0 (G {(baseD 31).at ⟨T,[]⟩ [] with mode:= .returning} [bot]):=by
 refine QuitsD.ctl (g':=G bot []) rfl (λw=> ?_) ?_
 ·simp[G,stepG,unwind,doReturn,results,Frame.at,baseD,bot,func31,Tryz.f31,seen,GStep.after,goexitEntry]
 refine QuitsD.ctl (g':={G bot [] with status:= .finished}) rfl (λw=> ?_) ⟨rfl,rfl⟩;simp[G,stepG,unwind,bot,goexitEntry,Frame.catches];rfl
section
variable {p:KC}{Sh:Loc->Prop}{E Dn:Nat}{Wg C Low kb db eb K O:Nat}{W:World}{ticks:Int}{Mine:Loc->Prop} [Shy Wg C]{L:Ka}{QL:Ka->Prop}
abbrev GW (Wg:Nat):List (Nat×Obj):=[(Wg, .cells #[.int .u64 KK, .int .u32 0] 87)]
def NF (p:KC)(Sh:Loc->Prop)(E Dn:Nat)(W:World)(O:Nat)(Wg C:Nat)(QL:Ka->Prop)(w:World):Prop:=
 ∃L,Lw p Sh E Dn W O L w/\(∀t∈L,t.1≠C/\t.1≠Wg)/\QL L
theorem Fl (hW:Wg<Low)(hC:C<Low)(hCW:C≠Wg)(T:Array Value)(w:World)(h1:WgAt 87 Wg w KK 0)(h2:Full C [.int .i64 ticks] w):
 Lt prog 87 Wg C Low [.int .i64 ticks] Mine (G {(baseD 31).at ⟨T,[dcall 32 #[.pointer (some ⟨Wg,0,none⟩)]]⟩ [] with mode:= .returning} [bot]) w:=by
 refine⟨h1,24,Goes.step rfl λd a=> ?_⟩;rw[stepG_unwind_enter rfl func32 (nm_done Tryz.link) rfl];refine⟨dcs_none bE, ?_⟩
 walk_nrmf Tryz.f32
 have b:= @doneD _ Tryz.link prog Tryz.J0 Mine Wg C Low _ [.int .i64 ticks] hW hC hCW;simp only[body_done,doneFn,OZ] at b;exact b rfl (vZ _) _ ⟨a.k (.inl h1),h2.of_block (a.low C hC hCW)⟩
omit [Shy Wg C] in
theorem jB {G:List (Nat×Obj)}{w:World}(a:(LO p Sh E Dn W O G).Own L w){t:Nat}{fl:Bool}{cs:Array Value}{ty:TypeId}(hm:(t,fl,Obj.cells cs ty)∈L):(∀{i:Nat}{v:Value},cs[i]? =some v->w.cell? ⟨t,i,none⟩=some v)/\ ∀i,EvB p Sh w ⟨.cell ⟨t,i,none⟩,false,false⟩:=by
 have h:=(LO p Sh E Dn W O G).has a hm;exact⟨λb=>by simp[World.cell?,h,b],(LO p Sh E Dn W O G).evc a hm⟩
theorem tq (hW:Wg<Low)(A:C<Low)(hCW:C≠Wg)(D:Wg≠Dn)(B:C≠Dn)(h0:(kb,false,Obj.cells #[.pointer (some ⟨K,0,none⟩)] 35)∈L)(h1:(C,false,Obj.cells #[.int .i64 ticks] 3)∈L)(h2:(eb,false,Obj.cells #[.chan (some E)] 76)∈L)(N:(db,false,Obj.cells #[.chan (some Dn)] 77)∈L)
 (k:Nat) (es:List Value) (r: ∀w,(LO p Sh E Dn W O (GW Wg)).Own L w->Ld (M9 prog p Sh E Dn (NF p Sh E Dn W O Wg C QL) (Lt prog 87 Wg C Low [.int .i64 ticks] Mine)) prog false 33 #[.pointer (some ⟨K,0,none⟩), .int .i64 ticks, .chan (some E)] k es w λs' _ w'=>s'=[]/\ ∃L',(LO p Sh E Dn W O (GW Wg)).Own L' w'/\(C,false,Obj.cells #[.int .i64 ticks] 3)∈L'/\QL (L'.filter λt=> !decide (t.1=C)))
 (w:World) (d:(LO p Sh E Dn W O (GW Wg)).Own L w):LS prog p Sh E Dn (NF p Sh E Dn W O Wg C QL) (Lt prog 87 Wg C Low [.int .i64 ticks] Mine) es (born prog (call31 Wg db kb C eb)) w:=by
 rw[fq];co_apply Exists.intro;co_apply Goes.step rfl;intro j a;replace d:=(LO p Sh E Dn W O (GW Wg)).rely d a;clear a;obtain⟨c,hc,hb⟩:=vY Wg db kb C eb j;rw[hb];refine⟨(eL p Sh E Dn).idle _, ?_⟩;simp only[Tryz.f31,Option.some.injEq] at hc;subst hc;clear hb;co_apply bN (eL p Sh E Dn) rfl (λ_=>stepG_seq);co_apply bN (eL p Sh E Dn) rfl (λ_=>stepG_region);simp only[l7,gf,km,Nat.reduceAdd,ic,List.range,List.range.loop];co_apply bN (eL p Sh E Dn) rfl (λ_=>stepG_defer rfl rfl bx rfl)
 walk_nrm
 co_apply bN (eL p Sh E Dn) rfl (λ_=>stepG_region_end);co_apply bN (eL p Sh E Dn) rfl (λ_=>stepG_seq);co_apply bN (eL p Sh E Dn) rfl (λ_=>stepG_region);simp only[l7,gf,km,Nat.reduceAdd,ic,List.range,List.range.loop];co_apply Goes.step rfl;intro j a;replace d:=(LO p Sh E Dn W O (GW Wg)).rely d a;clear a;refine goes_oper_k rfl rfl bx (λK g=> ?_);have f:=jB d N;have hc:=f.1 (i:=0) rfl;go_simp;refine g _ _ ⟨?_, ?_⟩
 ·refine kL ?_
  co_evs (exact f.2 _)
 clear g K hc f
 try walk_nrm
 co_apply bN (eL p Sh E Dn) rfl (λ_=>jU rfl rfl bx rfl rfl)
 try walk_nrm
 co_apply bN (eL p Sh E Dn) rfl (λ_=>stepG_region_end);co_apply ln (F:=M9 prog p Sh E Dn (NF p Sh E Dn W O Wg C QL) (Lt prog 87 Wg C Low [.int .i64 ticks] Mine)) (s:=es) (Q:=λs' e H w'=>e= .normal/\s'=[]/\(∃T,H=⟨T,[LH #[77] 0 Dn,dcall 32 #[.pointer (some ⟨Wg,0,none⟩)]]⟩)/\ ∃L',(LO p Sh E Dn W O (GW Wg)).Own L' w'/\(C,false,Obj.cells #[.int .i64 ticks] 3)∈L'/\QL (L'.filter λt=> !decide (t.1=C))) (b:=baseD 31) (k:=[]) (cs:=[bot]) (fn:=31) ?_ rfl bx ?_
 ·have m:=d;clear d;co_apply bt;simp only[l7,gf,km,Nat.reduceAdd,ic,List.range,List.range.loop];co_apply aD rfl (by rfl);intro _ o K g;replace m:=(LO p Sh E Dn W O (GW Wg)).rely m o;clear o
  (have f:=jB m h0;have hc:=f.1 (i:=0) rfl)
  go_simp
  try (unfold stored;go_simp)
  refine g _ _ ⟨?_, ?_⟩
  ·(refine kL ?_;co_evs (exact f.2 _))
  clear g K
  try walk_nrm
  clear hc f;co_apply aD rfl (by rfl);intro _ o K g;replace m:=(LO p Sh E Dn W O (GW Wg)).rely m o;clear o
  (have f:=jB m h1;have hc:=f.1 (i:=0) rfl)
  go_simp
  try (unfold stored;go_simp)
  refine g _ _ ⟨?_, ?_⟩
  ·(refine kL ?_;co_evs (exact f.2 _))
  clear g K
  try walk_nrm
  clear hc f;co_apply aD rfl (by rfl);intro _ o K g;replace m:=(LO p Sh E Dn W O (GW Wg)).rely m o;clear o
  (have f:=jB m h2;have hc:=f.1 (i:=0) rfl)
  go_simp
  try (unfold stored;go_simp)
  refine g _ _ ⟨?_, ?_⟩
  ·(refine kL ?_;co_evs (exact f.2 _))
  clear g K
  try walk_nrm
  clear hc f;co_apply gP rfl (by rfl) rfl
  ·walk_nrm
   exact r _ m
  intro s' v w' J;obtain⟨rfl,d⟩:=J
  walk_nrm
  co_apply bG;exact⟨rfl,rfl,⟨_,rfl⟩,d⟩
 ·rintro s' e H w' ⟨rfl,rfl,⟨T,rfl⟩,L',d,x,I⟩;show Goes prog false (RB p E Dn) (DT p Sh E Dn) (Ni prog Dn (NF p Sh E Dn W O Wg C QL) (Lt prog 87 Wg C Low [.int .i64 ticks] Mine)) _ (G ((baseD 31).at ⟨T,[LH #[77] 0 Dn,dcall 32 #[.pointer (some ⟨Wg,0,none⟩)]]⟩ []) [bot]) w';co_apply bN (n:=0) (eL p Sh E Dn) rfl (λ_=>stepG_end);refine Goes.stop λj a=> ?_;replace d:=(LO p Sh E Dn W O (GW Wg)).rely d a;have y:=d.2.h (Wg,_) (eT);have z:=(LO p Sh E Dn W O (GW Wg)).has d x;refine⟨rfl,rfl,⟨L'.filter λt=> !decide (t.1=C),(Lx p Sh E Dn W O).sub d.1 (λt u=>(l4.1 u).1) ?_,λt u=>⟨by simpa using (l4.1 u).2,d.2.l (Wg,_) (eT) t (l4.1 u).1⟩,I⟩,_,rfl,λM=>iP rfl M bD, ?_⟩
  ·exact((Lx p Sh E Dn W O).nd d.1).sublist (List.Sublist.map _ List.filter_sublist)
  refine Fl hW A hCW T _ ?_ ?_
  ·unfold WgAt;rw[cB D];exact y
  ·intro _;rw[cB B];exact z
end
end Go.Proofs.YtejkelcaljmnoaaGreatDoor
namespace Go.Proofs.YtejkelcaljmnoaaGreatDoor
open Go.Conc Go.RowKit Go.Hx Go.ConcX Go.Conc.Lib Go.ConcX.Gen Tryz
theorem d0Z {w a:World}{P:Program}{Fin:Value->World->Prop}{s:Nat×List Nat}{es:Array Event}(h: ∀e∈es,Nu (K9 s.2) e):(FZ P Fin).D s w a es:=h
theorem Hp (w:World):(Instr.makeChan 76 (.int .i64 0)).run prog w= .ok (.chan (some w.heap.size)) (w.alloc (.chan 0 #[] false 0 0 false))/\ ∀es,(Instr.makeChan 76 (.int .i64 0)).events prog w es=es:=by
 obtain⟨i,z,b,_,_,a,_⟩:=xa;exact⟨by simpa using run_makeChan (P:=prog) (w:=w) underlying76 b .i64 0 bl (by rw[a];omega),λes=>by simpa using events_makeChan (P:=prog) (w:=w) underlying76 b .i64 0 bl (by rw[a];omega) es⟩
theorem Hq (w:World):(Instr.makeChan 77 (.int .i64 0)).run prog w= .ok (.chan (some w.heap.size)) (w.alloc (.chan 0 #[] false 0 0 false))/\ ∀es,(Instr.makeChan 77 (.int .i64 0)).events prog w es=es:=by
 have h:(prog.info? 78).map (·.bytes)=some 0:=bD
 obtain⟨i,b,a⟩:=pA.1 h;exact⟨by simpa using run_makeChan (P:=prog) (w:=w) underlying77 b .i64 0 bl (by rw[a];omega),λes=>by simpa using events_makeChan (P:=prog) (w:=w) underlying77 b .i64 0 bl (by rw[a];omega) es⟩
def RanZ (PostB:World->Prop)(N:Nat)(told:Value)(ws:List Wd)(w:World):Prop:=PostB w/\Hx.Told (pZ N) told ws.length (ws.flatMap Wd.c) w
theorem Hr: ∃k,∀{Fin:Value->World->Prop}(z:Nat)(s:List Nat)(K:Nat)(ticks:Int)(ht:0<=ticks/\ticks<=2000)(ws:List Wd)(y:ws.length<10000)(W:World)(hE:Li (K9 s) W.heap.size)(PostB:World->Prop)
 (A: ∀w l,RB (pZ W.heap.size) (W.heap.size+2) (W.heap.size+4) w l->PostB w->PostB l) (o: ∀w l,Aside2 (W.heap.size+1) (W.heap.size+6) w l->PostB w->PostB l) (B: ∀w,PostB w->W.heap.size+7<=w.heap.size)
 (H: ∀[Shy (W.heap.size+6) (W.heap.size+1)](w':World),New W (NZ W.heap.size K ticks KK) w'->LS prog (pZ W.heap.size) (ShR (K9 s) W.heap.size) (W.heap.size+2) (W.heap.size+4) PostB (Lt prog 87 (W.heap.size+6) (W.heap.size+1) (W.heap.size+7) [.int .i64 ticks] K3) (ws.map Wd.v) (born prog (started W.heap.size)) w'),
 Ld (FZ prog Fin) prog true 19 #[.pointer (some ⟨K,0,none⟩), .int .i64 ticks] k (z+1,s) W λs' v w'=>s'=(z,W.heap.size::s)/\ ∃told,v= .tuple #[told, .int .i64 0]/\RanZ PostB W.heap.size told ws w':=by
 co_apply Exists.intro;intro Fin z s K ticks ht ws y W hE PostB A o B H;have a:New W [] W:=New.refl W;have G:=λw=>(Hp w).1;have d76:=λw=>(Hp w).2;have E:=λw=>(Hq w).1;have d77:=λw=>(Hq w).2;have J: ¬ticks<0:=bl
 have L: ¬2000<ticks:=bl
 have M: ¬ticks>2000:=bl
 co_apply fj func19 (by rfl) rfl;simp only[ntmps19,l7,gf,km,Nat.reduceAdd,Nat.reduceSub,Array.replicate_succ,Array.replicate_zero,List.push_toArray,List.append_toArray,u6,sc];co_apply cn;co_apply bt;simp only[l7,gf,km,Nat.reduceAdd,ic,List.range,List.range.loop];co_apply aD rfl (by rfl);intro _ g K f;replace a:=(New.rely) a g;clear g;have n:=a.size;go_simp
 try (unfold stored;go_simp)
 refine f _ _ ⟨?_, ?_⟩
 ·(refine d0Z ?_;intro e he;have hm:=mem_listed he;simp[go_sem, *] at hm)
 clear f K
 try walk_nrm
 replace a:=a.alloc (.cells #[.pointer (some ⟨K,0,none⟩)] 35)
 try simp only[gf,km,Nat.reduceAdd,K2,ic] at n
 try simp only[u6,sc] at a
 try simp only[n]
 clear n;co_apply aD rfl (by rfl);intro _ g K f;replace a:=(New.rely) a g;clear g;have n:=a.size;go_simp
 try (unfold stored;go_simp)
 refine f _ _ ⟨?_, ?_⟩
 ·(refine d0Z ?_;intro e he;have hm:=mem_listed he;simp[go_sem, *] at hm)
 clear f K
 try walk_nrm
 replace a:=a.alloc (.cells #[.int .i64 ticks] 3)
 try simp only[gf,km,Nat.reduceAdd,K2,ic] at n
 try simp only[u6,sc] at a
 try simp only[n]
 clear n;co_apply aD rfl (by rfl);intro _ g K f;replace a:=(New.rely) a g;clear g
 skip
 go_simp
 try (unfold stored;go_simp)
 refine f _ _ ⟨?_, ?_⟩
 ·(rw[listed_nil (by simp[go_sem, *])];exact d0Z bE)
 clear f K
 try walk_nrm
 co_apply aD rfl (by rfl);intro _ g K f;replace a:=(New.rely) a g;clear g
 skip
 go_simp
 try (unfold stored;go_simp)
 refine f _ _ ⟨?_, ?_⟩
 ·(rw[listed_nil (by simp[go_sem, *])];exact d0Z bE)
 clear f K
 try walk_nrm
 co_apply bG
 try simp only[KQ]
 try co_then
 co_apply cn;co_apply cn;co_apply bt;simp only[l7,gf,km,Nat.reduceAdd,ic,List.range,List.range.loop];co_apply aD rfl (by rfl);intro _ g K f;replace a:=(New.rely) a g;clear g;have hc:=a.cell (i:=1) rfl (j:=0) rfl;go_simp
 try (unfold stored;go_simp)
 refine f _ _ ⟨?_, ?_⟩
 ·(refine d0Z ?_;intro e he;have hm:=mem_listed he;simp[go_sem, *] at hm;try (first|(subst hm;exact dY _ _ (hE.not bl _))|(rcases hm with rfl|rfl<;>exact dY _ _ (hE.not bl _))))
 clear f K
 try walk_nrm
 clear hc;co_apply aD rfl (by rfl);intro _ g K f;replace a:=(New.rely) a g;clear g
 skip
 go_simp
 try (unfold stored;go_simp)
 refine f _ _ ⟨?_, ?_⟩
 ·(rw[listed_nil (by simp[go_sem, *])];exact d0Z bE)
 clear f K
 try walk_nrm
 co_apply aD rfl (by rfl);intro _ g K f;replace a:=(New.rely) a g;clear g
 skip
 go_simp
 try (unfold stored;go_simp)
 refine f _ _ ⟨?_, ?_⟩
 ·(rw[listed_nil (by simp[go_sem, *])];exact d0Z bE)
 clear f K
 try walk_nrm
 co_apply aD rfl (by rfl);intro _ g K f;replace a:=(New.rely) a g;clear g;have hc:=a.cell (i:=1) rfl (j:=0) rfl;go_simp
 try (unfold stored;go_simp)
 refine f _ _ ⟨?_, ?_⟩
 ·(refine d0Z ?_;intro e he;have hm:=mem_listed he;simp[go_sem, *] at hm;try (first|(subst hm;exact dY _ _ (hE.not bl _))|(rcases hm with rfl|rfl<;>exact dY _ _ (hE.not bl _))))
 clear f K
 try walk_nrm
 clear hc;co_apply aD rfl (by rfl);intro _ g K f;replace a:=(New.rely) a g;clear g
 skip
 go_simp
 try (unfold stored;go_simp)
 refine f _ _ ⟨?_, ?_⟩
 ·(rw[listed_nil (by simp[go_sem, *])];exact d0Z bE)
 clear f K
 try walk_nrm
 co_apply aD rfl (by rfl);intro _ g K f;replace a:=(New.rely) a g;clear g
 skip
 go_simp
 try (unfold stored;go_simp)
 refine f _ _ ⟨?_, ?_⟩
 ·(rw[listed_nil (by simp[go_sem, *])];exact d0Z bE)
 clear f K
 try walk_nrm
 co_apply bG
 try simp only[KQ]
 try co_then
 co_apply gd (t:=false)
 focus (exact rfl)
 simp only[if_true,if_false,pS,reduceIte];co_apply jS;co_apply wpC_skip (ll (K9 s))
 try simp only[KQ]
 try co_then
 co_apply cn;co_apply bt;simp only[l7,gf,km,Nat.reduceAdd,ic,List.range,List.range.loop];co_apply aD rfl (by rfl);intro _ g K f;replace a:=(New.rely) a g;clear g;have n:=a.size;go_simp
 try (unfold stored;go_simp)
 refine f _ _ ⟨?_, ?_⟩
 ·(refine d0Z ?_;intro e he;have hm:=mem_listed he;simp[go_sem, *] at hm)
 clear f K
 try walk_nrm
 replace a:=a.alloc (.chan 0 #[] false 0 0 false)
 try simp only[gf,km,Nat.reduceAdd,K2,ic] at n
 try simp only[u6,sc] at a
 try simp only[n]
 clear n;co_apply aD rfl (by rfl);intro _ g K f;replace a:=(New.rely) a g;clear g;have n:=a.size;go_simp
 try (unfold stored;go_simp)
 refine f _ _ ⟨?_, ?_⟩
 ·(refine d0Z ?_;intro e he;have hm:=mem_listed he;simp[go_sem, *] at hm)
 clear f K
 try walk_nrm
 replace a:=a.alloc (.cells #[.chan none] 76)
 try simp only[gf,km,Nat.reduceAdd,K2,ic] at n
 try simp only[u6,sc] at a
 try simp only[n]
 clear n;co_apply aD rfl (by rfl);intro _ g K f;replace a:=(New.rely) a g;clear g;have hc:=a.cell (i:=3) rfl (j:=0) rfl;have D:=a.thaw (i:=3) rfl 0;go_simp
 try (unfold stored;go_simp)
 refine f _ _ ⟨?_, ?_⟩
 ·(refine d0Z ?_;intro e he;have hm:=mem_listed he;simp[go_sem, *] at hm;try (first|(subst hm;exact dY _ _ (hE.not bl _))|(rcases hm with rfl|rfl<;>exact dY _ _ (hE.not bl _))))
 clear f K
 try walk_nrm
 clear hc D;replace a:=a.set (i:=3) rfl 0 (.chan (some (W.heap.size+2)));simp only[List.set_cons_zero,List.set_cons_succ,OB] at a;co_apply bG
 try simp only[KQ]
 try co_then
 co_apply cn;co_apply bt;simp only[l7,gf,km,Nat.reduceAdd,ic,List.range,List.range.loop];co_apply aD rfl (by rfl);intro _ g K f;replace a:=(New.rely) a g;clear g;have n:=a.size;go_simp
 try (unfold stored;go_simp)
 refine f _ _ ⟨?_, ?_⟩
 ·(refine d0Z ?_;intro e he;have hm:=mem_listed he;simp[go_sem, *] at hm)
 clear f K
 try walk_nrm
 replace a:=a.alloc (.chan 0 #[] false 0 0 false)
 try simp only[gf,km,Nat.reduceAdd,K2,ic] at n
 try simp only[u6,sc] at a
 try simp only[n]
 clear n;co_apply aD rfl (by rfl);intro _ g K f;replace a:=(New.rely) a g;clear g;have n:=a.size;go_simp
 try (unfold stored;go_simp)
 refine f _ _ ⟨?_, ?_⟩
 ·(refine d0Z ?_;intro e he;have hm:=mem_listed he;simp[go_sem, *] at hm)
 clear f K
 try walk_nrm
 replace a:=a.alloc (.cells #[.chan none] 77)
 try simp only[gf,km,Nat.reduceAdd,K2,ic] at n
 try simp only[u6,sc] at a
 try simp only[n]
 clear n;co_apply aD rfl (by rfl);intro _ g K f;replace a:=(New.rely) a g;clear g;have hc:=a.cell (i:=5) rfl (j:=0) rfl;have D:=a.thaw (i:=5) rfl 0;go_simp
 try (unfold stored;go_simp)
 refine f _ _ ⟨?_, ?_⟩
 ·(refine d0Z ?_;intro e he;have hm:=mem_listed he;simp[go_sem, *] at hm;try (first|(subst hm;exact dY _ _ (hE.not bl _))|(rcases hm with rfl|rfl<;>exact dY _ _ (hE.not bl _))))
 clear f K
 try walk_nrm
 clear hc D;replace a:=a.set (i:=5) rfl 0 (.chan (some (W.heap.size+4)));simp only[List.set_cons_zero,List.set_cons_succ,OB] at a;co_apply bG
 try simp only[KQ]
 try co_then
 co_apply cn;co_apply bt;simp only[l7,gf,km,Nat.reduceAdd,ic,List.range,List.range.loop];co_apply aD rfl (by rfl);intro _ g K f;replace a:=(New.rely) a g;clear g;have n:=a.size;go_simp
 try (unfold stored;go_simp)
 refine f _ _ ⟨?_, ?_⟩
 ·(refine d0Z ?_;intro e he;have hm:=mem_listed he;simp[go_sem, *] at hm)
 clear f K
 try walk_nrm
 replace a:=a.alloc (.cells #[.int .u64 0, .int .u32 0] 87)
 try simp only[gf,km,Nat.reduceAdd,K2,ic] at n
 try simp only[u6,sc] at a
 try simp only[n]
 clear n;co_apply bG
 try simp only[KQ]
 try co_then
 clear J L M G d76 E d77;have p:New W (NZ W.heap.size K ticks 0) _:=a;clear a;intro b k cs m hb I hc;have C: ∀w l,AtRel w l->PostB w->PostB l:=λw l ⟨d,e⟩ h=>by subst e;exact o w _ ⟨rfl,rfl,rfl,rfl,λ_ _ _=>rfl⟩ h
 have rely: ∀{told:Value}{w l:World},RanZ PostB W.heap.size told ws w->AtRel w l->RanZ PostB W.heap.size told ws l:=λ{told w l} h r=>⟨C w l r h.1,by obtain⟨d,rfl⟩:=r;exact h.2⟩;refine(show Goes prog true AtRel (D0 (K9 s)) (Mp prog Fin (z+1) s) (m+15) _ _ from Goes.mono (xh (PostB:=PostB) (ws:=ws) hb I hE y A o B H ?_ _ p) bl)
 ·intro told w' x;have a:RanZ PostB W.heap.size told ws w':=x;clear x p H;co_apply Exists.intro;co_apply bN (ll (K9 (W.heap.size::s))) rfl (λ_=>stepG_region_end);co_apply ln (F:=FZ prog Fin) (s:=(z,W.heap.size::s)) (m:=m) ?_ hb I hc;simp only[TR,N4,tl9,N7,Na,MQ,Tryz.f19];co_apply cn;co_apply bt;simp only[l7,gf,km,Nat.reduceAdd,ic,List.range,List.range.loop];co_apply aD rfl (by rfl);intro _ g K f;replace a:=(rely) a g;clear g
  skip
  go_simp
  try (unfold stored;go_simp)
  refine f _ _ ⟨?_, ?_⟩
  ·(rw[listed_nil (by simp[go_sem, *])];exact d0Z bE)
  clear f K
  try walk_nrm
  co_apply aD rfl (by rfl);intro _ g K f;replace a:=(rely) a g;clear g
  skip
  go_simp
  try (unfold stored;go_simp)
  refine f _ _ ⟨?_, ?_⟩
  ·(rw[listed_nil (by simp[go_sem, *])];exact d0Z bE)
  clear f K
  try walk_nrm
  co_apply aD rfl (by rfl);intro _ g K f;replace a:=(rely) a g;clear g
  skip
  go_simp
  try (unfold stored;go_simp)
  refine f _ _ ⟨?_, ?_⟩
  ·(rw[listed_nil (by simp[go_sem, *])];exact d0Z bE)
  clear f K
  try walk_nrm
  co_apply bG
  try simp only[KQ]
  try co_then
  co_apply jS;co_apply wpC_ret (ll (K9 (W.heap.size::s)));exact⟨rfl,_,resultsC_tmp2 (t:=4) (u:=5) (by rfl) _,rfl,told,rfl,a⟩
end Go.Proofs.YtejkelcaljmnoaaGreatDoor
namespace Go.Proofs.YtejkelcaljmnoaaGreatDoor
open Go.Conc Go.RowKit Go.Hx Go.Lo Go.ConcX Go.Conc.Lib Go.ConcX.Gen Tryz
section
variable {σ:Type}{F:Kn σ}{P:Program}{main:Bool}{f:FuncId}{args:Array Value}{n:Nat}{s:σ}{w:World}{Post Post':σ->Value->World->Prop}
theorem gH (h:Ld F P main f args n s w Post)(hp: ∀s v w,Post s v w->Post' s v w):Ld F P main f args n s w Post':=by
 obtain⟨g,c,p,a,d,i⟩:=h;refine⟨g,c,p,a,d,λb k cs m hb u hc=>i b k cs m hb u λr e y x q=>hc r e y x ?_⟩;cases e with
 |normal=>obtain⟨o,v,l,j⟩:=q;exact⟨o,v,l,hp _ _ _ j⟩
 |ret=>obtain⟨o,v,l,j⟩:=q;exact⟨o,v,l,hp _ _ _ j⟩
 |_=>exact q
end
section
variable {K:Nat}{A:Kq}{S:St}{F L:Ka}
theorem Ke.boxes (h:Ke K A S F L){d:Ka}(hf:K5 (d++L))(hn: ∀t∈d,∀u∈L,u.1≠t.1):Ke K A S (d++F) (d++L):=
 {h.of hf (λt b=>rv _ b) with
  fr:=λt b=>by
   rcases cE.1 b with a|a
   ·exact nx _ a
   ·exact rv _ (h.fr t a)
  fd:=λt b=>by
   rcases cE.1 b with a|a
   ·exact⟨λe=>hn t a _ h.k e.symm,λq f e=>hn t a _ (h.p q f) e.symm,λi e=>let ⟨_,hx⟩:=h.al i _ e;hn t a _ hx rfl,λi e=>let ⟨_,hx⟩:=h.yl i _ e;hn t a _ hx rfl,λe=>hn t a _ h.w e.symm⟩
   ·exact h.fd t a}
theorem Ke.forget (h:Ke K A S F L){c:Nat}{cs:Array Value}{fl:Bool}(hc:(c,fl,Obj.cells cs 3)∈F){F':Ka}(hF: ∀t∈F',t∈F/\t.1≠c):Ke K A S F' (L.filter λt=> !decide (t.1=c)):=by
 obtain⟨d1,d2,d3,d4,d5⟩:=h.fd _ hc;have m:=h.fr _ hc;have mem: ∀t∈L,t.1≠c->t∈L.filter λt=> !decide (t.1=c):=λt j n=>l4.2 ⟨j,by simpa using n⟩;have arr: ∀(a:Sl)(xs:List Value)(e:TypeId),a.b≠some c->Kf a xs e L->Kf a xs e (L.filter λt=> !decide (t.1=c)):=λa xs e B C=>by
  refine C.mono λd f o x=>mem _ x ?_;show d≠c;rintro rfl;exact B f
 exact{h with
  fn:=λb fl r o o' D z=>h.fn b fl r o o' (l4.1 D).1 (l4.1 z).1
  k:=mem _ h.k (ft d1)
  g:=mem _ h.g (h.fn.ne h.g m (aB bx))
  p:=λq u=>mem _ (h.p q u) (ft (d2 q u))
  pa:=arr _ _ _ (d3 0) h.pa
  rw:=λl E=>arr _ _ _ (d3 _) (h.rw l E)
  ya:=λi y=>arr _ _ _ (d4 i) (h.ya i y)
  w:=mem _ h.w (ft d5)
  wa:=λe he=>arr _ _ _ (d3 _) (h.wa e he)
  al:=λi d f=>by obtain⟨xs,s⟩:=h.al i d f;exact⟨xs,mem _ s (by rintro rfl;exact d3 i f)⟩
  yl:=λi d f=>by obtain⟨xs,s⟩:=h.yl i d f;exact⟨xs,mem _ s (by rintro rfl;exact d4 i f)⟩
  fr:=λt j=>mem _ (h.fr t (hF t j).1) (hF t j).2
  fd:=λt j=>h.fd t (hF t j).1}
end
def Heard (told:Value)(es:List Value)(L:Ka):Prop:=(told= .slice none 0 0/\es=[])\/ ∃g cap cur,told= .slice (some ⟨g,0,none⟩) es.length cap/\(g,true,Obj.cells cur 51)∈L/\es.length<=cap/\cap<=maxLen/\cur.size=cap*4/\cur.toList.take (es.length*4)=es.flatMap λv=>v.cells.toList
theorem rA (S:St)(b:Nat)(x:PS)(m:Int): ∃ws:List Wd,S.I9 b x m=ws.map Wd.v/\ws.length<=1:=by
 unfold St.I9;by_cases d:m=0
 ·rw[if_pos d];exact⟨[(_,_,_,_)],rfl,cD _⟩
 rw[if_neg d];by_cases a:m=3
 ·rw[if_pos a];cases S.find (x.r 0) with
  |none=>exact⟨[],rfl,hX _⟩
  |some q=>
   simp only
   split
   ·exact⟨[],rfl,hX _⟩
   ·exact⟨[(_,_,_,_)],rfl,cD _⟩
 rw[if_neg a]
 split
 ·exact⟨[(_,_,_,_)],rfl,cD _⟩
 ·exact⟨[],rfl,hX _⟩
theorem wh (S:St)(b:Nat)(x:PS): ∃ws:List Wd,S.Jv b x=ws.map Wd.v/\ws.length<=1:=by
 unfold St.Jv
 split
 ·exact⟨[(_,_,_,_)],rfl,cD _⟩
 ·split
  ·exact rA _ _ _ _
  ·split
   ·exact⟨[],rfl,hX _⟩
   ·exact⟨[(_,_,_,_)],rfl,cD _⟩
theorem tt (S:St): ∃ws:List Wd,S.Jh=ws.map Wd.v/\ws.length<=2:=by
 unfold St.Jh;cases S.lead.first with
 |none=>exact⟨[(_,_,_,_)],rfl,bE⟩
 |some b=>
  simp only;cases S.lead.get b with
  |none=>exact⟨[],rfl,bE⟩
  |some x=>
   obtain⟨ws,a,d⟩:=wh S.lead b x;exact⟨(_,_,_,_)::ws,by simp only[a];rfl,ao⟩
theorem jC: ∀(m:Nat)(T:St),∃ws:List Wd,St.evs m T=ws.map Wd.v/\ws.length<=2*m
 |0,_=>⟨[],rfl,bE⟩
 |m+1,T=>by
  unfold St.evs
  split
  ·exact⟨[],rfl,bE⟩
  ·obtain⟨w1,a,e⟩:=tt T;obtain⟨w2,b,d⟩:=jC m T.next
   exact⟨w1++w2,by rw[a,b];simp,ao⟩
theorem pk: ∀(s:List Nat)(l:Loc),K9 s l-> ∃b,blk l=some b
 |[],_,h=>h.elim
 |N::s,l,h=>by
  rcases h with h|⟨a,rfl,_⟩
  ·exact pk s l h
  ·exact⟨_,rfl⟩
theorem Ix {p:KC}{Sh:Loc->Prop}{E Dn:Nat}{PostB:World->Prop}{Aft:Goroutine->World->Prop}{W:World}{O:Nat}{G:List (Nat×Obj)}(hp:p.ety=51): ∀s,K7 (Kx prog p Sh E Dn PostB Aft W O G s):=λs=>by
 have h: ∀(t:TypeId),t≠51-> ∀cs,(Kx prog p Sh E Dn PostB Aft W O G s).New (.cells cs t):=λt e cs=>by
  show Mx p.ety (.cells cs t)=false;rw[hp];simpa [Mx] using e
 exact{a:=h 180 bx,b:=h 182 bx,c:=h 196 bx,d:=h 210 bx,r:=h 93 bx,k:=h 96 bx,y:=h 5 bx,i:=h 158 bx,p:=h 99 bx,n:=h 3 bx}
abbrev bxs (N K:Nat)(m:Nat):Ka:=[(N+1,false,Obj.cells #[.int .i64 (m:Nat)] 3),(N,false,Obj.cells #[.pointer (some ⟨K,0,none⟩)] 35),(N+3,false,Obj.cells #[.chan (some (N+2))] 76),(N+5,false,Obj.cells #[.chan (some (N+4))] 77)]
section
variable {W:World}{O:Nat}{s:List Nat}{L:Ka}{w w':World}{K m:Nat}
theorem wk (e:Mi (K9 s) W O L w)(hn:New w (NZ w.heap.size K (m:Nat) KK) w'):(LO (pZ w.heap.size) (ShR (K9 s) w.heap.size) (w.heap.size+2) (w.heap.size+4) W O (GW (w.heap.size+6))).Own (bxs w.heap.size K m++L) w':=by
 have p:Li (K9 s) w.heap.size:=λl f=>by
  obtain⟨b,hb⟩:=pk s l f;exact⟨b,hb,e.low l b f hb⟩
 have lt: ∀t∈L,t.1<w.heap.size:=λt d=>e.lt (fl:=t.2.1) (o:=t.2.2) d;have B:=e.old.z;have k: ∀t∈bxs w.heap.size K m,w'.heap[t.1]? =some t.2.2/\w.heap.size<=t.1/\t.1<w.heap.size+6/\t.1≠w.heap.size+2/\t.1≠w.heap.size+4/\t.2.1=false:=λt d=>by
  simp only[gn,Oz,or_false] at d;rcases d with rfl|rfl|rfl|rfl
  ·exact⟨hn.get (i:=1) rfl,by simp only;omega,by simp only;omega,by simp only;omega,by simp only;omega,rfl⟩
  ·exact⟨hn.get (i:=0) rfl,by simp only;omega,by simp only;omega,by simp only;omega,by simp only;omega,rfl⟩
  ·exact⟨hn.get (i:=3) rfl,by simp only;omega,by simp only;omega,by simp only;omega,by simp only;omega,rfl⟩
  ·exact⟨hn.get (i:=5) rfl,by simp only;omega,by simp only;omega,by simp only;omega,by simp only;omega,rfl⟩
 refine⟨(show Lw _ _ _ _ _ _ _ _ from{has:= ?_,ap:= ?_,own:= ?_,nd:= ?_,sz:= ?_,old:= ?_,sh:=Df p,hE:= ?_,oo:= ?_}),⟨?_, ?_, ?_⟩⟩
 ·intro t d;rcases cE.1 d with h|h
  ·exact(k t h).1
  ·rw[hn.old (lt t h)];exact e.has t h
 ·intro t d;rcases cE.1 d with h|h
  ·obtain⟨_,D,C,r,A,_⟩:=k t h;refine⟨r,A,λl f g=> ?_,λ_=>by show t.1<w.heap.size+7;omega⟩;rcases g with g|⟨a,rfl,n⟩
   ·have:=e.low l _ g f;omega
   ·simp only[blk,Option.some.injEq] at f;omega
  ·have:=lt t h;refine⟨bl,bl,λl f g=> ?_,λ_=>by show t.1<w.heap.size+7;omega⟩;rcases g with g|⟨a,rfl,n⟩
   ·exact e.ap t h l f g
   ·simp only[blk,Option.some.injEq] at f;omega
 ·intro t d j;rcases cE.1 d with h|h
  ·have:=(k t h).2.2.2.2.2;rw[j] at this;cases this
  ·refine⟨e.own t h j,λl f g=> ?_⟩;obtain⟨a,rfl,n⟩:=g;simp only[blk,Option.some.injEq] at f;have:=lt t h;omega
 ·rw[l3];refine ss.2 ⟨bE,e.nd,λa n c hc=> ?_⟩;obtain⟨t,d,rfl⟩:=cm.1 n;obtain⟨u,hu,rfl⟩:=cm.1 hc;have:=(k t d).2.1;have:=lt u hu;omega
 ·rw[hn.size];exact cD _
 ·exact⟨hn.tape.trans e.old.t,hn.os'.trans e.old.o,hn.output.trans e.old.u,by rw[hn.size];omega,λx y=>(hn.old bl).trans (e.old.b x y)⟩
 ·exact⟨by show w.heap.size+2<w.heap.size+7;omega,by show w.heap.size+4<w.heap.size+7;omega⟩
 ·refine⟨bl,bl, ?_⟩;show O<=w.heap.size+7;omega
 ·intro t d;simp only[gn,Oz,or_false] at d;subst d;exact hn.get (i:=6) rfl
 ·intro t d u hu;simp only[gn,Oz,or_false] at d;subst d;rcases cE.1 hu with h|h
  ·have:=(k u h).2.2.1;simp only;omega
  ·have:=lt u h;simp only;omega
 ·intro t d;simp only[gn,Oz,or_false] at d;subst d;refine⟨by simp only;omega,by simp only;omega, ?_⟩;show w.heap.size+6<w.heap.size+7;omega
end
theorem tv (ws:List Wd):(ws.map Wd.v).flatMap (λv=>v.cells.toList)=ws.flatMap Wd.c:=by
 induction ws with
 |nil=>rfl
 |cons x ws ih=>simp only[ix,List.flatMap_cons,ih];rfl
theorem Hs: ∃k,∀{Fin:Value->World->Prop}{W:World}{O:Nat}(X:Nat)(s:List Nat)(K:Nat)(A:Kq)(S T:St)(Fr L:Ka)(eb:Nat->Nat×Nat)(m:Nat),Ke K A S Fr L->KZ eb Fr->Ab S T->m<=2000->S.now<1152921504606846976->
 Kb (F:=FZ prog Fin) (λs=>Mq (K9 s.2) W O) prog true 19 [ptr K, .int .i64 (m:Nat)].toArray k (X+1,s) L (λs' v L'=> ∃N told H S',s'=(X,N::s)/\v= .tuple #[told, .int .i64 0]/\Ab S' (St.runs m T)/\Ke K H S' Fr L'/\Heard told (St.evs m T) L'/\ ∀g n c,told= .slice (some ⟨g,0,none⟩) n c-> ∀t∈L,t.1≠g):=by
 obtain⟨k,hk⟩:=Hr;obtain⟨kp,I⟩:=Fj;refine⟨k,λ{Fin W O} X s K A S T Fr L eb m hR b' f' hm M w hO=> ?_⟩;obtain⟨ws,U,g'⟩:=jC m T;have B:Mi (K9 s) W O L w:=hO;have hE:Li (K9 s) w.heap.size:=λl J=>by
  obtain⟨b,hb⟩:=pk s l J;exact⟨b,hb,B.low l b J hb⟩
 have hz:=B.old.z;have lt: ∀t∈L,t.1<w.heap.size:=λt a=>B.lt (fl:=t.2.1) (o:=t.2.2) a
 let QL:Ka->Prop:=λL'=> ∃H S',Ab S' (St.runs m T)/\Ke K H S' Fr L'
 let PB:=NF (pZ w.heap.size) (ShR (K9 s) w.heap.size) (w.heap.size+2) (w.heap.size+4) W O (w.heap.size+6) (w.heap.size+1) QL
 refine gH (hk X s K (m:Nat) ⟨bl,bl⟩ ws bl w hE PB ?_ ?_ ?_ ?_) ?_
 ·rintro x R r ⟨L',f,i,D⟩;exact⟨L',f.rely r,i,D⟩
 ·rintro x R r ⟨L',f,i,D⟩;refine⟨L',{f with has:=λt a=>(r.block t.1 (i t a).1 (i t a).2).trans (f.has t a),sz:=by rw[r.size];exact f.sz,old:=⟨r.tape.trans f.old.t,r.os.trans f.old.o,r.output.trans f.old.u,by rw[r.size];exact f.old.z,λy hy=>(r.block y bl bl).trans (f.old.b y hy)⟩},i,D⟩
 ·rintro x ⟨L',f,_⟩;exact f.sz
 ·intro _ w' Z;have hV:=wk B Z;have hnd:=(LO (pZ w.heap.size) (ShR (K9 s) w.heap.size) (w.heap.size+2) (w.heap.size+4) W O (GW (w.heap.size+6))).nd hV;have a':Ke K A S (bxs w.heap.size K m++Fr) (bxs w.heap.size K m++L):=hR.boxes (bz hnd) λt a u hu e=>by
   rw[l3] at hnd;exact(ss.1 hnd).2.2 t.1 (cm.2 ⟨t,a,rfl⟩) u.1 (cm.2 ⟨u,hu,rfl⟩) e.symm
  have hP:=I (p:=pZ w.heap.size) (Sh:=ShR (K9 s) w.heap.size) (E:=w.heap.size+2) (Dn:=w.heap.size+4) (PostB:=PB) (Aft:=Lt prog 87 (w.heap.size+6) (w.heap.size+1) (w.heap.size+7) [.int .i64 (m:Nat)] K3) (W:=W) (O:=O) (G0:=GW (w.heap.size+6)) (vs:=[]) K A S T (bxs w.heap.size K m++Fr) (bxs w.heap.size K m++L) eb m (Ix rfl) a' (b'.mono λt a=>rv _ a) f' hm M;rw[wc,U] at hP;refine tq (kb:=w.heap.size) (db:=w.heap.size+5) (eb:=w.heap.size+3) (C:=w.heap.size+1) (Wg:=w.heap.size+6) (Low:=w.heap.size+7) (K:=K) (L:=bxs w.heap.size K m++L) (QL:=QL) bl bl bl bl bl bE bE bE bE kp _ (λx hx=>gH (hP x hx) ?_) w' hV;rintro s' v x' ⟨L',e',f,_,H,S',i,D⟩;refine⟨f.symm,L',e',D.fr _ bE,H,S',i,D.forget (c:=w.heap.size+1) (cs:= #[.int .i64 (m:Nat)]) (fl:=false) bE λt a=>⟨rv _ a, ?_⟩⟩;have:=lt t (hR.fr t a);omega
 ·rintro s' v x' ⟨f,told,i,⟨L',j,h',H,S',Q,P⟩,hT⟩;have d:Mi (K9 (w.heap.size::s)) W O L' x':=⟨j.has,λt a=>(j.ap t a).2.2.1,λt a Y=>(j.own t a Y).1,j.nd,λl b J hb=>by have:=j.sh.low l b J hb;have:=j.sz;omega,j.old⟩;subst f;rw[show (St.evs m T)=ws.map Wd.v from U];obtain⟨J,hT⟩:=hT;rcases hT with ⟨rfl,h0⟩|⟨g,cap,cur,rfl,hg,G,Z,c',hcs,d'⟩
  ·refine⟨L',d,w.heap.size,_,H,S',rfl,i,Q,P, .inl ⟨rfl, ?_⟩,λ_ _ _ e=>by cases e⟩;have:ws=[]:=OI.1 h0;rw[this];rfl
  ·have i':w.heap.size+7<=g:=hg;have V: ∀t∈L',t.1≠g:=λt a e=>by
    have D:=j.has t a;rw[e,G] at D;have h4:=(j.ap t a).2.2.2 (by rw[<-gu D];rfl);have:t.1<w.heap.size+7:=h4;omega
   refine⟨(g,true,Obj.cells cur 51)::L', ?_,w.heap.size,_,H,S',rfl,i,Q,P.of ?_ (λt a=>dc _ a), .inr ⟨g,cap,cur,by rw[ia],eT,by rw[ia];exact Z,c',hcs, ?_⟩,λ_ _ _ e=>by cases e;exactλt a e=>by have:=lt t a;omega⟩
   ·show Mi (K9 (w.heap.size::s)) W O _ x';refine⟨λt a=> ?_,λt a=> ?_,λt a Y=> ?_, ?_,d.low,d.old⟩
    ·rcases gn.1 a with rfl|a
     ·exact G
     ·exact d.has t a
    ·rcases gn.1 a with rfl|a
     ·intro l J hs;have:=j.sh.low l g hs J;have:g<w.heap.size+7:=this;omega
     ·exact d.ap t a
    ·rcases gn.1 a with rfl|a
     ·simp only;omega
     ·exact d.own t a Y
    ·simp only[ix,x8];exact⟨λhm=>by obtain⟨t,a,e⟩:=cm.1 hm;exact V t a e,d.nd⟩
   ·refine bz ?_;simp only[ix,x8];exact⟨λhm=>by obtain⟨t,a,e⟩:=cm.1 hm;exact V t a e,d.nd⟩
   ·rw[ia,tv];exact d'
end Go.Proofs.YtejkelcaljmnoaaGreatDoor
namespace Go.Proofs.YtejkelcaljmnoaaGreatDoor
open Go.Conc Go.Hx Go.Lo Tryz
def Kj (a:Sl)(sz n:Nat):Value:=match a.b with
 |none=> .slice none 0 0
 |some b=> .slice (some ⟨b,0,none⟩) n (n+a.junk.length/sz)
structure MM (L:Ka)(e:TypeId)(a:Sl)(zs:List Value)(a':Sl)(L':Ka):Prop where
 ok:Kf a' zs e L'
 fn:K5 L'
 sub: ∀t∈L,a.b≠some t.1->t∈L'
 d: ∀b,a'.b=some b->a.b=some b\/ ∀t∈L,t.1≠b
theorem mE: ∀(vs:List Value)(cs:Array Value)(o k:Nat),(vs.zipIdx k).foldl (λcs (c,j)=>cs.setIfInBounds (o+j) c) cs=KP cs (o+k) vs
 |[],cs,o,k=>by simp[KP]
 |v::vs,cs,o,k=>by
  simp only[List.zipIdx_cons,List.foldl_cons,KP];rw[mE vs _ o (k+1)];rfl
section
variable {New:Obj->Prop}{N:Nat}{ε:Env}{L:Ka}{d:Option Tmp}{ty:TypeId}{ps:String}{af:Array Edge}{g:Option (Nat×Bool)}{x y:Operand}{P:Program}
theorem gI {t e:TypeId}{x:Operand}{v z:Value}{sz:Nat}(hN:New (.cells v.cells e))(hv:v.cells.size=sz)(hx:ev ε x=some v:=by rfl)(hu:P.underlying t=some (.slice e))(hs:Kd P e=some sz)(hz:zeroAt P e=some z)(h0:0<sz)(h24:sz<=1000):
 EO P New N ε L ⟨d, .buildSlice t 1 #[(0,x)],ty,ps,af,g⟩ (λr k=> ∃b,(∀t∈L,t.1≠b)/\r= .slice (some ⟨b,0,none⟩) 1 1/\k=(b,true, .cells v.cells e)::L):=by
 intro a m;simp only[execOp,OL,ix,OD];unfold Instr.buildSlice newRow;have o:Instr.fill (λi=>some (i*sz,sz)) ((Array.range (1*sz)).map (z.cells[· %z.cells.size]!)) [(0,v)]=some v.cells:=by
  have f:((Array.range (1*sz)).map (z.cells[· %z.cells.size]!)).size=sz:=bE
  generalize (Array.range (1*sz)).map (z.cells[· %z.cells.size]!)=cs at f;simp only[Instr.fill];rw[if_neg (by simp[hv,f])];congr 1;have n:v.cells.zipIdx.foldl (λcs (c,j)=>cs.setIfInBounds (0*sz+j) c) cs=KP cs (0*sz+0) v.cells.toList:=by
   rw[<-mE,<-Array.foldl_toList,Array.toList_zipIdx]
  rw[n];obtain⟨l⟩:=cs;rw[bY _ _ _ (by simp at f⊢;omega)];apply gm;have:l.drop (0*sz+0+v.cells.toList.length)=[]:=List.drop_eq_nil_of_le (by simp at f⊢;omega);rw[this];simp
 rw[ak,ak,aT hu,m.ev hx];simp only[];rw[ak,bO hs];rw[if_neg bl,if_neg bl,ak,cC hz,ak,bg];simp only[o,ak];exact cF hN λb hb=>⟨b,hb,rfl,rfl⟩
theorem uv {a:Sl}{xs:List Value}{e:TypeId}{sz n:Nat}(ha:Kf a xs e L)(hn:xs.length=n*sz)(h0:0<sz):Reads P L sz n (Kj a sz n) xs.toArray:=by
 cases d:a.b with
 |none=>
  unfold Kf at ha;rw[d] at ha;obtain rfl:xs=[]:=ha.1;obtain rfl:n=0:=by
   rcases Nat.eq_zero_or_pos n with h|h
   ·exact h
   ·have:=Nat.mul_pos h h0;simp at hn;omega
  have f:Kj a sz 0= .slice none 0 0:=by unfold Kj;rw[d]
  rw[f];exact dx
 |some b=>
  have hm:=ha.mem d;have f:Kj a sz n= .slice (some ⟨b,0,none⟩) n (n+a.junk.length/sz):=by unfold Kj;rw[d]
  rw[f];have:=bR (P:=P) (sz:=sz) (n:=n) (len:=n) (cap:=n+a.junk.length/sz) (o:=0) hm ao;have g:(xs++a.junk).take (n*sz)=xs:=by rw[<-hn,sA bE];exact sD bE
  simpa [g] using this
theorem wq {ρ:Operand->Value}{Q:Next->Ka->Prop}{t u e f:TypeId}{sz:Nat}{yb:Option Addr}{a:Nat}{vs:Array Value}(hx:ρ x= .slice none 0 0)(hy:ρ y= .slice yb 0 a)(hu:P.underlying t=some (.slice e))(hv:P.underlying u=some (.slice f))(hs:Kd P e=some sz)
 (hr:Reads P L sz 0 (.slice yb 0 a) vs) (b:Q (.value (.slice none 0 0)) L):KI P New (execOp ρ ⟨d, .call ⟨.builtin .append, #[x,y], #[t,u]⟩,ty,ps,af,g⟩) Q L:=by
 refine cw (s:=Builtin.append_ #[t,u] ty #[.slice none 0 0, .slice yb 0 a]) (λ_=>by simp[builtin,hx,hy]) ?_;unfold Builtin.append_;simp only[nw,u9,OE];rw[ak,aT hu];simp only[];rw[ak,bO hs];rw[ak,aT hv,ak,bg];simp only[pS,if_false,Bool.not_false,if_true,Builtin.lenOf];rw[ak,bg];simp only[cD,if_true];rw[ak];refine hr.r New _ ?_;exact b
theorem D1 {t e:TypeId}{a:Sl}{xs ys:List Value}{n m sz by_:Nat}{z:Value}{yb:Option Addr}{J:Nat}(hx:ev ε x=some (Kj a sz n):=by rfl)(hy:ev ε y=some (.slice yb m J):=by rfl)(hnd:(L.map (·.1)).Nodup)(hu:P.underlying t=some (.slice e))(hs:Kd P e=some sz)(hb:KJ P e=some (by_+1))(hz:zeroAt P e=some z)(hzs:z.cells.size=sz)(hN: ∀cs,New (.cells cs e)) (ha:Kf a xs e L) (hn:xs.length=n*sz) (hr:Reads P L sz m (.slice yb m J) ys.toArray) (hm:ys.length=m*sz) (hpl:ys.all Km=true) (h0:0<sz) (h8:(2*(n+m)+192)*(by_+1)<=281474976710656):
 EO P New N ε L ⟨d, .call ⟨.builtin .append, #[x,y], #[t,t]⟩,ty,ps,af,g⟩ (λr L'=> ∃k,r=Kj k sz (n+m)/\MM L e a (xs++ys) k L'/\((k.b=a.b/\k.junk.length+ys.length=a.junk.length)\/ ∀t∈L,t∈L')):=by
 have u:=uv (P:=P) ha hn h0
 have grow: ∀(j:Nat),(∃l,Kj a sz n= .slice l n j)->j<n+m->
  EO P New N ε L ⟨d, .call ⟨.builtin .append, #[x,y], #[t,t]⟩,ty,ps,af,g⟩ (λr L'=> ∃k,r=Kj k sz (n+m)/\MM L e a (xs++ys) k L'/\((k.b=a.b/\k.junk.length+ys.length=a.junk.length)\/ ∀t∈L,t∈L')):=by
  rintro j ⟨l,F⟩ hc;rw[F] at u hx;intro ac i;refine bS ?_ _ _ (nv (by_:=by_) (New:=New) hx hy (bz hnd) hu hu hs hb hz u hr hc h8 hN ac i);intro r L' q;cases r<;>try exact q.elim
  ·obtain⟨b,cap,V,C,rfl,p⟩:=q;have G:(Builtin.zeroCells z.cells (cap-(n+m))).toList.length=(cap-(n+m))*sz:=by unfold Builtin.zeroCells;simp[hzs]
   refine⟨⟨some b,(Builtin.zeroCells z.cells (cap-(n+m))).toList⟩, ?_,⟨?_,p.fn,λt A _=>p.sub t A,λI o=> .inr ?_⟩, .inr p.sub⟩
   ·unfold Kj;simp only[];rw[G,Nat.mul_div_cancel _ h0,show n+m+(cap-(n+m))=cap by omega]
   ·have S:xs.toArray++ys.toArray++Builtin.zeroCells z.cells (cap-(n+m))=((xs++ys)++(Builtin.zeroCells z.cells (cap-(n+m))).toList).toArray:=by
     apply gm;simp
    rw[S] at p;exact p.self
   ·obtain rfl:b=I:=by simpa using o
    exact p.new
  ·obtain⟨b,cap,_,_,e,_⟩:=q;cases e
 cases f:a.b with
 |none=>
  have C:=ha;unfold Kf at C;rw[f] at C;obtain⟨Q,U⟩:=C;obtain rfl:xs=[]:=Q;obtain rfl:n=0:=by
   rcases Nat.eq_zero_or_pos n with h|h
   ·exact h
   ·have:=Nat.mul_pos h h0;simp at hn;omega
  have s:Kj a sz 0= .slice none 0 0:=by unfold Kj;rw[f]
  by_cases E:m=0
  ·subst E;obtain rfl:ys=[]:=OI.1 (by simpa using hm);rw[s] at hx;intro ac i;exact wq (i.ev hx) (i.ev hy) hu hu hs hr ⟨a,by rw[K2,s],⟨by simpa using ha,bz hnd,λt A _=>A,λb hb=> .inl hb⟩, .inr λ_ h=>h⟩
  have:=grow 0 ⟨none,s⟩ bl
  rwa [f] at this
 |some b=>
  have H:=ha.mem f;have s:Kj a sz n= .slice (some ⟨b,0,none⟩) n (n+a.junk.length/sz):=by unfold Kj;rw[f]
  by_cases M:m<=a.junk.length/sz
  ·intro ac i;rw[s] at hx;have R:m*sz<=a.junk.length:=(Nat.le_div_iff_mul_le h0).1 M;refine bS ?_ _ _ (lE (New:=New) hx hy hnd hu hu hs hr bl H ao (by simpa using hpl) ac i);intro r L' q;cases r<;>try exact q.elim
   ·obtain⟨rfl,B⟩:=q;have K:KP (xs++a.junk).toArray (0+n*sz) ys.toArray.toList=((xs++ys)++a.junk.drop (m*sz)).toArray:=by
     rw[bY _ _ _ ao];have T:(xs++a.junk).drop (0+n*sz+ys.toArray.toList.length)=a.junk.drop (m*sz):=by
      rw[show 0+n*sz+ys.toArray.toList.length=xs.length+m*sz by simp;omega,O1];simp
     have O:(xs++a.junk).take (0+n*sz)=xs:=by rw[ic,<-hn,sA bE];exact sD bE
     rw[T,O]
    rw[K] at B;refine⟨⟨some b,a.junk.drop (m*sz)⟩, ?_,⟨B.self,B.fn,λt A D=>B.ne t A λe=>D (by rw[f,e]),λI o=> .inl (by rw[f];exact o)⟩, .inl ⟨rfl,by simp only[OO,hm];omega⟩⟩;unfold Kj;simp only[OO];rw[Nat.mul_comm m sz,Nat.sub_mul_div];rw[show n+m+(a.junk.length/sz-m)=n+a.junk.length/sz by omega]
   ·exact absurd q.1 (by simp[undef])
  ·have:=grow (n+a.junk.length/sz) ⟨_,s⟩ bl
   rwa [f] at this
theorem iu {t e:TypeId}{a:Sl}{xs ys:List Value}{n m sz by_:Nat}{z:Value}{yb:Option Addr}{k:Nat}(hx:ev ε x=some (Kj a sz n):=by rfl)(hy:ev ε y=some (.slice yb m k):=by rfl)(hnd:(L.map (·.1)).Nodup)(hu:P.underlying t=some (.slice e))(hs:Kd P e=some sz)(hb:KJ P e=some (by_+1))(hz:zeroAt P e=some z)(hzs:z.cells.size=sz)(hN: ∀cs,New (.cells cs e)) (ha:Kf a xs e L) (hn:xs.length=n*sz) (hr:Reads P L sz m (.slice yb m k) ys.toArray) (hm:ys.length=m*sz) (hpl:ys.all Km=true) (h0:0<sz) (h8:(2*(n+m)+192)*(by_+1)<=281474976710656):
 EO P New N ε L ⟨d, .call ⟨.builtin .append, #[x,y], #[t,t]⟩,ty,ps,af,g⟩ (λr L'=> ∃b,r=Kj b sz (n+m)/\MM L e a (xs++ys) b L'):=λac f=>bS (by
 intro r L' q;cases r<;>try exact q.elim
 ·obtain⟨b,i,j,_⟩:=q;exact⟨b,i,j⟩
 ·obtain⟨b,i,j,_⟩:=q;exact⟨b,i,j⟩) _ _ (D1 hx hy hnd hu hs hb hz hzs hN ha hn hr hm hpl h0 h8 ac f)
end
end Go.Proofs.YtejkelcaljmnoaaGreatDoor
namespace Go.Lo
open Go.Conc Go.Hx
section
variable {σ:Type}{F:Kn σ}{Δ: ∀s,Ma (F.R s) (F.D s)} {P:Program} {main:Bool} {fn:FuncId} {N:Nat} {Q:σ->Exit->Env->Ka->Prop} {s:σ} {ε:Env} {L:Ka} {ops:Array Oper} {nf:Nat} {R L0:Ka} {e:Nat} {s0:σ} {fuel:Nat} {ls:Array Bool}
theorem t2 {i j:Nat}{d p:Option Tmp}{k k':Op}{V b:TypeId}{ps ps':String}{af m:Array Edge}{g g':Option (Nat×Bool)}{f:FuncId}{args:Array Operand}{A:Array TypeId}{vs:List Value}{Post:σ->Value->Ka->Prop}{n:Value->Ka->Prop}(ho:ops[i]? =some ⟨d,k,V,ps,af,g⟩)(I:k= .call {callee:= .value (.func f),args,argTypes:=A})(ha:args.toList.map (ev ε)=vs.map some)(hcall:Kb Δ P main f vs.toArray nf s L Post)
 (J:ops[j]? =some ⟨p,k',b,ps',m,g'⟩) (hy:EO P (Δ s).New N ε L ⟨p,k',b,ps',m,g'⟩ n)
 (hr:Region.ready .any ops ls=[i,j]:=by kernel_rfl) (hw:Kr ops N ε g=some true:=by rfl) (hd:KG N d=true:=by rfl) (G:Kr ops N ε g'=some true:=by rfl) (H:KG N p=true:=by rfl)
 (h1: ∀s' v L',Post s' v L'->LR R L0 e s0 (ls.setIfInBounds i true) s' L'/\K6 Δ P main fn N ops Q nf R L0 e s0 fuel (ls.setIfInBounds i true) s' (KY d v ε) L')
 (h2: ∀v L',n v L'->LR R L0 e s0 (ls.setIfInBounds j true) s L'/\K6 Δ P main fn N ops Q nf R L0 e s0 fuel (ls.setIfInBounds j true) s (KY p v ε) L'):K6 Δ P main fn N ops Q nf R L0 e s0 (fuel+1) ls s ε L:=by
 intro a r;have T:args.map a.eval=vs.toArray:=by
  apply gm;simp only[Array.toList_map];have: ∀(l:List Operand)(vs:List Value),l.map (ev ε)=vs.map some->l.map a.eval=vs:=by
   intro l
   induction l with
   |nil=>intro vs h;cases vs<;>simp_all
   |cons x l ih=>
    intro vs h;cases vs with
    |nil=>simp at h
    |cons v vs=>
     simp only[ix,List.cons.injEq] at h⊢;exact⟨r.ev h.1,ih vs h.2⟩
  exact this _ _ ha
 refine xA hr (λw F E=> ?_) λw F E=> ?_
 ·have o:i∈Region.ready .any ops ls:=by simp[hr]
  have hc:=hcall w F;rw[<-T] at hc;exact .inr ⟨_,f,args,A,_,ho,r.wanted hw,I,hc,λs' v U ⟨L',u,K⟩=>⟨⟨L',u,(h1 s' v L' K).1⟩,(h1 s' v L' K).2 _ (r.put hd v) (E.step o) _ u⟩⟩
 ·have o:j∈Region.ready .any ops ls:=by simp[hr]
  refine .inl ?_;unfold OpC;have D:Region.wanted ⟨p,k',b,ps',m,g'⟩ (yielded ops a.tmps)=true:=r.wanted G;simp only[J,D,if_true];intro M z
  have C:KI P (Δ s).New (execOp a.eval ⟨p,k',b,ps',m,g'⟩) (λx L'=>MV ⟨p,k',b,ps',m,g'⟩ a (λB=>LR R L0 e s0 (ls.setIfInBounds j true) s L'/\LV Δ P main fn ops (upE N Q) nf R L0 e s0 fuel (ls.setIfInBounds j true) s B L') x) L:=
   bS (λx L' q=>by cases x<;>first|exact⟨(h2 _ _ q).1,(h2 _ _ q).2 _ (r.put H _)⟩|exact q.elim) _ _ (hy a r)
  obtain⟨x,U,y,O,he,L',u,S⟩:=si (Δ s) ((Δ s).rely F z) C;exact oI (Δ:=Δ) (s:=s) (KL:=λB L'=>LR R L0 e s0 (ls.setIfInBounds j true) s L'/\LV Δ P main fn ops (upE N Q) nf R L0 e s0 fuel (ls.setIfInBounds j true) s B L') y u S λB k=>⟨(Δ s).dd O λe hm=>he e (mem_listed hm),⟨L',u,k.1⟩,k.2 (E.step o) _ u⟩
end
end Go.Lo
namespace Go.Proofs.YtejkelcaljmnoaaGreatDoor
open Go.Conc Go.Hx Go.Lo Tryz
attribute [local irreducible] EY KO K6 Kw Kc Ku Kd Program.underlying
def Ln (c:Nat->Int)(bo:Int):Value:= .agg #[.int .i64 (c 0), .int .i64 (c 1), .int .i64 (c 2), .int .i64 bo]
def NR (c:Nat->Int):Value:= .agg #[.int .i64 (c 0), .int .i64 (c 1), .int .i64 (c 2)]
def Mv (c:Nat->Int)(bo:Int):Bool:=decide (((1<=c 0/\c 0<=10)/\(1<=c 1/\c 1<=10)/\(1<=c 2/\c 2<=10))/\1<=bo/\bo<=1000)
theorem Ht (c:Nat->Int){i:Nat}(hi:i<3):KF prog (Instr.index 24 (NR c) (.int .i64 (i:Nat))) []=some (.int .i64 (c i),[]):=by
 have:i=0\/i=1\/i=2:=bl
 rcases this with rfl|rfl|rfl
 ·show KF prog (Instr.index 24 (NR c) (.int .i64 ((0:Nat):Int))) []=some (.int .i64 (c 0),[]);kernel_rfl
 ·show KF prog (Instr.index 24 (NR c) (.int .i64 ((1:Nat):Int))) []=some (.int .i64 (c 1),[]);kernel_rfl
 ·show KF prog (Instr.index 24 (NR c) (.int .i64 ((2:Nat):Int))) []=some (.int .i64 (c 2),[]);kernel_rfl
theorem iJ: ∃n,∀{B}{F:Kn B}{y:DM F}{d s}(L:Ka)(c:Nat->Int)(bo:Int),(∀cs,(y s).New (.cells cs 26))->K5 L->
 Kb y prog d 45 [Ln c bo].toArray n s L (λs' v L'=>s=s'/\v= .bool (Mv c bo)/\Ext L L'):=by
 constructor;intro B F y d s L c bo I M;co_applyP ar 25 func45 ntmps45;co_applyP(zo);co_applyP bB rfl (bA (I _));intro b x p;have z:Ext L x:=⟨p.fn,p.sub⟩;have G:At x b 3 (.int .i64 bo):=⟨true,_,_,_,p.self,rfl⟩;co_applyP(au);co_applyP oy rfl (aW (ht:=GO) (hs:=GN) (hm:=p.self) (hi:=by show 0+0+3<=4;decide));co_applyP(ax);rw[show (Value.agg (((Ln c bo).cells).extract 0 (0+3)))=NR c from rfl];co_applyP aU (λk s' o L'=>s'=s/\L'=x/\ ∃i,i<=3/\k+i=3/\(∀j,j<i->1<=c j/\c j<=10)/\kn o [(1,ptr b),(6,NR c),(7, .int .i64 (i:Nat))]) 3
 ·exact⟨rfl,rfl,0,bl,rfl,bl,rfl⟩
 rintro k s' o L' ⟨rfl,rfl,i,C,J,a,he⟩;co_applyP aA he;have D:IntKind.i64.wrap ((i:Int)+1)=((i+1:Nat):Int):=by simp[IntKind.wrap_i64];omega
 co_applyP(ax);co_applyP aK;co_applyP aI rfl;intro g
 ·have m:i<3:=by simp at g;omega
  co_applyP(av);co_applyP oy rfl (yY (Ht c m));co_applyP(ay);co_applyP aK;co_applyP ct ([(15, .bool (decide (c i<1\/10<c i))),(1,ptr b),(6,NR c),(7, .int .i64 (i:Nat))]);co_applyP(av)
  ·by_cases f:c i<1
   ·have e:decide (c i<1)=true:=by simp[f]
    rw[e];co_applyP(av);change _=_/\_=_/\kn _ _;refine⟨rfl,rfl, ?_⟩;have l:true=decide (c i<1\/10<c i):=by simp[f]
    rw[<-l];rfl
   ·have e:decide (c i<1)=false:=ao
    rw[e];co_applyP(av);change _=_/\_=_/\kn _ _;refine⟨rfl,rfl, ?_⟩;have l:decide (10<c i)=decide (c i<1\/10<c i):=by simp[f]
    rw[<-l];rfl
  co_applyP aI rfl;intro hw;co_applyP(av);change∃v,Ko .. =some v/\_
  ·have r:c i<1\/10<c i:=by simpa using hw
   have H:Mv c bo=false:=by
    unfold Mv;simp only[decide_eq_false_iff_not];rintro⟨A,_⟩;have:i=0\/i=1\/i=2:=bl
    rcases this with rfl|rfl|rfl<;>omega
   exact⟨_,rfl,rfl,by rw[H],z⟩
  intro hw;co_applyP(au);change∃k',k'<_/\_;have r: ¬(c i<1\/10<c i):=by simpa using hw
  refine⟨k-1,bl,rfl,rfl,i+1,bl,bl,λj K=> ?_,by rw[<-D];rfl⟩;by_cases u:j=i
  ·subst u;omega
  ·exact a j bl
 intro g;co_applyP(zo);co_applyP aK;have m:i=3:=by simp at g;omega
 subst m;co_applyP ct ([(2, .bool (Mv c bo))]);co_applyP(au)
 ·by_cases f:1<=bo
  ·have e:decide (1<=bo)=true:=by simp[f]
   rw[e];co_applyP(aC);change _=_/\_=_/\kn _ _;refine⟨rfl,rfl, ?_⟩;have l:decide (bo<=1000)=Mv c bo:=by unfold Mv;have h0:=a 0 bl;have A:=a 1 bl;have E:=a 2 bl;simp[f,h0,A,E]
   rw[<-l];rfl
  ·have e:decide (1<=bo)=false:=decide_eq_false f;rw[e];co_applyP(aC);change _=_/\_=_/\kn _ _;refine⟨rfl,rfl, ?_⟩;have l:false=Mv c bo:=by unfold Mv;symm;simp only[decide_eq_false_iff_not];omega
   rw[<-l];rfl
 co_applyP(zo);exact xI _ ⟨rfl,rfl,rfl,z⟩
def Mw (n:Nat):Bool:=decide (0<n/\n%4=0/\n<=1024)
theorem nX: ∃n,∀{j}{F:Kn j}{i:DM F}{a s}(L:Ka)(base:Option Addr)(len cap:Nat),
 Kb i prog a 46 [.slice base len cap].toArray n s L (λs' v L'=>s=s'/\v= .bool (Mw len)/\L=L'):=by
 constructor;intro j F i a s L base len cap;co_applyP ar 17 func46 ntmps46;co_applyP(aO);co_applyP aK;co_applyP ct ([(2, .bool (Mw len))]);co_applyP(av)
 ·by_cases g:0<len
  ·have e:decide ((0:Int)<(len:Int))=true:=by simp[g]
   rw[e];co_applyP(ay);rw[show Int.tmod (len:Int) 4=((len%4:Nat):Int) by rw[OP bl];rfl];co_applyP(ax);by_cases f:len%4=0
   ·have d:(((len%4:Nat):Int)==0)=true:=by simp[f]
    rw[d];co_applyP(au);change _=_/\_=_/\kn _ _;refine⟨rfl,rfl, ?_⟩;have b:decide ((len:Int)<=1024)=Mw len:=by unfold Mw;simp only[g,f,true_and];congr 1;simp;omega
    rw[<-b];rfl
   ·have d:(((len%4:Nat):Int)==0)=false:=ao
    rw[d];co_applyP(au);change _=_/\_=_/\kn _ _;refine⟨rfl,rfl, ?_⟩;have b:false=Mw len:=by unfold Mw;symm;simp only[decide_eq_false_iff_not];omega
    rw[<-b];rfl
  ·have e:decide ((0:Int)<(len:Int))=false:=ao
   rw[e];co_applyP(aP);change _=_/\_=_/\kn _ _;refine⟨rfl,rfl, ?_⟩;have b:false=Mw len:=by unfold Mw;symm;simp only[decide_eq_false_iff_not];omega
   rw[<-b];rfl
 co_applyP(zo);exact xI _ ⟨rfl,rfl,rfl,rfl⟩
abbrev bts (im:Nat->Int)(n:Nat):List Value:=(List.range n).map λi=>Value.int .u8 (im i)
theorem Fo (a b c e:Int):KF prog (Instr.build 158 [(0, .int .u8 a),(1, .int .u8 b),(2, .int .u8 c),(3, .int .u8 e)].toArray) []=some (.agg #[.int .u8 a, .int .u8 b, .int .u8 c, .int .u8 e],[]):=bD
theorem zB:zeroAt prog 158=some (.agg #[.int .u8 0, .int .u8 0, .int .u8 0, .int .u8 0]):=bD
theorem Cv:KJ prog 158=some 4:=bD
theorem Iy (im:Nat->Int)(j:Nat):bts im (4*(j+1))=bts im (4*j)++[.int .u8 (im (4*j)), .int .u8 (im (4*j+1)), .int .u8 (im (4*j+2)), .int .u8 (im (4*j+3))]:=by
 have:4*(j+1)=4*j+1+1+1+1:=bl
 rw[this];simp only[bts,O4,l3,ix,OD,r5,sc,u6]
theorem zC: ∃n,∀{M}{F:Kn M}{I:DM F}{l s}(L:Ka)(z o len cap:Nat)(im:Nat->Int),(∀cs,(I s).New (.cells cs 158))->K5 L->len%4=0->len<=1024->(∀i,i<len->At L z (o+i) (.int .u8 (im i)))->
 Kb I prog l 47 [.slice (some ⟨z,o,none⟩) len cap].toArray n s L (λs' v L'=>s=s'/\ ∃a,v=Kj a 4 (len/4)/\Kf a (bts im len) 158 L'/\(∀t∈L,a.b≠some t.1)/\Ext L L'):=by
 constructor;intro M F I l s L z o len cap im C T Y hle E;co_applyP ar 36 func47 ntmps47;co_applyP(bf);co_applyP aU (λc s' y L'=>s'=s/\Ext L L'/\ ∃j a,4*j<=len/\c+j=256/\Kf a (bts im (4*j)) 158 L'/\(∀t∈L,a.b≠some t.1)/\kn y [(0, .slice (some ⟨z,o,none⟩) len cap),(4, .int .i64 ((4*j:Nat):Int)),(3,Kj a 4 j)]) 256
 ·exact⟨rfl,⟨T,λ_ h=>h⟩,0,⟨none,[]⟩,bl,rfl,⟨rfl,rfl⟩,λt g=>bE,rfl⟩
 rintro c s' y L' ⟨rfl,B,j,a,X,hc,G,p,he⟩;co_applyP aA he;have D:IntKind.i64.wrap (((4*j:Nat):Int)+4)=((4*(j+1):Nat):Int):=by simp[IntKind.wrap_i64];omega
 have w1:IntKind.i64.wrap (((4*j:Nat):Int)+1)=((4*j+1:Nat):Int):=ag
 have w2:IntKind.i64.wrap (((4*j:Nat):Int)+2)=((4*j+2:Nat):Int):=ag
 have w3:IntKind.i64.wrap (((4*j:Nat):Int)+3)=((4*j+3:Nat):Int):=ag
 co_applyP(aO);co_applyP aI rfl;intro k
 ·rw[D] at k;have J:4*(j+1)<=len:=by simp only[decide_eq_true_eq] at k;omega
  have f: ∀i,i<4->At L' z (o+(4*j+i)) (.int .u8 (im (4*j+i))):=λi W=>by
   obtain⟨Q,cs,ty,N,S,R⟩:=E (4*j+i) bl;exact⟨Q,cs,ty,N,B.s _ S,R⟩
  co_applyP(ax);co_applyP aM [] 22 (nf:=0) mixed;co_applyP(ax);co_applyP tr 3 rfl (gi U44 cP (off:=o+(4*j)) (ho:=by rw[w9,O2])) pN;co_applyP t0 4 rfl (bT (ht:=vu) (hv:=f 0 bl)) pN;co_applyP(ax);rw[w1];co_applyP tr 8 rfl (gi U44 cP (off:=o+(4*j+1)) (ho:=by rw[w9,O2])) pN;co_applyP t0 9 rfl (bT (ht:=vu) (hv:=f 1 bl)) pN;co_applyP(ax);rw[w2];co_applyP tr 13 rfl (gi U44 cP (off:=o+(4*j+2)) (ho:=by rw[w9,O2])) pN;co_applyP t0 14 rfl (bT (ht:=vu) (hv:=f 2 bl)) pN;co_applyP(ax);rw[w3];co_applyP tr 18 rfl (gi U44 cP (off:=o+(4*j+3)) (ho:=by rw[w9,O2])) pN;co_applyP t0 19 rfl (bT (ht:=vu) (hv:=f 3 bl)) pN;co_applyP tr 20 rfl (aQ (Fo _ _ _ _)) pN;co_applyP lD (i:=21) rfl (gI (sz:=4) (hN:=C _) (hv:=rfl) (hu:=vt) (hs:=dz) (hz:=zB) (h0:=bx) (h24:=bx));intro O U r;refine⟨cx bE (λt g=>r.sub t g), ?_⟩;co_applyP aF;intro hnd;have K:Reads prog U 4 1 (.slice (some ⟨O,0,none⟩) 1 1) [Value.int .u8 (im (4*j)), .int .u8 (im (4*j+1)), .int .u8 (im (4*j+2)), .int .u8 (im (4*j+3))].toArray:=by
   have:=bR (P:=prog) (sz:=4) (n:=1) (len:=1) (cap:=1) (o:=0) r.self (by show 0+1*4<=4;decide);exact this
  co_applyP te (i:=22) rfl (iu (a:=a) (by_:=3) (xs:=bts im (4*j)) (n:=j) (m:=1) (hnd:=hnd) (hu:=vt) (hs:=dz) (hb:=Cv) (hz:=zB) (hzs:=rfl) (hN:=C) (ha:=G.mono λc hc o x=>r.sub _ x) (hn:=ao) (hr:=K) (hm:=rfl) (hpl:=rfl) (h0:=bx) (h8:=bl));rintro _ _ ⟨V,rfl,A⟩;refine⟨aj bE, ?_⟩;co_applyP to 23 rfl (fX) (aj bE);co_applyP(aC);change∃k',k'<_/\_;refine⟨c-1,bl,rfl,⟨A.fn,λt g=>A.sub _ (r.sub _ (B.s _ g)) (p t g)⟩,j+1,V,bl,bl, ?_,λt g e=> ?_,by rw[D];rfl⟩
  ·rw[Iy];exact A.ok
  ·rcases A.d _ e with h|h
   ·exact p t g h
   ·exact h _ (r.sub _ (B.s _ g)) rfl
 intro k;co_applyP(aC);change∃v,Ko .. =some v/\_;rw[D] at k;have H:4*j=len:=by simp at k;omega
 have u:len/4=j:=bl
 exact⟨_,rfl,rfl,a,by rw[u],by rw[<-H];exact G,p,B⟩
section
variable {New:Obj->Prop}{N:Nat}{ε:Env}{L:Ka}{d:Option Tmp}{ty:TypeId}{ps:String}{af:Array Edge}{g:Option (Nat×Bool)}{P:Program}
theorem Hu {t:TypeId}(hN:New (.map #[] 0)):EO P New N ε L ⟨d, .makeMap t none,ty,ps,af,g⟩ (λr a=> ∃b,(∀t∈L,t.1≠b)/\r= .map (some b)/\a=(b,true, .map #[] 0)::L):=
 λ_ _=>vn hN λb hb=>⟨b,hb,rfl,rfl⟩
end
def PS.zero:PS:=⟨0,0,0,0,0,0,0,λ_=>0,λ_=>0,λ_=>(0,0),0⟩
def St.bare (c:Nat->Int)(bo:Int)(pn:Nat)(im:Nat->Int):St:=⟨c,bo,pn,λi j=>im (4*i+j),[],0,λ_=>[],λ_=>[],[],0⟩
theorem zF (c:Nat->Int)(bo:Int)(b n cap a:Nat):KF prog (Instr.build 115 [(0,Ln c bo),(1, .slice (some ⟨b,0,none⟩) n cap),(6, .map (some a))].toArray) []=some (.agg (Ks ⟨c,bo, .slice (some ⟨b,0,none⟩) n cap, .slice none 0 0,0,λ_=> .slice none 0 0,λ_=> .slice none 0 0, .map (some a),0⟩),[]):=bD
theorem Iz:KF prog (Instr.build 99 [].toArray) []=some (.agg (Kg PS.zero),[]):=bD
theorem uw {K g cap n len:Nat}{c:Nat->Int}{bo:Int}{im:Nat->Int}{L o L2:Ka}{a:Sl}(hab:a.b=some g)(A:len%4=0)(y:cap=len/4+a.junk.length/4)(ha:Kf a (bts im len) 158 o)(hw:(n,true,Obj.map #[] 0)∈o)(hE:Ext L o)(z: ∀t∈L,a.b≠some t.1) (u: ∀t∈L,t.1≠n)
 (f:Add o K (.cells (Ks ⟨c,bo, .slice (some ⟨g,0,none⟩) (len/4) cap, .slice none 0 0,0,λ_=> .slice none 0 0,λ_=> .slice none 0 0, .map (some n),0⟩) 115) L2):
 Ke K ⟨g,cap,(bts im len++a.junk).toArray,λ_=>⟨none,[]⟩,λ_=>⟨none,[]⟩,n,[],0⟩ (St.bare c bo (len/4) im) L L2 where
 fn:=f.fn
 k:=f.self
 g:=f.sub _ (ha.mem hab)
 gv i j hi hj:=by
  have m:4*i+j<len:=by have:i<len/4:=hi;omega
  simp only[nw];rw[rD (by simpa using m)];simp[m,St.bare]
 p q r:=by cases r
 pn:=by simp[St.bare]
 p8:=by simp[St.bare]
 pa:=⟨rfl,rfl⟩
 rw l hl:=⟨rfl,rfl⟩
 ya i hi:=⟨rfl,rfl⟩
 w:=f.sub _ hw
 wl:=rfl
 bn:=bE
 bc x hx:=by cases hx
 wa e he:=by cases he
 d i j hij hn:=absurd rfl hn
 dy i j hij hn:=absurd rfl hn
 al i c hc:=by cases hc
 yl i c hc:=by cases hc
 fr t ht:=f.sub _ (hE.s _ ht)
 fd t ht:=⟨f.new _ (hE.s _ ht),λq r=>by(cases r),λi h=>by(cases h),λi h=>by(cases h),u t ht⟩
theorem Hv: ∃n,∀{i}{F:Kn i}{f:DM F}{a s}(L:Ka)(c:Nat->Int)(bo:Int)(im:Value),(∀s o,(f s).New o)->K5 L->Mv c bo=false->
 Kb f prog a 29 [Ln c bo,im].toArray n s L (λs' v L'=>s=s'/\v= .tuple #[.pointer none, .int .i64 1]/\Ext L L'):=by
 obtain⟨m,k⟩:=iJ;constructor;intro i F f a s L c bo im g p e;co_applyP ar 24 func29 ntmps29;co_applyP(zo);co_applyP bB rfl (bA (g _ _));intro b l d;co_applyP(ax);co_applyP aK (n₂:=0);co_applyP(zo);co_applyP oy rfl (aW (ht:=kq) (hs:=iY) (hm:=d.self) (hi:=by show 0+4<=4;decide));rw[show (Value.agg (((Ln c bo).cells).extract 0 (0+4)))=Ln c bo from rfl];co_applyP oc rfl rfl rfl (k l c bo (λcs=>g _ _) d.fn);rintro _ _ _ ⟨rfl,rfl,j⟩;rw[e];co_applyP(aO);exact xI _ ⟨rfl,rfl,rfl,(Ext.mk d.fn d.sub).trans j⟩
theorem Hw: ∃n,∀{j}{F:Kn j}{g:DM F}{a s}(L:Ka)(c:Nat->Int)(bo:Int)(base:Option Addr)(len cap:Nat),(∀s o,(g s).New o)->K5 L->Mv c bo=true->Mw len=false->
 Kb g prog a 29 [Ln c bo, .slice base len cap].toArray n s L (λs' v L'=>s=s'/\v= .tuple #[.pointer none, .int .i64 2]/\Ext L L'):=by
 obtain⟨u,m⟩:=iJ;obtain⟨r,k⟩:=nX;constructor;intro j F g a s L c bo base len cap i x f e;co_applyP ar 24 func29 ntmps29;co_applyP(zo);co_applyP bB rfl (bA (i _ _));intro b p d;co_applyP(au);co_applyP oy rfl (aW (ht:=kq) (hs:=iY) (hm:=d.self) (hi:=by show 0+4<=4;decide));rw[show (Value.agg (((Ln c bo).cells).extract 0 (0+4)))=Ln c bo from rfl];co_applyP oc rfl rfl rfl (m p c bo (λcs=>i _ _) d.fn);rintro _ _ _ ⟨rfl,rfl,l⟩;rw[f];co_applyP(av);co_applyP aK (n₂:=0);co_applyP(ay);co_applyP oc rfl rfl rfl (k _ base len cap);rintro _ _ _ ⟨rfl,rfl,rfl⟩;rw[e];co_applyP(aO);exact xI _ ⟨rfl,rfl,rfl,(Ext.mk d.fn d.sub).trans l⟩
theorem Hy: ∃n,∀{σ}{F:Kn σ}{Δ:DM F}{z s}(L:Ka)(c:Nat->Int)(bo:Int)(T o len cap:Nat)(im:Nat->Int),(∀s o,(Δ s).New o)->K5 L->Mv c bo=true->Mw len=true->(∀i,i<len->At L T (o+i) (.int .u8 (im i)))->
 Kb Δ prog z 29 [Ln c bo, .slice (some ⟨T,o,none⟩) len cap].toArray n s L (λs' v L'=>s=s'/\ ∃K A b,v= .tuple #[ptr K, .int .i64 0]/\Ke K A ((St.bare c bo (len/4) im).Jw b PS.zero) L L'):=by
 obtain⟨n1,g1⟩:=iJ;obtain⟨n2,g2⟩:=nX;obtain⟨n3,g3⟩:=zC;obtain⟨n4,g4⟩:=DY;constructor;intro σ F Δ z s L c bo T o len cap im r hF a' C Q;have l:0<len/\len%4=0/\len<=1024:=by unfold Mw at C;simpa using C
 co_applyP ar 24 func29 ntmps29;co_applyP(zo);co_applyP bB rfl (bA (r _ _));intro b L1 H;have X:Ext L L1:=⟨H.fn,H.sub⟩;co_applyP(au);co_applyP oy rfl (aW (ht:=kq) (hs:=iY) (hm:=H.self) (hi:=by show 0+4<=4;decide));rw[show (Value.agg (((Ln c bo).cells).extract 0 (0+4)))=Ln c bo from rfl];co_applyP oc rfl rfl rfl (g1 L1 c bo (λcs=>r _ _) H.fn);rintro _ _ _ ⟨rfl,rfl,V⟩;rename_i u;rw[a'];co_applyP(aR);co_applyP oc rfl rfl rfl (g2 _ _ len cap);rintro _ _ _ ⟨rfl,rfl,rfl⟩;rw[C];co_applyP(av);change Kw ..;have M:(b,true,Obj.cells (Ln c bo).cells 26)∈u:=V.s _ H.self;have D:Ext L u:=X.trans V;have S: ∀(a:Sl)(G:Ka),Kf a (bts im len) 158 G-> ∃g,a.b=some g:=λa G h=>by
  cases b':a.b with
  |some g=>exact⟨g,rfl⟩
  |none=>
   unfold Kf at h;rw[b'] at h;have:=congrArg List.length h.1;simp at this;omega
 co_applyP bL (λP y Y=>s=P/\ ∃K A,Ke K A (St.bare c bo (len/4) im) u Y/\kn y [(6,ptr K)]);co_applyP aM u 5 mixed;co_applyP tr 0 rfl (aW (ht:=kq) (hs:=iY) (hm:=M) (hi:=by show 0+4<=4;decide)) pI;rw[show (Value.agg (((Ln c bo).cells).extract 0 (0+4)))=Ln c bo from rfl];co_applyP(zo);co_applyP t2 (i:=2) (j:=3) rfl rfl rfl (g3 u T o len cap im (λcs=>r _ _) V.f l.2.1 l.2.2 (λi I=>D.at (Q i I))) rfl (Hu (r _ _))
 ·rintro s' v G ⟨rfl,a,rfl,R,E,e⟩;refine⟨cx (λt h=>e.s t h) (λt h=>e.s t h), ?_⟩;obtain⟨g,N⟩:=S a G R;have ev:Kj a 4 (len/4)= .slice (some ⟨g,0,none⟩) (len/4) (len/4+a.junk.length/4):=by unfold Kj;rw[N]
  rw[ev];co_applyP lD (i:=3) rfl (Hu (r _ _));intro U O d;refine⟨cx (λt h=>d.sub _ (e.s t h)) (λt h=>d.sub _ (e.s t h)), ?_⟩;co_applyP to 4 rfl (aQ (zF c bo g _ _ U)) (cx (λt h=>d.sub _ (e.s t h)) (λt h=>d.sub _ (e.s t h)));co_applyP lD (i:=5) rfl (bA (r _ _));intro K L5 p;refine⟨aj (λt h=>p.sub _ (d.sub _ (e.s t h))), ?_⟩;co_applyP to 6 rfl (fX) (aj (λt h=>p.sub _ (d.sub _ (e.s t h))));co_applyP(zo);change _=_/\ ∃K A,_/\kn _ _;exact⟨rfl,K,_,uw N l.2.1 rfl (R.mono λc hc o ho=>d.sub _ ho) d.self ⟨d.fn,λt h=>d.sub _ (e.s t h)⟩ E (λt x=>d.new _ (e.s _ x)) p,rfl⟩
 ·rintro v G ⟨U,J,rfl,rfl⟩;refine⟨cx (λt h=>dc _ h) (λt h=>dc _ h), ?_⟩;have k:=cT (o:= .map #[] 0) V.f J;have e:Ext u ((U,true, .map #[] 0)::u):=⟨k.fn,k.sub⟩;co_applyP tc 2 rfl rfl rfl (g3 _ T o len cap im (λcs=>r _ _) k.fn l.2.1 l.2.2 (λi I=>(D.trans e).at (Q i I)));rintro _ _ _ ⟨rfl,a,rfl,R,E,m⟩;refine⟨cx (λt h=>m.s _ (k.sub t h)) (λt h=>m.s _ (k.sub t h)), ?_⟩;rename_i O;obtain⟨g,N⟩:=S a O R;have ev:Kj a 4 (len/4)= .slice (some ⟨g,0,none⟩) (len/4) (len/4+a.junk.length/4):=by unfold Kj;rw[N]
  rw[ev];co_applyP to 4 rfl (aQ (zF c bo g _ _ U)) (cx (λt h=>m.s _ (k.sub t h)) (λt h=>m.s _ (k.sub t h)));co_applyP lD (i:=5) rfl (bA (r _ _));intro K L5 p;refine⟨aj (λt h=>p.sub _ (m.s _ (k.sub t h))), ?_⟩;co_applyP to 6 rfl (fX) (aj (λt h=>p.sub _ (m.s _ (k.sub t h))));co_applyP(zo);change _=_/\ ∃K A,_/\kn _ _;exact⟨rfl,K,_,uw N l.2.1 rfl R (m.s _ k.self) (e.trans m) (λt x=>E _ (k.sub _ x)) J p,rfl⟩
 rintro P y G ⟨rfl,K,A,hR,he⟩;co_applyP aA he;co_applyP(ay);co_applyP oy rfl (aQ Iz);co_applyP bB rfl (bA (r _ _));intro B O d;have W:Ke K A (St.bare c bo (len/4) im) (pb B PS.zero::u) O:=hR.fresh ⟨d.fn,d.sub⟩ d.new d.self;co_applyP oc rfl rfl rfl (g4 K A _ u O B PS.zero (λcs=>r _ _) W (λt x=>d.new _ (hR.fr t x)) (by simp[St.bare]) (by simp[St.bare]) bx (by simp[St.bare]));rintro _ _ _ ⟨rfl,rfl,A',Z⟩;co_applyP(aR);exact xI _ ⟨rfl,rfl,K,A',B,rfl,Z.less λt x=>D.s t x⟩
section
variable {P:Program}{N:Nat}{ε:Env}{L:Ka}{d:Option Tmp}{ty:TypeId}{ps:String}{af:Array Edge}{g:Option (Nat×Bool)}{t e:TypeId}{x y z:Operand}{b o sz len:Nat}{k1 k2:IntKind}{l h:Int}
theorem zG (hu:P.underlying t=some (.array (len+1) e))(hs:Kd P e=some sz)(hx:ev ε x=some (.pointer (some ⟨b,o,none⟩)):=by rfl):
 EY P N ε L ⟨d, .slice t x none none none,ty,ps,af,g⟩ (.slice (some ⟨b,o,none⟩) (len+1) (len+1)):=by
 unfold EY;intro _ f
 refine cN (λ_=>rfl) λK a=> ?_;simp only[OM,f.ev hx];unfold Instr.sliceAt;rw[aq,aE hu];simp only;rw[aq,de];simp only[Instr.sliceBounds];simp only[aq,bM];rw[cG hs];have i:(if len+1=0 then(⟨b,o,none⟩:Addr) else(⟨b,o,none⟩:Addr).add (0*sz))=⟨b,o,none⟩:=by
  simp[dn]
 rw[i];exact a
end
def Ll (x:PS):List Value:= .int .i64 x.id:: .int .i64 x.par:: .int .i64 x.st:: .int .i64 x.stat:: .int .i64 x.at_:: .int .i64 x.lv:: .int .i64 x.used::(List.range 8).map (λi=> .int .u16 (x.r i))
theorem wu (x:PS):(Kg x).extract (0+0) (0+0+15)=(Ll x).toArray:=rfl
theorem zH:KJ prog 49=some 72:=bD
theorem ux:zeroAt prog 49=some (.agg (Ll PS.zero).toArray):=bD
def LD (l:List (Nat×PS)):List Value:=l.flatMap λq=>Ll q.2
theorem fI (l:List (Nat×PS)):(LD l).length=l.length*15:=by
 induction l with
 |nil=>rfl
 |cons q l ih=>
  have:LD (q::l)=Ll q.2++LD l:=rfl;rw[this,mb,ih];simp[Ll];omega
theorem tw (l:List (Nat×PS))(q:Nat×PS):LD (l++[q])=LD l++Ll q.2:=by simp[LD]
theorem Cw: ∃n,∀{T}{F:Kn T}{O:DM F}{j s}(K:Nat)(A:Kq)(S:St)(Fr L:Ka),(∀s o,(O s).New o)->Ke K A S Fr L->
 Kb O prog j 20 [ptr K].toArray n s L (λs' v L'=>s=s'/\ ∃a,v=Kj a 15 S.ps.length/\Kf a (LD S.ps) 49 L'/\(∀t∈L,a.b≠some t.1)/\Ext L L'):=by
 obtain⟨n1,Z⟩:=DJ;constructor;intro T F O j s K A S Fr L G B;obtain⟨z,cap,H,J⟩:=bH B.pa;simp only[ia] at H;co_applyP ar 22 func20 ntmps20;co_applyP(bm);co_applyP oc rfl rfl rfl (Z K A S Fr L B);rintro _ _ _ ⟨rfl,rfl,rfl⟩;rw[H];co_applyP(av);co_applyP aU (λk s' x L'=>s'=s/\Ext L L'/\ ∃f i a,S.ps=f++i/\k+f.length=8/\Kf a (LD f) 49 L'/\(∀t∈L,a.b≠some t.1)/\kn x [(9, .int .i64 f.length),(8, .int .i64 S.ps.length),(7, .slice z S.ps.length cap),(3,Kj a 15 f.length)]) 8
 ·exact⟨rfl,⟨B.fn,λ_ h=>h⟩,[],S.ps,⟨none,[]⟩,rfl,rfl,⟨rfl,rfl⟩,λt l=>bE,rfl⟩
 rintro k s' x L' ⟨rfl,y,f,i,a,u,hk,E,r,he⟩;co_applyP aA he;have g:=congrArg List.length u;simp only[mb] at g;have Y:=B.p8;co_applyP(ax);co_applyP aK;co_applyP aI rfl;intro hc
 ·cases i with
  |nil=>simp at hc g;omega
  |cons q i=>
   obtain⟨b,hb,I,M⟩:=J f.length (ptr q.1) (by rw[u];simp);subst I;have R:At L' b f.length (ptr q.1):=y.at M;have X:=y.s _ (B.p q (by rw[u];simp));simp at g;have W:IntKind.i64.wrap ((f.length:Int)+1)=((f++[q]).length:Int):=ag
   co_applyP(bQ);co_applyP oy rfl (aW (ht:=qD) (hs:=gq) (hm:=X) (hi:=by rw[bq];omega));rw[wu];co_applyP bB rfl (gI (sz:=15) (hN:=G _ _) (hv:=rfl) (hu:=U42) (hs:=gq) (hz:=ux) (h0:=bx) (h24:=bx));intro V L1 C;have Q:Reads prog L1 15 1 (.slice (some ⟨V,0,none⟩) 1 1) (Ll q.2).toArray:=by
    have:=bR (P:=prog) (sz:=15) (n:=1) (len:=1) (cap:=1) (o:=0) C.self (by show 0+1*15<=15;decide);exact this
   co_applyP oeN rfl (λhnd=>iu (a:=a) (by_:=71) (xs:=LD f) (n:=f.length) (m:=1) (hnd:=hnd) (hu:=U42) (hs:=gq) (hb:=zH) (hz:=ux) (hzs:=rfl) (hN:=λcs=>G _ _) (ha:=E.mono λc hc o U=>C.sub _ U) (hn:=fI f) (hr:=Q) (hm:=rfl) (hpl:=rfl) (h0:=bx) (h8:=bl));rintro _ L2 ⟨a',rfl,D⟩;co_applyP(aC);change∃k',k'<_/\_;refine⟨k-1,bl,rfl,⟨D.fn,λt l=>D.sub _ (C.sub _ (y.s _ l)) (r t l)⟩,f++[q],i,a',by simp[u],by simp;omega, ?_,λt l e=> ?_, ?_⟩
   ·rw[tw];exact D.ok
   ·rcases D.d _ e with h|h
    ·exact r t l h
    ·exact h _ (C.sub _ (y.s _ l)) rfl
   ·rw[<-W,show (f++[q]).length=f.length+1 by simp];rfl
 intro hc;co_applyP(aC);change∃v,Ko .. =some v/\_;have N:i=[]:=by
  cases i with
  |nil=>rfl
  |cons q i=>simp at hc g;omega
 subst N;simp only[wc] at u;rw[<-u] at E;exact⟨_,rfl,rfl,a,by rw[u],E,r,y⟩
theorem zI: ∃n,∀{A}{F:Kn A}{x:DM F}{f s}(L:Ka)(Q o len cap:Nat)(cs:Array Value)(e:TypeId)(fl:Bool),(∀s o,(x s).New o)->K5 L->(Q,fl,Obj.cells cs e)∈L->0<len->len<=1000->o+len<=cs.size->(∀v∈cs.toList,Km v=true)->
 Kb x prog f 38 [.slice (some ⟨Q,o,none⟩) len cap].toArray n s L (λs' v L'=>s=s'/\ ∃a,v=Kj a 1 len/\Kf a (cs.extract o (o+len)).toList 5 L'/\(∀t∈L,a.b≠some t.1)/\Ext L L'):=by
 constructor;intro A F x f s L Q o len cap cs e fl u I hm h0 r D i;co_applyP ar 8 func38 ntmps38;co_applyP(aC);co_applyP oy rfl (DO U44);co_applyP(av);co_applyP bB rfl (DR (u _ _) (hu:=U44) (hs:=cP));intro p G g;co_applyP(zo);have z:Reads prog G 1 len (.slice (some ⟨Q,o,none⟩) len cap) (cs.extract o (o+len)).toList.toArray:=by
  have:=bR (P:=prog) (sz:=1) (n:=len) (len:=len) (cap:=cap) (o:=o) (g.sub _ hm) bl;rw[w9] at this;exact this
 have k:Value.slice (some ⟨p,0,none⟩) 0 0=Kj ⟨some p,[]⟩ 1 0:=by simp[Kj]
 rw[k];have E:(cs.extract o (o+len)).toList.length=len*1:=ao
 co_applyP oeN rfl (λhnd=>iu (a:=⟨some p,[]⟩) (by_:=0) (xs:=[]) (ys:=(cs.extract o (o+len)).toList) (n:=0) (m:=len) (hnd:=hnd) (hu:=U44) (hs:=cP) (hb:=nH) (hz:=qT) (hzs:=rfl) (hN:=λcs=>u _ _) (ha:=g.self) (hn:=rfl) (hr:=z) (hm:=E) (hpl:=by rw[OF];intro v y;simp only[OC,u7] at y;exact i v (List.mem_of_mem_drop (List.mem_of_mem_take y))) (h0:=bx) (h8:=bl));rintro _ B ⟨H,rfl,l⟩;co_applyP(ax);change∃v,Ko .. =some v/\_;have C:Ext L B:=⟨l.fn,λt j=>l.sub _ (g.sub _ j) (by simpa using (g.new _ j).symm)⟩;refine⟨_,rfl,rfl,H,by rw[ic],l.ok,λt j e=> ?_,C⟩;rcases l.d _ e with h|h
 ·exact g.new t j (by simpa using h.symm)
 ·exact h _ (g.sub _ j) rfl
def mems (x:PS):List Value:=(List.range 64).map λi=> .int .u8 (x.m i)
theorem po (x:PS): ∀v∈(Kg x).toList,Km v=true:=by
 intro v a;have:(Kg x).toList.all Km=true:=rfl;exact OF.1 this v a
theorem zJ (x:PS):((Kg x).extract (0+15) (0+15+64)).toList=mems x:=by
 have h:=qU x;have a:(Kg x).extract (0+15) (0+15+64)=((List.range 64).map λi=>Value.int .u8 (x.m i)).toArray:=Value.agg.inj h;rw[a];rfl
theorem zK: ∃n,∀{d}{F:Kn d}{b:DM F}{a s}(K:Nat)(A:Kq)(S:St)(Fr L:Ka)(id:Int),Ke K A S Fr L->S.find id=none->
 Kb b prog a 21 [ptr K, .int .i64 id].toArray n s L (λs' v L'=>s=s'/\v= .tuple #[.slice none 0 0, .int .i64 4]/\L=L'):=by
 obtain⟨i,g⟩:=jY;constructor;intro d F b a s K A S Fr L id e f;co_applyP ar 17 func21 ntmps21;co_applyP(aR);co_applyP oc rfl rfl rfl (g K A S Fr L id e);rintro _ _ _ ⟨rfl,rfl,rfl⟩;rw[f];simp only[OM,MB];co_applyP(ay);co_applyP aK (n₂:=0);co_applyP(aP);exact xI _ ⟨rfl,rfl,rfl,rfl⟩
theorem zL: ∃n,∀{k}{F:Kn k}{g:DM F}{d s}(K:Nat)(A:Kq)(S:St)(Fr L:Ka)(id:Int)(b:Nat)(x:PS),(∀s o,(g s).New o)->Ke K A S Fr L->S.find id=some (b,x)->
 Kb g prog d 21 [ptr K, .int .i64 id].toArray n s L (λs' v L'=>s=s'/\ ∃a,v= .tuple #[Kj a 1 64, .int .i64 0]/\Kf a (mems x) 5 L'/\(∀t∈L,a.b≠some t.1)/\Ext L L'):=by
 obtain⟨z,r⟩:=jY;obtain⟨y,l⟩:=zI;constructor;intro k F g d s K A S Fr L id b x u f i;have hb:(b,x)∈S.ps:=Ox i;co_applyP ar 17 func21 ntmps21;co_applyP(aR);co_applyP oc rfl rfl rfl (r K A S Fr L id f);rintro _ _ _ ⟨rfl,rfl,rfl⟩;rw[i];simp only[qs,MB];co_applyP(bQ);co_applyP oy rfl (zG U94 cP);co_applyP oc rfl rfl rfl (l L b (0+15) 64 64 (Kg x) 99 true u f.fn (f.p _ hb) bx bx (by rw[bq];decide) (po x));rintro _ _ _ ⟨rfl,a,rfl,j,e,m⟩;co_applyP(av);change∃v,Ko .. =some v/\_;rw[zJ] at j;exact⟨_,rfl,rfl,a,rfl,j,e,m⟩
theorem Fp: ∃n,∀{j}{F:Kn j}{f:DM F}{a s}(L:Ka)(K:Option Addr)(m:Int),(∀s o,(f s).New o)->K5 L->(m<0\/2000<m)->
 Kb f prog a 19 [.pointer K, .int .i64 m].toArray n s L (λs' v L'=>s=s'/\v= .tuple #[.slice none 0 0, .int .i64 3]/\Ext L L'):=by
 constructor;intro j F f a s L K m i x hm;co_applyP ar 25 func19 ntmps19;co_applyP(zo);co_applyP bB rfl (bA (i _ _));intro kb y e;co_applyP bB rfl (bA (i _ _));intro r g b;have p:Ext L g:=⟨b.fn,λt h=>b.sub _ (e.sub _ h)⟩;have u:At g r 0 (.int .i64 m):=⟨true,_,_,_,b.self,rfl⟩;co_applyP(ax);co_applyP aK (n₂:=0);co_applyP aK;co_applyP ct ([(15, .bool true)]);co_applyP(av)
 ·by_cases k:m<0
  ·have d:decide (m<0)=true:=by simp[k]
   rw[d];co_applyP(av);change _=_/\_=_/\kn _ _;exact⟨rfl,rfl,rfl⟩
  ·have d:decide (m<0)=false:=ao
   rw[d];co_applyP(av);change _=_/\_=_/\kn _ _;refine⟨rfl,rfl, ?_⟩;have l:decide (2000<m)=true:=ao
   rw[l];rfl
 co_applyP(aC);exact xI _ ⟨rfl,rfl,rfl,p⟩
end Go.Proofs.YtejkelcaljmnoaaGreatDoor
namespace Go.Lo
open Go.Conc Go.Hx
def KU (l:List Int):Value:= .string ⟨(l.map λn=>UInt8.ofNat n.toNat).toArray⟩
def NS (l:List Int):Prop:= ∀n∈l,0<=n/\n<256
section
variable {P:Program}{N:Nat}{ε:Env}{L:Ka}{d:Option Tmp}{ty:TypeId}{ps:String}{af:Array Edge}{g:Option (Nat×Bool)}{x y:Operand}{t u:TypeId}{New:Obj->Prop}
theorem kC (f:Value->ByteArray->Sem (ForInStep ByteArray))(hf: ∀(n:Int)(r:ByteArray),f (.int .u8 n) r=pure (.yield (r.push (UInt8.ofNat n.toNat)))):
 ∀(l:List Int)(s:ByteArray),forIn (l.map (Value.int .u8)) s f=(pure ⟨s.data++(l.map λn=>UInt8.ofNat n.toNat).toArray⟩:Sem ByteArray)
 |[],s=>by simp
 |n::l,s=>by
  simp only[ix,List.forIn_cons];rw[hf];show forIn (l.map (Value.int .u8)) (s.push (UInt8.ofNat n.toNat)) f=_;rw[kC f hf l];congr 1;apply ByteArray.ext;apply gm;simp
theorem zM {l:List Int}{b o len cap:Nat}{cs:Array Value}{e e':TypeId}{fr:Nat×Nat}{fl:Bool}(hx:ev ε x=some (.slice (some ⟨b,o,none⟩) len cap):=by rfl)(ht:P.underlying t=some (.slice e))(he:P.underlying e=some (.int .u8))(hu:P.underlying u=some .string)(hm:(b,fl, .cells cs e' fr)∈L)(hc:o+len<=cs.size)(hl:cs.extract o (o+len)=(l.map (Value.int .u8)).toArray):EY P N ε L ⟨d, .convert t u x,ty,ps,af,g⟩ (KU l):=λa i=>by
 refine cN (λ_=>rfl) λK f=> ?_;unfold convert;rw[i.ev hx,aq,aE ht,aq,aE hu];simp only;rw[aq,aE he];show Kz P (Conv.bytesToString _) K L;unfold Conv.bytesToString;simp only;rw[aq];refine fo hm hc ?_;rw[hl,List.forIn_toArray,kC _ (λn r=>rfl)];have j:(⟨ByteArray.empty.data++(l.map λn=>UInt8.ofNat n.toNat).toArray⟩:ByteArray)=⟨(l.map λn=>UInt8.ofNat n.toNat).toArray⟩:=by apply ByteArray.ext;simp
 rw[j];exact f
theorem Fq {e:TypeId}{n m:Nat}(hx:ev ε x=some (.slice none n m):=by rfl)(ht:P.underlying t=some (.slice e))(he:P.underlying e=some (.int .u8))(hu:P.underlying u=some .string):EY P N ε L ⟨d, .convert t u x,ty,ps,af,g⟩ (KU []):=λa b=>by
 refine cN (λ_=>rfl) λK f=> ?_;unfold convert;rw[b.ev hx,aq,aE ht,aq,aE hu];simp only;rw[aq,aE he];exact f
end
end Go.Lo
namespace Go.Proofs.YtejkelcaljmnoaaGreatDoor
open Go.Conc Go.Hx Go.Lo Tryz
def N8 (c:Int):Prop:= -9223372036854775808<=c/\c<=9223372036854775807
def pickN (c:Int)(n:Nat):Nat:=(if c<0 then-(c+1) else c).toNat%n
theorem zN {a:Int}{n:Nat}(h:0<=a):a.tmod (n:Int)=((a.toNat%n:Nat):Int):=by
 rw[OP h];obtain⟨m,rfl⟩:=Int.eq_ofNat_of_zero_le h;simp
theorem zO (c:Int){n:Nat}(h:0<n):pickN c n<n:=Nat.mod_lt _ h
theorem Hz (a b c:Int):KF prog (Instr.build 24 [(0, .int .i64 a),(1, .int .i64 b),(2, .int .i64 c)].toArray) []=some (.agg #[.int .i64 a, .int .i64 b, .int .i64 c],[]):=bD
theorem HA (a b c e:Int):KF prog (Instr.build 26 [(0, .agg #[.int .i64 a, .int .i64 b, .int .i64 c]),(1, .int .i64 e)].toArray) []=some (.agg #[.int .i64 a, .int .i64 b, .int .i64 c, .int .i64 e],[]):=bD
def St.fresh (c:Nat->Int)(bo:Int)(l:List Int)(b:Nat):St:=(St.bare c bo (l.length/4) (λi=>l.getD i 0)).Jw b PS.zero
end Go.Proofs.YtejkelcaljmnoaaGreatDoor
