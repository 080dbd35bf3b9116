/- Part 3 of the proof. -/
import Derived.Test.YtejkelcaljmnoaaGreatDoorHy02
import Derived.Laws.Externs
import Derived.Stop.Asserts
set_option maxRecDepth 100000
set_option maxHeartbeats 4000000
set_option linter.all false
namespace Go.Lo
open Go.Conc Go.Hx
section
variable {σ:Type}(F:Kn σ)(P:Program)(main:Bool)(fn:FuncId)(ops:Array Oper)(S:Array Bool->σ->World->Prop)(Q:σ->Exit->Act->World->Prop)(nf:Nat)
def LA:Nat->Array Bool->σ->Act->World->Prop
 |0,ls,s,a,w=>Region.ready .any ops ls=[]/\Q s .normal a w
 |fuel+1,ls,s,a,w=>
  (Region.ready .any ops ls=[]->Q s .normal a w)/\
  ∀i∈Region.ready .any ops ls,OpX F P main fn ops nf i (λs' a' w'=>S (ls.setIfInBounds i true) s' w'/\LA fuel (ls.setIfInBounds i true) s' a' w') s a w
def Down (ls:Array Bool):Prop:=ls.size=ops.size/\ ∀j oj,ops[j]? =some oj->ls.getD j true=true-> ∀e∈oj.after,Region.binds .any e=true->ls.getD e.on false=true
end
def Nc (ops:Array Oper):Nat->Nat->Nat->Bool
 |0,_,_=>false
 |f+1,e,i=>match ops[e]? with
  |some oe=>oe.after.any λed=>Region.binds .any ed&&(ed.on==i||Nc ops f ed.on i)
  |none=>false
section
variable {ops:Array Oper}{ls:Array Bool}
theorem oN {i:Nat}(h:ls.getD i false=true):ls.getD i true=true:=by
 simp only[vp] at*;cases a:ls[i]? <;>simp_all
theorem Down.hangs (h:Down ops ls): ∀(f e i:Nat),Lo.Nc ops f e i=true->ls.getD e true=true->ls.getD i false=true
 |0,_,_,hh,_=>by simp[Lo.Nc] at hh
 |f+1,e,i,hh,he=>by
  unfold Lo.Nc at hh
  split at hh
  ·rename_i oe b;obtain⟨d,a,hb⟩:=Array.any_eq_true'.1 hh;simp only[Bool.and_eq_true,Bool.or_eq_true,beq_iff_eq] at hb;have g:=h.2 e oe b he d a hb.1;rcases hb.2 with rfl|j
   ·exact g
   ·exact h.hangs f d.on i j (oN g)
  ·cases hh
theorem qo {i j:Nat}{d:Bool}(h:ls.getD j d=true):(ls.setIfInBounds i true).getD j d=true:=by
 simp only[vp,O7] at*
 split
 ·split<;>simp_all
 ·exact h
theorem Down.step (h:Down ops ls){i:Nat}(hi:i∈Region.ready .any ops ls):Down ops (ls.setIfInBounds i true):=by
 obtain⟨l,oi,f,d⟩:=mem_ready.1 hi;refine⟨by simpa using h.1,λj k b g e he hb=> ?_⟩;by_cases a:i=j
 ·subst a;obtain rfl:=gu (f.symm.trans b);exact qo (d e he hb)
 ·refine qo (h.2 j k b ?_ e he hb);simpa [vp,O7,a] using g
theorem lx:Down ops (Array.replicate ops.size false):=by
 refine⟨bE,λj d a b=> ?_⟩;have:j<ops.size:=(ib.1 a).1;simp[vp,this] at b
end
section
variable {σ:Type}{F:Kn σ}{P:Program}{main:Bool}{fn:FuncId}{ops:Array Oper}{S:Array Bool->σ->World->Prop}{Q:σ->Exit->Act->World->Prop}{nf:Nat}
theorem LA.rely (l: ∀ls s x y,S ls s x->F.R s x y->S ls s y) (d: ∀s a x y,Q s .normal a x->F.R s x y->Q s .normal a y):
 ∀(fuel:Nat)(ls:Array Bool)(s:σ)(a:Act)(w b:World),LA F P main fn ops S Q nf fuel ls s a w->F.R s w b->LA F P main fn ops S Q nf fuel ls s a b
 |0,_,_,_,_,_,h,r=>⟨h.1,d _ _ _ _ h.2 r⟩
 |fuel+1,ls,s,a,w,b,h,r=>⟨λe=>d _ _ _ _ (h.1 e) r,λi p=>by
  rcases h.2 i p with this|⟨o,f,args,m,j,A,B,C,z,u⟩
  ·refine .inl ?_;unfold OpC at*
   split
   ·simp_all
   ·rename_i o n;simp only[n] at this
    split
    ·rename_i hw;simp only[hw,if_true] at this;exactλk g=>this k ((F.terms s).trans _ _ _ r g)
    ·rename_i hw;simp only[hw] at this;exact⟨l _ _ _ _ this.1 r,LA.rely l d fuel _ _ _ _ _ this.2 r⟩
  ·exact .inr ⟨o,f,args,m,j,A,B,C,pW z r,u⟩⟩
theorem sx: ∀(fuel t:Nat)(ls:Array Bool)(s:σ)(a:Act)(w:World),LA F P main fn ops S Q nf fuel ls s a w->
 Lp F P main fn ops (Region.linearise.go .any ops fuel t ls []) (fuel*(nf+3)+1) s Q a w:=by
 intro fuel
 induction fuel with
 |zero=>intro t ls s a w h;simpa [Region.linearise.go] using bG h.2
 |succ fuel ih=>
  intro t ls s a w h;obtain⟨b,d⟩:=h;simp only[Region.linearise.go]
  change Lp F P main fn ops (match (Region.ready .any ops ls)[t%(Region.ready .any ops ls).length]? with
   |some i=>Region.linearise.go .any ops fuel (t/(Region.ready .any ops ls).length) (ls.setIfInBounds i true) [i]
   |none=>[].reverse) ((fuel+1)*(nf+3)+1) s Q a w
  cases g:(Region.ready .any ops ls)[t%(Region.ready .any ops ls).length]? with
  |none=>
   have e:Region.ready .any ops ls=[]:=by
    cases j:Region.ready .any ops ls with
    |nil=>rfl
    |cons x xs=>
     rw[j] at g;have f:t%(x::xs).length<(x::xs).length:=Nat.mod_lt _ bE;simp at g;simp at f;omega
   exact fw (by simpa using bG (b e)) bl
  |some i=>
   simp only[];rw[linearise_go_acc,List.reverse_singleton,List.singleton_append];have:=p5 (pY (λm k l x=>ih (t/(Region.ready .any ops ls).length) _ m k l x.2) (d i (l5 g)));exact fw this (by rw[Ou];omega)
theorem A0 {j:Nat}{oi e:Oper}{v:Value}(B:ops[j]? =some e)(A:oi.apart ops e=true)
 (z: ∀cs b,e.op≠ .select cs b) {K:σ->Act->World->Prop} {s:σ} {a:Act} {w:World} (h:OpX F P main fn ops nf j K s (a.put oi.dst v) w):
 OpX F P main fn ops nf j (λs' G w'=>(∃u,G=a.put e.dst u)/\K s' (G.put oi.dst v) w') s a w:=by
 obtain⟨m,l,N⟩:=Oper.apart_spec A;rcases h with h|⟨o,f,args,p,i,M,C,D,E,I⟩
 ·refine .inl ?_;unfold OpC at*;simp only[B] at*;rw[wanted_put e a oi.dst v m] at h
  split
  ·rename_i hw;simp only[hw,if_true] at h;intro g k;have h:=h g k;unfold listed at*;rw[execOp_put e z a oi.dst v m] at h;generalize (execOp a.eval e).run P g=r at*;cases r with
   |ok n w'=>
    cases n<;>simp only[uponK] at h⊢
    case value u=>exact⟨h.1,⟨u,rfl⟩,by rw[<-Act.put_comm a v u l];exact h.2⟩
    case skip=>exact⟨h.1,⟨_,rfl⟩,by rw[<-Act.put_comm a v undef l];exact h.2⟩
   |halt x w'=>simp only[uponK] at h
  ·rename_i hw;simp only[hw] at h;exact⟨⟨_,rfl⟩,by rw[<-Act.put_comm a v undef l];exact h⟩
 ·obtain rfl:e=o:=gu (B.symm.trans M);refine .inr ⟨e,f,args,p,i,B,by rw[wanted_put e a oi.dst v m] at C;exact C,D, ?_,λs' u w' H=>⟨⟨u,rfl⟩,by rw[<-Act.put_comm a v u l];exact I s' u w' H⟩⟩;have:args.map (a.put oi.dst v).eval=args.map a.eval:=by
   apply Array.map_congr_left;intro x J;refine Act.eval_put λd L y=>m d L ?_;subst y;refine nx _ (List.mem_filterMap.2 ⟨.tmp d, ?_,rfl⟩);simp[D,Op.operands,Call.operands,J]
  rw[this] at E;exact E
def YY (F:Kn σ)(P:Program)(fn:FuncId)(ops:Array Oper)(S:Array Bool->σ->World->Prop)(i:Nat)(oi:Oper)(v:Value)(a:Act):Prop:=
 ∀ls,Down ops ls->ls.getD i true=false->Nl F P fn ops (S ls) oi v a
theorem sB (n: ∀ls s x y,S ls s x->F.R s x y->S ls s y) (X: ∀s a x y,Q s .normal a x->F.R s x y->Q s .normal a y) {i:Nat} {oi:Oper} {v:Value} (hi:ops[i]? =some oi)
 (A: ∀(j:Nat)(o:Oper) cs b,ops[j]? =some o->o.op≠ .select cs b) (D: ∀ls s w,S ls s w↔S (ls.setIfInBounds i true) s w):
 ∀(fuel:Nat)(ls:Array Bool)(s:σ)(a:Act)(w:World),Down ops ls->
  (∀j p,ops[j]? =some p->j≠i->ls.getD j true=false->(∀e∈p.after,Region.binds .any e=true->e.on≠i)->oi.apart ops p=true)->
  i∈Region.ready .any ops ls->YY F P fn ops S i oi v a->S ls s w->
  LA F P main fn ops S Q nf fuel (ls.setIfInBounds i true) s (a.put oi.dst v) w->LA F P main fn ops S Q nf (fuel+1) ls s a w:=by
 have Y: ∀fuel ls,∀s a x y,(S ls s x/\LA F P main fn ops S Q nf fuel ls s a x)->F.R s x y->(S ls s y/\LA F P main fn ops S Q nf fuel ls s a y):=
  λfuel ls s a x y h r=>⟨n _ _ _ _ h.1 r,LA.rely n X fuel ls s a x y h.2 r⟩
 intro fuel
 induction fuel with
 |zero=>
  intro ls s a w O _ m N M H;refine⟨λh=>(by rw[h] at m;cases m),λj K=> ?_⟩;have f:=(mem_ready.1 m).1;by_cases d:j=i
  ·subst d;exact(N ls O f).opX (n ls) hi (Y _ _) M ⟨(D _ _ _).1 M,H⟩
  ·have:=ready_mono K d;rw[H.1] at this;cases this
 |succ fuel ih=>
  intro ls s a w O g m N M H;have f:=(mem_ready.1 m).1;refine⟨λh=>(by rw[h] at m;cases m),λj K=> ?_⟩;by_cases d:j=i
  ·subst d;exact(N ls O f).opX (n ls) hi (Y _ _) M ⟨(D _ _ _).1 M,H⟩
  ·have B:=H.2 j (ready_mono K d);obtain⟨z,p,C,E⟩:=mem_ready.1 K;have I: ∀e∈p.after,Region.binds .any e=true->e.on≠i:=λe he hb heq=>by
    have B:=E e he hb;have h0:=(mem_ready.1 m).1;rw[heq] at B;rcases Nat.lt_or_ge i ls.size with V|V
    ·simp[V] at h0 B;rw[h0] at B;cases B
    ·simp[Array.getElem?_eq_none V] at B
   have J:=g j p C d z I;obtain⟨g1,g2,g3⟩:=Oper.apart_spec J;have h2:=A0 C J (λcs b=>A j p cs b C) B
   have l: ∀k ok,ops[k]? =some ok->k≠i->(ls.setIfInBounds j true).getD k true=false->
    (∀e∈ok.after,Region.binds .any e=true->e.on≠i)->oi.apart ops ok=true:=λk ok hk T f U=>by
    refine g k ok hk T ?_ U;by_cases G:j=k
    ·subst G;exact z
    ·rw[getD_set_ne true G] at f;exact f
   have b':(ls.setIfInBounds j true).getD i true=false:=by rw[getD_set_ne true d];exact f
   refine pY (λZ a' w' h3=> ?_) h2;obtain⟨⟨u,rfl⟩,h4,h5⟩:=h3;have L:S (ls.setIfInBounds j true) Z w':=by
    rw[D,Array.setIfInBounds_comm _ _ d];exact h4
   refine⟨L,ih (ls.setIfInBounds j true) Z _ w' (O.step K) l (ready_mono m (ft d)) (λW d' u' s=>(N W d' u' s).of_same (execOp_put oi (λcs b=>A i oi cs b hi) a p.dst u g3) (wanted_put oi a p.dst u g3)) L ?_⟩;rw[Array.setIfInBounds_comm _ _ d];exact h5
theorem jW (b: ∀ls s x y,S ls s x->F.R s x y->S ls s y) (d: ∀s a x y,Q s .normal a x->F.R s x y->Q s .normal a y) {i:Nat} {oi:Oper} {v:Value} {fuel:Nat} {ls:Array Bool} {s:σ} {a:Act} {w:World} (hi:ops[i]? =some oi)
 (hs:Region.noSelect ops=true) (hf:Region.free .any ops ls i=true) (hr:(Region.ready .any ops ls).contains i=true) (f:Down ops ls) (e: ∀ls s w,S ls s w↔S (ls.setIfInBounds i true) s w)
 (hy:YY F P fn ops S i oi v a) (g:S ls s w) (h:LA F P main fn ops S Q nf fuel (ls.setIfInBounds i true) s (a.put oi.dst v) w):LA F P main fn ops S Q nf (fuel+1) ls s a w:=
 sB b d hi (Region.noSelect_spec hs) e fuel ls s a w f (Region.free_spec hi hf) (by simpa using hr) hy g h
theorem iS {rs:List Nat}{fuel:Nat}{ls:Array Bool}{s:σ}{a:Act}{w:World}(hr:Region.ready .any ops ls=rs)(b:rs≠[])
 (h: ∀i∈rs,OpX F P main fn ops nf i (λs' d w'=>S (ls.setIfInBounds i true) s' w'/\LA F P main fn ops S Q nf fuel (ls.setIfInBounds i true) s' d w') s a w):LA F P main fn ops S Q nf (fuel+1) ls s a w:=
 ⟨λh0=>absurd (hr▸h0) b,hr▸h⟩
theorem nh {ls:Array Bool}{s:σ}{a:Act}{w:World}(hr:Region.ready .any ops ls=[])(h:Q s .normal a w): ∀fuel,LA F P main fn ops S Q nf fuel ls s a w
 |0=>⟨hr,h⟩
 |_+1=>⟨λ_=>h,λi b=>by rw[hr] at b;cases b⟩
theorem ly {s:σ}(hd:LetsDraw (F.D s)){id:Nat}{a:Act}{w:World}(hm:P.follows .mixedOrders=true)
 (h: ∀d,F.R s w d->LA F P main fn ops S Q nf ops.size (Array.replicate ops.size false) s a {d with drawn:=d.drawn+1}):MG F P main fn (Code.region id ops true) (ops.size*(nf+3)+1+1) s Q a w:=
 λb k cs m hb f hc=>Goes.step rfl λd e=>by
  rw[stepG_region_draw];refine⟨hd _, ?_⟩;have:=sx ops.size (d.tape d.drawn (.order b.fn id)) _ s a _ (h d e) b k cs m hb f hc;simp only[Region.schedule,hm,Bool.true_or,if_true];exact this
end
section
variable {σ:Type}{F:Kn σ}(Δ: ∀s,Ma (F.R s) (F.D s)) (P:Program) (main:Bool) (fn:FuncId) (ops:Array Oper) (Q:σ->Exit->Act->Ka->Prop) (nf:Nat)
def LR (R L0:Ka)(e:Nat)(s0:σ)(ls:Array Bool)(s:σ)(L:Ka):Prop:=s=s0/\(∀t∈R,t∈L)/\(ls.getD e true=false-> ∀t∈L0,t∈L)
def LV (R L0:Ka)(e:Nat)(s0:σ)(fuel:Nat)(ls:Array Bool)(s:σ)(a:Act)(L:Ka):Prop:=
 Down ops ls-> ∀w,(Δ s).Own L w->LA F P main fn ops (λls s w=> ∃L,(Δ s).Own L w/\LR R L0 e s0 ls s L) (up Δ Q) nf fuel ls s a w
end
section
variable {σ:Type}{F:Kn σ}{Δ: ∀s,Ma (F.R s) (F.D s)} {P:Program} {main:Bool} {fn:FuncId} {ops:Array Oper} {Q:σ->Exit->Act->Ka->Prop} {nf:Nat} {R L0:Ka} {e:Nat} {s0 s:σ} {fuel:Nat} {ls:Array Bool} {a:Act} {L:Ka}
theorem qt {ls:Array Bool}{s:σ}{x y:World}(h: ∃L,(Δ s).Own L x/\LR R L0 e s0 ls s L)(r:F.R s x y): ∃L,(Δ s).Own L y/\LR R L0 e s0 ls s L:=by
 obtain⟨L,a,b⟩:=h;exact⟨L,(Δ s).rely a r,b⟩
theorem A8 {s:σ}{x:Exit}{a:Act}{w b:World}(h:up Δ Q s x a w)(r:F.R s w b):up Δ Q s x a b:=by
 obtain⟨L,d,e⟩:=h;exact⟨L,(Δ s).rely d r,e⟩
theorem xz (R:Ka)(e:Nat){id:Nat}(hm:P.follows .mixedOrders=true)(h:LV Δ P main fn ops Q nf R L e s ops.size (Array.replicate ops.size false) s a L):Mz Δ P main fn (.region id ops true) (ops.size*(nf+3)+1+1) s Q a L:=by
 intro w g;refine ly (S:=λi f w=> ∃L',(Δ f).Own L' w/\LR R L e s i f L') (Δ s).ld hm λd b=>h lx _ ((Δ s).draw ((Δ s).rely g b)).1
theorem lz: ∀(s:σ)(a:Act)(x y:World),up Δ Q s .normal a x->F.R s x y->up Δ Q s .normal a y:=λ_ _ _ _ h r=>A8 h r
theorem nj {i:Nat}{oi:Oper}{v:Value}{f:Ka}(hi:ops[i]? =some oi)(hs:Region.noSelect ops=true)(hf:Region.free .any ops ls i=true)(hr:(Region.ready .any ops ls).contains i=true)(o:i≠e)(n:f=R\/(f=L0/\Nc ops ops.size e i=true))
 (E:LR R L0 e s0 ls s L) (hw:Region.wanted oi (yielded ops a.tmps)=true) (hy:Lq P f (execOp a.eval oi) v)
 (h:LV Δ P main fn ops Q nf R L0 e s0 fuel (ls.setIfInBounds i true) s (a.put oi.dst v) L):LV Δ P main fn ops Q nf R L0 e s0 (fuel+1) ls s a L:=by
 intro p w x;have k:i∈Region.ready .any ops ls:=by simpa using hr
 refine jW (λ_ _ _ _ h r=>qt h r) lz hi hs hf hr p (λls s w=> ?_) (λj m d g=> .inl ⟨hw,λD ⟨u,l,F,A,y⟩=> ?_⟩) ⟨L,x,E⟩ (h (p.step k) w x)
 ·refine exists_congr λu=>and_congr_right λ_=> ?_;unfold LR;rw[getD_set_ne true o]
 ·have b: ∀t∈f,t∈u:=by
   rcases n with rfl|⟨rfl,C⟩
   ·exact A
   ·refine y ?_;cases he:j.getD e true with
    |false=>rfl
    |true=>
     have:=m.hangs _ _ _ C he;rw[oN this] at d;cases d
  obtain⟨B,z⟩:=oK (Δ g) l (hy.mono b);exact⟨B,(Δ g).dd ((Δ g).gr D) λe he=>z e (mem_listed he)⟩
theorem vo {i:Nat}{oi:Oper}(hi:ops[i]? =some oi)(hs:Region.noSelect ops=true)(hf:Region.free .any ops ls i=true)(hr:(Region.ready .any ops ls).contains i=true)(d:i≠e)
 (m:LR R L0 e s0 ls s L) (hw:Region.wanted oi (yielded ops a.tmps)=false)
 (h:LV Δ P main fn ops Q nf R L0 e s0 fuel (ls.setIfInBounds i true) s (a.put oi.dst undef) L):LV Δ P main fn ops Q nf R L0 e s0 (fuel+1) ls s a L:=by
 intro g w f;have b:i∈Region.ready .any ops ls:=by simpa using hr
 refine jW (λ_ _ _ _ h r=>qt h r) lz hi hs hf hr g (λls s w=> ?_) (λk j l o=> .inr ⟨hw,rfl⟩) ⟨L,f,m⟩ (h (g.step b) w f);refine exists_congr λn=>and_congr_right λ_=> ?_;unfold LR;rw[getD_set_ne true d]
theorem tS {i:Nat}{o:Oper}(hr:Region.ready .any ops ls=[i])(hi:ops[i]? =some o)(hw:Region.wanted o (yielded ops a.tmps)=true)
 (h:KI P (Δ s).New (execOp a.eval o) (λx L'=>MV o a (λf=>LR R L0 e s0 (ls.setIfInBounds i true) s L'/\LV Δ P main fn ops Q nf R L0 e s0 fuel (ls.setIfInBounds i true) s f L') x) L):LV Δ P main fn ops Q nf R L0 e s0 (fuel+1) ls s a L:=by
 intro u w y;have l:i∈Region.ready .any ops ls:=by simp[hr]
 refine iS hr bE λj r=> ?_;obtain rfl:j=i:=by simpa using r
 refine .inl ?_;unfold OpC;simp only[hi,hw,if_true];intro m d;obtain⟨x,z,b,n,he,L',g,p⟩:=si (Δ s) ((Δ s).rely y d) h;exact oI (Δ:=Δ) (s:=s) (KL:=λf L'=>LR R L0 e s0 (ls.setIfInBounds j true) s L'/\LV Δ P main fn ops Q nf R L0 e s0 fuel (ls.setIfInBounds j true) s f L') b g p λf k=>⟨(Δ s).dd n λe hm=>he e (mem_listed hm),⟨L',g,k.1⟩,k.2 (u.step l) _ g⟩
theorem vq {i:Nat}{o:Oper}{f:FuncId}{args:Array Operand}{b:Array TypeId}{Post:σ->Value->Ka->Prop}(hr:Region.ready .any ops ls=[i])(hi:ops[i]? =some o)(hw:Region.wanted o (yielded ops a.tmps)=true)
 (g:o.op= .call {callee:= .value (.func f),args,argTypes:=b}) (hcall:Kb Δ P main f (args.map a.eval) nf s L Post)
 (h: ∀s' v L',Post s' v L'->LR R L0 e s0 (ls.setIfInBounds i true) s' L'/\LV Δ P main fn ops Q nf R L0 e s0 fuel (ls.setIfInBounds i true) s' (a.put o.dst v) L'):LV Δ P main fn ops Q nf R L0 e s0 (fuel+1) ls s a L:=by
 intro p w m;have d:i∈Region.ready .any ops ls:=by simp[hr]
 refine iS hr bE λj n=> ?_;obtain rfl:j=i:=by simpa using n
 exact .inr ⟨o,f,args,b,_,hi,hw,g,hcall w m,λs' v r ⟨L',l,k⟩=>⟨⟨L',l,(h s' v L' k).1⟩,(h s' v L' k).2 (p.step d) _ l⟩⟩
theorem xA {i j:Nat}(hr:Region.ready .any ops ls=[i,j])
 (h1: ∀(w:World),(Δ s).Own L w->Down ops ls->OpX F P main fn ops nf i (λs' b w'=>(∃L',(Δ s').Own L' w'/\LR R L0 e s0 (ls.setIfInBounds i true) s' L')/\LA F P main fn ops (λls s w=> ∃L,(Δ s).Own L w/\LR R L0 e s0 ls s L) (up Δ Q) nf fuel (ls.setIfInBounds i true) s' b w') s a w)
 (h2: ∀(w:World),(Δ s).Own L w->Down ops ls->OpX F P main fn ops nf j (λs' b w'=>(∃L',(Δ s').Own L' w'/\LR R L0 e s0 (ls.setIfInBounds j true) s' L')/\LA F P main fn ops (λls s w=> ∃L,(Δ s).Own L w/\LR R L0 e s0 ls s L) (up Δ Q) nf fuel (ls.setIfInBounds j true) s' b w') s a w):
 LV Δ P main fn ops Q nf R L0 e s0 (fuel+1) ls s a L:=by
 intro g w d;refine iS hr bE λk f=> ?_;simp only[gn,Lr,or_false] at f;rcases f with rfl|rfl
 ·exact h1 w d g
 ·exact h2 w d g
theorem A9 (h:(L.map (·.1)).Nodup->LV Δ P main fn ops Q nf R L0 e s0 fuel ls s a L):LV Δ P main fn ops Q nf R L0 e s0 fuel ls s a L:=λd w b=>h ((Δ s).nd b) d w b
theorem vr (hr:Region.ready .any ops ls=[])(h:Q s .normal a L):LV Δ P main fn ops Q nf R L0 e s0 fuel ls s a L:=λ_ _ b=>nh hr ⟨L,b,h⟩ fuel
end
abbrev Env:=List (Nat×Value)
def look:Env->Nat->Option Value
 |[],_=>none
 |(u,v)::ε,t=>if u=t then some v else look ε t
def ev (ε:Env):Operand->Option Value
 | .tmp t=>look ε t
 | .const v=>some v
 | .global g=>some (.pointer (some ⟨g,0,none⟩))
 | .func f=>some (.func (.func f) #[] #[])
structure Fits (N:Nat)(ε:Env)(a:Act):Prop where
 sz:a.tmps.size=N
 df:a.defers=[]
 at_: ∀t v,look ε t=some v->t<N/\a.tmps.getD t undef=v
def KY (d:Option Tmp)(v:Value)(ε:Env):Env:=match d with
 |some d=>(d,v)::ε
 |none=>ε
def KG (N:Nat):Option Tmp->Bool
 |some d=>decide (d<N)
 |none=>true
section
variable {N:Nat}{ε:Env}{a:Act}
theorem Fits.ev (h:Fits N ε a){x:Operand}{v:Value}(hx:Lo.ev ε x=some v):a.eval x=v:=by
 cases x with
 |tmp t=>exact(h.at_ t v hx).2
 |const u=>exact gu hx
 |global g=>exact gu hx
 |func f=>exact gu hx
theorem Fits.put (h:Fits N ε a){d:Option Tmp}(hd:KG N d=true)(v:Value):Fits N (KY d v ε) (a.put d v):=by
 cases d with
 |none=>exact h
 |some d=>
  have b:d<N:=by simpa [KG] using hd
  refine⟨by simpa [Act.put] using h.sz,h.df,λt u f=> ?_⟩;simp only[KY,look] at f
  split at f
  ·rename_i e;subst e;refine⟨b, ?_⟩;rw[<-gu f];simp[Act.put,vp,h.sz,b]
  ·rename_i e;obtain⟨g,i⟩:=h.at_ t u f;refine⟨g, ?_⟩;rw[<-i];simp[Act.put,vp,O7,e]
theorem Fits.sub (h:Fits N ε a){ε':Env}(hs:ε'.map (λp=>look ε p.1)=ε'.map (λp=>some p.2)):Fits N ε' a:=by
 refine⟨h.sz,h.df, ?_⟩
 induction ε' with
 |nil=>intro t v b;cases b
 |cons p ε' ih=>
  simp only[ix,List.cons.injEq] at hs;intro t v b;simp only[look] at b
  split at b
  ·rename_i e;rw[<-e,<-gu b];exact h.at_ _ _ hs.1
  ·exact ih hs.2 t v b
end
def Kr (ops:Array Oper)(N:Nat)(ε:Env):Option (Nat×Bool)->Option Bool
 |none=>some true
 |some (j,want)=>match (ops[j]?).bind (·.dst) with
  |some d=>match look ε d with
   |some (.bool b)=>some (b==want)
   |_=>none
  |none=>none
theorem Fits.wanted {N:Nat}{ε:Env}{a:Act}(h:Fits N ε a){ops:Array Oper}{o:Oper}{b:Bool}(hw:Kr ops N ε o.guard=some b):Region.wanted o (yielded ops a.tmps)=b:=by
 unfold Region.wanted;unfold Kr at hw
 split at hw
 ·rename_i e;rw[e];exact gu hw
 ·rename_i j f e;rw[e]
  split at hw<;>try cases hw
  rename_i d i
  split at hw<;>try cases hw
  rename_i c hc;obtain⟨l,g⟩:=h.at_ _ _ hc;have m:a.tmps[d]? =some (.bool c):=by
   have:d<a.tmps.size:=by rw[h.sz];exact l
   simp[vp,this] at g;simp[this,g]
  have k:yielded ops a.tmps j=some c:=by
   unfold yielded;rw[i];simp[m]
  show (yielded ops a.tmps j==some f)=(c==f);rw[k];rfl
section
variable {σ:Type}
def MW (K:σ->Env->Ka->Prop)(Q:σ->Exit->Env->Ka->Prop):σ->Exit->Env->Ka->Prop
 |s, .normal,a,L=>K s a L
 |s,e,a,L=>Q s e a L
def NA (id:Nat)(Q:σ->Exit->Env->Ka->Prop):σ->Exit->Env->Ka->Prop
 |s, .exit id',a,L=>if id'=id then Q s .normal a L else Q s (.exit id') a L
 |s,e,a,L=>Q s e a L
def Ko (g:Func)(ε:Env):Option Value:=match g.results.toList with
 |[]=>some (.tuple #[])
 |[.tmp t]=>look ε t
 |[.tmp t, .tmp u]=>match look ε t,look ε u with
  |some v,some w=>some (.tuple #[v,w])
  |_,_=>none
 |_=>none
def bodyE (g:Func)(Post:σ->Value->Ka->Prop):σ->Exit->Env->Ka->Prop
 |s, .normal,ε,L|s, .ret,ε,L=> ∃v,Ko g ε=some v/\Post s v L
 |_,_,_,_=>False
end
section
variable {σ:Type}{F:Kn σ}(Δ: ∀s,Ma (F.R s) (F.D s)) (P:Program) (main:Bool) (fn:FuncId) (N:Nat)
def upE (Q:σ->Exit->Env->Ka->Prop):σ->Exit->Act->Ka->Prop:=λs e a L=> ∃ε,Fits N ε a/\Q s e ε L
def Kw (c:Code)(n:Nat)(s:σ)(Q:σ->Exit->Env->Ka->Prop)(ε:Env)(L:Ka):Prop:= ∀a,Fits N ε a->Mz Δ P main fn c n s (upE N Q) a L
def KO (ops:Array Oper)(todo:List Nat)(n:Nat)(s:σ)(Q:σ->Exit->Env->Ka->Prop)(ε:Env)(L:Ka):Prop:= ∀a,Fits N ε a->LN Δ P main fn ops todo n s (upE N Q) a L
def K6 (ops:Array Oper)(Q:σ->Exit->Env->Ka->Prop)(nf:Nat)(R L0:Ka)(e:Nat)(s0:σ)(fuel:Nat)(ls:Array Bool)(s:σ)(ε:Env)(L:Ka):Prop:= ∀a,Fits N ε a->LV Δ P main fn ops (upE N Q) nf R L0 e s0 fuel ls s a L
end
section
variable {σ:Type}{F:Kn σ}{Δ: ∀s,Ma (F.R s) (F.D s)} {P:Program} {main:Bool} {fn:FuncId} {N:Nat} {Q:σ->Exit->Env->Ka->Prop} {s:σ} {ε:Env} {L:Ka}
theorem qu {K:σ->Env->Ka->Prop}{d:σ->Act->Ka->Prop}(h: ∀s ε a L,Fits N ε a->K s ε L->d s a L) {s:σ} {e:Exit} {a:Act} {L:Ka} (q:upE N (MW K Q) s e a L):MT d (upE N Q) s e a L:=by
 obtain⟨ε,b,q⟩:=q;cases e<;>first|exact h _ _ _ _ b q|exact⟨ε,b,q⟩
theorem qv {b:σ->Exit->Env->Ka->Prop}{c:Code}{n:Nat}(h:Kw Δ P main fn N c n s Q ε L)(hq: ∀s e ε L,Q s e ε L->b s e ε L):Kw Δ P main fn N c n s b ε L:=
 λa d=>dZ (h a d) λs e a L ⟨ε,f,q⟩=>⟨ε,f,hq _ _ _ _ q⟩
theorem iT {c:Code}{n b:Nat}(h:Kw Δ P main fn N c n s Q ε L)(hn:n<=b):Kw Δ P main fn N c b s Q ε L:=λa d=>qh (h a d) hn
theorem nk {ops:Array Oper}{todo:List Nat}{n b:Nat}(h:KO Δ P main fn N ops todo n s Q ε L)(hn:n<=b):KO Δ P main fn N ops todo b s Q ε L:=λa d=>vc (h a d) hn
theorem Ei {c:Code}{n:Nat}(h:(L.map (·.1)).Nodup->Kw Δ P main fn N c n s Q ε L):Kw Δ P main fn N c n s Q ε L:=λa b=>Ec λd=>h d a b
theorem kN {ops:Array Oper}{todo:List Nat}{n:Nat}(h:(L.map (·.1)).Nodup->KO Δ P main fn N ops todo n s Q ε L):KO Δ P main fn N ops todo n s Q ε L:=λa b=>AQ λd=>h d a b
theorem Ba {c:Code}{n:Nat}(ε':Env)(hs:ε'.map (λp=>look ε p.1)=ε'.map (λp=>some p.2):=by rfl)(h:Kw Δ P main fn N c n s Q ε' L):Kw Δ P main fn N c n s Q ε L:=λa b=>h a (b.sub hs)
def kn (ε ε':Env):Prop:=ε'.map (λp=>look ε p.1)=ε'.map (λp=>some p.2)
theorem aA {c:Code}{n:Nat}{ε':Env}(hs:kn ε ε')(h:Kw Δ P main fn N c n s Q ε' L):Kw Δ P main fn N c n s Q ε L:=Ba ε' hs h
theorem aK {x y:Code}{n₁ n₂:Nat}(h:Kw Δ P main fn N x n₁ s (MW (λs' ε' L'=>Kw Δ P main fn N y n₂ s' Q ε' L') Q) ε L):Kw Δ P main fn N (.seq x y) (n₁+n₂+1) s Q ε L:=
 λa d=>AR (dZ (h a d) λ_ _ _ _ q=>qu (λ_ _ a _ b k=>k a b) q)
theorem ct {x y:Code}{n₁ n₂:Nat}(ε':Env)(h1:Kw Δ P main fn N x n₁ s (MW (λs' a L'=>s=s'/\L=L'/\kn a ε') Q) ε L)(h2:Kw Δ P main fn N y n₂ s Q ε' L):Kw Δ P main fn N x n₁ s (MW (λs' ε' L'=>Kw Δ P main fn N y n₂ s' Q ε' L') Q) ε L:=
 qv h1 λs' e a L' q=>by
  cases e with
  |normal=>obtain⟨rfl,rfl,b⟩:=q;exact aA b h2
  |_=>exact q
theorem sC {c:Operand}{x y:Code}(t:Bool){n:Nat}(hc:ev ε c=some (.bool t))(h:Kw Δ P main fn N (if t then x else y) n s Q ε L):Kw Δ P main fn N (.cond c x y) (n+1) s Q ε L:=λa b=>xi (b.ev hc) (h a b)
theorem aI {c:Operand}{x y:Code}{t:Bool}{n m:Nat}(hc:ev ε c=some (.bool t):=by rfl)(hx:t=true->Kw Δ P main fn N x n s Q ε L)(hy:t=false->Kw Δ P main fn N y m s Q ε L):Kw Δ P main fn N (.cond c x y) (max n m+1) s Q ε L:=by
 refine sC t hc ?_;cases t with
 |true=>exact iT (hx rfl) (Nat.le_max_left _ _)
 |false=>exact iT (hy rfl) (Nat.le_max_right _ _)
theorem Ej {c:Operand}{x y:Code}{n:Nat}(hc:ev ε c=some (.bool true):=by rfl)(h:Kw Δ P main fn N x n s Q ε L):Kw Δ P main fn N (.cond c x y) (n+1) s Q ε L:=sC true hc h
theorem Bb {c:Operand}{x y:Code}{n:Nat}(hc:ev ε c=some (.bool false):=by rfl)(h:Kw Δ P main fn N y n s Q ε L):Kw Δ P main fn N (.cond c x y) (n+1) s Q ε L:=sC false hc h
theorem Bc {id:Nat}{c:Code}{n:Nat}(h:Kw Δ P main fn N c n s (NA id Q) ε L):Kw Δ P main fn N (.block id c) (n+2) s Q ε L:=
 λa f=>vd (dZ (h a f) λj e i g ⟨b,d,q⟩=>by
  cases e with
  |exit id'=>
   simp only[NA] at q;simp only[MU]
   split
   ·rename_i e;rw[if_pos e] at q;exact⟨b,d,q⟩
   ·rename_i e;rw[if_neg e] at q;exact⟨b,d,q⟩
  |_=>exact⟨b,d,q⟩)
theorem Ek (h:Q s .normal ε L):Kw Δ P main fn N .skip 1 s Q ε L:=λ_ a=>xj ⟨ε,a,h⟩
theorem Gt (h:Q s .ret ε L):Kw Δ P main fn N .ret 1 s Q ε L:=λ_ a=>AS ⟨ε,a,h⟩
theorem El {id:Nat}(h:Q s (.exit id) ε L):Kw Δ P main fn N (.exit id) 1 s Q ε L:=λ_ a=>xl ⟨ε,a,h⟩
theorem qw {id:Nat}{ops:Array Oper}{n:Nat}(h:KO Δ P main fn N ops (List.range ops.size) n s Q ε L):Kw Δ P main fn N (.region id ops false) (n+1) s Q ε L:=λa b=>sj (h a b)
theorem If {id n n₂:Nat}{ops:Array Oper}{y:Code}(h:KO Δ P main fn N ops (List.range ops.size) n s (MW (λs' ε' L'=>Kw Δ P main fn N y n₂ s' Q ε' L') Q) ε L):Kw Δ P main fn N (.seq (.region id ops false) y) (n+1+n₂+1) s Q ε L:=aK (qw h)
theorem Dg {ops:Array Oper}(h:Q s .normal ε L):KO Δ P main fn N ops [] 1 s Q ε L:=λ_ a=>xo ⟨ε,a,h⟩
theorem aU {c:Code}{n:Nat}(I:Nat->σ->Env->Ka->Prop)(k:Nat)(g:I k s ε L)(h: ∀k s ε L,I k s ε L->Kw Δ P main fn N c n s (MW (λs' ε' L'=> ∃k',k'<k/\I k' s' ε' L') Q) ε L):
 Kw Δ P main fn N (.loop c) ((k+1)*(n+1)) s Q ε L:=
 λa f=>xm (λk s a L=> ∃ε,Fits N ε a/\I k s ε L) (λk s a L ⟨ε,d,b⟩=>dZ (h k s ε L b a d) λ_ _ _ _ q=>qu (λ_ ε' _ _ d ⟨k',e,b⟩=>⟨k',e,ε',d,b⟩) q) k ⟨ε,f,g⟩
theorem Bd {g:Func}{a:Act}{v:Value}(hf:Fits N ε a)(h:Ko g ε=some v):ResultsC P g a.tmps v:=by
 unfold Ko at h
 split at h
 ·rename_i e;rw[<-gu h];exact resultsC_none (gm e) _
 ·rename_i t e;rw[<-(hf.at_ _ _ h).2];exact resultsC_tmp (gm e) _
 ·rename_i t u e
  split at h
  ·rename_i b d;rw[<-gu h,<-(hf.at_ _ _ b).2,<-(hf.at_ _ _ d).2];exact resultsC_tmp2 (gm e) _
  ·cases h
 ·cases h
def argsAt:Nat->List Value->Env
 |_,[]=>[]
 |k,v::vs=>(k,v)::argsAt (k+1) vs
def args (vs:List Value):Env:=argsAt 0 vs
theorem jX: ∀(vs:List Value)(k t:Nat)(v:Value),look (argsAt k vs) t=some v->k<=t/\vs[t-k]? =some v
 |[],_,_,_,h=>by cases h
 |u::vs,k,t,v,h=>by
  simp only[argsAt,look] at h
  split at h
  ·rename_i e;subst e;simpa using h
  ·rename_i e;obtain⟨b,a⟩:=jX vs (k+1) t v h;refine⟨bl, ?_⟩;rw[show t-k=(t-(k+1))+1 by omega];simpa using a
theorem ar (N:Nat){f:FuncId}{g:Func}{c:Code}{vs:List Value}{n:Nat}{Post:σ->Value->Ka->Prop}(hf:P.funcs[f]? =some g)(hN:g.ntmps=N)(hname:(g.name== "runtime.NumGoroutine")=false:=by rfl)(hb:g.body=some c:=by rfl)(hl:Nat.ble vs.length N=true:=by rfl)(h:Kw Δ P main f N c n s (bodyE g Post) (args vs) L):Kb Δ P main f vs.toArray n s L Post:=by
 have hl:=Nat.le_of_ble_eq_true hl;subst hN;refine vf hf hname hb (dZ (h _ ⟨by simp;omega,rfl,λt v i=> ?_⟩) λl e k j ⟨d,hf,q⟩=> ?_)
 ·obtain⟨_,b⟩:=jX vs 0 t v i;have a:=(mo.1 b).1;simp only[Nat.sub_zero] at b a;refine⟨bl, ?_⟩;simp only[vp,Array.getElem?_append,l7,a,if_true,nw,b,OZ]
 ·cases e<;>first|exact⟨hf.df,q.choose,Bd hf q.choose_spec.1,q.choose_spec.2⟩|exact q
def EY (P:Program)(N:Nat)(ε:Env)(L:Ka)(o:Oper)(v:Value):Prop:= ∀a,Fits N ε a->Lq P L (execOp a.eval o) v
def EO (P:Program)(New:Obj->Prop)(N:Nat)(ε:Env)(L:Ka)(o:Oper)(post:Value->Ka->Prop):Prop:= ∀a,Fits N ε a->KI P New (execOp a.eval o) (λx L'=>match x with| .value v=>post v L'| .skip=>post undef L'|_=>False) L
theorem oy {ops:Array Oper}{i:Nat}{rest:List Nat}{d:Option Tmp}{k:Op}{e:TypeId}{ps:String}{af:Array Edge}{g:Option (Nat×Bool)}{n:Nat}{v:Value}(ho:ops[i]? =some ⟨d,k,e,ps,af,g⟩)(hy:EY P N ε L ⟨d,k,e,ps,af,g⟩ v)(hw:Kr ops N ε g=some true:=by rfl)(hd:KG N d=true:=by rfl)(h:KO Δ P main fn N ops rest n s Q (KY d v ε) L):KO Δ P main fn N ops (i::rest) (n+1) s Q ε L:=
 λa b=>na ho (b.wanted hw) ((hy a b).go (h _ (b.put hd v)))
theorem ou {ops:Array Oper}{i:Nat}{rest:List Nat}{d:Option Tmp}{k:Op}{e:TypeId}{ps:String}{af:Array Edge}{g:Option (Nat×Bool)}{n:Nat}(ho:ops[i]? =some ⟨d,k,e,ps,af,g⟩)(hw:Kr ops N ε g=some false:=by rfl)(hd:KG N d=true:=by rfl)(h:KO Δ P main fn N ops rest n s Q (KY d undef ε) L):KO Δ P main fn N ops (i::rest) (n+1) s Q ε L:=
 λa b=>il ho (b.wanted hw) (h _ (b.put hd undef))
theorem oe {ops:Array Oper}{i:Nat}{rest:List Nat}{d:Option Tmp}{k:Op}{f:TypeId}{ps:String}{af:Array Edge}{g:Option (Nat×Bool)}{n:Nat}{b:Value->Ka->Prop}(ho:ops[i]? =some ⟨d,k,f,ps,af,g⟩)(hy:EO P (Δ s).New N ε L ⟨d,k,f,ps,af,g⟩ b)(hw:Kr ops N ε g=some true:=by rfl)(hd:KG N d=true:=by rfl)(h: ∀v L',b v L'->KO Δ P main fn N ops rest n s Q (KY d v ε) L'):KO Δ P main fn N ops (i::rest) (n+1) s Q ε L:=
 λa e=>na ho (e.wanted hw) (bS (λx L' q=>by cases x<;>first|exact h _ _ q _ (e.put hd _)|exact q.elim) _ _ (hy a e))
theorem oc {ops:Array Oper}{i:Nat}{rest:List Nat}{d:Option Tmp}{k:Op}{p:TypeId}{ps:String}{af:Array Edge}{g:Option (Nat×Bool)}{f:FuncId}{args:Array Operand}{j:Array TypeId}{vs:List Value}{nf n:Nat}{Post:σ->Value->Ka->Prop}
 (ho:ops[i]? =some ⟨d,k,p,ps,af,g⟩) (m:k= .call {callee:= .value (.func f),args,argTypes:=j}) (ha:args.toList.map (ev ε)=vs.map some) (hcall:Kb Δ P main f vs.toArray nf s L Post)
  (hw:Kr ops N ε g=some true:=by rfl) (hd:KG N d=true:=by rfl) (h: ∀s' v L',Post s' v L'->KO Δ P main fn N ops rest n s' Q (KY d v ε) L'):KO Δ P main fn N ops (i::rest) (n+nf+3) s Q ε L:=by
 intro a b;have e:args.map a.eval=vs.toArray:=by
  apply gm;simp only[Array.toList_map];have: ∀(l:List Operand)(vs:List Value),l.map (ev ε)=vs.map some->l.map a.eval=vs:=by
   intro l
   induction l with
   |nil=>intro vs h;cases vs<;>simp_all
   |cons x l ih=>
    intro vs h;cases vs with
    |nil=>simp at h
    |cons v vs=>
     simp only[ix,List.cons.injEq] at h⊢;exact⟨b.ev h.1,ih vs h.2⟩
  exact this _ _ ha
 exact vg ho (b.wanted hw) m (by rw[e];exact hcall) λs' v L' o=>h s' v L' o _ (b.put hd v)
theorem aM {id:Nat}{ops:Array Oper}(R:Ka)(e:Nat){nf:Nat}(hm:P.follows .mixedOrders=true:=by first|rfl|kernel_rfl)(h:K6 Δ P main fn N ops Q nf R L e s ops.size (Array.replicate ops.size false) s ε L):Kw Δ P main fn N (.region id ops true) (ops.size*(nf+3)+1+1) s Q ε L:=
 λa b=>xz R e hm (h a b)
theorem Be {id:Nat}{ops:Array Oper}(hm:P.follows .mixedOrders=true:=by first|rfl|kernel_rfl)(h:K6 Δ P main fn N ops Q 0 L L 1000000 s ops.size (Array.replicate ops.size false) s ε L):Kw Δ P main fn N (.region id ops true) (ops.size*(0+3)+1+1) s Q ε L:=aM L 1000000 hm h
section
variable {ops:Array Oper}{nf:Nat}{R L0:Ka}{e:Nat}{s0:σ}{fuel:Nat}{ls:Array Bool}
theorem aa {R:Ka}(a: ∀t∈R,t∈L):LR R L e s ls s L:=⟨rfl,a,λ_ _ h=>h⟩
theorem pI:LR L L e s ls s L:=⟨rfl,λ_ h=>h,λ_ _ h=>h⟩
theorem cx {R L0:Ka}(a: ∀t∈R,t∈L) (h0: ∀t∈L0,t∈L):LR R L0 e s ls s L:=⟨rfl,a,λ_=>h0⟩
theorem aj {R L0:Ka}(b: ∀t∈R,t∈L) (h:ls.getD e true=true:=by first|rfl|decide):LR R L0 e s ls s L:=⟨rfl,b,λa=>by rw[h] at a;cases a⟩
theorem t0 (i:Nat){d:Option Tmp}{k:Op}{j:TypeId}{ps:String}{af:Array Edge}{g:Option (Nat×Bool)}{v:Value}(ho:ops[i]? =some ⟨d,k,j,ps,af,g⟩)(hy:EY P N ε L0 ⟨d,k,j,ps,af,g⟩ v)(l:LR R L0 e s0 ls s L)
 (hs:Region.noSelect ops=true:=by kernel_rfl) (hf:Region.free .any ops ls i=true:=by kernel_rfl) (hr:(Region.ready .any ops ls).contains i=true:=by kernel_rfl) (f:i≠e:=by decide) (hh:Nc ops ops.size e i=true:=by kernel_rfl) (hw:Kr ops N ε g=some true:=by rfl) (hd:KG N d=true:=by rfl) (h:K6 Δ P main fn N ops Q nf R L0 e s0 fuel (ls.setIfInBounds i true) s (KY d v ε) L):
 K6 Δ P main fn N ops Q nf R L0 e s0 (fuel+1) ls s ε L:=
 λa b=>nj ho hs hf hr f (.inr ⟨rfl,hh⟩) l (b.wanted hw) (hy a b) (h _ (b.put hd v))
theorem tr (i:Nat){d:Option Tmp}{k:Op}{j:TypeId}{ps:String}{af:Array Edge}{g:Option (Nat×Bool)}{v:Value}(ho:ops[i]? =some ⟨d,k,j,ps,af,g⟩)(hy:EY P N ε R ⟨d,k,j,ps,af,g⟩ v)(l:LR R L0 e s0 ls s L)
 (hs:Region.noSelect ops=true:=by kernel_rfl) (hf:Region.free .any ops ls i=true:=by kernel_rfl) (hr:(Region.ready .any ops ls).contains i=true:=by kernel_rfl) (f:i≠e:=by decide) (hw:Kr ops N ε g=some true:=by rfl) (hd:KG N d=true:=by rfl) (h:K6 Δ P main fn N ops Q nf R L0 e s0 fuel (ls.setIfInBounds i true) s (KY d v ε) L):
 K6 Δ P main fn N ops Q nf R L0 e s0 (fuel+1) ls s ε L:=
 λa b=>nj ho hs hf hr f (.inl rfl) l (b.wanted hw) (hy a b) (h _ (b.put hd v))
theorem tu (i:Nat){d:Option Tmp}{k:Op}{l:TypeId}{ps:String}{af:Array Edge}{g:Option (Nat×Bool)}(ho:ops[i]? =some ⟨d,k,l,ps,af,g⟩)(j:LR R L0 e s0 ls s L)
 (hs:Region.noSelect ops=true:=by kernel_rfl) (hf:Region.free .any ops ls i=true:=by kernel_rfl) (hr:(Region.ready .any ops ls).contains i=true:=by kernel_rfl) (b:i≠e:=by decide) (hw:Kr ops N ε g=some false:=by rfl) (hd:KG N d=true:=by rfl) (h:K6 Δ P main fn N ops Q nf R L0 e s0 fuel (ls.setIfInBounds i true) s (KY d undef ε) L):
 K6 Δ P main fn N ops Q nf R L0 e s0 (fuel+1) ls s ε L:=
 λa f=>vo ho hs hf hr b j (f.wanted hw) (h _ (f.put hd undef))
theorem to (i:Nat){d:Option Tmp}{k:Op}{f:TypeId}{ps:String}{af:Array Edge}{g:Option (Nat×Bool)}{v:Value}(ho:ops[i]? =some ⟨d,k,f,ps,af,g⟩)(hy:EY P N ε L ⟨d,k,f,ps,af,g⟩ v)(j:LR R L0 e s0 (ls.setIfInBounds i true) s L)
 (hr:Region.ready .any ops ls=[i]:=by kernel_rfl) (hw:Kr ops N ε g=some true:=by rfl) (hd:KG N d=true:=by rfl) (h:K6 Δ P main fn N ops Q nf R L0 e s0 fuel (ls.setIfInBounds i true) s (KY d v ε) L):K6 Δ P main fn N ops Q nf R L0 e s0 (fuel+1) ls s ε L:=
 λa b=>tS hr ho (b.wanted hw) ((hy a b).go ⟨j,h _ (b.put hd v)⟩)
theorem te {i:Nat}{d:Option Tmp}{k:Op}{j:TypeId}{ps:String}{af:Array Edge}{g:Option (Nat×Bool)}{b:Value->Ka->Prop}(ho:ops[i]? =some ⟨d,k,j,ps,af,g⟩)(hy:EO P (Δ s).New N ε L ⟨d,k,j,ps,af,g⟩ b)
 (hr:Region.ready .any ops ls=[i]:=by kernel_rfl) (hw:Kr ops N ε g=some true:=by rfl) (hd:KG N d=true:=by rfl) (h: ∀v L',b v L'->LR R L0 e s0 (ls.setIfInBounds i true) s L'/\K6 Δ P main fn N ops Q nf R L0 e s0 fuel (ls.setIfInBounds i true) s (KY d v ε) L'):K6 Δ P main fn N ops Q nf R L0 e s0 (fuel+1) ls s ε L:=
 λa f=>tS hr ho (f.wanted hw) (bS (λx L' q=>by cases x<;>first|exact⟨(h _ _ q).1,(h _ _ q).2 _ (f.put hd _)⟩|exact q.elim) _ _ (hy a f))
theorem tc (i:Nat){d:Option Tmp}{k:Op}{p:TypeId}{ps:String}{af:Array Edge}{g:Option (Nat×Bool)}{f:FuncId}{args:Array Operand}{j:Array TypeId}{vs:List Value}{Post:σ->Value->Ka->Prop}(ho:ops[i]? =some ⟨d,k,p,ps,af,g⟩)(m:k= .call {callee:= .value (.func f),args,argTypes:=j})(ha:args.toList.map (ev ε)=vs.map some)(hcall:Kb Δ P main f vs.toArray nf s L Post)
 (hr:Region.ready .any ops ls=[i]:=by kernel_rfl) (hw:Kr ops N ε g=some true:=by rfl) (hd:KG N d=true:=by rfl) (h: ∀s' v L',Post s' v L'->LR R L0 e s0 (ls.setIfInBounds i true) s' L'/\K6 Δ P main fn N ops Q nf R L0 e s0 fuel (ls.setIfInBounds i true) s' (KY d v ε) L'):K6 Δ P main fn N ops Q nf R L0 e s0 (fuel+1) ls s ε L:=by
 intro a b;have o:args.map a.eval=vs.toArray:=by
  apply gm;simp only[Array.toList_map];have: ∀(l:List Operand)(vs:List Value),l.map (ev ε)=vs.map some->l.map a.eval=vs:=by
   intro l
   induction l with
   |nil=>intro vs h;cases vs<;>simp_all
   |cons x l ih=>
    intro vs h;cases vs with
    |nil=>simp at h
    |cons v vs=>
     simp only[ix,List.cons.injEq] at h⊢;exact⟨b.ev h.1,ih vs h.2⟩
  exact this _ _ ha
 exact vq hr ho (b.wanted hw) m (by rw[o];exact hcall) λs' v L' n=>⟨(h s' v L' n).1,(h s' v L' n).2 _ (b.put hd v)⟩
theorem aF (h:(L.map (·.1)).Nodup->K6 Δ P main fn N ops Q nf R L0 e s0 fuel ls s ε L):K6 Δ P main fn N ops Q nf R L0 e s0 fuel ls s ε L:=λa b=>A9 λd=>h d a b
theorem td (hr:Region.ready .any ops ls=[]:=by kernel_rfl)(h:Q s .normal ε L):K6 Δ P main fn N ops Q nf R L0 e s0 fuel ls s ε L:=λ_ a=>vr hr ⟨ε,a,h⟩
end
end
section
variable {P:Program}{N:Nat}{ε:Env}{L:Ka}{d:Option Tmp}{ty:TypeId}{ps:String}{af:Array Edge}{g:Option (Nat×Bool)}
theorem bk {x:Operand}{v:Value}(hx:ev ε x=some v:=by rfl):EY P N ε L ⟨d, .move x,ty,ps,af,g⟩ v:=λ_ a=>(a.ev hx)▸Ee
theorem fX {x:Operand}{v:Value}(hx:ev ε x=some v:=by rfl):EY P N ε L ⟨d, .assign x,ty,ps,af,g⟩ v:=λ_ a=>(a.ev hx)▸xu
theorem bI {x:Operand}{a:Addr}(hx:ev ε x=some (.pointer (some a)):=by rfl):EY P N ε L ⟨d, .nilCheck x,ty,ps,af,g⟩ (.pointer (some a)):=λ_ b=>sn (b.ev hx)
theorem lA {c x y:Operand}{t:Bool}{v w:Value}(hc:ev ε c=some (.bool t):=by rfl)(hx:ev ε x=some v:=by rfl)(hy:ev ε y=some w:=by rfl):EY P N ε L ⟨d, .pick c x y,ty,ps,af,g⟩ (if t then v else w):=λ_ a=>(a.ev hx)▸(a.ev hy)▸Ef (a.ev hc)
theorem br {x:Operand}{s f b i off:Nat}(hx:ev ε x=some (.pointer (some ⟨b,i,none⟩)):=by rfl)(hf:Kc P s f=some off:=by kernel_rfl):EY P N ε L ⟨d, .fieldAddr s x f,ty,ps,af,g⟩ (.pointer (some ⟨b,i+off,none⟩)):=λ_ a=>qj (a.ev hx) hf
theorem bT {x:Operand}{t b i:Nat}{v:Value}(hx:ev ε x=some (.pointer (some ⟨b,i,none⟩)):=by rfl)(ht:Ku P t=some false:=by kernel_rfl)
 (hv:At L b i v:=by first|exact At.at (n:=0) rfl (by first|rfl|assumption)|exact At.at (n:=1) rfl (by first|rfl|assumption)|exact At.at (n:=2) rfl (by first|rfl|assumption)|exact At.at (n:=3) rfl (by first|rfl|assumption)|exact At.at (n:=4) rfl (by first|rfl|assumption)|exact At.at (n:=5) rfl (by first|rfl|assumption)|exact At.at (n:=6) rfl (by first|rfl|assumption)|assumption):
 EY P N ε L ⟨d, .load t x,ty,ps,af,g⟩ v:=λ_ a=>Eg (a.ev hx) ht hv
theorem aW {x:Operand}{t b i n:Nat}{cs:Array Value}{e:TypeId}{fr:Nat×Nat}{fl:Bool}(hx:ev ε x=some (.pointer (some ⟨b,i,none⟩)):=by rfl)(ht:Ku P t=some true)(hs:Kd P t=some n)(hm:(b,fl, .cells cs e fr)∈L)(hi:i+n<=cs.size):
 EY P N ε L ⟨d, .load t x,ty,ps,af,g⟩ (.agg (cs.extract i (i+n))):=λ_ a=>vk (a.ev hx) ht hs hm hi
theorem cW {x f:Operand}{t b o sz len off:Nat}{e:TypeId}{k:IntKind}{n:Int}(hu:P.underlying t=some (.array len e))(hs:Kd P e=some sz)(hx:ev ε x=some (.pointer (some ⟨b,o,none⟩)):=by rfl)(hi:ev ε f=some (.int k n):=by rfl)(h0:0<=n:=by first|decide|omega|assumption)(h1:n<len:=by first|decide|omega|assumption|(simp;done))(ho:o+n.toNat*sz=off:=by((try simp only[Int.toNat_natCast,Nat.zero_add,Nat.mul_one,Nat.reduceAdd,Nat.reduceMul,Int.reduceToNat,Int.toNat_zero,Int.toNat_one,Nat.zero_mul,Nat.add_zero]);first|done|exact rfl)):
 EY P N ε L ⟨d, .indexAddr t x f,ty,ps,af,g⟩ (.pointer (some ⟨b,off,none⟩)):=λ_ a=>ho▸sq (a.ev hx) (a.ev hi) hu hs h0 h1
theorem gi {x f:Operand}{t b o sz len cap off:Nat}{e:TypeId}{k:IntKind}{n:Int}(hu:P.underlying t=some (.slice e))(hs:Kd P e=some sz)(hx:ev ε x=some (.slice (some ⟨b,o,none⟩) len cap):=by rfl)(hi:ev ε f=some (.int k n):=by rfl)(h0:0<=n:=by first|decide|omega|assumption)(h1:n<len:=by first|decide|omega|assumption|(simp;done))(ho:o+n.toNat*sz=off:=by((try simp only[Int.toNat_natCast,Nat.zero_add,Nat.mul_one,Nat.reduceAdd,Nat.reduceMul,Int.reduceToNat,Int.toNat_zero,Int.toNat_one,Nat.zero_mul,Nat.add_zero]);first|done|exact rfl)):
 EY P N ε L ⟨d, .indexAddr t x f,ty,ps,af,g⟩ (.pointer (some ⟨b,off,none⟩)):=λ_ a=>ho▸vl (a.ev hx) (a.ev hi) hu hs h0 h1
variable {t u:TypeId}{x y:Operand}{k:IntKind}{a b:Int}
theorem Dh (hx:ev ε x=some (.int k a):=by rfl)(hy:ev ε y=some (.int k b):=by rfl):EY P N ε L ⟨d, .binOp .add t x y u,ty,ps,af,g⟩ (.int k (k.wrap (a+b))):=λ_ e=>Gd (e.ev hx) (e.ev hy)
theorem Gv (hx:ev ε x=some (.int k a):=by rfl)(hy:ev ε y=some (.int k b):=by rfl):EY P N ε L ⟨d, .binOp .sub t x y u,ty,ps,af,g⟩ (.int k (k.wrap (a-b))):=λ_ e=>Ge (e.ev hx) (e.ev hy)
theorem Gw (hx:ev ε x=some (.int k a):=by rfl)(hy:ev ε y=some (.int k b):=by rfl):EY P N ε L ⟨d, .binOp .mul t x y u,ty,ps,af,g⟩ (.int k (k.wrap (a*b))):=λ_ e=>Gf (e.ev hx) (e.ev hy)
theorem Gx (hx:ev ε x=some (.int k a):=by rfl)(hy:ev ε y=some (.int k b):=by rfl)(hb:b≠0:=by first|decide|omega):EY P N ε L ⟨d, .binOp .rem t x y u,ty,ps,af,g⟩ (.int k (a.tmod b)):=λ_ e=>Gg (e.ev hx) (e.ev hy) hb
theorem Gy (hx:ev ε x=some (.int k a):=by rfl)(hy:ev ε y=some (.int k b):=by rfl)(hb:b≠0:=by first|decide|omega):EY P N ε L ⟨d, .binOp .quo t x y u,ty,ps,af,g⟩ (.int k (k.wrap (a.tdiv b))):=λ_ e=>Gh (e.ev hx) (e.ev hy) hb
theorem Di (hx:ev ε x=some (.int k a):=by rfl)(hy:ev ε y=some (.int k b):=by rfl):EY P N ε L ⟨d, .binOp .eql t x y u,ty,ps,af,g⟩ (.bool (a==b)):=λ_ e=>Gi (e.ev hx) (e.ev hy)
theorem Gz (hx:ev ε x=some (.int k a):=by rfl)(hy:ev ε y=some (.int k b):=by rfl):EY P N ε L ⟨d, .binOp .neq t x y u,ty,ps,af,g⟩ (.bool (a !=b)):=λ_ e=>Gj (e.ev hx) (e.ev hy)
theorem GA (hx:ev ε x=some (.int k a):=by rfl)(hy:ev ε y=some (.int k b):=by rfl):EY P N ε L ⟨d, .binOp .lss t x y u,ty,ps,af,g⟩ (.bool (decide (a<b))):=λ_ e=>Gk (e.ev hx) (e.ev hy)
theorem GC (hx:ev ε x=some (.int k a):=by rfl)(hy:ev ε y=some (.int k b):=by rfl):EY P N ε L ⟨d, .binOp .leq t x y u,ty,ps,af,g⟩ (.bool (decide (a<=b))):=λ_ e=>Gl (e.ev hx) (e.ev hy)
theorem GD (hx:ev ε x=some (.int k a):=by rfl)(hy:ev ε y=some (.int k b):=by rfl):EY P N ε L ⟨d, .binOp .gtr t x y u,ty,ps,af,g⟩ (.bool (decide (b<a))):=λ_ e=>Gm (e.ev hx) (e.ev hy)
theorem GF (hx:ev ε x=some (.int k a):=by rfl)(hy:ev ε y=some (.int k b):=by rfl):EY P N ε L ⟨d, .binOp .geq t x y u,ty,ps,af,g⟩ (.bool (decide (b<=a))):=λ_ e=>Gn (e.ev hx) (e.ev hy)
theorem xB {s' t':TypeId}{b:TypeDesc}{j:IntKind}{n:Int}(hx:ev ε x=some (.int j n):=by rfl)(hs:P.underlying s'=some b:=by kernel_rfl)(ht:P.underlying t'=some (.int k):=by kernel_rfl):EY P N ε L ⟨d, .convert s' t' x,ty,ps,af,g⟩ (.int k (k.wrap n)):=λ_ a=>Eh (a.ev hx) hs ht
theorem tT {c:Bool}(hx:ev ε x=some (.bool c):=by rfl):EY P N ε L ⟨d, .unOp .not t x,ty,ps,af,g⟩ (.bool !c):=λ_ a=>Gp (a.ev hx)
theorem xC (hx:ev ε x=some (.int k a):=by rfl):EY P N ε L ⟨d, .unOp .neg t x,ty,ps,af,g⟩ (.int k (k.wrap (0-a))):=λ_ b=>Gq (b.ev hx)
theorem lB {i:Nat}{vs:Array Value}{v:Value}(hx:ev ε x=some (.tuple vs):=by rfl)(hv:vs[i]? =some v:=by rfl):EY P N ε L ⟨d, .extract x i,ty,ps,af,g⟩ v:=λ_ a=>vm (a.ev hx) hv
theorem sF {f:Fn}{v:Value}(hx:ev ε x=some v:=by rfl):EY P N ε L ⟨d, .makeFunc f #[] #[x],ty,ps,af,g⟩ (.func f #[] #[v]):=λ_ a=>by
 have:=lq (P:=P) (L:=L) (ρ:=Act.eval ‹_›) (d:=d) (ty:=ty) (ps:=ps) (af:=af) (g:=g) (f:=f) (c1:= #[]) (c2:= #[x]);simpa [a.ev hx] using this
theorem Em {f:Fn}{v:Value}(hx:ev ε x=some v:=by rfl):EY P N ε L ⟨d, .makeFunc f #[x] #[],ty,ps,af,g⟩ (.func f #[v] #[]):=λ_ a=>by
 have:=lq (P:=P) (L:=L) (ρ:=Act.eval ‹_›) (d:=d) (ty:=ty) (ps:=ps) (af:=af) (g:=g) (f:=f) (c1:= #[x]) (c2:= #[]);simpa [a.ev hx] using this
theorem iU {v:Value}{a:TypeDesc}(hi: ∀ms,a≠ .interface ms) (hx:ev ε x=some v:=by rfl) (ht:P.underlying t=some a:=by kernel_rfl):EY P N ε L ⟨d, .makeInterface t x,ty,ps,af,g⟩ (.iface t v):=λ_ b=>(b.ev hx)▸ql ht hi
theorem GG {s' f off n:Nat}{cs:Array Value}{v:Value}(hx:ev ε x=some (.agg cs):=by rfl)(hf:LY P s' f=some (off,n,false):=by kernel_rfl)(hv:cs[off]? =some v:=by rfl):EY P N ε L ⟨d, .field s' x f,ty,ps,af,g⟩ v:=λ_ a=>AT (a.ev hx) hf hv
theorem eZ {a:Array TypeId}{e:TypeId}{base:Option Addr}{len cap:Nat}(hx:ev ε x=some (.slice base len cap):=by rfl)(hu:P.underlying t=some (.slice e):=by kernel_rfl)(b:a[0]? =some t:=by rfl):EY P N ε L ⟨d, .call ⟨.builtin .len, #[x],a⟩,ty,ps,af,g⟩ (.int .i64 len):=λ_ f=>AU (f.ev hx) b hu
theorem En {a:Array TypeId}{s':ByteArray}(hx:ev ε x=some (.string s'):=by rfl)(hu:P.underlying t=some .string:=by kernel_rfl)(b:a[0]? =some t:=by rfl):EY P N ε L ⟨d, .call ⟨.builtin .len, #[x],a⟩,ty,ps,af,g⟩ (.int .i64 s'.size):=λ_ e=>xv (e.ev hx) b hu
theorem GH {e:Array TypeId}{k':IntKind}(hx:ev ε x=some (.int k a):=by rfl)(hy:ev ε y=some (.int k' b):=by rfl):EY P N ε L ⟨d, .call ⟨.builtin .min, #[x,y],e⟩,ty,ps,af,g⟩ (.int k (if b<a then b else a)):=λ_ f=>Gr (f.ev hx) (f.ev hy)
theorem GJ {e:TypeId}{p:Option Addr}(hx:ev ε x=some (.pointer p):=by rfl)(hy:ev ε y=some (.pointer none):=by rfl)(hu:P.underlying t=some (.pointer e):=by kernel_rfl):EY P N ε L ⟨d, .binOp .eql t x y u,ty,ps,af,g⟩ (.bool p.isNone):=λ_ a=>AV (a.ev hx) (a.ev hy) hu
theorem GK {e:TypeId}{p:Option Addr}(hx:ev ε x=some (.pointer p):=by rfl)(hy:ev ε y=some (.pointer none):=by rfl)(hu:P.underlying t=some (.pointer e):=by kernel_rfl):EY P N ε L ⟨d, .binOp .neq t x y u,ty,ps,af,g⟩ (.bool !p.isNone):=λ_ a=>AW (a.ev hx) (a.ev hy) hu
theorem Dj {e n b i b' i':Nat}{cs f:Array Value}{j a:TypeId}{fl k:Bool}(h1:(b,fl, .cells cs j)∈L)(h2:(b',k, .cells f a)∈L)(hx:ev ε x=some (.pointer (some ⟨b,i,none⟩)):=by rfl)(hy:ev ε y=some (.pointer (some ⟨b',i',none⟩)):=by rfl)(hu:P.underlying t=some (.pointer e):=by kernel_rfl)(hs:Kd P e=some (n+1):=by kernel_rfl):
 EY P N ε L ⟨d, .binOp .eql t x y u,ty,ps,af,g⟩ (.bool (decide ((b,i)=(b',i')))):=λ_ l=>xy (l.ev hx) (l.ev hy) hu hs h1 h2
theorem dN {op:BinOp}{c:Bool}{ms:Array (String×TypeId)}{v:Value}(hv:(v= .nilIface/\c=true)\/(∃s w,v= .iface s w/\c=false))(a:op= .eql\/op= .neq:=by first|exact .inl rfl|exact .inr rfl)(hx:ev ε x=some v:=by rfl)(hu:P.underlying t=some (.interface ms):=by kernel_rfl):
 EY P N ε L ⟨d, .binOp op t x (.const .nilIface) u,ty,ps,af,g⟩ (.bool (if op= .eql then c else !c)):=λ_ b=>AX a hv (b.ev hx) rfl rfl hu
end
def NB (L:Ka)(b i:Nat)(v:Value)(L':Ka):Prop:= ∃n cs e,L[n]? =some (b,true, .cells cs e)/\i<cs.size/\L'=L.set n (b,true, .cells (cs.setIfInBounds i v) e)
theorem NB.h {L:Ka}{b i:Nat}{v:Value}{cs:Array Value}{e:TypeId}(hi:i<cs.size):NB ((b,true, .cells cs e)::L) b i v ((b,true, .cells (cs.setIfInBounds i v) e)::L):=⟨0,cs,e,rfl,hi,rfl⟩
theorem NB.t {L L':Ka}{b i:Nat}{v:Value}{x:Nat×Bool×Obj}(h:NB L b i v L'):NB (x::L) b i v (x::L'):=by
 obtain⟨n,cs,e,a,d,rfl⟩:=h;exact⟨n+1,cs,e,by simpa using a,d,rfl⟩
section
variable {σ:Type}{F:Kn σ}{Δ: ∀s,Ma (F.R s) (F.D s)} {P:Program} {main:Bool} {fn:FuncId} {N:Nat} {Q:σ->Exit->Env->Ka->Prop} {s:σ} {ε:Env} {L L':Ka} {New:Obj->Prop} {d:Option Tmp} {ty:TypeId} {ps:String} {af:Array Edge} {g:Option (Nat×Bool)}
theorem os {ops:Array Oper}{i:Nat}{rest:List Nat}{d:Option Tmp}{k:Op}{ot:TypeId}{ps:String}{af:Array Edge}{g:Option (Nat×Bool)}{n:Nat}(ho:ops[i]? =some ⟨d,k,ot,ps,af,g⟩)(hy:EO P (Δ s).New N ε L ⟨d,k,ot,ps,af,g⟩ (λr a=>r=undef/\a=L'))(hw:Kr ops N ε g=some true:=by rfl)(hd:KG N d=true:=by rfl)(h:KO Δ P main fn N ops rest n s Q (KY d undef ε) L'):KO Δ P main fn N ops (i::rest) (n+1) s Q ε L:=
 oe ho hy hw hd (λ_ _ ⟨b,e⟩=>by rw[b,e];exact h)
theorem eN {t:TypeId}{z:Value}(hN:New (.cells z.cells t))(hz:zeroAt P t=some z:=by kernel_rfl):EO P New N ε L ⟨d, .alloc t,ty,ps,af,g⟩ (λr a=> ∃b,(∀t∈L,t.1≠b)/\r= .pointer (some ⟨b,0,none⟩)/\a=(b,true, .cells z.cells t)::L):=
 λ_ _=>AZ hz hN λb hb=>⟨b,hb,rfl,rfl⟩
theorem bA {t:TypeId}{x:Operand}{v:Value}(hN:New (.cells v.cells t))(hx:ev ε x=some v:=by rfl):EO P New N ε L ⟨d, .box t x,ty,ps,af,g⟩ (λr a=> ∃b,(∀t∈L,t.1≠b)/\r= .pointer (some ⟨b,0,none⟩)/\a=(b,true, .cells v.cells t)::L):=
 λ_ e=>Gs (e.ev hx) hN λb hb=>⟨b,hb,rfl,rfl⟩
theorem kl {t e:TypeId}{x:Operand}{v z:Value}(hN:New (.cells #[v] e))(hx:ev ε x=some v:=by rfl)(hu:P.underlying t=some (.slice e):=by kernel_rfl)(hs:Kd P e=some 1:=by kernel_rfl)(hz:zeroAt P e=some z:=by kernel_rfl)(hzp:Km z=true:=by rfl)(hp:Km v=true:=by rfl):
 EO P New N ε L ⟨d, .buildSlice t 1 #[(0,x)],ty,ps,af,g⟩ (λr a=> ∃b,(∀t∈L,t.1≠b)/\r= .slice (some ⟨b,0,none⟩) 1 1/\a=(b,true, .cells #[v] e)::L):=
 λ_ f=>mU (f.ev hx) hu hs hz hzp hp hN λb hb=>⟨b,hb,rfl,rfl⟩
def K5 (L:Ka):Prop:= ∀b fl fl' o o',(b,fl,o)∈L->(b,fl',o')∈L->fl=fl'/\o=o'
theorem bz {L:Ka}(h:(L.map (·.1)).Nodup):K5 L:=by
 intro b x n o o' s p;obtain⟨i,l⟩:=mx s;obtain⟨j,m⟩:=mx p;have u:(L.map (·.1))[i]? =some b:=by simp[l]
 have r:(L.map (·.1))[j]? =some b:=by simp[m]
 obtain⟨a,d⟩:=mo.1 u;obtain⟨f,e⟩:=mo.1 r;have k:i=j:=by
  rcases Nat.lt_trichotomy i j with g|g|g
  ·exact absurd (d.trans e.symm) (Ow.1 h i j a f g)
  ·exact g
  ·exact absurd (e.trans d.symm) (Ow.1 h j i f a g)
 subst k;have:=l.symm.trans m;simp only[Option.some.injEq,Prod.mk.injEq,true_and] at this;exact this
structure K4 (L:Ka)(b:Nat)(o:Obj)(L':Ka):Prop where
 self:(b,true,o)∈L'
 ne: ∀t∈L,t.1≠b->t∈L'
 fn:K5 L'
structure Add (L:Ka)(b:Nat)(o:Obj)(L':Ka):Prop where
 self:(b,true,o)∈L'
 sub: ∀t∈L,t∈L'
 new: ∀t∈L,t.1≠b
 fn:K5 L'
theorem cO {L:Ka}(hnd:(L.map (·.1)).Nodup){n b:Nat}{o o':Obj}(hn:L[n]? =some (b,true,o)):K4 L b o' (L.set n (b,true,o')):=by
 obtain⟨f,he⟩:=mo.1 hn;refine⟨l5 (i:=n) (by simp[f]),λt g d=> ?_,bz ?_⟩
 ·obtain⟨i,a⟩:=mx g;refine l5 (i:=i) ?_;rw[List.getElem?_set_ne (λe=>d ?_)]
  ·exact a
  ·subst e;rw[hn] at a;simp only[Option.some.injEq] at a;rw[<-a]
 ·have:(L.set n (b,true,o')).map (·.1)=L.map (·.1):=by
   apply xt;intro i;simp only[sE,OK]
   split
   ·rename_i e;subst e;simp[f,he]
   ·rfl
  rw[this];exact hnd
theorem lC {ops:Array Oper}{todo:List Nat}{n:Nat}(h:K5 L->KO Δ P main fn N ops todo n s Q ε L):KO Δ P main fn N ops todo n s Q ε L:=kN λa=>h (bz a)
theorem iV {c:Code}{n:Nat}(h:K5 L->Kw Δ P main fn N c n s Q ε L):Kw Δ P main fn N c n s Q ε L:=Ei λa=>h (bz a)
theorem bX {t b i:Nat}{x y:Operand}{v:Value}{cs:Array Value}{e:TypeId}(hx:ev ε x=some (.pointer (some ⟨b,i,none⟩)):=by rfl)(hy:ev ε y=some v:=by rfl)(hp:Km v=true:=by rfl)(hs:Kd P t=some 1)(hnd:(L.map (·.1)).Nodup)(hm:(b,true, .cells cs e)∈L)(hi:i<cs.size):
 EO P New N ε L ⟨d, .store t x y,ty,ps,af,g⟩ (λr f=>r=undef/\K4 L b (.cells (cs.setIfInBounds i v) e) f):=by
 intro a j;obtain⟨n,k⟩:=mx hm;exact AY (j.ev hx) (j.ev hy) hs k hi hp ⟨rfl,cO hnd k⟩
theorem osm {ops:Array Oper}{i:Nat}{rest:List Nat}{n:Nat}{ot:TypeId}{t b j:Nat}{x y:Operand}{v:Value}{cs:Array Value}{e:TypeId}(ho:ops[i]? =some ⟨d, .store t x y,ot,ps,af,g⟩)(hx:ev ε x=some (.pointer (some ⟨b,j,none⟩)):=by rfl)(hy:ev ε y=some v:=by rfl)(hp:Km v=true:=by rfl)(hs:Kd P t=some 1)(hm:(b,true, .cells cs e)∈L)(hi:j<cs.size)
 (hw:Kr ops N ε g=some true:=by rfl) (hd:KG N d=true:=by rfl) (h: ∀L',K4 L b (.cells (cs.setIfInBounds j v) e) L'->KO Δ P main fn N ops rest n s Q (KY d undef ε) L'):KO Δ P main fn N ops (i::rest) (n+1) s Q ε L:=
 kN λhnd=>oe ho (bX hx hy hp hs hnd hm hi) hw hd λ_ a ⟨f,k⟩=>by rw[f];exact h a k
theorem cT {b:Nat}{o:Obj}(j:K5 L)(hb: ∀t∈L,t.1≠b):Add L b o ((b,true,o)::L):=by
 refine⟨eT,λt g=>dc _ g,hb, ?_⟩;intro k m i l n f e;rcases gn.1 f with a|f<;>rcases gn.1 e with d|e
 ·simp only[Prod.mk.injEq] at a d;exact⟨by rw[a.2.1,d.2.1],by rw[a.2.2,d.2.2]⟩
 ·simp only[Prod.mk.injEq] at a;exact absurd a.1 (hb _ e)
 ·simp only[Prod.mk.injEq] at d;exact absurd d.1 (hb _ f)
 ·exact j _ _ _ _ _ f e
theorem bB {ops:Array Oper}{i:Nat}{rest:List Nat}{n:Nat}{k:Op}{ot:TypeId}{f:Nat->Value}{e:Obj}(ho:ops[i]? =some ⟨d,k,ot,ps,af,g⟩)(hy:EO P (Δ s).New N ε L ⟨d,k,ot,ps,af,g⟩ (λr a=> ∃b,(∀t∈L,t.1≠b)/\r=f b/\a=(b,true,e)::L))
 (hw:Kr ops N ε g=some true:=by rfl) (hd:KG N d=true:=by rfl) (h: ∀b L',Add L b e L'->KO Δ P main fn N ops rest n s Q (KY d (f b) ε) L'):KO Δ P main fn N ops (i::rest) (n+1) s Q ε L:=
 lC λj=>oe ho hy hw hd λ_ a ⟨b,hb,m,l⟩=>by rw[m];exact h b a (l▸cT j hb)
theorem lD {ops:Array Oper}{nf:Nat}{R L0:Ka}{e:Nat}{l:σ}{a:Nat}{ls:Array Bool}{i:Nat}{k:Op}{ot:TypeId}{f:Nat->Value}{m:Obj}(ho:ops[i]? =some ⟨d,k,ot,ps,af,g⟩)(hy:EO P (Δ s).New N ε L ⟨d,k,ot,ps,af,g⟩ (λr j=> ∃b,(∀t∈L,t.1≠b)/\r=f b/\j=(b,true,m)::L))
 (hr:Region.ready .any ops ls=[i]:=by kernel_rfl) (hw:Kr ops N ε g=some true:=by rfl) (hd:KG N d=true:=by rfl) (h: ∀b L',Add L b m L'->LR R L0 e l (ls.setIfInBounds i true) s L'/\K6 Δ P main fn N ops Q nf R L0 e l a (ls.setIfInBounds i true) s (KY d (f b) ε) L'):K6 Δ P main fn N ops Q nf R L0 e l (a+1) ls s ε L:=
 aF λhnd=>te ho hy hr hw hd λ_ j ⟨b,hb,o,n⟩=>by rw[o];exact h b j (n▸cT (bz hnd) hb)
end
section
variable {σ:Type}{F:Kn σ}{Δ: ∀s,Ma (F.R s) (F.D s)} {P:Program} {main:Bool} {fn:FuncId} {N:Nat} {Q:σ->Exit->Env->Ka->Prop} {s:σ} {ε:Env} {L:Ka} {ops:Array Oper} {i j n:Nat} {rest:List Nat} {d d':Option Tmp} {k:Op} {ot ot':TypeId} {ps ps':String} {af af':Array Edge} {g g':Option (Nat×Bool)} {v v':Value} {x:Operand}
theorem oan (ho:ops[i]? =some ⟨d, .assign x,ot,ps,af,g⟩)(hx:ev ε x=some v:=by rfl)(hw:Kr ops N ε g=some true:=by rfl)(hd:KG N d=true:=by rfl)(h:Q s .normal (KY d v ε) L):KO Δ P main fn N ops [i] (1+1) s Q ε L:=oy ho (fX hx) hw hd (Dg h)
theorem om (ho:ops[i]? =some ⟨d, .move x,ot,ps,af,g⟩)(hx:ev ε x=some v)(b:ops[j]? =some ⟨d',k,ot',ps',af',g'⟩)(hy:EY P N (KY d v ε) L ⟨d',k,ot',ps',af',g'⟩ v')(hw:Kr ops N ε g=some true:=by rfl)(hd:KG N d=true:=by rfl)(a:Kr ops N (KY d v ε) g'=some true:=by rfl)(e:KG N d'=true:=by rfl)(h:KO Δ P main fn N ops rest n s Q (KY d' v' (KY d v ε)) L):KO Δ P main fn N ops (i::j::rest) (n+1+1) s Q ε L:=oy ho (bk hx) hw hd (oy b hy a e h)
theorem pN {R:Ka}{e:Nat}{ls:Array Bool}(a: ∀t∈R,t∈L:=by simp):LR R L e s ls s L:=aa a
end
def cutAt (o l m sz:Nat):Nat:=if m=l then o else o+l*sz
section
variable {P:Program}{L:Ka}{K:(Nat×Nat×Nat)->Prop}
theorem dh {k:IntKind}{i:Int}{y:Nat}{c:BoundsCode}{K:Nat->Prop}(h0:0<=i)(h1:i<=y)(h:K i.toNat):Kz P (Instr.sliceBound (.int k i) y c) K L:=by
 unfold Instr.sliceBound;simp only[asIntOf,aq,bM,h0,h1,and_self,if_true];exact h
end
section
variable {P:Program}{N:Nat}{ε:Env}{L:Ka}{d:Option Tmp}{ty:TypeId}{ps:String}{af:Array Edge}{g:Option (Nat×Bool)}{t e:TypeId}{x y z u:Operand}{b o sz len cap:Nat}{k1 k2 k3:IntKind}{l h m:Int}
theorem iW {v lo hi d:Option Value}{l h m:Nat}{a:Value}(ha:a= .slice (some ⟨b,o,none⟩) len cap)(hu:P.underlying t=some (.slice e))(hs:Kd P e=some sz)(hb: ∀(K:Nat×Nat×Nat->Prop),K (l,h,m)->Kz P (Instr.sliceBounds true len cap lo hi d) K L) (K:Value->Prop)
 (g:K (.slice (some ⟨b,cutAt o l m sz,none⟩) (h-l) (m-l))):Kz P (Instr.sliceAt t a lo hi d) K L:=by
 unfold Instr.sliceAt;rw[aq,aE hu];show Kz P (Instr.slice t a lo hi d) K L;unfold Instr.slice;rw[aq,aE hu,ha];show Kz P (Instr.sliceBounds true len cap lo hi d>>=_) K L;rw[aq];refine hb _ ?_;show Kz P (sizeOf e>>=_) K L;rw[aq,cG hs];have f:(if m=l then some (⟨b,o,none⟩:Addr) else(some (⟨b,o,none⟩:Addr)).map (·.add (l*sz)))=some ⟨b,cutAt o l m sz,none⟩:=by
  unfold cutAt
  split
  ·rfl
  ·simp[dn]
 show K (.slice (if m=l then some (⟨b,o,none⟩:Addr) else(some (⟨b,o,none⟩:Addr)).map (·.add (l*sz))) (h-l) (m-l));rw[f];exact g
theorem qx (hu:P.underlying t=some (.slice e))(hs:Kd P e=some sz)(hx:ev ε x=some (.slice (some ⟨b,o,none⟩) len cap):=by rfl)(hy:ev ε y=some (.int k1 h):=by rfl)(h0:0<=h:=by first|decide|omega)(h1:h<=cap:=by first|decide|omega):
 EY P N ε L ⟨d, .slice t x none (some y) none,ty,ps,af,g⟩ (.slice (some ⟨b,cutAt o 0 cap sz,none⟩) (h.toNat-0) (cap-0)):=λ_ f=>by
 refine cN (λ_=>rfl) λK a=> ?_;refine iW (v:=none) (f.ev hx) hu hs (l:=0) (λK a=> ?_) K a;simp only[qs,OM,f.ev hy,Instr.sliceBounds];simp only[aq,bM];exact dh h0 h1 a
theorem qz (hu:P.underlying t=some (.slice e))(hs:Kd P e=some sz)(hx:ev ε x=some (.slice (some ⟨b,o,none⟩) len cap):=by rfl)(hy:ev ε y=some (.int k1 l):=by rfl)(h0:0<=l:=by first|decide|omega)(h1:l<=len:=by first|decide|omega):
 EY P N ε L ⟨d, .slice t x (some y) none none,ty,ps,af,g⟩ (.slice (some ⟨b,cutAt o l.toNat cap sz,none⟩) (len-l.toNat) (cap-l.toNat)):=λ_ f=>by
 refine cN (λ_=>rfl) λK a=> ?_;refine iW (v:=none) (f.ev hx) hu hs (h:=len) (λK a=> ?_) K a;simp only[qs,OM,f.ev hy,Instr.sliceBounds];simp only[aq,bM];exact dh h0 h1 a
theorem xD (hu:P.underlying t=some (.slice e))(hs:Kd P e=some sz)(hx:ev ε x=some (.slice (some ⟨b,o,none⟩) len cap):=by rfl)(hy:ev ε y=some (.int k1 l):=by rfl)(hz:ev ε z=some (.int k2 h):=by rfl)(h0:0<=l:=by first|decide|omega)(h1:l<=h:=by first|decide|omega)(h2:h<=cap:=by first|decide|omega):
 EY P N ε L ⟨d, .slice t x (some y) (some z) none,ty,ps,af,g⟩ (.slice (some ⟨b,cutAt o l.toNat cap sz,none⟩) (h.toNat-l.toNat) (cap-l.toNat)):=λ_ f=>by
 refine cN (λ_=>rfl) λK a=> ?_;refine iW (v:=none) (f.ev hx) hu hs (λK a=> ?_) K a;simp only[qs,OM,f.ev hy,f.ev hz,Instr.sliceBounds];simp only[aq,bM];refine dh bl h2 ?_;exact dh h0 bl a
theorem xE (hu:P.underlying t=some (.slice e))(hs:Kd P e=some sz)(hx:ev ε x=some (.slice (some ⟨b,o,none⟩) len cap):=by rfl)(hy:ev ε y=some (.int k1 l):=by rfl)(hz:ev ε z=some (.int k2 h):=by rfl)(hw:ev ε u=some (.int k3 m):=by rfl)(h0:0<=l:=by first|decide|omega)(h1:l<=h:=by first|decide|omega)(h2:h<=m:=by first|decide|omega)(i:m<=cap:=by first|decide|omega):
 EY P N ε L ⟨d, .slice t x (some y) (some z) (some u),ty,ps,af,g⟩ (.slice (some ⟨b,cutAt o l.toNat m.toNat sz,none⟩) (h.toNat-l.toNat) (m.toNat-l.toNat)):=λ_ a=>by
 refine cN (λ_=>rfl) λK f=> ?_;refine iW (v:=none) (a.ev hx) hu hs (λK f=> ?_) K f;simp only[qs,OM,a.ev hy,a.ev hz,a.ev hw,Instr.sliceBounds];simp only[aq,bM,if_true,Option.isSome_some];refine dh bl i ?_;refine dh bl bl ?_;exact dh h0 bl f
end
section
variable {P:Program}{L:Ka}{sz n b o len cap:Nat}{fl:Bool}{cs:Array Value}{e:TypeId}{fr:Nat×Nat}
theorem bR (hm:(b,fl, .cells cs e fr)∈L)(h:o+n*sz<=cs.size):Reads P L sz n (.slice (some ⟨b,o,none⟩) len cap) (cs.extract o (o+n*sz)):=⟨λ_ _ a=>mR hm h a⟩
end
theorem bY: ∀(vs l:List Value)(o:Nat),o+vs.length<=l.length->KP l.toArray o vs=(l.take o++vs++l.drop (o+vs.length)).toArray
 |[],l,o,h=>by simp[KP]
 |v::vs,l,o,h=>by
  simp only[gf] at h;rw[KP,OB,bY vs (l.set o v) (o+1) ao];congr 1;have a:(l.set o v).take (o+1)=l.take o++[v]:=by
   rw[List.take_set,List.take_succ_eq_append_getElem bl,List.set_append_right _ _ ao];simp[Nat.min_eq_left (show o<=l.length by omega)]
  have b:(l.set o v).drop (o+1+vs.length)=l.drop (o+(v::vs).length):=by
   rw[List.drop_set_of_lt bl];simp only[gf];congr 1;omega
  rw[a,b];simp
section
variable {P:Program}{New:Obj->Prop}{N:Nat}{ε:Env}{L:Ka}{d:Option Tmp}{ty:TypeId}{ps:String}{af:Array Edge}{g:Option (Nat×Bool)}{t u e e2:TypeId}{x y:Operand}
theorem lE {sz f i b o n:Nat}{yb:Option Addr}{l:Nat}{vs cs:Array Value}{e':TypeId}(hx:ev ε x=some (.slice (some ⟨b,o,none⟩) f i):=by rfl)(hy:ev ε y=some (.slice yb n l):=by rfl)(hnd:(L.map (·.1)).Nodup)(hu:P.underlying t=some (.slice e))(hv:P.underlying u=some (.slice e2))(hs:Kd P e=some sz)(hr:Reads P L sz n (.slice yb n l) vs)(hc:f+n<=i)(hm:(b,true, .cells cs e')∈L)(ho:o+f*sz+vs.size<=cs.size)(hp:vs.toList.all Km=true)
 :
 EO P New N ε L ⟨d, .call ⟨.builtin .append, #[x,y], #[t,u]⟩,ty,ps,af,g⟩ (λr L'=>r= .slice (some ⟨b,o,none⟩) (f+n) i/\K4 L b (.cells (KP cs (o+f*sz) vs.toList) e') L'):=by
 intro a k;obtain⟨m,j⟩:=mx hm;exact sw (k.ev hx) (k.ev hy) hu hv hs hr hc j ho hp ⟨rfl,cO hnd j⟩
theorem nv {sz by_ f i n:Nat}{l yb:Option Addr}{k:Nat}{ws vs:Array Value}{z:Value}(hx:ev ε x=some (.slice l f i):=by rfl)(hy:ev ε y=some (.slice yb n k):=by rfl)(hF:K5 L)(hu:P.underlying t=some (.slice e))(hv:P.underlying u=some (.slice e2))(hs:Kd P e=some sz)(hb:KJ P e=some (by_+1))(hz0:zeroAt P e=some z)(hw:Reads P L sz f (.slice l f i) ws)(hr:Reads P L sz n (.slice yb n k) vs)(hc:i<f+n)(hbig:(2*(f+n)+192)*(by_+1)<=281474976710656)(hN: ∀cs,New (.cells cs e))
 :
 EO P New N ε L ⟨d, .call ⟨.builtin .append, #[x,y], #[t,u]⟩,ty,ps,af,g⟩ (λr L'=> ∃b cap,f+n<=cap/\cap<9223372036854775808/\r= .slice (some ⟨b,0,none⟩) (f+n) cap/\Add L b (.cells (ws++vs++Builtin.zeroCells z.cells (cap-(f+n))) e) L'):=by
 intro a j;exact qn (j.ev hx) (j.ev hy) hu hv hs hb hz0 hw hr hc hbig hN λb cap hb m o=>⟨b,cap,m,o,rfl,cT hF hb⟩
theorem xF {b o n cap:Nat}{cs:Array Value}{e':TypeId}{z:Value}(hx:ev ε x=some (.slice (some ⟨b,o,none⟩) n cap):=by rfl)(hnd:(L.map (·.1)).Nodup)(hu:P.underlying t=some (.slice e))(hz0:zeroAt P e=some z)(hzp:Km z=true)(hm:(b,true, .cells cs e')∈L)(ho:o+n<=cs.size):
 EO P New N ε L ⟨d, .call ⟨.builtin .clear, #[x], #[t]⟩,ty,ps,af,g⟩ (λr L'=>r= .tuple #[]/\K4 L b (.cells (KP cs o (List.replicate n z)) e') L'):=by
 intro a l;obtain⟨m,f⟩:=mx hm;refine cw (s:=Builtin.clear_ #[t] ty #[.slice (some ⟨b,o,none⟩) n cap]) (λ_=>by simp[builtin,l.ev hx]) ?_;unfold Builtin.clear_;simp only[nw,u9];rw[ak,aT hu];cases n with
 |zero=>
  simp only[ak,bg,List.replicate_zero,KP];refine⟨trivial, ?_⟩;have:=cO (o':= .cells cs e') hnd f;have p:L.set m (b,true, .cells cs e')=L:=by
   apply xt;intro j;rw[OK]
   split
   ·rename_i e;subst e;obtain⟨u,he⟩:=mo.1 f;simp[u,he]
   ·rfl
  rw[p] at this;exact this
 |succ n=>
  have k:(Builtin.zeroCells z.cells (n+1)).toList=List.replicate (n+1) z:=by
   rw[ee hzp];unfold Builtin.zeroCells;apply List.ext_getElem
   ·simp
   ·intro i y A;simp[Nat.mod_one]
  simp only[ak,cC hz0,k];refine cg f (by simpa using ho) (by simp[hzp]) ?_;exact⟨rfl,cO hnd f⟩
end
section
variable {σ:Type}{F:Kn σ}{Δ: ∀s,Ma (F.R s) (F.D s)} {P:Program} {main:Bool} {fn:FuncId} {N:Nat} {Q:σ->Exit->Env->Ka->Prop} {s:σ} {ε:Env} {L:Ka}
theorem bL {x y:Code}{n₁ n₂:Nat}(M:σ->Env->Ka->Prop)(h1:Kw Δ P main fn N x n₁ s (MW M Q) ε L)(h2: ∀s' ε' L',M s' ε' L'->Kw Δ P main fn N y n₂ s' Q ε' L'):Kw Δ P main fn N (.seq x y) (n₁+n₂+1) s Q ε L:=
 aK (qv h1 λs' e ε' L' q=>by
  cases e with
  |normal=>exact h2 _ _ _ q
  |_=>exact q)
end
section
variable {P:Program}{New:Obj->Prop}{L:Ka}
theorem qA {f:FuncId}{fn:Func}{e:Array Value->Sem Value}{args:Array Value}{Q:Next->Ka->Prop}(hf:P.funcs[f]? =some fn)(hname:(fn.name== "runtime.NumGoroutine")=false)(hb:fn.body.isNone=true)(hn:Extern.findNext fn=none)(he:Extern.find fn=some e)
 (h:KI P New (e args) (λv L'=>Q (.value v) L') L):KI P New (callFunc f args) Q L:=by
 have a:fn.name≠ "runtime.NumGoroutine" :=by simpa using hname
 have b:fn.body=none:=by simpa using hb
 show KI P New (match P.funcs[f]? with|none=>_|some fn=>_) Q L;rw[hf];simp only[beq_iff_eq,a,if_false,b,Option.isNone_none,if_true];rw[ak];refine⟨rfl, ?_⟩;simp only[hn,he];rw[m9,ak];exact h
theorem ko {f:FuncId}{fn:Func}{e:Array Value->Sem Value}{args:Array Value}{K:Next->Prop}(hf:P.funcs[f]? =some fn)(hname:(fn.name== "runtime.NumGoroutine")=false)(hb:fn.body.isNone=true)(hn:Extern.findNext fn=none)(he:Extern.find fn=some e)
 (h:Kz P (e args) (λv=>K (.value v)) L):Kz P (callFunc f args) K L:=by
 have a:fn.name≠ "runtime.NumGoroutine" :=by simpa using hname
 have b:fn.body=none:=by simpa using hb
 show Kz P (match P.funcs[f]? with|none=>_|some fn=>_) K L;rw[hf];simp only[beq_iff_eq,a,if_false,b,Option.isNone_none,if_true];rw[aq];refine⟨rfl, ?_⟩;simp only[hn,he];show Kz P (e args>>=_) K L;rw[aq];exact h
theorem iX {f:FuncId}{fn:Func}{args:Array Value}{K:Next->Prop}(hf:P.funcs[f]? =some fn)(hname:(fn.name== "runtime.NumGoroutine")=false)(hb:fn.body.isNone=false)(h:K (.enter f args)):Kz P (callFunc f args) K L:=by
 have a:fn.name≠ "runtime.NumGoroutine" :=by simpa using hname
 show Kz P (match P.funcs[f]? with|none=>_|some fn=>_) K L;rw[hf];simp only[beq_iff_eq,a,if_false,hb,pS];exact h
end
theorem eI {N:Nat}{ε:Env}{a:Act}(hf:Fits N ε a): ∀(l:List Operand)(vs:List Value),l.map (ev ε)=vs.map some->l.map a.eval=vs:=by
 intro l
 induction l with
 |nil=>intro vs h;cases vs<;>simp_all
 |cons x l ih=>
  intro vs h;cases vs with
  |nil=>simp at h
  |cons v vs=>
   simp only[ix,List.cons.injEq] at h⊢;exact⟨hf.ev h.1,ih vs h.2⟩
section
variable {P:Program}{New:Obj->Prop}{N:Nat}{ε:Env}{L:Ka}{d:Option Tmp}{ty:TypeId}{ps:String}{af:Array Edge}{g:Option (Nat×Bool)}{args:Array Operand}{ats:Array TypeId}{vs:List Value}
theorem lF {f:FuncId}{fn:Func}{e:Array Value->Sem Value}{v:Value}(b:args.toList.map (ev ε)=vs.map some:=by rfl)(hf:P.funcs[f]? =some fn)(he:Extern.find fn=some e)(hv:Kz P (e vs.toArray) (· =v) L)(hname:(fn.name== "runtime.NumGoroutine")=false:=by rfl)(hb:fn.body.isNone=true:=by rfl)(hn:Extern.findNext fn=none:=by kernel_rfl):
 EY P N ε L ⟨d, .call ⟨.value (.func f),args,ats⟩,ty,ps,af,g⟩ v:=by
 intro a i;have j:args.map a.eval=vs.toArray:=by apply gm;simpa using eI i _ _ b
 show Kz P (callFunc f ((#[]++args.map a.eval)++ #[])) _ L;rw[j];simp only[Array.empty_append,Array.append_empty];exact ko hf hname hb hn he (dp (λ_ h=>by rw[h]) (λ_ h=>h) _ hv)
theorem xG {f:FuncId}{fn:Func}{e:Array Value->Sem Value}{b:Value->Ka->Prop}(i:args.toList.map (ev ε)=vs.map some:=by rfl)(hf:P.funcs[f]? =some fn)(he:Extern.find fn=some e)(hv:KI P New (e vs.toArray) b L)(hname:(fn.name== "runtime.NumGoroutine")=false:=by rfl)(hb:fn.body.isNone=true:=by rfl)(hn:Extern.findNext fn=none:=by kernel_rfl):
 EO P New N ε L ⟨d, .call ⟨.value (.func f),args,ats⟩,ty,ps,af,g⟩ b:=by
 intro a j;have k:args.map a.eval=vs.toArray:=by apply gm;simpa using eI j _ _ i
 show KI P New (callFunc f ((#[]++args.map a.eval)++ #[])) _ L;rw[k];simp only[Array.empty_append,Array.append_empty];exact qA hf hname hb hn he hv
theorem lG {x:Operand}{t:TypeId}{b rc:Value}{nm:String}{f:FuncId}{fn:Func}{e:Array Value->Sem Value}{v:Value}(hx:ev ε x=some (.iface t b):=by rfl)(i:args.toList.map (ev ε)=vs.map some:=by rfl)(hm:Kz P (method (P.types.size+Made.depth) t b nm) (· =(f,rc)) L)(hf:P.funcs[f]? =some fn)(he:Extern.find fn=some e)(hv:Kz P (e (rc::vs).toArray) (· =v) L)(hname:(fn.name== "runtime.NumGoroutine")=false:=by rfl)(hb:fn.body.isNone=true:=by rfl)(hn:Extern.findNext fn=none:=by kernel_rfl):
 EY P N ε L ⟨d, .call ⟨.invoke x nm,args,ats⟩,ty,ps,af,g⟩ v:=by
 intro a j;have n:args.map a.eval=vs.toArray:=by apply gm;simpa using eI j _ _ i
 show Kz P (invoke (.fn (.method nm) #[]) (#[a.eval x]++args.map a.eval)) _ L;rw[n,j.ev hx];unfold invoke;have m:(#[Value.iface t b]++vs.toArray)[0]? =some (.iface t b):=bE
 have l:(#[Value.iface t b]++vs.toArray).extract 1 (#[Value.iface t b]++vs.toArray).size=vs.toArray:=by apply gm;simp
 simp only[m,l];show Kz P (method (P.types.size+Made.depth) t b nm>>=λ(p:FuncId×Value)=>callFunc p.1 (#[p.2]++vs.toArray)) _ L;rw[aq];refine dp ?_ (λ_ h=>h) _ hm;rintro _ rfl;have k: #[rc]++vs.toArray=(rc::vs).toArray:=by apply gm;simp
 simp only[k];exact ko hf hname hb hn he (dp (λ_ h=>by rw[h]) (λ_ h=>h) _ hv)
end
section
variable {σ:Type}{F:Kn σ}{Δ: ∀s,Ma (F.R s) (F.D s)} {P:Program} {main:Bool} {fn:FuncId} {s:σ} {a:Act} {L:Ka}
theorem qB {Q:σ->Exit->Act->Ka->Prop}{ops:Array Oper}{i:Nat}{rest:List Nat}{o:Oper}{f:FuncId}{vals:Array Value}{nf n:Nat}{Post:σ->Value->Ka->Prop}
 (ho:ops[i]? =some o) (hw:Region.wanted o (yielded ops a.tmps)=true) (hE:Kz P (execOp a.eval o) (· = .enter f vals) L) (hcall:Kb Δ P main f vals nf s L Post) (A: ∀s' v L',Post s' v L'->LN Δ P main fn ops rest n s' Q (a.put o.dst v) L'):LN Δ P main fn ops (i::rest) (n+nf+3) s Q a L:=by
 intro w K b k cs m hb I hc;obtain⟨g,c,H,E,x,C⟩:=hcall w K;have B: ∀v,(b.at a (.inRegion ops (i::rest)::k)).finish v=b.at (a.put o.dst v) (.inRegion ops rest::k):=λv=>by rw[Frame.finish_at,ho];rfl
 have r: ∀(s':σ)(z:Act)(y:World)(p:List Item),(z.defers=[]/\ ∃v,ResultsC P g z.tmps v/\upV Δ Post s' v y)->
  Goes P main (F.R s') (F.D s') (F.Stop s') (m+n+1) (G {(base f).at z p with mode:= .returning} (b.at a (.inRegion ops (i::rest)::k)::cs)) y:=by
  rintro s' z y p ⟨T,v,J,L',S,M⟩;refine Goes.step rfl λj d=> ?_;rw[stepG_leave (b:=base f) rfl T H (J j).1 (J j).2,B];exact⟨(F.terms s').idle _,(A s' v L' M y S b k cs m hb I hc).rely (F.terms s').trans d⟩
 have u:Goes P main (F.R s) (F.D s) (F.Stop s) (m+n+2+nf) (G ((base f).at {tmps:=vals++Array.replicate (g.ntmps-vals.size) undef,defers:=[]} [.code c]) (b.at a (.inRegion ops (i::rest)::k)::cs)) w:=by
  refine C (base f) [] _ (m+n+2) rfl (by simp[base]) λs' e z y q=> ?_;cases e with
  |normal=>exact Goes.step rfl λj d=>by rw[stepG_end];exact⟨(F.terms s').idle _,(r s' z y [] q).rely (F.terms s').trans d⟩
  |ret=>exactλp=>(r s' z y p q).more
  |exit id=>exact q.elim
  |goto l=>exact q.elim
  |panic ch=>exact q.elim
  |outgrown=>exact q.elim
 have e:m+(n+nf+3)=(m+n+2+nf)+1:=bl
 rw[e];refine Goes.step rfl λj d=> ?_;obtain⟨O,N⟩:=oK (Δ s) ((Δ s).rely K d) hE;rw[stepG_enter ho hw I O,enter_at _ H x];exact⟨(Δ s).dd ((Δ s).gr j) λe he=>N e (by rw[hb] at he;exact mem_listed he),u.rely (F.terms s).trans d⟩
end
section
variable {σ:Type}{F:Kn σ}{Δ: ∀s,Ma (F.R s) (F.D s)} {P:Program} {main:Bool} {fn:FuncId} {N:Nat} {Q:σ->Exit->Env->Ka->Prop} {s:σ} {ε:Env} {L:Ka} {d:Option Tmp} {ps:String} {af:Array Edge} {g:Option (Nat×Bool)} {ot:TypeId} {args:Array Operand} {ats:Array TypeId} {vs:List Value}
theorem ov {ops:Array Oper}{i:Nat}{rest:List Nat}{x:Operand}{f:FuncId}{e:Func}{c1 c2:List Value}{nf n:Nat}{Post:σ->Value->Ka->Prop}(ho:ops[i]? =some ⟨d, .call ⟨.value x,args,ats⟩,ot,ps,af,g⟩)(hx:ev ε x=some (.func (.func f) c1.toArray c2.toArray):=by rfl)(j:args.toList.map (ev ε)=vs.map some:=by rfl)
 (hf:P.funcs[f]? =some e) (hname:(e.name== "runtime.NumGoroutine")=false:=by rfl) (hb:e.body.isNone=false:=by rfl) (hcall:Kb Δ P main f (c1++vs++c2).toArray nf s L Post) (hw:Kr ops N ε g=some true:=by rfl) (hd:KG N d=true:=by rfl)
 (h: ∀s' v L',Post s' v L'->KO Δ P main fn N ops rest n s' Q (KY d v ε) L'):KO Δ P main fn N ops (i::rest) (n+nf+3) s Q ε L:=by
 intro a b;have m:args.map a.eval=vs.toArray:=by apply gm;simpa using eI b _ _ j
 refine qB ho (b.wanted hw) ?_ hcall λs' v L' l=>h s' v L' l _ (b.put hd v);show Kz P (resolve a.eval ⟨.value x,args,ats⟩ ot>>=λd=>invoke d.target d.args) _ L;unfold resolve;simp only[m,b.ev hx];show Kz P (callFunc f ((c1.toArray++vs.toArray)++c2.toArray)) _ L;have k:(c1.toArray++vs.toArray)++c2.toArray=(c1++vs++c2).toArray:=by apply gm;simp
 rw[k];exact iX hf hname hb rfl
theorem oi {ops:Array Oper}{i:Nat}{rest:List Nat}{x:Operand}{t:TypeId}{b rc:Value}{nm:String}{f:FuncId}{j:Func}{nf n:Nat}{Post:σ->Value->Ka->Prop}(ho:ops[i]? =some ⟨d, .call ⟨.invoke x nm,args,ats⟩,ot,ps,af,g⟩)(hx:ev ε x=some (.iface t b):=by rfl)(k:args.toList.map (ev ε)=vs.map some:=by rfl)
 (hm:Kz P (method (P.types.size+Made.depth) t b nm) (· =(f,rc)) L) (hf:P.funcs[f]? =some j) (hname:(j.name== "runtime.NumGoroutine")=false:=by rfl) (hb:j.body.isNone=false:=by rfl) (hcall:Kb Δ P main f (rc::vs).toArray nf s L Post) (hw:Kr ops N ε g=some true:=by rfl) (hd:KG N d=true:=by rfl)
 (h: ∀s' v L',Post s' v L'->KO Δ P main fn N ops rest n s' Q (KY d v ε) L'):KO Δ P main fn N ops (i::rest) (n+nf+3) s Q ε L:=by
 intro a e;have u:args.map a.eval=vs.toArray:=by apply gm;simpa using eI e _ _ k
 refine qB ho (e.wanted hw) ?_ hcall λs' v L' m=>h s' v L' m _ (e.put hd v);show Kz P (invoke (.fn (.method nm) #[]) (#[a.eval x]++args.map a.eval)) _ L;rw[u,e.ev hx];unfold invoke;have r:(#[Value.iface t b]++vs.toArray)[0]? =some (.iface t b):=bE
 have o:(#[Value.iface t b]++vs.toArray).extract 1 (#[Value.iface t b]++vs.toArray).size=vs.toArray:=by apply gm;simp
 simp only[r,o];show Kz P (method (P.types.size+Made.depth) t b nm>>=λ(p:FuncId×Value)=>callFunc p.1 (#[p.2]++vs.toArray)) _ L;rw[aq];refine dp ?_ (λ_ h=>h) _ hm;rintro _ rfl;have l: #[rc]++vs.toArray=(rc::vs).toArray:=by apply gm;simp
 simp only[l];exact iX hf hname hb rfl
end
def KF {α:Type}(P:Program):Sem α->List Value->Option (α×List Addr)
 | .pure a,vs=>match vs with|[]=>some (a,[])|_::_=>none
 | .load m a k,vs=>match m,vs with| .plain,v::vs=>(KF P (k v) vs).map λp=>(p.1,a::p.2)|_,_=>none
 | .program k,vs=>KF P (k P) vs
 | .mark m k,vs=>if MS m then KF P k vs else none
 | .choose q k,vs=>if q.forced then KF P (k 0) vs else none
 | .store ..,_| .new ..,_| .freeze ..,_| .setObj ..,_| .sys ..,_| .halt _,_| .shape ..,_| .frozen ..,_| .getObj ..,_=>none
section
variable {α:Type}{P:Program}{L:Ka}
def Red (L:Ka):List Addr->List Value->Prop
 |a::az,v::vs=>a.spot=none/\At L a.block a.off v/\Red L az vs
 |[],[]=>True
 |_,_=>False
theorem tU {K:α->Prop}: ∀(s:Sem α)(vs:List Value)(r:α)(d:List Addr),KF P s vs=some (r,d)->Red L d vs->K r->Kz P s K L:=by
 intro s
 induction s with
 |pure a=>
  intro vs r d h f e;cases vs with
  |nil=>simp only[KF,Option.some.injEq,Prod.mk.injEq] at h;obtain⟨rfl,rfl⟩:=h;exact e
  |cons v vs=>simp[KF] at h
 |load m a k ih=>
  intro vs r d h f e;cases m with
  |plain=>
   cases vs with
   |nil=>simp[KF] at h
   |cons v vs=>
    simp only[KF,pA,Prod.mk.injEq] at h;obtain⟨⟨l,y⟩,g,x,n⟩:=h;subst n;obtain⟨p,⟨u,cs,ty,z,hm,o⟩,j⟩:=f;refine⟨rfl,u,_,v,hm, ?_,ih _ _ _ _ g j (by rw[show l=r from x];exact e)⟩;obtain⟨b,i,sp⟩:=a;obtain rfl:sp=none:=p;exact o
  |_=>simp[KF] at h
 |program k ih=>exactλvs r d h f e=>ih _ vs r d h f e
 |mark m k ih=>
  intro vs r d h f e;simp only[KF] at h
  split at h
  ·rename_i g;exact⟨g,ih vs r d h f e⟩
  ·simp at h
 |choose q k ih=>
  intro vs r d h f e;simp only[KF] at h
  split at h
  ·rename_i g;exact⟨g,ih _ vs r d h f e⟩
  ·simp at h
 |_=>intro vs r d h;simp[KF] at h
theorem aZ {K:α->Prop}{s:Sem α}{r:α}(h:KF P s []=some (r,[]))(a:K r):Kz P s K L:=tU s [] r [] h trivial a
theorem oO {K:α->Prop}{s:Sem α}{r:α}{v:Value}{b i:Nat}(h:KF P s [v]=some (r,[⟨b,i,none⟩]))(hv:At L b i v)(a:K r):Kz P s K L:=tU s _ r _ h ⟨rfl,hv,trivial⟩ a
end
section
variable {P:Program}{New:Obj->Prop}{N:Nat}{ε:Env}{L:Ka}{d:Option Tmp}{ty:TypeId}{ps:String}{af:Array Edge}{g:Option (Nat×Bool)}
theorem Ig {x:Operand}{b t:TypeId}{ok:Bool}{w v:Value}(hv:KF P (Instr.typeAssert w b t ok) []=some (v,[]))(hx:ev ε x=some w:=by rfl):EY P N ε L ⟨d, .typeAssert x b t ok,ty,ps,af,g⟩ v:=λa e=>by
 refine cN (λ_=>rfl) λK f=> ?_;rw[e.ev hx];exact aZ hv f
theorem xH {x:Operand}{y t s:TypeId}{w z:Value}{want:Array (String×TypeId)}(hu:P.underlying t=some (.interface want))(h:(P.info? s).map (λi=>(Go.lacking want i.methods).isEmpty)=some false)(hz:(P.info? t).map (·.zero)=some (some z))(hx:ev ε x=some (.iface s w):=by rfl):EY P N ε L ⟨d, .typeAssert x y t true,ty,ps,af,g⟩ (.tuple #[z, .bool false]):=λa p=>by
 refine cN (λ_=>rfl) λK n=> ?_;rw[p.ev hx];obtain⟨i,l,k⟩:=pA.1 h;obtain⟨j,o,f⟩:=pA.1 hz;obtain⟨m,hm⟩:=Go.missingMethod_some (want:=want) (got:=i.methods) (λe=>by rw[e] at k;cases k);unfold Instr.typeAssert;rw[aq,aE hu];show Kz P (do match Instr.missingMethod want (<-typeInfo s).methods with|none=>_|some m=>_) K L;have u:Kz P (typeInfo s) (λa=>a=i) L:=by
  unfold typeInfo;rw[aq];show Kz P (match P.info? s with|some i=>_|none=>_) _ L;rw[l];exact rfl
 have r:Kz P (zeroValue t) (λa=>a=z) L:=by
  unfold zeroValue typeInfo;rw[aq,aq];show Kz P (match P.info? t with|some i=>_|none=>_) _ L;rw[o];show Kz P (match j.zero with|some z=>_|none=>_) _ L;have b:j.zero=some z:=f;rw[b];exact rfl
 rw[aq];refine dp ?_ (λ_ h=>h) _ u;rintro _ rfl;simp only[hm];show Kz P (do pure (.tuple #[<-zeroValue t, .bool false])) K L;rw[aq];refine dp ?_ (λ_ h=>h) _ r;rintro _ rfl;exact n
theorem qC {op:BinOp}{t s s':TypeId}{x y:Operand}{a b:Value}:eqGuard op t x y (.iface s a) (.iface s' b)=pure ():=by
 unfold eqGuard;cases op<;>rfl
theorem Dk {ρ:Operand->Value}{t u s s':TypeId}{x y:Operand}{a b:Value}{c:Bool}(hx:ρ x= .iface s a)(hy:ρ y= .iface s' b)(h: ∀(K:Bool->Prop),K c->Kz P (Op.equal t (.iface s a) (.iface s' b)) K L):Lq P L (execOp ρ ⟨d, .binOp .eql t x y u,ty,ps,af,g⟩) (.bool c):=by
 refine cN (λ_=>rfl) λK e=> ?_;rw[hx,hy,qC];show Kz P (do pure (.bool (<-Op.equal t (.iface s a) (.iface s' b)))) K L;rw[aq];exact h _ e
theorem GL {t u s s':TypeId}{x y:Operand}{a b:Value}(h:KF P (Op.equal t (.iface s a) (.iface s' b)) []=some (false,[]))(hx:ev ε x=some (.iface s a):=by rfl)(hy:ev ε y=some (.iface s' b):=by rfl):EY P N ε L ⟨d, .binOp .eql t x y u,ty,ps,af,g⟩ (.bool false):=λ_ e=>
 Dk (e.ev hx) (e.ev hy) λ_ f=>aZ h f
theorem oP {D t e n:TypeId}{b i b' i':Nat}{cs d:Array Value}{f a:TypeId}{fl g:Bool}{K:Bool->Prop}(hu:P.underlying t=some (.pointer e))(hs:Kd P e=some (n+1))
 (h1:(b,fl, .cells cs f)∈L) (h2:(b',g, .cells d a)∈L) (h:K (decide ((b,i)=(b',i')))):Kz P (Op.equalIn (D+1) t (.pointer (some ⟨b,i,none⟩)) (.pointer (some ⟨b',i',none⟩))) K L:=by
 have:=lu (K:=K) (i:=i) (i':=i') hu hs h1 h2 h;rw[dg,Op.equalIn.eq_def,aq,aE hu] at this;rw[Op.equalIn.eq_def,aq,aE hu];exact this
theorem GM {t u s e n:TypeId}{x y:Operand}{b i b' i':Nat}{cs k:Array Value}{l a:TypeId}{fl m:Bool}{ms:Array (String×TypeId)}(hx:ev ε x=some (.iface s (.pointer (some ⟨b,i,none⟩))):=by rfl)(hy:ev ε y=some (.iface s (.pointer (some ⟨b',i',none⟩))):=by rfl)(hu:P.underlying t=some (.interface ms))(hi:(P.info? s).map (·.comparable)=some true)(hp:P.underlying s=some (.pointer e))(hs:Kd P e=some (n+1))
 (h1:(b,fl, .cells cs l)∈L) (h2:(b',m, .cells k a)∈L):EY P N ε L ⟨d, .binOp .eql t x y u,ty,ps,af,g⟩ (.bool (decide ((b,i)=(b',i')))):=λ_ o=>
 Dk (o.ev hx) (o.ev hy) λK p=>by
  obtain⟨j,r,hc⟩:=pA.1 hi;rw[dg,Op.equalIn.eq_def,aq,aE hu];show Kz P (if s≠s then pure false else(do let info<-typeInfo s;if !info.comparable then _ else Op.equalIn 9999 s _ _)) K L;rw[if_neg bE,aq];unfold typeInfo;rw[aq];show Kz P (match P.info? s with|some i=>_|none=>_) _ L;rw[r];show Kz P (if !j.comparable then _ else _) K L;have f:j.comparable=true:=hc;rw[f];exact oP (D:=9998) hp hs h1 h2 p
end
section
variable {σ:Type}{F:Kn σ}{Δ: ∀s,Ma (F.R s) (F.D s)} {P:Program} {main:Bool} {fn:FuncId} {N:Nat} {Q:σ->Exit->Env->Ka->Prop} {s:σ} {ε:Env} {L:Ka}
theorem oeN {ops:Array Oper}{i:Nat}{rest:List Nat}{d:Option Tmp}{k:Op}{b:TypeId}{ps:String}{af:Array Edge}{g:Option (Nat×Bool)}{n:Nat}{a:Value->Ka->Prop}(ho:ops[i]? =some ⟨d,k,b,ps,af,g⟩)(hy:(L.map (·.1)).Nodup->EO P (Δ s).New N ε L ⟨d,k,b,ps,af,g⟩ a)(hw:Kr ops N ε g=some true:=by rfl)(hd:KG N d=true:=by rfl)(h: ∀v L',a v L'->KO Δ P main fn N ops rest n s Q (KY d v ε) L'):KO Δ P main fn N ops (i::rest) (n+1) s Q ε L:=
 kN λhnd=>oe ho (hy hnd) hw hd h
end
section
variable {P:Program}{New:Obj->Prop}{N:Nat}{ε:Env}{L:Ka}{d:Option Tmp}{ty:TypeId}{ps:String}{af:Array Edge}{g:Option (Nat×Bool)}
theorem fA {t b i m:Nat}{x y:Operand}{vs:List Value}{cs:Array Value}{e:TypeId}(hx:ev ε x=some (.pointer (some ⟨b,i,none⟩)):=by rfl)(hy:ev ε y=some (.agg vs.toArray):=by rfl)(hp:vs.all Km=true:=by rfl)(hl:vs.length=m:=by rfl)(hs:Kd P t=some m)(hnd:(L.map (·.1)).Nodup)(hm:(b,true, .cells cs e)∈L)(hi:i+vs.length<=cs.size):
 EO P New N ε L ⟨d, .store t x y,ty,ps,af,g⟩ (λr f=>r=undef/\K4 L b (.cells (KP cs i vs) e) f):=by
 intro a j;obtain⟨n,k⟩:=mx hm;exact su (j.ev hx) (j.ev hy) hs hl k hi hp ⟨rfl,cO hnd k⟩
end
end Go.Lo
namespace Go.Proofs.YtejkelcaljmnoaaGreatDoor
open Go.Lo Tryz
theorem U3:prog.underlying 3=some (.int .i64):=underlying3
theorem U5:prog.underlying 5=some (.int .u8):=underlying5
theorem U9:prog.underlying 9=some (.string):=underlying9
theorem U22:prog.underlying 22=some (.slice 29):=underlying22
theorem U32:prog.underlying 32=some (.int .u16):=underlying32
theorem U38:prog.underlying 38=some (.slice 51):=underlying38
theorem U42:prog.underlying 42=some (.slice 49):=underlying42
theorem U44:prog.underlying 44=some (.slice 5):=underlying44
theorem U47:prog.underlying 47=some (.array 8 32):=underlying47
theorem U54:prog.underlying 54=some (.slice 3):=underlying54
theorem U69:prog.underlying 69=some (.slice 105):=underlying69
theorem U91:prog.underlying 91=some (.slice 93):=underlying91
theorem U94:prog.underlying 94=some (.array 64 5):=underlying94
theorem vt:prog.underlying 108=some (.slice 158):=underlying108
theorem kH:prog.underlying 146=some (.slice 155):=underlying146
theorem sG:prog.underlying 148=some (.array 3 54):=underlying148
theorem sH:prog.underlying 180=some (.pointer 210):=underlying180
theorem bJ:Kd prog 3=some 1:=bD
theorem dq:Ku prog 3=some false:=bD
theorem xJ:Kd prog 4=some 1:=bD
theorem Ih:Ku prog 4=some false:=bD
theorem cP:Kd prog 5=some 1:=bD
theorem vu:Ku prog 5=some false:=bD
theorem Ii:Ku prog 9=some false:=bD
theorem GN:Kd prog 24=some 3:=bD
theorem GO:Ku prog 24=some true:=bD
theorem iY:Kd prog 26=some 4:=bD
theorem kq:Ku prog 26=some true:=bD
theorem Bf:Kc prog 26 0=some 0:=bD
theorem Bg:Kc prog 26 1=some 3:=bD
theorem tV:Kd prog 29=some 8:=bD
theorem Dl:Ku prog 29=some true:=bD
theorem Bh:Kc prog 29 0=some 0:=bD
theorem Bi:Kc prog 29 1=some 1:=bD
theorem Bj:Kc prog 29 2=some 2:=bD
theorem Bm:Kc prog 29 3=some 6:=bD
theorem Bn:Kc prog 29 4=some 7:=bD
theorem bh:Kd prog 32=some 1:=bD
theorem Dm:Ku prog 32=some false:=bD
theorem GP:Ku prog 35=some false:=bD
theorem xK:Kd prog 38=some 1:=bD
theorem Dq:Ku prog 38=some false:=bD
theorem GQ:Kd prog 42=some 1:=bD
theorem Dr:Ku prog 42=some false:=bD
theorem gj:Kd prog 44=some 1:=bD
theorem ny:Ku prog 44=some false:=bD
theorem xL:Kd prog 47=some 8:=bD
theorem Ds:Ku prog 47=some true:=bD
theorem gq:Kd prog 49=some 15:=bD
theorem qD:Ku prog 49=some true:=bD
theorem fR:Kc prog 49 0=some 0:=bD
theorem Bo:Kc prog 49 1=some 1:=bD
theorem Bp:Kc prog 49 2=some 2:=bD
theorem tW:Kc prog 49 3=some 3:=bD
theorem gS:Kc prog 49 4=some 4:=bD
theorem fe:Kc prog 49 5=some 5:=bD
theorem Bq:Kc prog 49 6=some 6:=bD
theorem kO:Kc prog 49 7=some 7:=bD
theorem iZ:Kd prog 51=some 4:=bD
theorem xM:Ku prog 51=some true:=bD
theorem dC:Kd prog 54=some 1:=bD
theorem xN:Ku prog 54=some false:=bD
theorem GR:Kd prog 68=some 1:=bD
theorem xO:Ku prog 68=some false:=bD
theorem Dt:Kd prog 69=some 1:=bD
theorem GS:Ku prog 69=some false:=bD
theorem oQ:Kc prog 71 0=some 0:=bD
theorem Br:Kc prog 71 1=some 1:=bD
theorem gx:Kd prog 91=some 1:=bD
theorem Du:Ku prog 91=some false:=bD
theorem dA:Kd prog 93=some 1:=bD
theorem xP:Ku prog 93=some false:=bD
theorem Dv:Kd prog 94=some 64:=bD
theorem Dw:Ku prog 94=some true:=bD
theorem bw:Kd prog 96=some 2:=bD
theorem bV:Ku prog 96=some true:=bD
theorem ja:Kc prog 96 0=some 0:=bD
theorem Bs:Kc prog 96 1=some 1:=bD
theorem Bt:LY prog 96 1=some (1,1,false):=bD
theorem xQ:Kd prog 97=some 12:=bD
theorem xR:Ku prog 97=some true:=bD
theorem Dx:Kd prog 99=some 92:=bD
theorem cQ:Kc prog 99 0=some 0:=bD
theorem Bu:Kc prog 99 1=some 15:=bD
theorem Bv:Kc prog 99 2=some 79:=bD
theorem Bw:Kc prog 99 3=some 91:=bD
theorem sI:Kd prog 102=some 1:=bD
theorem Eo:Ku prog 102=some false:=bD
theorem lH:Kd prog 105=some 1:=bD
theorem Ep:Ku prog 105=some false:=bD
theorem oR:Ku prog 108=some false:=bD
theorem sJ:Ku prog 110=some false:=bD
theorem xS:Kc prog 115 0=some 0:=bD
theorem jb:Kc prog 115 1=some 4:=bD
theorem xT:Kc prog 115 2=some 5:=bD
theorem xU:Kc prog 115 3=some 6:=bD
theorem xV:Kc prog 115 4=some 7:=bD
theorem gz:Kc prog 115 5=some 10:=bD
theorem lI:Kc prog 115 6=some 15:=bD
theorem xW:Kc prog 115 7=some 16:=bD
theorem Er:Ku prog 137=some false:=bD
theorem jc:Kc prog 143 0=some 0:=bD
theorem lJ:Kc prog 143 1=some 1:=bD
theorem lK:Kc prog 143 2=some 2:=bD
theorem fB:Kc prog 143 3=some 3:=bD
theorem xX:Kc prog 145 0=some 0:=bD
theorem xY:Kc prog 145 1=some 1:=bD
theorem xZ:Kc prog 145 2=some 2:=bD
theorem sK:Kd prog 146=some 1:=bD
theorem Es:Ku prog 146=some false:=bD
theorem Et:Kd prog 147=some 1:=bD
theorem Eu:Ku prog 147=some false:=bD
theorem x0:Kc prog 150 0=some 0:=bD
theorem x6:Kc prog 150 1=some 4:=bD
theorem x7:Kc prog 150 2=some 5:=bD
theorem qE:Kc prog 150 3=some 6:=bD
theorem gA:Kc prog 150 4=some 7:=bD
theorem x9:Kc prog 150 5=some 10:=bD
theorem ye:Kc prog 150 6=some 11:=bD
theorem yf:Kc prog 150 7=some 12:=bD
theorem yg:Kc prog 150 8=some 13:=bD
theorem yh:Kc prog 150 9=some 14:=bD
theorem nz:Kc prog 150 10=some 15:=bD
theorem Ew:Kd prog 151=some 6:=bD
theorem Ex:Ku prog 151=some true:=bD
theorem Ey:Kd prog 152=some 6:=bD
theorem Ez:Ku prog 152=some true:=bD
theorem dD:Kc prog 154 0=some 0:=bD
theorem yj:Kc prog 154 1=some 15:=bD
theorem yk:Kc prog 154 2=some 79:=bD
theorem ym:Kc prog 154 3=some 85:=bD
theorem yn:Kc prog 154 4=some 91:=bD
theorem yo:Kc prog 154 5=some 92:=bD
theorem yp:Kc prog 154 6=some 93:=bD
theorem eO:Kd prog 155=some 1:=bD
theorem EA:Ku prog 155=some false:=bD
theorem dz:Kd prog 158=some 4:=bD
theorem iC:Ku prog 158=some true:=bD
theorem yq:Kc prog 158 0=some 0:=bD
theorem yr:Kc prog 158 1=some 1:=bD
theorem yt:Kc prog 158 2=some 2:=bD
theorem yu:Kc prog 158 3=some 3:=bD
theorem EB:Ku prog 168=some false:=bD
theorem EC:Kd prog 180=some 1:=bD
theorem ED:Ku prog 180=some false:=bD
theorem fS:Kd prog 196=some 3:=bD
theorem iD:Ku prog 196=some true:=bD
theorem EE:Ku prog 199=some false:=bD
theorem yv:Kc prog 210 1=some 1:=bD
theorem sL:Kd prog 236=some 1:=bD
theorem EF:Ku prog 236=some false:=bD
theorem yw:Kc prog 238 0=some 0:=bD
theorem qF:Kc prog 238 1=some 1:=bD
theorem lL:Kc prog 238 2=some 2:=bD
theorem lM:Kc prog 238 3=some 3:=bD
theorem EG:Kd prog 275=some 1:=bD
end Go.Proofs.YtejkelcaljmnoaaGreatDoor
namespace Go.Lo
open Go.Conc Go.Hx Go.Proofs Go.Proofs.YtejkelcaljmnoaaGreatDoor
section
variable {σ:Type}{F:Kn σ}{Δ: ∀s,Ma (F.R s) (F.D s)} {P:Program} {main:Bool} {fn:FuncId} {N:Nat} {Q:σ->Exit->Env->Ka->Prop} {s s0:σ} {ε:Env} {L R L0:Ka} {ops:Array Oper} {nf e fuel:Nat} {ls:Array Bool} {i j:Nat} {d:Option Tmp} {k:Op} {ot:TypeId} {ps:String} {af:Array Edge} {g:Option (Nat×Bool)} {v:Value}
theorem trS (ho:ops[j+1]? =some ⟨d,k,ot,ps,af,g⟩)(hy:EY P N ε R ⟨d,k,ot,ps,af,g⟩ v)(b:LR R L0 e s0 (ls.setIfInBounds j true) s L)(hs:Region.noSelect ops=true:=by kernel_rfl)(hf:Region.free .any ops (ls.setIfInBounds j true) (j+1)=true:=by kernel_rfl)(hr:(Region.ready .any ops (ls.setIfInBounds j true)).contains (j+1)=true:=by kernel_rfl)(a:j+1≠e:=by decide)(hw:Kr ops N ε g=some true:=by rfl)(hd:KG N d=true:=by rfl)(h:K6 Δ P main fn N ops Q nf R L0 e s0 fuel ((ls.setIfInBounds j true).setIfInBounds (j+1) true) s (KY d v ε) L):K6 Δ P main fn N ops Q nf R L0 e s0 (fuel+1) (ls.setIfInBounds j true) s ε L:=tr (i:=j+1) ho hy b hs hf hr a hw hd h
theorem t0S (ho:ops[j+1]? =some ⟨d,k,ot,ps,af,g⟩)(hy:EY P N ε L0 ⟨d,k,ot,ps,af,g⟩ v)(b:LR R L0 e s0 (ls.setIfInBounds j true) s L)(hs:Region.noSelect ops=true:=by kernel_rfl)(hf:Region.free .any ops (ls.setIfInBounds j true) (j+1)=true:=by kernel_rfl)(hr:(Region.ready .any ops (ls.setIfInBounds j true)).contains (j+1)=true:=by kernel_rfl)(a:j+1≠e:=by decide)(hh:Nc ops ops.size e (j+1)=true:=by kernel_rfl)(hw:Kr ops N ε g=some true:=by rfl)(hd:KG N d=true:=by rfl)(h:K6 Δ P main fn N ops Q nf R L0 e s0 fuel ((ls.setIfInBounds j true).setIfInBounds (j+1) true) s (KY d v ε) L):K6 Δ P main fn N ops Q nf R L0 e s0 (fuel+1) (ls.setIfInBounds j true) s ε L:=t0 (i:=j+1) ho hy b hs hf hr a hh hw hd h
theorem tuS (ho:ops[j+1]? =some ⟨d,k,ot,ps,af,g⟩)(b:LR R L0 e s0 (ls.setIfInBounds j true) s L)(hs:Region.noSelect ops=true:=by kernel_rfl)(hf:Region.free .any ops (ls.setIfInBounds j true) (j+1)=true:=by kernel_rfl)(hr:(Region.ready .any ops (ls.setIfInBounds j true)).contains (j+1)=true:=by kernel_rfl)(a:j+1≠e:=by decide)(hw:Kr ops N ε g=some false:=by rfl)(hd:KG N d=true:=by rfl)(h:K6 Δ P main fn N ops Q nf R L0 e s0 fuel ((ls.setIfInBounds j true).setIfInBounds (j+1) true) s (KY d undef ε) L):K6 Δ P main fn N ops Q nf R L0 e s0 (fuel+1) (ls.setIfInBounds j true) s ε L:=tu (i:=j+1) ho b hs hf hr a hw hd h
theorem trZ {m:Nat}(ho:ops[0]? =some ⟨d,k,ot,ps,af,g⟩)(hy:EY P N ε R ⟨d,k,ot,ps,af,g⟩ v)(b:LR R L0 e s0 (Array.replicate m false) s L)(hs:Region.noSelect ops=true:=by kernel_rfl)(hf:Region.free .any ops (Array.replicate m false) 0=true:=by kernel_rfl)(hr:(Region.ready .any ops (Array.replicate m false)).contains 0=true:=by kernel_rfl)(a:0≠e:=by decide)(hw:Kr ops N ε g=some true:=by rfl)(hd:KG N d=true:=by rfl)(h:K6 Δ P main fn N ops Q nf R L0 e s0 fuel ((Array.replicate m false).setIfInBounds 0 true) s (KY d v ε) L):K6 Δ P main fn N ops Q nf R L0 e s0 (fuel+1) (Array.replicate m false) s ε L:=tr (i:=0) ho hy b hs hf hr a hw hd h
theorem t0Z {m:Nat}(ho:ops[0]? =some ⟨d,k,ot,ps,af,g⟩)(hy:EY P N ε L0 ⟨d,k,ot,ps,af,g⟩ v)(b:LR R L0 e s0 (Array.replicate m false) s L)(hs:Region.noSelect ops=true:=by kernel_rfl)(hf:Region.free .any ops (Array.replicate m false) 0=true:=by kernel_rfl)(hr:(Region.ready .any ops (Array.replicate m false)).contains 0=true:=by kernel_rfl)(a:0≠e:=by decide)(hh:Nc ops ops.size e 0=true:=by kernel_rfl)(hw:Kr ops N ε g=some true:=by rfl)(hd:KG N d=true:=by rfl)(h:K6 Δ P main fn N ops Q nf R L0 e s0 fuel ((Array.replicate m false).setIfInBounds 0 true) s (KY d v ε) L):K6 Δ P main fn N ops Q nf R L0 e s0 (fuel+1) (Array.replicate m false) s ε L:=t0 (i:=0) ho hy b hs hf hr a hh hw hd h
end
theorem zea {N:Nat}{ε:Env}{L:Ka}{o:Oper}{v:Value}(_:Nat)(h:EY Tryz.prog N ε L o v:=by first|exact bk|exact fX|exact bI|exact Di|exact bT (ht:=by first|exact dq|exact Dm|exact Es|exact EB|exact xN|exact Du|exact xP|exact vu|exact ny|exact EA|exact sJ|exact Ii|exact Eu|exact Dq|exact Er|exact GS|exact oR|exact EF|exact Ih|exact Dr|exact GP|exact xO|exact EE|exact ED|exact Ep)|exact lA|exact Dh|exact br (hf:=by first|exact dD|exact cQ|exact kO|exact Bp|exact x7|exact fR|exact xT|exact xW|exact gS|exact yk|exact Bq|exact fe|exact lI|exact lL|exact xV|exact Bv|exact Bg|exact gA|exact qF|exact yo|exact qE|exact lM|exact Bu|exact Bo|exact yg|exact ym|exact Br|exact ja|exact yj|exact fB|exact xY|exact xS|exact Bf|exact Bs|exact yn|exact ye|exact x6|exact yq|exact jb|exact yw|exact x9|exact jc|exact lJ|exact lK|exact xZ|exact Bm|exact oQ|exact yu|exact yr|exact gz|exact tW|exact xU|exact nz|exact yf|exact xX|exact Bh|exact Bw|exact yt|exact yh|exact yp|exact x0|exact Bj|exact Bn|exact yv)|exact cW (by first|exact U47|exact Tryz.underlying151|exact sG|exact Tryz.underlying152|exact Tryz.underlying112|exact U94|exact Tryz.underlying97|exact Tryz.underlying24|exact Tryz.underlying113) (by first|exact bh|exact bJ|exact dC|exact xJ|exact gx|exact cP|exact bw|exact gj)|exact GA|exact GD|exact lB|exact tT|exact GF|exact xB (hs:=by first|exact U32|exact U3|exact U5) (ht:=by first|exact U3|exact U32|exact U5)|exact Gz|exact eZ (hu:=U91)|exact gi (by first|exact U91|exact U54|exact kH|exact Tryz.underlying147|exact U44|exact U38|exact U42|exact U22|exact Tryz.underlying250|exact U69) (by first|exact dA|exact bJ|exact eO|exact sL|exact cP|exact iZ|exact gq|exact tV|exact bw|exact lH)|exact eZ (hu:=U44)|exact Gx|exact eZ (hu:=U54)|exact En (hu:=U9)|exact eZ (hu:=kH)|exact GJ (hu:=by first|exact Tryz.underlying93|exact Tryz.underlying155|exact Tryz.underlying35)|exact Gw|exact GC|exact xC|exact eZ (hu:=U38)|exact sF|exact eZ (hu:=vt)|exact eZ (hu:=U42)|exact Em|exact eZ (hu:=Tryz.underlying147)|exact Gv|exact eZ (hu:=U69)|exact GK (hu:=by first|exact Tryz.underlying137|exact Tryz.underlying35)|exact eZ (hu:=Tryz.underlying68)|exact GH|exact eZ (hu:=Tryz.underlying250)|exact GG (hf:=Bt)|exact Gy|exact eZ (hu:=U22)):EY Tryz.prog N ε L o v:=h
structure LB (H G:Prop):Prop where
 h:H->G
theorem zi {G H:Prop}(s:H->G:=by first|co_applyP oy rfl (zea 0)|co_applyP If|co_applyP ou rfl|co_applyP Dg|co_applyP qw|co_applyP aK|co_applyP Ek|co_applyP Bc|co_applyP Gt|co_applyP El|co_applyP Ej rfl|co_applyP Bb rfl|co_applyP trS rfl (zea 0) (by first|exact aa (λ_ h=>h)|exact aa (by simp))|co_applyP t0S rfl (zea 0) (by first|exact aa (λ_ h=>h)|exact aa (by simp))|co_applyP tuS rfl (by first|exact aa (λ_ h=>h)|exact aa (by simp))|co_applyP trZ rfl (zea 0) (by first|exact aa (λ_ h=>h)|exact aa (by simp))|co_applyP t0Z rfl (zea 0) (by first|exact aa (λ_ h=>h)|exact aa (by simp))|co_applyP td (by kernel_rfl)|co_applyP Be mixed):LB H G:=⟨s⟩
theorem zi2 {A B C:Prop}(s:LB B A:=by co_applyP(zi))(t:LB C B:=by co_applyP(zi)):LB C A:=⟨λh=>s.1 (t.1 h)⟩
theorem zi4 {A B C:Prop}(s:LB B A:=by co_applyP(zi2))(t:LB C B:=by co_applyP(zi2)):LB C A:=⟨λh=>s.1 (t.1 h)⟩
theorem zi8 {A B C:Prop}(s:LB B A:=by co_applyP(zi4))(t:LB C B:=by co_applyP(zi4)):LB C A:=⟨λh=>s.1 (t.1 h)⟩
theorem zo {A B:Prop}(s:LB B A:=by co_applyP(zi))(h:B):A:=s.1 h
theorem ay {A B:Prop}(s:LB B A:=by co_applyP(zi2))(h:B):A:=s.1 h
theorem ax {A B C:Prop}(s:LB B A:=by co_applyP(zi2))(t:LB C B:=by co_applyP(zi))(h:C):A:=s.1 (t.1 h)
theorem av {A B:Prop}(s:LB B A:=by co_applyP(zi4))(h:B):A:=s.1 h
theorem au {A B C:Prop}(s:LB B A:=by co_applyP(zi4))(t:LB C B:=by co_applyP(zi))(h:C):A:=s.1 (t.1 h)
theorem aC {A B C:Prop}(s:LB B A:=by co_applyP(zi4))(t:LB C B:=by co_applyP(zi2))(h:C):A:=s.1 (t.1 h)
theorem aR {A B C D:Prop}(s:LB B A:=by co_applyP(zi4))(t:LB C B:=by co_applyP(zi2))(u:LB D C:=by co_applyP(zi))(h:D):A:=s.1 (t.1 (u.1 h))
theorem aO {A B:Prop}(s:LB B A:=by co_applyP(zi8))(h:B):A:=s.1 h
theorem bm {A B C:Prop}(s:LB B A:=by co_applyP(zi8))(t:LB C B:=by co_applyP(zi))(h:C):A:=s.1 (t.1 h)
theorem aP {A B C:Prop}(s:LB B A:=by co_applyP(zi8))(t:LB C B:=by co_applyP(zi2))(h:C):A:=s.1 (t.1 h)
theorem bf {A B C D:Prop}(s:LB B A:=by co_applyP(zi8))(t:LB C B:=by co_applyP(zi2))(u:LB D C:=by co_applyP(zi))(h:D):A:=s.1 (t.1 (u.1 h))
theorem bZ {A B C:Prop}(s:LB B A:=by co_applyP(zi8))(t:LB C B:=by co_applyP(zi4))(h:C):A:=s.1 (t.1 h)
theorem bQ {A B C D:Prop}(s:LB B A:=by co_applyP(zi8))(t:LB C B:=by co_applyP(zi4))(u:LB D C:=by co_applyP(zi))(h:D):A:=s.1 (t.1 (u.1 h))
theorem dE {A B C D:Prop}(s:LB B A:=by co_applyP(zi8))(t:LB C B:=by co_applyP(zi4))(u:LB D C:=by co_applyP(zi2))(h:D):A:=s.1 (t.1 (u.1 h))
theorem aH {A B C D E:Prop}(s:LB B A:=by co_applyP(zi8))(t:LB C B:=by co_applyP(zi4))(u:LB D C:=by co_applyP(zi2))(v:LB E D:=by co_applyP(zi))(h:E):A:=s.1 (t.1 (u.1 (v.1 h)))
end Go.Lo
namespace Go.Proofs.YtejkelcaljmnoaaGreatDoor
open Go.Lo Go.Extern Go.Extern.Rtype Tryz
abbrev hnd (t:TypeId):Value:= .pointer (some ⟨11,t,none⟩)
abbrev Mg (t:TypeId):Value:= .iface 216 (.agg #[hnd t])
theorem GU (a:Addr):KF prog (ReflectliteValue.mk 182 a 0) []=some (.agg #[hnd 182, .pointer (some a), .int .u64 150],[]):=bD
theorem GV (a:Addr):KF prog (ReflectliteValue.mk 180 a 0) []=some (.agg #[hnd 180, .pointer (some a), .int .u64 150],[]):=bD
theorem Bx (a:Addr):KF prog (ReflectliteValue.methodAny (ReflectliteValue.valueError "reflectlite.Value.Type" 0) (λt _ _ _=>ReflectliteType.toType t) #[.agg #[hnd 182, .pointer (some a), .int .u64 150]]) []=some (Mg 182,[]):=bD
theorem By:KF prog ((ReflectliteType.abiMethod λt=>(λa:Nat=>Value.int IntKind.u8 (a:Int))<$>Rtype.kind t) #[hnd 182]) []=some (.int .u8 22,[]):=bD
theorem Bz:KF prog ((ReflectliteType.abiMethod λt=>(λa:Nat=>Value.int IntKind.u8 (a:Int))<$>Rtype.kind t) #[hnd 180]) []=some (.int .u8 22,[]):=bD
theorem BA:KF prog (ReflectliteType.method ReflectliteType.elem #[.agg #[hnd 182]]) []=some (Mg 180,[]):=bD
theorem mV:KF prog (ReflectliteType.relation "Implements" ReflectliteType.implements_ #[.agg #[hnd 180],Mg 168]) []=some (.bool true,[]):=bD
theorem vv (v:Value):KF prog (ReflectliteType.typeOf #[.iface 255 v]) []=some (Mg 255,[]):=bD
theorem vw (v:Value):KF prog (ReflectliteType.typeOf #[.iface 180 v]) []=some (Mg 180,[]):=bD
theorem mW:KF prog (ReflectliteType.relation "AssignableTo" ReflectliteType.assignableTo #[.agg #[hnd 255],Mg 180]) []=some (.bool false,[]):=bD
theorem mX:KF prog (ReflectliteType.relation "AssignableTo" ReflectliteType.assignableTo #[.agg #[hnd 180],Mg 180]) []=some (.bool true,[]):=bD
theorem yx (a p:Addr):KF prog (ReflectliteValue.method (ReflectliteValue.valueError "reflectlite.Value.IsNil" 0) ReflectliteValue.isNil #[.agg #[hnd 182, .pointer (some a), .int .u64 150]]) [.pointer (some p)]=some (.bool false,[a]):=bD
theorem yy (a p:Addr):KF prog (ReflectliteValue.method (ReflectliteValue.valueError "reflectlite.Value.Elem" 0) ReflectliteValue.elem #[.agg #[hnd 182, .pointer (some a), .int .u64 150]]) [.pointer (some p)]=some (.agg #[hnd 180, .pointer (some p), .int .u64 406],[a]):=bD
theorem vx (p:Addr):KF prog (ReflectliteValue.parts (.agg #[hnd 180, .pointer (some p), .int .u64 406])) []=some (some (180,p,406),[]):=bD
theorem yz (p:Addr):KF prog (ReflectliteValue.parts (.agg #[hnd 180, .pointer (some p), .int .u64 150])) []=some (some (180,p,150),[]):=bD
theorem mY:KF prog (ReflectliteType.method (λt=>do noPackHeld "Comparable" t;pure (.bool (<-typeInfo t).comparable)) #[.agg #[hnd 255]]) []=some (.bool true,[]):=bD
theorem Dy (h:Value):KF prog (Go.method (prog.types.size+Made.depth) 216 (.agg #[h]) "Kind") []=some ((189,h),[]):=bD
theorem GX (h:Value):KF prog (Go.method (prog.types.size+Made.depth) 216 (.agg #[h]) "Elem") []=some ((200, .agg #[h]),[]):=bD
theorem qG (h:Value):KF prog (Go.method (prog.types.size+Made.depth) 216 (.agg #[h]) "Implements") []=some ((201, .agg #[h]),[]):=bD
theorem kr (h:Value):KF prog (Go.method (prog.types.size+Made.depth) 216 (.agg #[h]) "AssignableTo") []=some ((198, .agg #[h]),[]):=bD
theorem qH (h:Value):KF prog (Go.method (prog.types.size+Made.depth) 216 (.agg #[h]) "Comparable") []=some ((199, .agg #[h]),[]):=bD
section
variable {N:Nat}{ε:Env}{L:Ka}{d:Option Tmp}{ty:TypeId}{ps:String}{af:Array Edge}{g:Option (Nat×Bool)}{x:Operand}{w:Value}
theorem GY (hx:ev ε x=some (.iface 255 w):=by rfl):EY prog N ε L ⟨d, .typeAssert x 168 221 true,ty,ps,af,g⟩ (.tuple #[.nilIface, .bool false]):=xH (z:= .nilIface) underlying221 bD bD hx
theorem Dz (hx:ev ε x=some (.iface 255 w):=by rfl):EY prog N ε L ⟨d, .typeAssert x 168 224 true,ty,ps,af,g⟩ (.tuple #[.nilIface, .bool false]):=xH (z:= .nilIface) underlying224 bD bD hx
theorem DC (hx:ev ε x=some (.iface 255 w):=by rfl):EY prog N ε L ⟨d, .typeAssert x 168 226 true,ty,ps,af,g⟩ (.tuple #[.nilIface, .bool false]):=xH (z:= .nilIface) underlying226 bD bD hx
theorem GZ (hx:ev ε x=some (.iface 255 w):=by rfl):EY prog N ε L ⟨d, .typeAssert x 168 240 true,ty,ps,af,g⟩ (.tuple #[.nilIface, .bool false]):=xH (z:= .nilIface) underlying240 bD bD hx
theorem G1 (hx:ev ε x=some (.iface 180 w):=by rfl):EY prog N ε L ⟨d, .typeAssert x 168 240 true,ty,ps,af,g⟩ (.tuple #[.nilIface, .bool false]):=xH (z:= .nilIface) underlying240 bD bD hx
end
theorem G3 (v:Value):KF prog (Instr.typeAssert (.iface 180 v) 168 224 true) []=some (.tuple #[.iface 180 v, .bool true],[]):=bD
theorem sM (v w:Value):KF prog (Op.equal 168 (.iface 180 v) (.iface 255 w)) []=some (false,[]):=bD
end Go.Proofs.YtejkelcaljmnoaaGreatDoor
namespace Go.Proofs.YtejkelcaljmnoaaGreatDoor
open Go.Conc Go.Hx Go.Lo Tryz
theorem mixed:prog.follows .mixedOrders=true:=by first|rfl|kernel_rfl
def put {α:Type}(f:Nat->α)(i:Nat)(v:α):Nat->α:=λj=>if j=i then v else f j
structure PS where
 id:Nat
 par:Nat
 st:Nat
 stat:Int
 at_:Nat
 lv:Nat
 used:Nat
 r:Nat->Int
 m:Nat->Int
 f:Nat->Nat×Nat
 til:Int
def Kg (x:PS):Array Value:=List.toArray
 ((.int .i64 x.id:: .int .i64 x.par:: .int .i64 x.st:: .int .i64 x.stat:: .int .i64 x.at_:: .int .i64 x.lv:: .int .i64 x.used::((List.range 8).map (λi=> .int .u16 (x.r i))++((List.range 64).map (λi=> .int .u8 (x.m i))++
  ((List.range 6).flatMap (λi=>[.int .i64 (x.f i).1, .int .i64 (x.f i).2])++[.int .i64 x.til])))):List Value)
structure KS where
 sl:Nat->Int
 bo:Int
 prog:Value
 procs:Value
 last:Nat
 row:Nat->Value
 by_:Nat->Value
 wt:Value
 now:Int
def Ks (k:KS):Array Value:=
 List.toArray ([.int .i64 (k.sl 0), .int .i64 (k.sl 1), .int .i64 (k.sl 2), .int .i64 k.bo,k.prog,k.procs, .int .i64 k.last,k.row 0,k.row 1,k.row 2,k.by_ 0,k.by_ 1,k.by_ 2,k.by_ 3,k.by_ 4,k.wt, .int .i64 k.now]:List Value)
abbrev pb (b:Nat)(x:PS):Nat×Bool×Obj:=(b,true, .cells (Kg x) 99)
abbrev kb (b:Nat)(k:KS):Nat×Bool×Obj:=(b,true, .cells (Ks k) 115)
abbrev ptr (b:Nat):Value:= .pointer (some ⟨b,0,none⟩)
section
variable (x:PS)
theorem tX (v:Nat):(Kg x).setIfInBounds 4 (.int .i64 v)=Kg {x with at_:=v}:=rfl
theorem vy (v:Nat):(Kg x).setIfInBounds 6 (.int .i64 v)=Kg {x with used:=v}:=rfl
theorem BB (v:Nat):(Kg x).setIfInBounds 0 (.int .i64 v)=Kg {x with id:=v}:=rfl
theorem bq:(Kg x).size=92:=rfl
end
theorem bP (k:KS):(Ks k).size=17:=rfl
end Go.Proofs.YtejkelcaljmnoaaGreatDoor
set_option maxRecDepth 100000
namespace Go.Proofs.YtejkelcaljmnoaaGreatDoor
open Go.Lo Go.Extern Go.Extern.Rtype Tryz
section
variable {New:Obj->Prop}{N:Nat}{ε:Env}{L:Ka}{d:Option Tmp}{ty:TypeId}{ps:String}{af:Array Edge}{g:Option (Nat×Bool)}{args:Array Operand}{ats:Array TypeId}
theorem DD {v:Value}(hx:args.toList.map (ev ε)=[Value.iface 255 v].map some:=by rfl):EY prog N ε L ⟨d, .call ⟨.value (.func 142),args,ats⟩,ty,ps,af,g⟩ (Mg 255):=
 lF (e:=ReflectliteType.typeOf) hx func142 bD (aZ (vv v) rfl)
theorem G4 {v:Value}(hx:args.toList.map (ev ε)=[Value.iface 180 v].map some:=by rfl):EY prog N ε L ⟨d, .call ⟨.value (.func 142),args,ats⟩,ty,ps,af,g⟩ (Mg 180):=
 lF (e:=ReflectliteType.typeOf) hx func142 bD (aZ (vw v) rfl)
abbrev MA (t:TypeId)(a:Nat)(fl:Int):Value:= .agg #[hnd t,ptr a, .int .u64 fl]
theorem G5 {a:Nat}(hx:args.toList.map (ev ε)=[MA 182 a 150].map some:=by rfl):EY prog N ε L ⟨d, .call ⟨.value (.func 120),args,ats⟩,ty,ps,af,g⟩ (Mg 182):=
 lF (e:=ReflectliteValue.methodAny (ReflectliteValue.valueError "reflectlite.Value.Type" 0) (λt _ _ _=>ReflectliteType.toType t)) hx func120 bD (aZ (Bx _) rfl)
theorem G6 {a p:Nat}(hp:At L a 0 (ptr p))(hx:args.toList.map (ev ε)=[MA 182 a 150].map some:=by rfl):EY prog N ε L ⟨d, .call ⟨.value (.func 121),args,ats⟩,ty,ps,af,g⟩ (.bool false):=
 lF (e:=ReflectliteValue.method (ReflectliteValue.valueError "reflectlite.Value.IsNil" 0) ReflectliteValue.isNil) hx func121 bD (oO (yx _ _) hp rfl)
theorem Ij {a p:Nat}(hp:At L a 0 (ptr p))(hx:args.toList.map (ev ε)=[MA 182 a 150].map some:=by rfl):EY prog N ε L ⟨d, .call ⟨.value (.func 143),args,ats⟩,ty,ps,af,g⟩ (MA 180 p 406):=
 lF (e:=ReflectliteValue.method (ReflectliteValue.valueError "reflectlite.Value.Elem" 0) ReflectliteValue.elem) hx func143 bD (oO (yy _ _) hp rfl)
theorem qI {x:Operand}(hx:ev ε x=some (Mg 182):=by rfl):EY prog N ε L ⟨d, .call ⟨.invoke x "Kind", #[],ats⟩,ty,ps,af,g⟩ (.int .u8 22):=
 lG (vs:=[]) (f:=189) (rc:=hnd 182) (e:=ReflectliteType.abiMethod λt=>(λa:Nat=>Value.int IntKind.u8 (a:Int))<$>Rtype.kind t) hx (by rfl) (aZ (Dy _) rfl) func189 bD (aZ By rfl)
theorem qJ {x:Operand}(hx:ev ε x=some (Mg 180):=by rfl):EY prog N ε L ⟨d, .call ⟨.invoke x "Kind", #[],ats⟩,ty,ps,af,g⟩ (.int .u8 22):=
 lG (vs:=[]) (f:=189) (rc:=hnd 180) (e:=ReflectliteType.abiMethod λt=>(λa:Nat=>Value.int IntKind.u8 (a:Int))<$>Rtype.kind t) hx (by rfl) (aZ (Dy _) rfl) func189 bD (aZ Bz rfl)
theorem qK {x:Operand}(hx:ev ε x=some (Mg 182):=by rfl):EY prog N ε L ⟨d, .call ⟨.invoke x "Elem", #[],ats⟩,ty,ps,af,g⟩ (Mg 180):=
 lG (vs:=[]) (f:=200) (rc:= .agg #[hnd 182]) (e:=ReflectliteType.method ReflectliteType.elem) hx (by rfl) (aZ (GX _) rfl) func200 bD (aZ BA rfl)
theorem DF {x:Operand}(hx:ev ε x=some (Mg 180):=by rfl)(ha:args.toList.map (ev ε)=[Mg 168].map some:=by rfl):EY prog N ε L ⟨d, .call ⟨.invoke x "Implements",args,ats⟩,ty,ps,af,g⟩ (.bool true):=
 lG (f:=201) (rc:= .agg #[hnd 180]) (e:=ReflectliteType.relation "Implements" ReflectliteType.implements_) hx ha (aZ (qG _) rfl) func201 bD (aZ mV rfl)
theorem BC {x:Operand}(hx:ev ε x=some (Mg 255):=by rfl)(ha:args.toList.map (ev ε)=[Mg 180].map some:=by rfl):EY prog N ε L ⟨d, .call ⟨.invoke x "AssignableTo",args,ats⟩,ty,ps,af,g⟩ (.bool false):=
 lG (f:=198) (rc:= .agg #[hnd 255]) (e:=ReflectliteType.relation "AssignableTo" ReflectliteType.assignableTo) hx ha (aZ (kr _) rfl) func198 bD (aZ mW rfl)
theorem BD {x:Operand}(hx:ev ε x=some (Mg 180):=by rfl)(ha:args.toList.map (ev ε)=[Mg 180].map some:=by rfl):EY prog N ε L ⟨d, .call ⟨.invoke x "AssignableTo",args,ats⟩,ty,ps,af,g⟩ (.bool true):=
 lG (f:=198) (rc:= .agg #[hnd 180]) (e:=ReflectliteType.relation "AssignableTo" ReflectliteType.assignableTo) hx ha (aZ (kr _) rfl) func198 bD (aZ mX rfl)
theorem Ik {x:Operand}(hx:ev ε x=some (Mg 255):=by rfl):EY prog N ε L ⟨d, .call ⟨.invoke x "Comparable", #[],ats⟩,ty,ps,af,g⟩ (.bool true):=
 lG (vs:=[]) (f:=199) (rc:= .agg #[hnd 255]) (e:=ReflectliteType.method (λt=>do noPackHeld "Comparable" t;pure (.bool (<-typeInfo t).comparable))) hx (by rfl) (aZ (qH _) rfl) func199 bD (aZ mY rfl)
theorem kP {a:Type}{Q:a->Ka->Prop}{s:Sem a}{r:a}(h:KF prog s []=some (r,[]))(b:Q r L):KI prog New s Q L:=bU (K:=(· =r)) (λ_ e=>by rw[e];exact b) s (aZ h rfl)
theorem BE {a:Type}{Q:a->Ka->Prop}{s:Sem a}{r:a}{v:Value}{b i:Nat}(h:KF prog s [v]=some (r,[⟨b,i,none⟩]))(hv:At L b i v)(d:Q r L):KI prog New s Q L:=bU (K:=(· =r)) (λ_ e=>by rw[e];exact d) s (oO h hv rfl)
theorem tY {t:TypeId}{p:Option Addr}(ht: ∀a,KF prog (ReflectliteValue.mk t a 0) []=some (.agg #[hnd t, .pointer (some a), .int .u64 150],[])) (hN:New (.cells #[.pointer p] t)):KI prog New (ReflectliteValue.unpack (.iface t (.pointer p))) (λr d=> ∃b,(∀t∈L,t.1≠b)/\r=MA t b 150/\d=(b,true, .cells #[.pointer p] t)::L) L:=by
 show KI prog New (newVar t (.pointer p)>>=λa=>ReflectliteValue.mk t a 0) _ L;rw[ak];show KI prog New (newObj (.cells #[.pointer p] t)>>=λb=>pure (⟨b,0,none⟩:Addr)) _ L;rw[ak];refine cF hN λb hb=> ?_;rw[bg];exact kP (ht _) ⟨b,hb,rfl,rfl⟩
theorem DI {p:Option Addr}(hN:New (.cells #[.pointer p] 182))(hx:args.toList.map (ev ε)=[Value.iface 182 (.pointer p)].map some:=by rfl):EO prog New N ε L ⟨d, .call ⟨.value (.func 119),args,ats⟩,ty,ps,af,g⟩ (λr a=> ∃b,(∀t∈L,t.1≠b)/\r=MA 182 b 150/\a=(b,true, .cells #[.pointer p] 182)::L):=
 xG (e:=λargs=>ReflectliteValue.unpack (args.getD 0 (.tuple #[]))) hx func119 bD (tY GU hN)
theorem G7 {p:Option Addr}(hN:New (.cells #[.pointer p] 180))(hx:args.toList.map (ev ε)=[Value.iface 180 (.pointer p)].map some:=by rfl):EO prog New N ε L ⟨d, .call ⟨.value (.func 119),args,ats⟩,ty,ps,af,g⟩ (λr a=> ∃b,(∀t∈L,t.1≠b)/\r=MA 180 b 150/\a=(b,true, .cells #[.pointer p] 180)::L):=
 xG (e:=λargs=>ReflectliteValue.unpack (args.getD 0 (.tuple #[]))) hx func119 bD (tY GV hN)
theorem G8:KF prog (directlyAssignable 180 180) []=some (true,[]):=bD
theorem G9 (a:Addr)(v:Value):KF prog (loadVar 180 a) [v]=some (v,[a]):=bD
theorem Il {a b:Nat}{p:Option Addr}{cs:Array Value}{e:TypeId}(hnd:(L.map (·.1)).Nodup)(hv:At L b 0 (.pointer p))(hm:(a,true, .cells cs e)∈L)(hi:0<cs.size)(hx:args.toList.map (ev ε)=[MA 180 a 406,MA 180 b 150].map some:=by rfl):EO prog New N ε L ⟨d, .call ⟨.value (.func 144),args,ats⟩,ty,ps,af,g⟩ (λr f=>r= .tuple #[]/\K4 L a (.cells (cs.setIfInBounds 0 (.pointer p)) e) f):=by
 refine xG (e:=ReflectliteValue.set) hx func144 bD ?_;obtain⟨n,i⟩:=mx hm;show KI prog New (ReflectliteValue.parts (MA 180 a 406)>>=λv=>_) _ L;rw[ak];refine kP (vx _) ?_;show KI prog New (ReflectliteValue.parts (MA 180 b 150)>>=λv=>_) _ L;rw[ak];refine kP (yz _) ?_;show KI prog New (loadVar 180 ⟨b,0,none⟩>>=λv=>_) _ L;rw[ak];refine BE (G9 _ _) hv ?_;show KI prog New (directlyAssignable 180 180>>=λv=>_) _ L;rw[ak];refine kP G8 ?_;show KI prog New (storeVar 180 ⟨a,0,none⟩ (.pointer p)>>=λv=>_) _ L;rw[ak];unfold storeVar;rw[ak,bO EC];show KI prog New (storeCells ⟨a,0,none⟩ [.pointer p]) _ L;refine cg i ao rfl ?_;exact⟨rfl,cO hnd i⟩
end
end Go.Proofs.YtejkelcaljmnoaaGreatDoor
namespace Go.Proofs.YtejkelcaljmnoaaGreatDoor
open Go.Conc Go.Hx Go.Lo Tryz
attribute [local irreducible] EY KO K6 Kw Kc Ku Kd Program.underlying
structure Sl where
 b:Option Nat
 junk:List Value
def Ky (a:Sl)(n:Nat):Value:=match a.b with
 |none=> .slice none 0 0
 |some b=> .slice (some ⟨b,0,none⟩) n (n+a.junk.length)
def Kf (a:Sl)(xs:List Value)(e:TypeId)(L:Ka):Prop:=match a.b with
 |none=>xs=[]/\a.junk=[]
 |some b=>(b,true,Obj.cells (xs++a.junk).toArray e)∈L
structure St where
 sl:Nat->Int
 bo:Int
 pn:Nat
 pg:Nat->Nat->Int
 ps:List (Nat×PS)
 last:Nat
 rows:Nat->List Nat
 by_:Nat->List Int
 wt:List ((Nat×Nat)×List Nat)
 now:Nat
structure Kq where
 g:Nat
 gcap:Nat
 gc:Array Value
 a:Nat->Sl
 y:Nat->Sl
 wt:Nat
 born:List Nat
 clock:Nat
def slot (k:Nat×Nat):Nat:=100+10*k.1+k.2
def Lj (A:Kq)(S:St):KS:=⟨S.sl,S.bo, .slice (some ⟨A.g,0,none⟩) S.pn A.gcap,Ky (A.a 0) S.ps.length,S.last,λl=>Ky (A.a (l+1)) (S.rows l).length,λi=>Ky (A.y i) (S.by_ i).length, .map (some A.wt),S.now⟩
def KE (k:Nat×Nat):Value:= .agg #[.int .i64 k.1, .int .i64 k.2]
def Oi (A:Kq)(e:((Nat×Nat)×List Nat)×Nat):MapEntry:=⟨KE e.1.1,Ky (A.a (slot e.1.1)) e.1.2.length,e.2⟩
def Le (A:Kq)(S:St):Obj:= .map ((S.wt.zip A.born).map (Oi A)).toArray A.clock
structure Ke (K:Nat)(A:Kq)(S:St)(F:Ka)(L:Ka):Prop where
 fn:K5 L
 k:kb K (Lj A S)∈L
 g:(A.g,true,Obj.cells A.gc 158)∈L
 gv: ∀i j,i<S.pn->j<4->A.gc[4*i+j]? =some (.int .u8 (S.pg i j))
 p: ∀q∈S.ps,pb q.1 q.2∈L
 pn:(S.ps.map (·.1)).Nodup
 p8:S.ps.length<=8
 pa:Kf (A.a 0) (S.ps.map λq=>ptr q.1) 93 L
 rw: ∀l,l<3->Kf (A.a (l+1)) ((S.rows l).map ptr) 93 L
 ya: ∀i,i<5->Kf (A.y i) ((S.by_ i).map λv=> .int .u8 v) 5 L
 w:(A.wt,true,Le A S)∈L
 wl:A.born.length=S.wt.length
 bn:A.born.Nodup
 bc: ∀x∈A.born,x<A.clock
 wa: ∀e∈S.wt,Kf (A.a (slot e.1)) (e.2.map ptr) 93 L
 d: ∀i j,i≠j->(A.a i).b≠none->(A.a i).b≠(A.a j).b
 dy: ∀i j,i≠j->(A.y i).b≠none->(A.y i).b≠(A.y j).b
 al: ∀i c,(A.a i).b=some c-> ∃xs,(c,true,Obj.cells xs 93)∈L
 yl: ∀i c,(A.y i).b=some c-> ∃xs,(c,true,Obj.cells xs 5)∈L
 fr: ∀t∈F,t∈L
 fd: ∀t∈F,t.1≠K/\(∀q∈S.ps,t.1≠q.1)/\(∀i,(A.a i).b≠some t.1)/\(∀i,(A.y i).b≠some t.1)/\t.1≠A.wt
def St.ID (S:St)(b:Nat)(x:PS):St:={S with ps:=S.ps.map λq=>if q.1=b then(b,x) else q}
section
variable {K:Nat}{A:Kq}{S:St}{F L L':Ka}
theorem _root_.Go.Lo.K5.ne {L:Ka}{b b':Nat}{fl d:Bool}{o o':Obj}(h:K5 L)(h1:(b,fl,o)∈L)(h2:(b',d,o')∈L)(a:o≠o'):b≠b':=by
 rintro rfl;exact a (h _ _ _ _ _ h1 h2).2
theorem aB {c b:Array Value}{t t':TypeId}{f a:Nat×Nat}(h:t≠t'):Obj.cells c t f≠Obj.cells b t' a:=by
 intro e;cases e;exact h rfl
theorem Kf.mono {a:Sl}{xs:List Value}{e:TypeId}(h:Kf a xs e L)(hs: ∀b,a.b=some b-> ∀o,(b,true,o)∈L->(b,true,o)∈L'):Kf a xs e L':=by
 unfold Kf at*
 split
 ·rename_i hb;rw[hb] at h;exact h
 ·rename_i b hb;rw[hb] at h;exact hs b hb _ h
theorem Kf.mem {a:Sl}{xs:List Value}{e:TypeId}(h:Kf a xs e L){b:Nat}(hb:a.b=some b):(b,true,Obj.cells (xs++a.junk).toArray e)∈L:=by
 unfold Kf at h;rw[hb] at h;exact h
theorem bH {a:Sl}{xs:List Value}{e:TypeId}(h:Kf a xs e L): ∃base cap,Ky a xs.length= .slice base xs.length cap/\ ∀i v,xs[i]? =some v-> ∃b,a.b=some b/\base=some ⟨b,0,none⟩/\At L b i v:=by
 unfold Ky;cases hb:a.b with
 |none=>
  unfold Kf at h;rw[hb] at h;obtain⟨rfl,_⟩:=h;exact⟨none,0,rfl,λi v d=>by simp at d⟩
 |some b=>
  refine⟨some ⟨b,0,none⟩,_,rfl,λi v d=>⟨b,rfl,rfl,true,_,_,_,h.mem hb, ?_⟩⟩;have f:=(mo.1 d).1;rw[nw,rD f];exact d
theorem Ke.of (h:Ke K A S F L)(hf:K5 L')(hs: ∀t∈L,t∈L'):Ke K A S F L':=
 {h with
  fn:=hf,k:=hs _ h.k,g:=hs _ h.g,p:=λq f=>hs _ (h.p q f),w:=hs _ h.w,fr:=λt b=>hs _ (h.fr t b)
  pa:=h.pa.mono λ_ _ _ x=>hs _ x,rw:=λl d=>(h.rw l d).mono λ_ _ _ x=>hs _ x,ya:=λi a=>(h.ya i a).mono λ_ _ _ x=>hs _ x,wa:=λe he=>(h.wa e he).mono λ_ _ _ x=>hs _ x
  al:=λi c hc=>(h.al i c hc).imp λ_ x=>hs _ x,yl:=λi c hc=>(h.yl i c hc).imp λ_ x=>hs _ x}
theorem Ke.add (h:Ke K A S F L){b:Nat}{o:Obj}(u:Add L b o L'):Ke K A S F L':=h.of u.fn u.sub
theorem Ke.less (h:Ke K A S F L){F':Ka}(hs: ∀t∈F',t∈F):Ke K A S F' L:={h with fr:=λt a=>h.fr t (hs t a),fd:=λt a=>h.fd t (hs t a)}
theorem aS {l:List (Nat×PS)}(h:(l.map (·.1)).Nodup){b:Nat}{x y:PS}(h1:(b,x)∈l)(h2:(b,y)∈l):x=y:=by
 obtain⟨i,n⟩:=mx h1;obtain⟨j,k⟩:=mx h2;have p:(l.map (·.1))[i]? =some b:=by simp[n]
 have o:(l.map (·.1))[j]? =some b:=by simp[k]
 obtain⟨f,a⟩:=mo.1 p;obtain⟨e,d⟩:=mo.1 o;have m:i=j:=by
  rcases Nat.lt_trichotomy i j with g|g|g
  ·exact absurd (a.trans d.symm) (Ow.1 h i j f e g)
  ·exact g
  ·exact absurd (d.trans a.symm) (Ow.1 h j i e f g)
 subst m;rw[n] at k;simpa using k
theorem aV (S:St)(b:Nat)(x:PS):(S.ID b x).ps.map (·.1)=S.ps.map (·.1):=by
 simp only[St.ID,kt];apply k0;intro q _;simp only[Function.comp]
 split
 ·rename_i e;exact e.symm
 ·rfl
theorem fC (S:St)(b:Nat)(x:PS):(S.ID b x).ps.length=S.ps.length:=by simp[St.ID]
theorem aN {S:St}{b:Nat}{x:PS}{q:Nat×PS}(h:q∈(S.ID b x).ps):q=(b,x)\/(q∈S.ps/\q.1≠b):=by
 simp only[St.ID,cm] at h;obtain⟨r,d,e⟩:=h
 split at e
 ·exact .inl e.symm
 ·rename_i a;exact .inr ⟨e▸d,e▸a⟩
theorem ai {S:St}{b:Nat}{x y:PS}(h:(b,y)∈S.ps):(b,x)∈(S.ID b x).ps:=by
 simp only[St.ID,cm];exact⟨(b,y),h,bE⟩
theorem yA (S:St)(b:Nat)(x:PS):(S.ID b x).ps.map (λq=>ptr q.1)=S.ps.map λq=>ptr q.1:=by
 have:=congrArg (List.map ptr) (aV S b x);rw[kt,kt] at this;exact this
theorem yB (A:Kq)(S:St)(b:Nat)(x:PS):Lj A (S.ID b x)=Lj A S:=by unfold Lj;rw[fC];rfl
theorem Ke.ID (h:Ke K A S F L){b:Nat}{x x':PS}(hb:(b,x)∈S.ps)(u:K4 L b (.cells (Kg x') 99) L'):Ke K A (S.ID b x') F L':=by
 have d:=h.p _ hb;have B:K≠b:=h.fn.ne h.k d (aB bx);have arr: ∀(a:Sl)(xs:List Value)(e:TypeId),e≠99->Kf a xs e L->Kf a xs e L':=λa xs e he s=>by
  refine s.mono λc hc o y=>u.ne _ y ?_;exact h.fn.ne (s.mem hc) d (aB he)
 exact{h with
  fn:=u.fn
  k:=by rw[yB];exact u.ne _ h.k B
  g:=u.ne _ h.g (h.fn.ne h.g d (aB bx))
  p:=λq m=>by
   rcases aN m with rfl|⟨n,r⟩
   ·exact u.self
   ·exact u.ne _ (h.p q n) r
  pn:=by rw[aV];exact h.pn
  p8:=by rw[fC];exact h.p8
  pa:=by rw[yA];exact arr _ _ _ bx h.pa
  rw:=λl C=>arr _ _ _ bx (h.rw l C)
  ya:=λi z=>arr _ _ _ bx (h.ya i z)
  w:=u.ne _ h.w (h.fn.ne h.w d (by simp[Le]))
  wa:=λe he=>arr _ _ _ bx (h.wa e he)
  al:=λi c hc=>by obtain⟨xs,j⟩:=h.al i c hc;exact⟨xs,u.ne _ j (h.fn.ne j d (aB bx))⟩
  yl:=λi c hc=>by obtain⟨xs,j⟩:=h.yl i c hc;exact⟨xs,u.ne _ j (h.fn.ne j d (aB bx))⟩
  fr:=λt f=>u.ne _ (h.fr t f) ((h.fd t f).2.1 _ hb)
  fd:=λt f=>⟨(h.fd t f).1,λq m=>by
   rcases aN m with rfl|⟨n,r⟩
   ·exact(h.fd t f).2.1 (b,x) hb
   ·exact(h.fd t f).2.1 q n,(h.fd t f).2.2⟩}
theorem Ke.JM (h:Ke K A S F L){S':St}(b:S'.ps=S.ps)(m:S'.rows=S.rows)(hby:S'.by_=S.by_)(hwt:S'.wt=S.wt)(hpn:S'.pn=S.pn)(n:S'.pg=S.pg)(u:K4 L K (.cells (Ks (Lj A S')) 115) L'):Ke K A S' F L':=by
 have arr: ∀(a:Sl)(xs:List Value)(e:TypeId),e≠115->Kf a xs e L->Kf a xs e L':=λa xs e he r=>by
  refine r.mono λc hc o s=>u.ne _ s ?_;exact h.fn.ne (r.mem hc) h.k (aB he)
 exact{h with
  fn:=u.fn
  k:=u.self
  g:=u.ne _ h.g (h.fn.ne h.g h.k (aB bx))
  gv:=by rw[hpn,n];exact h.gv
  p:=λq j=>u.ne _ (h.p q (b▸j)) (h.fn.ne (h.p q (b▸j)) h.k (aB bx))
  pn:=by rw[b];exact h.pn
  p8:=by rw[b];exact h.p8
  pa:=by rw[b];exact arr _ _ _ bx h.pa
  rw:=λl y=>by rw[m];exact arr _ _ _ bx (h.rw l y)
  ya:=λi x=>by rw[hby];exact arr _ _ _ bx (h.ya i x)
  w:=by
   have:Le A S'=Le A S:=by unfold Le;rw[hwt]
   rw[this];exact u.ne _ h.w (h.fn.ne h.w h.k (by simp[Le]))
  wl:=by rw[hwt];exact h.wl
  wa:=λe he=>arr _ _ _ bx (h.wa e (hwt▸he))
  al:=λi c hc=>by obtain⟨xs,f⟩:=h.al i c hc;exact⟨xs,u.ne _ f (h.fn.ne f h.k (aB bx))⟩
  yl:=λi c hc=>by obtain⟨xs,f⟩:=h.yl i c hc;exact⟨xs,u.ne _ f (h.fn.ne f h.k (aB bx))⟩
  fr:=λt d=>u.ne _ (h.fr t d) (h.fd t d).1
  fd:=λt d=>⟨(h.fd t d).1,λq j=>(h.fd t d).2.1 q (b▸j),(h.fd t d).2.2⟩}
def Kq.I6 (A:Kq)(i:Nat)(a:Sl):Kq:={A with a:=put A.a i a}
structure Lk (A A':Kq):Prop where
 a: ∀i,i=0\/3<i->A'.a i=A.a i
 y:A'.y=A.y
 w:A'.wt=A.wt/\A'.born=A.born/\A'.clock=A.clock
 g:A'.g=A.g/\A'.gcap=A.gcap/\A'.gc=A.gc
theorem Lk.refl (A:Kq):Lk A A:=⟨λ_ _=>rfl,rfl,⟨rfl,rfl,rfl⟩,⟨rfl,rfl,rfl⟩⟩
theorem Lk.trans {A B C:Kq}(h:Lk A B)(k:Lk B C):Lk A C:=⟨λi b=>(k.a i b).trans (h.a i b),k.y.trans h.y,⟨k.w.1.trans h.w.1,k.w.2.1.trans h.w.2.1,k.w.2.2.trans h.w.2.2⟩,⟨k.g.1.trans h.g.1,k.g.2.1.trans h.g.2.1,k.g.2.2.trans h.g.2.2⟩⟩
theorem Lk.set (A:Kq){l:Nat}(hl:l<3)(a:Sl):Lk A (A.I6 (l+1) a):=⟨λi b=>by simp[Kq.I6,put];intro e;omega,rfl,⟨rfl,rfl,rfl⟩,⟨rfl,rfl,rfl⟩⟩
def St.setRow (S:St)(l:Nat)(xs:List Nat):St:={S with rows:=put S.rows l xs}
theorem Ke.setRow (h:Ke K A S F L){l:Nat}(hl:l<3){f:Sl}{xs:List Nat}(hf:K5 L')(O:kb K (Lj (A.I6 (l+1) f) (S.setRow l xs))∈L')(hs: ∀t∈L,t.1≠K->(A.a (l+1)).b≠some t.1->t∈L') (ha:Kf f (xs.map ptr) 93 L')
 (hd: ∀b,f.b=some b->(A.a (l+1)).b=some b\/((∀i,(A.a i).b≠some b)/\ ∀t∈F,t.1≠b)) (hw: ∀e∈S.wt,slot e.1≠l+1):Ke K (A.I6 (l+1) f) (S.setRow l xs) F L':=by
 have D: ∀b,(A.a (l+1)).b=some b->(b,true,Obj.cells ((S.rows l).map ptr++(A.a (l+1)).junk).toArray 93)∈L:=λb hb=>(h.rw l hl).mem hb;have ty: ∀{b:Nat}{fl:Bool}{o:Obj},(b,fl,o)∈L->(∀c,o≠Obj.cells c 93)->(A.a (l+1)).b≠some b:=λhm C hb=>C _ (h.fn _ _ _ _ _ hm (D _ hb)).2;have arr: ∀(a:Sl)(xs:List Value)(e:TypeId),e≠115->(∀b,a.b=some b->(A.a (l+1)).b≠some b)->Kf a xs e L->Kf a xs e L':=λa xs e he E ha=>by
  refine ha.mono λc hc o C=>hs _ C ?_ (E c hc);exact h.fn.ne (ha.mem hc) h.k (aB he)
 have y: ∀i,i≠l+1-> ∀b,(A.a i).b=some b->(A.a (l+1)).b≠some b:=λi m b hb e=>h.d i (l+1) m (by rw[hb];simp) (by rw[hb,e]);have pm: ∀q∈S.ps,pb q.1 q.2∈L':=λq G=>hs _ (h.p q G) (h.fn.ne (h.p q G) h.k (aB bx)) (ty (h.p q G) λc=>aB bx);have x: ∀i,i≠l+1->(A.I6 (l+1) f).a i=A.a i:=λi m=>by simp[Kq.I6,put,m]
 exact{h with
  fn:=hf
  k:=O
  g:=hs _ h.g (h.fn.ne h.g h.k (aB bx)) (ty h.g λc=>aB bx)
  p:=pm
  pa:=by rw[x 0 bl];exact arr _ _ _ bx (y 0 bl) h.pa
  rw:=λz J=>by
   by_cases e:z=l
   ·subst e;have u:(A.I6 (z+1) f).a (z+1)=f:=by simp[Kq.I6,put]
    have I:(S.setRow z xs).rows z=xs:=by simp[St.setRow,put]
    rw[u,I];exact ha
   ·have I:(S.setRow l xs).rows z=S.rows z:=by simp[St.setRow,put,e]
    rw[x _ bl,I];exact arr _ _ _ bx (y _ bl) (h.rw z J)
  ya:=λi m=>arr _ _ _ bx (λb hb=>ty ((h.ya i m).mem hb) λc=>aB bx) (h.ya i m)
  w:=by
   have:Le (A.I6 (l+1) f) (S.setRow l xs)=Le A S:=by
    have N:(S.wt.zip A.born).map (Oi (A.I6 (l+1) f))=(S.wt.zip A.born).map (Oi A):=by
     apply k0;intro e he;unfold Oi;rw[x _ (hw e.1 (List.of_mem_zip he).1)]
    show Obj.map ((S.wt.zip A.born).map (Oi (A.I6 (l+1) f))).toArray A.clock=_;rw[N];rfl
   rw[this];exact hs _ h.w (h.fn.ne h.w h.k (by simp[Le])) (ty h.w λc=>by simp[Le])
  wa:=λe he=>by rw[x _ (hw e he)];exact arr _ _ _ bx (y _ (hw e he)) (h.wa e he)
  al:=λi c hc=>by
   by_cases r:i=l+1
   ·subst r;have u:(A.I6 (l+1) f).a (l+1)=f:=by simp[Kq.I6,put]
    rw[u] at hc;exact⟨_,ha.mem hc⟩
   ·rw[x i r] at hc;obtain⟨xs,B⟩:=h.al i c hc;exact⟨xs,hs _ B (h.fn.ne B h.k (aB bx)) (y i r c hc)⟩
  yl:=λi c hc=>by
   obtain⟨xs,B⟩:=h.yl i c hc;exact⟨xs,hs _ B (h.fn.ne B h.k (aB bx)) (ty B λc=>aB bx)⟩
  d:=λi j H m=>by
   by_cases r:i=l+1
   ·subst r;have u:(A.I6 (l+1) f).a (l+1)=f:=by simp[Kq.I6,put]
    rw[x j bl,u];rw[u] at m;intro e;cases hb:f.b with
    |none=>exact m hb
    |some b=>
     rcases hd b hb with n|n
     ·exact h.d (l+1) j bl (by rw[n];simp) (by rw[n,<-e,hb])
     ·exact n.1 j (by rw[<-e,hb])
   ·rw[x i r];rw[x i r] at m;by_cases M:j=l+1
    ·subst M;have u:(A.I6 (l+1) f).a (l+1)=f:=by simp[Kq.I6,put]
     rw[u];intro e;cases hb:f.b with
     |none=>rw[hb] at e;exact m e
     |some b=>
      rcases hd b hb with n|n
      ·exact h.d i (l+1) r m (by rw[n,e,hb])
      ·exact n.1 i (by rw[e,hb])
    ·rw[x j M];exact h.d i j H m
  fr:=λt s=>hs _ (h.fr t s) (h.fd t s).1 ((h.fd t s).2.2.1 _)
  fd:=λt s=>by
   refine⟨(h.fd t s).1,(h.fd t s).2.1,λi=> ?_,(h.fd t s).2.2.2⟩;by_cases r:i=l+1
   ·subst r;have u:(A.I6 (l+1) f).a (l+1)=f:=by simp[Kq.I6,put]
    rw[u];intro e;rcases hd _ e with n|n
    ·exact(h.fd t s).2.2.1 _ n
    ·exact n.2 t s rfl
   ·rw[x i r];exact(h.fd t s).2.2.1 i}
end
abbrev Mm (a:Nat×Nat):Value:= .pointer (some ⟨a.1,a.2,none⟩)
theorem Im: ∃n,∀{i}{F:Kn i}{d:DM F}{a s}(L:Ka)(e:Nat×Nat)(t g:Nat),(∀cs,(d s).New (.cells cs 196))->
 Kb d prog a 122 [.iface 255 (Mm e), .iface 182 (ptr t),MA 182 g 150,Mg 180].toArray n s L (λs' v L'=>s=s'/\v= .bool false/\K5 L'/\ ∀t∈L,t∈L'):=by
 constructor;intro i F d a s L e t g j;co_applyP ar 62 func122 ntmps122;co_applyP(zo);co_applyP bB rfl (bA (j _));intro l m f;co_applyP(ax);co_applyP aU (λk s' b L'=>s'=s/\k=1/\L'=m/\kn b [(0, .iface 255 (Mm e)),(1, .iface 182 (ptr t)),(3,Mg 180),(6,ptr l)]) 1
 ·exact⟨rfl,rfl,rfl,rfl⟩
 rintro k s' b L' ⟨rfl,rfl,rfl,he⟩;co_applyP aA he;co_applyP(av);co_applyP oy rfl (DD);co_applyP(zo);co_applyP oy rfl (BC);co_applyP(aC);co_applyP oy rfl (GY);co_applyP(aH);co_applyP(aC);co_applyP oy rfl (Dz);co_applyP(au);co_applyP oy rfl (DC);co_applyP(bf);exact xI _ ⟨rfl,rfl,rfl,f.fn,f.sub⟩
theorem Io: ∃n,∀{D}{F:Kn D}{p:DM F}{i s}(L:Ka)(r t u:Nat)(v0:Value),(∀cs,(p s).New (.cells cs 196))->(∀cs,(p s).New (.cells cs 180))->At L u 0 (ptr t)->(t,true,Obj.cells #[v0] 180)∈L->
 Kb p prog i 122 [.iface 180 (ptr r), .iface 182 (ptr t),MA 182 u 150,Mg 180].toArray n s L (λs' v L'=>s=s'/\v= .bool true/\ ∃m,K5 m/\(∀t∈L,t∈m)/\K4 m t (.cells #[ptr r] 180) L'):=by
 constructor;intro D F p i s L r t u v0 J A H C;co_applyP ar 62 func122 ntmps122;co_applyP(zo);co_applyP bB rfl (bA (J _));intro E m o;co_applyP(ax);co_applyP aU (λk s' j L'=>s'=s/\k=1/\L'=m/\kn j [(0, .iface 180 (ptr r)),(1, .iface 182 (ptr t)),(3,Mg 180),(6,ptr E)]) 1
 ·exact⟨rfl,rfl,rfl,rfl⟩
 rintro k s' j L' ⟨rfl,rfl,rfl,he⟩;co_applyP aA he;have y:At L' u 0 (ptr t):=let ⟨a,b,c,d,e,f⟩:=H;⟨a,b,c,d,o.sub _ e,f⟩;co_applyP(zo);co_applyP aK (n₂:=0);co_applyP(ay);co_applyP oy rfl (G4);co_applyP(zo);co_applyP oy rfl (BD);co_applyP(ax);co_applyP oy rfl (aW (ht:=iD) (hs:=fS) (hm:=o.self) (hi:=cD _));co_applyP oy rfl (Ij y);co_applyP(zo);co_applyP bB rfl (G7 (A _));intro z B g;have l:At B z 0 (ptr r):=⟨true,_,_,_,g.self,rfl⟩;co_applyP oeN rfl (λhnd=>Il hnd l (g.sub _ (o.sub _ C)) (Nat.one_pos));rintro _ K ⟨rfl,G⟩;co_applyP(au);exact xI _ ⟨rfl,rfl,rfl,B,g.fn,λx I=>g.sub _ (o.sub _ I),G⟩
theorem Ip: ∃n,∀{E}{F:Kn E}{u:DM F}{i s}(L:Ka)(e:Nat×Nat)(t:Nat),(∀cs,(u s).New (.cells cs 196))->(∀cs,(u s).New (.cells cs 182))->At L 2 0 (Mg 168)->
 Kb u prog i 103 [.iface 255 (Mm e), .iface 182 (ptr t)].toArray n s L (λs' v L'=>s=s'/\v= .bool false/\K5 L'/\ ∀t∈L,t∈L'):=by
 obtain⟨N,H⟩:=Im;constructor;intro E F u i s L e t D C G;co_applyP ar 42 func103 ntmps103;co_applyP(aC);co_applyP oy rfl (dN (v:= .iface 255 (Mm e)) (c:=false) (hv:= .inr ⟨_,_,rfl,rfl⟩) (hu:=underlying168));co_applyP(aC);co_applyP oy rfl (dN (v:= .iface 182 (ptr t)) (c:=false) (hv:= .inr ⟨_,_,rfl,rfl⟩) (hu:=underlying20));co_applyP(au);co_applyP bB rfl (DI (C _));intro r O o;co_applyP bB rfl (eN (z:= .agg #[.pointer none, .pointer none, .int .u64 0]) (D _));intro M K g;co_applyP oeN rfl (λhnd=>fA (hs:=fS) (vs:=[.pointer (some ⟨11,182,none⟩),ptr r, .int .u64 150]) (hnd:=hnd) (hm:=g.self) (hi:=cD _));rintro _ l ⟨rfl,A⟩;have j:=A.self;have y:(r,true,Obj.cells #[ptr t] 182)∈l:=A.ne _ (g.sub _ o.self) (λh=>g.new _ o.self h);have B:At l r 0 (ptr t):=⟨true,_,_,_,y,rfl⟩;have m: ∀x∈L,x∈l:=λx p=>A.ne _ (g.sub _ (o.sub _ p)) (λh=>g.new _ (o.sub _ p) h);have J:At l 2 0 (Mg 168):=let ⟨a,b,c,d,e,f⟩:=G;⟨a,b,c,d,m _ e,f⟩;co_applyP(ay);co_applyP oy rfl (aW (ht:=iD) (hs:=fS) (hm:=j) (hi:=cD _));co_applyP oy rfl (G5);co_applyP(au);co_applyP oy rfl (qI);co_applyP(ay);co_applyP oy rfl (aW (ht:=iD) (hs:=fS) (hm:=j) (hi:=cD _));co_applyP oy rfl (G6 B);co_applyP(aC);co_applyP oy rfl (qK);co_applyP(au);co_applyP oy rfl (qJ);co_applyP(av);co_applyP oy rfl (DF);co_applyP(aO);co_applyP oy rfl (aW (ht:=iD) (hs:=fS) (hm:=j) (hi:=cD _));co_applyP(zo);co_applyP oc rfl rfl rfl (H l e t r D);rintro _ _ _ ⟨rfl,rfl,I,k⟩;co_applyP(ax)
 exact xI _ ⟨rfl,rfl,rfl,I,λx p=>k _ (m _ p)⟩
theorem Iq: ∃n,∀{J}{F:Kn J}{p:DM F}{i s}(L:Ka)(e t:Nat)(v0:Value),(∀cs,(p s).New (.cells cs 196))->(∀cs,(p s).New (.cells cs 182))->At L 2 0 (Mg 168)->(∀cs,(p s).New (.cells cs 180))->(t,true,Obj.cells #[v0] 180)∈L->
 Kb p prog i 103 [.iface 180 (ptr e), .iface 182 (ptr t)].toArray n s L (λs' v L'=>s=s'/\v= .bool true/\ ∃B,K5 B/\(∀t∈L,t∈B)/\K4 B t (.cells #[ptr e] 180) L'):=by
 obtain⟨S,N⟩:=Io;constructor;intro J F p i s L e t v0 I G K E u;co_applyP ar 42 func103 ntmps103;co_applyP(aC);co_applyP oy rfl (dN (v:= .iface 180 (ptr e)) (c:=false) (hv:= .inr ⟨_,_,rfl,rfl⟩) (hu:=underlying168));co_applyP(aC);co_applyP oy rfl (dN (v:= .iface 182 (ptr t)) (c:=false) (hv:= .inr ⟨_,_,rfl,rfl⟩) (hu:=underlying20));co_applyP(au);co_applyP bB rfl (DI (G _));intro A B r;co_applyP bB rfl (eN (z:= .agg #[.pointer none, .pointer none, .int .u64 0]) (I _));intro R Q g;co_applyP oeN rfl (λhnd=>fA (hs:=fS) (vs:=[.pointer (some ⟨11,182,none⟩),ptr A, .int .u64 150]) (hnd:=hnd) (hm:=g.self) (hi:=cD _));rintro _ m ⟨rfl,D⟩;have j:=D.self;have C:(A,true,Obj.cells #[ptr t] 182)∈m:=D.ne _ (g.sub _ r.self) (λh=>g.new _ r.self h);have o:At m A 0 (ptr t):=⟨true,_,_,_,C,rfl⟩;have k: ∀x∈L,x∈m:=λx y=>D.ne _ (g.sub _ (r.sub _ y)) (λh=>g.new _ (r.sub _ y) h);have P:At m 2 0 (Mg 168):=let ⟨a,b,c,d,e,f⟩:=K;⟨a,b,c,d,k _ e,f⟩;co_applyP(ay);co_applyP oy rfl (aW (ht:=iD) (hs:=fS) (hm:=j) (hi:=cD _));co_applyP oy rfl (G5);co_applyP(au);co_applyP oy rfl (qI);co_applyP(ay);co_applyP oy rfl (aW (ht:=iD) (hs:=fS) (hm:=j) (hi:=cD _));co_applyP oy rfl (G6 o);co_applyP(aC);co_applyP oy rfl (qK);co_applyP(au);co_applyP oy rfl (qJ);co_applyP(av);co_applyP oy rfl (DF);co_applyP(aO);co_applyP oy rfl (aW (ht:=iD) (hs:=fS) (hm:=j) (hi:=cD _));co_applyP(zo);co_applyP oc rfl rfl rfl (N m e t A v0 I E o (k _ u));rintro _ _ _ ⟨rfl,rfl,M,O,l,H⟩;co_applyP(ay)
 co_applyP(zo);exact xI _ ⟨rfl,rfl,rfl,M,O,λx y=>l _ (k _ y),H⟩
end Go.Proofs.YtejkelcaljmnoaaGreatDoor
namespace Go.Lo
open Go.Conc Go.Hx
section
variable {σ:Type}{F:Kn σ}{Δ: ∀s,Ma (F.R s) (F.D s)} {P:Program} {main:Bool} {fn:FuncId} {N:Nat} {Q:σ->Exit->Env->Ka->Prop} {s:σ} {ε:Env} {L:Ka}
theorem ks {f:FuncId}{vs:Array Value}{n i:Nat}{Post:σ->Value->Ka->Prop}(h:Kb Δ P main f vs n s L Post)(hn:n<=i):Kb Δ P main f vs i s L Post:=λw j=>by
 obtain⟨g,c,o,a,d,e⟩:=h w j;exact⟨g,c,o,a,d,λb k cs m hb l hc=>(e b k cs m hb l hc).mono bl⟩
theorem cr (p:Prop){c:Code}{n₁ n₂:Nat}(h1:p->Kw Δ P main fn N c n₁ s Q ε L)(h2: ¬p->Kw Δ P main fn N c n₂ s Q ε L):Kw Δ P main fn N c (n₁+n₂) s Q ε L:=by
 by_cases h:p
 ·exact iT (h1 h) bl
 ·exact iT (h2 h) bl
theorem tZ (p:Prop){ops:Array Oper}{todo:List Nat}{n₁ n₂:Nat}(h1:p->KO Δ P main fn N ops todo n₁ s Q ε L)(h2: ¬p->KO Δ P main fn N ops todo n₂ s Q ε L):KO Δ P main fn N ops todo (n₁+n₂) s Q ε L:=by
 by_cases h:p
 ·exact nk (h1 h) bl
 ·exact nk (h2 h) bl
theorem aG (p:Prop){f:FuncId}{vs:Array Value}{n₁ n₂:Nat}{Post:σ->Value->Ka->Prop}(h1:p->Kb Δ P main f vs n₁ s L Post)(h2: ¬p->Kb Δ P main f vs n₂ s L Post):Kb Δ P main f vs (n₁+n₂) s L Post:=by
 by_cases h:p
 ·exact ks (h1 h) bl
 ·exact ks (h2 h) bl
theorem aJ {f:FuncId}{vs:Array Value}{n:Nat}{Post a:σ->Value->Ka->Prop}(h:Kb Δ P main f vs n s L Post)(hp: ∀s v L,Post s v L->a s v L):Kb Δ P main f vs n s L a:=λw A=>by
 obtain⟨g,c,x,d,i,j⟩:=h w A;refine⟨g,c,x,d,i,λb k cs m hb z hc=>j b k cs m hb z λy e C B q=>hc y e C B ?_⟩;cases e with
 |normal=>obtain⟨p,v,o,r,l,u⟩:=q;exact⟨p,v,o,r,l,hp _ _ _ u⟩
 |ret=>obtain⟨p,v,o,r,l,u⟩:=q;exact⟨p,v,o,r,l,hp _ _ _ u⟩
 |_=>exact q
end
section
variable {P:Program}{New:Obj->Prop}{N:Nat}{ε:Env}{L:Ka}{d:Option Tmp}{ty:TypeId}{ps:String}{af:Array Edge}{g:Option (Nat×Bool)}
theorem aQ {t:TypeId}{e:Array (Nat×Operand)}{ws:List (Nat×Value)}{v:Value}(hv:KF P (Instr.build t ws.toArray) []=some (v,[]))(hx:e.toList.map (λp=>(p.1,ev ε p.2))=ws.map (λp=>(p.1,some p.2)):=by rfl):EY P N ε L ⟨d, .build t e,ty,ps,af,g⟩ v:=λa i=>by
 have hw:e.map (λp=>(p.1,a.eval p.2))=ws.toArray:=by
  apply gm;have: ∀(l:List (Nat×Operand))(ws:List (Nat×Value)),l.map (λp=>(p.1,ev ε p.2))=ws.map (λp=>(p.1,some p.2))->l.map (λp=>(p.1,a.eval p.2))=ws:=by
   intro l
   induction l with
   |nil=>intro b h;cases b<;>simp_all
   |cons x l ih=>
    intro b h;cases b with
    |nil=>simp at h
    |cons v b=>
     simp only[ix,List.cons.injEq,Prod.mk.injEq] at h⊢;exact⟨Prod.ext h.1.1 (i.ev h.1.2),ih b h.2⟩
  simpa using this _ _ hx
 refine cN (λ_=>rfl) λK f=> ?_;show Kz P (Instr.build t (e.map λp=>(p.1,a.eval p.2))) K L;rw[hw];exact aZ hv f
end
end Go.Lo
namespace Go.Proofs.YtejkelcaljmnoaaGreatDoor
open Go.Conc Go.Hx Go.Lo Tryz
attribute [local irreducible] EY KO K6 Kw Kc Ku Kd Program.underlying
theorem BF (r:Nat):KF prog (Go.method (prog.types.size+Made.depth) 180 (ptr r) "Unwrap") []=some ((193,ptr r),[]):=bD
theorem EH:(prog.info? 255).map (·.comparable)=some true:=bD
theorem yC: ∃n,∀{d}{F:Kn d}{b:DM F}{a s}(L:Ka)(r:Nat)(v:Value),At L r 1 v->
 Kb b prog a 193 [ptr r].toArray n s L (λs' e L'=>s=s'/\L=L'/\v=e):=by
 constructor;intro d F b a s L r v f;co_applyP ar 7 func193 ntmps193;co_applyP(bf);exact xI _ ⟨rfl,rfl,rfl,rfl⟩
theorem Ir: ∃n,∀{p}{F:Kn p}{o:DM F}{b s}(L:Ka)(r:Nat)(e t:Nat×Nat)(fl i:Bool)(cs f:Array Value)(ty g:TypeId),At L r 1 (.iface 255 (Mm e))->(e.1,fl,Obj.cells cs ty)∈L->(t.1,i,Obj.cells f g)∈L->
 Kb o prog b 145 [.iface 180 (ptr r), .iface 255 (Mm t), .bool true].toArray n s L (λs' v L'=>s=s'/\L=L'/\v= .bool (decide (e=t))):=by
 obtain⟨z,y⟩:=yC;constructor;intro p F o b s L r e t fl i cs f ty g x he u;co_applyP ar 54 func145 ntmps145;co_applyP(av);co_applyP aU (λk s' a L'=>s'=s/\L'=L/\((k=2/\kn a [(0, .iface 180 (ptr r)),(1, .iface 255 (Mm t)),(2, .bool true)])\/(k=1/\kn a [(0, .iface 255 (Mm e)),(1, .iface 255 (Mm t)),(2, .bool true)]))) 2
 ·exact⟨rfl,rfl, .inl ⟨rfl,rfl⟩⟩
 rintro k s' a L' ⟨rfl,rfl,m⟩;co_applyP cr (k=2);intro l
 ·have d:kn a [(0, .iface 180 (ptr r)),(1, .iface 255 (Mm t)),(2, .bool true)]:=by
   rcases m with ⟨_,h⟩|⟨h,_⟩
   ·exact h
   ·omega
  co_applyP aA d;co_applyP(aR);co_applyP oy rfl (GL (sM _ _));co_applyP(aR);co_applyP oy rfl (G1);co_applyP(aH);co_applyP(aC);co_applyP oy rfl (Ig (G3 _));co_applyP(bm);co_applyP oi rfl (vs:=[]) (rc:=ptr r) (hm:=aZ (BF r) rfl) (hf:=func193) (hcall:=y L' r (.iface 255 (Mm e)) x);rintro _ _ _ ⟨rfl,rfl,rfl⟩;co_applyP(av);co_applyP oy rfl (dN (v:= .iface 255 (Mm e)) (c:=false) (hv:= .inr ⟨_,_,rfl,rfl⟩) (hu:=underlying168));co_applyP(ax);change∃k',k'<_/\_;exact⟨1,bl,rfl,rfl, .inr ⟨rfl,rfl⟩⟩
 intro l;co_applyP(ay);co_applyP aK;have d:kn a [(0, .iface 255 (Mm e)),(1, .iface 255 (Mm t)),(2, .bool true)]:=by
  rcases m with ⟨h,_⟩|⟨_,h⟩
  ·omega
  ·exact h
 co_applyP aA d;co_applyP(au);co_applyP oy rfl (GM (hu:=underlying168) (hi:=EH) (hp:=underlying255) (hs:=EG) (h1:=he) (h2:=u));co_applyP(ay);co_applyP aI rfl;intro hc;co_applyP(av);change∃v,Ko .. =some v/\_
 ·have j:e=t:=by simpa [Prod.ext_iff] using hc
  exact⟨_,rfl,rfl,rfl,by simp[j]⟩
 intro hc;co_applyP(av);have j: ¬e=t:=by simpa [Prod.ext_iff] using hc
 co_applyP oy rfl (GZ);co_applyP(aH);co_applyP(aC);co_applyP oy rfl (Dz);co_applyP(au);co_applyP oy rfl (DC);co_applyP(bf);exact xI _ ⟨rfl,rfl,rfl,by simp[j]⟩
theorem Is: ∃n,∀{i}{F:Kn i}{g:DM F}{a s}(L:Ka)(r:Nat)(e t:Nat×Nat)(fl f:Bool)(cs b:Array Value)(ty d:TypeId),At L r 1 (.iface 255 (Mm e))->(e.1,fl,Obj.cells cs ty)∈L->(t.1,f,Obj.cells b d)∈L->
 Kb g prog a 123 [.iface 180 (ptr r), .iface 255 (Mm t)].toArray n s L (λs' v L'=>s=s'/\L=L'/\v= .bool (decide (e=t))):=by
 obtain⟨m,l⟩:=Ir;constructor;intro i F g a s L r e t fl f cs b ty d k he j;co_applyP ar 22 func123 ntmps123;co_applyP(aC);co_applyP oy rfl (dN (v:= .iface 180 (ptr r)) (c:=false) (hv:= .inr ⟨_,_,rfl,rfl⟩) (hu:=underlying168));co_applyP(ay);co_applyP oy rfl (dN (v:= .iface 255 (Mm t)) (c:=false) (hv:= .inr ⟨_,_,rfl,rfl⟩) (hu:=underlying168));co_applyP(aC);co_applyP oy rfl (DD);co_applyP oy rfl (Ik);co_applyP(aC);co_applyP oc rfl rfl rfl (l L r e t fl f cs b ty d k he j);rintro _ _ _ ⟨rfl,rfl,rfl⟩;co_applyP(ax);exact xI _ ⟨rfl,rfl,rfl,rfl⟩
structure KZ (eb:Nat->Nat×Nat)(L:Ka):Prop where
 g: ∀i,i<11->i≠2->At L i 0 (.iface 255 (Mm (eb i)))
 t:At L 2 0 (Mg 168)
 b: ∀i,i<11->i≠2-> ∃fl cs ty,((eb i).1,fl,Obj.cells cs ty)∈L
 d: ∀i j,i<11->j<11->i≠2->j≠2->eb i=eb j->i=j
theorem kQ {L L':Ka}{b i:Nat}{v:Value}(h:At L b i v)(hs: ∀t∈L,t∈L'):At L' b i v:=let ⟨a,b,c,d,e,f⟩:=h;⟨a,b,c,d,hs _ e,f⟩
theorem KZ.mono {eb:Nat->Nat×Nat}{L L':Ka}(h:KZ eb L)(hs: ∀t∈L,t∈L'):KZ eb L':=
 ⟨λi e f=>kQ (h.g i e f) hs,kQ h.t hs,λi e f=>let ⟨a,b,c,d⟩:=h.b i e f;⟨a,b,c,hs _ d⟩,h.d⟩
def KB (i:Nat):Int:=if i=3 then 65535 else if i=4 then 65534 else if i=5 then 65533 else if i=6 then 65532 else if i=7 then 65531 else if i=8 then 65530 else 65529
theorem yD: ∃n,∀{y}{F:Kn y}{x:DM F}{l s}(L:Ka)(eb:Nat->Nat×Nat)(r i:Nat),KZ eb L->i<11->i≠2->At L r 1 (.iface 255 (Mm (eb i)))->
 Kb x prog l 104 [ptr r].toArray n s L (λs' v L'=>s=s'/\L=L'/\v= .int .u16 (KB i)):=by
 obtain⟨W,p⟩:=Is;constructor;intro y F x l s L eb r i f m k u;have a: ∀ms:Array (String×TypeId),TypeDesc.pointer 210≠ .interface ms:=λ_=>by simp
 obtain⟨o,cs,ty,hb⟩:=f.b i m k;obtain⟨f3,c3,t3,B⟩:=f.b 3 bx bx;obtain⟨f4,c4,t4,P⟩:=f.b 4 bx bx;obtain⟨f5,O,t5,C⟩:=f.b 5 bx bx;obtain⟨f6,G,t6,z⟩:=f.b 6 bx bx;obtain⟨f7,H,t7,J⟩:=f.b 7 bx bx;obtain⟨f8,I,t8,M⟩:=f.b 8 bx bx;have U:=f.g 3 bx bx;have X:=f.g 4 bx bx;have T:=f.g 5 bx bx;have R:=f.g 6 bx bx;have V:=f.g 7 bx bx;have S:=f.g 8 bx bx;have d: ∀j,j<11->j≠2-> ¬eb i=eb j->i≠j:=λj _ _ h e=>h (by rw[e]);co_applyP ar 33 func104 ntmps104;co_applyP(aC);co_applyP oy rfl (iU a (ht:=sH));co_applyP(zo);co_applyP oc rfl rfl rfl (p L r (eb i) (eb 3) o f3 cs c3 ty t3 u hb B);rintro _ _ _ ⟨rfl,rfl,rfl⟩;co_applyP(ay);co_applyP aI rfl;intro hc;co_applyP(av);change∃v,Ko .. =some v/\_
 ·have e:i=3:=f.d i 3 m bx k bx (by simpa using hc);exact⟨_,rfl,rfl,rfl,by simp[KB,e]⟩
 intro hc;co_applyP(ay);have A:=d 3 bx bx (by simpa using hc);co_applyP oy rfl (iU a (ht:=sH));co_applyP(zo);co_applyP oc rfl rfl rfl (p L r (eb i) (eb 4) o f4 cs c4 ty t4 u hb P);rintro _ _ _ ⟨rfl,rfl,rfl⟩;co_applyP(ay);co_applyP aI rfl;intro hc;co_applyP(av);change∃v,Ko .. =some v/\_
 ·have e:i=4:=f.d i 4 m bx k bx (by simpa using hc);exact⟨_,rfl,rfl,rfl,by simp[KB,e]⟩
 intro hc;co_applyP(ay);have D:=d 4 bx bx (by simpa using hc);co_applyP oy rfl (iU a (ht:=sH));co_applyP(zo);co_applyP oc rfl rfl rfl (p L r (eb i) (eb 5) o f5 cs O ty t5 u hb C);rintro _ _ _ ⟨rfl,rfl,rfl⟩;co_applyP(ay);co_applyP aI rfl;intro hc;co_applyP(av);change∃v,Ko .. =some v/\_
 ·have e:i=5:=f.d i 5 m bx k bx (by simpa using hc);exact⟨_,rfl,rfl,rfl,by simp[KB,e]⟩
 intro hc;co_applyP(ay);have N:=d 5 bx bx (by simpa using hc);co_applyP oy rfl (iU a (ht:=sH));co_applyP(zo);co_applyP oc rfl rfl rfl (p L r (eb i) (eb 6) o f6 cs G ty t6 u hb z);rintro _ _ _ ⟨rfl,rfl,rfl⟩;co_applyP(ay);co_applyP aI rfl;intro hc;co_applyP(av);change∃v,Ko .. =some v/\_
 ·have e:i=6:=f.d i 6 m bx k bx (by simpa using hc);exact⟨_,rfl,rfl,rfl,by simp[KB,e]⟩
 intro hc;co_applyP(ay);have Q:=d 6 bx bx (by simpa using hc);co_applyP oy rfl (iU a (ht:=sH));co_applyP(zo);co_applyP oc rfl rfl rfl (p L r (eb i) (eb 7) o f7 cs H ty t7 u hb J);rintro _ _ _ ⟨rfl,rfl,rfl⟩;co_applyP(ay);co_applyP aI rfl;intro hc;co_applyP(av);change∃v,Ko .. =some v/\_
 ·have e:i=7:=f.d i 7 m bx k bx (by simpa using hc);exact⟨_,rfl,rfl,rfl,by simp[KB,e]⟩
 intro hc;co_applyP(ay);have K:=d 7 bx bx (by simpa using hc);co_applyP oy rfl (iU a (ht:=sH));co_applyP(zo);co_applyP oc rfl rfl rfl (p L r (eb i) (eb 8) o f8 cs I ty t8 u hb M);rintro _ _ _ ⟨rfl,rfl,rfl⟩;co_applyP(ay);co_applyP aI rfl;intro hc;co_applyP(av);change∃v,Ko .. =some v/\_
 ·have e:i=8:=f.d i 8 m bx k bx (by simpa using hc);exact⟨_,rfl,rfl,rfl,by simp[KB,e]⟩
 intro hc;co_applyP(av);change∃v,Ko .. =some v/\_;have E:=d 8 bx bx (by simpa using hc);exact⟨_,rfl,rfl,rfl,by simp[KB,A,D,N,Q,K,E]⟩
end Go.Proofs.YtejkelcaljmnoaaGreatDoor
