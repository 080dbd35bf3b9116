/- Part 2 of the proof. -/
import Derived.Test.YtejkelcaljmnoaaGreatDoorHy01
import Derived.ArgAppend
import Derived.Test.YtejkelcaljmnoaaGreatDoorChecked
import Derived.Conc.DeferLaws
import Derived.Conc.EventLaws
import Derived.Conc.TokenWalk
import Derived.Conc.FxGenDone
import Derived.Conc.FxGenLone
set_option maxRecDepth 100000
set_option maxHeartbeats 4000000
set_option linter.all false
namespace Go.Hx
open Go.Conc
section
variable {p:KC}{E Dn:Nat}{w w₁ w':World}{b:Nat}{cs:Array Value}
def Fb (p:KC)(b:Nat)(cs:Array Value)(w:World):Prop:=p.N0<=b/\w.heap[b]? =some (.cells cs p.ety (0,0))
theorem Fb.fa (h:Fb p b cs w):FA p w b:=⟨h.1,_,h.2,by simp[Mx]⟩
theorem Fb.lt (h:Fb p b cs w):b<w.heap.size:=(ib.1 h.2).1
theorem Fb.rely (h:Fb p b cs w)(r:RA p w w₁):Fb p b cs w₁:=⟨h.1,(r.block b h.fa).trans h.2⟩
theorem Fb.cell (h:Fb p b cs w){i:Nat}{v:Value}(hv:cs[i]? =some v):w.cell? ⟨b,i,none⟩=some v:=by simp[World.cell?,h.2,hv]
theorem Fb.thaw (h:Fb p b cs w)(i:Nat):w.frozen? ⟨b,i,none⟩=false:=by simp[World.frozen?,h.2]
theorem Fb.set (h:Fb p b cs w)(i:Nat)(v:Value):Fb p b (cs.setIfInBounds i v) (w.setCell ⟨b,i,none⟩ v):=by
 refine⟨h.1, ?_⟩;have a:=h.lt;have d:=h.2;rw[OQ a] at d;have e:=gu d;simp[World.setCell,a,Array.getElem_modify,e]
theorem Fb.new (hN:p.N0<=w.heap.size):Fb p w.heap.size cs (w.alloc (.cells cs p.ety)):=⟨hN,uX w _⟩
theorem dX (h:Fb p b cs w){ad:Addr}(hb:ad.block=b)(wr e:Bool):EvA p w ⟨.cell ad,wr,e⟩:=by
 refine⟨λx d _=> .inl ⟨b, ?_,h.fa⟩,bE,bE⟩;have a:x.loc= .cell ad:=by cases e<;>(simp[MemAct.ofEvent,MemAct.touch?] at d;subst d;rfl)
 rw[a];exact congrArg some hb
theorem lf {m:Mark}(hm:Conc.Neutral m):EvA p w ⟨.mark m,false,true⟩:=
 ⟨λx d _=>by simp[MemAct.ofEvent,hm.touch] at d,⟨λh=>hm.ne_disable (by simpa using h),λh=>hm.ne_enable (by simpa using h)⟩,λa h=>by
  have b:m= .noRoom:=hm;subst b;simp at h⟩
theorem kM {es:Array Event}(a: ∀e∈es,EvA p w e):DG p E Dn w w es:=⟨RB.refl p E Dn w,rfl,rfl,a⟩
theorem dv (p:KC)(E Dn:Nat):Terms (RA p) (DG p E Dn):=⟨RA.trans,λw=>kM bE⟩
theorem wZ (hN:p.N0<=w.heap.size):RB p E Dn w (w.alloc (.cells cs p.ety)):=by
 refine⟨rfl,rfl,rfl,⟨by rw[iz];omega,λx f=> ?_,λx d g f=>g ?_⟩,λx d _ _ _=>fu w _ (OA d)⟩
 ·obtain⟨e,o,a,b⟩:=f;exact⟨e,o,by rw[fu w _ (OA (ib.1 a).1)];exact a,b⟩
 ·obtain⟨e,o,a,b⟩:=f;exact⟨e,o,by rw[<-fu w _ (OA d)];exact a,b⟩
theorem w5 (hN:p.N0<=w.heap.size)(hE:E<p.N0)(b:Dn<p.N0){es:Array Event}(a: ∀e∈es,False):DG p E Dn w (w.alloc (.cells cs p.ety)) es:=
 ⟨wZ hN,fu w _ bl,fu w _ bl,λe he=>(a e he).elim⟩
theorem tQ {i:Array Value}(h:Fb p b cs w)(l:Fb p b i w')(ht:w'.tape=w.tape)(ho:w'.os=w.os)(hu:w'.output=w.output)(hs:w'.heap.size=w.heap.size)(hb: ∀x,x≠b->w'.heap[x]? =w.heap[x]?) (hE:E<p.N0) (n:Dn<p.N0)
 {es:Array Event} (j: ∀e∈es,EvA p w' e):DG p E Dn w w' es:=by
 have k:=h.1;refine⟨⟨ht,ho,hu,⟨bl,λx f=> ?_,λx m d f=>d ?_⟩,λx _ d _ _=>hb x λe=>d (e▸h.fa)⟩,hb E bl,hb Dn bl,j⟩
 ·by_cases e:x=b
  ·subst e;exact l.fa
  ·obtain⟨g,o,ho,a⟩:=f;exact⟨g,o,by rw[hb x e];exact ho,a⟩
 ·by_cases e:x=b
  ·subst e;exact h.fa
  ·obtain⟨g,o,ho,a⟩:=f;exact⟨g,o,by rw[<-hb x e];exact ho,a⟩
theorem oE (h:Fb p b cs w)(hE:E<p.N0)(g:Dn<p.N0)(i:Nat)(v:Value){es:Array Event}(a: ∀e∈es,∃ad wr d,e=⟨.cell ad,wr,d⟩/\ad.block=b):DG p E Dn w (w.setCell ⟨b,i,none⟩ v) es:=
 tQ h (h.set i v) rfl rfl rfl (by simp[World.setCell]) (λx f=>fZ w _ v f) hE g λe he=>by
  obtain⟨ad,wr,d,rfl,hb⟩:=a e he;exact dX (h.set i v) hb wr d
theorem lg {es:Array Event}(h:DG p E Dn w w₁ #[])(a:DG p E Dn w₁ w' es):DG p E Dn w w' es:=⟨RB.trans _ _ _ h.1 a.1,a.2.1.trans h.2.1,a.2.2.1.trans h.2.2.1,a.2.2.2⟩
theorem AO (h:Fb p b cs w)(hE:E<p.N0)(a:Dn<p.N0)(v0 v1 v2 f:Value){es:Array Event}(d: ∀e∈es,∃ad wr g,e=⟨.cell ad,wr,g⟩/\ad.block=b):
 DG p E Dn w ((((w.setCell ⟨b,0,none⟩ v0).setCell ⟨b,1,none⟩ v1).setCell ⟨b,2,none⟩ v2).setCell ⟨b,3,none⟩ f) es:=
 lg (oE h hE a 0 v0 bE) (lg (oE (h.set 0 v0) hE a 1 v1 bE) (lg (oE ((h.set 0 v0).set 1 v1) hE a 2 v2 bE) (oE (((h.set 0 v0).set 1 v1).set 2 v2) hE a 3 f d)))
def Told (p:KC)(told:Value)(n:Nat)(xs:List Value)(w:World):Prop:=w.ownsRow p.N0 p.ety 4 told n xs
theorem Told.rely {told:Value}{n:Nat}{xs:List Value}(h:Told p told n xs w)(r:RA p w w₁):Told p told n xs w₁:=by
 refine⟨h.1,h.2.imp id ?_⟩;rintro⟨g,cap,cur,e,a,b,d⟩;exact⟨g,cap,cur,e,a,(r.block g (Fb.fa (p:=p) ⟨a,b⟩)).trans b,d⟩
theorem Told.alloc {told:Value}{n:Nat}{xs:List Value}(h:Told p told n xs w)(o:Obj):Told p told n xs (w.alloc o):=World.ownsRow.alloc h o
theorem p6 (a:w.grownBy w' none)(hN:p.N0<=w.heap.size)(hE:E<p.N0)(l:Dn<p.N0){es:Array Event}(j: ∀e∈es,EvA p w' e):DG p E Dn w w' es:=
 ⟨⟨a.tape,a.os,a.output,⟨a.size,λb f=>by obtain⟨x,o,d,g⟩:=f;exact⟨x,o,by rw[a.block b (ib.1 d).1 bE];exact d,g⟩,
  λb i k f=>k (by obtain⟨x,o,d,g⟩:=f;exact⟨x,o,by rw[<-a.block b i bE];exact d,g⟩)⟩,λb i _ _ _=>a.block b i bE⟩,
  a.block E bl bE,a.block Dn bl bE,j⟩
theorem Fb.grown (h:Fb p b cs w)(a:w.grownBy w' none):Fb p b cs w':=⟨h.1,(a.block b h.lt bE).trans h.2⟩
theorem Told.app {P:Program}{t ty:TypeId}{i:TypeInfo}{z:Value}(ht:P.underlying t=some (.slice p.ety))(hi:P.info? p.ety=some i)(hz:i.zero=some z)(hs:i.size=4)(hb:i.bytes=32)(hzs:z.cells.size=4)
 (hE:E<p.N0) (S:Dn<p.N0) (hN:p.N0<=w.heap.size) {told:Value} {n:Nat} {xs:List Value} (h:Told p told n xs w) (hn:n<10000) {nb:Nat} {v0 v1 v2 f:Value} (hnb:Fb p nb #[v0,v1,v2,f] w) (h1: ∀u∈[v0,v1,v2,f],u.oneCell'=true):
 ∃A w',(Builtin.append_ #[t,t] ty #[told, .slice (some ⟨nb,0,none⟩) 1 1]).run P w= .ok A w'/\Told p A (n+1) (xs++[v0,v1,v2,f]) w'/\p.N0<=w'.heap.size/\
  ∀es:Array Event,(∀e∈es,e∈(Builtin.append_ #[t,t] ty #[told, .slice (some ⟨nb,0,none⟩) 1 1]).events P w #[])->DG p E Dn w w' es:=by
 have a: ∀(j:Nat)(u:Value),[v0,v1,v2,f][j]? =some u->w.cell? ((⟨nb,0,none⟩:Addr).add j)=some u:=by
  intro j u hu;have e:(⟨nb,0,none⟩:Addr).add j=⟨nb,j,none⟩:=by unfold Addr.add;split<;>simp_all
  rw[e];exact hnb.cell (by simpa using hu)
 have I:=events_append_where (P:=P) w p.N0 t ty p.ety i z 4 32 ht hi hz hs hb told n xs h ⟨nb,0,none⟩ 1 1 [v0,v1,v2,f] bE a h1 (by simp[maxLen];omega) bl;rcases h.2 with ⟨rfl,rfl⟩|⟨g,cap,cur,rfl,F,H,W,R,hcs,D⟩
 ·obtain⟨Q,w',O,d,K,_⟩:=run_append_own (P:=P) w p.N0 t ty p.ety i z 4 32 ht hi hz hs hb hzs bx (.slice none 0 0) 0 xs h ⟨nb,0,none⟩ 1 1 [v0,v1,v2,f] bE a h1 (by simp[maxLen]) bx hN;have J:w.grownBy w' none:=K;refine⟨Q,w',O,d,l6 hN J.size,λes s=>p6 J hN hE S λe he=> ?_⟩;rcases I e (s e he) with ⟨V,B,o⟩|⟨m,rfl,hm⟩
  ·rcases o with ⟨_,hb⟩|o
   ·obtain⟨l,wr,U⟩:=e;simp only at B;subst B;exact dX (hnb.grown J) hb _ _
   ·simp[Value.ownBlock] at o
  ·exact lf hm
 ·have L:Fb p g cur w:=⟨F,H⟩;by_cases y:n+1<=cap
  ·have O:=run_append_room (P:=P) w t ty p.ety i ht hi g n cap cur H ⟨nb,0,none⟩ 1 1 [v0,v1,v2,f] (by simp[hs]) a h1 y (by rw[hs,hcs];simp;omega)
   have C:Fb p g (cur.toList.take (n*i.size)++[v0,v1,v2,f]++cur.toList.drop (n*i.size+[v0,v1,v2,f].length)).toArray (w.setRow g (cur.toList.take (n*i.size)++[v0,v1,v2,f]++cur.toList.drop (n*i.size+[v0,v1,v2,f].length)).toArray):=
    ⟨F,setRow_heap w g cur _ p.ety (0,0) H⟩
   refine⟨_,_,O,⟨by rw[mb,h.1];simp;omega, .inr ⟨g,cap,_,rfl,F,C.2,y,R, ?_, ?_⟩⟩,by rw[size_setRow];exact hN,λes s=>tQ L C rfl rfl rfl bE (λx Y=>setRow_other w g x _ Y) hE S λe he=> ?_⟩
   ·simp[hs,hcs];omega
   ·rw[hs,r5,D,<-r5];have e1:(xs++[v0,v1,v2,f]).length=(n+1)*4:=by rw[mb,h.1];simp;omega
    have e2: ∀(l r:List Value)(k:Nat),l.length=k->(l++r).take k=l:=λl r k Z=>by subst Z;simp
    exact e2 _ _ _ e1
   ·rcases I e (s e he) with ⟨V,B,o⟩|⟨m,rfl,hm⟩
    ·obtain⟨l,wr,U⟩:=e;simp only at B;subst B;rcases o with ⟨_,hb⟩|o
     ·by_cases T:nb=g
      ·exact dX C (hb.trans T) _ _
      ·exact dX (p:=p) (b:=nb) (cs:= #[v0,v1,v2,f]) ⟨hnb.1,by rw[setRow_other w g nb _ T];exact hnb.2⟩ hb _ _
     ·exact dX C (by simpa [Value.ownBlock] using o) _ _
    ·exact lf hm
  ·have G: ∀(j:Nat)(u:Value),xs[j]? =some u->w.cell? ((⟨g,0,none⟩:Addr).add j)=some u:=World.ownsRow.cells (e:=p.ety) (size:=4) (base:=p.N0) h (g:=g) rfl;obtain⟨Q,w',O,d,K⟩:=run_append_arg_grows (P:=P) w t ty p.ety i z 4 32 ht hi hz hs hb hzs bx ⟨g,0,none⟩ n cap xs h.1 G ⟨nb,0,none⟩ 1 1 [v0,v1,v2,f] bE a bl (by simp[maxLen];omega) bl;refine⟨Q,w',O, ?_,l6 hN K.size,λes s=>p6 K hN hE S λe he=> ?_⟩
   ·refine⟨d.1,d.2.imp id ?_⟩;rintro⟨X,M,N,h1,B,o⟩;exact⟨X,M,N,h1,l6 hN B,o⟩
   ·rcases I e (s e he) with ⟨V,B,o⟩|⟨m,rfl,hm⟩
    ·obtain⟨l,wr,U⟩:=e;simp only at B;subst B;rcases o with ⟨_,hb⟩|o
     ·exact dX (hnb.grown K) hb _ _
     ·exact dX (L.grown K) (by simpa [Value.ownBlock] using o) _ _
    ·exact lf hm
end
end Go.Hx
namespace Go.Hx
open Go.Conc Go.RowKit
open Go.ConcX
section
variable [Payload](P:Program)(ty:TypeId)(Wg C Low:Nat) [Shy Wg C](vals:List Value)(Mine:Loc->Prop)(AnchW:Goroutine->World->Prop)(p:KC)(E Dn:Nat)(zE zD:Value)(PostB:World->Prop)
theorem uY: ∀a b c:World,RPa ty Wg C vals a b->RPa ty Wg C vals b c->RPa ty Wg C vals a c:=λ_ _ _ h k=>
 ⟨⟨k.aside.tape.trans h.aside.tape,k.aside.os.trans h.aside.os,k.aside.output.trans h.aside.output,k.aside.size.trans h.aside.size,λx d e=>(k.aside.block x d e).trans (h.aside.block x d e)⟩,λx=>k.ka (h.ka x),λx=>k.kc (h.kc x)⟩
theorem fP:Terms (RPa ty Wg C vals) (DPi Mine Wg C Low):=⟨uY ty Wg C vals,λw=>⟨λ_ _=>rfl,bE⟩⟩
def gF:Kn (Option (List Value)) where
 R:=λs=>match s with|some _=>RA p|none=>RPa ty Wg C vals
 D:=λs=>match s with|some _=>DG p E Dn|none=>DPi Mine Wg C Low
 Stop:=λs=>match s with|some vs=>KW P p E Dn zE zD PostB (Nj P ty Wg C Low vals Mine AnchW) vs|none=>AtKd P ty Wg C Low vals Mine AnchW
 terms:=λs=>match s with|some _=>dv p E Dn|none=>fP ty Wg C Low vals Mine
end
section
variable [Payload]{P:Program}{ty:TypeId}{Wg C Low:Nat} [Shy Wg C]{vals:List Value}{Mine:Loc->Prop}{AnchW:Goroutine->World->Prop}{p:KC}{E Dn:Nat}{zE zD:Value}{PostB:World->Prop}{fn:FuncId}{Q:Option (List Value)->Exit->Act->World->Prop}{a:Act}{w:World}
theorem w7 {ops:Array Oper}{i:Nat}{rest:List Nat}{o:Oper}{n:Nat}{v:Value}{vs:List Value}(ho:ops[i]? =some o)(hw:Region.wanted o (yielded ops a.tmps)=true)
 (s: ∀d,RA p w d->(execOp a.eval o).run P d= .ok (.comm (Kh E Dn zE zD) true .select) d/\ ∀e∈listed P fn a o d,EvA p d e)
 (j: ∀f,RA p w f->Lp (gF P ty Wg C Low vals Mine AnchW p E Dn zE zD PostB) P true fn ops rest n (some vs) Q (a.put o.dst (commResult (Kh E Dn zE zD) .select 0 v true)) f):
 Lp (gF P ty Wg C Low vals Mine AnchW p E Dn zE zD PostB) P true fn ops (i::rest) 0 (some (v::vs)) Q a w:=by
 intro b k cs m hb x hc;refine Goes.stop λd g=> ?_;obtain⟨y,u⟩:=s d g;refine(show M8 P p E Dn zE zD (λr f=>Lf P p E Dn zE zD PostB (Nj P ty Wg C Low vals Mine AnchW) vs (Conc.served r (commResult (Kh E Dn zE zD) .select 0 v true)) f) _ d from⟨rfl,_,stepG_comm ho hw x y,by rw[hb];exact u,λf l=> ?_⟩);show Lf P p E Dn zE zD PostB (Nj P ty Wg C Low vals Mine AnchW) vs (Conc.served (core (G (b.at a (.inRegion ops (i::rest)::k)) cs)) _) f;rw[core_G,served_G,ho];exact(cV _ _ _ _ _ _ _ _ _ _ _).2 ⟨_,j f (RA.trans _ _ _ g l) b k cs m hb x hc⟩
theorem uZ {ops:Array Oper}{i:Nat}{rest:List Nat}{o:Oper}{n:Nat}(ho:ops[i]? =some o)(hw:Region.wanted o (yielded ops a.tmps)=true)
 (s: ∀f,RA p w f->(execOp a.eval o).run P f= .ok (.comm (Kh E Dn zE zD) true .select) f/\ ∀e∈listed P fn a o f,EvA p f e)
 (j: ∀d,RA p w d->PostB d->KPa ty Wg C vals d->Lp (gF P ty Wg C Low vals Mine AnchW p E Dn zE zD PostB) P true fn ops rest n none Q (a.put o.dst (commResult (Kh E Dn zE zD) .select 1 zD false)) d):
 Lp (gF P ty Wg C Low vals Mine AnchW p E Dn zE zD PostB) P true fn ops (i::rest) 0 (some []) Q a w:=by
 intro b k cs m hb y hc;refine Goes.stop λf g=> ?_;obtain⟨A,x⟩:=s f g;refine(show M8 P p E Dn zE zD (λr d=>PostB d->Nj P ty Wg C Low vals Mine AnchW (Conc.served r (commResult (Kh E Dn zE zD) .select 1 zD false)) d) _ f from⟨rfl,_,stepG_comm ho hw y A,by rw[hb];exact x,λd l z u=> ?_⟩);show∃m,Goes P true (RPa ty Wg C vals) (DPi Mine Wg C Low) (AtKd P ty Wg C Low vals Mine AnchW) m (Conc.served (core (G (b.at a (.inRegion ops (i::rest)::k)) cs)) _) d;rw[core_G,served_G,ho];exact⟨_,j d (RA.trans _ _ _ g l) z u b k cs m hb y hc⟩
end
end Go.Hx
namespace Go.Proofs
abbrev Tryz.link:Go.Conc.Lib.WgLink:={add:=30,done:=32,wait:=35,relMerge:=49,disable:=50,enable:=51,inBubble:=52,associate:=53,fatal:=54,uOr:=55,uAdd:=56,raceRead:=57,uLoad:=58,uStore:=59,disassociate:=60,semrelease:=61,acquire:=64,isAssociated:=65,uCas:=66,raceWrite:=67,semacquire:=68,orU64:=76,addU64:=77,loadU64:=78,storeU64:=79,casU64:=87,tWgP:=117,tUP:=119,tAssoc:=120,tWg:=87,tAU:=84,tU64:=82,tUint:=73,tU32:=85,tPU32:=124,tPAU:=159,tPU64:=161,tNoCopy:=79,tANoCopy:=80,tAlign64:=81}
theorem Tryz.J0:Go.Conc.Lib.WgLib Tryz.prog Tryz.link:=
 ⟨Tryz.func30,Tryz.func32,Tryz.func35,Tryz.func49,Tryz.func50,Tryz.func51,Tryz.func52,Tryz.func53,Tryz.func54,Tryz.func55,Tryz.func56,Tryz.func57,Tryz.func58,Tryz.func59,Tryz.func60,Tryz.func61,Tryz.func64,Tryz.func65,Tryz.func66,Tryz.func67,Tryz.func68,Tryz.func76,Tryz.func77,Tryz.func78,Tryz.func79,Tryz.func87,Tryz.underlying117,Tryz.runUnderlying117,Tryz.sizeOf117,Tryz.isAgg117,Tryz.zeroValue117,Tryz.underlying119,Tryz.runUnderlying119,Tryz.sizeOf119,Tryz.isAgg119,Tryz.zeroValue119,Tryz.underlying120,Tryz.runUnderlying120,Tryz.sizeOf120,Tryz.isAgg120,Tryz.zeroValue120,Tryz.underlying87,Tryz.runUnderlying87,Tryz.sizeOf87,Tryz.isAgg87,Tryz.zeroValue87,Tryz.underlying84,Tryz.runUnderlying84,Tryz.sizeOf84,Tryz.isAgg84,Tryz.zeroValue84,Tryz.underlying82,Tryz.runUnderlying82,Tryz.sizeOf82,Tryz.isAgg82,Tryz.zeroValue82,Tryz.underlying73,Tryz.runUnderlying73,Tryz.sizeOf73,Tryz.isAgg73,Tryz.zeroValue73,Tryz.underlying85,Tryz.runUnderlying85,Tryz.sizeOf85,Tryz.isAgg85,Tryz.zeroValue85,Tryz.underlying124,Tryz.runUnderlying124,Tryz.sizeOf124,Tryz.isAgg124,Tryz.zeroValue124,Tryz.underlying159,Tryz.runUnderlying159,Tryz.sizeOf159,Tryz.isAgg159,Tryz.zeroValue159,Tryz.underlying161,Tryz.runUnderlying161,Tryz.sizeOf161,Tryz.isAgg161,Tryz.zeroValue161,Tryz.underlying0,Tryz.runUnderlying0,Tryz.sizeOf0,Tryz.isAgg0,Tryz.zeroValue0,Tryz.underlying3,Tryz.runUnderlying3,Tryz.sizeOf3,Tryz.isAgg3,Tryz.zeroValue3,Tryz.underlying4,Tryz.runUnderlying4,Tryz.sizeOf4,Tryz.isAgg4,Tryz.zeroValue4,Tryz.underlying9,Tryz.runUnderlying9,Tryz.sizeOf9,Tryz.isAgg9,Tryz.zeroValue9,Tryz.underlying20,Tryz.runUnderlying20,Tryz.sizeOf20,Tryz.isAgg20,Tryz.zeroValue20,Tryz.underlying21,Tryz.runUnderlying21,Tryz.sizeOf21,Tryz.isAgg21,Tryz.zeroValue21,bD,bD⟩
end Go.Proofs
namespace Go.Proofs.YtejkelcaljmnoaaGreatDoor
open Go.Conc Go.ConcX Go.RowKit Go.Conc.Lib Go.ConcX.Gen Go.Hx
instance:Payload:=⟨3⟩
end Go.Proofs.YtejkelcaljmnoaaGreatDoor
namespace Go.Proofs.YtejkelcaljmnoaaGreatDoor
open Go.Conc Go.RowKit Go.Hx Go.ConcX Go.Conc.Lib Go.ConcX.Gen
def GI (p:KC)(told:Value)(n:Nat)(xs:List Value)(w:World):Prop:=Hx.Told p told n xs w/\p.N0<=w.heap.size
theorem GI.rely {p:KC}{told:Value}{n:Nat}{xs:List Value}{w a:World}(h:GI p told n xs w)(r:RA p w a):GI p told n xs a:=⟨h.1.rely r,l6 h.2 r.kept.size⟩
def Off (told:Value)(nb:Nat):Prop:= ∀g l cap,told= .slice (some ⟨g,0,none⟩) l cap->g≠nb
theorem Told.off {p:KC}{told:Value}{n:Nat}{xs:List Value}{w:World}(h:Hx.Told p told n xs w):Off told w.heap.size:=by
 intro g l cap e;rcases h.2 with ⟨a,_⟩|⟨f,b,cur,a,_,d,_⟩
 ·rw[a] at e;cases e
 ·rw[a] at e;cases e;exact OA (ib.1 d).1
theorem Told.J5 {p:KC}{told:Value}{n:Nat}{xs:List Value}{w:World}{nb:Nat}(h:Hx.Told p told n xs w)(ho:Off told nb)(i:Nat)(v:Value):Hx.Told p told n xs (w.setCell ⟨nb,i,none⟩ v):=by
 refine⟨h.1,h.2.imp id ?_⟩;rintro⟨g,cap,cur,a,d,e,b⟩;exact⟨g,cap,cur,a,d,by rw[fZ w _ v (ho g _ _ a)];exact e,b⟩
def GB (p:KC)(told:Value)(n:Nat)(xs:List Value)(nb:Nat)(cs:Array Value)(w:World):Prop:=GI p told n xs w/\Fb p nb cs w/\Off told nb
theorem GB.rely {p:KC}{told:Value}{n:Nat}{xs:List Value}{nb:Nat}{cs:Array Value}{w a:World}(h:GB p told n xs nb cs w)(r:RA p w a):GB p told n xs nb cs a:=⟨h.1.rely r,h.2.1.rely r,h.2.2⟩
theorem GB.set {p:KC}{told:Value}{n:Nat}{xs:List Value}{nb:Nat}{cs:Array Value}{w:World}(h:GB p told n xs nb cs w)(i:Nat)(v:Value):GB p told n xs nb (cs.setIfInBounds i v) (w.setCell ⟨nb,i,none⟩ v):=
 ⟨⟨Told.J5 h.1.1 h.2.2 i v,by simpa [World.setCell] using h.1.2⟩,h.2.1.set i v,h.2.2⟩
theorem lh {p:KC}{E Dn:Nat}{w:World}{cs:Array Value}(b:p.ety=51)(hN:p.N0<=w.heap.size)(hE:E<p.N0)(d:Dn<p.N0){es:Array Event}(a: ∀e∈es,False):DG p E Dn w (w.alloc (.cells cs 51)) es:=by
 have:=w5 (E:=E) (Dn:=Dn) (cs:=cs) hN hE d a
 rwa [b] at this
theorem Fb.new44 {p:KC}{w:World}{cs:Array Value}(a:p.ety=51)(hN:p.N0<=w.heap.size):Fb p w.heap.size cs (w.alloc (.cells cs 51)):=by
 have:=Fb.new (cs:=cs) hN
 rwa [a] at this
abbrev LM:Value:= .agg #[.int .i64 0, .int .i64 0, .int .i64 0, .int .i64 0]
abbrev LC:Value:= .agg #[]
def gAt (E Dn:Nat)(told t6 t7 t8 t9 t10 t11 t12 t13 t14 t15 t16 t17 t18:Value):Act:=
 {tmps:= #[.chan (some E), .chan (some Dn),undef,undef, .slice none 0 0,told,t6,t7,t8,t9,t10,t11,t12,t13,t14,t15,t16,t17,t18],defers:=[]}
variable {p:KC}{E Dn Wg C Low:Nat} [Shy Wg C]{vals:List Value}{Mine:Loc->Prop}{AnchW:Goroutine->World->Prop}{PostB:World->Prop}
theorem xa: ∃i z,Tryz.prog.info? 51=some i/\i.zero=some z/\i.size=4/\i.bytes=32/\z.cells.size=4:=by
 have h:(Tryz.prog.info? 51).map (λi=>(i.zero.map (·.cells.size),i.size,i.bytes))=some (some 4,4,32):=bD
 obtain⟨i,b,a⟩:=pA.1 h;simp only[Prod.mk.injEq] at a;obtain⟨z,d,e⟩:=pA.1 a.1;exact⟨i,z,b,d,a.2.1,a.2.2,e⟩
def NM (now kind id x:Int):List Value:=[.int .i64 now, .int .i64 kind, .int .i64 id, .int .i64 x]
abbrev wd (now kind id x:Int):Value:= .agg #[.int .i64 now, .int .i64 kind, .int .i64 id, .int .i64 x]
theorem iO (j:p.ety=51)(hE:E<p.N0)(F:Dn<p.N0): ∃k,∀(c S R:Code)(hc:Tryz.f34.body=some (.seq S (.seq R (.block 0 (.loop c)))))(told:Value)(n:Nat)(xs:List Value)(hn:n<10000)(now f id x:Int)(vs:List Value)(D:Option (List Value)->Exit->Act->World->Prop)(k2:Nat)
 (H: ∀g t6 t7 t8 t9 t10 t11 t12 t13 t14 t15 t16 t17 t18 w',GI p g (n+1) (xs++NM now f id x) w'->Mo (gF Tryz.prog 87 Wg C Low vals Mine AnchW p E Dn LM LC PostB) Tryz.prog true 34 c k2 (some vs) D (gAt E Dn g t6 t7 t8 t9 t10 t11 t12 t13 t14 t15 t16 t17 t18) w')
 (t6 t7 t8 t9 t10 t11 t12 t13 t14 t15 t16 t17 t18:Value) (w:World),GI p told n xs w->
 MG (gF Tryz.prog 87 Wg C Low vals Mine AnchW p E Dn LM LC PostB) Tryz.prog true 34 c k (some (wd now f id x::vs)) (KQ (λs' V w'=>Mo (gF Tryz.prog 87 Wg C Low vals Mine AnchW p E Dn LM LC PostB) Tryz.prog true 34 c k2 s' D V w') D) (gAt E Dn told t6 t7 t8 t9 t10 t11 t12 t13 t14 t15 t16 t17 t18) w:=by
 co_apply Exists.intro;intro c S R hc told n xs hn now f id x vs D k2 H t6 t7 t8 t9 t10 t11 t12 t13 t14 t15 t16 t17 t18 w a;simp only[Tryz.f34,Option.some.injEq,Code.seq.injEq,Code.block.injEq,Code.loop.injEq,true_and] at hc;obtain⟨_,_,rfl⟩:=hc;unfold gAt;have T: ∀w,(zeroValue 51).run Tryz.prog w= .ok LM w:=λw=>by kernel_rfl
 have U: ∀w,(zeroValue 78).run Tryz.prog w= .ok LC w:=λw=>by kernel_rfl
 co_apply eH;co_apply cn;co_apply cn;co_apply bt;simp only[l7,gf,km,Nat.reduceAdd,ic,List.range,List.range.loop];co_apply aD rfl (by rfl);intro _ d K b;replace a:=(GI.rely) a d;clear d
 skip
 go_simp
 try (unfold stored;go_simp)
 refine b _ _ ⟨?_, ?_⟩
 ·co_still (dv p E Dn)
 clear b K
 try walk_nrm
 co_apply bG
 try simp only[KQ]
 try co_then
 co_apply bt;simp only[l7,gf,km,Nat.reduceAdd,ic,List.range,List.range.loop];co_apply aD rfl (by rfl);intro _ d K b;replace a:=(GI.rely) a d;clear d
 skip
 go_simp
 try (unfold stored;go_simp)
 refine b _ _ ⟨?_, ?_⟩
 ·co_still (dv p E Dn)
 clear b K
 try walk_nrm
 co_apply bG
 try simp only[KQ]
 try co_then
 co_apply cn;co_apply bt;simp only[l7,gf,km,Nat.reduceAdd,ic,List.range,List.range.loop];co_apply w7 rfl (by rfl)
 ·intro Q O;refine⟨?_, ?_⟩
  ·simp[execOp,go_sem,T,U,Kh,rcase,Act.eval]
  ·intro e he;have hm:=mem_listed he;simp[go_sem, *] at hm
 intro M m;replace a:=GI.rely a m;clear m;rw[show commResult (Kh E Dn LM LC) .select 0 (wd now f id x) true= .tuple #[.int .i64 0, .bool true,wd now f id x,LC] from by simp[commResult,Kh,rcase,goInt]]
 walk_nrm
 co_apply aD rfl (by rfl);intro _ d K b;replace a:=(GI.rely) a d;clear d
 skip
 go_simp
 try (unfold stored;go_simp)
 refine b _ _ ⟨?_, ?_⟩
 ·co_still (dv p E Dn)
 clear b K
 try walk_nrm
 co_apply aD rfl (by rfl);intro _ d K b;replace a:=(GI.rely) a d;clear d
 skip
 go_simp
 try (unfold stored;go_simp)
 refine b _ _ ⟨?_, ?_⟩
 ·co_still (dv p E Dn)
 clear b K
 try walk_nrm
 co_apply aD rfl (by rfl);intro _ d K b;replace a:=(GI.rely) a d;clear d
 skip
 go_simp
 try (unfold stored;go_simp)
 refine b _ _ ⟨?_, ?_⟩
 ·co_still (dv p E Dn)
 clear b K
 try walk_nrm
 co_apply bG
 try simp only[KQ]
 try co_then
 co_apply eH;co_apply gd (t:=true)
 focus (exact rfl)
 simp only[if_true,if_false,pS,reduceIte];co_apply cn;co_apply bt;simp only[l7,gf,km,Nat.reduceAdd,ic,List.range,List.range.loop];co_apply aD rfl (by rfl);intro _ d K b;replace a:=(GI.rely) a d;clear d
 skip
 go_simp
 try (unfold stored;go_simp)
 refine b _ _ ⟨?_, ?_⟩
 ·co_still (dv p E Dn)
 clear b K
 try walk_nrm
 co_apply aD rfl (by rfl);intro _ d K b;replace a:=(GI.rely) a d;clear d;have l:=a.2;go_simp
 try (unfold stored;go_simp)
 refine b _ _ ⟨?_, ?_⟩
 ·(refine lh j l hE F ?_;intro e he;have hm:=mem_listed he;simp[go_sem, *] at hm)
 clear b K
 try walk_nrm
 replace a:GB p told n xs _ #[.int .i64 0, .int .i64 0, .int .i64 0, .int .i64 0] _:=⟨⟨a.1.alloc _,by rw[iz];exact Nat.le_succ_of_le l⟩,Fb.new44 j l,Told.off a.1⟩;clear l;co_apply aD rfl (by rfl);intro _ d K b;replace a:=(GB.rely) a d;clear d;have y:=a.2.1.cell (i:=0) rfl;have s:=a.2.1.cell (i:=1) rfl;have o:=a.2.1.cell (i:=2) rfl;have r:=a.2.1.cell (i:=3) rfl;have L:=a.2.1.thaw 0;have I:=a.2.1.thaw 1;have J:=a.2.1.thaw 2;have G:=a.2.1.thaw 3;go_simp
 try (unfold stored;go_simp)
 refine b _ _ ⟨?_, ?_⟩
 ·(refine AO a.2.1 hE F _ _ _ _ ?_;intro e he;have hm:=mem_listed he;simp[go_sem, *] at hm;(rcases hm with rfl|rfl|rfl|rfl<;>exact⟨_,_,_,rfl,rfl⟩))
 clear b K
 try walk_nrm
 replace a:=(((a.set 0 (.int .i64 now)).set 1 (.int .i64 f)).set 2 (.int .i64 id)).set 3 (.int .i64 x);simp only[OB,List.set_cons_zero,List.set_cons_succ] at a;clear y s o r L I J G;co_apply bG
 try simp only[KQ]
 try co_then
 co_apply bt;simp only[l7,gf,km,Nat.reduceAdd,ic,List.range,List.range.loop];co_apply aD rfl (by rfl);intro _ d K b;replace a:=(GB.rely) a d;clear d
 skip
 go_simp
 try (unfold stored;go_simp)
 refine b _ _ ⟨?_, ?_⟩
 ·co_still (dv p E Dn)
 clear b K
 try walk_nrm
 co_apply aD rfl (by rfl);intro _ d K b;replace a:=(GB.rely) a d;clear d;have y:=a.2.1.cell (i:=0) rfl;have s:=a.2.1.cell (i:=1) rfl;have o:=a.2.1.cell (i:=2) rfl;have r:=a.2.1.cell (i:=3) rfl;go_simp
 try (unfold stored;go_simp)
 refine b _ _ ⟨?_, ?_⟩
 ·(refine kM ?_;intro e he;have hm:=mem_listed he;simp[go_sem, *] at hm;(rcases hm with rfl|rfl|rfl|rfl<;>exact dX a.2.1 rfl _ _))
 clear b K
 try walk_nrm
 clear y s o r;co_apply aD rfl (by rfl);intro _ d K b;replace a:=(GB.rely) a d;clear d;have l:=a.1.2;go_simp
 try (unfold stored;go_simp)
 refine b _ _ ⟨?_, ?_⟩
 ·(refine lh j l hE F ?_;intro e he;have hm:=mem_listed he;simp[go_sem, *] at hm)
 clear b K
 try walk_nrm
 replace a:GB p told n xs _ #[.int .i64 now, .int .i64 f, .int .i64 id, .int .i64 x] _:=⟨⟨a.1.1.alloc _,by rw[iz];exact Nat.le_succ_of_le l⟩,Fb.new44 j l,Told.off a.1.1⟩;clear l;obtain⟨X,W,i1,i2,i3,i4,i5⟩:=xa;co_apply aD rfl (by rfl);intro _ d K b;replace a:=GB.rely a d;clear d;obtain⟨g,w',N,z,A,B⟩:=Told.app (P:=Tryz.prog) (t:=38) (ty:=38) (E:=E) (Dn:=Dn) (by rw[j];exact Tryz.underlying38) (by rw[j];exact i1) i2 i3 i4 i5 hE F a.1.2 a.1.1 hn a.2.1 (by intro u hu;simp at hu;rcases hu with rfl|rfl|rfl|rfl<;>rfl);refine uponK_append (.tmp 14) (.tmp 16) 38 rfl rfl rfl N ?_;refine b _ _ ⟨B _ ?_, ?_⟩
 ·intro e he;have hm:=mem_listed he;rw[events_append_op (.tmp 14) (.tmp 16) 38 rfl rfl rfl] at hm;exact hm
 clear b K B a N;have a:GI p g (n+1) (xs++NM now f id x) w':=⟨z,A⟩;clear z A
 try walk_nrm
 co_apply aD rfl (by rfl);intro _ d K b;replace a:=(GI.rely) a d;clear d
 skip
 go_simp
 try (unfold stored;go_simp)
 refine b _ _ ⟨?_, ?_⟩
 ·co_still (dv p E Dn)
 clear b K
 try walk_nrm
 co_apply bG
 try simp only[KQ]
 try co_then
 exact H _ _ _ _ _ _ _ _ _ _ _ _ _ _ _ a
def EI (Wg C:Nat) [Shy Wg C](vals:List Value)(PostB:World->Prop)(p:KC)(told:Value)(n:Nat)(xs:List Value)(w:World):Prop:=PostB w/\KPa 87 Wg C vals w/\Hx.Told p told n xs w
theorem Told.aside {p:KC}{told:Value}{n:Nat}{xs:List Value}{w a:World}(h:Hx.Told p told n xs w)(i:C<p.N0)(j:Wg<p.N0)(ha:Aside2 C Wg w a):Hx.Told p told n xs a:=by
 refine⟨h.1,h.2.imp id ?_⟩;rintro⟨g,cap,cur,d,e,f,b⟩;exact⟨g,cap,cur,d,e,(ha.block g bl bl).trans f,b⟩
theorem EI.rely (d:C<p.N0)(e:Wg<p.N0)(b: ∀w a,Aside2 C Wg w a->PostB w->PostB a) {told:Value} {n:Nat} {xs:List Value} {w a:World} (h:EI Wg C vals PostB p told n xs w) (r:RPa 87 Wg C vals w a):EI Wg C vals PostB p told n xs a:=
 ⟨b _ _ r.aside h.1,r.ka h.2.1,Told.aside h.2.2 d e r.aside⟩
theorem lj (i:C<p.N0)(g:Wg<p.N0)(f: ∀w j,Aside2 C Wg w j->PostB w->PostB j): ∃k,∀(c y x:Code)(hc:Tryz.f34.body=some (.seq y (.seq x (.block 0 (.loop c)))))(told:Value)(n:Nat)(xs:List Value)(s:Option (List Value)->Exit->Act->World->Prop)
 (H: ∀t6 t7 t8 t9 t10 t11 t12 t13 t14 t15 t16 t17 t18 w',EI Wg C vals PostB p told n xs w'->s none .ret {tmps:= #[.chan (some E), .chan (some Dn),undef,undef,told,told,t6,t7,t8,t9,t10,t11,t12,t13,t14,t15,t16,t17,t18],defers:=[]} w')
 (t6 t7 t8 t9 t10 t11 t12 t13 t14 t15 t16 t17 t18:Value) (w:World),GI p told n xs w->
 MG (gF Tryz.prog 87 Wg C Low vals Mine AnchW p E Dn LM LC PostB) Tryz.prog true 34 c k (some []) (KQ (λs' B w'=>Mo (gF Tryz.prog 87 Wg C Low vals Mine AnchW p E Dn LM LC PostB) Tryz.prog true 34 c 0 s' s B w') s) (gAt E Dn told t6 t7 t8 t9 t10 t11 t12 t13 t14 t15 t16 t17 t18) w:=by
 co_apply Exists.intro;intro c y x hc told n xs s H t6 t7 t8 t9 t10 t11 t12 t13 t14 t15 t16 t17 t18 w d;simp only[Tryz.f34,Option.some.injEq,Code.seq.injEq,Code.block.injEq,Code.loop.injEq,true_and] at hc;obtain⟨_,_,rfl⟩:=hc;unfold gAt;have z: ∀w,(zeroValue 51).run Tryz.prog w= .ok LM w:=λw=>by kernel_rfl
 have A: ∀w,(zeroValue 78).run Tryz.prog w= .ok LC w:=λw=>by kernel_rfl
 co_apply eH;co_apply cn;co_apply cn;co_apply bt;simp only[l7,gf,km,Nat.reduceAdd,ic,List.range,List.range.loop];co_apply aD rfl (by rfl);intro _ b K a;replace d:=(GI.rely) d b;clear b
 skip
 go_simp
 try (unfold stored;go_simp)
 refine a _ _ ⟨?_, ?_⟩
 ·co_still (dv p E Dn)
 clear a K
 try walk_nrm
 co_apply bG
 try simp only[KQ]
 try co_then
 co_apply bt;simp only[l7,gf,km,Nat.reduceAdd,ic,List.range,List.range.loop];co_apply aD rfl (by rfl);intro _ b K a;replace d:=(GI.rely) d b;clear b
 skip
 go_simp
 try (unfold stored;go_simp)
 refine a _ _ ⟨?_, ?_⟩
 ·co_still (dv p E Dn)
 clear a K
 try walk_nrm
 co_apply bG
 try simp only[KQ]
 try co_then
 co_apply cn;co_apply bt;simp only[l7,gf,km,Nat.reduceAdd,ic,List.range,List.range.loop];co_apply uZ rfl (by rfl)
 ·intro j u;refine⟨?_, ?_⟩
  ·simp[execOp,go_sem,z,A,Kh,rcase,Act.eval]
  ·intro e he;have hm:=mem_listed he;simp[go_sem, *] at hm
 intro o l m r;replace d:EI Wg C vals PostB p told n xs o:=⟨m,r,(GI.rely d l).1⟩;clear l m r;rw[show commResult (Kh E Dn LM LC) .select 1 LC false= .tuple #[.int .i64 1, .bool false,LM,LC] from by simp[commResult,Kh,rcase,goInt]]
 walk_nrm
 co_apply aD rfl (by rfl);intro _ b K a;replace d:=(EI.rely i g f) d b;clear b
 skip
 go_simp
 try (unfold stored;go_simp)
 refine a _ _ ⟨?_, ?_⟩
 ·co_still (fP 87 Wg C Low vals Mine)
 clear a K
 try walk_nrm
 co_apply aD rfl (by rfl);intro _ b K a;replace d:=(EI.rely i g f) d b;clear b
 skip
 go_simp
 try (unfold stored;go_simp)
 refine a _ _ ⟨?_, ?_⟩
 ·co_still (fP 87 Wg C Low vals Mine)
 clear a K
 try walk_nrm
 co_apply aD rfl (by rfl);intro _ b K a;replace d:=(EI.rely i g f) d b;clear b
 skip
 go_simp
 try (unfold stored;go_simp)
 refine a _ _ ⟨?_, ?_⟩
 ·co_still (fP 87 Wg C Low vals Mine)
 clear a K
 try walk_nrm
 co_apply bG
 try simp only[KQ]
 try co_then
 co_apply eH;co_apply gd (t:=false)
 focus (exact rfl)
 simp only[if_true,if_false,pS,reduceIte];co_apply gd (t:=true)
 focus (exact rfl)
 simp only[if_true,if_false,pS,reduceIte];co_apply cn;co_apply bt;simp only[l7,gf,km,Nat.reduceAdd,ic,List.range,List.range.loop];co_apply aD rfl (by rfl);intro _ b K a;replace d:=(EI.rely i g f) d b;clear b
 skip
 go_simp
 try (unfold stored;go_simp)
 refine a _ _ ⟨?_, ?_⟩
 ·co_still (fP 87 Wg C Low vals Mine)
 clear a K
 try walk_nrm
 co_apply aD rfl (by rfl);intro _ b K a;replace d:=(EI.rely i g f) d b;clear b
 skip
 go_simp
 try (unfold stored;go_simp)
 refine a _ _ ⟨?_, ?_⟩
 ·co_still (fP 87 Wg C Low vals Mine)
 clear a K
 try walk_nrm
 co_apply bG
 try simp only[KQ]
 try co_then
 co_apply jS;co_apply wpC_ret (fP 87 Wg C Low vals Mine);exact H _ _ _ _ _ _ _ _ _ _ _ _ _ _ d
abbrev Wd:=Int×Int×Int×Int
abbrev Wd.v (x:Wd):Value:=wd x.1 x.2.1 x.2.2.1 x.2.2.2
abbrev Wd.c (x:Wd):List Value:=NM x.1 x.2.1 x.2.2.1 x.2.2.2
theorem p9 (F:p.ety=51)(hE:E<p.N0)(V:Dn<p.N0)(I:C<p.N0)(G:Wg<p.N0)(D: ∀w d,Aside2 C Wg w d->PostB w->PostB d) (ws:List Wd): ∃k,∀(c i f:Code)(hc:Tryz.f34.body=some (.seq i (.seq f (.block 0 (.loop c)))))(told:Value)(n:Nat)(xs:List Value)(hn:n+ws.length<10000)(e:Option (List Value)->Exit->Act->World->Prop)
 (H: ∀a t6 t7 t8 t9 t10 t11 t12 t13 t14 t15 t16 t17 t18 w',EI Wg C vals PostB p a (n+ws.length) (xs++ws.flatMap Wd.c) w'->e none .ret {tmps:= #[.chan (some E), .chan (some Dn),undef,undef,a,a,t6,t7,t8,t9,t10,t11,t12,t13,t14,t15,t16,t17,t18],defers:=[]} w')
 (t6 t7 t8 t9 t10 t11 t12 t13 t14 t15 t16 t17 t18:Value) (w:World),GI p told n xs w->
 Mo (gF Tryz.prog 87 Wg C Low vals Mine AnchW p E Dn LM LC PostB) Tryz.prog true 34 c k (some (ws.map Wd.v)) e (gAt E Dn told t6 t7 t8 t9 t10 t11 t12 t13 t14 t15 t16 t17 t18) w:=by
 induction ws with
 |nil=>
  obtain⟨k,g⟩:=lj (Low:=Low) (Mine:=Mine) (AnchW:=AnchW) (vals:=vals) (E:=E) (Dn:=Dn) I G D;refine⟨k+0+1,λc i f hc told n xs hn e H t6 t7 t8 t9 t10 t11 t12 t13 t14 t15 t16 t17 t18 w y=> ?_⟩;refine r9 (g c i f hc told n xs e (λU S u8 P A r l o B j u16 z s w' hw=> ?_) t6 t7 t8 t9 t10 t11 t12 t13 t14 t15 t16 t17 t18 w y);exact H told _ _ _ _ _ _ _ _ _ _ _ _ _ w' (by simpa using hw)
 |cons x ws ih=>
  obtain⟨J,O⟩:=ih;obtain⟨k,g⟩:=iO (Wg:=Wg) (C:=C) (Low:=Low) (Mine:=Mine) (AnchW:=AnchW) (vals:=vals) (PostB:=PostB) F hE V;refine⟨k+J+1,λc i f hc told n xs hn e H t6 t7 t8 t9 t10 t11 t12 t13 t14 t15 t16 t17 t18 w y=> ?_⟩;rw[gf] at hn;refine r9 (g c i f hc told n xs bl _ _ _ _ (ws.map Wd.v) e J (λa U S u8 P A r l o B j u16 z s w' hw=> ?_) t6 t7 t8 t9 t10 t11 t12 t13 t14 t15 t16 t17 t18 w y);refine O c i f hc a (n+1) _ bl e (λb v6 W X Y v10 v11 N M R K Q T L u m=>H b _ _ _ _ _ _ _ _ _ _ _ _ _ u ?_) _ _ _ _ _ _ _ _ _ _ _ _ _ w' hw;rw[gf,List.flatMap_cons,<-r5,show n+(ws.length+1)=n+1+ws.length from by omega];exact m
theorem xc (G:p.ety=51)(hE:E<p.N0)(P:Dn<p.N0)(F:C<p.N0)(I:Wg<p.N0)(D: ∀w f,Aside2 C Wg w f->PostB w->PostB f) (ws:List Wd) (hn:ws.length<10000): ∃k,∀(w:World),p.N0<=w.heap.size->
 Ld (gF Tryz.prog 87 Wg C Low vals Mine AnchW p E Dn LM LC PostB) Tryz.prog true 34 #[.chan (some E), .chan (some Dn)] k (some (ws.map Wd.v)) w λs' v w'=>s'=none/\EI Wg C vals PostB p v ws.length (ws.flatMap Wd.c) w':=by
 have key: ∃k u,∀(c j i:Code)(hc:Tryz.f34.body=some (.seq j (.seq i (.block 0 (.loop c)))))(e:Option (List Value)->Exit->Act->World->Prop)
  (H: ∀a t6 t7 t8 t9 t10 t11 t12 t13 t14 t15 t16 t17 t18 w',EI Wg C vals PostB p a ws.length (ws.flatMap Wd.c) w'->e none .ret {tmps:= #[.chan (some E), .chan (some Dn),undef,undef,a,a,t6,t7,t8,t9,t10,t11,t12,t13,t14,t15,t16,t17,t18],defers:=[]} w')
  (t6 t7 t8 t9 t10 t11 t12 t13 t14 t15 t16 t17 t18:Value) (w:World),GI p (.slice none 0 0) 0 [] w->
  MG (gF Tryz.prog 87 Wg C Low vals Mine AnchW p E Dn LM LC PostB) Tryz.prog true 34 c k (some (ws.map Wd.v)) (KQ (λs' Z w'=>Mo (gF Tryz.prog 87 Wg C Low vals Mine AnchW p E Dn LM LC PostB) Tryz.prog true 34 c u s' e Z w') e) (gAt E Dn (.slice none 0 0) t6 t7 t8 t9 t10 t11 t12 t13 t14 t15 t16 t17 t18) w:=by
  cases ws with
  |nil=>
   obtain⟨k,g⟩:=lj (Low:=Low) (Mine:=Mine) (AnchW:=AnchW) (vals:=vals) (E:=E) (Dn:=Dn) F I D;exact⟨k,0,λc j i hc e H t6 t7 t8 t9 t10 t11 t12 t13 t14 t15 t16 t17 t18 w d=>g c j i hc _ _ _ e (λO N u8 M A r m o B l u16 z s w' hw=>H _ _ _ _ _ _ _ _ _ _ _ _ _ _ w' (by simpa using hw)) t6 t7 t8 t9 t10 t11 t12 t13 t14 t15 t16 t17 t18 w d⟩
  |cons x ws=>
   rw[gf] at hn;obtain⟨u,U⟩:=p9 (Low:=Low) (Mine:=Mine) (AnchW:=AnchW) (vals:=vals) G hE P F I D ws;obtain⟨k,g⟩:=iO (Wg:=Wg) (C:=C) (Low:=Low) (Mine:=Mine) (AnchW:=AnchW) (vals:=vals) (PostB:=PostB) G hE P;refine⟨k,u,λc j i hc e H t6 t7 t8 t9 t10 t11 t12 t13 t14 t15 t16 t17 t18 w d=> ?_⟩;refine g c j i hc _ 0 _ bl _ _ _ _ (ws.map Wd.v) e u (λa O N u8 M A r m o B l u16 z s w' hw=> ?_) t6 t7 t8 t9 t10 t11 t12 t13 t14 t15 t16 t17 t18 w d;refine U c j i hc a (0+1) _ bl e (λb v6 v7 v8 v9 v10 v11 T S W Q V X R L J=>H b _ _ _ _ _ _ _ _ _ _ _ _ _ L ?_) _ _ _ _ _ _ _ _ _ _ _ _ _ w' hw;rw[gf,List.flatMap_cons,show ws.length+1=0+1+ws.length from by omega];simpa using J
 obtain⟨k,u,g⟩:=key;co_apply Exists.intro;intro w Y;have d:GI p (.slice none 0 0) 0 [] w:=⟨⟨rfl, .inl ⟨rfl,rfl⟩⟩,Y⟩;co_apply fj Tryz.func34 (by rfl) rfl;simp only[Tryz.ntmps34,l7,gf,km,Nat.reduceAdd,Nat.reduceSub,Array.replicate_succ,Array.replicate_zero,List.push_toArray,List.append_toArray,u6,sc];co_apply cn;co_apply bt;simp only[l7,gf,km,Nat.reduceAdd,ic,List.range,List.range.loop];co_apply aD rfl (by rfl);intro _ y K n;replace d:=(GI.rely) d y;clear y
 skip
 go_simp
 try (unfold stored;go_simp)
 refine n _ _ ⟨?_, ?_⟩
 ·co_still (dv p E Dn)
 clear n K
 try walk_nrm
 co_apply bG
 try simp only[KQ]
 try co_then
 co_apply cn;co_apply bt;simp only[l7,gf,km,Nat.reduceAdd,ic,List.range,List.range.loop];co_apply aD rfl (by rfl);intro _ y K n;replace d:=(GI.rely) d y;clear y
 skip
 go_simp
 try (unfold stored;go_simp)
 refine n _ _ ⟨?_, ?_⟩
 ·co_still (dv p E Dn)
 clear n K
 try walk_nrm
 co_apply bG
 try simp only[KQ]
 try co_then
 co_apply eH;co_apply m6;exact g _ _ _ rfl _ (λa O N u8 M A r m o B l u16 z s w' hw=>⟨rfl,_,resultsC_tmp (t:=4) (by rfl) _,rfl,hw⟩) _ _ _ _ _ _ _ _ _ _ _ _ _ _ d
end Go.Proofs.YtejkelcaljmnoaaGreatDoor
namespace Go.Hx
open Go.Conc Go.ConcX
def ShR (Sh:Loc->Prop)(N:Nat):Loc->Prop:=λl=>Sh l\/Od (N+6) l
def OkW (Wg C:Nat)(act:MemAct):Prop:=(∀x,act.touch? =some x-> ∃a:Addr,x.loc= .cell a/\((a.block=Wg/\x.kind≠ .plain)\/(a.block=C/\x.kind= .plain)))/\ ∀a,act≠ .mark (.release a)
@[reducible] def shyW (Wg C:Nat) (stop:Goroutine->World->Prop):Shy Wg C where
 ok:=OkW Wg C
 atomicWg:=λa wr h=>⟨λx hx=>by simp only[MemAct.touch?,Option.some.injEq] at hx;subst hx;exact⟨a,rfl, .inl ⟨h,by simp⟩⟩,by simp⟩
 readWg:=λa h=>⟨λx hx=>by simp only[MemAct.touch?,Option.some.injEq] at hx;subst hx;exact⟨a,rfl, .inl ⟨h,by simp⟩⟩,by simp⟩
 writeWg:=λa h=>⟨λx hx=>by simp only[MemAct.touch?,Option.some.injEq] at hx;subst hx;exact⟨a,rfl, .inl ⟨h,by simp⟩⟩,by simp⟩
 theirs:=λa wr h=>⟨λx hx=>by simp only[MemAct.touch?,Option.some.injEq] at hx;subst hx;exact⟨a,rfl, .inr ⟨h,by simp⟩⟩,by simp⟩
 disable:=⟨λx hx=>by simp[MemAct.touch?] at hx,by simp⟩
 enable:=⟨λx hx=>by simp[MemAct.touch?] at hx,by simp⟩
 relMerge:=⟨λx hx=>by simp[MemAct.touch?] at hx,by simp⟩
 acquire:=⟨λx hx=>by simp[MemAct.touch?] at hx,by simp⟩
 go1:=⟨λx hx=>by simp[MemAct.touch?] at hx,by simp⟩
 start:=⟨λx hx=>by simp[MemAct.touch?] at hx,by simp⟩
 stop:=stop
section
variable {N:Nat}{Sh:Loc->Prop}{stop:Goroutine->World->Prop}
def Li (Sh:Loc->Prop)(N:Nat):Prop:= ∀l,Sh l-> ∃b,blk l=some b/\b<N
theorem Li.not (h:Li Sh N){b:Nat}(hb:N<=b)(i:Nat): ¬Sh (.cell ⟨b,i,none⟩):=λs=>by
 obtain⟨x,a,d⟩:=h _ s;simp[blk] at a;omega
theorem Li.next (h:Li Sh N):Li (ShR Sh N) (N+7):=λl d=>by
 rcases d with s|⟨a,rfl,f⟩
 ·obtain⟨b,e,g⟩:=h l s;exact⟨b,e,bl⟩
 ·exact⟨_,rfl,bl⟩
theorem gg {e:Event}{m:Mark}(h:e.loc= .mark m):MemAct.ofEvent e= .mark m:=by
 obtain⟨l,wr,a⟩:=e;simp only at h;subst h;rfl
theorem AP (h:Li Sh N){e:Event}(i:OkW (N+6) (N+1) (MemAct.ofEvent e))(h1:e.loc≠ .mark .disable)(h2:e.loc≠ .mark .enable):Nu Sh e:=
 ⟨λx d b=>by
  obtain⟨a,f,hb⟩:=i.1 x d;rw[f] at b;obtain⟨y,g,j⟩:=h _ b;simp only[blk,Option.some.injEq] at g;rcases hb with ⟨z,_⟩|⟨z,_⟩<;>omega,h1,h2⟩
theorem xd (h:Li Sh N){e:Event}(k:OkW (N+6) (N+1) (MemAct.ofEvent e))(h1:e.loc≠ .mark .disable)(h2:e.loc≠ .mark .enable):Nu (ShR Sh N) e:=
 ⟨λx d b=>by
  obtain⟨a,g,hb⟩:=k.1 x d;rcases hb with ⟨_,z⟩|⟨z,_⟩
  ·exact z
  ·rw[g] at b;rcases b with s|⟨m,i,f⟩
   ·obtain⟨y,j,l⟩:=h _ s;simp only[blk,Option.some.injEq] at j;omega
   ·cases i;omega,h1,h2⟩
theorem D8 {a:Addr}(ha:a.block=N+1):ThJ (N+6) (N+1) (.cell a):=⟨a,rfl,ha,bl⟩
theorem D9 {a:Addr}(ha:a.block=N+6):ShJ (N+6) (N+1) (.cell a):= .inl ⟨a,rfl,ha⟩
theorem Ia (Mine:Loc->Prop)(stop:Goroutine->World->Prop):letI:=shyW (N+6) (N+1) stop;∀e,EvQ Mine (N+6) (N+1) 0 e->Ev0 (ShR Sh N) e:=by
 intro e he;obtain⟨_,i,_,f⟩:=he.1 0 "";refine⟨λx d=> ?_,λa b=>f.2 a (gg b)⟩;obtain⟨a,b,hb⟩:=f.1 x d;rcases hb with ⟨z,g⟩|⟨z,_⟩
 ·exact⟨.inr ⟨a,b,z⟩,g⟩
 ·have:=((i x d).2.2 (by rw[b];exact D8 z)).1;omega
theorem Ib (h:Li Sh N)(Mine:Loc->Prop)(stop:Goroutine->World->Prop):letI:=shyW (N+6) (N+1) stop;∀e,EvJ Mine (N+6) (N+1) e->Nu (ShR Sh N) e:=by
 intro e he;obtain⟨_,_,_,a⟩:=he.1 0 "";exact xd h a he.2.1 he.2.2
theorem Ea (h:Li Sh N)(stop:Goroutine->World->Prop):letI:=shyW (N+6) (N+1) stop;∀w a es,DE (EvS (N+6) (N+1)) w a es-> ∀e∈es,Nu Sh e:=by
 intro w a es he e hm;obtain⟨_,_,_,b,f,d⟩:=he e hm;exact AP h d (λz=>b (gg z)) (λz=>f (gg z))
end
open Go.ConcN (sumTo upd sumTo_upd upd_ne upd_same)
def K9:List Nat->Loc->Prop
 |[]=>λ_=>False
 |N::s=>ShR (K9 s) N
def D0 (Sh:Loc->Prop):World->World->Array Event->Prop:=λ_ _ es=> ∀e∈es,Nu Sh e
theorem ll (Sh:Loc->Prop):Terms AtRel (D0 Sh):=⟨atRel_trans,λ_=>by simp[D0]⟩
def K3:Loc->Prop:=λ_=>False
theorem dQ {P:Program}{main:Bool}{R:World->World->Prop}{D j:World->World->Array Event->Prop}{Stop d:Goroutine->World->Prop}(i: ∀w w' es,D w w' es->j w w' es) (f: ∀g w,Stop g w->d g w):
 ∀(n:Nat)(g:Goroutine)(w:World),Goes P main R D Stop n g w->Goes P main R j d n g w
 |0,_,_,h=>λa e=>f _ _ (h a e)
 |n+1,g,w,h=>by
  rcases h with h|⟨e,h⟩
  ·exact .inl λa b=>f _ _ (h a b)
  ·refine .inr ⟨e,λa b=> ?_⟩;have:=h a b
   revert this
   cases stepG P main g a with
   |go g' w' es=>exactλ⟨x,y⟩=>⟨i _ _ _ x,dQ i f n g' w' y⟩
   |_=>exact id
section
variable [Payload]{P:Program}
omit [Payload] in
theorem u4 {Sh:Loc->Prop}{f:Nat}{m:Mark}(hm:m= .disable\/m= .enable){a:Array Goroutine}{l g':Goroutine}{w':World}{p e:Option (Nat×Nat)}{t':Trace}{D:Nat->Nat}{d:Nat}
 (o:a[0]? =some l) (r:Leavers P t' a D) (z:KN Sh t' f) (hgo:stepG P true l (w'.at d)= .go g' (w'.at d) #[mk m]) (A:stepT P (crowd a w' p)=runT P (crowd a (w'.at d) e) 0):
 ∃(b:Array Goroutine) (k:Trace),runNT P 1 (crowd a w' p) t'=(.next (crowd b (w'.at d) e),k)/\b.size=a.size/\b[0]? =some g'/\Leavers P k b D/\KN Sh k (deafBehind f #[mk m]):=by
 have n:0<a.size:=(ib.1 o).1;have g:=runT_crowd_go (P:=P) (sl:=e) (i:=0) o (show stepG P (0==0) l (w'.at d)=_ from hgo);refine⟨(a.map (Go.Conc.woken P l g' (w'.at d))).setIfInBounds 0 g',_, ?_,bE,by simp[n],⟨λj x s B=> ?_,λj s=> ?_⟩,z.word l.frame.fn l.frame.place hm⟩
 ·simp only[runNT,A,g]
 ·rw[m0 bl,tp] at B;obtain⟨y,E,rfl⟩:=pA.1 B;have C:=r.old j y s E;rw[woken_quitsD C,Deaf_other t' (g':=0) bl _ aL];exact C
 ·have u:a.size<=j:=by simpa using s
  rw[Deaf_other t' (g':=0) bl _ aL];exact r.above j u
end
end Go.Hx
namespace Go.Hx
open Go.Conc
structure New (W:World)(os:List Obj)(w:World):Prop where
 tape:w.tape=W.tape
 os':w.os=W.os
 output:w.output=W.output
 heap:w.heap=W.heap++os.toArray
section
variable {W w w₁:World}{os:List Obj}
theorem New.refl (W:World):New W [] W:=⟨rfl,rfl,rfl,bE⟩
theorem New.rely (h:New W os w)(r:AtRel w w₁):New W os w₁:=by obtain⟨d,rfl⟩:=r;exact⟨h.tape,h.os',h.output,h.heap⟩
theorem New.alloc (h:New W os w)(o:Obj):New W (os++[o]) (w.alloc o):=⟨h.tape,h.os',h.output,by
 show w.heap.push o=_;rw[h.heap];apply gm;simp⟩
theorem New.size (h:New W os w):w.heap.size=W.heap.size+os.length:=by simp[h.heap]
theorem New.get (h:New W os w){i:Nat}{o:Obj}(ho:os[i]? =some o):w.heap[W.heap.size+i]? =some o:=by
 rw[h.heap,Pb bl];simpa using ho
theorem New.old (h:New W os w){b:Nat}(hb:b<W.heap.size):w.heap[b]? =W.heap[b]? :=by rw[h.heap,Array.getElem?_append_left hb]
theorem New.cell (h:New W os w){i:Nat}{cs:Array Value}{ty:TypeId}(ho:os[i]? =some (.cells cs ty (0,0))){j:Nat}{v:Value}(hv:cs[j]? =some v):w.cell? ⟨W.heap.size+i,j,none⟩=some v:=by
 simp[World.cell?,h.get ho,hv]
theorem New.thaw (h:New W os w){i:Nat}{cs:Array Value}{ty:TypeId}(ho:os[i]? =some (.cells cs ty (0,0)))(j:Nat):w.frozen? ⟨W.heap.size+i,j,none⟩=false:=by
 simp[World.frozen?,h.get ho]
theorem New.set (h:New W os w){i:Nat}{cs:Array Value}{ty:TypeId}(ho:os[i]? =some (.cells cs ty (0,0)))(j:Nat)(v:Value):New W (os.set i (.cells (cs.setIfInBounds j v) ty (0,0))) (w.setCell ⟨W.heap.size+i,j,none⟩ v):=by
 refine⟨h.tape,h.os',h.output, ?_⟩;have b:i<os.length:=(mo.1 ho).1;have k:os[i]= .cells cs ty (0,0):=(mo.1 ho).2;apply Array.ext_getElem?;intro x;by_cases f:x=W.heap.size+i
 ·subst f;have g:=h.get ho;have d:W.heap.size+i<w.heap.size:=(ib.1 g).1;have e:w.heap[W.heap.size+i]= .cells cs ty (0,0):=(ib.1 g).2;rw[Pb bl];simp[World.setCell,d,Array.getElem_modify,e,b]
 ·rw[fZ w _ v f,h.heap];rcases Nat.lt_or_ge x W.heap.size with a|a
  ·rw[Array.getElem?_append_left a,Array.getElem?_append_left a]
  ·rw[Pb a,Pb a];have:i≠x-W.heap.size:=bl
   simp[List.getElem?_set_ne this]
variable {Sh:Loc->Prop}
theorem dY {ad:Addr}(wr e:Bool)(h: ¬Sh (.cell ad)):Nu Sh ⟨.cell ad,wr,e⟩:=
 ⟨λx b d=>by
  have a:x.loc= .cell ad:=by cases e<;>(simp[MemAct.ofEvent,MemAct.touch?] at b;subst b;rfl)
  rw[a] at d;exact absurd d h,bE,bE⟩
end
end Go.Hx
namespace Go.Hx
open Go.Conc Go.ConcX
open Go.ConcN (sumTo upd sumTo_upd upd_ne upd_same)
def pZ (N:Nat):KC:=⟨51,N+7,λl=> ∃a:Addr,l= .cell a/\(a.block=N+3\/a.block=N+5)⟩
section
variable {N:Nat}{Sh:Loc->Prop}{stop:Goroutine->World->Prop}
theorem Df (h:Li Sh N):Mf (pZ N) (ShR Sh N) where
 low:=λl b d hb=>by
  obtain⟨x,f,g⟩:=h.next l d
  rw[hb] at f;cases f;exact g
 st:=λl b d hb=>by
  obtain⟨a,rfl,k⟩:=d;simp only[blk,Option.some.injEq] at hb;show b<N+7;omega
 ap:=λl d i=>by
  obtain⟨a,rfl,k⟩:=d;rcases i with s|⟨m,e,j⟩
  ·obtain⟨x,f,g⟩:=h _ s;simp only[blk,Option.some.injEq] at f;omega
  ·cases e;omega
theorem Ic (h:Li Sh N)(Mine:Loc->Prop)(stop:Goroutine->World->Prop):letI:=shyW (N+6) (N+1) stop;∀w:World,(pZ N).N0<=w.heap.size-> ∀e,EvQ Mine (N+6) (N+1) 1 e->EvB (pZ N) (ShR Sh N) w e:=by
 intro w hw e he;obtain⟨_,u,_,A⟩:=he.1 0 "";refine⟨λx l hm=> ?_,he.2.1,he.2.2.1⟩;have o:N+7<=w.heap.size:=hw;obtain⟨a,j,hb⟩:=A.1 x l;have b:a.block=N+6\/a.block=N+1->Nv (pZ N) w x:=λr=>⟨a.block,by rw[j];rfl,bl,λf=>by have:N+7<=a.block:=f.1;omega⟩;have i:a.block=N+6\/a.block=N+1->((pZ N).Still x.loc->x.write=false):=λr g=>by
  obtain⟨B,k,g⟩:=g;rw[j] at k;cases k;omega
 rcases hb with ⟨z,m⟩|⟨z,m⟩
 ·refine⟨b (.inl z),λ_=> ?_,i (.inl z)⟩;have:=((u x l).2.1 (by rw[j];exact D9 z)).2;cases d:x.kind with
  |plain=>exact absurd d m
  |atomic=>rfl
  |said=>exact absurd (this d) bx
 ·refine⟨b (.inr z),λg=> ?_,i (.inr z)⟩;rw[j] at g;rcases g with s|⟨B,k,n⟩
  ·obtain⟨y,p,C⟩:=h _ s;simp only[blk,Option.some.injEq] at p;omega
  ·cases k;omega
theorem Ie (h:Li Sh N)(Mine:Loc->Prop)(stop:Goroutine->World->Prop):letI:=shyW (N+6) (N+1) stop;∀c,c≠0->Fix (N+6) (N+1) (N+7) Mine (pZ N) (ShR Sh N) c:=by
 intro c hc
 letI:=shyW (N+6) (N+1) stop
 exact⟨bl,bl,bl,cD _,hc,Df h,λl d=> .inr d,λi s=>by obtain⟨a,e,b⟩:=s;cases e;simp only at b;omega,Ia Mine stop⟩
end
section
variable [Payload](P:Program)
def RunZ (N:Nat)(s:List Nat)(Next:Goroutine->World->Prop)(g:Goroutine)(w:World):Prop:=
 letI:=shyW (N+6) (N+1) Next
 Li (K9 s) N/\ ∃(vals:List Value) (AnchW:Goroutine->World->Prop) (Post:Value->World->Prop) (PostB:World->Prop) (zE zD:Value),
  (∀w w₁,RB (pZ N) (N+2) (N+4) w w₁->PostB w->PostB w₁)/\(∀w w₁,Aside2 (N+1) (N+6) w w₁->PostB w->PostB w₁)/\(∀w,PostB w->N+7<=w.heap.size)/\
  (∀g w,AnchW g w->g.status= .running)/\(∀g w,AnchW g w-> ∃m,Goes P true (RPa 87 (N+6) (N+1) vals) (DPi K3 (N+6) (N+1) (N+7)) (AtW1 P 87 (N+6) (N+1) (N+7) vals K3 AnchW Post) m g w)/\
  AtMkS P .disable (λa w=> ∃n,Goes P true AtRel (DE (EvS (N+6) (N+1))) (AtMkS P .enable λa w=> ∃n,Goes P true AtRel (DE (EvS (N+6) (N+1))) (Nk P (K9 s) (Both P 87 (N+6) (N+1) (N+7) vals K3 AnchW (pZ N) (ShR (K9 s) N) (N+2) (N+4) zE zD PostB)) n a w) n a w) g w
def Mp (Post:Value->World->Prop):Nat->List Nat->Goroutine->World->Prop
 |0,s=>Of P (K9 s) Post
 |n+1,s=>λg w=> ∃N,RunZ P N s (λg' w'=> ∃m,Goes P true AtRel (D0 (K9 (N::s))) (Mp Post n (N::s)) m g' w') g w
def FZ (Post:Value->World->Prop):Kn (Nat×List Nat):=⟨λ_=>AtRel,λs=>D0 (K9 s.2),λs=>Mp P Post s.1 s.2,λs=>ll _⟩
end
section
variable [Payload]{P:Program}
theorem xe {s:List Nat}{Next:Nat->Goroutine->World->Prop}{gs:Array Goroutine}{a:Goroutine}{w:World}{sl:Option (Nat×Nat)}{t:Trace}{q:Nat->Nat}{m:Nat}
 (h0:gs[0]? =some a) (hL:Leavers P t gs q) (hP:KN (K9 s) t) (hG:Goes P true AtRel (D0 (K9 s)) (λg w=> ∃N,RunZ P N s (Next N) g w) m a w):
 ∃(N:Nat) (k:Nat) (i:Array Goroutine) (Z:Goroutine) (w':World) (T:Option (Nat×Nat)) (t':Trace) (q':Nat->Nat),
  runNT P k (crowd gs w sl) t=(.next (crowd i w' T),t')/\i[0]? =some Z/\Leavers P t' i q'/\KN (K9 (N::s)) t'/\ ∃d,Next N Z (w'.at d):=by
 obtain⟨k1,b',a1,w1,e',t1,q1,d,u,r1,W,H,y,F,⟨N,j,U,S,f,R,zE,zD,x1,x2,x3,x4,x5,⟨_,g',hgo,n2,D⟩⟩,n⟩:=pV (λg w h=>by obtain⟨_,_,_,_,_,_,_,_,_,_,_,_,_,h⟩:=h;exact h.1) (λ_ _ _ h=>h) _ m gs a w sl t q rfl h0 hL hP hG
 letI:=shyW (N+6) (N+1) (Next N)
 obtain⟨d',t2,r2,X,O,A,B⟩:=u4 (.inl rfl) H y F hgo n;obtain⟨k3,c',a3,w3,x,t3,q3,r3,Y,G,L,o,n3,K⟩:=H9 (sl:=u) (.inr rfl) (Ea j (Next N)) O A B D;have r:KN (K9 s) t3:=by
  have e:deafBehind (deafBehind 0 #[mk .disable]) #[mk .enable]=0:=by rfl
  rw[e] at o;exact o
 obtain⟨k4,I,a4,w4,z,t4,q4,r4,V,M,_,hS,Q,J⟩:=D7 (Wg:=N+6) (C:=N+1) (Low:=N+7) (Mine:=K3) (p:=pZ N) (Sh':=ShR (K9 s) N) (E:=N+2) (Dn:=N+4) (sl:=x) (Post:=f)
  (λl h=> .inl h) (Ie j K3 (Next N)) bl bl bl (show N+4<N+7 by omega) (λl hl e=>by
   subst e;rcases hl with s'|⟨a,e,_⟩
   ·obtain⟨b,h1,h2⟩:=j _ s';simp only[blk,Option.some.injEq] at h1;omega
   ·cases e) (Ic j K3 (Next N)) (Ib j K3 (Next N)) x1 x2 x3 x4 x5 (Ea j (Next N)) G L r K
 refine⟨N,k1+(1+(k3+k4)),I,a4,w4,z,t4,q4, ?_,M,Q,J,hS⟩;rw[runNT_add,r1];simp only[];rw[runNT_add,r2];simp only[];rw[runNT_add,r3];exact r4
theorem m7 {Post:Value->World->Prop}: ∀(n:Nat)(s:List Nat)(gs:Array Goroutine)(a:Goroutine)(w:World)(sl:Option (Nat×Nat))(t:Trace)(q:Nat->Nat)(m:Nat),
 gs[0]? =some a->Leavers P t gs q->KN (K9 s) t->Goes P true AtRel (D0 (K9 s)) (Mp P Post n s) m a w->
 ∃k last o w' t',runNT P (k+1) (crowd gs w sl) t=(.ended o w',t')/\runN P k (crowd gs w sl)= .next last/\step P last= .ended o w'/\Good P Post last o w' t'
 |0,s,gs,a,w,sl,t,q,m,h0,hL,hP,hG=>Ga (λ_ _ _ h=>h) h0 hL hP hG
 |n+1,s,gs,a,w,sl,t,q,m,h0,hL,hP,hG=>by
  obtain⟨N,k1,i,B,w1,b,t1,z,l,j,f,e,d,p,g⟩:=xe (sl:=sl) h0 hL hP hG;obtain⟨A,last,o,w',t',u,x,y,r⟩:=m7 n (N::s) i B w1 b t1 z p j f e (Goes.rely atRel_trans g ⟨w1.drawn,rfl⟩);refine⟨k1+A,last,o,w',t', ?_, ?_,y,r⟩
  ·rw[Nat.add_assoc,runNT_add,l];exact u
  ·rw[<-runNT_fst P _ _ t,runNT_add,l];simp only[];rw[runNT_fst];exact x
end
def NZ (N K:Nat)(ticks:Int)(st:Int):List Obj:=
 [.cells #[.pointer (some ⟨K,0,none⟩)] 35, .cells #[.int .i64 ticks] 3, .chan 0 #[] false 0 0 false, .cells #[.chan (some (N+2))] 76, .chan 0 #[] false 0 0 false, .cells #[.chan (some (N+4))] 77, .cells #[.int .u64 st, .int .u32 0] 87]
end Go.Hx
namespace Go.Hx
open Go.Conc
theorem ln {f:Type}{F:Kn f}{P:Program}{d:Bool}{fn:FuncId}{Q:f->Exit->Act->World->Prop}{s:f}{a:Act}{w:World}{c:Code}{n m:Nat}{b:Frame}{k:List Item}{cs:List Frame}(h:MG F P d fn c n s Q a w)(hb:b.fn=fn)(i:b.kind≠ .early)
 (hc: ∀s' e g w',Q s' e g w'->After P d (F.R s') (F.D s') (F.Stop s') m b k cs e g w'):Goes P d (F.R s) (F.D s) (F.Stop s) (m+n) (G (b.at a (.code c::k)) cs) w:=h b k cs m hb i hc
end Go.Hx
namespace Go.Hx
open Go.Conc Go.RowKit
section
variable (P:Program)(p:KC)(Sh:Loc->Prop)(E Dn:Nat)(PostB:World->Prop)(Aft:Goroutine->World->Prop)
def M9:Kn (List Value):=⟨λ_=>RB p E Dn,λ_=>DT p Sh E Dn,Mb P p Sh E Dn PostB Aft,λ_=>eL p Sh E Dn⟩
end
section
variable {P:Program}{p:KC}{Sh:Loc->Prop}{E Dn:Nat}{PostB:World->Prop}{Aft:Goroutine->World->Prop}{fn:FuncId}{Q:List Value->Exit->Act->World->Prop}{a:Act}{w:World}
theorem u5 {ops:Array Oper}{i:Nat}{rest:List Nat}{o:Oper}{n:Nat}{v z':Value}{vs:List Value}(ho:ops[i]? =some o)(hw:Region.wanted o (yielded ops a.tmps)=true)
 (s: ∀d,RB p E Dn w d->(execOp a.eval o).run P d= .ok (.comm #[scase E v z'] true .send) d/\ ∀e∈listed P fn a o d,EvB p Sh d e)
 (j: ∀f,RB p E Dn w f->Lp (M9 P p Sh E Dn PostB Aft) P false fn ops rest n vs Q (a.put o.dst undef) f):
 Lp (M9 P p Sh E Dn PostB Aft) P false fn ops (i::rest) 0 (v::vs) Q a w:=by
 intro b k cs m hb x hc;refine Goes.stop λd g=> ?_;obtain⟨y,u⟩:=s d g;refine(show Nh P p Sh E Dn v (λr f=>LS P p Sh E Dn PostB Aft vs (Conc.served r undef) f) _ d from⟨rfl,_,z',stepG_comm ho hw x y,by rw[hb];exact u,λf l=> ?_⟩);show LS P p Sh E Dn PostB Aft vs (Conc.served (core (G (b.at a (.inRegion ops (i::rest)::k)) cs)) undef) f;rw[core_G,served_G,ho];exact(fq _ _ _ _ _ _ _ _ _ _).2 ⟨_,j f (RB.trans _ _ _ g l) b k cs m hb x hc⟩
end
end Go.Hx
namespace Go.Hx
open Go.Conc
section
variable {P:Program}{main:Bool}{R:World->World->Prop}{D:World->World->Array Event->Prop}{Stop:Goroutine->World->Prop}{b:Frame}{a:Act}{k:List Item}{cs:List Frame}{w:World}
theorem bN (T:Terms R D){g g':Goroutine}{n:Nat}(hr:g.status= .running)(hs: ∀w,stepG P main g w= .go g' w #[]) (h:Goes P main R D Stop n g' w):Goes P main R D Stop (n+1) g w:=
 Goes.step hr λa b=>by rw[hs a];exact⟨T.idle _,h.rely T.trans b⟩
def LH (ats:Array TypeId)(ty:TypeId)(c:Nat):Deferred:={target:= .builtin .close ats ty #[false],args:= #[.chan (some c)]}
theorem jU {ops:Array Oper}{i:Nat}{rest:List Nat}{o:Oper}{x:Tmp}{c:Nat}{d:Array TypeId}(ho:ops[i]? =some o)(hw:Region.wanted o (yielded ops a.tmps)=true)(l:b.kind≠ .early)
 (f:o.op= .defer {callee:= .builtin .close,args:= #[.tmp x],argTypes:=d}) (hx:a.eval (.tmp x)= .chan (some c)):
 stepG P main (G (b.at a (.inRegion ops (i::rest)::k)) cs) w= .go (G (b.at (Act.put ⟨a.tmps,LH d o.type c::a.defers⟩ o.dst undef) (.inRegion ops rest::k)) cs) w #[]:=by
 have j:(execOp a.eval o).run P w= .ok (.defer (LH d o.type c)) w:=by
  unfold execOp;simp[f,resolve,hx,LH]
 have he:(execOp a.eval o).events P w #[]= #[]:=by
  unfold execOp;simp[f,resolve]
 have e:(b.at ⟨a.tmps,LH d o.type c::a.defers⟩ (.inRegion ops (i::rest)::k)).finish undef=b.at (Act.put ⟨a.tmps,LH d o.type c::a.defers⟩ o.dst undef) (.inRegion ops rest::k):=by rw[Frame.finish_at,ho];rfl
 have g:(b.kind==CallKind.early)=false:=by simpa using l
 rw[stepG_oper ho hw,<-e];simp[stepG.apply,j,he,G,Frame.at,g,GStep.after,seen_none]
theorem iP {d:Array TypeId}{ty:TypeId}{j:List Deferred}{todo:List Item}{c g s r:Nat}{buf:Array Value}{tm:Bool}(hd:a.defers=LH d ty c::j)(h:w.heap[c]? =some (.chan g buf false s r tm))(hq:(P.funcs[b.fn]?).any (·.norace)=false):
 stepG P main (G {b.at a todo with mode:= .returning} cs) w= .go (G {b.at ⟨a.tmps,j⟩ todo with mode:= .returning} cs) (w.setChan c g buf true s r tm) (closeEvents c):=by
 have i:=run_close_open (P:=P) (w:=w) d ty h;have l:=events_close_open (P:=P) (w:=w) (es:= #[]) d ty h;have m:(invoke (.builtin .close d ty #[false]) #[.chan (some c)]).run P w= .ok (.value (.tuple #[])) (w.setChan c g buf true s r tm):=by
  simp[invoke,go_sem,i,World.setChan]
 have he:(invoke (.builtin .close d ty #[false]) #[.chan (some c)]).events P w #[]=closeEvents c:=by
  simp[invoke,go_sem,i,l,closeEvents]
 have k:seen P b.fn (closeEvents c)=closeEvents c:=by
  exact seen_eq hq (by intro e he f;simp only[closeEvents,OJ,gn,Lr,or_false] at he;rcases he with rfl|rfl<;>simp)
 simp[G,stepG,unwind,callDeferred,Frame.at,hd,LH,m,he,k,GStep.after]
end
end Go.Hx
namespace Go.Proofs.YtejkelcaljmnoaaGreatDoor
open Go.Conc Go.RowKit Go.Hx Go.ConcX Go.Conc.Lib Go.ConcX.Gen
noncomputable def MQ:Code:=match Tryz.f19.body with|some (.seq _ (.seq _ (.seq _ (.seq _ (.seq _ t)))))=>t|_=> .skip
noncomputable def Na:Code:=match MQ with| .seq _ t=>t|_=> .skip
noncomputable def N7:Code:=match Na with| .seq _ t=>t|_=> .skip
noncomputable def tl9:Code:=match N7 with| .seq _ t=>t|_=> .skip
noncomputable def N4:Code:=match tl9 with| .seq _ t=>t|_=> .skip
noncomputable def r8:Code:=match N7 with| .seq r _=>r|_=> .skip
theorem Eb:N7= .seq r8 tl9:=by simp only[r8,tl9,N7,Na,MQ,Tryz.f19]
noncomputable def LU:Array Oper:=match Na with| .seq (.region _ ops _) _=>ops|_=> #[]
noncomputable def Og:Array Oper:=match tl9 with| .seq (.region _ ops _) _=>ops|_=> #[]
def TR (N K:Nat)(ticks:Int)(t9 t18 t19 t20 t21 t22 t23:Value):Array Value:=
 #[.pointer (some ⟨K,0,none⟩), .int .i64 ticks, .pointer (some ⟨N,0,none⟩), .pointer (some ⟨N+1,0,none⟩), .slice none 0 0, .int .i64 0, .pointer (some ⟨N+3,0,none⟩), .pointer (some ⟨N+5,0,none⟩), .pointer (some ⟨N+6,0,none⟩),t9,
  .int .i64 ticks, .bool false, .bool false, .int .i64 ticks, .bool false, .bool false, .chan (some (N+2)), .chan (some (N+4)),t18,t19,t20,t21,t22,t23,undef]
def caps (N:Nat):Array Value:= #[.pointer (some ⟨N+6,0,none⟩), .pointer (some ⟨N+5,0,none⟩), .pointer (some ⟨N,0,none⟩), .pointer (some ⟨N+1,0,none⟩), .pointer (some ⟨N+3,0,none⟩)]
def fv (N:Nat):Value:= .func (.func 31) #[] (caps N)
def started (N:Nat):Deferred:={target:= .fn (.func 31) (caps N),args:= #[]}
noncomputable def fW (N K:Nat)(ticks:Int)(b:Frame)(k:List Item)(told:Value):Frame:=
 b.at ⟨TR N K ticks told (.tuple #[]) (fv N) (.chan (some (N+2))) (.chan (some (N+4))) told undef,[]⟩ (.inRegion Og (0::[]):: .code N4::k)
def FJ (N:Nat)(PostB:World->Prop)(ws:List Wd)(told:Value)(w:World):Prop:=PostB w/\Hx.Told (pZ N) told ws.length (ws.flatMap Wd.c) w
def NN (N K:Nat) [Shy (N+6) (N+1)](ticks:Int)(b:Frame)(k:List Item)(cs:List Frame)(PostB:World->Prop)(ws:List Wd)(g:Goroutine)(w:World):Prop:=
 ∃told,AnchW7 Tryz.link (FJ N PostB ws told) (N+6) (N+1) [.int .i64 ticks] (fW N K ticks b k told) cs g w
structure BI (N:Nat)(w:World):Prop where
 e:w.heap[N+3]? =some (.cells #[.chan (some (N+2))] 76 (0,0))
 d:w.heap[N+5]? =some (.cells #[.chan (some (N+4))] 77 (0,0))
 z:N+7<=w.heap.size
theorem BI.rely {N:Nat}{w a:World}(h:BI N w)(r:RA (pZ N) w a):BI N a:=
 ⟨r.still _ _ _ _ ⟨0,_,rfl, .inl rfl⟩ h.e,r.still _ _ _ _ ⟨0,_,rfl, .inr rfl⟩ h.d,l6 h.z r.kept.size⟩
theorem BI.ce {N:Nat}{w:World}(h:BI N w):w.cell? ⟨N+3,0,none⟩=some (.chan (some (N+2))):=by simp[World.cell?,h.e]
theorem BI.cd {N:Nat}{w:World}(h:BI N w):w.cell? ⟨N+5,0,none⟩=some (.chan (some (N+4))):=by simp[World.cell?,h.d]
theorem m8 {p:KC}{w:World}{ad:Addr}(h:p.Still (.cell ad)):EvA p w ⟨.cell ad,false,false⟩:=
 ⟨λx a _=> .inr (by simp[MemAct.ofEvent,MemAct.touch?] at a;subst a;exact⟨h,rfl⟩),bE,bE⟩
section
variable {N K:Nat} [Shy (N+6) (N+1)]{ticks:Int}{b:Frame}{k:List Item}{cs:List Frame}{PostB:World->Prop}{ws:List Wd}
theorem fj2 (b: ∀w a,Aside2 (N+1) (N+6) w a->PostB w->PostB a) (told:Value): ∀w w',Aside2 (N+1) (N+6) w w'->FJ N PostB ws told w->FJ N PostB ws told w':=λ_ _ d e=>
 ⟨b _ _ d e.1,Told.aside e.2 (show N+1<N+7 by omega) (show N+6<N+7 by omega) d⟩
theorem xf (o:b.kind≠ .early)(e: ∀w a,Aside2 (N+1) (N+6) w a->PostB w->PostB a) (told:Value) (w:World) (hF:EI (N+6) (N+1) [.int .i64 ticks] PostB (pZ N) told ws.length (ws.flatMap Wd.c) w):
 Goes Tryz.prog true (RPa 87 (N+6) (N+1) [.int .i64 ticks]) (DPi K3 (N+6) (N+1) (N+7)) (AtKd Tryz.prog 87 (N+6) (N+1) (N+7) [.int .i64 ticks] K3 (NN N K ticks b k cs PostB ws)) 6
  (G (b.at ⟨TR N K ticks told (.tuple #[]) (fv N) (.chan (some (N+2))) (.chan (some (N+4))) told undef,[]⟩ (.code tl9::k)) cs) w:=by
 have T:=fP 87 (N+6) (N+1) (N+7) [.int .i64 ticks] K3;have f:= @waitStart _ Tryz.link K3 (N+6) (N+1) (N+7) _ [.int .i64 ticks] (FJ N PostB ws told) b ⟨TR N K ticks told (.tuple #[]) (fv N) (.chan (some (N+2))) (.chan (some (N+4))) told undef,[]⟩ Og 0 [] (.code N4::k) cs Tryz.prog Tryz.J0 (fj2 e told);simp only[Og,N4,tl9,N7,Na,MQ,Tryz.f19,body_wait,waitFn,OZ] at f⊢;refine bN T rfl (λ_=>stepG_seq) ?_;refine bN T rfl (λ_=>stepG_region) ?_;simp only[l7,gf,km,Nat.reduceAdd,ic,List.range,List.range.loop];refine Goes.step rfl λa d=> ?_;replace hF:=EI.rely (show N+1<N+7 by omega) (show N+6<N+7 by omega) e hF d;refine goes_call rfl rfl o rfl Tryz.func35 (nm_wait Tryz.link) rfl ⟨T.idle _, ?_⟩;simp only[TR] at f⊢
 walk_nrmf Tryz.f35
 refine dQ (λ_ _ _ h=>h) (λg w h=> ?_) _ _ _ (f a ⟨⟨hF.1,hF.2.2⟩,hF.2.1⟩);obtain⟨i,j,l,m,n⟩:=h;exact⟨i,j,l,m,dQ (λ_ _ _ h=>h) (λg w h=>⟨told,h⟩) _ _ _ n⟩
theorem va {P:Program}{ty:TypeId}{Wg C Low:Nat} [Shy Wg C]{vals:List Value}{Mine:Loc->Prop}{A b:Goroutine->World->Prop}{Post:Value->World->Prop}(u: ∀g w,A g w->b g w) (g:Goroutine) (w:World) (h:AtW1 P ty Wg C Low vals Mine A Post g w):AtW1 P ty Wg C Low vals Mine b Post g w:=by
 obtain⟨o,i,j,e,r⟩:=h;refine⟨o,i,j,λhw=> ?_,r⟩;obtain⟨m,hm⟩:=e hw;refine⟨m,dQ (λ_ _ _ h=>h) (λg w h=> ?_) _ _ _ hm⟩;obtain⟨f,d,l⟩:=h;refine⟨f,d,λk=> ?_⟩;obtain⟨a,n,p,s⟩:=l k;exact⟨a,n,p,dQ (λ_ _ _ h=>h) u _ _ _ s⟩
end
theorem xg {N K:Nat}{ticks:Int}{b:Frame}{k:List Item}{cs:List Frame}{PostB:World->Prop}{ws:List Wd}{Next:Goroutine->World->Prop}(i: ∀w e,Aside2 (N+1) (N+6) w e->PostB w->PostB e)
 (hc: ∀told w',FJ N PostB ws told w'->Next (G (b.at ⟨TR N K ticks told (.tuple #[]) (fv N) (.chan (some (N+2))) (.chan (some (N+4))) told (.tuple #[]),[]⟩ (.inRegion Og []:: .code N4::k)) cs) w'):
 letI:=shyW (N+6) (N+1) Next;∀(a:Value->World->Prop) g w,NN N K ticks b k cs PostB ws g w-> ∃m,Goes Tryz.prog true (RPa 87 (N+6) (N+1) [.int .i64 ticks]) (DPi K3 (N+6) (N+1) (N+7)) (AtW1 Tryz.prog 87 (N+6) (N+1) (N+7) [.int .i64 ticks] K3 (NN N K ticks b k cs PostB ws) a) m g w:=by
 intro a g w h
 letI:=shyW (N+6) (N+1) Next
 obtain⟨told,h⟩:=h;obtain⟨m,hm⟩:=waitRound (Mine:=K3) (Low:=N+7) (Post:=a) (mT:=0) Tryz.J0 bl (fj2 (ws:=ws) i told) (λw j _ _=>Goes.stop λe f=>⟨rfl,by
  obtain⟨d,rfl⟩:=f;have:=hc told (w.at d) (fj2 (ws:=ws) i told w _ ⟨rfl,rfl,rfl,rfl,λ_ _ _=>rfl⟩ j);exact this⟩) g w h
 exact⟨m,dQ (λ_ _ _ h=>h) (va λg w h=>⟨told,h⟩) _ _ _ hm⟩
section
variable {N K:Nat} [Shy (N+6) (N+1)]{ticks:Int}{b:Frame}{k:List Item}{cs:List Frame}{PostB:World->Prop}{ws:List Wd}
theorem qa (hb:b.fn=19)(u:b.kind≠ .early)(g: ∀w f,Aside2 (N+1) (N+6) w f->PostB w->PostB f) (o:ws.length<10000) (w:World) (hF:BI N w):
 Lf Tryz.prog (pZ N) (N+2) (N+4) LM LC PostB (Nj Tryz.prog 87 (N+6) (N+1) (N+7) [.int .i64 ticks] K3 (NN N K ticks b k cs PostB ws)) (ws.map Wd.v)
  (G (b.at ⟨TR N K ticks undef (.tuple #[]) (fv N) undef undef undef undef,[]⟩ (.inRegion LU []:: .code N7::k)) cs) w:=by
 rw[cV];obtain⟨y,l⟩:=xc (p:=pZ N) (E:=N+2) (Dn:=N+4) (Wg:=N+6) (C:=N+1) (Low:=N+7) (vals:=[.int .i64 ticks]) (Mine:=K3) (AnchW:=NN N K ticks b k cs PostB ws) (PostB:=PostB) rfl (show N+2<N+7 by omega) (show N+4<N+7 by omega) (show N+1<N+7 by omega) (show N+6<N+7 by omega) g ws o;rw[Eb];co_apply Exists.intro;co_apply bN (dv (pZ N) (N+2) (N+4)) rfl (λ_=>stepG_region_end);co_apply bN (dv (pZ N) (N+2) (N+4)) rfl (λ_=>stepG_seq)
 co_apply ln (F:=gF Tryz.prog 87 (N+6) (N+1) (N+7) [.int .i64 ticks] K3 (NN N K ticks b k cs PostB ws) (pZ N) (N+2) (N+4) LM LC PostB) (s:=some (ws.map Wd.v)) (m:=6)
  (Q:=λn e r i=>e= .normal/\n=none/\ ∃told,r=⟨TR N K ticks told (.tuple #[]) (fv N) (.chan (some (N+2))) (.chan (some (N+4))) told undef,[]⟩/\EI (N+6) (N+1) [.int .i64 ticks] PostB (pZ N) told ws.length (ws.flatMap Wd.c) i) (b:=b) (k:= .code tl9::k) (cs:=cs) (fn:=19) ?_ hb u ?_
 ·simp only[TR,r8,N7,Na,MQ,Tryz.f19];co_apply bt;simp only[l7,gf,km,Nat.reduceAdd,ic,List.range,List.range.loop];co_apply aD rfl (by rfl);intro _ a K d;replace hF:=(BI.rely) hF a;clear a;have hc:=hF.ce;go_simp
  try (unfold stored;go_simp)
  refine d _ _ ⟨?_, ?_⟩
  ·(refine kM ?_;co_evs (exact m8 ⟨_,rfl, .inl rfl⟩))
  clear d K
  try walk_nrm
  clear hc;co_apply aD rfl (by rfl);intro _ a K d;replace hF:=(BI.rely) hF a;clear a;have hc:=hF.cd;go_simp
  try (unfold stored;go_simp)
  refine d _ _ ⟨?_, ?_⟩
  ·(refine kM ?_;co_evs (exact m8 ⟨_,rfl, .inr rfl⟩))
  clear d K
  try walk_nrm
  clear hc;co_apply gP rfl (by rfl) rfl
  ·walk_nrm
   exact l _ hF.z
  intro n v i x;obtain⟨rfl,j⟩:=x;clear hF;have hF:=j;clear j
  walk_nrm
  co_apply aD rfl (by rfl);intro _ a K d;replace hF:=(EI.rely (show N+1<N+7 by omega) (show N+6<N+7 by omega) g) hF a;clear a
  skip
  go_simp
  try (unfold stored;go_simp)
  refine d _ _ ⟨?_, ?_⟩
  ·co_still (fP 87 (N+6) (N+1) (N+7) [.int .i64 ticks] K3)
  clear d K
  try walk_nrm
  co_apply bG;exact⟨rfl,rfl,_,rfl,hF⟩
 ·rintro n e r i ⟨rfl,rfl,told,rfl,j⟩;exact xf u g told i j
end
theorem qd (P:Program)(fn:Fn)(first cap:Array Value)(w:World)(es:Array Event):(Instr.makeFunc fn first cap).events P w es=es:=rfl
abbrev Oh (Fin:Value->World->Prop)(nn N:Nat)(s:List Nat):Goroutine->World->Prop:=λg' w'=> ∃m,Goes Tryz.prog true AtRel (D0 (K9 (N::s))) (Mp Tryz.prog Fin nn (N::s)) m g' w'
noncomputable def MR:Array Oper:=match MQ with| .seq (.region _ ops _) _=>ops|_=> #[]
theorem xh {Fin:Value->World->Prop}{A:Nat}{s:List Nat}{W:World}{K:Nat}{ticks:Int}{b:Frame}{k:List Item}{cs:List Frame}{PostB:World->Prop}{ws:List Wd}(hb:b.fn=19)(C:b.kind≠ .early)(hE:Li (K9 s) W.heap.size)(L:ws.length<10000)
 (M: ∀w j,RB (pZ W.heap.size) (W.heap.size+2) (W.heap.size+4) w j->PostB w->PostB j) (u: ∀w j,Aside2 (W.heap.size+1) (W.heap.size+6) w j->PostB w->PostB j) (N: ∀w,PostB w->W.heap.size+7<=w.heap.size)
 (S: ∀[Shy (W.heap.size+6) (W.heap.size+1)](w':World),New W (NZ W.heap.size K ticks KK) w'->LS Tryz.prog (pZ W.heap.size) (ShR (K9 s) W.heap.size) (W.heap.size+2) (W.heap.size+4) PostB (Lt Tryz.prog 87 (W.heap.size+6) (W.heap.size+1) (W.heap.size+7) [.int .i64 ticks] K3) (ws.map Wd.v) (born Tryz.prog (started W.heap.size)) w')
 (hc: ∀told w',FJ W.heap.size PostB ws told w'-> ∃m,Goes Tryz.prog true AtRel (D0 (K9 (W.heap.size::s))) (Mp Tryz.prog Fin A (W.heap.size::s)) m (G (b.at ⟨TR W.heap.size K ticks told (.tuple #[]) (fv W.heap.size) (.chan (some (W.heap.size+2))) (.chan (some (W.heap.size+4))) told (.tuple #[]),[]⟩ (.inRegion Og []:: .code N4::k)) cs) w')
 (w:World) (hn:New W (NZ W.heap.size K ticks 0) w):
 Goes Tryz.prog true AtRel (D0 (K9 s)) (Mp Tryz.prog Fin (A+1) s) 15 (G (b.at ⟨TR W.heap.size K ticks undef undef undef undef undef undef undef,[]⟩ (.code MQ::k)) cs) w:=by
 letI:=shyW (W.heap.size+6) (W.heap.size+1) (Oh Fin A W.heap.size s)
 have T:=ll (K9 s);have E:Terms AtRel (DE (EvS (W.heap.size+6) (W.heap.size+1))):=⟨atRel_trans,λw e he=>by simp at he⟩;have D:=xg (K:=K) (ticks:=ticks) (b:=b) (k:=k) (cs:=cs) (ws:=ws) (Next:=Oh Fin A W.heap.size s) u hc;have J: ∃i6,MQ= .seq (.region i6 MR false) Na:=⟨_,by simp only[MR,Na,MQ,Tryz.f19];rfl⟩;obtain⟨i6,J⟩:=J;have B:=λ(w:World) (hw) (Q) (F)=> @addPos Tryz.link (W.heap.size+6) (W.heap.size+1) _ b ⟨TR W.heap.size K ticks undef undef undef undef undef undef undef,[]⟩ MR 0 [] (.code Na::k) cs (Nk Tryz.prog (K9 s) (Both Tryz.prog 87 (W.heap.size+6) (W.heap.size+1) (W.heap.size+7) [.int .i64 ticks] K3 (NN W.heap.size K ticks b k cs PostB ws) (pZ W.heap.size) (ShR (K9 s) W.heap.size) (W.heap.size+2) (W.heap.size+4) LM LC PostB)) Q Tryz.prog Tryz.J0 w hw F;rw[J];refine bN T rfl (λ_=>stepG_seq) ?_;refine bN T rfl (λ_=>stepG_region) ?_;rw[show List.range MR.size=[0] from by simp only[MR,MQ,Tryz.f19];rfl];refine Goes.step rfl λj z=> ?_;replace hn:=hn.rely z;have H:WgAt 87 (W.heap.size+6) j 0 0:=hn.get (i:=6) rfl;have l:New W (NZ W.heap.size K ticks KK) (j.setCell (stA (W.heap.size+6)) (.int .u64 KK)):=hn.set (i:=6) rfl 0 (.int .u64 KK);refine goes_call (o:=(MR[0]?).getD default) (by simp only[MR,MQ,Tryz.f19];rfl) (by simp only[MR,MQ,Tryz.f19];rfl) C (by simp only[MR,MQ,Tryz.f19];rfl) Tryz.func30 (nm_add Tryz.link) rfl ⟨T.idle _, ?_⟩;have B:=B j H 4 ?_
 ·refine dQ (Ea hE (Oh Fin A W.heap.size s)) (λg w h=>⟨W.heap.size,hE,[.int .i64 ticks],_,Fin,PostB,LM,LC,M,u,N,(λg w h=>by obtain⟨_,_,R,_⟩:=h;rw[R];rfl),D Fin,h⟩) _ _ _ ?_;simp only[TR,body_add,addFn,OZ] at B⊢
  walk_nrmf Tryz.f30
  exact B
 ·have I: ∃i7,Na= .seq (.region i7 LU false) N7:=⟨_,by simp only[LU,N7,Na,MQ,Tryz.f19];rfl⟩;obtain⟨i7,I⟩:=I;rw[show (⟨TR W.heap.size K ticks undef undef undef undef undef undef undef,[]⟩:Act).put ((MR[0]?).bind (·.dst)) (.tuple #[])=⟨TR W.heap.size K ticks undef (.tuple #[]) undef undef undef undef undef,[]⟩ from by simp only[MR,MQ,Tryz.f19];rfl];refine bN E rfl (λ_=>stepG_region_end) ?_;rw[I];refine bN E rfl (λ_=>stepG_seq) ?_;refine bN E rfl (λ_=>stepG_region) ?_;rw[show List.range LU.size=[0,1] from by simp only[LU,Na,MQ,Tryz.f19];rfl];refine Goes.step rfl λx p=> ?_;replace l:=l.rely p;clear p;refine goes_oper_k (o:=(LU[0]?).getD default) (by simp only[LU,Na,MQ,Tryz.f19];rfl) (by simp only[LU,Na,MQ,Tryz.f19];rfl) C (λU O=> ?_);have y:=O ⟨TR W.heap.size K ticks undef (.tuple #[]) (fv W.heap.size) undef undef undef undef,[]⟩ x ⟨?_, ?_⟩
  ·simp only[LU,Na,MQ,Tryz.f19];simp only[TR] at y⊢;go_simp;exact y
  ·intro e he;have hm:=mem_listed he;simp[LU,Na,MQ,Tryz.f19,go_sem,qd] at hm
  ·refine Goes.stop λn r=> ?_;replace l:=l.rely r;clear r;refine⟨rfl,G (b.at ⟨TR W.heap.size K ticks undef (.tuple #[]) (fv W.heap.size) undef undef undef undef,[]⟩ (.inRegion LU []:: .code N7::k)) cs,born Tryz.prog (started W.heap.size), #[], ?_,bE,ws.map Wd.v,l.get (i:=2) rfl,l.get (i:=4) rfl,qa hb C u L n ⟨l.get (i:=3) rfl,l.get (i:=5) rfl,by rw[l.size];exact cD _⟩,S n l⟩
   have h:=stepG_spawn (P:=Tryz.prog) (main:=true) (b:=b) (a:=⟨TR W.heap.size K ticks undef (.tuple #[]) (fv W.heap.size) undef undef undef undef,[]⟩) (k:= .code N7::k) (cs:=cs) (ops:=LU) (i:=1) (rest:=[]) (o:=(LU[1]?).getD default) (d:=started W.heap.size) (w:=n) (w':=n) (f:= .func 31) (c:=caps W.heap.size)
    (by simp only[LU,Na,MQ,Tryz.f19];rfl) (by simp only[LU,Na,MQ,Tryz.f19];rfl) C (by simp[LU,Na,MQ,Tryz.f19,go_sem,TR,fv,started,Deferred.ofValue]) rfl
   rw[h];simp[listed,LU,Na,MQ,Tryz.f19,go_sem,seen,Deferred.ofValue,TR,fv];rfl
end Go.Proofs.YtejkelcaljmnoaaGreatDoor
namespace Go.Lo
open Go.Conc Go.Hx
abbrev Ka:=List (Nat×Bool×Obj)
def cellOf:Obj->Addr->Option Value
 | .cells c _ _,a=>if a.spot.isSome then none else c[a.off]?
 |_,_=>none
def shapeOf:Obj->Option (TypeId×Nat)
 | .cells c e _=>some (e,c.size)
 |_=>none
def Lu:Obj->Addr->Bool
 | .cells _ _ (lo,hi),a=>lo<=a.off&&a.off<hi
 |_,_=>false
def Lb:Obj->Bool
 | .cells .. =>false
 | .chan .. =>false
 |_=>true
def Km:Value->Bool
 | .agg _=>false
 | .tuple _=>false
 |_=>true
def fits:Obj->Obj->Bool
 | .cells _ t _, .cells _ t' _=>t==t'
 |o,o'=>Lb o&&Lb o'
def MS:Mark->Bool
 | .noRoom=>true
 | .extern _=>true
 |_=>false
def NV (fr:Nat×Nat)(a:Addr)(m:Nat):Nat×Nat:=if m=0 then fr else if fr.1==fr.2 then(a.off,a.off+m) else(min fr.1 a.off,max fr.2 (a.off+m))
def KI {α:Type}(P:Program)(New:Obj->Prop):Sem α->(α->Ka->Prop)->Ka->Prop
 | .pure a,Q,L=>Q a L
 | .load m a k,Q,L=>m= .plain/\ ∃fl o v,(a.block,fl,o)∈L/\cellOf o a=some v/\KI P New (k v) Q L
 | .store m a v k,Q,L=>m= .plain/\Km v=true/\a.spot=none/\ ∃n cs ty fr,L[n]? =some (a.block,true, .cells cs ty fr)/\a.off<cs.size/\Lu (.cells cs ty fr) a=false/\KI P New k Q (L.set n (a.block,true, .cells (cs.setIfInBounds a.off v) ty fr))
 | .new o k,Q,L=>New o/\ ∀b,(∀t∈L,t.1≠b)->KI P New (k b) Q ((b,true,o)::L)
 | .shape r k,Q,L=> ∃fl o,(r,fl,o)∈L/\KI P New (k (shapeOf o)) Q L
 | .freeze a m k,Q,L=> ∃n cs ty fr,L[n]? =some (a.block,true, .cells cs ty fr)/\KI P New k Q (L.set n (a.block,true, .cells cs ty (NV fr a m)))
 | .frozen a k,Q,L=> ∃fl o,(a.block,fl,o)∈L/\KI P New (k (Lu o a)) Q L
 | .getObj r k,Q,L=> ∃fl o,(r,fl,o)∈L/\Lb o=true/\KI P New (k o) Q L
 | .setObj r o k,Q,L=>Lb o=true/\ ∃n o',L[n]? =some (r,true,o')/\Lb o'=true/\KI P New k Q (L.set n (r,true,o))
 | .choose q k,Q,L=>(q.forced=true->KI P New (k 0) Q L)/\(q.forced=false-> ∀t,KI P New (k (q.cut t)) Q L)
 | .sys _ _,_,_=>False
 | .program k,Q,L=>KI P New (k P) Q L
 | .mark m k,Q,L=>MS m=true/\KI P New k Q L
 | .halt _,_,_=>False
section
variable {α β:Type}{P:Program}{New:Obj->Prop}
theorem bS {Q p:α->Ka->Prop}(h: ∀a L,Q a L->p a L): ∀(s:Sem α)(L:Ka),KI P New s Q L->KI P New s p L:=by
 intro s
 induction s with
 |pure a=>exactλL x=>h _ _ x
 |load m a k ih=>rintro L ⟨f,i,o,v,d,g,l⟩;exact⟨f,i,o,v,d,g,ih _ _ l⟩
 |store m a v k ih=>rintro L ⟨f,d,g,n,cs,ty,j,l,y,u,z⟩;exact⟨f,d,g,n,cs,ty,j,l,y,u,ih _ z⟩
 |new o k ih=>rintro L ⟨f,d⟩;exact⟨f,λb hb=>ih _ _ (d b hb)⟩
 |shape r k ih=>rintro L ⟨i,o,f,d⟩;exact⟨i,o,f,ih _ _ d⟩
 |freeze a m k ih=>rintro L ⟨n,cs,ty,j,f,d⟩;exact⟨n,cs,ty,j,f,ih _ d⟩
 |frozen a k ih=>rintro L ⟨i,o,f,d⟩;exact⟨i,o,f,ih _ _ d⟩
 |getObj r k ih=>rintro L ⟨i,o,f,d,g⟩;exact⟨i,o,f,d,ih _ _ g⟩
 |setObj r o k ih=>rintro L ⟨h0,n,o',f,d,g⟩;exact⟨h0,n,o',f,d,ih _ g⟩
 |choose q k ih=>rintro L ⟨f,d⟩;exact⟨λe=>ih _ _ (f e),λe t=>ih _ _ (d e t)⟩
 |sys c k ih=>exactλL x=>x
 |program k ih=>exactλL x=>ih _ _ x
 |mark m k ih=>rintro L ⟨f,d⟩;exact⟨f,ih _ d⟩
 |halt x=>exactλL x=>x
theorem vb (f:α->Sem β)(Q:β->Ka->Prop): ∀(s:Sem α)(L:Ka),KI P New (s.bind f) Q L=KI P New s (λa L'=>KI P New (f a) Q L') L:=by
 intro s
 induction s with
 |pure a=>exactλL=>rfl
 |load m a k ih=>intro L;simp only[Sem.bind,KI,ih]
 |store m a v k ih=>intro L;simp only[Sem.bind,KI,ih]
 |new o k ih=>intro L;simp only[Sem.bind,KI,ih]
 |shape r k ih=>intro L;simp only[Sem.bind,KI,ih]
 |freeze a n k ih=>intro L;simp only[Sem.bind,KI,ih]
 |frozen a k ih=>intro L;simp only[Sem.bind,KI,ih]
 |getObj r k ih=>intro L;simp only[Sem.bind,KI,ih]
 |setObj r o k ih=>intro L;simp only[Sem.bind,KI,ih]
 |choose q k ih=>intro L;simp only[Sem.bind,KI,ih]
 |sys c k ih=>intro L;simp only[Sem.bind,KI]
 |program k ih=>intro L;simp only[Sem.bind,KI,ih]
 |mark m k ih=>intro L;simp only[Sem.bind,KI,ih]
 |halt x=>intro L;simp only[Sem.bind,KI]
theorem ak (s:Sem α)(f:α->Sem β)(Q:β->Ka->Prop)(L:Ka):KI P New (s>>=f) Q L=KI P New s (λa L'=>KI P New (f a) Q L') L:=vb f Q s L
theorem bg (a:α)(Q:α->Ka->Prop)(L:Ka):KI P New (Pure.pure a) Q L=Q a L:=rfl
theorem m9 (a:α)(Q:α->Ka->Prop)(L:Ka):KI P New (Sem.pure a) Q L=Q a L:=rfl
end
def upd (w:World)(b:Nat)(o:Obj):World:={w with heap:=w.heap.setIfInBounds b o}
def more (w:World)(o:Obj):World:={w with heap:=w.heap.push o}
def drew (w:World):World:={w with drawn:=w.drawn+1}
structure Ma (R:World->World->Prop)(D:World->World->Array Event->Prop) where
 New:Obj->Prop
 Own:Ka->World->Prop
 Gu:World->World->Prop
 Ev:World->Event->Prop
 gr: ∀w,Gu w w
 gt: ∀{a b c},Gu a b->Gu b c->Gu a c
 em: ∀{w w' e},Gu w w'->Ev w e->Ev w' e
 dd: ∀{w w' es},Gu w w'->(∀e∈es,Ev w' e)->D w w' es
 rely: ∀{L w w₁},Own L w->R w w₁->Own L w₁
 has: ∀{L w b fl o},Own L w->(b,fl,o)∈L->w.heap[b]? =some o
 evc: ∀{L w b fl o},Own L w->(b,fl,o)∈L-> ∀i,Ev w ⟨.cell ⟨b,i,none⟩,false,false⟩
 evo: ∀{L w b fl o},Own L w->(b,fl,o)∈L->Ev w ⟨.obj b,false,false⟩
 set: ∀{L w n b o o'},Own L w->L[n]? =some (b,true,o)->fits o o'=true->Own (L.set n (b,true,o')) (upd w b o')/\Gu w (upd w b o')/\(∀i,Ev (upd w b o') ⟨.cell ⟨b,i,none⟩,true,false⟩)/\Ev (upd w b o') ⟨.obj b,true,false⟩
 new: ∀{L w o},Own L w->New o->(∀t∈L,t.1≠w.heap.size)/\Own ((w.heap.size,true,o)::L) (more w o)/\Gu w (more w o)
 draw: ∀{L w},Own L w->Own L (drew w)/\Gu w (drew w)
 nor: ∀w m,MS m=true->Ev w ⟨.mark m,false,true⟩
 sub: ∀{L L' w},Own L w->(∀t∈L',t∈L)->(L'.map (·.1)).Nodup->Own L' w
 nd: ∀{L w},Own L w->(L.map (·.1)).Nodup
 ld:LetsDraw D
section
variable {R:World->World->Prop}{D:World->World->Array Event->Prop}{α:Type}{P:Program}
theorem se {w:World}{a:Addr}{cs:Array Value}{ty:TypeId}{fr:Nat×Nat}{m:Nat}(h:w.heap[a.block]? =some (.cells cs ty fr)):w.freeze a m=upd w a.block (.cells cs ty (NV fr a m)):=by
 obtain⟨f,he⟩:=ib.1 h;unfold World.freeze NV
 split
 ·have e:w.heap.setIfInBounds a.block (Obj.cells cs ty fr)=w.heap:=by
   apply Array.ext
   ·simp
   ·intro j b d;simp only[Array.getElem_setIfInBounds d]
    split
    ·subst_vars;simp[he]
    ·rfl
  unfold upd;rw[e]
 ·unfold upd;congr 1;apply Array.ext
  ·simp
  ·intro j b d;simp only[Array.getElem_modify,Array.getElem_setIfInBounds (by simpa using b)]
   split
   ·subst_vars;simp[he]
   ·rfl
theorem qf {w:World}{b:Nat}{cs:Array Value}{ty:TypeId}{fr:Nat×Nat}{i:Nat}{v:Value}(h:w.heap[b]? =some (.cells cs ty fr)):w.setCell ⟨b,i,none⟩ v=upd w b (.cells (cs.setIfInBounds i v) ty fr):=by
 obtain⟨a,he⟩:=ib.1 h;unfold World.setCell upd;congr 1;apply Array.ext
 ·simp
 ·intro j d e;simp only[Array.getElem_modify,Array.getElem_setIfInBounds (by simpa using d)]
  split
  ·subst_vars;simp[he]
  ·rfl
theorem oF {w:World}{a:Addr}{o:Obj}{v:Value}(h:w.heap[a.block]? =some o)(hv:cellOf o a=some v):w.cell? a=some v:=by
 unfold World.cell?;rw[h];cases o<;>simp_all [cellOf]
theorem sf {o o':Obj}(h:Lb o'=true)(k:Lb o=true):fits o' o=true:=by
 unfold fits
 split
 ·simp[Lb] at h
 ·simp[h,k]
theorem lp {o:Obj}(h:Lb o=true):o.isChan=false:=by cases o<;>first|rfl|cases h
theorem kh {r:Nat}{k:Obj->Sem α}{w:World}{es:Array Event}{o:Obj}(hb:w.heap[r]? =some o)(h:Lb o=true):(Sem.getObj r k).runT P w es=(k o).runT P w (es.push ⟨.obj r,false,false⟩):=by
 have hc:=lp h;simp only[Sem.runT,hb];cases o<;>first|rfl|cases h
theorem qg {r:Nat}{k:Sem α}{w:World}{es:Array Event}{o o':Obj}(hb:w.heap[r]? =some o')(a:Lb o'=true)(h:Lb o=true):(Sem.setObj r o k).runT P w es=k.runT P (upd w r o) (es.push ⟨.obj r,true,false⟩):=by
 have hc:=lp h;simp only[Sem.runT,hb,hc];cases o'<;>first|rfl|cases a
theorem sg {a:Addr}{v:Value}{k:Sem α}{w:World}{es:Array Event}{u:Value}(hc:w.cell? a=some u)(hz:w.frozen? a=false)(hp:Km v=true):(Sem.store Mode.plain a v k).runT P w es=k.runT P (w.setCell a v) (es.push ⟨.cell a,true,false⟩):=by
 cases v<;>first|(simp only[Sem.runT,hc,hz];rfl)|cases hp
theorem Gb (g:Ma R D): ∀(s:Sem α)(Q:α->Ka->Prop)(L:Ka)(w:World)(es:Array Event),g.Own L w->KI P g.New s Q L->
 ∃a w' d,s.runT P w es=(.ok a w',es++d)/\g.Gu w w'/\(∀e∈d,g.Ev w' e)/\ ∃L',g.Own L' w'/\Q a L':=by
 intro s
 induction s with
 |pure a=>exactλQ L w es f h=>⟨a,w, #[],by simp[Sem.runT,-Sem.runT_eq],g.gr w,bE,L,f,h⟩
 |load m a k ih=>
  rintro Q L w es f ⟨rfl,K,o,v,hm,T,h⟩;have hb:=g.has f hm;have hc:=oF hb T;have I:a.spot=none:=by cases o<;>simp_all [cellOf]
  obtain⟨x,w',d,p,j,he,l⟩:=ih v Q L w (es.push ⟨.cell a,false,false⟩) f h;refine⟨x,w', #[⟨.cell a,false,false⟩]++d,by simp only[Sem.runT,hc];rw[show ((Mode.plain==Mode.atomic)=false) from rfl,p];simp,j,λe y=> ?_,l⟩;rcases xr.1 y with u|u
  ·obtain rfl:=by simpa using u
   obtain⟨b,i,sp⟩:=a;obtain rfl:sp=none:=I;exact g.em j (g.evc f hm i)
  ·exact he e u
 |store m a v k ih=>
  rintro Q L w es f ⟨rfl,O,I,n,cs,ty,H,z,N,M,h⟩;obtain⟨b,i,sp⟩:=a;obtain rfl:sp=none:=I;have hb:=g.has f (l5 z);have hc:w.cell? ⟨b,i,none⟩=some cs[i]:=oF hb (by simp[cellOf,N]);have S:w.frozen? ⟨b,i,none⟩=false:=by unfold World.frozen?;rw[hb];exact M
  obtain⟨u,A,C,_⟩:=g.set (o':= .cells (cs.setIfInBounds i v) ty H) f z (by simp[fits]);obtain⟨x,w',d,p,j,he,l⟩:=ih Q _ _ (es.push ⟨.cell ⟨b,i,none⟩,true,false⟩) u h;refine⟨x,w', #[⟨.cell ⟨b,i,none⟩,true,false⟩]++d, ?_,g.gt A j,λe y=> ?_,l⟩
  ·rw[sg hc S O,qf hb,p];simp
  ·rcases xr.1 y with B|B
   ·obtain rfl:=by simpa using B
    exact g.em j (C i)
   ·exact he e B
 |new o k ih=>
  rintro Q L w es f ⟨U,h⟩;obtain⟨u,A,C⟩:=g.new f U;obtain⟨x,w',d,p,j,he,l⟩:=ih _ Q _ _ es A (h _ u);exact⟨x,w',d,by simp only[Sem.runT];exact p,g.gt C j,he,l⟩
 |shape r k ih=>
  rintro Q L w es f ⟨K,o,hm,h⟩;have hb:=g.has f hm;obtain⟨x,w',d,p,j,he,l⟩:=ih _ Q L w es f h;refine⟨x,w',d, ?_,j,he,l⟩;have J:w.shape? r=shapeOf o:=by unfold World.shape?;rw[hb];cases o<;>rfl
  simp only[Sem.runT,J];exact p
 |freeze a m k ih=>
  rintro Q L w es f ⟨n,cs,ty,H,z,h⟩;have hb:=g.has f (l5 z);obtain⟨u,A,_⟩:=g.set (o':= .cells cs ty (NV H a m)) f z (by simp[fits]);obtain⟨x,w',d,p,j,he,l⟩:=ih Q _ _ es u h;exact⟨x,w',d,by simp only[Sem.runT];rw[se hb];exact p,g.gt A j,he,l⟩
 |frozen a k ih=>
  rintro Q L w es f ⟨K,o,hm,h⟩;have hb:=g.has f hm;obtain⟨x,w',d,p,j,he,l⟩:=ih _ Q L w es f h;refine⟨x,w',d, ?_,j,he,l⟩;have J:w.frozen? a=Lu o a:=by unfold World.frozen?;rw[hb];cases o<;>rfl
  simp only[Sem.runT,J];exact p
 |getObj r k ih=>
  rintro Q L w es f ⟨K,o,hm,F,h⟩;have hb:=g.has f hm;obtain⟨x,w',d,p,j,he,l⟩:=ih o Q L w (es.push ⟨.obj r,false,false⟩) f h;refine⟨x,w', #[⟨.obj r,false,false⟩]++d, ?_,j,λe y=> ?_,l⟩
  ·rw[kh hb F,p];simp
  ·rcases xr.1 y with u|u
   ·obtain rfl:=by simpa using u
    exact g.em j (g.evo f hm)
   ·exact he e u
 |setObj r o k ih=>
  rintro Q L w es f ⟨F,n,o',z,E,h⟩;have hb:=g.has f (l5 z);obtain⟨u,A,_,C⟩:=g.set (o':=o) f z (sf E F);obtain⟨x,w',d,p,j,he,l⟩:=ih Q _ _ (es.push ⟨.obj r,true,false⟩) u h;refine⟨x,w', #[⟨.obj r,true,false⟩]++d, ?_,g.gt A j,λe y=> ?_,l⟩
  ·rw[qg hb E F,p];simp
  ·rcases xr.1 y with B|B
   ·obtain rfl:=by simpa using B
    exact g.em j C
   ·exact he e B
 |choose q k ih=>
  rintro Q L w es f ⟨h0,u⟩;cases G:q.forced with
  |true=>
   obtain⟨x,w',d,p,j,he,l⟩:=ih _ Q L w es f (h0 G);exact⟨x,w',d,by simp only[Sem.runT,G,if_true];exact p,j,he,l⟩
  |false=>
   obtain⟨d1,d2⟩:=g.draw f;obtain⟨x,w',d,p,j,he,l⟩:=ih _ Q L (drew w) es d1 (u G (w.tape w.drawn q));exact⟨x,w',d,by simp only[Sem.runT,G,pS,if_false];exact p,g.gt d2 j,he,l⟩
 |sys c k ih=>exactλQ L w es f h=>h.elim
 |program k ih=>
  intro Q L w es f h;obtain⟨x,w',d,p,j,he,l⟩:=ih P Q L w es f h;exact⟨x,w',d,by simp only[Sem.runT];exact p,j,he,l⟩
 |mark m k ih=>
  rintro Q L w es f ⟨hm,h⟩;obtain⟨x,w',d,p,j,he,l⟩:=ih Q L w (es.push ⟨.mark m,false,true⟩) f h;refine⟨x,w', #[⟨.mark m,false,true⟩]++d,by simp only[Sem.runT];rw[p];simp,j,λe y=> ?_,l⟩;rcases xr.1 y with u|u
  ·obtain rfl:=by simpa using u
   exact g.nor w' m hm
  ·exact he e u
 |halt x=>exactλQ L w es f h=>h.elim
theorem si (Δ:Ma R D){s:Sem α}{Q:α->Ka->Prop}{L:Ka}{w:World}(i:Δ.Own L w)(h:KI P Δ.New s Q L):
 ∃a w',s.run P w= .ok a w'/\Δ.Gu w w'/\(∀e∈s.events P w #[],Δ.Ev w' e)/\ ∃L',Δ.Own L' w'/\Q a L':=by
 obtain⟨a,w',d,b,g,he,f⟩:=Gb Δ s Q L w #[] i h;refine⟨a,w', ?_,g, ?_,f⟩
 ·rw[<-Sem.runT_fst P s w #[],b]
 ·unfold Sem.events;rw[b];simpa using he
end
section
variable {σ:Type}{F:Kn σ}(Δ: ∀s,Ma (F.R s) (F.D s)) (P:Program) (main:Bool) (fn:FuncId)
def up (Q:σ->Exit->Act->Ka->Prop):σ->Exit->Act->World->Prop:=λs e a w=> ∃L,(Δ s).Own L w/\Q s e a L
def upV (Q:σ->Value->Ka->Prop):σ->Value->World->Prop:=λs v w=> ∃L,(Δ s).Own L w/\Q s v L
def Mz (c:Code)(n:Nat)(s:σ)(Q:σ->Exit->Act->Ka->Prop)(a:Act)(L:Ka):Prop:= ∀w,(Δ s).Own L w->MG F P main fn c n s (up Δ Q) a w
def LN (ops:Array Oper)(todo:List Nat)(n:Nat)(s:σ)(Q:σ->Exit->Act->Ka->Prop)(a:Act)(L:Ka):Prop:= ∀w,(Δ s).Own L w->Lp F P main fn ops todo n s (up Δ Q) a w
def Nb (c:Code)(n:Nat)(s:σ)(Q:σ->Exit->Act->Ka->Prop)(a:Act)(L:Ka):Prop:= ∀w,(Δ s).Own L w->Mo F P main fn c n s (up Δ Q) a w
def Kb (f:FuncId)(args:Array Value)(n:Nat)(s:σ)(L:Ka)(Post:σ->Value->Ka->Prop):Prop:= ∀w,(Δ s).Own L w->Ld F P main f args n s w (upV Δ Post)
end
section
variable {σ:Type}
def MT (K:σ->Act->Ka->Prop)(Q:σ->Exit->Act->Ka->Prop):σ->Exit->Act->Ka->Prop
 |s, .normal,a,L=>K s a L
 |s,e,a,L=>Q s e a L
def MU (id:Nat)(Q:σ->Exit->Act->Ka->Prop):σ->Exit->Act->Ka->Prop
 |s, .exit id',a,L=>if id'=id then Q s .normal a L else Q s (.exit id') a L
 |s,e,a,L=>Q s e a L
def bodyL (P:Program)(g:Func)(Post:σ->Value->Ka->Prop):σ->Exit->Act->Ka->Prop
 |s, .normal,a,L|s, .ret,a,L=>a.defers=[]/\ ∃v,ResultsC P g a.tmps v/\Post s v L
 |_,_,_,_=>False
def MV (o:Oper)(a:Act)(K:Act->Prop):Next->Prop
 | .value v=>K (a.put o.dst v)
 | .skip=>K (a.put o.dst undef)
 |_=>False
end
section
variable {σ:Type}{F:Kn σ}{Δ: ∀s,Ma (F.R s) (F.D s)} {P:Program} {main:Bool} {fn:FuncId} {Q:σ->Exit->Act->Ka->Prop} {s:σ} {a:Act} {L:Ka}
theorem oG {K:σ->Act->Ka->Prop}{d:σ->Act->World->Prop}(h: ∀s a L w,(Δ s).Own L w->K s a L->d s a w) {s:σ} {e:Exit} {a:Act} {w:World} (q:up Δ (MT K Q) s e a w):KQ d (up Δ Q) s e a w:=by
 obtain⟨L,b,q⟩:=q;cases e<;>first|exact h _ _ _ _ b q|exact⟨L,b,q⟩
theorem dZ {b:σ->Exit->Act->Ka->Prop}{c:Code}{n:Nat}(h:Mz Δ P main fn c n s Q a L)(hq: ∀s e a L,Q s e a L->b s e a L):Mz Δ P main fn c n s b a L:=
 λw d=>fx (h w d) λs e a w ⟨L,f,q⟩=>⟨L,f,hq _ _ _ _ q⟩
theorem qh {c:Code}{n b:Nat}(h:Mz Δ P main fn c n s Q a L)(hn:n<=b):Mz Δ P main fn c b s Q a L:=λw d=>pX (h w d) hn
theorem vc {ops:Array Oper}{todo:List Nat}{n b:Nat}(h:LN Δ P main fn ops todo n s Q a L)(hn:n<=b):LN Δ P main fn ops todo b s Q a L:=λw d=>fw (h w d) hn
theorem Ec {c:Code}{n:Nat}(h:(L.map (·.1)).Nodup->Mz Δ P main fn c n s Q a L):Mz Δ P main fn c n s Q a L:=λw b=>h ((Δ s).nd b) w b
theorem AQ {ops:Array Oper}{todo:List Nat}{n:Nat}(h:(L.map (·.1)).Nodup->LN Δ P main fn ops todo n s Q a L):LN Δ P main fn ops todo n s Q a L:=λw b=>h ((Δ s).nd b) w b
theorem AR {x y:Code}{n₁ n₂:Nat}(h:Mz Δ P main fn x n₁ s (MT (λs' d L'=>Mz Δ P main fn y n₂ s' Q d L') Q) a L):Mz Δ P main fn (.seq x y) (n₁+n₂+1) s Q a L:=
 λw b=>cn (fx (h w b) λ_ _ _ _ q=>oG (λ_ _ _ _ b k=>k _ b) q)
theorem xi {c:Operand}{x y:Code}{t:Bool}{n:Nat}(hc:a.eval c= .bool t)(h:Mz Δ P main fn (if t then x else y) n s Q a L):Mz Δ P main fn (.cond c x y) (n+1) s Q a L:=λw b=>gd hc (h w b)
theorem vd {id:Nat}{c:Code}{n:Nat}(h:Mz Δ P main fn c n s (MU id Q) a L):Mz Δ P main fn (.block id c) (n+2) s Q a L:=
 λw f=>eH (fx (h w f) λj e i g ⟨b,d,q⟩=>by
  cases e with
  |exit id'=>
   simp only[MU] at q;simp only[Exit.inBlock]
   split
   ·rename_i e;rw[if_pos e] at q;exact⟨b,d,q⟩
   ·rename_i e;rw[if_neg e] at q;exact⟨b,d,q⟩
  |_=>exact⟨b,d,q⟩)
theorem xj (h:Q s .normal a L):Mz Δ P main fn .skip 1 s Q a L:=λ_ b=>jS (wpC_skip (F.terms s) ⟨L,b,h⟩)
theorem AS (h:Q s .ret a L):Mz Δ P main fn .ret 1 s Q a L:=λ_ b=>jS (wpC_ret (F.terms s) ⟨L,b,h⟩)
theorem xl {id:Nat}(h:Q s (.exit id) a L):Mz Δ P main fn (.exit id) 1 s Q a L:=λ_ b=>jS (wpC_exit (F.terms s) ⟨L,b,h⟩)
theorem ve {c:Code}{n₁ n₂:Nat}(h:Mz Δ P main fn c n₁ s (MT (λs' d L'=>Nb Δ P main fn c n₂ s' Q d L') Q) a L):Mz Δ P main fn (.loop c) (n₁+n₂+1) s Q a L:=
 λw b=>m6 (fx (h w b) λ_ _ _ _ q=>oG (λ_ _ _ _ b k=>k _ b) q)
theorem Ed {c:Code}{n₁ n₂:Nat}(h:Mz Δ P main fn c n₁ s (MT (λs' d L'=>Nb Δ P main fn c n₂ s' Q d L') Q) a L):Nb Δ P main fn c (n₁+n₂+1) s Q a L:=
 λw b=>r9 (fx (h w b) λ_ _ _ _ q=>oG (λ_ _ _ _ b k=>k _ b) q)
theorem iB {c:Code}{n d:Nat}(h:Nb Δ P main fn c n s Q a L)(hn:n<=d):Nb Δ P main fn c d s Q a L:=
 λw e b k cs m hb f hc=>(h w e b k cs m hb f hc).mono bl
theorem oH {c:Code}{n:Nat}(I:Nat->σ->Act->Ka->Prop)(h: ∀k s a L,I k s a L->Mz Δ P main fn c n s (MT (λs' d L'=> ∃k',k'<k/\I k' s' d L') Q) a L):
 ∀(k:Nat)(s:σ)(a:Act)(L:Ka),I k s a L->Nb Δ P main fn c ((k+1)*(n+1)) s Q a L:=by
 intro k
 induction k using Nat.strongRecOn with
 |_ k ih=>
  intro s a L g;refine iB (Ed (n₂:=k*(n+1)) (dZ (h k s a L g) λs' e d L' q=> ?_)) (by rw[Ou];omega);cases e with
  |normal=>
   obtain⟨k',b,f⟩:=q;exact iB (ih k' b s' d L' f) (Ov _ b)
  |_=>exact q
theorem xm {c:Code}{n:Nat}(I:Nat->σ->Act->Ka->Prop)(h: ∀k s a L,I k s a L->Mz Δ P main fn c n s (MT (λs' d L'=> ∃k',k'<k/\I k' s' d L') Q) a L) (k:Nat) (g:I k s a L):
 Mz Δ P main fn (.loop c) ((k+1)*(n+1)) s Q a L:=by
 refine qh (ve (n₂:=k*(n+1)) (dZ (h k s a L g) λs' e d L' q=> ?_)) (by rw[Ou];omega);cases e with
 |normal=>
  obtain⟨k',b,f⟩:=q;exact iB (oH I h k' s' d L' f) (Ov _ b)
 |_=>exact q
theorem sj {id:Nat}{ops:Array Oper}{n:Nat}(h:LN Δ P main fn ops (List.range ops.size) n s Q a L):Mz Δ P main fn (.region id ops false) (n+1) s Q a L:=λw b=>bt (h w b)
theorem xo {ops:Array Oper}(h:Q s .normal a L):LN Δ P main fn ops [] 1 s Q a L:=λ_ b=>bG ⟨L,b,h⟩
theorem il {ops:Array Oper}{i:Nat}{rest:List Nat}{o:Oper}{n:Nat}(ho:ops[i]? =some o)(hw:Region.wanted o (yielded ops a.tmps)=false)
 (h:LN Δ P main fn ops rest n s Q (a.put o.dst undef) L):LN Δ P main fn ops (i::rest) (n+1) s Q a L:=λw b=>ik ho hw (h w b)
theorem oI {o:Oper}{w w':World}{x:Next}{K:Act->World->Prop}{KL:Act->Ka->Prop}{L':Ka}(hr:(execOp a.eval o).run P w= .ok x w')(e:(Δ s).Own L' w')
 (h:MV o a (λb=>KL b L') x) (d: ∀b,KL b L'->K b w'):uponK o a K ((execOp a.eval o).run P w):=by
 rw[hr];cases x<;>simp only[MV] at h<;>first|exact d _ h|exact h.elim
theorem na {ops:Array Oper}{i:Nat}{rest:List Nat}{o:Oper}{n:Nat}(ho:ops[i]? =some o)(hw:Region.wanted o (yielded ops a.tmps)=true)
 (h:KI P (Δ s).New (execOp a.eval o) (λx L'=>MV o a (λf=>LN Δ P main fn ops rest n s Q f L') x) L):LN Δ P main fn ops (i::rest) (n+1) s Q a L:=by
 intro w m;refine jT ho hw λj d=> ?_;have b:=(Δ s).rely m d;obtain⟨x,u,r,p,he,L',g,l⟩:=si (Δ s) b h;refine oI (Δ:=Δ) (s:=s) (KL:=λf L'=>LN Δ P main fn ops rest n s Q f L') r g l λf k=>⟨(Δ s).dd p λe hm=>he e (mem_listed hm),k _ g⟩
theorem vf {f:FuncId}{g:Func}{c:Code}{args:Array Value}{n:Nat}{Post:σ->Value->Ka->Prop}(hf:P.funcs[f]? =some g)(hname:(g.name== "runtime.NumGoroutine")=false)(hb:g.body=some c)
 (h:Mz Δ P main f c n s (bodyL P g Post) {tmps:=args++Array.replicate (g.ntmps-args.size) undef,defers:=[]} L):Kb Δ P main f args n s L Post:=
 λw b=>fj hf hname hb (fx (h w b) λk e j i ⟨a,d,q⟩=>by
  cases e<;>first|exact⟨q.1,q.2.choose,q.2.choose_spec.1,a,d,q.2.choose_spec.2⟩|exact q)
theorem Kb.more {f:FuncId}{args:Array Value}{n a:Nat}{Post:σ->Value->Ka->Prop}(h:Kb Δ P main f args n s L Post)(hn:n<=a):Kb Δ P main f args a s L Post:=
 λw b=>by obtain⟨g,c,i,e,j,d⟩:=h w b;exact⟨g,c,i,e,j,pX d hn⟩
theorem vg {ops:Array Oper}{i:Nat}{rest:List Nat}{o:Oper}{f:FuncId}{args:Array Operand}{d:Array TypeId}{nf n:Nat}{Post:σ->Value->Ka->Prop}
 (ho:ops[i]? =some o) (hw:Region.wanted o (yielded ops a.tmps)=true) (e:o.op= .call {callee:= .value (.func f),args,argTypes:=d})
 (hcall:Kb Δ P main f (args.map a.eval) nf s L Post) (b: ∀s' v L',Post s' v L'->LN Δ P main fn ops rest n s' Q (a.put o.dst v) L'):LN Δ P main fn ops (i::rest) (n+nf+3) s Q a L:=
 λw j=>gP ho hw e (hcall w j) λs' v l ⟨L',k,g⟩=>b s' v L' g l k
end
abbrev DM {σ:Type}(F:Kn σ):= ∀s,Ma (F.R s) (F.D s)
def Kd (P:Program)(t:TypeId):Option Nat:=(P.info? t).map (·.size)
def KJ (P:Program)(t:TypeId):Option Nat:=(P.info? t).map (·.bytes)
def zeroAt (P:Program)(t:TypeId):Option Value:=(P.info? t).bind (·.zero)
def Ku (P:Program)(t:TypeId):Option Bool:=(P.underlying t).map fun| .struct _| .array _ _=>true|_=>false
def Kc (P:Program)(s f:Nat):Option Nat:=
 match P.underlying s with
 |some (.struct fs)=>match fs[f]? with
  |some fd=>match Kd P fd.type with
   |some (_+1)=>some fd.offset
   |_=>none
  |none=>none
 |_=>none
def LY (P:Program)(s f:Nat):Option (Nat×Nat×Bool):=
 match P.underlying s with
 |some (.struct fs)=>match fs[f]? with
  |some fd=>match Kd P fd.type,Ku P fd.type with
   |some n,some g=>some (fd.offset,n,g)
   |_,_=>none
  |none=>none
 |_=>none
section
variable {α β:Type}{P:Program}{New:Obj->Prop}{L:Ka}
theorem aT {t:TypeId}{d:TypeDesc}{Q:TypeDesc->Ka->Prop}(h:P.underlying t=some d):KI P New (underlying t) Q L=Q d L:=by
 show (KI P New (match P.underlying t with|some d=>pure d|none=>stuck "no such type") Q L)=Q d L;rw[h];rfl
theorem da {t:TypeId}{i:TypeInfo}{Q:TypeInfo->Ka->Prop}(h:P.info? t=some i):KI P New (typeInfo t) Q L=Q i L:=by
 show (KI P New (match P.info? t with|some d=>pure d|none=>stuck "no such type") Q L)=Q i L;rw[h];rfl
theorem bO {t n:Nat}{Q:Nat->Ka->Prop}(h:Kd P t=some n):KI P New (sizeOf t) Q L=Q n L:=by
 obtain⟨i,a,rfl⟩:=pA.1 h;unfold sizeOf;rw[ak,da a];rfl
theorem cC {t:Nat}{v:Value}{Q:Value->Ka->Prop}(h:zeroAt P t=some v):KI P New (zeroValue t) Q L=Q v L:=by
 obtain⟨i,a,b⟩:=Option.bind_eq_some_iff.1 h;unfold zeroValue;rw[ak,da a,b];rfl
theorem iQ {a:Addr}{Q:Addr->Ka->Prop}:KI P New (Instr.sureAddr (.pointer (some a))) Q L=Q a L:=rfl
def At (L:Ka)(b i:Nat)(v:Value):Prop:= ∃fl cs ty fr,(b,fl,Obj.cells cs ty fr)∈L/\cs[i]? =some v
theorem At.at {b i n:Nat}{v:Value}{fl:Bool}{cs:Array Value}{ty:TypeId}{fr:Nat×Nat}(h:L[n]? =some (b,fl, .cells cs ty fr))(hv:cs[i]? =some v):At L b i v:=⟨fl,cs,ty,fr,l5 h,hv⟩
theorem xp {b i:Nat}{v:Value}{Q:Value->Ka->Prop}(h:At L b i v)(e:Q v L):KI P New (load ⟨b,i,none⟩) Q L:=by
 obtain⟨d,cs,ty,f,hm,a⟩:=h;exact⟨rfl,d,_,v,hm,by simpa [cellOf] using a,e⟩
theorem vh {b i n:Nat}{cs:Array Value}{ty:TypeId}{v:Value}{Q:Unit->Ka->Prop}(h:L[n]? =some (b,true, .cells cs ty))(hi:i<cs.size)(hp:Km v=true)(a:Q () (L.set n (b,true, .cells (cs.setIfInBounds i v) ty))):KI P New (store ⟨b,i,none⟩ v) Q L:=
 ⟨rfl,hp,rfl,n,cs,ty,(0,0),h,hi,by simp[Lu],a⟩
theorem cF {o:Obj}{Q:Nat->Ka->Prop}(hN:New o)(a: ∀b,(∀t∈L,t.1≠b)->Q b ((b,true,o)::L)):KI P New (newObj o) Q L:=⟨hN,a⟩
theorem eM {r:Nat}{o:Obj}{fl:Bool}{Q:Obj->Ka->Prop}(hm:(r,fl,o)∈L)(ho:Lb o=true)(a:Q o L):KI P New (getObj r) Q L:=⟨fl,o,hm,ho,a⟩
theorem dw {r n:Nat}{o o':Obj}{Q:Unit->Ka->Prop}(hn:L[n]? =some (r,true,o'))(a:Lb o'=true)(ho:Lb o=true)(b:Q () (L.set n (r,true,o))):KI P New (setObj r o) Q L:=⟨ho,n,o',hn,a,b⟩
theorem dn (b o i:Nat):(⟨b,o,none⟩:Addr).add i=⟨b,o+i,none⟩:=by
 unfold Addr.add
 split
 ·subst_vars;rfl
 ·rfl
theorem oJ {b o:Nat}{cs:Array Value}{ty:TypeId}{fr:Nat×Nat}{fl:Bool}(hm:(b,fl, .cells cs ty fr)∈L){Q:Array Value->Ka->Prop}:
 ∀(n i:Nat)(acc:Array Value),o+i+n<=cs.size->Q (acc++cs.extract (o+i) (o+i+n)) L->KI P New (loadCellsFrom ⟨b,o,none⟩ i n acc) Q L:=by
 intro n
 induction n with
 |zero=>
  intro i acc h a;have e:cs.extract (o+i) (o+i+0)= #[]:=by apply gm;simp
  rw[e,Array.append_empty] at a;exact a
 |succ n ih=>
  intro i acc h a;have d:o+i<cs.size:=bl
  unfold loadCellsFrom;rw[ak,dn];refine xp (b:=b) (i:=o+i) ⟨fl,cs,ty,fr,hm,OQ d⟩ ?_;refine ih (i+1) _ bl ?_;have e:acc.push cs[o+i]++cs.extract (o+(i+1)) (o+(i+1)+n)=acc++cs.extract (o+i) (o+i+(n+1)):=by
   apply gm;simp only[Array.toList_append,Array.toList_push,OC,r5];congr 1;rw[u7,u7];have:cs.toList.drop (o+i)=cs[o+i]::cs.toList.drop (o+i+1):=by
    rw[List.drop_eq_getElem_cons (by simpa using d)];simp
   rw[this,show o+i+(n+1)-(o+i)=n+1 by omega,show o+(i+1)+n-(o+(i+1))=n by omega,List.take_succ_cons,Nat.add_assoc];simp
  rw[e];exact a
theorem mR {b o n:Nat}{cs:Array Value}{ty:TypeId}{fr:Nat×Nat}{fl:Bool}(hm:(b,fl, .cells cs ty fr)∈L){Q:Array Value->Ka->Prop}(h:o+n<=cs.size)(a:Q (cs.extract o (o+n)) L):KI P New (loadCells ⟨b,o,none⟩ n) Q L:=
 oJ hm n 0 #[] bl (by simpa using a)
def KP (cs:Array Value)(o:Nat):List Value->Array Value
 |[]=>cs
 |v::vs=>KP (cs.setIfInBounds o v) (o+1) vs
theorem vi: ∀(vs:List Value)(cs:Array Value)(o:Nat),(KP cs o vs).size=cs.size
 |[],_,_=>rfl
 |v::vs,cs,o=>by rw[KP,vi vs];simp
theorem mS {b n:Nat}{ty:TypeId}: ∀(vs:List Value)(o i:Nat)(cs:Array Value)(L:Ka){Q:Unit->Ka->Prop},L[n]? =some (b,true, .cells cs ty)->o+i+vs.length<=cs.size->vs.all Km=true->
 Q () (L.set n (b,true, .cells (KP cs (o+i) vs) ty))->KI P New (storeCells ⟨b,o,none⟩ vs i) Q L:=by
 intro vs
 induction vs with
 |nil=>
  intro o i cs L Q d h _ a;have e:L.set n (b,true, .cells cs ty)=L:=by
   apply xt;intro j;rw[OK]
   split
   ·rename_i e;subst e;obtain⟨g,he⟩:=mo.1 d;simp[g,he]
   ·rfl
  rw[KP,e] at a;exact a
 |cons v vs ih=>
  intro o i cs L Q d h f a;simp only[gf] at h;simp only[List.all_cons,Bool.and_eq_true] at f;obtain⟨g,he⟩:=mo.1 d;unfold storeCells;rw[ak,dn];refine vh (b:=b) (i:=o+i) d bl f.1 ?_;refine ih o (i+1) (cs.setIfInBounds (o+i) v) _ (by simp[g]) ao f.2 ?_;rw[List.set_set];exact a
theorem cg {b n o:Nat}{ty:TypeId}{vs:List Value}{cs:Array Value}{Q:Unit->Ka->Prop}(hn:L[n]? =some (b,true, .cells cs ty))(h:o+vs.length<=cs.size)(hp:vs.all Km=true)
 (a:Q () (L.set n (b,true, .cells (KP cs o vs) ty))):KI P New (storeCells ⟨b,o,none⟩ vs) Q L:=mS vs o 0 cs L hn bl hp a
end
def Kz {α:Type}(P:Program):Sem α->(α->Prop)->Ka->Prop
 | .pure a,K,_=>K a
 | .load m a k,K,L=>m= .plain/\ ∃fl o v,(a.block,fl,o)∈L/\cellOf o a=some v/\Kz P (k v) K L
 | .shape r k,K,L=> ∃fl o,(r,fl,o)∈L/\Kz P (k (shapeOf o)) K L
 | .frozen a k,K,L=> ∃fl o,(a.block,fl,o)∈L/\Kz P (k (Lu o a)) K L
 | .getObj r k,K,L=> ∃fl o,(r,fl,o)∈L/\Lb o=true/\Kz P (k o) K L
 | .choose q k,K,L=>q.forced=true/\Kz P (k 0) K L
 | .program k,K,L=>Kz P (k P) K L
 | .mark m k,K,L=>MS m=true/\Kz P k K L
 | .store ..,_,_| .new ..,_,_| .freeze ..,_,_| .setObj ..,_,_| .sys ..,_,_| .halt _,_,_=>False
section
variable {α β:Type}{P:Program}
theorem dp {K i:α->Prop}(h: ∀a,K a->i a) {L L':Ka} (f: ∀t∈L,t∈L'): ∀(s:Sem α),Kz P s K L->Kz P s i L':=by
 intro s
 induction s with
 |pure a=>exactλx=>h _ x
 |load m a k ih=>rintro⟨b,e,o,v,d,g,j⟩;exact⟨b,e,o,v,f _ d,g,ih _ j⟩
 |shape r k ih=>rintro⟨e,o,b,d⟩;exact⟨e,o,f _ b,ih _ d⟩
 |frozen a k ih=>rintro⟨e,o,b,d⟩;exact⟨e,o,f _ b,ih _ d⟩
 |getObj r k ih=>rintro⟨e,o,b,d,g⟩;exact⟨e,o,f _ b,d,ih _ g⟩
 |choose q k ih=>rintro⟨b,d⟩;exact⟨b,ih _ d⟩
 |program k ih=>exactλx=>ih _ x
 |store m a v k ih=>exactλx=>x
 |new o k ih=>exactλx=>x
 |freeze a n k ih=>exactλx=>x
 |setObj r o k ih=>exactλx=>x
 |sys c k ih=>exactλx=>x
 |mark m k ih=>rintro⟨b,d⟩;exact⟨b,ih d⟩
 |halt x=>exactλx=>x
theorem vj {L:Ka}(f:α->Sem β)(K:β->Prop): ∀(s:Sem α),Kz P (s.bind f) K L=Kz P s (λa=>Kz P (f a) K L) L:=by
 intro s
 induction s with
 |pure a=>rfl
 |load m a k ih=>simp only[Sem.bind,Kz,ih]
 |shape r k ih=>simp only[Sem.bind,Kz,ih]
 |frozen a k ih=>simp only[Sem.bind,Kz,ih]
 |getObj r k ih=>simp only[Sem.bind,Kz,ih]
 |choose q k ih=>simp only[Sem.bind,Kz,ih]
 |program k ih=>simp only[Sem.bind,Kz,ih]
 |store m a v k ih=>simp only[Sem.bind,Kz]
 |new o k ih=>simp only[Sem.bind,Kz]
 |freeze a n k ih=>simp only[Sem.bind,Kz]
 |setObj r o k ih=>simp only[Sem.bind,Kz]
 |sys c k ih=>simp only[Sem.bind,Kz]
 |mark m k ih=>simp only[Sem.bind,Kz,ih]
 |halt x=>simp only[Sem.bind,Kz]
theorem aq {L:Ka}(s:Sem α)(f:α->Sem β)(K:β->Prop):Kz P (s>>=f) K L=Kz P s (λa=>Kz P (f a) K L) L:=vj f K s
theorem bM {L:Ka}(a:α)(K:α->Prop):Kz P (Pure.pure a) K L=K a:=rfl
theorem tR {L:Ka}(c:Prop) [Decidable c](x y:Sem α)(K:α->Prop):Kz P (if c then x else y) K L=if c then Kz P x K L else Kz P y K L:=by split<;>rfl
theorem bU {New:Obj->Prop}{L:Ka}{K:α->Prop}{Q:α->Ka->Prop}(h: ∀a,K a->Q a L): ∀(s:Sem α),Kz P s K L->KI P New s Q L:=by
 intro s
 induction s with
 |pure a=>exactλx=>h _ x
 |load m a k ih=>rintro⟨b,f,o,v,d,g,i⟩;exact⟨b,f,o,v,d,g,ih _ i⟩
 |shape r k ih=>rintro⟨f,o,b,d⟩;exact⟨f,o,b,ih _ d⟩
 |frozen a k ih=>rintro⟨f,o,b,d⟩;exact⟨f,o,b,ih _ d⟩
 |getObj r k ih=>rintro⟨f,o,b,d,g⟩;exact⟨f,o,b,d,ih _ g⟩
 |choose q k ih=>rintro⟨b,d⟩;exact⟨λ_=>ih _ d,λe=>by rw[b] at e;cases e⟩
 |program k ih=>exactλx=>ih _ x
 |store m a v k ih=>exactλx=>x.elim
 |new o k ih=>exactλx=>x.elim
 |freeze a n k ih=>exactλx=>x.elim
 |setObj r o k ih=>exactλx=>x.elim
 |sys c k ih=>exactλx=>x.elim
 |mark m k ih=>rintro⟨b,d⟩;exact⟨b,ih d⟩
 |halt x=>exactλx=>x.elim
variable {R:World->World->Prop}{D:World->World->Array Event->Prop}
theorem Gc (p:Ma R D){L:Ka}{w:World}(u:p.Own L w){K:α->Prop}: ∀(s:Sem α)(es:Array Event),Kz P s K L-> ∃a d,s.runT P w es=(.ok a w,es++d)/\(∀e∈d,p.Ev w e)/\K a:=by
 intro s
 induction s with
 |pure a=>exactλes h=>⟨a, #[],by simp[Sem.runT,-Sem.runT_eq],bE,h⟩
 |load m a k ih=>
  rintro es ⟨rfl,z,o,v,hm,C,h⟩;have hb:=p.has u hm;have hc:=oF hb C;have E:a.spot=none:=by cases o<;>simp_all [cellOf]
  obtain⟨x,d,g,he,f⟩:=ih v (es.push ⟨.cell a,false,false⟩) h;refine⟨x, #[⟨.cell a,false,false⟩]++d,by simp only[Sem.runT,hc];rw[show ((Mode.plain==Mode.atomic)=false) from rfl,g];simp,λe j=> ?_,f⟩;rcases xr.1 j with l|l
  ·obtain rfl:=by simpa using l
   obtain⟨b,i,sp⟩:=a;obtain rfl:sp=none:=E;exact p.evc u hm i
  ·exact he e l
 |shape r k ih=>
  rintro es ⟨z,o,hm,h⟩;have hb:=p.has u hm;obtain⟨x,d,g,he,f⟩:=ih _ es h;have y:w.shape? r=shapeOf o:=by unfold World.shape?;rw[hb];cases o<;>rfl
  exact⟨x,d,by simp only[Sem.runT,y];exact g,he,f⟩
 |frozen a k ih=>
  rintro es ⟨z,o,hm,h⟩;have hb:=p.has u hm;obtain⟨x,d,g,he,f⟩:=ih _ es h;have y:w.frozen? a=Lu o a:=by unfold World.frozen?;rw[hb];cases o<;>rfl
  exact⟨x,d,by simp only[Sem.runT,y];exact g,he,f⟩
 |getObj r k ih=>
  rintro es ⟨z,o,hm,A,h⟩;have hb:=p.has u hm;obtain⟨x,d,g,he,f⟩:=ih o (es.push ⟨.obj r,false,false⟩) h;refine⟨x, #[⟨.obj r,false,false⟩]++d,by rw[kh hb A,g];simp,λe j=> ?_,f⟩;rcases xr.1 j with l|l
  ·obtain rfl:=by simpa using l
   exact p.evo u hm
  ·exact he e l
 |choose q k ih=>
  rintro es ⟨B,h⟩;obtain⟨x,d,g,he,f⟩:=ih _ es h;exact⟨x,d,by simp only[Sem.runT,B,if_true];exact g,he,f⟩
 |program k ih=>
  intro es h;obtain⟨x,d,g,he,f⟩:=ih P es h;exact⟨x,d,by simp only[Sem.runT];exact g,he,f⟩
 |store m a v k ih=>exactλ_ x=>x.elim
 |new o k ih=>exactλ_ x=>x.elim
 |freeze a n k ih=>exactλ_ x=>x.elim
 |setObj r o k ih=>exactλ_ x=>x.elim
 |sys c k ih=>exactλ_ x=>x.elim
 |mark m k ih=>
  rintro es ⟨hm,h⟩;obtain⟨x,d,g,he,f⟩:=ih (es.push ⟨.mark m,false,true⟩) h;refine⟨x, #[⟨.mark m,false,true⟩]++d,by simp only[Sem.runT];rw[g];simp,λe j=> ?_,f⟩;rcases xr.1 j with l|l
  ·obtain rfl:=by simpa using l
   exact p.nor w m hm
  ·exact he e l
 |halt x=>exactλ_ x=>x.elim
theorem oK (Δ:Ma R D){L:Ka}{w:World}(f:Δ.Own L w){s:Sem α}{v:α}(h:Kz P s (· =v) L):s.run P w= .ok v w/\ ∀e∈s.events P w #[],Δ.Ev w e:=by
 obtain⟨a,d,b,he,rfl⟩:=Gc Δ f s #[] h;refine⟨by rw[<-Sem.runT_fst P s w #[],b], ?_⟩;unfold Sem.events;rw[b];simpa using he
end
section
variable {α β:Type}{P:Program}{L:Ka}
theorem aE {t:TypeId}{d:TypeDesc}{K:TypeDesc->Prop}(h:P.underlying t=some d):Kz P (underlying t) K L=K d:=by
 show (Kz P (match P.underlying t with|some d=>pure d|none=>stuck "no such type") K L)=K d;rw[h];rfl
theorem iR {t:TypeId}{i:TypeInfo}{K:TypeInfo->Prop}(h:P.info? t=some i):Kz P (typeInfo t) K L=K i:=by
 show (Kz P (match P.info? t with|some d=>pure d|none=>stuck "no such type") K L)=K i;rw[h];rfl
theorem cG {t n:Nat}{K:Nat->Prop}(h:Kd P t=some n):Kz P (sizeOf t) K L=K n:=by
 obtain⟨i,a,rfl⟩:=pA.1 h;unfold sizeOf;rw[aq,iR a];rfl
theorem iq {t:Nat}{v:Value}{K:Value->Prop}(h:zeroAt P t=some v):Kz P (zeroValue t) K L=K v:=by
 obtain⟨i,a,b⟩:=Option.bind_eq_some_iff.1 h;unfold zeroValue;rw[aq,iR a,b];rfl
theorem gQ {t:Nat}{g:Bool}{K:Bool->Prop}(h:Ku P t=some g):Kz P (isAgg t) K L=K g:=by
 obtain⟨d,a,rfl⟩:=pA.1 h;unfold isAgg;rw[aq,aE a];cases d<;>rfl
theorem de {a:Addr}{K:Addr->Prop}:Kz P (Instr.sureAddr (.pointer (some a))) K L=K a:=rfl
theorem qi {b i:Nat}{v:Value}{K:Value->Prop}(h:At L b i v)(e:K v):Kz P (load ⟨b,i,none⟩) K L:=by
 obtain⟨d,cs,ty,f,hm,a⟩:=h;exact⟨rfl,d,_,v,hm,by simpa [cellOf] using a,e⟩
theorem sm {r:Nat}{o:Obj}{fl:Bool}{K:Obj->Prop}(hm:(r,fl,o)∈L)(ho:Lb o=true)(a:K o):Kz P (getObj r) K L:=⟨fl,o,hm,ho,a⟩
theorem gR {b:Nat}{fl:Bool}{cs:Array Value}{t:TypeId}{fr:Nat×Nat}{K:Option (TypeId×Nat)->Prop}(h:(b,fl, .cells cs t fr)∈L)(a:K (some (t,cs.size))):Kz P (shape b) K L:=⟨fl,_,h,a⟩
theorem fQ {a:Addr}{fl:Bool}{cs:Array Value}{t:TypeId}{K:Bool->Prop}(h:(a.block,fl, .cells cs t)∈L)(b:K false):Kz P (frozen a) K L:=⟨fl,_,h,by simpa [Lu,Kz] using b⟩
theorem oL {b o:Nat}{cs:Array Value}{ty:TypeId}{fr:Nat×Nat}{fl:Bool}(hm:(b,fl, .cells cs ty fr)∈L){K:Array Value->Prop}:
 ∀(n i:Nat)(acc:Array Value),o+i+n<=cs.size->K (acc++cs.extract (o+i) (o+i+n))->Kz P (loadCellsFrom ⟨b,o,none⟩ i n acc) K L:=by
 intro n
 induction n with
 |zero=>
  intro i acc h a;have e:cs.extract (o+i) (o+i+0)= #[]:=by apply gm;simp
  rw[e,Array.append_empty] at a;exact a
 |succ n ih=>
  intro i acc h a;have d:o+i<cs.size:=bl
  unfold loadCellsFrom;rw[aq,dn];refine qi (b:=b) (i:=o+i) ⟨fl,cs,ty,fr,hm,OQ d⟩ ?_;refine ih (i+1) _ bl ?_;have e:acc.push cs[o+i]++cs.extract (o+(i+1)) (o+(i+1)+n)=acc++cs.extract (o+i) (o+i+(n+1)):=by
   apply gm;simp only[Array.toList_append,Array.toList_push,OC,r5];congr 1;rw[u7,u7];have:cs.toList.drop (o+i)=cs[o+i]::cs.toList.drop (o+i+1):=by
    rw[List.drop_eq_getElem_cons (by simpa using d)];simp
   rw[this,show o+i+(n+1)-(o+i)=n+1 by omega,show o+(i+1)+n-(o+(i+1))=n by omega,List.take_succ_cons,Nat.add_assoc];simp
  rw[e];exact a
theorem fo {b o n:Nat}{cs:Array Value}{ty:TypeId}{fr:Nat×Nat}{fl:Bool}(hm:(b,fl, .cells cs ty fr)∈L){K:Array Value->Prop}(h:o+n<=cs.size)(a:K (cs.extract o (o+n))):Kz P (loadCells ⟨b,o,none⟩ n) K L:=
 oL hm n 0 #[] bl (by simpa using a)
end
def Lq (P:Program)(L:Ka)(s:Sem Next)(v:Value):Prop:=Kz P s (· = .value v) L
theorem Lq.mono {P:Program}{L L':Ka}{s:Sem Next}{v:Value}(h:Lq P L s v)(a: ∀t∈L,t∈L'):Lq P L' s v:=dp (λ_ h=>h) a s h
theorem Lq.go {P:Program}{L:Ka}{s:Sem Next}{v:Value}(h:Lq P L s v){New:Obj->Prop}{Q:Next->Ka->Prop}(b:Q (.value v) L):KI P New s Q L:=bU (λa e=>by rw[e];exact b) s h
section
variable {P:Program}{L:Ka}{ρ:Operand->Value}{d:Option Tmp}{ty:TypeId}{ps:String}{af:Array Edge}{g:Option (Nat×Bool)}
theorem cN {s:Sem Value}{f:Value->Sem Next}{v:Value}(hf: ∀v,f v=pure (.value v)) (h: ∀(K:Value->Prop),K v->Kz P s K L):Lq P L (s>>=f) v:=by
 unfold Lq;rw[aq];exact h _ (by rw[hf];rfl)
theorem Ee {x:Operand}:Lq P L (execOp ρ ⟨d, .move x,ty,ps,af,g⟩) (ρ x):=rfl
theorem xu {x:Operand}:Lq P L (execOp ρ ⟨d, .assign x,ty,ps,af,g⟩) (ρ x):=rfl
theorem Ef {c a b:Operand}{t:Bool}(hc:ρ c= .bool t):Lq P L (execOp ρ ⟨d, .pick c a b,ty,ps,af,g⟩) (if t then ρ a else ρ b):=by
 show Kz P (asBool (ρ c)>>=λt=>pure (Next.value (if t then ρ a else ρ b))) (· = .value (if t then ρ a else ρ b)) L;rw[hc];rfl
theorem sn {x:Operand}{a:Addr}(hx:ρ x= .pointer (some a)):Lq P L (execOp ρ ⟨d, .nilCheck x,ty,ps,af,g⟩) (.pointer (some a)):=by
 unfold Lq;simp only[execOp,hx];rfl
theorem qj {x:Operand}{s f b i off:Nat}(hx:ρ x= .pointer (some ⟨b,i,none⟩))(hf:Kc P s f=some off):Lq P L (execOp ρ ⟨d, .fieldAddr s x f,ty,ps,af,g⟩) (.pointer (some ⟨b,i+off,none⟩)):=by
 refine cN (λ_=>rfl) λK h=> ?_;unfold Kc at hf
 split at hf<;>try cases hf
 rename_i j hu
 split at hf<;>try cases hf
 rename_i fd a
 split at hf<;>try cases hf
 rename_i n e;unfold Instr.fieldAt;rw[aq,aE hu,hx];simp only[a];rw[aq,de,aq];unfold fieldPlace;rw[aq,cG e];simp only[Nat.succ_ne_zero,if_false,Nat.add_eq_zero_iff,Nat.one_ne_zero,and_false];rw[bM,dn];exact h
theorem Eg {x:Operand}{t b i:Nat}{v:Value}(hx:ρ x= .pointer (some ⟨b,i,none⟩))(ht:Ku P t=some false)(hv:At L b i v):Lq P L (execOp ρ ⟨d, .load t x,ty,ps,af,g⟩) v:=by
 refine cN (λ_=>rfl) λK h=> ?_;unfold Instr.loadAt;rw[hx,aq,de];unfold loadVar;rw[aq,gQ ht];exact qi hv h
theorem vk {x:Operand}{t b i n:Nat}{cs:Array Value}{e:TypeId}{fr:Nat×Nat}{fl:Bool}(hx:ρ x= .pointer (some ⟨b,i,none⟩))(ht:Ku P t=some true)(hs:Kd P t=some n)(hm:(b,fl, .cells cs e fr)∈L)(hi:i+n<=cs.size):
 Lq P L (execOp ρ ⟨d, .load t x,ty,ps,af,g⟩) (.agg (cs.extract i (i+n))):=by
 refine cN (λ_=>rfl) λK h=> ?_;unfold Instr.loadAt;rw[hx,aq,de];unfold loadVar;rw[aq,gQ ht];simp only[if_true];rw[aq,cG hs,aq];exact fo hm hi h
theorem sq {x a:Operand}{t b o sz:Nat}{len:Nat}{e:TypeId}{k:IntKind}{n:Int}(hx:ρ x= .pointer (some ⟨b,o,none⟩))(hi:ρ a= .int k n)(hu:P.underlying t=some (.array len e))(hs:Kd P e=some sz)(h0:0<=n)(h1:n<len):
 Lq P L (execOp ρ ⟨d, .indexAddr t x a,ty,ps,af,g⟩) (.pointer (some ⟨b,o+n.toNat*sz,none⟩)):=by
 refine cN (λ_=>rfl) λK h=> ?_;unfold Instr.indexAt;rw[hx,hi];simp only[aq,asIntOf,bM,aE hu,de,tR,cG hs,dn];rw[if_pos ⟨h0,h1⟩];exact h
theorem vl {x a:Operand}{t b o sz:Nat}{len cap:Nat}{e:TypeId}{k:IntKind}{n:Int}(hx:ρ x= .slice (some ⟨b,o,none⟩) len cap)(hi:ρ a= .int k n)(hu:P.underlying t=some (.slice e))(hs:Kd P e=some sz)(h0:0<=n)(h1:n<len):
 Lq P L (execOp ρ ⟨d, .indexAddr t x a,ty,ps,af,g⟩) (.pointer (some ⟨b,o+n.toNat*sz,none⟩)):=by
 refine cN (λ_=>rfl) λK h=> ?_;unfold Instr.indexAt;rw[hx,hi];simp only[aq,asIntOf,bM,aE hu,tR,cG hs,dn];rw[if_pos ⟨h0,h1⟩];exact h
theorem qk {op:BinOp}{t:TypeId}{x y:Operand}{k k':IntKind}{a b:Int}:eqGuard op t x y (.int k a) (.int k' b)=pure ():=by
 unfold eqGuard;cases op<;>rfl
theorem gh {op:BinOp}{t u:TypeId}{x y:Operand}{k:IntKind}{a b:Int}{v:Value}(hx:ρ x= .int k a)(hy:ρ y= .int k b)(h:binOp op t (.int k a) (.int k b)=pure v):Lq P L (execOp ρ ⟨d, .binOp op t x y u,ty,ps,af,g⟩) v:=by
 refine cN (λ_=>rfl) λK e=> ?_;rw[hx,hy,qk];show Kz P (binOp op t (.int k a) (.int k b)) K L;rw[h];exact e
theorem Gd {t u:TypeId}{x y:Operand}{k:IntKind}{a b:Int}(hx:ρ x= .int k a)(hy:ρ y= .int k b):Lq P L (execOp ρ ⟨d, .binOp .add t x y u,ty,ps,af,g⟩) (.int k (k.wrap (a+b))):=gh hx hy (by simp[binOp,Op.intArith])
theorem Ge {t u:TypeId}{x y:Operand}{k:IntKind}{a b:Int}(hx:ρ x= .int k a)(hy:ρ y= .int k b):Lq P L (execOp ρ ⟨d, .binOp .sub t x y u,ty,ps,af,g⟩) (.int k (k.wrap (a-b))):=gh hx hy (by simp[binOp,Op.intArith])
theorem Gf {t u:TypeId}{x y:Operand}{k:IntKind}{a b:Int}(hx:ρ x= .int k a)(hy:ρ y= .int k b):Lq P L (execOp ρ ⟨d, .binOp .mul t x y u,ty,ps,af,g⟩) (.int k (k.wrap (a*b))):=gh hx hy (by simp[binOp,Op.intArith])
theorem Gg {t u:TypeId}{x y:Operand}{k:IntKind}{a b:Int}(hx:ρ x= .int k a)(hy:ρ y= .int k b)(hb:b≠0):Lq P L (execOp ρ ⟨d, .binOp .rem t x y u,ty,ps,af,g⟩) (.int k (a.tmod b)):=gh hx hy (by simp[binOp,Op.intDiv,hb])
theorem Gh {t u:TypeId}{x y:Operand}{k:IntKind}{a b:Int}(hx:ρ x= .int k a)(hy:ρ y= .int k b)(hb:b≠0):Lq P L (execOp ρ ⟨d, .binOp .quo t x y u,ty,ps,af,g⟩) (.int k (k.wrap (a.tdiv b))):=gh hx hy (by simp[binOp,Op.intDiv,hb])
theorem Gi {t u:TypeId}{x y:Operand}{k:IntKind}{a b:Int}(hx:ρ x= .int k a)(hy:ρ y= .int k b):Lq P L (execOp ρ ⟨d, .binOp .eql t x y u,ty,ps,af,g⟩) (.bool (a==b)):=gh hx hy (by simp[binOp,Op.intCmp])
theorem Gj {t u:TypeId}{x y:Operand}{k:IntKind}{a b:Int}(hx:ρ x= .int k a)(hy:ρ y= .int k b):Lq P L (execOp ρ ⟨d, .binOp .neq t x y u,ty,ps,af,g⟩) (.bool (a !=b)):=gh hx hy (by simp[binOp,Op.intCmp])
theorem Gk {t u:TypeId}{x y:Operand}{k:IntKind}{a b:Int}(hx:ρ x= .int k a)(hy:ρ y= .int k b):Lq P L (execOp ρ ⟨d, .binOp .lss t x y u,ty,ps,af,g⟩) (.bool (decide (a<b))):=gh hx hy (by simp[binOp,Op.intCmp])
theorem Gl {t u:TypeId}{x y:Operand}{k:IntKind}{a b:Int}(hx:ρ x= .int k a)(hy:ρ y= .int k b):Lq P L (execOp ρ ⟨d, .binOp .leq t x y u,ty,ps,af,g⟩) (.bool (decide (a<=b))):=gh hx hy (by simp[binOp,Op.intCmp])
theorem Gm {t u:TypeId}{x y:Operand}{k:IntKind}{a b:Int}(hx:ρ x= .int k a)(hy:ρ y= .int k b):Lq P L (execOp ρ ⟨d, .binOp .gtr t x y u,ty,ps,af,g⟩) (.bool (decide (b<a))):=gh hx hy (by simp[binOp,Op.intCmp])
theorem Gn {t u:TypeId}{x y:Operand}{k:IntKind}{a b:Int}(hx:ρ x= .int k a)(hy:ρ y= .int k b):Lq P L (execOp ρ ⟨d, .binOp .geq t x y u,ty,ps,af,g⟩) (.bool (decide (b<=a))):=gh hx hy (by simp[binOp,Op.intCmp])
theorem Eh {s t:TypeId}{a:TypeDesc}{x:Operand}{j k:IntKind}{n:Int}(hx:ρ x= .int j n)(hs:P.underlying s=some a)(ht:P.underlying t=some (.int k)):Lq P L (execOp ρ ⟨d, .convert s t x,ty,ps,af,g⟩) (.int k (k.wrap n)):=by
 refine cN (λ_=>rfl) λK h=> ?_;unfold convert;rw[hx,aq,aE hs,aq,aE ht];exact h
theorem Gp {t:TypeId}{x:Operand}{b:Bool}(hx:ρ x= .bool b):Lq P L (execOp ρ ⟨d, .unOp .not t x,ty,ps,af,g⟩) (.bool !b):=by
 refine cN (λ_=>rfl) λK h=> ?_;rw[hx];exact h
theorem Gq {t:TypeId}{x:Operand}{k:IntKind}{n:Int}(hx:ρ x= .int k n):Lq P L (execOp ρ ⟨d, .unOp .neg t x,ty,ps,af,g⟩) (.int k (k.wrap (0-n))):=by
 refine cN (λ_=>rfl) λK h=> ?_;rw[hx];exact h
theorem vm {x:Operand}{i:Nat}{vs:Array Value}{v:Value}(hx:ρ x= .tuple vs)(hv:vs[i]? =some v):Lq P L (execOp ρ ⟨d, .extract x i,ty,ps,af,g⟩) v:=by
 refine cN (λ_=>rfl) λK h=> ?_;rw[hx];simp only[Instr.extract,hv];exact h
theorem lq {f:Fn}{c1 c2:Array Operand}:Lq P L (execOp ρ ⟨d, .makeFunc f c1 c2,ty,ps,af,g⟩) (.func f (c1.map ρ) (c2.map ρ)):=cN (λ_=>rfl) λ_ h=>h
theorem ql {t:TypeId}{x:Operand}{a:TypeDesc}(ht:P.underlying t=some a)(hi: ∀ms,a≠ .interface ms):Lq P L (execOp ρ ⟨d, .makeInterface t x,ty,ps,af,g⟩) (.iface t (ρ x)):=by
 refine cN (λ_=>rfl) λK h=> ?_;unfold Instr.makeInterface;rw[aq,aE ht];cases a<;>first|exact h|exact absurd rfl (hi _)
theorem fy {t off:Nat}{cs:Array Value}{v:Value}{K:Value->Prop}(a:Ku P t=some false)(hv:cs[off]? =some v)(h:K v):Kz P (part t cs off) K L:=by
 unfold part;rw[aq,gQ a];simp only[pS,if_false,hv];exact h
theorem AT {x:Operand}{s f off n:Nat}{cs:Array Value}{v:Value}(hx:ρ x= .agg cs)(hf:LY P s f=some (off,n,false))(hv:cs[off]? =some v):Lq P L (execOp ρ ⟨d, .field s x f,ty,ps,af,g⟩) v:=by
 refine cN (λ_=>rfl) λK h=> ?_;unfold LY at hf
 split at hf<;>try cases hf
 rename_i e hu
 split at hf<;>try cases hf
 rename_i fd a
 split at hf<;>try cases hf
 rename_i i b;unfold Instr.field;rw[aq,aE hu,hx];simp only[a];exact fy b hv h
theorem jV {b:Builtin}{args:Array Operand}{a:Array TypeId}{s:Array Bool->Sem Value}{v:Value}(hb: ∀cs,builtin b a ty cs (args.map ρ)=(s cs>>=λv=>pure (.value v))) (h: ∀cs (K:Value->Prop),K v->Kz P (s cs) K L):
 Lq P L (execOp ρ ⟨d, .call ⟨.builtin b,args,a⟩,ty,ps,af,g⟩) v:=by
 show Kz P (builtin b a ty _ (args.map ρ)) _ L;rw[hb,aq];exact h _ _ rfl
theorem AU {x:Operand}{a:Array TypeId}{t:TypeId}{e:TypeId}{base:Option Addr}{len cap:Nat}(hx:ρ x= .slice base len cap)(ha:a[0]? =some t)(hu:P.underlying t=some (.slice e)):Lq P L (execOp ρ ⟨d, .call ⟨.builtin .len, #[x],a⟩,ty,ps,af,g⟩) (.int .i64 len):=by
 refine jV (s:=λ_=>Builtin.len_ a ty (#[x].map ρ)) (λ_=>rfl) λ_ K h=> ?_;unfold Builtin.len_;simp only[ha,OL,ix,OD,hx,nw,u9];rw[aq,aE hu];exact h
theorem xv {x:Operand}{a:Array TypeId}{t:TypeId}{s:ByteArray}(hx:ρ x= .string s)(ha:a[0]? =some t)(hu:P.underlying t=some .string):Lq P L (execOp ρ ⟨d, .call ⟨.builtin .len, #[x],a⟩,ty,ps,af,g⟩) (.int .i64 s.size):=by
 refine jV (s:=λ_=>Builtin.len_ a ty (#[x].map ρ)) (λ_=>rfl) λ_ K h=> ?_;unfold Builtin.len_;simp only[ha,OL,ix,OD,hx,nw,u9];rw[aq,aE hu];exact h
theorem Gr {x y:Operand}{e:Array TypeId}{k k':IntKind}{a b:Int}(hx:ρ x= .int k a)(hy:ρ y= .int k' b):Lq P L (execOp ρ ⟨d, .call ⟨.builtin .min, #[x,y],e⟩,ty,ps,af,g⟩) (.int k (if b<a then b else a)):=by
 refine jV (s:=λ_=>Builtin.min_ e ty (#[x,y].map ρ)) (λ_=>rfl) λ_ K h=> ?_;unfold Builtin.min_;simp only[OL,ix,OD,hx,hy,List.foldlM,Builtin.min2];exact h
theorem qm {op:BinOp}{t:TypeId}{x y:Operand}{a b:Option Addr}:eqGuard op t x y (.pointer a) (.pointer b)=pure ():=by
 unfold eqGuard;cases op<;>rfl
theorem xw {op:BinOp}{t u e:TypeId}{x y:Operand}{a b:Option Addr}{v:Bool}(f:op= .eql\/op= .neq)(hx:ρ x= .pointer a)(hy:ρ y= .pointer b)(hu:P.underlying t=some (.pointer e))
 (h: ∀(K:Bool->Prop),K v->Kz P (Op.equal t (.pointer a) (.pointer b)) K L):Lq P L (execOp ρ ⟨d, .binOp op t x y u,ty,ps,af,g⟩) (.bool (if op= .eql then v else !v)):=by
 refine cN (λ_=>rfl) λK i=> ?_;rw[hx,hy,qm];show Kz P (binOp op t (.pointer a) (.pointer b)) K L;rcases f with rfl|rfl
 ·show Kz P (do pure (.bool (<-Op.equal t (.pointer a) (.pointer b)))) K L;rw[aq];exact h _ i
 ·show Kz P (do pure (.bool (!(<-Op.equal t (.pointer a) (.pointer b))))) K L;rw[aq];exact h _ i
theorem dg {t:TypeId}{x y:Value}:Op.equal t x y=Op.equalIn (9999+1) t x y:=rfl
theorem ki {t e:TypeId}{a:Option Addr}{K:Bool->Prop}(hu:P.underlying t=some (.pointer e))(h:K a.isNone):Kz P (Op.equal t (.pointer a) (.pointer none)) K L:=by
 rw[dg,Op.equalIn.eq_def];rw[aq,aE hu];cases a<;>exact h
theorem lr {a:Addr}{fl:Bool}{cs:Array Value}{t:TypeId}{fr:Nat×Nat}{K:Unit->Prop}(h:(a.block,fl, .cells cs t fr)∈L)(b:K ()):Kz P (noView a) K L:=by
 unfold noView viewAt;rw[aq,aq];refine gR h ?_;simp only[Option.isSome_some,if_true];exact b
theorem ir {a:Addr}{fl:Bool}{cs:Array Value}{t:TypeId}{K:Bool->Prop}(h:(a.block,fl, .cells cs t)∈L)(b:K false):Kz P (stringish a) K L:=by
 unfold stringish;rw[aq];refine fQ h ?_;simp only[pS,if_false];rw[aq];refine gR h ?_;exact fQ (a:={block:=a.block,off:=cs.size}) h b
theorem oM {a b:Addr}{fl e:Bool}{cs d:Array Value}{t t':TypeId}{K:Bool->Prop}(h:(a.block,fl, .cells cs t)∈L)(f:(b.block,e, .cells d t')∈L)(g:K false):Kz P (mayBeOne a b) K L:=by
 unfold mayBeOne;rw[aq];refine ir h ?_;rw[aq];refine ir f ?_;simp only[Bool.false_and,Bool.or_false,aq];refine gR h ?_;refine gR f ?_;exact g
theorem lu {t e n:TypeId}{b i b' i':Nat}{cs f:Array Value}{g a:TypeId}{fl j:Bool}{K:Bool->Prop}(hu:P.underlying t=some (.pointer e))(hs:Kd P e=some (n+1))
 (h1:(b,fl, .cells cs g)∈L) (h2:(b',j, .cells f a)∈L) (h:K (decide ((b,i)=(b',i')))):Kz P (Op.equal t (.pointer (some ⟨b,i,none⟩)) (.pointer (some ⟨b',i',none⟩))) K L:=by
 rw[dg,Op.equalIn.eq_def];rw[aq,aE hu];show Kz P (do if(<-sizeOf e)≠0 then sameAddr ⟨b,i,none⟩ ⟨b',i',none⟩ else _) K L;rw[aq,cG hs];simp only[ne_eq,Nat.add_eq_zero_iff,Nat.one_ne_zero,and_false,not_false_eq_true,if_true];unfold sameAddr;by_cases hb:b=b'
 ·subst hb;simp only[beq_self_eq_true,if_true];have k:((⟨b,i,none⟩:Addr)==⟨b,i',none⟩)=decide ((b,i)=(b,i')):=by
   rw[OR];simp[Prod.ext_iff]
  rw[k];exact h
 ·have d:(b==b')=false:=by simpa using hb
  have l:decide ((b,i)=(b',i'))=false:=by simp[hb]
  rw[l] at h;simp only[d,pS,if_false];rw[aq];refine fQ h1 ?_;rw[aq];refine fQ h2 ?_;simp only[Bool.and_false,pS,if_false];rw[aq];refine lr h1 ?_;rw[aq];refine lr h2 ?_;rw[aq];refine oM h1 h2 ?_;exact h
theorem AV {t u e:TypeId}{x y:Operand}{a:Option Addr}(hx:ρ x= .pointer a)(hy:ρ y= .pointer none)(hu:P.underlying t=some (.pointer e)):Lq P L (execOp ρ ⟨d, .binOp .eql t x y u,ty,ps,af,g⟩) (.bool a.isNone):=
 xw (.inl rfl) hx hy hu λ_ h=>ki hu h
theorem AW {t u e:TypeId}{x y:Operand}{a:Option Addr}(hx:ρ x= .pointer a)(hy:ρ y= .pointer none)(hu:P.underlying t=some (.pointer e)):Lq P L (execOp ρ ⟨d, .binOp .neq t x y u,ty,ps,af,g⟩) (.bool !a.isNone):=
 xw (.inr rfl) hx hy hu λ_ h=>ki hu h
theorem xy {t u e n:TypeId}{x y:Operand}{b i b' i':Nat}{cs f:Array Value}{j a:TypeId}{fl k:Bool}(hx:ρ x= .pointer (some ⟨b,i,none⟩))(hy:ρ y= .pointer (some ⟨b',i',none⟩))(hu:P.underlying t=some (.pointer e))(hs:Kd P e=some (n+1))
 (h1:(b,fl, .cells cs j)∈L) (h2:(b',k, .cells f a)∈L):Lq P L (execOp ρ ⟨d, .binOp .eql t x y u,ty,ps,af,g⟩) (.bool (decide ((b,i)=(b',i')))):=
 xw (.inl rfl) hx hy hu λ_ h=>lu hu hs h1 h2 h
theorem AX {op:BinOp}{t u:TypeId}{x y:Operand}{v:Value}{b:Bool}{ms:Array (String×TypeId)}(a:op= .eql\/op= .neq)(hv:(v= .nilIface/\b=true)\/(∃s w,v= .iface s w/\b=false))(hx:ρ x=v)(hy:y= .const .nilIface)(f:ρ y= .nilIface)(hu:P.underlying t=some (.interface ms)):
 Lq P L (execOp ρ ⟨d, .binOp op t x y u,ty,ps,af,g⟩) (.bool (if op= .eql then b else !b)):=by
 refine cN (λ_=>rfl) λK e=> ?_;have i:eqGuard op t x y v .nilIface=pure ():=by
  unfold eqGuard;rcases a with rfl|rfl<;>rcases hv with ⟨rfl,_⟩|⟨s,w,rfl,_⟩<;>subst hy<;>simp
 rw[hx,f,i];show Kz P (binOp op t v .nilIface) K L;have he: ∀(K:Bool->Prop),K b->Kz P (Op.equal t v .nilIface) K L:=λK e=>by
  rw[dg,Op.equalIn.eq_def,aq,aE hu];rcases hv with ⟨rfl,rfl⟩|⟨s,w,rfl,rfl⟩<;>exact e
 have j:binOp op t v .nilIface=if op= .eql then(do pure (.bool (<-Op.equal t v .nilIface))) else(do pure (.bool (!(<-Op.equal t v .nilIface)))):=by
  rcases a with rfl|rfl<;>rcases hv with ⟨rfl,_⟩|⟨s,w,rfl,_⟩<;>rfl
 rw[j];rcases a with rfl|rfl
 ·simp only[if_true,aq];exact he _ e
 ·simp only[reduceCtorEq,if_false,aq];exact he _ e
end
section
variable {P:Program}{New:Obj->Prop}{L:Ka}{Q:Next->Ka->Prop}{ρ:Operand->Value}{d:Option Tmp}{ty:TypeId}{ps:String}{af:Array Edge}{g:Option (Nat×Bool)}
theorem ee {v:Value}(h:Km v=true):v.cells= #[v]:=by cases v<;>first|rfl|cases h
theorem AY {t:TypeId}{x y:Operand}{b i n:Nat}{v:Value}{cs:Array Value}{e:TypeId}(hx:ρ x= .pointer (some ⟨b,i,none⟩))(hy:ρ y=v)(hs:Kd P t=some 1)(hn:L[n]? =some (b,true, .cells cs e))(hi:i<cs.size)(hp:Km v=true)
 (a:Q .skip (L.set n (b,true, .cells (cs.setIfInBounds i v) e))):KI P New (execOp ρ ⟨d, .store t x y,ty,ps,af,g⟩) Q L:=by
 show KI P New (Instr.storeAt t (ρ x) (ρ y)>>=λ_=>pure .skip) Q L;unfold Instr.storeAt storeVar;rw[hx,hy,ak,ak,iQ,ak,bO hs,ee hp];simp only[l7,gf,km,ic,ne_eq,not_true_eq_false,if_false];refine cg hn ao (by simpa using hp) ?_;exact a
theorem su {t:TypeId}{x y:Operand}{b i n m:Nat}{vs:List Value}{cs:Array Value}{e:TypeId}(hx:ρ x= .pointer (some ⟨b,i,none⟩))(hy:ρ y= .agg vs.toArray)(hs:Kd P t=some m)(hm:vs.length=m)(hn:L[n]? =some (b,true, .cells cs e))(hi:i+vs.length<=cs.size)(hp:vs.all Km=true)
 (a:Q .skip (L.set n (b,true, .cells (KP cs i vs) e))):KI P New (execOp ρ ⟨d, .store t x y,ty,ps,af,g⟩) Q L:=by
 show KI P New (Instr.storeAt t (ρ x) (ρ y)>>=λ_=>pure .skip) Q L;unfold Instr.storeAt storeVar;rw[hx,hy,ak,ak,iQ,ak,bO hs];simp only[Value.cells,l7,hm,ne_eq,not_true_eq_false,if_false];exact cg hn hi hp a
theorem AZ {t:TypeId}{z:Value}(hz:zeroAt P t=some z)(hN:New (.cells z.cells t))(a: ∀b,(∀t∈L,t.1≠b)->Q (.value (.pointer (some ⟨b,0,none⟩))) ((b,true, .cells z.cells t)::L)):KI P New (execOp ρ ⟨d, .alloc t,ty,ps,af,g⟩) Q L:=by
 show KI P New (Instr.alloc t true (.tuple #[])>>=λv=>pure (.value v)) Q L;unfold Instr.alloc newVar newRow;rw[ak,ak,cC hz];simp only[ak];exact cF hN a
theorem Gs {t:TypeId}{x:Operand}{v:Value}(hx:ρ x=v)(hN:New (.cells v.cells t))(a: ∀b,(∀t∈L,t.1≠b)->Q (.value (.pointer (some ⟨b,0,none⟩))) ((b,true, .cells v.cells t)::L)):KI P New (execOp ρ ⟨d, .box t x,ty,ps,af,g⟩) Q L:=by
 show KI P New (Instr.box t (ρ x)>>=λv=>pure (.value v)) Q L;unfold Instr.box newVar newRow;rw[hx];simp only[ak];exact cF hN a
theorem vn {t:TypeId}(hN:New (.map #[] 0))(a: ∀b,(∀t∈L,t.1≠b)->Q (.value (.map (some b))) ((b,true, .map #[] 0)::L)):KI P New (execOp ρ ⟨d, .makeMap t none,ty,ps,af,g⟩) Q L:=by
 show KI P New (Instr.makeMap t none>>=λv=>pure (.value v)) Q L;unfold Instr.makeMap;simp only[ak,bg];exact cF hN a
theorem mU {t e:TypeId}{x:Operand}{v z:Value}(hx:ρ x=v)(hu:P.underlying t=some (.slice e))(hs:Kd P e=some 1)(hz:zeroAt P e=some z)(hzp:Km z=true)(hp:Km v=true)(hN:New (.cells #[v] e))
 (f: ∀b,(∀t∈L,t.1≠b)->Q (.value (.slice (some ⟨b,0,none⟩) 1 1)) ((b,true, .cells #[v] e)::L)):KI P New (execOp ρ ⟨d, .buildSlice t 1 #[(0,x)],ty,ps,af,g⟩) Q L:=by
 simp only[execOp,OL,ix,OD];unfold Instr.buildSlice newRow;have h0:Instr.fill (λi=>some (i*1,1)) ((Array.range (1*1)).map (#[z][· % #[z].size]!)) [(0,v)]=some #[v]:=by
  have a:(Array.range (1*1)).map (#[z][· % #[z].size]!)= #[z]:=by
   have:Array.range (1*1)= #[0]:=bx
   rw[this];simp
  rw[a];simp[Instr.fill,ee hp]
 rw[ak,ak,aT hu,hx];simp only[];rw[ak,bO hs];simp only[Nat.one_mul,gt_iff_lt,Nat.reduceLT,Nat.reducePow,if_false,Nat.one_ne_zero];rw[ak,cC hz,ak,bg,ee hzp];simp only[Nat.one_mul] at h0;simp only[h0,ak];exact cF hN f
theorem ng (n:Nat): ∀(r c:Nat),c<=n->Builtin.growBy n r c<=2*n+192
 |0,c,h=>by unfold Builtin.growBy;omega
 |r+1,c,h=>by
  unfold Builtin.growBy
  split
  ·omega
  ·rename_i hc;by_cases a:c+(c+768)/4<=n
   ·exact ng n r _ a
   ·cases r with
    |zero=>unfold Builtin.growBy;omega
    |succ r=>unfold Builtin.growBy;rw[if_pos bl];omega
theorem sv {n c:Nat}(h:c<n):Builtin.nextslicecap n c<=2*n+192:=by
 unfold Builtin.nextslicecap
 split
 ·omega
 ·split
  ·omega
  ·exact ng n 4 c bl
structure Reads (P:Program)(L:Ka)(sz n:Nat)(x:Value)(vs:Array Value):Prop where
 r: ∀(New:Obj->Prop)(Q:Array Value->Ka->Prop),Q vs L->KI P New (Builtin.firstCells sz n x) Q L
theorem dx {sz n len cap:Nat}:Reads P L sz n (.slice none len cap) #[]:=⟨λ_ _ a=>a⟩
theorem cw {b:Builtin}{args:Array Operand}{a:Array TypeId}{s:Sem Value}(hb: ∀cs,builtin b a ty cs (args.map ρ)=(s>>=λv=>pure (.value v))) (h:KI P New s (λv L'=>Q (.value v) L') L):KI P New (execOp ρ ⟨d, .call ⟨.builtin b,args,a⟩,ty,ps,af,g⟩) Q L:=by
 show KI P New (builtin b a ty _ (args.map ρ)) Q L;rw[hb,ak];exact h
theorem kj {n:Nat}{Q:Unit->Ka->Prop}(h:Q () L):KI P New (askRoom n) Q L:=by
 unfold askRoom
 split
 ·exact⟨rfl,h⟩
 ·exact h
theorem sw {x y:Operand}{t u e k:TypeId}{sz a f b o n m:Nat}{yb:Option Addr}{i:Nat}{vs:Array Value}{cs:Array Value}{e':TypeId}(hx:ρ x= .slice (some ⟨b,o,none⟩) a f)(hy:ρ y= .slice yb n i)(hu:P.underlying t=some (.slice e))(hv:P.underlying u=some (.slice k))(hs:Kd P e=some sz)
 (hr:Reads P L sz n (.slice yb n i) vs) (hc:a+n<=f) (hm:L[m]? =some (b,true, .cells cs e')) (ho:o+a*sz+vs.size<=cs.size) (hp:vs.toList.all Km=true)
 (j:Q (.value (.slice (some ⟨b,o,none⟩) (a+n) f)) (L.set m (b,true, .cells (KP cs (o+a*sz) vs.toList) e'))):KI P New (execOp ρ ⟨d, .call ⟨.builtin .append, #[x,y], #[t,u]⟩,ty,ps,af,g⟩) Q L:=by
 refine cw (s:=Builtin.append_ #[t,u] ty #[.slice (some ⟨b,o,none⟩) a f, .slice yb n i]) (λ_=>by simp[builtin,hx,hy]) ?_;unfold Builtin.append_;simp only[nw,u9,OE];rw[ak,aT hu];simp only[];rw[ak,bO hs];rw[ak,aT hv,ak,bg];simp only[pS,if_false,Bool.not_false,if_true,Builtin.lenOf];rw[ak,bg];simp only[hc,if_true];rw[ak];refine hr.r New _ ?_;rw[ak,dn];exact cg hm (by simpa using ho) hp j
theorem qn {x y:Operand}{t u e E:TypeId}{sz by_ a f n:Nat}{o yb:Option Addr}{m:Nat}{ws vs:Array Value}{z:Value}(hx:ρ x= .slice o a f)(hy:ρ y= .slice yb n m)(hu:P.underlying t=some (.slice e))(hv:P.underlying u=some (.slice E))(hs:Kd P e=some sz)(hb:KJ P e=some (by_+1))(hz0:zeroAt P e=some z)
 (hw:Reads P L sz a (.slice o a f) ws) (hr:Reads P L sz n (.slice yb n m) vs) (hc:f<a+n) (hbig:(2*(a+n)+192)*(by_+1)<=281474976710656) (hN: ∀cs,New (.cells cs e))
 (D: ∀b cap,(∀t∈L,t.1≠b)->a+n<=cap->cap<9223372036854775808->Q (.value (.slice (some ⟨b,0,none⟩) (a+n) cap)) ((b,true, .cells (ws++vs++Builtin.zeroCells z.cells (cap-(a+n))) e)::L)):KI P New (execOp ρ ⟨d, .call ⟨.builtin .append, #[x,y], #[t,u]⟩,ty,ps,af,g⟩) Q L:=by
 refine cw (s:=Builtin.append_ #[t,u] ty #[.slice o a f, .slice yb n m]) (λ_=>by simp[builtin,hx,hy]) ?_;unfold Builtin.append_;simp only[nw,u9,OE];obtain⟨inf,j,k⟩:=pA.1 hb;rw[ak,aT hu];simp only[];rw[ak,bO hs];rw[ak,aT hv,ak,bg];simp only[pS,if_false,Bool.not_false,if_true,Builtin.lenOf];rw[ak,bg];have A: ¬(a+n<=f):=bl
 simp only[A,if_false];rw[ak,da j];have B: ¬(((a+n:Nat):Int)>IntKind.i64.max/\(False\/inf.bytes=0)):=by rw[k];rintro⟨_,h|h⟩<;>simp at h
 simp only[B,if_false];rw[ak,da j];have C: ¬(Builtin.nextslicecap (a+n) f*inf.bytes>2^48):=by
  rw[k];have:=Ov (by_+1) (sv hc);omega
 simp only[C,if_false];rw[ak];have p:a+n<9223372036854775808:=by
  have:2*(a+n)+192<=(2*(a+n)+192)*(by_+1):=Nat.le_mul_of_pos_right _ bl;omega
 refine⟨λh=>by simp[Question.forced] at h,λ_ l=> ?_⟩;have i:a+n<=Question.cut (.appendCap (a+n) f e) l/\Question.cut (.appendCap (a+n) f e) l<9223372036854775808:=by
  simp only[Question.cut];have:=Nat.mod_lt l (show 2^63-(a+n)>0 by omega);omega
 generalize Question.cut (.appendCap (a+n) f e) l=cap at i⊢;rw[m9,ak,da j,ak];refine kj ?_;rw[ak];refine hw.r New _ ?_;rw[ak];refine hr.r New _ ?_;rw[ak,cC hz0];simp only[newRow,ak];exact cF (hN _) λb hb=>D b cap hb i.1 i.2
end
end Go.Lo
