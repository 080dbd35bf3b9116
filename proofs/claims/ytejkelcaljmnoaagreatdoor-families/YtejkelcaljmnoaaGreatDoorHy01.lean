/-
  Part 1 of the proof.
  No condition but those that each statement names.
-/
import Derived.Conc.Beside
import Derived.Conc.Token
import Derived.Conc.FxGenWait
import Derived.Conc.FxFrame
import Derived.Conc.CompanyMem
import Derived.Conc.Starve
import Derived.Laws.MakeOwn
import Derived.Below
import Derived.OwnWalk
import Derived.Conc.AppendWalk
import Derived.RowKit
import Derived.KernelRfl
import Derived.LaidEqlPtr
import Derived.WideLaws
set_option maxRecDepth 100000
set_option maxHeartbeats 4000000
set_option linter.unusedVariables false
set_option linter.unusedSimpArgs false
set_option linter.unusedSectionVars false
namespace Go.Hx
open Go.Conc
structure Par where
 ety:TypeId
 N0:Nat
 Still:Loc->Prop
def isEv (ety:TypeId):Obj->Bool
 | .cells _ e _=>e==ety
 |_=>false
def FA (p:Par)(w:World)(b:Nat):Prop:=p.N0<=b/\ ∃o,w.heap[b]? =some o/\isEv p.ety o=true
theorem FA.lt {p:Par}{w:World}{b:Nat}(h:FA p w b):b<w.heap.size:=by
 obtain⟨_,o,ho,_⟩:=h;exact(Array.getElem?_eq_some_iff.1 ho).1
def blk:Loc->Option Nat
 | .cell a=>some a.block
 | .obj r=>some r
 |_=>none
structure Kept (p:Par)(w w':World):Prop where
 size:w.heap.size<=w'.heap.size
 fa: ∀b,FA p w b->FA p w' b
 nf: ∀b,b<w.heap.size-> ¬FA p w b-> ¬FA p w' b
theorem Kept.refl (p:Par)(w:World):Kept p w w:=⟨Nat.le_refl _,fun _ h=>h,fun _ _ h=>h⟩
theorem Kept.trans {p:Par}{a b c:World}(h:Kept p a b)(k:Kept p b c):Kept p a c:=
 ⟨Nat.le_trans h.size k.size,fun x hx=>k.fa x (h.fa x hx),fun x hl hx=>k.nf x (Nat.lt_of_lt_of_le hl h.size) (h.nf x hl hx)⟩
def ClsA (p:Par)(w:World)(a:Touch):Prop:= ∃b,blk a.loc=some b/\FA p w b
def ClsB (p:Par)(w:World)(a:Touch):Prop:= ∃b,blk a.loc=some b/\b<w.heap.size/\ ¬FA p w b
theorem ClsA.kept {p:Par}{w w':World}{a:Touch}(k:Kept p w w'):ClsA p w a->ClsA p w' a
 |⟨b,h,f⟩=>⟨b,h,k.fa b f⟩
theorem ClsB.kept {p:Par}{w w':World}{a:Touch}(k:Kept p w w'):ClsB p w a->ClsB p w' a
 |⟨b,h,l,f⟩=>⟨b,h,Nat.lt_of_lt_of_le l k.size,k.nf b l f⟩
theorem lT {p:Par}{w:World}{a b:Touch}(ha:ClsA p w a)(hb:ClsB p w b)(h:a.loc=b.loc):False:=by
 obtain⟨x,hx,f⟩:=ha;obtain⟨y,hy,_,nf⟩:=hb;rw[h,hy] at hx;cases hx;exact nf f
structure ShOk (p:Par)(Sh:Loc->Prop):Prop where
 low: ∀l b,Sh l->blk l=some b->b<p.N0
 st: ∀l b,p.Still l->blk l=some b->b<p.N0
 ap: ∀l,p.Still l-> ¬Sh l
def EvA (p:Par)(w:World)(e:Event):Prop:=
 (∀x,(MemAct.ofEvent e).touch? =some x->x.loc.isMemory=true->ClsA p w x\/(p.Still x.loc/\x.write=false))/\(e.loc≠ .mark .disable/\e.loc≠ .mark .enable)/\ ∀a,e.loc≠ .mark (.release a)
def Ev0 (Sh:Loc->Prop)(e:Event):Prop:=
 (∀x,(MemAct.ofEvent e).touch? =some x->Sh x.loc/\x.kind≠ .plain)/\ ∀a,e.loc≠ .mark (.release a)
def EvB (p:Par)(Sh:Loc->Prop)(w:World)(e:Event):Prop:=
 (∀x,(MemAct.ofEvent e).touch? =some x->x.loc.isMemory=true->ClsB p w x/\(Sh x.loc->x.kind= .atomic)/\(p.Still x.loc->x.write=false))/\(e.loc≠ .mark .disable/\e.loc≠ .mark .enable)
theorem aP {g:Nat}{fn:FuncId}{pos:String}{es:Array Event}: ∀op∈MemOp.ofEvents g fn pos es,op.g=g:=fun op hop=>by obtain⟨_,_,rfl⟩:=Conc.mem_ofEvents hop;rfl
theorem dL {es:Array Event}(h: ∀e∈es,e.loc≠ .mark .disable/\e.loc≠ .mark .enable) (t:Trace) (g:Nat) (fn:FuncId) (pos:String) (g':Nat):
 Deaf (t++MemOp.ofEvents g fn pos es) g'=Deaf t g':=by
 by_cases e:g=g'
 ·subst e;rw[Deaf_own];exact deafBehind_still h _
 ·exact Deaf_other t e _ aP
def OverBut (c:Nat)(t:Trace):Prop:= ∀i g,t.g? i=some g->g≠0->g≠c->t.counts i-> ∃j,t.g? j=some 0/\HappensBefore t i j
theorem OverBut.app {c:Nat}{t u:Trace}(h:OverBut c t)(hu: ∀op∈u,op.g=0\/op.g=c\/op.act.touch? =none):OverBut c (t++u):=by
 intro i g hg h0 hc hcn;obtain⟨x,hx,_⟩:=id hcn;obtain⟨op,hop,hox⟩:=touch_of hx;have hopg:op.g=g:=by simpa [Trace.g?,hop] using hg
 rcases getElem?_append_cases hop with ⟨hi,_⟩|⟨_,hopu⟩
 ·obtain⟨j,hj,hb⟩:=h i g (by rw[<-g?_old (u:=u) hi];exact hg) h0 hc ((counts_old hi).1 hcn);have hjl:j<t.size:=by
   obtain⟨z,hz,_⟩:=Option.map_eq_some_iff.1 hj;exact lt_size_of_getElem? hz
  exact⟨j,by rw[g?_old hjl];exact hj,hb_app u hb⟩
 ·rcases hu op hopu with e|e|e
  ·exact absurd (hopg.symm.trans e) h0
  ·exact absurd (hopg.symm.trans e) hc
  ·rw[e] at hox;cases hox
def Cls (p:Par)(Sh:Loc->Prop)(c:Nat)(w:World)(t:Trace)(i:Nat)(a:Touch):Prop:=
 (Knows t 0 i/\Knows t c i)\/(Sh a.loc/\(a.kind= .atomic\/(a.kind= .said/\t.g? i=some 0)))\/(t.g? i=some 0/\ClsA p w a)\/(t.g? i=some c/\ClsB p w a/\ ¬Sh a.loc/\ ¬p.Still a.loc)\/
 ((t.g? i=some 0\/t.g? i=some c)/\p.Still a.loc/\a.write=false)
structure Core (p:Par)(Sh:Loc->Prop)(c:Nat)(w:World)(t:Trace):Prop where
 clean: ∀said,¬Race said t
 cls: ∀i a,touchAt t i=some a->a.loc.isMemory=true->Cls p Sh c w t i a
 over:OverBut c t
section
variable {p:Par}{Sh:Loc->Prop}{c:Nat}{w w':World}{t u:Trace}
theorem cG {t:Trace}{i g:Nat}(h:t.g? i=some g):Knows t g i:=by
 obtain⟨z,hz,hg⟩:=Option.map_eq_some_iff.1 h;exact hg▸knows_own hz
theorem g?_new {i:Nat}{op:MemOp}(h:(t++u)[i]? =some op):(t++u).g? i=some op.g:=by simp[Trace.g?,h]
theorem Cls.app {i:Nat}{a:Touch}(h:Cls p Sh c w t i a)(k:Kept p w w')(u:Trace)(hi:i<t.size):Cls p Sh c w' (t++u) i a:=by
 rcases h with ⟨x,y⟩|⟨s,x⟩|⟨g,x⟩|⟨g,x,y⟩|⟨g,x⟩
 ·exact .inl ⟨x.app u,y.app u⟩
 ·exact .inr (.inl ⟨s,by rw[g?_old hi];exact x⟩)
 ·exact .inr (.inr (.inl ⟨by rw[g?_old hi];exact g,x.kept k⟩))
 ·exact .inr (.inr (.inr (.inl ⟨by rw[g?_old hi];exact g,x.kept k,y⟩)))
 ·exact .inr (.inr (.inr (.inr ⟨by rw[g?_old hi];exact g,x⟩)))
theorem oz {i:Nat}{a:Touch}(h:touchAt t i=some a):i<t.size:=by
 obtain⟨op,ho,_⟩:=touch_of h;exact lt_size_of_getElem? ho
theorem j5 (h: ∀i a,touchAt t i=some a->a.loc.isMemory=true->Cls p Sh c w t i a) (k:Kept p w w') (hu: ∀i op a,(t++u)[i]? =some op->op∈u->op.act.touch? =some a->a.loc.isMemory=true->Cls p Sh c w' (t++u) i a):
 ∀i a,touchAt (t++u) i=some a->a.loc.isMemory=true->Cls p Sh c w' (t++u) i a:=by
 intro i a ha hm;obtain⟨x,hx,hxa⟩:=touch_of ha;rcases getElem?_append_cases hx with ⟨hi,hx'⟩|⟨_,hxu⟩
 ·exact(h i a (by rw[touchAt_of hx'];exact hxa) hm).app k u hi
 ·exact hu i x a hx hxu hxa hm
theorem cZ {said:Bool}(h: ¬Race said t)(hu: ∀op∈u,op.act.touch? =none): ¬Race said (t++u):=by
 rintro⟨i,j,hij,⟨a,b,ha,hb,hc⟩,n1,n2⟩;obtain⟨x,hx,hxa⟩:=touch_of ha;obtain⟨y,hy,hyb⟩:=touch_of hb;rcases getElem?_append_cases hy with ⟨hj,hy'⟩|⟨_,hyu⟩
 ·have hi:i<t.size:=Nat.lt_trans hij hj;have hx':t[i]? =some x:=by rw[<-getElem?_append_old (u:=u) hi];exact hx
  exact h ⟨i,j,hij,⟨a,b,by simp[Trace.act?,hx',hxa],by simp[Trace.act?,hy',hyb],hc⟩,fun e=>n1 (hb_app u e),fun e=>n2 (hb_app u e)⟩
 ·rw[hu y hyu] at hyb;cases hyb
theorem Core.world (h:Core p Sh c w t)(k:Kept p w w'):Core p Sh c w' t:=
 ⟨h.clean,fun i a ha hm=>by
  have:=(h.cls i a ha hm).app k #[] (oz ha);simpa using this,h.over⟩
theorem Core.still (h:Core p Sh c w t)(hu: ∀op∈u,op.act.touch? =none):Core p Sh c w (t++u):=
 ⟨fun said=>cZ (h.clean said) hu,j5 h.cls (Kept.refl p w) fun i op a _ hop ha _=>(by rw[hu op hop] at ha;cases ha),h.over.app fun op hop=> .inr (.inr (hu op hop))⟩
theorem Core.addA (h:Core p Sh c w t)(k:Kept p w w')(hSh:ShOk p Sh)(fn:FuncId)(pos:String){es:Array Event}(hes: ∀e∈es,EvA p w' e):
 Core p Sh c w' (t++MemOp.ofEvents 0 fn pos es):=by
 refine⟨fun said=>noRace_append (h.clean said) aP fun i a ha op hop b hb hc=> ?_,j5 h.cls k fun i op a hi hop ha hm=> ?_,h.over.app fun op hop=> .inl (aP op hop)⟩
 ·obtain⟨e,he,rfl⟩:=Conc.mem_ofEvents hop;rcases(hes e he).1 b hb (hc.1▸hc.2.1) with hB|⟨hB,hBw⟩
  ·have low: ∀y,blk a.loc=some y-> ¬y<p.N0:=fun y hy hl=>by
    obtain⟨z,hz,f⟩:=hB;rw[<-hc.1,hy] at hz;cases hz;have:=f.1;omega
   have some1: ∃y,blk a.loc=some y:=by obtain⟨z,hz,_⟩:=hB;exact⟨z,by rw[hc.1];exact hz⟩
   obtain⟨y,hy⟩:=some1;rcases h.cls i a ha hc.2.1 with ⟨x,_⟩|⟨s,_⟩|⟨g,_⟩|⟨_,x,_⟩|⟨_,x,_⟩
   ·exact x
   ·exact absurd (hSh.low _ _ s hy) (low y hy)
   ·exact cG g
   ·exact(lT hB (x.kept k) hc.1.symm).elim
   ·exact absurd (hSh.st _ _ x hy) (low y hy)
  ·have hSa:p.Still a.loc:=hc.1▸hB;rcases h.cls i a ha hc.2.1 with ⟨x,_⟩|⟨s,_⟩|⟨g,_⟩|⟨_,_,_,x⟩|⟨_,_,x⟩
   ·exact x
   ·exact absurd s (hSh.ap _ hSa)
   ·exact cG g
   ·exact absurd hSa x
   ·obtain⟨_,_,hw,_⟩:=hc;rw[x,hBw] at hw;rcases hw with z|z<;>cases z
 ·have hxg:=g?_new hi;rw[aP op hop] at hxg;obtain⟨e,he,rfl⟩:=Conc.mem_ofEvents hop;rcases(hes e he).1 a ha hm with hB|hB
  ·exact .inr (.inr (.inl ⟨hxg,hB⟩))
  ·exact .inr (.inr (.inr (.inr ⟨.inl hxg,hB⟩)))
theorem Core.add0 (h:Core p Sh c w t)(hSh:ShOk p Sh)(fn:FuncId)(pos:String){es:Array Event}(hes: ∀e∈es,Ev0 Sh e):
 Core p Sh c w (t++MemOp.ofEvents 0 fn pos es):=by
 refine⟨fun said=>noRace_append (h.clean said) aP fun i a ha op hop b hb hc=> ?_,j5 h.cls (Kept.refl p w) fun i op a hi hop ha hm=> ?_,h.over.app fun op hop=> .inl (aP op hop)⟩
 ·obtain⟨e,he,rfl⟩:=Conc.mem_ofEvents hop;obtain⟨hS,hk⟩:=(hes e he).1 b hb;rcases h.cls i a ha hc.2.1 with ⟨x,_⟩|⟨_,hka|⟨_,g⟩⟩|⟨g,_⟩|⟨_,_,x,_⟩|⟨_,x,_⟩
  ·exact x
  ·obtain⟨_,_,_,hcase⟩:=hc;rw[hka] at hcase;rcases hcase with z|z|⟨_,z,_⟩
   ·cases z
   ·exact absurd z hk
   ·cases z
  ·exact cG g
  ·exact cG g
  ·exact absurd (hc.1▸hS) x
  ·exact absurd (hc.1▸hS) (hSh.ap _ x)
 ·have hxg:=g?_new hi;rw[aP op hop] at hxg;obtain⟨e,he,rfl⟩:=Conc.mem_ofEvents hop;obtain⟨hS,hk⟩:=(hes e he).1 a ha;refine .inr (.inl ⟨hS, ?_⟩);cases hkk:a.kind with
  |plain=>exact absurd hkk hk
  |atomic=>exact .inl rfl
  |said=>exact .inr ⟨rfl,hxg⟩
theorem Core.addB (h:Core p Sh c w t)(k:Kept p w w')(fn:FuncId)(pos:String){es:Array Event}(hes: ∀e∈es,∀x,(MemAct.ofEvent e).touch? =some x->x.loc.isMemory=true->ClsB p w' x/\(Sh x.loc->x.kind= .atomic)/\(p.Still x.loc->x.write=false)):
 Core p Sh c w' (t++MemOp.ofEvents c fn pos es):=by
 refine⟨fun said=>noRace_append (h.clean said) aP fun i a ha op hop b hb hc=> ?_,j5 h.cls k fun i op a hi hop ha hm=> ?_,h.over.app fun op hop=> .inr (.inl (aP op hop))⟩
 ·obtain⟨e,he,rfl⟩:=Conc.mem_ofEvents hop;obtain⟨hB,hB2,hB3⟩:=hes e he b hb (hc.1▸hc.2.1);rcases h.cls i a ha hc.2.1 with ⟨_,x⟩|⟨s,hka⟩|⟨_,x⟩|⟨g,_⟩|⟨_,x,y⟩
  ·exact x
  ·have hkb:=hB2 (hc.1▸s);obtain⟨_,_,_,hcase⟩:=hc;rw[hkb] at hcase;rcases hcase with z|z|⟨_,_,z⟩
   ·rcases hka with y|⟨y,_⟩<;>rw[y] at z<;>cases z
   ·cases z
   ·cases z
  ·exact(lT (x.kept k) hB hc.1).elim
  ·exact cG g
  ·have hBw:=hB3 (hc.1▸x);obtain⟨_,_,hw,_⟩:=hc;rw[y,hBw] at hw;rcases hw with z|z<;>cases z
 ·have hxg:=g?_new hi;rw[aP op hop] at hxg;obtain⟨e,he,rfl⟩:=Conc.mem_ofEvents hop;obtain⟨hB,hB2,hB3⟩:=hes e he a ha hm;by_cases hS:Sh a.loc
  ·exact .inr (.inl ⟨hS, .inl (hB2 hS)⟩)
  ·by_cases hSt:p.Still a.loc
   ·exact .inr (.inr (.inr (.inr ⟨.inr hxg,hSt,hB3 hSt⟩)))
   ·exact .inr (.inr (.inr (.inl ⟨hxg,hB,hS,hSt⟩)))
theorem gS {g:Nat}{fn:FuncId}{pos:String}{es:Array Event}(hm: ∀e∈es,e.mute=true): ∀op∈MemOp.ofEvents g fn pos es,op.act.touch? =none:=fun op hop=>by
 obtain⟨e,he,rfl⟩:=Conc.mem_ofEvents hop;exact touch_mute (hm e he)
end
def InWg (Wg:Nat)(l:Loc):Prop:= ∃a:Addr,l= .cell a/\a.block=Wg
def stW (Wg:Nat):Addr:=⟨Wg,0,none⟩
structure Talk (p:Par)(Sh:Loc->Prop)(c:Nat)(w:World)(t:Trace)(d0:Nat):Prop where
 core:Core p Sh c w t
 hear0:Deaf t 0=d0
 hearc:Deaf t c=0
structure Rel (p:Par)(Sh:Loc->Prop)(Wg c:Nat)(w:World)(t:Trace)(d0 d1 r:Nat):Prop where
 core:Core p Sh c w t
 hear0:Deaf t 0=d0
 hearc:Deaf t c=d1
 act:t.act? r=some (.mark (.releaseMerge (stW Wg)))
 g:t.g? r=some c
 heard:t.heard r
 norel: ∀i,r<i->t.act? i≠some (.mark (.release (stW Wg)))
 after: ∀i,r<i->t.g? i=some c-> ¬t.counts i/\ ∀a,touchAt t i=some a->Sh a.loc
section
variable {p:Par}{Sh:Loc->Prop}{Wg c:Nat}{w w':World}{t u:Trace}{d0 d1 r:Nat}
theorem Talk.world (h:Talk p Sh c w t d0)(k:Kept p w w'):Talk p Sh c w' t d0:=⟨h.core.world k,h.hear0,h.hearc⟩
theorem Talk.still (h:Talk p Sh c w t d0)(hu: ∀op∈u,op.act.touch? =none) (hd: ∀g,Deaf (t++u) g=Deaf t g):Talk p Sh c w (t++u) d0:=
 ⟨h.core.still hu,(hd 0).trans h.hear0,(hd c).trans h.hearc⟩
theorem Talk.addA (h:Talk p Sh c w t d0)(k:Kept p w w')(hSh:ShOk p Sh)(fn:FuncId)(pos:String){es:Array Event}(hes: ∀e∈es,EvA p w' e):Talk p Sh c w' (t++MemOp.ofEvents 0 fn pos es) d0:=
 ⟨h.core.addA k hSh fn pos hes,(dL (fun e he=>(hes e he).2.1) t 0 fn pos 0).trans h.hear0,(dL (fun e he=>(hes e he).2.1) t 0 fn pos c).trans h.hearc⟩
theorem Talk.add0 (h:Talk p Sh c w t d0)(hc0:c≠0)(hSh:ShOk p Sh)(fn:FuncId)(pos:String){es:Array Event}(hes: ∀e∈es,Ev0 Sh e):Talk p Sh c w (t++MemOp.ofEvents 0 fn pos es) (deafBehind d0 es):=
 ⟨h.core.add0 hSh fn pos hes,by rw[Deaf_own,h.hear0],(Deaf_other t (fun e=>hc0 e.symm) _ aP).trans h.hearc⟩
theorem Talk.addB (h:Talk p Sh c w t d0)(k:Kept p w w')(fn:FuncId)(pos:String){es:Array Event}(hes: ∀e∈es,EvB p Sh w' e):Talk p Sh c w' (t++MemOp.ofEvents c fn pos es) d0:=
 ⟨h.core.addB k fn pos (fun e he=>(hes e he).1),(dL (fun e he=>(hes e he).2) t c fn pos 0).trans h.hear0,(dL (fun e he=>(hes e he).2) t c fn pos c).trans h.hearc⟩
theorem Talk.mute (h:Talk p Sh c w t d0){g:Nat}(h0:g≠0)(hc:g≠c)(fn:FuncId)(pos:String){es:Array Event}(hm: ∀e∈es,e.mute=true):Talk p Sh c w (t++MemOp.ofEvents g fn pos es) d0:=
 ⟨h.core.still (gS hm),(Deaf_other t h0 _ aP).trans h.hear0,(Deaf_other t hc _ aP).trans h.hearc⟩
theorem Talk.release (h:Talk p Sh c w t d0)(hc0:c≠0)(fn:FuncId)(pos:String):Rel p Sh Wg c w (t++ #[{g:=c,fn:=fn,pos:=pos,act:= .mark (.releaseMerge (stW Wg))}]) d0 0 t.size:=by
 have hlast:(t++ #[({g:=c,fn:=fn,pos:=pos,act:= .mark (.releaseMerge (stW Wg))}:MemOp)])[t.size]? =some {g:=c,fn:=fn,pos:=pos,act:= .mark (.releaseMerge (stW Wg))}:=by simp
 have hdf: ∀g,Deaf (t++ #[({g:=c,fn:=fn,pos:=pos,act:= .mark (.releaseMerge (stW Wg))}:MemOp)]) g=Deaf t g:=fun g=>by rw[Deaf_push];simp[deafStep]
 have big: ∀{α:Prop}(i:Nat),t.size<i->(t++ #[({g:=c,fn:=fn,pos:=pos,act:= .mark (.releaseMerge (stW Wg))}:MemOp)])[i]? ≠none->α:=fun i hi hne=>by
  exfalso;apply hne;exact Array.getElem?_eq_none (by simp;omega)
 refine⟨h.core.still fun op hop=> ?_,(hdf 0).trans h.hear0,(hdf c).trans h.hearc,by rw[act?_of hlast],by simp[Trace.g?,hlast],⟨c,by simp[Trace.g?,hlast], ?_⟩,fun i hi e=>big i hi ?_,fun i hi e=>big i hi ?_⟩
 ·have:op={g:=c,fn:=fn,pos:=pos,act:= .mark (.releaseMerge (stW Wg))}:=by simpa using hop
  rw[this];rfl
 ·rw[deaf_old (Nat.le_refl _)];exact h.hearc
 ·obtain⟨z,hz,_⟩:=Option.map_eq_some_iff.1 e;rw[hz];simp
 ·obtain⟨z,hz,_⟩:=Option.map_eq_some_iff.1 e;rw[hz];simp
theorem Rel.lt (h:Rel p Sh Wg c w t d0 d1 r):r<t.size:=lt_of_act? h.act
theorem Rel.grow (h:Rel p Sh Wg c w t d0 d1 r){e0 e1:Nat}(hcore:Core p Sh c w' (t++u))(h0:Deaf (t++u) 0=e0)(h1:Deaf (t++u) c=e1)(hnr: ∀op∈u,op.act≠ .mark (.release (stW Wg)))
 (haf: ∀i op,t.size<=i->(t++u)[i]? =some op->op∈u->op.g=c-> ¬(t++u).counts i/\ ∀a,op.act.touch? =some a->Sh a.loc):Rel p Sh Wg c w' (t++u) e0 e1 r:=by
 refine⟨hcore,h0,h1,by rw[act?_old h.lt];exact h.act,by rw[g?_old h.lt];exact h.g,(heard_old h.lt).2 h.heard,fun i hi e=> ?_,fun i hi hg=> ?_⟩
 ·obtain⟨op,ho,hoa⟩:=Option.map_eq_some_iff.1 e;rcases getElem?_append_cases ho with ⟨_,ho'⟩|⟨_,hou⟩
  ·exact h.norel i hi (by rw[act?_of ho',hoa])
  ·exact hnr op hou hoa
 ·obtain⟨op,ho,hog⟩:=Option.map_eq_some_iff.1 hg;rcases getElem?_append_cases ho with ⟨hl,ho'⟩|⟨hl,hou⟩
  ·obtain⟨x,y⟩:=h.after i hi (by simp[Trace.g?,ho',hog]);exact⟨fun z=>x ((counts_old hl).1 z),fun a ha=>y a (by rw[<-touchAt_old (u:=u) hl];exact ha)⟩
  ·obtain⟨x,y⟩:=haf i op hl ho hou hog;exact⟨x,fun a ha=>y a (by rw[touchAt_of ho] at ha;exact ha)⟩
theorem io {g:Nat}{fn:FuncId}{pos:String}{es:Array Event}(h: ∀e∈es,∀a,e.loc≠ .mark (.release a)): ∀op∈MemOp.ofEvents g fn pos es,op.act≠ .mark (.release (stW Wg)):=by
 intro op hop hr;obtain⟨e,he,rfl⟩:=Conc.mem_ofEvents hop;obtain⟨loc,wr,sy⟩:=e;have:=h _ he (stW Wg);cases loc with
 |mark m=>simp[MemAct.ofEvent] at hr;exact this (by rw[hr])
 |obj x=>cases wr<;>cases sy<;>simp[MemAct.ofEvent] at hr
 |_=>simp[MemAct.ofEvent] at hr
theorem Rel.addA (h:Rel p Sh Wg c w t d0 d1 r)(hc0:c≠0)(k:Kept p w w')(hSh:ShOk p Sh)(fn:FuncId)(pos:String){es:Array Event}(hes: ∀e∈es,EvA p w' e):Rel p Sh Wg c w' (t++MemOp.ofEvents 0 fn pos es) d0 d1 r:=
 h.grow (h.core.addA k hSh fn pos hes) ((dL (fun e he=>(hes e he).2.1) t 0 fn pos 0).trans h.hear0) ((dL (fun e he=>(hes e he).2.1) t 0 fn pos c).trans h.hearc) (io fun e he=>(hes e he).2.2)
  fun i op _ _ hop hg=>absurd ((aP op hop).symm.trans hg).symm hc0
theorem Rel.add0 (h:Rel p Sh Wg c w t d0 d1 r)(hc0:c≠0)(hSh:ShOk p Sh)(fn:FuncId)(pos:String){es:Array Event}(hes: ∀e∈es,Ev0 Sh e):Rel p Sh Wg c w (t++MemOp.ofEvents 0 fn pos es) (deafBehind d0 es) d1 r:=
 h.grow (h.core.add0 hSh fn pos hes) (by rw[Deaf_own,h.hear0]) ((Deaf_other t (fun e=>hc0 e.symm) _ aP).trans h.hearc) (io fun e he=>(hes e he).2)
  fun i op _ _ hop hg=>absurd ((aP op hop).symm.trans hg).symm hc0
theorem Rel.still (h:Rel p Sh Wg c w t d0 d1 r)(hu: ∀op∈u,op.act.touch? =none) (hnr: ∀op∈u,op.act≠ .mark (.release (stW Wg))) {e0 e1:Nat} (h0:Deaf (t++u) 0=e0) (h1:Deaf (t++u) c=e1):Rel p Sh Wg c w (t++u) e0 e1 r:=
 h.grow (h.core.still hu) h0 h1 hnr fun i op _ hi hop _=>by
  refine⟨fun hcn=> ?_,fun a ha=> ?_⟩
  ·obtain⟨x,hx,_⟩:=hcn;have hx':touchAt (t++u) i=some x:=hx;rw[touchAt_of hi,hu op hop] at hx';cases hx'
  ·rw[hu op hop] at ha;cases ha
theorem Rel.world (h:Rel p Sh Wg c w t d0 d1 r)(k:Kept p w w'):Rel p Sh Wg c w' t d0 d1 r:=⟨h.core.world k,h.hear0,h.hearc,h.act,h.g,h.heard,h.norel,h.after⟩
theorem qw {e:Event}(h:e.mute=true)(a:Addr):e.loc≠ .mark (.release a):=by
 obtain⟨loc,wr,sy⟩:=e;rintro rfl;simp[Event.mute] at h
theorem Rel.mute (h:Rel p Sh Wg c w t d0 d1 r){g:Nat}(h0:g≠0)(fn:FuncId)(pos:String){es:Array Event}(hm: ∀e∈es,e.mute=true) {e1:Nat} (h1:Deaf (t++MemOp.ofEvents g fn pos es) c=e1):Rel p Sh Wg c w (t++MemOp.ofEvents g fn pos es) d0 e1 r:=
 h.still (gS hm) (io fun e he=>qw (hm e he)) ((Deaf_other t h0 _ aP).trans h.hear0) h1
def EvW (Wg:Nat)(e:Event):Prop:= ∃(a:Addr) (wr:Bool),e=⟨.cell a,wr,true⟩/\a.block=Wg
theorem EvW.touch {e:Event}(h:EvW Wg e){x:Touch}(hx:(MemAct.ofEvent e).touch? =some x):InWg Wg x.loc/\x.kind= .atomic:=by
 obtain⟨a,wr,rfl,ha⟩:=h;simp only[MemAct.ofEvent,MemAct.touch?,Option.some.injEq] at hx;subst hx;exact⟨⟨a,rfl,ha⟩,rfl⟩
theorem Rel.own (h:Rel p Sh Wg c w t d0 d1 r)(hc0:c≠0)(hN:Wg<p.N0)(hNw:p.N0<=w.heap.size)(hSh:ShOk p Sh)(hS: ∀l,InWg Wg l->Sh l) (fn:FuncId) (pos:String) {es:Array Event}
 (hes: ∀j e,es[j]? =some e->((MemAct.ofEvent e).touch? =none/\ ∀a,e.loc≠ .mark (.release a))\/(EvW Wg e/\0<deafBehind d1 (es.extract 0 j))):
 Rel p Sh Wg c w (t++MemOp.ofEvents c fn pos es) d0 (deafBehind d1 es) r:=by
 have hmem: ∀e∈es,((MemAct.ofEvent e).touch? =none/\ ∀a,e.loc≠ .mark (.release a))\/EvW Wg e:=fun e he=>by
  obtain⟨j,hj,rfl⟩:=Array.mem_iff_getElem.1 he;exact(hes j _ (Array.getElem?_eq_getElem hj)).imp id And.left
 refine h.grow (h.core.addB (Kept.refl p w) fn pos fun e he x hx _=> ?_) ((Deaf_other t hc0 _ aP).trans h.hear0) (by rw[Deaf_own,h.hearc]) (io fun e he a=> ?_) fun i op hi hio hop _=> ?_
 ·rcases hmem e he with ⟨hn,_⟩|hw
  ·rw[hn] at hx;cases hx
  ·obtain⟨⟨a,ha,hab⟩,hk⟩:=hw.touch hx;exact⟨⟨Wg,by rw[ha];simp[blk,hab],by omega,fun f=>by have:=f.1;omega⟩,fun _=>hk,fun st=>absurd (hS _ ⟨a,ha,hab⟩) (hSh.ap _ st)⟩
 ·rcases hmem e he with ⟨_,hn⟩|hw
  ·exact hn a
  ·obtain⟨x,wr,rfl,_⟩:=hw;simp
 ·have hj:(MemOp.ofEvents c fn pos es)[i-t.size]? =some op:=by
   rw[Array.getElem?_append] at hio;simpa [Nat.not_lt.2 hi] using hio
  rw[ofEvents_eq,Array.getElem?_map] at hj;obtain⟨e,he,rfl⟩:=Option.map_eq_some_iff.1 hj;have hjs:i-t.size<es.size:=(Array.getElem?_eq_some_iff.1 he).1;rcases hes _ e he with ⟨hn,_⟩|⟨hw,hd⟩
  ·refine⟨fun hcn=> ?_,fun a ha=> ?_⟩
   ·obtain⟨x,hx,_⟩:=hcn;have hx':touchAt (t++MemOp.ofEvents c fn pos es) i=some x:=hx;rw[touchAt_of hio,hn] at hx';cases hx'
   ·rw[hn] at ha;cases ha
  ·refine⟨fun hcn=> ?_,fun a ha=>hS _ (hw.touch ha).1⟩;obtain⟨x,hx,_,hk⟩:=hcn;have hx':touchAt (t++MemOp.ofEvents c fn pos es) i=some x:=hx;rw[touchAt_of hio] at hx';rcases hk with hk|⟨g,hg,hdf⟩
   ·exact hk (hw.touch hx').2
   ·have:g=c:=by simpa [Trace.g?,hio] using hg.symm
    subst this;have:=Conc.deaf_inside t g fn pos es (i-t.size) (Nat.le_of_lt hjs);rw[show t.size+(i-t.size)=i by omega,hdf,h.hearc] at this;omega
end
structure Past0 (Sh:Loc->Prop)(t:Trace)(d:Nat:=0):Prop where
 clean: ∀said,¬Race said t
 known: ∀i a,touchAt t i=some a->a.loc.isMemory=true->Knows t 0 i\/(Sh a.loc/\a.kind= .atomic)
 over:t.HandedOver
 hears:Deaf t 0=d
theorem Rel.acquire {p:Par}{Sh:Loc->Prop}{Wg c:Nat}{w:World}{t:Trace}{d1 r:Nat}(h:Rel p Sh Wg c w t 0 d1 r)(hSh:ShOk p Sh)(fn:FuncId)(pos:String):
 Past0 Sh (t++ #[{g:=0,fn:=fn,pos:=pos,act:= .mark (.acquire (stW Wg))}]):=by
 have hlast:(t++ #[({g:=0,fn:=fn,pos:=pos,act:= .mark (.acquire (stW Wg))}:MemOp)])[t.size]? =some {g:=0,fn:=fn,pos:=pos,act:= .mark (.acquire (stW Wg))}:=by simp
 have hdf:Deaf (t++ #[({g:=0,fn:=fn,pos:=pos,act:= .mark (.acquire (stW Wg))}:MemOp)]) 0=Deaf t 0:=by rw[Deaf_push];simp[deafStep]
 have hu: ∀op∈(#[{g:=0,fn:=fn,pos:=pos,act:= .mark (.acquire (stW Wg))}]:Trace),op.act.touch? =none/\op.act≠ .mark (.release (stW Wg)):=fun op hop=>by
  have:op={g:=0,fn:=fn,pos:=pos,act:= .mark (.acquire (stW Wg))}:=by simpa using hop
  rw[this];exact⟨rfl,by simp⟩
 have h':Rel p Sh Wg c w (t++ #[{g:=0,fn:=fn,pos:=pos,act:= .mark (.acquire (stW Wg))}]) 0 d1 r:=h.still (fun op hop=>(hu op hop).1) (fun op hop=>(hu op hop).2) (hdf.trans h.hear0) ((by rw[Deaf_push];simp[deafStep]:_=Deaf t c).trans h.hearc);have hh:(t++ #[({g:=0,fn:=fn,pos:=pos,act:= .mark (.acquire (stW Wg))}:MemOp)]).heard t.size:=⟨0,by simp[Trace.g?,hlast],by rw[deaf_old (Nat.le_refl _)];exact h.hear0⟩;have hrl:=h.lt;generalize hgen:(t++ #[({g:=0,fn:=fn,pos:=pos,act:= .mark (.acquire (stW Wg))}:MemOp)])=t' at hlast h' hh;have edge:HappensBefore t' r t.size:= .single (.inr ⟨.marked hrl (.inr h'.act) (by rw[act?_of hlast]) (fun k h1 _=>h'.norel k h1),h'.heard,hh⟩);have before: ∀i,t'.g? i=some c->i<=r->HappensBefore t' i t.size:=fun i hg hi=>by
  rcases Nat.lt_or_ge i r with hl|hl
  ·exact .trans (.single (.inl ⟨hl,c,hg,h'.g⟩)) edge
  ·obtain rfl:i=r:=by omega
   exact edge
 refine⟨h'.core.clean,fun i a ha hm=> ?_,fun i g hg hne hcn=> ?_,h'.hear0⟩
 ·have mine: ∀(_:t'.g? i=some c)(_: ¬Sh a.loc),Knows t' 0 i:=fun g ns=>
   ⟨t.size,_,hlast,rfl, .inr (before i g (Nat.le_of_not_lt fun hl=>ns ((h'.after i hl g).2 a ha)))⟩
  rcases h'.core.cls i a ha hm with ⟨x,_⟩|⟨s,x|⟨_,g⟩⟩|⟨g,_⟩|⟨g,_,ns,_⟩|⟨g|g,x,_⟩
  ·exact .inl x
  ·exact .inr ⟨s,x⟩
  ·exact .inl (cG g)
  ·exact .inl (cG g)
  ·exact .inl (mine g ns)
  ·exact .inl (cG g)
  ·exact .inl (mine g (hSh.ap _ x))
 ·by_cases hgc:g=c
  ·subst hgc;exact⟨t.size,by simp[Trace.g?,hlast],before i hg (Nat.le_of_not_lt fun hl=>(h'.after i hl hg).1 hcn)⟩
  ·exact h'.core.over i g hg hne hgc hcn
open Go.ConcN (sumTo upd sumTo_upd upd_ne upd_same)
structure RB (p:Par)(E Dn:Nat)(w w₁:World):Prop where
 tape:w₁.tape=w.tape
 os:w₁.os=w.os
 output:w₁.output=w.output
 kept:Kept p w w₁
 block: ∀b,b<w.heap.size-> ¬FA p w b->b≠E->b≠Dn->w₁.heap[b]? =w.heap[b]?
structure RA (p:Par)(w w₁:World):Prop where
 tape:w₁.tape=w.tape
 os:w₁.os=w.os
 output:w₁.output=w.output
 kept:Kept p w w₁
 block: ∀b,FA p w b->w₁.heap[b]? =w.heap[b]?
 still: ∀b cs ty fl,(∃i,p.Still (.cell ⟨b,i,none⟩))->w.heap[b]? =some (.cells cs ty fl)->w₁.heap[b]? =some (.cells cs ty fl)
theorem ip (p:Par)(w:World)(d:Nat):Kept p w (w.at d):=⟨Nat.le_refl _,fun _ h=>h,fun _ _ h=>h⟩
theorem RB.refl (p:Par)(E Dn:Nat)(w:World):RB p E Dn w w:=⟨rfl,rfl,rfl,Kept.refl p w,fun _ _ _ _ _=>rfl⟩
theorem RB.at (p:Par)(E Dn:Nat)(w:World)(d:Nat):RB p E Dn w (w.at d):=⟨rfl,rfl,rfl,ip p w d,fun _ _ _ _ _=>rfl⟩
theorem RB.trans {p:Par}{E Dn:Nat}(a b c:World)(h:RB p E Dn a b)(k:RB p E Dn b c):RB p E Dn a c:=
 ⟨k.tape.trans h.tape,k.os.trans h.os,k.output.trans h.output,h.kept.trans k.kept,
  fun x hl hn he hd=>(k.block x (Nat.lt_of_lt_of_le hl h.kept.size) (h.kept.nf x hl hn) he hd).trans (h.block x hl hn he hd)⟩
theorem RA.refl (p:Par)(w:World):RA p w w:=⟨rfl,rfl,rfl,Kept.refl p w,fun _ _=>rfl,fun _ _ _ _ _ h=>h⟩
theorem RA.at (p:Par)(w:World)(d:Nat):RA p w (w.at d):=⟨rfl,rfl,rfl,ip p w d,fun _ _=>rfl,fun _ _ _ _ _ h=>h⟩
theorem RA.trans {p:Par}(a b c:World)(h:RA p a b)(k:RA p b c):RA p a c:=
 ⟨k.tape.trans h.tape,k.os.trans h.os,k.output.trans h.output,h.kept.trans k.kept,fun x hx=>(k.block x (h.kept.fa x hx)).trans (h.block x hx),fun x cs ty fl hs hx=>k.still x cs ty fl hs (h.still x cs ty fl hs hx)⟩
theorem eO {w:World}{c cap:Nat}{buf:Array Value}{cl:Bool}{s r:Nat}{tm:Bool}{o:Obj}(h:w.heap[c]? =some o):(w.setChan c cap buf cl s r tm).heap[c]? =some (.chan cap buf cl s r tm):=by
 have hlt:=(Array.getElem?_eq_some_iff.1 h).1;simp[World.setChan,hlt]
theorem cv {w:World}{c cap:Nat}{buf:Array Value}{cl:Bool}{s r:Nat}{tm:Bool}{b:Nat}(h:b≠c):(w.setChan c cap buf cl s r tm).heap[b]? =w.heap[b]? :=by
 simp[World.setChan,Array.getElem?_setIfInBounds_ne (Ne.symm h)]
section
variable {p:Par}{w:World}{c cap cap':Nat}{buf buf':Array Value}{cl cl':Bool}{s r s' r':Nat}{tm tm':Bool}
theorem fH (h:w.heap[c]? =some (.chan cap buf cl s r tm)): ¬FA p w c:=by
 rintro⟨_,o,ho,hi⟩;rw[h] at ho;cases ho;simp[isEv] at hi
theorem dp (h:w.heap[c]? =some (.chan cap buf cl s r tm)):Kept p w (w.setChan c cap' buf' cl' s' r' tm'):=by
 refine⟨by simp[World.setChan],fun b hb=> ?_,fun b hl hn hb=> ?_⟩
 ·have hne:b≠c:=fun e=>fH h (e▸hb);obtain⟨x,o,ho,hi⟩:=hb;exact⟨x,o,by rw[cv hne];exact ho,hi⟩
 ·obtain⟨x,o,ho,hi⟩:=hb;by_cases e:b=c
  ·subst e;rw[eO h] at ho;cases ho;simp[isEv] at hi
  ·rw[cv e] at ho;exact hn ⟨x,o,ho,hi⟩
theorem gT (h:w.heap[c]? =some (.chan cap buf cl s r tm)):RA p w (w.setChan c cap' buf' cl' s' r' tm'):=
 ⟨rfl,rfl,rfl,dp h,fun b hb=>cv fun e=>fH h (e▸hb),fun b cs ty fl _ hb=>(cv fun e=>by rw[e,h] at hb;cases hb).trans hb⟩
theorem gU {E Dn:Nat}(h:w.heap[c]? =some (.chan cap buf cl s r tm))(hc:c=E\/c=Dn):RB p E Dn w (w.setChan c cap' buf' cl' s' r' tm'):=
 ⟨rfl,rfl,rfl,dp h,fun b _ _ h1 h2=>cv fun e=>hc.elim (fun z=>h1 (e.trans z)) (fun z=>h2 (e.trans z))⟩
end
section
variable (P:Program)(p:Par)(Shun:Loc->Prop)(E Dn:Nat)(zE zD:Value)(PostB:World->Prop)(After Fin:Goroutine->World->Prop)
def selCases:Array CommCase:= #[rcase E zE,rcase Dn zD]
def DG (w w':World)(es:Array Event):Prop:=RB p E Dn w w'/\w'.heap[E]? =w.heap[E]? /\w'.heap[Dn]? =w.heap[Dn]? /\ ∀e∈es,EvA p w' e
def DT (w w':World)(es:Array Event):Prop:=RA p w w'/\w'.heap[E]? =w.heap[E]? /\w'.heap[Dn]? =w.heap[Dn]? /\ ∀e∈es,EvB p Shun w' e
def AtSel (K:Goroutine->World->Prop)(g:Goroutine)(w:World):Prop:=
 g.status= .running/\ ∃es,stepG P true g w= .comm (core g) (selCases E Dn zE zD) true .select w es/\(∀e∈es,EvA p w e)/\ ∀w₂,RA p w w₂->K (core g) w₂
def Gathers:List Value->Goroutine->World->Prop
 |[],g,w=> ∃n,Goes P true (RA p) (DG p E Dn) (AtSel P p E Dn zE zD fun g₂ w₂=>PostB w₂->Fin (Conc.served g₂ (commResult (selCases E Dn zE zD) .select 1 zD false)) w₂) n g w
 |v::vs,g,w=> ∃n,Goes P true (RA p) (DG p E Dn) (AtSel P p E Dn zE zD fun g₂ w₂=>Gathers vs (Conc.served g₂ (commResult (selCases E Dn zE zD) .select 0 v true)) w₂) n g w
def StopG:List Value->Goroutine->World->Prop
 |[]=>AtSel P p E Dn zE zD fun g₂ w₂=>PostB w₂->Fin (Conc.served g₂ (commResult (selCases E Dn zE zD) .select 1 zD false)) w₂
 |v::vs=>AtSel P p E Dn zE zD fun g₂ w₂=>Gathers P p E Dn zE zD PostB Fin vs (Conc.served g₂ (commResult (selCases E Dn zE zD) .select 0 v true)) w₂
theorem cN (vs:List Value)(g:Goroutine)(w:World):Gathers P p E Dn zE zD PostB Fin vs g w↔ ∃n,Goes P true (RA p) (DG p E Dn) (StopG P p E Dn zE zD PostB Fin vs) n g w:=by
 cases vs<;>exact Iff.rfl
def AtTell (v:Value)(K:Goroutine->World->Prop)(g:Goroutine)(w:World):Prop:=
 g.status= .running/\ ∃es z',stepG P false g w= .comm (core g) #[scase E v z'] true .send w es/\(∀e∈es,EvB p Shun w e)/\ ∀w₂,RB p E Dn w w₂->K (core g) w₂
def AtOver (g:Goroutine)(w:World):Prop:=
 g.status= .running/\mayWake P g=true/\PostB w/\ ∃g',g'.status= .running/\(w.heap[Dn]? =some (.chan 0 #[] false 0 0 false)->stepG P false g w= .go g' (w.setChan Dn 0 #[] true 0 0 false) (closeEvents Dn))/\
  After g' (w.setChan Dn 0 #[] true 0 0 false)
def Tells:List Value->Goroutine->World->Prop
 |[],g,w=> ∃n,Goes P false (RB p E Dn) (DT p Shun E Dn) (AtOver P Dn PostB After) n g w
 |v::vs,g,w=> ∃n,Goes P false (RB p E Dn) (DT p Shun E Dn) (AtTell P p Shun E Dn v fun g₂ w₂=>Tells vs (Conc.served g₂ undef) w₂) n g w
def StopT:List Value->Goroutine->World->Prop
 |[]=>AtOver P Dn PostB After
 |v::vs=>AtTell P p Shun E Dn v fun g₂ w₂=>Tells P p Shun E Dn PostB After vs (Conc.served g₂ undef) w₂
theorem eY (vs:List Value)(g:Goroutine)(w:World):Tells P p Shun E Dn PostB After vs g w↔ ∃n,Goes P false (RB p E Dn) (DT p Shun E Dn) (StopT P p Shun E Dn PostB After vs) n g w:=by
 cases vs<;>exact Iff.rfl
def SitG (vs:List Value)(ra:Nat)(a:Goroutine)(w:World):Prop:=
 (∃n,ra=n+1/\Goes P true (RA p) (DG p E Dn) (StopG P p E Dn zE zD PostB Fin vs) n a w)\/
 (ra=0/\ ∃g,a=parked (core g) (selCases E Dn zE zD) .select/\ ∀w₁,RA p w w₁->StopG P p E Dn zE zD PostB Fin vs g w₁)
def SitT (vs:List Value)(rb:Nat)(b:Goroutine)(w:World):Prop:=
 (∃n,rb=n+1/\Goes P false (RB p E Dn) (DT p Shun E Dn) (StopT P p Shun E Dn PostB After vs) n b w)\/
 (rb=0/\ ∃v vs' g z',vs=v::vs'/\b=parked (core g) #[scase E v z'] .send/\ ∀w₂,RB p E Dn w w₂->Tells P p Shun E Dn PostB After vs' (Conc.served (core g) undef) w₂)
end
section
variable {P:Program}{p:Par}{Shun:Loc->Prop}{E Dn:Nat}{zE zD:Value}{PostB:World->Prop}{After Fin:Goroutine->World->Prop}
theorem StopG.sel {vs:List Value}{g:Goroutine}{w:World}(h:StopG P p E Dn zE zD PostB Fin vs g w):
 g.status= .running/\ ∃es,stepG P true g w= .comm (core g) (selCases E Dn zE zD) true .select w es/\ ∀e∈es,EvA p w e:=by
 cases vs<;>exact let ⟨h0,es,h1,h2,_⟩:=h;⟨h0,es,h1,h2⟩
theorem StopG.running {vs:List Value}{g:Goroutine}{w:World}(h:StopG P p E Dn zE zD PostB Fin vs g w):g.status= .running:=h.sel.1
theorem StopG.cons {v:Value}{vs:List Value}{g:Goroutine}{w:World}(h:StopG P p E Dn zE zD PostB Fin (v::vs) g w):
 ∀w₂,RA p w w₂->Gathers P p E Dn zE zD PostB Fin vs (Conc.served (core g) (commResult (selCases E Dn zE zD) .select 0 v true)) w₂:=let ⟨_,_,_,_,h3⟩:=h;h3
theorem StopG.nil {g:Goroutine}{w:World}(h:StopG P p E Dn zE zD PostB Fin [] g w):
 ∀w₂,RA p w w₂->PostB w₂->Fin (Conc.served (core g) (commResult (selCases E Dn zE zD) .select 1 zD false)) w₂:=let ⟨_,_,_,_,h3⟩:=h;h3
theorem StopG.tries {vs:List Value}{g:Goroutine}{w:World}(h:StopG P p E Dn zE zD PostB Fin vs g w):
 StopG P p E Dn zE zD PostB Fin vs {parked (core g) (selCases E Dn zE zD) .select with status:= .running} w:=by
 have e:stepG P true {parked (core g) (selCases E Dn zE zD) .select with status:= .running} w=stepG P true g w:=stepG_same rfl rfl rfl w;cases vs<;>exact let ⟨_,es,h1,h2,h3⟩:=h;⟨rfl,es,by rw[e];exact h1,h2,h3⟩
theorem StopT.running {vs:List Value}{g:Goroutine}{w:World}(h:StopT P p Shun E Dn PostB After vs g w):g.status= .running:=by cases vs<;>exact h.1
theorem SitG.rely {vs:List Value}{ra:Nat}{a:Goroutine}{w w₁:World}(h:SitG P p E Dn zE zD PostB Fin vs ra a w)(hr:RA p w w₁):SitG P p E Dn zE zD PostB Fin vs ra a w₁:=by
 rcases h with ⟨n,e,hg⟩|⟨e,g,ea,hs⟩
 ·exact .inl ⟨n,e,Goes.rely RA.trans hg hr⟩
 ·exact .inr ⟨e,g,ea,fun w₂ h₂=>hs w₂ (hr.trans _ _ _ h₂)⟩
theorem SitT.rely {vs:List Value}{rb:Nat}{b:Goroutine}{w w₁:World}(h:SitT P p Shun E Dn PostB After vs rb b w)(hr:RB p E Dn w w₁):SitT P p Shun E Dn PostB After vs rb b w₁:=by
 rcases h with ⟨n,e,hg⟩|⟨e,v,vs',g,z',ev,eb,hs⟩
 ·exact .inl ⟨n,e,Goes.rely RB.trans hg hr⟩
 ·exact .inr ⟨e,v,vs',g,z',ev,eb,fun w₂ h₂=>hs w₂ (hr.trans _ _ _ h₂)⟩
theorem SitG.status {vs:List Value}{ra:Nat}{a:Goroutine}{w:World}(h:SitG P p E Dn zE zD PostB Fin vs ra a w):(a.status= .running/\0<ra)\/(a.status= .blocked/\ra=0):=by
 rcases h with ⟨n,e,hg⟩|⟨e,g,rfl,_⟩
 ·exact .inl ⟨hg.running (fun _ _=>StopG.running) w (RA.refl p w),by omega⟩
 ·exact .inr ⟨rfl,e⟩
theorem SitT.status {vs:List Value}{rb:Nat}{b:Goroutine}{w:World}(h:SitT P p Shun E Dn PostB After vs rb b w):(b.status= .running/\0<rb)\/(b.status= .blocked/\rb=0):=by
 rcases h with ⟨n,e,hg⟩|⟨e,v,vs',g,z',_,rfl,_⟩
 ·exact .inl ⟨hg.running (fun _ _=>StopT.running) w (RB.refl p E Dn w),by omega⟩
 ·exact .inr ⟨rfl,e⟩
theorem SitG.again {vs:List Value}{ra:Nat}{a:Goroutine}{w w':World}{cE bE sE rE cD bD sD rD tE tD}(h:SitG P p E Dn zE zD PostB Fin vs ra a w)(hE:w'.heap[E]? =some (.chan cE bE false sE rE tE))(hD:w'.heap[Dn]? =some (.chan cD bD false sD rD tD)):a.again w'=a:=by
 rcases h with ⟨n,e,hg⟩|⟨e,g,rfl,_⟩
 ·exact again_running _ (.inl (hg.running (fun _ _=>StopG.running) w (RA.refl p w)))
 ·refine again_all_open fun cc hcc=> ?_;simp only[selCases,List.mem_toArray,List.mem_cons,List.not_mem_nil,or_false] at hcc;rcases hcc with rfl|rfl
  ·exact⟨E,zE,_,_,_,_,_,rfl,hE⟩
  ·exact⟨Dn,zD,_,_,_,_,_,rfl,hD⟩
theorem SitT.again {vs:List Value}{rb:Nat}{b:Goroutine}{w w':World}{cE bE sE rE tE}(h:SitT P p Shun E Dn PostB After vs rb b w)(hE:w'.heap[E]? =some (.chan cE bE false sE rE tE)):b.again w'=b:=by
 rcases h with ⟨n,e,hg⟩|⟨e,v,vs',g,z',_,rfl,_⟩
 ·exact again_running _ (.inl (hg.running (fun _ _=>StopT.running) w (RB.refl p E Dn w)))
 ·exact again_send_open hE
end
structure Crew (P:Program)(c:Nat)(gs:Array Goroutine)(a b:Goroutine)(T:Trace)(q:Nat->Nat):Prop where
 size:gs.size=c+1
 pos:0<c
 h0:gs[0]? =some a
 hc:gs[c]? =some b
 old: ∀i g,0<i->i<c->gs[i]? =some g->QuitsD P (q i) (Deaf T i) g
 above: ∀j,c<j->Deaf T j=0
section
variable {P:Program}{c:Nat}{gs:Array Goroutine}{a b a' b':Goroutine}{T u:Trace}{q:Nat->Nat}{w':World}
theorem Crew.awake (C:Crew P c gs a b T q)(ha:awake a)(hb:awake b): ∀g∈gs,Conc.awake g:=by
 intro g hg;obtain⟨i,hi,rfl⟩:=Array.mem_iff_getElem.1 hg;have hgi:gs[i]? =some gs[i]:=Array.getElem?_eq_getElem hi;by_cases h0:i=0
 ·subst h0;rw[C.h0] at hgi;rw[<-Option.some.inj hgi];exact ha
 ·by_cases h1:i=c
  ·subst h1;rw[C.hc] at hgi;rw[<-Option.some.inj hgi];exact hb
  ·exact awake_of ((C.old i _ (by omega) (by have:=C.size;omega) hgi).status.elim .inl fun x=> .inr (.inr x))
theorem Crew.put (C:Crew P c gs a b T q){gs':Array Goroutine}(hsz:gs'.size=gs.size)(h0:gs'[0]? =some a')(hc:gs'[c]? =some b')(ho: ∀x,x≠0->x≠c->gs'[x]? =gs[x]?) (hu: ∀op∈u,op.g=0\/op.g=c):
 Crew P c gs' a' b' (T++u) q:=by
 have hd: ∀j,j≠0->j≠c->Deaf (T++u) j=Deaf T j:=by
  intro j hj0 hjc;obtain⟨l⟩:=u;rw[Deaf_append];have: ∀(l:List MemOp)(d:Nat),(∀op∈l,op.g=0\/op.g=c)->l.foldl (deafStep j) d=d:=by
   intro l
   induction l with
   |nil=>intro d _;rfl
   |cons y l ih=>
    intro d hl;have hy:y.g≠j:=fun e=>(hl y (by simp)).elim (fun z=>hj0 (e.symm.trans z)) (fun z=>hjc (e.symm.trans z));have e1:deafStep j d y=d:=by
     obtain⟨g,fn,pos,act⟩:=y;simp only at hy;cases act with
     |mark m=>cases m<;>simp[deafStep,hy]
     |_=>simp[deafStep]
    rw[List.foldl_cons,e1];exact ih d fun op hop=>hl op (by simp[hop])
  exact this l _ fun op hop=>hu op (by simpa using hop)
 refine⟨hsz.trans C.size,C.pos,h0,hc,fun i g hi hic hg=> ?_,fun j hj=> ?_⟩
 ·rw[ho i (by omega) (by omega)] at hg;rw[hd i (by omega) (by omega)];exact C.old i g hi hic hg
 ·rw[hd j (by omega) (by omega)];exact C.above j hj
theorem dM {P:Program}{g g' x:Goroutine}{w:World}(h:x.again w=x):woken P g g' w x=x:=woken_of_again h
theorem Crew.step0 (C:Crew P c gs a b T q)(hb:b.again w'=b)(hu: ∀op∈u,op.g=0):Crew P c ((gs.map (woken P a a' w')).setIfInBounds 0 a') a' b (T++u) q:=by
 have hp:=C.pos;have hs:=C.size;refine C.put (by simp) (by simp[hs]) ?_ (fun x h0 hxc=> ?_) fun op hop=> .inl (hu op hop)
 ·rw[Array.getElem?_setIfInBounds_ne (by omega),Array.getElem?_map,C.hc];simp[dM hb]
 ·rw[Array.getElem?_setIfInBounds_ne (Ne.symm h0),Array.getElem?_map];cases hx:gs[x]? with
  |none=>rfl
  |some y=>
   have hlt:=(Array.getElem?_eq_some_iff.1 hx).1;simp[woken_quitsD (C.old x y (by omega) (by omega) hx)]
theorem Crew.stepc (C:Crew P c gs a b T q)(ha:woken P b b' w' a=a')(hu: ∀op∈u,op.g=c):Crew P c ((gs.map (woken P b b' w')).setIfInBounds c b') a' b' (T++u) q:=by
 have hp:=C.pos;have hs:=C.size;refine C.put (by simp) ?_ (by simp[hs]) (fun x h0 hxc=> ?_) fun op hop=> .inr (hu op hop)
 ·rw[Array.getElem?_setIfInBounds_ne (by omega),Array.getElem?_map,C.h0];simp[ha]
 ·rw[Array.getElem?_setIfInBounds_ne (Ne.symm hxc),Array.getElem?_map];cases hx:gs[x]? with
  |none=>rfl
  |some y=>
   have hlt:=(Array.getElem?_eq_some_iff.1 hx).1;simp[woken_quitsD (C.old x y (by omega) (by omega) hx)]
theorem Crew.leaver (C:Crew P c gs a b T q){i:Nat}{g:Goroutine}(hi:gs[i]? =some g)(h0:i≠0)(hic:i≠c)(hrun:g.status= .running)(sl:Option (Nat×Nat))(w:World):
 ∃g' es k,q i=k+1/\runT P (crowd gs w sl) i=(.next (crowd ((gs.map (woken P g g' w)).setIfInBounds i g') w sl),MemOp.ofEvents i g.frame.fn g.frame.place es)/\(∀e∈es,e.mute=true)/\
  Crew P c ((gs.map (woken P g g' w)).setIfInBounds i g') (woken P g g' w a) (woken P g g' w b) (T++MemOp.ofEvents i g.frame.fn g.frame.place es) (upd q i k):=by
 have hlt:i<gs.size:=(Array.getElem?_eq_some_iff.1 hi).1;have hs:=C.size;have hq:=C.old i g (by omega) (by omega) hi;have hi0:(i==0)=false:=by simp[h0]
 cases hqi:q i with
 |zero=>rw[hqi] at hq;rw[hq.1] at hrun;cases hrun
 |succ k=>
  rw[hqi] at hq;rcases hq with ⟨hf,_⟩|⟨_,g',es,hm,hstp,hq'⟩
  ·rw[hf] at hrun;cases hrun
  have hops: ∀op∈MemOp.ofEvents i g.frame.fn g.frame.place es,op.g=i:=fun op hop=>by obtain⟨_,_,rfl⟩:=Conc.mem_ofEvents hop;rfl
  refine⟨g',es,k,rfl,runT_crowd_go hi (by rw[hi0];exact hstp w),hm,by simp[hs],C.pos, ?_, ?_,fun j x hj hjc hx=> ?_,fun j hj=>by rw[Deaf_other T (by omega) _ hops];exact C.above j hj⟩
  ·rw[Array.getElem?_setIfInBounds_ne h0,Array.getElem?_map,C.h0];rfl
  ·rw[Array.getElem?_setIfInBounds_ne hic,Array.getElem?_map,C.hc];rfl
  ·by_cases hji:i=j
   ·subst hji;rw[Array.getElem?_setIfInBounds_self_of_lt (by simpa using hlt)] at hx;obtain rfl:=Option.some.inj hx;rw[upd_same,Deaf_own];exact hq'
   ·rw[Array.getElem?_setIfInBounds_ne hji,Array.getElem?_map] at hx;obtain⟨y,hy,rfl⟩:=Option.map_eq_some_iff.1 hx;have hqj:=C.old j y hj hjc hy;rw[woken_quitsD hqj,upd_ne q k (Ne.symm hji),Deaf_other T hji _ hops];exact hqj
theorem fw {c i k:Nat}{q:Nat->Nat}(hic:i<c)(hq:q i=k+1):sumTo c (upd q i k)+1=sumTo c q:=by
 have:=sumTo_upd q k id hic;simp only[id,hq] at this;have h2:sumTo c (fun a=>upd q i k a)=sumTo c (upd q i k):=rfl;have h3:sumTo c (fun a=>q a)=sumTo c q:=rfl;omega
theorem Crew.noOffer (C:Crew P c gs a b T q){x:Nat}{y:Goroutine}(h0:x≠0)(hc:x≠c)(hx:gs[x]? =some y)(ch:Nat)(s:Bool):offersAt y ch s=[]:=by
 have hlt:x<gs.size:=(Array.getElem?_eq_some_iff.1 hx).1;have hs:=C.size;have hq:=C.old x y (by omega) (by omega) hx;exact offersAt_of_not_blocked (fun hb=>by rcases hq.status with z|z<;>rw[z] at hb<;>cases hb) ch s
end
open Go.ConcN (sumTo upd sumTo_upd upd_ne upd_same)
abbrev LtP:Nat×Nat->Nat×Nat->Prop:=Prod.Lex (· < ·) (· < ·)
theorem Dx:WellFounded LtP:=(Prod.lex Nat.lt_wfRel Nat.lt_wfRel).wf
section
variable (P:Program)(p:Par)(Shun:Loc->Prop)(E Dn:Nat)(zE zD:Value)(PostB:World->Prop)(After Fin:Goroutine->World->Prop)(c:Nat)
def Inv1 (μ:Nat×Nat)(M:Machine)(T:Trace):Prop:=
 ∃(gs:Array Goroutine) (a b:Goroutine) (w:World) (sl:Option (Nat×Nat)) (q:Nat->Nat) (vs:List Value) (k ra rb:Nat),
  M=crowd gs w sl/\Crew P c gs a b T q/\Talk p Shun c w T 0/\w.heap[E]? =some (.chan 0 #[] false k k false)/\w.heap[Dn]? =some (.chan 0 #[] false 0 0 false)/\
  SitG P p E Dn zE zD PostB Fin vs ra a w/\SitT P p Shun E Dn PostB After vs rb b w/\0<ra+rb/\μ=(vs.length,ra+rb+sumTo c q)
def Shut1 (M:Machine)(T:Trace):Prop:=
 ∃(gs:Array Goroutine) (a b:Goroutine) (w:World) (sl:Option (Nat×Nat)) (q:Nat->Nat) (k:Nat),
  M=crowd gs w sl/\Crew P c gs a b T q/\Talk p Shun c w T 0/\w.heap[E]? =some (.chan 0 #[] false k k false)/\w.heap[Dn]? =some (.chan 0 #[] true 0 0 false)/\PostB w/\
  Gathers P p E Dn zE zD PostB Fin [] a w/\After b w/\b.status= .running
end
section
variable {P:Program}{p:Par}{Shun:Loc->Prop}{E Dn:Nat}{zE zD:Value}{PostB:World->Prop}{After Fin:Goroutine->World->Prop}{c:Nat}
theorem kx {g1 g2 g3 g4:Nat}{f1 f2 f3 f4:FuncId}{p1 p2 p3 p4:String}{ch s r k cap:Nat}{p:Par}{Shun:Loc->Prop}{c:Nat}{w:World}{t:Trace}(h:Talk p Shun c w t 0):
 Talk p Shun c w (t++ #[{g:=g1,fn:=f1,pos:=p1,act:= .send ch s},{g:=g2,fn:=f2,pos:=p2,act:= .recv ch r cap},{g:=g3,fn:=f3,pos:=p3,act:= .sendDone ch k},{g:=g4,fn:=f4,pos:=p4,act:= .recvDone ch r}]) 0:=by
 refine h.still (fun op hop=> ?_) (fun g=> ?_)
 ·simp only[List.mem_toArray,List.mem_cons,List.not_mem_nil,or_false] at hop;rcases hop with rfl|rfl|rfl|rfl<;>rfl
 ·rw[show (#[{g:=g1,fn:=f1,pos:=p1,act:= .send ch s},{g:=g2,fn:=f2,pos:=p2,act:= .recv ch r cap},{g:=g3,fn:=f3,pos:=p3,act:= .sendDone ch k},{g:=g4,fn:=f4,pos:=p4,act:= .recvDone ch r}]:Trace)
   =([{g:=g1,fn:=f1,pos:=p1,act:= .send ch s},{g:=g2,fn:=f2,pos:=p2,act:= .recv ch r cap},{g:=g3,fn:=f3,pos:=p3,act:= .sendDone ch k},{g:=g4,fn:=f4,pos:=p4,act:= .recvDone ch r}]:List MemOp).toArray from rfl,Deaf_append]
  simp[deafStep]
theorem sM (hED:E≠Dn)(hc0:c≠0)(hDN:Dn<p.N0)(hSh:ShOk p Shun)(hDS: ∀l,Shun l->l≠ .obj Dn) (hPb: ∀w w₁,RB p E Dn w w₁->PostB w->PostB w₁)
 {μ:Nat×Nat} {M:Machine} {T:Trace} (h:Inv1 P p Shun E Dn zE zD PostB After Fin c μ M T):
 ∃M' ops,stepT P M=(.next M',ops)/\((∃μ',LtP μ' μ/\Inv1 P p Shun E Dn zE zD PostB After Fin c μ' M' (T++ops))\/Shut1 P p Shun E Dn zE zD PostB After Fin c M' (T++ops)):=by
 obtain⟨gs,a,b,w₀,sl₀,q,vs,k,ra,rb,rfl,C,hT₀,hE₀,hD₀,hA₀,hB₀,hpos,rfl⟩:=h;have sa:=hA₀.status;have sb:=hB₀.status;have aw:=C.awake (awake_of (sa.elim (fun x=> .inl x.1) (fun x=> .inr (.inl x.1)))) (awake_of (sb.elim (fun x=> .inl x.1) (fun x=> .inr (.inl x.1))));have some1: ∃(i:Nat) (g:Goroutine),gs[i]? =some g/\g.status= .running:=by
  rcases sa with x|x
  ·exact⟨0,a,C.h0,x.1⟩
  ·rcases sb with y|y
   ·exact⟨c,b,C.hc,y.1⟩
   ·omega
 obtain⟨i,g,d,sl,hi,hg,hst⟩:=crowd_pick (P:=P) (w:=w₀) (sl:=sl₀) aw some1;have hT:Talk p Shun c (w₀.at d) T 0:=hT₀.world (ip p w₀ d);have hE:(w₀.at d).heap[E]? =some (.chan 0 #[] false k k false):=hE₀;have hD:(w₀.at d).heap[Dn]? =some (.chan 0 #[] false 0 0 false):=hD₀;have hA:=hA₀.rely (RA.at p w₀ d);have hB:=hB₀.rely (RB.at p E Dn w₀ d);generalize w₀.at d=w at*;clear hT₀ hE₀ hD₀ hA₀ hB₀;have hilt:i<gs.size:=(Array.getElem?_eq_some_iff.1 hi).1;have hs:=C.size;have hcp:=C.pos;by_cases h0:i=0
 ·
  subst h0;obtain rfl:g=a:=by rw[C.h0] at hi;exact(Option.some.inj hi).symm
  obtain⟨n,rfl,hG⟩: ∃n,ra=n+1/\Goes P true (RA p) (DG p E Dn) (StopG P p E Dn zE zD PostB Fin vs) n g w:=by
   rcases hA with x|⟨_,g',rfl,_⟩
   ·exact x
   ·cases hg
  rcases hG.cases with hstop|⟨n',rfl,hstep⟩
  ·obtain⟨_,es,hcomm,hev⟩:=(hstop w (RA.refl p w)).sel;have hcomm0:stepG P (0==0) g w= .comm (core g) (selCases E Dn zE zD) true .select w es:=hcomm;have hTa:=hT.addA (Kept.refl p w) hSh g.frame.fn g.frame.place hev;have noD:partners (gs.setIfInBounds 0 ph) Dn true=[]:=partners_nil fun x y hy=>by
    rcases getElem?_stand gs 0 x y hy with ⟨_,rfl⟩|⟨hx,hy'⟩
    ·exact offersAt_ph _ _
    ·by_cases hxc:x=c
     ·subst hxc;rw[C.hc] at hy';obtain rfl:=Option.some.inj hy';rcases hB with ⟨_,_,hgo⟩|⟨_,v,vs',g',z',_,rfl,_⟩
      ·have:=hgo.running (fun _ _=>StopT.running) w (RB.refl p E Dn w);exact offersAt_of_not_blocked (fun hb=>by rw[this] at hb;cases hb) _ _
      ·rw[offersAt_parked_send,if_neg hED]
     ·exact C.noOffer hx hxc hy' _ _
   rcases hB with ⟨m,rfl,hgo⟩|⟨rfl,v,vs',gw,z',rfl,rfl,hnext⟩
   ·
    have rb':=hgo.running (fun _ _=>StopT.running) w (RB.refl p E Dn w);have noE:partners (gs.setIfInBounds 0 ph) E true=[]:=partners_nil fun x y hy=>by
     rcases getElem?_stand gs 0 x y hy with ⟨_,rfl⟩|⟨hx,hy'⟩
     ·exact offersAt_ph _ _
     ·by_cases hxc:x=c
      ·subst hxc;rw[C.hc] at hy';obtain rfl:=Option.some.inj hy';exact offersAt_of_not_blocked (fun hb=>by rw[rb'] at hb;cases hb) _ _
      ·exact C.noOffer hx hxc hy' _ _
    have hw: ∀cc∈selCases E Dn zE zD,NoWays w (gs.setIfInBounds 0 ph) cc:=by
     intro cc hcc;simp only[selCases,List.mem_toArray,List.mem_cons,List.not_mem_nil,or_false] at hcc;rcases hcc with rfl|rfl
     ·exact ways_recv_none hE noE
     ·exact ways_recv_none hD noD
    refine⟨_,_,hst.trans (crowd_waits hi hcomm0 hw), .inl ⟨(vs.length,0+(m+1)+sumTo c q), .right _ (by omega),_,_,b,w,sl,q,vs,k,0,m+1,rfl,
     C.put (by simp) (by simp[hilt]) (by rw[Array.getElem?_setIfInBounds_ne (by omega)];exact C.hc) (fun x hx _=>Array.getElem?_setIfInBounds_ne (Ne.symm hx)) (fun op hop=> .inl (by obtain⟨_,_,rfl⟩:=Conc.mem_ofEvents hop;rfl)),
     hTa,hE,hD, .inr ⟨rfl,g,rfl,hstop⟩, .inl ⟨m,rfl,hgo⟩,by omega,rfl⟩⟩
   ·
    have oneE:partners (gs.setIfInBounds 0 ph) E true=[(c,0)]:=by
     have hj:(gs.setIfInBounds 0 ph)[c]? =some (parked (core gw) #[scase E v z'] .send):=by rw[Array.getElem?_setIfInBounds_ne (by omega)];exact C.hc
     have:=partners_one (gs:=gs.setIfInBounds 0 ph) (r:=E) (send:=true) hj (fun x y hxc hy=>by
      rcases getElem?_stand gs 0 x y hy with ⟨_,rfl⟩|⟨hx,hy'⟩
      ·exact offersAt_ph _ _
      ·exact C.noOffer hx hxc hy' _ _)
     rw[this,offersAt_parked_send,if_pos rfl];rfl
    have hrun:=crowd_sel_recv_meets (sl:=sl) (k:=0) (c:=E) (j:=c) (z:=zE) hi hcomm0 rfl
     (fun m c' hm hc'=>by
      rcases m with _|_|m
      ·omega
      ·have:c'=rcase Dn zD:=by simpa [selCases] using hc'.symm
       subst this;exact ways_recv_none hD noD
      ·simp[selCases] at hc') hE (by omega) C.hc oneE
    have hk':=dp (p:=p) (cap':=0) (buf':= #[]) (cl':=false) (s':=k+1) (r':=k+1) (tm':=false) hE;obtain⟨nA,hnA⟩:=(cN P p E Dn zE zD PostB Fin vs' _ _).1 ((hstop w (RA.refl p w)).cons _ (gT (cap':=0) (buf':= #[]) (cl':=false) (s':=k+1) (r':=k+1) (tm':=false) hE));obtain⟨nB,hnB⟩:=(eY P p Shun E Dn PostB After vs' _ _).1 (hnext _ (gU (cap':=0) (buf':= #[]) (cl':=false) (s':=k+1) (r':=k+1) (tm':=false) hE (.inl rfl)))
    refine⟨_,_,hst.trans hrun, .inl ⟨(vs'.length,(nA+1)+(nB+1)+sumTo c q), .left _ _ (by simp),_,_,_,_,sl,q,vs',k+1,nA+1,nB+1,rfl,
     C.put (by simp) (by simp[hilt];rfl) (by rw[Array.getElem?_setIfInBounds_ne (by omega)];simp[hs];rfl) (fun x hx hxc=>by rw[Array.getElem?_setIfInBounds_ne (Ne.symm hx),Array.getElem?_setIfInBounds_ne (Ne.symm hxc)]) (fun op hop=> ?_),
     ?_,eO hE,by rw[cv (Ne.symm hED)];exact hD, .inl ⟨nA,rfl,hnA⟩, .inl ⟨nB,rfl,hnB⟩,by omega,rfl⟩⟩
    ·rcases Array.mem_append.1 hop with x|x
     ·obtain⟨_,_,rfl⟩:=Conc.mem_ofEvents x;exact .inl rfl
     ·simp only[List.mem_toArray,List.mem_cons,List.not_mem_nil,or_false] at x;rcases x with rfl|rfl|rfl|rfl
      ·exact .inr rfl
      ·exact .inl rfl
      ·exact .inr rfl
      ·exact .inl rfl
    ·rw[<-Array.append_assoc];exact kx (hTa.world hk')
  ·
   obtain⟨a',w',es,hgo,⟨hR,hE',hD',hev⟩,hG'⟩:=hstep w (RA.refl p w);have hE2:=hE'.trans hE;have hD2:=hD'.trans hD
   refine⟨_,_,hst.trans (runT_crowd_go hi (show stepG P (0==0) g w=_ from hgo)), .inl ⟨(vs.length,(n'+1)+rb+sumTo c q), .right _ (by omega),_,a',b,w',sl,q,vs,k,n'+1,rb,rfl,
    C.step0 (hB.again hE2) (fun op hop=>by obtain⟨_,_,rfl⟩:=Conc.mem_ofEvents hop;rfl),hT.addA hR.kept hSh _ _ hev,hE2,hD2, .inl ⟨n',rfl,hG'⟩,hB.rely hR,by omega,rfl⟩⟩
 by_cases h1:i=c
 ·
  subst h1;obtain rfl:g=b:=by rw[C.hc] at hi;exact(Option.some.inj hi).symm
  have hi0:(i==0)=false:=by simp[h0]
  obtain⟨n,rfl,hG⟩: ∃n,rb=n+1/\Goes P false (RB p E Dn) (DT p Shun E Dn) (StopT P p Shun E Dn PostB After vs) n g w:=by
   rcases hB with x|⟨_,v,vs',g',z',_,rfl,_⟩
   ·exact x
   ·cases hg
  rcases hG.cases with hstop|⟨n',rfl,hstep⟩
  ·cases vs with
   |nil=>
    obtain⟨_,hmw,hpost,g',hg',hgo,hafter⟩:AtOver P Dn PostB After g w:=hstop w (RB.refl p E Dn w);have hgo:=hgo hD;have hk':=dp (p:=p) (cap':=0) (buf':= #[]) (cl':=true) (s':=0) (r':=0) (tm':=false) hD;have hDt:=eO (cap:=0) (buf:= #[]) (cl:=true) (s:=0) (r:=0) (tm:=false) hD;have hRA:=gT (p:=p) (cap':=0) (buf':= #[]) (cl':=true) (s':=0) (r':=0) (tm':=false) hD;have key:Gathers P p E Dn zE zD PostB Fin [] (woken P g g' (w.setChan Dn 0 #[] true 0 0 false) a) (w.setChan Dn 0 #[] true 0 0 false):=by
     rw[cN];rcases hA with ⟨m,_,hgoA⟩|⟨_,ga,rfl,hsA⟩
     ·rw[dM (again_running _ (.inl (hgoA.running (fun _ _=>StopG.running) w (RA.refl p w))))];exact⟨m,Goes.rely RA.trans hgoA hRA⟩
     ·refine⟨0,fun w₁ h₁=> ?_⟩;have e1:woken P g g' (w.setChan Dn 0 #[] true 0 0 false) (parked (core ga) (selCases E Dn zE zD) .select)={parked (core ga) (selCases E Dn zE zD) .select with status:= .running}:=by
       unfold woken;rw[if_pos (by simp[hmw,hg']),again_some_closed (k:=1) (c:=Dn) (z:=zD) rfl hDt]
      rw[e1];exact(hsA w₁ (hRA.trans _ _ _ h₁)).tries
    refine⟨_,_,hst.trans (runT_crowd_go hi (by rw[hi0];exact hgo)), .inr ⟨_,_,g',_,sl,q,k,rfl,C.stepc rfl (fun op hop=>by obtain⟨_,_,rfl⟩:=Conc.mem_ofEvents hop;rfl), ?_,by rw[cv hED];exact hE,hDt,hPb _ _ (gU hD (.inr rfl)) hpost,key,hafter,hg'⟩⟩;have hlt:Dn<(w.setChan Dn 0 #[] true 0 0 false).heap.size:=(Array.getElem?_eq_some_iff.1 hDt).1;refine hT.addB hk' _ _ fun e he=> ?_;simp only[closeEvents,List.mem_toArray,List.mem_cons,List.not_mem_nil,or_false] at he;rcases he with rfl|rfl
    ·refine⟨fun x hx _=> ?_,by simp,by simp⟩;simp only[MemAct.ofEvent,MemAct.touch?,Option.some.injEq] at hx;subst hx;exact⟨⟨Dn,rfl,hlt,fH hDt⟩,fun s=>absurd rfl (hDS _ s),fun _=>rfl⟩
    ·exact⟨fun x hx _=>by simp[MemAct.ofEvent,MemAct.touch?] at hx,by simp,by simp⟩
   |cons v vs'=>
    obtain⟨_,es,z',hcomm,hev,hnext⟩:AtTell P p Shun E Dn v (fun g₂ w₂=>Tells P p Shun E Dn PostB After vs' (Conc.served g₂ undef) w₂) g w:=hstop w (RB.refl p E Dn w);have hcomm0:stepG P (i==0) g w= .comm (core g) #[scase E v z'] true .send w es:=by rw[hi0];exact hcomm
    have hTc:=hT.addB (Kept.refl p w) g.frame.fn g.frame.place hev;rcases hA with ⟨m,rfl,hgo⟩|⟨rfl,ga,rfl,hsA⟩
    ·
     have ra':=hgo.running (fun _ _=>StopG.running) w (RA.refl p w);have noE:partners (gs.setIfInBounds i ph) E false=[]:=partners_nil fun x y hy=>by
      rcases getElem?_stand gs i x y hy with ⟨_,rfl⟩|⟨hx,hy'⟩
      ·exact offersAt_ph _ _
      ·by_cases hx0:x=0
       ·subst hx0;rw[C.h0] at hy';obtain rfl:=Option.some.inj hy';exact offersAt_of_not_blocked (fun hb=>by rw[ra'] at hb;cases hb) _ _
       ·exact C.noOffer hx0 hx hy' _ _
     have hw: ∀cc∈(#[scase E v z']:Array CommCase),NoWays w (gs.setIfInBounds i ph) cc:=by
      intro cc hcc;have:cc=scase E v z':=by simpa using hcc
      subst this;exact ways_send_none hE (Nat.zero_le _) noE
     refine⟨_,_,hst.trans (crowd_waits hi hcomm0 hw), .inl ⟨((v::vs').length,(m+1)+0+sumTo i q), .right _ (by omega),_,a,_,w,sl,q,v::vs',k,m+1,0,rfl,
      C.put (by simp) (by rw[Array.getElem?_setIfInBounds_ne h0];exact C.h0) (by simp[hilt]) (fun x _ hx=>Array.getElem?_setIfInBounds_ne (Ne.symm hx)) (fun op hop=> .inr (by obtain⟨_,_,rfl⟩:=Conc.mem_ofEvents hop;rfl)),
      hTc,hE,hD, .inl ⟨m,rfl,hgo⟩, .inr ⟨rfl,v,vs',g,z',rfl,rfl,hnext⟩,by omega,rfl⟩⟩
    ·
     have hoff:offersAt (parked (core ga) (selCases E Dn zE zD) .select) E false=[0]:=offersAt_parked_at (k:=0) (z:=zE) rfl (fun m cc hm hcc=>by
      rcases m with _|_|m
      ·omega
      ·have:cc=rcase Dn zD:=by simpa [selCases] using hcc.symm
       subst this;simp[rcase,Ne.symm hED]
      ·simp[selCases] at hcc)
     have oneE:partners (gs.setIfInBounds i ph) E false=[(0,0)]:=by
      have hj:(gs.setIfInBounds i ph)[0]? =some (parked (core ga) (selCases E Dn zE zD) .select):=by rw[Array.getElem?_setIfInBounds_ne h0];exact C.h0
      have:=partners_one (gs:=gs.setIfInBounds i ph) (r:=E) (send:=false) hj (fun x y hx0 hy=>by
       rcases getElem?_stand gs i x y hy with ⟨_,rfl⟩|⟨hx,hy'⟩
       ·exact offersAt_ph _ _
       ·exact C.noOffer hx0 hx hy' _ _)
      rw[this,hoff];rfl
     have hrun:=crowd_send_meets_sel (sl:=sl) (k:=0) (c:=E) (j:=0) (zj:=zE) hi hcomm0 hE (by omega) C.h0 rfl oneE;have hk':=dp (p:=p) (cap':=0) (buf':= #[]) (cl':=false) (s':=k+1) (r':=k+1) (tm':=false) hE;obtain⟨nA,hnA⟩:=(cN P p E Dn zE zD PostB Fin vs' _ _).1 ((hsA w (RA.refl p w)).cons _ (gT (cap':=0) (buf':= #[]) (cl':=false) (s':=k+1) (r':=k+1) (tm':=false) hE));obtain⟨nB,hnB⟩:=(eY P p Shun E Dn PostB After vs' _ _).1 (hnext _ (gU (cap':=0) (buf':= #[]) (cl':=false) (s':=k+1) (r':=k+1) (tm':=false) hE (.inl rfl)))
     refine⟨_,_,hst.trans hrun, .inl ⟨(vs'.length,(nA+1)+(nB+1)+sumTo i q), .left _ _ (by simp),_,_,_,_,sl,q,vs',k+1,nA+1,nB+1,rfl,
      C.put (by simp) (by rw[Array.getElem?_setIfInBounds_ne h0];simp[hs];rfl) (by simp[hilt];rfl) (fun x hx hxc=>by rw[Array.getElem?_setIfInBounds_ne (Ne.symm hxc),Array.getElem?_setIfInBounds_ne (Ne.symm hx)]) (fun op hop=> ?_),
      ?_,eO hE,by rw[cv (Ne.symm hED)];exact hD, .inl ⟨nA,rfl,hnA⟩, .inl ⟨nB,rfl,hnB⟩,by omega,rfl⟩⟩
     ·rcases Array.mem_append.1 hop with x|x
      ·obtain⟨_,_,rfl⟩:=Conc.mem_ofEvents x;exact .inr rfl
      ·simp only[List.mem_toArray,List.mem_cons,List.not_mem_nil,or_false] at x;rcases x with rfl|rfl|rfl|rfl
       ·exact .inr rfl
       ·exact .inl rfl
       ·exact .inr rfl
       ·exact .inl rfl
     ·rw[<-Array.append_assoc];exact kx (hTc.world hk')
  ·
   obtain⟨b',w',es,hgo,⟨hR,hE',hD',hev⟩,hG'⟩:=hstep w (RB.refl p E Dn w);have hE2:=hE'.trans hE;have hD2:=hD'.trans hD
   refine⟨_,_,hst.trans (runT_crowd_go hi (by rw[hi0];exact hgo)), .inl ⟨(vs.length,ra+(n'+1)+sumTo i q), .right _ (by omega),_,a,b',w',sl,q,vs,k,ra,n'+1,rfl,
    C.stepc (dM (hA.again hE2 hD2)) (fun op hop=>by obtain⟨_,_,rfl⟩:=Conc.mem_ofEvents hop;rfl),hT.addB hR.kept _ _ hev,hE2,hD2,hA.rely hR, .inl ⟨n',rfl,hG'⟩,by omega,rfl⟩⟩
 ·
  obtain⟨g',es,kk,hq,hrun,hm,C'⟩:=C.leaver hi h0 h1 hg sl w;rw[dM (hA.again hE hD),dM (hB.again hE)] at C';have hsum:=fw (c:=c) (by omega) hq;refine⟨_,_,hst.trans hrun, .inl ⟨(vs.length,ra+rb+sumTo c (upd q i kk)), .right _ (by omega),_,a,b,w,sl,upd q i kk,vs,k,ra,rb,rfl,C',hT.mute h0 h1 _ _ hm,hE,hD,hA,hB,hpos,rfl⟩⟩
theorem sN (hED:E≠Dn)(hc0:c≠0)(hDN:Dn<p.N0)(hSh:ShOk p Shun)(hDS: ∀l,Shun l->l≠ .obj Dn) (hPb: ∀w w₁,RB p E Dn w w₁->PostB w->PostB w₁):
 ∀(μ:Nat×Nat)(M:Machine)(T:Trace),Inv1 P p Shun E Dn zE zD PostB After Fin c μ M T->
  ∃N M' T',runNT P N M T=(.next M',T')/\Shut1 P p Shun E Dn zE zD PostB After Fin c M' T':=by
 intro μ
 induction μ using Dx.induction with
 |_ μ ih=>
  intro M T h;obtain⟨M',ops,hs,hr⟩:=sM hED hc0 hDN hSh hDS hPb h;rcases hr with ⟨μ',hlt,hI⟩|hd
  ·obtain⟨N,M'',T'',hr,hd⟩:=ih μ' hlt M' _ hI;exact⟨N+1,M'',T'',by simp only[runNT,hs];exact hr,hd⟩
  ·exact⟨1,M',T++ops,by simp only[runNT,hs],hd⟩
end
open Go.ConcX
open Go.ConcN (sumTo upd sumTo_upd upd_ne upd_same)
section
variable [Payload](P:Program)(ty:TypeId)(Wg C Low:Nat) [Shy Wg C](vals:List Value)(Mine:Loc->Prop)(p:Par)(Sh:Loc->Prop)(c:Nat)(wf:World)
structure Fix:Prop where
 hW:Wg<Low
 hC:C<Low
 hCW:C≠Wg
 hLow:Low<=p.N0
 hc0:c≠0
 hSh:ShOk p Sh
 hSW: ∀l,InWg Wg l->Sh l
 hCS: ∀i,¬p.Still (.cell ⟨C,i,none⟩)
 ok0: ∀e,EvQ Mine Wg C 0 e->Ev0 Sh e
def Law (rel:Bool)(w:World)(T:Trace)(d0 d1:Nat):Prop:=
 match rel with
 |false=>Talk p Sh c w T d0/\d1=0
 |true=> ∃r,Rel p Sh Wg c w T d0 d1 r
end
section
variable [Payload]{P:Program}{ty:TypeId}{Wg C Low:Nat} [Shy Wg C]{vals:List Value}{Mine:Loc->Prop}{p:Par}{Sh:Loc->Prop}{c:Nat}{w w':World}{T:Trace}{rel:Bool}{d0 d1:Nat}
omit [Payload] in
theorem Law.world (h:Law Wg p Sh c rel w T d0 d1)(k:Kept p w w'):Law Wg p Sh c rel w' T d0 d1:=by
 cases rel with
 |false=>exact⟨h.1.world k,h.2⟩
 |true=>obtain⟨r,h⟩:=h;exact⟨r,h.world k⟩
omit [Payload] in
theorem Law.addA (h:Law Wg p Sh c rel w T d0 d1)(hc0:c≠0)(k:Kept p w w')(hSh:ShOk p Sh)(fn:FuncId)(pos:String){es:Array Event}(hes: ∀e∈es,EvA p w' e):
 Law Wg p Sh c rel w' (T++MemOp.ofEvents 0 fn pos es) d0 d1:=by
 cases rel with
 |false=>exact⟨h.1.addA k hSh fn pos hes,h.2⟩
 |true=>obtain⟨r,h⟩:=h;exact⟨r,h.addA hc0 k hSh fn pos hes⟩
omit [Payload] in
theorem Law.add0 (h:Law Wg p Sh c rel w T d0 d1)(hc0:c≠0)(hSh:ShOk p Sh)(fn:FuncId)(pos:String){es:Array Event}(hes: ∀e∈es,Ev0 Sh e):
 Law Wg p Sh c rel w (T++MemOp.ofEvents 0 fn pos es) (deafBehind d0 es) d1:=by
 cases rel with
 |false=>exact⟨h.1.add0 hc0 hSh fn pos hes,h.2⟩
 |true=>obtain⟨r,h⟩:=h;exact⟨r,h.add0 hc0 hSh fn pos hes⟩
omit [Payload] in
theorem Law.mute (h:Law Wg p Sh c rel w T d0 d1){g:Nat}(h0:g≠0)(hc:g≠c)(fn:FuncId)(pos:String){es:Array Event}(hm: ∀e∈es,e.mute=true):
 Law Wg p Sh c rel w (T++MemOp.ofEvents g fn pos es) d0 d1:=by
 cases rel with
 |false=>exact⟨h.1.mute h0 hc fn pos hm,h.2⟩
 |true=>obtain⟨r,h⟩:=h;exact⟨r,h.mute h0 fn pos hm ((Deaf_other T hc _ aP).trans h.hearc)⟩
omit [Payload] in
theorem Law.still (h:Law Wg p Sh c rel w T d0 d1){u:Trace}(hu: ∀op∈u,op.act.touch? =none) (hnr: ∀op∈u,op.act≠ .mark (.release (stW Wg))) (hd: ∀g,Deaf (T++u) g=Deaf T g):Law Wg p Sh c rel w (T++u) d0 d1:=by
 cases rel with
 |false=>exact⟨h.1.still hu hd,h.2⟩
 |true=>obtain⟨r,h⟩:=h;exact⟨r,h.still hu hnr ((hd 0).trans h.hear0) ((hd c).trans h.hearc)⟩
omit [Payload] in
theorem Law.idle0 (F:Fix Wg C Low Mine p Sh c)(h:Law Wg p Sh c rel w T d0 d1)(fn:FuncId)(pos:String){v v':World}{es:Array Event}(hD:DPi Mine Wg C Low v v' es):Law Wg p Sh c rel w (T++MemOp.ofEvents 0 fn pos es) d0 d1:=by
 have:=h.add0 F.hc0 F.hSh fn pos (fun e he=>F.ok0 e (hD.2 e he))
 rwa [deafBehind_still (fun e he=>⟨(hD.2 e he).2.1,(hD.2 e he).2.2.1⟩)] at this
omit [Payload] [Shy Wg C] in
theorem sO (hSW: ∀l,InWg Wg l->Sh l) {es:Array Event} (h: ∀e∈es,Bk Wg e): ∀e∈es,Ev0 Sh e:=by
 intro e he;rcases h e he with h1|h1|⟨a,wr,rfl,ha⟩
 ·refine⟨fun x hx=> ?_,fun a=>by rw[h1];simp⟩;obtain⟨loc,b1,b2⟩:=e;simp only at h1;subst h1;simp[MemAct.ofEvent,MemAct.touch?] at hx
 ·refine⟨fun x hx=> ?_,fun a=>by rw[h1];simp⟩;obtain⟨loc,b1,b2⟩:=e;simp only at h1;subst h1;simp[MemAct.ofEvent,MemAct.touch?] at hx
 ·refine⟨fun x hx=> ?_,fun a=>by simp⟩;simp only[MemAct.ofEvent,MemAct.touch?,Option.some.injEq] at hx;subst hx;exact⟨hSW _ ⟨a,rfl,ha⟩,by simp⟩
omit [Payload] in
theorem Law.bk0 (F:Fix Wg C Low Mine p Sh c)(h:Law Wg p Sh c rel w T d0 d1)(fn:FuncId)(pos:String){es:Array Event}(hb: ∀e∈es,Bk Wg e):Law Wg p Sh c rel w (T++MemOp.ofEvents 0 fn pos es) (deafBehind d0 es) d1:=
 h.add0 F.hc0 F.hSh fn pos (sO F.hSW hb)
inductive CAOut (P:Program)(ty:TypeId)(Wg C Low:Nat) [Shy Wg C](vals:List Value)(Mine:Loc->Prop)(p:Par)(Sh:Loc->Prop)(c:Nat)(wf:World)(st:Int)(d0 rc mc:Nat)(b':Goroutine)(w':World)(T':Trace):Prop
 |stay (rc' d1':Nat) (rel':Bool) (vs':List Value) (cl':Bool) (mc':Nat):Lt2 (rc',mc') (rc,mc)->WgAt ty Wg w' st 0->(rel'=true->Full C vals w')->Law Wg p Sh c rel' wf T' d0 d1'->CA P ty Wg C Low vals Mine rc' d1' rel' vs' cl' mc' b' w'->
  CAOut P ty Wg C Low vals Mine p Sh c wf st d0 rc mc b' w' T'
 |lone (q:Nat):st=KK->WgAt ty Wg w' 0 0->Full C vals w'->Law Wg p Sh c true wf T' d0 1->QuitsD P q 1 b'->CAOut P ty Wg C Low vals Mine p Sh c wf st d0 rc mc b' w' T'
 |met (m':Nat):st=KK+1->WgAt ty Wg w' 1 0->Full C vals w'->Law Wg p Sh c true wf T' d0 1->CD P Wg Low 4 1 m' b' w'->CAOut P ty Wg C Low vals Mine p Sh c wf st d0 rc mc b' w' T'
omit [Payload] in
theorem gh {r:Nat}(h:Rel p Sh Wg c w T d0 d1 r)(F:Fix Wg C Low Mine p Sh c)(hN:p.N0<=w.heap.size)(fn:FuncId)(pos:String){es:Array Event}(hb: ∀e∈es,Bk Wg e) (hd: ∀j,0<deafBehind d1 (es.extract 0 j)\/ ∀e,es[j]? =some e->e.loc= .mark .disable):
 Rel p Sh Wg c w (T++MemOp.ofEvents c fn pos es) d0 (deafBehind d1 es) r:=by
 refine h.own F.hc0 (Nat.lt_of_lt_of_le F.hW F.hLow) hN F.hSh F.hSW fn pos fun j e he=> ?_;have hmem:e∈es:=Array.mem_of_getElem? he;have words: ∀m,e.loc= .mark m->(m= .disable\/m= .enable)->((MemAct.ofEvent e).touch? =none/\ ∀a,e.loc≠ .mark (.release a)):=by
  intro m hm hmm;obtain⟨loc,b1,b2⟩:=e;simp only at hm;subst hm;refine⟨?_,fun a=> ?_⟩
  ·rcases hmm with rfl|rfl<;>rfl
  ·rcases hmm with rfl|rfl<;>simp
 rcases hb e hmem with h1|h1|⟨a,wr,rfl,ha⟩
 ·exact .inl (words _ h1 (.inl rfl))
 ·exact .inl (words _ h1 (.inr rfl))
 ·rcases hd j with h2|h2
  ·exact .inr ⟨⟨a,wr,rfl,ha⟩,h2⟩
  ·exact absurd (h2 _ he) (by simp)
theorem Full.of_block {w w':World}(h:Full C vals w)(e:w'.heap[C]? =w.heap[C]?):Full C vals w':=ChanAt.of_block h e
theorem mS (F:Fix Wg C Low Mine p Sh c){wf:World}(hN:p.N0<=wf.heap.size)(ok1: ∀e,EvQ Mine Wg C 1 e->EvB p Sh wf e) {st:Int} (hst:st=KK\/st=KK+1) {rc mc:Nat} {vs:List Value} {cl:Bool} {b:Goroutine} {w:World}
 (hL:Law Wg p Sh c rel wf T d0 d1) (hF:rel=true->Full C vals w) (hwg:WgAt ty Wg w st 0) (hc:CA P ty Wg C Low vals Mine rc d1 rel vs cl mc b w) (fn:FuncId) (pos:String):
 ∃b' w' es,stepG P false b w= .go b' w' es/\Aside2 C Wg w w'/\CAOut P ty Wg C Low vals Mine p Sh c wf st d0 rc mc b' w' (T++MemOp.ofEvents c fn pos es):=by
 cases hc with
 | @r0 m _ _ h=>
  rcases Goes.cases h with hstop|⟨m',rfl,hstep⟩
  ·obtain⟨_,hfull,b',hgo,m',hg'⟩:=hstop w (RCa.refl w);refine⟨b',w,_,hgo, .refl w, .stay 6 0 true [] true m' (.left _ _ (by omega)) hwg (fun _=>hfull) ⟨T.size, ?_⟩ (.k1 hg')⟩;have e1:MemOp.ofEvents c fn pos #[mk (.releaseMerge (stA Wg))]= #[{g:=c,fn:=fn,pos:=pos,act:= .mark (.releaseMerge (stW Wg))}]:=by simp[MemOp.ofEvents,mk,MemAct.ofEvent,stA,stW]
   rw[e1];exact hL.1.release F.hc0 fn pos
  ·obtain⟨b',w',es,hgo,hD,hg'⟩:=hstep w (RCa.refl w);refine⟨b',w',es,hgo, .of_C hD.1, .stay 7 0 false [] false m' (.right _ (by omega)) (hwg.of_block (hD.1.block Wg (Ne.symm F.hCW))) (fun e=>by cases e) ⟨?_,rfl⟩ (.r0 hg')⟩;exact hL.1.addB (Kept.refl p wf) fn pos fun e he=>ok1 e (hD.2 e he)
 | @k1 m _ _ h=>
  obtain⟨r,hL⟩:=hL;rcases Goes.cases h with hstop|⟨m',rfl,hstep⟩
  ·obtain⟨_,b',hgo,m',hg'⟩:=hstop w (RCa.refl w);refine⟨b',w,_,hgo, .refl w, .stay 5 1 true [] true m' (.left _ _ (by omega)) hwg hF ⟨r, ?_⟩ (.d1 hg')⟩;exact gh hL F hN fn pos (es:= #[mk .disable]) (bk1 (mk .disable) (.inl rfl)) fun j=>by
    rcases j with _|j
    ·exact .inr fun e he=>by simp at he;subst he;rfl
    ·exact .inr fun e he=>by simp at he
  ·obtain⟨b',w',es,hgo,⟨rfl,rfl⟩,hg'⟩:=hstep w (RCa.refl w);exact⟨b',w',_,hgo, .refl w', .stay 6 0 true [] true m' (.right _ (by omega)) hwg hF ⟨r,by simpa [MemOp.ofEvents] using hL⟩ (.k1 hg')⟩
 | @d1 m _ _ h=>
  obtain⟨r,hL⟩:=hL;have hfull:=hF rfl;rcases Goes.cases h with hstop|⟨m',rfl,hstep⟩
  ·obtain⟨_,hlone,hmet⟩:=hstop w (RCa.refl w);have hA: ∀v,Aside Wg w (w.setCell (stA Wg) v):=fun v=>aside_setCell w (stA Wg) v
   have hlaw:Rel p Sh Wg c wf (T++MemOp.ofEvents c fn pos #[rd (stA Wg),wr (stA Wg)]) d0 1 r:=
    gh hL F hN fn pos (bk2 _ _ (bk_cell _ _ rfl) (bk_cell _ _ rfl)) fun j=>by
     rcases j with _|_|j<;>exact .inl (by simp[deafBehind,rd,wr])
   rcases hst with rfl|rfl
   ·obtain⟨b',hgo,q,hq⟩:=hlone hwg;exact⟨b',_,_,hgo, .of_Wg (hA _), .lone q rfl (hwg.setSt _) (hfull.of_block ((hA _).block C F.hCW)) ⟨r,hlaw⟩ hq⟩
   ·obtain⟨b',hgo,m',hg'⟩:=hmet hwg;exact⟨b',_,_,hgo, .of_Wg (hA _), .met m' rfl (hwg.setSt _) (hfull.of_block ((hA _).block C F.hCW)) ⟨r,hlaw⟩ (.d2 hg')⟩
  ·obtain⟨b',w',es,hgo,⟨rfl,rfl⟩,hg'⟩:=hstep w (RCa.refl w);exact⟨b',w',_,hgo, .refl w', .stay 5 1 true [] true m' (.right _ (by omega)) hwg hF ⟨r,by simpa [MemOp.ofEvents] using hL⟩ (.d1 hg')⟩
inductive CDOut (P:Program)(ty:TypeId)(Wg Low:Nat)(p:Par)(Sh:Loc->Prop)(c:Nat)(wf:World)(d0 rc mc:Nat)(b b':Goroutine)(w':World)(T':Trace):Prop
 |stay (rc':Nat) (st':Int) (mc':Nat):Lt2 (rc',mc') (rc,mc)->WgAt ty Wg w' st' 0->Law Wg p Sh c true wf T' d0 1->CD P Wg Low rc' st' mc' b' w'->CDOut P ty Wg Low p Sh c wf d0 rc mc b b' w' T'
 |freed (q:Nat):mayWake P b=true->WgAt ty Wg w' 0 1->Law Wg p Sh c true wf T' d0 1->QuitsD P q 1 b'->CDOut P ty Wg Low p Sh c wf d0 rc mc b b' w' T'
theorem xM (F:Fix Wg C Low Mine p Sh c){wf:World}(hN:p.N0<=wf.heap.size){st:Int}{rc mc:Nat}{b:Goroutine}{w:World}
 (hL:Law Wg p Sh c true wf T d0 1) (hwg:WgAt ty Wg w st 0) (hc:CD P Wg Low rc st mc b w) (fn:FuncId) (pos:String):
 ∃b' w' es,stepG P false b w= .go b' w' es/\Aside Wg w w'/\CDOut P ty Wg Low p Sh c wf d0 rc mc b b' w' (T++MemOp.ofEvents c fn pos es):=by
 obtain⟨r,hL⟩:=hL;have hA: ∀a v,a.block=Wg->Aside Wg w (w.setCell a v):=fun a v ha=>by
  have:=aside_setCell w a v
  rwa [ha] at this
 have one: ∀e:Event,Bk Wg e->(∃a wr,e=⟨.cell a,wr,true⟩)->Rel p Sh Wg c wf (T++MemOp.ofEvents c fn pos #[e]) d0 1 r:=by
  intro e he hw;obtain⟨a,wr,rfl⟩:=hw;exact gh hL F hN fn pos (bk1 _ he) fun j=>by rcases j with _|j<;>exact .inl (by simp[deafBehind])
 cases hc with
 | @d2 m _ _ h=>
  rcases Goes.cases h with hstop|⟨m',rfl,hstep⟩
  ·obtain⟨_,b',hgo,m',hg'⟩:=hstop w (RCd.refl w);exact⟨b',w,_,hgo,Aside.refl Wg w, .stay 3 1 m' (.left _ _ (by omega)) hwg ⟨r,one _ (bk_cell _ _ rfl) ⟨_,_,rfl⟩⟩ (.d3 hg')⟩
  ·obtain⟨b',w',es,hgo,⟨rfl,rfl⟩,hg'⟩:=hstep w (RCd.refl w);exact⟨b',w',_,hgo,Aside.refl Wg w', .stay 4 1 m' (.right _ (by omega)) hwg ⟨r,by simpa [MemOp.ofEvents] using hL⟩ (.d2 hg')⟩
 | @d3 m _ _ h=>
  rcases Goes.cases h with hstop|⟨m',rfl,hstep⟩
  ·obtain⟨_,b',hgo,m',hg'⟩:=hstop w (RCd.refl w);exact⟨b',_,_,hgo,hA _ _ rfl, .stay 2 0 m' (.left _ _ (by omega)) (hwg.setSt _) ⟨r,one _ (bk_cell _ _ rfl) ⟨_,_,rfl⟩⟩ (.d4 hg')⟩
  ·obtain⟨b',w',es,hgo,⟨rfl,rfl⟩,hg'⟩:=hstep w (RCd.refl w);exact⟨b',w',_,hgo,Aside.refl Wg w', .stay 3 1 m' (.right _ (by omega)) hwg ⟨r,by simpa [MemOp.ofEvents] using hL⟩ (.d3 hg')⟩
 | @d4 m _ _ h=>
  rcases Goes.cases h with hstop|⟨m',rfl,hstep⟩
  ·obtain⟨_,hmw,b',hgo,q,hq⟩:=hstop w (RCd.refl w);refine⟨b',_,_,hgo,hA _ _ rfl, .freed q hmw (hwg.setSm _) ⟨r, ?_⟩ hq⟩;have:=gh hL F hN fn pos (es:=semEvents (smA Wg)) bk_sem fun j=>by
    rcases j with _|_|_|_|j<;>exact .inl (by simp[deafBehind,semEvents])
   simpa [deafBehind,semEvents] using this
  ·obtain⟨b',w',es,hgo,⟨rfl,rfl⟩,hg'⟩:=hstep w (RCd.refl w);exact⟨b',w',_,hgo,Aside.refl Wg w', .stay 2 0 m' (.right _ (by omega)) hwg ⟨r,by simpa [MemOp.ofEvents] using hL⟩ (.d4 hg')⟩
variable {AnchW:Goroutine->World->Prop}{Post:Value->World->Prop}
inductive PAOutA (P:Program)(ty:TypeId)(Wg C Low:Nat) [Shy Wg C](vals:List Value)(Mine:Loc->Prop)(AnchW:Goroutine->World->Prop)(Post:Value->World->Prop)(p:Par)(Sh:Loc->Prop)(c:Nat)(wf:World)(rel:Bool)(d1 rp mp:Nat)(a':Goroutine)(w':World)(T':Trace):Prop
 |stay (rp' d0' mp':Nat):Lt2 (rp',mp') (rp,mp)->WgAt ty Wg w' KK 0->Law Wg p Sh c rel wf T' d0' d1->PA P ty Wg C Low vals Mine AnchW Post rp' d0' mp' a' w'->PAOutA P ty Wg C Low vals Mine AnchW Post p Sh c wf rel d1 rp mp a' w' T'
 |reg (mp':Nat):WgAt ty Wg w' (KK+1) 0->Law Wg p Sh c rel wf T' 1 d1->PB P ty Wg C Low vals Mine Post 1 mp' a' w'->PAOutA P ty Wg C Low vals Mine AnchW Post p Sh c wf rel d1 rp mp a' w' T'
theorem PAOutA.mono {wf:World}{rp mp rp₂ mp₂:Nat}{a':Goroutine}{w':World}{T':Trace}(h:PAOutA P ty Wg C Low vals Mine AnchW Post p Sh c wf rel d1 rp mp a' w' T')(hl:Lt2 (rp,mp) (rp₂,mp₂)):
 PAOutA P ty Wg C Low vals Mine AnchW Post p Sh c wf rel d1 rp₂ mp₂ a' w' T':=by
 cases h with
 |stay a b c h1 h2 h3 h4=>exact .stay a b c (lt2_trans h1 hl) h2 h3 h4
 |reg a h1 h2 h3=>exact .reg a h1 h2 h3
theorem uD (F:Fix Wg C Low Mine p Sh c){wf:World}(hAn: ∀g w,AnchW g w-> ∃m,Goes P true (RPa ty Wg C vals) (DPi Mine Wg C Low) (AtW1 P ty Wg C Low vals Mine AnchW Post) m g w)
 {rp mp:Nat} {a:Goroutine} {w:World} (hL:Law Wg p Sh c rel wf T d0 d1) (hwg:WgAt ty Wg w KK 0) (hp:PA P ty Wg C Low vals Mine AnchW Post rp d0 mp a w) (fn:FuncId) (pos:String):
 ∃a' w' es,stepG P true a w= .go a' w' es/\RCa ty Wg Low w w'/\(∀b,b<Low->b≠Wg->w'.heap[b]? =w.heap[b]?)/\PAOutA P ty Wg C Low vals Mine AnchW Post p Sh c wf rel d1 rp mp a' w' (T++MemOp.ofEvents 0 fn pos es):=by
 have w1: ∀m,d0=1->Goes P true (RPa ty Wg C vals) (DPi Mine Wg C Low) (AtW1 P ty Wg C Low vals Mine AnchW Post) m a w->
  ∃a' w' es,stepG P true a w= .go a' w' es/\RCa ty Wg Low w w'/\(∀b,b<Low->b≠Wg->w'.heap[b]? =w.heap[b]?)/\PAOutA P ty Wg C Low vals Mine AnchW Post p Sh c wf rel d1 2 m a' w' (T++MemOp.ofEvents 0 fn pos es):=by
  intro m hd h;subst hd;rcases Goes.cases h with hstop|⟨m',rfl,hstep⟩
  ·obtain⟨_,a',hgo,hk,_⟩:=hstop w (RPa.refl w);obtain⟨m',hg'⟩:=hk hwg;exact⟨_,_,_,hgo, .refl w,fun _ _ _=>rfl, .stay 1 1 m' (.left _ _ (by omega)) hwg (hL.bk0 F fn pos (bk1 _ (bk_cell _ _ rfl))) (.w2 hg')⟩
  ·obtain⟨a',w',es,hgo,hD,hg'⟩:=hstep w (RPa.refl w);exact⟨_,_,_,hgo,RCd.toA F.hW hD.1,fun b hb _=>hD.1 b hb, .stay 2 1 m' (.right _ (by omega)) (hwg.of_block (hD.1 Wg F.hW)) (hL.idle0 F fn pos hD) (.w1 hg')⟩
 cases hp with
 | @kd m _ _ h=>
  rcases Goes.cases h with hstop|⟨m',rfl,hstep⟩
  ·obtain⟨_,a',hgo,m',hg'⟩:=hstop w (RPa.refl w);exact⟨_,_,_,hgo, .refl w,fun _ _ _=>rfl, .stay 3 1 m' (.left _ _ (by omega)) hwg (hL.bk0 F fn pos (es:= #[mk .disable]) (bk1 (mk .disable) (.inl rfl))) (.anch hg')⟩
  ·obtain⟨a',w',es,hgo,hD,hg'⟩:=hstep w (RPa.refl w);exact⟨_,_,_,hgo,RCd.toA F.hW hD.1,fun b hb _=>hD.1 b hb, .stay 4 0 m' (.right _ (by omega)) (hwg.of_block (hD.1 Wg F.hW)) (hL.idle0 F fn pos hD) (.kd hg')⟩
 | @anch m _ _ h=>
  rcases Goes.cases h with hstop|⟨m',rfl,hstep⟩
  ·obtain⟨m1,h1⟩:=hAn a w (hstop w (RPa.refl w));obtain⟨a',w',es,e1,e2,e4,e3⟩:=w1 m1 rfl h1;exact⟨a',w',es,e1,e2,e4,e3.mono (.left _ _ (by omega))⟩
  ·obtain⟨a',w',es,hgo,hD,hg'⟩:=hstep w (RPa.refl w);exact⟨_,_,_,hgo,RCd.toA F.hW hD.1,fun b hb _=>hD.1 b hb, .stay 3 1 m' (.right _ (by omega)) (hwg.of_block (hD.1 Wg F.hW)) (hL.idle0 F fn pos hD) (.anch hg')⟩
 | @w1 _ _ _ h=>exact w1 mp rfl h
 | @w2 m _ _ h=>
  rcases Goes.cases h with hstop|⟨m',rfl,hstep⟩
  ·obtain⟨_,hhit,_⟩:=hstop w (RPa.refl w);obtain⟨a',hgo,m',hg'⟩:=hhit hwg;have hA:=aside_setCell w (stA Wg) (.int .u64 (KK+1));exact⟨_,_,_,hgo,⟨fun x _ hx=>hA.block x hx,fun _=> .inr (hwg.setSt _)⟩,fun b _ hb=>hA.block b hb, .reg m' (hwg.setSt _) (hL.bk0 F fn pos (bk2 _ _ (bk_cell _ _ rfl) (bk_cell _ _ rfl))) (.w3 hg')⟩
  ·obtain⟨a',w',es,hgo,hD,hg'⟩:=hstep w (RPa.refl w);exact⟨_,_,_,hgo,RCd.toA F.hW hD.1,fun b hb _=>hD.1 b hb, .stay 1 1 m' (.right _ (by omega)) (hwg.of_block (hD.1 Wg F.hW)) (hL.idle0 F fn pos hD) (.w2 hg')⟩
inductive PAOutC (P:Program)(ty:TypeId)(Wg C Low:Nat) [Shy Wg C](vals:List Value)(Mine:Loc->Prop)(AnchW:Goroutine->World->Prop)(Post:Value->World->Prop)(p:Par)(Sh:Loc->Prop)(c:Nat)(wf:World)(d1 rp mp:Nat)(a':Goroutine)(w':World)(T':Trace):Prop
 |stay (rp' d0' mp':Nat):Lt2 (rhoC rp',mp') (rhoC rp,mp)->WgAt ty Wg w' 0 0->Full C vals w'->Law Wg p Sh c true wf T' d0' d1->PA P ty Wg C Low vals Mine AnchW Post rp' d0' mp' a' w'->PAOutC P ty Wg C Low vals Mine AnchW Post p Sh c wf d1 rp mp a' w' T'
 |joined (mp':Nat):WgAt ty Wg w' 0 0->Full C vals w'->Law Wg p Sh c true wf T' 1 d1->PJ P Wg C Low vals Mine Post (vals.length+4) 1 false vals mp' a' w'->PAOutC P ty Wg C Low vals Mine AnchW Post p Sh c wf d1 rp mp a' w' T'
theorem uE (F:Fix Wg C Low Mine p Sh c){wf:World}(hAn: ∀g w,AnchW g w-> ∃m,Goes P true (RPa ty Wg C vals) (DPi Mine Wg C Low) (AtW1 P ty Wg C Low vals Mine AnchW Post) m g w)
 {rp mp:Nat} {a:Goroutine} {w:World} (hL:Law Wg p Sh c true wf T d0 d1) (hwg:WgAt ty Wg w 0 0) (hf:Full C vals w) (hp:PA P ty Wg C Low vals Mine AnchW Post rp d0 mp a w) (fn:FuncId) (pos:String):
 ∃a' w' es,stepG P true a w= .go a' w' es/\PAOutC P ty Wg C Low vals Mine AnchW Post p Sh c wf d1 rp mp a' w' (T++MemOp.ofEvents 0 fn pos es):=by
 have kc:KPc ty Wg C vals w:=⟨hwg,hf⟩
 have w1: ∀m r₀ m₀,d0=1->Lt2 (2,m) (rhoC r₀,m₀)\/(2,m)=(rhoC r₀,m₀)->Goes P true (RPa ty Wg C vals) (DPi Mine Wg C Low) (AtW1 P ty Wg C Low vals Mine AnchW Post) m a w->
  ∃a' w' es,stepG P true a w= .go a' w' es/\PAOutC P ty Wg C Low vals Mine AnchW Post p Sh c wf d1 r₀ m₀ a' w' (T++MemOp.ofEvents 0 fn pos es):=by
  intro m r₀ m₀ hd hl h;subst hd;rcases Goes.cases h with hstop|⟨m',rfl,hstep⟩
  ·obtain⟨_,a',hgo,_,hk⟩:=hstop w (RPa.refl w);obtain⟨m',hg'⟩:=hk kc;exact⟨_,_,_,hgo, .joined m' hwg hf (hL.bk0 F fn pos (bk1 _ (bk_cell _ _ rfl))) (.ke hg')⟩
  ·obtain⟨a',w',es,hgo,hD,hg'⟩:=hstep w (RPa.refl w);have l1:Lt2 (rhoC 2,m') (2,m'+1):= .right _ (by omega);exact⟨_,_,_,hgo, .stay 2 1 m' (hl.elim (lt2_trans l1) (fun e=>e▸l1)) (hwg.of_block (hD.1 Wg F.hW)) (hf.of_block (hD.1 C F.hC)) (hL.idle0 F fn pos hD) (.w1 hg')⟩
 cases hp with
 | @kd m _ _ h=>
  rcases Goes.cases h with hstop|⟨m',rfl,hstep⟩
  ·obtain⟨_,a',hgo,m',hg'⟩:=hstop w (RPa.refl w);exact⟨_,_,_,hgo, .stay 3 1 m' (.left _ _ (by decide)) hwg hf (hL.bk0 F fn pos (es:= #[mk .disable]) (bk1 (mk .disable) (.inl rfl))) (.anch hg')⟩
  ·obtain⟨a',w',es,hgo,hD,hg'⟩:=hstep w (RPa.refl w);exact⟨_,_,_,hgo, .stay 4 0 m' (.right _ (by omega)) (hwg.of_block (hD.1 Wg F.hW)) (hf.of_block (hD.1 C F.hC)) (hL.idle0 F fn pos hD) (.kd hg')⟩
 | @anch m _ _ h=>
  rcases Goes.cases h with hstop|⟨m',rfl,hstep⟩
  ·obtain⟨m1,h1⟩:=hAn a w (hstop w (RPa.refl w));exact w1 m1 3 mp rfl (.inl (.left _ _ (by decide))) h1
  ·obtain⟨a',w',es,hgo,hD,hg'⟩:=hstep w (RPa.refl w);exact⟨_,_,_,hgo, .stay 3 1 m' (.right _ (by omega)) (hwg.of_block (hD.1 Wg F.hW)) (hf.of_block (hD.1 C F.hC)) (hL.idle0 F fn pos hD) (.anch hg')⟩
 | @w1 _ _ _ h=>exact w1 mp 2 mp rfl (.inr rfl) h
 | @w2 m _ _ h=>
  rcases Goes.cases h with hstop|⟨m',rfl,hstep⟩
  ·obtain⟨_,_,hmiss⟩:=hstop w (RPa.refl w);obtain⟨a',hgo,m',hg'⟩:=hmiss kc;exact⟨_,_,_,hgo, .stay 3 1 m' (.left _ _ (by decide)) hwg hf (hL.bk0 F fn pos (bk1 _ (bk_cell _ _ rfl))) (.anch hg')⟩
  ·obtain⟨a',w',es,hgo,hD,hg'⟩:=hstep w (RPa.refl w);exact⟨_,_,_,hgo, .stay 1 1 m' (.right _ (by omega)) (hwg.of_block (hD.1 Wg F.hW)) (hf.of_block (hD.1 C F.hC)) (hL.idle0 F fn pos hD) (.w2 hg')⟩
theorem oA (F:Fix Wg C Low Mine p Sh c){wf:World}{mp:Nat}{a:Goroutine}{w:World}{st:Int}(hL:Law Wg p Sh c rel wf T 1 d1)(hwg:WgAt ty Wg w st 0)(hp:PB P ty Wg C Low vals Mine Post 1 mp a w)(fn:FuncId)(pos:String):
 ∃a' w' es,stepG P true a w= .go a' w' es/\RCd Low w w'/\ ∃rp' mp',Lt2 (rp',mp') (1,mp)/\Law Wg p Sh c rel wf (T++MemOp.ofEvents 0 fn pos es) 1 d1/\PB P ty Wg C Low vals Mine Post rp' mp' a' w':=by
 cases hp with
 | @w3 m _ _ h=>
  rcases Goes.cases h with hstop|⟨m',rfl,hstep⟩
  ·obtain⟨_,_,hblk,_⟩:=hstop w (RPb.refl w);exact⟨_,_,_,hblk ⟨st,hwg⟩,RCd.refl w,0,0, .left _ _ (by omega),by simpa [MemOp.ofEvents] using hL, .blk hstop⟩
  ·obtain⟨a',w',es,hgo,hD,hg'⟩:=hstep w (RPb.refl w);exact⟨_,_,_,hgo,hD.1,1,m', .right _ (by omega),hL.idle0 F fn pos hD, .w3 hg'⟩
theorem uF (F:Fix Wg C Low Mine p Sh c){wf:World}{mp:Nat}{a:Goroutine}{w:World}(hL:Law Wg p Sh c true wf T 1 d1)(hwg:WgAt ty Wg w 0 1)(hf:Full C vals w)(hp:PB P ty Wg C Low vals Mine Post 1 mp a w)(fn:FuncId)(pos:String):
 ∃a' w' es,stepG P true a w= .go a' w' es/\Full C vals w'/\((∃mp',mp'<mp/\WgAt ty Wg w' 0 1/\Law Wg p Sh c true wf (T++MemOp.ofEvents 0 fn pos es) 1 d1/\PB P ty Wg C Low vals Mine Post 1 mp' a' w')\/
  (∃mp',WgAt ty Wg w' 0 0/\Law Wg p Sh c true wf (T++MemOp.ofEvents 0 fn pos es) 1 d1/\PJ P Wg C Low vals Mine Post (vals.length+5) 1 false vals mp' a' w')):=by
 cases hp with
 | @w3 m _ _ h=>
  rcases Goes.cases h with hstop|⟨m',rfl,hstep⟩
  ·obtain⟨_,_,_,hfree⟩:=hstop w (RPb.refl w);obtain⟨a',hgo,m',hg'⟩:=hfree ⟨hwg,hf⟩;have hA:=aside_setCell w (smA Wg) (.int .u32 0);refine⟨_,_,_,hgo,hf.of_block (hA.block C F.hCW), .inr ⟨m',hwg.setSm _, ?_, .w4 hg'⟩⟩;have:=hL.bk0 F fn pos (es:=semEvents (smA Wg)) bk_sem;simpa [deafBehind,semEvents] using this
  ·obtain⟨a',w',es,hgo,hD,hg'⟩:=hstep w (RPb.refl w);exact⟨_,_,_,hgo,hf.of_block (hD.1 C F.hC), .inl ⟨m',by omega,hwg.of_block (hD.1 Wg F.hW),hL.idle0 F fn pos hD, .w3 hg'⟩⟩
theorem xN (F:Fix Wg C Low Mine p Sh c){wf:World}{rp mp:Nat}{vs:List Value}{a:Goroutine}{w:World}(hL:Law Wg p Sh c true wf T d0 d1)(hp:PJ P Wg C Low vals Mine Post rp d0 false vs mp a w)(fn:FuncId)(pos:String):
 ∃a' w' es,stepG P true a w= .go a' w' es/\((∃rp' d0' mp',Lt2 (rp',mp') (rp,mp)/\Law Wg p Sh c true wf (T++MemOp.ofEvents 0 fn pos es) d0' d1/\PJ P Wg C Low vals Mine Post rp' d0' false vs mp' a' w')\/
  (∃m,Past0 Sh (T++MemOp.ofEvents 0 fn pos es)/\Deaf (T++MemOp.ofEvents 0 fn pos es) c=d1/\Goes P true AtRel (DPj Mine Wg C Low) (AtRetJ P Wg C Mine Post) m a' w')):=by
 cases hp with
 | @w4 m _ _ h=>
  rcases Goes.cases h with hstop|⟨m',rfl,hstep⟩
  ·obtain⟨_,a',hgo,m',hg'⟩:=hstop w (AtRel.refl w);exact⟨_,_,_,hgo, .inl ⟨_,1,m', .left _ _ (Nat.lt_succ_self _),hL.bk0 F fn pos (bk1 _ (bk_cell _ _ rfl)), .ke hg'⟩⟩
  ·obtain⟨a',w',es,hgo,hD,hg'⟩:=hstep w (AtRel.refl w);exact⟨_,_,_,hgo, .inl ⟨_,1,m', .right _ (Nat.lt_succ_self _),hL.idle0 F fn pos hD, .w4 hg'⟩⟩
 | @ke m _ _ h=>
  rcases Goes.cases h with hstop|⟨m',rfl,hstep⟩
  ·obtain⟨_,a',hgo,m',hg'⟩:=hstop w (AtRel.refl w);exact⟨_,_,_,hgo, .inl ⟨_,0,m', .left _ _ (Nat.lt_succ_self _),hL.bk0 F fn pos (es:= #[mk .enable]) (bk1 (mk .enable) (.inr (.inl rfl))), .acq hg'⟩⟩
  ·obtain⟨a',w',es,hgo,hD,hg'⟩:=hstep w (AtRel.refl w);exact⟨_,_,_,hgo, .inl ⟨_,1,m', .right _ (Nat.lt_succ_self _),hL.idle0 F fn pos hD, .ke hg'⟩⟩
 | @acq m _ _ h=>
  rcases Goes.cases h with hstop|⟨m',rfl,hstep⟩
  ·obtain⟨_,a',hgo,m',hg'⟩:=hstop w (AtRel.refl w);obtain⟨r,hL⟩:=hL;have e1:MemOp.ofEvents 0 fn pos #[mk (.acquire (stA Wg))]= #[{g:=0,fn:=fn,pos:=pos,act:= .mark (.acquire (stW Wg))}]:=by simp[MemOp.ofEvents,mk,MemAct.ofEvent,stA,stW]
   refine⟨_,_,_,hgo, .inr ⟨m', ?_, ?_,hg'⟩⟩
   ·rw[e1];exact hL.acquire F.hSh fn pos
   ·rw[e1,Deaf_push];simp[deafStep];exact hL.hearc
  ·obtain⟨a',w',es,hgo,hD,hg'⟩:=hstep w (AtRel.refl w);exact⟨_,_,_,hgo, .inl ⟨_,0,m', .right _ (Nat.lt_succ_self _),hL.idle0 F fn pos hD, .acq hg'⟩⟩
end
open Go.ConcX
open Go.ConcN (sumTo upd sumTo_upd upd_ne upd_same)
section
variable [Payload](P:Program)(ty:TypeId)(Wg C Low:Nat) [Shy Wg C](vals:List Value)(Mine:Loc->Prop)(AnchW:Goroutine->World->Prop)(Post:Value->World->Prop)(p:Par)(Sh:Loc->Prop)(c:Nat)(wf:World)
inductive J3:Nat×Nat×Nat×Nat->Goroutine->Goroutine->World->Trace->Prop
 |a {a b:Goroutine} {w:World} {T:Trace} {rel cl:Bool} {vs:List Value} {d0 d1 rp mp rc mc:Nat}:WgAt ty Wg w KK 0->(rel=true->Full C vals w)->Law Wg p Sh c rel wf T d0 d1->
  PA P ty Wg C Low vals Mine AnchW Post rp d0 mp a w->CA P ty Wg C Low vals Mine rc d1 rel vs cl mc b w->J3 (rc,mc,rp+2,mp) a b w T
 |b {a b:Goroutine} {w:World} {T:Trace} {rel cl:Bool} {vs:List Value} {d1 rp mp rc mc:Nat}:WgAt ty Wg w (KK+1) 0->(rel=true->Full C vals w)->Law Wg p Sh c rel wf T 1 d1->
  PB P ty Wg C Low vals Mine Post rp mp a w->CA P ty Wg C Low vals Mine rc d1 rel vs cl mc b w->J3 (rc,mc,rp,mp) a b w T
 |c {a b:Goroutine} {w:World} {T:Trace} {d0 d1 rp mp q:Nat}:WgAt ty Wg w 0 0->Full C vals w->Law Wg p Sh c true wf T d0 d1->
  PA P ty Wg C Low vals Mine AnchW Post rp d0 mp a w->QuitsD P q d1 b->J3 (0,q,rhoC rp+vals.length+5,mp) a b w T
 |d {a b:Goroutine} {w:World} {T:Trace} {st:Int} {rp mp rc mc:Nat}:WgAt ty Wg w st 0->Full C vals w->Law Wg p Sh c true wf T 1 1->
  PB P ty Wg C Low vals Mine Post rp mp a w->CD P Wg Low rc st mc b w->J3 (rc,mc,rp,mp) a b w T
 |f {a b:Goroutine} {w:World} {T:Trace} {d1 mp q:Nat}:WgAt ty Wg w 0 1->Full C vals w->Law Wg p Sh c true wf T 1 d1->
  PB P ty Wg C Low vals Mine Post 1 mp a w->QuitsD P q d1 b->J3 (0,q,vals.length+6,mp) a b w T
 |j {a b:Goroutine} {w:World} {T:Trace} {vs:List Value} {d0 d1 rp mp q:Nat}:Law Wg p Sh c true wf T d0 d1->
  PJ P Wg C Low vals Mine Post rp d0 false vs mp a w->QuitsD P q d1 b->J3 (0,q,rp,mp) a b w T
def Inv3 (μ:Nat×(Nat×Nat×Nat×Nat))(M:Machine)(T:Trace):Prop:=
 ∃(gs:Array Goroutine) (a b:Goroutine) (w:World) (sl:Option (Nat×Nat)) (q:Nat->Nat) (ν:Nat×Nat×Nat×Nat),
  M=crowd gs w sl/\Crew P c gs a b T q/\J3 P ty Wg C Low vals Mine AnchW Post p Sh c wf ν a b w T/\μ=(sumTo c q,ν)
def Done3 (M:Machine)(T:Trace):Prop:=
 ∃(gs:Array Goroutine) (a b:Goroutine) (w:World) (sl:Option (Nat×Nat)) (q:Nat->Nat) (k m:Nat),
  M=crowd gs w sl/\Crew P c gs a b T q/\Past0 Sh T/\QuitsD P k (Deaf T c) b/\Goes P true AtRel (DPj Mine Wg C Low) (AtRetJ P Wg C Mine Post) m a w
end
section
variable [Payload]{P:Program}{ty:TypeId}{Wg C Low:Nat} [Shy Wg C]{vals:List Value}{Mine:Loc->Prop}{AnchW:Goroutine->World->Prop}{Post:Value->World->Prop}{p:Par}{Sh:Loc->Prop}{c:Nat}{wf:World}
theorem J3.at {ν:Nat×Nat×Nat×Nat}{a b:Goroutine}{w:World}{T:Trace}(h:J3 P ty Wg C Low vals Mine AnchW Post p Sh c wf ν a b w T)(d:Nat):J3 P ty Wg C Low vals Mine AnchW Post p Sh c wf ν a b (w.at d) T:=by
 cases h with
 |a h1 h2 h3 h4 h5=>exact .a h1 h2 h3 (h4.rely (RPa.at w d)) (h5.rely (RCa.at w d))
 |b h1 h2 h3 h4 h5=>exact .b h1 h2 h3 (h4.rely (RPb.at w d)) (h5.rely (RCa.at w d))
 |c h1 h2 h3 h4 h5=>exact .c h1 h2 h3 (h4.rely (RPa.at w d)) h5
 |d h1 h2 h3 h4 h5=>exact .d h1 h2 h3 (h4.rely (RPb.at w d)) (h5.rely (RCd.at w d))
 |f h1 h2 h3 h4 h5=>exact .f h1 h2 h3 (h4.rely (RPb.at w d)) h5
 |j h3 h4 h5=>exact .j h3 (h4.rely (AtRel.at w d)) h5
theorem J3.shape (hAr: ∀g w,AnchW g w->g.status= .running) {ν:Nat×Nat×Nat×Nat} {a b:Goroutine} {w:World} {T:Trace} (h:J3 P ty Wg C Low vals Mine AnchW Post p Sh c wf ν a b w T):
 awake a/\awake b/\(a.status= .running\/b.status= .running):=by
 cases h with
 |a h1 h2 h3 h4 h5=>exact⟨awake_of (.inl (h4.running hAr)),awake_of (.inl h5.running), .inl (h4.running hAr)⟩
 |b h1 h2 h3 h4 h5=>exact⟨awake_of (h4.status.elim (fun x=> .inl x.2) (fun x=> .inr (.inl x.2.1))),awake_of (.inl h5.running), .inr h5.running⟩
 |c h1 h2 h3 h4 h5=>exact⟨awake_of (.inl (h4.running hAr)),awake_of (h5.status.elim .inl fun x=> .inr (.inr x)), .inl (h4.running hAr)⟩
 |d h1 h2 h3 h4 h5=>exact⟨awake_of (h4.status.elim (fun x=> .inl x.2) (fun x=> .inr (.inl x.2.1))),awake_of (.inl h5.running), .inr h5.running⟩
 |f h1 h2 h3 h4 h5=>
  have ra:a.status= .running:=h4.status.elim (fun x=>x.2) (fun x=>by cases x.1);exact⟨awake_of (.inl ra),awake_of (h5.status.elim .inl fun x=> .inr (.inr x)), .inl ra⟩
 |j h3 h4 h5=>exact⟨awake_of (.inl h4.running),awake_of (h5.status.elim .inl fun x=> .inr (.inr x)), .inl h4.running⟩
theorem J3.other (hAr: ∀g w,AnchW g w->g.status= .running) {ν:Nat×Nat×Nat×Nat} {a b g g':Goroutine} {w:World} {T:Trace} (h:J3 P ty Wg C Low vals Mine AnchW Post p Sh c wf ν a b w T) {i:Nat} (h0:i≠0) (hc:i≠c) (fn:FuncId) (pos:String) {es:Array Event} (hm: ∀e∈es,e.mute=true):
 ∃ν',J3 P ty Wg C Low vals Mine AnchW Post p Sh c wf ν' (woken P g g' w a) (woken P g g' w b) w (T++MemOp.ofEvents i fn pos es):=by
 cases h with
 |a h1 h2 h3 h4 h5=>rw[woken_run (h4.running hAr),woken_run h5.running];exact⟨_, .a h1 h2 (h3.mute h0 hc fn pos hm) h4 h5⟩
 |b h1 h2 h3 h4 h5=>obtain⟨r',m',h4'⟩:=h4.woken (b:=g) (b':=g');rw[woken_run h5.running];exact⟨_, .b h1 h2 (h3.mute h0 hc fn pos hm) h4' h5⟩
 |c h1 h2 h3 h4 h5=>rw[woken_run (h4.running hAr),woken_quitsD h5];exact⟨_, .c h1 h2 (h3.mute h0 hc fn pos hm) h4 h5⟩
 |d h1 h2 h3 h4 h5=>obtain⟨r',m',h4'⟩:=h4.woken (b:=g) (b':=g');rw[woken_run h5.running];exact⟨_, .d h1 h2 (h3.mute h0 hc fn pos hm) h4' h5⟩
 |f h1 h2 h3 h4 h5=>
  have ra:a.status= .running:=h4.status.elim (fun x=>x.2) (fun x=>by cases x.1);rw[woken_run ra,woken_quitsD h5];exact⟨_, .f h1 h2 (h3.mute h0 hc fn pos hm) h4 h5⟩
 |j h3 h4 h5=>rw[woken_run h4.running,woken_quitsD h5];exact⟨_, .j (h3.mute h0 hc fn pos hm) h4 h5⟩
theorem gi {Wg:Nat}{T:Trace}{d0 d1 k:Nat}{b:Goroutine}{w:World}(hc0:c≠0)(hL:Law Wg p Sh c true wf T d0 d1)(hq:QuitsD P k d1 b)(hr:b.status= .running)(fn:FuncId)(pos:String):
 ∃b' es k' d1',stepG P false b w= .go b' w es/\k'<k/\Law Wg p Sh c true wf (T++MemOp.ofEvents c fn pos es) d0 d1'/\QuitsD P k' d1' b':=by
 cases k with
 |zero=>rw[hq.1] at hr;cases hr
 |succ k=>
  rcases hq with ⟨hf,_⟩|⟨_,b',es,hm,hst,hq'⟩
  ·rw[hf] at hr;cases hr
  obtain⟨r,hL⟩:=hL;exact⟨b',es,k,_,hst w,Nat.lt_succ_self _,⟨r,hL.mute hc0 fn pos hm (by rw[Deaf_own,hL.hearc])⟩,hq'⟩
theorem uG {g g' a:Goroutine}{w:World}(hm:mayWake P g=true)(h1:g'.status= .running\/g'.status= .finished):woken P g g' w a=a.again w:=by
 unfold woken;rw[if_pos];rcases h1 with h|h<;>simp[hm,h]
theorem sP (F:Fix Wg C Low Mine p Sh c)(hN:p.N0<=wf.heap.size)(ok1: ∀e,EvQ Mine Wg C 1 e->EvB p Sh wf e) (hAr: ∀g w,AnchW g w->g.status= .running)
 (hAn: ∀g w,AnchW g w-> ∃m,Goes P true (RPa ty Wg C vals) (DPi Mine Wg C Low) (AtW1 P ty Wg C Low vals Mine AnchW Post) m g w)
 {μ:Nat×(Nat×Nat×Nat×Nat)} {M:Machine} {T:Trace} (h:Inv3 P ty Wg C Low vals Mine AnchW Post p Sh c wf μ M T):
 ∃M' ops,stepT P M=(.next M',ops)/\((∃μ',LtG μ' μ/\Inv3 P ty Wg C Low vals Mine AnchW Post p Sh c wf μ' M' (T++ops))\/Done3 P Wg C Low Mine Post Sh c M' (T++ops)):=by
 obtain⟨gs,a,b,w₀,sl₀,q,ν,rfl,Cr,hJ₀,rfl⟩:=h;obtain⟨awa,awb,hrun⟩:=hJ₀.shape hAr;obtain⟨i,g,d,sl,hi,hg,hst⟩:=crowd_pick (P:=P) (w:=w₀) (sl:=sl₀) (Cr.awake awa awb) (hrun.elim (fun x=>⟨0,a,Cr.h0,x⟩) (fun x=>⟨c,b,Cr.hc,x⟩));have hJ:=hJ₀.at d;generalize w₀.at d=w at*;clear hJ₀;have hs:=Cr.size;have hilt:i<gs.size:=(Array.getElem?_eq_some_iff.1 hi).1;have hc0:=F.hc0;by_cases h0:i=0
 ·subst h0;obtain rfl:g=a:=by rw[Cr.h0] at hi;exact(Option.some.inj hi).symm
  have fin: ∀{a':Goroutine}{w':World}{es:Array Event}{ν':Nat×Nat×Nat×Nat},stepG P true g w= .go a' w' es->b.again w'=b->Lt4 ν' ν->
   J3 P ty Wg C Low vals Mine AnchW Post p Sh c wf ν' a' b w' (T++MemOp.ofEvents 0 g.frame.fn g.frame.place es)->
   ∃M' ops,stepT P (crowd gs w₀ sl₀)=(.next M',ops)/\((∃μ',LtG μ' (sumTo c q,ν)/\Inv3 P ty Wg C Low vals Mine AnchW Post p Sh c wf μ' M' (T++ops))\/Done3 P Wg C Low Mine Post Sh c M' (T++ops)):=
   fun hgo hb hlt hj=>⟨_,_,hst.trans (runT_crowd_go hi (show stepG P (0==0) g w=_ from hgo)), .inl ⟨(sumTo c q,_), .right _ hlt,_,_,b,_,sl,q,_,rfl,Cr.step0 hb aP,hj,rfl⟩⟩
  cases hJ with
  |a h1 h2 h3 h4 h5=>
   obtain⟨a',w',es,hgo,hrc,hlow,hout⟩:=uD F hAn h3 h1 h4 g.frame.fn g.frame.place;have hb:=again_running w' (.inl h5.running);have hf: ∀{rel:Bool},(rel=true->Full C vals w)->(rel=true->Full C vals w'):=fun hh e=>(hh e).of_block (hlow C F.hC F.hCW);cases hout with
   |stay rp' d0' mp' hl k1 k2 k3=>exact fin hgo hb (lt4_caller (lt2_shift 2 hl)) (.a k1 (hf h2) k2 k3 (h5.rely hrc))
   |reg mp' k1 k2 k3=>exact fin hgo hb (lt4_caller (.left _ _ (by omega))) (.b k1 (hf h2) k2 k3 (h5.rely hrc))
  | @b _ _ _ _ rel cl vs d1 rp mp rc mc h1 h2 h3 h4 h5=>
   obtain rfl:rp=1:=h4.status.elim (fun x=>x.1) (fun x=>by rw[x.2.1] at hg;cases hg);obtain⟨a',w',es,hgo,hrc,rp',mp',hl,k1,k2⟩:=oA F h3 h1 h4 g.frame.fn g.frame.place;exact fin hgo (again_running w' (.inl h5.running)) (lt4_caller hl) (.b (h1.of_block (hrc Wg F.hW)) (fun e=>(h2 e).of_block (hrc C F.hC)) k1 k2 (h5.rely (RCd.toA F.hW hrc)))
  |c h1 h2 h3 h4 h5=>
   obtain⟨a',w',es,hgo,hout⟩:=uE F hAn h3 h1 h2 h4 g.frame.fn g.frame.place;have hb:=again_running w' h5.status;cases hout with
   |stay rp' d0' mp' hl k1 k2 k3 k4=>exact fin hgo hb (lt4_caller (by have:=lt2_shift (vals.length+5) hl;simpa [Nat.add_assoc] using this)) (.c k1 k2 k3 k4 h5)
   |joined mp' k1 k2 k3 k4=>exact fin hgo hb (lt4_caller (.left _ _ (by omega))) (.j k3 k4 h5)
  | @d _ _ _ _ st rp mp rc mc h1 h2 h3 h4 h5=>
   obtain rfl:rp=1:=h4.status.elim (fun x=>x.1) (fun x=>by rw[x.2.1] at hg;cases hg);obtain⟨a',w',es,hgo,hrc,rp',mp',hl,k1,k2⟩:=oA F h3 h1 h4 g.frame.fn g.frame.place;exact fin hgo (again_running w' (.inl h5.running)) (lt4_caller hl) (.d (h1.of_block (hrc Wg F.hW)) (h2.of_block (hrc C F.hC)) k1 k2 (h5.rely hrc))
  |f h1 h2 h3 h4 h5=>
   obtain⟨a',w',es,hgo,hf,hout⟩:=uF F h3 h1 h2 h4 g.frame.fn g.frame.place;have hb:=again_running w' h5.status;rcases hout with ⟨mp',hl,k1,k2,k3⟩|⟨mp',k1,k2,k3⟩
   ·exact fin hgo hb (lt4_caller (.right _ hl)) (.f k1 hf k2 k3 h5)
   ·exact fin hgo hb (lt4_caller (.left _ _ (by omega))) (.j k2 k3 h5)
  |j h3 h4 h5=>
   obtain⟨a',w',es,hgo,hout⟩:=xN F h3 h4 g.frame.fn g.frame.place;have hb:=again_running w' h5.status;rcases hout with ⟨rp',d0',mp',hl,k1,k2⟩|⟨m,k1,k2,k3⟩
   ·exact fin hgo hb (lt4_caller hl) (.j k1 k2 h5)
   ·exact⟨_,_,hst.trans (runT_crowd_go hi (show stepG P (0==0) g w=_ from hgo)), .inr ⟨_,a',b,w',sl,q,_,m,rfl,Cr.step0 hb aP,k1,k2▸h5,k3⟩⟩
 by_cases h1:i=c
 ·subst h1;obtain rfl:g=b:=by rw[Cr.hc] at hi;exact(Option.some.inj hi).symm
  have hi0:(i==0)=false:=by simp[h0]
  have fin: ∀{a' b':Goroutine}{w':World}{es:Array Event}{ν':Nat×Nat×Nat×Nat},stepG P false g w= .go b' w' es->woken P g b' w' a=a'->Lt4 ν' ν->
   J3 P ty Wg C Low vals Mine AnchW Post p Sh i wf ν' a' b' w' (T++MemOp.ofEvents i g.frame.fn g.frame.place es)->
   ∃M' ops,stepT P (crowd gs w₀ sl₀)=(.next M',ops)/\((∃μ',LtG μ' (sumTo i q,ν)/\Inv3 P ty Wg C Low vals Mine AnchW Post p Sh i wf μ' M' (T++ops))\/Done3 P Wg C Low Mine Post Sh i M' (T++ops)):=
   fun hgo ha hlt hj=>⟨_,_,hst.trans (runT_crowd_go hi (by rw[hi0];exact hgo)), .inl ⟨(sumTo i q,_), .right _ hlt,_,_,_,_,sl,q,_,rfl,Cr.stepc ha aP,hj,rfl⟩⟩
  cases hJ with
  |a h1 h2 h3 h4 h5=>
   obtain⟨b',w',es,hgo,hA,hout⟩:=mS F hN ok1 (.inl rfl) h3 h2 h1 h5 g.frame.fn g.frame.place;have ha:woken P g b' w' a=a:=woken_run (h4.running hAr);cases hout with
   |stay rc' d1' rel' vs' cl' mc' hl k1 k2 k3 k4=>exact fin hgo ha (lt4_child _ _ hl) (.a k1 k2 k3 (h4.rely (rpa_of_a h1 hA (.inl k1))) k4)
   |lone q' _ k1 k2 k3 k4=>exact fin hgo ha (.left _ _ (by have:=h5.rank_pos;omega)) (.c k1 k2 k3 (h4.rely (rpa_of_a h1 hA (.inr ⟨k1,k2⟩))) k4)
   |met _ e _ _ _ _=>exact absurd e kk1_ne
  |b h1 h2 h3 h4 h5=>
   obtain⟨b',w',es,hgo,hA,hout⟩:=mS F hN ok1 (.inr rfl) h3 h2 h1 h5 g.frame.fn g.frame.place;cases hout with
   |stay rc' d1' rel' vs' cl' mc' hl k1 k2 k3 k4=>
    obtain⟨r',m',h4'⟩:=(h4.rely (rpb_of_0 h1 hA (.inl k1))).woken (b:=g) (b':=b');exact fin hgo rfl (lt4_child _ _ hl) (.b k1 k2 k3 h4' k4)
   |lone _ e _ _ _ _=>exact absurd e.symm kk1_ne
   |met m1 _ k1 k2 k3 k4=>
    obtain⟨r',m',h4'⟩:=(h4.rely (rpb_of_0 h1 hA (.inr (.inl k1)))).woken (b:=g) (b':=b');exact fin hgo rfl (.left _ _ (by have:=h5.rank_pos;omega)) (.d k1 k2 k3 h4' k4)
  |c h1 h2 h3 h4 h5=>
   obtain⟨b',es,k',d1',hgo,hlt,k1,k2⟩:=gi (w:=w) hc0 h3 h5 hg g.frame.fn g.frame.place;exact fin hgo (woken_run (h4.running hAr)) (.right _ (.left _ _ hlt)) (.c h1 h2 k1 h4 k2)
  | @d _ _ _ _ st rp mp rc mc h1 h2 h3 h4 h5=>
   obtain⟨b',w',es,hgo,hA,hout⟩:=xM F hN h3 h1 h5 g.frame.fn g.frame.place;have hf:=h2.of_block (hA.block C F.hCW);cases hout with
   |stay rc' st' mc' hl k1 k2 k3=>
    have hk:KPb ty Wg C vals w':=by
     rcases k3.st01 with rfl|rfl
     ·exact .inr (.inl k1)
     ·exact .inr (.inr (.inl k1))
    obtain⟨r',m',h4'⟩:=(h4.rely (rpb_of_0 h1 (.of_Wg hA) hk)).woken (b:=g) (b':=b');exact fin hgo rfl (lt4_child _ _ hl) (.d k1 hf k2 h4' k3)
   |freed q' hmw k1 k2 k3=>
    obtain⟨m',h4'⟩:=(h4.rely (rpb_of_0 h1 (.of_Wg hA) (.inr (.inr (.inr ⟨k1,hf⟩))))).again;exact fin hgo (uG hmw k3.status) (.left _ _ h5.rank_pos) (.f k1 hf k2 h4' k3)
  |f h1 h2 h3 h4 h5=>
   have ra:a.status= .running:=h4.status.elim (fun x=>x.2) (fun x=>by cases x.1);obtain⟨b',es,k',d1',hgo,hlt,k1,k2⟩:=gi (w:=w) hc0 h3 h5 hg g.frame.fn g.frame.place;exact fin hgo (woken_run ra) (.right _ (.left _ _ hlt)) (.f h1 h2 k1 h4 k2)
  |j h3 h4 h5=>
   obtain⟨b',es,k',d1',hgo,hlt,k1,k2⟩:=gi (w:=w) hc0 h3 h5 hg g.frame.fn g.frame.place;exact fin hgo (woken_run h4.running) (.right _ (.left _ _ hlt)) (.j k1 h4 k2)
 ·obtain⟨g',es,kk,hq,hrunT,hm,Cr'⟩:=Cr.leaver hi h0 h1 hg sl w;obtain⟨ν',hJ'⟩:=hJ.other (g:=g) (g':=g') hAr h0 h1 g.frame.fn g.frame.place hm;have hsum:=fw (c:=c) (by omega) hq;exact⟨_,_,hst.trans hrunT, .inl ⟨(sumTo c (upd q i kk),ν'), .left _ _ (by omega),_,_,_,w,sl,upd q i kk,ν',rfl,Cr',hJ',rfl⟩⟩
theorem sQ (F:Fix Wg C Low Mine p Sh c)(hN:p.N0<=wf.heap.size)(ok1: ∀e,EvQ Mine Wg C 1 e->EvB p Sh wf e) (hAr: ∀g w,AnchW g w->g.status= .running)
 (hAn: ∀g w,AnchW g w-> ∃m,Goes P true (RPa ty Wg C vals) (DPi Mine Wg C Low) (AtW1 P ty Wg C Low vals Mine AnchW Post) m g w):
 ∀(μ:Nat×(Nat×Nat×Nat×Nat))(M:Machine)(T:Trace),Inv3 P ty Wg C Low vals Mine AnchW Post p Sh c wf μ M T->
  ∃N M' T',runNT P N M T=(.next M',T')/\Done3 P Wg C Low Mine Post Sh c M' T':=by
 intro μ
 induction μ using ltG_wf.induction with
 |_ μ ih=>
  intro M T h;obtain⟨M',ops,hs,hr⟩:=sP F hN ok1 hAr hAn h;rcases hr with ⟨μ',hlt,hI⟩|hd
  ·obtain⟨N,M'',T'',hr,hd⟩:=ih μ' hlt M' _ hI;exact⟨N+1,M'',T'',by simp only[runNT,hs];exact hr,hd⟩
  ·exact⟨1,M',T++ops,by simp only[runNT,hs],hd⟩
end
open Go.ConcX
open Go.ConcN (sumTo upd sumTo_upd upd_ne upd_same)
section
variable {p:Par}{C Wg:Nat}{w w':World}
theorem oB (hC:C<p.N0)(hW:Wg<p.N0)(h:Aside2 C Wg w w')(b:Nat):FA p w' b↔FA p w b:=by
 constructor
 ·rintro⟨hn,o,ho,hi⟩;exact⟨hn,o,by rw[<-h.block b (by omega) (by omega)];exact ho,hi⟩
 ·rintro⟨hn,o,ho,hi⟩;exact⟨hn,o,by rw[h.block b (by omega) (by omega)];exact ho,hi⟩
theorem ky (hC:C<p.N0)(hW:Wg<p.N0)(h:Aside2 C Wg w w'):Kept p w w':=
 ⟨Nat.le_of_eq h.size.symm,fun b hb=>(oB hC hW h b).2 hb,fun b _ hn hb=>hn ((oB hC hW h b).1 hb)⟩
theorem uH (hC:C<p.N0)(hW:Wg<p.N0)(hCs: ∀i,¬p.Still (.cell ⟨C,i,none⟩)) (hWs: ∀i,¬p.Still (.cell ⟨Wg,i,none⟩)) (h:Aside2 C Wg w w'):RA p w w':=
 ⟨h.tape,h.os,h.output,ky hC hW h,fun b hb=>h.block b (by have:=hb.1;omega) (by have:=hb.1;omega),fun b cs ty fl hs hb=>(h.block b (fun e=>by obtain⟨i,hi⟩:=hs;rw[e] at hi;exact hCs i hi) (fun e=>by obtain⟨i,hi⟩:=hs;rw[e] at hi;exact hWs i hi)).trans hb⟩
end
section
variable [Payload](P:Program)(ty:TypeId)(Wg C Low:Nat) [Shy Wg C](vals:List Value)(Mine:Loc->Prop)(AnchW:Goroutine->World->Prop)(Post:Value->World->Prop)(p:Par)(Sh:Loc->Prop)(c E Dn:Nat)(zE zD:Value)(PostB:World->Prop)
def AfterD (b:Goroutine)(w:World):Prop:=WgAt ty Wg w KK 0/\ ∃n,Goes P false (RCa ty Wg Low) (DCs Mine Wg C) (AtR0 P ty Wg C Low vals) n b w
def FinW (g:Goroutine)(w:World):Prop:=KPa ty Wg C vals w-> ∃m,Goes P true (RPa ty Wg C vals) (DPi Mine Wg C Low) (AtKd P ty Wg C Low vals Mine AnchW) m g w
inductive Kid:Nat×Nat->Goroutine->World->Trace->Prop
 |ca {b:Goroutine} {w:World} {T:Trace} {rel cl:Bool} {vs:List Value} {d1 rc mc:Nat}:WgAt ty Wg w KK 0->(rel=true->Full C vals w)->Law Wg p Sh c rel w T 0 d1->CA P ty Wg C Low vals Mine rc d1 rel vs cl mc b w->Kid (rc,mc) b w T
 |quit {b:Goroutine} {w:World} {T:Trace} {d1 k:Nat}:WgAt ty Wg w 0 0->Full C vals w->Law Wg p Sh c true w T 0 d1->QuitsD P k d1 b->Kid (0,k) b w T
def Inv2 (μ:Nat×Nat)(M:Machine)(T:Trace):Prop:=
 ∃(gs:Array Goroutine) (a b:Goroutine) (w:World) (sl:Option (Nat×Nat)) (q:Nat->Nat) (k n rc mc:Nat),
  M=crowd gs w sl/\Crew P c gs a b T q/\w.heap[E]? =some (.chan 0 #[] false k k false)/\w.heap[Dn]? =some (.chan 0 #[] true 0 0 false)/\PostB w/\p.N0<=w.heap.size/\
  Goes P true (RA p) (DG p E Dn) (StopG P p E Dn zE zD PostB (FinW P ty Wg C Low vals Mine AnchW) []) n a w/\Kid P ty Wg C Low vals Mine p Sh c (rc,mc) b w T/\μ=(rc,mc+n+sumTo c q)
end
section
variable [Payload]{P:Program}{ty:TypeId}{Wg C Low:Nat} [Shy Wg C]{vals:List Value}{Mine:Loc->Prop}{AnchW:Goroutine->World->Prop}{Post:Value->World->Prop}{p:Par}{Sh:Loc->Prop}{c E Dn:Nat}{zE zD:Value}{PostB:World->Prop}
theorem Kid.status {μ:Nat×Nat}{b:Goroutine}{w:World}{T:Trace}(h:Kid P ty Wg C Low vals Mine p Sh c μ b w T):b.status= .running\/b.status= .finished:=by
 cases h with
 |ca _ _ _ h=>exact .inl h.running
 |quit _ _ _ h=>exact h.status
theorem z5 (F:Fix Wg C Low Mine p Sh c){w w':World}(hN:p.N0<=w.heap.size)(hR:RB p E Dn w w')(hE:w'.heap[E]? =w.heap[E]?)(hD:w'.heap[Dn]? =w.heap[Dn]?):RCd Low w w':=fun b hb=>by
 by_cases h1:b=E
 ·subst h1;exact hE
 ·by_cases h2:b=Dn
  ·subst h2;exact hD
  ·have:=F.hLow;exact hR.block b (by omega) (fun f=>by have:=f.1;omega) h1 h2
theorem Kid.caller (F:Fix Wg C Low Mine p Sh c){μ:Nat×Nat}{b:Goroutine}{w w':World}{T:Trace}(h:Kid P ty Wg C Low vals Mine p Sh c μ b w T)(hk:Kept p w w')(hR:RCd Low w w')(fn:FuncId)(pos:String){es:Array Event}(hes: ∀e∈es,EvA p w' e):
 Kid P ty Wg C Low vals Mine p Sh c μ b w' (T++MemOp.ofEvents 0 fn pos es):=by
 cases h with
 |ca h1 h2 h3 h4=>exact .ca (h1.of_block (hR Wg F.hW)) (fun e=>(h2 e).of_block (hR C F.hC)) (h3.addA F.hc0 hk F.hSh fn pos hes) (h4.rely (RCd.toA F.hW hR))
 |quit h1 h2 h3 h4=>exact .quit (h1.of_block (hR Wg F.hW)) (h2.of_block (hR C F.hC)) (h3.addA F.hc0 hk F.hSh fn pos hes) h4
theorem sR (F:Fix Wg C Low Mine p Sh c)(hED:E≠Dn)(hEW:E≠Wg/\E≠C)(hDW:Dn≠Wg/\Dn≠C)(ok1: ∀w,p.N0<=w.heap.size-> ∀e,EvQ Mine Wg C 1 e->EvB p Sh w e)
 (hPb: ∀w w₁,RB p E Dn w w₁->PostB w->PostB w₁) (hPc: ∀w w₁,Aside2 C Wg w w₁->PostB w->PostB w₁)
 {μ:Nat×Nat} {M:Machine} {T:Trace} (h:Inv2 P ty Wg C Low vals Mine AnchW p Sh c E Dn zE zD PostB μ M T):
 ∃M' ops,stepT P M=(.next M',ops)/\((∃μ',LtP μ' μ/\Inv2 P ty Wg C Low vals Mine AnchW p Sh c E Dn zE zD PostB μ' M' (T++ops))\/
  (∃wf μ',p.N0<=wf.heap.size/\Inv3 P ty Wg C Low vals Mine AnchW Post p Sh c wf μ' M' (T++ops))):=by
 obtain⟨gs,a,b,w₀,sl₀,q,k,n,rc,mc,rfl,Cr,hE₀,hD₀,hP₀,hN₀,hA₀,hK₀,rfl⟩:=h;have hW0:Wg<p.N0:=Nat.lt_of_lt_of_le F.hW F.hLow;have hC0:C<p.N0:=Nat.lt_of_lt_of_le F.hC F.hLow;have ra:=hA₀.running (fun _ _=>StopG.running) w₀ (RA.refl p w₀);obtain⟨i,g,d,sl,hi,hg,hst⟩:=crowd_pick (P:=P) (w:=w₀) (sl:=sl₀) (Cr.awake (awake_of (.inl ra)) (awake_of (hK₀.status.elim .inl fun x=> .inr (.inr x)))) ⟨0,a,Cr.h0,ra⟩;have hE:(w₀.at d).heap[E]? =some (.chan 0 #[] false k k false):=hE₀;have hD:(w₀.at d).heap[Dn]? =some (.chan 0 #[] true 0 0 false):=hD₀;have hP:PostB (w₀.at d):=hPb _ _ (RB.at p E Dn w₀ d) hP₀;have hN:p.N0<=(w₀.at d).heap.size:=hN₀;have hA:=Goes.rely RA.trans hA₀ (RA.at p w₀ d);have hK:Kid P ty Wg C Low vals Mine p Sh c (rc,mc) b (w₀.at d) T:=by
  cases hK₀ with
  |ca h1 h2 h3 h4=>exact .ca h1 h2 (h3.world (ip p w₀ d)) (h4.rely (RCa.at w₀ d))
  |quit h1 h2 h3 h4=>exact .quit h1 h2 (h3.world (ip p w₀ d)) h4
 generalize w₀.at d=w at*;clear hE₀ hD₀ hP₀ hN₀ hA₀ hK₀;have hs:=Cr.size;have hcp:=Cr.pos;have hilt:i<gs.size:=(Array.getElem?_eq_some_iff.1 hi).1;by_cases h0:i=0
 ·subst h0;obtain rfl:g=a:=by rw[Cr.h0] at hi;exact(Option.some.inj hi).symm
  rcases hA.cases with hstop|⟨n',rfl,hstep⟩
  ·obtain⟨_,es,hcomm,hev⟩:=(hstop w (RA.refl p w)).sel;have hcomm0:stepG P (0==0) g w= .comm (core g) (selCases E Dn zE zD) true .select w es:=hcomm;have none: ∀ch,partners (gs.setIfInBounds 0 ph) ch true=[]:=fun ch=>partners_nil fun x y hy=>by
    rcases getElem?_stand gs 0 x y hy with ⟨_,rfl⟩|⟨hx,hy'⟩
    ·exact offersAt_ph _ _
    ·by_cases hxc:x=c
     ·subst hxc;rw[Cr.hc] at hy';obtain rfl:=Option.some.inj hy';exact offersAt_of_not_blocked (fun hb=>by rcases hK.status with z|z<;>rw[z] at hb<;>cases hb) _ _
     ·exact Cr.noOffer hx hxc hy' _ _
   have hrun:=crowd_sel_recv_closed (sl:=sl) (k:=1) (c:=Dn) (z:=zD) hi hcomm0 rfl
    (fun m c' hm hc'=>by
     rcases m with _|_|m
     ·have:c'=rcase E zE:=by simpa [selCases] using hc'.symm
      subst this;exact ways_recv_none hE (none E)
     ·omega
     ·simp[selCases] at hc') hD (none Dn)
   have hfin:=(hstop w (RA.refl p w)).nil w (RA.refl p w) hP;have hKa:=hK.caller F (Kept.refl p w) (RCd.refl w) g.frame.fn g.frame.place hev
   have hput:Crew P c (gs.setIfInBounds 0 ((core g).finishComm P (selCases E Dn zE zD) .select 1 zD false)) (Conc.served (core g) (commResult (selCases E Dn zE zD) .select 1 zD false)) b
    (T++(MemOp.ofEvents 0 g.frame.fn g.frame.place es++ #[{g:=0,fn:=(core g).frame.fn,pos:=(core g).frame.place,act:= .recvClosed Dn}])) q:=
    Cr.put (by simp) (by simp[hilt];rfl) (by rw[Array.getElem?_setIfInBounds_ne (by omega)];exact Cr.hc) (fun x hx _=>Array.getElem?_setIfInBounds_ne (Ne.symm hx)) (fun op hop=> .inl (by
     rcases Array.mem_append.1 hop with x|x
     ·exact aP op x
     ·have:op={g:=0,fn:=(core g).frame.fn,pos:=(core g).frame.place,act:= .recvClosed Dn}:=by simpa using x
      rw[this]))
   have st1: ∀{rel:Bool}{d1:Nat},Law Wg p Sh c rel w (T++MemOp.ofEvents 0 g.frame.fn g.frame.place es) 0 d1->
    Law Wg p Sh c rel w (T++(MemOp.ofEvents 0 g.frame.fn g.frame.place es++ #[{g:=0,fn:=(core g).frame.fn,pos:=(core g).frame.place,act:= .recvClosed Dn}])) 0 d1:=fun hl=>by
    rw[<-Array.append_assoc];refine hl.still (fun op hop=> ?_) (fun op hop=> ?_) (fun g'=>by rw[Deaf_push];simp[deafStep])
    ·have:op={g:=0,fn:=(core g).frame.fn,pos:=(core g).frame.place,act:= .recvClosed Dn}:=by simpa using hop
     rw[this];rfl
    ·have:op={g:=0,fn:=(core g).frame.fn,pos:=(core g).frame.place,act:= .recvClosed Dn}:=by simpa using hop
     rw[this];simp
   cases hKa with
   |ca h1 h2 h3 h4=>
    obtain⟨m,hm⟩:=hfin (.inl h1);exact⟨_,_,hst.trans hrun, .inr ⟨w,(sumTo c q,_),hN,_,_,b,w,sl,q,_,rfl,hput, .a h1 h2 (st1 h3) (.kd hm) h4,rfl⟩⟩
   |quit h1 h2 h3 h4=>
    obtain⟨m,hm⟩:=hfin (.inr ⟨h1,h2⟩);exact⟨_,_,hst.trans hrun, .inr ⟨w,(sumTo c q,_),hN,_,_,b,w,sl,q,_,rfl,hput, .c h1 h2 (st1 h3) (.kd hm) h4,rfl⟩⟩
  ·obtain⟨a',w',es,hgo,⟨hR,hE',hD',hev⟩,hG'⟩:=hstep w (RA.refl p w)
   exact⟨_,_,hst.trans (runT_crowd_go hi (show stepG P (0==0) g w=_ from hgo)), .inl ⟨(rc,mc+n'+sumTo c q), .right _ (by omega),_,a',b,w',sl,q,k,n',rc,mc,rfl,
    Cr.step0 (again_running w' hK.status) aP,hE'.trans hE,hD'.trans hD,hPb _ _ hR hP,Nat.le_trans hN hR.kept.size,hG',hK.caller F hR.kept (z5 F hN hR hE' hD') _ _ hev,rfl⟩⟩
 by_cases h1:i=c
 ·subst h1;obtain rfl:g=b:=by rw[Cr.hc] at hi;exact(Option.some.inj hi).symm
  have hi0:(i==0)=false:=by simp[h0]
  have ra':=hA.running (fun _ _=>StopG.running) w (RA.refl p w)
  have fin: ∀{b':Goroutine}{w':World}{es:Array Event}{rc' mc':Nat},stepG P false g w= .go b' w' es->Aside2 C Wg w w'->Lt2 (rc',mc') (rc,mc)->Kid P ty Wg C Low vals Mine p Sh i (rc',mc') b' w' (T++MemOp.ofEvents i g.frame.fn g.frame.place es)->
   ∃M' ops,stepT P (crowd gs w₀ sl₀)=(.next M',ops)/\((∃μ',LtP μ' (rc,mc+n+sumTo i q)/\Inv2 P ty Wg C Low vals Mine AnchW p Sh i E Dn zE zD PostB μ' M' (T++ops))\/
    (∃wf μ',p.N0<=wf.heap.size/\Inv3 P ty Wg C Low vals Mine AnchW Post p Sh i wf μ' M' (T++ops))):=by
   intro b' w' es rc' mc' hgo hAs hlt hk;refine⟨_,_,hst.trans (runT_crowd_go hi (by rw[hi0];exact hgo)), .inl ⟨(rc',mc'+n+sumTo i q), ?_,_,a,b',w',sl,q,k,n,rc',mc',rfl,Cr.stepc (woken_run ra') aP, ?_, ?_,hPc _ _ hAs hP,by rw[hAs.size];exact hN,Goes.rely RA.trans hA (uH hC0 hW0 F.hCS (fun i s=>F.hSh.ap _ s (F.hSW _ ⟨_,rfl,rfl⟩)) hAs),hk,rfl⟩⟩
   ·rcases Prod.lex_def.1 hlt with z|⟨z1,z2⟩
    ·exact .left _ _ z
    ·simp only at z1 z2;subst z1;exact .right _ (by omega)
   ·rw[hAs.block E hEW.2 hEW.1];exact hE
   ·rw[hAs.block Dn hDW.2 hDW.1];exact hD
  cases hK with
  |ca h1 h2 h3 h4=>
   obtain⟨b',w',es,hgo,hAs,hout⟩:=mS F hN (ok1 w hN) (.inl rfl) h3 h2 h1 h4 g.frame.fn g.frame.place;have hkw:=ky hC0 hW0 hAs;cases hout with
   |stay rc' d1' rel' vs' cl' mc' hl k1 k2 k3 k4=>exact fin hgo hAs hl (.ca k1 k2 (k3.world hkw) k4)
   |lone q' _ k1 k2 k3 k4=>exact fin hgo hAs (.left _ _ (by have:=h4.rank_pos;omega)) (.quit k1 k2 (k3.world hkw) k4)
   |met _ e _ _ _ _=>exact absurd e kk1_ne
  |quit h1 h2 h3 h4=>
   obtain⟨b',es,k',d1',hgo,hlt,k1,k2⟩:=gi (w:=w) F.hc0 h3 h4 hg g.frame.fn g.frame.place;exact fin hgo (.refl w) (.right _ hlt) (.quit h1 h2 k1 k2)
 ·obtain⟨g',es,kk,hq,hrunT,hm,Cr'⟩:=Cr.leaver hi h0 h1 hg sl w;have ra':=hA.running (fun _ _=>StopG.running) w (RA.refl p w);rw[woken_run ra',dM (again_running w hK.status)] at Cr';have hsum:=fw (c:=c) (by omega) hq;have hK':Kid P ty Wg C Low vals Mine p Sh c (rc,mc) b w (T++MemOp.ofEvents i g.frame.fn g.frame.place es):=by
   cases hK with
   |ca k1 k2 k3 k4=>exact .ca k1 k2 (k3.mute h0 h1 _ _ hm) k4
   |quit k1 k2 k3 k4=>exact .quit k1 k2 (k3.mute h0 h1 _ _ hm) k4
  exact⟨_,_,hst.trans hrunT, .inl ⟨(rc,mc+n+sumTo c (upd q i kk)), .right _ (by omega),_,a,b,w,sl,upd q i kk,k,n,rc,mc,rfl,Cr',hE,hD,hP,hN,hA,hK',rfl⟩⟩
theorem sS (F:Fix Wg C Low Mine p Sh c)(hED:E≠Dn)(hEW:E≠Wg/\E≠C)(hDW:Dn≠Wg/\Dn≠C)(ok1: ∀w,p.N0<=w.heap.size-> ∀e,EvQ Mine Wg C 1 e->EvB p Sh w e)
 (hPb: ∀w w₁,RB p E Dn w w₁->PostB w->PostB w₁) (hPc: ∀w w₁,Aside2 C Wg w w₁->PostB w->PostB w₁):
 ∀(μ:Nat×Nat)(M:Machine)(T:Trace),Inv2 P ty Wg C Low vals Mine AnchW p Sh c E Dn zE zD PostB μ M T->
  ∃N M' T' wf μ',runNT P N M T=(.next M',T')/\p.N0<=wf.heap.size/\Inv3 P ty Wg C Low vals Mine AnchW Post p Sh c wf μ' M' T':=by
 intro μ
 induction μ using Dx.induction with
 |_ μ ih=>
  intro M T h;obtain⟨M',ops,hs,hr⟩:=sR (Post:=Post) F hED hEW hDW ok1 hPb hPc h;rcases hr with ⟨μ',hlt,hI⟩|⟨wf,μ',hn,hd⟩
  ·obtain⟨N,M'',T'',wf,ν,hr,hd⟩:=ih μ' hlt M' _ hI;exact⟨N+1,M'',T'',wf,ν,by simp only[runNT,hs];exact hr,hd⟩
  ·exact⟨1,M',T++ops,wf,μ',by simp only[runNT,hs],hn,hd⟩
theorem oC (F:Fix Wg C Low Mine p Sh c)(hED:E≠Dn)(hEW:E≠Wg/\E≠C)(hDW:Dn≠Wg/\Dn≠C)(hDN:Dn<p.N0)(hDS: ∀l,Sh l->l≠ .obj Dn) (ok1: ∀w,p.N0<=w.heap.size-> ∀e,EvQ Mine Wg C 1 e->EvB p Sh w e)
 (hPb: ∀w w₁,RB p E Dn w w₁->PostB w->PostB w₁) (hPc: ∀w w₁,Aside2 C Wg w w₁->PostB w->PostB w₁) (hPn: ∀w,PostB w->p.N0<=w.heap.size)
 (hAr: ∀g w,AnchW g w->g.status= .running) (hAn: ∀g w,AnchW g w-> ∃m,Goes P true (RPa ty Wg C vals) (DPi Mine Wg C Low) (AtW1 P ty Wg C Low vals Mine AnchW Post) m g w)
 (μ:Nat×Nat) (M:Machine) (T:Trace) (h:Inv1 P p Sh E Dn zE zD PostB (AfterD P ty Wg C Low vals Mine) (FinW P ty Wg C Low vals Mine AnchW) c μ M T):
 ∃N M' T',runNT P N M T=(.next M',T')/\Done3 P Wg C Low Mine Post Sh c M' T':=by
 obtain⟨N1,M1,T1,r1,gs,a,b,w,sl,q,k,rfl,Cr,hT,hE,hD,hP,hG,⟨hwg,nb,hB⟩,hbr⟩:=sN hED F.hc0 hDN F.hSh hDS hPb μ M T h;obtain⟨n,hG⟩:=(cN _ _ _ _ _ _ _ _ _ _ _).1 hG
 have hI:Inv2 P ty Wg C Low vals Mine AnchW p Sh c E Dn zE zD PostB (7,nb+n+sumTo c q) (crowd gs w sl) T1:=
  ⟨gs,a,b,w,sl,q,k,n,7,nb,rfl,Cr,hE,hD,hP,hPn w hP,hG, .ca (rel:=false) hwg (fun e=>by cases e) ⟨hT,rfl⟩ (.r0 hB),rfl⟩
 obtain⟨N2,M2,T2,wf,ν,r2,hn,hI3⟩:=sS (Post:=Post) F hED hEW hDW ok1 hPb hPc _ _ _ hI;obtain⟨N3,M3,T3,r3,hd⟩:=sQ F hn (ok1 wf hn) hAr hAn _ _ _ hI3;refine⟨N1+N2+N3,M3,T3, ?_,hd⟩;rw[runNT_add,runNT_add,r1];simp only[r2];exact r3
end
open Go.ConcX
open Go.ConcN (sumTo upd sumTo_upd upd_ne upd_same)
def EvP (Sh:Loc->Prop)(e:Event):Prop:=(∀x,(MemAct.ofEvent e).touch? =some x->Sh x.loc->x.kind≠ .plain)/\(e.loc≠ .mark .disable/\e.loc≠ .mark .enable)
section
variable {Sh:Loc->Prop}{t:Trace}{d₀:Nat}
theorem Past0.own (h:Past0 Sh t d₀)(fn:FuncId)(pos:String){es:Array Event}(hes: ∀e∈es,EvP Sh e):Past0 Sh (t++MemOp.ofEvents 0 fn pos es) d₀:=by
 refine⟨fun said=>noRace_append (h.clean said) aP fun i a ha op hop b hb hc=> ?_,fun i a ha hm=> ?_,handedOver_app h.over fun op hop=> .inl (aP op hop),(dL (fun e he=>(hes e he).2) t 0 fn pos 0).trans h.hears⟩
 ·obtain⟨e,he,rfl⟩:=Conc.mem_ofEvents hop;rcases h.known i a ha hc.2.1 with x|⟨s,hk⟩
  ·exact x
  ·have hkb:=(hes e he).1 b hb (hc.1▸s);obtain⟨_,_,_,hcase⟩:=hc;rw[hk] at hcase;rcases hcase with z|z|⟨_,z,_⟩
   ·cases z
   ·exact absurd z hkb
   ·cases z
 ·obtain⟨x,hx,hxa⟩:=touch_of ha;rcases getElem?_append_cases hx with ⟨hi,hx'⟩|⟨_,hxu⟩
  ·exact(h.known i a (by rw[touchAt_of hx'];exact hxa) hm).imp (·.app _) id
  ·have hxg:=g?_new hx;rw[aP x hxu] at hxg;exact .inl (cG hxg)
theorem Past0.mute (h:Past0 Sh t d₀){g:Nat}(hg:g≠0)(fn:FuncId)(pos:String){es:Array Event}(hm: ∀e∈es,e.mute=true):Past0 Sh (t++MemOp.ofEvents g fn pos es) d₀:=by
 have hu:=gS (g:=g) (fn:=fn) (pos:=pos) hm;refine⟨fun said=>cZ (h.clean said) hu,fun i a ha hm'=> ?_,handedOver_app h.over fun op hop=> .inr (hu op hop),(Deaf_other t hg _ aP).trans h.hears⟩;obtain⟨x,hx,hxa⟩:=touch_of ha;rcases getElem?_append_cases hx with ⟨hi,hx'⟩|⟨_,hxu⟩
 ·exact(h.known i a (by rw[touchAt_of hx'];exact hxa) hm').imp (·.app _) id
 ·rw[hu x hxu] at hxa;cases hxa
theorem Past0.word (h:Past0 Sh t d₀)(fn:FuncId)(pos:String){m:Mark}(hm:m= .disable\/m= .enable):Past0 Sh (t++MemOp.ofEvents 0 fn pos #[ConcX.mk m]) (deafBehind d₀ #[ConcX.mk m]):=by
 have hu: ∀op∈MemOp.ofEvents 0 fn pos #[ConcX.mk m],op.act.touch? =none:=fun op hop=>by
  obtain⟨e,he,rfl⟩:=Conc.mem_ofEvents hop;rw[Array.mem_singleton] at he;subst he;rcases hm with rfl|rfl<;>rfl
 refine⟨fun said=>cZ (h.clean said) hu,fun i a ha hm'=> ?_,handedOver_app h.over fun op hop=> .inl (aP op hop),by rw[Deaf_own,h.hears]⟩;obtain⟨x,hx,hxa⟩:=touch_of ha;rcases getElem?_append_cases hx with ⟨hi,hx'⟩|⟨_,hxu⟩
 ·exact(h.known i a (by rw[touchAt_of hx'];exact hxa) hm').imp (·.app _) id
 ·rw[hu x hxu] at hxa;cases hxa
theorem sT:Past0 Sh #[]:=
 ⟨fun said=>by rintro⟨i,j,_,⟨a,b,ha,_⟩,_⟩;simp[Trace.act?] at ha,fun i a ha=>by simp[touchAt,Trace.act?] at ha,fun i g hg=>by simp[Trace.g?] at hg,rfl⟩
end
section
variable {P:Program}{Sh:Loc->Prop}{D:World->World->Array Event->Prop}{Stop:Goroutine->World->Prop}
theorem oD {d₀:Nat}(hSr: ∀g w,Stop g w->g.status= .running) (hD: ∀w w' es,D w w' es-> ∀e∈es,EvP Sh e):
 ∀(M n:Nat)(gs:Array Goroutine)(a:Goroutine)(w:World)(sl:Option (Nat×Nat))(t:Trace)(q:Nat->Nat),n+sumTo gs.size q=M->gs[0]? =some a->Leavers P t gs q->Past0 Sh t d₀->
  Goes P true AtRel D Stop n a w->
  ∃(N:Nat) (gs':Array Goroutine) (a':Goroutine) (w':World) (sl':Option (Nat×Nat)) (t':Trace) (q':Nat->Nat) (d:Nat) (sl'':Option (Nat×Nat)),
   runNT P N (crowd gs w sl) t=(.next (crowd gs' w' sl'),t')/\gs'.size=gs.size/\gs'[0]? =some a'/\Leavers P t' gs' q'/\Past0 Sh t' d₀/\Stop a' (w'.at d)/\stepT P (crowd gs' w' sl')=runT P (crowd gs' (w'.at d) sl'') 0:=by
 intro M
 induction M using Nat.strongRecOn with
 |_ M ih=>
  intro n gs a w sl T q hM h0 hL hP hG;have hrun:a.status= .running:=hG.running hSr w (atRel_refl w);have hpos:0<gs.size:=(Array.getElem?_eq_some_iff.1 h0).1;have haw: ∀g∈gs,awake g:=by
   intro g hg;obtain⟨i,hi,rfl⟩:=Array.mem_iff_getElem.1 hg;rcases Nat.eq_zero_or_pos i with rfl|hp
   ·have:gs[0]=a:=by simpa [Array.getElem?_eq_getElem hi] using h0
    rw[this];exact awake_of (.inl hrun)
   ·exact awake_of ((hL.old i _ hp (Array.getElem?_eq_getElem hi)).status.elim .inl fun x=> .inr (.inr x))
  obtain⟨i,g,d,sl',hi,hg,hst⟩:=crowd_pick (P:=P) (w:=w) (sl:=sl) haw ⟨0,a,h0,hrun⟩;rcases Nat.eq_zero_or_pos i with rfl|hp
  ·obtain rfl:g=a:=by rw[h0] at hi;exact(Option.some.inj hi).symm
   rcases hG.cases with hstop|⟨n',rfl,hstep⟩
   ·exact⟨0,gs,g,w,sl,T,q,d,sl',rfl,rfl,h0,hL,hP,hstop (w.at d) ⟨d,rfl⟩,hst⟩
   ·obtain⟨a',w',es,hgo,hd,hG'⟩:=hstep (w.at d) ⟨d,rfl⟩;have hrunT:=runT_crowd_go (P:=P) (sl:=sl') (i:=0) hi (show stepG P (0==0) g (w.at d)=_ from hgo);have hsz:((gs.map (Go.Conc.woken P g a' w')).setIfInBounds 0 a').size=gs.size:=by simp
    have hL':Leavers P (T++MemOp.ofEvents 0 g.frame.fn g.frame.place es) ((gs.map (Go.Conc.woken P g a' w')).setIfInBounds 0 a') q:=
     ⟨fun j x hj hx=>by
      rw[Array.getElem?_setIfInBounds_ne (by omega),Array.getElem?_map] at hx;obtain⟨y,hy,rfl⟩:=Option.map_eq_some_iff.1 hx;have hq:=hL.old j y hj hy;rw[woken_quitsD hq,Deaf_other T (g':=0) (by omega) _ aP];exact hq,
      fun j hj=>by
       have hj':gs.size<=j:=by simpa using hj
       rw[Deaf_other T (g':=0) (by omega) _ aP];exact hL.above j hj'⟩
    obtain⟨N,gs',a'',w'',sl₂,T',q',d',sl₃,hr,hs',h0',hL2,hP2,hS,hst'⟩:=ih (n'+sumTo gs.size q) (by omega) n' ((gs.map (Go.Conc.woken P g a' w')).setIfInBounds 0 a') a' w' sl'
     (T++MemOp.ofEvents 0 g.frame.fn g.frame.place es) q (by rw[hsz]) (by simp[hpos]) hL' (hP.own _ _ (hD _ _ _ hd)) hG'
    exact⟨N+1,gs',a'',w'',sl₂,T',q',d',sl₃,by simp only[runNT,hst,hrunT];exact hr,hs'.trans hsz,h0',hL2,hP2,hS,hst'⟩
  ·have hq:=hL.old i g hp hi;have hi0:(i==0)=false:=by simp;omega
   have hlt:i<gs.size:=(Array.getElem?_eq_some_iff.1 hi).1;cases hqi:q i with
   |zero=>rw[hqi] at hq;rw[hq.1] at hg;cases hg
   |succ k=>
    rw[hqi] at hq;rcases hq with ⟨hf,_⟩|⟨_,g',es,hm,hstp,hq'⟩
    ·rw[hf] at hg;cases hg
    have hrunT:=runT_crowd_go (P:=P) (sl:=sl') (i:=i) hi (by rw[hi0];exact hstp (w.at d));have hsz:((gs.map (Go.Conc.woken P g g' (w.at d))).setIfInBounds i g').size=gs.size:=by simp
    have hsum:=fw (c:=gs.size) hlt hqi
    obtain⟨N,gs',a'',w'',sl₂,T',q',d',sl₃,hr,hs',h0',hL2,hP2,hS,hst'⟩:=ih (n+sumTo gs.size (upd q i k)) (by omega) n ((gs.map (Go.Conc.woken P g g' (w.at d))).setIfInBounds i g') a (w.at d) sl'
     (T++MemOp.ofEvents i g.frame.fn g.frame.place es) (upd q i k) (by rw[hsz])
     (by rw[Array.getElem?_setIfInBounds_ne (by omega),Array.getElem?_map,h0];simp[woken_run hrun])
     ⟨fun j x hj hx=>by
      by_cases hji:i=j
      ·subst hji;rw[Array.getElem?_setIfInBounds_self_of_lt (by simpa using hlt)] at hx;obtain rfl:=Option.some.inj hx;rw[upd_same,Deaf_own];exact hq'
      ·rw[Array.getElem?_setIfInBounds_ne hji,Array.getElem?_map] at hx;obtain⟨y,hy,rfl⟩:=Option.map_eq_some_iff.1 hx;have hqj:=hL.old j y hj hy;rw[woken_quitsD hqj,upd_ne q k (Ne.symm hji),Deaf_other T hji _ aP];exact hqj,
      fun j hj=>by
       have hj':gs.size<=j:=by simpa using hj
       rw[Deaf_other T (g':=i) (by omega) _ aP];exact hL.above j hj'⟩
     (hP.mute (by omega) _ _ hm) (Goes.rely atRel_trans hG ⟨d,rfl⟩)
    exact⟨N+1,gs',a'',w'',sl₂,T',q',d',sl₃,by simp only[runNT,hst,hrunT];exact hr,hs'.trans hsz,h0',hL2,hP2,hS,hst'⟩
theorem Dy {d₀:Nat}{m:Mark}{Next:Goroutine->World->Prop}(hm:m= .disable\/m= .enable)(hD: ∀w w' es,D w w' es-> ∀e∈es,EvP Sh e) {gs:Array Goroutine} {a:Goroutine} {w:World} {sl:Option (Nat×Nat)} {t:Trace} {q:Nat->Nat} {n:Nat}
 (h0:gs[0]? =some a) (hL:Leavers P t gs q) (hP:Past0 Sh t d₀) (hG:Goes P true AtRel D (AtMkS P m Next) n a w):
 ∃(N:Nat) (gs':Array Goroutine) (a':Goroutine) (w':World) (sl':Option (Nat×Nat)) (t':Trace) (q':Nat->Nat),
  runNT P N (crowd gs w sl) t=(.next (crowd gs' w' sl'),t')/\gs'.size=gs.size/\gs'[0]? =some a'/\Leavers P t' gs' q'/\Past0 Sh t' (deafBehind d₀ #[mk m])/\Next a' w':=by
 obtain⟨N,gs',a',w',sl',t',q',d,sl'',hr,hsz,h0',hL',hP',⟨hrun,g',hgo,hnext⟩,hst⟩:=oD (fun _ _ h=>h.1) hD _ n gs a w sl t q rfl h0 hL hP hG;have hpos:0<gs'.size:=(Array.getElem?_eq_some_iff.1 h0').1;have hrunT:=runT_crowd_go (P:=P) (sl:=sl'') (i:=0) h0' (show stepG P (0==0) a' (w'.at d)=_ from hgo);refine⟨N+1,(gs'.map (Go.Conc.woken P a' g' (w'.at d))).setIfInBounds 0 g',g',w'.at d,sl'',_,q', ?_,by simp[hsz],by simp[hpos],⟨fun j x hj hx=> ?_,fun j hj=> ?_⟩,hP'.word a'.frame.fn a'.frame.place hm,hnext⟩
 ·rw[runNT_add,hr];simp only[runNT,hst,hrunT]
 ·rw[Array.getElem?_setIfInBounds_ne (by omega),Array.getElem?_map] at hx;obtain⟨y,hy,rfl⟩:=Option.map_eq_some_iff.1 hx;have hq:=hL'.old j y hj hy;rw[woken_quitsD hq,Deaf_other t' (g':=0) (by omega) _ aP];exact hq
 ·have hj':gs'.size<=j:=by simpa using hj
  rw[Deaf_other t' (g':=0) (by omega) _ aP];exact hL'.above j hj'
def AtEnd0 (P:Program)(Sh:Loc->Prop)(Post:Value->World->Prop)(g:Goroutine)(w:World):Prop:=
 g.status= .running/\ ∃v es,stepG P true g w= .ended (.done v) w es/\(∀e∈es,EvP Sh e)/\Post v w
theorem BO {Post:Value->World->Prop}(hD: ∀w w' es,D w w' es-> ∀e∈es,EvP Sh e) {gs:Array Goroutine} {a:Goroutine} {w:World} {sl:Option (Nat×Nat)} {t:Trace} {q:Nat->Nat} {n:Nat}
 (h0:gs[0]? =some a) (hL:Leavers P t gs q) (hP:Past0 Sh t) (hG:Goes P true AtRel D (AtEnd0 P Sh Post) n a w):
 ∃N last o w' t',runNT P (N+1) (crowd gs w sl) t=(.ended o w',t')/\runN P N (crowd gs w sl)= .next last/\step P last= .ended o w'/\Good P Post last o w' t':=by
 obtain⟨N,gs',a',w',sl',t',q',d,sl'',hr,hsz,h0',hL',hP',⟨hrun,v,es,hend,hes,hpost⟩,hst⟩:=oD (fun _ _ h=>h.1) hD _ n gs a w sl t q rfl h0 hL hP hG;have hone:runT P (crowd gs' (w'.at d) sl'') 0=(.ended (.done v) (w'.at d),MemOp.ofEvents 0 a'.frame.fn a'.frame.place es):=by
  obtain⟨hlt,rfl⟩:=Array.getElem?_eq_some_iff.1 h0';have hsw:=swapAt_of_lt hlt {(default:Goroutine) with status:= .finished};show runT P {world:=w'.at d,gs:=gs',rest:={timers:= #[],alone:=none,slice:=sl''}} 0=_;unfold runT;simp only[hsw,beq_self_eq_true,hend,GStep.es]
 have hP2:=hP'.own a'.frame.fn a'.frame.place hes;refine⟨N,crowd gs' w' sl', .done v,w'.at d,t'++MemOp.ofEvents 0 a'.frame.fn a'.frame.place es, ?_, ?_, ?_,v,rfl,hpost,hP2.clean,hP2.over,⟨fun g hg=> ?_,rfl⟩,fun i g hi hne=> ?_⟩
 ·rw[runNT_add,hr];simp only[runNT,hst,hone]
 ·rw[<-runNT_fst P _ _ t,hr]
 ·unfold step;rw[hst,hone]
 ·obtain⟨i,hi⟩:=List.mem_iff_getElem?.1 hg;rw[List.getElem?_drop] at hi;have hi':gs'[1+i]? =some g:=by simpa [crowd] using hi
  exact⟨_,(hL'.old (1+i) g (by omega) hi').leaves⟩
 ·have hi':gs'[i]? =some g:=hi;have hq:=hL'.old i g (by omega) hi';have hd:(t'++MemOp.ofEvents 0 a'.frame.fn a'.frame.place es).deaf i (t'++MemOp.ofEvents 0 a'.frame.fn a'.frame.place es).size=Deaf t' i:=Deaf_other t' (g':=0) (by omega) _ aP;rw[hd];exact⟨_,hq.hears _⟩
def AtFork (P:Program)(Sh:Loc->Prop)(K:Goroutine->Goroutine->World->Prop)(g:Goroutine)(w:World):Prop:=
 g.status= .running/\ ∃g' child es,stepG P true g w= .spawn g' child w es/\(∀e∈es,EvP Sh e)/\K g' child w
theorem sU {p:Par}{Sh Sh':Loc->Prop}{c:Nat}{w:World}{t:Trace}(h:Past0 Sh t)(hs: ∀l,Sh l->Sh' l) (hc:Deaf t c=0) (f1 f2:FuncId) (p1 p2:String):
 Talk p Sh' c w (t++ #[{g:=0,fn:=f1,pos:=p1,act:= .go c},{g:=c,fn:=f2,pos:=p2,act:= .start}]) 0:=by
 have hu: ∀op∈(#[{g:=0,fn:=f1,pos:=p1,act:= .go c},{g:=c,fn:=f2,pos:=p2,act:= .start}]:Trace),op.act.touch? =none:=by
  intro op hop;simp only[List.mem_toArray,List.mem_cons,List.not_mem_nil,or_false] at hop;rcases hop with rfl|rfl<;>rfl
 have hd: ∀g,Deaf (t++ #[{g:=0,fn:=f1,pos:=p1,act:= .go c},{g:=c,fn:=f2,pos:=p2,act:= .start}]) g=Deaf t g:=fun g=>by
  rw[show (#[{g:=0,fn:=f1,pos:=p1,act:= .go c},{g:=c,fn:=f2,pos:=p2,act:= .start}]:Trace)=([{g:=0,fn:=f1,pos:=p1,act:= .go c},{g:=c,fn:=f2,pos:=p2,act:= .start}]:List MemOp).toArray from rfl,Deaf_append];simp[deafStep]
 generalize hgen:(#[{g:=0,fn:=f1,pos:=p1,act:= .go c},{g:=c,fn:=f2,pos:=p2,act:= .start}]:Trace)=u at hu hd;have h1:(t++u)[t.size]? =some {g:=0,fn:=f1,pos:=p1,act:= .go c}:=by subst hgen;simp
 have h2:(t++u)[t.size+1]? =some {g:=c,fn:=f2,pos:=p2,act:= .start}:=by subst hgen;simp
 have e1:(t++u).heard t.size:=⟨0,by simp[Trace.g?,h1],by rw[deaf_old (Nat.le_refl _)];exact h.hears⟩;have e2:(t++u).heard (t.size+1):=⟨c,by simp[Trace.g?,h2],by rw[deaf_succ h1,deaf_old (Nat.le_refl _)];simp[deafStep];exact hc⟩;have edge:HappensBefore (t++u) t.size (t.size+1):= .single (.inr ⟨.spawn (child:=c) (by rw[act?_of h1]) (by rw[act?_of h2]) (by simp[Trace.g?,h2]),e1,e2⟩);refine⟨⟨fun said=>cZ (h.clean said) hu,fun i a ha hm=> ?_,fun i g hg h0 _ hcn=> ?_⟩,(hd 0).trans h.hears,(hd c).trans hc⟩
 ·obtain⟨x,hx,hxa⟩:=touch_of ha;rcases getElem?_append_cases hx with ⟨hi,hx'⟩|⟨_,hxu⟩
  ·rcases h.known i a (by rw[touchAt_of hx'];exact hxa) hm with k|⟨s,hk⟩
   ·exact .inl ⟨k.app u,t.size+1,_,h2,rfl, .inr ((k.hb_new (Nat.le_refl _) h1 rfl).trans edge)⟩
   ·exact .inr (.inl ⟨hs _ s, .inl hk⟩)
  ·rw[hu x hxu] at hxa;cases hxa
 ·exact(handedOver_app h.over fun op hop=> .inr (hu op hop)) i g hg h0 hcn
theorem sV {K:Goroutine->Goroutine->World->Prop}{Sh':Loc->Prop}{p:Par}(hs: ∀l,Sh l->Sh' l) (hD: ∀w w' es,D w w' es-> ∀e∈es,EvP Sh e) {gs:Array Goroutine} {a:Goroutine} {w:World} {sl:Option (Nat×Nat)} {t:Trace} {q:Nat->Nat} {n:Nat}
 (h0:gs[0]? =some a) (hL:Leavers P t gs q) (hP:Past0 Sh t) (hG:Goes P true AtRel D (AtFork P Sh K) n a w):
 ∃(N:Nat) (gs':Array Goroutine) (a' b':Goroutine) (w':World) (sl':Option (Nat×Nat)) (t':Trace) (q':Nat->Nat),
  runNT P N (crowd gs w sl) t=(.next (crowd gs' w' sl'),t')/\Crew P gs.size gs' a' b' t' q'/\Talk p Sh' gs.size w' t' 0/\K a' b' w':=by
 obtain⟨N,gs',a',w',sl',t',q',d,sl'',hr,hsz,h0',hL',hP',⟨hrun,g',child,es,hsp,hes,hK⟩,hst⟩:=oD (fun _ _ h=>h.1) hD _ n gs a w sl t q rfl h0 hL hP hG;have hpos:0<gs'.size:=(Array.getElem?_eq_some_iff.1 h0').1;have hone:=runT_crowd_spawn (P:=P) (sl:=sl'') (i:=0) h0' (show stepG P (0==0) a' (w'.at d)=_ from hsp);have hP2:=hP'.own a'.frame.fn a'.frame.place hes;have hda: ∀j,j≠0->Deaf (t'++MemOp.ofEvents 0 a'.frame.fn a'.frame.place es) j=Deaf t' j:=fun j hj=>Deaf_other t' (Ne.symm hj) _ aP;have hT:=sU (p:=p) (w:=w'.at d) (c:=gs.size) hP2 hs (by rw[hda _ (by omega)];exact hL'.above _ (by omega)) a'.frame.fn child.frame.fn a'.frame.place a'.frame.place
 have eT:t'++((MemOp.ofEvents 0 a'.frame.fn a'.frame.place es).push {g:=0,fn:=a'.frame.fn,pos:=a'.frame.place,act:= .go gs'.size}).push {g:=gs'.size,fn:=child.frame.fn,pos:=a'.frame.place,act:= .start}
  =t'++MemOp.ofEvents 0 a'.frame.fn a'.frame.place es++ #[{g:=0,fn:=a'.frame.fn,pos:=a'.frame.place,act:= .go gs.size},{g:=gs.size,fn:=child.frame.fn,pos:=a'.frame.place,act:= .start}]:=by
  rw[hsz];apply Array.ext';simp
 have hd2: ∀g,Deaf (t'++MemOp.ofEvents 0 a'.frame.fn a'.frame.place es++ #[{g:=0,fn:=a'.frame.fn,pos:=a'.frame.place,act:= .go gs.size},{g:=gs.size,fn:=child.frame.fn,pos:=a'.frame.place,act:= .start}]) g=Deaf (t'++MemOp.ofEvents 0 a'.frame.fn a'.frame.place es) g:=fun g=>by
  rw[show (#[{g:=0,fn:=a'.frame.fn,pos:=a'.frame.place,act:= .go gs.size},{g:=gs.size,fn:=child.frame.fn,pos:=a'.frame.place,act:= .start}]:Trace)=([{g:=0,fn:=a'.frame.fn,pos:=a'.frame.place,act:= .go gs.size},{g:=gs.size,fn:=child.frame.fn,pos:=a'.frame.place,act:= .start}]:List MemOp).toArray from rfl,Deaf_append];simp[deafStep]
 refine⟨N+1,(gs'.setIfInBounds 0 g').push child,g',child,w'.at d,sl'',_,q', ?_,⟨by simp[hsz],by omega, ?_, ?_,fun i g hi hic hg=> ?_,fun j hj=> ?_⟩,hT,hK⟩
 ·rw[runNT_add,hr];simp only[runNT,hst,hone,eT]
 ·rw[Array.getElem?_push_lt (by simpa using hpos)];simp
 ·have e:gs.size=(gs'.setIfInBounds 0 g').size:=by simp[hsz]
  rw[e,Array.getElem?_push_size]
 ·have hx:gs'[i]? =some g:=by
   rw[Array.getElem?_push,if_neg (by simp;omega),Array.getElem?_setIfInBounds_ne (by omega)] at hg;exact hg
  rw[hd2,hda i (by omega)];exact hL'.old i g hi hx
 ·rw[hd2,hda j (by omega)];exact hL'.above j (by omega)
end
section
variable [Payload]{P:Program}{ty:TypeId}{Wg C Low:Nat} [Shy Wg C]{vals:List Value}{Mine:Loc->Prop}{AnchW:Goroutine->World->Prop}{Post:Value->World->Prop}{p:Par}{Sh Sh':Loc->Prop}{E Dn:Nat}{zE zD:Value}{PostB:World->Prop}{D:World->World->Array Event->Prop}
def Both (P:Program)(ty:TypeId)(Wg C Low:Nat) [Shy Wg C](vals:List Value)(Mine:Loc->Prop)(AnchW:Goroutine->World->Prop)(p:Par)(Sh':Loc->Prop)(E Dn:Nat)(zE zD:Value)(PostB:World->Prop)(a b:Goroutine)(w:World):Prop:=
 ∃vs,w.heap[E]? =some (.chan 0 #[] false 0 0 false)/\w.heap[Dn]? =some (.chan 0 #[] false 0 0 false)/\Gathers P p E Dn zE zD PostB (FinW P ty Wg C Low vals Mine AnchW) vs a w/\Tells P p Sh' E Dn PostB (AfterD P ty Wg C Low vals Mine) vs b w
theorem z6 (hs: ∀l,Sh l->Sh' l) (hF: ∀c,c≠0->Fix Wg C Low Mine p Sh' c) (hED:E≠Dn) (hEW:E≠Wg/\E≠C) (hDW:Dn≠Wg/\Dn≠C) (hDN:Dn<p.N0) (hDS: ∀l,Sh' l->l≠ .obj Dn) (ok1: ∀w,p.N0<=w.heap.size-> ∀e,EvQ Mine Wg C 1 e->EvB p Sh' w e)
 (okJ: ∀e,EvJ Mine Wg C e->EvP Sh' e)
 (hPb: ∀w w₁,RB p E Dn w w₁->PostB w->PostB w₁) (hPc: ∀w w₁,Aside2 C Wg w w₁->PostB w->PostB w₁) (hPn: ∀w,PostB w->p.N0<=w.heap.size)
 (hAr: ∀g w,AnchW g w->g.status= .running) (hAn: ∀g w,AnchW g w-> ∃m,Goes P true (RPa ty Wg C vals) (DPi Mine Wg C Low) (AtW1 P ty Wg C Low vals Mine AnchW Post) m g w)
 (hD: ∀w w' es,D w w' es-> ∀e∈es,EvP Sh e) {gs:Array Goroutine} {a:Goroutine} {w:World} {sl:Option (Nat×Nat)} {t:Trace} {q:Nat->Nat} {n:Nat}
 (h0:gs[0]? =some a) (hL:Leavers P t gs q) (hP:Past0 Sh t) (hG:Goes P true AtRel D (AtFork P Sh (Both P ty Wg C Low vals Mine AnchW p Sh' E Dn zE zD PostB)) n a w):
 ∃(N:Nat) (gs':Array Goroutine) (a':Goroutine) (w':World) (sl':Option (Nat×Nat)) (t':Trace) (q':Nat->Nat),
  runNT P N (crowd gs w sl) t=(.next (crowd gs' w' sl'),t')/\gs'.size=gs.size+1/\gs'[0]? =some a'/\a'.status= .running/\(∃d,Shy.stop Wg C a' (w'.at d))/\Leavers P t' gs' q'/\Past0 Sh' t':=by
 have hpos:0<gs.size:=(Array.getElem?_eq_some_iff.1 h0).1;obtain⟨N1,gs1,a1,b1,w1,sl1,t1,q1,r1,Cr,hT,vs,hE,hDn,hA,hB⟩:=sV (p:=p) (sl:=sl) hs hD h0 hL hP hG;obtain⟨nA,hA⟩:=(cN _ _ _ _ _ _ _ _ _ _ _).1 hA;obtain⟨nB,hB⟩:=(eY _ _ _ _ _ _ _ _ _ _).1 hB
 obtain⟨N2,M2,t2,r2,gs2,a2,b2,w2,sl2,q2,k,m,rfl,Cr2,hP2,hq2,hG2⟩:=oC (hF gs.size (by omega)) hED hEW hDW hDN hDS ok1 hPb hPc hPn hAr hAn _ _ _
  (⟨gs1,a1,b1,w1,sl1,q1,vs,0,nA+1,nB+1,rfl,Cr,hT,hE,hDn, .inl ⟨nA,rfl,hA⟩, .inl ⟨nB,rfl,hB⟩,by omega,rfl⟩:Inv1 P p Sh' E Dn zE zD PostB (AfterD P ty Wg C Low vals Mine) (FinW P ty Wg C Low vals Mine AnchW) gs.size _ (crowd gs1 w1 sl1) t1)
 have hL2:Leavers P t2 gs2 (upd q2 gs.size k):=⟨fun i g hi hg=>by
  by_cases e:i=gs.size
  ·subst e;rw[Cr2.hc] at hg;obtain rfl:=Option.some.inj hg;rw[upd_same];exact hq2
  ·have hlt:=(Array.getElem?_eq_some_iff.1 hg).1;rw[upd_ne _ _ e];exact Cr2.old i g hi (by have:=Cr2.size;omega) hg,
  fun j hj=>Cr2.above j (by have:=Cr2.size;omega)⟩
 obtain⟨N3,gs3,a3,w3,sl3,t3,q3,d,sl4,r3,z3,h03,hL3,hP3,hS,_⟩:=oD (fun _ _ h=>h.1) (fun _ _ _ hd e he=>okJ e (hd.2 e he)) _ m gs2 a2 w2 sl2 t2 _ rfl Cr2.h0 hL2 hP2 hG2;refine⟨N1+N2+N3,gs3,a3,w3,sl3,t3,q3, ?_,by have:=Cr2.size;omega,h03,hS.1,⟨d,hS.2⟩,hL3,hP3⟩;rw[runNT_add,runNT_add,r1];simp only[r2];exact r3
end
end Go.Hx
namespace Go.Hx
open Go.Conc Go.RowKit
variable {p:Par}{Sh:Loc->Prop}{E Dn:Nat}{w w₁ w':World}
theorem eC (p:Par)(Sh:Loc->Prop)(E Dn:Nat):Terms (RB p E Dn) (DT p Sh E Dn):=⟨RB.trans,fun w=>⟨RA.refl p w,rfl,rfl,by simp⟩⟩
theorem eZ (w:World)(o:Obj){b:Nat}(h:b≠w.heap.size):(w.alloc o).heap[b]? =w.heap[b]? :=by
 show (w.heap.push o)[b]? =w.heap[b]?;rw[Array.getElem?_push,if_neg h]
theorem sW (w:World)(o:Obj):(w.alloc o).heap[w.heap.size]? =some o:=by
 show (w.heap.push o)[w.heap.size]? =some o;simp
theorem gV (w:World)(o:Obj):(w.alloc o).heap.size=w.heap.size+1:=by
 show (w.heap.push o).size=w.heap.size+1;simp
theorem fI (w:World)(a:Addr)(v:Value){b:Nat}(h:b≠a.block):(w.setCell a v).heap[b]? =w.heap[b]? :=by
 simp[World.setCell,Array.getElem?_modify,Ne.symm h]
theorem j6 {es:Array Event}(hes: ∀e∈es,EvB p Sh w e):DT p Sh E Dn w w es:=⟨RA.refl p w,rfl,rfl,hes⟩
end Go.Hx
namespace Go.Hx
open Go.Conc
end Go.Hx
namespace Go.Hx
open Go.Conc Go.RowKit
end Go.Hx
