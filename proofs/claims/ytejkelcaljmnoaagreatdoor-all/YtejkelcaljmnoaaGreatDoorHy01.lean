/- Part 1 of the proof. -/
import Derived.Conc.Beside
import Derived.Conc.Token
import Derived.Conc.FxGenWait
import Derived.Conc.FxFrame
import Derived.Conc.CompanyMem
import Derived.Conc.Starve
import Derived.Laws.MakeOwn
import Derived.Below
import Derived.OwnWalk
import Derived.Conc.AppendWalk
import Derived.RowKit
import Derived.KernelRfl
import Derived.LaidEqlPtr
import Derived.WideLaws
set_option maxRecDepth 100000
set_option maxHeartbeats 4000000
set_option linter.all false
namespace Go
theorem ag {p:Prop}(h:p:=by simp[IntKind.wrap_i64];omega):p:=h
theorem ao {p:Prop}(h:p:=by simp;omega):p:=h
theorem bl {p:Prop}(h:p:=by omega):p:=h
theorem bx {p:Prop}(h:p:=by decide):p:=h
theorem bD {p:Prop}(h:p:=by kernel_rfl):p:=h
theorem bE {p:Prop}(h:p:=by simp):p:=h
theorem cm:type_of% @List.mem_map:= @List.mem_map
theorem cD:type_of% @Nat.le_refl:= @Nat.le_refl
theorem cE:type_of% @List.mem_append:= @List.mem_append
theorem dc:type_of% @List.mem_cons_of_mem:= @List.mem_cons_of_mem
theorem eT:type_of% @List.mem_cons_self:= @List.mem_cons_self
theorem ft:type_of% @Ne.symm:= @Ne.symm
theorem fz:type_of% @Iff.rfl:= @Iff.rfl
theorem gf:type_of% @List.length_cons:= @List.length_cons
theorem gm:type_of% @Array.ext':= @Array.ext'
theorem gn:type_of% @List.mem_cons:= @List.mem_cons
theorem gu:type_of% @Option.some.inj:= @Option.some.inj
theorem hX:type_of% @Nat.zero_le:= @Nat.zero_le
theorem ia:type_of% @List.length_map:= @List.length_map
theorem ib:type_of% @Array.getElem?_eq_some_iff:= @Array.getElem?_eq_some_iff
theorem ic:type_of% @Nat.zero_add:= @Nat.zero_add
theorem ix:type_of% @List.map_cons:= @List.map_cons
theorem km:type_of% @List.length_nil:= @List.length_nil
theorem kt:type_of% @List.map_map:= @List.map_map
theorem k0:type_of% @List.map_congr_left:= @List.map_congr_left
theorem l3:type_of% @List.map_append:= @List.map_append
theorem l4:type_of% @List.mem_filter:= @List.mem_filter
theorem l5:type_of% @List.mem_of_getElem? := @List.mem_of_getElem?
theorem l6:type_of% @Nat.le_trans:= @Nat.le_trans
theorem l7:type_of% @List.size_toArray:= @List.size_toArray
theorem mb:type_of% @List.length_append:= @List.length_append
theorem mo:type_of% @List.getElem?_eq_some_iff:= @List.getElem?_eq_some_iff
theorem mx:type_of% @List.getElem?_of_mem:= @List.getElem?_of_mem
theorem m0:type_of% @Array.getElem?_setIfInBounds_ne:= @Array.getElem?_setIfInBounds_ne
theorem nw:type_of% @List.getElem?_toArray:= @List.getElem?_toArray
theorem nx:type_of% @List.mem_append_left:= @List.mem_append_left
theorem pA:type_of% @Option.map_eq_some_iff:= @Option.map_eq_some_iff
theorem pS:type_of% @Bool.false_eq_true:= @Bool.false_eq_true
theorem qs:type_of% @Option.map_some:= @Option.map_some
theorem rv:type_of% @List.mem_append_right:= @List.mem_append_right
theorem rD:type_of% @List.getElem?_append_left:= @List.getElem?_append_left
theorem rE:type_of% @List.forall_mem_cons:= @List.forall_mem_cons
theorem r5:type_of% @List.append_assoc:= @List.append_assoc
theorem sc:type_of% @List.cons_append:= @List.cons_append
theorem ss:type_of% @List.nodup_append:= @List.nodup_append
theorem sy:type_of% @List.getElem?_eq_getElem:= @List.getElem?_eq_getElem
theorem sA:type_of% @List.take_append_of_le_length:= @List.take_append_of_le_length
theorem sD:type_of% @List.take_of_length_le:= @List.take_of_length_le
theorem sE:type_of% @List.getElem?_map:= @List.getElem?_map
theorem sS:type_of% @List.find?_eq_none:= @List.find?_eq_none
theorem ti:type_of% @Decidable.byContradiction:= @Decidable.byContradiction
theorem tp:type_of% @Array.getElem?_map:= @Array.getElem?_map
theorem tz:type_of% @List.find?_append:= @List.find?_append
theorem tD:type_of% @List.mem_of_mem_eraseIdx:= @List.mem_of_mem_eraseIdx
theorem tE:type_of% @Array.size_setIfInBounds:= @Array.size_setIfInBounds
theorem u6:type_of% @List.nil_append:= @List.nil_append
theorem u7:type_of% @List.extract_eq_take_drop:= @List.extract_eq_take_drop
theorem u9:type_of% @List.getElem?_cons_zero:= @List.getElem?_cons_zero
theorem vp:type_of% @Array.getD_eq_getD_getElem? := @Array.getD_eq_getD_getElem?
theorem wb:type_of% @List.findIdx?_eq_none_iff:= @List.findIdx?_eq_none_iff
theorem wc:type_of% @List.append_nil:= @List.append_nil
theorem wx:type_of% @List.mem_singleton:= @List.mem_singleton
theorem w9:type_of% @Nat.mul_one:= @Nat.mul_one
theorem xq:type_of% @Nat.le_succ:= @Nat.le_succ
theorem xr:type_of% @Array.mem_append:= @Array.mem_append
theorem xt:type_of% @List.ext_getElem? := @List.ext_getElem?
theorem x8:type_of% @List.nodup_cons:= @List.nodup_cons
theorem G2:type_of% @List.mem_eraseIdx_iff_getElem? := @List.mem_eraseIdx_iff_getElem?
theorem K2:type_of% @Nat.add_zero:= @Nat.add_zero
theorem Lr:type_of% @List.not_mem_nil:= @List.not_mem_nil
theorem Ot:type_of% @Nat.le_add_right:= @Nat.le_add_right
theorem Ou:type_of% @Nat.succ_mul:= @Nat.succ_mul
theorem Ov:type_of% @Nat.mul_le_mul_right:= @Nat.mul_le_mul_right
theorem Ow:type_of% @List.pairwise_iff_getElem:= @List.pairwise_iff_getElem
theorem Ox:type_of% @List.mem_of_find?_eq_some:= @List.mem_of_find?_eq_some
theorem Oy:type_of% @List.getElem?_append_right:= @List.getElem?_append_right
theorem Oz:type_of% @List.mem_nil_iff:= @List.mem_nil_iff
theorem OA:type_of% @Nat.ne_of_lt:= @Nat.ne_of_lt
theorem OB:type_of% @List.setIfInBounds_toArray:= @List.setIfInBounds_toArray
theorem OC:type_of% @Array.toList_extract:= @Array.toList_extract
theorem OD:type_of% @List.map_nil:= @List.map_nil
theorem OE:type_of% @List.getElem?_cons_succ:= @List.getElem?_cons_succ
theorem OF:type_of% @List.all_eq_true:= @List.all_eq_true
theorem OG:type_of% @List.findIdx?_eq_some_iff_getElem:= @List.findIdx?_eq_some_iff_getElem
theorem OH:type_of% @List.any_eq_true:= @List.any_eq_true
theorem OI:type_of% @List.length_eq_zero_iff:= @List.length_eq_zero_iff
theorem OJ:type_of% @List.mem_toArray:= @List.mem_toArray
theorem OK:type_of% @List.getElem?_set:= @List.getElem?_set
theorem OL:type_of% @List.map_toArray:= @List.map_toArray
theorem OM:type_of% @Option.map_none:= @Option.map_none
theorem ON:type_of% @List.find?_cons:= @List.find?_cons
theorem OO:type_of% @List.length_drop:= @List.length_drop
theorem OP:type_of% @Int.tmod_eq_emod_of_nonneg:= @Int.tmod_eq_emod_of_nonneg
theorem OQ:type_of% @Array.getElem?_eq_getElem:= @Array.getElem?_eq_getElem
theorem OR:type_of% @Bool.eq_iff_iff:= @Bool.eq_iff_iff
theorem OS:type_of% @List.drop_append_of_le_length:= @List.drop_append_of_le_length
theorem OT:type_of% @List.eraseIdx_eq_take_drop_succ:= @List.eraseIdx_eq_take_drop_succ
theorem OU:type_of% @List.find?_some:= @List.find?_some
theorem OV:type_of% @List.mem_range:= @List.mem_range
theorem OW:type_of% @Int.natCast_nonneg:= @Int.natCast_nonneg
theorem OX:type_of% @Nat.lt_of_lt_of_le:= @Nat.lt_of_lt_of_le
theorem OY:type_of% @Nat.lt_succ_self:= @Nat.lt_succ_self
theorem OZ:type_of% @Option.getD_some:= @Option.getD_some
theorem O0:type_of% @List.findIdx?_cons:= @List.findIdx?_cons
theorem O1:type_of% @List.drop_append:= @List.drop_append
theorem O2:type_of% @Int.toNat_natCast:= @Int.toNat_natCast
theorem O3:type_of% @List.filter_append:= @List.filter_append
theorem O4:type_of% @List.range_succ:= @List.range_succ
theorem O5:type_of% @List.length_filter_le:= @List.length_filter_le
theorem O6:type_of% @List.getElem?_eq_none:= @List.getElem?_eq_none
theorem O7:type_of% @Array.getElem?_setIfInBounds:= @Array.getElem?_setIfInBounds
theorem O8:type_of% @Nat.add_sub_cancel_left:= @Nat.add_sub_cancel_left
theorem O9:type_of% @List.filterMap_cons:= @List.filterMap_cons
theorem Pa:type_of% @List.getElem?_take_of_lt:= @List.getElem?_take_of_lt
theorem Pb:type_of% @Array.getElem?_append_right:= @Array.getElem?_append_right
theorem xI {α:Sort _}{p:α->Prop}(w:α)(h:p w): ∃x,p x:=⟨w,h⟩
end Go
namespace Go.Hx
open Go.Conc
structure KC where
 ety:TypeId
 N0:Nat
 Still:Loc->Prop
def Mx (ety:TypeId):Obj->Bool
 | .cells _ e _=>e==ety
 |_=>false
def FA (p:KC)(w:World)(b:Nat):Prop:=p.N0<=b/\ ∃o,w.heap[b]? =some o/\Mx p.ety o=true
theorem FA.lt {p:KC}{w:World}{b:Nat}(h:FA p w b):b<w.heap.size:=by
 obtain⟨_,o,a,_⟩:=h;exact(ib.1 a).1
def blk:Loc->Option Nat
 | .cell a=>some a.block
 | .obj r=>some r
 |_=>none
structure Kept (p:KC)(w w':World):Prop where
 size:w.heap.size<=w'.heap.size
 fa: ∀b,FA p w b->FA p w' b
 nf: ∀b,b<w.heap.size-> ¬FA p w b-> ¬FA p w' b
theorem Kept.refl (p:KC)(w:World):Kept p w w:=⟨cD _,λ_ h=>h,λ_ _ h=>h⟩
theorem Kept.trans {p:KC}{a b c:World}(h:Kept p a b)(k:Kept p b c):Kept p a c:=
 ⟨l6 h.size k.size,λx d=>k.fa x (h.fa x d),λx e d=>k.nf x (OX e h.size) (h.nf x e d)⟩
def NY (p:KC)(w:World)(a:Touch):Prop:= ∃b,blk a.loc=some b/\FA p w b
def Nv (p:KC)(w:World)(a:Touch):Prop:= ∃b,blk a.loc=some b/\b<w.heap.size/\ ¬FA p w b
theorem NY.kept {p:KC}{w w':World}{a:Touch}(k:Kept p w w'):NY p w a->NY p w' a
 |⟨b,h,f⟩=>⟨b,h,k.fa b f⟩
theorem Nv.kept {p:KC}{w w':World}{a:Touch}(k:Kept p w w'):Nv p w a->Nv p w' a
 |⟨b,h,l,f⟩=>⟨b,h,OX l k.size,k.nf b l f⟩
theorem m5 {p:KC}{w:World}{a b:Touch}(ha:NY p w a)(hb:Nv p w b)(h:a.loc=b.loc):False:=by
 obtain⟨x,d,f⟩:=ha;obtain⟨y,g,_,e⟩:=hb;rw[h,g] at d;cases d;exact e f
structure Mf (p:KC)(Sh:Loc->Prop):Prop where
 low: ∀l b,Sh l->blk l=some b->b<p.N0
 st: ∀l b,p.Still l->blk l=some b->b<p.N0
 ap: ∀l,p.Still l-> ¬Sh l
def EvA (p:KC)(w:World)(e:Event):Prop:=
 (∀x,(MemAct.ofEvent e).touch? =some x->x.loc.isMemory=true->NY p w x\/(p.Still x.loc/\x.write=false))/\(e.loc≠ .mark .disable/\e.loc≠ .mark .enable)/\ ∀a,e.loc≠ .mark (.release a)
def Ev0 (Sh:Loc->Prop)(e:Event):Prop:=
 (∀x,(MemAct.ofEvent e).touch? =some x->Sh x.loc/\x.kind≠ .plain)/\ ∀a,e.loc≠ .mark (.release a)
def EvB (p:KC)(Sh:Loc->Prop)(w:World)(e:Event):Prop:=
 (∀x,(MemAct.ofEvent e).touch? =some x->x.loc.isMemory=true->Nv p w x/\(Sh x.loc->x.kind= .atomic)/\(p.Still x.loc->x.write=false))/\(e.loc≠ .mark .disable/\e.loc≠ .mark .enable)
theorem aL {g:Nat}{fn:FuncId}{pos:String}{es:Array Event}: ∀op∈MemOp.ofEvents g fn pos es,op.g=g:=λop a=>by obtain⟨_,_,rfl⟩:=Conc.mem_ofEvents a;rfl
theorem dO {es:Array Event}(h: ∀e∈es,e.loc≠ .mark .disable/\e.loc≠ .mark .enable) (t:Trace) (g:Nat) (fn:FuncId) (pos:String) (g':Nat):
 Deaf (t++MemOp.ofEvents g fn pos es) g'=Deaf t g':=by
 by_cases e:g=g'
 ·subst e;rw[Deaf_own];exact deafBehind_still h _
 ·exact Deaf_other t e _ aL
def MP (c:Nat)(t:Trace):Prop:= ∀i g,t.g? i=some g->g≠0->g≠c->t.counts i-> ∃j,t.g? j=some 0/\HappensBefore t i j
theorem MP.app {c:Nat}{t u:Trace}(h:MP c t)(hu: ∀op∈u,op.g=0\/op.g=c\/op.act.touch? =none):MP c (t++u):=by
 intro i g n h0 hc d;obtain⟨x,r,_⟩:=id d;obtain⟨op,f,k⟩:=touch_of r;have a:op.g=g:=by simpa [Trace.g?,f] using n
 rcases getElem?_append_cases f with ⟨m,_⟩|⟨_,b⟩
 ·obtain⟨j,o,hb⟩:=h i g (by rw[<-g?_old (u:=u) m];exact n) h0 hc ((counts_old m).1 d);have l:j<t.size:=by
   obtain⟨z,p,_⟩:=pA.1 o;exact lt_size_of_getElem? p
  exact⟨j,by rw[g?_old l];exact o,hb_app u hb⟩
 ·rcases hu op b with e|e|e
  ·exact absurd (a.symm.trans e) h0
  ·exact absurd (a.symm.trans e) hc
  ·rw[e] at k;cases k
def Cls (p:KC)(Sh:Loc->Prop)(c:Nat)(w:World)(t:Trace)(i:Nat)(a:Touch):Prop:=
 (Knows t 0 i/\Knows t c i)\/(Sh a.loc/\(a.kind= .atomic\/(a.kind= .said/\t.g? i=some 0)))\/(t.g? i=some 0/\NY p w a)\/(t.g? i=some c/\Nv p w a/\ ¬Sh a.loc/\ ¬p.Still a.loc)\/
 ((t.g? i=some 0\/t.g? i=some c)/\p.Still a.loc/\a.write=false)
structure Core (p:KC)(Sh:Loc->Prop)(c:Nat)(w:World)(t:Trace):Prop where
 clean: ∀said,¬Race said t
 cls: ∀i a,touchAt t i=some a->a.loc.isMemory=true->Cls p Sh c w t i a
 over:MP c t
section
variable {p:KC}{Sh:Loc->Prop}{c:Nat}{w w':World}{t u:Trace}
theorem cM {t:Trace}{i g:Nat}(h:t.g? i=some g):Knows t g i:=by
 obtain⟨z,b,a⟩:=pA.1 h;exact a▸knows_own b
theorem g?_new {i:Nat}{op:MemOp}(h:(t++u)[i]? =some op):(t++u).g? i=some op.g:=by simp[Trace.g?,h]
theorem Cls.app {i:Nat}{a:Touch}(h:Cls p Sh c w t i a)(k:Kept p w w')(u:Trace)(hi:i<t.size):Cls p Sh c w' (t++u) i a:=by
 rcases h with ⟨x,y⟩|⟨s,x⟩|⟨g,x⟩|⟨g,x,y⟩|⟨g,x⟩
 ·exact .inl ⟨x.app u,y.app u⟩
 ·exact .inr (.inl ⟨s,by rw[g?_old hi];exact x⟩)
 ·exact .inr (.inr (.inl ⟨by rw[g?_old hi];exact g,x.kept k⟩))
 ·exact .inr (.inr (.inr (.inl ⟨by rw[g?_old hi];exact g,x.kept k,y⟩)))
 ·exact .inr (.inr (.inr (.inr ⟨by rw[g?_old hi];exact g,x⟩)))
theorem pQ {i:Nat}{a:Touch}(h:touchAt t i=some a):i<t.size:=by
 obtain⟨op,b,_⟩:=touch_of h;exact lt_size_of_getElem? b
theorem kK (h: ∀i a,touchAt t i=some a->a.loc.isMemory=true->Cls p Sh c w t i a) (k:Kept p w w') (hu: ∀i op a,(t++u)[i]? =some op->op∈u->op.act.touch? =some a->a.loc.isMemory=true->Cls p Sh c w' (t++u) i a):
 ∀i a,touchAt (t++u) i=some a->a.loc.isMemory=true->Cls p Sh c w' (t++u) i a:=by
 intro i a j hm;obtain⟨x,f,b⟩:=touch_of j;rcases getElem?_append_cases f with ⟨g,d⟩|⟨_,e⟩
 ·exact(h i a (by rw[touchAt_of d];exact b) hm).app k u g
 ·exact hu i x a f e b hm
theorem dt {d:Bool}(h: ¬Race d t)(hu: ∀op∈u,op.act.touch? =none): ¬Race d (t++u):=by
 rintro⟨i,j,g,⟨a,b,B,hb,hc⟩,z,r⟩;obtain⟨x,s,n⟩:=touch_of B;obtain⟨y,p,f⟩:=touch_of hb;rcases getElem?_append_cases p with ⟨A,l⟩|⟨_,k⟩
 ·have o:i<t.size:=Nat.lt_trans g A;have m:t[i]? =some x:=by rw[<-getElem?_append_old (u:=u) o];exact s
  exact h ⟨i,j,g,⟨a,b,by simp[Trace.act?,m,n],by simp[Trace.act?,l,f],hc⟩,λe=>z (hb_app u e),λe=>r (hb_app u e)⟩
 ·rw[hu y k] at f;cases f
theorem Core.world (h:Core p Sh c w t)(k:Kept p w w'):Core p Sh c w' t:=
 ⟨h.clean,λi a b hm=>by
  have:=(h.cls i a b hm).app k #[] (pQ b);simpa using this,h.over⟩
theorem Core.still (h:Core p Sh c w t)(hu: ∀op∈u,op.act.touch? =none):Core p Sh c w (t++u):=
 ⟨λd=>dt (h.clean d) hu,kK h.cls (Kept.refl p w) λi op a _ b e _=>(by rw[hu op b] at e;cases e),h.over.app λop b=> .inr (.inr (hu op b))⟩
theorem Core.JG (h:Core p Sh c w t)(k:Kept p w w')(hSh:Mf p Sh)(fn:FuncId)(pos:String){es:Array Event}(u: ∀e∈es,EvA p w' e):
 Core p Sh c w' (t++MemOp.ofEvents 0 fn pos es):=by
 refine⟨λo=>noRace_append (h.clean o) aL λi a B op d b hb hc=> ?_,kK h.cls k λi op a D d B hm=> ?_,h.over.app λop d=> .inl (aL op d)⟩
 ·obtain⟨e,he,rfl⟩:=Conc.mem_ofEvents d;rcases(u e he).1 b hb (hc.1▸hc.2.1) with j|⟨j,C⟩
  ·have low: ∀y,blk a.loc=some y-> ¬y<p.N0:=λy n E=>by
    obtain⟨z,A,f⟩:=j;rw[<-hc.1,n] at A;cases A;have:=f.1;omega
   have l: ∃y,blk a.loc=some y:=by obtain⟨z,A,_⟩:=j;exact⟨z,by rw[hc.1];exact A⟩
   obtain⟨y,n⟩:=l;rcases h.cls i a B hc.2.1 with ⟨x,_⟩|⟨s,_⟩|⟨g,_⟩|⟨_,x,_⟩|⟨_,x,_⟩
   ·exact x
   ·exact absurd (hSh.low _ _ s n) (low y n)
   ·exact cM g
   ·exact(m5 j (x.kept k) hc.1.symm).elim
   ·exact absurd (hSh.st _ _ x n) (low y n)
  ·have r:p.Still a.loc:=hc.1▸j;rcases h.cls i a B hc.2.1 with ⟨x,_⟩|⟨s,_⟩|⟨g,_⟩|⟨_,_,_,x⟩|⟨_,_,x⟩
   ·exact x
   ·exact absurd s (hSh.ap _ r)
   ·exact cM g
   ·exact absurd r x
   ·obtain⟨_,_,hw,_⟩:=hc;rw[x,C] at hw;rcases hw with z|z<;>cases z
 ·have m:=g?_new D;rw[aL op d] at m;obtain⟨e,he,rfl⟩:=Conc.mem_ofEvents d;rcases(u e he).1 a B hm with j|j
  ·exact .inr (.inr (.inl ⟨m,j⟩))
  ·exact .inr (.inr (.inr (.inr ⟨.inl m,j⟩)))
theorem Core.add0 (h:Core p Sh c w t)(hSh:Mf p Sh)(fn:FuncId)(pos:String){es:Array Event}(k: ∀e∈es,Ev0 Sh e):
 Core p Sh c w (t++MemOp.ofEvents 0 fn pos es):=by
 refine⟨λsaid=>noRace_append (h.clean said) aL λi a o op d b hb hc=> ?_,kK h.cls (Kept.refl p w) λi op a s d o hm=> ?_,h.over.app λop d=> .inl (aL op d)⟩
 ·obtain⟨e,he,rfl⟩:=Conc.mem_ofEvents d;obtain⟨l,n⟩:=(k e he).1 b hb;rcases h.cls i a o hc.2.1 with ⟨x,_⟩|⟨_,r|⟨_,g⟩⟩|⟨g,_⟩|⟨_,_,x,_⟩|⟨_,x,_⟩
  ·exact x
  ·obtain⟨_,_,_,f⟩:=hc;rw[r] at f;rcases f with z|z|⟨_,z,_⟩
   ·cases z
   ·exact absurd z n
   ·cases z
  ·exact cM g
  ·exact cM g
  ·exact absurd (hc.1▸l) x
  ·exact absurd (hc.1▸l) (hSh.ap _ x)
 ·have j:=g?_new s;rw[aL op d] at j;obtain⟨e,he,rfl⟩:=Conc.mem_ofEvents d;obtain⟨l,n⟩:=(k e he).1 a o;refine .inr (.inl ⟨l, ?_⟩);cases m:a.kind with
  |plain=>exact absurd m n
  |atomic=>exact .inl rfl
  |said=>exact .inr ⟨rfl,j⟩
theorem Core.JV (h:Core p Sh c w t)(k:Kept p w w')(fn:FuncId)(pos:String){es:Array Event}(r: ∀e∈es,∀x,(MemAct.ofEvent e).touch? =some x->x.loc.isMemory=true->Nv p w' x/\(Sh x.loc->x.kind= .atomic)/\(p.Still x.loc->x.write=false)):
 Core p Sh c w' (t++MemOp.ofEvents c fn pos es):=by
 refine⟨λo=>noRace_append (h.clean o) aL λi a B op d b hb hc=> ?_,kK h.cls k λi op a F d B hm=> ?_,h.over.app λop d=> .inr (.inl (aL op d))⟩
 ·obtain⟨e,he,rfl⟩:=Conc.mem_ofEvents d;obtain⟨C,m,j⟩:=r e he b hb (hc.1▸hc.2.1);rcases h.cls i a B hc.2.1 with ⟨_,x⟩|⟨s,D⟩|⟨_,x⟩|⟨g,_⟩|⟨_,x,y⟩
  ·exact x
  ·have u:=m (hc.1▸s);obtain⟨_,_,_,f⟩:=hc;rw[u] at f;rcases f with z|z|⟨_,_,z⟩
   ·rcases D with y|⟨y,_⟩<;>rw[y] at z<;>cases z
   ·cases z
   ·cases z
  ·exact(m5 (x.kept k) C hc.1).elim
  ·exact cM g
  ·have A:=j (hc.1▸x);obtain⟨_,_,hw,_⟩:=hc;rw[y,A] at hw;rcases hw with z|z<;>cases z
 ·have n:=g?_new F;rw[aL op d] at n;obtain⟨e,he,rfl⟩:=Conc.mem_ofEvents d;obtain⟨C,m,j⟩:=r e he a B hm;by_cases E:Sh a.loc
  ·exact .inr (.inl ⟨E, .inl (m E)⟩)
  ·by_cases l:p.Still a.loc
   ·exact .inr (.inr (.inr (.inr ⟨.inr n,l,j l⟩)))
   ·exact .inr (.inr (.inr (.inl ⟨n,C,E,l⟩)))
theorem iv {g:Nat}{fn:FuncId}{pos:String}{es:Array Event}(hm: ∀e∈es,e.mute=true): ∀op∈MemOp.ofEvents g fn pos es,op.act.touch? =none:=λop a=>by
 obtain⟨e,he,rfl⟩:=Conc.mem_ofEvents a;exact touch_mute (hm e he)
end
def Od (Wg:Nat)(l:Loc):Prop:= ∃a:Addr,l= .cell a/\a.block=Wg
def My (Wg:Nat):Addr:=⟨Wg,0,none⟩
structure La (p:KC)(Sh:Loc->Prop)(c:Nat)(w:World)(t:Trace)(d0:Nat):Prop where
 core:Core p Sh c w t
 hear0:Deaf t 0=d0
 hearc:Deaf t c=0
structure Rel (p:KC)(Sh:Loc->Prop)(Wg c:Nat)(w:World)(t:Trace)(d0 d1 r:Nat):Prop where
 core:Core p Sh c w t
 hear0:Deaf t 0=d0
 hearc:Deaf t c=d1
 act:t.act? r=some (.mark (.releaseMerge (My Wg)))
 g:t.g? r=some c
 heard:t.heard r
 norel: ∀i,r<i->t.act? i≠some (.mark (.release (My Wg)))
 after: ∀i,r<i->t.g? i=some c-> ¬t.counts i/\ ∀a,touchAt t i=some a->Sh a.loc
section
variable {p:KC}{Sh:Loc->Prop}{Wg c:Nat}{w w':World}{t u:Trace}{d0 d1 r:Nat}
theorem La.world (h:La p Sh c w t d0)(k:Kept p w w'):La p Sh c w' t d0:=⟨h.core.world k,h.hear0,h.hearc⟩
theorem La.still (h:La p Sh c w t d0)(hu: ∀op∈u,op.act.touch? =none) (hd: ∀g,Deaf (t++u) g=Deaf t g):La p Sh c w (t++u) d0:=
 ⟨h.core.still hu,(hd 0).trans h.hear0,(hd c).trans h.hearc⟩
theorem La.JG (h:La p Sh c w t d0)(k:Kept p w w')(hSh:Mf p Sh)(fn:FuncId)(pos:String){es:Array Event}(a: ∀e∈es,EvA p w' e):La p Sh c w' (t++MemOp.ofEvents 0 fn pos es) d0:=
 ⟨h.core.JG k hSh fn pos a,(dO (λe he=>(a e he).2.1) t 0 fn pos 0).trans h.hear0,(dO (λe he=>(a e he).2.1) t 0 fn pos c).trans h.hearc⟩
theorem La.add0 (h:La p Sh c w t d0)(hc0:c≠0)(hSh:Mf p Sh)(fn:FuncId)(pos:String){es:Array Event}(a: ∀e∈es,Ev0 Sh e):La p Sh c w (t++MemOp.ofEvents 0 fn pos es) (deafBehind d0 es):=
 ⟨h.core.add0 hSh fn pos a,by rw[Deaf_own,h.hear0],(Deaf_other t (λe=>hc0 e.symm) _ aL).trans h.hearc⟩
theorem La.JV (h:La p Sh c w t d0)(k:Kept p w w')(fn:FuncId)(pos:String){es:Array Event}(a: ∀e∈es,EvB p Sh w' e):La p Sh c w' (t++MemOp.ofEvents c fn pos es) d0:=
 ⟨h.core.JV k fn pos (λe he=>(a e he).1),(dO (λe he=>(a e he).2) t c fn pos 0).trans h.hear0,(dO (λe he=>(a e he).2) t c fn pos c).trans h.hearc⟩
theorem La.mute (h:La p Sh c w t d0){g:Nat}(h0:g≠0)(hc:g≠c)(fn:FuncId)(pos:String){es:Array Event}(hm: ∀e∈es,e.mute=true):La p Sh c w (t++MemOp.ofEvents g fn pos es) d0:=
 ⟨h.core.still (iv hm),(Deaf_other t h0 _ aL).trans h.hear0,(Deaf_other t hc _ aL).trans h.hearc⟩
theorem La.release (h:La p Sh c w t d0)(hc0:c≠0)(fn:FuncId)(pos:String):Rel p Sh Wg c w (t++ #[{g:=c,fn:=fn,pos:=pos,act:= .mark (.releaseMerge (My Wg))}]) d0 0 t.size:=by
 have a:(t++ #[({g:=c,fn:=fn,pos:=pos,act:= .mark (.releaseMerge (My Wg))}:MemOp)])[t.size]? =some {g:=c,fn:=fn,pos:=pos,act:= .mark (.releaseMerge (My Wg))}:=bE
 have d: ∀g,Deaf (t++ #[({g:=c,fn:=fn,pos:=pos,act:= .mark (.releaseMerge (My Wg))}:MemOp)]) g=Deaf t g:=λg=>by rw[Deaf_push];simp[deafStep]
 have b: ∀{α:Prop}(i:Nat),t.size<i->(t++ #[({g:=c,fn:=fn,pos:=pos,act:= .mark (.releaseMerge (My Wg))}:MemOp)])[i]? ≠none->α:=λi f k=>by
  exfalso;apply k;exact Array.getElem?_eq_none ao
 refine⟨h.core.still λop j=> ?_,(d 0).trans h.hear0,(d c).trans h.hearc,by rw[act?_of a],by simp[Trace.g?,a],⟨c,by simp[Trace.g?,a], ?_⟩,λi f e=>b i f ?_,λi f e=>b i f ?_⟩
 ·have:op={g:=c,fn:=fn,pos:=pos,act:= .mark (.releaseMerge (My Wg))}:=by simpa using j
  rw[this];rfl
 ·rw[deaf_old (cD _)];exact h.hearc
 ·obtain⟨z,l,_⟩:=pA.1 e;rw[l];simp
 ·obtain⟨z,l,_⟩:=pA.1 e;rw[l];simp
theorem Rel.lt (h:Rel p Sh Wg c w t d0 d1 r):r<t.size:=lt_of_act? h.act
theorem Rel.grow (h:Rel p Sh Wg c w t d0 d1 r){B C:Nat}(f:Core p Sh c w' (t++u))(h0:Deaf (t++u) 0=B)(h1:Deaf (t++u) c=C)(A: ∀op∈u,op.act≠ .mark (.release (My Wg)))
 (s: ∀i op,t.size<=i->(t++u)[i]? =some op->op∈u->op.g=c-> ¬(t++u).counts i/\ ∀a,op.act.touch? =some a->Sh a.loc):Rel p Sh Wg c w' (t++u) B C r:=by
 refine⟨f,h0,h1,by rw[act?_old h.lt];exact h.act,by rw[g?_old h.lt];exact h.g,(heard_old h.lt).2 h.heard,λi o e=> ?_,λi o D=> ?_⟩
 ·obtain⟨op,j,k⟩:=pA.1 e;rcases getElem?_append_cases j with ⟨_,b⟩|⟨_,d⟩
  ·exact h.norel i o (by rw[act?_of b,k])
  ·exact A op d k
 ·obtain⟨op,j,l⟩:=pA.1 D;rcases getElem?_append_cases j with ⟨n,b⟩|⟨n,d⟩
  ·obtain⟨x,y⟩:=h.after i o (by simp[Trace.g?,b,l]);exact⟨λz=>x ((counts_old n).1 z),λa m=>y a (by rw[<-touchAt_old (u:=u) n];exact m)⟩
  ·obtain⟨x,y⟩:=s i op n j d l;exact⟨x,λa m=>y a (by rw[touchAt_of j] at m;exact m)⟩
theorem iM {g:Nat}{fn:FuncId}{pos:String}{es:Array Event}(h: ∀e∈es,∀a,e.loc≠ .mark (.release a)): ∀op∈MemOp.ofEvents g fn pos es,op.act≠ .mark (.release (My Wg)):=by
 intro op d b;obtain⟨e,he,rfl⟩:=Conc.mem_ofEvents d;obtain⟨loc,wr,f⟩:=e;have:=h _ he (My Wg);cases loc with
 |mark m=>simp[MemAct.ofEvent] at b;exact this (by rw[b])
 |obj x=>cases wr<;>cases f<;>simp[MemAct.ofEvent] at b
 |_=>simp[MemAct.ofEvent] at b
theorem Rel.JG (h:Rel p Sh Wg c w t d0 d1 r)(hc0:c≠0)(k:Kept p w w')(hSh:Mf p Sh)(fn:FuncId)(pos:String){es:Array Event}(a: ∀e∈es,EvA p w' e):Rel p Sh Wg c w' (t++MemOp.ofEvents 0 fn pos es) d0 d1 r:=
 h.grow (h.core.JG k hSh fn pos a) ((dO (λe he=>(a e he).2.1) t 0 fn pos 0).trans h.hear0) ((dO (λe he=>(a e he).2.1) t 0 fn pos c).trans h.hearc) (iM λe he=>(a e he).2.2)
  λi op _ _ b d=>absurd ((aL op b).symm.trans d).symm hc0
theorem Rel.add0 (h:Rel p Sh Wg c w t d0 d1 r)(hc0:c≠0)(hSh:Mf p Sh)(fn:FuncId)(pos:String){es:Array Event}(a: ∀e∈es,Ev0 Sh e):Rel p Sh Wg c w (t++MemOp.ofEvents 0 fn pos es) (deafBehind d0 es) d1 r:=
 h.grow (h.core.add0 hSh fn pos a) (by rw[Deaf_own,h.hear0]) ((Deaf_other t (λe=>hc0 e.symm) _ aL).trans h.hearc) (iM λe he=>(a e he).2)
  λi op _ _ b d=>absurd ((aL op b).symm.trans d).symm hc0
theorem Rel.still (h:Rel p Sh Wg c w t d0 d1 r)(hu: ∀op∈u,op.act.touch? =none) (f: ∀op∈u,op.act≠ .mark (.release (My Wg))) {j k:Nat} (h0:Deaf (t++u) 0=j) (h1:Deaf (t++u) c=k):Rel p Sh Wg c w (t++u) j k r:=
 h.grow (h.core.still hu) h0 h1 f λi op _ m b _=>by
  refine⟨λe=> ?_,λa g=> ?_⟩
  ·obtain⟨x,l,_⟩:=e;have d:touchAt (t++u) i=some x:=l;rw[touchAt_of m,hu op b] at d;cases d
  ·rw[hu op b] at g;cases g
theorem Rel.world (h:Rel p Sh Wg c w t d0 d1 r)(k:Kept p w w'):Rel p Sh Wg c w' t d0 d1 r:=⟨h.core.world k,h.hear0,h.hearc,h.act,h.g,h.heard,h.norel,h.after⟩
theorem r7 {e:Event}(h:e.mute=true)(a:Addr):e.loc≠ .mark (.release a):=by
 obtain⟨loc,wr,b⟩:=e;rintro rfl;simp[Event.mute] at h
theorem Rel.mute (h:Rel p Sh Wg c w t d0 d1 r){g:Nat}(h0:g≠0)(fn:FuncId)(pos:String){es:Array Event}(hm: ∀e∈es,e.mute=true) {a:Nat} (h1:Deaf (t++MemOp.ofEvents g fn pos es) c=a):Rel p Sh Wg c w (t++MemOp.ofEvents g fn pos es) d0 a r:=
 h.still (iv hm) (iM λe he=>r7 (hm e he)) ((Deaf_other t h0 _ aL).trans h.hear0) h1
def EvW (Wg:Nat)(e:Event):Prop:= ∃(a:Addr) (wr:Bool),e=⟨.cell a,wr,true⟩/\a.block=Wg
theorem EvW.touch {e:Event}(h:EvW Wg e){x:Touch}(hx:(MemAct.ofEvent e).touch? =some x):Od Wg x.loc/\x.kind= .atomic:=by
 obtain⟨a,wr,rfl,b⟩:=h;simp only[MemAct.ofEvent,MemAct.touch?,Option.some.injEq] at hx;subst hx;exact⟨⟨a,rfl,b⟩,rfl⟩
theorem Rel.own (h:Rel p Sh Wg c w t d0 d1 r)(hc0:c≠0)(hN:Wg<p.N0)(H:p.N0<=w.heap.size)(hSh:Mf p Sh)(D: ∀l,Od Wg l->Sh l) (fn:FuncId) (pos:String) {es:Array Event}
 (z: ∀j e,es[j]? =some e->((MemAct.ofEvent e).touch? =none/\ ∀a,e.loc≠ .mark (.release a))\/(EvW Wg e/\0<deafBehind d1 (es.extract 0 j))):
 Rel p Sh Wg c w (t++MemOp.ofEvents c fn pos es) d0 (deafBehind d1 es) r:=by
 have k: ∀e∈es,((MemAct.ofEvent e).touch? =none/\ ∀a,e.loc≠ .mark (.release a))\/EvW Wg e:=λe he=>by
  obtain⟨j,A,rfl⟩:=Array.mem_iff_getElem.1 he;exact(z j _ (OQ A)).imp id And.left
 refine h.grow (h.core.JV (Kept.refl p w) fn pos λe he x m _=> ?_) ((Deaf_other t hc0 _ aL).trans h.hear0) (by rw[Deaf_own,h.hearc]) (iM λe he a=> ?_) λi op E d G _=> ?_
 ·rcases k e he with ⟨s,_⟩|hw
  ·rw[s] at m;cases m
  ·obtain⟨⟨a,o,y⟩,u⟩:=hw.touch m;exact⟨⟨Wg,by rw[o];simp[blk,y],bl,λf=>by have:=f.1;omega⟩,λ_=>u,λst=>absurd (D _ ⟨a,o,y⟩) (hSh.ap _ st)⟩
 ·rcases k e he with ⟨_,s⟩|hw
  ·exact s a
  ·obtain⟨x,wr,rfl,_⟩:=hw;simp
 ·have A:(MemOp.ofEvents c fn pos es)[i-t.size]? =some op:=by
   rw[Array.getElem?_append] at d;simpa [Nat.not_lt.2 E] using d
  rw[ofEvents_eq,tp] at A;obtain⟨e,he,rfl⟩:=pA.1 A;have C:i-t.size<es.size:=(ib.1 he).1;rcases z _ e he with ⟨s,_⟩|⟨hw,I⟩
  ·refine⟨λn=> ?_,λa o=> ?_⟩
   ·obtain⟨x,m,_⟩:=n;have b:touchAt (t++MemOp.ofEvents c fn pos es) i=some x:=m;rw[touchAt_of d,s] at b;cases b
   ·rw[s] at o;cases o
  ·refine⟨λn=> ?_,λa o=>D _ (hw.touch o).1⟩;obtain⟨x,m,_,u⟩:=n;have b:touchAt (t++MemOp.ofEvents c fn pos es) i=some x:=m;rw[touchAt_of d] at b;rcases u with u|⟨g,F,B⟩
   ·exact u (hw.touch b).2
   ·have:g=c:=by simpa [Trace.g?,d] using F.symm
    subst this;have:=Conc.deaf_inside t g fn pos es (i-t.size) (Nat.le_of_lt C);rw[show t.size+(i-t.size)=i by omega,B,h.hearc] at this;omega
end
structure KN (Sh:Loc->Prop)(t:Trace)(d:Nat:=0):Prop where
 clean: ∀said,¬Race said t
 known: ∀i a,touchAt t i=some a->a.loc.isMemory=true->Knows t 0 i\/(Sh a.loc/\a.kind= .atomic)
 over:t.HandedOver
 hears:Deaf t 0=d
theorem Rel.acquire {p:KC}{Sh:Loc->Prop}{Wg c:Nat}{w:World}{t:Trace}{d1 r:Nat}(h:Rel p Sh Wg c w t 0 d1 r)(hSh:Mf p Sh)(fn:FuncId)(pos:String):
 KN Sh (t++ #[{g:=0,fn:=fn,pos:=pos,act:= .mark (.acquire (My Wg))}]):=by
 have b:(t++ #[({g:=0,fn:=fn,pos:=pos,act:= .mark (.acquire (My Wg))}:MemOp)])[t.size]? =some {g:=0,fn:=fn,pos:=pos,act:= .mark (.acquire (My Wg))}:=bE
 have z:Deaf (t++ #[({g:=0,fn:=fn,pos:=pos,act:= .mark (.acquire (My Wg))}:MemOp)]) 0=Deaf t 0:=by rw[Deaf_push];simp[deafStep]
 have hu: ∀op∈(#[{g:=0,fn:=fn,pos:=pos,act:= .mark (.acquire (My Wg))}]:Trace),op.act.touch? =none/\op.act≠ .mark (.release (My Wg)):=λop f=>by
  have:op={g:=0,fn:=fn,pos:=pos,act:= .mark (.acquire (My Wg))}:=by simpa using f
  rw[this];exact⟨rfl,bE⟩
 have e:Rel p Sh Wg c w (t++ #[{g:=0,fn:=fn,pos:=pos,act:= .mark (.acquire (My Wg))}]) 0 d1 r:=h.still (λop f=>(hu op f).1) (λop f=>(hu op f).2) (z.trans h.hear0) ((by rw[Deaf_push];simp[deafStep]:_=Deaf t c).trans h.hearc);have E:(t++ #[({g:=0,fn:=fn,pos:=pos,act:= .mark (.acquire (My Wg))}:MemOp)]).heard t.size:=⟨0,by simp[Trace.g?,b],by rw[deaf_old (cD _)];exact h.hear0⟩;have A:=h.lt;generalize C:(t++ #[({g:=0,fn:=fn,pos:=pos,act:= .mark (.acquire (My Wg))}:MemOp)])=t' at b e E;have j:HappensBefore t' r t.size:= .single (.inr ⟨.marked A (.inr e.act) (by rw[act?_of b]) (λk F _=>e.norel k F),e.heard,E⟩);have d: ∀i,t'.g? i=some c->i<=r->HappensBefore t' i t.size:=λi n G=>by
  rcases Nat.lt_or_ge i r with m|m
  ·exact .trans (.single (.inl ⟨m,c,n,e.g⟩)) j
  ·obtain rfl:i=r:=bl
   exact j
 refine⟨e.core.clean,λi a D hm=> ?_,λi g n y o=> ?_,e.hear0⟩
 ·have l: ∀(_:t'.g? i=some c)(_: ¬Sh a.loc),Knows t' 0 i:=λg B=>
   ⟨t.size,_,b,rfl, .inr (d i g (Nat.le_of_not_lt λm=>B ((e.after i m g).2 a D)))⟩
  rcases e.core.cls i a D hm with ⟨x,_⟩|⟨s,x|⟨_,g⟩⟩|⟨g,_⟩|⟨g,_,B,_⟩|⟨g|g,x,_⟩
  ·exact .inl x
  ·exact .inr ⟨s,x⟩
  ·exact .inl (cM g)
  ·exact .inl (cM g)
  ·exact .inl (l g B)
  ·exact .inl (cM g)
  ·exact .inl (l g (hSh.ap _ x))
 ·by_cases u:g=c
  ·subst u;exact⟨t.size,by simp[Trace.g?,b],d i n (Nat.le_of_not_lt λm=>(e.after i m n).1 o)⟩
  ·exact e.core.over i g n y u o
open Go.ConcN (sumTo upd sumTo_upd upd_ne upd_same)
structure RB (p:KC)(E Dn:Nat)(w w₁:World):Prop where
 tape:w₁.tape=w.tape
 os:w₁.os=w.os
 output:w₁.output=w.output
 kept:Kept p w w₁
 block: ∀b,b<w.heap.size-> ¬FA p w b->b≠E->b≠Dn->w₁.heap[b]? =w.heap[b]?
structure RA (p:KC)(w w₁:World):Prop where
 tape:w₁.tape=w.tape
 os:w₁.os=w.os
 output:w₁.output=w.output
 kept:Kept p w w₁
 block: ∀b,FA p w b->w₁.heap[b]? =w.heap[b]?
 still: ∀b cs ty fl,(∃i,p.Still (.cell ⟨b,i,none⟩))->w.heap[b]? =some (.cells cs ty fl)->w₁.heap[b]? =some (.cells cs ty fl)
theorem iN (p:KC)(w:World)(d:Nat):Kept p w (w.at d):=⟨cD _,λ_ h=>h,λ_ _ h=>h⟩
theorem RB.refl (p:KC)(E Dn:Nat)(w:World):RB p E Dn w w:=⟨rfl,rfl,rfl,Kept.refl p w,λ_ _ _ _ _=>rfl⟩
theorem RB.at (p:KC)(E Dn:Nat)(w:World)(d:Nat):RB p E Dn w (w.at d):=⟨rfl,rfl,rfl,iN p w d,λ_ _ _ _ _=>rfl⟩
theorem RB.trans {p:KC}{E Dn:Nat}(a b c:World)(h:RB p E Dn a b)(k:RB p E Dn b c):RB p E Dn a c:=
 ⟨k.tape.trans h.tape,k.os.trans h.os,k.output.trans h.output,h.kept.trans k.kept,
  λx d f he e=>(k.block x (OX d h.kept.size) (h.kept.nf x d f) he e).trans (h.block x d f he e)⟩
theorem RA.refl (p:KC)(w:World):RA p w w:=⟨rfl,rfl,rfl,Kept.refl p w,λ_ _=>rfl,λ_ _ _ _ _ h=>h⟩
theorem RA.at (p:KC)(w:World)(d:Nat):RA p w (w.at d):=⟨rfl,rfl,rfl,iN p w d,λ_ _=>rfl,λ_ _ _ _ _ h=>h⟩
theorem RA.trans {p:KC}(a b c:World)(h:RA p a b)(k:RA p b c):RA p a c:=
 ⟨k.tape.trans h.tape,k.os.trans h.os,k.output.trans h.output,h.kept.trans k.kept,λx d=>(k.block x (h.kept.fa x d)).trans (h.block x d),λx cs ty f e d=>k.still x cs ty f e (h.still x cs ty f e d)⟩
theorem eY {w:World}{c cap:Nat}{buf:Array Value}{cl:Bool}{s r:Nat}{tm:Bool}{o:Obj}(h:w.heap[c]? =some o):(w.setChan c cap buf cl s r tm).heap[c]? =some (.chan cap buf cl s r tm):=by
 have a:=(ib.1 h).1;simp[World.setChan,a]
theorem cB {w:World}{c cap:Nat}{buf:Array Value}{cl:Bool}{s r:Nat}{tm:Bool}{b:Nat}(h:b≠c):(w.setChan c cap buf cl s r tm).heap[b]? =w.heap[b]? :=by
 simp[World.setChan,m0 (ft h)]
section
variable {p:KC}{w:World}{c cap cap':Nat}{buf buf':Array Value}{cl cl':Bool}{s r s' r':Nat}{tm tm':Bool}
theorem fY (h:w.heap[c]? =some (.chan cap buf cl s r tm)): ¬FA p w c:=by
 rintro⟨_,o,a,b⟩;rw[h] at a;cases a;simp[Mx] at b
theorem dB (h:w.heap[c]? =some (.chan cap buf cl s r tm)):Kept p w (w.setChan c cap' buf' cl' s' r' tm'):=by
 refine⟨by simp[World.setChan],λb hb=> ?_,λb i g hb=> ?_⟩
 ·have f:b≠c:=λe=>fY h (e▸hb);obtain⟨x,o,a,d⟩:=hb;exact⟨x,o,by rw[cB f];exact a,d⟩
 ·obtain⟨x,o,a,d⟩:=hb;by_cases e:b=c
  ·subst e;rw[eY h] at a;cases a;simp[Mx] at d
  ·rw[cB e] at a;exact g ⟨x,o,a,d⟩
theorem iw (h:w.heap[c]? =some (.chan cap buf cl s r tm)):RA p w (w.setChan c cap' buf' cl' s' r' tm'):=
 ⟨rfl,rfl,rfl,dB h,λb hb=>cB λe=>fY h (e▸hb),λb cs ty a _ hb=>(cB λe=>by rw[e,h] at hb;cases hb).trans hb⟩
theorem iy {E Dn:Nat}(h:w.heap[c]? =some (.chan cap buf cl s r tm))(hc:c=E\/c=Dn):RB p E Dn w (w.setChan c cap' buf' cl' s' r' tm'):=
 ⟨rfl,rfl,rfl,dB h,λb _ _ a d=>cB λe=>hc.elim (λz=>a (e.trans z)) (λz=>d (e.trans z))⟩
end
section
variable (P:Program)(p:KC)(Shun:Loc->Prop)(E Dn:Nat)(zE zD:Value)(PostB:World->Prop)(After Fin:Goroutine->World->Prop)
def Kh:Array CommCase:= #[rcase E zE,rcase Dn zD]
def DG (w w':World)(es:Array Event):Prop:=RB p E Dn w w'/\w'.heap[E]? =w.heap[E]? /\w'.heap[Dn]? =w.heap[Dn]? /\ ∀e∈es,EvA p w' e
def DT (w w':World)(es:Array Event):Prop:=RA p w w'/\w'.heap[E]? =w.heap[E]? /\w'.heap[Dn]? =w.heap[Dn]? /\ ∀e∈es,EvB p Shun w' e
def M8 (K:Goroutine->World->Prop)(g:Goroutine)(w:World):Prop:=
 g.status= .running/\ ∃es,stepG P true g w= .comm (core g) (Kh E Dn zE zD) true .select w es/\(∀e∈es,EvA p w e)/\ ∀w₂,RA p w w₂->K (core g) w₂
def Lf:List Value->Goroutine->World->Prop
 |[],g,w=> ∃n,Goes P true (RA p) (DG p E Dn) (M8 P p E Dn zE zD λg₂ w₂=>PostB w₂->Fin (Conc.served g₂ (commResult (Kh E Dn zE zD) .select 1 zD false)) w₂) n g w
 |v::vs,g,w=> ∃n,Goes P true (RA p) (DG p E Dn) (M8 P p E Dn zE zD λg₂ w₂=>Lf vs (Conc.served g₂ (commResult (Kh E Dn zE zD) .select 0 v true)) w₂) n g w
def KW:List Value->Goroutine->World->Prop
 |[]=>M8 P p E Dn zE zD λg₂ w₂=>PostB w₂->Fin (Conc.served g₂ (commResult (Kh E Dn zE zD) .select 1 zD false)) w₂
 |v::vs=>M8 P p E Dn zE zD λg₂ w₂=>Lf P p E Dn zE zD PostB Fin vs (Conc.served g₂ (commResult (Kh E Dn zE zD) .select 0 v true)) w₂
theorem cV (vs:List Value)(g:Goroutine)(w:World):Lf P p E Dn zE zD PostB Fin vs g w↔ ∃n,Goes P true (RA p) (DG p E Dn) (KW P p E Dn zE zD PostB Fin vs) n g w:=by
 cases vs<;>exact fz
def Nh (v:Value)(K:Goroutine->World->Prop)(g:Goroutine)(w:World):Prop:=
 g.status= .running/\ ∃es z',stepG P false g w= .comm (core g) #[scase E v z'] true .send w es/\(∀e∈es,EvB p Shun w e)/\ ∀w₂,RB p E Dn w w₂->K (core g) w₂
def Ni (g:Goroutine)(w:World):Prop:=
 g.status= .running/\mayWake P g=true/\PostB w/\ ∃g',g'.status= .running/\(w.heap[Dn]? =some (.chan 0 #[] false 0 0 false)->stepG P false g w= .go g' (w.setChan Dn 0 #[] true 0 0 false) (closeEvents Dn))/\
  After g' (w.setChan Dn 0 #[] true 0 0 false)
def LS:List Value->Goroutine->World->Prop
 |[],g,w=> ∃n,Goes P false (RB p E Dn) (DT p Shun E Dn) (Ni P Dn PostB After) n g w
 |v::vs,g,w=> ∃n,Goes P false (RB p E Dn) (DT p Shun E Dn) (Nh P p Shun E Dn v λg₂ w₂=>LS vs (Conc.served g₂ undef) w₂) n g w
def Mb:List Value->Goroutine->World->Prop
 |[]=>Ni P Dn PostB After
 |v::vs=>Nh P p Shun E Dn v λg₂ w₂=>LS P p Shun E Dn PostB After vs (Conc.served g₂ undef) w₂
theorem fq (vs:List Value)(g:Goroutine)(w:World):LS P p Shun E Dn PostB After vs g w↔ ∃n,Goes P false (RB p E Dn) (DT p Shun E Dn) (Mb P p Shun E Dn PostB After vs) n g w:=by
 cases vs<;>exact fz
def Nw (vs:List Value)(ra:Nat)(a:Goroutine)(w:World):Prop:=
 (∃n,ra=n+1/\Goes P true (RA p) (DG p E Dn) (KW P p E Dn zE zD PostB Fin vs) n a w)\/
 (ra=0/\ ∃g,a=parked (core g) (Kh E Dn zE zD) .select/\ ∀w₁,RA p w w₁->KW P p E Dn zE zD PostB Fin vs g w₁)
def Nx (vs:List Value)(rb:Nat)(b:Goroutine)(w:World):Prop:=
 (∃n,rb=n+1/\Goes P false (RB p E Dn) (DT p Shun E Dn) (Mb P p Shun E Dn PostB After vs) n b w)\/
 (rb=0/\ ∃v vs' g z',vs=v::vs'/\b=parked (core g) #[scase E v z'] .send/\ ∀w₂,RB p E Dn w w₂->LS P p Shun E Dn PostB After vs' (Conc.served (core g) undef) w₂)
end
section
variable {P:Program}{p:KC}{Shun:Loc->Prop}{E Dn:Nat}{zE zD:Value}{PostB:World->Prop}{After Fin:Goroutine->World->Prop}
theorem KW.sel {vs:List Value}{g:Goroutine}{w:World}(h:KW P p E Dn zE zD PostB Fin vs g w):
 g.status= .running/\ ∃es,stepG P true g w= .comm (core g) (Kh E Dn zE zD) true .select w es/\ ∀e∈es,EvA p w e:=by
 cases vs<;>exact let ⟨h0,es,h1,h2,_⟩:=h;⟨h0,es,h1,h2⟩
theorem KW.running {vs:List Value}{g:Goroutine}{w:World}(h:KW P p E Dn zE zD PostB Fin vs g w):g.status= .running:=h.sel.1
theorem KW.cons {v:Value}{vs:List Value}{g:Goroutine}{w:World}(h:KW P p E Dn zE zD PostB Fin (v::vs) g w):
 ∀a,RA p w a->Lf P p E Dn zE zD PostB Fin vs (Conc.served (core g) (commResult (Kh E Dn zE zD) .select 0 v true)) a:=let ⟨_,_,_,_,h3⟩:=h;h3
theorem KW.nil {g:Goroutine}{w:World}(h:KW P p E Dn zE zD PostB Fin [] g w):
 ∀a,RA p w a->PostB a->Fin (Conc.served (core g) (commResult (Kh E Dn zE zD) .select 1 zD false)) a:=let ⟨_,_,_,_,h3⟩:=h;h3
theorem KW.tries {vs:List Value}{g:Goroutine}{w:World}(h:KW P p E Dn zE zD PostB Fin vs g w):
 KW P p E Dn zE zD PostB Fin vs {parked (core g) (Kh E Dn zE zD) .select with status:= .running} w:=by
 have e:stepG P true {parked (core g) (Kh E Dn zE zD) .select with status:= .running} w=stepG P true g w:=stepG_same rfl rfl rfl w;cases vs<;>exact let ⟨_,es,h1,h2,h3⟩:=h;⟨rfl,es,by rw[e];exact h1,h2,h3⟩
theorem Mb.running {vs:List Value}{g:Goroutine}{w:World}(h:Mb P p Shun E Dn PostB After vs g w):g.status= .running:=by cases vs<;>exact h.1
theorem Nw.rely {vs:List Value}{i:Nat}{a:Goroutine}{w b:World}(h:Nw P p E Dn zE zD PostB Fin vs i a w)(hr:RA p w b):Nw P p E Dn zE zD PostB Fin vs i a b:=by
 rcases h with ⟨n,e,k⟩|⟨e,g,l,j⟩
 ·exact .inl ⟨n,e,Goes.rely RA.trans k hr⟩
 ·exact .inr ⟨e,g,l,λf d=>j f (hr.trans _ _ _ d)⟩
theorem Nx.rely {vs:List Value}{j:Nat}{b:Goroutine}{w a:World}(h:Nx P p Shun E Dn PostB After vs j b w)(hr:RB p E Dn w a):Nx P p Shun E Dn PostB After vs j b a:=by
 rcases h with ⟨n,e,o⟩|⟨e,v,i,g,m,ev,l,k⟩
 ·exact .inl ⟨n,e,Goes.rely RB.trans o hr⟩
 ·exact .inr ⟨e,v,i,g,m,ev,l,λf d=>k f (hr.trans _ _ _ d)⟩
theorem Nw.status {vs:List Value}{b:Nat}{a:Goroutine}{w:World}(h:Nw P p E Dn zE zD PostB Fin vs b a w):(a.status= .running/\0<b)\/(a.status= .blocked/\b=0):=by
 rcases h with ⟨n,e,d⟩|⟨e,g,rfl,_⟩
 ·exact .inl ⟨d.running (λ_ _=>KW.running) w (RA.refl p w),bl⟩
 ·exact .inr ⟨rfl,e⟩
theorem Nx.status {vs:List Value}{a:Nat}{b:Goroutine}{w:World}(h:Nx P p Shun E Dn PostB After vs a b w):(b.status= .running/\0<a)\/(b.status= .blocked/\a=0):=by
 rcases h with ⟨n,e,f⟩|⟨e,v,d,g,i,_,rfl,_⟩
 ·exact .inl ⟨f.running (λ_ _=>Mb.running) w (RB.refl p E Dn w),bl⟩
 ·exact .inr ⟨rfl,e⟩
theorem Nw.again {vs:List Value}{j:Nat}{a:Goroutine}{w w':World}{k s u x o y r m f i}(h:Nw P p E Dn zE zD PostB Fin vs j a w)(hE:w'.heap[E]? =some (.chan k s false u x f))(l:w'.heap[Dn]? =some (.chan o y false r m i)):a.again w'=a:=by
 rcases h with ⟨n,e,d⟩|⟨e,g,rfl,_⟩
 ·exact again_running _ (.inl (d.running (λ_ _=>KW.running) w (RA.refl p w)))
 ·refine again_all_open λz b=> ?_;simp only[Kh,OJ,gn,Lr,or_false] at b;rcases b with rfl|rfl
  ·exact⟨E,zE,_,_,_,_,_,rfl,hE⟩
  ·exact⟨Dn,zD,_,_,_,_,_,rfl,l⟩
theorem Nx.again {vs:List Value}{m:Nat}{b:Goroutine}{w w':World}{l f i j k}(h:Nx P p Shun E Dn PostB After vs m b w)(hE:w'.heap[E]? =some (.chan l f false i j k)):b.again w'=b:=by
 rcases h with ⟨n,e,d⟩|⟨e,v,a,g,o,_,rfl,_⟩
 ·exact again_running _ (.inl (d.running (λ_ _=>Mb.running) w (RB.refl p E Dn w)))
 ·exact again_send_open hE
end
structure Ls (P:Program)(c:Nat)(gs:Array Goroutine)(a b:Goroutine)(T:Trace)(q:Nat->Nat):Prop where
 size:gs.size=c+1
 pos:0<c
 h0:gs[0]? =some a
 hc:gs[c]? =some b
 old: ∀i g,0<i->i<c->gs[i]? =some g->QuitsD P (q i) (Deaf T i) g
 above: ∀j,c<j->Deaf T j=0
section
variable {P:Program}{c:Nat}{gs:Array Goroutine}{a b a' b':Goroutine}{T u:Trace}{q:Nat->Nat}{w':World}
theorem Ls.awake (C:Ls P c gs a b T q)(ha:awake a)(hb:awake b): ∀g∈gs,Conc.awake g:=by
 intro g j;obtain⟨i,e,rfl⟩:=Array.mem_iff_getElem.1 j;have d:gs[i]? =some gs[i]:=OQ e;by_cases h0:i=0
 ·subst h0;rw[C.h0] at d;rw[<-gu d];exact ha
 ·by_cases f:i=c
  ·subst f;rw[C.hc] at d;rw[<-gu d];exact hb
  ·exact awake_of ((C.old i _ bl (by have:=C.size;omega) d).status.elim .inl λx=> .inr (.inr x))
theorem Ls.put (C:Ls P c gs a b T q){f:Array Goroutine}(hsz:f.size=gs.size)(h0:f[0]? =some a')(hc:f[c]? =some b')(ho: ∀x,x≠0->x≠c->f[x]? =gs[x]?) (hu: ∀op∈u,op.g=0\/op.g=c):
 Ls P c f a' b' (T++u) q:=by
 have A: ∀j,j≠0->j≠c->Deaf (T++u) j=Deaf T j:=by
  intro j p n;obtain⟨l⟩:=u;rw[Deaf_append];have: ∀(l:List MemOp)(d:Nat),(∀op∈l,op.g=0\/op.g=c)->l.foldl (deafStep j) d=d:=by
   intro l
   induction l with
   |nil=>intro d _;rfl
   |cons y l ih=>
    intro d B;have r:y.g≠j:=λe=>(B y bE).elim (λz=>p (e.symm.trans z)) (λz=>n (e.symm.trans z));have F:deafStep j d y=d:=by
     obtain⟨g,fn,pos,act⟩:=y;simp only at r;cases act with
     |mark m=>cases m<;>simp[deafStep,r]
     |_=>simp[deafStep]
    rw[List.foldl_cons,F];exact ih d λop k=>B op (by simp[k])
  exact this l _ λop k=>hu op (by simpa using k)
 refine⟨hsz.trans C.size,C.pos,h0,hc,λi g D o s=> ?_,λj E=> ?_⟩
 ·rw[ho i bl bl] at s;rw[A i bl bl];exact C.old i g D o s
 ·rw[A j bl bl];exact C.above j E
theorem dP {P:Program}{g g' x:Goroutine}{w:World}(h:x.again w=x):woken P g g' w x=x:=woken_of_again h
theorem Ls.step0 (C:Ls P c gs a b T q)(hb:b.again w'=b)(hu: ∀op∈u,op.g=0):Ls P c ((gs.map (woken P a a' w')).setIfInBounds 0 a') a' b (T++u) q:=by
 have k:=C.pos;have i:=C.size;refine C.put bE (by simp[i]) ?_ (λx h0 j=> ?_) λop d=> .inl (hu op d)
 ·rw[m0 bl,tp,C.hc];simp[dP hb]
 ·rw[m0 (ft h0),tp];cases e:gs[x]? with
  |none=>rfl
  |some y=>
   have f:=(ib.1 e).1;simp[woken_quitsD (C.old x y bl bl e)]
theorem Ls.J1 (C:Ls P c gs a b T q)(ha:woken P b b' w' a=a')(hu: ∀op∈u,op.g=c):Ls P c ((gs.map (woken P b b' w')).setIfInBounds c b') a' b' (T++u) q:=by
 have k:=C.pos;have j:=C.size;refine C.put bE ?_ (by simp[j]) (λx h0 e=> ?_) λop d=> .inr (hu op d)
 ·rw[m0 bl,tp,C.h0];simp[ha]
 ·rw[m0 (ft e),tp];cases f:gs[x]? with
  |none=>rfl
  |some y=>
   have i:=(ib.1 f).1;simp[woken_quitsD (C.old x y bl bl f)]
theorem Ls.JW (C:Ls P c gs a b T q){i:Nat}{g:Goroutine}(hi:gs[i]? =some g)(h0:i≠0)(E:i≠c)(d:g.status= .running)(sl:Option (Nat×Nat))(w:World):
 ∃g' es k,q i=k+1/\runT P (crowd gs w sl) i=(.next (crowd ((gs.map (woken P g g' w)).setIfInBounds i g') w sl),MemOp.ofEvents i g.frame.fn g.frame.place es)/\(∀e∈es,e.mute=true)/\
  Ls P c ((gs.map (woken P g g' w)).setIfInBounds i g') (woken P g g' w a) (woken P g g' w b) (T++MemOp.ofEvents i g.frame.fn g.frame.place es) (upd q i k):=by
 have u:i<gs.size:=(ib.1 hi).1;have H:=C.size;have p:=C.old i g bl bl hi;have s:(i==0)=false:=by simp[h0]
 cases o:q i with
 |zero=>rw[o] at p;rw[p.1] at d;cases d
 |succ k=>
  rw[o] at p;rcases p with ⟨G,_⟩|⟨_,g',es,hm,n,D⟩
  ·rw[G] at d;cases d
  have l: ∀op∈MemOp.ofEvents i g.frame.fn g.frame.place es,op.g=i:=λop z=>by obtain⟨_,_,rfl⟩:=Conc.mem_ofEvents z;rfl
  refine⟨g',es,k,rfl,runT_crowd_go hi (by rw[s];exact n w),hm,by simp[H],C.pos, ?_, ?_,λj x B A r=> ?_,λj B=>by rw[Deaf_other T bl _ l];exact C.above j B⟩
  ·rw[m0 h0,tp,C.h0];rfl
  ·rw[m0 E,tp,C.hc];rfl
  ·by_cases f:i=j
   ·subst f;rw[Array.getElem?_setIfInBounds_self_of_lt (by simpa using u)] at r;obtain rfl:=gu r;rw[upd_same,Deaf_own];exact D
   ·rw[m0 f,tp] at r;obtain⟨y,F,rfl⟩:=pA.1 r;have m:=C.old j y B A F;rw[woken_quitsD m,upd_ne q k (ft f),Deaf_other T f _ l];exact m
theorem fO {c i k:Nat}{q:Nat->Nat}(b:i<c)(hq:q i=k+1):sumTo c (upd q i k)+1=sumTo c q:=by
 have:=sumTo_upd q k id b;simp only[id,hq] at this;have d:sumTo c (λa=>upd q i k a)=sumTo c (upd q i k):=rfl;have e:sumTo c (λa=>q a)=sumTo c q:=rfl;omega
theorem Ls.JB (C:Ls P c gs a b T q){x:Nat}{y:Goroutine}(h0:x≠0)(hc:x≠c)(hx:gs[x]? =some y)(ch:Nat)(s:Bool):offersAt y ch s=[]:=by
 have d:x<gs.size:=(ib.1 hx).1;have f:=C.size;have e:=C.old x y bl bl hx;exact offersAt_of_not_blocked (λhb=>by rcases e.status with z|z<;>rw[z] at hb<;>cases hb) ch s
end
open Go.ConcN (sumTo upd sumTo_upd upd_ne upd_same)
abbrev LtP:Nat×Nat->Nat×Nat->Prop:=Prod.Lex (· < ·) (· < ·)
theorem H8:WellFounded LtP:=(Prod.lex Nat.lt_wfRel Nat.lt_wfRel).wf
section
variable (P:Program)(p:KC)(Shun:Loc->Prop)(E Dn:Nat)(zE zD:Value)(PostB:World->Prop)(After Fin:Goroutine->World->Prop)(c:Nat)
def Inv1 (μ:Nat×Nat)(M:Machine)(T:Trace):Prop:=
 ∃(gs:Array Goroutine) (a b:Goroutine) (w:World) (sl:Option (Nat×Nat)) (q:Nat->Nat) (vs:List Value) (k ra rb:Nat),
  M=crowd gs w sl/\Ls P c gs a b T q/\La p Shun c w T 0/\w.heap[E]? =some (.chan 0 #[] false k k false)/\w.heap[Dn]? =some (.chan 0 #[] false 0 0 false)/\
  Nw P p E Dn zE zD PostB Fin vs ra a w/\Nx P p Shun E Dn PostB After vs rb b w/\0<ra+rb/\μ=(vs.length,ra+rb+sumTo c q)
def Shut1 (M:Machine)(T:Trace):Prop:=
 ∃(gs:Array Goroutine) (a b:Goroutine) (w:World) (sl:Option (Nat×Nat)) (q:Nat->Nat) (k:Nat),
  M=crowd gs w sl/\Ls P c gs a b T q/\La p Shun c w T 0/\w.heap[E]? =some (.chan 0 #[] false k k false)/\w.heap[Dn]? =some (.chan 0 #[] true 0 0 false)/\PostB w/\
  Lf P p E Dn zE zD PostB Fin [] a w/\After b w/\b.status= .running
end
section
variable {P:Program}{p:KC}{Shun:Loc->Prop}{E Dn:Nat}{zE zD:Value}{PostB:World->Prop}{After Fin:Goroutine->World->Prop}{c:Nat}
theorem la {b d f e:Nat}{f1 f2 f3 f4:FuncId}{p1 p2 p3 p4:String}{ch s r k cap:Nat}{p:KC}{Shun:Loc->Prop}{c:Nat}{w:World}{t:Trace}(h:La p Shun c w t 0):
 La p Shun c w (t++ #[{g:=b,fn:=f1,pos:=p1,act:= .send ch s},{g:=d,fn:=f2,pos:=p2,act:= .recv ch r cap},{g:=f,fn:=f3,pos:=p3,act:= .sendDone ch k},{g:=e,fn:=f4,pos:=p4,act:= .recvDone ch r}]) 0:=by
 refine h.still (λop a=> ?_) (λg=> ?_)
 ·simp only[OJ,gn,Lr,or_false] at a;rcases a with rfl|rfl|rfl|rfl<;>rfl
 ·rw[show (#[{g:=b,fn:=f1,pos:=p1,act:= .send ch s},{g:=d,fn:=f2,pos:=p2,act:= .recv ch r cap},{g:=f,fn:=f3,pos:=p3,act:= .sendDone ch k},{g:=e,fn:=f4,pos:=p4,act:= .recvDone ch r}]:Trace)
   =([{g:=b,fn:=f1,pos:=p1,act:= .send ch s},{g:=d,fn:=f2,pos:=p2,act:= .recv ch r cap},{g:=f,fn:=f3,pos:=p3,act:= .sendDone ch k},{g:=e,fn:=f4,pos:=p4,act:= .recvDone ch r}]:List MemOp).toArray from rfl,Deaf_append]
  simp[deafStep]
theorem uN (j':E≠Dn)(hc0:c≠0)(hDN:Dn<p.N0)(hSh:Mf p Shun)(Z': ∀l,Shun l->l≠ .obj Dn) (Y': ∀w W,RB p E Dn w W->PostB w->PostB W)
 {μ:Nat×Nat} {M:Machine} {T:Trace} (h:Inv1 P p Shun E Dn zE zD PostB After Fin c μ M T):
 ∃M' ops,stepT P M=(.next M',ops)/\((∃T',LtP T' μ/\Inv1 P p Shun E Dn zE zD PostB After Fin c T' M' (T++ops))\/Shut1 P p Shun E Dn zE zD PostB After Fin c M' (T++ops)):=by
 obtain⟨gs,a,b,D,F',q,Y,k,ra,rb,rfl,C,h',i',d',L,S,O',rfl⟩:=h;have sa:=L.status;have sb:=S.status;have aw:=C.awake (awake_of (sa.elim (λx=> .inl x.1) (λx=> .inr (.inl x.1)))) (awake_of (sb.elim (λx=> .inl x.1) (λx=> .inr (.inl x.1))));have y': ∃(i:Nat) (g:Goroutine),gs[i]? =some g/\g.status= .running:=by
  rcases sa with x|x
  ·exact⟨0,a,C.h0,x.1⟩
  ·rcases sb with y|y
   ·exact⟨c,b,C.hc,y.1⟩
   ·omega
 obtain⟨i,g,d,sl,X,hg,J⟩:=crowd_pick (P:=P) (w:=D) (sl:=F') aw y';have hT:La p Shun c (D.at d) T 0:=h'.world (iN p D d);have H:(D.at d).heap[E]? =some (.chan 0 #[] false k k false):=i';have U:(D.at d).heap[Dn]? =some (.chan 0 #[] false 0 0 false):=d';have hA:=L.rely (RA.at p D d);have hB:=S.rely (RB.at p E Dn D d);generalize D.at d=w at*;clear h' i' d' L S;have V:i<gs.size:=(ib.1 X).1;have hs:=C.size;have hcp:=C.pos;by_cases h0:i=0
 ·
  subst h0;obtain rfl:g=a:=by rw[C.h0] at X;exact(gu X).symm
  obtain⟨n,rfl,hG⟩: ∃n,ra=n+1/\Goes P true (RA p) (DG p E Dn) (KW P p E Dn zE zD PostB Fin Y) n g w:=by
   rcases hA with x|⟨_,g',rfl,_⟩
   ·exact x
   ·cases hg
  rcases hG.cases with A|⟨n',rfl,N⟩
  ·obtain⟨_,es,O,R⟩:=(A w (RA.refl p w)).sel;have u:stepG P (0==0) g w= .comm (core g) (Kh E Dn zE zD) true .select w es:=O;have I':=hT.JG (Kept.refl p w) hSh g.frame.fn g.frame.place R;have S':partners (gs.setIfInBounds 0 ph) Dn true=[]:=partners_nil λx y hy=>by
    rcases getElem?_stand gs 0 x y hy with ⟨_,rfl⟩|⟨G,o⟩
    ·exact offersAt_ph _ _
    ·by_cases F:x=c
     ·subst F;rw[C.hc] at o;obtain rfl:=gu o;rcases hB with ⟨_,_,hgo⟩|⟨_,v,f,g',z',_,rfl,_⟩
      ·have:=hgo.running (λ_ _=>Mb.running) w (RB.refl p E Dn w);exact offersAt_of_not_blocked (λhb=>by rw[this] at hb;cases hb) _ _
      ·rw[offersAt_parked_send,if_neg j']
     ·exact C.JB G F o _ _
   rcases hB with ⟨m,rfl,hgo⟩|⟨rfl,v,f,gw,z',rfl,rfl,I⟩
   ·
    have X':=hgo.running (λ_ _=>Mb.running) w (RB.refl p E Dn w);have v':partners (gs.setIfInBounds 0 ph) E true=[]:=partners_nil λx y hy=>by
     rcases getElem?_stand gs 0 x y hy with ⟨_,rfl⟩|⟨G,o⟩
     ·exact offersAt_ph _ _
     ·by_cases F:x=c
      ·subst F;rw[C.hc] at o;obtain rfl:=gu o;exact offersAt_of_not_blocked (λhb=>by rw[X'] at hb;cases hb) _ _
      ·exact C.JB G F o _ _
    have hw: ∀cc∈Kh E Dn zE zD,NoWays w (gs.setIfInBounds 0 ph) cc:=by
     intro cc Q;simp only[Kh,OJ,gn,Lr,or_false] at Q;rcases Q with rfl|rfl
     ·exact ways_recv_none H v'
     ·exact ways_recv_none U S'
    refine⟨_,_,J.trans (crowd_waits X u hw), .inl ⟨(Y.length,0+(m+1)+sumTo c q), .right _ bl,_,_,b,w,sl,q,Y,k,0,m+1,rfl,
     C.put bE (by simp[V]) (by rw[m0 bl];exact C.hc) (λx G _=>m0 (ft G)) (λop B=> .inl (by obtain⟨_,_,rfl⟩:=Conc.mem_ofEvents B;rfl)),
     I',H,U, .inr ⟨rfl,g,rfl,A⟩, .inl ⟨m,rfl,hgo⟩,bl,rfl⟩⟩
   ·
    have e':partners (gs.setIfInBounds 0 ph) E true=[(c,0)]:=by
     have hj:(gs.setIfInBounds 0 ph)[c]? =some (parked (core gw) #[scase E v z'] .send):=by rw[m0 bl];exact C.hc
     have:=partners_one (gs:=gs.setIfInBounds 0 ph) (r:=E) (send:=true) hj (λx y F hy=>by
      rcases getElem?_stand gs 0 x y hy with ⟨_,rfl⟩|⟨G,o⟩
      ·exact offersAt_ph _ _
      ·exact C.JB G F o _ _)
     rw[this,offersAt_parked_send,if_pos rfl];rfl
    have K:=crowd_sel_recv_meets (sl:=sl) (k:=0) (c:=E) (j:=c) (z:=zE) X u rfl
     (λm c' hm H'=>by
      rcases m with _|_|m
      ·omega
      ·have:c'=rcase Dn zD:=by simpa [Kh] using H'.symm
       subst this;exact ways_recv_none U S'
      ·simp[Kh] at H') H bl C.hc e'
    have Z:=dB (p:=p) (cap':=0) (buf':= #[]) (cl':=false) (s':=k+1) (r':=k+1) (tm':=false) H;obtain⟨nA,u'⟩:=(cV P p E Dn zE zD PostB Fin f _ _).1 ((A w (RA.refl p w)).cons _ (iw (cap':=0) (buf':= #[]) (cl':=false) (s':=k+1) (r':=k+1) (tm':=false) H));obtain⟨nB,D'⟩:=(fq P p Shun E Dn PostB After f _ _).1 (I _ (iy (cap':=0) (buf':= #[]) (cl':=false) (s':=k+1) (r':=k+1) (tm':=false) H (.inl rfl)))
    refine⟨_,_,J.trans K, .inl ⟨(f.length,(nA+1)+(nB+1)+sumTo c q), .left _ _ bE,_,_,_,_,sl,q,f,k+1,nA+1,nB+1,rfl,
     C.put bE (by simp[V];rfl) (by rw[m0 bl];simp[hs];rfl) (λx G F=>by rw[m0 (ft G),m0 (ft F)]) (λop B=> ?_),
     ?_,eY H,by rw[cB (ft j')];exact U, .inl ⟨nA,rfl,u'⟩, .inl ⟨nB,rfl,D'⟩,bl,rfl⟩⟩
    ·rcases xr.1 B with x|x
     ·obtain⟨_,_,rfl⟩:=Conc.mem_ofEvents x;exact .inl rfl
     ·simp only[OJ,gn,Lr,or_false] at x;rcases x with rfl|rfl|rfl|rfl
      ·exact .inr rfl
      ·exact .inl rfl
      ·exact .inr rfl
      ·exact .inl rfl
    ·rw[<-Array.append_assoc];exact la (I'.world Z)
  ·
   obtain⟨a',w',es,hgo,⟨hR,E',B',R⟩,A'⟩:=N w (RA.refl p w);have f':=E'.trans H;have m':=B'.trans U
   refine⟨_,_,J.trans (runT_crowd_go X (show stepG P (0==0) g w=_ from hgo)), .inl ⟨(Y.length,(n'+1)+rb+sumTo c q), .right _ bl,_,a',b,w',sl,q,Y,k,n'+1,rb,rfl,
    C.step0 (hB.again f') (λop B=>by obtain⟨_,_,rfl⟩:=Conc.mem_ofEvents B;rfl),hT.JG hR.kept hSh _ _ R,f',m', .inl ⟨n',rfl,A'⟩,hB.rely hR,bl,rfl⟩⟩
 by_cases h1:i=c
 ·
  subst h1;obtain rfl:g=b:=by rw[C.hc] at X;exact(gu X).symm
  have t':(i==0)=false:=by simp[h0]
  obtain⟨n,rfl,hG⟩: ∃n,rb=n+1/\Goes P false (RB p E Dn) (DT p Shun E Dn) (Mb P p Shun E Dn PostB After Y) n g w:=by
   rcases hB with x|⟨_,v,f,g',z',_,rfl,_⟩
   ·exact x
   ·cases hg
  rcases hG.cases with A|⟨n',rfl,N⟩
  ·cases Y with
   |nil=>
    obtain⟨_,V',x',g',R',hgo,p'⟩:Ni P Dn PostB After g w:=A w (RB.refl p E Dn w);have hgo:=hgo U;have Z:=dB (p:=p) (cap':=0) (buf':= #[]) (cl':=true) (s':=0) (r':=0) (tm':=false) U;have k':=eY (cap:=0) (buf:= #[]) (cl:=true) (s:=0) (r:=0) (tm:=false) U;have Q':=iw (p:=p) (cap':=0) (buf':= #[]) (cl':=true) (s':=0) (r':=0) (tm':=false) U;have key:Lf P p E Dn zE zD PostB Fin [] (woken P g g' (w.setChan Dn 0 #[] true 0 0 false) a) (w.setChan Dn 0 #[] true 0 0 false):=by
     rw[cV];rcases hA with ⟨m,_,q'⟩|⟨_,ga,rfl,G'⟩
     ·rw[dP (again_running _ (.inl (q'.running (λ_ _=>KW.running) w (RA.refl p w))))];exact⟨m,Goes.rely RA.trans q' Q'⟩
     ·refine⟨0,λW P'=> ?_⟩;have e1:woken P g g' (w.setChan Dn 0 #[] true 0 0 false) (parked (core ga) (Kh E Dn zE zD) .select)={parked (core ga) (Kh E Dn zE zD) .select with status:= .running}:=by
       unfold woken;rw[if_pos (by simp[V',R']),again_some_closed (k:=1) (c:=Dn) (z:=zD) rfl k']
      rw[e1];exact(G' W (Q'.trans _ _ _ P')).tries
    refine⟨_,_,J.trans (runT_crowd_go X (by rw[t'];exact hgo)), .inr ⟨_,_,g',_,sl,q,k,rfl,C.J1 rfl (λop B=>by obtain⟨_,_,rfl⟩:=Conc.mem_ofEvents B;rfl), ?_,by rw[cB j'];exact H,k',Y' _ _ (iy U (.inr rfl)) x',key,p',R'⟩⟩;have W':Dn<(w.setChan Dn 0 #[] true 0 0 false).heap.size:=(ib.1 k').1;refine hT.JV Z _ _ λe he=> ?_;simp only[closeEvents,OJ,gn,Lr,or_false] at he;rcases he with rfl|rfl
    ·refine⟨λx G _=> ?_,bE,bE⟩;simp only[MemAct.ofEvent,MemAct.touch?,Option.some.injEq] at G;subst G;exact⟨⟨Dn,rfl,W',fY k'⟩,λs=>absurd rfl (Z' _ s),λ_=>rfl⟩
    ·exact⟨λx G _=>by simp[MemAct.ofEvent,MemAct.touch?] at G,bE,bE⟩
   |cons v f=>
    obtain⟨_,es,z',O,R,I⟩:Nh P p Shun E Dn v (λJ' N'=>LS P p Shun E Dn PostB After f (Conc.served J' undef) N') g w:=A w (RB.refl p E Dn w);have u:stepG P (i==0) g w= .comm (core g) #[scase E v z'] true .send w es:=by rw[t'];exact O
    have L':=hT.JV (Kept.refl p w) g.frame.fn g.frame.place R;rcases hA with ⟨m,rfl,hgo⟩|⟨rfl,ga,rfl,G'⟩
    ·
     have U':=hgo.running (λ_ _=>KW.running) w (RA.refl p w);have v':partners (gs.setIfInBounds i ph) E false=[]:=partners_nil λx y hy=>by
      rcases getElem?_stand gs i x y hy with ⟨_,rfl⟩|⟨G,o⟩
      ·exact offersAt_ph _ _
      ·by_cases l':x=0
       ·subst l';rw[C.h0] at o;obtain rfl:=gu o;exact offersAt_of_not_blocked (λhb=>by rw[U'] at hb;cases hb) _ _
       ·exact C.JB l' G o _ _
     have hw: ∀cc∈(#[scase E v z']:Array CommCase),NoWays w (gs.setIfInBounds i ph) cc:=by
      intro cc Q;have:cc=scase E v z':=by simpa using Q
      subst this;exact ways_send_none H (hX _) v'
     refine⟨_,_,J.trans (crowd_waits X u hw), .inl ⟨((v::f).length,(m+1)+0+sumTo i q), .right _ bl,_,a,_,w,sl,q,v::f,k,m+1,0,rfl,
      C.put bE (by rw[m0 h0];exact C.h0) (by simp[V]) (λx _ G=>m0 (ft G)) (λop B=> .inr (by obtain⟨_,_,rfl⟩:=Conc.mem_ofEvents B;rfl)),
      L',H,U, .inl ⟨m,rfl,hgo⟩, .inr ⟨rfl,v,f,g,z',rfl,rfl,I⟩,bl,rfl⟩⟩
    ·
     have K':offersAt (parked (core ga) (Kh E Dn zE zD) .select) E false=[0]:=offersAt_parked_at (k:=0) (z:=zE) rfl (λm cc hm Q=>by
      rcases m with _|_|m
      ·omega
      ·have:cc=rcase Dn zD:=by simpa [Kh] using Q.symm
       subst this;simp[rcase,ft j']
      ·simp[Kh] at Q)
     have e':partners (gs.setIfInBounds i ph) E false=[(0,0)]:=by
      have hj:(gs.setIfInBounds i ph)[0]? =some (parked (core ga) (Kh E Dn zE zD) .select):=by rw[m0 h0];exact C.h0
      have:=partners_one (gs:=gs.setIfInBounds i ph) (r:=E) (send:=false) hj (λx y l' hy=>by
       rcases getElem?_stand gs i x y hy with ⟨_,rfl⟩|⟨G,o⟩
       ·exact offersAt_ph _ _
       ·exact C.JB l' G o _ _)
      rw[this,K'];rfl
     have K:=crowd_send_meets_sel (sl:=sl) (k:=0) (c:=E) (j:=0) (zj:=zE) X u H bl C.h0 rfl e';have Z:=dB (p:=p) (cap':=0) (buf':= #[]) (cl':=false) (s':=k+1) (r':=k+1) (tm':=false) H;obtain⟨nA,u'⟩:=(cV P p E Dn zE zD PostB Fin f _ _).1 ((G' w (RA.refl p w)).cons _ (iw (cap':=0) (buf':= #[]) (cl':=false) (s':=k+1) (r':=k+1) (tm':=false) H));obtain⟨nB,D'⟩:=(fq P p Shun E Dn PostB After f _ _).1 (I _ (iy (cap':=0) (buf':= #[]) (cl':=false) (s':=k+1) (r':=k+1) (tm':=false) H (.inl rfl)))
     refine⟨_,_,J.trans K, .inl ⟨(f.length,(nA+1)+(nB+1)+sumTo i q), .left _ _ bE,_,_,_,_,sl,q,f,k+1,nA+1,nB+1,rfl,
      C.put bE (by rw[m0 h0];simp[hs];rfl) (by simp[V];rfl) (λx G F=>by rw[m0 (ft F),m0 (ft G)]) (λop B=> ?_),
      ?_,eY H,by rw[cB (ft j')];exact U, .inl ⟨nA,rfl,u'⟩, .inl ⟨nB,rfl,D'⟩,bl,rfl⟩⟩
     ·rcases xr.1 B with x|x
      ·obtain⟨_,_,rfl⟩:=Conc.mem_ofEvents x;exact .inr rfl
      ·simp only[OJ,gn,Lr,or_false] at x;rcases x with rfl|rfl|rfl|rfl
       ·exact .inr rfl
       ·exact .inl rfl
       ·exact .inr rfl
       ·exact .inl rfl
     ·rw[<-Array.append_assoc];exact la (L'.world Z)
  ·
   obtain⟨b',w',es,hgo,⟨hR,E',B',R⟩,A'⟩:=N w (RB.refl p E Dn w);have f':=E'.trans H;have m':=B'.trans U
   refine⟨_,_,J.trans (runT_crowd_go X (by rw[t'];exact hgo)), .inl ⟨(Y.length,ra+(n'+1)+sumTo i q), .right _ bl,_,a,b',w',sl,q,Y,k,ra,n'+1,rfl,
    C.J1 (dP (hA.again f' m')) (λop B=>by obtain⟨_,_,rfl⟩:=Conc.mem_ofEvents B;rfl),hT.JV hR.kept _ _ R,f',m',hA.rely hR, .inl ⟨n',rfl,A'⟩,bl,rfl⟩⟩
 ·
  obtain⟨g',es,kk,hq,K,hm,C'⟩:=C.JW X h0 h1 hg sl w;rw[dP (hA.again H U),dP (hB.again H)] at C';have hsum:=fO (c:=c) bl hq;refine⟨_,_,J.trans K, .inl ⟨(Y.length,ra+rb+sumTo c (upd q i kk)), .right _ bl,_,a,b,w,sl,upd q i kk,Y,k,ra,rb,rfl,C',hT.mute h0 h1 _ _ hm,H,U,hA,hB,O',rfl⟩⟩
theorem uO (m:E≠Dn)(hc0:c≠0)(r:Dn<p.N0)(hSh:Mf p Shun)(o: ∀l,Shun l->l≠ .obj Dn) (n: ∀w a,RB p E Dn w a->PostB w->PostB a):
 ∀(d:Nat×Nat)(M:Machine)(T:Trace),Inv1 P p Shun E Dn zE zD PostB After Fin c d M T->
  ∃N b T',runNT P N M T=(.next b,T')/\Shut1 P p Shun E Dn zE zD PostB After Fin c b T':=by
 intro d
 induction d using H8.induction with
 |_ d ih=>
  intro M T h;obtain⟨b,ops,s,k⟩:=uN m hc0 r hSh o n h;rcases k with ⟨f,e,u⟩|i
  ·obtain⟨N,j,g,k,i⟩:=ih f e b _ u;exact⟨N+1,j,g,by simp only[runNT,s];exact k,i⟩
  ·exact⟨1,b,T++ops,by simp only[runNT,s],i⟩
end
open Go.ConcX
open Go.ConcN (sumTo upd sumTo_upd upd_ne upd_same)
section
variable [Payload](P:Program)(ty:TypeId)(Wg C Low:Nat) [Shy Wg C](vals:List Value)(Mine:Loc->Prop)(p:KC)(Sh:Loc->Prop)(c:Nat)(wf:World)
structure Fix:Prop where
 hW:Wg<Low
 hC:C<Low
 hCW:C≠Wg
 hLow:Low<=p.N0
 hc0:c≠0
 hSh:Mf p Sh
 hSW: ∀l,Od Wg l->Sh l
 hCS: ∀i,¬p.Still (.cell ⟨C,i,none⟩)
 ok0: ∀e,EvQ Mine Wg C 0 e->Ev0 Sh e
def Lh (rel:Bool)(w:World)(T:Trace)(d0 d1:Nat):Prop:=
 match rel with
 |false=>La p Sh c w T d0/\d1=0
 |true=> ∃r,Rel p Sh Wg c w T d0 d1 r
end
section
variable [Payload]{P:Program}{ty:TypeId}{Wg C Low:Nat} [Shy Wg C]{vals:List Value}{Mine:Loc->Prop}{p:KC}{Sh:Loc->Prop}{c:Nat}{w w':World}{T:Trace}{rel:Bool}{d0 d1:Nat}
omit [Payload] in
theorem Lh.world (h:Lh Wg p Sh c rel w T d0 d1)(k:Kept p w w'):Lh Wg p Sh c rel w' T d0 d1:=by
 cases rel with
 |false=>exact⟨h.1.world k,h.2⟩
 |true=>obtain⟨r,h⟩:=h;exact⟨r,h.world k⟩
omit [Payload] in
theorem Lh.JG (h:Lh Wg p Sh c rel w T d0 d1)(hc0:c≠0)(k:Kept p w w')(hSh:Mf p Sh)(fn:FuncId)(pos:String){es:Array Event}(a: ∀e∈es,EvA p w' e):
 Lh Wg p Sh c rel w' (T++MemOp.ofEvents 0 fn pos es) d0 d1:=by
 cases rel with
 |false=>exact⟨h.1.JG k hSh fn pos a,h.2⟩
 |true=>obtain⟨r,h⟩:=h;exact⟨r,h.JG hc0 k hSh fn pos a⟩
omit [Payload] in
theorem Lh.add0 (h:Lh Wg p Sh c rel w T d0 d1)(hc0:c≠0)(hSh:Mf p Sh)(fn:FuncId)(pos:String){es:Array Event}(a: ∀e∈es,Ev0 Sh e):
 Lh Wg p Sh c rel w (T++MemOp.ofEvents 0 fn pos es) (deafBehind d0 es) d1:=by
 cases rel with
 |false=>exact⟨h.1.add0 hc0 hSh fn pos a,h.2⟩
 |true=>obtain⟨r,h⟩:=h;exact⟨r,h.add0 hc0 hSh fn pos a⟩
omit [Payload] in
theorem Lh.mute (h:Lh Wg p Sh c rel w T d0 d1){g:Nat}(h0:g≠0)(hc:g≠c)(fn:FuncId)(pos:String){es:Array Event}(hm: ∀e∈es,e.mute=true):
 Lh Wg p Sh c rel w (T++MemOp.ofEvents g fn pos es) d0 d1:=by
 cases rel with
 |false=>exact⟨h.1.mute h0 hc fn pos hm,h.2⟩
 |true=>obtain⟨r,h⟩:=h;exact⟨r,h.mute h0 fn pos hm ((Deaf_other T hc _ aL).trans h.hearc)⟩
omit [Payload] in
theorem Lh.still (h:Lh Wg p Sh c rel w T d0 d1){u:Trace}(hu: ∀op∈u,op.act.touch? =none) (a: ∀op∈u,op.act≠ .mark (.release (My Wg))) (hd: ∀g,Deaf (T++u) g=Deaf T g):Lh Wg p Sh c rel w (T++u) d0 d1:=by
 cases rel with
 |false=>exact⟨h.1.still hu hd,h.2⟩
 |true=>obtain⟨r,h⟩:=h;exact⟨r,h.still hu a ((hd 0).trans h.hear0) ((hd c).trans h.hearc)⟩
omit [Payload] in
theorem Lh.idle0 (F:Fix Wg C Low Mine p Sh c)(h:Lh Wg p Sh c rel w T d0 d1)(fn:FuncId)(pos:String){v b:World}{es:Array Event}(a:DPi Mine Wg C Low v b es):Lh Wg p Sh c rel w (T++MemOp.ofEvents 0 fn pos es) d0 d1:=by
 have:=h.add0 F.hc0 F.hSh fn pos (λe he=>F.ok0 e (a.2 e he))
 rwa [deafBehind_still (λe he=>⟨(a.2 e he).2.1,(a.2 e he).2.2.1⟩)] at this
omit [Payload] [Shy Wg C] in
theorem uP (hSW: ∀l,Od Wg l->Sh l) {es:Array Event} (h: ∀e∈es,Bk Wg e): ∀e∈es,Ev0 Sh e:=by
 intro e he;rcases h e he with b|b|⟨a,wr,rfl,g⟩
 ·refine⟨λx d=> ?_,λa=>by rw[b];simp⟩;obtain⟨loc,i,f⟩:=e;simp only at b;subst b;simp[MemAct.ofEvent,MemAct.touch?] at d
 ·refine⟨λx d=> ?_,λa=>by rw[b];simp⟩;obtain⟨loc,i,f⟩:=e;simp only at b;subst b;simp[MemAct.ofEvent,MemAct.touch?] at d
 ·refine⟨λx d=> ?_,λa=>bE⟩;simp only[MemAct.ofEvent,MemAct.touch?,Option.some.injEq] at d;subst d;exact⟨hSW _ ⟨a,rfl,g⟩,bE⟩
omit [Payload] in
theorem Lh.bk0 (F:Fix Wg C Low Mine p Sh c)(h:Lh Wg p Sh c rel w T d0 d1)(fn:FuncId)(pos:String){es:Array Event}(hb: ∀e∈es,Bk Wg e):Lh Wg p Sh c rel w (T++MemOp.ofEvents 0 fn pos es) (deafBehind d0 es) d1:=
 h.add0 F.hc0 F.hSh fn pos (uP F.hSW hb)
inductive CAOut (P:Program)(ty:TypeId)(Wg C Low:Nat) [Shy Wg C](vals:List Value)(Mine:Loc->Prop)(p:KC)(Sh:Loc->Prop)(c:Nat)(wf:World)(st:Int)(d0 rc mc:Nat)(b':Goroutine)(w':World)(T':Trace):Prop
 |stay (rc' d1':Nat) (rel':Bool) (vs':List Value) (cl':Bool) (mc':Nat):Lt2 (rc',mc') (rc,mc)->WgAt ty Wg w' st 0->(rel'=true->Full C vals w')->Lh Wg p Sh c rel' wf T' d0 d1'->CA P ty Wg C Low vals Mine rc' d1' rel' vs' cl' mc' b' w'->
  CAOut P ty Wg C Low vals Mine p Sh c wf st d0 rc mc b' w' T'
 |lone (q:Nat):st=KK->WgAt ty Wg w' 0 0->Full C vals w'->Lh Wg p Sh c true wf T' d0 1->QuitsD P q 1 b'->CAOut P ty Wg C Low vals Mine p Sh c wf st d0 rc mc b' w' T'
 |met (m':Nat):st=KK+1->WgAt ty Wg w' 1 0->Full C vals w'->Lh Wg p Sh c true wf T' d0 1->CD P Wg Low 4 1 m' b' w'->CAOut P ty Wg C Low vals Mine p Sh c wf st d0 rc mc b' w' T'
omit [Payload] in
theorem gN {r:Nat}(h:Rel p Sh Wg c w T d0 d1 r)(F:Fix Wg C Low Mine p Sh c)(hN:p.N0<=w.heap.size)(fn:FuncId)(pos:String){es:Array Event}(hb: ∀e∈es,Bk Wg e) (hd: ∀j,0<deafBehind d1 (es.extract 0 j)\/ ∀e,es[j]? =some e->e.loc= .mark .disable):
 Rel p Sh Wg c w (T++MemOp.ofEvents c fn pos es) d0 (deafBehind d1 es) r:=by
 refine h.own F.hc0 (OX F.hW F.hLow) hN F.hSh F.hSW fn pos λj e he=> ?_;have d:e∈es:=Array.mem_of_getElem? he;have b: ∀m,e.loc= .mark m->(m= .disable\/m= .enable)->((MemAct.ofEvent e).touch? =none/\ ∀a,e.loc≠ .mark (.release a)):=by
  intro m hm f;obtain⟨loc,n,l⟩:=e;simp only at hm;subst hm;refine⟨?_,λa=> ?_⟩
  ·rcases f with rfl|rfl<;>rfl
  ·rcases f with rfl|rfl<;>simp
 rcases hb e d with i|i|⟨a,wr,rfl,k⟩
 ·exact .inl (b _ i (.inl rfl))
 ·exact .inl (b _ i (.inr rfl))
 ·rcases hd j with g|g
  ·exact .inr ⟨⟨a,wr,rfl,k⟩,g⟩
  ·exact absurd (g _ he) bE
theorem Full.of_block {w w':World}(h:Full C vals w)(e:w'.heap[C]? =w.heap[C]?):Full C vals w':=ChanAt.of_block h e
theorem oD (F:Fix Wg C Low Mine p Sh c){wf:World}(hN:p.N0<=wf.heap.size)(A: ∀e,EvQ Mine Wg C 1 e->EvB p Sh wf e) {st:Int} (z:st=KK\/st=KK+1) {rc B:Nat} {vs:List Value} {cl:Bool} {b:Goroutine} {w:World}
 (n:Lh Wg p Sh c rel wf T d0 d1) (hF:rel=true->Full C vals w) (k:WgAt ty Wg w st 0) (hc:CA P ty Wg C Low vals Mine rc d1 rel vs cl B b w) (fn:FuncId) (pos:String):
 ∃b' w' es,stepG P false b w= .go b' w' es/\Aside2 C Wg w w'/\CAOut P ty Wg C Low vals Mine p Sh c wf st d0 rc B b' w' (T++MemOp.ofEvents c fn pos es):=by
 cases hc with
 | @r0 m _ _ h=>
  rcases Goes.cases h with a|⟨l,rfl,d⟩
  ·obtain⟨_,i,b',hgo,l,f⟩:=a w (RCa.refl w);refine⟨b',w,_,hgo, .refl w, .stay 6 0 true [] true l (.left _ _ bl) k (λ_=>i) ⟨T.size, ?_⟩ (.k1 f)⟩;have E:MemOp.ofEvents c fn pos #[mk (.releaseMerge (stA Wg))]= #[{g:=c,fn:=fn,pos:=pos,act:= .mark (.releaseMerge (My Wg))}]:=by simp[MemOp.ofEvents,mk,MemAct.ofEvent,stA,My]
   rw[E];exact n.1.release F.hc0 fn pos
  ·obtain⟨b',w',es,hgo,y,f⟩:=d w (RCa.refl w);refine⟨b',w',es,hgo, .of_C y.1, .stay 7 0 false [] false l (.right _ bl) (k.of_block (y.1.block Wg (ft F.hCW))) (λe=>by cases e) ⟨?_,rfl⟩ (.r0 f)⟩;exact n.1.JV (Kept.refl p wf) fn pos λe he=>A e (y.2 e he)
 | @k1 m _ _ h=>
  obtain⟨r,n⟩:=n;rcases Goes.cases h with a|⟨l,rfl,d⟩
  ·obtain⟨_,b',hgo,l,f⟩:=a w (RCa.refl w);refine⟨b',w,_,hgo, .refl w, .stay 5 1 true [] true l (.left _ _ bl) k hF ⟨r, ?_⟩ (.d1 f)⟩;exact gN n F hN fn pos (es:= #[mk .disable]) (bk1 (mk .disable) (.inl rfl)) λj=>by
    rcases j with _|j
    ·exact .inr λe he=>by simp at he;subst he;rfl
    ·exact .inr λe he=>by simp at he
  ·obtain⟨b',w',es,hgo,⟨rfl,rfl⟩,f⟩:=d w (RCa.refl w);exact⟨b',w',_,hgo, .refl w', .stay 6 0 true [] true l (.right _ bl) k hF ⟨r,by simpa [MemOp.ofEvents] using n⟩ (.k1 f)⟩
 | @d1 m _ _ h=>
  obtain⟨r,n⟩:=n;have i:=hF rfl;rcases Goes.cases h with a|⟨l,rfl,d⟩
  ·obtain⟨_,s,u⟩:=a w (RCa.refl w);have x: ∀v,Aside Wg w (w.setCell (stA Wg) v):=λv=>aside_setCell w (stA Wg) v
   have o:Rel p Sh Wg c wf (T++MemOp.ofEvents c fn pos #[rd (stA Wg),wr (stA Wg)]) d0 1 r:=
    gN n F hN fn pos (bk2 _ _ (bk_cell _ _ rfl) (bk_cell _ _ rfl)) λj=>by
     rcases j with _|_|j<;>exact .inl (by simp[deafBehind,rd,wr])
   rcases z with rfl|rfl
   ·obtain⟨b',hgo,q,D⟩:=s k;exact⟨b',_,_,hgo, .of_Wg (x _), .lone q rfl (k.setSt _) (i.of_block ((x _).block C F.hCW)) ⟨r,o⟩ D⟩
   ·obtain⟨b',hgo,l,f⟩:=u k;exact⟨b',_,_,hgo, .of_Wg (x _), .met l rfl (k.setSt _) (i.of_block ((x _).block C F.hCW)) ⟨r,o⟩ (.d2 f)⟩
  ·obtain⟨b',w',es,hgo,⟨rfl,rfl⟩,f⟩:=d w (RCa.refl w);exact⟨b',w',_,hgo, .refl w', .stay 5 1 true [] true l (.right _ bl) k hF ⟨r,by simpa [MemOp.ofEvents] using n⟩ (.d1 f)⟩
inductive CDOut (P:Program)(ty:TypeId)(Wg Low:Nat)(p:KC)(Sh:Loc->Prop)(c:Nat)(wf:World)(d0 rc mc:Nat)(b b':Goroutine)(w':World)(T':Trace):Prop
 |stay (rc':Nat) (st':Int) (mc':Nat):Lt2 (rc',mc') (rc,mc)->WgAt ty Wg w' st' 0->Lh Wg p Sh c true wf T' d0 1->CD P Wg Low rc' st' mc' b' w'->CDOut P ty Wg Low p Sh c wf d0 rc mc b b' w' T'
 |freed (q:Nat):mayWake P b=true->WgAt ty Wg w' 0 1->Lh Wg p Sh c true wf T' d0 1->QuitsD P q 1 b'->CDOut P ty Wg Low p Sh c wf d0 rc mc b b' w' T'
theorem AL (F:Fix Wg C Low Mine p Sh c){wf:World}(hN:p.N0<=wf.heap.size){st:Int}{rc s:Nat}{b:Goroutine}{w:World}
 (l:Lh Wg p Sh c true wf T d0 1) (i:WgAt ty Wg w st 0) (hc:CD P Wg Low rc st s b w) (fn:FuncId) (pos:String):
 ∃b' w' es,stepG P false b w= .go b' w' es/\Aside Wg w w'/\CDOut P ty Wg Low p Sh c wf d0 rc s b b' w' (T++MemOp.ofEvents c fn pos es):=by
 obtain⟨r,l⟩:=l;have o: ∀a v,a.block=Wg->Aside Wg w (w.setCell a v):=λa v x=>by
  have:=aside_setCell w a v
  rwa [x] at this
 have one: ∀e:Event,Bk Wg e->(∃a wr,e=⟨.cell a,wr,true⟩)->Rel p Sh Wg c wf (T++MemOp.ofEvents c fn pos #[e]) d0 1 r:=by
  intro e he hw;obtain⟨a,wr,rfl⟩:=hw;exact gN l F hN fn pos (bk1 _ he) λj=>by rcases j with _|j<;>exact .inl (by simp[deafBehind])
 cases hc with
 | @d2 m _ _ h=>
  rcases Goes.cases h with d|⟨k,rfl,f⟩
  ·obtain⟨_,b',hgo,k,g⟩:=d w (RCd.refl w);exact⟨b',w,_,hgo,Aside.refl Wg w, .stay 3 1 k (.left _ _ bl) i ⟨r,one _ (bk_cell _ _ rfl) ⟨_,_,rfl⟩⟩ (.d3 g)⟩
  ·obtain⟨b',w',es,hgo,⟨rfl,rfl⟩,g⟩:=f w (RCd.refl w);exact⟨b',w',_,hgo,Aside.refl Wg w', .stay 4 1 k (.right _ bl) i ⟨r,by simpa [MemOp.ofEvents] using l⟩ (.d2 g)⟩
 | @d3 m _ _ h=>
  rcases Goes.cases h with d|⟨k,rfl,f⟩
  ·obtain⟨_,b',hgo,k,g⟩:=d w (RCd.refl w);exact⟨b',_,_,hgo,o _ _ rfl, .stay 2 0 k (.left _ _ bl) (i.setSt _) ⟨r,one _ (bk_cell _ _ rfl) ⟨_,_,rfl⟩⟩ (.d4 g)⟩
  ·obtain⟨b',w',es,hgo,⟨rfl,rfl⟩,g⟩:=f w (RCd.refl w);exact⟨b',w',_,hgo,Aside.refl Wg w', .stay 3 1 k (.right _ bl) i ⟨r,by simpa [MemOp.ofEvents] using l⟩ (.d3 g)⟩
 | @d4 m _ _ h=>
  rcases Goes.cases h with d|⟨k,rfl,f⟩
  ·obtain⟨_,n,b',hgo,q,u⟩:=d w (RCd.refl w);refine⟨b',_,_,hgo,o _ _ rfl, .freed q n (i.setSm _) ⟨r, ?_⟩ u⟩;have:=gN l F hN fn pos (es:=semEvents (smA Wg)) bk_sem λj=>by
    rcases j with _|_|_|_|j<;>exact .inl (by simp[deafBehind,semEvents])
   simpa [deafBehind,semEvents] using this
  ·obtain⟨b',w',es,hgo,⟨rfl,rfl⟩,g⟩:=f w (RCd.refl w);exact⟨b',w',_,hgo,Aside.refl Wg w', .stay 2 0 k (.right _ bl) i ⟨r,by simpa [MemOp.ofEvents] using l⟩ (.d4 g)⟩
variable {AnchW:Goroutine->World->Prop}{Post:Value->World->Prop}
inductive PAOutA (P:Program)(ty:TypeId)(Wg C Low:Nat) [Shy Wg C](vals:List Value)(Mine:Loc->Prop)(AnchW:Goroutine->World->Prop)(Post:Value->World->Prop)(p:KC)(Sh:Loc->Prop)(c:Nat)(wf:World)(rel:Bool)(d1 rp mp:Nat)(a':Goroutine)(w':World)(T':Trace):Prop
 |stay (rp' d0' mp':Nat):Lt2 (rp',mp') (rp,mp)->WgAt ty Wg w' KK 0->Lh Wg p Sh c rel wf T' d0' d1->PA P ty Wg C Low vals Mine AnchW Post rp' d0' mp' a' w'->PAOutA P ty Wg C Low vals Mine AnchW Post p Sh c wf rel d1 rp mp a' w' T'
 |reg (mp':Nat):WgAt ty Wg w' (KK+1) 0->Lh Wg p Sh c rel wf T' 1 d1->PB P ty Wg C Low vals Mine Post 1 mp' a' w'->PAOutA P ty Wg C Low vals Mine AnchW Post p Sh c wf rel d1 rp mp a' w' T'
theorem PAOutA.mono {wf:World}{f mp e d:Nat}{g:Goroutine}{w':World}{T':Trace}(h:PAOutA P ty Wg C Low vals Mine AnchW Post p Sh c wf rel d1 f mp g w' T')(hl:Lt2 (f,mp) (e,d)):
 PAOutA P ty Wg C Low vals Mine AnchW Post p Sh c wf rel d1 e d g w' T':=by
 cases h with
 |stay a b c h1 h2 h3 h4=>exact .stay a b c (lt2_trans h1 hl) h2 h3 h4
 |reg a h1 h2 h3=>exact .reg a h1 h2 h3
theorem wT (F:Fix Wg C Low Mine p Sh c){wf:World}(r: ∀g w,AnchW g w-> ∃m,Goes P true (RPa ty Wg C vals) (DPi Mine Wg C Low) (AtW1 P ty Wg C Low vals Mine AnchW Post) m g w)
 {u mp:Nat} {a:Goroutine} {w:World} (n:Lh Wg p Sh c rel wf T d0 d1) (i:WgAt ty Wg w KK 0) (hp:PA P ty Wg C Low vals Mine AnchW Post u d0 mp a w) (fn:FuncId) (pos:String):
 ∃k w' es,stepG P true a w= .go k w' es/\RCa ty Wg Low w w'/\(∀b,b<Low->b≠Wg->w'.heap[b]? =w.heap[b]?)/\PAOutA P ty Wg C Low vals Mine AnchW Post p Sh c wf rel d1 u mp k w' (T++MemOp.ofEvents 0 fn pos es):=by
 have w1: ∀m,d0=1->Goes P true (RPa ty Wg C vals) (DPi Mine Wg C Low) (AtW1 P ty Wg C Low vals Mine AnchW Post) m a w->
  ∃k w' es,stepG P true a w= .go k w' es/\RCa ty Wg Low w w'/\(∀b,b<Low->b≠Wg->w'.heap[b]? =w.heap[b]?)/\PAOutA P ty Wg C Low vals Mine AnchW Post p Sh c wf rel d1 2 m k w' (T++MemOp.ofEvents 0 fn pos es):=by
  intro m E h;subst E;rcases Goes.cases h with d|⟨l,rfl,e⟩
  ·obtain⟨_,k,hgo,D,_⟩:=d w (RPa.refl w);obtain⟨l,f⟩:=D i;exact⟨_,_,_,hgo, .refl w,λ_ _ _=>rfl, .stay 1 1 l (.left _ _ bl) i (n.bk0 F fn pos (bk1 _ (bk_cell _ _ rfl))) (.w2 f)⟩
  ·obtain⟨k,w',es,hgo,j,f⟩:=e w (RPa.refl w);exact⟨_,_,_,hgo,RCd.toA F.hW j.1,λb hb _=>j.1 b hb, .stay 2 1 l (.right _ bl) (i.of_block (j.1 Wg F.hW)) (n.idle0 F fn pos j) (.w1 f)⟩
 cases hp with
 | @kd m _ _ h=>
  rcases Goes.cases h with d|⟨l,rfl,e⟩
  ·obtain⟨_,k,hgo,l,f⟩:=d w (RPa.refl w);exact⟨_,_,_,hgo, .refl w,λ_ _ _=>rfl, .stay 3 1 l (.left _ _ bl) i (n.bk0 F fn pos (es:= #[mk .disable]) (bk1 (mk .disable) (.inl rfl))) (.anch f)⟩
  ·obtain⟨k,w',es,hgo,j,f⟩:=e w (RPa.refl w);exact⟨_,_,_,hgo,RCd.toA F.hW j.1,λb hb _=>j.1 b hb, .stay 4 0 l (.right _ bl) (i.of_block (j.1 Wg F.hW)) (n.idle0 F fn pos j) (.kd f)⟩
 | @anch m _ _ h=>
  rcases Goes.cases h with d|⟨l,rfl,e⟩
  ·obtain⟨z,H⟩:=r a w (d w (RPa.refl w));obtain⟨k,w',es,I,G,A,y⟩:=w1 z rfl H;exact⟨k,w',es,I,G,A,y.mono (.left _ _ bl)⟩
  ·obtain⟨k,w',es,hgo,j,f⟩:=e w (RPa.refl w);exact⟨_,_,_,hgo,RCd.toA F.hW j.1,λb hb _=>j.1 b hb, .stay 3 1 l (.right _ bl) (i.of_block (j.1 Wg F.hW)) (n.idle0 F fn pos j) (.anch f)⟩
 | @w1 _ _ _ h=>exact w1 mp rfl h
 | @w2 m _ _ h=>
  rcases Goes.cases h with d|⟨l,rfl,e⟩
  ·obtain⟨_,o,_⟩:=d w (RPa.refl w);obtain⟨k,hgo,l,f⟩:=o i;have s:=aside_setCell w (stA Wg) (.int .u64 (KK+1));exact⟨_,_,_,hgo,⟨λx _ B=>s.block x B,λ_=> .inr (i.setSt _)⟩,λb _ hb=>s.block b hb, .reg l (i.setSt _) (n.bk0 F fn pos (bk2 _ _ (bk_cell _ _ rfl) (bk_cell _ _ rfl))) (.w3 f)⟩
  ·obtain⟨k,w',es,hgo,j,f⟩:=e w (RPa.refl w);exact⟨_,_,_,hgo,RCd.toA F.hW j.1,λb hb _=>j.1 b hb, .stay 1 1 l (.right _ bl) (i.of_block (j.1 Wg F.hW)) (n.idle0 F fn pos j) (.w2 f)⟩
inductive PAOutC (P:Program)(ty:TypeId)(Wg C Low:Nat) [Shy Wg C](vals:List Value)(Mine:Loc->Prop)(AnchW:Goroutine->World->Prop)(Post:Value->World->Prop)(p:KC)(Sh:Loc->Prop)(c:Nat)(wf:World)(d1 rp mp:Nat)(a':Goroutine)(w':World)(T':Trace):Prop
 |stay (rp' d0' mp':Nat):Lt2 (rhoC rp',mp') (rhoC rp,mp)->WgAt ty Wg w' 0 0->Full C vals w'->Lh Wg p Sh c true wf T' d0' d1->PA P ty Wg C Low vals Mine AnchW Post rp' d0' mp' a' w'->PAOutC P ty Wg C Low vals Mine AnchW Post p Sh c wf d1 rp mp a' w' T'
 |joined (mp':Nat):WgAt ty Wg w' 0 0->Full C vals w'->Lh Wg p Sh c true wf T' 1 d1->PJ P Wg C Low vals Mine Post (vals.length+4) 1 false vals mp' a' w'->PAOutC P ty Wg C Low vals Mine AnchW Post p Sh c wf d1 rp mp a' w' T'
theorem wU (F:Fix Wg C Low Mine p Sh c){wf:World}(u: ∀g w,AnchW g w-> ∃m,Goes P true (RPa ty Wg C vals) (DPi Mine Wg C Low) (AtW1 P ty Wg C Low vals Mine AnchW Post) m g w)
 {y mp:Nat} {a:Goroutine} {w:World} (s:Lh Wg p Sh c true wf T d0 d1) (i:WgAt ty Wg w 0 0) (hf:Full C vals w) (hp:PA P ty Wg C Low vals Mine AnchW Post y d0 mp a w) (fn:FuncId) (pos:String):
 ∃o w' es,stepG P true a w= .go o w' es/\PAOutC P ty Wg C Low vals Mine AnchW Post p Sh c wf d1 y mp o w' (T++MemOp.ofEvents 0 fn pos es):=by
 have kc:KPc ty Wg C vals w:=⟨i,hf⟩
 have w1: ∀m n l,d0=1->Lt2 (2,m) (rhoC n,l)\/(2,m)=(rhoC n,l)->Goes P true (RPa ty Wg C vals) (DPi Mine Wg C Low) (AtW1 P ty Wg C Low vals Mine AnchW Post) m a w->
  ∃o w' es,stepG P true a w= .go o w' es/\PAOutC P ty Wg C Low vals Mine AnchW Post p Sh c wf d1 n l o w' (T++MemOp.ofEvents 0 fn pos es):=by
  intro m n l B E h;subst B;rcases Goes.cases h with b|⟨k,rfl,d⟩
  ·obtain⟨_,o,hgo,_,A⟩:=b w (RPa.refl w);obtain⟨k,f⟩:=A kc;exact⟨_,_,_,hgo, .joined k i hf (s.bk0 F fn pos (bk1 _ (bk_cell _ _ rfl))) (.ke f)⟩
  ·obtain⟨o,w',es,hgo,j,f⟩:=d w (RPa.refl w);have x:Lt2 (rhoC 2,k) (2,k+1):= .right _ bl;exact⟨_,_,_,hgo, .stay 2 1 k (E.elim (lt2_trans x) (λe=>e▸x)) (i.of_block (j.1 Wg F.hW)) (hf.of_block (j.1 C F.hC)) (s.idle0 F fn pos j) (.w1 f)⟩
 cases hp with
 | @kd m _ _ h=>
  rcases Goes.cases h with b|⟨k,rfl,d⟩
  ·obtain⟨_,o,hgo,k,f⟩:=b w (RPa.refl w);exact⟨_,_,_,hgo, .stay 3 1 k (.left _ _ bx) i hf (s.bk0 F fn pos (es:= #[mk .disable]) (bk1 (mk .disable) (.inl rfl))) (.anch f)⟩
  ·obtain⟨o,w',es,hgo,j,f⟩:=d w (RPa.refl w);exact⟨_,_,_,hgo, .stay 4 0 k (.right _ bl) (i.of_block (j.1 Wg F.hW)) (hf.of_block (j.1 C F.hC)) (s.idle0 F fn pos j) (.kd f)⟩
 | @anch m _ _ h=>
  rcases Goes.cases h with b|⟨k,rfl,d⟩
  ·obtain⟨z,D⟩:=u a w (b w (RPa.refl w));exact w1 z 3 mp rfl (.inl (.left _ _ bx)) D
  ·obtain⟨o,w',es,hgo,j,f⟩:=d w (RPa.refl w);exact⟨_,_,_,hgo, .stay 3 1 k (.right _ bl) (i.of_block (j.1 Wg F.hW)) (hf.of_block (j.1 C F.hC)) (s.idle0 F fn pos j) (.anch f)⟩
 | @w1 _ _ _ h=>exact w1 mp 2 mp rfl (.inr rfl) h
 | @w2 m _ _ h=>
  rcases Goes.cases h with b|⟨k,rfl,d⟩
  ·obtain⟨_,_,r⟩:=b w (RPa.refl w);obtain⟨o,hgo,k,f⟩:=r kc;exact⟨_,_,_,hgo, .stay 3 1 k (.left _ _ bx) i hf (s.bk0 F fn pos (bk1 _ (bk_cell _ _ rfl))) (.anch f)⟩
  ·obtain⟨o,w',es,hgo,j,f⟩:=d w (RPa.refl w);exact⟨_,_,_,hgo, .stay 1 1 k (.right _ bl) (i.of_block (j.1 Wg F.hW)) (hf.of_block (j.1 C F.hC)) (s.idle0 F fn pos j) (.w2 f)⟩
theorem pR (F:Fix Wg C Low Mine p Sh c){wf:World}{mp:Nat}{a:Goroutine}{w:World}{st:Int}(n:Lh Wg p Sh c rel wf T 1 d1)(j:WgAt ty Wg w st 0)(hp:PB P ty Wg C Low vals Mine Post 1 mp a w)(fn:FuncId)(pos:String):
 ∃k w' es,stepG P true a w= .go k w' es/\RCd Low w w'/\ ∃g f,Lt2 (g,f) (1,mp)/\Lh Wg p Sh c rel wf (T++MemOp.ofEvents 0 fn pos es) 1 d1/\PB P ty Wg C Low vals Mine Post g f k w':=by
 cases hp with
 | @w3 m _ _ h=>
  rcases Goes.cases h with b|⟨o,rfl,d⟩
  ·obtain⟨_,_,e,_⟩:=b w (RPb.refl w);exact⟨_,_,_,e ⟨st,j⟩,RCd.refl w,0,0, .left _ _ bl,by simpa [MemOp.ofEvents] using n, .blk b⟩
  ·obtain⟨k,w',es,hgo,l,i⟩:=d w (RPb.refl w);exact⟨_,_,_,hgo,l.1,1,o, .right _ bl,n.idle0 F fn pos l, .w3 i⟩
theorem wV (F:Fix Wg C Low Mine p Sh c){wf:World}{mp:Nat}{a:Goroutine}{w:World}(n:Lh Wg p Sh c true wf T 1 d1)(i:WgAt ty Wg w 0 1)(hf:Full C vals w)(hp:PB P ty Wg C Low vals Mine Post 1 mp a w)(fn:FuncId)(pos:String):
 ∃j w' es,stepG P true a w= .go j w' es/\Full C vals w'/\((∃b,b<mp/\WgAt ty Wg w' 0 1/\Lh Wg p Sh c true wf (T++MemOp.ofEvents 0 fn pos es) 1 d1/\PB P ty Wg C Low vals Mine Post 1 b j w')\/
  (∃b,WgAt ty Wg w' 0 0/\Lh Wg p Sh c true wf (T++MemOp.ofEvents 0 fn pos es) 1 d1/\PJ P Wg C Low vals Mine Post (vals.length+5) 1 false vals b j w')):=by
 cases hp with
 | @w3 m _ _ h=>
  rcases Goes.cases h with e|⟨k,rfl,g⟩
  ·obtain⟨_,_,_,d⟩:=e w (RPb.refl w);obtain⟨j,hgo,k,f⟩:=d ⟨i,hf⟩;have o:=aside_setCell w (smA Wg) (.int .u32 0);refine⟨_,_,_,hgo,hf.of_block (o.block C F.hCW), .inr ⟨k,i.setSm _, ?_, .w4 f⟩⟩;have:=n.bk0 F fn pos (es:=semEvents (smA Wg)) bk_sem;simpa [deafBehind,semEvents] using this
  ·obtain⟨j,w',es,hgo,l,f⟩:=g w (RPb.refl w);exact⟨_,_,_,hgo,hf.of_block (l.1 C F.hC), .inl ⟨k,bl,i.of_block (l.1 Wg F.hW),n.idle0 F fn pos l, .w3 f⟩⟩
theorem AM (F:Fix Wg C Low Mine p Sh c){wf:World}{u mp:Nat}{vs:List Value}{a:Goroutine}{w:World}(i:Lh Wg p Sh c true wf T d0 d1)(hp:PJ P Wg C Low vals Mine Post u d0 false vs mp a w)(fn:FuncId)(pos:String):
 ∃j w' es,stepG P true a w= .go j w' es/\((∃o l n,Lt2 (o,n) (u,mp)/\Lh Wg p Sh c true wf (T++MemOp.ofEvents 0 fn pos es) l d1/\PJ P Wg C Low vals Mine Post o l false vs n j w')\/
  (∃m,KN Sh (T++MemOp.ofEvents 0 fn pos es)/\Deaf (T++MemOp.ofEvents 0 fn pos es) c=d1/\Goes P true AtRel (DPj Mine Wg C Low) (AtRetJ P Wg C Mine Post) m j w')):=by
 cases hp with
 | @w4 m _ _ h=>
  rcases Goes.cases h with b|⟨f,rfl,e⟩
  ·obtain⟨_,j,hgo,f,d⟩:=b w (AtRel.refl w);exact⟨_,_,_,hgo, .inl ⟨_,1,f, .left _ _ (OY _),i.bk0 F fn pos (bk1 _ (bk_cell _ _ rfl)), .ke d⟩⟩
  ·obtain⟨j,w',es,hgo,k,d⟩:=e w (AtRel.refl w);exact⟨_,_,_,hgo, .inl ⟨_,1,f, .right _ (OY _),i.idle0 F fn pos k, .w4 d⟩⟩
 | @ke m _ _ h=>
  rcases Goes.cases h with b|⟨f,rfl,e⟩
  ·obtain⟨_,j,hgo,f,d⟩:=b w (AtRel.refl w);exact⟨_,_,_,hgo, .inl ⟨_,0,f, .left _ _ (OY _),i.bk0 F fn pos (es:= #[mk .enable]) (bk1 (mk .enable) (.inr (.inl rfl))), .acq d⟩⟩
  ·obtain⟨j,w',es,hgo,k,d⟩:=e w (AtRel.refl w);exact⟨_,_,_,hgo, .inl ⟨_,1,f, .right _ (OY _),i.idle0 F fn pos k, .ke d⟩⟩
 | @acq m _ _ h=>
  rcases Goes.cases h with b|⟨f,rfl,e⟩
  ·obtain⟨_,j,hgo,f,d⟩:=b w (AtRel.refl w);obtain⟨r,i⟩:=i;have s:MemOp.ofEvents 0 fn pos #[mk (.acquire (stA Wg))]= #[{g:=0,fn:=fn,pos:=pos,act:= .mark (.acquire (My Wg))}]:=by simp[MemOp.ofEvents,mk,MemAct.ofEvent,stA,My]
   refine⟨_,_,_,hgo, .inr ⟨f, ?_, ?_,d⟩⟩
   ·rw[s];exact i.acquire F.hSh fn pos
   ·rw[s,Deaf_push];simp[deafStep];exact i.hearc
  ·obtain⟨j,w',es,hgo,k,d⟩:=e w (AtRel.refl w);exact⟨_,_,_,hgo, .inl ⟨_,0,f, .right _ (OY _),i.idle0 F fn pos k, .acq d⟩⟩
end
open Go.ConcX
open Go.ConcN (sumTo upd sumTo_upd upd_ne upd_same)
section
variable [Payload](P:Program)(ty:TypeId)(Wg C Low:Nat) [Shy Wg C](vals:List Value)(Mine:Loc->Prop)(AnchW:Goroutine->World->Prop)(Post:Value->World->Prop)(p:KC)(Sh:Loc->Prop)(c:Nat)(wf:World)
inductive J3:Nat×Nat×Nat×Nat->Goroutine->Goroutine->World->Trace->Prop
 |a {a b:Goroutine} {w:World} {T:Trace} {rel cl:Bool} {vs:List Value} {d0 d1 rp mp rc mc:Nat}:WgAt ty Wg w KK 0->(rel=true->Full C vals w)->Lh Wg p Sh c rel wf T d0 d1->
  PA P ty Wg C Low vals Mine AnchW Post rp d0 mp a w->CA P ty Wg C Low vals Mine rc d1 rel vs cl mc b w->J3 (rc,mc,rp+2,mp) a b w T
 |b {a b:Goroutine} {w:World} {T:Trace} {rel cl:Bool} {vs:List Value} {d1 rp mp rc mc:Nat}:WgAt ty Wg w (KK+1) 0->(rel=true->Full C vals w)->Lh Wg p Sh c rel wf T 1 d1->
  PB P ty Wg C Low vals Mine Post rp mp a w->CA P ty Wg C Low vals Mine rc d1 rel vs cl mc b w->J3 (rc,mc,rp,mp) a b w T
 |c {a b:Goroutine} {w:World} {T:Trace} {d0 d1 rp mp q:Nat}:WgAt ty Wg w 0 0->Full C vals w->Lh Wg p Sh c true wf T d0 d1->
  PA P ty Wg C Low vals Mine AnchW Post rp d0 mp a w->QuitsD P q d1 b->J3 (0,q,rhoC rp+vals.length+5,mp) a b w T
 |d {a b:Goroutine} {w:World} {T:Trace} {st:Int} {rp mp rc mc:Nat}:WgAt ty Wg w st 0->Full C vals w->Lh Wg p Sh c true wf T 1 1->
  PB P ty Wg C Low vals Mine Post rp mp a w->CD P Wg Low rc st mc b w->J3 (rc,mc,rp,mp) a b w T
 |f {a b:Goroutine} {w:World} {T:Trace} {d1 mp q:Nat}:WgAt ty Wg w 0 1->Full C vals w->Lh Wg p Sh c true wf T 1 d1->
  PB P ty Wg C Low vals Mine Post 1 mp a w->QuitsD P q d1 b->J3 (0,q,vals.length+6,mp) a b w T
 |j {a b:Goroutine} {w:World} {T:Trace} {vs:List Value} {d0 d1 rp mp q:Nat}:Lh Wg p Sh c true wf T d0 d1->
  PJ P Wg C Low vals Mine Post rp d0 false vs mp a w->QuitsD P q d1 b->J3 (0,q,rp,mp) a b w T
def Ny (μ:Nat×(Nat×Nat×Nat×Nat))(M:Machine)(T:Trace):Prop:=
 ∃(gs:Array Goroutine) (a b:Goroutine) (w:World) (sl:Option (Nat×Nat)) (q:Nat->Nat) (ν:Nat×Nat×Nat×Nat),
  M=crowd gs w sl/\Ls P c gs a b T q/\J3 P ty Wg C Low vals Mine AnchW Post p Sh c wf ν a b w T/\μ=(sumTo c q,ν)
def Nz (M:Machine)(T:Trace):Prop:=
 ∃(gs:Array Goroutine) (a b:Goroutine) (w:World) (sl:Option (Nat×Nat)) (q:Nat->Nat) (k m:Nat),
  M=crowd gs w sl/\Ls P c gs a b T q/\KN Sh T/\QuitsD P k (Deaf T c) b/\Goes P true AtRel (DPj Mine Wg C Low) (AtRetJ P Wg C Mine Post) m a w
end
section
variable [Payload]{P:Program}{ty:TypeId}{Wg C Low:Nat} [Shy Wg C]{vals:List Value}{Mine:Loc->Prop}{AnchW:Goroutine->World->Prop}{Post:Value->World->Prop}{p:KC}{Sh:Loc->Prop}{c:Nat}{wf:World}
theorem J3.at {e:Nat×Nat×Nat×Nat}{a b:Goroutine}{w:World}{T:Trace}(h:J3 P ty Wg C Low vals Mine AnchW Post p Sh c wf e a b w T)(d:Nat):J3 P ty Wg C Low vals Mine AnchW Post p Sh c wf e a b (w.at d) T:=by
 cases h with
 |a h1 h2 h3 h4 h5=>exact .a h1 h2 h3 (h4.rely (RPa.at w d)) (h5.rely (RCa.at w d))
 |b h1 h2 h3 h4 h5=>exact .b h1 h2 h3 (h4.rely (RPb.at w d)) (h5.rely (RCa.at w d))
 |c h1 h2 h3 h4 h5=>exact .c h1 h2 h3 (h4.rely (RPa.at w d)) h5
 |d h1 h2 h3 h4 h5=>exact .d h1 h2 h3 (h4.rely (RPb.at w d)) (h5.rely (RCd.at w d))
 |f h1 h2 h3 h4 h5=>exact .f h1 h2 h3 (h4.rely (RPb.at w d)) h5
 |j h3 h4 h5=>exact .j h3 (h4.rely (AtRel.at w d)) h5
theorem J3.shape (e: ∀g w,AnchW g w->g.status= .running) {k:Nat×Nat×Nat×Nat} {a b:Goroutine} {w:World} {T:Trace} (h:J3 P ty Wg C Low vals Mine AnchW Post p Sh c wf k a b w T):
 awake a/\awake b/\(a.status= .running\/b.status= .running):=by
 cases h with
 |a h1 h2 h3 h4 h5=>exact⟨awake_of (.inl (h4.running e)),awake_of (.inl h5.running), .inl (h4.running e)⟩
 |b h1 h2 h3 h4 h5=>exact⟨awake_of (h4.status.elim (λx=> .inl x.2) (λx=> .inr (.inl x.2.1))),awake_of (.inl h5.running), .inr h5.running⟩
 |c h1 h2 h3 h4 h5=>exact⟨awake_of (.inl (h4.running e)),awake_of (h5.status.elim .inl λx=> .inr (.inr x)), .inl (h4.running e)⟩
 |d h1 h2 h3 h4 h5=>exact⟨awake_of (h4.status.elim (λx=> .inl x.2) (λx=> .inr (.inl x.2.1))),awake_of (.inl h5.running), .inr h5.running⟩
 |f h1 h2 h3 h4 h5=>
  have i:a.status= .running:=h4.status.elim (λx=>x.2) (λx=>by cases x.1);exact⟨awake_of (.inl i),awake_of (h5.status.elim .inl λx=> .inr (.inr x)), .inl i⟩
 |j h3 h4 h5=>exact⟨awake_of (.inl h4.running),awake_of (h5.status.elim .inl λx=> .inr (.inr x)), .inl h4.running⟩
theorem J3.other (l: ∀g w,AnchW g w->g.status= .running) {s:Nat×Nat×Nat×Nat} {a b g g':Goroutine} {w:World} {T:Trace} (h:J3 P ty Wg C Low vals Mine AnchW Post p Sh c wf s a b w T) {i:Nat} (h0:i≠0) (hc:i≠c) (fn:FuncId) (pos:String) {es:Array Event} (hm: ∀e∈es,e.mute=true):
 ∃m,J3 P ty Wg C Low vals Mine AnchW Post p Sh c wf m (woken P g g' w a) (woken P g g' w b) w (T++MemOp.ofEvents i fn pos es):=by
 cases h with
 |a h1 h2 h3 h4 h5=>rw[woken_run (h4.running l),woken_run h5.running];exact⟨_, .a h1 h2 (h3.mute h0 hc fn pos hm) h4 h5⟩
 |b h1 h2 h3 h4 h5=>obtain⟨r,n,k⟩:=h4.woken (b:=g) (b':=g');rw[woken_run h5.running];exact⟨_, .b h1 h2 (h3.mute h0 hc fn pos hm) k h5⟩
 |c h1 h2 h3 h4 h5=>rw[woken_run (h4.running l),woken_quitsD h5];exact⟨_, .c h1 h2 (h3.mute h0 hc fn pos hm) h4 h5⟩
 |d h1 h2 h3 h4 h5=>obtain⟨r,n,k⟩:=h4.woken (b:=g) (b':=g');rw[woken_run h5.running];exact⟨_, .d h1 h2 (h3.mute h0 hc fn pos hm) k h5⟩
 |f h1 h2 h3 h4 h5=>
  have o:a.status= .running:=h4.status.elim (λx=>x.2) (λx=>by cases x.1);rw[woken_run o,woken_quitsD h5];exact⟨_, .f h1 h2 (h3.mute h0 hc fn pos hm) h4 h5⟩
 |j h3 h4 h5=>rw[woken_run h4.running,woken_quitsD h5];exact⟨_, .j (h3.mute h0 hc fn pos hm) h4 h5⟩
theorem gO {Wg:Nat}{T:Trace}{d0 d1 k:Nat}{b:Goroutine}{w:World}(hc0:c≠0)(d:Lh Wg p Sh c true wf T d0 d1)(hq:QuitsD P k d1 b)(hr:b.status= .running)(fn:FuncId)(pos:String):
 ∃b' es k' a,stepG P false b w= .go b' w es/\k'<k/\Lh Wg p Sh c true wf (T++MemOp.ofEvents c fn pos es) d0 a/\QuitsD P k' a b':=by
 cases k with
 |zero=>rw[hq.1] at hr;cases hr
 |succ k=>
  rcases hq with ⟨g,_⟩|⟨_,b',es,hm,f,e⟩
  ·rw[g] at hr;cases hr
  obtain⟨r,d⟩:=d;exact⟨b',es,k,_,f w,OY _,⟨r,d.mute hc0 fn pos hm (by rw[Deaf_own,d.hearc])⟩,e⟩
theorem wW {g g' a:Goroutine}{w:World}(hm:mayWake P g=true)(h1:g'.status= .running\/g'.status= .finished):woken P g g' w a=a.again w:=by
 unfold woken;rw[if_pos];rcases h1 with h|h<;>simp[hm,h]
theorem uQ (F:Fix Wg C Low Mine p Sh c)(hN:p.N0<=wf.heap.size)(e': ∀e,EvQ Mine Wg C 1 e->EvB p Sh wf e) (U: ∀g w,AnchW g w->g.status= .running)
 (f': ∀g w,AnchW g w-> ∃m,Goes P true (RPa ty Wg C vals) (DPi Mine Wg C Low) (AtW1 P ty Wg C Low vals Mine AnchW Post) m g w)
 {μ:Nat×(Nat×Nat×Nat×Nat)} {M:Machine} {T:Trace} (h:Ny P ty Wg C Low vals Mine AnchW Post p Sh c wf μ M T):
 ∃K ops,stepT P M=(.next K,ops)/\((∃B,LtG B μ/\Ny P ty Wg C Low vals Mine AnchW Post p Sh c wf B K (T++ops))\/Nz P Wg C Low Mine Post Sh c K (T++ops)):=by
 obtain⟨gs,a,b,I,H,q,ν,rfl,L,G,rfl⟩:=h;obtain⟨n',j',Z⟩:=G.shape U;obtain⟨i,g,d,sl,O,W,S⟩:=crowd_pick (P:=P) (w:=I) (sl:=H) (L.awake n' j') (Z.elim (λx=>⟨0,a,L.h0,x⟩) (λx=>⟨c,b,L.hc,x⟩));have hJ:=G.at d;generalize I.at d=w at*;clear G;have hs:=L.size;have p':i<gs.size:=(ib.1 O).1;have X:=F.hc0;by_cases h0:i=0
 ·subst h0;obtain rfl:g=a:=by rw[L.h0] at O;exact(gu O).symm
  have fin: ∀{J:Goroutine}{r:World}{es:Array Event}{z:Nat×Nat×Nat×Nat},stepG P true g w= .go J r es->b.again r=b->Lt4 z ν->
   J3 P ty Wg C Low vals Mine AnchW Post p Sh c wf z J b r (T++MemOp.ofEvents 0 g.frame.fn g.frame.place es)->
   ∃K ops,stepT P (crowd gs I H)=(.next K,ops)/\((∃B,LtG B (sumTo c q,ν)/\Ny P ty Wg C Low vals Mine AnchW Post p Sh c wf B K (T++ops))\/Nz P Wg C Low Mine Post Sh c K (T++ops)):=
   λhgo hb u hj=>⟨_,_,S.trans (runT_crowd_go O (show stepG P (0==0) g w=_ from hgo)), .inl ⟨(sumTo c q,_), .right _ u,_,_,b,_,sl,q,_,rfl,L.step0 hb aL,hj,rfl⟩⟩
  cases hJ with
  |a n h2 h3 h4 h5=>
   obtain⟨J,r,es,hgo,s,d',k⟩:=wT F f' h3 n h4 g.frame.fn g.frame.place;have hb:=again_running r (.inl h5.running);have V: ∀{rel:Bool},(rel=true->Full C vals w)->(rel=true->Full C vals r):=λhh e=>(hh e).of_block (d' C F.hC F.hCW);cases k with
   |stay R c' y A k1 l o=>exact fin hgo hb (lt4_caller (lt2_shift 2 A)) (.a k1 (V h2) l o (h5.rely s))
   |reg y k1 l o=>exact fin hgo hb (lt4_caller (.left _ _ bl)) (.b k1 (V h2) l o (h5.rely s))
  | @b _ _ _ _ rel cl vs d1 rp mp rc mc n h2 h3 h4 h5=>
   obtain rfl:rp=1:=h4.status.elim (λx=>x.1) (λx=>by rw[x.2.1] at W;cases W);obtain⟨J,r,es,hgo,s,R,y,A,k1,l⟩:=pR F h3 n h4 g.frame.fn g.frame.place;exact fin hgo (again_running r (.inl h5.running)) (lt4_caller A) (.b (n.of_block (s Wg F.hW)) (λe=>(h2 e).of_block (s C F.hC)) k1 l (h5.rely (RCd.toA F.hW s)))
  |c n h2 h3 h4 h5=>
   obtain⟨J,r,es,hgo,k⟩:=wU F f' h3 n h2 h4 g.frame.fn g.frame.place;have hb:=again_running r h5.status;cases k with
   |stay R c' y A k1 l o k4=>exact fin hgo hb (lt4_caller (by have:=lt2_shift (vals.length+5) A;simpa [Nat.add_assoc] using this)) (.c k1 l o k4 h5)
   |joined y k1 l o k4=>exact fin hgo hb (lt4_caller (.left _ _ bl)) (.j o k4 h5)
  | @d _ _ _ _ st rp mp rc mc n h2 h3 h4 h5=>
   obtain rfl:rp=1:=h4.status.elim (λx=>x.1) (λx=>by rw[x.2.1] at W;cases W);obtain⟨J,r,es,hgo,s,R,y,A,k1,l⟩:=pR F h3 n h4 g.frame.fn g.frame.place;exact fin hgo (again_running r (.inl h5.running)) (lt4_caller A) (.d (n.of_block (s Wg F.hW)) (h2.of_block (s C F.hC)) k1 l (h5.rely s))
  |f n h2 h3 h4 h5=>
   obtain⟨J,r,es,hgo,V,k⟩:=wV F h3 n h2 h4 g.frame.fn g.frame.place;have hb:=again_running r h5.status;rcases k with ⟨y,A,k1,l,o⟩|⟨y,k1,l,o⟩
   ·exact fin hgo hb (lt4_caller (.right _ A)) (.f k1 V l o h5)
   ·exact fin hgo hb (lt4_caller (.left _ _ bl)) (.j l o h5)
  |j h3 h4 h5=>
   obtain⟨J,r,es,hgo,k⟩:=AM F h3 h4 g.frame.fn g.frame.place;have hb:=again_running r h5.status;rcases k with ⟨R,c',y,A,k1,l⟩|⟨m,k1,l,o⟩
   ·exact fin hgo hb (lt4_caller A) (.j k1 l h5)
   ·exact⟨_,_,S.trans (runT_crowd_go O (show stepG P (0==0) g w=_ from hgo)), .inr ⟨_,J,b,r,sl,q,_,m,rfl,L.step0 hb aL,k1,l▸h5,o⟩⟩
 by_cases n:i=c
 ·subst n;obtain rfl:g=b:=by rw[L.hc] at O;exact(gu O).symm
  have i':(i==0)=false:=by simp[h0]
  have fin: ∀{J D:Goroutine}{r:World}{es:Array Event}{z:Nat×Nat×Nat×Nat},stepG P false g w= .go D r es->woken P g D r a=J->Lt4 z ν->
   J3 P ty Wg C Low vals Mine AnchW Post p Sh i wf z J D r (T++MemOp.ofEvents i g.frame.fn g.frame.place es)->
   ∃K ops,stepT P (crowd gs I H)=(.next K,ops)/\((∃B,LtG B (sumTo i q,ν)/\Ny P ty Wg C Low vals Mine AnchW Post p Sh i wf B K (T++ops))\/Nz P Wg C Low Mine Post Sh i K (T++ops)):=
   λhgo ha u hj=>⟨_,_,S.trans (runT_crowd_go O (by rw[i'];exact hgo)), .inl ⟨(sumTo i q,_), .right _ u,_,_,_,_,sl,q,_,rfl,L.J1 ha aL,hj,rfl⟩⟩
  cases hJ with
  |a n h2 h3 h4 h5=>
   obtain⟨D,r,es,hgo,N,k⟩:=oD F hN e' (.inl rfl) h3 h2 n h5 g.frame.fn g.frame.place;have ha:woken P g D r a=a:=woken_run (h4.running U);cases k with
   |stay rc' Q rel' vs' cl' mc' A k1 l o k4=>exact fin hgo ha (lt4_child _ _ A) (.a k1 l o (h4.rely (rpa_of_a n N (.inl k1))) k4)
   |lone q' _ k1 l o k4=>exact fin hgo ha (.left _ _ (by have:=h5.rank_pos;omega)) (.c k1 l o (h4.rely (rpa_of_a n N (.inr ⟨k1,l⟩))) k4)
   |met _ e _ _ _ _=>exact absurd e kk1_ne
  |b n h2 h3 h4 h5=>
   obtain⟨D,r,es,hgo,N,k⟩:=oD F hN e' (.inr rfl) h3 h2 n h5 g.frame.fn g.frame.place;cases k with
   |stay rc' Q rel' vs' cl' mc' A k1 l o k4=>
    obtain⟨r',m',E⟩:=(h4.rely (rpb_of_0 n N (.inl k1))).woken (b:=g) (b':=D);exact fin hgo rfl (lt4_child _ _ A) (.b k1 l o E k4)
   |lone _ e _ _ _ _=>exact absurd e.symm kk1_ne
   |met m1 _ k1 l o k4=>
    obtain⟨r',m',E⟩:=(h4.rely (rpb_of_0 n N (.inr (.inl k1)))).woken (b:=g) (b':=D);exact fin hgo rfl (.left _ _ (by have:=h5.rank_pos;omega)) (.d k1 l o E k4)
  |c n h2 h3 h4 h5=>
   obtain⟨D,es,k',Q,hgo,u,k1,l⟩:=gO (w:=w) X h3 h5 W g.frame.fn g.frame.place;exact fin hgo (woken_run (h4.running U)) (.right _ (.left _ _ u)) (.c n h2 k1 h4 l)
  | @d _ _ _ _ st rp mp rc mc n h2 h3 h4 h5=>
   obtain⟨D,r,es,hgo,N,k⟩:=AL F hN h3 n h5 g.frame.fn g.frame.place;have V:=h2.of_block (N.block C F.hCW);cases k with
   |stay rc' st' mc' A k1 l o=>
    have hk:KPb ty Wg C vals r:=by
     rcases o.st01 with rfl|rfl
     ·exact .inr (.inl k1)
     ·exact .inr (.inr (.inl k1))
    obtain⟨r',m',E⟩:=(h4.rely (rpb_of_0 n (.of_Wg N) hk)).woken (b:=g) (b':=D);exact fin hgo rfl (lt4_child _ _ A) (.d k1 V l E o)
   |freed q' hmw k1 l o=>
    obtain⟨m',E⟩:=(h4.rely (rpb_of_0 n (.of_Wg N) (.inr (.inr (.inr ⟨k1,V⟩))))).again;exact fin hgo (wW hmw o.status) (.left _ _ h5.rank_pos) (.f k1 V l E o)
  |f n h2 h3 h4 h5=>
   have ra:a.status= .running:=h4.status.elim (λx=>x.2) (λx=>by cases x.1);obtain⟨D,es,k',Q,hgo,u,k1,l⟩:=gO (w:=w) X h3 h5 W g.frame.fn g.frame.place;exact fin hgo (woken_run ra) (.right _ (.left _ _ u)) (.f n h2 k1 h4 l)
  |j h3 h4 h5=>
   obtain⟨D,es,k',Q,hgo,u,k1,l⟩:=gO (w:=w) X h3 h5 W g.frame.fn g.frame.place;exact fin hgo (woken_run h4.running) (.right _ (.left _ _ u)) (.j k1 h4 l)
 ·obtain⟨g',es,kk,hq,Y,hm,h'⟩:=L.JW O h0 n W sl w;obtain⟨z,l'⟩:=hJ.other (g:=g) (g':=g') U h0 n g.frame.fn g.frame.place hm;have s':=fO (c:=c) bl hq;exact⟨_,_,S.trans Y, .inl ⟨(sumTo c (upd q i kk),z), .left _ _ bl,_,_,_,w,sl,upd q i kk,z,rfl,h',l',rfl⟩⟩
theorem uR (F:Fix Wg C Low Mine p Sh c)(hN:p.N0<=wf.heap.size)(n: ∀e,EvQ Mine Wg C 1 e->EvB p Sh wf e) (r: ∀g w,AnchW g w->g.status= .running)
 (o: ∀g w,AnchW g w-> ∃m,Goes P true (RPa ty Wg C vals) (DPi Mine Wg C Low) (AtW1 P ty Wg C Low vals Mine AnchW Post) m g w):
 ∀(b:Nat×(Nat×Nat×Nat×Nat))(M:Machine)(T:Trace),Ny P ty Wg C Low vals Mine AnchW Post p Sh c wf b M T->
  ∃N a T',runNT P N M T=(.next a,T')/\Nz P Wg C Low Mine Post Sh c a T':=by
 intro b
 induction b using ltG_wf.induction with
 |_ b ih=>
  intro M T h;obtain⟨a,ops,s,l⟩:=uQ F hN n r o h;rcases l with ⟨f,d,u⟩|j
  ·obtain⟨N,k,i,l,j⟩:=ih f d a _ u;exact⟨N+1,k,i,by simp only[runNT,s];exact l,j⟩
  ·exact⟨1,a,T++ops,by simp only[runNT,s],j⟩
end
open Go.ConcX
open Go.ConcN (sumTo upd sumTo_upd upd_ne upd_same)
section
variable {p:KC}{C Wg:Nat}{w w':World}
theorem pT (hC:C<p.N0)(hW:Wg<p.N0)(h:Aside2 C Wg w w')(b:Nat):FA p w' b↔FA p w b:=by
 constructor
 ·rintro⟨e,o,a,d⟩;exact⟨e,o,by rw[<-h.block b bl bl];exact a,d⟩
 ·rintro⟨e,o,a,d⟩;exact⟨e,o,by rw[h.block b bl bl];exact a,d⟩
theorem lb (hC:C<p.N0)(hW:Wg<p.N0)(h:Aside2 C Wg w w'):Kept p w w':=
 ⟨Nat.le_of_eq h.size.symm,λb hb=>(pT hC hW h b).2 hb,λb _ a hb=>a ((pT hC hW h b).1 hb)⟩
theorem wX (hC:C<p.N0)(hW:Wg<p.N0)(f: ∀i,¬p.Still (.cell ⟨C,i,none⟩)) (d: ∀i,¬p.Still (.cell ⟨Wg,i,none⟩)) (h:Aside2 C Wg w w'):RA p w w':=
 ⟨h.tape,h.os,h.output,lb hC hW h,λb hb=>h.block b (by have:=hb.1;omega) (by have:=hb.1;omega),λb cs ty j g hb=>(h.block b (λe=>by obtain⟨i,a⟩:=g;rw[e] at a;exact f i a) (λe=>by obtain⟨i,a⟩:=g;rw[e] at a;exact d i a)).trans hb⟩
end
section
variable [Payload](P:Program)(ty:TypeId)(Wg C Low:Nat) [Shy Wg C](vals:List Value)(Mine:Loc->Prop)(AnchW:Goroutine->World->Prop)(Post:Value->World->Prop)(p:KC)(Sh:Loc->Prop)(c E Dn:Nat)(zE zD:Value)(PostB:World->Prop)
def Lt (b:Goroutine)(w:World):Prop:=WgAt ty Wg w KK 0/\ ∃n,Goes P false (RCa ty Wg Low) (DCs Mine Wg C) (AtR0 P ty Wg C Low vals) n b w
def Nj (g:Goroutine)(w:World):Prop:=KPa ty Wg C vals w-> ∃m,Goes P true (RPa ty Wg C vals) (DPi Mine Wg C Low) (AtKd P ty Wg C Low vals Mine AnchW) m g w
inductive Oe:Nat×Nat->Goroutine->World->Trace->Prop
 |ca {b:Goroutine} {w:World} {T:Trace} {rel cl:Bool} {vs:List Value} {d1 rc mc:Nat}:WgAt ty Wg w KK 0->(rel=true->Full C vals w)->Lh Wg p Sh c rel w T 0 d1->CA P ty Wg C Low vals Mine rc d1 rel vs cl mc b w->Oe (rc,mc) b w T
 |quit {b:Goroutine} {w:World} {T:Trace} {d1 k:Nat}:WgAt ty Wg w 0 0->Full C vals w->Lh Wg p Sh c true w T 0 d1->QuitsD P k d1 b->Oe (0,k) b w T
def Inv2 (μ:Nat×Nat)(M:Machine)(T:Trace):Prop:=
 ∃(gs:Array Goroutine) (a b:Goroutine) (w:World) (sl:Option (Nat×Nat)) (q:Nat->Nat) (k n rc mc:Nat),
  M=crowd gs w sl/\Ls P c gs a b T q/\w.heap[E]? =some (.chan 0 #[] false k k false)/\w.heap[Dn]? =some (.chan 0 #[] true 0 0 false)/\PostB w/\p.N0<=w.heap.size/\
  Goes P true (RA p) (DG p E Dn) (KW P p E Dn zE zD PostB (Nj P ty Wg C Low vals Mine AnchW) []) n a w/\Oe P ty Wg C Low vals Mine p Sh c (rc,mc) b w T/\μ=(rc,mc+n+sumTo c q)
end
section
variable [Payload]{P:Program}{ty:TypeId}{Wg C Low:Nat} [Shy Wg C]{vals:List Value}{Mine:Loc->Prop}{AnchW:Goroutine->World->Prop}{Post:Value->World->Prop}{p:KC}{Sh:Loc->Prop}{c E Dn:Nat}{zE zD:Value}{PostB:World->Prop}
theorem Oe.status {a:Nat×Nat}{b:Goroutine}{w:World}{T:Trace}(h:Oe P ty Wg C Low vals Mine p Sh c a b w T):b.status= .running\/b.status= .finished:=by
 cases h with
 |ca _ _ _ h=>exact .inl h.running
 |quit _ _ _ h=>exact h.status
theorem D6 (F:Fix Wg C Low Mine p Sh c){w w':World}(hN:p.N0<=w.heap.size)(e:RB p E Dn w w')(hE:w'.heap[E]? =w.heap[E]?)(g:w'.heap[Dn]? =w.heap[Dn]?):RCd Low w w':=λb hb=>by
 by_cases a:b=E
 ·subst a;exact hE
 ·by_cases d:b=Dn
  ·subst d;exact g
  ·have:=F.hLow;exact e.block b bl (λf=>by have:=f.1;omega) a d
theorem Oe.caller (F:Fix Wg C Low Mine p Sh c){g:Nat×Nat}{b:Goroutine}{w w':World}{T:Trace}(h:Oe P ty Wg C Low vals Mine p Sh c g b w T)(f:Kept p w w')(a:RCd Low w w')(fn:FuncId)(pos:String){es:Array Event}(d: ∀e∈es,EvA p w' e):
 Oe P ty Wg C Low vals Mine p Sh c g b w' (T++MemOp.ofEvents 0 fn pos es):=by
 cases h with
 |ca h1 h2 h3 h4=>exact .ca (h1.of_block (a Wg F.hW)) (λe=>(h2 e).of_block (a C F.hC)) (h3.JG F.hc0 f F.hSh fn pos d) (h4.rely (RCd.toA F.hW a))
 |quit h1 h2 h3 h4=>exact .quit (h1.of_block (a Wg F.hW)) (h2.of_block (a C F.hC)) (h3.JG F.hc0 f F.hSh fn pos d) h4
theorem uS (F:Fix Wg C Low Mine p Sh c)(O':E≠Dn)(C':E≠Wg/\E≠C)(D':Dn≠Wg/\Dn≠C)(K': ∀w,p.N0<=w.heap.size-> ∀e,EvQ Mine Wg C 1 e->EvB p Sh w e)
 (B': ∀w r,RB p E Dn w r->PostB w->PostB r) (J': ∀w r,Aside2 C Wg w r->PostB w->PostB r)
 {μ:Nat×Nat} {M:Machine} {T:Trace} (h:Inv2 P ty Wg C Low vals Mine AnchW p Sh c E Dn zE zD PostB μ M T):
 ∃M' ops,stepT P M=(.next M',ops)/\((∃l,LtP l μ/\Inv2 P ty Wg C Low vals Mine AnchW p Sh c E Dn zE zD PostB l M' (T++ops))\/
  (∃wf l,p.N0<=wf.heap.size/\Ny P ty Wg C Low vals Mine AnchW Post p Sh c wf l M' (T++ops))):=by
 obtain⟨gs,a,b,f,Q,q,k,n,rc,W,rfl,G,O,L,H,I,u,A,rfl⟩:=h;have r':Wg<p.N0:=OX F.hW F.hLow;have t':C<p.N0:=OX F.hC F.hLow;have ra:=u.running (λ_ _=>KW.running) f (RA.refl p f);obtain⟨i,g,d,sl,U,hg,N⟩:=crowd_pick (P:=P) (w:=f) (sl:=Q) (G.awake (awake_of (.inl ra)) (awake_of (A.status.elim .inl λx=> .inr (.inr x)))) ⟨0,a,G.h0,ra⟩;have hE:(f.at d).heap[E]? =some (.chan 0 #[] false k k false):=O;have hD:(f.at d).heap[Dn]? =some (.chan 0 #[] true 0 0 false):=L;have hP:PostB (f.at d):=B' _ _ (RB.at p E Dn f d) H;have hN:p.N0<=(f.at d).heap.size:=I;have hA:=Goes.rely RA.trans u (RA.at p f d);have hK:Oe P ty Wg C Low vals Mine p Sh c (rc,W) b (f.at d) T:=by
  cases A with
  |ca o h2 h3 h4=>exact .ca o h2 (h3.world (iN p f d)) (h4.rely (RCa.at f d))
  |quit o h2 h3 h4=>exact .quit o h2 (h3.world (iN p f d)) h4
 generalize f.at d=w at*;clear O L H I u A;have hs:=G.size;have N':=G.pos;have u':i<gs.size:=(ib.1 U).1;by_cases h0:i=0
 ·subst h0;obtain rfl:g=a:=by rw[G.h0] at U;exact(gu U).symm
  rcases hA.cases with J|⟨n',rfl,f'⟩
  ·obtain⟨_,es,h',l'⟩:=(J w (RA.refl p w)).sel;have V:stepG P (0==0) g w= .comm (core g) (Kh E Dn zE zD) true .select w es:=h';have none: ∀ch,partners (gs.setIfInBounds 0 ph) ch true=[]:=λch=>partners_nil λx y hy=>by
    rcases getElem?_stand gs 0 x y hy with ⟨_,rfl⟩|⟨hx,i'⟩
    ·exact offersAt_ph _ _
    ·by_cases v':x=c
     ·subst v';rw[G.hc] at i';obtain rfl:=gu i';exact offersAt_of_not_blocked (λhb=>by rcases hK.status with z|z<;>rw[z] at hb<;>cases hb) _ _
     ·exact G.JB hx v' i' _ _
   have Z:=crowd_sel_recv_closed (sl:=sl) (k:=1) (c:=Dn) (z:=zD) U V rfl
    (λm c' hm p'=>by
     rcases m with _|_|m
     ·have:c'=rcase E zE:=by simpa [Kh] using p'.symm
      subst this;exact ways_recv_none hE (none E)
     ·omega
     ·simp[Kh] at p') hD (none Dn)
   have Y:=(J w (RA.refl p w)).nil w (RA.refl p w) hP;have H':=hK.caller F (Kept.refl p w) (RCd.refl w) g.frame.fn g.frame.place l'
   have X:Ls P c (gs.setIfInBounds 0 ((core g).finishComm P (Kh E Dn zE zD) .select 1 zD false)) (Conc.served (core g) (commResult (Kh E Dn zE zD) .select 1 zD false)) b
    (T++(MemOp.ofEvents 0 g.frame.fn g.frame.place es++ #[{g:=0,fn:=(core g).frame.fn,pos:=(core g).frame.place,act:= .recvClosed Dn}])) q:=
    G.put bE (by simp[u'];rfl) (by rw[m0 bl];exact G.hc) (λx hx _=>m0 (ft hx)) (λop K=> .inl (by
     rcases xr.1 K with x|x
     ·exact aL op x
     ·have:op={g:=0,fn:=(core g).frame.fn,pos:=(core g).frame.place,act:= .recvClosed Dn}:=by simpa using x
      rw[this]))
   have x': ∀{rel:Bool}{d1:Nat},Lh Wg p Sh c rel w (T++MemOp.ofEvents 0 g.frame.fn g.frame.place es) 0 d1->
    Lh Wg p Sh c rel w (T++(MemOp.ofEvents 0 g.frame.fn g.frame.place es++ #[{g:=0,fn:=(core g).frame.fn,pos:=(core g).frame.place,act:= .recvClosed Dn}])) 0 d1:=λhl=>by
    rw[<-Array.append_assoc];refine hl.still (λop K=> ?_) (λop K=> ?_) (λg'=>by rw[Deaf_push];simp[deafStep])
    ·have:op={g:=0,fn:=(core g).frame.fn,pos:=(core g).frame.place,act:= .recvClosed Dn}:=by simpa using K
     rw[this];rfl
    ·have:op={g:=0,fn:=(core g).frame.fn,pos:=(core g).frame.place,act:= .recvClosed Dn}:=by simpa using K
     rw[this];simp
   cases H' with
   |ca o h2 h3 h4=>
    obtain⟨m,hm⟩:=Y (.inl o);exact⟨_,_,N.trans Z, .inr ⟨w,(sumTo c q,_),hN,_,_,b,w,sl,q,_,rfl,X, .a o h2 (x' h3) (.kd hm) h4,rfl⟩⟩
   |quit o h2 h3 h4=>
    obtain⟨m,hm⟩:=Y (.inr ⟨o,h2⟩);exact⟨_,_,N.trans Z, .inr ⟨w,(sumTo c q,_),hN,_,_,b,w,sl,q,_,rfl,X, .c o h2 (x' h3) (.kd hm) h4,rfl⟩⟩
  ·obtain⟨a',S,es,hgo,⟨hR,A',y',l'⟩,G'⟩:=f' w (RA.refl p w)
   exact⟨_,_,N.trans (runT_crowd_go U (show stepG P (0==0) g w=_ from hgo)), .inl ⟨(rc,W+n'+sumTo c q), .right _ bl,_,a',b,S,sl,q,k,n',rc,W,rfl,
    G.step0 (again_running S hK.status) aL,A'.trans hE,y'.trans hD,B' _ _ hR hP,l6 hN hR.kept.size,G',hK.caller F hR.kept (D6 F hN hR A' y') _ _ l',rfl⟩⟩
 by_cases o:i=c
 ·subst o;obtain rfl:g=b:=by rw[G.hc] at U;exact(gu U).symm
  have E':(i==0)=false:=by simp[h0]
  have d':=hA.running (λ_ _=>KW.running) w (RA.refl p w)
  have fin: ∀{b':Goroutine}{S:World}{es:Array Event}{B D:Nat},stepG P false g w= .go b' S es->Aside2 C Wg w S->Lt2 (B,D) (rc,W)->Oe P ty Wg C Low vals Mine p Sh i (B,D) b' S (T++MemOp.ofEvents i g.frame.fn g.frame.place es)->
   ∃M' ops,stepT P (crowd gs f Q)=(.next M',ops)/\((∃l,LtP l (rc,W+n+sumTo i q)/\Inv2 P ty Wg C Low vals Mine AnchW p Sh i E Dn zE zD PostB l M' (T++ops))\/
    (∃wf l,p.N0<=wf.heap.size/\Ny P ty Wg C Low vals Mine AnchW Post p Sh i wf l M' (T++ops))):=by
   intro b' S es B D hgo j j' hk;refine⟨_,_,N.trans (runT_crowd_go U (by rw[E'];exact hgo)), .inl ⟨(B,D+n+sumTo i q), ?_,_,a,b',S,sl,q,k,n,B,D,rfl,G.J1 (woken_run d') aL, ?_, ?_,J' _ _ j hP,by rw[j.size];exact hN,Goes.rely RA.trans hA (wX t' r' F.hCS (λi s=>F.hSh.ap _ s (F.hSW _ ⟨_,rfl,rfl⟩)) j),hk,rfl⟩⟩
   ·rcases Prod.lex_def.1 j' with z|⟨z1,z2⟩
    ·exact .left _ _ z
    ·simp only at z1 z2;subst z1;exact .right _ bl
   ·rw[j.block E C'.2 C'.1];exact hE
   ·rw[j.block Dn D'.2 D'.1];exact hD
  cases hK with
  |ca o h2 h3 h4=>
   obtain⟨b',S,es,hgo,j,s'⟩:=oD F hN (K' w hN) (.inl rfl) h3 h2 o h4 g.frame.fn g.frame.place;have z':=lb t' r' j;cases s' with
   |stay B F' rel' vs' cl' D hl k1 R k3 k4=>exact fin hgo j hl (.ca k1 R (k3.world z') k4)
   |lone q' _ k1 R k3 k4=>exact fin hgo j (.left _ _ (by have:=h4.rank_pos;omega)) (.quit k1 R (k3.world z') k4)
   |met _ e _ _ _ _=>exact absurd e kk1_ne
  |quit o h2 h3 h4=>
   obtain⟨b',es,k',F',hgo,j',k1,R⟩:=gO (w:=w) F.hc0 h3 h4 hg g.frame.fn g.frame.place;exact fin hgo (.refl w) (.right _ j') (.quit o h2 k1 R)
 ·obtain⟨g',es,kk,hq,e',hm,m'⟩:=G.JW U h0 o hg sl w;have d':=hA.running (λ_ _=>KW.running) w (RA.refl p w);rw[woken_run d',dP (again_running w hK.status)] at m';have L':=fO (c:=c) bl hq;have I':Oe P ty Wg C Low vals Mine p Sh c (rc,W) b w (T++MemOp.ofEvents i g.frame.fn g.frame.place es):=by
   cases hK with
   |ca k1 R k3 k4=>exact .ca k1 R (k3.mute h0 o _ _ hm) k4
   |quit k1 R k3 k4=>exact .quit k1 R (k3.mute h0 o _ _ hm) k4
  exact⟨_,_,N.trans e', .inl ⟨(rc,W+n+sumTo c (upd q i kk)), .right _ bl,_,a,b,w,sl,upd q i kk,k,n,rc,W,rfl,m',hE,hD,hP,hN,hA,I',rfl⟩⟩
theorem uT (F:Fix Wg C Low Mine p Sh c)(u:E≠Dn)(o:E≠Wg/\E≠C)(r:Dn≠Wg/\Dn≠C)(s: ∀w,p.N0<=w.heap.size-> ∀e,EvQ Mine Wg C 1 e->EvB p Sh w e)
 (n: ∀w a,RB p E Dn w a->PostB w->PostB a) (m: ∀w a,Aside2 C Wg w a->PostB w->PostB a):
 ∀(f:Nat×Nat)(M:Machine)(T:Trace),Inv2 P ty Wg C Low vals Mine AnchW p Sh c E Dn zE zD PostB f M T->
  ∃N d T' wf b,runNT P N M T=(.next d,T')/\p.N0<=wf.heap.size/\Ny P ty Wg C Low vals Mine AnchW Post p Sh c wf b d T':=by
 intro f
 induction f using H8.induction with
 |_ f ih=>
  intro M T h;obtain⟨d,ops,x,l⟩:=uS (Post:=Post) F u o r s n m h;rcases l with ⟨b,g,A⟩|⟨wf,b,z,j⟩
  ·obtain⟨N,k,i,wf,y,l,j⟩:=ih b g d _ A;exact⟨N+1,k,i,wf,y,by simp only[runNT,x];exact l,j⟩
  ·exact⟨1,d,T++ops,wf,b,by simp only[runNT,x],z,j⟩
theorem pU (F:Fix Wg C Low Mine p Sh c)(j:E≠Dn)(z:E≠Wg/\E≠C)(A:Dn≠Wg/\Dn≠C)(B:Dn<p.N0)(G: ∀l,Sh l->l≠ .obj Dn) (i: ∀w,p.N0<=w.heap.size-> ∀e,EvQ Mine Wg C 1 e->EvB p Sh w e)
 (f: ∀w d,RB p E Dn w d->PostB w->PostB d) (x: ∀w d,Aside2 C Wg w d->PostB w->PostB d) (D: ∀w,PostB w->p.N0<=w.heap.size)
 (y: ∀g w,AnchW g w->g.status= .running) (u: ∀g w,AnchW g w-> ∃m,Goes P true (RPa ty Wg C vals) (DPi Mine Wg C Low) (AtW1 P ty Wg C Low vals Mine AnchW Post) m g w)
 (L:Nat×Nat) (M:Machine) (T:Trace) (h:Inv1 P p Sh E Dn zE zD PostB (Lt P ty Wg C Low vals Mine) (Nj P ty Wg C Low vals Mine AnchW) c L M T):
 ∃N K T',runNT P N M T=(.next K,T')/\Nz P Wg C Low Mine Post Sh c K T':=by
 obtain⟨Z,M1,T1,V,gs,a,b,w,sl,q,k,rfl,R,O,hE,hD,I,o,⟨r,H,hB⟩,S⟩:=uO j F.hc0 B F.hSh G f L M T h;obtain⟨n,o⟩:=(cV _ _ _ _ _ _ _ _ _ _ _).1 o
 have hI:Inv2 P ty Wg C Low vals Mine AnchW p Sh c E Dn zE zD PostB (7,H+n+sumTo c q) (crowd gs w sl) T1:=
  ⟨gs,a,b,w,sl,q,k,n,7,H,rfl,R,hE,hD,I,D w I,o, .ca (rel:=false) r (λe=>by cases e) ⟨O,rfl⟩ (.r0 hB),rfl⟩
 obtain⟨W,M2,T2,wf,ν,X,J,s⟩:=uT (Post:=Post) F j z A i f x _ _ _ hI;obtain⟨U,M3,Q,Y,hd⟩:=uR F J (i wf J) y u _ _ _ s;refine⟨Z+W+U,M3,Q, ?_,hd⟩;rw[runNT_add,runNT_add,V];simp only[X];exact Y
end
open Go.ConcX
open Go.ConcN (sumTo upd sumTo_upd upd_ne upd_same)
def Nu (Sh:Loc->Prop)(e:Event):Prop:=(∀x,(MemAct.ofEvent e).touch? =some x->Sh x.loc->x.kind≠ .plain)/\(e.loc≠ .mark .disable/\e.loc≠ .mark .enable)
section
variable {Sh:Loc->Prop}{t:Trace}{d₀:Nat}
theorem KN.own (h:KN Sh t d₀)(fn:FuncId)(pos:String){es:Array Event}(l: ∀e∈es,Nu Sh e):KN Sh (t++MemOp.ofEvents 0 fn pos es) d₀:=by
 refine⟨λj=>noRace_append (h.clean j) aL λi a o op f b hb hc=> ?_,λi a o hm=> ?_,handedOver_app h.over λop f=> .inl (aL op f),(dO (λe he=>(l e he).2) t 0 fn pos 0).trans h.hears⟩
 ·obtain⟨e,he,rfl⟩:=Conc.mem_ofEvents f;rcases h.known i a o hc.2.1 with x|⟨s,y⟩
  ·exact x
  ·have m:=(l e he).1 b hb (hc.1▸s);obtain⟨_,_,_,d⟩:=hc;rw[y] at d;rcases d with z|z|⟨_,z,_⟩
   ·cases z
   ·exact absurd z m
   ·cases z
 ·obtain⟨x,u,r⟩:=touch_of o;rcases getElem?_append_cases u with ⟨A,n⟩|⟨_,p⟩
  ·exact(h.known i a (by rw[touchAt_of n];exact r) hm).imp (·.app _) id
  ·have k:=g?_new u;rw[aL x p] at k;exact .inl (cM k)
theorem KN.mute (h:KN Sh t d₀){g:Nat}(o:g≠0)(fn:FuncId)(pos:String){es:Array Event}(hm: ∀e∈es,e.mute=true):KN Sh (t++MemOp.ofEvents g fn pos es) d₀:=by
 have hu:=iv (g:=g) (fn:=fn) (pos:=pos) hm;refine⟨λd=>dt (h.clean d) hu,λi a n j=> ?_,handedOver_app h.over λop f=> .inr (hu op f),(Deaf_other t o _ aL).trans h.hears⟩;obtain⟨x,m,b⟩:=touch_of n;rcases getElem?_append_cases m with ⟨p,k⟩|⟨_,l⟩
 ·exact(h.known i a (by rw[touchAt_of k];exact b) j).imp (·.app _) id
 ·rw[hu x l] at b;cases b
theorem KN.word (h:KN Sh t d₀)(fn:FuncId)(pos:String){m:Mark}(hm:m= .disable\/m= .enable):KN Sh (t++MemOp.ofEvents 0 fn pos #[ConcX.mk m]) (deafBehind d₀ #[ConcX.mk m]):=by
 have hu: ∀op∈MemOp.ofEvents 0 fn pos #[ConcX.mk m],op.act.touch? =none:=λop b=>by
  obtain⟨e,he,rfl⟩:=Conc.mem_ofEvents b;rw[Array.mem_singleton] at he;subst he;rcases hm with rfl|rfl<;>rfl
 refine⟨λf=>dt (h.clean f) hu,λi a n g=> ?_,handedOver_app h.over λop b=> .inl (aL op b),by rw[Deaf_own,h.hears]⟩;obtain⟨x,l,d⟩:=touch_of n;rcases getElem?_append_cases l with ⟨o,j⟩|⟨_,k⟩
 ·exact(h.known i a (by rw[touchAt_of j];exact d) g).imp (·.app _) id
 ·rw[hu x k] at d;cases d
theorem uU:KN Sh #[]:=
 ⟨λe=>by rintro⟨i,j,_,⟨a,b,d,_⟩,_⟩;simp[Trace.act?] at d,λi a d=>by simp[touchAt,Trace.act?] at d,λi g f=>by simp[Trace.g?] at f,rfl⟩
end
section
variable {P:Program}{Sh:Loc->Prop}{D:World->World->Array Event->Prop}{Stop:Goroutine->World->Prop}
theorem pV {d₀:Nat}(k': ∀g w,Stop g w->g.status= .running) (hD: ∀w w' es,D w w' es-> ∀e∈es,Nu Sh e):
 ∀(M n:Nat)(gs:Array Goroutine)(a:Goroutine)(w:World)(sl:Option (Nat×Nat))(t:Trace)(q:Nat->Nat),n+sumTo gs.size q=M->gs[0]? =some a->Leavers P t gs q->KN Sh t d₀->
  Goes P true AtRel D Stop n a w->
  ∃(N:Nat) (b:Array Goroutine) (u:Goroutine) (w':World) (f:Option (Nat×Nat)) (t':Trace) (q':Nat->Nat) (d:Nat) (c':Option (Nat×Nat)),
   runNT P N (crowd gs w sl) t=(.next (crowd b w' f),t')/\b.size=gs.size/\b[0]? =some u/\Leavers P t' b q'/\KN Sh t' d₀/\Stop u (w'.at d)/\stepT P (crowd b w' f)=runT P (crowd b (w'.at d) c') 0:=by
 intro M
 induction M using Nat.strongRecOn with
 |_ M ih=>
  intro n gs a w sl T q hM h0 K hP hG;have p:a.status= .running:=hG.running k' w (atRel_refl w);have X:0<gs.size:=(ib.1 h0).1;have i': ∀g∈gs,awake g:=by
   intro g W;obtain⟨i,z,rfl⟩:=Array.mem_iff_getElem.1 W;rcases Nat.eq_zero_or_pos i with rfl|hp
   ·have:gs[0]=a:=by simpa [OQ z] using h0
    rw[this];exact awake_of (.inl p)
   ·exact awake_of ((K.old i _ hp (OQ z)).status.elim .inl λx=> .inr (.inr x))
  obtain⟨i,g,d,f,z,W,L⟩:=crowd_pick (P:=P) (w:=w) (sl:=sl) i' ⟨0,a,h0,p⟩;rcases Nat.eq_zero_or_pos i with rfl|hp
  ·obtain rfl:g=a:=by rw[h0] at z;exact(gu z).symm
   rcases hG.cases with E|⟨n',rfl,V⟩
   ·exact⟨0,gs,g,w,sl,T,q,d,f,rfl,rfl,h0,K,hP,E (w.at d) ⟨d,rfl⟩,L⟩
   ·obtain⟨u,w',es,hgo,hd,h'⟩:=V (w.at d) ⟨d,rfl⟩;have o:=runT_crowd_go (P:=P) (sl:=f) (i:=0) z (show stepG P (0==0) g (w.at d)=_ from hgo);have s:((gs.map (Go.Conc.woken P g u w')).setIfInBounds 0 u).size=gs.size:=bE
    have f':Leavers P (T++MemOp.ofEvents 0 g.frame.fn g.frame.place es) ((gs.map (Go.Conc.woken P g u w')).setIfInBounds 0 u) q:=
     ⟨λj x O J=>by
      rw[m0 bl,tp] at J;obtain⟨y,hy,rfl⟩:=pA.1 J;have H:=K.old j y O hy;rw[woken_quitsD H,Deaf_other T (g':=0) bl _ aL];exact H,
      λj O=>by
       have U:gs.size<=j:=by simpa using O
       rw[Deaf_other T (g':=0) bl _ aL];exact K.above j U⟩
    obtain⟨N,b,I,R,m,T',q',d',l,hr,S,F,B,C,hS,r⟩:=ih (n'+sumTo gs.size q) bl n' ((gs.map (Go.Conc.woken P g u w')).setIfInBounds 0 u) u w' f
     (T++MemOp.ofEvents 0 g.frame.fn g.frame.place es) q (by rw[s]) (by simp[X]) f' (hP.own _ _ (hD _ _ _ hd)) h'
    exact⟨N+1,b,I,R,m,T',q',d',l,by simp only[runNT,L,o];exact hr,S.trans s,F,B,C,hS,r⟩
  ·have H:=K.old i g hp z;have e':(i==0)=false:=ao
   have Y:i<gs.size:=(ib.1 z).1;cases Q:q i with
   |zero=>rw[Q] at H;rw[H.1] at W;cases W
   |succ k=>
    rw[Q] at H;rcases H with ⟨hf,_⟩|⟨_,G,es,hm,b',j'⟩
    ·rw[hf] at W;cases W
    have o:=runT_crowd_go (P:=P) (sl:=f) (i:=i) z (by rw[e'];exact b' (w.at d));have s:((gs.map (Go.Conc.woken P g G (w.at d))).setIfInBounds i G).size=gs.size:=bE
    have l':=fO (c:=gs.size) Y Q
    obtain⟨N,b,I,R,m,T',q',d',l,hr,S,F,B,C,hS,r⟩:=ih (n+sumTo gs.size (upd q i k)) bl n ((gs.map (Go.Conc.woken P g G (w.at d))).setIfInBounds i G) a (w.at d) f
     (T++MemOp.ofEvents i g.frame.fn g.frame.place es) (upd q i k) (by rw[s])
     (by rw[m0 bl,tp,h0];simp[woken_run p])
     ⟨λj x O J=>by
      by_cases A:i=j
      ·subst A;rw[Array.getElem?_setIfInBounds_self_of_lt (by simpa using Y)] at J;obtain rfl:=gu J;rw[upd_same,Deaf_own];exact j'
      ·rw[m0 A,tp] at J;obtain⟨y,hy,rfl⟩:=pA.1 J;have Z:=K.old j y O hy;rw[woken_quitsD Z,upd_ne q k (ft A),Deaf_other T A _ aL];exact Z,
      λj O=>by
       have U:gs.size<=j:=by simpa using O
       rw[Deaf_other T (g':=i) bl _ aL];exact K.above j U⟩
     (hP.mute bl _ _ hm) (Goes.rely atRel_trans hG ⟨d,rfl⟩)
    exact⟨N+1,b,I,R,m,T',q',d',l,by simp only[runNT,L,o];exact hr,S.trans s,F,B,C,hS,r⟩
theorem H9 {d₀:Nat}{m:Mark}{Next:Goroutine->World->Prop}(hm:m= .disable\/m= .enable)(O: ∀w w' es,D w w' es-> ∀e∈es,Nu Sh e) {gs:Array Goroutine} {a:Goroutine} {w:World} {sl:Option (Nat×Nat)} {t:Trace} {q:Nat->Nat} {n:Nat}
 (h0:gs[0]? =some a) (M:Leavers P t gs q) (Q:KN Sh t d₀) (L:Goes P true AtRel D (AtMkS P m Next) n a w):
 ∃(N:Nat) (b:Array Goroutine) (l:Goroutine) (w':World) (u:Option (Nat×Nat)) (t':Trace) (F:Nat->Nat),
  runNT P N (crowd gs w sl) t=(.next (crowd b w' u),t')/\b.size=gs.size/\b[0]? =some l/\Leavers P t' b F/\KN Sh t' (deafBehind d₀ #[mk m])/\Next l w':=by
 obtain⟨N,b,l,w',u,t',F,d,f,K,E,p,r,z,⟨G,s,hgo,g⟩,A⟩:=pV (λ_ _ h=>h.1) O _ n gs a w sl t q rfl h0 M Q L;have o:0<b.size:=(ib.1 p).1;have k:=runT_crowd_go (P:=P) (sl:=f) (i:=0) p (show stepG P (0==0) l (w'.at d)=_ from hgo);refine⟨N+1,(b.map (Go.Conc.woken P l s (w'.at d))).setIfInBounds 0 s,s,w'.at d,f,_,F, ?_,by simp[E],by simp[o],⟨λj x B I=> ?_,λj B=> ?_⟩,z.word l.frame.fn l.frame.place hm,g⟩
 ·rw[runNT_add,K];simp only[runNT,A,k]
 ·rw[m0 bl,tp] at I;obtain⟨y,J,rfl⟩:=pA.1 I;have H:=r.old j y B J;rw[woken_quitsD H,Deaf_other t' (g':=0) bl _ aL];exact H
 ·have C:b.size<=j:=by simpa using B
  rw[Deaf_other t' (g':=0) bl _ aL];exact r.above j C
def Of (P:Program)(Sh:Loc->Prop)(Post:Value->World->Prop)(g:Goroutine)(w:World):Prop:=
 g.status= .running/\ ∃v es,stepG P true g w= .ended (.done v) w es/\(∀e∈es,Nu Sh e)/\Post v w
theorem Ga {Post:Value->World->Prop}(Q: ∀w w' es,D w w' es-> ∀e∈es,Nu Sh e) {gs:Array Goroutine} {a:Goroutine} {w:World} {sl:Option (Nat×Nat)} {t:Trace} {q:Nat->Nat} {n:Nat}
 (h0:gs[0]? =some a) (O:Leavers P t gs q) (R:KN Sh t) (M:Goes P true AtRel D (Of P Sh Post) n a w):
 ∃N last o w' t',runNT P (N+1) (crowd gs w sl) t=(.ended o w',t')/\runN P N (crowd gs w sl)= .next last/\step P last= .ended o w'/\Good P Post last o w' t':=by
 obtain⟨N,b,f,w',E,t',S,d,k,G,L,B,s,z,⟨F,v,es,r,y,m⟩,u⟩:=pV (λ_ _ h=>h.1) Q _ n gs a w sl t q rfl h0 O R M;have j:runT P (crowd b (w'.at d) k) 0=(.ended (.done v) (w'.at d),MemOp.ofEvents 0 f.frame.fn f.frame.place es):=by
  obtain⟨C,rfl⟩:=ib.1 B;have A:=swapAt_of_lt C {(default:Goroutine) with status:= .finished};show runT P {world:=w'.at d,gs:=b,rest:={timers:= #[],alone:=none,slice:=k}} 0=_;unfold runT;simp only[A,beq_self_eq_true,r,GStep.es]
 have p:=z.own f.frame.fn f.frame.place y;refine⟨N,crowd b w' E, .done v,w'.at d,t'++MemOp.ofEvents 0 f.frame.fn f.frame.place es, ?_, ?_, ?_,v,rfl,m,p.clean,p.over,⟨λg H=> ?_,rfl⟩,λi g x I=> ?_⟩
 ·rw[runNT_add,G];simp only[runNT,u,j]
 ·rw[<-runNT_fst P _ _ t,G]
 ·unfold step;rw[u,j]
 ·obtain⟨i,x⟩:=List.mem_iff_getElem?.1 H;rw[List.getElem?_drop] at x;have l:b[1+i]? =some g:=by simpa [crowd] using x
  exact⟨_,(s.old (1+i) g bl l).leaves⟩
 ·have l:b[i]? =some g:=x;have J:=s.old i g bl l;have K:(t'++MemOp.ofEvents 0 f.frame.fn f.frame.place es).deaf i (t'++MemOp.ofEvents 0 f.frame.fn f.frame.place es).size=Deaf t' i:=Deaf_other t' (g':=0) bl _ aL;rw[K];exact⟨_,J.hears _⟩
def Nk (P:Program)(Sh:Loc->Prop)(K:Goroutine->Goroutine->World->Prop)(g:Goroutine)(w:World):Prop:=
 g.status= .running/\ ∃g' child es,stepG P true g w= .spawn g' child w es/\(∀e∈es,Nu Sh e)/\K g' child w
theorem uV {p:KC}{Sh Sh':Loc->Prop}{c:Nat}{w:World}{t:Trace}(h:KN Sh t)(hs: ∀l,Sh l->Sh' l) (hc:Deaf t c=0) (f1 f2:FuncId) (p1 p2:String):
 La p Sh' c w (t++ #[{g:=0,fn:=f1,pos:=p1,act:= .go c},{g:=c,fn:=f2,pos:=p2,act:= .start}]) 0:=by
 have hu: ∀op∈(#[{g:=0,fn:=f1,pos:=p1,act:= .go c},{g:=c,fn:=f2,pos:=p2,act:= .start}]:Trace),op.act.touch? =none:=by
  intro op b;simp only[OJ,gn,Lr,or_false] at b;rcases b with rfl|rfl<;>rfl
 have y: ∀g,Deaf (t++ #[{g:=0,fn:=f1,pos:=p1,act:= .go c},{g:=c,fn:=f2,pos:=p2,act:= .start}]) g=Deaf t g:=λg=>by
  rw[show (#[{g:=0,fn:=f1,pos:=p1,act:= .go c},{g:=c,fn:=f2,pos:=p2,act:= .start}]:Trace)=([{g:=0,fn:=f1,pos:=p1,act:= .go c},{g:=c,fn:=f2,pos:=p2,act:= .start}]:List MemOp).toArray from rfl,Deaf_append];simp[deafStep]
 generalize d:(#[{g:=0,fn:=f1,pos:=p1,act:= .go c},{g:=c,fn:=f2,pos:=p2,act:= .start}]:Trace)=u at hu y;have n:(t++u)[t.size]? =some {g:=0,fn:=f1,pos:=p1,act:= .go c}:=by subst d;simp
 have m:(t++u)[t.size+1]? =some {g:=c,fn:=f2,pos:=p2,act:= .start}:=by subst d;simp
 have E:(t++u).heard t.size:=⟨0,by simp[Trace.g?,n],by rw[deaf_old (cD _)];exact h.hears⟩;have D:(t++u).heard (t.size+1):=⟨c,by simp[Trace.g?,m],by rw[deaf_succ n,deaf_old (cD _)];simp[deafStep];exact hc⟩;have f:HappensBefore (t++u) t.size (t.size+1):= .single (.inr ⟨.spawn (child:=c) (by rw[act?_of n]) (by rw[act?_of m]) (by simp[Trace.g?,m]),E,D⟩);refine⟨⟨λj=>dt (h.clean j) hu,λi a C hm=> ?_,λi g A h0 _ r=> ?_⟩,(y 0).trans h.hears,(y c).trans hc⟩
 ·obtain⟨x,B,e⟩:=touch_of C;rcases getElem?_append_cases B with ⟨F,o⟩|⟨_,z⟩
  ·rcases h.known i a (by rw[touchAt_of o];exact e) hm with k|⟨s,hk⟩
   ·exact .inl ⟨k.app u,t.size+1,_,m,rfl, .inr ((k.hb_new (cD _) n rfl).trans f)⟩
   ·exact .inr (.inl ⟨hs _ s, .inl hk⟩)
  ·rw[hu x z] at e;cases e
 ·exact(handedOver_app h.over λop b=> .inr (hu op b)) i g A h0 r
theorem uW {K:Goroutine->Goroutine->World->Prop}{Sh':Loc->Prop}{p:KC}(hs: ∀l,Sh l->Sh' l) (Y: ∀w w' es,D w w' es-> ∀e∈es,Nu Sh e) {gs:Array Goroutine} {a:Goroutine} {w:World} {sl:Option (Nat×Nat)} {t:Trace} {q:Nat->Nat} {n:Nat}
 (h0:gs[0]? =some a) (X:Leavers P t gs q) (Z:KN Sh t) (W:Goes P true AtRel D (Nk P Sh K) n a w):
 ∃(N:Nat) (k:Array Goroutine) (f b':Goroutine) (w':World) (A:Option (Nat×Nat)) (t':Trace) (I:Nat->Nat),
  runNT P N (crowd gs w sl) t=(.next (crowd k w' A),t')/\Ls P gs.size k f b' t' I/\La p Sh' gs.size w' t' 0/\K f b' w':=by
 obtain⟨N,k,f,w',A,t',I,d,m,V,s,x,o,E,⟨J,F,b,es,H,C,R⟩,G⟩:=pV (λ_ _ h=>h.1) Y _ n gs a w sl t q rfl h0 X Z W;have u:0<k.size:=(ib.1 x).1;have y:=runT_crowd_spawn (P:=P) (sl:=m) (i:=0) x (show stepG P (0==0) f (w'.at d)=_ from H);have B:=E.own f.frame.fn f.frame.place C;have r: ∀j,j≠0->Deaf (t'++MemOp.ofEvents 0 f.frame.fn f.frame.place es) j=Deaf t' j:=λj M=>Deaf_other t' (ft M) _ aL;have O:=uV (p:=p) (w:=w'.at d) (c:=gs.size) B hs (by rw[r _ bl];exact o.above _ bl) f.frame.fn b.frame.fn f.frame.place f.frame.place
 have T:t'++((MemOp.ofEvents 0 f.frame.fn f.frame.place es).push {g:=0,fn:=f.frame.fn,pos:=f.frame.place,act:= .go k.size}).push {g:=k.size,fn:=b.frame.fn,pos:=f.frame.place,act:= .start}
  =t'++MemOp.ofEvents 0 f.frame.fn f.frame.place es++ #[{g:=0,fn:=f.frame.fn,pos:=f.frame.place,act:= .go gs.size},{g:=gs.size,fn:=b.frame.fn,pos:=f.frame.place,act:= .start}]:=by
  rw[s];apply gm;simp
 have z: ∀g,Deaf (t'++MemOp.ofEvents 0 f.frame.fn f.frame.place es++ #[{g:=0,fn:=f.frame.fn,pos:=f.frame.place,act:= .go gs.size},{g:=gs.size,fn:=b.frame.fn,pos:=f.frame.place,act:= .start}]) g=Deaf (t'++MemOp.ofEvents 0 f.frame.fn f.frame.place es) g:=λg=>by
  rw[show (#[{g:=0,fn:=f.frame.fn,pos:=f.frame.place,act:= .go gs.size},{g:=gs.size,fn:=b.frame.fn,pos:=f.frame.place,act:= .start}]:Trace)=([{g:=0,fn:=f.frame.fn,pos:=f.frame.place,act:= .go gs.size},{g:=gs.size,fn:=b.frame.fn,pos:=f.frame.place,act:= .start}]:List MemOp).toArray from rfl,Deaf_append];simp[deafStep]
 refine⟨N+1,(k.setIfInBounds 0 F).push b,F,b,w'.at d,m,_,I, ?_,⟨by simp[s],bl, ?_, ?_,λi g Q U L=> ?_,λj M=> ?_⟩,O,R⟩
 ·rw[runNT_add,V];simp only[runNT,G,y,T]
 ·rw[Array.getElem?_push_lt (by simpa using u)];simp
 ·have e:gs.size=(k.setIfInBounds 0 F).size:=by simp[s]
  rw[e,Array.getElem?_push_size]
 ·have S:k[i]? =some g:=by
   rw[Array.getElem?_push,if_neg ao,m0 bl] at L;exact L
  rw[z,r i bl];exact o.old i g Q S
 ·rw[z,r j bl];exact o.above j bl
end
section
variable [Payload]{P:Program}{ty:TypeId}{Wg C Low:Nat} [Shy Wg C]{vals:List Value}{Mine:Loc->Prop}{AnchW:Goroutine->World->Prop}{Post:Value->World->Prop}{p:KC}{Sh Sh':Loc->Prop}{E Dn:Nat}{zE zD:Value}{PostB:World->Prop}{D:World->World->Array Event->Prop}
def Both (P:Program)(ty:TypeId)(Wg C Low:Nat) [Shy Wg C](vals:List Value)(Mine:Loc->Prop)(AnchW:Goroutine->World->Prop)(p:KC)(Sh':Loc->Prop)(E Dn:Nat)(zE zD:Value)(PostB:World->Prop)(a b:Goroutine)(w:World):Prop:=
 ∃vs,w.heap[E]? =some (.chan 0 #[] false 0 0 false)/\w.heap[Dn]? =some (.chan 0 #[] false 0 0 false)/\Lf P p E Dn zE zD PostB (Nj P ty Wg C Low vals Mine AnchW) vs a w/\LS P p Sh' E Dn PostB (Lt P ty Wg C Low vals Mine) vs b w
theorem D7 (hs: ∀l,Sh l->Sh' l) (hF: ∀c,c≠0->Fix Wg C Low Mine p Sh' c) (c':E≠Dn) (X:E≠Wg/\E≠C) (Y:Dn≠Wg/\Dn≠C) (T:Dn<p.N0) (d': ∀l,Sh' l->l≠ .obj Dn) (b': ∀w,p.N0<=w.heap.size-> ∀e,EvQ Mine Wg C 1 e->EvB p Sh' w e)
 (U: ∀e,EvJ Mine Wg C e->Nu Sh' e)
 (S: ∀w b,RB p E Dn w b->PostB w->PostB b) (R: ∀w b,Aside2 C Wg w b->PostB w->PostB b) (Z: ∀w,PostB w->p.N0<=w.heap.size)
 (W: ∀g w,AnchW g w->g.status= .running) (Q: ∀g w,AnchW g w-> ∃m,Goes P true (RPa ty Wg C vals) (DPi Mine Wg C Low) (AtW1 P ty Wg C Low vals Mine AnchW Post) m g w)
 (hD: ∀w w' es,D w w' es-> ∀e∈es,Nu Sh e) {gs:Array Goroutine} {a:Goroutine} {w:World} {sl:Option (Nat×Nat)} {t:Trace} {q:Nat->Nat} {n:Nat}
 (h0:gs[0]? =some a) (hL:Leavers P t gs q) (hP:KN Sh t) (hG:Goes P true AtRel D (Nk P Sh (Both P ty Wg C Low vals Mine AnchW p Sh' E Dn zE zD PostB)) n a w):
 ∃(N:Nat) (o:Array Goroutine) (a':Goroutine) (w':World) (V:Option (Nat×Nat)) (t':Trace) (q':Nat->Nat),
  runNT P N (crowd gs w sl) t=(.next (crowd o w' V),t')/\o.size=gs.size+1/\o[0]? =some a'/\a'.status= .running/\(∃d,Shy.stop Wg C a' (w'.at d))/\Leavers P t' o q'/\KN Sh' t':=by
 have e':0<gs.size:=(ib.1 h0).1;obtain⟨N1,u,a1,b1,w1,r,t1,q1,r1,Cr,hT,vs,hE,M,z,J⟩:=uW (p:=p) (sl:=sl) hs hD h0 hL hP hG;obtain⟨nA,z⟩:=(cV _ _ _ _ _ _ _ _ _ _ _).1 z;obtain⟨nB,J⟩:=(fq _ _ _ _ _ _ _ _ _ _).1 J
 obtain⟨N2,M2,t2,r2,s,a2,b2,w2,L,q2,k,m,rfl,f,y,G,F⟩:=pU (hF gs.size bl) c' X Y T d' b' S R Z W Q _ _ _
  (⟨u,a1,b1,w1,r,q1,vs,0,nA+1,nB+1,rfl,Cr,hT,hE,M, .inl ⟨nA,rfl,z⟩, .inl ⟨nB,rfl,J⟩,bl,rfl⟩:Inv1 P p Sh' E Dn zE zD PostB (Lt P ty Wg C Low vals Mine) (Nj P ty Wg C Low vals Mine AnchW) gs.size _ (crowd u w1 r) t1)
 have A:Leavers P t2 s (upd q2 gs.size k):=⟨λi g hi x=>by
  by_cases e:i=gs.size
  ·subst e;rw[f.hc] at x;obtain rfl:=gu x;rw[upd_same];exact G
  ·have f':=(ib.1 x).1;rw[upd_ne _ _ e];exact f.old i g hi (by have:=f.size;omega) x,
  λj hj=>f.above j (by have:=f.size;omega)⟩
 obtain⟨N3,I,a3,w3,H,t3,q3,d,g',r3,z3,K,O,B,hS,_⟩:=pV (λ_ _ h=>h.1) (λ_ _ _ hd e he=>U e (hd.2 e he)) _ m s a2 w2 L t2 _ rfl f.h0 A y F;refine⟨N1+N2+N3,I,a3,w3,H,t3,q3, ?_,by have:=f.size;omega,K,hS.1,⟨d,hS.2⟩,O,B⟩;rw[runNT_add,runNT_add,r1];simp only[r2];exact r3
end
end Go.Hx
namespace Go.Hx
open Go.Conc Go.RowKit
variable {p:KC}{Sh:Loc->Prop}{E Dn:Nat}{w w₁ w':World}
theorem eL (p:KC)(Sh:Loc->Prop)(E Dn:Nat):Terms (RB p E Dn) (DT p Sh E Dn):=⟨RB.trans,λw=>⟨RA.refl p w,rfl,rfl,bE⟩⟩
theorem fu (w:World)(o:Obj){b:Nat}(h:b≠w.heap.size):(w.alloc o).heap[b]? =w.heap[b]? :=by
 show (w.heap.push o)[b]? =w.heap[b]?;rw[Array.getElem?_push,if_neg h]
theorem uX (w:World)(o:Obj):(w.alloc o).heap[w.heap.size]? =some o:=by
 show (w.heap.push o)[w.heap.size]? =some o;simp
theorem iz (w:World)(o:Obj):(w.alloc o).heap.size=w.heap.size+1:=by
 show (w.heap.push o).size=w.heap.size+1;simp
theorem fZ (w:World)(a:Addr)(v:Value){b:Nat}(h:b≠a.block):(w.setCell a v).heap[b]? =w.heap[b]? :=by
 simp[World.setCell,Array.getElem?_modify,ft h]
theorem kL {es:Array Event}(a: ∀e∈es,EvB p Sh w e):DT p Sh E Dn w w es:=⟨RA.refl p w,rfl,rfl,a⟩
end Go.Hx
namespace Go.Hx
open Go.Conc
end Go.Hx
namespace Go.Hx
open Go.Conc Go.RowKit
structure Kn (σ:Type) where
 R:σ->World->World->Prop
 D:σ->World->World->Array Event->Prop
 Stop:σ->Goroutine->World->Prop
 terms: ∀s,Terms (R s) (D s)
section
variable {σ:Type}(F:Kn σ)(P:Program)(main:Bool)(fn:FuncId)
def MG (c:Code)(n:Nat)(s:σ)(Q:σ->Exit->Act->World->Prop)(a:Act)(w:World):Prop:=
 ∀(b:Frame)(k:List Item)(cs:List Frame)(m:Nat),b.fn=fn->b.kind≠ .early->
  (∀s' e a' w',Q s' e a' w'->After P main (F.R s') (F.D s') (F.Stop s') m b k cs e a' w')->Goes P main (F.R s) (F.D s) (F.Stop s) (m+n) (G (b.at a (.code c::k)) cs) w
def Lp (ops:Array Oper)(todo:List Nat)(n:Nat)(s:σ)(Q:σ->Exit->Act->World->Prop)(a:Act)(w:World):Prop:=
 ∀(b:Frame)(k:List Item)(cs:List Frame)(m:Nat),b.fn=fn->b.kind≠ .early->
  (∀s' e a' w',Q s' e a' w'->After P main (F.R s') (F.D s') (F.Stop s') m b k cs e a' w')->Goes P main (F.R s) (F.D s) (F.Stop s) (m+n) (G (b.at a (.inRegion ops todo::k)) cs) w
def Mo (c:Code)(n:Nat)(s:σ)(Q:σ->Exit->Act->World->Prop)(a:Act)(w:World):Prop:=
 ∀(b:Frame)(k:List Item)(cs:List Frame)(m:Nat),b.fn=fn->b.kind≠ .early->
  (∀s' e a' w',Q s' e a' w'->After P main (F.R s') (F.D s') (F.Stop s') m b k cs e a' w')->Goes P main (F.R s) (F.D s) (F.Stop s) (m+n) (G (b.at a (.inLoop c::k)) cs) w
def KQ (K:σ->Act->World->Prop)(Q:σ->Exit->Act->World->Prop):σ->Exit->Act->World->Prop:=λs=>Exit.then (K s) (Q s)
def BodyX (f:Func)(Post:σ->Value->World->Prop):σ->Exit->Act->World->Prop:=λs=>bodyPostC P f (Post s)
def Ld (f:FuncId)(args:Array Value)(n:Nat)(s:σ)(w:World)(Post:σ->Value->World->Prop):Prop:=
 ∃fn c,P.funcs[f]? =some fn/\(fn.name== "runtime.NumGoroutine")=false/\fn.body=some c/\
  MG F P main f c n s (BodyX P fn Post) {tmps:=args++Array.replicate (fn.ntmps-args.size) undef,defers:=[]} w
end
section
variable {σ:Type}{F:Kn σ}{P:Program}{main:Bool}{fn:FuncId}{Q:σ->Exit->Act->World->Prop}{s:σ}{a:Act}{w:World}
theorem jS {c:Code}{n:Nat}(h:c.wpC P main (F.R s) (F.D s) fn n (Q s) a w):MG F P main fn c n s Q a w:=
 λb k cs m hb d hc=>h b k cs _ m hb d (hc s)
theorem AN {ops:Array Oper}{todo:List Nat}{n:Nat}(h:OpsC P main (F.R s) (F.D s) fn ops todo n (Q s) a w):Lp F P main fn ops todo n s Q a w:=
 λb k cs m hb d hc=>h b k cs _ m hb d (hc s)
theorem wY {c:Code}{n:Nat}{d:World}(h:MG F P main fn c n s Q a w)(hr:F.R s w d):MG F P main fn c n s Q a d:=
 λb k cs m hb e hc=>(h b k cs m hb e hc).rely (F.terms s).trans hr
theorem pW {f:FuncId}{args:Array Value}{n:Nat}{Post:σ->Value->World->Prop}{a:World}(h:Ld F P main f args n s w Post)(hr:F.R s w a):Ld F P main f args n s a Post:=by
 obtain⟨g,c,e,d,i,b⟩:=h;exact⟨g,c,e,d,i,wY b hr⟩
theorem pX {c:Code}{n d:Nat}(h:MG F P main fn c n s Q a w)(hn:n<=d):MG F P main fn c d s Q a w:=
 λb k cs m hb e hc=>(h b k cs m hb e hc).mono bl
theorem fw {ops:Array Oper}{todo:List Nat}{n d:Nat}(h:Lp F P main fn ops todo n s Q a w)(hn:n<=d):Lp F P main fn ops todo d s Q a w:=
 λb k cs m hb e hc=>(h b k cs m hb e hc).mono bl
theorem fx {c:Code}{n:Nat}{i:σ->Exit->Act->World->Prop}(h:MG F P main fn c n s Q a w)(hq: ∀s e a w,Q s e a w->i s e a w):MG F P main fn c n s i a w:=
 λb k cs m hb j hc=>h b k cs m hb j λf e g d q=>hc f e g d (hq f e g d q)
theorem iA {K:σ->Act->World->Prop}{b:Frame}{x:Item}{k:List Item}{cs:List Frame}{m d:Nat}(hx:x.plain=true)(hm:m<=d)
 (hc: ∀s' e a w',Q s' e a w'->After P main (F.R s') (F.D s') (F.Stop s') m b k cs e a w')
 (f: ∀s' a w',K s' a w'->Goes P main (F.R s') (F.D s') (F.Stop s') d (G (b.at a (x::k)) cs) w'):
 ∀s' e a w',KQ K Q s' e a w'->After P main (F.R s') (F.D s') (F.Stop s') d b (x::k) cs e a w':=by
 intro s' e a w' q;cases e with
 |normal=>exact f s' a w' q
 |exit id=>exact((hc _ _ _ _ q).mono hm).push hx bE
 |ret=>exact((hc _ _ _ _ q).mono hm).push (x:=x) hx bE
 |goto l=>exact hc _ _ _ _ q
 |panic ch=>exact hc _ _ _ _ q
 |outgrown=>exact hc _ _ _ _ q
theorem cn {x y:Code}{n₁ n₂:Nat}(h:MG F P main fn x n₁ s (KQ (λs' i w'=>MG F P main fn y n₂ s' Q i w') Q) a w):MG F P main fn (Code.seq x y) (n₁+n₂+1) s Q a w:=by
 intro b k cs m hb f hc;have j:=h b (.code y::k) cs (m+n₂) hb f (iA rfl (Ot _ _) hc λs' i w' q=>q b k cs m hb f hc);have e:m+(n₁+n₂+1)=(m+n₂+n₁)+1:=bl
 rw[e];exact Goes.step rfl λg d=>by rw[stepG_seq];exact⟨(F.terms s).idle _,j.rely (F.terms s).trans d⟩
theorem gd {c:Operand}{x y:Code}{t:Bool}{n:Nat}(hc:a.eval c= .bool t)(h:MG F P main fn (if t then x else y) n s Q a w):MG F P main fn (Code.cond c x y) (n+1) s Q a w:=
 λb k cs m hb f g=>Goes.step rfl λe d=>by rw[stepG_cond hc];exact⟨(F.terms s).idle _,(h b k cs m hb f g).rely (F.terms s).trans d⟩
theorem eH {id:Nat}{c:Code}{n:Nat}(h:MG F P main fn c n s (λs'=>Exit.inBlock id (Q s')) a w):MG F P main fn (Code.block id c) (n+2) s Q a w:=by
 intro b k cs m hb u hc;have r:Goes P main (F.R s) (F.D s) (F.Stop s) (m+1+n) (G (b.at a (.code c:: .inBlock id::k)) cs) w:=by
  refine h b (.inBlock id::k) cs (m+1) hb u λs' e y x q=> ?_;cases e with
  |normal=>exact Goes.step rfl λi d=>by rw[stepG_inBlock];exact⟨(F.terms s').idle _,Goes.rely (F.terms s').trans (hc _ _ _ _ q) d⟩
  |exit id'=>
   by_cases f:id'=id
   ·simp only[Exit.inBlock,f,if_true] at q;exact⟨k,by simp[exitTo,f],Goes.more (hc _ _ _ _ q)⟩
   ·simp only[Exit.inBlock,f,if_false] at q;obtain⟨o,j,p⟩:=hc _ _ _ _ q;have:(id==id')=false:=by simp;exactλh=>f h.symm
    exact⟨o,by simp[exitTo,this,j],p.more⟩
  |ret=>exactλg=>(hc _ _ _ _ q g).more
  |goto l=>exact hc _ _ _ _ q
  |panic ch=>exact hc _ _ _ _ q
  |outgrown=>exact hc _ _ _ _ q
 have e:m+(n+2)=(m+1+n)+1:=bl
 rw[e];exact Goes.step rfl λi d=>by rw[stepG_block];exact⟨(F.terms s).idle _,r.rely (F.terms s).trans d⟩
theorem m6 {c:Code}{n₁ n₂:Nat}(h:MG F P main fn c n₁ s (KQ (λs' i w'=>Mo F P main fn c n₂ s' Q i w') Q) a w):MG F P main fn (Code.loop c) (n₁+n₂+1) s Q a w:=by
 intro b k cs m hb f hc;have j:=h b (.inLoop c::k) cs (m+n₂) hb f (iA rfl (Ot _ _) hc λs' i w' q=>q b k cs m hb f hc);have e:m+(n₁+n₂+1)=(m+n₂+n₁)+1:=bl
 rw[e];exact Goes.step rfl λg d=>by rw[stepG_loop];exact⟨(F.terms s).idle _,j.rely (F.terms s).trans d⟩
theorem r9 {c:Code}{n₁ n₂:Nat}(h:MG F P main fn c n₁ s (KQ (λs' i w'=>Mo F P main fn c n₂ s' Q i w') Q) a w):Mo F P main fn c (n₁+n₂+1) s Q a w:=by
 intro b k cs m hb f hc;have j:=h b (.inLoop c::k) cs (m+n₂) hb f (iA rfl (Ot _ _) hc λs' i w' q=>q b k cs m hb f hc);have e:m+(n₁+n₂+1)=(m+n₂+n₁)+1:=bl
 rw[e];exact Goes.step rfl λg d=>by rw[stepG_inLoop];exact⟨(F.terms s).idle _,j.rely (F.terms s).trans d⟩
theorem bt {id:Nat}{ops:Array Oper}{n:Nat}(h:Lp F P main fn ops (List.range ops.size) n s Q a w):MG F P main fn (Code.region id ops false) (n+1) s Q a w:=
 λb k cs m hb f hc=>Goes.step rfl λe d=>by rw[stepG_region];exact⟨(F.terms s).idle _,(h b k cs m hb f hc).rely (F.terms s).trans d⟩
theorem bG {ops:Array Oper}(h:Q s .normal a w):Lp F P main fn ops [] 1 s Q a w:=AN (opsC_nil (F.terms s) h)
theorem jT {ops:Array Oper}{i:Nat}{rest:List Nat}{o:Oper}{n:Nat}(ho:ops[i]? =some o)(hw:Region.wanted o (yielded ops a.tmps)=true)
 (h: ∀e,F.R s w e->uponK o a (λl w'=>F.D s e w' (listed P fn a o e)/\Lp F P main fn ops rest n s Q l w') ((execOp a.eval o).run P e)):Lp F P main fn ops (i::rest) (n+1) s Q a w:=by
 intro b k cs m hb j hc;refine Goes.step rfl λe f=>goes_oper ho hw j ?_;have:=h e f
 revert this
 cases (execOp a.eval o).run P e with
 |ok x w'=>cases x<;>first|exactλ⟨d,g⟩=>⟨hb▸d,g b k cs m hb j hc⟩|exact id
 |halt _ _=>exact id
theorem aD {ops:Array Oper}{i:Nat}{rest:List Nat}{o:Oper}{n:Nat}(ho:ops[i]? =some o)(hw:Region.wanted o (yielded ops a.tmps)=true)
 (h: ∀b,F.R s w b-> ∀K:Act->World->Prop,(∀e w',F.D s b w' (listed P fn a o b)/\Lp F P main fn ops rest n s Q e w'->K e w')->uponK o a K ((execOp a.eval o).run P b)):Lp F P main fn ops (i::rest) (n+1) s Q a w:=
 jT ho hw λb d=>h b d _ λ_ _ x=>x
theorem ik {ops:Array Oper}{i:Nat}{rest:List Nat}{o:Oper}{n:Nat}(ho:ops[i]? =some o)(hw:Region.wanted o (yielded ops a.tmps)=false)
 (h:Lp F P main fn ops rest n s Q (a.put o.dst undef) w):Lp F P main fn ops (i::rest) (n+1) s Q a w:=
 λb k cs m hb f hc=>Goes.step rfl λe d=>by rw[stepG_unwanted ho hw];exact⟨(F.terms s).idle _,(h b k cs m hb f hc).rely (F.terms s).trans d⟩
theorem fj {f:FuncId}{g:Func}{c:Code}{args:Array Value}{n:Nat}{Post:σ->Value->World->Prop}(hf:P.funcs[f]? =some g)(hname:(g.name== "runtime.NumGoroutine")=false)(hb:g.body=some c)
 (h:MG F P main f c n s (BodyX P g Post) {tmps:=args++Array.replicate (g.ntmps-args.size) undef,defers:=[]} w):Ld F P main f args n s w Post:=⟨g,c,hf,hname,hb,h⟩
theorem sd {b:Frame}{k:List Item}{cs:List Frame}{ops:Array Oper}{i:Nat}{rest:List Nat}{o:Oper}{f:FuncId}{args:Array Operand}{C:Array TypeId}
 {nf m:Nat} {Post:σ->Value->World->Prop}
 (ho:ops[i]? =some o) (hw:Region.wanted o (yielded ops a.tmps)=true) (L:b.kind≠ .early) (E:o.op= .call {callee:= .value (.func f),args,argTypes:=C})
 (hcall:Ld F P main f (args.map a.eval) nf s w Post)
 (z: ∀s' v w',Post s' v w'->Goes P main (F.R s') (F.D s') (F.Stop s') m (G (b.at (a.put o.dst v) (.inRegion ops rest::k)) cs) w'):
 Goes P main (F.R s) (F.D s) (F.Stop s) (m+nf+3) (G (b.at a (.inRegion ops (i::rest)::k)) cs) w:=by
 obtain⟨g,c,H,u,x,B⟩:=hcall;have A: ∀v,(b.at a (.inRegion ops (i::rest)::k)).finish v=b.at (a.put o.dst v) (.inRegion ops rest::k):=λv=>by rw[Frame.finish_at,ho];rfl
 have n: ∀(s':σ)(y:Act)(w':World)(j:List Item),(y.defers=[]/\ ∃v,ResultsC P g y.tmps v/\Post s' v w')->
  Goes P main (F.R s') (F.D s') (F.Stop s') (m+1) (G {(base f).at y j with mode:= .returning} (b.at a (.inRegion ops (i::rest)::k)::cs)) w':=by
  rintro s' y w' j ⟨K,v,I,J⟩;refine Goes.step rfl λp d=> ?_;rw[stepG_leave (b:=base f) rfl K H (I p).1 (I p).2,A];exact⟨(F.terms s').idle _,(z s' v w' J).rely (F.terms s').trans d⟩
 have r:Goes P main (F.R s) (F.D s) (F.Stop s) (m+2+nf) (G ((base f).at {tmps:=args.map a.eval++Array.replicate (g.ntmps-(args.map a.eval).size) undef,defers:=[]} [.code c]) (b.at a (.inRegion ops (i::rest)::k)::cs)) w:=by
  refine B (base f) [] _ (m+2) rfl (by simp[base]) λs' e y w' q=> ?_;cases e with
  |normal=>exact Goes.step rfl λp d=>by rw[stepG_end];exact⟨(F.terms s').idle _,(n s' y w' [] q).rely (F.terms s').trans d⟩
  |ret=>exactλj=>(n s' y w' j q).more
  |exit id=>exact q.elim
  |goto l=>exact q.elim
  |panic ch=>exact q.elim
  |outgrown=>exact q.elim
 have e:m+nf+3=(m+2+nf)+1:=bl
 rw[e];exact Goes.step rfl λp d=>goes_call ho hw L E H u x ⟨(F.terms s).idle _,r.rely (F.terms s).trans d⟩
theorem gP {ops:Array Oper}{i:Nat}{rest:List Nat}{o:Oper}{f:FuncId}{args:Array Operand}{e:Array TypeId}{nf n:Nat}{Post:σ->Value->World->Prop}
 (ho:ops[i]? =some o) (hw:Region.wanted o (yielded ops a.tmps)=true) (g:o.op= .call {callee:= .value (.func f),args,argTypes:=e})
 (hcall:Ld F P main f (args.map a.eval) nf s w Post) (d: ∀s' v w',Post s' v w'->Lp F P main fn ops rest n s' Q (a.put o.dst v) w'):Lp F P main fn ops (i::rest) (n+nf+3) s Q a w:=by
 intro b k cs m hb j hc;have:=sd (m:=m+n) (b:=b) (k:=k) (cs:=cs) ho hw j g hcall λs' v w' l=>d s' v w' l b k cs m hb j hc;exact this.mono bl
end
section
variable {σ:Type}(F:Kn σ)(P:Program)(main:Bool)(fn:FuncId)(ops:Array Oper)(md:Region.Mode)(S:σ->World->Prop)(Q:σ->Exit->Act->World->Prop)(nf:Nat)
def OpX (i:Nat)(K:σ->Act->World->Prop)(s:σ)(a:Act)(w:World):Prop:=
 OpC P (F.R s) (F.D s) fn ops i (K s) a w\/
 ∃o f args ats Post,ops[i]? =some o/\Region.wanted o (yielded ops a.tmps)=true/\o.op= .call {callee:= .value (.func f),args:=args,argTypes:=ats}/\Ld F P main f (args.map a.eval) nf s w Post/\
  ∀s' v w',Post s' v w'->K s' (a.put o.dst v) w'
end
section
variable {σ:Type}{F:Kn σ}{P:Program}{main:Bool}{fn:FuncId}{ops:Array Oper}{md:Region.Mode}{S:σ->World->Prop}{Q:σ->Exit->Act->World->Prop}{nf:Nat}
theorem pY {i:Nat}{s:σ}{a:Act}{w:World}{K e:σ->Act->World->Prop}(h: ∀s a w,K s a w->e s a w) (hh:OpX F P main fn ops nf i K s a w):OpX F P main fn ops nf i e s a w:=by
 rcases hh with x|⟨o,f,args,d,b,m,n,p,k,g⟩
 ·exact .inl (OpC_mono (h s) x)
 ·exact .inr ⟨o,f,args,d,b,m,n,p,k,λr v l j=>h _ _ _ (g r v l j)⟩
theorem p5 {i:Nat}{rest:List Nat}{n:Nat}{s:σ}{a:Act}{w:World}(h:OpX F P main fn ops nf i (λs' p w'=>Lp F P main fn ops rest n s' Q p w') s a w):Lp F P main fn ops (i::rest) (n+nf+3) s Q a w:=by
 rcases h with h|⟨o,f,args,e,d,k,l,m,j,g⟩
 ·unfold OpC at h
  split at h
  ·exact h.elim
  ·rename_i o b
   split at h
   ·rename_i hw;exact fw (jT b hw h) bl
   ·rename_i hw;exact fw (ik b (by simpa using hw) h) bl
 ·exact gP k l m j g
def Nl (F:Kn σ)(P:Program)(fn:FuncId)(ops:Array Oper)(S:σ->World->Prop)(o:Oper)(v:Value)(a:Act):Prop:= ∀s,YieldsIfC P (F.D s) fn ops (S s) o v a
theorem Nl.opX (b: ∀s x y,S s x->F.R s x y->S s y) {i:Nat} {o:Oper} {v:Value} {s:σ} {a:Act} (hi:ops[i]? =some o) (hy:Nl F P fn ops S o v a)
 {K:σ->Act->World->Prop} (d: ∀s a x y,K s a x->F.R s x y->K s a y) {w:World} (e:S s w) (h:K s (a.put o.dst v) w):OpX F P main fn ops nf i K s a w:=
 .inl ((hy s).opC (b s) hi (d s) e h)
end
end Go.Hx
