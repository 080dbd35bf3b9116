/-
  Part 8 of the proof.
  No condition but those that each statement names.
-/
import Derived.Test.YtejkelcaljmnoaaGreatDoorHy07
import Derived.Test.YtejkelcaljmnoaaGreatDoorRows
import Derived.LaidLaws
import Derived.LaidHandle
import Derived.ChangeSame
import Derived.ChangeVars
set_option maxRecDepth 100000
set_option maxHeartbeats 4000000
set_option linter.unusedVariables false
set_option linter.unusedSimpArgs false
set_option linter.unusedSectionVars false
namespace Go.Proofs.YtejkelcaljmnoaaGreatDoor
open Go.ChangeShapes Go.WideShapes Go.RowKit Go.Conc Go.Hx Go.Lo
theorem Tryz.own:ownKnob Tryz.prog.godebug=none:=by kernel_rfl
theorem Tryz.et:Tryz.prog.globalNamed "errors.errorType" =some 2:=by kernel_rfl
theorem Tryz.rt:(Tryz.prog.cutTypes.find? (·.1== "internal/reflectlite.rtype")).map (·.2)=some 216:=by kernel_rfl
theorem Tryz.oneRow:((List.range Tryz.prog.types.size).filter fun t=>Tryz.prog.rowNamed t [101,114,114,111,114])=[168]:=by kernel_rfl
theorem Tryz.cells275:Tryz.prog.cellsOf 275=1:=by kernel_rfl
theorem Tryz.cells9:Tryz.prog.cellsOf 9=1:=by kernel_rfl
theorem Tryz.star: "*" ++ "errors.errorString" = "*errors.errorString" :=by decide
theorem Tryz.row255 (u:TypeId)(h:Tryz.prog.typeName? 3 u=some "*errors.errorString"):u=255:=
 typeName_ptr_named (nm:= "errors.errorString") (by rw[Tryz.star];kernel_rfl) (by kernel_rfl) (by decide) u (by rw[Tryz.star];exact h)
theorem ui {α:Type}{l:List α}(h:l.Nodup){i j:Nat}(hi:i<l.length)(hj:j<l.length)(e:l[i]=l[j]):i=j:=by
 rcases Nat.lt_trichotomy i j with g|g|g
 ·exact absurd e (List.pairwise_iff_getElem.1 h i j hi hj g)
 ·exact g
 ·exact absurd e.symm (List.pairwise_iff_getElem.1 h j i hj hi g)
def Snt (W:World)(g:Nat)(a:Nat×Nat):Prop:=W.cell? ⟨g,0,none⟩=some (.iface 255 (ptq a))/\ ∃c t,W.heap[a.1]? =some (.cells c t (0,0))
def sntD (text:List UInt8):DataW Unit:= .iface "*errors.errorString" (.ptr (.agg [.lit (.string text)]))
def sntP (x:String×Nat×List UInt8):String×DataW Unit:=(x.1,sntD x.2.2)
theorem zZ {W:World}{ps:List MemPlace}(fz: ∀b off,MemPlace.cell b off∈ps->(∃c t,W.heap[b]? =some (.cells c t (0,0)))/\ ∀u v,W.cell? ⟨b,off,none⟩=some (.iface u v)->Value.okWide Tryz.prog W .any 0 u v):
 ∀(l:List (String×Nat×List UInt8))(qs:List MemPlace),(∀x∈l,Tryz.prog.globalNamed x.1=some x.2.1/\(Tryz.prog.globals[x.2.1]?).map (·.type)=some 168)->DataW.LaidVars Tryz.prog W (l.map sntP) qs->(∀p∈qs,p∈ps)->
 ∃zs:List (Nat×Nat),zs.length=l.length/\(∀(k:Nat)(x:String×Nat×List UInt8)(a:Nat×Nat),l[k]? =some x->zs[k]? =some a->Snt W x.2.1 a)/\(zs.map fun a=>MemPlace.cell a.1 a.2).Sublist qs
 |[],qs,_,h,_=>by
  obtain rfl:qs=[]:=h;exact⟨[],rfl,fun k x a hx=>by simp at hx,List.Sublist.refl _⟩
 |x::l,qs,hx,h,hs=>by
  obtain⟨g,t,cs,f,p,q,hg,ht,hv,hd,hr,rfl⟩:=h;obtain⟨h1,h2⟩:=hx x List.mem_cons_self;obtain rfl:=Option.some.inj (h1.symm.trans hg);obtain rfl:=Option.some.inj (h2.symm.trans ht);obtain⟨zs,e1,e2,e3⟩:=zZ fz l q (fun y hy=>hx y (List.mem_cons_of_mem _ hy)) hr fun y hy=>hs y (List.mem_append_right _ hy);obtain⟨cl⟩:=cs;have ok: ∀u v,cl=[.iface u v]->Value.okWide Tryz.prog W .any 0 u v:=fun u v e=>by
   subst e;exact(fz x.2.1 0 (hs _ (by simp[MemPlace.row]))).2 u v (by simpa using World.var?_cell hg hv 0)
  obtain⟨ad,s,rfl,hc,_,_,rfl⟩:=errorString_of_trod Tryz.underlying168 Tryz.row255 Tryz.underlying255 Tryz.underlying275 rfl rfl U9 Tryz.cells275 Tryz.cells9 hd ok;have hsp:ad.spot=none:=by
   unfold World.cell? at hc
   split at hc
   ·split at hc
    ·cases hc
    ·rename_i hn;simpa using hn
   ·cases hc
  obtain⟨ab,ao,asp⟩:=ad;obtain rfl:asp=none:=hsp;refine⟨(ab,ao)::zs,by simp[e1],fun k y a hy ha=> ?_, ?_⟩
  ·cases k with
   |zero=>
    obtain rfl:x=y:=by simpa using hy
    obtain rfl:(ab,ao)=a:=by simpa using ha
    exact⟨by simpa using World.var?_cell hg hv 0,(fz ab ao (hs _ (by simp[MemPlace.row]))).1⟩
   |succ k=>exact e2 k y a (by simpa using hy) (by simpa using ha)
  ·simp only[MemPlace.row,List.map_cons,List.size_toArray,List.length_cons,List.length_nil,Nat.zero_add,List.range_one,List.map_nil,List.cons_append,List.nil_append,Nat.add_zero];exact(e3.cons_cons _).cons _
def sntL:List (String×Nat×List UInt8):=[("hearth/hearth.errNoInsn",0,[116,104,101,114,101,32,105,115,32,110,111,32,115,117,99,104,32,105,110,115,116,114,117,99,116,105,111,110]),
 ("hearth/hearth.errNoOperator",1,[116,104,101,114,101,32,105,115,32,110,111,32,115,117,99,104,32,111,112,101,114,97,116,111,114]),
 ("hearth/hearth.errNoByte",10,[116,104,101,114,101,32,105,115,32,110,111,32,115,117,99,104,32,98,121,116,101,32,111,102,32,109,101,109,111,114,121]),
 ("hearth/hearth.errBadFile",3,[110,111,32,115,117,99,104,32,102,105,108,101,44,32,111,114,32,110,111,116,32,111,102,32,116,104,97,116,32,107,105,110,100]),
 ("hearth/hearth.errFull",4,[116,104,101,114,101,32,105,115,32,110,111,32,114,111,111,109,32,102,111,114,32,111,110,101,32,109,111,114,101]),
 ("hearth/hearth.errNoChild",5,[116,104,101,114,101,32,105,115,32,110,111,32,99,104,105,108,100]),
 ("hearth/hearth.errNoProc",6,[116,104,101,114,101,32,105,115,32,110,111,32,115,117,99,104,32,112,114,111,99,101,115,115]),
 ("hearth/hearth.errNoReader",7,[110,111,98,111,100,121,32,99,97,110,32,114,101,97,100,32,116,104,97,116]),
 ("hearth/hearth.errBadAddr",8,[109,101,109,111,114,121,32,116,104,97,116,32,116,104,101,114,101,32,105,115,32,110,111,116]),
 ("hearth/hearth.errBadCall",9,[110,111,32,115,117,99,104,32,99,97,108,108,44,32,111,114,32,110,111,116,32,119,105,116,104,32,116,104,97,116])]
theorem uj {W:World}(h:laidMetH Tryz.prog Rows.sumsRow.laid W): ∃eb,Ers eb (base0 W):=by
 obtain⟨h1,h2⟩:laidMet Tryz.prog (sntL.map sntP) W/\handlesMet Tryz.prog [("errors.errorType",Rows.laid_errors_errorType)] W:=h;obtain⟨ps,hL,hn,fz⟩:=h1;obtain⟨zs,e1,e2,e3⟩:=zZ fz sntL ps (by
  intro x hx;simp only[sntL,List.mem_cons,List.not_mem_nil,or_false] at hx;rcases hx with rfl|rfl|rfl|rfl|rfl|rfl|rfl|rfl|rfl|rfl<;>exact⟨by kernel_rfl,by kernel_rfl⟩) hL (fun _ h=>h)
 have hnd:(zs.map fun a=>MemPlace.cell a.1 a.2).Nodup:=e3.nodup hn;have e1:zs.length=10:=e1;have hS: ∀i,i<11->i≠2->Snt W i (zs.getD (if i=10 then 2 else i) (0,0)):=fun i hi h2=>by
  have hk:(if i=10 then 2 else i)<zs.length:=by split<;>omega
  have ha:zs[if i=10 then 2 else i]? =some (zs.getD (if i=10 then 2 else i) (0,0)):=by
   rw[List.getD_eq_getElem?_getD,List.getElem?_eq_getElem hk];rfl
  have hc:i=0\/i=1\/i=3\/i=4\/i=5\/i=6\/i=7\/i=8\/i=9\/i=10:=by omega
  rcases hc with rfl|rfl|rfl|rfl|rfl|rfl|rfl|rfl|rfl|rfl<;>exact e2 _ _ _ rfl ha
 refine⟨fun i=>zs.getD (if i=10 then 2 else i) (0,0),fun i hi h2=>qa (hS i hi h2).1, ?_,fun i hi h2=> ?_,fun i j hi hj hi2 hj2 e=> ?_⟩
 ·obtain⟨name,u,ty,g1,g2,g3,g4,g5⟩:=h2 _ (List.mem_singleton.2 rfl);have en:name=[101,114,114,111,114]:=(Option.some.inj g1).symm;subst en;have hm:ty∈(List.range Tryz.prog.types.size).filter fun t=>Tryz.prog.rowNamed t [101,114,114,111,114]:=List.mem_filter.2 ⟨List.mem_range.2 g3,g4⟩;rw[Tryz.oneRow] at hm;obtain rfl:=List.mem_singleton.1 hm;obtain rfl:=Option.some.inj (Tryz.rt.symm.trans g2);refine qa ?_;have:=World.var?_cell Tryz.et g5 0;exact this
 ·obtain⟨c,t,hh⟩:=(hS i hi h2).2;exact⟨false,c,t,jG hh⟩
 ·have hki:(if i=10 then 2 else i)<zs.length:=by split<;>omega
  have hkj:(if j=10 then 2 else j)<zs.length:=by split<;>omega
  simp only[List.getD_eq_getElem?_getD,List.getElem?_eq_getElem hki,List.getElem?_eq_getElem hkj,Option.getD_some] at e;have:=ui hnd (i:=if i=10 then 2 else i) (j:=if j=10 then 2 else j) (by simpa using hki) (by simpa using hkj) (by simp only[List.getElem_map];rw[e])
  split at this<;>split at this<;>omega
end Go.Proofs.YtejkelcaljmnoaaGreatDoor
