/- Part 9 of the proof. -/
import Derived.Test.YtejkelcaljmnoaaGreatDoorHy08
import Derived.Test.YtejkelcaljmnoaaGreatDoorRows
import Derived.LaidLaws
import Derived.LaidHandle
import Derived.ChangeSame
import Derived.ChangeVars
set_option maxRecDepth 100000
set_option maxHeartbeats 4000000
set_option linter.all false
namespace Go.Proofs.YtejkelcaljmnoaaGreatDoor
open Go.ChangeShapes Go.WideShapes Go.RowKit Go.Conc Go.Hx Go.Lo Go.Proofs.Tryz
attribute [local irreducible] EY KO K6 Kw Kc Ku Kd Program.underlying
theorem Tryz.own:ownKnob prog.godebug=none:=bD
theorem Tryz.et:prog.globalNamed "errors.errorType" =some 2:=bD
theorem Tryz.rt:(prog.cutTypes.find? (·.1== "internal/reflectlite.rtype")).map (·.2)=some 216:=bD
theorem Tryz.oneRow:((List.range prog.types.size).filter λt=>prog.rowNamed t [101,114,114,111,114])=[168]:=bD
theorem Tryz.J7:prog.cellsOf 275=1:=bD
theorem Tryz.cells9:prog.cellsOf 9=1:=bD
theorem Tryz.star: "*" ++ "errors.errorString" = "*errors.errorString" :=bx
theorem Tryz.row255 (u:TypeId)(h:prog.typeName? 3 u=some "*errors.errorString"):u=255:=
 typeName_ptr_named (nm:= "errors.errorString") (by rw[Tryz.star];kernel_rfl) bD bx u (by rw[Tryz.star];exact h)
theorem wz {b:Type}{l:List b}(h:l.Nodup){i j:Nat}(hi:i<l.length)(a:j<l.length)(e:l[i]=l[j]):i=j:=by
 rcases Nat.lt_trichotomy i j with g|g|g
 ·exact absurd e (Ow.1 h i j hi a g)
 ·exact g
 ·exact absurd e.symm (Ow.1 h j i a hi g)
def Snt (W:World)(g:Nat)(a:Nat×Nat):Prop:=W.cell? ⟨g,0,none⟩=some (.iface 255 (Mm a))/\ ∃c t,W.heap[a.1]? =some (.cells c t (0,0))
def sntD (text:List UInt8):DataW Unit:= .iface "*errors.errorString" (.ptr (.agg [.lit (.string text)]))
def sntP (x:String×Nat×List UInt8):String×DataW Unit:=(x.1,sntD x.2.2)
theorem D2 {W:World}{ps:List MemPlace}(A: ∀b off,MemPlace.cell b off∈ps->(∃c t,W.heap[b]? =some (.cells c t (0,0)))/\ ∀u v,W.cell? ⟨b,off,none⟩=some (.iface u v)->Value.okWide prog W .any 0 u v):
 ∀(l:List (String×Nat×List UInt8))(i:List MemPlace),(∀x∈l,prog.globalNamed x.1=some x.2.1/\(prog.globals[x.2.1]?).map (·.type)=some 168)->DataW.LaidVars prog W (l.map sntP) i->(∀p∈i,p∈ps)->
 ∃zs:List (Nat×Nat),zs.length=l.length/\(∀(k:Nat)(x:String×Nat×List UInt8)(a:Nat×Nat),l[k]? =some x->zs[k]? =some a->Snt W x.2.1 a)/\(zs.map λa=>MemPlace.cell a.1 a.2).Sublist i
 |[],i,_,h,_=>by
  obtain rfl:i=[]:=h;exact⟨[],rfl,λk x a j=>by simp at j,List.Sublist.refl _⟩
 |x::l,i,j,h,hs=>by
  obtain⟨g,t,cs,f,p,q,n,G,B,J,N,rfl⟩:=h;obtain⟨L,H⟩:=j x eT;obtain rfl:=gu (L.symm.trans n);obtain rfl:=gu (H.symm.trans G);obtain⟨zs,M,K,E⟩:=D2 A l q (λy d=>j y (dc _ d)) N λy d=>hs y (rv _ d);obtain⟨F⟩:=cs;have ok: ∀u v,F=[.iface u v]->Value.okWide prog W .any 0 u v:=λu v e=>by
   subst e;exact(A x.2.1 0 (hs _ (by simp[MemPlace.row]))).2 u v (by simpa using World.var?_cell n B 0)
  obtain⟨D,s,rfl,hc,_,_,rfl⟩:=errorString_of_trod underlying168 Tryz.row255 underlying255 underlying275 rfl rfl U9 Tryz.J7 Tryz.cells9 J ok;have z:D.spot=none:=by
   unfold World.cell? at hc
   split at hc
   ·split at hc
    ·cases hc
    ·rename_i I;simpa using I
   ·cases hc
  obtain⟨r,m,o⟩:=D;obtain rfl:o=none:=z;refine⟨(r,m)::zs,by simp[M],λk y a d C=> ?_, ?_⟩
  ·cases k with
   |zero=>
    obtain rfl:x=y:=by simpa using d
    obtain rfl:(r,m)=a:=by simpa using C
    exact⟨by simpa using World.var?_cell n B 0,(A r m (hs _ (by simp[MemPlace.row]))).1⟩
   |succ k=>exact K k y a (by simpa using d) (by simpa using C)
  ·simp only[MemPlace.row,ix,l7,gf,km,ic,List.range_one,OD,sc,u6,K2];exact(E.cons_cons _).cons _
def sntL:List (String×Nat×List UInt8):=[("hearth/hearth.errNoInsn",0,[116,104,101,114,101,32,105,115,32,110,111,32,115,117,99,104,32,105,110,115,116,114,117,99,116,105,111,110]),
 ("hearth/hearth.errNoOperator",1,[116,104,101,114,101,32,105,115,32,110,111,32,115,117,99,104,32,111,112,101,114,97,116,111,114]),
 ("hearth/hearth.errNoByte",10,[116,104,101,114,101,32,105,115,32,110,111,32,115,117,99,104,32,98,121,116,101,32,111,102,32,109,101,109,111,114,121]),
 ("hearth/hearth.errBadFile",3,[110,111,32,115,117,99,104,32,102,105,108,101,44,32,111,114,32,110,111,116,32,111,102,32,116,104,97,116,32,107,105,110,100]),
 ("hearth/hearth.errFull",4,[116,104,101,114,101,32,105,115,32,110,111,32,114,111,111,109,32,102,111,114,32,111,110,101,32,109,111,114,101]),
 ("hearth/hearth.errNoChild",5,[116,104,101,114,101,32,105,115,32,110,111,32,99,104,105,108,100]),
 ("hearth/hearth.errNoProc",6,[116,104,101,114,101,32,105,115,32,110,111,32,115,117,99,104,32,112,114,111,99,101,115,115]),
 ("hearth/hearth.errNoReader",7,[110,111,98,111,100,121,32,99,97,110,32,114,101,97,100,32,116,104,97,116]),
 ("hearth/hearth.errBadAddr",8,[109,101,109,111,114,121,32,116,104,97,116,32,116,104,101,114,101,32,105,115,32,110,111,116]),
 ("hearth/hearth.errBadCall",9,[110,111,32,115,117,99,104,32,99,97,108,108,44,32,111,114,32,110,111,116,32,119,105,116,104,32,116,104,97,116])]
theorem wA {W:World}(h:laidMetH prog Rows.sumsRow.laid W): ∃eb,KZ eb (Mc W):=by
 obtain⟨I,d⟩:laidMet prog (sntL.map sntP) W/\handlesMet prog [("errors.errorType",Rows.laid_errors_errorType)] W:=h;obtain⟨ps,C,D,A⟩:=I;obtain⟨b,n,G,r⟩:=D2 A sntL ps (by
  intro x m;simp only[sntL,gn,Lr,or_false] at m;rcases m with rfl|rfl|rfl|rfl|rfl|rfl|rfl|rfl|rfl|rfl<;>exact⟨bD,bD⟩) C (λ_ h=>h)
 have hnd:(b.map λa=>MemPlace.cell a.1 a.2).Nodup:=r.nodup D;have n:b.length=10:=n;have o: ∀i,i<11->i≠2->Snt W i (b.getD (if i=10 then 2 else i) (0,0)):=λi g d=>by
  have B:(if i=10 then 2 else i)<b.length:=by split<;>omega
  have E:b[if i=10 then 2 else i]? =some (b.getD (if i=10 then 2 else i) (0,0)):=by
   rw[List.getD_eq_getElem?_getD,sy B];rfl
  have hc:i=0\/i=1\/i=3\/i=4\/i=5\/i=6\/i=7\/i=8\/i=9\/i=10:=bl
  rcases hc with rfl|rfl|rfl|rfl|rfl|rfl|rfl|rfl|rfl|rfl<;>exact G _ _ _ rfl E
 refine⟨λi=>b.getD (if i=10 then 2 else i) (0,0),λi g d=>rC (o i g d).1, ?_,λi g d=> ?_,λi j g M p F e=> ?_⟩
 ·obtain⟨k,u,ty,J,s,z,L,y⟩:=d _ (wx.2 rfl);have H:k=[101,114,114,111,114]:=(gu J).symm;subst H;have hm:ty∈(List.range prog.types.size).filter λt=>prog.rowNamed t [101,114,114,111,114]:=l4.2 ⟨OV.2 z,L⟩;rw[Tryz.oneRow] at hm;obtain rfl:=wx.1 hm;obtain rfl:=gu (Tryz.rt.symm.trans s);refine rC ?_;have:=World.var?_cell Tryz.et y 0;exact this
 ·obtain⟨c,t,K⟩:=(o i g d).2;exact⟨false,c,t,j6 K⟩
 ·have f:(if i=10 then 2 else i)<b.length:=by split<;>omega
  have l:(if j=10 then 2 else j)<b.length:=by split<;>omega
  simp only[List.getD_eq_getElem?_getD,sy f,sy l,OZ] at e;have:=wz hnd (i:=if i=10 then 2 else i) (j:=if j=10 then 2 else j) (by simpa using f) (by simpa using l) (by simp only[List.getElem_map];rw[e])
  split at this<;>split at this<;>omega
end Go.Proofs.YtejkelcaljmnoaaGreatDoor
