/-
  Part 2 of the proof.
  No condition but those that each statement names.
-/
import Derived.Test.YtejkelcaljmnoaaGreatDoorHy01
import Derived.ArgAppend
import Derived.Conc.AppendWalk
import Derived.Test.YtejkelcaljmnoaaGreatDoorChecked
import Derived.Conc.DeferLaws
import Derived.Conc.EventLaws
import Derived.Conc.TokenWalk
import Derived.Conc.FxGenDone
import Derived.Conc.FxGenLone
set_option maxRecDepth 100000
set_option maxHeartbeats 4000000
set_option linter.unusedVariables false
set_option linter.unusedSimpArgs false
set_option linter.unusedSectionVars false
namespace Go.Hx
open Go.Conc Go.RowKit
structure Fam (σ:Type) where
 R:σ->World->World->Prop
 D:σ->World->World->Array Event->Prop
 Stop:σ->Goroutine->World->Prop
 terms: ∀s,Terms (R s) (D s)
section
variable {σ:Type}(F:Fam σ)(P:Program)(main:Bool)(fn:FuncId)
def wpX (c:Code)(n:Nat)(s:σ)(Q:σ->Exit->Act->World->Prop)(a:Act)(w:World):Prop:=
 ∀(b:Frame)(k:List Item)(cs:List Frame)(m:Nat),b.fn=fn->b.kind≠ .early->
  (∀s' e a' w',Q s' e a' w'->After P main (F.R s') (F.D s') (F.Stop s') m b k cs e a' w')->Goes P main (F.R s) (F.D s) (F.Stop s) (m+n) (G (b.at a (.code c::k)) cs) w
def OpsX (ops:Array Oper)(todo:List Nat)(n:Nat)(s:σ)(Q:σ->Exit->Act->World->Prop)(a:Act)(w:World):Prop:=
 ∀(b:Frame)(k:List Item)(cs:List Frame)(m:Nat),b.fn=fn->b.kind≠ .early->
  (∀s' e a' w',Q s' e a' w'->After P main (F.R s') (F.D s') (F.Stop s') m b k cs e a' w')->Goes P main (F.R s) (F.D s) (F.Stop s) (m+n) (G (b.at a (.inRegion ops todo::k)) cs) w
def LoopX (c:Code)(n:Nat)(s:σ)(Q:σ->Exit->Act->World->Prop)(a:Act)(w:World):Prop:=
 ∀(b:Frame)(k:List Item)(cs:List Frame)(m:Nat),b.fn=fn->b.kind≠ .early->
  (∀s' e a' w',Q s' e a' w'->After P main (F.R s') (F.D s') (F.Stop s') m b k cs e a' w')->Goes P main (F.R s) (F.D s) (F.Stop s) (m+n) (G (b.at a (.inLoop c::k)) cs) w
def ThenX (K:σ->Act->World->Prop)(Q:σ->Exit->Act->World->Prop):σ->Exit->Act->World->Prop:=fun s=>Exit.then (K s) (Q s)
def BodyX (f:Func)(Post:σ->Value->World->Prop):σ->Exit->Act->World->Prop:=fun s=>bodyPostC P f (Post s)
def CallsX (f:FuncId)(args:Array Value)(n:Nat)(s:σ)(w:World)(Post:σ->Value->World->Prop):Prop:=
 ∃fn c,P.funcs[f]? =some fn/\(fn.name== "runtime.NumGoroutine")=false/\fn.body=some c/\
  wpX F P main f c n s (BodyX P fn Post) {tmps:=args++Array.replicate (fn.ntmps-args.size) undef,defers:=[]} w
end
section
variable {σ:Type}{F:Fam σ}{P:Program}{main:Bool}{fn:FuncId}{Q:σ->Exit->Act->World->Prop}{s:σ}{a:Act}{w:World}
theorem jj {c:Code}{n:Nat}(h:c.wpC P main (F.R s) (F.D s) fn n (Q s) a w):wpX F P main fn c n s Q a w:=
 fun b k cs m hb hk hc=>h b k cs _ m hb hk (hc s)
theorem xO {ops:Array Oper}{todo:List Nat}{n:Nat}(h:OpsC P main (F.R s) (F.D s) fn ops todo n (Q s) a w):OpsX F P main fn ops todo n s Q a w:=
 fun b k cs m hb hk hc=>h b k cs _ m hb hk (hc s)
theorem uI {c:Code}{n:Nat}{w₁:World}(h:wpX F P main fn c n s Q a w)(hr:F.R s w w₁):wpX F P main fn c n s Q a w₁:=
 fun b k cs m hb hk hc=>(h b k cs m hb hk hc).rely (F.terms s).trans hr
theorem oC {f:FuncId}{args:Array Value}{n:Nat}{Post:σ->Value->World->Prop}{w₁:World}(h:CallsX F P main f args n s w Post)(hr:F.R s w w₁):CallsX F P main f args n s w₁ Post:=by
 obtain⟨g,c,h1,h2,h3,h4⟩:=h;exact⟨g,c,h1,h2,h3,uI h4 hr⟩
theorem oD {c:Code}{n n':Nat}(h:wpX F P main fn c n s Q a w)(hn:n<=n'):wpX F P main fn c n' s Q a w:=
 fun b k cs m hb hk hc=>(h b k cs m hb hk hc).mono (by omega)
theorem eZ {ops:Array Oper}{todo:List Nat}{n n':Nat}(h:OpsX F P main fn ops todo n s Q a w)(hn:n<=n'):OpsX F P main fn ops todo n' s Q a w:=
 fun b k cs m hb hk hc=>(h b k cs m hb hk hc).mono (by omega)
theorem fb {c:Code}{n:Nat}{Q':σ->Exit->Act->World->Prop}(h:wpX F P main fn c n s Q a w)(hq: ∀s e a w,Q s e a w->Q' s e a w):wpX F P main fn c n s Q' a w:=
 fun b k cs m hb hk hc=>h b k cs m hb hk fun s' e a' w' q=>hc s' e a' w' (hq s' e a' w' q)
theorem gX {K:σ->Act->World->Prop}{b:Frame}{x:Item}{k:List Item}{cs:List Frame}{m m':Nat}(hx:x.plain=true)(hm:m<=m')
 (hc: ∀s' e a' w',Q s' e a' w'->After P main (F.R s') (F.D s') (F.Stop s') m b k cs e a' w')
 (hK: ∀s' a' w',K s' a' w'->Goes P main (F.R s') (F.D s') (F.Stop s') m' (G (b.at a' (x::k)) cs) w'):
 ∀s' e a' w',ThenX K Q s' e a' w'->After P main (F.R s') (F.D s') (F.Stop s') m' b (x::k) cs e a' w':=by
 intro s' e a' w' q;cases e with
 |normal=>exact hK s' a' w' q
 |exit id=>exact((hc _ _ _ _ q).mono hm).push hx (by simp)
 |ret=>exact((hc _ _ _ _ q).mono hm).push (x:=x) hx (by simp)
 |goto l=>exact hc _ _ _ _ q
 |panic ch=>exact hc _ _ _ _ q
 |outgrown=>exact hc _ _ _ _ q
theorem cj {x y:Code}{n₁ n₂:Nat}(h:wpX F P main fn x n₁ s (ThenX (fun s' a' w'=>wpX F P main fn y n₂ s' Q a' w') Q) a w):wpX F P main fn (Code.seq x y) (n₁+n₂+1) s Q a w:=by
 intro b k cs m hb hk hc;have hx:=h b (.code y::k) cs (m+n₂) hb hk (gX rfl (Nat.le_add_right _ _) hc fun s' a' w' q=>q b k cs m hb hk hc);have e:m+(n₁+n₂+1)=(m+n₂+n₁)+1:=by omega
 rw[e];exact Goes.step rfl fun w₁ h₁=>by rw[stepG_seq];exact⟨(F.terms s).idle _,hx.rely (F.terms s).trans h₁⟩
theorem fJ {c:Operand}{x y:Code}{t:Bool}{n:Nat}(hc:a.eval c= .bool t)(h:wpX F P main fn (if t then x else y) n s Q a w):wpX F P main fn (Code.cond c x y) (n+1) s Q a w:=
 fun b k cs m hb hk hq=>Goes.step rfl fun w₁ h₁=>by rw[stepG_cond hc];exact⟨(F.terms s).idle _,(h b k cs m hb hk hq).rely (F.terms s).trans h₁⟩
theorem eu {id:Nat}{c:Code}{n:Nat}(h:wpX F P main fn c n s (fun s'=>Exit.inBlock id (Q s')) a w):wpX F P main fn (Code.block id c) (n+2) s Q a w:=by
 intro b k cs m hb hk hc;have hx:Goes P main (F.R s) (F.D s) (F.Stop s) (m+1+n) (G (b.at a (.code c:: .inBlock id::k)) cs) w:=by
  refine h b (.inBlock id::k) cs (m+1) hb hk fun s' e a' w' q=> ?_;cases e with
  |normal=>exact Goes.step rfl fun w₁ h₁=>by rw[stepG_inBlock];exact⟨(F.terms s').idle _,Goes.rely (F.terms s').trans (hc _ _ _ _ q) h₁⟩
  |exit id'=>
   by_cases hid:id'=id
   ·simp only[Exit.inBlock,hid,if_true] at q;exact⟨k,by simp[exitTo,hid],Goes.more (hc _ _ _ _ q)⟩
   ·simp only[Exit.inBlock,hid,if_false] at q;obtain⟨k',hk',hg⟩:=hc _ _ _ _ q;have:(id==id')=false:=by simp;exact fun h=>hid h.symm
    exact⟨k',by simp[exitTo,this,hk'],hg.more⟩
  |ret=>exact fun todo=>(hc _ _ _ _ q todo).more
  |goto l=>exact hc _ _ _ _ q
  |panic ch=>exact hc _ _ _ _ q
  |outgrown=>exact hc _ _ _ _ q
 have e:m+(n+2)=(m+1+n)+1:=by omega
 rw[e];exact Goes.step rfl fun w₁ h₁=>by rw[stepG_block];exact⟨(F.terms s).idle _,hx.rely (F.terms s).trans h₁⟩
theorem lR {c:Code}{n₁ n₂:Nat}(h:wpX F P main fn c n₁ s (ThenX (fun s' a' w'=>LoopX F P main fn c n₂ s' Q a' w') Q) a w):wpX F P main fn (Code.loop c) (n₁+n₂+1) s Q a w:=by
 intro b k cs m hb hk hc;have hx:=h b (.inLoop c::k) cs (m+n₂) hb hk (gX rfl (Nat.le_add_right _ _) hc fun s' a' w' q=>q b k cs m hb hk hc);have e:m+(n₁+n₂+1)=(m+n₂+n₁)+1:=by omega
 rw[e];exact Goes.step rfl fun w₁ h₁=>by rw[stepG_loop];exact⟨(F.terms s).idle _,hx.rely (F.terms s).trans h₁⟩
theorem qx {c:Code}{n₁ n₂:Nat}(h:wpX F P main fn c n₁ s (ThenX (fun s' a' w'=>LoopX F P main fn c n₂ s' Q a' w') Q) a w):LoopX F P main fn c (n₁+n₂+1) s Q a w:=by
 intro b k cs m hb hk hc;have hx:=h b (.inLoop c::k) cs (m+n₂) hb hk (gX rfl (Nat.le_add_right _ _) hc fun s' a' w' q=>q b k cs m hb hk hc);have e:m+(n₁+n₂+1)=(m+n₂+n₁)+1:=by omega
 rw[e];exact Goes.step rfl fun w₁ h₁=>by rw[stepG_inLoop];exact⟨(F.terms s).idle _,hx.rely (F.terms s).trans h₁⟩
theorem bq {id:Nat}{ops:Array Oper}{n:Nat}(h:OpsX F P main fn ops (List.range ops.size) n s Q a w):wpX F P main fn (Code.region id ops false) (n+1) s Q a w:=
 fun b k cs m hb hk hc=>Goes.step rfl fun w₁ h₁=>by rw[stepG_region];exact⟨(F.terms s).idle _,(h b k cs m hb hk hc).rely (F.terms s).trans h₁⟩
theorem bJ {ops:Array Oper}(h:Q s .normal a w):OpsX F P main fn ops [] 1 s Q a w:=xO (opsC_nil (F.terms s) h)
theorem jl {ops:Array Oper}{i:Nat}{rest:List Nat}{o:Oper}{n:Nat}(ho:ops[i]? =some o)(hw:Region.wanted o (yielded ops a.tmps)=true)
 (h: ∀w₁,F.R s w w₁->uponK o a (fun a' w'=>F.D s w₁ w' (listed P fn a o w₁)/\OpsX F P main fn ops rest n s Q a' w') ((execOp a.eval o).run P w₁)):OpsX F P main fn ops (i::rest) (n+1) s Q a w:=by
 intro b k cs m hb hk hc;refine Goes.step rfl fun w₁ h₁=>goes_oper ho hw hk ?_;have:=h w₁ h₁
 revert this
 cases (execOp a.eval o).run P w₁ with
 |ok x w'=>cases x<;>first|exact fun⟨d,g⟩=>⟨hb▸d,g b k cs m hb hk hc⟩|exact id
 |halt _ _=>exact id
theorem aJ {ops:Array Oper}{i:Nat}{rest:List Nat}{o:Oper}{n:Nat}(ho:ops[i]? =some o)(hw:Region.wanted o (yielded ops a.tmps)=true)
 (h: ∀w₁,F.R s w w₁-> ∀K:Act->World->Prop,(∀a' w',F.D s w₁ w' (listed P fn a o w₁)/\OpsX F P main fn ops rest n s Q a' w'->K a' w')->uponK o a K ((execOp a.eval o).run P w₁)):OpsX F P main fn ops (i::rest) (n+1) s Q a w:=
 jl ho hw fun w₁ h₁=>h w₁ h₁ _ fun _ _ x=>x
theorem gO {ops:Array Oper}{i:Nat}{rest:List Nat}{o:Oper}{n:Nat}(ho:ops[i]? =some o)(hw:Region.wanted o (yielded ops a.tmps)=false)
 (h:OpsX F P main fn ops rest n s Q (a.put o.dst undef) w):OpsX F P main fn ops (i::rest) (n+1) s Q a w:=
 fun b k cs m hb hk hc=>Goes.step rfl fun w₁ h₁=>by rw[stepG_unwanted ho hw];exact⟨(F.terms s).idle _,(h b k cs m hb hk hc).rely (F.terms s).trans h₁⟩
theorem eU {f:FuncId}{g:Func}{c:Code}{args:Array Value}{n:Nat}{Post:σ->Value->World->Prop}(hf:P.funcs[f]? =some g)(hname:(g.name== "runtime.NumGoroutine")=false)(hb:g.body=some c)
 (h:wpX F P main f c n s (BodyX P g Post) {tmps:=args++Array.replicate (g.ntmps-args.size) undef,defers:=[]} w):CallsX F P main f args n s w Post:=⟨g,c,hf,hname,hb,h⟩
theorem qz {b:Frame}{k:List Item}{cs:List Frame}{ops:Array Oper}{i:Nat}{rest:List Nat}{o:Oper}{f:FuncId}{args:Array Operand}{ats:Array TypeId}
 {nf m:Nat} {Post:σ->Value->World->Prop}
 (ho:ops[i]? =some o) (hw:Region.wanted o (yielded ops a.tmps)=true) (hk:b.kind≠ .early) (hop:o.op= .call {callee:= .value (.func f),args,argTypes:=ats})
 (hcall:CallsX F P main f (args.map a.eval) nf s w Post)
 (hnext: ∀s' v w',Post s' v w'->Goes P main (F.R s') (F.D s') (F.Stop s') m (G (b.at (a.put o.dst v) (.inRegion ops rest::k)) cs) w'):
 Goes P main (F.R s) (F.D s) (F.Stop s) (m+nf+3) (G (b.at a (.inRegion ops (i::rest)::k)) cs) w:=by
 obtain⟨g,c,hf,hname,hbody,hwp⟩:=hcall;have hfin: ∀v,(b.at a (.inRegion ops (i::rest)::k)).finish v=b.at (a.put o.dst v) (.inRegion ops rest::k):=fun v=>by rw[Frame.finish_at,ho];rfl
 have hleave: ∀(s':σ)(a':Act)(w':World)(todo:List Item),(a'.defers=[]/\ ∃v,ResultsC P g a'.tmps v/\Post s' v w')->
  Goes P main (F.R s') (F.D s') (F.Stop s') (m+1) (G {(base f).at a' todo with mode:= .returning} (b.at a (.inRegion ops (i::rest)::k)::cs)) w':=by
  rintro s' a' w' todo ⟨hd,v,hr,hp⟩;refine Goes.step rfl fun w₁ h₁=> ?_;rw[stepG_leave (b:=base f) rfl hd hf (hr w₁).1 (hr w₁).2,hfin];exact⟨(F.terms s').idle _,(hnext s' v w' hp).rely (F.terms s').trans h₁⟩
 have hbodyG:Goes P main (F.R s) (F.D s) (F.Stop s) (m+2+nf) (G ((base f).at {tmps:=args.map a.eval++Array.replicate (g.ntmps-(args.map a.eval).size) undef,defers:=[]} [.code c]) (b.at a (.inRegion ops (i::rest)::k)::cs)) w:=by
  refine hwp (base f) [] _ (m+2) rfl (by simp[base]) fun s' e a' w' q=> ?_;cases e with
  |normal=>exact Goes.step rfl fun w₁ h₁=>by rw[stepG_end];exact⟨(F.terms s').idle _,(hleave s' a' w' [] q).rely (F.terms s').trans h₁⟩
  |ret=>exact fun todo=>(hleave s' a' w' todo q).more
  |exit id=>exact q.elim
  |goto l=>exact q.elim
  |panic ch=>exact q.elim
  |outgrown=>exact q.elim
 have e:m+nf+3=(m+2+nf)+1:=by omega
 rw[e];exact Goes.step rfl fun w₁ h₁=>goes_call ho hw hk hop hf hname hbody ⟨(F.terms s).idle _,hbodyG.rely (F.terms s).trans h₁⟩
theorem gj {ops:Array Oper}{i:Nat}{rest:List Nat}{o:Oper}{f:FuncId}{args:Array Operand}{ats:Array TypeId}{nf n:Nat}{Post:σ->Value->World->Prop}
 (ho:ops[i]? =some o) (hw:Region.wanted o (yielded ops a.tmps)=true) (hop:o.op= .call {callee:= .value (.func f),args,argTypes:=ats})
 (hcall:CallsX F P main f (args.map a.eval) nf s w Post) (hnext: ∀s' v w',Post s' v w'->OpsX F P main fn ops rest n s' Q (a.put o.dst v) w'):OpsX F P main fn ops (i::rest) (n+nf+3) s Q a w:=by
 intro b k cs m hb hk hc;have:=qz (m:=m+n) (b:=b) (k:=k) (cs:=cs) ho hw hk hop hcall fun s' v w' hp=>hnext s' v w' hp b k cs m hb hk hc;exact this.mono (by omega)
end
section
variable {σ:Type}(F:Fam σ)(P:Program)(main:Bool)(fn:FuncId)(ops:Array Oper)(md:Region.Mode)(S:σ->World->Prop)(Q:σ->Exit->Act->World->Prop)(nf:Nat)
def OpX (i:Nat)(K:σ->Act->World->Prop)(s:σ)(a:Act)(w:World):Prop:=
 OpC P (F.R s) (F.D s) fn ops i (K s) a w\/
 ∃o f args ats Post,ops[i]? =some o/\Region.wanted o (yielded ops a.tmps)=true/\o.op= .call {callee:= .value (.func f),args:=args,argTypes:=ats}/\CallsX F P main f (args.map a.eval) nf s w Post/\
  ∀s' v w',Post s' v w'->K s' (a.put o.dst v) w'
end
section
variable {σ:Type}{F:Fam σ}{P:Program}{main:Bool}{fn:FuncId}{ops:Array Oper}{md:Region.Mode}{S:σ->World->Prop}{Q:σ->Exit->Act->World->Prop}{nf:Nat}
theorem oE {i:Nat}{s:σ}{a:Act}{w:World}{K K':σ->Act->World->Prop}(h: ∀s a w,K s a w->K' s a w) (hh:OpX F P main fn ops nf i K s a w):OpX F P main fn ops nf i K' s a w:=by
 rcases hh with x|⟨o,f,args,ats,Post,h1,h2,h3,h4,h5⟩
 ·exact .inl (OpC_mono (h s) x)
 ·exact .inr ⟨o,f,args,ats,Post,h1,h2,h3,h4,fun s' v w' hp=>h _ _ _ (h5 s' v w' hp)⟩
theorem oF {i:Nat}{rest:List Nat}{n:Nat}{s:σ}{a:Act}{w:World}(h:OpX F P main fn ops nf i (fun s' a' w'=>OpsX F P main fn ops rest n s' Q a' w') s a w):OpsX F P main fn ops (i::rest) (n+nf+3) s Q a w:=by
 rcases h with h|⟨o,f,args,ats,Post,h1,h2,h3,h4,h5⟩
 ·unfold OpC at h
  split at h
  ·exact h.elim
  ·rename_i o ho
   split at h
   ·rename_i hw;exact eZ (jl ho hw h) (by omega)
   ·rename_i hw;exact eZ (gO ho (by simpa using hw) h) (by omega)
 ·exact gj h1 h2 h3 h4 h5
def YieldsX (F:Fam σ)(P:Program)(fn:FuncId)(ops:Array Oper)(S:σ->World->Prop)(o:Oper)(v:Value)(a:Act):Prop:= ∀s,YieldsIfC P (F.D s) fn ops (S s) o v a
theorem YieldsX.opX (hSR: ∀s x y,S s x->F.R s x y->S s y) {i:Nat} {o:Oper} {v:Value} {s:σ} {a:Act} (hi:ops[i]? =some o) (hy:YieldsX F P fn ops S o v a)
 {K:σ->Act->World->Prop} (hK: ∀s a x y,K s a x->F.R s x y->K s a y) {w:World} (hS:S s w) (h:K s (a.put o.dst v) w):OpX F P main fn ops nf i K s a w:=
 .inl ((hy s).opC (hSR s) hi (hK s) hS h)
end
end Go.Hx
namespace Go.Hx
open Go.Conc
section
variable {p:Par}{E Dn:Nat}{w w₁ w':World}{b:Nat}{cs:Array Value}
def Fb (p:Par)(b:Nat)(cs:Array Value)(w:World):Prop:=p.N0<=b/\w.heap[b]? =some (.cells cs p.ety (0,0))
theorem Fb.fa (h:Fb p b cs w):FA p w b:=⟨h.1,_,h.2,by simp[isEv]⟩
theorem Fb.lt (h:Fb p b cs w):b<w.heap.size:=(Array.getElem?_eq_some_iff.1 h.2).1
theorem Fb.rely (h:Fb p b cs w)(r:RA p w w₁):Fb p b cs w₁:=⟨h.1,(r.block b h.fa).trans h.2⟩
theorem Fb.cell (h:Fb p b cs w){i:Nat}{v:Value}(hv:cs[i]? =some v):w.cell? ⟨b,i,none⟩=some v:=by simp[World.cell?,h.2,hv]
theorem Fb.thaw (h:Fb p b cs w)(i:Nat):w.frozen? ⟨b,i,none⟩=false:=by simp[World.frozen?,h.2]
theorem Fb.set (h:Fb p b cs w)(i:Nat)(v:Value):Fb p b (cs.setIfInBounds i v) (w.setCell ⟨b,i,none⟩ v):=by
 refine⟨h.1, ?_⟩;have hlt:=h.lt;have h2:=h.2;rw[Array.getElem?_eq_getElem hlt] at h2;have h':=Option.some.inj h2;simp[World.setCell,hlt,Array.getElem_modify,h']
theorem Fb.new (hN:p.N0<=w.heap.size):Fb p w.heap.size cs (w.alloc (.cells cs p.ety)):=⟨hN,sX w _⟩
theorem dT (h:Fb p b cs w){ad:Addr}(hb:ad.block=b)(wr sy:Bool):EvA p w ⟨.cell ad,wr,sy⟩:=by
 refine⟨fun x hx _=> .inl ⟨b, ?_,h.fa⟩,by simp,by simp⟩;have hx':x.loc= .cell ad:=by cases sy<;>(simp[MemAct.ofEvent,MemAct.touch?] at hx;subst hx;rfl)
 rw[hx'];exact congrArg some hb
theorem kz {m:Mark}(hm:Conc.Neutral m):EvA p w ⟨.mark m,false,true⟩:=
 ⟨fun x hx _=>by simp[MemAct.ofEvent,hm.touch] at hx,⟨fun h=>hm.ne_disable (by simpa using h),fun h=>hm.ne_enable (by simpa using h)⟩,fun a h=>by
  have hm':m= .noRoom:=hm;subst hm';simp at h⟩
theorem j7 {es:Array Event}(hes: ∀e∈es,EvA p w e):DG p E Dn w w es:=⟨RB.refl p E Dn w,rfl,rfl,hes⟩
theorem de (p:Par)(E Dn:Nat):Terms (RA p) (DG p E Dn):=⟨RA.trans,fun w=>j7 (by simp)⟩
theorem uJ (hN:p.N0<=w.heap.size):RB p E Dn w (w.alloc (.cells cs p.ety)):=by
 refine⟨rfl,rfl,rfl,⟨by rw[gW];omega,fun x f=> ?_,fun x hl hn f=>hn ?_⟩,fun x hl _ _ _=>eY w _ (Nat.ne_of_lt hl)⟩
 ·obtain⟨h1,o,ho,hi⟩:=f;exact⟨h1,o,by rw[eY w _ (Nat.ne_of_lt (Array.getElem?_eq_some_iff.1 ho).1)];exact ho,hi⟩
 ·obtain⟨h1,o,ho,hi⟩:=f;exact⟨h1,o,by rw[<-eY w _ (Nat.ne_of_lt hl)];exact ho,hi⟩
theorem uK (hN:p.N0<=w.heap.size)(hE:E<p.N0)(hD:Dn<p.N0){es:Array Event}(hes: ∀e∈es,False):DG p E Dn w (w.alloc (.cells cs p.ety)) es:=
 ⟨uJ hN,eY w _ (by omega),eY w _ (by omega),fun e he=>(hes e he).elim⟩
theorem rM {cs':Array Value}(h:Fb p b cs w)(h':Fb p b cs' w')(ht:w'.tape=w.tape)(ho:w'.os=w.os)(hu:w'.output=w.output)(hs:w'.heap.size=w.heap.size)(hb: ∀x,x≠b->w'.heap[x]? =w.heap[x]?) (hE:E<p.N0) (hD:Dn<p.N0)
 {es:Array Event} (hes: ∀e∈es,EvA p w' e):DG p E Dn w w' es:=by
 have hbN:=h.1;refine⟨⟨ht,ho,hu,⟨by omega,fun x f=> ?_,fun x hl hn f=>hn ?_⟩,fun x _ hn _ _=>hb x fun e=>hn (e▸h.fa)⟩,hb E (by omega),hb Dn (by omega),hes⟩
 ·by_cases e:x=b
  ·subst e;exact h'.fa
  ·obtain⟨h1,o,ho,hi⟩:=f;exact⟨h1,o,by rw[hb x e];exact ho,hi⟩
 ·by_cases e:x=b
  ·subst e;exact h.fa
  ·obtain⟨h1,o,ho,hi⟩:=f;exact⟨h1,o,by rw[<-hb x e];exact ho,hi⟩
theorem mQ (h:Fb p b cs w)(hE:E<p.N0)(hD:Dn<p.N0)(i:Nat)(v:Value){es:Array Event}(hes: ∀e∈es,∃ad wr sy,e=⟨.cell ad,wr,sy⟩/\ad.block=b):DG p E Dn w (w.setCell ⟨b,i,none⟩ v) es:=
 rM h (h.set i v) rfl rfl rfl (by simp[World.setCell]) (fun x hx=>fI w _ v hx) hE hD fun e he=>by
  obtain⟨ad,wr,sy,rfl,hb⟩:=hes e he;exact dT (h.set i v) hb wr sy
theorem kA {es:Array Event}(h:DG p E Dn w w₁ #[])(h':DG p E Dn w₁ w' es):DG p E Dn w w' es:=⟨RB.trans _ _ _ h.1 h'.1,h'.2.1.trans h.2.1,h'.2.2.1.trans h.2.2.1,h'.2.2.2⟩
theorem xP (h:Fb p b cs w)(hE:E<p.N0)(hD:Dn<p.N0)(v0 v1 v2 v3:Value){es:Array Event}(hes: ∀e∈es,∃ad wr sy,e=⟨.cell ad,wr,sy⟩/\ad.block=b):
 DG p E Dn w ((((w.setCell ⟨b,0,none⟩ v0).setCell ⟨b,1,none⟩ v1).setCell ⟨b,2,none⟩ v2).setCell ⟨b,3,none⟩ v3) es:=
 kA (mQ h hE hD 0 v0 (by simp)) (kA (mQ (h.set 0 v0) hE hD 1 v1 (by simp)) (kA (mQ ((h.set 0 v0).set 1 v1) hE hD 2 v2 (by simp)) (mQ (((h.set 0 v0).set 1 v1).set 2 v2) hE hD 3 v3 hes)))
def Told (p:Par)(told:Value)(n:Nat)(xs:List Value)(w:World):Prop:=w.ownsRow p.N0 p.ety 4 told n xs
theorem Told.rely {told:Value}{n:Nat}{xs:List Value}(h:Told p told n xs w)(r:RA p w w₁):Told p told n xs w₁:=by
 refine⟨h.1,h.2.imp id ?_⟩;rintro⟨g,cap,cur,h1,h2,h3,h4⟩;exact⟨g,cap,cur,h1,h2,(r.block g (Fb.fa (p:=p) ⟨h2,h3⟩)).trans h3,h4⟩
theorem Told.alloc {told:Value}{n:Nat}{xs:List Value}(h:Told p told n xs w)(o:Obj):Told p told n xs (w.alloc o):=World.ownsRow.alloc h o
theorem oG (hg:w.grownBy w' none)(hN:p.N0<=w.heap.size)(hE:E<p.N0)(hD:Dn<p.N0){es:Array Event}(hes: ∀e∈es,EvA p w' e):DG p E Dn w w' es:=
 ⟨⟨hg.tape,hg.os,hg.output,⟨hg.size,fun b f=>by obtain⟨x,o,ho,hi⟩:=f;exact⟨x,o,by rw[hg.block b (Array.getElem?_eq_some_iff.1 ho).1 (by simp)];exact ho,hi⟩,
  fun b hl hn f=>hn (by obtain⟨x,o,ho,hi⟩:=f;exact⟨x,o,by rw[<-hg.block b hl (by simp)];exact ho,hi⟩)⟩,fun b hl _ _ _=>hg.block b hl (by simp)⟩,
  hg.block E (by omega) (by simp),hg.block Dn (by omega) (by simp),hes⟩
theorem Fb.grown (h:Fb p b cs w)(hg:w.grownBy w' none):Fb p b cs w':=⟨h.1,(hg.block b h.lt (by simp)).trans h.2⟩
theorem Told.app {P:Program}{t ty:TypeId}{i:TypeInfo}{z:Value}(ht:P.underlying t=some (.slice p.ety))(hi:P.info? p.ety=some i)(hz:i.zero=some z)(hs:i.size=4)(hb:i.bytes=32)(hzs:z.cells.size=4)
 (hE:E<p.N0) (hD:Dn<p.N0) (hN:p.N0<=w.heap.size) {told:Value} {n:Nat} {xs:List Value} (h:Told p told n xs w) (hn:n<10000) {nb:Nat} {v0 v1 v2 v3:Value} (hnb:Fb p nb #[v0,v1,v2,v3] w) (h1: ∀u∈[v0,v1,v2,v3],u.oneCell'=true):
 ∃told' w',(Builtin.append_ #[t,t] ty #[told, .slice (some ⟨nb,0,none⟩) 1 1]).run P w= .ok told' w'/\Told p told' (n+1) (xs++[v0,v1,v2,v3]) w'/\p.N0<=w'.heap.size/\
  ∀es:Array Event,(∀e∈es,e∈(Builtin.append_ #[t,t] ty #[told, .slice (some ⟨nb,0,none⟩) 1 1]).events P w #[])->DG p E Dn w w' es:=by
 have hnews: ∀(j:Nat)(u:Value),[v0,v1,v2,v3][j]? =some u->w.cell? ((⟨nb,0,none⟩:Addr).add j)=some u:=by
  intro j u hu;have e:(⟨nb,0,none⟩:Addr).add j=⟨nb,j,none⟩:=by unfold Addr.add;split<;>simp_all
  rw[e];exact hnb.cell (by simpa using hu)
 have hev:=events_append_where (P:=P) w p.N0 t ty p.ety i z 4 32 ht hi hz hs hb told n xs h ⟨nb,0,none⟩ 1 1 [v0,v1,v2,v3] (by simp) hnews h1 (by simp[maxLen];omega) (by omega);rcases h.2 with ⟨rfl,rfl⟩|⟨g,cap,cur,rfl,hbg,hgc,hnc,hcm,hcs,htake⟩
 ·obtain⟨v',w',hr,hown,hg,_⟩:=run_append_own (P:=P) w p.N0 t ty p.ety i z 4 32 ht hi hz hs hb hzs (by decide) (.slice none 0 0) 0 xs h ⟨nb,0,none⟩ 1 1 [v0,v1,v2,v3] (by simp) hnews h1 (by simp[maxLen]) (by decide) hN;have hg':w.grownBy w' none:=hg;refine⟨v',w',hr,hown,Nat.le_trans hN hg'.size,fun es hes=>oG hg' hN hE hD fun e he=> ?_⟩;rcases hev e (hes e he) with ⟨ad,h2,h3⟩|⟨m,rfl,hm⟩
  ·rcases h3 with ⟨_,hb⟩|h3
   ·obtain⟨l,wr,sy⟩:=e;simp only at h2;subst h2;exact dT (hnb.grown hg') hb _ _
   ·simp[Value.ownBlock] at h3
  ·exact kz hm
 ·have hFg:Fb p g cur w:=⟨hbg,hgc⟩;by_cases hroom:n+1<=cap
  ·have hr:=run_append_room (P:=P) w t ty p.ety i ht hi g n cap cur hgc ⟨nb,0,none⟩ 1 1 [v0,v1,v2,v3] (by simp[hs]) hnews h1 hroom (by rw[hs,hcs];simp;omega)
   have hF':Fb p g (cur.toList.take (n*i.size)++[v0,v1,v2,v3]++cur.toList.drop (n*i.size+[v0,v1,v2,v3].length)).toArray (w.setRow g (cur.toList.take (n*i.size)++[v0,v1,v2,v3]++cur.toList.drop (n*i.size+[v0,v1,v2,v3].length)).toArray):=
    ⟨hbg,setRow_heap w g cur _ p.ety (0,0) hgc⟩
   refine⟨_,_,hr,⟨by rw[List.length_append,h.1];simp;omega, .inr ⟨g,cap,_,rfl,hbg,hF'.2,hroom,hcm, ?_, ?_⟩⟩,by rw[size_setRow];exact hN,fun es hes=>rM hFg hF' rfl rfl rfl (by simp) (fun x hx=>setRow_other w g x _ hx) hE hD fun e he=> ?_⟩
   ·simp[hs,hcs];omega
   ·rw[hs,List.append_assoc,htake,<-List.append_assoc];have e1:(xs++[v0,v1,v2,v3]).length=(n+1)*4:=by rw[List.length_append,h.1];simp;omega
    have e2: ∀(l r:List Value)(k:Nat),l.length=k->(l++r).take k=l:=fun l r k hk=>by subst hk;simp
    exact e2 _ _ _ e1
   ·rcases hev e (hes e he) with ⟨ad,h2,h3⟩|⟨m,rfl,hm⟩
    ·obtain⟨l,wr,sy⟩:=e;simp only at h2;subst h2;rcases h3 with ⟨_,hb⟩|h3
     ·by_cases hq:nb=g
      ·exact dT hF' (hb.trans hq) _ _
      ·exact dT (p:=p) (b:=nb) (cs:= #[v0,v1,v2,v3]) ⟨hnb.1,by rw[setRow_other w g nb _ hq];exact hnb.2⟩ hb _ _
     ·exact dT hF' (by simpa [Value.ownBlock] using h3) _ _
    ·exact kz hm
  ·have holds: ∀(j:Nat)(u:Value),xs[j]? =some u->w.cell? ((⟨g,0,none⟩:Addr).add j)=some u:=World.ownsRow.cells (e:=p.ety) (size:=4) (base:=p.N0) h (g:=g) rfl;obtain⟨v',w',hr,hown,hg⟩:=run_append_arg_grows (P:=P) w t ty p.ety i z 4 32 ht hi hz hs hb hzs (by decide) ⟨g,0,none⟩ n cap xs h.1 holds ⟨nb,0,none⟩ 1 1 [v0,v1,v2,v3] (by simp) hnews (by omega) (by simp[maxLen];omega) (by omega);refine⟨v',w',hr, ?_,Nat.le_trans hN hg.size,fun es hes=>oG hg hN hE hD fun e he=> ?_⟩
   ·refine⟨hown.1,hown.2.imp id ?_⟩;rintro⟨g',cap',cur',h1,h2,h3⟩;exact⟨g',cap',cur',h1,Nat.le_trans hN h2,h3⟩
   ·rcases hev e (hes e he) with ⟨ad,h2,h3⟩|⟨m,rfl,hm⟩
    ·obtain⟨l,wr,sy⟩:=e;simp only at h2;subst h2;rcases h3 with ⟨_,hb⟩|h3
     ·exact dT (hnb.grown hg) hb _ _
     ·exact dT (hFg.grown hg) (by simpa [Value.ownBlock] using h3) _ _
    ·exact kz hm
end
end Go.Hx
namespace Go.Hx
open Go.Conc Go.RowKit
open Go.ConcX
section
variable [Payload](P:Program)(ty:TypeId)(Wg C Low:Nat) [Shy Wg C](vals:List Value)(Mine:Loc->Prop)(AnchW:Goroutine->World->Prop)(p:Par)(E Dn:Nat)(zE zD:Value)(PostB:World->Prop)
theorem sY: ∀a b c:World,RPa ty Wg C vals a b->RPa ty Wg C vals b c->RPa ty Wg C vals a c:=fun _ _ _ h k=>
 ⟨⟨k.aside.tape.trans h.aside.tape,k.aside.os.trans h.aside.os,k.aside.output.trans h.aside.output,k.aside.size.trans h.aside.size,fun x h1 h2=>(k.aside.block x h1 h2).trans (h.aside.block x h1 h2)⟩,fun x=>k.ka (h.ka x),fun x=>k.kc (h.kc x)⟩
theorem fw:Terms (RPa ty Wg C vals) (DPi Mine Wg C Low):=⟨sY ty Wg C vals,fun w=>⟨fun _ _=>rfl,by simp⟩⟩
def gF:Fam (Option (List Value)) where
 R:=fun s=>match s with|some _=>RA p|none=>RPa ty Wg C vals
 D:=fun s=>match s with|some _=>DG p E Dn|none=>DPi Mine Wg C Low
 Stop:=fun s=>match s with|some vs=>StopG P p E Dn zE zD PostB (FinW P ty Wg C Low vals Mine AnchW) vs|none=>AtKd P ty Wg C Low vals Mine AnchW
 terms:=fun s=>match s with|some _=>de p E Dn|none=>fw ty Wg C Low vals Mine
end
section
variable [Payload]{P:Program}{ty:TypeId}{Wg C Low:Nat} [Shy Wg C]{vals:List Value}{Mine:Loc->Prop}{AnchW:Goroutine->World->Prop}{p:Par}{E Dn:Nat}{zE zD:Value}{PostB:World->Prop}{fn:FuncId}{Q:Option (List Value)->Exit->Act->World->Prop}{a:Act}{w:World}
theorem uL {ops:Array Oper}{i:Nat}{rest:List Nat}{o:Oper}{n:Nat}{v:Value}{vs:List Value}(ho:ops[i]? =some o)(hw:Region.wanted o (yielded ops a.tmps)=true)
 (hrun: ∀w₁,RA p w w₁->(execOp a.eval o).run P w₁= .ok (.comm (selCases E Dn zE zD) true .select) w₁/\ ∀e∈listed P fn a o w₁,EvA p w₁ e)
 (hnext: ∀w₂,RA p w w₂->OpsX (gF P ty Wg C Low vals Mine AnchW p E Dn zE zD PostB) P true fn ops rest n (some vs) Q (a.put o.dst (commResult (selCases E Dn zE zD) .select 0 v true)) w₂):
 OpsX (gF P ty Wg C Low vals Mine AnchW p E Dn zE zD PostB) P true fn ops (i::rest) 0 (some (v::vs)) Q a w:=by
 intro b k cs m hb hk hc;refine Goes.stop fun w₁ h₁=> ?_;obtain⟨hr,hev⟩:=hrun w₁ h₁;refine(show AtSel P p E Dn zE zD (fun g₂ w₂=>Gathers P p E Dn zE zD PostB (FinW P ty Wg C Low vals Mine AnchW) vs (Conc.served g₂ (commResult (selCases E Dn zE zD) .select 0 v true)) w₂) _ w₁ from⟨rfl,_,stepG_comm ho hw hk hr,by rw[hb];exact hev,fun w₂ h₂=> ?_⟩);show Gathers P p E Dn zE zD PostB (FinW P ty Wg C Low vals Mine AnchW) vs (Conc.served (core (G (b.at a (.inRegion ops (i::rest)::k)) cs)) _) w₂;rw[core_G,served_G,ho];exact(cN _ _ _ _ _ _ _ _ _ _ _).2 ⟨_,hnext w₂ (RA.trans _ _ _ h₁ h₂) b k cs m hb hk hc⟩
theorem sZ {ops:Array Oper}{i:Nat}{rest:List Nat}{o:Oper}{n:Nat}(ho:ops[i]? =some o)(hw:Region.wanted o (yielded ops a.tmps)=true)
 (hrun: ∀w₁,RA p w w₁->(execOp a.eval o).run P w₁= .ok (.comm (selCases E Dn zE zD) true .select) w₁/\ ∀e∈listed P fn a o w₁,EvA p w₁ e)
 (hnext: ∀w₂,RA p w w₂->PostB w₂->KPa ty Wg C vals w₂->OpsX (gF P ty Wg C Low vals Mine AnchW p E Dn zE zD PostB) P true fn ops rest n none Q (a.put o.dst (commResult (selCases E Dn zE zD) .select 1 zD false)) w₂):
 OpsX (gF P ty Wg C Low vals Mine AnchW p E Dn zE zD PostB) P true fn ops (i::rest) 0 (some []) Q a w:=by
 intro b k cs m hb hk hc;refine Goes.stop fun w₁ h₁=> ?_;obtain⟨hr,hev⟩:=hrun w₁ h₁;refine(show AtSel P p E Dn zE zD (fun g₂ w₂=>PostB w₂->FinW P ty Wg C Low vals Mine AnchW (Conc.served g₂ (commResult (selCases E Dn zE zD) .select 1 zD false)) w₂) _ w₁ from⟨rfl,_,stepG_comm ho hw hk hr,by rw[hb];exact hev,fun w₂ h₂ hp hka=> ?_⟩);show∃m,Goes P true (RPa ty Wg C vals) (DPi Mine Wg C Low) (AtKd P ty Wg C Low vals Mine AnchW) m (Conc.served (core (G (b.at a (.inRegion ops (i::rest)::k)) cs)) _) w₂;rw[core_G,served_G,ho];exact⟨_,hnext w₂ (RA.trans _ _ _ h₁ h₂) hp hka b k cs m hb hk hc⟩
end
end Go.Hx
namespace Go.Proofs
abbrev Tryz.link:Go.Conc.Lib.WgLink:={add:=30,done:=32,wait:=35,relMerge:=49,disable:=50,enable:=51,inBubble:=52,associate:=53,fatal:=54,uOr:=55,uAdd:=56,raceRead:=57,uLoad:=58,uStore:=59,disassociate:=60,semrelease:=61,acquire:=64,isAssociated:=65,uCas:=66,raceWrite:=67,semacquire:=68,orU64:=76,addU64:=77,loadU64:=78,storeU64:=79,casU64:=87,tWgP:=117,tUP:=119,tAssoc:=120,tWg:=87,tAU:=84,tU64:=82,tUint:=73,tU32:=85,tPU32:=124,tPAU:=159,tPU64:=161,tNoCopy:=79,tANoCopy:=80,tAlign64:=81}
theorem Tryz.wgLib:Go.Conc.Lib.WgLib Tryz.prog Tryz.link:=
 ⟨Tryz.func30,Tryz.func32,Tryz.func35,Tryz.func49,Tryz.func50,Tryz.func51,Tryz.func52,Tryz.func53,Tryz.func54,Tryz.func55,Tryz.func56,Tryz.func57,Tryz.func58,Tryz.func59,Tryz.func60,Tryz.func61,Tryz.func64,Tryz.func65,Tryz.func66,Tryz.func67,Tryz.func68,Tryz.func76,Tryz.func77,Tryz.func78,Tryz.func79,Tryz.func87,Tryz.underlying117,Tryz.runUnderlying117,Tryz.sizeOf117,Tryz.isAgg117,Tryz.zeroValue117,Tryz.underlying119,Tryz.runUnderlying119,Tryz.sizeOf119,Tryz.isAgg119,Tryz.zeroValue119,Tryz.underlying120,Tryz.runUnderlying120,Tryz.sizeOf120,Tryz.isAgg120,Tryz.zeroValue120,Tryz.underlying87,Tryz.runUnderlying87,Tryz.sizeOf87,Tryz.isAgg87,Tryz.zeroValue87,Tryz.underlying84,Tryz.runUnderlying84,Tryz.sizeOf84,Tryz.isAgg84,Tryz.zeroValue84,Tryz.underlying82,Tryz.runUnderlying82,Tryz.sizeOf82,Tryz.isAgg82,Tryz.zeroValue82,Tryz.underlying73,Tryz.runUnderlying73,Tryz.sizeOf73,Tryz.isAgg73,Tryz.zeroValue73,Tryz.underlying85,Tryz.runUnderlying85,Tryz.sizeOf85,Tryz.isAgg85,Tryz.zeroValue85,Tryz.underlying124,Tryz.runUnderlying124,Tryz.sizeOf124,Tryz.isAgg124,Tryz.zeroValue124,Tryz.underlying159,Tryz.runUnderlying159,Tryz.sizeOf159,Tryz.isAgg159,Tryz.zeroValue159,Tryz.underlying161,Tryz.runUnderlying161,Tryz.sizeOf161,Tryz.isAgg161,Tryz.zeroValue161,Tryz.underlying0,Tryz.runUnderlying0,Tryz.sizeOf0,Tryz.isAgg0,Tryz.zeroValue0,Tryz.underlying3,Tryz.runUnderlying3,Tryz.sizeOf3,Tryz.isAgg3,Tryz.zeroValue3,Tryz.underlying4,Tryz.runUnderlying4,Tryz.sizeOf4,Tryz.isAgg4,Tryz.zeroValue4,Tryz.underlying9,Tryz.runUnderlying9,Tryz.sizeOf9,Tryz.isAgg9,Tryz.zeroValue9,Tryz.underlying20,Tryz.runUnderlying20,Tryz.sizeOf20,Tryz.isAgg20,Tryz.zeroValue20,Tryz.underlying21,Tryz.runUnderlying21,Tryz.sizeOf21,Tryz.isAgg21,Tryz.zeroValue21,(by kernel_rfl),(by kernel_rfl)⟩
end Go.Proofs
namespace Go.Proofs.YtejkelcaljmnoaaGreatDoor
open Go.Conc Go.ConcX Go.RowKit Go.Conc.Lib Go.ConcX.Gen Go.Hx
instance:Payload:=⟨3⟩
end Go.Proofs.YtejkelcaljmnoaaGreatDoor
namespace Go.Proofs.YtejkelcaljmnoaaGreatDoor
open Go.Conc Go.RowKit Go.Hx Go.ConcX Go.Conc.Lib Go.ConcX.Gen
def GI (p:Par)(told:Value)(n:Nat)(xs:List Value)(w:World):Prop:=Hx.Told p told n xs w/\p.N0<=w.heap.size
theorem GI.rely {p:Par}{told:Value}{n:Nat}{xs:List Value}{w w₁:World}(h:GI p told n xs w)(r:RA p w w₁):GI p told n xs w₁:=⟨h.1.rely r,Nat.le_trans h.2 r.kept.size⟩
def Off (told:Value)(nb:Nat):Prop:= ∀g l cap,told= .slice (some ⟨g,0,none⟩) l cap->g≠nb
theorem Told.off {p:Par}{told:Value}{n:Nat}{xs:List Value}{w:World}(h:Hx.Told p told n xs w):Off told w.heap.size:=by
 intro g l cap e;rcases h.2 with ⟨e',_⟩|⟨g',cap',cur,e',_,h3,_⟩
 ·rw[e'] at e;cases e
 ·rw[e'] at e;cases e;exact Nat.ne_of_lt (Array.getElem?_eq_some_iff.1 h3).1
theorem Told.setOther {p:Par}{told:Value}{n:Nat}{xs:List Value}{w:World}{nb:Nat}(h:Hx.Told p told n xs w)(ho:Off told nb)(i:Nat)(v:Value):Hx.Told p told n xs (w.setCell ⟨nb,i,none⟩ v):=by
 refine⟨h.1,h.2.imp id ?_⟩;rintro⟨g,cap,cur,h1,h2,h3,h4⟩;exact⟨g,cap,cur,h1,h2,by rw[fI w _ v (ho g _ _ h1)];exact h3,h4⟩
def GB (p:Par)(told:Value)(n:Nat)(xs:List Value)(nb:Nat)(cs:Array Value)(w:World):Prop:=GI p told n xs w/\Fb p nb cs w/\Off told nb
theorem GB.rely {p:Par}{told:Value}{n:Nat}{xs:List Value}{nb:Nat}{cs:Array Value}{w w₁:World}(h:GB p told n xs nb cs w)(r:RA p w w₁):GB p told n xs nb cs w₁:=⟨h.1.rely r,h.2.1.rely r,h.2.2⟩
theorem GB.set {p:Par}{told:Value}{n:Nat}{xs:List Value}{nb:Nat}{cs:Array Value}{w:World}(h:GB p told n xs nb cs w)(i:Nat)(v:Value):GB p told n xs nb (cs.setIfInBounds i v) (w.setCell ⟨nb,i,none⟩ v):=
 ⟨⟨Told.setOther h.1.1 h.2.2 i v,by simpa [World.setCell] using h.1.2⟩,h.2.1.set i v,h.2.2⟩
theorem kB {p:Par}{E Dn:Nat}{w:World}{cs:Array Value}(hty:p.ety=51)(hN:p.N0<=w.heap.size)(hE:E<p.N0)(hD:Dn<p.N0){es:Array Event}(hes: ∀e∈es,False):DG p E Dn w (w.alloc (.cells cs 51)) es:=by
 have:=uK (E:=E) (Dn:=Dn) (cs:=cs) hN hE hD hes
 rwa [hty] at this
theorem Fb.new44 {p:Par}{w:World}{cs:Array Value}(hty:p.ety=51)(hN:p.N0<=w.heap.size):Fb p w.heap.size cs (w.alloc (.cells cs 51)):=by
 have:=Fb.new (cs:=cs) hN
 rwa [hty] at this
abbrev zE44:Value:= .agg #[.int .i64 0, .int .i64 0, .int .i64 0, .int .i64 0]
abbrev zD57:Value:= .agg #[]
def gAt (E Dn:Nat)(told t6 t7 t8 t9 t10 t11 t12 t13 t14 t15 t16 t17 t18:Value):Act:=
 {tmps:= #[.chan (some E), .chan (some Dn),undef,undef, .slice none 0 0,told,t6,t7,t8,t9,t10,t11,t12,t13,t14,t15,t16,t17,t18],defers:=[]}
variable {p:Par}{E Dn Wg C Low:Nat} [Shy Wg C]{vals:List Value}{Mine:Loc->Prop}{AnchW:Goroutine->World->Prop}{PostB:World->Prop}
theorem uM: ∃i z,Tryz.prog.info? 51=some i/\i.zero=some z/\i.size=4/\i.bytes=32/\z.cells.size=4:=by
 have h:(Tryz.prog.info? 51).map (fun i=>(i.zero.map (·.cells.size),i.size,i.bytes))=some (some 4,4,32):=by kernel_rfl
 obtain⟨i,hi,h2⟩:=Option.map_eq_some_iff.1 h;simp only[Prod.mk.injEq] at h2;obtain⟨z,hz,h3⟩:=Option.map_eq_some_iff.1 h2.1;exact⟨i,z,hi,hz,h2.2.1,h2.2.2,h3⟩
def cells4 (now kind id x:Int):List Value:=[.int .i64 now, .int .i64 kind, .int .i64 id, .int .i64 x]
abbrev wd (now kind id x:Int):Value:= .agg #[.int .i64 now, .int .i64 kind, .int .i64 id, .int .i64 x]
theorem ir (hty:p.ety=51)(hE:E<p.N0)(hD:Dn<p.N0): ∃k,∀(c R0 R1:Code)(hc:Tryz.f34.body=some (.seq R0 (.seq R1 (.block 0 (.loop c)))))(told:Value)(n:Nat)(xs:List Value)(hn:n<10000)(now kind id x:Int)(vs:List Value)(Qx:Option (List Value)->Exit->Act->World->Prop)(k2:Nat)
 (H: ∀told' t6 t7 t8 t9 t10 t11 t12 t13 t14 t15 t16 t17 t18 w',GI p told' (n+1) (xs++cells4 now kind id x) w'->LoopX (gF Tryz.prog 87 Wg C Low vals Mine AnchW p E Dn zE44 zD57 PostB) Tryz.prog true 34 c k2 (some vs) Qx (gAt E Dn told' t6 t7 t8 t9 t10 t11 t12 t13 t14 t15 t16 t17 t18) w')
 (t6 t7 t8 t9 t10 t11 t12 t13 t14 t15 t16 t17 t18:Value) (w:World),GI p told n xs w->
 wpX (gF Tryz.prog 87 Wg C Low vals Mine AnchW p E Dn zE44 zD57 PostB) Tryz.prog true 34 c k (some (wd now kind id x::vs)) (ThenX (fun s' a' w'=>LoopX (gF Tryz.prog 87 Wg C Low vals Mine AnchW p E Dn zE44 zD57 PostB) Tryz.prog true 34 c k2 s' Qx a' w') Qx) (gAt E Dn told t6 t7 t8 t9 t10 t11 t12 t13 t14 t15 t16 t17 t18) w:=by
 co_apply Exists.intro;intro c R0 R1 hc told n xs hn now kind id x vs Qx k2 H t6 t7 t8 t9 t10 t11 t12 t13 t14 t15 t16 t17 t18 w hF;simp only[Tryz.f34,Option.some.injEq,Code.seq.injEq,Code.block.injEq,Code.loop.injEq,true_and] at hc;obtain⟨_,_,rfl⟩:=hc;unfold gAt;have z1: ∀w,(zeroValue 51).run Tryz.prog w= .ok zE44 w:=fun w=>by kernel_rfl
 have z2: ∀w,(zeroValue 78).run Tryz.prog w= .ok zD57 w:=fun w=>by kernel_rfl
 co_apply eu;co_apply cj;co_apply cj;co_apply bq;simp only[List.size_toArray,List.length_cons,List.length_nil,Nat.reduceAdd,Nat.zero_add,List.range,List.range.loop];co_apply aJ rfl (by rfl);intro _ hR K hK;replace hF:=(GI.rely) hF hR;clear hR
 skip
 go_simp
 try (unfold stored;go_simp)
 refine hK _ _ ⟨?_, ?_⟩
 ·co_still (de p E Dn)
 clear hK K
 try walk_nrm
 co_apply bJ
 try simp only[ThenX]
 try co_then
 co_apply bq;simp only[List.size_toArray,List.length_cons,List.length_nil,Nat.reduceAdd,Nat.zero_add,List.range,List.range.loop];co_apply aJ rfl (by rfl);intro _ hR K hK;replace hF:=(GI.rely) hF hR;clear hR
 skip
 go_simp
 try (unfold stored;go_simp)
 refine hK _ _ ⟨?_, ?_⟩
 ·co_still (de p E Dn)
 clear hK K
 try walk_nrm
 co_apply bJ
 try simp only[ThenX]
 try co_then
 co_apply cj;co_apply bq;simp only[List.size_toArray,List.length_cons,List.length_nil,Nat.reduceAdd,Nat.zero_add,List.range,List.range.loop];co_apply uL rfl (by rfl)
 ·intro w₁ h₁;refine⟨?_, ?_⟩
  ·simp[execOp,go_sem,z1,z2,selCases,rcase,Act.eval]
  ·intro e he;have hm:=mem_listed he;simp[go_sem, *] at hm
 intro w₂ h₂;replace hF:=GI.rely hF h₂;clear h₂;rw[show commResult (selCases E Dn zE44 zD57) .select 0 (wd now kind id x) true= .tuple #[.int .i64 0, .bool true,wd now kind id x,zD57] from by simp[commResult,selCases,rcase,goInt]]
 walk_nrm
 co_apply aJ rfl (by rfl);intro _ hR K hK;replace hF:=(GI.rely) hF hR;clear hR
 skip
 go_simp
 try (unfold stored;go_simp)
 refine hK _ _ ⟨?_, ?_⟩
 ·co_still (de p E Dn)
 clear hK K
 try walk_nrm
 co_apply aJ rfl (by rfl);intro _ hR K hK;replace hF:=(GI.rely) hF hR;clear hR
 skip
 go_simp
 try (unfold stored;go_simp)
 refine hK _ _ ⟨?_, ?_⟩
 ·co_still (de p E Dn)
 clear hK K
 try walk_nrm
 co_apply aJ rfl (by rfl);intro _ hR K hK;replace hF:=(GI.rely) hF hR;clear hR
 skip
 go_simp
 try (unfold stored;go_simp)
 refine hK _ _ ⟨?_, ?_⟩
 ·co_still (de p E Dn)
 clear hK K
 try walk_nrm
 co_apply bJ
 try simp only[ThenX]
 try co_then
 co_apply eu;co_apply fJ (t:=true)
 focus (exact rfl)
 simp only[if_true,if_false,Bool.false_eq_true,reduceIte];co_apply cj;co_apply bq;simp only[List.size_toArray,List.length_cons,List.length_nil,Nat.reduceAdd,Nat.zero_add,List.range,List.range.loop];co_apply aJ rfl (by rfl);intro _ hR K hK;replace hF:=(GI.rely) hF hR;clear hR
 skip
 go_simp
 try (unfold stored;go_simp)
 refine hK _ _ ⟨?_, ?_⟩
 ·co_still (de p E Dn)
 clear hK K
 try walk_nrm
 co_apply aJ rfl (by rfl);intro _ hR K hK;replace hF:=(GI.rely) hF hR;clear hR;have hN:=hF.2;go_simp
 try (unfold stored;go_simp)
 refine hK _ _ ⟨?_, ?_⟩
 ·(refine kB hty hN hE hD ?_;intro e he;have hm:=mem_listed he;simp[go_sem, *] at hm)
 clear hK K
 try walk_nrm
 replace hF:GB p told n xs _ #[.int .i64 0, .int .i64 0, .int .i64 0, .int .i64 0] _:=⟨⟨hF.1.alloc _,by rw[gW];exact Nat.le_succ_of_le hN⟩,Fb.new44 hty hN,Told.off hF.1⟩;clear hN;co_apply aJ rfl (by rfl);intro _ hR K hK;replace hF:=(GB.rely) hF hR;clear hR;have hc0:=hF.2.1.cell (i:=0) rfl;have hc1:=hF.2.1.cell (i:=1) rfl;have hc2:=hF.2.1.cell (i:=2) rfl;have hc3:=hF.2.1.cell (i:=3) rfl;have hz0:=hF.2.1.thaw 0;have hz1:=hF.2.1.thaw 1;have hz2:=hF.2.1.thaw 2;have hz3:=hF.2.1.thaw 3;go_simp
 try (unfold stored;go_simp)
 refine hK _ _ ⟨?_, ?_⟩
 ·(refine xP hF.2.1 hE hD _ _ _ _ ?_;intro e he;have hm:=mem_listed he;simp[go_sem, *] at hm;(rcases hm with rfl|rfl|rfl|rfl<;>exact⟨_,_,_,rfl,rfl⟩))
 clear hK K
 try walk_nrm
 replace hF:=(((hF.set 0 (.int .i64 now)).set 1 (.int .i64 kind)).set 2 (.int .i64 id)).set 3 (.int .i64 x);simp only[List.setIfInBounds_toArray,List.set_cons_zero,List.set_cons_succ] at hF;clear hc0 hc1 hc2 hc3 hz0 hz1 hz2 hz3;co_apply bJ
 try simp only[ThenX]
 try co_then
 co_apply bq;simp only[List.size_toArray,List.length_cons,List.length_nil,Nat.reduceAdd,Nat.zero_add,List.range,List.range.loop];co_apply aJ rfl (by rfl);intro _ hR K hK;replace hF:=(GB.rely) hF hR;clear hR
 skip
 go_simp
 try (unfold stored;go_simp)
 refine hK _ _ ⟨?_, ?_⟩
 ·co_still (de p E Dn)
 clear hK K
 try walk_nrm
 co_apply aJ rfl (by rfl);intro _ hR K hK;replace hF:=(GB.rely) hF hR;clear hR;have hc0:=hF.2.1.cell (i:=0) rfl;have hc1:=hF.2.1.cell (i:=1) rfl;have hc2:=hF.2.1.cell (i:=2) rfl;have hc3:=hF.2.1.cell (i:=3) rfl;go_simp
 try (unfold stored;go_simp)
 refine hK _ _ ⟨?_, ?_⟩
 ·(refine j7 ?_;intro e he;have hm:=mem_listed he;simp[go_sem, *] at hm;(rcases hm with rfl|rfl|rfl|rfl<;>exact dT hF.2.1 rfl _ _))
 clear hK K
 try walk_nrm
 clear hc0 hc1 hc2 hc3;co_apply aJ rfl (by rfl);intro _ hR K hK;replace hF:=(GB.rely) hF hR;clear hR;have hN:=hF.1.2;go_simp
 try (unfold stored;go_simp)
 refine hK _ _ ⟨?_, ?_⟩
 ·(refine kB hty hN hE hD ?_;intro e he;have hm:=mem_listed he;simp[go_sem, *] at hm)
 clear hK K
 try walk_nrm
 replace hF:GB p told n xs _ #[.int .i64 now, .int .i64 kind, .int .i64 id, .int .i64 x] _:=⟨⟨hF.1.1.alloc _,by rw[gW];exact Nat.le_succ_of_le hN⟩,Fb.new44 hty hN,Told.off hF.1.1⟩;clear hN;obtain⟨ti,tz,i1,i2,i3,i4,i5⟩:=uM;co_apply aJ rfl (by rfl);intro _ hR K hK;replace hF:=GB.rely hF hR;clear hR;obtain⟨told',w',hr,hT',hN',hDG⟩:=Told.app (P:=Tryz.prog) (t:=38) (ty:=38) (E:=E) (Dn:=Dn) (by rw[hty];exact Tryz.underlying38) (by rw[hty];exact i1) i2 i3 i4 i5 hE hD hF.1.2 hF.1.1 hn hF.2.1 (by intro u hu;simp at hu;rcases hu with rfl|rfl|rfl|rfl<;>rfl);refine uponK_append (.tmp 14) (.tmp 16) 38 rfl rfl rfl hr ?_;refine hK _ _ ⟨hDG _ ?_, ?_⟩
 ·intro e he;have hm:=mem_listed he;rw[events_append_op (.tmp 14) (.tmp 16) 38 rfl rfl rfl] at hm;exact hm
 clear hK K hDG hF hr;have hF:GI p told' (n+1) (xs++cells4 now kind id x) w':=⟨hT',hN'⟩;clear hT' hN'
 try walk_nrm
 co_apply aJ rfl (by rfl);intro _ hR K hK;replace hF:=(GI.rely) hF hR;clear hR
 skip
 go_simp
 try (unfold stored;go_simp)
 refine hK _ _ ⟨?_, ?_⟩
 ·co_still (de p E Dn)
 clear hK K
 try walk_nrm
 co_apply bJ
 try simp only[ThenX]
 try co_then
 exact H _ _ _ _ _ _ _ _ _ _ _ _ _ _ _ hF
def EI (Wg C:Nat) [Shy Wg C](vals:List Value)(PostB:World->Prop)(p:Par)(told:Value)(n:Nat)(xs:List Value)(w:World):Prop:=PostB w/\KPa 87 Wg C vals w/\Hx.Told p told n xs w
theorem Told.aside {p:Par}{told:Value}{n:Nat}{xs:List Value}{w w₁:World}(h:Hx.Told p told n xs w)(hCN:C<p.N0)(hWN:Wg<p.N0)(ha:Aside2 C Wg w w₁):Hx.Told p told n xs w₁:=by
 refine⟨h.1,h.2.imp id ?_⟩;rintro⟨g,cap,cur,h1,h2,h3,h4⟩;exact⟨g,cap,cur,h1,h2,(ha.block g (by omega) (by omega)).trans h3,h4⟩
theorem EI.rely (hCN:C<p.N0)(hWN:Wg<p.N0)(hPc: ∀w w₁,Aside2 C Wg w w₁->PostB w->PostB w₁) {told:Value} {n:Nat} {xs:List Value} {w w₁:World} (h:EI Wg C vals PostB p told n xs w) (r:RPa 87 Wg C vals w w₁):EI Wg C vals PostB p told n xs w₁:=
 ⟨hPc _ _ r.aside h.1,r.ka h.2.1,Told.aside h.2.2 hCN hWN r.aside⟩
theorem kC (hCN:C<p.N0)(hWN:Wg<p.N0)(hPc: ∀w w₁,Aside2 C Wg w w₁->PostB w->PostB w₁): ∃k,∀(c R0 R1:Code)(hc:Tryz.f34.body=some (.seq R0 (.seq R1 (.block 0 (.loop c)))))(told:Value)(n:Nat)(xs:List Value)(Qx:Option (List Value)->Exit->Act->World->Prop)
 (H: ∀t6 t7 t8 t9 t10 t11 t12 t13 t14 t15 t16 t17 t18 w',EI Wg C vals PostB p told n xs w'->Qx none .ret {tmps:= #[.chan (some E), .chan (some Dn),undef,undef,told,told,t6,t7,t8,t9,t10,t11,t12,t13,t14,t15,t16,t17,t18],defers:=[]} w')
 (t6 t7 t8 t9 t10 t11 t12 t13 t14 t15 t16 t17 t18:Value) (w:World),GI p told n xs w->
 wpX (gF Tryz.prog 87 Wg C Low vals Mine AnchW p E Dn zE44 zD57 PostB) Tryz.prog true 34 c k (some []) (ThenX (fun s' a' w'=>LoopX (gF Tryz.prog 87 Wg C Low vals Mine AnchW p E Dn zE44 zD57 PostB) Tryz.prog true 34 c 0 s' Qx a' w') Qx) (gAt E Dn told t6 t7 t8 t9 t10 t11 t12 t13 t14 t15 t16 t17 t18) w:=by
 co_apply Exists.intro;intro c R0 R1 hc told n xs Qx H t6 t7 t8 t9 t10 t11 t12 t13 t14 t15 t16 t17 t18 w hF;simp only[Tryz.f34,Option.some.injEq,Code.seq.injEq,Code.block.injEq,Code.loop.injEq,true_and] at hc;obtain⟨_,_,rfl⟩:=hc;unfold gAt;have z1: ∀w,(zeroValue 51).run Tryz.prog w= .ok zE44 w:=fun w=>by kernel_rfl
 have z2: ∀w,(zeroValue 78).run Tryz.prog w= .ok zD57 w:=fun w=>by kernel_rfl
 co_apply eu;co_apply cj;co_apply cj;co_apply bq;simp only[List.size_toArray,List.length_cons,List.length_nil,Nat.reduceAdd,Nat.zero_add,List.range,List.range.loop];co_apply aJ rfl (by rfl);intro _ hR K hK;replace hF:=(GI.rely) hF hR;clear hR
 skip
 go_simp
 try (unfold stored;go_simp)
 refine hK _ _ ⟨?_, ?_⟩
 ·co_still (de p E Dn)
 clear hK K
 try walk_nrm
 co_apply bJ
 try simp only[ThenX]
 try co_then
 co_apply bq;simp only[List.size_toArray,List.length_cons,List.length_nil,Nat.reduceAdd,Nat.zero_add,List.range,List.range.loop];co_apply aJ rfl (by rfl);intro _ hR K hK;replace hF:=(GI.rely) hF hR;clear hR
 skip
 go_simp
 try (unfold stored;go_simp)
 refine hK _ _ ⟨?_, ?_⟩
 ·co_still (de p E Dn)
 clear hK K
 try walk_nrm
 co_apply bJ
 try simp only[ThenX]
 try co_then
 co_apply cj;co_apply bq;simp only[List.size_toArray,List.length_cons,List.length_nil,Nat.reduceAdd,Nat.zero_add,List.range,List.range.loop];co_apply sZ rfl (by rfl)
 ·intro w₁ h₁;refine⟨?_, ?_⟩
  ·simp[execOp,go_sem,z1,z2,selCases,rcase,Act.eval]
  ·intro e he;have hm:=mem_listed he;simp[go_sem, *] at hm
 intro w₂ h₂ hpo hka;replace hF:EI Wg C vals PostB p told n xs w₂:=⟨hpo,hka,(GI.rely hF h₂).1⟩;clear h₂ hpo hka;rw[show commResult (selCases E Dn zE44 zD57) .select 1 zD57 false= .tuple #[.int .i64 1, .bool false,zE44,zD57] from by simp[commResult,selCases,rcase,goInt]]
 walk_nrm
 co_apply aJ rfl (by rfl);intro _ hR K hK;replace hF:=(EI.rely hCN hWN hPc) hF hR;clear hR
 skip
 go_simp
 try (unfold stored;go_simp)
 refine hK _ _ ⟨?_, ?_⟩
 ·co_still (fw 87 Wg C Low vals Mine)
 clear hK K
 try walk_nrm
 co_apply aJ rfl (by rfl);intro _ hR K hK;replace hF:=(EI.rely hCN hWN hPc) hF hR;clear hR
 skip
 go_simp
 try (unfold stored;go_simp)
 refine hK _ _ ⟨?_, ?_⟩
 ·co_still (fw 87 Wg C Low vals Mine)
 clear hK K
 try walk_nrm
 co_apply aJ rfl (by rfl);intro _ hR K hK;replace hF:=(EI.rely hCN hWN hPc) hF hR;clear hR
 skip
 go_simp
 try (unfold stored;go_simp)
 refine hK _ _ ⟨?_, ?_⟩
 ·co_still (fw 87 Wg C Low vals Mine)
 clear hK K
 try walk_nrm
 co_apply bJ
 try simp only[ThenX]
 try co_then
 co_apply eu;co_apply fJ (t:=false)
 focus (exact rfl)
 simp only[if_true,if_false,Bool.false_eq_true,reduceIte];co_apply fJ (t:=true)
 focus (exact rfl)
 simp only[if_true,if_false,Bool.false_eq_true,reduceIte];co_apply cj;co_apply bq;simp only[List.size_toArray,List.length_cons,List.length_nil,Nat.reduceAdd,Nat.zero_add,List.range,List.range.loop];co_apply aJ rfl (by rfl);intro _ hR K hK;replace hF:=(EI.rely hCN hWN hPc) hF hR;clear hR
 skip
 go_simp
 try (unfold stored;go_simp)
 refine hK _ _ ⟨?_, ?_⟩
 ·co_still (fw 87 Wg C Low vals Mine)
 clear hK K
 try walk_nrm
 co_apply aJ rfl (by rfl);intro _ hR K hK;replace hF:=(EI.rely hCN hWN hPc) hF hR;clear hR
 skip
 go_simp
 try (unfold stored;go_simp)
 refine hK _ _ ⟨?_, ?_⟩
 ·co_still (fw 87 Wg C Low vals Mine)
 clear hK K
 try walk_nrm
 co_apply bJ
 try simp only[ThenX]
 try co_then
 co_apply jj;co_apply wpC_ret (fw 87 Wg C Low vals Mine);exact H _ _ _ _ _ _ _ _ _ _ _ _ _ _ hF
abbrev Wd:=Int×Int×Int×Int
abbrev Wd.v (x:Wd):Value:=wd x.1 x.2.1 x.2.2.1 x.2.2.2
abbrev Wd.c (x:Wd):List Value:=cells4 x.1 x.2.1 x.2.2.1 x.2.2.2
theorem oH (hty:p.ety=51)(hE:E<p.N0)(hD:Dn<p.N0)(hCN:C<p.N0)(hWN:Wg<p.N0)(hPc: ∀w w₁,Aside2 C Wg w w₁->PostB w->PostB w₁) (ws:List Wd): ∃k,∀(c R0 R1:Code)(hc:Tryz.f34.body=some (.seq R0 (.seq R1 (.block 0 (.loop c)))))(told:Value)(n:Nat)(xs:List Value)(hn:n+ws.length<10000)(Qx:Option (List Value)->Exit->Act->World->Prop)
 (H: ∀told' t6 t7 t8 t9 t10 t11 t12 t13 t14 t15 t16 t17 t18 w',EI Wg C vals PostB p told' (n+ws.length) (xs++ws.flatMap Wd.c) w'->Qx none .ret {tmps:= #[.chan (some E), .chan (some Dn),undef,undef,told',told',t6,t7,t8,t9,t10,t11,t12,t13,t14,t15,t16,t17,t18],defers:=[]} w')
 (t6 t7 t8 t9 t10 t11 t12 t13 t14 t15 t16 t17 t18:Value) (w:World),GI p told n xs w->
 LoopX (gF Tryz.prog 87 Wg C Low vals Mine AnchW p E Dn zE44 zD57 PostB) Tryz.prog true 34 c k (some (ws.map Wd.v)) Qx (gAt E Dn told t6 t7 t8 t9 t10 t11 t12 t13 t14 t15 t16 t17 t18) w:=by
 induction ws with
 |nil=>
  obtain⟨k,g⟩:=kC (Low:=Low) (Mine:=Mine) (AnchW:=AnchW) (vals:=vals) (E:=E) (Dn:=Dn) hCN hWN hPc;refine⟨k+0+1,fun c R0 R1 hc told n xs hn Qx H t6 t7 t8 t9 t10 t11 t12 t13 t14 t15 t16 t17 t18 w hF=> ?_⟩;refine qx (g c R0 R1 hc told n xs Qx (fun u6 u7 u8 u9 u10 u11 u12 u13 u14 u15 u16 u17 u18 w' hw=> ?_) t6 t7 t8 t9 t10 t11 t12 t13 t14 t15 t16 t17 t18 w hF);exact H told _ _ _ _ _ _ _ _ _ _ _ _ _ w' (by simpa using hw)
 |cons x ws ih=>
  obtain⟨k2,g2⟩:=ih;obtain⟨k,g⟩:=ir (Wg:=Wg) (C:=C) (Low:=Low) (Mine:=Mine) (AnchW:=AnchW) (vals:=vals) (PostB:=PostB) hty hE hD;refine⟨k+k2+1,fun c R0 R1 hc told n xs hn Qx H t6 t7 t8 t9 t10 t11 t12 t13 t14 t15 t16 t17 t18 w hF=> ?_⟩;rw[List.length_cons] at hn;refine qx (g c R0 R1 hc told n xs (by omega) _ _ _ _ (ws.map Wd.v) Qx k2 (fun told' u6 u7 u8 u9 u10 u11 u12 u13 u14 u15 u16 u17 u18 w' hw=> ?_) t6 t7 t8 t9 t10 t11 t12 t13 t14 t15 t16 t17 t18 w hF);refine g2 c R0 R1 hc told' (n+1) _ (by omega) Qx (fun told'' v6 v7 v8 v9 v10 v11 v12 v13 v14 v15 v16 v17 v18 w'' hw'=>H told'' _ _ _ _ _ _ _ _ _ _ _ _ _ w'' ?_) _ _ _ _ _ _ _ _ _ _ _ _ _ w' hw;rw[List.length_cons,List.flatMap_cons,<-List.append_assoc,show n+(ws.length+1)=n+1+ws.length from by omega];exact hw'
theorem uN (hty:p.ety=51)(hE:E<p.N0)(hD:Dn<p.N0)(hCN:C<p.N0)(hWN:Wg<p.N0)(hPc: ∀w w₁,Aside2 C Wg w w₁->PostB w->PostB w₁) (ws:List Wd) (hn:ws.length<10000): ∃k,∀(w:World),p.N0<=w.heap.size->
 CallsX (gF Tryz.prog 87 Wg C Low vals Mine AnchW p E Dn zE44 zD57 PostB) Tryz.prog true 34 #[.chan (some E), .chan (some Dn)] k (some (ws.map Wd.v)) w fun s' v w'=>s'=none/\EI Wg C vals PostB p v ws.length (ws.flatMap Wd.c) w':=by
 have key: ∃k k2,∀(c R0 R1:Code)(hc:Tryz.f34.body=some (.seq R0 (.seq R1 (.block 0 (.loop c)))))(Qx:Option (List Value)->Exit->Act->World->Prop)
  (H: ∀told' t6 t7 t8 t9 t10 t11 t12 t13 t14 t15 t16 t17 t18 w',EI Wg C vals PostB p told' ws.length (ws.flatMap Wd.c) w'->Qx none .ret {tmps:= #[.chan (some E), .chan (some Dn),undef,undef,told',told',t6,t7,t8,t9,t10,t11,t12,t13,t14,t15,t16,t17,t18],defers:=[]} w')
  (t6 t7 t8 t9 t10 t11 t12 t13 t14 t15 t16 t17 t18:Value) (w:World),GI p (.slice none 0 0) 0 [] w->
  wpX (gF Tryz.prog 87 Wg C Low vals Mine AnchW p E Dn zE44 zD57 PostB) Tryz.prog true 34 c k (some (ws.map Wd.v)) (ThenX (fun s' a' w'=>LoopX (gF Tryz.prog 87 Wg C Low vals Mine AnchW p E Dn zE44 zD57 PostB) Tryz.prog true 34 c k2 s' Qx a' w') Qx) (gAt E Dn (.slice none 0 0) t6 t7 t8 t9 t10 t11 t12 t13 t14 t15 t16 t17 t18) w:=by
  cases ws with
  |nil=>
   obtain⟨k,g⟩:=kC (Low:=Low) (Mine:=Mine) (AnchW:=AnchW) (vals:=vals) (E:=E) (Dn:=Dn) hCN hWN hPc;exact⟨k,0,fun c R0 R1 hc Qx H t6 t7 t8 t9 t10 t11 t12 t13 t14 t15 t16 t17 t18 w hF=>g c R0 R1 hc _ _ _ Qx (fun u6 u7 u8 u9 u10 u11 u12 u13 u14 u15 u16 u17 u18 w' hw=>H _ _ _ _ _ _ _ _ _ _ _ _ _ _ w' (by simpa using hw)) t6 t7 t8 t9 t10 t11 t12 t13 t14 t15 t16 t17 t18 w hF⟩
  |cons x ws=>
   rw[List.length_cons] at hn;obtain⟨k2,g2⟩:=oH (Low:=Low) (Mine:=Mine) (AnchW:=AnchW) (vals:=vals) hty hE hD hCN hWN hPc ws;obtain⟨k,g⟩:=ir (Wg:=Wg) (C:=C) (Low:=Low) (Mine:=Mine) (AnchW:=AnchW) (vals:=vals) (PostB:=PostB) hty hE hD;refine⟨k,k2,fun c R0 R1 hc Qx H t6 t7 t8 t9 t10 t11 t12 t13 t14 t15 t16 t17 t18 w hF=> ?_⟩;refine g c R0 R1 hc _ 0 _ (by omega) _ _ _ _ (ws.map Wd.v) Qx k2 (fun told' u6 u7 u8 u9 u10 u11 u12 u13 u14 u15 u16 u17 u18 w' hw=> ?_) t6 t7 t8 t9 t10 t11 t12 t13 t14 t15 t16 t17 t18 w hF;refine g2 c R0 R1 hc told' (0+1) _ (by omega) Qx (fun told'' v6 v7 v8 v9 v10 v11 v12 v13 v14 v15 v16 v17 v18 w'' hw'=>H told'' _ _ _ _ _ _ _ _ _ _ _ _ _ w'' ?_) _ _ _ _ _ _ _ _ _ _ _ _ _ w' hw;rw[List.length_cons,List.flatMap_cons,show ws.length+1=0+1+ws.length from by omega];simpa using hw'
 obtain⟨k,k2,g⟩:=key;co_apply Exists.intro;intro w hN;have hF:GI p (.slice none 0 0) 0 [] w:=⟨⟨rfl, .inl ⟨rfl,rfl⟩⟩,hN⟩;co_apply eU Tryz.func34 (by rfl) rfl;simp only[Tryz.ntmps34,List.size_toArray,List.length_cons,List.length_nil,Nat.reduceAdd,Nat.reduceSub,Array.replicate_succ,Array.replicate_zero,List.push_toArray,List.append_toArray,List.nil_append,List.cons_append];co_apply cj;co_apply bq;simp only[List.size_toArray,List.length_cons,List.length_nil,Nat.reduceAdd,Nat.zero_add,List.range,List.range.loop];co_apply aJ rfl (by rfl);intro _ hR K hK;replace hF:=(GI.rely) hF hR;clear hR
 skip
 go_simp
 try (unfold stored;go_simp)
 refine hK _ _ ⟨?_, ?_⟩
 ·co_still (de p E Dn)
 clear hK K
 try walk_nrm
 co_apply bJ
 try simp only[ThenX]
 try co_then
 co_apply cj;co_apply bq;simp only[List.size_toArray,List.length_cons,List.length_nil,Nat.reduceAdd,Nat.zero_add,List.range,List.range.loop];co_apply aJ rfl (by rfl);intro _ hR K hK;replace hF:=(GI.rely) hF hR;clear hR
 skip
 go_simp
 try (unfold stored;go_simp)
 refine hK _ _ ⟨?_, ?_⟩
 ·co_still (de p E Dn)
 clear hK K
 try walk_nrm
 co_apply bJ
 try simp only[ThenX]
 try co_then
 co_apply eu;co_apply lR;exact g _ _ _ rfl _ (fun told' u6 u7 u8 u9 u10 u11 u12 u13 u14 u15 u16 u17 u18 w' hw=>⟨rfl,_,resultsC_tmp (t:=4) (by rfl) _,rfl,hw⟩) _ _ _ _ _ _ _ _ _ _ _ _ _ _ hF
end Go.Proofs.YtejkelcaljmnoaaGreatDoor
namespace Go.Hx
open Go.Conc Go.ConcX
def ShR (Sh:Loc->Prop)(N:Nat):Loc->Prop:=fun l=>Sh l\/InWg (N+6) l
def OkW (Wg C:Nat)(act:MemAct):Prop:=(∀x,act.touch? =some x-> ∃a:Addr,x.loc= .cell a/\((a.block=Wg/\x.kind≠ .plain)\/(a.block=C/\x.kind= .plain)))/\ ∀a,act≠ .mark (.release a)
@[reducible] def shyW (Wg C:Nat) (stop:Goroutine->World->Prop):Shy Wg C where
 ok:=OkW Wg C
 atomicWg:=fun a wr h=>⟨fun x hx=>by simp only[MemAct.touch?,Option.some.injEq] at hx;subst hx;exact⟨a,rfl, .inl ⟨h,by simp⟩⟩,by simp⟩
 readWg:=fun a h=>⟨fun x hx=>by simp only[MemAct.touch?,Option.some.injEq] at hx;subst hx;exact⟨a,rfl, .inl ⟨h,by simp⟩⟩,by simp⟩
 writeWg:=fun a h=>⟨fun x hx=>by simp only[MemAct.touch?,Option.some.injEq] at hx;subst hx;exact⟨a,rfl, .inl ⟨h,by simp⟩⟩,by simp⟩
 theirs:=fun a wr h=>⟨fun x hx=>by simp only[MemAct.touch?,Option.some.injEq] at hx;subst hx;exact⟨a,rfl, .inr ⟨h,by simp⟩⟩,by simp⟩
 disable:=⟨fun x hx=>by simp[MemAct.touch?] at hx,by simp⟩
 enable:=⟨fun x hx=>by simp[MemAct.touch?] at hx,by simp⟩
 relMerge:=⟨fun x hx=>by simp[MemAct.touch?] at hx,by simp⟩
 acquire:=⟨fun x hx=>by simp[MemAct.touch?] at hx,by simp⟩
 go1:=⟨fun x hx=>by simp[MemAct.touch?] at hx,by simp⟩
 start:=⟨fun x hx=>by simp[MemAct.touch?] at hx,by simp⟩
 stop:=stop
section
variable {N:Nat}{Sh:Loc->Prop}{stop:Goroutine->World->Prop}
def Elder (Sh:Loc->Prop)(N:Nat):Prop:= ∀l,Sh l-> ∃b,blk l=some b/\b<N
theorem Elder.not (h:Elder Sh N){b:Nat}(hb:N<=b)(i:Nat): ¬Sh (.cell ⟨b,i,none⟩):=fun s=>by
 obtain⟨x,h1,h2⟩:=h _ s;simp[blk] at h1;omega
theorem Elder.next (h:Elder Sh N):Elder (ShR Sh N) (N+7):=fun l hl=>by
 rcases hl with s|⟨a,rfl,ha⟩
 ·obtain⟨b,h1,h2⟩:=h l s;exact⟨b,h1,by omega⟩
 ·exact⟨_,rfl,by omega⟩
theorem fK {e:Event}{m:Mark}(h:e.loc= .mark m):MemAct.ofEvent e= .mark m:=by
 obtain⟨l,wr,sy⟩:=e;simp only at h;subst h;rfl
theorem xQ (h:Elder Sh N){e:Event}(hk:OkW (N+6) (N+1) (MemAct.ofEvent e))(h1:e.loc≠ .mark .disable)(h2:e.loc≠ .mark .enable):EvP Sh e:=
 ⟨fun x hx hs=>by
  obtain⟨a,ha,hb⟩:=hk.1 x hx;rw[ha] at hs;obtain⟨y,h3,h4⟩:=h _ hs;simp only[blk,Option.some.injEq] at h3;rcases hb with ⟨z,_⟩|⟨z,_⟩<;>omega,h1,h2⟩
theorem uO (h:Elder Sh N){e:Event}(hk:OkW (N+6) (N+1) (MemAct.ofEvent e))(h1:e.loc≠ .mark .disable)(h2:e.loc≠ .mark .enable):EvP (ShR Sh N) e:=
 ⟨fun x hx hs=>by
  obtain⟨a,ha,hb⟩:=hk.1 x hx;rcases hb with ⟨_,z⟩|⟨z,_⟩
  ·exact z
  ·rw[ha] at hs;rcases hs with s|⟨a',e',ha'⟩
   ·obtain⟨y,h3,h4⟩:=h _ s;simp only[blk,Option.some.injEq] at h3;omega
   ·cases e';omega,h1,h2⟩
theorem z6 {a:Addr}(ha:a.block=N+1):ThJ (N+6) (N+1) (.cell a):=⟨a,rfl,ha,by omega⟩
theorem z7 {a:Addr}(ha:a.block=N+6):ShJ (N+6) (N+1) (.cell a):= .inl ⟨a,rfl,ha⟩
theorem Dz (Mine:Loc->Prop)(stop:Goroutine->World->Prop):letI:=shyW (N+6) (N+1) stop;∀e,EvQ Mine (N+6) (N+1) 0 e->Ev0 (ShR Sh N) e:=by
 intro e he;obtain⟨_,h2,_,hk⟩:=he.1 0 "";refine⟨fun x hx=> ?_,fun a ha=>hk.2 a (fK ha)⟩;obtain⟨a,ha,hb⟩:=hk.1 x hx;rcases hb with ⟨z,z'⟩|⟨z,_⟩
 ·exact⟨.inr ⟨a,ha,z⟩,z'⟩
 ·have:=((h2 x hx).2.2 (by rw[ha];exact z6 z)).1;omega
theorem DA (h:Elder Sh N)(Mine:Loc->Prop)(stop:Goroutine->World->Prop):letI:=shyW (N+6) (N+1) stop;∀e,EvJ Mine (N+6) (N+1) e->EvP (ShR Sh N) e:=by
 intro e he;obtain⟨_,_,_,hk⟩:=he.1 0 "";exact uO h hk he.2.1 he.2.2
theorem z8 (h:Elder Sh N)(stop:Goroutine->World->Prop):letI:=shyW (N+6) (N+1) stop;∀w w' es,DE (EvS (N+6) (N+1)) w w' es-> ∀e∈es,EvP Sh e:=by
 intro w w' es he e hm;obtain⟨_,_,_,h1,h2,hk⟩:=he e hm;exact xQ h hk (fun z=>h1 (fK z)) (fun z=>h2 (fK z))
end
open Go.ConcN (sumTo upd sumTo_upd upd_ne upd_same)
def Shs:List Nat->Loc->Prop
 |[]=>fun _=>False
 |N::s=>ShR (Shs s) N
def D0 (Sh:Loc->Prop):World->World->Array Event->Prop:=fun _ _ es=> ∀e∈es,EvP Sh e
theorem kD (Sh:Loc->Prop):Terms AtRel (D0 Sh):=⟨atRel_trans,fun _=>by simp[D0]⟩
def Mine0:Loc->Prop:=fun _=>False
theorem dN {P:Program}{main:Bool}{R:World->World->Prop}{D D':World->World->Array Event->Prop}{Stop Stop':Goroutine->World->Prop}(hD: ∀w w' es,D w w' es->D' w w' es) (hS: ∀g w,Stop g w->Stop' g w):
 ∀(n:Nat)(g:Goroutine)(w:World),Goes P main R D Stop n g w->Goes P main R D' Stop' n g w
 |0,_,_,h=>fun w₁ hr=>hS _ _ (h w₁ hr)
 |n+1,g,w,h=>by
  rcases h with h|⟨hr,h⟩
  ·exact .inl fun w₁ h₁=>hS _ _ (h w₁ h₁)
  ·refine .inr ⟨hr,fun w₁ h₁=> ?_⟩;have:=h w₁ h₁
   revert this
   cases stepG P main g w₁ with
   |go g' w' es=>exact fun⟨x,y⟩=>⟨hD _ _ _ x,dN hD hS n g' w' y⟩
   |_=>exact id
section
variable [Payload]{P:Program}
omit [Payload] in
theorem s3 {Sh:Loc->Prop}{d₀:Nat}{m:Mark}(hm:m= .disable\/m= .enable){gs':Array Goroutine}{a' g':Goroutine}{w':World}{sl' sl'':Option (Nat×Nat)}{t':Trace}{q':Nat->Nat}{d:Nat}
 (h0':gs'[0]? =some a') (hL':Leavers P t' gs' q') (hP':Past0 Sh t' d₀) (hgo:stepG P true a' (w'.at d)= .go g' (w'.at d) #[mk m]) (hst:stepT P (crowd gs' w' sl')=runT P (crowd gs' (w'.at d) sl'') 0):
 ∃(gs'':Array Goroutine) (t'':Trace),runNT P 1 (crowd gs' w' sl') t'=(.next (crowd gs'' (w'.at d) sl''),t'')/\gs''.size=gs'.size/\gs''[0]? =some g'/\Leavers P t'' gs'' q'/\Past0 Sh t'' (deafBehind d₀ #[mk m]):=by
 have hpos:0<gs'.size:=(Array.getElem?_eq_some_iff.1 h0').1;have hrunT:=runT_crowd_go (P:=P) (sl:=sl'') (i:=0) h0' (show stepG P (0==0) a' (w'.at d)=_ from hgo);refine⟨(gs'.map (Go.Conc.woken P a' g' (w'.at d))).setIfInBounds 0 g',_, ?_,by simp,by simp[hpos],⟨fun j x hj hx=> ?_,fun j hj=> ?_⟩,hP'.word a'.frame.fn a'.frame.place hm⟩
 ·simp only[runNT,hst,hrunT]
 ·rw[Array.getElem?_setIfInBounds_ne (by omega),Array.getElem?_map] at hx;obtain⟨y,hy,rfl⟩:=Option.map_eq_some_iff.1 hx;have hq:=hL'.old j y hj hy;rw[woken_quitsD hq,Deaf_other t' (g':=0) (by omega) _ aP];exact hq
 ·have hj':gs'.size<=j:=by simpa using hj
  rw[Deaf_other t' (g':=0) (by omega) _ aP];exact hL'.above j hj'
end
end Go.Hx
namespace Go.Hx
open Go.Conc
structure New (W:World)(os:List Obj)(w:World):Prop where
 tape:w.tape=W.tape
 os':w.os=W.os
 output:w.output=W.output
 heap:w.heap=W.heap++os.toArray
section
variable {W w w₁:World}{os:List Obj}
theorem New.refl (W:World):New W [] W:=⟨rfl,rfl,rfl,by simp⟩
theorem New.rely (h:New W os w)(r:AtRel w w₁):New W os w₁:=by obtain⟨d,rfl⟩:=r;exact⟨h.tape,h.os',h.output,h.heap⟩
theorem New.alloc (h:New W os w)(o:Obj):New W (os++[o]) (w.alloc o):=⟨h.tape,h.os',h.output,by
 show w.heap.push o=_;rw[h.heap];apply Array.ext';simp⟩
theorem New.size (h:New W os w):w.heap.size=W.heap.size+os.length:=by simp[h.heap]
theorem New.get (h:New W os w){i:Nat}{o:Obj}(ho:os[i]? =some o):w.heap[W.heap.size+i]? =some o:=by
 rw[h.heap,Array.getElem?_append_right (by omega)];simpa using ho
theorem New.old (h:New W os w){b:Nat}(hb:b<W.heap.size):w.heap[b]? =W.heap[b]? :=by rw[h.heap,Array.getElem?_append_left hb]
theorem New.cell (h:New W os w){i:Nat}{cs:Array Value}{ty:TypeId}(ho:os[i]? =some (.cells cs ty (0,0))){j:Nat}{v:Value}(hv:cs[j]? =some v):w.cell? ⟨W.heap.size+i,j,none⟩=some v:=by
 simp[World.cell?,h.get ho,hv]
theorem New.thaw (h:New W os w){i:Nat}{cs:Array Value}{ty:TypeId}(ho:os[i]? =some (.cells cs ty (0,0)))(j:Nat):w.frozen? ⟨W.heap.size+i,j,none⟩=false:=by
 simp[World.frozen?,h.get ho]
theorem New.set (h:New W os w){i:Nat}{cs:Array Value}{ty:TypeId}(ho:os[i]? =some (.cells cs ty (0,0)))(j:Nat)(v:Value):New W (os.set i (.cells (cs.setIfInBounds j v) ty (0,0))) (w.setCell ⟨W.heap.size+i,j,none⟩ v):=by
 refine⟨h.tape,h.os',h.output, ?_⟩;have hlt:i<os.length:=(List.getElem?_eq_some_iff.1 ho).1;have hgi:os[i]= .cells cs ty (0,0):=(List.getElem?_eq_some_iff.1 ho).2;apply Array.ext_getElem?;intro x;by_cases hx:x=W.heap.size+i
 ·subst hx;have hg:=h.get ho;have hsz:W.heap.size+i<w.heap.size:=(Array.getElem?_eq_some_iff.1 hg).1;have hg2:w.heap[W.heap.size+i]= .cells cs ty (0,0):=(Array.getElem?_eq_some_iff.1 hg).2;rw[Array.getElem?_append_right (by omega)];simp[World.setCell,hsz,Array.getElem_modify,hg2,hlt]
 ·rw[fI w _ v hx,h.heap];rcases Nat.lt_or_ge x W.heap.size with hl|hl
  ·rw[Array.getElem?_append_left hl,Array.getElem?_append_left hl]
  ·rw[Array.getElem?_append_right hl,Array.getElem?_append_right hl];have:i≠x-W.heap.size:=by omega
   simp[List.getElem?_set_ne this]
variable {Sh:Loc->Prop}
theorem dU {ad:Addr}(wr sy:Bool)(h: ¬Sh (.cell ad)):EvP Sh ⟨.cell ad,wr,sy⟩:=
 ⟨fun x hx hs=>by
  have hx':x.loc= .cell ad:=by cases sy<;>(simp[MemAct.ofEvent,MemAct.touch?] at hx;subst hx;rfl)
  rw[hx'] at hs;exact absurd hs h,by simp,by simp⟩
end
end Go.Hx
namespace Go.Hx
open Go.Conc Go.ConcX
open Go.ConcN (sumTo upd sumTo_upd upd_ne upd_same)
def pZ (N:Nat):Par:=⟨51,N+7,fun l=> ∃a:Addr,l= .cell a/\(a.block=N+3\/a.block=N+5)⟩
section
variable {N:Nat}{Sh:Loc->Prop}{stop:Goroutine->World->Prop}
theorem zv (h:Elder Sh N):ShOk (pZ N) (ShR Sh N) where
 low:=fun l b hl hb=>by
  obtain⟨x,h1,h2⟩:=h.next l hl
  rw[hb] at h1;cases h1;exact h2
 st:=fun l b hl hb=>by
  obtain⟨a,rfl,ha⟩:=hl;simp only[blk,Option.some.injEq] at hb;show b<N+7;omega
 ap:=fun l hl hs=>by
  obtain⟨a,rfl,ha⟩:=hl;rcases hs with s|⟨a',e,ha'⟩
  ·obtain⟨x,h1,h2⟩:=h _ s;simp only[blk,Option.some.injEq] at h1;omega
  ·cases e;omega
theorem DB (h:Elder Sh N)(Mine:Loc->Prop)(stop:Goroutine->World->Prop):letI:=shyW (N+6) (N+1) stop;∀w:World,(pZ N).N0<=w.heap.size-> ∀e,EvQ Mine (N+6) (N+1) 1 e->EvB (pZ N) (ShR Sh N) w e:=by
 intro w hw e he;obtain⟨_,h2,_,hk⟩:=he.1 0 "";refine⟨fun x hx hm=> ?_,he.2.1,he.2.2.1⟩;have hw':N+7<=w.heap.size:=hw;obtain⟨a,ha,hb⟩:=hk.1 x hx;have hcls:a.block=N+6\/a.block=N+1->ClsB (pZ N) w x:=fun hz=>⟨a.block,by rw[ha];rfl,by omega,fun f=>by have:N+7<=a.block:=f.1;omega⟩;have hst:a.block=N+6\/a.block=N+1->((pZ N).Still x.loc->x.write=false):=fun hz hs=>by
  obtain⟨a',e',hs⟩:=hs;rw[ha] at e';cases e';omega
 rcases hb with ⟨z,z'⟩|⟨z,z'⟩
 ·refine⟨hcls (.inl z),fun _=> ?_,hst (.inl z)⟩;have:=((h2 x hx).2.1 (by rw[ha];exact z7 z)).2;cases hkk:x.kind with
  |plain=>exact absurd hkk z'
  |atomic=>rfl
  |said=>exact absurd (this hkk) (by decide)
 ·refine⟨hcls (.inr z),fun hs=> ?_,hst (.inr z)⟩;rw[ha] at hs;rcases hs with s|⟨a',e',ha'⟩
  ·obtain⟨y,h3,h4⟩:=h _ s;simp only[blk,Option.some.injEq] at h3;omega
  ·cases e';omega
theorem DC (h:Elder Sh N)(Mine:Loc->Prop)(stop:Goroutine->World->Prop):letI:=shyW (N+6) (N+1) stop;∀c,c≠0->Fix (N+6) (N+1) (N+7) Mine (pZ N) (ShR Sh N) c:=by
 intro c hc
 letI:=shyW (N+6) (N+1) stop
 exact⟨by omega,by omega,by omega,Nat.le_refl _,hc,zv h,fun l hl=> .inr hl,fun i s=>by obtain⟨a,e,ha⟩:=s;cases e;simp only at ha;omega,Dz Mine stop⟩
end
section
variable [Payload](P:Program)
def RunZ (N:Nat)(s:List Nat)(Next:Goroutine->World->Prop)(g:Goroutine)(w:World):Prop:=
 letI:=shyW (N+6) (N+1) Next
 Elder (Shs s) N/\ ∃(vals:List Value) (AnchW:Goroutine->World->Prop) (Post:Value->World->Prop) (PostB:World->Prop) (zE zD:Value),
  (∀w w₁,RB (pZ N) (N+2) (N+4) w w₁->PostB w->PostB w₁)/\(∀w w₁,Aside2 (N+1) (N+6) w w₁->PostB w->PostB w₁)/\(∀w,PostB w->N+7<=w.heap.size)/\
  (∀g w,AnchW g w->g.status= .running)/\(∀g w,AnchW g w-> ∃m,Goes P true (RPa 87 (N+6) (N+1) vals) (DPi Mine0 (N+6) (N+1) (N+7)) (AtW1 P 87 (N+6) (N+1) (N+7) vals Mine0 AnchW Post) m g w)/\
  AtMkS P .disable (fun a w=> ∃n,Goes P true AtRel (DE (EvS (N+6) (N+1))) (AtMkS P .enable fun a w=> ∃n,Goes P true AtRel (DE (EvS (N+6) (N+1))) (AtFork P (Shs s) (Both P 87 (N+6) (N+1) (N+7) vals Mine0 AnchW (pZ N) (ShR (Shs s) N) (N+2) (N+4) zE zD PostB)) n a w) n a w) g w
def StopZ (Post:Value->World->Prop):Nat->List Nat->Goroutine->World->Prop
 |0,s=>AtEnd0 P (Shs s) Post
 |n+1,s=>fun g w=> ∃N,RunZ P N s (fun g' w'=> ∃m,Goes P true AtRel (D0 (Shs (N::s))) (StopZ Post n (N::s)) m g' w') g w
def FZ (Post:Value->World->Prop):Fam (Nat×List Nat):=⟨fun _=>AtRel,fun s=>D0 (Shs s.2),fun s=>StopZ P Post s.1 s.2,fun s=>kD _⟩
end
section
variable [Payload]{P:Program}
theorem uP {s:List Nat}{Next:Nat->Goroutine->World->Prop}{gs:Array Goroutine}{a:Goroutine}{w:World}{sl:Option (Nat×Nat)}{t:Trace}{q:Nat->Nat}{m:Nat}
 (h0:gs[0]? =some a) (hL:Leavers P t gs q) (hP:Past0 (Shs s) t) (hG:Goes P true AtRel (D0 (Shs s)) (fun g w=> ∃N,RunZ P N s (Next N) g w) m a w):
 ∃(N:Nat) (k:Nat) (gs':Array Goroutine) (a':Goroutine) (w':World) (sl':Option (Nat×Nat)) (t':Trace) (q':Nat->Nat),
  runNT P k (crowd gs w sl) t=(.next (crowd gs' w' sl'),t')/\gs'[0]? =some a'/\Leavers P t' gs' q'/\Past0 (Shs (N::s)) t'/\ ∃d,Next N a' (w'.at d):=by
 obtain⟨k1,gs1,a1,w1,sl1,t1,q1,d,sl1',r1,hsz1,h01,hL1,hP1,⟨N,hE,vals,AnchW,Post,PostB,zE,zD,x1,x2,x3,x4,x5,⟨_,g',hgo,n2,hG2⟩⟩,hst1⟩:=oB (fun g w h=>by obtain⟨_,_,_,_,_,_,_,_,_,_,_,_,_,h⟩:=h;exact h.1) (fun _ _ _ h=>h) _ m gs a w sl t q rfl h0 hL hP hG
 letI:=shyW (N+6) (N+1) (Next N)
 obtain⟨gs2,t2,r2,hsz2,h02,hL2,hP2⟩:=s3 (.inl rfl) h01 hL1 hP1 hgo hst1;obtain⟨k3,gs3,a3,w3,sl3,t3,q3,r3,hsz3,h03,hL3,hP3,n3,hG3⟩:=Dy (sl:=sl1') (.inr rfl) (z8 hE (Next N)) h02 hL2 hP2 hG2;have hP3':Past0 (Shs s) t3:=by
  have e:deafBehind (deafBehind 0 #[mk .disable]) #[mk .enable]=0:=by rfl
  rw[e] at hP3;exact hP3
 obtain⟨k4,gs4,a4,w4,sl4,t4,q4,r4,hsz4,h04,_,hS,hL4,hP4⟩:=z5 (Wg:=N+6) (C:=N+1) (Low:=N+7) (Mine:=Mine0) (p:=pZ N) (Sh':=ShR (Shs s) N) (E:=N+2) (Dn:=N+4) (sl:=sl3) (Post:=Post)
  (fun l h=> .inl h) (DC hE Mine0 (Next N)) (by omega) (by omega) (by omega) (show N+4<N+7 by omega) (fun l hl e=>by
   subst e;rcases hl with s'|⟨a,e,_⟩
   ·obtain⟨b,h1,h2⟩:=hE _ s';simp only[blk,Option.some.injEq] at h1;omega
   ·cases e) (DB hE Mine0 (Next N)) (DA hE Mine0 (Next N)) x1 x2 x3 x4 x5 (z8 hE (Next N)) h03 hL3 hP3' hG3
 refine⟨N,k1+(1+(k3+k4)),gs4,a4,w4,sl4,t4,q4, ?_,h04,hL4,hP4,hS⟩;rw[runNT_add,r1];simp only[];rw[runNT_add,r2];simp only[];rw[runNT_add,r3];exact r4
theorem lS {Post:Value->World->Prop}: ∀(n:Nat)(s:List Nat)(gs:Array Goroutine)(a:Goroutine)(w:World)(sl:Option (Nat×Nat))(t:Trace)(q:Nat->Nat)(m:Nat),
 gs[0]? =some a->Leavers P t gs q->Past0 (Shs s) t->Goes P true AtRel (D0 (Shs s)) (StopZ P Post n s) m a w->
 ∃k last o w' t',runNT P (k+1) (crowd gs w sl) t=(.ended o w',t')/\runN P k (crowd gs w sl)= .next last/\step P last= .ended o w'/\Good P Post last o w' t'
 |0,s,gs,a,w,sl,t,q,m,h0,hL,hP,hG=>BM (fun _ _ _ h=>h) h0 hL hP hG
 |n+1,s,gs,a,w,sl,t,q,m,h0,hL,hP,hG=>by
  obtain⟨N,k1,gs1,a1,w1,sl1,t1,q1,r1,h01,hL1,hP1,d,m1,hG1⟩:=uP (sl:=sl) h0 hL hP hG;obtain⟨k2,last,o,w',t',r2,r3,r4,r5⟩:=lS n (N::s) gs1 a1 w1 sl1 t1 q1 m1 h01 hL1 hP1 (Goes.rely atRel_trans hG1 ⟨w1.drawn,rfl⟩);refine⟨k1+k2,last,o,w',t', ?_, ?_,r4,r5⟩
  ·rw[Nat.add_assoc,runNT_add,r1];exact r2
  ·rw[<-runNT_fst P _ _ t,runNT_add,r1];simp only[];rw[runNT_fst];exact r3
end
def boxZ (N K:Nat)(ticks:Int)(st:Int):List Obj:=
 [.cells #[.pointer (some ⟨K,0,none⟩)] 35, .cells #[.int .i64 ticks] 3, .chan 0 #[] false 0 0 false, .cells #[.chan (some (N+2))] 76, .chan 0 #[] false 0 0 false, .cells #[.chan (some (N+4))] 77, .cells #[.int .u64 st, .int .u32 0] 87]
end Go.Hx
namespace Go.Hx
open Go.Conc
theorem kE {σ:Type}{F:Fam σ}{P:Program}{main:Bool}{fn:FuncId}{Q:σ->Exit->Act->World->Prop}{s:σ}{a:Act}{w:World}{c:Code}{n m:Nat}{b:Frame}{k:List Item}{cs:List Frame}(h:wpX F P main fn c n s Q a w)(hb:b.fn=fn)(hk:b.kind≠ .early)
 (hc: ∀s' e a' w',Q s' e a' w'->After P main (F.R s') (F.D s') (F.Stop s') m b k cs e a' w'):Goes P main (F.R s) (F.D s) (F.Stop s) (m+n) (G (b.at a (.code c::k)) cs) w:=h b k cs m hb hk hc
end Go.Hx
namespace Go.Hx
open Go.Conc Go.RowKit
section
variable (P:Program)(p:Par)(Sh:Loc->Prop)(E Dn:Nat)(PostB:World->Prop)(Aft:Goroutine->World->Prop)
def tellF:Fam (List Value):=⟨fun _=>RB p E Dn,fun _=>DT p Sh E Dn,StopT P p Sh E Dn PostB Aft,fun _=>eB p Sh E Dn⟩
end
section
variable {P:Program}{p:Par}{Sh:Loc->Prop}{E Dn:Nat}{PostB:World->Prop}{Aft:Goroutine->World->Prop}{fn:FuncId}{Q:List Value->Exit->Act->World->Prop}{a:Act}{w:World}
theorem s4 {ops:Array Oper}{i:Nat}{rest:List Nat}{o:Oper}{n:Nat}{v z':Value}{vs:List Value}(ho:ops[i]? =some o)(hw:Region.wanted o (yielded ops a.tmps)=true)
 (hrun: ∀w₁,RB p E Dn w w₁->(execOp a.eval o).run P w₁= .ok (.comm #[scase E v z'] true .send) w₁/\ ∀e∈listed P fn a o w₁,EvB p Sh w₁ e)
 (hnext: ∀w₂,RB p E Dn w w₂->OpsX (tellF P p Sh E Dn PostB Aft) P false fn ops rest n vs Q (a.put o.dst undef) w₂):
 OpsX (tellF P p Sh E Dn PostB Aft) P false fn ops (i::rest) 0 (v::vs) Q a w:=by
 intro b k cs m hb hk hc;refine Goes.stop fun w₁ h₁=> ?_;obtain⟨hr,hev⟩:=hrun w₁ h₁;refine(show AtTell P p Sh E Dn v (fun g₂ w₂=>Tells P p Sh E Dn PostB Aft vs (Conc.served g₂ undef) w₂) _ w₁ from⟨rfl,_,z',stepG_comm ho hw hk hr,by rw[hb];exact hev,fun w₂ h₂=> ?_⟩);show Tells P p Sh E Dn PostB Aft vs (Conc.served (core (G (b.at a (.inRegion ops (i::rest)::k)) cs)) undef) w₂;rw[core_G,served_G,ho];exact(eX _ _ _ _ _ _ _ _ _ _).2 ⟨_,hnext w₂ (RB.trans _ _ _ h₁ h₂) b k cs m hb hk hc⟩
end
end Go.Hx
namespace Go.Hx
open Go.Conc
section
variable {P:Program}{main:Bool}{R:World->World->Prop}{D:World->World->Array Event->Prop}{Stop:Goroutine->World->Prop}{b:Frame}{a:Act}{k:List Item}{cs:List Frame}{w:World}
theorem bN (T:Terms R D){g g':Goroutine}{n:Nat}(hr:g.status= .running)(hs: ∀w,stepG P main g w= .go g' w #[]) (h:Goes P main R D Stop n g' w):Goes P main R D Stop (n+1) g w:=
 Goes.step hr fun w₁ h₁=>by rw[hs w₁];exact⟨T.idle _,h.rely T.trans h₁⟩
def dclose (ats:Array TypeId)(ty:TypeId)(c:Nat):Deferred:={target:= .builtin .close ats ty #[false],args:= #[.chan (some c)]}
theorem jm {ops:Array Oper}{i:Nat}{rest:List Nat}{o:Oper}{x:Tmp}{c:Nat}{ats:Array TypeId}(ho:ops[i]? =some o)(hw:Region.wanted o (yielded ops a.tmps)=true)(hk:b.kind≠ .early)
 (hop:o.op= .defer {callee:= .builtin .close,args:= #[.tmp x],argTypes:=ats}) (hx:a.eval (.tmp x)= .chan (some c)):
 stepG P main (G (b.at a (.inRegion ops (i::rest)::k)) cs) w= .go (G (b.at (Act.put ⟨a.tmps,dclose ats o.type c::a.defers⟩ o.dst undef) (.inRegion ops rest::k)) cs) w #[]:=by
 have hr:(execOp a.eval o).run P w= .ok (.defer (dclose ats o.type c)) w:=by
  unfold execOp;simp[hop,resolve,hx,dclose]
 have he:(execOp a.eval o).events P w #[]= #[]:=by
  unfold execOp;simp[hop,resolve]
 have hfin:(b.at ⟨a.tmps,dclose ats o.type c::a.defers⟩ (.inRegion ops (i::rest)::k)).finish undef=b.at (Act.put ⟨a.tmps,dclose ats o.type c::a.defers⟩ o.dst undef) (.inRegion ops rest::k):=by rw[Frame.finish_at,ho];rfl
 have hk':(b.kind==CallKind.early)=false:=by simpa using hk
 rw[stepG_oper ho hw,<-hfin];simp[stepG.apply,hr,he,G,Frame.at,hk',GStep.after,seen_none]
theorem iu {ats:Array TypeId}{ty:TypeId}{ds:List Deferred}{todo:List Item}{c room s r:Nat}{buf:Array Value}{tm:Bool}(hd:a.defers=dclose ats ty c::ds)(h:w.heap[c]? =some (.chan room buf false s r tm))(hq:(P.funcs[b.fn]?).any (·.norace)=false):
 stepG P main (G {b.at a todo with mode:= .returning} cs) w= .go (G {b.at ⟨a.tmps,ds⟩ todo with mode:= .returning} cs) (w.setChan c room buf true s r tm) (closeEvents c):=by
 have h1:=run_close_open (P:=P) (w:=w) ats ty h;have h2:=events_close_open (P:=P) (w:=w) (es:= #[]) ats ty h;have hr:(invoke (.builtin .close ats ty #[false]) #[.chan (some c)]).run P w= .ok (.value (.tuple #[])) (w.setChan c room buf true s r tm):=by
  simp[invoke,go_sem,h1,World.setChan]
 have he:(invoke (.builtin .close ats ty #[false]) #[.chan (some c)]).events P w #[]=closeEvents c:=by
  simp[invoke,go_sem,h1,h2,closeEvents]
 have hs:seen P b.fn (closeEvents c)=closeEvents c:=by
  exact seen_eq hq (by intro e he f;simp only[closeEvents,List.mem_toArray,List.mem_cons,List.not_mem_nil,or_false] at he;rcases he with rfl|rfl<;>simp)
 simp[G,stepG,unwind,callDeferred,Frame.at,hd,dclose,hr,he,hs,GStep.after]
end
end Go.Hx
namespace Go.Proofs.YtejkelcaljmnoaaGreatDoor
open Go.Conc Go.RowKit Go.Hx Go.ConcX Go.Conc.Lib Go.ConcX.Gen
noncomputable def tl6:Code:=match Tryz.f19.body with|some (.seq _ (.seq _ (.seq _ (.seq _ (.seq _ t)))))=>t|_=> .skip
noncomputable def tl7:Code:=match tl6 with| .seq _ t=>t|_=> .skip
noncomputable def tl8:Code:=match tl7 with| .seq _ t=>t|_=> .skip
noncomputable def tl9:Code:=match tl8 with| .seq _ t=>t|_=> .skip
noncomputable def tl10:Code:=match tl9 with| .seq _ t=>t|_=> .skip
noncomputable def r8:Code:=match tl8 with| .seq r _=>r|_=> .skip
theorem z9:tl8= .seq r8 tl9:=by simp only[r8,tl9,tl8,tl7,tl6,Tryz.f19]
noncomputable def ops7:Array Oper:=match tl7 with| .seq (.region _ ops _) _=>ops|_=> #[]
noncomputable def ops9:Array Oper:=match tl9 with| .seq (.region _ ops _) _=>ops|_=> #[]
def TR (N K:Nat)(ticks:Int)(t9 t18 t19 t20 t21 t22 t23:Value):Array Value:=
 #[.pointer (some ⟨K,0,none⟩), .int .i64 ticks, .pointer (some ⟨N,0,none⟩), .pointer (some ⟨N+1,0,none⟩), .slice none 0 0, .int .i64 0, .pointer (some ⟨N+3,0,none⟩), .pointer (some ⟨N+5,0,none⟩), .pointer (some ⟨N+6,0,none⟩),t9,
  .int .i64 ticks, .bool false, .bool false, .int .i64 ticks, .bool false, .bool false, .chan (some (N+2)), .chan (some (N+4)),t18,t19,t20,t21,t22,t23,undef]
def caps (N:Nat):Array Value:= #[.pointer (some ⟨N+6,0,none⟩), .pointer (some ⟨N+5,0,none⟩), .pointer (some ⟨N,0,none⟩), .pointer (some ⟨N+1,0,none⟩), .pointer (some ⟨N+3,0,none⟩)]
def fv (N:Nat):Value:= .func (.func 31) #[] (caps N)
def started (N:Nat):Deferred:={target:= .fn (.func 31) (caps N),args:= #[]}
noncomputable def fW (N K:Nat)(ticks:Int)(b:Frame)(k:List Item)(told:Value):Frame:=
 b.at ⟨TR N K ticks told (.tuple #[]) (fv N) (.chan (some (N+2))) (.chan (some (N+4))) told undef,[]⟩ (.inRegion ops9 (0::[]):: .code tl10::k)
def FJ (N:Nat)(PostB:World->Prop)(ws:List Wd)(told:Value)(w:World):Prop:=PostB w/\Hx.Told (pZ N) told ws.length (ws.flatMap Wd.c) w
def AncR (N K:Nat) [Shy (N+6) (N+1)](ticks:Int)(b:Frame)(k:List Item)(cs:List Frame)(PostB:World->Prop)(ws:List Wd)(g:Goroutine)(w:World):Prop:=
 ∃told,AnchW7 Tryz.link (FJ N PostB ws told) (N+6) (N+1) [.int .i64 ticks] (fW N K ticks b k told) cs g w
structure BI (N:Nat)(w:World):Prop where
 e:w.heap[N+3]? =some (.cells #[.chan (some (N+2))] 76 (0,0))
 d:w.heap[N+5]? =some (.cells #[.chan (some (N+4))] 77 (0,0))
 z:N+7<=w.heap.size
theorem BI.rely {N:Nat}{w w₁:World}(h:BI N w)(r:RA (pZ N) w w₁):BI N w₁:=
 ⟨r.still _ _ _ _ ⟨0,_,rfl, .inl rfl⟩ h.e,r.still _ _ _ _ ⟨0,_,rfl, .inr rfl⟩ h.d,Nat.le_trans h.z r.kept.size⟩
theorem BI.ce {N:Nat}{w:World}(h:BI N w):w.cell? ⟨N+3,0,none⟩=some (.chan (some (N+2))):=by simp[World.cell?,h.e]
theorem BI.cd {N:Nat}{w:World}(h:BI N w):w.cell? ⟨N+5,0,none⟩=some (.chan (some (N+4))):=by simp[World.cell?,h.d]
theorem lT {p:Par}{w:World}{ad:Addr}(h:p.Still (.cell ad)):EvA p w ⟨.cell ad,false,false⟩:=
 ⟨fun x hx _=> .inr (by simp[MemAct.ofEvent,MemAct.touch?] at hx;subst hx;exact⟨h,rfl⟩),by simp,by simp⟩
section
variable {N K:Nat} [Shy (N+6) (N+1)]{ticks:Int}{b:Frame}{k:List Item}{cs:List Frame}{PostB:World->Prop}{ws:List Wd}
theorem fj2 (hPc: ∀w w₁,Aside2 (N+1) (N+6) w w₁->PostB w->PostB w₁) (told:Value): ∀w w',Aside2 (N+1) (N+6) w w'->FJ N PostB ws told w->FJ N PostB ws told w':=fun _ _ h1 h2=>
 ⟨hPc _ _ h1 h2.1,Told.aside h2.2 (show N+1<N+7 by omega) (show N+6<N+7 by omega) h1⟩
theorem uQ (hk:b.kind≠ .early)(hPc: ∀w w₁,Aside2 (N+1) (N+6) w w₁->PostB w->PostB w₁) (told:Value) (w:World) (hF:EI (N+6) (N+1) [.int .i64 ticks] PostB (pZ N) told ws.length (ws.flatMap Wd.c) w):
 Goes Tryz.prog true (RPa 87 (N+6) (N+1) [.int .i64 ticks]) (DPi Mine0 (N+6) (N+1) (N+7)) (AtKd Tryz.prog 87 (N+6) (N+1) (N+7) [.int .i64 ticks] Mine0 (AncR N K ticks b k cs PostB ws)) 6
  (G (b.at ⟨TR N K ticks told (.tuple #[]) (fv N) (.chan (some (N+2))) (.chan (some (N+4))) told undef,[]⟩ (.code tl9::k)) cs) w:=by
 have T:=fw 87 (N+6) (N+1) (N+7) [.int .i64 ticks] Mine0;have hA:= @waitStart _ Tryz.link Mine0 (N+6) (N+1) (N+7) _ [.int .i64 ticks] (FJ N PostB ws told) b ⟨TR N K ticks told (.tuple #[]) (fv N) (.chan (some (N+2))) (.chan (some (N+4))) told undef,[]⟩ ops9 0 [] (.code tl10::k) cs Tryz.prog Tryz.wgLib (fj2 hPc told);simp only[ops9,tl10,tl9,tl8,tl7,tl6,Tryz.f19,body_wait,waitFn,Option.getD_some] at hA⊢;refine bN T rfl (fun _=>stepG_seq) ?_;refine bN T rfl (fun _=>stepG_region) ?_;simp only[List.size_toArray,List.length_cons,List.length_nil,Nat.reduceAdd,Nat.zero_add,List.range,List.range.loop];refine Goes.step rfl fun w₁ h₁=> ?_;replace hF:=EI.rely (show N+1<N+7 by omega) (show N+6<N+7 by omega) hPc hF h₁;refine goes_call rfl rfl hk rfl Tryz.func35 (nm_wait Tryz.link) rfl ⟨T.idle _, ?_⟩;simp only[TR] at hA⊢
 walk_nrmf Tryz.f35
 refine dN (fun _ _ _ h=>h) (fun g w h=> ?_) _ _ _ (hA w₁ ⟨⟨hF.1,hF.2.2⟩,hF.2.1⟩);obtain⟨h1,g',h2,m,h3⟩:=h;exact⟨h1,g',h2,m,dN (fun _ _ _ h=>h) (fun g w h=>⟨told,h⟩) _ _ _ h3⟩
theorem s5 {P:Program}{ty:TypeId}{Wg C Low:Nat} [Shy Wg C]{vals:List Value}{Mine:Loc->Prop}{A A':Goroutine->World->Prop}{Post:Value->World->Prop}(hA: ∀g w,A g w->A' g w) (g:Goroutine) (w:World) (h:AtW1 P ty Wg C Low vals Mine A Post g w):AtW1 P ty Wg C Low vals Mine A' Post g w:=by
 obtain⟨h1,g',h2,h3,h4⟩:=h;refine⟨h1,g',h2,fun hw=> ?_,h4⟩;obtain⟨m,hm⟩:=h3 hw;refine⟨m,dN (fun _ _ _ h=>h) (fun g w h=> ?_) _ _ _ hm⟩;obtain⟨h5,h6,h7⟩:=h;refine⟨h5,h6,fun hk=> ?_⟩;obtain⟨g'',h8,m',h9⟩:=h7 hk;exact⟨g'',h8,m',dN (fun _ _ _ h=>h) hA _ _ _ h9⟩
end
theorem uR {N K:Nat}{ticks:Int}{b:Frame}{k:List Item}{cs:List Frame}{PostB:World->Prop}{ws:List Wd}{Next:Goroutine->World->Prop}(hPc: ∀w w₁,Aside2 (N+1) (N+6) w w₁->PostB w->PostB w₁)
 (hc: ∀told w',FJ N PostB ws told w'->Next (G (b.at ⟨TR N K ticks told (.tuple #[]) (fv N) (.chan (some (N+2))) (.chan (some (N+4))) told (.tuple #[]),[]⟩ (.inRegion ops9 []:: .code tl10::k)) cs) w'):
 letI:=shyW (N+6) (N+1) Next;∀(Post:Value->World->Prop) g w,AncR N K ticks b k cs PostB ws g w-> ∃m,Goes Tryz.prog true (RPa 87 (N+6) (N+1) [.int .i64 ticks]) (DPi Mine0 (N+6) (N+1) (N+7)) (AtW1 Tryz.prog 87 (N+6) (N+1) (N+7) [.int .i64 ticks] Mine0 (AncR N K ticks b k cs PostB ws) Post) m g w:=by
 intro Post g w h
 letI:=shyW (N+6) (N+1) Next
 obtain⟨told,h⟩:=h;obtain⟨m,hm⟩:=waitRound (Mine:=Mine0) (Low:=N+7) (Post:=Post) (mT:=0) Tryz.wgLib (by omega) (fj2 (ws:=ws) hPc told) (fun w hF _ _=>Goes.stop fun w₁ h₁=>⟨rfl,by
  obtain⟨d,rfl⟩:=h₁;have:=hc told (w.at d) (fj2 (ws:=ws) hPc told w _ ⟨rfl,rfl,rfl,rfl,fun _ _ _=>rfl⟩ hF);exact this⟩) g w h
 exact⟨m,dN (fun _ _ _ h=>h) (s5 fun g w h=>⟨told,h⟩) _ _ _ hm⟩
section
variable {N K:Nat} [Shy (N+6) (N+1)]{ticks:Int}{b:Frame}{k:List Item}{cs:List Frame}{PostB:World->Prop}{ws:List Wd}
theorem oI (hb:b.fn=19)(hk:b.kind≠ .early)(hPc: ∀w w₁,Aside2 (N+1) (N+6) w w₁->PostB w->PostB w₁) (hws:ws.length<10000) (w:World) (hF:BI N w):
 Gathers Tryz.prog (pZ N) (N+2) (N+4) zE44 zD57 PostB (FinW Tryz.prog 87 (N+6) (N+1) (N+7) [.int .i64 ticks] Mine0 (AncR N K ticks b k cs PostB ws)) (ws.map Wd.v)
  (G (b.at ⟨TR N K ticks undef (.tuple #[]) (fv N) undef undef undef undef,[]⟩ (.inRegion ops7 []:: .code tl8::k)) cs) w:=by
 rw[cN];obtain⟨k20,g20⟩:=uN (p:=pZ N) (E:=N+2) (Dn:=N+4) (Wg:=N+6) (C:=N+1) (Low:=N+7) (vals:=[.int .i64 ticks]) (Mine:=Mine0) (AnchW:=AncR N K ticks b k cs PostB ws) (PostB:=PostB) rfl (show N+2<N+7 by omega) (show N+4<N+7 by omega) (show N+1<N+7 by omega) (show N+6<N+7 by omega) hPc ws hws;rw[z9];co_apply Exists.intro;co_apply bN (de (pZ N) (N+2) (N+4)) rfl (fun _=>stepG_region_end);co_apply bN (de (pZ N) (N+2) (N+4)) rfl (fun _=>stepG_seq)
 co_apply kE (F:=gF Tryz.prog 87 (N+6) (N+1) (N+7) [.int .i64 ticks] Mine0 (AncR N K ticks b k cs PostB ws) (pZ N) (N+2) (N+4) zE44 zD57 PostB) (s:=some (ws.map Wd.v)) (m:=6)
  (Q:=fun s' e a' w'=>e= .normal/\s'=none/\ ∃told,a'=⟨TR N K ticks told (.tuple #[]) (fv N) (.chan (some (N+2))) (.chan (some (N+4))) told undef,[]⟩/\EI (N+6) (N+1) [.int .i64 ticks] PostB (pZ N) told ws.length (ws.flatMap Wd.c) w') (b:=b) (k:= .code tl9::k) (cs:=cs) (fn:=19) ?_ hb hk ?_
 ·simp only[TR,r8,tl8,tl7,tl6,Tryz.f19];co_apply bq;simp only[List.size_toArray,List.length_cons,List.length_nil,Nat.reduceAdd,Nat.zero_add,List.range,List.range.loop];co_apply aJ rfl (by rfl);intro _ hR K hK;replace hF:=(BI.rely) hF hR;clear hR;have hc:=hF.ce;go_simp
  try (unfold stored;go_simp)
  refine hK _ _ ⟨?_, ?_⟩
  ·(refine j7 ?_;co_evs (exact lT ⟨_,rfl, .inl rfl⟩))
  clear hK K
  try walk_nrm
  clear hc;co_apply aJ rfl (by rfl);intro _ hR K hK;replace hF:=(BI.rely) hF hR;clear hR;have hc:=hF.cd;go_simp
  try (unfold stored;go_simp)
  refine hK _ _ ⟨?_, ?_⟩
  ·(refine j7 ?_;co_evs (exact lT ⟨_,rfl, .inr rfl⟩))
  clear hK K
  try walk_nrm
  clear hc;co_apply gj rfl (by rfl) rfl
  ·walk_nrm
   exact g20 _ hF.z
  intro s' v w' hv;obtain⟨rfl,hI⟩:=hv;clear hF;have hF:=hI;clear hI
  walk_nrm
  co_apply aJ rfl (by rfl);intro _ hR K hK;replace hF:=(EI.rely (show N+1<N+7 by omega) (show N+6<N+7 by omega) hPc) hF hR;clear hR
  skip
  go_simp
  try (unfold stored;go_simp)
  refine hK _ _ ⟨?_, ?_⟩
  ·co_still (fw 87 (N+6) (N+1) (N+7) [.int .i64 ticks] Mine0)
  clear hK K
  try walk_nrm
  co_apply bJ;exact⟨rfl,rfl,_,rfl,hF⟩
 ·rintro s' e a' w' ⟨rfl,rfl,told,rfl,hI⟩;exact uQ hk hPc told w' hI
end
theorem oJ (P:Program)(fn:Fn)(first cap:Array Value)(w:World)(es:Array Event):(Instr.makeFunc fn first cap).events P w es=es:=rfl
abbrev NextQ (Fin:Value->World->Prop)(nn N:Nat)(s:List Nat):Goroutine->World->Prop:=fun g' w'=> ∃m,Goes Tryz.prog true AtRel (D0 (Shs (N::s))) (StopZ Tryz.prog Fin nn (N::s)) m g' w'
noncomputable def ops6:Array Oper:=match tl6 with| .seq (.region _ ops _) _=>ops|_=> #[]
theorem uS {Fin:Value->World->Prop}{nn:Nat}{s:List Nat}{W:World}{K:Nat}{ticks:Int}{b:Frame}{k:List Item}{cs:List Frame}{PostB:World->Prop}{ws:List Wd}(hb:b.fn=19)(hk:b.kind≠ .early)(hE:Elder (Shs s) W.heap.size)(hws:ws.length<10000)
 (hPb: ∀w w₁,RB (pZ W.heap.size) (W.heap.size+2) (W.heap.size+4) w w₁->PostB w->PostB w₁) (hPc: ∀w w₁,Aside2 (W.heap.size+1) (W.heap.size+6) w w₁->PostB w->PostB w₁) (hPn: ∀w,PostB w->W.heap.size+7<=w.heap.size)
 (hT: ∀[Shy (W.heap.size+6) (W.heap.size+1)](w':World),New W (boxZ W.heap.size K ticks KK) w'->Tells Tryz.prog (pZ W.heap.size) (ShR (Shs s) W.heap.size) (W.heap.size+2) (W.heap.size+4) PostB (AfterD Tryz.prog 87 (W.heap.size+6) (W.heap.size+1) (W.heap.size+7) [.int .i64 ticks] Mine0) (ws.map Wd.v) (born Tryz.prog (started W.heap.size)) w')
 (hc: ∀told w',FJ W.heap.size PostB ws told w'-> ∃m,Goes Tryz.prog true AtRel (D0 (Shs (W.heap.size::s))) (StopZ Tryz.prog Fin nn (W.heap.size::s)) m (G (b.at ⟨TR W.heap.size K ticks told (.tuple #[]) (fv W.heap.size) (.chan (some (W.heap.size+2))) (.chan (some (W.heap.size+4))) told (.tuple #[]),[]⟩ (.inRegion ops9 []:: .code tl10::k)) cs) w')
 (w:World) (hn:New W (boxZ W.heap.size K ticks 0) w):
 Goes Tryz.prog true AtRel (D0 (Shs s)) (StopZ Tryz.prog Fin (nn+1) s) 15 (G (b.at ⟨TR W.heap.size K ticks undef undef undef undef undef undef undef,[]⟩ (.code tl6::k)) cs) w:=by
 letI:=shyW (W.heap.size+6) (W.heap.size+1) (NextQ Fin nn W.heap.size s)
 have T:=kD (Shs s);have T2:Terms AtRel (DE (EvS (W.heap.size+6) (W.heap.size+1))):=⟨atRel_trans,fun w e he=>by simp at he⟩;have hAn:=uR (K:=K) (ticks:=ticks) (b:=b) (k:=k) (cs:=cs) (ws:=ws) (Next:=NextQ Fin nn W.heap.size s) hPc hc;have e6: ∃i6,tl6= .seq (.region i6 ops6 false) tl7:=⟨_,by simp only[ops6,tl7,tl6,Tryz.f19];rfl⟩;obtain⟨i6,e6⟩:=e6;have hA:=fun(w:World) (hw) (mT) (hT')=> @addPos Tryz.link (W.heap.size+6) (W.heap.size+1) _ b ⟨TR W.heap.size K ticks undef undef undef undef undef undef undef,[]⟩ ops6 0 [] (.code tl7::k) cs (AtFork Tryz.prog (Shs s) (Both Tryz.prog 87 (W.heap.size+6) (W.heap.size+1) (W.heap.size+7) [.int .i64 ticks] Mine0 (AncR W.heap.size K ticks b k cs PostB ws) (pZ W.heap.size) (ShR (Shs s) W.heap.size) (W.heap.size+2) (W.heap.size+4) zE44 zD57 PostB)) mT Tryz.prog Tryz.wgLib w hw hT';rw[e6];refine bN T rfl (fun _=>stepG_seq) ?_;refine bN T rfl (fun _=>stepG_region) ?_;rw[show List.range ops6.size=[0] from by simp only[ops6,tl6,Tryz.f19];rfl];refine Goes.step rfl fun w₁ h₁=> ?_;replace hn:=hn.rely h₁;have hwg:WgAt 87 (W.heap.size+6) w₁ 0 0:=hn.get (i:=6) rfl;have hn':New W (boxZ W.heap.size K ticks KK) (w₁.setCell (stA (W.heap.size+6)) (.int .u64 KK)):=hn.set (i:=6) rfl 0 (.int .u64 KK);refine goes_call (o:=(ops6[0]?).getD default) (by simp only[ops6,tl6,Tryz.f19];rfl) (by simp only[ops6,tl6,Tryz.f19];rfl) hk (by simp only[ops6,tl6,Tryz.f19];rfl) Tryz.func30 (nm_add Tryz.link) rfl ⟨T.idle _, ?_⟩;have hA:=hA w₁ hwg 4 ?_
 ·refine dN (z8 hE (NextQ Fin nn W.heap.size s)) (fun g w h=>⟨W.heap.size,hE,[.int .i64 ticks],_,Fin,PostB,zE44,zD57,hPb,hPc,hPn,(fun g w h=>by obtain⟨_,_,hg,_⟩:=h;rw[hg];rfl),hAn Fin,h⟩) _ _ _ ?_;simp only[TR,body_add,addFn,Option.getD_some] at hA⊢
  walk_nrmf Tryz.f30
  exact hA
 ·have e7: ∃i7,tl7= .seq (.region i7 ops7 false) tl8:=⟨_,by simp only[ops7,tl8,tl7,tl6,Tryz.f19];rfl⟩;obtain⟨i7,e7⟩:=e7;rw[show (⟨TR W.heap.size K ticks undef undef undef undef undef undef undef,[]⟩:Act).put ((ops6[0]?).bind (·.dst)) (.tuple #[])=⟨TR W.heap.size K ticks undef (.tuple #[]) undef undef undef undef undef,[]⟩ from by simp only[ops6,tl6,Tryz.f19];rfl];refine bN T2 rfl (fun _=>stepG_region_end) ?_;rw[e7];refine bN T2 rfl (fun _=>stepG_seq) ?_;refine bN T2 rfl (fun _=>stepG_region) ?_;rw[show List.range ops7.size=[0,1] from by simp only[ops7,tl7,tl6,Tryz.f19];rfl];refine Goes.step rfl fun w₂ h₂=> ?_;replace hn':=hn'.rely h₂;clear h₂;refine goes_oper_k (o:=(ops7[0]?).getD default) (by simp only[ops7,tl7,tl6,Tryz.f19];rfl) (by simp only[ops7,tl7,tl6,Tryz.f19];rfl) hk (fun K2 hK=> ?_);have hK':=hK ⟨TR W.heap.size K ticks undef (.tuple #[]) (fv W.heap.size) undef undef undef undef,[]⟩ w₂ ⟨?_, ?_⟩
  ·simp only[ops7,tl7,tl6,Tryz.f19];simp only[TR] at hK'⊢;go_simp;exact hK'
  ·intro e he;have hm:=mem_listed he;simp[ops7,tl7,tl6,Tryz.f19,go_sem,oJ] at hm
  ·refine Goes.stop fun w₃ h₃=> ?_;replace hn':=hn'.rely h₃;clear h₃;refine⟨rfl,G (b.at ⟨TR W.heap.size K ticks undef (.tuple #[]) (fv W.heap.size) undef undef undef undef,[]⟩ (.inRegion ops7 []:: .code tl8::k)) cs,born Tryz.prog (started W.heap.size), #[], ?_,by simp,ws.map Wd.v,hn'.get (i:=2) rfl,hn'.get (i:=4) rfl,oI hb hk hPc hws w₃ ⟨hn'.get (i:=3) rfl,hn'.get (i:=5) rfl,by rw[hn'.size];exact Nat.le_refl _⟩,hT w₃ hn'⟩
   have h:=stepG_spawn (P:=Tryz.prog) (main:=true) (b:=b) (a:=⟨TR W.heap.size K ticks undef (.tuple #[]) (fv W.heap.size) undef undef undef undef,[]⟩) (k:= .code tl8::k) (cs:=cs) (ops:=ops7) (i:=1) (rest:=[]) (o:=(ops7[1]?).getD default) (d:=started W.heap.size) (w:=w₃) (w':=w₃) (f:= .func 31) (c:=caps W.heap.size)
    (by simp only[ops7,tl7,tl6,Tryz.f19];rfl) (by simp only[ops7,tl7,tl6,Tryz.f19];rfl) hk (by simp[ops7,tl7,tl6,Tryz.f19,go_sem,TR,fv,started,Deferred.ofValue]) rfl
   rw[h];simp[listed,ops7,tl7,tl6,Tryz.f19,go_sem,seen,Deferred.ofValue,TR,fv];rfl
end Go.Proofs.YtejkelcaljmnoaaGreatDoor
namespace Go.Lo
open Go.Conc Go.Hx
abbrev Frag:=List (Nat×Bool×Obj)
def cellOf:Obj->Addr->Option Value
 | .cells c _ _,a=>if a.spot.isSome then none else c[a.off]?
 |_,_=>none
def shapeOf:Obj->Option (TypeId×Nat)
 | .cells c e _=>some (e,c.size)
 |_=>none
def frozenOf:Obj->Addr->Bool
 | .cells _ _ (lo,hi),a=>lo<=a.off&&a.off<hi
 |_,_=>false
def thing:Obj->Bool
 | .cells .. =>false
 | .chan .. =>false
 |_=>true
def plainV:Value->Bool
 | .agg _=>false
 | .tuple _=>false
 |_=>true
def fits:Obj->Obj->Bool
 | .cells _ t _, .cells _ t' _=>t==t'
 |o,o'=>thing o&&thing o'
def okMark:Mark->Bool
 | .noRoom=>true
 | .extern _=>true
 |_=>false
def froze (fr:Nat×Nat)(a:Addr)(m:Nat):Nat×Nat:=if m=0 then fr else if fr.1==fr.2 then(a.off,a.off+m) else(min fr.1 a.off,max fr.2 (a.off+m))
def wpS {α:Type}(P:Program)(New:Obj->Prop):Sem α->(α->Frag->Prop)->Frag->Prop
 | .pure a,Q,L=>Q a L
 | .load m a k,Q,L=>m= .plain/\ ∃fl o v,(a.block,fl,o)∈L/\cellOf o a=some v/\wpS P New (k v) Q L
 | .store m a v k,Q,L=>m= .plain/\plainV v=true/\a.spot=none/\ ∃n cs ty fr,L[n]? =some (a.block,true, .cells cs ty fr)/\a.off<cs.size/\frozenOf (.cells cs ty fr) a=false/\wpS P New k Q (L.set n (a.block,true, .cells (cs.setIfInBounds a.off v) ty fr))
 | .new o k,Q,L=>New o/\ ∀b,(∀t∈L,t.1≠b)->wpS P New (k b) Q ((b,true,o)::L)
 | .shape r k,Q,L=> ∃fl o,(r,fl,o)∈L/\wpS P New (k (shapeOf o)) Q L
 | .freeze a m k,Q,L=> ∃n cs ty fr,L[n]? =some (a.block,true, .cells cs ty fr)/\wpS P New k Q (L.set n (a.block,true, .cells cs ty (froze fr a m)))
 | .frozen a k,Q,L=> ∃fl o,(a.block,fl,o)∈L/\wpS P New (k (frozenOf o a)) Q L
 | .getObj r k,Q,L=> ∃fl o,(r,fl,o)∈L/\thing o=true/\wpS P New (k o) Q L
 | .setObj r o k,Q,L=>thing o=true/\ ∃n o',L[n]? =some (r,true,o')/\thing o'=true/\wpS P New k Q (L.set n (r,true,o))
 | .choose q k,Q,L=>(q.forced=true->wpS P New (k 0) Q L)/\(q.forced=false-> ∀t,wpS P New (k (q.cut t)) Q L)
 | .sys _ _,_,_=>False
 | .program k,Q,L=>wpS P New (k P) Q L
 | .mark m k,Q,L=>okMark m=true/\wpS P New k Q L
 | .halt _,_,_=>False
section
variable {α β:Type}{P:Program}{New:Obj->Prop}
theorem cr {Q Q':α->Frag->Prop}(h: ∀a L,Q a L->Q' a L): ∀(s:Sem α)(L:Frag),wpS P New s Q L->wpS P New s Q' L:=by
 intro s
 induction s with
 |pure a=>exact fun L x=>h _ _ x
 |load m a k ih=>rintro L ⟨h1,fl,o,v,h2,h3,h4⟩;exact⟨h1,fl,o,v,h2,h3,ih _ _ h4⟩
 |store m a v k ih=>rintro L ⟨h1,h2,h3,n,cs,ty,fr,h4,h5,h6,h7⟩;exact⟨h1,h2,h3,n,cs,ty,fr,h4,h5,h6,ih _ h7⟩
 |new o k ih=>rintro L ⟨h1,h2⟩;exact⟨h1,fun b hb=>ih _ _ (h2 b hb)⟩
 |shape r k ih=>rintro L ⟨fl,o,h1,h2⟩;exact⟨fl,o,h1,ih _ _ h2⟩
 |freeze a m k ih=>rintro L ⟨n,cs,ty,fr,h1,h2⟩;exact⟨n,cs,ty,fr,h1,ih _ h2⟩
 |frozen a k ih=>rintro L ⟨fl,o,h1,h2⟩;exact⟨fl,o,h1,ih _ _ h2⟩
 |getObj r k ih=>rintro L ⟨fl,o,h1,h2,h3⟩;exact⟨fl,o,h1,h2,ih _ _ h3⟩
 |setObj r o k ih=>rintro L ⟨h0,n,o',h1,h2,h3⟩;exact⟨h0,n,o',h1,h2,ih _ h3⟩
 |choose q k ih=>rintro L ⟨h1,h2⟩;exact⟨fun e=>ih _ _ (h1 e),fun e t=>ih _ _ (h2 e t)⟩
 |sys c k ih=>exact fun L x=>x
 |program k ih=>exact fun L x=>ih _ _ x
 |mark m k ih=>rintro L ⟨h1,h2⟩;exact⟨h1,ih _ h2⟩
 |halt x=>exact fun L x=>x
theorem s7 (f:α->Sem β)(Q:β->Frag->Prop): ∀(s:Sem α)(L:Frag),wpS P New (s.bind f) Q L=wpS P New s (fun a L'=>wpS P New (f a) Q L') L:=by
 intro s
 induction s with
 |pure a=>exact fun L=>rfl
 |load m a k ih=>intro L;simp only[Sem.bind,wpS,ih]
 |store m a v k ih=>intro L;simp only[Sem.bind,wpS,ih]
 |new o k ih=>intro L;simp only[Sem.bind,wpS,ih]
 |shape r k ih=>intro L;simp only[Sem.bind,wpS,ih]
 |freeze a n k ih=>intro L;simp only[Sem.bind,wpS,ih]
 |frozen a k ih=>intro L;simp only[Sem.bind,wpS,ih]
 |getObj r k ih=>intro L;simp only[Sem.bind,wpS,ih]
 |setObj r o k ih=>intro L;simp only[Sem.bind,wpS,ih]
 |choose q k ih=>intro L;simp only[Sem.bind,wpS,ih]
 |sys c k ih=>intro L;simp only[Sem.bind,wpS]
 |program k ih=>intro L;simp only[Sem.bind,wpS,ih]
 |mark m k ih=>intro L;simp only[Sem.bind,wpS,ih]
 |halt x=>intro L;simp only[Sem.bind,wpS]
theorem ax (s:Sem α)(f:α->Sem β)(Q:β->Frag->Prop)(L:Frag):wpS P New (s>>=f) Q L=wpS P New s (fun a L'=>wpS P New (f a) Q L') L:=s7 f Q s L
theorem bz (a:α)(Q:α->Frag->Prop)(L:Frag):wpS P New (Pure.pure a) Q L=Q a L:=rfl
theorem jn (a:α)(Q:α->Frag->Prop)(L:Frag):wpS P New (Sem.pure a) Q L=Q a L:=rfl
end
def upd (w:World)(b:Nat)(o:Obj):World:={w with heap:=w.heap.setIfInBounds b o}
def more (w:World)(o:Obj):World:={w with heap:=w.heap.push o}
def drew (w:World):World:={w with drawn:=w.drawn+1}
structure Dom (R:World->World->Prop)(D:World->World->Array Event->Prop) where
 New:Obj->Prop
 Own:Frag->World->Prop
 Gu:World->World->Prop
 Ev:World->Event->Prop
 gr: ∀w,Gu w w
 gt: ∀{a b c},Gu a b->Gu b c->Gu a c
 em: ∀{w w' e},Gu w w'->Ev w e->Ev w' e
 dd: ∀{w w' es},Gu w w'->(∀e∈es,Ev w' e)->D w w' es
 rely: ∀{L w w₁},Own L w->R w w₁->Own L w₁
 has: ∀{L w b fl o},Own L w->(b,fl,o)∈L->w.heap[b]? =some o
 evc: ∀{L w b fl o},Own L w->(b,fl,o)∈L-> ∀i,Ev w ⟨.cell ⟨b,i,none⟩,false,false⟩
 evo: ∀{L w b fl o},Own L w->(b,fl,o)∈L->Ev w ⟨.obj b,false,false⟩
 set: ∀{L w n b o o'},Own L w->L[n]? =some (b,true,o)->fits o o'=true->Own (L.set n (b,true,o')) (upd w b o')/\Gu w (upd w b o')/\(∀i,Ev (upd w b o') ⟨.cell ⟨b,i,none⟩,true,false⟩)/\Ev (upd w b o') ⟨.obj b,true,false⟩
 new: ∀{L w o},Own L w->New o->(∀t∈L,t.1≠w.heap.size)/\Own ((w.heap.size,true,o)::L) (more w o)/\Gu w (more w o)
 draw: ∀{L w},Own L w->Own L (drew w)/\Gu w (drew w)
 nor: ∀w m,okMark m=true->Ev w ⟨.mark m,false,true⟩
 sub: ∀{L L' w},Own L w->(∀t∈L',t∈L)->(L'.map (·.1)).Nodup->Own L' w
 nd: ∀{L w},Own L w->(L.map (·.1)).Nodup
 ld:LetsDraw D
section
variable {R:World->World->Prop}{D:World->World->Array Event->Prop}{α:Type}{P:Program}
theorem qA {w:World}{a:Addr}{cs:Array Value}{ty:TypeId}{fr:Nat×Nat}{m:Nat}(h:w.heap[a.block]? =some (.cells cs ty fr)):w.freeze a m=upd w a.block (.cells cs ty (froze fr a m)):=by
 obtain⟨hlt,he⟩:=Array.getElem?_eq_some_iff.1 h;unfold World.freeze froze
 split
 ·have e:w.heap.setIfInBounds a.block (Obj.cells cs ty fr)=w.heap:=by
   apply Array.ext
   ·simp
   ·intro j h1 h2;simp only[Array.getElem_setIfInBounds h2]
    split
    ·subst_vars;simp[he]
    ·rfl
  unfold upd;rw[e]
 ·unfold upd;congr 1;apply Array.ext
  ·simp
  ·intro j h1 h2;simp only[Array.getElem_modify,Array.getElem_setIfInBounds (by simpa using h1)]
   split
   ·subst_vars;simp[he]
   ·rfl
theorem oK {w:World}{b:Nat}{cs:Array Value}{ty:TypeId}{fr:Nat×Nat}{i:Nat}{v:Value}(h:w.heap[b]? =some (.cells cs ty fr)):w.setCell ⟨b,i,none⟩ v=upd w b (.cells (cs.setIfInBounds i v) ty fr):=by
 obtain⟨hlt,he⟩:=Array.getElem?_eq_some_iff.1 h;unfold World.setCell upd;congr 1;apply Array.ext
 ·simp
 ·intro j h1 h2;simp only[Array.getElem_modify,Array.getElem_setIfInBounds (by simpa using h1)]
  split
  ·subst_vars;simp[he]
  ·rfl
theorem mR {w:World}{a:Addr}{o:Obj}{v:Value}(h:w.heap[a.block]? =some o)(hv:cellOf o a=some v):w.cell? a=some v:=by
 unfold World.cell?;rw[h];cases o<;>simp_all [cellOf]
theorem qB {o o':Obj}(h:thing o'=true)(k:thing o=true):fits o' o=true:=by
 unfold fits
 split
 ·simp[thing] at h
 ·simp[h,k]
theorem kF {o:Obj}(h:thing o=true):o.isChan=false:=by cases o<;>first|rfl|cases h
theorem jK {r:Nat}{k:Obj->Sem α}{w:World}{es:Array Event}{o:Obj}(hb:w.heap[r]? =some o)(h:thing o=true):(Sem.getObj r k).runT P w es=(k o).runT P w (es.push ⟨.obj r,false,false⟩):=by
 have hc:=kF h;simp only[Sem.runT,hb];cases o<;>first|rfl|cases h
theorem oL {r:Nat}{k:Sem α}{w:World}{es:Array Event}{o o':Obj}(hb:w.heap[r]? =some o')(h':thing o'=true)(h:thing o=true):(Sem.setObj r o k).runT P w es=k.runT P (upd w r o) (es.push ⟨.obj r,true,false⟩):=by
 have hc:=kF h;simp only[Sem.runT,hb,hc];cases o'<;>first|rfl|cases h'
theorem qC {a:Addr}{v:Value}{k:Sem α}{w:World}{es:Array Event}{u:Value}(hc:w.cell? a=some u)(hz:w.frozen? a=false)(hp:plainV v=true):(Sem.store Mode.plain a v k).runT P w es=k.runT P (w.setCell a v) (es.push ⟨.cell a,true,false⟩):=by
 cases v<;>first|(simp only[Sem.runT,hc,hz];rfl)|cases hp
theorem BN (Δ:Dom R D): ∀(s:Sem α)(Q:α->Frag->Prop)(L:Frag)(w:World)(es:Array Event),Δ.Own L w->wpS P Δ.New s Q L->
 ∃a w' es',s.runT P w es=(.ok a w',es++es')/\Δ.Gu w w'/\(∀e∈es',Δ.Ev w' e)/\ ∃L',Δ.Own L' w'/\Q a L':=by
 intro s
 induction s with
 |pure a=>exact fun Q L w es hO h=>⟨a,w, #[],by simp[Sem.runT,-Sem.runT_eq],Δ.gr w,by simp,L,hO,h⟩
 |load m a k ih=>
  rintro Q L w es hO ⟨rfl,fl,o,v,hm,hv,h⟩;have hb:=Δ.has hO hm;have hc:=mR hb hv;have hs:a.spot=none:=by cases o<;>simp_all [cellOf]
  obtain⟨x,w',es',hr,hg,he,hL⟩:=ih v Q L w (es.push ⟨.cell a,false,false⟩) hO h;refine⟨x,w', #[⟨.cell a,false,false⟩]++es',by simp only[Sem.runT,hc];rw[show ((Mode.plain==Mode.atomic)=false) from rfl,hr];simp,hg,fun e hm'=> ?_,hL⟩;rcases Array.mem_append.1 hm' with h1|h1
  ·obtain rfl:=by simpa using h1
   obtain⟨b,i,sp⟩:=a;obtain rfl:sp=none:=hs;exact Δ.em hg (Δ.evc hO hm i)
  ·exact he e h1
 |store m a v k ih=>
  rintro Q L w es hO ⟨rfl,hp,hs,n,cs,ty,fr,hn,hi,hfr,h⟩;obtain⟨b,i,sp⟩:=a;obtain rfl:sp=none:=hs;have hb:=Δ.has hO (List.mem_of_getElem? hn);have hc:w.cell? ⟨b,i,none⟩=some cs[i]:=mR hb (by simp[cellOf,hi]);have hz:w.frozen? ⟨b,i,none⟩=false:=by unfold World.frozen?;rw[hb];exact hfr
  obtain⟨h1,h2,h3,_⟩:=Δ.set (o':= .cells (cs.setIfInBounds i v) ty fr) hO hn (by simp[fits]);obtain⟨x,w',es',hr,hg,he,hL⟩:=ih Q _ _ (es.push ⟨.cell ⟨b,i,none⟩,true,false⟩) h1 h;refine⟨x,w', #[⟨.cell ⟨b,i,none⟩,true,false⟩]++es', ?_,Δ.gt h2 hg,fun e hm'=> ?_,hL⟩
  ·rw[qC hc hz hp,oK hb,hr];simp
  ·rcases Array.mem_append.1 hm' with h4|h4
   ·obtain rfl:=by simpa using h4
    exact Δ.em hg (h3 i)
   ·exact he e h4
 |new o k ih=>
  rintro Q L w es hO ⟨hN,h⟩;obtain⟨h1,h2,h3⟩:=Δ.new hO hN;obtain⟨x,w',es',hr,hg,he,hL⟩:=ih _ Q _ _ es h2 (h _ h1);exact⟨x,w',es',by simp only[Sem.runT];exact hr,Δ.gt h3 hg,he,hL⟩
 |shape r k ih=>
  rintro Q L w es hO ⟨fl,o,hm,h⟩;have hb:=Δ.has hO hm;obtain⟨x,w',es',hr,hg,he,hL⟩:=ih _ Q L w es hO h;refine⟨x,w',es', ?_,hg,he,hL⟩;have e0:w.shape? r=shapeOf o:=by unfold World.shape?;rw[hb];cases o<;>rfl
  simp only[Sem.runT,e0];exact hr
 |freeze a m k ih=>
  rintro Q L w es hO ⟨n,cs,ty,fr,hn,h⟩;have hb:=Δ.has hO (List.mem_of_getElem? hn);obtain⟨h1,h2,_⟩:=Δ.set (o':= .cells cs ty (froze fr a m)) hO hn (by simp[fits]);obtain⟨x,w',es',hr,hg,he,hL⟩:=ih Q _ _ es h1 h;exact⟨x,w',es',by simp only[Sem.runT];rw[qA hb];exact hr,Δ.gt h2 hg,he,hL⟩
 |frozen a k ih=>
  rintro Q L w es hO ⟨fl,o,hm,h⟩;have hb:=Δ.has hO hm;obtain⟨x,w',es',hr,hg,he,hL⟩:=ih _ Q L w es hO h;refine⟨x,w',es', ?_,hg,he,hL⟩;have e0:w.frozen? a=frozenOf o a:=by unfold World.frozen?;rw[hb];cases o<;>rfl
  simp only[Sem.runT,e0];exact hr
 |getObj r k ih=>
  rintro Q L w es hO ⟨fl,o,hm,ho,h⟩;have hb:=Δ.has hO hm;obtain⟨x,w',es',hr,hg,he,hL⟩:=ih o Q L w (es.push ⟨.obj r,false,false⟩) hO h;refine⟨x,w', #[⟨.obj r,false,false⟩]++es', ?_,hg,fun e hm'=> ?_,hL⟩
  ·rw[jK hb ho,hr];simp
  ·rcases Array.mem_append.1 hm' with h1|h1
   ·obtain rfl:=by simpa using h1
    exact Δ.em hg (Δ.evo hO hm)
   ·exact he e h1
 |setObj r o k ih=>
  rintro Q L w es hO ⟨ho,n,o',hn,ho',h⟩;have hb:=Δ.has hO (List.mem_of_getElem? hn);obtain⟨h1,h2,_,h3⟩:=Δ.set (o':=o) hO hn (qB ho' ho);obtain⟨x,w',es',hr,hg,he,hL⟩:=ih Q _ _ (es.push ⟨.obj r,true,false⟩) h1 h;refine⟨x,w', #[⟨.obj r,true,false⟩]++es', ?_,Δ.gt h2 hg,fun e hm'=> ?_,hL⟩
  ·rw[oL hb ho' ho,hr];simp
  ·rcases Array.mem_append.1 hm' with h4|h4
   ·obtain rfl:=by simpa using h4
    exact Δ.em hg h3
   ·exact he e h4
 |choose q k ih=>
  rintro Q L w es hO ⟨h0,h1⟩;cases hf:q.forced with
  |true=>
   obtain⟨x,w',es',hr,hg,he,hL⟩:=ih _ Q L w es hO (h0 hf);exact⟨x,w',es',by simp only[Sem.runT,hf,if_true];exact hr,hg,he,hL⟩
  |false=>
   obtain⟨d1,d2⟩:=Δ.draw hO;obtain⟨x,w',es',hr,hg,he,hL⟩:=ih _ Q L (drew w) es d1 (h1 hf (w.tape w.drawn q));exact⟨x,w',es',by simp only[Sem.runT,hf,Bool.false_eq_true,if_false];exact hr,Δ.gt d2 hg,he,hL⟩
 |sys c k ih=>exact fun Q L w es hO h=>h.elim
 |program k ih=>
  intro Q L w es hO h;obtain⟨x,w',es',hr,hg,he,hL⟩:=ih P Q L w es hO h;exact⟨x,w',es',by simp only[Sem.runT];exact hr,hg,he,hL⟩
 |mark m k ih=>
  rintro Q L w es hO ⟨hm,h⟩;obtain⟨x,w',es',hr,hg,he,hL⟩:=ih Q L w (es.push ⟨.mark m,false,true⟩) hO h;refine⟨x,w', #[⟨.mark m,false,true⟩]++es',by simp only[Sem.runT];rw[hr];simp,hg,fun e hm'=> ?_,hL⟩;rcases Array.mem_append.1 hm' with h1|h1
  ·obtain rfl:=by simpa using h1
   exact Δ.nor w' m hm
  ·exact he e h1
 |halt x=>exact fun Q L w es hO h=>h.elim
theorem qD (Δ:Dom R D){s:Sem α}{Q:α->Frag->Prop}{L:Frag}{w:World}(hO:Δ.Own L w)(h:wpS P Δ.New s Q L):
 ∃a w',s.run P w= .ok a w'/\Δ.Gu w w'/\(∀e∈s.events P w #[],Δ.Ev w' e)/\ ∃L',Δ.Own L' w'/\Q a L':=by
 obtain⟨a,w',es',hr,hg,he,hL⟩:=BN Δ s Q L w #[] hO h;refine⟨a,w', ?_,hg, ?_,hL⟩
 ·rw[<-Sem.runT_fst P s w #[],hr]
 ·unfold Sem.events;rw[hr];simpa using he
end
section
variable {σ:Type}{F:Fam σ}(Δ: ∀s,Dom (F.R s) (F.D s)) (P:Program) (main:Bool) (fn:FuncId)
def up (Q:σ->Exit->Act->Frag->Prop):σ->Exit->Act->World->Prop:=fun s e a w=> ∃L,(Δ s).Own L w/\Q s e a L
def upV (Q:σ->Value->Frag->Prop):σ->Value->World->Prop:=fun s v w=> ∃L,(Δ s).Own L w/\Q s v L
def wpL (c:Code)(n:Nat)(s:σ)(Q:σ->Exit->Act->Frag->Prop)(a:Act)(L:Frag):Prop:= ∀w,(Δ s).Own L w->wpX F P main fn c n s (up Δ Q) a w
def OpsL (ops:Array Oper)(todo:List Nat)(n:Nat)(s:σ)(Q:σ->Exit->Act->Frag->Prop)(a:Act)(L:Frag):Prop:= ∀w,(Δ s).Own L w->OpsX F P main fn ops todo n s (up Δ Q) a w
def LoopL (c:Code)(n:Nat)(s:σ)(Q:σ->Exit->Act->Frag->Prop)(a:Act)(L:Frag):Prop:= ∀w,(Δ s).Own L w->LoopX F P main fn c n s (up Δ Q) a w
def CallsL (f:FuncId)(args:Array Value)(n:Nat)(s:σ)(L:Frag)(Post:σ->Value->Frag->Prop):Prop:= ∀w,(Δ s).Own L w->CallsX F P main f args n s w (upV Δ Post)
end
section
variable {σ:Type}
def thenL (K:σ->Act->Frag->Prop)(Q:σ->Exit->Act->Frag->Prop):σ->Exit->Act->Frag->Prop
 |s, .normal,a,L=>K s a L
 |s,e,a,L=>Q s e a L
def inBlockL (id:Nat)(Q:σ->Exit->Act->Frag->Prop):σ->Exit->Act->Frag->Prop
 |s, .exit id',a,L=>if id'=id then Q s .normal a L else Q s (.exit id') a L
 |s,e,a,L=>Q s e a L
def bodyL (P:Program)(g:Func)(Post:σ->Value->Frag->Prop):σ->Exit->Act->Frag->Prop
 |s, .normal,a,L|s, .ret,a,L=>a.defers=[]/\ ∃v,ResultsC P g a.tmps v/\Post s v L
 |_,_,_,_=>False
def onNext (o:Oper)(a:Act)(K:Act->Prop):Next->Prop
 | .value v=>K (a.put o.dst v)
 | .skip=>K (a.put o.dst undef)
 |_=>False
end
section
variable {σ:Type}{F:Fam σ}{Δ: ∀s,Dom (F.R s) (F.D s)} {P:Program} {main:Bool} {fn:FuncId} {Q:σ->Exit->Act->Frag->Prop} {s:σ} {a:Act} {L:Frag}
theorem mS {K:σ->Act->Frag->Prop}{K':σ->Act->World->Prop}(h: ∀s a L w,(Δ s).Own L w->K s a L->K' s a w) {s:σ} {e:Exit} {a:Act} {w:World} (q:up Δ (thenL K Q) s e a w):ThenX K' (up Δ Q) s e a w:=by
 obtain⟨L,hO,q⟩:=q;cases e<;>first|exact h _ _ _ _ hO q|exact⟨L,hO,q⟩
theorem dV {Q':σ->Exit->Act->Frag->Prop}{c:Code}{n:Nat}(h:wpL Δ P main fn c n s Q a L)(hq: ∀s e a L,Q s e a L->Q' s e a L):wpL Δ P main fn c n s Q' a L:=
 fun w hO=>fb (h w hO) fun s e a w ⟨L,hL,q⟩=>⟨L,hL,hq _ _ _ _ q⟩
theorem oM {c:Code}{n n':Nat}(h:wpL Δ P main fn c n s Q a L)(hn:n<=n'):wpL Δ P main fn c n' s Q a L:=fun w hO=>oD (h w hO) hn
theorem s8 {ops:Array Oper}{todo:List Nat}{n n':Nat}(h:OpsL Δ P main fn ops todo n s Q a L)(hn:n<=n'):OpsL Δ P main fn ops todo n' s Q a L:=fun w hO=>eZ (h w hO) hn
theorem Aa {c:Code}{n:Nat}(h:(L.map (·.1)).Nodup->wpL Δ P main fn c n s Q a L):wpL Δ P main fn c n s Q a L:=fun w hO=>h ((Δ s).nd hO) w hO
theorem xR {ops:Array Oper}{todo:List Nat}{n:Nat}(h:(L.map (·.1)).Nodup->OpsL Δ P main fn ops todo n s Q a L):OpsL Δ P main fn ops todo n s Q a L:=fun w hO=>h ((Δ s).nd hO) w hO
theorem xS {x y:Code}{n₁ n₂:Nat}(h:wpL Δ P main fn x n₁ s (thenL (fun s' a' L'=>wpL Δ P main fn y n₂ s' Q a' L') Q) a L):wpL Δ P main fn (.seq x y) (n₁+n₂+1) s Q a L:=
 fun w hO=>cj (fb (h w hO) fun _ _ _ _ q=>mS (fun _ _ _ _ hO k=>k _ hO) q)
theorem uT {c:Operand}{x y:Code}{t:Bool}{n:Nat}(hc:a.eval c= .bool t)(h:wpL Δ P main fn (if t then x else y) n s Q a L):wpL Δ P main fn (.cond c x y) (n+1) s Q a L:=fun w hO=>fJ hc (h w hO)
theorem s9 {id:Nat}{c:Code}{n:Nat}(h:wpL Δ P main fn c n s (inBlockL id Q) a L):wpL Δ P main fn (.block id c) (n+2) s Q a L:=
 fun w hO=>eu (fb (h w hO) fun s' e a' w' ⟨L',hL,q⟩=>by
  cases e with
  |exit id'=>
   simp only[inBlockL] at q;simp only[Exit.inBlock]
   split
   ·rename_i e;rw[if_pos e] at q;exact⟨L',hL,q⟩
   ·rename_i e;rw[if_neg e] at q;exact⟨L',hL,q⟩
  |_=>exact⟨L',hL,q⟩)
theorem uU (h:Q s .normal a L):wpL Δ P main fn .skip 1 s Q a L:=fun _ hO=>jj (wpC_skip (F.terms s) ⟨L,hO,h⟩)
theorem xT (h:Q s .ret a L):wpL Δ P main fn .ret 1 s Q a L:=fun _ hO=>jj (wpC_ret (F.terms s) ⟨L,hO,h⟩)
theorem uV {id:Nat}(h:Q s (.exit id) a L):wpL Δ P main fn (.exit id) 1 s Q a L:=fun _ hO=>jj (wpC_exit (F.terms s) ⟨L,hO,h⟩)
theorem tf {c:Code}{n₁ n₂:Nat}(h:wpL Δ P main fn c n₁ s (thenL (fun s' a' L'=>LoopL Δ P main fn c n₂ s' Q a' L') Q) a L):wpL Δ P main fn (.loop c) (n₁+n₂+1) s Q a L:=
 fun w hO=>lR (fb (h w hO) fun _ _ _ _ q=>mS (fun _ _ _ _ hO k=>k _ hO) q)
theorem Ac {c:Code}{n₁ n₂:Nat}(h:wpL Δ P main fn c n₁ s (thenL (fun s' a' L'=>LoopL Δ P main fn c n₂ s' Q a' L') Q) a L):LoopL Δ P main fn c (n₁+n₂+1) s Q a L:=
 fun w hO=>qx (fb (h w hO) fun _ _ _ _ q=>mS (fun _ _ _ _ hO k=>k _ hO) q)
theorem gY {c:Code}{n n':Nat}(h:LoopL Δ P main fn c n s Q a L)(hn:n<=n'):LoopL Δ P main fn c n' s Q a L:=
 fun w hO b k cs m hb hk hc=>(h w hO b k cs m hb hk hc).mono (by omega)
theorem mU {c:Code}{n:Nat}(I:Nat->σ->Act->Frag->Prop)(h: ∀k s a L,I k s a L->wpL Δ P main fn c n s (thenL (fun s' a' L'=> ∃k',k'<k/\I k' s' a' L') Q) a L):
 ∀(k:Nat)(s:σ)(a:Act)(L:Frag),I k s a L->LoopL Δ P main fn c ((k+1)*(n+1)) s Q a L:=by
 intro k
 induction k using Nat.strongRecOn with
 |_ k ih=>
  intro s a L hI;refine gY (Ac (n₂:=k*(n+1)) (dV (h k s a L hI) fun s' e a' L' q=> ?_)) (by rw[Nat.succ_mul];omega);cases e with
  |normal=>
   obtain⟨k',hk',hi⟩:=q;exact gY (ih k' hk' s' a' L' hi) (Nat.mul_le_mul_right _ hk')
  |_=>exact q
theorem uW {c:Code}{n:Nat}(I:Nat->σ->Act->Frag->Prop)(h: ∀k s a L,I k s a L->wpL Δ P main fn c n s (thenL (fun s' a' L'=> ∃k',k'<k/\I k' s' a' L') Q) a L) (k:Nat) (hI:I k s a L):
 wpL Δ P main fn (.loop c) ((k+1)*(n+1)) s Q a L:=by
 refine oM (tf (n₂:=k*(n+1)) (dV (h k s a L hI) fun s' e a' L' q=> ?_)) (by rw[Nat.succ_mul];omega);cases e with
 |normal=>
  obtain⟨k',hk',hi⟩:=q;exact gY (mU I h k' s' a' L' hi) (Nat.mul_le_mul_right _ hk')
 |_=>exact q
theorem qE {id:Nat}{ops:Array Oper}{n:Nat}(h:OpsL Δ P main fn ops (List.range ops.size) n s Q a L):wpL Δ P main fn (.region id ops false) (n+1) s Q a L:=fun w hO=>bq (h w hO)
theorem uX {ops:Array Oper}(h:Q s .normal a L):OpsL Δ P main fn ops [] 1 s Q a L:=fun _ hO=>bJ ⟨L,hO,h⟩
theorem gP {ops:Array Oper}{i:Nat}{rest:List Nat}{o:Oper}{n:Nat}(ho:ops[i]? =some o)(hw:Region.wanted o (yielded ops a.tmps)=false)
 (h:OpsL Δ P main fn ops rest n s Q (a.put o.dst undef) L):OpsL Δ P main fn ops (i::rest) (n+1) s Q a L:=fun w hO=>gO ho hw (h w hO)
theorem mV {o:Oper}{w w':World}{x:Next}{K:Act->World->Prop}{KL:Act->Frag->Prop}{L':Frag}(hr:(execOp a.eval o).run P w= .ok x w')(hL:(Δ s).Own L' w')
 (h:onNext o a (fun a'=>KL a' L') x) (hk: ∀a',KL a' L'->K a' w'):uponK o a K ((execOp a.eval o).run P w):=by
 rw[hr];cases x<;>simp only[onNext] at h<;>first|exact hk _ h|exact h.elim
theorem lU {ops:Array Oper}{i:Nat}{rest:List Nat}{o:Oper}{n:Nat}(ho:ops[i]? =some o)(hw:Region.wanted o (yielded ops a.tmps)=true)
 (h:wpS P (Δ s).New (execOp a.eval o) (fun x L'=>onNext o a (fun a'=>OpsL Δ P main fn ops rest n s Q a' L') x) L):OpsL Δ P main fn ops (i::rest) (n+1) s Q a L:=by
 intro w hO;refine jl ho hw fun w₁ h₁=> ?_;have hO₁:=(Δ s).rely hO h₁;obtain⟨x,w',hr,hg,he,L',hL,hx⟩:=qD (Δ s) hO₁ h;refine mV (Δ:=Δ) (s:=s) (KL:=fun a' L'=>OpsL Δ P main fn ops rest n s Q a' L') hr hL hx fun a' k=>⟨(Δ s).dd hg fun e hm=>he e (mem_listed hm),k _ hL⟩
theorem tg {f:FuncId}{g:Func}{c:Code}{args:Array Value}{n:Nat}{Post:σ->Value->Frag->Prop}(hf:P.funcs[f]? =some g)(hname:(g.name== "runtime.NumGoroutine")=false)(hb:g.body=some c)
 (h:wpL Δ P main f c n s (bodyL P g Post) {tmps:=args++Array.replicate (g.ntmps-args.size) undef,defers:=[]} L):CallsL Δ P main f args n s L Post:=
 fun w hO=>eU hf hname hb (fb (h w hO) fun s' e a' w' ⟨L',hL,q⟩=>by
  cases e<;>first|exact⟨q.1,q.2.choose,q.2.choose_spec.1,L',hL,q.2.choose_spec.2⟩|exact q)
theorem CallsL.more {f:FuncId}{args:Array Value}{n n':Nat}{Post:σ->Value->Frag->Prop}(h:CallsL Δ P main f args n s L Post)(hn:n<=n'):CallsL Δ P main f args n' s L Post:=
 fun w hO=>by obtain⟨g,c,h1,h2,h3,h4⟩:=h w hO;exact⟨g,c,h1,h2,h3,oD h4 hn⟩
theorem th {ops:Array Oper}{i:Nat}{rest:List Nat}{o:Oper}{f:FuncId}{args:Array Operand}{ats:Array TypeId}{nf n:Nat}{Post:σ->Value->Frag->Prop}
 (ho:ops[i]? =some o) (hw:Region.wanted o (yielded ops a.tmps)=true) (hop:o.op= .call {callee:= .value (.func f),args,argTypes:=ats})
 (hcall:CallsL Δ P main f (args.map a.eval) nf s L Post) (hnext: ∀s' v L',Post s' v L'->OpsL Δ P main fn ops rest n s' Q (a.put o.dst v) L'):OpsL Δ P main fn ops (i::rest) (n+nf+3) s Q a L:=
 fun w hO=>gj ho hw hop (hcall w hO) fun s' v w' ⟨L',hL,hp⟩=>hnext s' v L' hp w' hL
end
abbrev DM {σ:Type}(F:Fam σ):= ∀s,Dom (F.R s) (F.D s)
def sizeAt (P:Program)(t:TypeId):Option Nat:=(P.info? t).map (·.size)
def bytesAt (P:Program)(t:TypeId):Option Nat:=(P.info? t).map (·.bytes)
def zeroAt (P:Program)(t:TypeId):Option Value:=(P.info? t).bind (·.zero)
def aggAt (P:Program)(t:TypeId):Option Bool:=(P.underlying t).map fun| .struct _| .array _ _=>true|_=>false
def fieldOff (P:Program)(s f:Nat):Option Nat:=
 match P.underlying s with
 |some (.struct fs)=>match fs[f]? with
  |some fd=>match sizeAt P fd.type with
   |some (_+1)=>some fd.offset
   |_=>none
  |none=>none
 |_=>none
section
variable {α β:Type}{P:Program}{New:Obj->Prop}{L:Frag}
theorem aY {t:TypeId}{d:TypeDesc}{Q:TypeDesc->Frag->Prop}(h:P.underlying t=some d):wpS P New (underlying t) Q L=Q d L:=by
 show (wpS P New (match P.underlying t with|some d=>pure d|none=>stuck "no such type") Q L)=Q d L;rw[h];rfl
theorem b4 {t:TypeId}{i:TypeInfo}{Q:TypeInfo->Frag->Prop}(h:P.info? t=some i):wpS P New (typeInfo t) Q L=Q i L:=by
 show (wpS P New (match P.info? t with|some d=>pure d|none=>stuck "no such type") Q L)=Q i L;rw[h];rfl
theorem bO {t n:Nat}{Q:Nat->Frag->Prop}(h:sizeAt P t=some n):wpS P New (sizeOf t) Q L=Q n L:=by
 obtain⟨i,hi,rfl⟩:=Option.map_eq_some_iff.1 h;unfold sizeOf;rw[ax,b4 hi];rfl
theorem b7 {t:Nat}{v:Value}{Q:Value->Frag->Prop}(h:zeroAt P t=some v):wpS P New (zeroValue t) Q L=Q v L:=by
 obtain⟨i,hi,hz⟩:=Option.bind_eq_some_iff.1 h;unfold zeroValue;rw[ax,b4 hi,hz];rfl
theorem iv {a:Addr}{Q:Addr->Frag->Prop}:wpS P New (Instr.sureAddr (.pointer (some a))) Q L=Q a L:=rfl
def At (L:Frag)(b i:Nat)(v:Value):Prop:= ∃fl cs ty fr,(b,fl,Obj.cells cs ty fr)∈L/\cs[i]? =some v
theorem At.at {b i n:Nat}{v:Value}{fl:Bool}{cs:Array Value}{ty:TypeId}{fr:Nat×Nat}(h:L[n]? =some (b,fl, .cells cs ty fr))(hv:cs[i]? =some v):At L b i v:=⟨fl,cs,ty,fr,List.mem_of_getElem? h,hv⟩
theorem uY {b i:Nat}{v:Value}{Q:Value->Frag->Prop}(h:At L b i v)(hQ:Q v L):wpS P New (load ⟨b,i,none⟩) Q L:=by
 obtain⟨fl,cs,ty,fr,hm,hv⟩:=h;exact⟨rfl,fl,_,v,hm,by simpa [cellOf] using hv,hQ⟩
theorem tj {b i n:Nat}{cs:Array Value}{ty:TypeId}{v:Value}{Q:Unit->Frag->Prop}(h:L[n]? =some (b,true, .cells cs ty))(hi:i<cs.size)(hp:plainV v=true)(hQ:Q () (L.set n (b,true, .cells (cs.setIfInBounds i v) ty))):wpS P New (store ⟨b,i,none⟩ v) Q L:=
 ⟨rfl,hp,rfl,n,cs,ty,(0,0),h,hi,by simp[frozenOf],hQ⟩
theorem cf {o:Obj}{Q:Nat->Frag->Prop}(hN:New o)(hQ: ∀b,(∀t∈L,t.1≠b)->Q b ((b,true,o)::L)):wpS P New (newObj o) Q L:=⟨hN,hQ⟩
theorem qF {r:Nat}{o:Obj}{fl:Bool}{Q:Obj->Frag->Prop}(hm:(r,fl,o)∈L)(ho:thing o=true)(hQ:Q o L):wpS P New (getObj r) Q L:=⟨fl,o,hm,ho,hQ⟩
theorem kG {r n:Nat}{o o':Obj}{Q:Unit->Frag->Prop}(hn:L[n]? =some (r,true,o'))(ho':thing o'=true)(ho:thing o=true)(hQ:Q () (L.set n (r,true,o))):wpS P New (setObj r o) Q L:=⟨ho,n,o',hn,ho',hQ⟩
theorem dq (b o i:Nat):(⟨b,o,none⟩:Addr).add i=⟨b,o+i,none⟩:=by
 unfold Addr.add
 split
 ·subst_vars;rfl
 ·rfl
theorem mW {b o:Nat}{cs:Array Value}{ty:TypeId}{fr:Nat×Nat}{fl:Bool}(hm:(b,fl, .cells cs ty fr)∈L){Q:Array Value->Frag->Prop}:
 ∀(n i:Nat)(acc:Array Value),o+i+n<=cs.size->Q (acc++cs.extract (o+i) (o+i+n)) L->wpS P New (loadCellsFrom ⟨b,o,none⟩ i n acc) Q L:=by
 intro n
 induction n with
 |zero=>
  intro i acc h hQ;have e:cs.extract (o+i) (o+i+0)= #[]:=by apply Array.ext';simp
  rw[e,Array.append_empty] at hQ;exact hQ
 |succ n ih=>
  intro i acc h hQ;have hi:o+i<cs.size:=by omega
  unfold loadCellsFrom;rw[ax,dq];refine uY (b:=b) (i:=o+i) ⟨fl,cs,ty,fr,hm,Array.getElem?_eq_getElem hi⟩ ?_;refine ih (i+1) _ (by omega) ?_;have e:acc.push cs[o+i]++cs.extract (o+(i+1)) (o+(i+1)+n)=acc++cs.extract (o+i) (o+i+(n+1)):=by
   apply Array.ext';simp only[Array.toList_append,Array.toList_push,Array.toList_extract,List.append_assoc];congr 1;rw[List.extract_eq_take_drop,List.extract_eq_take_drop];have:cs.toList.drop (o+i)=cs[o+i]::cs.toList.drop (o+i+1):=by
    rw[List.drop_eq_getElem_cons (by simpa using hi)];simp
   rw[this,show o+i+(n+1)-(o+i)=n+1 by omega,show o+(i+1)+n-(o+(i+1))=n by omega,List.take_succ_cons,Nat.add_assoc];simp
  rw[e];exact hQ
theorem lG {b o n:Nat}{cs:Array Value}{ty:TypeId}{fr:Nat×Nat}{fl:Bool}(hm:(b,fl, .cells cs ty fr)∈L){Q:Array Value->Frag->Prop}(h:o+n<=cs.size)(hQ:Q (cs.extract o (o+n)) L):wpS P New (loadCells ⟨b,o,none⟩ n) Q L:=
 mW hm n 0 #[] (by omega) (by simpa using hQ)
def puts (cs:Array Value)(o:Nat):List Value->Array Value
 |[]=>cs
 |v::vs=>puts (cs.setIfInBounds o v) (o+1) vs
theorem tk: ∀(vs:List Value)(cs:Array Value)(o:Nat),(puts cs o vs).size=cs.size
 |[],_,_=>rfl
 |v::vs,cs,o=>by rw[puts,tk vs];simp
theorem lH {b n:Nat}{ty:TypeId}: ∀(vs:List Value)(o i:Nat)(cs:Array Value)(L:Frag){Q:Unit->Frag->Prop},L[n]? =some (b,true, .cells cs ty)->o+i+vs.length<=cs.size->vs.all plainV=true->
 Q () (L.set n (b,true, .cells (puts cs (o+i) vs) ty))->wpS P New (storeCells ⟨b,o,none⟩ vs i) Q L:=by
 intro vs
 induction vs with
 |nil=>
  intro o i cs L Q hn h _ hQ;have e:L.set n (b,true, .cells cs ty)=L:=by
   apply List.ext_getElem?;intro j;rw[List.getElem?_set]
   split
   ·rename_i e;subst e;obtain⟨hl,he⟩:=List.getElem?_eq_some_iff.1 hn;simp[hl,he]
   ·rfl
  rw[puts,e] at hQ;exact hQ
 |cons v vs ih=>
  intro o i cs L Q hn h hp hQ;simp only[List.length_cons] at h;simp only[List.all_cons,Bool.and_eq_true] at hp;obtain⟨hl,he⟩:=List.getElem?_eq_some_iff.1 hn;unfold storeCells;rw[ax,dq];refine tj (b:=b) (i:=o+i) hn (by omega) hp.1 ?_;refine ih o (i+1) (cs.setIfInBounds (o+i) v) _ (by simp[hl]) (by simp;omega) hp.2 ?_;rw[List.set_set];exact hQ
theorem cA {b n o:Nat}{ty:TypeId}{vs:List Value}{cs:Array Value}{Q:Unit->Frag->Prop}(hn:L[n]? =some (b,true, .cells cs ty))(h:o+vs.length<=cs.size)(hp:vs.all plainV=true)
 (hQ:Q () (L.set n (b,true, .cells (puts cs o vs) ty))):wpS P New (storeCells ⟨b,o,none⟩ vs) Q L:=lH vs o 0 cs L hn (by omega) hp hQ
end
def wpQ {α:Type}(P:Program):Sem α->(α->Prop)->Frag->Prop
 | .pure a,K,_=>K a
 | .load m a k,K,L=>m= .plain/\ ∃fl o v,(a.block,fl,o)∈L/\cellOf o a=some v/\wpQ P (k v) K L
 | .shape r k,K,L=> ∃fl o,(r,fl,o)∈L/\wpQ P (k (shapeOf o)) K L
 | .frozen a k,K,L=> ∃fl o,(a.block,fl,o)∈L/\wpQ P (k (frozenOf o a)) K L
 | .getObj r k,K,L=> ∃fl o,(r,fl,o)∈L/\thing o=true/\wpQ P (k o) K L
 | .choose q k,K,L=>q.forced=true/\wpQ P (k 0) K L
 | .program k,K,L=>wpQ P (k P) K L
 | .mark m k,K,L=>okMark m=true/\wpQ P k K L
 | .store ..,_,_| .new ..,_,_| .freeze ..,_,_| .setObj ..,_,_| .sys ..,_,_| .halt _,_,_=>False
section
variable {α β:Type}{P:Program}
theorem cX {K K':α->Prop}(h: ∀a,K a->K' a) {L L':Frag} (hL: ∀t∈L,t∈L'): ∀(s:Sem α),wpQ P s K L->wpQ P s K' L':=by
 intro s
 induction s with
 |pure a=>exact fun x=>h _ x
 |load m a k ih=>rintro⟨h1,fl,o,v,h2,h3,h4⟩;exact⟨h1,fl,o,v,hL _ h2,h3,ih _ h4⟩
 |shape r k ih=>rintro⟨fl,o,h1,h2⟩;exact⟨fl,o,hL _ h1,ih _ h2⟩
 |frozen a k ih=>rintro⟨fl,o,h1,h2⟩;exact⟨fl,o,hL _ h1,ih _ h2⟩
 |getObj r k ih=>rintro⟨fl,o,h1,h2,h3⟩;exact⟨fl,o,hL _ h1,h2,ih _ h3⟩
 |choose q k ih=>rintro⟨h1,h2⟩;exact⟨h1,ih _ h2⟩
 |program k ih=>exact fun x=>ih _ x
 |store m a v k ih=>exact fun x=>x
 |new o k ih=>exact fun x=>x
 |freeze a n k ih=>exact fun x=>x
 |setObj r o k ih=>exact fun x=>x
 |sys c k ih=>exact fun x=>x
 |mark m k ih=>rintro⟨h1,h2⟩;exact⟨h1,ih h2⟩
 |halt x=>exact fun x=>x
theorem tl {L:Frag}(f:α->Sem β)(K:β->Prop): ∀(s:Sem α),wpQ P (s.bind f) K L=wpQ P s (fun a=>wpQ P (f a) K L) L:=by
 intro s
 induction s with
 |pure a=>rfl
 |load m a k ih=>simp only[Sem.bind,wpQ,ih]
 |shape r k ih=>simp only[Sem.bind,wpQ,ih]
 |frozen a k ih=>simp only[Sem.bind,wpQ,ih]
 |getObj r k ih=>simp only[Sem.bind,wpQ,ih]
 |choose q k ih=>simp only[Sem.bind,wpQ,ih]
 |program k ih=>simp only[Sem.bind,wpQ,ih]
 |store m a v k ih=>simp only[Sem.bind,wpQ]
 |new o k ih=>simp only[Sem.bind,wpQ]
 |freeze a n k ih=>simp only[Sem.bind,wpQ]
 |setObj r o k ih=>simp only[Sem.bind,wpQ]
 |sys c k ih=>simp only[Sem.bind,wpQ]
 |mark m k ih=>simp only[Sem.bind,wpQ,ih]
 |halt x=>simp only[Sem.bind,wpQ]
theorem ay {L:Frag}(s:Sem α)(f:α->Sem β)(K:β->Prop):wpQ P (s>>=f) K L=wpQ P s (fun a=>wpQ P (f a) K L) L:=tl f K s
theorem bP {L:Frag}(a:α)(K:α->Prop):wpQ P (Pure.pure a) K L=K a:=rfl
theorem rN {L:Frag}(c:Prop) [Decidable c](x y:Sem α)(K:α->Prop):wpQ P (if c then x else y) K L=if c then wpQ P x K L else wpQ P y K L:=by split<;>rfl
theorem eC {New:Obj->Prop}{L:Frag}{K:α->Prop}{Q:α->Frag->Prop}(h: ∀a,K a->Q a L): ∀(s:Sem α),wpQ P s K L->wpS P New s Q L:=by
 intro s
 induction s with
 |pure a=>exact fun x=>h _ x
 |load m a k ih=>rintro⟨h1,fl,o,v,h2,h3,h4⟩;exact⟨h1,fl,o,v,h2,h3,ih _ h4⟩
 |shape r k ih=>rintro⟨fl,o,h1,h2⟩;exact⟨fl,o,h1,ih _ h2⟩
 |frozen a k ih=>rintro⟨fl,o,h1,h2⟩;exact⟨fl,o,h1,ih _ h2⟩
 |getObj r k ih=>rintro⟨fl,o,h1,h2,h3⟩;exact⟨fl,o,h1,h2,ih _ h3⟩
 |choose q k ih=>rintro⟨h1,h2⟩;exact⟨fun _=>ih _ h2,fun e=>by rw[h1] at e;cases e⟩
 |program k ih=>exact fun x=>ih _ x
 |store m a v k ih=>exact fun x=>x.elim
 |new o k ih=>exact fun x=>x.elim
 |freeze a n k ih=>exact fun x=>x.elim
 |setObj r o k ih=>exact fun x=>x.elim
 |sys c k ih=>exact fun x=>x.elim
 |mark m k ih=>rintro⟨h1,h2⟩;exact⟨h1,ih h2⟩
 |halt x=>exact fun x=>x.elim
variable {R:World->World->Prop}{D:World->World->Array Event->Prop}
theorem BO (Δ:Dom R D){L:Frag}{w:World}(hO:Δ.Own L w){K:α->Prop}: ∀(s:Sem α)(es:Array Event),wpQ P s K L-> ∃a es',s.runT P w es=(.ok a w,es++es')/\(∀e∈es',Δ.Ev w e)/\K a:=by
 intro s
 induction s with
 |pure a=>exact fun es h=>⟨a, #[],by simp[Sem.runT,-Sem.runT_eq],by simp,h⟩
 |load m a k ih=>
  rintro es ⟨rfl,fl,o,v,hm,hv,h⟩;have hb:=Δ.has hO hm;have hc:=mR hb hv;have hs:a.spot=none:=by cases o<;>simp_all [cellOf]
  obtain⟨x,es',hr,he,hK⟩:=ih v (es.push ⟨.cell a,false,false⟩) h;refine⟨x, #[⟨.cell a,false,false⟩]++es',by simp only[Sem.runT,hc];rw[show ((Mode.plain==Mode.atomic)=false) from rfl,hr];simp,fun e hm'=> ?_,hK⟩;rcases Array.mem_append.1 hm' with h1|h1
  ·obtain rfl:=by simpa using h1
   obtain⟨b,i,sp⟩:=a;obtain rfl:sp=none:=hs;exact Δ.evc hO hm i
  ·exact he e h1
 |shape r k ih=>
  rintro es ⟨fl,o,hm,h⟩;have hb:=Δ.has hO hm;obtain⟨x,es',hr,he,hK⟩:=ih _ es h;have e0:w.shape? r=shapeOf o:=by unfold World.shape?;rw[hb];cases o<;>rfl
  exact⟨x,es',by simp only[Sem.runT,e0];exact hr,he,hK⟩
 |frozen a k ih=>
  rintro es ⟨fl,o,hm,h⟩;have hb:=Δ.has hO hm;obtain⟨x,es',hr,he,hK⟩:=ih _ es h;have e0:w.frozen? a=frozenOf o a:=by unfold World.frozen?;rw[hb];cases o<;>rfl
  exact⟨x,es',by simp only[Sem.runT,e0];exact hr,he,hK⟩
 |getObj r k ih=>
  rintro es ⟨fl,o,hm,ho,h⟩;have hb:=Δ.has hO hm;obtain⟨x,es',hr,he,hK⟩:=ih o (es.push ⟨.obj r,false,false⟩) h;refine⟨x, #[⟨.obj r,false,false⟩]++es',by rw[jK hb ho,hr];simp,fun e hm'=> ?_,hK⟩;rcases Array.mem_append.1 hm' with h1|h1
  ·obtain rfl:=by simpa using h1
   exact Δ.evo hO hm
  ·exact he e h1
 |choose q k ih=>
  rintro es ⟨hf,h⟩;obtain⟨x,es',hr,he,hK⟩:=ih _ es h;exact⟨x,es',by simp only[Sem.runT,hf,if_true];exact hr,he,hK⟩
 |program k ih=>
  intro es h;obtain⟨x,es',hr,he,hK⟩:=ih P es h;exact⟨x,es',by simp only[Sem.runT];exact hr,he,hK⟩
 |store m a v k ih=>exact fun _ x=>x.elim
 |new o k ih=>exact fun _ x=>x.elim
 |freeze a n k ih=>exact fun _ x=>x.elim
 |setObj r o k ih=>exact fun _ x=>x.elim
 |sys c k ih=>exact fun _ x=>x.elim
 |mark m k ih=>
  rintro es ⟨hm,h⟩;obtain⟨x,es',hr,he,hK⟩:=ih (es.push ⟨.mark m,false,true⟩) h;refine⟨x, #[⟨.mark m,false,true⟩]++es',by simp only[Sem.runT];rw[hr];simp,fun e hm'=> ?_,hK⟩;rcases Array.mem_append.1 hm' with h1|h1
  ·obtain rfl:=by simpa using h1
   exact Δ.nor w m hm
  ·exact he e h1
 |halt x=>exact fun _ x=>x.elim
theorem mX (Δ:Dom R D){L:Frag}{w:World}(hO:Δ.Own L w){s:Sem α}{v:α}(h:wpQ P s (· =v) L):s.run P w= .ok v w/\ ∀e∈s.events P w #[],Δ.Ev w e:=by
 obtain⟨a,es',hr,he,rfl⟩:=BO Δ hO s #[] h;refine⟨by rw[<-Sem.runT_fst P s w #[],hr], ?_⟩;unfold Sem.events;rw[hr];simpa using he
end
section
variable {α β:Type}{P:Program}{L:Frag}
theorem aL {t:TypeId}{d:TypeDesc}{K:TypeDesc->Prop}(h:P.underlying t=some d):wpQ P (underlying t) K L=K d:=by
 show (wpQ P (match P.underlying t with|some d=>pure d|none=>stuck "no such type") K L)=K d;rw[h];rfl
theorem iw {t:TypeId}{i:TypeInfo}{K:TypeInfo->Prop}(h:P.info? t=some i):wpQ P (typeInfo t) K L=K i:=by
 show (wpQ P (match P.info? t with|some d=>pure d|none=>stuck "no such type") K L)=K i;rw[h];rfl
theorem cH {t n:Nat}{K:Nat->Prop}(h:sizeAt P t=some n):wpQ P (sizeOf t) K L=K n:=by
 obtain⟨i,hi,rfl⟩:=Option.map_eq_some_iff.1 h;unfold sizeOf;rw[ay,iw hi];rfl
theorem lI {t:Nat}{v:Value}{K:Value->Prop}(h:zeroAt P t=some v):wpQ P (zeroValue t) K L=K v:=by
 obtain⟨i,hi,hz⟩:=Option.bind_eq_some_iff.1 h;unfold zeroValue;rw[ay,iw hi,hz];rfl
theorem gq {t:Nat}{g:Bool}{K:Bool->Prop}(h:aggAt P t=some g):wpQ P (isAgg t) K L=K g:=by
 obtain⟨d,hd,rfl⟩:=Option.map_eq_some_iff.1 h;unfold isAgg;rw[ay,aL hd];cases d<;>rfl
theorem dr {a:Addr}{K:Addr->Prop}:wpQ P (Instr.sureAddr (.pointer (some a))) K L=K a:=rfl
theorem oN {b i:Nat}{v:Value}{K:Value->Prop}(h:At L b i v)(hK:K v):wpQ P (load ⟨b,i,none⟩) K L:=by
 obtain⟨fl,cs,ty,fr,hm,hv⟩:=h;exact⟨rfl,fl,_,v,hm,by simpa [cellOf] using hv,hK⟩
theorem qG {r:Nat}{o:Obj}{fl:Bool}{K:Obj->Prop}(hm:(r,fl,o)∈L)(ho:thing o=true)(hK:K o):wpQ P (getObj r) K L:=⟨fl,o,hm,ho,hK⟩
theorem gy {b:Nat}{fl:Bool}{cs:Array Value}{t:TypeId}{fr:Nat×Nat}{K:Option (TypeId×Nat)->Prop}(h:(b,fl, .cells cs t fr)∈L)(hK:K (some (t,cs.size))):wpQ P (shape b) K L:=⟨fl,_,h,hK⟩
theorem fx {a:Addr}{fl:Bool}{cs:Array Value}{t:TypeId}{K:Bool->Prop}(h:(a.block,fl, .cells cs t)∈L)(hK:K false):wpQ P (frozen a) K L:=⟨fl,_,h,by simpa [frozenOf,wpQ] using hK⟩
theorem mY {b o:Nat}{cs:Array Value}{ty:TypeId}{fr:Nat×Nat}{fl:Bool}(hm:(b,fl, .cells cs ty fr)∈L){K:Array Value->Prop}:
 ∀(n i:Nat)(acc:Array Value),o+i+n<=cs.size->K (acc++cs.extract (o+i) (o+i+n))->wpQ P (loadCellsFrom ⟨b,o,none⟩ i n acc) K L:=by
 intro n
 induction n with
 |zero=>
  intro i acc h hK;have e:cs.extract (o+i) (o+i+0)= #[]:=by apply Array.ext';simp
  rw[e,Array.append_empty] at hK;exact hK
 |succ n ih=>
  intro i acc h hK;have hi:o+i<cs.size:=by omega
  unfold loadCellsFrom;rw[ay,dq];refine oN (b:=b) (i:=o+i) ⟨fl,cs,ty,fr,hm,Array.getElem?_eq_getElem hi⟩ ?_;refine ih (i+1) _ (by omega) ?_;have e:acc.push cs[o+i]++cs.extract (o+(i+1)) (o+(i+1)+n)=acc++cs.extract (o+i) (o+i+(n+1)):=by
   apply Array.ext';simp only[Array.toList_append,Array.toList_push,Array.toList_extract,List.append_assoc];congr 1;rw[List.extract_eq_take_drop,List.extract_eq_take_drop];have:cs.toList.drop (o+i)=cs[o+i]::cs.toList.drop (o+i+1):=by
    rw[List.drop_eq_getElem_cons (by simpa using hi)];simp
   rw[this,show o+i+(n+1)-(o+i)=n+1 by omega,show o+(i+1)+n-(o+(i+1))=n by omega,List.take_succ_cons,Nat.add_assoc];simp
  rw[e];exact hK
theorem eV {b o n:Nat}{cs:Array Value}{ty:TypeId}{fr:Nat×Nat}{fl:Bool}(hm:(b,fl, .cells cs ty fr)∈L){K:Array Value->Prop}(h:o+n<=cs.size)(hK:K (cs.extract o (o+n))):wpQ P (loadCells ⟨b,o,none⟩ n) K L:=
 mY hm n 0 #[] (by omega) (by simpa using hK)
end
def Yld (P:Program)(L:Frag)(s:Sem Next)(v:Value):Prop:=wpQ P s (· = .value v) L
theorem Yld.mono {P:Program}{L L':Frag}{s:Sem Next}{v:Value}(h:Yld P L s v)(hL: ∀t∈L,t∈L'):Yld P L' s v:=cX (fun _ h=>h) hL s h
theorem Yld.go {P:Program}{L:Frag}{s:Sem Next}{v:Value}(h:Yld P L s v){New:Obj->Prop}{Q:Next->Frag->Prop}(hQ:Q (.value v) L):wpS P New s Q L:=eC (fun a e=>by rw[e];exact hQ) s h
section
variable {P:Program}{L:Frag}{ρ:Operand->Value}{d:Option Tmp}{ty:TypeId}{ps:String}{af:Array Edge}{g:Option (Nat×Bool)}
theorem cW {s:Sem Value}{f:Value->Sem Next}{v:Value}(hf: ∀v,f v=pure (.value v)) (h: ∀(K:Value->Prop),K v->wpQ P s K L):Yld P L (s>>=f) v:=by
 unfold Yld;rw[ay];exact h _ (by rw[hf];rfl)
theorem Ad {x:Operand}:Yld P L (execOp ρ ⟨d, .move x,ty,ps,af,g⟩) (ρ x):=rfl
theorem uZ {x:Operand}:Yld P L (execOp ρ ⟨d, .assign x,ty,ps,af,g⟩) (ρ x):=rfl
theorem Ae {c a b:Operand}{t:Bool}(hc:ρ c= .bool t):Yld P L (execOp ρ ⟨d, .pick c a b,ty,ps,af,g⟩) (if t then ρ a else ρ b):=by
 show wpQ P (asBool (ρ c)>>=fun t=>pure (Next.value (if t then ρ a else ρ b))) (· = .value (if t then ρ a else ρ b)) L;rw[hc];rfl
theorem qH {x:Operand}{a:Addr}(hx:ρ x= .pointer (some a)):Yld P L (execOp ρ ⟨d, .nilCheck x,ty,ps,af,g⟩) (.pointer (some a)):=by
 unfold Yld;simp only[execOp,hx];rfl
theorem oO {x:Operand}{s f b i off:Nat}(hx:ρ x= .pointer (some ⟨b,i,none⟩))(hf:fieldOff P s f=some off):Yld P L (execOp ρ ⟨d, .fieldAddr s x f,ty,ps,af,g⟩) (.pointer (some ⟨b,i+off,none⟩)):=by
 refine cW (fun _=>rfl) fun K h=> ?_;unfold fieldOff at hf
 split at hf<;>try cases hf
 rename_i fs hu
 split at hf<;>try cases hf
 rename_i fd hfd
 split at hf<;>try cases hf
 rename_i n hn;unfold Instr.fieldAt;rw[ay,aL hu,hx];simp only[hfd];rw[ay,dr,ay];unfold fieldPlace;rw[ay,cH hn];simp only[Nat.succ_ne_zero,if_false,Nat.add_eq_zero_iff,Nat.one_ne_zero,and_false];rw[bP,dq];exact h
theorem Af {x:Operand}{t b i:Nat}{v:Value}(hx:ρ x= .pointer (some ⟨b,i,none⟩))(ht:aggAt P t=some false)(hv:At L b i v):Yld P L (execOp ρ ⟨d, .load t x,ty,ps,af,g⟩) v:=by
 refine cW (fun _=>rfl) fun K h=> ?_;unfold Instr.loadAt;rw[hx,ay,dr];unfold loadVar;rw[ay,gq ht];exact oN hv h
theorem tn {x:Operand}{t b i n:Nat}{cs:Array Value}{e:TypeId}{fr:Nat×Nat}{fl:Bool}(hx:ρ x= .pointer (some ⟨b,i,none⟩))(ht:aggAt P t=some true)(hs:sizeAt P t=some n)(hm:(b,fl, .cells cs e fr)∈L)(hi:i+n<=cs.size):
 Yld P L (execOp ρ ⟨d, .load t x,ty,ps,af,g⟩) (.agg (cs.extract i (i+n))):=by
 refine cW (fun _=>rfl) fun K h=> ?_;unfold Instr.loadAt;rw[hx,ay,dr];unfold loadVar;rw[ay,gq ht];simp only[if_true];rw[ay,cH hs,ay];exact eV hm hi h
theorem qI {x ix:Operand}{t b o sz:Nat}{len:Nat}{e:TypeId}{k:IntKind}{n:Int}(hx:ρ x= .pointer (some ⟨b,o,none⟩))(hi:ρ ix= .int k n)(hu:P.underlying t=some (.array len e))(hs:sizeAt P e=some sz)(h0:0<=n)(h1:n<len):
 Yld P L (execOp ρ ⟨d, .indexAddr t x ix,ty,ps,af,g⟩) (.pointer (some ⟨b,o+n.toNat*sz,none⟩)):=by
 refine cW (fun _=>rfl) fun K h=> ?_;unfold Instr.indexAt;rw[hx,hi];simp only[ay,asIntOf,bP,aL hu,dr,rN,cH hs,dq];rw[if_pos ⟨h0,h1⟩];exact h
theorem tq {x ix:Operand}{t b o sz:Nat}{len cap:Nat}{e:TypeId}{k:IntKind}{n:Int}(hx:ρ x= .slice (some ⟨b,o,none⟩) len cap)(hi:ρ ix= .int k n)(hu:P.underlying t=some (.slice e))(hs:sizeAt P e=some sz)(h0:0<=n)(h1:n<len):
 Yld P L (execOp ρ ⟨d, .indexAddr t x ix,ty,ps,af,g⟩) (.pointer (some ⟨b,o+n.toNat*sz,none⟩)):=by
 refine cW (fun _=>rfl) fun K h=> ?_;unfold Instr.indexAt;rw[hx,hi];simp only[ay,asIntOf,bP,aL hu,rN,cH hs,dq];rw[if_pos ⟨h0,h1⟩];exact h
theorem oP {op:BinOp}{t:TypeId}{x y:Operand}{k k':IntKind}{a b:Int}:eqGuard op t x y (.int k a) (.int k' b)=pure ():=by
 unfold eqGuard;cases op<;>rfl
theorem fL {op:BinOp}{t u:TypeId}{x y:Operand}{k:IntKind}{a b:Int}{v:Value}(hx:ρ x= .int k a)(hy:ρ y= .int k b)(h:binOp op t (.int k a) (.int k b)=pure v):Yld P L (execOp ρ ⟨d, .binOp op t x y u,ty,ps,af,g⟩) v:=by
 refine cW (fun _=>rfl) fun K hQ=> ?_;rw[hx,hy,oP];show wpQ P (binOp op t (.int k a) (.int k b)) K L;rw[h];exact hQ
theorem BP {t u:TypeId}{x y:Operand}{k:IntKind}{a b:Int}(hx:ρ x= .int k a)(hy:ρ y= .int k b):Yld P L (execOp ρ ⟨d, .binOp .add t x y u,ty,ps,af,g⟩) (.int k (k.wrap (a+b))):=fL hx hy (by simp[binOp,Op.intArith])
theorem BQ {t u:TypeId}{x y:Operand}{k:IntKind}{a b:Int}(hx:ρ x= .int k a)(hy:ρ y= .int k b):Yld P L (execOp ρ ⟨d, .binOp .sub t x y u,ty,ps,af,g⟩) (.int k (k.wrap (a-b))):=fL hx hy (by simp[binOp,Op.intArith])
theorem BR {t u:TypeId}{x y:Operand}{k:IntKind}{a b:Int}(hx:ρ x= .int k a)(hy:ρ y= .int k b):Yld P L (execOp ρ ⟨d, .binOp .mul t x y u,ty,ps,af,g⟩) (.int k (k.wrap (a*b))):=fL hx hy (by simp[binOp,Op.intArith])
theorem BS {t u:TypeId}{x y:Operand}{k:IntKind}{a b:Int}(hx:ρ x= .int k a)(hy:ρ y= .int k b)(hb:b≠0):Yld P L (execOp ρ ⟨d, .binOp .rem t x y u,ty,ps,af,g⟩) (.int k (a.tmod b)):=fL hx hy (by simp[binOp,Op.intDiv,hb])
theorem BT {t u:TypeId}{x y:Operand}{k:IntKind}{a b:Int}(hx:ρ x= .int k a)(hy:ρ y= .int k b)(hb:b≠0):Yld P L (execOp ρ ⟨d, .binOp .quo t x y u,ty,ps,af,g⟩) (.int k (k.wrap (a.tdiv b))):=fL hx hy (by simp[binOp,Op.intDiv,hb])
theorem BU {t u:TypeId}{x y:Operand}{k:IntKind}{a b:Int}(hx:ρ x= .int k a)(hy:ρ y= .int k b):Yld P L (execOp ρ ⟨d, .binOp .eql t x y u,ty,ps,af,g⟩) (.bool (a==b)):=fL hx hy (by simp[binOp,Op.intCmp])
theorem BV {t u:TypeId}{x y:Operand}{k:IntKind}{a b:Int}(hx:ρ x= .int k a)(hy:ρ y= .int k b):Yld P L (execOp ρ ⟨d, .binOp .neq t x y u,ty,ps,af,g⟩) (.bool (a !=b)):=fL hx hy (by simp[binOp,Op.intCmp])
theorem BW {t u:TypeId}{x y:Operand}{k:IntKind}{a b:Int}(hx:ρ x= .int k a)(hy:ρ y= .int k b):Yld P L (execOp ρ ⟨d, .binOp .lss t x y u,ty,ps,af,g⟩) (.bool (decide (a<b))):=fL hx hy (by simp[binOp,Op.intCmp])
theorem BX {t u:TypeId}{x y:Operand}{k:IntKind}{a b:Int}(hx:ρ x= .int k a)(hy:ρ y= .int k b):Yld P L (execOp ρ ⟨d, .binOp .leq t x y u,ty,ps,af,g⟩) (.bool (decide (a<=b))):=fL hx hy (by simp[binOp,Op.intCmp])
theorem BY {t u:TypeId}{x y:Operand}{k:IntKind}{a b:Int}(hx:ρ x= .int k a)(hy:ρ y= .int k b):Yld P L (execOp ρ ⟨d, .binOp .gtr t x y u,ty,ps,af,g⟩) (.bool (decide (b<a))):=fL hx hy (by simp[binOp,Op.intCmp])
theorem BZ {t u:TypeId}{x y:Operand}{k:IntKind}{a b:Int}(hx:ρ x= .int k a)(hy:ρ y= .int k b):Yld P L (execOp ρ ⟨d, .binOp .geq t x y u,ty,ps,af,g⟩) (.bool (decide (b<=a))):=fL hx hy (by simp[binOp,Op.intCmp])
theorem Ag {s t:TypeId}{ds:TypeDesc}{x:Operand}{j k:IntKind}{n:Int}(hx:ρ x= .int j n)(hs:P.underlying s=some ds)(ht:P.underlying t=some (.int k)):Yld P L (execOp ρ ⟨d, .convert s t x,ty,ps,af,g⟩) (.int k (k.wrap n)):=by
 refine cW (fun _=>rfl) fun K h=> ?_;unfold convert;rw[hx,ay,aL hs,ay,aL ht];exact h
theorem Ca {t:TypeId}{x:Operand}{b:Bool}(hx:ρ x= .bool b):Yld P L (execOp ρ ⟨d, .unOp .not t x,ty,ps,af,g⟩) (.bool !b):=by
 refine cW (fun _=>rfl) fun K h=> ?_;rw[hx];exact h
theorem Cb {t:TypeId}{x:Operand}{k:IntKind}{n:Int}(hx:ρ x= .int k n):Yld P L (execOp ρ ⟨d, .unOp .neg t x,ty,ps,af,g⟩) (.int k (k.wrap (0-n))):=by
 refine cW (fun _=>rfl) fun K h=> ?_;rw[hx];exact h
theorem tt {x:Operand}{i:Nat}{vs:Array Value}{v:Value}(hx:ρ x= .tuple vs)(hv:vs[i]? =some v):Yld P L (execOp ρ ⟨d, .extract x i,ty,ps,af,g⟩) v:=by
 refine cW (fun _=>rfl) fun K h=> ?_;rw[hx];simp only[Instr.extract,hv];exact h
theorem kH {f:Fn}{c1 c2:Array Operand}:Yld P L (execOp ρ ⟨d, .makeFunc f c1 c2,ty,ps,af,g⟩) (.func f (c1.map ρ) (c2.map ρ)):=cW (fun _=>rfl) fun _ h=>h
theorem oQ {t:TypeId}{x:Operand}{ds:TypeDesc}(ht:P.underlying t=some ds)(hi: ∀ms,ds≠ .interface ms):Yld P L (execOp ρ ⟨d, .makeInterface t x,ty,ps,af,g⟩) (.iface t (ρ x)):=by
 refine cW (fun _=>rfl) fun K h=> ?_;unfold Instr.makeInterface;rw[ay,aL ht];cases ds<;>first|exact h|exact absurd rfl (hi _)
theorem gz {t off:Nat}{cs:Array Value}{v:Value}{K:Value->Prop}(hg:aggAt P t=some false)(hv:cs[off]? =some v)(h:K v):wpQ P (part t cs off) K L:=by
 unfold part;rw[ay,gq hg];simp only[Bool.false_eq_true,if_false,hv];exact h
theorem jo {b:Builtin}{args:Array Operand}{ats:Array TypeId}{s:Array Bool->Sem Value}{v:Value}(hb: ∀cs,builtin b ats ty cs (args.map ρ)=(s cs>>=fun v=>pure (.value v))) (h: ∀cs (K:Value->Prop),K v->wpQ P (s cs) K L):
 Yld P L (execOp ρ ⟨d, .call ⟨.builtin b,args,ats⟩,ty,ps,af,g⟩) v:=by
 show wpQ P (builtin b ats ty _ (args.map ρ)) _ L;rw[hb,ay];exact h _ _ rfl
theorem xU {x:Operand}{ats:Array TypeId}{t:TypeId}{e:TypeId}{base:Option Addr}{len cap:Nat}(hx:ρ x= .slice base len cap)(ha:ats[0]? =some t)(hu:P.underlying t=some (.slice e)):Yld P L (execOp ρ ⟨d, .call ⟨.builtin .len, #[x],ats⟩,ty,ps,af,g⟩) (.int .i64 len):=by
 refine jo (s:=fun _=>Builtin.len_ ats ty (#[x].map ρ)) (fun _=>rfl) fun _ K h=> ?_;unfold Builtin.len_;simp only[ha,List.map_toArray,List.map_cons,List.map_nil,hx,List.getElem?_toArray,List.getElem?_cons_zero];rw[ay,aL hu];exact h
theorem u3 {x:Operand}{ats:Array TypeId}{t:TypeId}{s:ByteArray}(hx:ρ x= .string s)(ha:ats[0]? =some t)(hu:P.underlying t=some .string):Yld P L (execOp ρ ⟨d, .call ⟨.builtin .len, #[x],ats⟩,ty,ps,af,g⟩) (.int .i64 s.size):=by
 refine jo (s:=fun _=>Builtin.len_ ats ty (#[x].map ρ)) (fun _=>rfl) fun _ K h=> ?_;unfold Builtin.len_;simp only[ha,List.map_toArray,List.map_cons,List.map_nil,hx,List.getElem?_toArray,List.getElem?_cons_zero];rw[ay,aL hu];exact h
theorem Cc {x y:Operand}{ats:Array TypeId}{k k':IntKind}{a b:Int}(hx:ρ x= .int k a)(hy:ρ y= .int k' b):Yld P L (execOp ρ ⟨d, .call ⟨.builtin .min, #[x,y],ats⟩,ty,ps,af,g⟩) (.int k (if b<a then b else a)):=by
 refine jo (s:=fun _=>Builtin.min_ ats ty (#[x,y].map ρ)) (fun _=>rfl) fun _ K h=> ?_;unfold Builtin.min_;simp only[List.map_toArray,List.map_cons,List.map_nil,hx,hy,List.foldlM,Builtin.min2];exact h
theorem oR {op:BinOp}{t:TypeId}{x y:Operand}{a b:Option Addr}:eqGuard op t x y (.pointer a) (.pointer b)=pure ():=by
 unfold eqGuard;cases op<;>rfl
theorem u4 {op:BinOp}{t u e:TypeId}{x y:Operand}{a b:Option Addr}{v:Bool}(hop:op= .eql\/op= .neq)(hx:ρ x= .pointer a)(hy:ρ y= .pointer b)(hu:P.underlying t=some (.pointer e))
 (h: ∀(K:Bool->Prop),K v->wpQ P (Op.equal t (.pointer a) (.pointer b)) K L):Yld P L (execOp ρ ⟨d, .binOp op t x y u,ty,ps,af,g⟩) (.bool (if op= .eql then v else !v)):=by
 refine cW (fun _=>rfl) fun K hQ=> ?_;rw[hx,hy,oR];show wpQ P (binOp op t (.pointer a) (.pointer b)) K L;rcases hop with rfl|rfl
 ·show wpQ P (do pure (.bool (<-Op.equal t (.pointer a) (.pointer b)))) K L;rw[ay];exact h _ hQ
 ·show wpQ P (do pure (.bool (!(<-Op.equal t (.pointer a) (.pointer b))))) K L;rw[ay];exact h _ hQ
theorem dm {t:TypeId}{x y:Value}:Op.equal t x y=Op.equalIn (9999+1) t x y:=rfl
theorem jL {t e:TypeId}{a:Option Addr}{K:Bool->Prop}(hu:P.underlying t=some (.pointer e))(h:K a.isNone):wpQ P (Op.equal t (.pointer a) (.pointer none)) K L:=by
 rw[dm,Op.equalIn.eq_def];rw[ay,aL hu];cases a<;>exact h
theorem kI {a:Addr}{fl:Bool}{cs:Array Value}{t:TypeId}{fr:Nat×Nat}{K:Unit->Prop}(h:(a.block,fl, .cells cs t fr)∈L)(hQ:K ()):wpQ P (noView a) K L:=by
 unfold noView viewAt;rw[ay,ay];refine gy h ?_;simp only[Option.isSome_some,if_true];exact hQ
theorem gQ {a:Addr}{fl:Bool}{cs:Array Value}{t:TypeId}{K:Bool->Prop}(h:(a.block,fl, .cells cs t)∈L)(hQ:K false):wpQ P (stringish a) K L:=by
 unfold stringish;rw[ay];refine fx h ?_;simp only[Bool.false_eq_true,if_false];rw[ay];refine gy h ?_;exact fx (a:={block:=a.block,off:=cs.size}) h hQ
theorem mZ {a b:Addr}{fl fl':Bool}{cs cs':Array Value}{t t':TypeId}{K:Bool->Prop}(h:(a.block,fl, .cells cs t)∈L)(h':(b.block,fl', .cells cs' t')∈L)(hQ:K false):wpQ P (mayBeOne a b) K L:=by
 unfold mayBeOne;rw[ay];refine gQ h ?_;rw[ay];refine gQ h' ?_;simp only[Bool.false_and,Bool.or_false,ay];refine gy h ?_;refine gy h' ?_;exact hQ
theorem kJ {t e n:TypeId}{b i b' i':Nat}{cs cs':Array Value}{ty1 ty1':TypeId}{fl fl':Bool}{K:Bool->Prop}(hu:P.underlying t=some (.pointer e))(hs:sizeAt P e=some (n+1))
 (h1:(b,fl, .cells cs ty1)∈L) (h2:(b',fl', .cells cs' ty1')∈L) (h:K (decide ((b,i)=(b',i')))):wpQ P (Op.equal t (.pointer (some ⟨b,i,none⟩)) (.pointer (some ⟨b',i',none⟩))) K L:=by
 rw[dm,Op.equalIn.eq_def];rw[ay,aL hu];show wpQ P (do if(<-sizeOf e)≠0 then sameAddr ⟨b,i,none⟩ ⟨b',i',none⟩ else _) K L;rw[ay,cH hs];simp only[ne_eq,Nat.add_eq_zero_iff,Nat.one_ne_zero,and_false,not_false_eq_true,if_true];unfold sameAddr;by_cases hb:b=b'
 ·subst hb;simp only[beq_self_eq_true,if_true];have e0:((⟨b,i,none⟩:Addr)==⟨b,i',none⟩)=decide ((b,i)=(b,i')):=by
   rw[Bool.eq_iff_iff];simp[Prod.ext_iff]
  rw[e0];exact h
 ·have hne:(b==b')=false:=by simpa using hb
  have hd:decide ((b,i)=(b',i'))=false:=by simp[hb]
  rw[hd] at h;simp only[hne,Bool.false_eq_true,if_false];rw[ay];refine fx h1 ?_;rw[ay];refine fx h2 ?_;simp only[Bool.and_false,Bool.false_eq_true,if_false];rw[ay];refine kI h1 ?_;rw[ay];refine kI h2 ?_;rw[ay];refine mZ h1 h2 ?_;exact h
theorem xV {t u e:TypeId}{x y:Operand}{a:Option Addr}(hx:ρ x= .pointer a)(hy:ρ y= .pointer none)(hu:P.underlying t=some (.pointer e)):Yld P L (execOp ρ ⟨d, .binOp .eql t x y u,ty,ps,af,g⟩) (.bool a.isNone):=
 u4 (.inl rfl) hx hy hu fun _ h=>jL hu h
theorem xW {t u e:TypeId}{x y:Operand}{a:Option Addr}(hx:ρ x= .pointer a)(hy:ρ y= .pointer none)(hu:P.underlying t=some (.pointer e)):Yld P L (execOp ρ ⟨d, .binOp .neq t x y u,ty,ps,af,g⟩) (.bool !a.isNone):=
 u4 (.inr rfl) hx hy hu fun _ h=>jL hu h
theorem u5 {t u e n:TypeId}{x y:Operand}{b i b' i':Nat}{cs cs':Array Value}{ty1 ty1':TypeId}{fl fl':Bool}(hx:ρ x= .pointer (some ⟨b,i,none⟩))(hy:ρ y= .pointer (some ⟨b',i',none⟩))(hu:P.underlying t=some (.pointer e))(hs:sizeAt P e=some (n+1))
 (h1:(b,fl, .cells cs ty1)∈L) (h2:(b',fl', .cells cs' ty1')∈L):Yld P L (execOp ρ ⟨d, .binOp .eql t x y u,ty,ps,af,g⟩) (.bool (decide ((b,i)=(b',i')))):=
 u4 (.inl rfl) hx hy hu fun _ h=>kJ hu hs h1 h2 h
theorem xX {op:BinOp}{t u:TypeId}{x y:Operand}{v:Value}{b:Bool}{ms:Array (String×TypeId)}(hop:op= .eql\/op= .neq)(hv:(v= .nilIface/\b=true)\/(∃s w,v= .iface s w/\b=false))(hx:ρ x=v)(hy:y= .const .nilIface)(hy':ρ y= .nilIface)(hu:P.underlying t=some (.interface ms)):
 Yld P L (execOp ρ ⟨d, .binOp op t x y u,ty,ps,af,g⟩) (.bool (if op= .eql then b else !b)):=by
 refine cW (fun _=>rfl) fun K hQ=> ?_;have hg:eqGuard op t x y v .nilIface=pure ():=by
  unfold eqGuard;rcases hop with rfl|rfl<;>rcases hv with ⟨rfl,_⟩|⟨s,w,rfl,_⟩<;>subst hy<;>simp
 rw[hx,hy',hg];show wpQ P (binOp op t v .nilIface) K L;have he: ∀(K:Bool->Prop),K b->wpQ P (Op.equal t v .nilIface) K L:=fun K hQ=>by
  rw[dm,Op.equalIn.eq_def,ay,aL hu];rcases hv with ⟨rfl,rfl⟩|⟨s,w,rfl,rfl⟩<;>exact hQ
 have e1:binOp op t v .nilIface=if op= .eql then(do pure (.bool (<-Op.equal t v .nilIface))) else(do pure (.bool (!(<-Op.equal t v .nilIface)))):=by
  rcases hop with rfl|rfl<;>rcases hv with ⟨rfl,_⟩|⟨s,w,rfl,_⟩<;>rfl
 rw[e1];rcases hop with rfl|rfl
 ·simp only[if_true,ay];exact he _ hQ
 ·simp only[reduceCtorEq,if_false,ay];exact he _ hQ
end
end Go.Lo
