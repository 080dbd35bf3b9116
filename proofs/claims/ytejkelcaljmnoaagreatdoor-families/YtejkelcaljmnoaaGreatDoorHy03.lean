/-
  Part 3 of the proof.
  No condition but those that each statement names.
-/
import Derived.Test.YtejkelcaljmnoaaGreatDoorHy02
import Derived.KernelRfl
import Derived.Laws.Externs
import Derived.Stop.Asserts
import Derived.Test.YtejkelcaljmnoaaGreatDoorChecked
set_option maxRecDepth 100000
set_option maxHeartbeats 4000000
set_option linter.unusedVariables false
set_option linter.unusedSimpArgs false
set_option linter.unusedSectionVars false
namespace Go.Lo
open Go.Conc Go.Hx
section
variable {P:Program}{New:Obj->Prop}{L:Frag}{Q:Next->Frag->Prop}{ρ:Operand->Value}{d:Option Tmp}{ty:TypeId}{ps:String}{af:Array Edge}{g:Option (Nat×Bool)}
theorem dW {v:Value}(h:plainV v=true):v.cells= #[v]:=by cases v<;>first|rfl|cases h
theorem xY {t:TypeId}{x y:Operand}{b i n:Nat}{v:Value}{cs:Array Value}{e:TypeId}(hx:ρ x= .pointer (some ⟨b,i,none⟩))(hy:ρ y=v)(hs:sizeAt P t=some 1)(hn:L[n]? =some (b,true, .cells cs e))(hi:i<cs.size)(hp:plainV v=true)
 (hQ:Q .skip (L.set n (b,true, .cells (cs.setIfInBounds i v) e))):wpS P New (execOp ρ ⟨d, .store t x y,ty,ps,af,g⟩) Q L:=by
 show wpS P New (Instr.storeAt t (ρ x) (ρ y)>>=fun _=>pure .skip) Q L;unfold Instr.storeAt storeVar;rw[hx,hy,ax,ax,iu,ax,bO hs,dW hp];simp only[List.size_toArray,List.length_cons,List.length_nil,Nat.zero_add,ne_eq,not_true_eq_false,if_false];refine cA hn (by simp;omega) (by simpa using hp) ?_;exact hQ
theorem qJ {t:TypeId}{x y:Operand}{b i n m:Nat}{vs:List Value}{cs:Array Value}{e:TypeId}(hx:ρ x= .pointer (some ⟨b,i,none⟩))(hy:ρ y= .agg vs.toArray)(hs:sizeAt P t=some m)(hm:vs.length=m)(hn:L[n]? =some (b,true, .cells cs e))(hi:i+vs.length<=cs.size)(hp:vs.all plainV=true)
 (hQ:Q .skip (L.set n (b,true, .cells (puts cs i vs) e))):wpS P New (execOp ρ ⟨d, .store t x y,ty,ps,af,g⟩) Q L:=by
 show wpS P New (Instr.storeAt t (ρ x) (ρ y)>>=fun _=>pure .skip) Q L;unfold Instr.storeAt storeVar;rw[hx,hy,ax,ax,iu,ax,bO hs];simp only[Value.cells,List.size_toArray,hm,ne_eq,not_true_eq_false,if_false];exact cA hn hi hp hQ
theorem xZ {t:TypeId}{z:Value}(hz:zeroAt P t=some z)(hN:New (.cells z.cells t))(hQ: ∀b,(∀t∈L,t.1≠b)->Q (.value (.pointer (some ⟨b,0,none⟩))) ((b,true, .cells z.cells t)::L)):wpS P New (execOp ρ ⟨d, .alloc t,ty,ps,af,g⟩) Q L:=by
 show wpS P New (Instr.alloc t true (.tuple #[])>>=fun v=>pure (.value v)) Q L;unfold Instr.alloc newVar newRow;rw[ax,ax,b7 hz];simp only[ax];exact cf hN hQ
theorem Cf {t:TypeId}{x:Operand}{v:Value}(hx:ρ x=v)(hN:New (.cells v.cells t))(hQ: ∀b,(∀t∈L,t.1≠b)->Q (.value (.pointer (some ⟨b,0,none⟩))) ((b,true, .cells v.cells t)::L)):wpS P New (execOp ρ ⟨d, .box t x,ty,ps,af,g⟩) Q L:=by
 show wpS P New (Instr.box t (ρ x)>>=fun v=>pure (.value v)) Q L;unfold Instr.box newVar newRow;rw[hx];simp only[ax];exact cf hN hQ
theorem tt {t:TypeId}(hN:New (.map #[] 0))(hQ: ∀b,(∀t∈L,t.1≠b)->Q (.value (.map (some b))) ((b,true, .map #[] 0)::L)):wpS P New (execOp ρ ⟨d, .makeMap t none,ty,ps,af,g⟩) Q L:=by
 show wpS P New (Instr.makeMap t none>>=fun v=>pure (.value v)) Q L;unfold Instr.makeMap;simp only[ax,bz];exact cf hN hQ
theorem lL {t e:TypeId}{x:Operand}{v z:Value}(hx:ρ x=v)(hu:P.underlying t=some (.slice e))(hs:sizeAt P e=some 1)(hz:zeroAt P e=some z)(hzp:plainV z=true)(hp:plainV v=true)(hN:New (.cells #[v] e))
 (hQ: ∀b,(∀t∈L,t.1≠b)->Q (.value (.slice (some ⟨b,0,none⟩) 1 1)) ((b,true, .cells #[v] e)::L)):wpS P New (execOp ρ ⟨d, .buildSlice t 1 #[(0,x)],ty,ps,af,g⟩) Q L:=by
 simp only[execOp,List.map_toArray,List.map_cons,List.map_nil];unfold Instr.buildSlice newRow;have h0:Instr.fill (fun i=>some (i*1,1)) ((Array.range (1*1)).map (#[z][· % #[z].size]!)) [(0,v)]=some #[v]:=by
  have e1:(Array.range (1*1)).map (#[z][· % #[z].size]!)= #[z]:=by
   have:Array.range (1*1)= #[0]:=by decide
   rw[this];simp
  rw[e1];simp[Instr.fill,dW hp]
 rw[ax,ax,aY hu,hx];simp only[];rw[ax,bO hs];simp only[Nat.one_mul,gt_iff_lt,Nat.reduceLT,Nat.reducePow,if_false,Nat.one_ne_zero];rw[ax,b7 hz,ax,bz,dW hzp];simp only[Nat.one_mul] at h0;simp only[h0,ax];exact cf hN hQ
theorem lY (n:Nat): ∀(r c:Nat),c<=n->Builtin.growBy n r c<=2*n+192
 |0,c,h=>by unfold Builtin.growBy;omega
 |r+1,c,h=>by
  unfold Builtin.growBy
  split
  ·omega
  ·rename_i hc;by_cases h2:c+(c+768)/4<=n
   ·exact lY n r _ h2
   ·cases r with
    |zero=>unfold Builtin.growBy;omega
    |succ r=>unfold Builtin.growBy;rw[if_pos (by omega)];omega
theorem qK {n c:Nat}(h:c<n):Builtin.nextslicecap n c<=2*n+192:=by
 unfold Builtin.nextslicecap
 split
 ·omega
 ·split
  ·omega
  ·exact lY n 4 c (by omega)
structure Reads (P:Program)(L:Frag)(sz n:Nat)(x:Value)(vs:Array Value):Prop where
 r: ∀(New:Obj->Prop)(Q:Array Value->Frag->Prop),Q vs L->wpS P New (Builtin.firstCells sz n x) Q L
theorem gY {sz n len cap:Nat}:Reads P L sz n (.slice none len cap) #[]:=⟨fun _ _ hQ=>hQ⟩
theorem ct {b:Builtin}{args:Array Operand}{ats:Array TypeId}{s:Sem Value}(hb: ∀cs,builtin b ats ty cs (args.map ρ)=(s>>=fun v=>pure (.value v))) (h:wpS P New s (fun v L'=>Q (.value v) L') L):wpS P New (execOp ρ ⟨d, .call ⟨.builtin b,args,ats⟩,ty,ps,af,g⟩) Q L:=by
 show wpS P New (builtin b ats ty _ (args.map ρ)) Q L;rw[hb,ax];exact h
theorem fM {n:Nat}{Q:Unit->Frag->Prop}(h:Q () L):wpS P New (askRoom n) Q L:=by
 unfold askRoom
 split
 ·exact⟨rfl,h⟩
 ·exact h
theorem qL {x y:Operand}{t u e e2:TypeId}{sz sLen sCap b o n m:Nat}{yb:Option Addr}{yc:Nat}{vs:Array Value}{cs:Array Value}{e':TypeId}(hx:ρ x= .slice (some ⟨b,o,none⟩) sLen sCap)(hy:ρ y= .slice yb n yc)(hu:P.underlying t=some (.slice e))(hv:P.underlying u=some (.slice e2))(hs:sizeAt P e=some sz)
 (hr:Reads P L sz n (.slice yb n yc) vs) (hc:sLen+n<=sCap) (hm:L[m]? =some (b,true, .cells cs e')) (ho:o+sLen*sz+vs.size<=cs.size) (hp:vs.toList.all plainV=true)
 (hQ:Q (.value (.slice (some ⟨b,o,none⟩) (sLen+n) sCap)) (L.set m (b,true, .cells (puts cs (o+sLen*sz) vs.toList) e'))):wpS P New (execOp ρ ⟨d, .call ⟨.builtin .append, #[x,y], #[t,u]⟩,ty,ps,af,g⟩) Q L:=by
 refine ct (s:=Builtin.append_ #[t,u] ty #[.slice (some ⟨b,o,none⟩) sLen sCap, .slice yb n yc]) (fun _=>by simp[builtin,hx,hy]) ?_;unfold Builtin.append_;simp only[List.getElem?_toArray,List.getElem?_cons_zero,List.getElem?_cons_succ];rw[ax,aY hu];simp only[];rw[ax,bO hs];rw[ax,aY hv,ax,bz];simp only[Bool.false_eq_true,if_false,Bool.not_false,if_true,Builtin.lenOf];rw[ax,bz];simp only[hc,if_true];rw[ax];refine hr.r New _ ?_;rw[ax,dq];exact cA hm (by simpa using ho) hp hQ
theorem oU {x y:Operand}{t u e e2:TypeId}{sz by_ sLen sCap n:Nat}{xb yb:Option Addr}{yc:Nat}{ws vs:Array Value}{z:Value}(hx:ρ x= .slice xb sLen sCap)(hy:ρ y= .slice yb n yc)(hu:P.underlying t=some (.slice e))(hv:P.underlying u=some (.slice e2))(hs:sizeAt P e=some sz)(hb:bytesAt P e=some (by_+1))(hz0:zeroAt P e=some z)
 (hw:Reads P L sz sLen (.slice xb sLen sCap) ws) (hr:Reads P L sz n (.slice yb n yc) vs) (hc:sCap<sLen+n) (hbig:(2*(sLen+n)+192)*(by_+1)<=281474976710656) (hN: ∀cs,New (.cells cs e))
 (hQ: ∀b cap,(∀t∈L,t.1≠b)->sLen+n<=cap->cap<9223372036854775808->Q (.value (.slice (some ⟨b,0,none⟩) (sLen+n) cap)) ((b,true, .cells (ws++vs++Builtin.zeroCells z.cells (cap-(sLen+n))) e)::L)):wpS P New (execOp ρ ⟨d, .call ⟨.builtin .append, #[x,y], #[t,u]⟩,ty,ps,af,g⟩) Q L:=by
 refine ct (s:=Builtin.append_ #[t,u] ty #[.slice xb sLen sCap, .slice yb n yc]) (fun _=>by simp[builtin,hx,hy]) ?_;unfold Builtin.append_;simp only[List.getElem?_toArray,List.getElem?_cons_zero,List.getElem?_cons_succ];obtain⟨inf,hinf,hby⟩:=Option.map_eq_some_iff.1 hb;rw[ax,aY hu];simp only[];rw[ax,bO hs];rw[ax,aY hv,ax,bz];simp only[Bool.false_eq_true,if_false,Bool.not_false,if_true,Builtin.lenOf];rw[ax,bz];have h1: ¬(sLen+n<=sCap):=by omega
 simp only[h1,if_false];rw[ax,b4 hinf];have h2: ¬(((sLen+n:Nat):Int)>IntKind.i64.max/\(False\/inf.bytes=0)):=by rw[hby];rintro⟨_,h|h⟩<;>simp at h
 simp only[h2,if_false];rw[ax,b4 hinf];have h3: ¬(Builtin.nextslicecap (sLen+n) sCap*inf.bytes>2^48):=by
  rw[hby];have:=Nat.mul_le_mul_right (by_+1) (qK hc);omega
 simp only[h3,if_false];rw[ax];have hlt:sLen+n<9223372036854775808:=by
  have:2*(sLen+n)+192<=(2*(sLen+n)+192)*(by_+1):=Nat.le_mul_of_pos_right _ (by omega);omega
 refine⟨fun h=>by simp[Question.forced] at h,fun _ tp=> ?_⟩;have hcap:sLen+n<=Question.cut (.appendCap (sLen+n) sCap e) tp/\Question.cut (.appendCap (sLen+n) sCap e) tp<9223372036854775808:=by
  simp only[Question.cut];have:=Nat.mod_lt tp (show 2^63-(sLen+n)>0 by omega);omega
 generalize Question.cut (.appendCap (sLen+n) sCap e) tp=cap at hcap⊢;rw[jm,ax,b4 hinf,ax];refine fM ?_;rw[ax];refine hw.r New _ ?_;rw[ax];refine hr.r New _ ?_;rw[ax,b7 hz0];simp only[newRow,ax];exact cf (hN _) fun b hb=>hQ b cap hb hcap.1 hcap.2
end
section
variable {σ:Type}(F:Fam σ)(P:Program)(main:Bool)(fn:FuncId)(ops:Array Oper)(S:Array Bool->σ->World->Prop)(Q:σ->Exit->Act->World->Prop)(nf:Nat)
def AnyY:Nat->Array Bool->σ->Act->World->Prop
 |0,ls,s,a,w=>Region.ready .any ops ls=[]/\Q s .normal a w
 |fuel+1,ls,s,a,w=>
  (Region.ready .any ops ls=[]->Q s .normal a w)/\
  ∀i∈Region.ready .any ops ls,OpX F P main fn ops nf i (fun s' a' w'=>S (ls.setIfInBounds i true) s' w'/\AnyY fuel (ls.setIfInBounds i true) s' a' w') s a w
def Down (ls:Array Bool):Prop:=ls.size=ops.size/\ ∀j oj,ops[j]? =some oj->ls.getD j true=true-> ∀e∈oj.after,Region.binds .any e=true->ls.getD e.on false=true
end
def hangs (ops:Array Oper):Nat->Nat->Nat->Bool
 |0,_,_=>false
 |f+1,e,i=>match ops[e]? with
  |some oe=>oe.after.any fun ed=>Region.binds .any ed&&(ed.on==i||hangs ops f ed.on i)
  |none=>false
section
variable {ops:Array Oper}{ls:Array Bool}
theorem m6 {i:Nat}(h:ls.getD i false=true):ls.getD i true=true:=by
 simp only[Array.getD_eq_getD_getElem?] at*;cases hx:ls[i]? <;>simp_all
theorem Down.hangs (h:Down ops ls): ∀(f e i:Nat),Lo.hangs ops f e i=true->ls.getD e true=true->ls.getD i false=true
 |0,_,_,hh,_=>by simp[Lo.hangs] at hh
 |f+1,e,i,hh,he=>by
  unfold Lo.hangs at hh
  split at hh
  ·rename_i oe hoe;obtain⟨ed,hed,hb⟩:=Array.any_eq_true'.1 hh;simp only[Bool.and_eq_true,Bool.or_eq_true,beq_iff_eq] at hb;have h1:=h.2 e oe hoe he ed hed hb.1;rcases hb.2 with rfl|h2
   ·exact h1
   ·exact h.hangs f ed.on i h2 (m6 h1)
  ·cases hh
theorem oV {i j:Nat}{d:Bool}(h:ls.getD j d=true):(ls.setIfInBounds i true).getD j d=true:=by
 simp only[Array.getD_eq_getD_getElem?,Array.getElem?_setIfInBounds] at*
 split
 ·split<;>simp_all
 ·exact h
theorem Down.step (h:Down ops ls){i:Nat}(hi:i∈Region.ready .any ops ls):Down ops (ls.setIfInBounds i true):=by
 obtain⟨hun,oi,hoi,hall⟩:=mem_ready.1 hi;refine⟨by simpa using h.1,fun j oj hoj hj e he hb=> ?_⟩;by_cases hji:i=j
 ·subst hji;obtain rfl:=Option.some.inj (hoi.symm.trans hoj);exact oV (hall e he hb)
 ·refine oV (h.2 j oj hoj ?_ e he hb);simpa [Array.getD_eq_getD_getElem?,Array.getElem?_setIfInBounds,hji] using hj
theorem kK:Down ops (Array.replicate ops.size false):=by
 refine⟨by simp,fun j oj hoj hj=> ?_⟩;have:j<ops.size:=(Array.getElem?_eq_some_iff.1 hoj).1;simp[Array.getD_eq_getD_getElem?,this] at hj
end
section
variable {σ:Type}{F:Fam σ}{P:Program}{main:Bool}{fn:FuncId}{ops:Array Oper}{S:Array Bool->σ->World->Prop}{Q:σ->Exit->Act->World->Prop}{nf:Nat}
theorem AnyY.rely (hSR: ∀ls s x y,S ls s x->F.R s x y->S ls s y) (hQR: ∀s a x y,Q s .normal a x->F.R s x y->Q s .normal a y):
 ∀(fuel:Nat)(ls:Array Bool)(s:σ)(a:Act)(w w₁:World),AnyY F P main fn ops S Q nf fuel ls s a w->F.R s w w₁->AnyY F P main fn ops S Q nf fuel ls s a w₁
 |0,_,_,_,_,_,h,r=>⟨h.1,hQR _ _ _ _ h.2 r⟩
 |fuel+1,ls,s,a,w,w₁,h,r=>⟨fun e=>hQR _ _ _ _ (h.1 e) r,fun i hi=>by
  rcases h.2 i hi with this|⟨o,f,args,ats,Post,h1,h2,h3,h4,h5⟩
  ·refine .inl ?_;unfold OpC at*
   split
   ·simp_all
   ·rename_i o ho;simp only[ho] at this
    split
    ·rename_i hw;simp only[hw,if_true] at this;exact fun w₂ h₂=>this w₂ ((F.terms s).trans _ _ _ r h₂)
    ·rename_i hw;simp only[hw] at this;exact⟨hSR _ _ _ _ this.1 r,AnyY.rely hSR hQR fuel _ _ _ _ _ this.2 r⟩
  ·exact .inr ⟨o,f,args,ats,Post,h1,h2,h3,oE h4 r,h5⟩⟩
theorem qM: ∀(fuel t:Nat)(ls:Array Bool)(s:σ)(a:Act)(w:World),AnyY F P main fn ops S Q nf fuel ls s a w->
 OpsX F P main fn ops (Region.linearise.go .any ops fuel t ls []) (fuel*(nf+3)+1) s Q a w:=by
 intro fuel
 induction fuel with
 |zero=>intro t ls s a w h;simpa [Region.linearise.go] using bJ h.2
 |succ fuel ih=>
  intro t ls s a w h;obtain⟨h₀,h₁⟩:=h;simp only[Region.linearise.go]
  change OpsX F P main fn ops (match (Region.ready .any ops ls)[t%(Region.ready .any ops ls).length]? with
   |some i=>Region.linearise.go .any ops fuel (t/(Region.ready .any ops ls).length) (ls.setIfInBounds i true) [i]
   |none=>[].reverse) ((fuel+1)*(nf+3)+1) s Q a w
  cases hi:(Region.ready .any ops ls)[t%(Region.ready .any ops ls).length]? with
  |none=>
   have hnil:Region.ready .any ops ls=[]:=by
    cases hr:Region.ready .any ops ls with
    |nil=>rfl
    |cons x xs=>
     rw[hr] at hi;have hlt:t%(x::xs).length<(x::xs).length:=Nat.mod_lt _ (by simp);simp at hi;simp at hlt;omega
   exact fb (by simpa using bJ (h₀ hnil)) (by omega)
  |some i=>
   simp only[];rw[linearise_go_acc,List.reverse_singleton,List.singleton_append];have:=oH (oG (fun s' a' w' x=>ih (t/(Region.ready .any ops ls).length) _ s' a' w' x.2) (h₁ i (List.mem_of_getElem? hi)));exact fb this (by rw[Nat.succ_mul];omega)
theorem x0 {j:Nat}{oi oj:Oper}{v:Value}(hj:ops[j]? =some oj)(hap:oi.apart ops oj=true)
 (hsj: ∀cs b,oj.op≠ .select cs b) {K:σ->Act->World->Prop} {s:σ} {a:Act} {w:World} (h:OpX F P main fn ops nf j K s (a.put oi.dst v) w):
 OpX F P main fn ops nf j (fun s' a' w'=>(∃u,a'=a.put oj.dst u)/\K s' (a'.put oi.dst v) w') s a w:=by
 obtain⟨h1,h2,h3⟩:=Oper.apart_spec hap;rcases h with h|⟨o,f,args,ats,Post,g1,g2,g3,g4,g5⟩
 ·refine .inl ?_;unfold OpC at*;simp only[hj] at*;rw[wanted_put oj a oi.dst v h1] at h
  split
  ·rename_i hw;simp only[hw,if_true] at h;intro w₁ h₁;have h:=h w₁ h₁;unfold listed at*;rw[execOp_put oj hsj a oi.dst v h1] at h;generalize (execOp a.eval oj).run P w₁=r at*;cases r with
   |ok n w'=>
    cases n<;>simp only[uponK] at h⊢
    case value u=>exact⟨h.1,⟨u,rfl⟩,by rw[<-Act.put_comm a v u h2];exact h.2⟩
    case skip=>exact⟨h.1,⟨_,rfl⟩,by rw[<-Act.put_comm a v undef h2];exact h.2⟩
   |halt x w'=>simp only[uponK] at h
  ·rename_i hw;simp only[hw] at h;exact⟨⟨_,rfl⟩,by rw[<-Act.put_comm a v undef h2];exact h⟩
 ·obtain rfl:oj=o:=Option.some.inj (hj.symm.trans g1);refine .inr ⟨oj,f,args,ats,Post,hj,by rw[wanted_put oj a oi.dst v h1] at g2;exact g2,g3, ?_,fun s' u w' hp=>⟨⟨u,rfl⟩,by rw[<-Act.put_comm a v u h2];exact g5 s' u w' hp⟩⟩;have:args.map (a.put oi.dst v).eval=args.map a.eval:=by
   apply Array.map_congr_left;intro x hx;refine Act.eval_put fun d hd hxd=>h1 d hd ?_;subst hxd;refine List.mem_append_left _ (List.mem_filterMap.2 ⟨.tmp d, ?_,rfl⟩);simp[g3,Op.operands,Call.operands,hx]
  rw[this] at g4;exact g4
def YY (F:Fam σ)(P:Program)(fn:FuncId)(ops:Array Oper)(S:Array Bool->σ->World->Prop)(i:Nat)(oi:Oper)(v:Value)(a:Act):Prop:=
 ∀ls,Down ops ls->ls.getD i true=false->YieldsX F P fn ops (S ls) oi v a
theorem qN (hSR: ∀ls s x y,S ls s x->F.R s x y->S ls s y) (hQR: ∀s a x y,Q s .normal a x->F.R s x y->Q s .normal a y) {i:Nat} {oi:Oper} {v:Value} (hi:ops[i]? =some oi)
 (hsel: ∀(j:Nat)(o:Oper) cs b,ops[j]? =some o->o.op≠ .select cs b) (hSi: ∀ls s w,S ls s w↔S (ls.setIfInBounds i true) s w):
 ∀(fuel:Nat)(ls:Array Bool)(s:σ)(a:Act)(w:World),Down ops ls->
  (∀j oj,ops[j]? =some oj->j≠i->ls.getD j true=false->(∀e∈oj.after,Region.binds .any e=true->e.on≠i)->oi.apart ops oj=true)->
  i∈Region.ready .any ops ls->YY F P fn ops S i oi v a->S ls s w->
  AnyY F P main fn ops S Q nf fuel (ls.setIfInBounds i true) s (a.put oi.dst v) w->AnyY F P main fn ops S Q nf (fuel+1) ls s a w:=by
 have hK: ∀fuel ls,∀s a x y,(S ls s x/\AnyY F P main fn ops S Q nf fuel ls s a x)->F.R s x y->(S ls s y/\AnyY F P main fn ops S Q nf fuel ls s a y):=
  fun fuel ls s a x y h r=>⟨hSR _ _ _ _ h.1 r,AnyY.rely hSR hQR fuel ls s a x y h.2 r⟩
 intro fuel
 induction fuel with
 |zero=>
  intro ls s a w hD _ hr hy hS H;refine⟨fun h=>(by rw[h] at hr;cases hr),fun j hj=> ?_⟩;have hun:=(mem_ready.1 hr).1;by_cases hji:j=i
  ·subst hji;exact(hy ls hD hun).opX (hSR ls) hi (hK _ _) hS ⟨(hSi _ _ _).1 hS,H⟩
  ·have:=ready_mono hj hji;rw[H.1] at this;cases this
 |succ fuel ih=>
  intro ls s a w hD hfree hr hy hS H;have hun:=(mem_ready.1 hr).1;refine⟨fun h=>(by rw[h] at hr;cases hr),fun j hj=> ?_⟩;by_cases hji:j=i
  ·subst hji;exact(hy ls hD hun).opX (hSR ls) hi (hK _ _) hS ⟨(hSi _ _ _).1 hS,H⟩
  ·have h1:=H.2 j (ready_mono hj hji);obtain⟨hjun,oj,hoj,hall⟩:=mem_ready.1 hj;have hnot: ∀e∈oj.after,Region.binds .any e=true->e.on≠i:=fun e he hb heq=>by
    have h1:=hall e he hb;have h0:=(mem_ready.1 hr).1;rw[heq] at h1;rcases Nat.lt_or_ge i ls.size with h'|h'
    ·simp[h'] at h0 h1;rw[h0] at h1;cases h1
    ·simp[Array.getElem?_eq_none h'] at h1
   have hap:=hfree j oj hoj hji hjun hnot;obtain⟨g1,g2,g3⟩:=Oper.apart_spec hap;have h2:=x0 hoj hap (fun cs b=>hsel j oj cs b hoj) h1
   have hfree': ∀k ok,ops[k]? =some ok->k≠i->(ls.setIfInBounds j true).getD k true=false->
    (∀e∈ok.after,Region.binds .any e=true->e.on≠i)->oi.apart ops ok=true:=fun k ok hk hki hun hno=>by
    refine hfree k ok hk hki ?_ hno;by_cases hjk:j=k
    ·subst hjk;exact hjun
    ·rw[getD_set_ne true hjk] at hun;exact hun
   have hun':(ls.setIfInBounds j true).getD i true=false:=by rw[getD_set_ne true hji];exact hun
   refine oG (fun s' a' w' h3=> ?_) h2;obtain⟨⟨u,rfl⟩,h4,h5⟩:=h3;have hS':S (ls.setIfInBounds j true) s' w':=by
    rw[hSi,Array.setIfInBounds_comm _ _ hji];exact h4
   refine⟨hS',ih (ls.setIfInBounds j true) s' _ w' (hD.step hj) hfree' (ready_mono hr (Ne.symm hji)) (fun ls' d' u' s=>(hy ls' d' u' s).of_same (execOp_put oi (fun cs b=>hsel i oi cs b hi) a oj.dst u g3) (wanted_put oi a oj.dst u g3)) hS' ?_⟩;rw[Array.setIfInBounds_comm _ _ hji];exact h5
theorem jo (hSR: ∀ls s x y,S ls s x->F.R s x y->S ls s y) (hQR: ∀s a x y,Q s .normal a x->F.R s x y->Q s .normal a y) {i:Nat} {oi:Oper} {v:Value} {fuel:Nat} {ls:Array Bool} {s:σ} {a:Act} {w:World} (hi:ops[i]? =some oi)
 (hs:Region.noSelect ops=true) (hf:Region.free .any ops ls i=true) (hr:(Region.ready .any ops ls).contains i=true) (hD:Down ops ls) (hSi: ∀ls s w,S ls s w↔S (ls.setIfInBounds i true) s w)
 (hy:YY F P fn ops S i oi v a) (hS:S ls s w) (h:AnyY F P main fn ops S Q nf fuel (ls.setIfInBounds i true) s (a.put oi.dst v) w):AnyY F P main fn ops S Q nf (fuel+1) ls s a w:=
 qN hSR hQR hi (Region.noSelect_spec hs) hSi fuel ls s a w hD (Region.free_spec hi hf) (by simpa using hr) hy hS h
theorem iw {rs:List Nat}{fuel:Nat}{ls:Array Bool}{s:σ}{a:Act}{w:World}(hr:Region.ready .any ops ls=rs)(hne:rs≠[])
 (h: ∀i∈rs,OpX F P main fn ops nf i (fun s' a' w'=>S (ls.setIfInBounds i true) s' w'/\AnyY F P main fn ops S Q nf fuel (ls.setIfInBounds i true) s' a' w') s a w):AnyY F P main fn ops S Q nf (fuel+1) ls s a w:=
 ⟨fun h0=>absurd (hr▸h0) hne,hr▸h⟩
theorem lZ {ls:Array Bool}{s:σ}{a:Act}{w:World}(hr:Region.ready .any ops ls=[])(h:Q s .normal a w): ∀fuel,AnyY F P main fn ops S Q nf fuel ls s a w
 |0=>⟨hr,h⟩
 |_+1=>⟨fun _=>h,fun i hi=>by rw[hr] at hi;cases hi⟩
theorem kL {s:σ}(hd:LetsDraw (F.D s)){id:Nat}{a:Act}{w:World}(hm:P.follows .mixedOrders=true)
 (h: ∀w₁,F.R s w w₁->AnyY F P main fn ops S Q nf ops.size (Array.replicate ops.size false) s a {w₁ with drawn:=w₁.drawn+1}):wpX F P main fn (Code.region id ops true) (ops.size*(nf+3)+1+1) s Q a w:=
 fun b k cs m hb hk hc=>Goes.step rfl fun w₁ h₁=>by
  rw[stepG_region_draw];refine⟨hd _, ?_⟩;have:=qM ops.size (w₁.tape w₁.drawn (.order b.fn id)) _ s a _ (h w₁ h₁) b k cs m hb hk hc;simp only[Region.schedule,hm,Bool.true_or,if_true];exact this
end
section
variable {σ:Type}{F:Fam σ}(Δ: ∀s,Dom (F.R s) (F.D s)) (P:Program) (main:Bool) (fn:FuncId) (ops:Array Oper) (Q:σ->Exit->Act->Frag->Prop) (nf:Nat)
def Pre (R L0:Frag)(e:Nat)(s0:σ)(ls:Array Bool)(s:σ)(L:Frag):Prop:=s=s0/\(∀t∈R,t∈L)/\(ls.getD e true=false-> ∀t∈L0,t∈L)
def AnyL (R L0:Frag)(e:Nat)(s0:σ)(fuel:Nat)(ls:Array Bool)(s:σ)(a:Act)(L:Frag):Prop:=
 Down ops ls-> ∀w,(Δ s).Own L w->AnyY F P main fn ops (fun ls s w=> ∃L,(Δ s).Own L w/\Pre R L0 e s0 ls s L) (up Δ Q) nf fuel ls s a w
end
section
variable {σ:Type}{F:Fam σ}{Δ: ∀s,Dom (F.R s) (F.D s)} {P:Program} {main:Bool} {fn:FuncId} {ops:Array Oper} {Q:σ->Exit->Act->Frag->Prop} {nf:Nat} {R L0:Frag} {e:Nat} {s0 s:σ} {fuel:Nat} {ls:Array Bool} {a:Act} {L:Frag}
theorem oW {ls:Array Bool}{s:σ}{x y:World}(h: ∃L,(Δ s).Own L x/\Pre R L0 e s0 ls s L)(r:F.R s x y): ∃L,(Δ s).Own L y/\Pre R L0 e s0 ls s L:=by
 obtain⟨L,h1,h2⟩:=h;exact⟨L,(Δ s).rely h1 r,h2⟩
theorem x6 {s:σ}{x:Exit}{a:Act}{w w₁:World}(h:up Δ Q s x a w)(r:F.R s w w₁):up Δ Q s x a w₁:=by
 obtain⟨L,h1,h2⟩:=h;exact⟨L,(Δ s).rely h1 r,h2⟩
theorem va (R:Frag)(e:Nat){id:Nat}(hm:P.follows .mixedOrders=true)(h:AnyL Δ P main fn ops Q nf R L e s ops.size (Array.replicate ops.size false) s a L):wpL Δ P main fn (.region id ops true) (ops.size*(nf+3)+1+1) s Q a L:=by
 intro w hO;refine kL (S:=fun ls s' w=> ∃L',(Δ s').Own L' w/\Pre R L e s ls s' L') (Δ s).ld hm fun w₁ h₁=>h kK _ ((Δ s).draw ((Δ s).rely hO h₁)).1
theorem kM: ∀(s:σ)(a:Act)(x y:World),up Δ Q s .normal a x->F.R s x y->up Δ Q s .normal a y:=fun _ _ _ _ h r=>x6 h r
theorem l0 {i:Nat}{oi:Oper}{v:Value}{Lr:Frag}(hi:ops[i]? =some oi)(hs:Region.noSelect ops=true)(hf:Region.free .any ops ls i=true)(hr:(Region.ready .any ops ls).contains i=true)(hie:i≠e)(hr0:Lr=R\/(Lr=L0/\hangs ops ops.size e i=true))
 (hP:Pre R L0 e s0 ls s L) (hw:Region.wanted oi (yielded ops a.tmps)=true) (hy:Yld P Lr (execOp a.eval oi) v)
 (h:AnyL Δ P main fn ops Q nf R L0 e s0 fuel (ls.setIfInBounds i true) s (a.put oi.dst v) L):AnyL Δ P main fn ops Q nf R L0 e s0 (fuel+1) ls s a L:=by
 intro hD w hO;have hrm:i∈Region.ready .any ops ls:=by simpa using hr
 refine jo (fun _ _ _ _ h r=>oW h r) kM hi hs hf hr hD (fun ls s w=> ?_) (fun ls' hD' hun s'=> .inl ⟨hw,fun w' ⟨L',hO',h1,h2,h3⟩=> ?_⟩) ⟨L,hO,hP⟩ (h (hD.step hrm) w hO)
 ·refine exists_congr fun L'=>and_congr_right fun _=> ?_;unfold Pre;rw[getD_set_ne true hie]
 ·have hsub: ∀t∈Lr,t∈L':=by
   rcases hr0 with rfl|⟨rfl,hh⟩
   ·exact h2
   ·refine h3 ?_;cases he:ls'.getD e true with
    |false=>rfl
    |true=>
     have:=hD'.hangs _ _ _ hh he;rw[m6 this] at hun;cases hun
  obtain⟨q1,q2⟩:=m0 (Δ s') hO' (hy.mono hsub);exact⟨q1,(Δ s').dd ((Δ s').gr w') fun e he=>q2 e (mem_listed he)⟩
theorem tv {i:Nat}{oi:Oper}(hi:ops[i]? =some oi)(hs:Region.noSelect ops=true)(hf:Region.free .any ops ls i=true)(hr:(Region.ready .any ops ls).contains i=true)(hie:i≠e)
 (hP:Pre R L0 e s0 ls s L) (hw:Region.wanted oi (yielded ops a.tmps)=false)
 (h:AnyL Δ P main fn ops Q nf R L0 e s0 fuel (ls.setIfInBounds i true) s (a.put oi.dst undef) L):AnyL Δ P main fn ops Q nf R L0 e s0 (fuel+1) ls s a L:=by
 intro hD w hO;have hrm:i∈Region.ready .any ops ls:=by simpa using hr
 refine jo (fun _ _ _ _ h r=>oW h r) kM hi hs hf hr hD (fun ls s w=> ?_) (fun ls' hD' hun s'=> .inr ⟨hw,rfl⟩) ⟨L,hO,hP⟩ (h (hD.step hrm) w hO);refine exists_congr fun L'=>and_congr_right fun _=> ?_;unfold Pre;rw[getD_set_ne true hie]
theorem rN {i:Nat}{o:Oper}(hr:Region.ready .any ops ls=[i])(hi:ops[i]? =some o)(hw:Region.wanted o (yielded ops a.tmps)=true)
 (h:wpS P (Δ s).New (execOp a.eval o) (fun x L'=>onNext o a (fun a'=>Pre R L0 e s0 (ls.setIfInBounds i true) s L'/\AnyL Δ P main fn ops Q nf R L0 e s0 fuel (ls.setIfInBounds i true) s a' L') x) L):AnyL Δ P main fn ops Q nf R L0 e s0 (fuel+1) ls s a L:=by
 intro hD w hO;have hrm:i∈Region.ready .any ops ls:=by simp[hr]
 refine iw hr (by simp) fun j hj=> ?_;obtain rfl:j=i:=by simpa using hj
 refine .inl ?_;unfold OpC;simp only[hi,hw,if_true];intro w₁ h₁;obtain⟨x,w',hrun,hg,he,L',hL,hx⟩:=qD (Δ s) ((Δ s).rely hO h₁) h;exact mY (Δ:=Δ) (s:=s) (KL:=fun a' L'=>Pre R L0 e s0 (ls.setIfInBounds j true) s L'/\AnyL Δ P main fn ops Q nf R L0 e s0 fuel (ls.setIfInBounds j true) s a' L') hrun hL hx fun a' k=>⟨(Δ s).dd hg fun e hm=>he e (mem_listed hm),⟨L',hL,k.1⟩,k.2 (hD.step hrm) _ hL⟩
theorem tw {i:Nat}{o:Oper}{f:FuncId}{args:Array Operand}{ats:Array TypeId}{Post:σ->Value->Frag->Prop}(hr:Region.ready .any ops ls=[i])(hi:ops[i]? =some o)(hw:Region.wanted o (yielded ops a.tmps)=true)
 (hop:o.op= .call {callee:= .value (.func f),args,argTypes:=ats}) (hcall:CallsL Δ P main f (args.map a.eval) nf s L Post)
 (h: ∀s' v L',Post s' v L'->Pre R L0 e s0 (ls.setIfInBounds i true) s' L'/\AnyL Δ P main fn ops Q nf R L0 e s0 fuel (ls.setIfInBounds i true) s' (a.put o.dst v) L'):AnyL Δ P main fn ops Q nf R L0 e s0 (fuel+1) ls s a L:=by
 intro hD w hO;have hrm:i∈Region.ready .any ops ls:=by simp[hr]
 refine iw hr (by simp) fun j hj=> ?_;obtain rfl:j=i:=by simpa using hj
 exact .inr ⟨o,f,args,ats,_,hi,hw,hop,hcall w hO,fun s' v w' ⟨L',hL,hp⟩=>⟨⟨L',hL,(h s' v L' hp).1⟩,(h s' v L' hp).2 (hD.step hrm) _ hL⟩⟩
theorem vb {i j:Nat}(hr:Region.ready .any ops ls=[i,j])
 (h1: ∀(w:World),(Δ s).Own L w->Down ops ls->OpX F P main fn ops nf i (fun s' a' w'=>(∃L',(Δ s').Own L' w'/\Pre R L0 e s0 (ls.setIfInBounds i true) s' L')/\AnyY F P main fn ops (fun ls s w=> ∃L,(Δ s).Own L w/\Pre R L0 e s0 ls s L) (up Δ Q) nf fuel (ls.setIfInBounds i true) s' a' w') s a w)
 (h2: ∀(w:World),(Δ s).Own L w->Down ops ls->OpX F P main fn ops nf j (fun s' a' w'=>(∃L',(Δ s').Own L' w'/\Pre R L0 e s0 (ls.setIfInBounds j true) s' L')/\AnyY F P main fn ops (fun ls s w=> ∃L,(Δ s).Own L w/\Pre R L0 e s0 ls s L) (up Δ Q) nf fuel (ls.setIfInBounds j true) s' a' w') s a w):
 AnyL Δ P main fn ops Q nf R L0 e s0 (fuel+1) ls s a L:=by
 intro hD w hO;refine iw hr (by simp) fun k hk=> ?_;simp only[List.mem_cons,List.not_mem_nil,or_false] at hk;rcases hk with rfl|rfl
 ·exact h1 w hO hD
 ·exact h2 w hO hD
theorem x7 (h:(L.map (·.1)).Nodup->AnyL Δ P main fn ops Q nf R L0 e s0 fuel ls s a L):AnyL Δ P main fn ops Q nf R L0 e s0 fuel ls s a L:=fun hD w hO=>h ((Δ s).nd hO) hD w hO
theorem tx (hr:Region.ready .any ops ls=[])(h:Q s .normal a L):AnyL Δ P main fn ops Q nf R L0 e s0 fuel ls s a L:=fun _ _ hO=>lZ hr ⟨L,hO,h⟩ fuel
end
abbrev Env:=List (Nat×Value)
def look:Env->Nat->Option Value
 |[],_=>none
 |(u,v)::ε,t=>if u=t then some v else look ε t
def ev (ε:Env):Operand->Option Value
 | .tmp t=>look ε t
 | .const v=>some v
 | .global g=>some (.pointer (some ⟨g,0,none⟩))
 | .func f=>some (.func (.func f) #[] #[])
structure Fits (N:Nat)(ε:Env)(a:Act):Prop where
 sz:a.tmps.size=N
 df:a.defers=[]
 at_: ∀t v,look ε t=some v->t<N/\a.tmps.getD t undef=v
def putE (d:Option Tmp)(v:Value)(ε:Env):Env:=match d with
 |some d=>(d,v)::ε
 |none=>ε
def dstOk (N:Nat):Option Tmp->Bool
 |some d=>decide (d<N)
 |none=>true
section
variable {N:Nat}{ε:Env}{a:Act}
theorem Fits.ev (h:Fits N ε a){x:Operand}{v:Value}(hx:Lo.ev ε x=some v):a.eval x=v:=by
 cases x with
 |tmp t=>exact(h.at_ t v hx).2
 |const u=>exact Option.some.inj hx
 |global g=>exact Option.some.inj hx
 |func f=>exact Option.some.inj hx
theorem Fits.put (h:Fits N ε a){d:Option Tmp}(hd:dstOk N d=true)(v:Value):Fits N (putE d v ε) (a.put d v):=by
 cases d with
 |none=>exact h
 |some d=>
  have hd':d<N:=by simpa [dstOk] using hd
  refine⟨by simpa [Act.put] using h.sz,h.df,fun t u ht=> ?_⟩;simp only[putE,look] at ht
  split at ht
  ·rename_i e;subst e;refine⟨hd', ?_⟩;rw[<-Option.some.inj ht];simp[Act.put,Array.getD_eq_getD_getElem?,h.sz,hd']
  ·rename_i e;obtain⟨h1,h2⟩:=h.at_ t u ht;refine⟨h1, ?_⟩;rw[<-h2];simp[Act.put,Array.getD_eq_getD_getElem?,Array.getElem?_setIfInBounds,e]
theorem Fits.sub (h:Fits N ε a){ε':Env}(hs:ε'.map (fun p=>look ε p.1)=ε'.map (fun p=>some p.2)):Fits N ε' a:=by
 refine⟨h.sz,h.df, ?_⟩
 induction ε' with
 |nil=>intro t v ht;cases ht
 |cons p ε' ih=>
  simp only[List.map_cons,List.cons.injEq] at hs;intro t v ht;simp only[look] at ht
  split at ht
  ·rename_i e;rw[<-e,<-Option.some.inj ht];exact h.at_ _ _ hs.1
  ·exact ih hs.2 t v ht
end
def wantedE (ops:Array Oper)(N:Nat)(ε:Env):Option (Nat×Bool)->Option Bool
 |none=>some true
 |some (j,want)=>match (ops[j]?).bind (·.dst) with
  |some d=>match look ε d with
   |some (.bool b)=>some (b==want)
   |_=>none
  |none=>none
theorem Fits.wanted {N:Nat}{ε:Env}{a:Act}(h:Fits N ε a){ops:Array Oper}{o:Oper}{b:Bool}(hw:wantedE ops N ε o.guard=some b):Region.wanted o (yielded ops a.tmps)=b:=by
 unfold Region.wanted;unfold wantedE at hw
 split at hw
 ·rename_i e;rw[e];exact Option.some.inj hw
 ·rename_i j want e;rw[e]
  split at hw<;>try cases hw
  rename_i d hd
  split at hw<;>try cases hw
  rename_i c hc;obtain⟨h1,h2⟩:=h.at_ _ _ hc;have h3:a.tmps[d]? =some (.bool c):=by
   have:d<a.tmps.size:=by rw[h.sz];exact h1
   simp[Array.getD_eq_getD_getElem?,this] at h2;simp[this,h2]
  have h4:yielded ops a.tmps j=some c:=by
   unfold yielded;rw[hd];simp[h3]
  show (yielded ops a.tmps j==some want)=(c==want);rw[h4];rfl
section
variable {σ:Type}
def thenE (K:σ->Env->Frag->Prop)(Q:σ->Exit->Env->Frag->Prop):σ->Exit->Env->Frag->Prop
 |s, .normal,a,L=>K s a L
 |s,e,a,L=>Q s e a L
def inBlockE (id:Nat)(Q:σ->Exit->Env->Frag->Prop):σ->Exit->Env->Frag->Prop
 |s, .exit id',a,L=>if id'=id then Q s .normal a L else Q s (.exit id') a L
 |s,e,a,L=>Q s e a L
def resE (g:Func)(ε:Env):Option Value:=match g.results.toList with
 |[]=>some (.tuple #[])
 |[.tmp t]=>look ε t
 |[.tmp t, .tmp u]=>match look ε t,look ε u with
  |some v,some w=>some (.tuple #[v,w])
  |_,_=>none
 |_=>none
def bodyE (g:Func)(Post:σ->Value->Frag->Prop):σ->Exit->Env->Frag->Prop
 |s, .normal,ε,L|s, .ret,ε,L=> ∃v,resE g ε=some v/\Post s v L
 |_,_,_,_=>False
end
section
variable {σ:Type}{F:Fam σ}(Δ: ∀s,Dom (F.R s) (F.D s)) (P:Program) (main:Bool) (fn:FuncId) (N:Nat)
def upE (Q:σ->Exit->Env->Frag->Prop):σ->Exit->Act->Frag->Prop:=fun s e a L=> ∃ε,Fits N ε a/\Q s e ε L
def wpE (c:Code)(n:Nat)(s:σ)(Q:σ->Exit->Env->Frag->Prop)(ε:Env)(L:Frag):Prop:= ∀a,Fits N ε a->wpL Δ P main fn c n s (upE N Q) a L
def OpsE (ops:Array Oper)(todo:List Nat)(n:Nat)(s:σ)(Q:σ->Exit->Env->Frag->Prop)(ε:Env)(L:Frag):Prop:= ∀a,Fits N ε a->OpsL Δ P main fn ops todo n s (upE N Q) a L
def AnyE (ops:Array Oper)(Q:σ->Exit->Env->Frag->Prop)(nf:Nat)(R L0:Frag)(e:Nat)(s0:σ)(fuel:Nat)(ls:Array Bool)(s:σ)(ε:Env)(L:Frag):Prop:= ∀a,Fits N ε a->AnyL Δ P main fn ops (upE N Q) nf R L0 e s0 fuel ls s a L
end
section
variable {σ:Type}{F:Fam σ}{Δ: ∀s,Dom (F.R s) (F.D s)} {P:Program} {main:Bool} {fn:FuncId} {N:Nat} {Q:σ->Exit->Env->Frag->Prop} {s:σ} {ε:Env} {L:Frag}
theorem oX {K:σ->Env->Frag->Prop}{K':σ->Act->Frag->Prop}(h: ∀s ε a L,Fits N ε a->K s ε L->K' s a L) {s:σ} {e:Exit} {a:Act} {L:Frag} (q:upE N (thenE K Q) s e a L):thenL K' (upE N Q) s e a L:=by
 obtain⟨ε,hf,q⟩:=q;cases e<;>first|exact h _ _ _ _ hf q|exact⟨ε,hf,q⟩
theorem oY {Q':σ->Exit->Env->Frag->Prop}{c:Code}{n:Nat}(h:wpE Δ P main fn N c n s Q ε L)(hq: ∀s e ε L,Q s e ε L->Q' s e ε L):wpE Δ P main fn N c n s Q' ε L:=
 fun a ha=>dV (h a ha) fun s e a L ⟨ε,hf,q⟩=>⟨ε,hf,hq _ _ _ _ q⟩
theorem iy {c:Code}{n n':Nat}(h:wpE Δ P main fn N c n s Q ε L)(hn:n<=n'):wpE Δ P main fn N c n' s Q ε L:=fun a ha=>oO (h a ha) hn
theorem l8 {ops:Array Oper}{todo:List Nat}{n n':Nat}(h:OpsE Δ P main fn N ops todo n s Q ε L)(hn:n<=n'):OpsE Δ P main fn N ops todo n' s Q ε L:=fun a ha=>s7 (h a ha) hn
theorem Ai {c:Code}{n:Nat}(h:(L.map (·.1)).Nodup->wpE Δ P main fn N c n s Q ε L):wpE Δ P main fn N c n s Q ε L:=fun a ha=>Ac fun hn=>h hn a ha
theorem j8 {ops:Array Oper}{todo:List Nat}{n:Nat}(h:(L.map (·.1)).Nodup->OpsE Δ P main fn N ops todo n s Q ε L):OpsE Δ P main fn N ops todo n s Q ε L:=fun a ha=>xR fun hn=>h hn a ha
theorem x9 {c:Code}{n:Nat}(ε':Env)(hs:ε'.map (fun p=>look ε p.1)=ε'.map (fun p=>some p.2):=by rfl)(h:wpE Δ P main fn N c n s Q ε' L):wpE Δ P main fn N c n s Q ε L:=fun a ha=>h a (ha.sub hs)
def kn (ε ε':Env):Prop:=ε'.map (fun p=>look ε p.1)=ε'.map (fun p=>some p.2)
theorem aN {c:Code}{n:Nat}{ε':Env}(hs:kn ε ε')(h:wpE Δ P main fn N c n s Q ε' L):wpE Δ P main fn N c n s Q ε L:=x9 ε' hs h
theorem au {x y:Code}{n₁ n₂:Nat}(h:wpE Δ P main fn N x n₁ s (thenE (fun s' ε' L'=>wpE Δ P main fn N y n₂ s' Q ε' L') Q) ε L):wpE Δ P main fn N (.seq x y) (n₁+n₂+1) s Q ε L:=
 fun a ha=>xS (dV (h a ha) fun _ _ _ _ q=>oX (fun _ _ a _ hf k=>k a hf) q)
theorem cO {x y:Code}{n₁ n₂:Nat}(ε':Env)(h1:wpE Δ P main fn N x n₁ s (thenE (fun s' ε'' L'=>s=s'/\L=L'/\kn ε'' ε') Q) ε L)(h2:wpE Δ P main fn N y n₂ s Q ε' L):wpE Δ P main fn N x n₁ s (thenE (fun s' ε' L'=>wpE Δ P main fn N y n₂ s' Q ε' L') Q) ε L:=
 oY h1 fun s' e ε'' L' q=>by
  cases e with
  |normal=>obtain⟨rfl,rfl,hk⟩:=q;exact aN hk h2
  |_=>exact q
theorem qO {c:Operand}{x y:Code}(t:Bool){n:Nat}(hc:ev ε c=some (.bool t))(h:wpE Δ P main fn N (if t then x else y) n s Q ε L):wpE Δ P main fn N (.cond c x y) (n+1) s Q ε L:=fun a ha=>uT (ha.ev hc) (h a ha)
theorem aT {c:Operand}{x y:Code}{t:Bool}{n m:Nat}(hc:ev ε c=some (.bool t):=by rfl)(hx:t=true->wpE Δ P main fn N x n s Q ε L)(hy:t=false->wpE Δ P main fn N y m s Q ε L):wpE Δ P main fn N (.cond c x y) (max n m+1) s Q ε L:=by
 refine qO t hc ?_;cases t with
 |true=>exact iy (hx rfl) (Nat.le_max_left _ _)
 |false=>exact iy (hy rfl) (Nat.le_max_right _ _)
theorem bv {c:Operand}{x y:Code}{n:Nat}(hc:ev ε c=some (.bool true):=by rfl)(h:wpE Δ P main fn N x n s Q ε L):wpE Δ P main fn N (.cond c x y) (n+1) s Q ε L:=qO true hc h
theorem aE {c:Operand}{x y:Code}{n:Nat}(hc:ev ε c=some (.bool false):=by rfl)(h:wpE Δ P main fn N y n s Q ε L):wpE Δ P main fn N (.cond c x y) (n+1) s Q ε L:=qO false hc h
theorem aC {id:Nat}{c:Code}{n:Nat}(h:wpE Δ P main fn N c n s (inBlockE id Q) ε L):wpE Δ P main fn N (.block id c) (n+2) s Q ε L:=
 fun a ha=>s8 (dV (h a ha) fun s' e a' L' ⟨ε',hf,q⟩=>by
  cases e with
  |exit id'=>
   simp only[inBlockE] at q;simp only[inBlockL]
   split
   ·rename_i e;rw[if_pos e] at q;exact⟨ε',hf,q⟩
   ·rename_i e;rw[if_neg e] at q;exact⟨ε',hf,q⟩
  |_=>exact⟨ε',hf,q⟩)
theorem aB (h:Q s .normal ε L):wpE Δ P main fn N .skip 1 s Q ε L:=fun _ ha=>uU ⟨ε,ha,h⟩
theorem aK (h:Q s .ret ε L):wpE Δ P main fn N .ret 1 s Q ε L:=fun _ ha=>xT ⟨ε,ha,h⟩
theorem bf {id:Nat}(h:Q s (.exit id) ε L):wpE Δ P main fn N (.exit id) 1 s Q ε L:=fun _ ha=>uV ⟨ε,ha,h⟩
theorem aq {id:Nat}{ops:Array Oper}{n:Nat}(h:OpsE Δ P main fn N ops (List.range ops.size) n s Q ε L):wpE Δ P main fn N (.region id ops false) (n+1) s Q ε L:=fun a ha=>qE (h a ha)
theorem aa {id n n₂:Nat}{ops:Array Oper}{y:Code}(h:OpsE Δ P main fn N ops (List.range ops.size) n s (thenE (fun s' ε' L'=>wpE Δ P main fn N y n₂ s' Q ε' L') Q) ε L):wpE Δ P main fn N (.seq (.region id ops false) y) (n+1+n₂+1) s Q ε L:=au (aq h)
theorem ai {ops:Array Oper}(h:Q s .normal ε L):OpsE Δ P main fn N ops [] 1 s Q ε L:=fun _ ha=>uX ⟨ε,ha,h⟩
theorem bg {c:Code}{n:Nat}(I:Nat->σ->Env->Frag->Prop)(k:Nat)(hI:I k s ε L)(h: ∀k s ε L,I k s ε L->wpE Δ P main fn N c n s (thenE (fun s' ε' L'=> ∃k',k'<k/\I k' s' ε' L') Q) ε L):
 wpE Δ P main fn N (.loop c) ((k+1)*(n+1)) s Q ε L:=
 fun a ha=>uW (fun k s a L=> ∃ε,Fits N ε a/\I k s ε L) (fun k s a L ⟨ε,hf,hi⟩=>dV (h k s ε L hi a hf) fun _ _ _ _ q=>oX (fun _ ε' _ _ hf ⟨k',hk,hi⟩=>⟨k',hk,ε',hf,hi⟩) q) k ⟨ε,ha,hI⟩
theorem ye {g:Func}{a:Act}{v:Value}(hf:Fits N ε a)(h:resE g ε=some v):ResultsC P g a.tmps v:=by
 unfold resE at h
 split at h
 ·rename_i e;rw[<-Option.some.inj h];exact resultsC_none (Array.ext' e) _
 ·rename_i t e;rw[<-(hf.at_ _ _ h).2];exact resultsC_tmp (Array.ext' e) _
 ·rename_i t u e
  split at h
  ·rename_i h1 h2;rw[<-Option.some.inj h,<-(hf.at_ _ _ h1).2,<-(hf.at_ _ _ h2).2];exact resultsC_tmp2 (Array.ext' e) _
  ·cases h
 ·cases h
def argsAt:Nat->List Value->Env
 |_,[]=>[]
 |k,v::vs=>(k,v)::argsAt (k+1) vs
def args (vs:List Value):Env:=argsAt 0 vs
theorem jp: ∀(vs:List Value)(k t:Nat)(v:Value),look (argsAt k vs) t=some v->k<=t/\vs[t-k]? =some v
 |[],_,_,_,h=>by cases h
 |u::vs,k,t,v,h=>by
  simp only[argsAt,look] at h
  split at h
  ·rename_i e;subst e;simpa using h
  ·rename_i e;obtain⟨h1,h2⟩:=jp vs (k+1) t v h;refine⟨by omega, ?_⟩;rw[show t-k=(t-(k+1))+1 by omega];simpa using h2
theorem aF (N:Nat){f:FuncId}{g:Func}{c:Code}{vs:List Value}{n:Nat}{Post:σ->Value->Frag->Prop}(hf:P.funcs[f]? =some g)(hN:g.ntmps=N)(hname:(g.name== "runtime.NumGoroutine")=false:=by rfl)(hb:g.body=some c:=by rfl)(hl:Nat.ble vs.length N=true:=by rfl)(h:wpE Δ P main f N c n s (bodyE g Post) (args vs) L):CallsL Δ P main f vs.toArray n s L Post:=by
 have hl:=Nat.le_of_ble_eq_true hl;subst hN;refine tf hf hname hb (dV (h _ ⟨by simp;omega,rfl,fun t v ht=> ?_⟩) fun s' e a' L' ⟨ε',hf,q⟩=> ?_)
 ·obtain⟨_,h2⟩:=jp vs 0 t v ht;have hlt:=(List.getElem?_eq_some_iff.1 h2).1;simp only[Nat.sub_zero] at h2 hlt;refine⟨by omega, ?_⟩;simp only[Array.getD_eq_getD_getElem?,Array.getElem?_append,List.size_toArray,hlt,if_true,List.getElem?_toArray,h2,Option.getD_some]
 ·cases e<;>first|exact⟨hf.df,q.choose,ye hf q.choose_spec.1,q.choose_spec.2⟩|exact q
def EY (P:Program)(N:Nat)(ε:Env)(L:Frag)(o:Oper)(v:Value):Prop:= ∀a,Fits N ε a->Yld P L (execOp a.eval o) v
def EO (P:Program)(New:Obj->Prop)(N:Nat)(ε:Env)(L:Frag)(o:Oper)(post:Value->Frag->Prop):Prop:= ∀a,Fits N ε a->wpS P New (execOp a.eval o) (fun x L'=>match x with| .value v=>post v L'| .skip=>post undef L'|_=>False) L
theorem oy {ops:Array Oper}{i:Nat}{rest:List Nat}{d:Option Tmp}{k:Op}{ot:TypeId}{ps:String}{af:Array Edge}{g:Option (Nat×Bool)}{n:Nat}{v:Value}(ho:ops[i]? =some ⟨d,k,ot,ps,af,g⟩)(hy:EY P N ε L ⟨d,k,ot,ps,af,g⟩ v)(hw:wantedE ops N ε g=some true:=by rfl)(hd:dstOk N d=true:=by rfl)(h:OpsE Δ P main fn N ops rest n s Q (putE d v ε) L):OpsE Δ P main fn N ops (i::rest) (n+1) s Q ε L:=
 fun a ha=>lX ho (ha.wanted hw) ((hy a ha).go (h _ (ha.put hd v)))
theorem ou {ops:Array Oper}{i:Nat}{rest:List Nat}{d:Option Tmp}{k:Op}{ot:TypeId}{ps:String}{af:Array Edge}{g:Option (Nat×Bool)}{n:Nat}(ho:ops[i]? =some ⟨d,k,ot,ps,af,g⟩)(hw:wantedE ops N ε g=some false:=by rfl)(hd:dstOk N d=true:=by rfl)(h:OpsE Δ P main fn N ops rest n s Q (putE d undef ε) L):OpsE Δ P main fn N ops (i::rest) (n+1) s Q ε L:=
 fun a ha=>gO ho (ha.wanted hw) (h _ (ha.put hd undef))
theorem oe {ops:Array Oper}{i:Nat}{rest:List Nat}{d:Option Tmp}{k:Op}{ot:TypeId}{ps:String}{af:Array Edge}{g:Option (Nat×Bool)}{n:Nat}{post:Value->Frag->Prop}(ho:ops[i]? =some ⟨d,k,ot,ps,af,g⟩)(hy:EO P (Δ s).New N ε L ⟨d,k,ot,ps,af,g⟩ post)(hw:wantedE ops N ε g=some true:=by rfl)(hd:dstOk N d=true:=by rfl)(h: ∀v L',post v L'->OpsE Δ P main fn N ops rest n s Q (putE d v ε) L'):OpsE Δ P main fn N ops (i::rest) (n+1) s Q ε L:=
 fun a ha=>lX ho (ha.wanted hw) (cr (fun x L' q=>by cases x<;>first|exact h _ _ q _ (ha.put hd _)|exact q.elim) _ _ (hy a ha))
theorem oc {ops:Array Oper}{i:Nat}{rest:List Nat}{d:Option Tmp}{k:Op}{ot:TypeId}{ps:String}{af:Array Edge}{g:Option (Nat×Bool)}{f:FuncId}{args:Array Operand}{ats:Array TypeId}{vs:List Value}{nf n:Nat}{Post:σ->Value->Frag->Prop}
 (ho:ops[i]? =some ⟨d,k,ot,ps,af,g⟩) (hop:k= .call {callee:= .value (.func f),args,argTypes:=ats}) (ha:args.toList.map (ev ε)=vs.map some) (hcall:CallsL Δ P main f vs.toArray nf s L Post)
  (hw:wantedE ops N ε g=some true:=by rfl) (hd:dstOk N d=true:=by rfl) (h: ∀s' v L',Post s' v L'->OpsE Δ P main fn N ops rest n s' Q (putE d v ε) L'):OpsE Δ P main fn N ops (i::rest) (n+nf+3) s Q ε L:=by
 intro a hf;have e:args.map a.eval=vs.toArray:=by
  apply Array.ext';simp only[Array.toList_map];have: ∀(l:List Operand)(vs:List Value),l.map (ev ε)=vs.map some->l.map a.eval=vs:=by
   intro l
   induction l with
   |nil=>intro vs h;cases vs<;>simp_all
   |cons x l ih=>
    intro vs h;cases vs with
    |nil=>simp at h
    |cons v vs=>
     simp only[List.map_cons,List.cons.injEq] at h⊢;exact⟨hf.ev h.1,ih vs h.2⟩
  exact this _ _ ha
 exact tg ho (hf.wanted hw) hop (by rw[e];exact hcall) fun s' v L' hp=>h s' v L' hp _ (hf.put hd v)
theorem br {id:Nat}{ops:Array Oper}(R:Frag)(e:Nat){nf:Nat}(hm:P.follows .mixedOrders=true:=by first|rfl|kernel_rfl)(h:AnyE Δ P main fn N ops Q nf R L e s ops.size (Array.replicate ops.size false) s ε L):wpE Δ P main fn N (.region id ops true) (ops.size*(nf+3)+1+1) s Q ε L:=
 fun a ha=>va R e hm (h a ha)
theorem bA {id:Nat}{ops:Array Oper}(hm:P.follows .mixedOrders=true:=by first|rfl|kernel_rfl)(h:AnyE Δ P main fn N ops Q 0 L L 1000000 s ops.size (Array.replicate ops.size false) s ε L):wpE Δ P main fn N (.region id ops true) (ops.size*(0+3)+1+1) s Q ε L:=br L 1000000 hm h
section
variable {ops:Array Oper}{nf:Nat}{R L0:Frag}{e:Nat}{s0:σ}{fuel:Nat}{ls:Array Bool}
theorem aj {R:Frag}(hR: ∀t∈R,t∈L):Pre R L e s ls s L:=⟨rfl,hR,fun _ _ h=>h⟩
theorem pI:Pre L L e s ls s L:=⟨rfl,fun _ h=>h,fun _ _ h=>h⟩
theorem cJ {R L0:Frag}(hR: ∀t∈R,t∈L) (h0: ∀t∈L0,t∈L):Pre R L0 e s ls s L:=⟨rfl,hR,fun _=>h0⟩
theorem aD {R L0:Frag}(hR: ∀t∈R,t∈L) (h:ls.getD e true=true:=by first|rfl|decide):Pre R L0 e s ls s L:=⟨rfl,hR,fun h'=>by rw[h] at h';cases h'⟩
theorem t0 (i:Nat){d:Option Tmp}{k:Op}{ot:TypeId}{ps:String}{af:Array Edge}{g:Option (Nat×Bool)}{v:Value}(ho:ops[i]? =some ⟨d,k,ot,ps,af,g⟩)(hy:EY P N ε L0 ⟨d,k,ot,ps,af,g⟩ v)(hP:Pre R L0 e s0 ls s L)
 (hs:Region.noSelect ops=true:=by kernel_rfl) (hf:Region.free .any ops ls i=true:=by kernel_rfl) (hr:(Region.ready .any ops ls).contains i=true:=by kernel_rfl) (hie:i≠e:=by decide) (hh:hangs ops ops.size e i=true:=by kernel_rfl) (hw:wantedE ops N ε g=some true:=by rfl) (hd:dstOk N d=true:=by rfl) (h:AnyE Δ P main fn N ops Q nf R L0 e s0 fuel (ls.setIfInBounds i true) s (putE d v ε) L):
 AnyE Δ P main fn N ops Q nf R L0 e s0 (fuel+1) ls s ε L:=
 fun a ha=>l0 ho hs hf hr hie (.inr ⟨rfl,hh⟩) hP (ha.wanted hw) (hy a ha) (h _ (ha.put hd v))
theorem tr (i:Nat){d:Option Tmp}{k:Op}{ot:TypeId}{ps:String}{af:Array Edge}{g:Option (Nat×Bool)}{v:Value}(ho:ops[i]? =some ⟨d,k,ot,ps,af,g⟩)(hy:EY P N ε R ⟨d,k,ot,ps,af,g⟩ v)(hP:Pre R L0 e s0 ls s L)
 (hs:Region.noSelect ops=true:=by kernel_rfl) (hf:Region.free .any ops ls i=true:=by kernel_rfl) (hr:(Region.ready .any ops ls).contains i=true:=by kernel_rfl) (hie:i≠e:=by decide) (hw:wantedE ops N ε g=some true:=by rfl) (hd:dstOk N d=true:=by rfl) (h:AnyE Δ P main fn N ops Q nf R L0 e s0 fuel (ls.setIfInBounds i true) s (putE d v ε) L):
 AnyE Δ P main fn N ops Q nf R L0 e s0 (fuel+1) ls s ε L:=
 fun a ha=>l0 ho hs hf hr hie (.inl rfl) hP (ha.wanted hw) (hy a ha) (h _ (ha.put hd v))
theorem tu (i:Nat){d:Option Tmp}{k:Op}{ot:TypeId}{ps:String}{af:Array Edge}{g:Option (Nat×Bool)}(ho:ops[i]? =some ⟨d,k,ot,ps,af,g⟩)(hP:Pre R L0 e s0 ls s L)
 (hs:Region.noSelect ops=true:=by kernel_rfl) (hf:Region.free .any ops ls i=true:=by kernel_rfl) (hr:(Region.ready .any ops ls).contains i=true:=by kernel_rfl) (hie:i≠e:=by decide) (hw:wantedE ops N ε g=some false:=by rfl) (hd:dstOk N d=true:=by rfl) (h:AnyE Δ P main fn N ops Q nf R L0 e s0 fuel (ls.setIfInBounds i true) s (putE d undef ε) L):
 AnyE Δ P main fn N ops Q nf R L0 e s0 (fuel+1) ls s ε L:=
 fun a ha=>tv ho hs hf hr hie hP (ha.wanted hw) (h _ (ha.put hd undef))
theorem to (i:Nat){d:Option Tmp}{k:Op}{ot:TypeId}{ps:String}{af:Array Edge}{g:Option (Nat×Bool)}{v:Value}(ho:ops[i]? =some ⟨d,k,ot,ps,af,g⟩)(hy:EY P N ε L ⟨d,k,ot,ps,af,g⟩ v)(hP:Pre R L0 e s0 (ls.setIfInBounds i true) s L)
 (hr:Region.ready .any ops ls=[i]:=by kernel_rfl) (hw:wantedE ops N ε g=some true:=by rfl) (hd:dstOk N d=true:=by rfl) (h:AnyE Δ P main fn N ops Q nf R L0 e s0 fuel (ls.setIfInBounds i true) s (putE d v ε) L):AnyE Δ P main fn N ops Q nf R L0 e s0 (fuel+1) ls s ε L:=
 fun a ha=>rN hr ho (ha.wanted hw) ((hy a ha).go ⟨hP,h _ (ha.put hd v)⟩)
theorem te {i:Nat}{d:Option Tmp}{k:Op}{ot:TypeId}{ps:String}{af:Array Edge}{g:Option (Nat×Bool)}{post:Value->Frag->Prop}(ho:ops[i]? =some ⟨d,k,ot,ps,af,g⟩)(hy:EO P (Δ s).New N ε L ⟨d,k,ot,ps,af,g⟩ post)
 (hr:Region.ready .any ops ls=[i]:=by kernel_rfl) (hw:wantedE ops N ε g=some true:=by rfl) (hd:dstOk N d=true:=by rfl) (h: ∀v L',post v L'->Pre R L0 e s0 (ls.setIfInBounds i true) s L'/\AnyE Δ P main fn N ops Q nf R L0 e s0 fuel (ls.setIfInBounds i true) s (putE d v ε) L'):AnyE Δ P main fn N ops Q nf R L0 e s0 (fuel+1) ls s ε L:=
 fun a ha=>rN hr ho (ha.wanted hw) (cr (fun x L' q=>by cases x<;>first|exact⟨(h _ _ q).1,(h _ _ q).2 _ (ha.put hd _)⟩|exact q.elim) _ _ (hy a ha))
theorem tc (i:Nat){d:Option Tmp}{k:Op}{ot:TypeId}{ps:String}{af:Array Edge}{g:Option (Nat×Bool)}{f:FuncId}{args:Array Operand}{ats:Array TypeId}{vs:List Value}{Post:σ->Value->Frag->Prop}(ho:ops[i]? =some ⟨d,k,ot,ps,af,g⟩)(hop:k= .call {callee:= .value (.func f),args,argTypes:=ats})(ha:args.toList.map (ev ε)=vs.map some)(hcall:CallsL Δ P main f vs.toArray nf s L Post)
 (hr:Region.ready .any ops ls=[i]:=by kernel_rfl) (hw:wantedE ops N ε g=some true:=by rfl) (hd:dstOk N d=true:=by rfl) (h: ∀s' v L',Post s' v L'->Pre R L0 e s0 (ls.setIfInBounds i true) s' L'/\AnyE Δ P main fn N ops Q nf R L0 e s0 fuel (ls.setIfInBounds i true) s' (putE d v ε) L'):AnyE Δ P main fn N ops Q nf R L0 e s0 (fuel+1) ls s ε L:=by
 intro a hf;have e':args.map a.eval=vs.toArray:=by
  apply Array.ext';simp only[Array.toList_map];have: ∀(l:List Operand)(vs:List Value),l.map (ev ε)=vs.map some->l.map a.eval=vs:=by
   intro l
   induction l with
   |nil=>intro vs h;cases vs<;>simp_all
   |cons x l ih=>
    intro vs h;cases vs with
    |nil=>simp at h
    |cons v vs=>
     simp only[List.map_cons,List.cons.injEq] at h⊢;exact⟨hf.ev h.1,ih vs h.2⟩
  exact this _ _ ha
 exact tw hr ho (hf.wanted hw) hop (by rw[e'];exact hcall) fun s' v L' hp=>⟨(h s' v L' hp).1,(h s' v L' hp).2 _ (hf.put hd v)⟩
theorem bd (h:(L.map (·.1)).Nodup->AnyE Δ P main fn N ops Q nf R L0 e s0 fuel ls s ε L):AnyE Δ P main fn N ops Q nf R L0 e s0 fuel ls s ε L:=fun a ha=>x7 fun hn=>h hn a ha
theorem td (hr:Region.ready .any ops ls=[]:=by kernel_rfl)(h:Q s .normal ε L):AnyE Δ P main fn N ops Q nf R L0 e s0 fuel ls s ε L:=fun _ ha=>tx hr ⟨ε,ha,h⟩
end
end
section
variable {P:Program}{N:Nat}{ε:Env}{L:Frag}{d:Option Tmp}{ty:TypeId}{ps:String}{af:Array Edge}{g:Option (Nat×Bool)}
theorem ag {x:Operand}{v:Value}(hx:ev ε x=some v:=by rfl):EY P N ε L ⟨d, .move x,ty,ps,af,g⟩ v:=fun _ ha=>(ha.ev hx)▸Ae
theorem bR {x:Operand}{v:Value}(hx:ev ε x=some v:=by rfl):EY P N ε L ⟨d, .assign x,ty,ps,af,g⟩ v:=fun _ ha=>(ha.ev hx)▸uZ
theorem av {x:Operand}{a:Addr}(hx:ev ε x=some (.pointer (some a)):=by rfl):EY P N ε L ⟨d, .nilCheck x,ty,ps,af,g⟩ (.pointer (some a)):=fun _ ha=>qH (ha.ev hx)
theorem aH {c x y:Operand}{t:Bool}{v w:Value}(hc:ev ε c=some (.bool t):=by rfl)(hx:ev ε x=some v:=by rfl)(hy:ev ε y=some w:=by rfl):EY P N ε L ⟨d, .pick c x y,ty,ps,af,g⟩ (if t then v else w):=fun _ ha=>(ha.ev hx)▸(ha.ev hy)▸Af (ha.ev hc)
theorem ak {x:Operand}{s f b i off:Nat}(hx:ev ε x=some (.pointer (some ⟨b,i,none⟩)):=by rfl)(hf:fieldOff P s f=some off:=by kernel_rfl):EY P N ε L ⟨d, .fieldAddr s x f,ty,ps,af,g⟩ (.pointer (some ⟨b,i+off,none⟩)):=fun _ ha=>oQ (ha.ev hx) hf
theorem aA {x:Operand}{t b i:Nat}{v:Value}(hx:ev ε x=some (.pointer (some ⟨b,i,none⟩)):=by rfl)(ht:aggAt P t=some false:=by kernel_rfl)
 (hv:At L b i v:=by first|exact At.at (n:=0) rfl (by first|rfl|assumption)|exact At.at (n:=1) rfl (by first|rfl|assumption)|exact At.at (n:=2) rfl (by first|rfl|assumption)|exact At.at (n:=3) rfl (by first|rfl|assumption)|exact At.at (n:=4) rfl (by first|rfl|assumption)|exact At.at (n:=5) rfl (by first|rfl|assumption)|exact At.at (n:=6) rfl (by first|rfl|assumption)|assumption):
 EY P N ε L ⟨d, .load t x,ty,ps,af,g⟩ v:=fun _ ha=>Ag (ha.ev hx) ht hv
theorem bF {x:Operand}{t b i n:Nat}{cs:Array Value}{e:TypeId}{fr:Nat×Nat}{fl:Bool}(hx:ev ε x=some (.pointer (some ⟨b,i,none⟩)):=by rfl)(ht:aggAt P t=some true)(hs:sizeAt P t=some n)(hm:(b,fl, .cells cs e fr)∈L)(hi:i+n<=cs.size):
 EY P N ε L ⟨d, .load t x,ty,ps,af,g⟩ (.agg (cs.extract i (i+n))):=fun _ ha=>tl (ha.ev hx) ht hs hm hi
theorem aX {x ix:Operand}{t b o sz len off:Nat}{e:TypeId}{k:IntKind}{n:Int}(hu:P.underlying t=some (.array len e))(hs:sizeAt P e=some sz)(hx:ev ε x=some (.pointer (some ⟨b,o,none⟩)):=by rfl)(hi:ev ε ix=some (.int k n):=by rfl)(h0:0<=n:=by first|decide|omega|assumption)(h1:n<len:=by first|decide|omega|assumption|(simp;done))(ho:o+n.toNat*sz=off:=by((try simp only[Int.toNat_natCast,Nat.zero_add,Nat.mul_one,Nat.reduceAdd,Nat.reduceMul,Int.reduceToNat,Int.toNat_zero,Int.toNat_one,Nat.zero_mul,Nat.add_zero]);first|done|exact rfl)):
 EY P N ε L ⟨d, .indexAddr t x ix,ty,ps,af,g⟩ (.pointer (some ⟨b,off,none⟩)):=fun _ ha=>ho▸qI (ha.ev hx) (ha.ev hi) hu hs h0 h1
theorem bw {x ix:Operand}{t b o sz len cap off:Nat}{e:TypeId}{k:IntKind}{n:Int}(hu:P.underlying t=some (.slice e))(hs:sizeAt P e=some sz)(hx:ev ε x=some (.slice (some ⟨b,o,none⟩) len cap):=by rfl)(hi:ev ε ix=some (.int k n):=by rfl)(h0:0<=n:=by first|decide|omega|assumption)(h1:n<len:=by first|decide|omega|assumption|(simp;done))(ho:o+n.toNat*sz=off:=by((try simp only[Int.toNat_natCast,Nat.zero_add,Nat.mul_one,Nat.reduceAdd,Nat.reduceMul,Int.reduceToNat,Int.toNat_zero,Int.toNat_one,Nat.zero_mul,Nat.add_zero]);first|done|exact rfl)):
 EY P N ε L ⟨d, .indexAddr t x ix,ty,ps,af,g⟩ (.pointer (some ⟨b,off,none⟩)):=fun _ ha=>ho▸tn (ha.ev hx) (ha.ev hi) hu hs h0 h1
variable {t u:TypeId}{x y:Operand}{k:IntKind}{a b:Int}
theorem aS (hx:ev ε x=some (.int k a):=by rfl)(hy:ev ε y=some (.int k b):=by rfl):EY P N ε L ⟨d, .binOp .add t x y u,ty,ps,af,g⟩ (.int k (k.wrap (a+b))):=fun _ ha=>BR (ha.ev hx) (ha.ev hy)
theorem zx (hx:ev ε x=some (.int k a):=by rfl)(hy:ev ε y=some (.int k b):=by rfl):EY P N ε L ⟨d, .binOp .sub t x y u,ty,ps,af,g⟩ (.int k (k.wrap (a-b))):=fun _ ha=>BS (ha.ev hx) (ha.ev hy)
theorem jL (hx:ev ε x=some (.int k a):=by rfl)(hy:ev ε y=some (.int k b):=by rfl):EY P N ε L ⟨d, .binOp .mul t x y u,ty,ps,af,g⟩ (.int k (k.wrap (a*b))):=fun _ ha=>BT (ha.ev hx) (ha.ev hy)
theorem eP (hx:ev ε x=some (.int k a):=by rfl)(hy:ev ε y=some (.int k b):=by rfl)(hb:b≠0:=by first|decide|omega):EY P N ε L ⟨d, .binOp .rem t x y u,ty,ps,af,g⟩ (.int k (a.tmod b)):=fun _ ha=>BU (ha.ev hx) (ha.ev hy) hb
theorem Cg (hx:ev ε x=some (.int k a):=by rfl)(hy:ev ε y=some (.int k b):=by rfl)(hb:b≠0:=by first|decide|omega):EY P N ε L ⟨d, .binOp .quo t x y u,ty,ps,af,g⟩ (.int k (k.wrap (a.tdiv b))):=fun _ ha=>BV (ha.ev hx) (ha.ev hy) hb
theorem aI (hx:ev ε x=some (.int k a):=by rfl)(hy:ev ε y=some (.int k b):=by rfl):EY P N ε L ⟨d, .binOp .eql t x y u,ty,ps,af,g⟩ (.bool (a==b)):=fun _ ha=>BW (ha.ev hx) (ha.ev hy)
theorem dK (hx:ev ε x=some (.int k a):=by rfl)(hy:ev ε y=some (.int k b):=by rfl):EY P N ε L ⟨d, .binOp .neq t x y u,ty,ps,af,g⟩ (.bool (a !=b)):=fun _ ha=>BX (ha.ev hx) (ha.ev hy)
theorem bj (hx:ev ε x=some (.int k a):=by rfl)(hy:ev ε y=some (.int k b):=by rfl):EY P N ε L ⟨d, .binOp .lss t x y u,ty,ps,af,g⟩ (.bool (decide (a<b))):=fun _ ha=>BY (ha.ev hx) (ha.ev hy)
theorem l9 (hx:ev ε x=some (.int k a):=by rfl)(hy:ev ε y=some (.int k b):=by rfl):EY P N ε L ⟨d, .binOp .leq t x y u,ty,ps,af,g⟩ (.bool (decide (a<=b))):=fun _ ha=>BZ (ha.ev hx) (ha.ev hy)
theorem cx (hx:ev ε x=some (.int k a):=by rfl)(hy:ev ε y=some (.int k b):=by rfl):EY P N ε L ⟨d, .binOp .gtr t x y u,ty,ps,af,g⟩ (.bool (decide (b<a))):=fun _ ha=>Ca (ha.ev hx) (ha.ev hy)
theorem dt (hx:ev ε x=some (.int k a):=by rfl)(hy:ev ε y=some (.int k b):=by rfl):EY P N ε L ⟨d, .binOp .geq t x y u,ty,ps,af,g⟩ (.bool (decide (b<=a))):=fun _ ha=>Cb (ha.ev hx) (ha.ev hy)
theorem cF {s' t':TypeId}{ds:TypeDesc}{j:IntKind}{n:Int}(hx:ev ε x=some (.int j n):=by rfl)(hs:P.underlying s'=some ds:=by kernel_rfl)(ht:P.underlying t'=some (.int k):=by kernel_rfl):EY P N ε L ⟨d, .convert s' t' x,ty,ps,af,g⟩ (.int k (k.wrap n)):=fun _ ha=>Ah (ha.ev hx) hs ht
theorem cP {c:Bool}(hx:ev ε x=some (.bool c):=by rfl):EY P N ε L ⟨d, .unOp .not t x,ty,ps,af,g⟩ (.bool !c):=fun _ ha=>Cc (ha.ev hx)
theorem kN (hx:ev ε x=some (.int k a):=by rfl):EY P N ε L ⟨d, .unOp .neg t x,ty,ps,af,g⟩ (.int k (k.wrap (0-a))):=fun _ ha=>Cd (ha.ev hx)
theorem co {i:Nat}{vs:Array Value}{v:Value}(hx:ev ε x=some (.tuple vs):=by rfl)(hv:vs[i]? =some v:=by rfl):EY P N ε L ⟨d, .extract x i,ty,ps,af,g⟩ v:=fun _ ha=>tq (ha.ev hx) hv
theorem vc {f:Fn}{v:Value}(hx:ev ε x=some v:=by rfl):EY P N ε L ⟨d, .makeFunc f #[] #[x],ty,ps,af,g⟩ (.func f #[] #[v]):=fun _ ha=>by
 have:=kH (P:=P) (L:=L) (ρ:=Act.eval ‹_›) (d:=d) (ty:=ty) (ps:=ps) (af:=af) (g:=g) (f:=f) (c1:= #[]) (c2:= #[x]);simpa [ha.ev hx] using this
theorem qP {f:Fn}{v:Value}(hx:ev ε x=some v:=by rfl):EY P N ε L ⟨d, .makeFunc f #[x] #[],ty,ps,af,g⟩ (.func f #[v] #[]):=fun _ ha=>by
 have:=kH (P:=P) (L:=L) (ρ:=Act.eval ‹_›) (d:=d) (ty:=ty) (ps:=ps) (af:=af) (g:=g) (f:=f) (c1:= #[x]) (c2:= #[]);simpa [ha.ev hx] using this
theorem iz {v:Value}{ds:TypeDesc}(hi: ∀ms,ds≠ .interface ms) (hx:ev ε x=some v:=by rfl) (ht:P.underlying t=some ds:=by kernel_rfl):EY P N ε L ⟨d, .makeInterface t x,ty,ps,af,g⟩ (.iface t v):=fun _ ha=>(ha.ev hx)▸oS ht hi
theorem bt {ats:Array TypeId}{e:TypeId}{base:Option Addr}{len cap:Nat}(hx:ev ε x=some (.slice base len cap):=by rfl)(hu:P.underlying t=some (.slice e):=by kernel_rfl)(ha':ats[0]? =some t:=by rfl):EY P N ε L ⟨d, .call ⟨.builtin .len, #[x],ats⟩,ty,ps,af,g⟩ (.int .i64 len):=fun _ ha=>xU (ha.ev hx) ha' hu
theorem dO {ats:Array TypeId}{s':ByteArray}(hx:ev ε x=some (.string s'):=by rfl)(hu:P.underlying t=some .string:=by kernel_rfl)(ha':ats[0]? =some t:=by rfl):EY P N ε L ⟨d, .call ⟨.builtin .len, #[x],ats⟩,ty,ps,af,g⟩ (.int .i64 s'.size):=fun _ ha=>u3 (ha.ev hx) ha' hu
theorem Ci {ats:Array TypeId}{k':IntKind}(hx:ev ε x=some (.int k a):=by rfl)(hy:ev ε y=some (.int k' b):=by rfl):EY P N ε L ⟨d, .call ⟨.builtin .min, #[x,y],ats⟩,ty,ps,af,g⟩ (.int k (if b<a then b else a)):=fun _ ha=>Ce (ha.ev hx) (ha.ev hy)
theorem fN {e:TypeId}{p:Option Addr}(hx:ev ε x=some (.pointer p):=by rfl)(hy:ev ε y=some (.pointer none):=by rfl)(hu:P.underlying t=some (.pointer e):=by kernel_rfl):EY P N ε L ⟨d, .binOp .eql t x y u,ty,ps,af,g⟩ (.bool p.isNone):=fun _ ha=>xV (ha.ev hx) (ha.ev hy) hu
theorem vd {e:TypeId}{p:Option Addr}(hx:ev ε x=some (.pointer p):=by rfl)(hy:ev ε y=some (.pointer none):=by rfl)(hu:P.underlying t=some (.pointer e):=by kernel_rfl):EY P N ε L ⟨d, .binOp .neq t x y u,ty,ps,af,g⟩ (.bool !p.isNone):=fun _ ha=>xW (ha.ev hx) (ha.ev hy) hu
theorem Cj {e n b i b' i':Nat}{cs cs':Array Value}{ty1 ty1':TypeId}{fl fl':Bool}(h1:(b,fl, .cells cs ty1)∈L)(h2:(b',fl', .cells cs' ty1')∈L)(hx:ev ε x=some (.pointer (some ⟨b,i,none⟩)):=by rfl)(hy:ev ε y=some (.pointer (some ⟨b',i',none⟩)):=by rfl)(hu:P.underlying t=some (.pointer e):=by kernel_rfl)(hs:sizeAt P e=some (n+1):=by kernel_rfl):
 EY P N ε L ⟨d, .binOp .eql t x y u,ty,ps,af,g⟩ (.bool (decide ((b,i)=(b',i')))):=fun _ ha=>u5 (ha.ev hx) (ha.ev hy) hu hs h1 h2
theorem eQ {op:BinOp}{c:Bool}{ms:Array (String×TypeId)}{v:Value}(hv:(v= .nilIface/\c=true)\/(∃s w,v= .iface s w/\c=false))(hop:op= .eql\/op= .neq:=by first|exact .inl rfl|exact .inr rfl)(hx:ev ε x=some v:=by rfl)(hu:P.underlying t=some (.interface ms):=by kernel_rfl):
 EY P N ε L ⟨d, .binOp op t x (.const .nilIface) u,ty,ps,af,g⟩ (.bool (if op= .eql then c else !c)):=fun _ ha=>xX hop hv (ha.ev hx) rfl rfl hu
end
def SetAt (L:Frag)(b i:Nat)(v:Value)(L':Frag):Prop:= ∃n cs e,L[n]? =some (b,true, .cells cs e)/\i<cs.size/\L'=L.set n (b,true, .cells (cs.setIfInBounds i v) e)
theorem SetAt.h {L:Frag}{b i:Nat}{v:Value}{cs:Array Value}{e:TypeId}(hi:i<cs.size):SetAt ((b,true, .cells cs e)::L) b i v ((b,true, .cells (cs.setIfInBounds i v) e)::L):=⟨0,cs,e,rfl,hi,rfl⟩
theorem SetAt.t {L L':Frag}{b i:Nat}{v:Value}{x:Nat×Bool×Obj}(h:SetAt L b i v L'):SetAt (x::L) b i v (x::L'):=by
 obtain⟨n,cs,e,h1,h2,rfl⟩:=h;exact⟨n+1,cs,e,by simpa using h1,h2,rfl⟩
section
variable {σ:Type}{F:Fam σ}{Δ: ∀s,Dom (F.R s) (F.D s)} {P:Program} {main:Bool} {fn:FuncId} {N:Nat} {Q:σ->Exit->Env->Frag->Prop} {s:σ} {ε:Env} {L L':Frag} {New:Obj->Prop} {d:Option Tmp} {ty:TypeId} {ps:String} {af:Array Edge} {g:Option (Nat×Bool)}
theorem os {ops:Array Oper}{i:Nat}{rest:List Nat}{d:Option Tmp}{k:Op}{ot:TypeId}{ps:String}{af:Array Edge}{g:Option (Nat×Bool)}{n:Nat}(ho:ops[i]? =some ⟨d,k,ot,ps,af,g⟩)(hy:EO P (Δ s).New N ε L ⟨d,k,ot,ps,af,g⟩ (fun r L''=>r=undef/\L''=L'))(hw:wantedE ops N ε g=some true:=by rfl)(hd:dstOk N d=true:=by rfl)(h:OpsE Δ P main fn N ops rest n s Q (putE d undef ε) L'):OpsE Δ P main fn N ops (i::rest) (n+1) s Q ε L:=
 oe ho hy hw hd (fun _ _ ⟨e1,e2⟩=>by rw[e1,e2];exact h)
theorem fO {t:TypeId}{z:Value}(hN:New (.cells z.cells t))(hz:zeroAt P t=some z:=by kernel_rfl):EO P New N ε L ⟨d, .alloc t,ty,ps,af,g⟩ (fun r L''=> ∃b,(∀t∈L,t.1≠b)/\r= .pointer (some ⟨b,0,none⟩)/\L''=(b,true, .cells z.cells t)::L):=
 fun _ _=>xZ hz hN fun b hb=>⟨b,hb,rfl,rfl⟩
theorem b8 {t:TypeId}{x:Operand}{v:Value}(hN:New (.cells v.cells t))(hx:ev ε x=some v:=by rfl):EO P New N ε L ⟨d, .box t x,ty,ps,af,g⟩ (fun r L''=> ∃b,(∀t∈L,t.1≠b)/\r= .pointer (some ⟨b,0,none⟩)/\L''=(b,true, .cells v.cells t)::L):=
 fun _ ha=>Cf (ha.ev hx) hN fun b hb=>⟨b,hb,rfl,rfl⟩
theorem oZ {t e:TypeId}{x:Operand}{v z:Value}(hN:New (.cells #[v] e))(hx:ev ε x=some v:=by rfl)(hu:P.underlying t=some (.slice e):=by kernel_rfl)(hs:sizeAt P e=some 1:=by kernel_rfl)(hz:zeroAt P e=some z:=by kernel_rfl)(hzp:plainV z=true:=by rfl)(hp:plainV v=true:=by rfl):
 EO P New N ε L ⟨d, .buildSlice t 1 #[(0,x)],ty,ps,af,g⟩ (fun r L''=> ∃b,(∀t∈L,t.1≠b)/\r= .slice (some ⟨b,0,none⟩) 1 1/\L''=(b,true, .cells #[v] e)::L):=
 fun _ ha=>lL (ha.ev hx) hu hs hz hzp hp hN fun b hb=>⟨b,hb,rfl,rfl⟩
def Fun (L:Frag):Prop:= ∀b fl fl' o o',(b,fl,o)∈L->(b,fl',o')∈L->fl=fl'/\o=o'
theorem bG {L:Frag}(h:(L.map (·.1)).Nodup):Fun L:=by
 intro b fl fl' o o' h1 h2;obtain⟨i,hi⟩:=List.getElem?_of_mem h1;obtain⟨j,hj⟩:=List.getElem?_of_mem h2;have e1:(L.map (·.1))[i]? =some b:=by simp[hi]
 have e2:(L.map (·.1))[j]? =some b:=by simp[hj]
 obtain⟨hl1,he1⟩:=List.getElem?_eq_some_iff.1 e1;obtain⟨hl2,he2⟩:=List.getElem?_eq_some_iff.1 e2;have hij:i=j:=by
  rcases Nat.lt_trichotomy i j with g|g|g
  ·exact absurd (he1.trans he2.symm) (List.pairwise_iff_getElem.1 h i j hl1 hl2 g)
  ·exact g
  ·exact absurd (he2.trans he1.symm) (List.pairwise_iff_getElem.1 h j i hl2 hl1 g)
 subst hij;have:=hi.symm.trans hj;simp only[Option.some.injEq,Prod.mk.injEq,true_and] at this;exact this
structure Upd (L:Frag)(b:Nat)(o:Obj)(L':Frag):Prop where
 self:(b,true,o)∈L'
 ne: ∀t∈L,t.1≠b->t∈L'
 fn:Fun L'
structure Add (L:Frag)(b:Nat)(o:Obj)(L':Frag):Prop where
 self:(b,true,o)∈L'
 sub: ∀t∈L,t∈L'
 new: ∀t∈L,t.1≠b
 fn:Fun L'
theorem eg {L:Frag}(hnd:(L.map (·.1)).Nodup){n b:Nat}{o o':Obj}(hn:L[n]? =some (b,true,o)):Upd L b o' (L.set n (b,true,o')):=by
 obtain⟨hl,he⟩:=List.getElem?_eq_some_iff.1 hn;refine⟨List.mem_of_getElem? (i:=n) (by simp[hl]),fun t ht hne=> ?_,bG ?_⟩
 ·obtain⟨i,hi⟩:=List.getElem?_of_mem ht;refine List.mem_of_getElem? (i:=i) ?_;rw[List.getElem?_set_ne (fun e=>hne ?_)]
  ·exact hi
  ·subst e;rw[hn] at hi;simp only[Option.some.injEq] at hi;rw[<-hi]
 ·have:(L.set n (b,true,o')).map (·.1)=L.map (·.1):=by
   apply List.ext_getElem?;intro i;simp only[List.getElem?_map,List.getElem?_set]
   split
   ·rename_i e;subst e;simp[hl,he]
   ·rfl
  rw[this];exact hnd
theorem kO {ops:Array Oper}{todo:List Nat}{n:Nat}(h:Fun L->OpsE Δ P main fn N ops todo n s Q ε L):OpsE Δ P main fn N ops todo n s Q ε L:=j8 fun hn=>h (bG hn)
theorem j9 {c:Code}{n:Nat}(h:Fun L->wpE Δ P main fn N c n s Q ε L):wpE Δ P main fn N c n s Q ε L:=Ai fun hn=>h (bG hn)
theorem dv {t b i:Nat}{x y:Operand}{v:Value}{cs:Array Value}{e:TypeId}(hx:ev ε x=some (.pointer (some ⟨b,i,none⟩)):=by rfl)(hy:ev ε y=some v:=by rfl)(hp:plainV v=true:=by rfl)(hs:sizeAt P t=some 1)(hnd:(L.map (·.1)).Nodup)(hm:(b,true, .cells cs e)∈L)(hi:i<cs.size):
 EO P New N ε L ⟨d, .store t x y,ty,ps,af,g⟩ (fun r L''=>r=undef/\Upd L b (.cells (cs.setIfInBounds i v) e) L''):=by
 intro a ha;obtain⟨n,hn⟩:=List.getElem?_of_mem hm;exact xY (ha.ev hx) (ha.ev hy) hs hn hi hp ⟨rfl,eg hnd hn⟩
theorem osm {ops:Array Oper}{i:Nat}{rest:List Nat}{n:Nat}{ot:TypeId}{t b j:Nat}{x y:Operand}{v:Value}{cs:Array Value}{e:TypeId}(ho:ops[i]? =some ⟨d, .store t x y,ot,ps,af,g⟩)(hx:ev ε x=some (.pointer (some ⟨b,j,none⟩)):=by rfl)(hy:ev ε y=some v:=by rfl)(hp:plainV v=true:=by rfl)(hs:sizeAt P t=some 1)(hm:(b,true, .cells cs e)∈L)(hi:j<cs.size)
 (hw:wantedE ops N ε g=some true:=by rfl) (hd:dstOk N d=true:=by rfl) (h: ∀L',Upd L b (.cells (cs.setIfInBounds j v) e) L'->OpsE Δ P main fn N ops rest n s Q (putE d undef ε) L'):OpsE Δ P main fn N ops (i::rest) (n+1) s Q ε L:=
 j8 fun hnd=>oe ho (dv hx hy hp hs hnd hm hi) hw hd fun _ L'' ⟨e1,e2⟩=>by rw[e1];exact h L'' e2
theorem cQ {b:Nat}{o:Obj}(hL:Fun L)(hb: ∀t∈L,t.1≠b):Add L b o ((b,true,o)::L):=by
 refine⟨List.mem_cons_self,fun t ht=>List.mem_cons_of_mem _ ht,hb, ?_⟩;intro b' fl fl' o1 o2 h1 h2;rcases List.mem_cons.1 h1 with e1|h1<;>rcases List.mem_cons.1 h2 with e2|h2
 ·simp only[Prod.mk.injEq] at e1 e2;exact⟨by rw[e1.2.1,e2.2.1],by rw[e1.2.2,e2.2.2]⟩
 ·simp only[Prod.mk.injEq] at e1;exact absurd e1.1 (hb _ h2)
 ·simp only[Prod.mk.injEq] at e2;exact absurd e2.1 (hb _ h1)
 ·exact hL _ _ _ _ _ h1 h2
theorem b5 {ops:Array Oper}{i:Nat}{rest:List Nat}{n:Nat}{k:Op}{ot:TypeId}{f:Nat->Value}{ob:Obj}(ho:ops[i]? =some ⟨d,k,ot,ps,af,g⟩)(hy:EO P (Δ s).New N ε L ⟨d,k,ot,ps,af,g⟩ (fun r L''=> ∃b,(∀t∈L,t.1≠b)/\r=f b/\L''=(b,true,ob)::L))
 (hw:wantedE ops N ε g=some true:=by rfl) (hd:dstOk N d=true:=by rfl) (h: ∀b L',Add L b ob L'->OpsE Δ P main fn N ops rest n s Q (putE d (f b) ε) L'):OpsE Δ P main fn N ops (i::rest) (n+1) s Q ε L:=
 kO fun hF=>oe ho hy hw hd fun _ L'' ⟨b,hb,e1,e2⟩=>by rw[e1];exact h b L'' (e2▸cQ hF hb)
theorem m7 {ops:Array Oper}{nf:Nat}{R L0:Frag}{e:Nat}{s0:σ}{fuel:Nat}{ls:Array Bool}{i:Nat}{k:Op}{ot:TypeId}{f:Nat->Value}{ob:Obj}(ho:ops[i]? =some ⟨d,k,ot,ps,af,g⟩)(hy:EO P (Δ s).New N ε L ⟨d,k,ot,ps,af,g⟩ (fun r L''=> ∃b,(∀t∈L,t.1≠b)/\r=f b/\L''=(b,true,ob)::L))
 (hr:Region.ready .any ops ls=[i]:=by kernel_rfl) (hw:wantedE ops N ε g=some true:=by rfl) (hd:dstOk N d=true:=by rfl) (h: ∀b L',Add L b ob L'->Pre R L0 e s0 (ls.setIfInBounds i true) s L'/\AnyE Δ P main fn N ops Q nf R L0 e s0 fuel (ls.setIfInBounds i true) s (putE d (f b) ε) L'):AnyE Δ P main fn N ops Q nf R L0 e s0 (fuel+1) ls s ε L:=
 bd fun hnd=>te ho hy hr hw hd fun _ L'' ⟨b,hb,e1,e2⟩=>by rw[e1];exact h b L'' (e2▸cQ (bG hnd) hb)
end
section
variable {σ:Type}{F:Fam σ}{Δ: ∀s,Dom (F.R s) (F.D s)} {P:Program} {main:Bool} {fn:FuncId} {N:Nat} {Q:σ->Exit->Env->Frag->Prop} {s:σ} {ε:Env} {L:Frag} {ops:Array Oper} {i j n:Nat} {rest:List Nat} {d d':Option Tmp} {k:Op} {ot ot':TypeId} {ps ps':String} {af af':Array Edge} {g g':Option (Nat×Bool)} {v v':Value} {x:Operand}
theorem oan (ho:ops[i]? =some ⟨d, .assign x,ot,ps,af,g⟩)(hx:ev ε x=some v:=by rfl)(hw:wantedE ops N ε g=some true:=by rfl)(hd:dstOk N d=true:=by rfl)(h:Q s .normal (putE d v ε) L):OpsE Δ P main fn N ops [i] (1+1) s Q ε L:=oy ho (bR hx) hw hd (ai h)
theorem om (ho:ops[i]? =some ⟨d, .move x,ot,ps,af,g⟩)(hx:ev ε x=some v)(ho':ops[j]? =some ⟨d',k,ot',ps',af',g'⟩)(hy:EY P N (putE d v ε) L ⟨d',k,ot',ps',af',g'⟩ v')(hw:wantedE ops N ε g=some true:=by rfl)(hd:dstOk N d=true:=by rfl)(hw':wantedE ops N (putE d v ε) g'=some true:=by rfl)(hd':dstOk N d'=true:=by rfl)(h:OpsE Δ P main fn N ops rest n s Q (putE d' v' (putE d v ε)) L):OpsE Δ P main fn N ops (i::j::rest) (n+1+1) s Q ε L:=oy ho (ag hx) hw hd (oy ho' hy hw' hd' h)
theorem pN {R:Frag}{e:Nat}{ls:Array Bool}(hR: ∀t∈R,t∈L:=by simp):Pre R L e s ls s L:=aj hR
end
def cutAt (o l m sz:Nat):Nat:=if m=l then o else o+l*sz
section
variable {P:Program}{L:Frag}{K:(Nat×Nat×Nat)->Prop}
theorem dP {k:IntKind}{i:Int}{y:Nat}{c:BoundsCode}{K:Nat->Prop}(h0:0<=i)(h1:i<=y)(h:K i.toNat):wpQ P (Instr.sliceBound (.int k i) y c) K L:=by
 unfold Instr.sliceBound;simp only[asIntOf,ay,bP,h0,h1,and_self,if_true];exact h
end
section
variable {P:Program}{N:Nat}{ε:Env}{L:Frag}{d:Option Tmp}{ty:TypeId}{ps:String}{af:Array Edge}{g:Option (Nat×Bool)}{t e:TypeId}{x y z u:Operand}{b o sz len cap:Nat}{k1 k2 k3:IntKind}{l h m:Int}
theorem iA {v lo hi mx:Option Value}{l h m:Nat}{a:Value}(ha:a= .slice (some ⟨b,o,none⟩) len cap)(hu:P.underlying t=some (.slice e))(hs:sizeAt P e=some sz)(hb: ∀(K:Nat×Nat×Nat->Prop),K (l,h,m)->wpQ P (Instr.sliceBounds true len cap lo hi mx) K L) (K:Value->Prop)
 (hK:K (.slice (some ⟨b,cutAt o l m sz,none⟩) (h-l) (m-l))):wpQ P (Instr.sliceAt t a lo hi mx) K L:=by
 unfold Instr.sliceAt;rw[ay,aL hu];show wpQ P (Instr.slice t a lo hi mx) K L;unfold Instr.slice;rw[ay,aL hu,ha];show wpQ P (Instr.sliceBounds true len cap lo hi mx>>=_) K L;rw[ay];refine hb _ ?_;show wpQ P (sizeOf e>>=_) K L;rw[ay,cH hs];have e1:(if m=l then some (⟨b,o,none⟩:Addr) else(some (⟨b,o,none⟩:Addr)).map (·.add (l*sz)))=some ⟨b,cutAt o l m sz,none⟩:=by
  unfold cutAt
  split
  ·rfl
  ·simp[dq]
 show K (.slice (if m=l then some (⟨b,o,none⟩:Addr) else(some (⟨b,o,none⟩:Addr)).map (·.add (l*sz))) (h-l) (m-l));rw[e1];exact hK
theorem ve (hu:P.underlying t=some (.slice e))(hs:sizeAt P e=some sz)(hx:ev ε x=some (.slice (some ⟨b,o,none⟩) len cap):=by rfl)(hy:ev ε y=some (.int k1 h):=by rfl)(h0:0<=h:=by first|decide|omega)(h1:h<=cap:=by first|decide|omega):
 EY P N ε L ⟨d, .slice t x none (some y) none,ty,ps,af,g⟩ (.slice (some ⟨b,cutAt o 0 cap sz,none⟩) (h.toNat-0) (cap-0)):=fun _ ha=>by
 refine cW (fun _=>rfl) fun K hK=> ?_;refine iA (v:=none) (ha.ev hx) hu hs (l:=0) (fun K hK=> ?_) K hK;simp only[Option.map_some,Option.map_none,ha.ev hy,Instr.sliceBounds];simp only[ay,bP];exact dP h0 h1 hK
theorem zy (hu:P.underlying t=some (.slice e))(hs:sizeAt P e=some sz)(hx:ev ε x=some (.slice (some ⟨b,o,none⟩) len cap):=by rfl)(hy:ev ε y=some (.int k1 l):=by rfl)(h0:0<=l:=by first|decide|omega)(h1:l<=len:=by first|decide|omega):
 EY P N ε L ⟨d, .slice t x (some y) none none,ty,ps,af,g⟩ (.slice (some ⟨b,cutAt o l.toNat cap sz,none⟩) (len-l.toNat) (cap-l.toNat)):=fun _ ha=>by
 refine cW (fun _=>rfl) fun K hK=> ?_;refine iA (v:=none) (ha.ev hx) hu hs (h:=len) (fun K hK=> ?_) K hK;simp only[Option.map_some,Option.map_none,ha.ev hy,Instr.sliceBounds];simp only[ay,bP];exact dP h0 h1 hK
theorem Aj (hu:P.underlying t=some (.slice e))(hs:sizeAt P e=some sz)(hx:ev ε x=some (.slice (some ⟨b,o,none⟩) len cap):=by rfl)(hy:ev ε y=some (.int k1 l):=by rfl)(hz:ev ε z=some (.int k2 h):=by rfl)(h0:0<=l:=by first|decide|omega)(h1:l<=h:=by first|decide|omega)(h2:h<=cap:=by first|decide|omega):
 EY P N ε L ⟨d, .slice t x (some y) (some z) none,ty,ps,af,g⟩ (.slice (some ⟨b,cutAt o l.toNat cap sz,none⟩) (h.toNat-l.toNat) (cap-l.toNat)):=fun _ ha=>by
 refine cW (fun _=>rfl) fun K hK=> ?_;refine iA (v:=none) (ha.ev hx) hu hs (fun K hK=> ?_) K hK;simp only[Option.map_some,Option.map_none,ha.ev hy,ha.ev hz,Instr.sliceBounds];simp only[ay,bP];refine dP (by omega) h2 ?_;exact dP h0 (by omega) hK
theorem Ck (hu:P.underlying t=some (.slice e))(hs:sizeAt P e=some sz)(hx:ev ε x=some (.slice (some ⟨b,o,none⟩) len cap):=by rfl)(hy:ev ε y=some (.int k1 l):=by rfl)(hz:ev ε z=some (.int k2 h):=by rfl)(hw:ev ε u=some (.int k3 m):=by rfl)(h0:0<=l:=by first|decide|omega)(h1:l<=h:=by first|decide|omega)(h2:h<=m:=by first|decide|omega)(h3:m<=cap:=by first|decide|omega):
 EY P N ε L ⟨d, .slice t x (some y) (some z) (some u),ty,ps,af,g⟩ (.slice (some ⟨b,cutAt o l.toNat m.toNat sz,none⟩) (h.toNat-l.toNat) (m.toNat-l.toNat)):=fun _ ha=>by
 refine cW (fun _=>rfl) fun K hK=> ?_;refine iA (v:=none) (ha.ev hx) hu hs (fun K hK=> ?_) K hK;simp only[Option.map_some,Option.map_none,ha.ev hy,ha.ev hz,ha.ev hw,Instr.sliceBounds];simp only[ay,bP,if_true,Option.isSome_some];refine dP (by omega) h3 ?_;refine dP (by omega) (by omega) ?_;exact dP h0 (by omega) hK
end
section
variable {P:Program}{L:Frag}{sz n b o len cap:Nat}{fl:Bool}{cs:Array Value}{e:TypeId}{fr:Nat×Nat}
theorem cI (hm:(b,fl, .cells cs e fr)∈L)(h:o+n*sz<=cs.size):Reads P L sz n (.slice (some ⟨b,o,none⟩) len cap) (cs.extract o (o+n*sz)):=⟨fun _ _ hQ=>lI hm h hQ⟩
end
theorem cL: ∀(vs l:List Value)(o:Nat),o+vs.length<=l.length->puts l.toArray o vs=(l.take o++vs++l.drop (o+vs.length)).toArray
 |[],l,o,h=>by simp[puts]
 |v::vs,l,o,h=>by
  simp only[List.length_cons] at h;rw[puts,List.setIfInBounds_toArray,cL vs (l.set o v) (o+1) (by simp;omega)];congr 1;have h1:(l.set o v).take (o+1)=l.take o++[v]:=by
   rw[List.take_set,List.take_succ_eq_append_getElem (by omega),List.set_append_right _ _ (by simp;omega)];simp[Nat.min_eq_left (show o<=l.length by omega)]
  have h2:(l.set o v).drop (o+1+vs.length)=l.drop (o+(v::vs).length):=by
   rw[List.drop_set_of_lt (by omega)];simp only[List.length_cons];congr 1;omega
  rw[h1,h2];simp
section
variable {P:Program}{New:Obj->Prop}{N:Nat}{ε:Env}{L:Frag}{d:Option Tmp}{ty:TypeId}{ps:String}{af:Array Edge}{g:Option (Nat×Bool)}{t u e e2:TypeId}{x y:Operand}
theorem o0 {sz sLen sCap b o n:Nat}{yb:Option Addr}{yc:Nat}{vs cs:Array Value}{e':TypeId}(hx:ev ε x=some (.slice (some ⟨b,o,none⟩) sLen sCap):=by rfl)(hy:ev ε y=some (.slice yb n yc):=by rfl)(hnd:(L.map (·.1)).Nodup)(hu:P.underlying t=some (.slice e))(hv:P.underlying u=some (.slice e2))(hs:sizeAt P e=some sz)(hr:Reads P L sz n (.slice yb n yc) vs)(hc:sLen+n<=sCap)(hm:(b,true, .cells cs e')∈L)(ho:o+sLen*sz+vs.size<=cs.size)(hp:vs.toList.all plainV=true)
 :
 EO P New N ε L ⟨d, .call ⟨.builtin .append, #[x,y], #[t,u]⟩,ty,ps,af,g⟩ (fun r L'=>r= .slice (some ⟨b,o,none⟩) (sLen+n) sCap/\Upd L b (.cells (puts cs (o+sLen*sz) vs.toList) e') L'):=by
 intro a ha;obtain⟨m,hm'⟩:=List.getElem?_of_mem hm;exact qL (ha.ev hx) (ha.ev hy) hu hv hs hr hc hm' ho hp ⟨rfl,eg hnd hm'⟩
theorem rO {sz by_ sLen sCap n:Nat}{xb yb:Option Addr}{yc:Nat}{ws vs:Array Value}{z:Value}(hx:ev ε x=some (.slice xb sLen sCap):=by rfl)(hy:ev ε y=some (.slice yb n yc):=by rfl)(hF:Fun L)(hu:P.underlying t=some (.slice e))(hv:P.underlying u=some (.slice e2))(hs:sizeAt P e=some sz)(hb:bytesAt P e=some (by_+1))(hz0:zeroAt P e=some z)(hw:Reads P L sz sLen (.slice xb sLen sCap) ws)(hr:Reads P L sz n (.slice yb n yc) vs)(hc:sCap<sLen+n)(hbig:(2*(sLen+n)+192)*(by_+1)<=281474976710656)(hN: ∀cs,New (.cells cs e))
 :
 EO P New N ε L ⟨d, .call ⟨.builtin .append, #[x,y], #[t,u]⟩,ty,ps,af,g⟩ (fun r L'=> ∃b cap,sLen+n<=cap/\cap<9223372036854775808/\r= .slice (some ⟨b,0,none⟩) (sLen+n) cap/\Add L b (.cells (ws++vs++Builtin.zeroCells z.cells (cap-(sLen+n))) e) L'):=by
 intro a ha;exact oU (ha.ev hx) (ha.ev hy) hu hv hs hb hz0 hw hr hc hbig hN fun b cap hb h1 h2=>⟨b,cap,h1,h2,rfl,cQ hF hb⟩
theorem Cm {b o n cap:Nat}{cs:Array Value}{e':TypeId}{z:Value}(hx:ev ε x=some (.slice (some ⟨b,o,none⟩) n cap):=by rfl)(hnd:(L.map (·.1)).Nodup)(hu:P.underlying t=some (.slice e))(hz0:zeroAt P e=some z)(hzp:plainV z=true)(hm:(b,true, .cells cs e')∈L)(ho:o+n<=cs.size):
 EO P New N ε L ⟨d, .call ⟨.builtin .clear, #[x], #[t]⟩,ty,ps,af,g⟩ (fun r L'=>r= .tuple #[]/\Upd L b (.cells (puts cs o (List.replicate n z)) e') L'):=by
 intro a ha;obtain⟨m,hm'⟩:=List.getElem?_of_mem hm;refine ct (s:=Builtin.clear_ #[t] ty #[.slice (some ⟨b,o,none⟩) n cap]) (fun _=>by simp[builtin,ha.ev hx]) ?_;unfold Builtin.clear_;simp only[List.getElem?_toArray,List.getElem?_cons_zero];rw[ax,aY hu];cases n with
 |zero=>
  simp only[ax,bz,List.replicate_zero,puts];refine⟨trivial, ?_⟩;have:=eg (o':= .cells cs e') hnd hm';have e0:L.set m (b,true, .cells cs e')=L:=by
   apply List.ext_getElem?;intro j;rw[List.getElem?_set]
   split
   ·rename_i e;subst e;obtain⟨hl,he⟩:=List.getElem?_eq_some_iff.1 hm';simp[hl,he]
   ·rfl
  rw[e0] at this;exact this
 |succ n=>
  have hzc:(Builtin.zeroCells z.cells (n+1)).toList=List.replicate (n+1) z:=by
   rw[dW hzp];unfold Builtin.zeroCells;apply List.ext_getElem
   ·simp
   ·intro i h1 h2;simp[Nat.mod_one]
  simp only[ax,b7 hz0,hzc];refine cA hm' (by simpa using ho) (by simp[hzp]) ?_;exact⟨rfl,eg hnd hm'⟩
end
section
variable {σ:Type}{F:Fam σ}{Δ: ∀s,Dom (F.R s) (F.D s)} {P:Program} {main:Bool} {fn:FuncId} {N:Nat} {Q:σ->Exit->Env->Frag->Prop} {s:σ} {ε:Env} {L:Frag}
theorem cK {x y:Code}{n₁ n₂:Nat}(M:σ->Env->Frag->Prop)(h1:wpE Δ P main fn N x n₁ s (thenE M Q) ε L)(h2: ∀s' ε' L',M s' ε' L'->wpE Δ P main fn N y n₂ s' Q ε' L'):wpE Δ P main fn N (.seq x y) (n₁+n₂+1) s Q ε L:=
 au (oY h1 fun s' e ε' L' q=>by
  cases e with
  |normal=>exact h2 _ _ _ q
  |_=>exact q)
end
section
variable {P:Program}{New:Obj->Prop}{L:Frag}
theorem o6 {f:FuncId}{fn:Func}{e:Array Value->Sem Value}{args:Array Value}{Q:Next->Frag->Prop}(hf:P.funcs[f]? =some fn)(hname:(fn.name== "runtime.NumGoroutine")=false)(hb:fn.body.isNone=true)(hn:Extern.findNext fn=none)(he:Extern.find fn=some e)
 (h:wpS P New (e args) (fun v L'=>Q (.value v) L') L):wpS P New (callFunc f args) Q L:=by
 have h1:fn.name≠ "runtime.NumGoroutine" :=by simpa using hname
 have h2:fn.body=none:=by simpa using hb
 show wpS P New (match P.funcs[f]? with|none=>_|some fn=>_) Q L;rw[hf];simp only[beq_iff_eq,h1,if_false,h2,Option.isNone_none,if_true];rw[ax];refine⟨rfl, ?_⟩;simp only[hn,he];rw[jm,ax];exact h
theorem jM {f:FuncId}{fn:Func}{e:Array Value->Sem Value}{args:Array Value}{K:Next->Prop}(hf:P.funcs[f]? =some fn)(hname:(fn.name== "runtime.NumGoroutine")=false)(hb:fn.body.isNone=true)(hn:Extern.findNext fn=none)(he:Extern.find fn=some e)
 (h:wpQ P (e args) (fun v=>K (.value v)) L):wpQ P (callFunc f args) K L:=by
 have h1:fn.name≠ "runtime.NumGoroutine" :=by simpa using hname
 have h2:fn.body=none:=by simpa using hb
 show wpQ P (match P.funcs[f]? with|none=>_|some fn=>_) K L;rw[hf];simp only[beq_iff_eq,h1,if_false,h2,Option.isNone_none,if_true];rw[ay];refine⟨rfl, ?_⟩;simp only[hn,he];show wpQ P (e args>>=_) K L;rw[ay];exact h
theorem iB {f:FuncId}{fn:Func}{args:Array Value}{K:Next->Prop}(hf:P.funcs[f]? =some fn)(hname:(fn.name== "runtime.NumGoroutine")=false)(hb:fn.body.isNone=false)(h:K (.enter f args)):wpQ P (callFunc f args) K L:=by
 have h1:fn.name≠ "runtime.NumGoroutine" :=by simpa using hname
 show wpQ P (match P.funcs[f]? with|none=>_|some fn=>_) K L;rw[hf];simp only[beq_iff_eq,h1,if_false,hb,Bool.false_eq_true];exact h
end
theorem eA {N:Nat}{ε:Env}{a:Act}(hf:Fits N ε a): ∀(l:List Operand)(vs:List Value),l.map (ev ε)=vs.map some->l.map a.eval=vs:=by
 intro l
 induction l with
 |nil=>intro vs h;cases vs<;>simp_all
 |cons x l ih=>
  intro vs h;cases vs with
  |nil=>simp at h
  |cons v vs=>
   simp only[List.map_cons,List.cons.injEq] at h⊢;exact⟨hf.ev h.1,ih vs h.2⟩
section
variable {P:Program}{New:Obj->Prop}{N:Nat}{ε:Env}{L:Frag}{d:Option Tmp}{ty:TypeId}{ps:String}{af:Array Edge}{g:Option (Nat×Bool)}{args:Array Operand}{ats:Array TypeId}{vs:List Value}
theorem kP {f:FuncId}{fn:Func}{e:Array Value->Sem Value}{v:Value}(ha':args.toList.map (ev ε)=vs.map some:=by rfl)(hf:P.funcs[f]? =some fn)(he:Extern.find fn=some e)(hv:wpQ P (e vs.toArray) (· =v) L)(hname:(fn.name== "runtime.NumGoroutine")=false:=by rfl)(hb:fn.body.isNone=true:=by rfl)(hn:Extern.findNext fn=none:=by kernel_rfl):
 EY P N ε L ⟨d, .call ⟨.value (.func f),args,ats⟩,ty,ps,af,g⟩ v:=by
 intro a ha;have e1:args.map a.eval=vs.toArray:=by apply Array.ext';simpa using eA ha _ _ ha'
 show wpQ P (callFunc f ((#[]++args.map a.eval)++ #[])) _ L;rw[e1];simp only[Array.empty_append,Array.append_empty];exact jM hf hname hb hn he (cX (fun _ h=>by rw[h]) (fun _ h=>h) _ hv)
theorem vf {f:FuncId}{fn:Func}{e:Array Value->Sem Value}{post:Value->Frag->Prop}(ha':args.toList.map (ev ε)=vs.map some:=by rfl)(hf:P.funcs[f]? =some fn)(he:Extern.find fn=some e)(hv:wpS P New (e vs.toArray) post L)(hname:(fn.name== "runtime.NumGoroutine")=false:=by rfl)(hb:fn.body.isNone=true:=by rfl)(hn:Extern.findNext fn=none:=by kernel_rfl):
 EO P New N ε L ⟨d, .call ⟨.value (.func f),args,ats⟩,ty,ps,af,g⟩ post:=by
 intro a ha;have e1:args.map a.eval=vs.toArray:=by apply Array.ext';simpa using eA ha _ _ ha'
 show wpS P New (callFunc f ((#[]++args.map a.eval)++ #[])) _ L;rw[e1];simp only[Array.empty_append,Array.append_empty];exact o6 hf hname hb hn he hv
theorem kQ {x:Operand}{t:TypeId}{rv rc:Value}{nm:String}{f:FuncId}{fn:Func}{e:Array Value->Sem Value}{v:Value}(hx:ev ε x=some (.iface t rv):=by rfl)(ha':args.toList.map (ev ε)=vs.map some:=by rfl)(hm:wpQ P (method (P.types.size+Made.depth) t rv nm) (· =(f,rc)) L)(hf:P.funcs[f]? =some fn)(he:Extern.find fn=some e)(hv:wpQ P (e (rc::vs).toArray) (· =v) L)(hname:(fn.name== "runtime.NumGoroutine")=false:=by rfl)(hb:fn.body.isNone=true:=by rfl)(hn:Extern.findNext fn=none:=by kernel_rfl):
 EY P N ε L ⟨d, .call ⟨.invoke x nm,args,ats⟩,ty,ps,af,g⟩ v:=by
 intro a ha;have e1:args.map a.eval=vs.toArray:=by apply Array.ext';simpa using eA ha _ _ ha'
 show wpQ P (invoke (.fn (.method nm) #[]) (#[a.eval x]++args.map a.eval)) _ L;rw[e1,ha.ev hx];unfold invoke;have e2:(#[Value.iface t rv]++vs.toArray)[0]? =some (.iface t rv):=by simp
 have e3:(#[Value.iface t rv]++vs.toArray).extract 1 (#[Value.iface t rv]++vs.toArray).size=vs.toArray:=by apply Array.ext';simp
 simp only[e2,e3];show wpQ P (method (P.types.size+Made.depth) t rv nm>>=fun(p:FuncId×Value)=>callFunc p.1 (#[p.2]++vs.toArray)) _ L;rw[ay];refine cX ?_ (fun _ h=>h) _ hm;rintro _ rfl;have e4: #[rc]++vs.toArray=(rc::vs).toArray:=by apply Array.ext';simp
 simp only[e4];exact jM hf hname hb hn he (cX (fun _ h=>by rw[h]) (fun _ h=>h) _ hv)
end
section
variable {σ:Type}{F:Fam σ}{Δ: ∀s,Dom (F.R s) (F.D s)} {P:Program} {main:Bool} {fn:FuncId} {s:σ} {a:Act} {L:Frag}
theorem o8 {Q:σ->Exit->Act->Frag->Prop}{ops:Array Oper}{i:Nat}{rest:List Nat}{o:Oper}{f:FuncId}{vals:Array Value}{nf n:Nat}{Post:σ->Value->Frag->Prop}
 (ho:ops[i]? =some o) (hw:Region.wanted o (yielded ops a.tmps)=true) (hE:wpQ P (execOp a.eval o) (· = .enter f vals) L) (hcall:CallsL Δ P main f vals nf s L Post) (hnext: ∀s' v L',Post s' v L'->OpsL Δ P main fn ops rest n s' Q (a.put o.dst v) L'):OpsL Δ P main fn ops (i::rest) (n+nf+3) s Q a L:=by
 intro w hO b k cs m hb hk hc;obtain⟨g,c,hf,hname,hbody,hwp⟩:=hcall w hO;have hfin: ∀v,(b.at a (.inRegion ops (i::rest)::k)).finish v=b.at (a.put o.dst v) (.inRegion ops rest::k):=fun v=>by rw[Frame.finish_at,ho];rfl
 have hleave: ∀(s':σ)(a':Act)(w':World)(todo:List Item),(a'.defers=[]/\ ∃v,ResultsC P g a'.tmps v/\upV Δ Post s' v w')->
  Goes P main (F.R s') (F.D s') (F.Stop s') (m+n+1) (G {(base f).at a' todo with mode:= .returning} (b.at a (.inRegion ops (i::rest)::k)::cs)) w':=by
  rintro s' a' w' todo ⟨hd,v,hr,L',hL,hp⟩;refine Goes.step rfl fun w₁ h₁=> ?_;rw[stepG_leave (b:=base f) rfl hd hf (hr w₁).1 (hr w₁).2,hfin];exact⟨(F.terms s').idle _,(hnext s' v L' hp w' hL b k cs m hb hk hc).rely (F.terms s').trans h₁⟩
 have hbodyG:Goes P main (F.R s) (F.D s) (F.Stop s) (m+n+2+nf) (G ((base f).at {tmps:=vals++Array.replicate (g.ntmps-vals.size) undef,defers:=[]} [.code c]) (b.at a (.inRegion ops (i::rest)::k)::cs)) w:=by
  refine hwp (base f) [] _ (m+n+2) rfl (by simp[base]) fun s' e a' w' q=> ?_;cases e with
  |normal=>exact Goes.step rfl fun w₁ h₁=>by rw[stepG_end];exact⟨(F.terms s').idle _,(hleave s' a' w' [] q).rely (F.terms s').trans h₁⟩
  |ret=>exact fun todo=>(hleave s' a' w' todo q).more
  |exit id=>exact q.elim
  |goto l=>exact q.elim
  |panic ch=>exact q.elim
  |outgrown=>exact q.elim
 have e:m+(n+nf+3)=(m+n+2+nf)+1:=by omega
 rw[e];refine Goes.step rfl fun w₁ h₁=> ?_;obtain⟨q1,q2⟩:=m0 (Δ s) ((Δ s).rely hO h₁) hE;rw[stepG_enter ho hw hk q1,enter_at _ hf hbody];exact⟨(Δ s).dd ((Δ s).gr w₁) fun e he=>q2 e (by rw[hb] at he;exact mem_listed he),hbodyG.rely (F.terms s).trans h₁⟩
end
section
variable {σ:Type}{F:Fam σ}{Δ: ∀s,Dom (F.R s) (F.D s)} {P:Program} {main:Bool} {fn:FuncId} {N:Nat} {Q:σ->Exit->Env->Frag->Prop} {s:σ} {ε:Env} {L:Frag} {d:Option Tmp} {ps:String} {af:Array Edge} {g:Option (Nat×Bool)} {ot:TypeId} {args:Array Operand} {ats:Array TypeId} {vs:List Value}
theorem ov {ops:Array Oper}{i:Nat}{rest:List Nat}{x:Operand}{f:FuncId}{gf:Func}{c1 c2:List Value}{nf n:Nat}{Post:σ->Value->Frag->Prop}(ho:ops[i]? =some ⟨d, .call ⟨.value x,args,ats⟩,ot,ps,af,g⟩)(hx:ev ε x=some (.func (.func f) c1.toArray c2.toArray):=by rfl)(ha':args.toList.map (ev ε)=vs.map some:=by rfl)
 (hf:P.funcs[f]? =some gf) (hname:(gf.name== "runtime.NumGoroutine")=false:=by rfl) (hb:gf.body.isNone=false:=by rfl) (hcall:CallsL Δ P main f (c1++vs++c2).toArray nf s L Post) (hw:wantedE ops N ε g=some true:=by rfl) (hd:dstOk N d=true:=by rfl)
 (h: ∀s' v L',Post s' v L'->OpsE Δ P main fn N ops rest n s' Q (putE d v ε) L'):OpsE Δ P main fn N ops (i::rest) (n+nf+3) s Q ε L:=by
 intro a ha;have e1:args.map a.eval=vs.toArray:=by apply Array.ext';simpa using eA ha _ _ ha'
 refine o8 ho (ha.wanted hw) ?_ hcall fun s' v L' hp=>h s' v L' hp _ (ha.put hd v);show wpQ P (resolve a.eval ⟨.value x,args,ats⟩ ot>>=fun d=>invoke d.target d.args) _ L;unfold resolve;simp only[e1,ha.ev hx];show wpQ P (callFunc f ((c1.toArray++vs.toArray)++c2.toArray)) _ L;have e4:(c1.toArray++vs.toArray)++c2.toArray=(c1++vs++c2).toArray:=by apply Array.ext';simp
 rw[e4];exact iB hf hname hb rfl
theorem oi {ops:Array Oper}{i:Nat}{rest:List Nat}{x:Operand}{t:TypeId}{rv rc:Value}{nm:String}{f:FuncId}{gf:Func}{nf n:Nat}{Post:σ->Value->Frag->Prop}(ho:ops[i]? =some ⟨d, .call ⟨.invoke x nm,args,ats⟩,ot,ps,af,g⟩)(hx:ev ε x=some (.iface t rv):=by rfl)(ha':args.toList.map (ev ε)=vs.map some:=by rfl)
 (hm:wpQ P (method (P.types.size+Made.depth) t rv nm) (· =(f,rc)) L) (hf:P.funcs[f]? =some gf) (hname:(gf.name== "runtime.NumGoroutine")=false:=by rfl) (hb:gf.body.isNone=false:=by rfl) (hcall:CallsL Δ P main f (rc::vs).toArray nf s L Post) (hw:wantedE ops N ε g=some true:=by rfl) (hd:dstOk N d=true:=by rfl)
 (h: ∀s' v L',Post s' v L'->OpsE Δ P main fn N ops rest n s' Q (putE d v ε) L'):OpsE Δ P main fn N ops (i::rest) (n+nf+3) s Q ε L:=by
 intro a ha;have e1:args.map a.eval=vs.toArray:=by apply Array.ext';simpa using eA ha _ _ ha'
 refine o8 ho (ha.wanted hw) ?_ hcall fun s' v L' hp=>h s' v L' hp _ (ha.put hd v);show wpQ P (invoke (.fn (.method nm) #[]) (#[a.eval x]++args.map a.eval)) _ L;rw[e1,ha.ev hx];unfold invoke;have e2:(#[Value.iface t rv]++vs.toArray)[0]? =some (.iface t rv):=by simp
 have e3:(#[Value.iface t rv]++vs.toArray).extract 1 (#[Value.iface t rv]++vs.toArray).size=vs.toArray:=by apply Array.ext';simp
 simp only[e2,e3];show wpQ P (method (P.types.size+Made.depth) t rv nm>>=fun(p:FuncId×Value)=>callFunc p.1 (#[p.2]++vs.toArray)) _ L;rw[ay];refine cX ?_ (fun _ h=>h) _ hm;rintro _ rfl;have e4: #[rc]++vs.toArray=(rc::vs).toArray:=by apply Array.ext';simp
 simp only[e4];exact iB hf hname hb rfl
end
def evR {α:Type}(P:Program):Sem α->List Value->Option (α×List Addr)
 | .pure a,vs=>match vs with|[]=>some (a,[])|_::_=>none
 | .load m a k,vs=>match m,vs with| .plain,v::vs=>(evR P (k v) vs).map fun p=>(p.1,a::p.2)|_,_=>none
 | .program k,vs=>evR P (k P) vs
 | .mark m k,vs=>if okMark m then evR P k vs else none
 | .choose q k,vs=>if q.forced then evR P (k 0) vs else none
 | .store ..,_| .new ..,_| .freeze ..,_| .setObj ..,_| .sys ..,_| .halt _,_| .shape ..,_| .frozen ..,_| .getObj ..,_=>none
section
variable {α:Type}{P:Program}{L:Frag}
def Red (L:Frag):List Addr->List Value->Prop
 |a::az,v::vs=>a.spot=none/\At L a.block a.off v/\Red L az vs
 |[],[]=>True
 |_,_=>False
theorem rP {K:α->Prop}: ∀(s:Sem α)(vs:List Value)(r:α)(az:List Addr),evR P s vs=some (r,az)->Red L az vs->K r->wpQ P s K L:=by
 intro s
 induction s with
 |pure a=>
  intro vs r az h hr hK;cases vs with
  |nil=>simp only[evR,Option.some.injEq,Prod.mk.injEq] at h;obtain⟨rfl,rfl⟩:=h;exact hK
  |cons v vs=>simp[evR] at h
 |load m a k ih=>
  intro vs r az h hr hK;cases m with
  |plain=>
   cases vs with
   |nil=>simp[evR] at h
   |cons v vs=>
    simp only[evR,Option.map_eq_some_iff,Prod.mk.injEq] at h;obtain⟨⟨r',az'⟩,h1,h2,h3⟩:=h;subst h3;obtain⟨hs,⟨fl,cs,ty,fr,hm,hv⟩,hr'⟩:=hr;refine⟨rfl,fl,_,v,hm, ?_,ih _ _ _ _ h1 hr' (by rw[show r'=r from h2];exact hK)⟩;obtain⟨b,i,sp⟩:=a;obtain rfl:sp=none:=hs;exact hv
  |_=>simp[evR] at h
 |program k ih=>exact fun vs r az h hr hK=>ih _ vs r az h hr hK
 |mark m k ih=>
  intro vs r az h hr hK;simp only[evR] at h
  split at h
  ·rename_i h1;exact⟨h1,ih vs r az h hr hK⟩
  ·simp at h
 |choose q k ih=>
  intro vs r az h hr hK;simp only[evR] at h
  split at h
  ·rename_i h1;exact⟨h1,ih _ vs r az h hr hK⟩
  ·simp at h
 |_=>intro vs r az h;simp[evR] at h
theorem bm {K:α->Prop}{s:Sem α}{r:α}(h:evR P s []=some (r,[]))(hK:K r):wpQ P s K L:=rP s [] r [] h trivial hK
theorem m8 {K:α->Prop}{s:Sem α}{r:α}{v:Value}{b i:Nat}(h:evR P s [v]=some (r,[⟨b,i,none⟩]))(hv:At L b i v)(hK:K r):wpQ P s K L:=rP s _ r _ h ⟨rfl,hv,trivial⟩ hK
end
section
variable {P:Program}{New:Obj->Prop}{N:Nat}{ε:Env}{L:Frag}{d:Option Tmp}{ty:TypeId}{ps:String}{af:Array Edge}{g:Option (Nat×Bool)}
theorem DD {x:Operand}{xt t:TypeId}{ok:Bool}{w v:Value}(hv:evR P (Instr.typeAssert w xt t ok) []=some (v,[]))(hx:ev ε x=some w:=by rfl):EY P N ε L ⟨d, .typeAssert x xt t ok,ty,ps,af,g⟩ v:=fun a ha=>by
 refine cW (fun _=>rfl) fun K hK=> ?_;rw[ha.ev hx];exact bm hv hK
theorem vg {x:Operand}{xt t s:TypeId}{w z:Value}{want:Array (String×TypeId)}(hu:P.underlying t=some (.interface want))(h:(P.info? s).map (fun i=>(Go.lacking want i.methods).isEmpty)=some false)(hz:(P.info? t).map (·.zero)=some (some z))(hx:ev ε x=some (.iface s w):=by rfl):EY P N ε L ⟨d, .typeAssert x xt t true,ty,ps,af,g⟩ (.tuple #[z, .bool false]):=fun a ha=>by
 refine cW (fun _=>rfl) fun K hK=> ?_;rw[ha.ev hx];obtain⟨i,hi,hl⟩:=Option.map_eq_some_iff.1 h;obtain⟨j,hj,hz'⟩:=Option.map_eq_some_iff.1 hz;obtain⟨m,hm⟩:=Go.missingMethod_some (want:=want) (got:=i.methods) (fun e=>by rw[e] at hl;cases hl);unfold Instr.typeAssert;rw[ay,aL hu];show wpQ P (do match Instr.missingMethod want (<-typeInfo s).methods with|none=>_|some m=>_) K L;have e1:wpQ P (typeInfo s) (fun a=>a=i) L:=by
  unfold typeInfo;rw[ay];show wpQ P (match P.info? s with|some i=>_|none=>_) _ L;rw[hi];exact rfl
 have e2:wpQ P (zeroValue t) (fun a=>a=z) L:=by
  unfold zeroValue typeInfo;rw[ay,ay];show wpQ P (match P.info? t with|some i=>_|none=>_) _ L;rw[hj];show wpQ P (match j.zero with|some z=>_|none=>_) _ L;have hz2:j.zero=some z:=hz';rw[hz2];exact rfl
 rw[ay];refine cX ?_ (fun _ h=>h) _ e1;rintro _ rfl;simp only[hm];show wpQ P (do pure (.tuple #[<-zeroValue t, .bool false])) K L;rw[ay];refine cX ?_ (fun _ h=>h) _ e2;rintro _ rfl;exact hK
theorem o9 {op:BinOp}{t s s':TypeId}{x y:Operand}{a b:Value}:eqGuard op t x y (.iface s a) (.iface s' b)=pure ():=by
 unfold eqGuard;cases op<;>rfl
theorem zz {ρ:Operand->Value}{t u s s':TypeId}{x y:Operand}{a b:Value}{c:Bool}(hx:ρ x= .iface s a)(hy:ρ y= .iface s' b)(h: ∀(K:Bool->Prop),K c->wpQ P (Op.equal t (.iface s a) (.iface s' b)) K L):Yld P L (execOp ρ ⟨d, .binOp .eql t x y u,ty,ps,af,g⟩) (.bool c):=by
 refine cW (fun _=>rfl) fun K hQ=> ?_;rw[hx,hy,o9];show wpQ P (do pure (.bool (<-Op.equal t (.iface s a) (.iface s' b)))) K L;rw[ay];exact h _ hQ
theorem Cn {t u s s':TypeId}{x y:Operand}{a b:Value}(h:evR P (Op.equal t (.iface s a) (.iface s' b)) []=some (false,[]))(hx:ev ε x=some (.iface s a):=by rfl)(hy:ev ε y=some (.iface s' b):=by rfl):EY P N ε L ⟨d, .binOp .eql t x y u,ty,ps,af,g⟩ (.bool false):=fun _ ha=>
 zz (ha.ev hx) (ha.ev hy) fun _ hK=>bm h hK
theorem m9 {D t e n:TypeId}{b i b' i':Nat}{cs cs':Array Value}{ty1 ty1':TypeId}{fl fl':Bool}{K:Bool->Prop}(hu:P.underlying t=some (.pointer e))(hs:sizeAt P e=some (n+1))
 (h1:(b,fl, .cells cs ty1)∈L) (h2:(b',fl', .cells cs' ty1')∈L) (h:K (decide ((b,i)=(b',i')))):wpQ P (Op.equalIn (D+1) t (.pointer (some ⟨b,i,none⟩)) (.pointer (some ⟨b',i',none⟩))) K L:=by
 have:=kJ (K:=K) (i:=i) (i':=i') hu hs h1 h2 h;rw[dm,Op.equalIn.eq_def,ay,aL hu] at this;rw[Op.equalIn.eq_def,ay,aL hu];exact this
theorem Co {t u s e n:TypeId}{x y:Operand}{b i b' i':Nat}{cs cs':Array Value}{ty1 ty1':TypeId}{fl fl':Bool}{ms:Array (String×TypeId)}(hx:ev ε x=some (.iface s (.pointer (some ⟨b,i,none⟩))):=by rfl)(hy:ev ε y=some (.iface s (.pointer (some ⟨b',i',none⟩))):=by rfl)(hu:P.underlying t=some (.interface ms))(hi:(P.info? s).map (·.comparable)=some true)(hp:P.underlying s=some (.pointer e))(hs:sizeAt P e=some (n+1))
 (h1:(b,fl, .cells cs ty1)∈L) (h2:(b',fl', .cells cs' ty1')∈L):EY P N ε L ⟨d, .binOp .eql t x y u,ty,ps,af,g⟩ (.bool (decide ((b,i)=(b',i')))):=fun _ ha=>
 zz (ha.ev hx) (ha.ev hy) fun K hK=>by
  obtain⟨j,hj,hc⟩:=Option.map_eq_some_iff.1 hi;rw[dm,Op.equalIn.eq_def,ay,aL hu];show wpQ P (if s≠s then pure false else(do let info<-typeInfo s;if !info.comparable then _ else Op.equalIn 9999 s _ _)) K L;rw[if_neg (by simp),ay];unfold typeInfo;rw[ay];show wpQ P (match P.info? s with|some i=>_|none=>_) _ L;rw[hj];show wpQ P (if !j.comparable then _ else _) K L;have hc':j.comparable=true:=hc;rw[hc'];exact m9 (D:=9998) hp hs h1 h2 hK
end
section
variable {σ:Type}{F:Fam σ}{Δ: ∀s,Dom (F.R s) (F.D s)} {P:Program} {main:Bool} {fn:FuncId} {N:Nat} {Q:σ->Exit->Env->Frag->Prop} {s:σ} {ε:Env} {L:Frag}
theorem oeN {ops:Array Oper}{i:Nat}{rest:List Nat}{d:Option Tmp}{k:Op}{ot:TypeId}{ps:String}{af:Array Edge}{g:Option (Nat×Bool)}{n:Nat}{post:Value->Frag->Prop}(ho:ops[i]? =some ⟨d,k,ot,ps,af,g⟩)(hy:(L.map (·.1)).Nodup->EO P (Δ s).New N ε L ⟨d,k,ot,ps,af,g⟩ post)(hw:wantedE ops N ε g=some true:=by rfl)(hd:dstOk N d=true:=by rfl)(h: ∀v L',post v L'->OpsE Δ P main fn N ops rest n s Q (putE d v ε) L'):OpsE Δ P main fn N ops (i::rest) (n+1) s Q ε L:=
 j8 fun hnd=>oe ho (hy hnd) hw hd h
end
section
variable {P:Program}{New:Obj->Prop}{N:Nat}{ε:Env}{L:Frag}{d:Option Tmp}{ty:TypeId}{ps:String}{af:Array Edge}{g:Option (Nat×Bool)}
theorem j2 {t b i m:Nat}{x y:Operand}{vs:List Value}{cs:Array Value}{e:TypeId}(hx:ev ε x=some (.pointer (some ⟨b,i,none⟩)):=by rfl)(hy:ev ε y=some (.agg vs.toArray):=by rfl)(hp:vs.all plainV=true:=by rfl)(hl:vs.length=m:=by rfl)(hs:sizeAt P t=some m)(hnd:(L.map (·.1)).Nodup)(hm:(b,true, .cells cs e)∈L)(hi:i+vs.length<=cs.size):
 EO P New N ε L ⟨d, .store t x y,ty,ps,af,g⟩ (fun r L''=>r=undef/\Upd L b (.cells (puts cs i vs) e) L''):=by
 intro a ha;obtain⟨n,hn⟩:=List.getElem?_of_mem hm;exact qJ (ha.ev hx) (ha.ev hy) hs hl hn hi hp ⟨rfl,eg hnd hn⟩
end
end Go.Lo
namespace Go.Proofs.YtejkelcaljmnoaaGreatDoor
open Go.Lo
theorem U3:Tryz.prog.underlying 3=some (.int .i64):=Tryz.underlying3
theorem U5:Tryz.prog.underlying 5=some (.int .u8):=Tryz.underlying5
theorem U9:Tryz.prog.underlying 9=some (.string):=Tryz.underlying9
theorem U22:Tryz.prog.underlying 22=some (.slice 29):=Tryz.underlying22
theorem U32:Tryz.prog.underlying 32=some (.int .u16):=Tryz.underlying32
theorem U38:Tryz.prog.underlying 38=some (.slice 51):=Tryz.underlying38
theorem U42:Tryz.prog.underlying 42=some (.slice 49):=Tryz.underlying42
theorem U44:Tryz.prog.underlying 44=some (.slice 5):=Tryz.underlying44
theorem U47:Tryz.prog.underlying 47=some (.array 8 32):=Tryz.underlying47
theorem U54:Tryz.prog.underlying 54=some (.slice 3):=Tryz.underlying54
theorem U68:Tryz.prog.underlying 68=some (.slice 102):=Tryz.underlying68
theorem U69:Tryz.prog.underlying 69=some (.slice 105):=Tryz.underlying69
theorem U91:Tryz.prog.underlying 91=some (.slice 93):=Tryz.underlying91
theorem U93:Tryz.prog.underlying 93=some (.pointer 99):=Tryz.underlying93
theorem U94:Tryz.prog.underlying 94=some (.array 64 5):=Tryz.underlying94
theorem na:Tryz.prog.underlying 108=some (.slice 158):=Tryz.underlying108
theorem nc:Tryz.prog.underlying 112=some (.array 3 91):=Tryz.underlying112
theorem cY:Tryz.prog.underlying 146=some (.slice 155):=Tryz.underlying146
theorem jq:Tryz.prog.underlying 148=some (.array 3 54):=Tryz.underlying148
theorem qQ:Tryz.prog.underlying 180=some (.pointer 210):=Tryz.underlying180
theorem bS:sizeAt Tryz.prog 3=some 1:=by kernel_rfl
theorem aR:aggAt Tryz.prog 3=some false:=by kernel_rfl
theorem DF:sizeAt Tryz.prog 4=some 1:=by kernel_rfl
theorem DH:aggAt Tryz.prog 4=some false:=by kernel_rfl
theorem dX:sizeAt Tryz.prog 5=some 1:=by kernel_rfl
theorem eX:aggAt Tryz.prog 5=some false:=by kernel_rfl
theorem lM:aggAt Tryz.prog 9=some false:=by kernel_rfl
theorem Cp:sizeAt Tryz.prog 24=some 3:=by kernel_rfl
theorem Cq:aggAt Tryz.prog 24=some true:=by kernel_rfl
theorem iC:sizeAt Tryz.prog 26=some 4:=by kernel_rfl
theorem jN:aggAt Tryz.prog 26=some true:=by kernel_rfl
theorem iD:fieldOff Tryz.prog 26 0=some 0:=by kernel_rfl
theorem eu:fieldOff Tryz.prog 26 1=some 3:=by kernel_rfl
theorem gQ:sizeAt Tryz.prog 29=some 8:=by kernel_rfl
theorem vh:aggAt Tryz.prog 29=some true:=by kernel_rfl
theorem ng:fieldOff Tryz.prog 29 0=some 0:=by kernel_rfl
theorem yf:fieldOff Tryz.prog 29 1=some 1:=by kernel_rfl
theorem rQ:fieldOff Tryz.prog 29 2=some 2:=by kernel_rfl
theorem iE:fieldOff Tryz.prog 29 3=some 6:=by kernel_rfl
theorem rR:fieldOff Tryz.prog 29 4=some 7:=by kernel_rfl
theorem aV:sizeAt Tryz.prog 32=some 1:=by kernel_rfl
theorem dw:aggAt Tryz.prog 32=some false:=by kernel_rfl
theorem vi:aggAt Tryz.prog 35=some false:=by kernel_rfl
theorem vj:sizeAt Tryz.prog 38=some 1:=by kernel_rfl
theorem kR:aggAt Tryz.prog 38=some false:=by kernel_rfl
theorem Cs:sizeAt Tryz.prog 42=some 1:=by kernel_rfl
theorem pc:aggAt Tryz.prog 42=some false:=by kernel_rfl
theorem Ct:sizeAt Tryz.prog 44=some 1:=by kernel_rfl
theorem ma:aggAt Tryz.prog 44=some false:=by kernel_rfl
theorem vk:sizeAt Tryz.prog 47=some 8:=by kernel_rfl
theorem zA:aggAt Tryz.prog 47=some true:=by kernel_rfl
theorem fe:sizeAt Tryz.prog 49=some 15:=by kernel_rfl
theorem pd:aggAt Tryz.prog 49=some true:=by kernel_rfl
theorem bH:fieldOff Tryz.prog 49 0=some 0:=by kernel_rfl
theorem fA:fieldOff Tryz.prog 49 1=some 1:=by kernel_rfl
theorem bM:fieldOff Tryz.prog 49 2=some 2:=by kernel_rfl
theorem kf:fieldOff Tryz.prog 49 3=some 3:=by kernel_rfl
theorem bT:fieldOff Tryz.prog 49 4=some 4:=by kernel_rfl
theorem cn:fieldOff Tryz.prog 49 5=some 5:=by kernel_rfl
theorem da:fieldOff Tryz.prog 49 6=some 6:=by kernel_rfl
theorem aW:fieldOff Tryz.prog 49 7=some 7:=by kernel_rfl
theorem fF:sizeAt Tryz.prog 51=some 4:=by kernel_rfl
theorem vl:aggAt Tryz.prog 51=some true:=by kernel_rfl
theorem dx:sizeAt Tryz.prog 54=some 1:=by kernel_rfl
theorem kS:aggAt Tryz.prog 54=some false:=by kernel_rfl
theorem Cu:sizeAt Tryz.prog 68=some 1:=by kernel_rfl
theorem pe:aggAt Tryz.prog 68=some false:=by kernel_rfl
theorem zB:sizeAt Tryz.prog 69=some 1:=by kernel_rfl
theorem pf:aggAt Tryz.prog 69=some false:=by kernel_rfl
theorem gz:fieldOff Tryz.prog 71 0=some 0:=by kernel_rfl
theorem fB:fieldOff Tryz.prog 71 1=some 1:=by kernel_rfl
theorem eF:sizeAt Tryz.prog 91=some 1:=by kernel_rfl
theorem dz:aggAt Tryz.prog 91=some false:=by kernel_rfl
theorem cM:sizeAt Tryz.prog 93=some 1:=by kernel_rfl
theorem ff:aggAt Tryz.prog 93=some false:=by kernel_rfl
theorem zC:sizeAt Tryz.prog 94=some 64:=by kernel_rfl
theorem zF:aggAt Tryz.prog 94=some true:=by kernel_rfl
theorem fP:sizeAt Tryz.prog 96=some 2:=by kernel_rfl
theorem kT:aggAt Tryz.prog 96=some true:=by kernel_rfl
theorem zG:sizeAt Tryz.prog 97=some 12:=by kernel_rfl
theorem zH:aggAt Tryz.prog 97=some true:=by kernel_rfl
theorem Cv:sizeAt Tryz.prog 99=some 92:=by kernel_rfl
theorem aM:fieldOff Tryz.prog 99 0=some 0:=by kernel_rfl
theorem kg:fieldOff Tryz.prog 99 1=some 15:=by kernel_rfl
theorem nh:fieldOff Tryz.prog 99 2=some 79:=by kernel_rfl
theorem rS:fieldOff Tryz.prog 99 3=some 91:=by kernel_rfl
theorem qR:sizeAt Tryz.prog 102=some 1:=by kernel_rfl
theorem Ak:aggAt Tryz.prog 102=some false:=by kernel_rfl
theorem kU:sizeAt Tryz.prog 105=some 1:=by kernel_rfl
theorem Al:aggAt Tryz.prog 105=some false:=by kernel_rfl
theorem gZ:aggAt Tryz.prog 108=some false:=by kernel_rfl
theorem vm:aggAt Tryz.prog 110=some false:=by kernel_rfl
theorem fQ:fieldOff Tryz.prog 115 0=some 0:=by kernel_rfl
theorem eG:fieldOff Tryz.prog 115 1=some 4:=by kernel_rfl
theorem bX:fieldOff Tryz.prog 115 2=some 5:=by kernel_rfl
theorem kV:fieldOff Tryz.prog 115 3=some 6:=by kernel_rfl
theorem dA:fieldOff Tryz.prog 115 4=some 7:=by kernel_rfl
theorem pj:fieldOff Tryz.prog 115 6=some 15:=by kernel_rfl
theorem cg:fieldOff Tryz.prog 115 7=some 16:=by kernel_rfl
theorem jr:aggAt Tryz.prog 137=some false:=by kernel_rfl
theorem eH:fieldOff Tryz.prog 143 0=some 0:=by kernel_rfl
theorem fg:fieldOff Tryz.prog 143 1=some 1:=by kernel_rfl
theorem fh:fieldOff Tryz.prog 143 2=some 2:=by kernel_rfl
theorem cR:fieldOff Tryz.prog 143 3=some 3:=by kernel_rfl
theorem kW:fieldOff Tryz.prog 145 0=some 0:=by kernel_rfl
theorem fi:fieldOff Tryz.prog 145 1=some 1:=by kernel_rfl
theorem iF:fieldOff Tryz.prog 145 2=some 2:=by kernel_rfl
theorem qS:sizeAt Tryz.prog 146=some 1:=by kernel_rfl
theorem ci:aggAt Tryz.prog 146=some false:=by kernel_rfl
theorem Am:aggAt Tryz.prog 147=some false:=by kernel_rfl
theorem pk:fieldOff Tryz.prog 150 0=some 0:=by kernel_rfl
theorem fR:fieldOff Tryz.prog 150 1=some 4:=by kernel_rfl
theorem bu:fieldOff Tryz.prog 150 2=some 5:=by kernel_rfl
theorem vn:fieldOff Tryz.prog 150 3=some 6:=by kernel_rfl
theorem cB:fieldOff Tryz.prog 150 4=some 7:=by kernel_rfl
theorem iG:fieldOff Tryz.prog 150 5=some 10:=by kernel_rfl
theorem eI:fieldOff Tryz.prog 150 8=some 13:=by kernel_rfl
theorem po:fieldOff Tryz.prog 150 9=some 14:=by kernel_rfl
theorem gA:fieldOff Tryz.prog 150 10=some 15:=by kernel_rfl
theorem An:sizeAt Tryz.prog 151=some 6:=by kernel_rfl
theorem Ao:aggAt Tryz.prog 151=some true:=by kernel_rfl
theorem Ap:sizeAt Tryz.prog 152=some 6:=by kernel_rfl
theorem Aq:aggAt Tryz.prog 152=some true:=by kernel_rfl
theorem aG:fieldOff Tryz.prog 154 0=some 0:=by kernel_rfl
theorem iH:fieldOff Tryz.prog 154 1=some 15:=by kernel_rfl
theorem pp:fieldOff Tryz.prog 154 2=some 79:=by kernel_rfl
theorem vo:fieldOff Tryz.prog 154 3=some 85:=by kernel_rfl
theorem pq:fieldOff Tryz.prog 154 6=some 93:=by kernel_rfl
theorem cq:sizeAt Tryz.prog 155=some 1:=by kernel_rfl
theorem dZ:aggAt Tryz.prog 155=some false:=by kernel_rfl
theorem dg:sizeAt Tryz.prog 158=some 4:=by kernel_rfl
theorem hY:aggAt Tryz.prog 158=some true:=by kernel_rfl
theorem iI:fieldOff Tryz.prog 158 0=some 0:=by kernel_rfl
theorem kX:fieldOff Tryz.prog 158 1=some 1:=by kernel_rfl
theorem pr:fieldOff Tryz.prog 158 2=some 2:=by kernel_rfl
theorem kY:fieldOff Tryz.prog 158 3=some 3:=by kernel_rfl
theorem dh:aggAt Tryz.prog 168=some false:=by kernel_rfl
theorem Ar:sizeAt Tryz.prog 180=some 1:=by kernel_rfl
theorem As:aggAt Tryz.prog 180=some false:=by kernel_rfl
theorem fC:sizeAt Tryz.prog 196=some 3:=by kernel_rfl
theorem ie:aggAt Tryz.prog 196=some true:=by kernel_rfl
theorem vq:aggAt Tryz.prog 199=some false:=by kernel_rfl
theorem vr:fieldOff Tryz.prog 210 1=some 1:=by kernel_rfl
theorem Au:sizeAt Tryz.prog 275=some 1:=by kernel_rfl
end Go.Proofs.YtejkelcaljmnoaaGreatDoor
namespace Go.Proofs.YtejkelcaljmnoaaGreatDoor
open Go.Lo Go.Extern Go.Extern.Rtype
abbrev hnd (t:TypeId):Value:= .pointer (some ⟨11,t,none⟩)
abbrev rty (t:TypeId):Value:= .iface 216 (.agg #[hnd t])
theorem Cw (a:Addr):evR Tryz.prog (ReflectliteValue.mk 182 a 0) []=some (.agg #[hnd 182, .pointer (some a), .int .u64 150],[]):=by kernel_rfl
theorem Cx (a:Addr):evR Tryz.prog (ReflectliteValue.mk 180 a 0) []=some (.agg #[hnd 180, .pointer (some a), .int .u64 150],[]):=by kernel_rfl
theorem yg (a:Addr):evR Tryz.prog (ReflectliteValue.methodAny (ReflectliteValue.valueError "reflectlite.Value.Type" 0) (fun t _ _ _=>ReflectliteType.toType t) #[.agg #[hnd 182, .pointer (some a), .int .u64 150]]) []=some (rty 182,[]):=by kernel_rfl
theorem yh:evR Tryz.prog ((ReflectliteType.abiMethod fun t=>(fun a:Nat=>Value.int IntKind.u8 (a:Int))<$>Rtype.kind t) #[hnd 182]) []=some (.int .u8 22,[]):=by kernel_rfl
theorem yj:evR Tryz.prog ((ReflectliteType.abiMethod fun t=>(fun a:Nat=>Value.int IntKind.u8 (a:Int))<$>Rtype.kind t) #[hnd 180]) []=some (.int .u8 22,[]):=by kernel_rfl
theorem yk:evR Tryz.prog (ReflectliteType.method ReflectliteType.elem #[.agg #[hnd 182]]) []=some (rty 180,[]):=by kernel_rfl
theorem lN:evR Tryz.prog (ReflectliteType.relation "Implements" ReflectliteType.implements_ #[.agg #[hnd 180],rty 168]) []=some (.bool true,[]):=by kernel_rfl
theorem tA (v:Value):evR Tryz.prog (ReflectliteType.typeOf #[.iface 255 v]) []=some (rty 255,[]):=by kernel_rfl
theorem tB (v:Value):evR Tryz.prog (ReflectliteType.typeOf #[.iface 180 v]) []=some (rty 180,[]):=by kernel_rfl
theorem lO:evR Tryz.prog (ReflectliteType.relation "AssignableTo" ReflectliteType.assignableTo #[.agg #[hnd 255],rty 180]) []=some (.bool false,[]):=by kernel_rfl
theorem lP:evR Tryz.prog (ReflectliteType.relation "AssignableTo" ReflectliteType.assignableTo #[.agg #[hnd 180],rty 180]) []=some (.bool true,[]):=by kernel_rfl
theorem vt (a p:Addr):evR Tryz.prog (ReflectliteValue.method (ReflectliteValue.valueError "reflectlite.Value.IsNil" 0) ReflectliteValue.isNil #[.agg #[hnd 182, .pointer (some a), .int .u64 150]]) [.pointer (some p)]=some (.bool false,[a]):=by kernel_rfl
theorem vu (a p:Addr):evR Tryz.prog (ReflectliteValue.method (ReflectliteValue.valueError "reflectlite.Value.Elem" 0) ReflectliteValue.elem #[.agg #[hnd 182, .pointer (some a), .int .u64 150]]) [.pointer (some p)]=some (.agg #[hnd 180, .pointer (some p), .int .u64 406],[a]):=by kernel_rfl
theorem tC (p:Addr):evR Tryz.prog (ReflectliteValue.parts (.agg #[hnd 180, .pointer (some p), .int .u64 406])) []=some (some (180,p,406),[]):=by kernel_rfl
theorem vv (p:Addr):evR Tryz.prog (ReflectliteValue.parts (.agg #[hnd 180, .pointer (some p), .int .u64 150])) []=some (some (180,p,150),[]):=by kernel_rfl
theorem lQ:evR Tryz.prog (ReflectliteType.method (fun t=>do noPackHeld "Comparable" t;pure (.bool (<-typeInfo t).comparable)) #[.agg #[hnd 255]]) []=some (.bool true,[]):=by kernel_rfl
theorem zI (h:Value):evR Tryz.prog (Go.method (Tryz.prog.types.size+Made.depth) 216 (.agg #[h]) "Kind") []=some ((189,h),[]):=by kernel_rfl
theorem Cy (h:Value):evR Tryz.prog (Go.method (Tryz.prog.types.size+Made.depth) 216 (.agg #[h]) "Elem") []=some ((200, .agg #[h]),[]):=by kernel_rfl
theorem pt (h:Value):evR Tryz.prog (Go.method (Tryz.prog.types.size+Made.depth) 216 (.agg #[h]) "Implements") []=some ((201, .agg #[h]),[]):=by kernel_rfl
theorem jO (h:Value):evR Tryz.prog (Go.method (Tryz.prog.types.size+Made.depth) 216 (.agg #[h]) "AssignableTo") []=some ((198, .agg #[h]),[]):=by kernel_rfl
theorem pu (h:Value):evR Tryz.prog (Go.method (Tryz.prog.types.size+Made.depth) 216 (.agg #[h]) "Comparable") []=some ((199, .agg #[h]),[]):=by kernel_rfl
section
variable {N:Nat}{ε:Env}{L:Frag}{d:Option Tmp}{ty:TypeId}{ps:String}{af:Array Edge}{g:Option (Nat×Bool)}{x:Operand}{w:Value}
theorem Cz (hx:ev ε x=some (.iface 255 w):=by rfl):EY Tryz.prog N ε L ⟨d, .typeAssert x 168 221 true,ty,ps,af,g⟩ (.tuple #[.nilIface, .bool false]):=vg (z:= .nilIface) Tryz.underlying221 (by kernel_rfl) (by kernel_rfl) hx
theorem zJ (hx:ev ε x=some (.iface 255 w):=by rfl):EY Tryz.prog N ε L ⟨d, .typeAssert x 168 224 true,ty,ps,af,g⟩ (.tuple #[.nilIface, .bool false]):=vg (z:= .nilIface) Tryz.underlying224 (by kernel_rfl) (by kernel_rfl) hx
theorem zK (hx:ev ε x=some (.iface 255 w):=by rfl):EY Tryz.prog N ε L ⟨d, .typeAssert x 168 226 true,ty,ps,af,g⟩ (.tuple #[.nilIface, .bool false]):=vg (z:= .nilIface) Tryz.underlying226 (by kernel_rfl) (by kernel_rfl) hx
theorem CB (hx:ev ε x=some (.iface 255 w):=by rfl):EY Tryz.prog N ε L ⟨d, .typeAssert x 168 240 true,ty,ps,af,g⟩ (.tuple #[.nilIface, .bool false]):=vg (z:= .nilIface) Tryz.underlying240 (by kernel_rfl) (by kernel_rfl) hx
theorem CC (hx:ev ε x=some (.iface 180 w):=by rfl):EY Tryz.prog N ε L ⟨d, .typeAssert x 168 240 true,ty,ps,af,g⟩ (.tuple #[.nilIface, .bool false]):=vg (z:= .nilIface) Tryz.underlying240 (by kernel_rfl) (by kernel_rfl) hx
end
theorem CE (v:Value):evR Tryz.prog (Instr.typeAssert (.iface 180 v) 168 224 true) []=some (.tuple #[.iface 180 v, .bool true],[]):=by kernel_rfl
theorem qT (v w:Value):evR Tryz.prog (Op.equal 168 (.iface 180 v) (.iface 255 w)) []=some (false,[]):=by kernel_rfl
end Go.Proofs.YtejkelcaljmnoaaGreatDoor
namespace Go.Proofs.YtejkelcaljmnoaaGreatDoor
open Go.Conc Go.Hx Go.Lo
theorem a5:Tryz.prog.follows .mixedOrders=true:=by first|rfl|kernel_rfl
def put {α:Type}(f:Nat->α)(i:Nat)(v:α):Nat->α:=fun j=>if j=i then v else f j
structure PS where
 id:Nat
 par:Nat
 st:Nat
 stat:Int
 at_:Nat
 lv:Nat
 used:Nat
 r:Nat->Int
 m:Nat->Int
 f:Nat->Nat×Nat
 til:Int
def pcells (x:PS):Array Value:=List.toArray
 ((.int .i64 x.id:: .int .i64 x.par:: .int .i64 x.st:: .int .i64 x.stat:: .int .i64 x.at_:: .int .i64 x.lv:: .int .i64 x.used::((List.range 8).map (fun i=> .int .u16 (x.r i))++((List.range 64).map (fun i=> .int .u8 (x.m i))++
  ((List.range 6).flatMap (fun i=>[.int .i64 (x.f i).1, .int .i64 (x.f i).2])++[.int .i64 x.til])))):List Value)
structure KS where
 sl:Nat->Int
 bo:Int
 prog:Value
 procs:Value
 last:Nat
 row:Nat->Value
 by_:Nat->Value
 wt:Value
 now:Int
def kcells (k:KS):Array Value:=
 List.toArray ([.int .i64 (k.sl 0), .int .i64 (k.sl 1), .int .i64 (k.sl 2), .int .i64 k.bo,k.prog,k.procs, .int .i64 k.last,k.row 0,k.row 1,k.row 2,k.by_ 0,k.by_ 1,k.by_ 2,k.by_ 3,k.by_ 4,k.wt, .int .i64 k.now]:List Value)
abbrev pb (b:Nat)(x:PS):Nat×Bool×Obj:=(b,true, .cells (pcells x) 99)
abbrev kb (b:Nat)(k:KS):Nat×Bool×Obj:=(b,true, .cells (kcells k) 115)
abbrev ptr (b:Nat):Value:= .pointer (some ⟨b,0,none⟩)
section
variable (x:PS)
theorem rT (v:Nat):(pcells x).setIfInBounds 4 (.int .i64 v)=pcells {x with at_:=v}:=rfl
theorem tF (v:Nat):(pcells x).setIfInBounds 6 (.int .i64 v)=pcells {x with used:=v}:=rfl
theorem ym (v:Nat):(pcells x).setIfInBounds 0 (.int .i64 v)=pcells {x with id:=v}:=rfl
theorem bL:(pcells x).size=92:=rfl
end
theorem bU (k:KS):(kcells k).size=17:=rfl
end Go.Proofs.YtejkelcaljmnoaaGreatDoor
set_option maxRecDepth 100000
namespace Go.Proofs.YtejkelcaljmnoaaGreatDoor
open Go.Lo Go.Extern Go.Extern.Rtype
section
variable {New:Obj->Prop}{N:Nat}{ε:Env}{L:Frag}{d:Option Tmp}{ty:TypeId}{ps:String}{af:Array Edge}{g:Option (Nat×Bool)}{args:Array Operand}{ats:Array TypeId}
theorem zL {v:Value}(hx:args.toList.map (ev ε)=[Value.iface 255 v].map some:=by rfl):EY Tryz.prog N ε L ⟨d, .call ⟨.value (.func 142),args,ats⟩,ty,ps,af,g⟩ (rty 255):=
 kP (e:=ReflectliteType.typeOf) hx Tryz.func142 (by kernel_rfl) (bm (tA v) rfl)
theorem CF {v:Value}(hx:args.toList.map (ev ε)=[Value.iface 180 v].map some:=by rfl):EY Tryz.prog N ε L ⟨d, .call ⟨.value (.func 142),args,ats⟩,ty,ps,af,g⟩ (rty 180):=
 kP (e:=ReflectliteType.typeOf) hx Tryz.func142 (by kernel_rfl) (bm (tB v) rfl)
abbrev rval (t:TypeId)(a:Nat)(fl:Int):Value:= .agg #[hnd t,ptr a, .int .u64 fl]
theorem CG {a:Nat}(hx:args.toList.map (ev ε)=[rval 182 a 150].map some:=by rfl):EY Tryz.prog N ε L ⟨d, .call ⟨.value (.func 120),args,ats⟩,ty,ps,af,g⟩ (rty 182):=
 kP (e:=ReflectliteValue.methodAny (ReflectliteValue.valueError "reflectlite.Value.Type" 0) (fun t _ _ _=>ReflectliteType.toType t)) hx Tryz.func120 (by kernel_rfl) (bm (yg _) rfl)
theorem CH {a p:Nat}(hp:At L a 0 (ptr p))(hx:args.toList.map (ev ε)=[rval 182 a 150].map some:=by rfl):EY Tryz.prog N ε L ⟨d, .call ⟨.value (.func 121),args,ats⟩,ty,ps,af,g⟩ (.bool false):=
 kP (e:=ReflectliteValue.method (ReflectliteValue.valueError "reflectlite.Value.IsNil" 0) ReflectliteValue.isNil) hx Tryz.func121 (by kernel_rfl) (m8 (vt _ _) hp rfl)
theorem DI {a p:Nat}(hp:At L a 0 (ptr p))(hx:args.toList.map (ev ε)=[rval 182 a 150].map some:=by rfl):EY Tryz.prog N ε L ⟨d, .call ⟨.value (.func 143),args,ats⟩,ty,ps,af,g⟩ (rval 180 p 406):=
 kP (e:=ReflectliteValue.method (ReflectliteValue.valueError "reflectlite.Value.Elem" 0) ReflectliteValue.elem) hx Tryz.func143 (by kernel_rfl) (m8 (vu _ _) hp rfl)
theorem pv {x:Operand}(hx:ev ε x=some (rty 182):=by rfl):EY Tryz.prog N ε L ⟨d, .call ⟨.invoke x "Kind", #[],ats⟩,ty,ps,af,g⟩ (.int .u8 22):=
 kQ (vs:=[]) (f:=189) (rc:=hnd 182) (e:=ReflectliteType.abiMethod fun t=>(fun a:Nat=>Value.int IntKind.u8 (a:Int))<$>Rtype.kind t) hx (by rfl) (bm (zI _) rfl) Tryz.func189 (by kernel_rfl) (bm yh rfl)
theorem pw {x:Operand}(hx:ev ε x=some (rty 180):=by rfl):EY Tryz.prog N ε L ⟨d, .call ⟨.invoke x "Kind", #[],ats⟩,ty,ps,af,g⟩ (.int .u8 22):=
 kQ (vs:=[]) (f:=189) (rc:=hnd 180) (e:=ReflectliteType.abiMethod fun t=>(fun a:Nat=>Value.int IntKind.u8 (a:Int))<$>Rtype.kind t) hx (by rfl) (bm (zI _) rfl) Tryz.func189 (by kernel_rfl) (bm yj rfl)
theorem px {x:Operand}(hx:ev ε x=some (rty 182):=by rfl):EY Tryz.prog N ε L ⟨d, .call ⟨.invoke x "Elem", #[],ats⟩,ty,ps,af,g⟩ (rty 180):=
 kQ (vs:=[]) (f:=200) (rc:= .agg #[hnd 182]) (e:=ReflectliteType.method ReflectliteType.elem) hx (by rfl) (bm (Cy _) rfl) Tryz.func200 (by kernel_rfl) (bm yk rfl)
theorem zM {x:Operand}(hx:ev ε x=some (rty 180):=by rfl)(ha:args.toList.map (ev ε)=[rty 168].map some:=by rfl):EY Tryz.prog N ε L ⟨d, .call ⟨.invoke x "Implements",args,ats⟩,ty,ps,af,g⟩ (.bool true):=
 kQ (f:=201) (rc:= .agg #[hnd 180]) (e:=ReflectliteType.relation "Implements" ReflectliteType.implements_) hx ha (bm (pt _) rfl) Tryz.func201 (by kernel_rfl) (bm lN rfl)
theorem yn {x:Operand}(hx:ev ε x=some (rty 255):=by rfl)(ha:args.toList.map (ev ε)=[rty 180].map some:=by rfl):EY Tryz.prog N ε L ⟨d, .call ⟨.invoke x "AssignableTo",args,ats⟩,ty,ps,af,g⟩ (.bool false):=
 kQ (f:=198) (rc:= .agg #[hnd 255]) (e:=ReflectliteType.relation "AssignableTo" ReflectliteType.assignableTo) hx ha (bm (jO _) rfl) Tryz.func198 (by kernel_rfl) (bm lO rfl)
theorem yo {x:Operand}(hx:ev ε x=some (rty 180):=by rfl)(ha:args.toList.map (ev ε)=[rty 180].map some:=by rfl):EY Tryz.prog N ε L ⟨d, .call ⟨.invoke x "AssignableTo",args,ats⟩,ty,ps,af,g⟩ (.bool true):=
 kQ (f:=198) (rc:= .agg #[hnd 180]) (e:=ReflectliteType.relation "AssignableTo" ReflectliteType.assignableTo) hx ha (bm (jO _) rfl) Tryz.func198 (by kernel_rfl) (bm lP rfl)
theorem DJ {x:Operand}(hx:ev ε x=some (rty 255):=by rfl):EY Tryz.prog N ε L ⟨d, .call ⟨.invoke x "Comparable", #[],ats⟩,ty,ps,af,g⟩ (.bool true):=
 kQ (vs:=[]) (f:=199) (rc:= .agg #[hnd 255]) (e:=ReflectliteType.method (fun t=>do noPackHeld "Comparable" t;pure (.bool (<-typeInfo t).comparable))) hx (by rfl) (bm (pu _) rfl) Tryz.func199 (by kernel_rfl) (bm lQ rfl)
theorem kh {α:Type}{Q:α->Frag->Prop}{s:Sem α}{r:α}(h:evR Tryz.prog s []=some (r,[]))(hK:Q r L):wpS Tryz.prog New s Q L:=eD (K:=(· =r)) (fun _ e=>by rw[e];exact hK) s (bm h rfl)
theorem yp {α:Type}{Q:α->Frag->Prop}{s:Sem α}{r:α}{v:Value}{b i:Nat}(h:evR Tryz.prog s [v]=some (r,[⟨b,i,none⟩]))(hv:At L b i v)(hK:Q r L):wpS Tryz.prog New s Q L:=eD (K:=(· =r)) (fun _ e=>by rw[e];exact hK) s (m8 h hv rfl)
theorem rU {t:TypeId}{p:Option Addr}(ht: ∀a,evR Tryz.prog (ReflectliteValue.mk t a 0) []=some (.agg #[hnd t, .pointer (some a), .int .u64 150],[])) (hN:New (.cells #[.pointer p] t)):wpS Tryz.prog New (ReflectliteValue.unpack (.iface t (.pointer p))) (fun r L''=> ∃b,(∀t∈L,t.1≠b)/\r=rval t b 150/\L''=(b,true, .cells #[.pointer p] t)::L) L:=by
 show wpS Tryz.prog New (newVar t (.pointer p)>>=fun a=>ReflectliteValue.mk t a 0) _ L;rw[ax];show wpS Tryz.prog New (newObj (.cells #[.pointer p] t)>>=fun b=>pure (⟨b,0,none⟩:Addr)) _ L;rw[ax];refine cf hN fun b hb=> ?_;rw[bz];exact kh (ht _) ⟨b,hb,rfl,rfl⟩
theorem zN {p:Option Addr}(hN:New (.cells #[.pointer p] 182))(hx:args.toList.map (ev ε)=[Value.iface 182 (.pointer p)].map some:=by rfl):EO Tryz.prog New N ε L ⟨d, .call ⟨.value (.func 119),args,ats⟩,ty,ps,af,g⟩ (fun r L''=> ∃b,(∀t∈L,t.1≠b)/\r=rval 182 b 150/\L''=(b,true, .cells #[.pointer p] 182)::L):=
 vf (e:=fun args=>ReflectliteValue.unpack (args.getD 0 (.tuple #[]))) hx Tryz.func119 (by kernel_rfl) (rU Cw hN)
theorem CI {p:Option Addr}(hN:New (.cells #[.pointer p] 180))(hx:args.toList.map (ev ε)=[Value.iface 180 (.pointer p)].map some:=by rfl):EO Tryz.prog New N ε L ⟨d, .call ⟨.value (.func 119),args,ats⟩,ty,ps,af,g⟩ (fun r L''=> ∃b,(∀t∈L,t.1≠b)/\r=rval 180 b 150/\L''=(b,true, .cells #[.pointer p] 180)::L):=
 vf (e:=fun args=>ReflectliteValue.unpack (args.getD 0 (.tuple #[]))) hx Tryz.func119 (by kernel_rfl) (rU Cx hN)
theorem CJ:evR Tryz.prog (directlyAssignable 180 180) []=some (true,[]):=by kernel_rfl
theorem CK (a:Addr)(v:Value):evR Tryz.prog (loadVar 180 a) [v]=some (v,[a]):=by kernel_rfl
theorem DK {a b:Nat}{p:Option Addr}{cs:Array Value}{e:TypeId}(hnd:(L.map (·.1)).Nodup)(hv:At L b 0 (.pointer p))(hm:(a,true, .cells cs e)∈L)(hi:0<cs.size)(hx:args.toList.map (ev ε)=[rval 180 a 406,rval 180 b 150].map some:=by rfl):EO Tryz.prog New N ε L ⟨d, .call ⟨.value (.func 144),args,ats⟩,ty,ps,af,g⟩ (fun r L''=>r= .tuple #[]/\Upd L a (.cells (cs.setIfInBounds 0 (.pointer p)) e) L''):=by
 refine vf (e:=ReflectliteValue.set) hx Tryz.func144 (by kernel_rfl) ?_;obtain⟨n,hn⟩:=List.getElem?_of_mem hm;show wpS Tryz.prog New (ReflectliteValue.parts (rval 180 a 406)>>=fun v=>_) _ L;rw[ax];refine kh (tC _) ?_;show wpS Tryz.prog New (ReflectliteValue.parts (rval 180 b 150)>>=fun v=>_) _ L;rw[ax];refine kh (vv _) ?_;show wpS Tryz.prog New (loadVar 180 ⟨b,0,none⟩>>=fun v=>_) _ L;rw[ax];refine yp (CK _ _) hv ?_;show wpS Tryz.prog New (directlyAssignable 180 180>>=fun v=>_) _ L;rw[ax];refine kh CJ ?_;show wpS Tryz.prog New (storeVar 180 ⟨a,0,none⟩ (.pointer p)>>=fun v=>_) _ L;rw[ax];unfold storeVar;rw[ax,bO Ar];show wpS Tryz.prog New (storeCells ⟨a,0,none⟩ [.pointer p]) _ L;refine cA hn (by simp;omega) rfl ?_;exact⟨rfl,eg hnd hn⟩
end
end Go.Proofs.YtejkelcaljmnoaaGreatDoor
namespace Go.Proofs.YtejkelcaljmnoaaGreatDoor
open Go.Conc Go.Hx Go.Lo
structure Sl where
 b:Option Nat
 junk:List Value
def slv (a:Sl)(n:Nat):Value:=match a.b with
 |none=> .slice none 0 0
 |some b=> .slice (some ⟨b,0,none⟩) n (n+a.junk.length)
def slOk (a:Sl)(xs:List Value)(e:TypeId)(L:Frag):Prop:=match a.b with
 |none=>xs=[]/\a.junk=[]
 |some b=>(b,true,Obj.cells (xs++a.junk).toArray e)∈L
structure St where
 sl:Nat->Int
 bo:Int
 pn:Nat
 pg:Nat->Nat->Int
 ps:List (Nat×PS)
 last:Nat
 rows:Nat->List Nat
 by_:Nat->List Int
 wt:List ((Nat×Nat)×List Nat)
 now:Nat
structure Lay where
 g:Nat
 gcap:Nat
 gc:Array Value
 a:Nat->Sl
 y:Nat->Sl
 wt:Nat
 born:List Nat
 clock:Nat
def slot (k:Nat×Nat):Nat:=100+10*k.1+k.2
def kst (A:Lay)(S:St):KS:=⟨S.sl,S.bo, .slice (some ⟨A.g,0,none⟩) S.pn A.gcap,slv (A.a 0) S.ps.length,S.last,fun l=>slv (A.a (l+1)) (S.rows l).length,fun i=>slv (A.y i) (S.by_ i).length, .map (some A.wt),S.now⟩
def keyv (k:Nat×Nat):Value:= .agg #[.int .i64 k.1, .int .i64 k.2]
def went (A:Lay)(e:((Nat×Nat)×List Nat)×Nat):MapEntry:=⟨keyv e.1.1,slv (A.a (slot e.1.1)) e.1.2.length,e.2⟩
def wobj (A:Lay)(S:St):Obj:= .map ((S.wt.zip A.born).map (went A)).toArray A.clock
structure Rep (K:Nat)(A:Lay)(S:St)(F:Frag)(L:Frag):Prop where
 fn:Fun L
 k:kb K (kst A S)∈L
 g:(A.g,true,Obj.cells A.gc 158)∈L
 gv: ∀i j,i<S.pn->j<4->A.gc[4*i+j]? =some (.int .u8 (S.pg i j))
 p: ∀q∈S.ps,pb q.1 q.2∈L
 pn:(S.ps.map (·.1)).Nodup
 p8:S.ps.length<=8
 pa:slOk (A.a 0) (S.ps.map fun q=>ptr q.1) 93 L
 rw: ∀l,l<3->slOk (A.a (l+1)) ((S.rows l).map ptr) 93 L
 ya: ∀i,i<5->slOk (A.y i) ((S.by_ i).map fun v=> .int .u8 v) 5 L
 w:(A.wt,true,wobj A S)∈L
 wl:A.born.length=S.wt.length
 bn:A.born.Nodup
 bc: ∀x∈A.born,x<A.clock
 wa: ∀e∈S.wt,slOk (A.a (slot e.1)) (e.2.map ptr) 93 L
 d: ∀i j,i≠j->(A.a i).b≠none->(A.a i).b≠(A.a j).b
 dy: ∀i j,i≠j->(A.y i).b≠none->(A.y i).b≠(A.y j).b
 al: ∀i c,(A.a i).b=some c-> ∃xs,(c,true,Obj.cells xs 93)∈L
 yl: ∀i c,(A.y i).b=some c-> ∃xs,(c,true,Obj.cells xs 5)∈L
 fr: ∀t∈F,t∈L
 fd: ∀t∈F,t.1≠K/\(∀q∈S.ps,t.1≠q.1)/\(∀i,(A.a i).b≠some t.1)/\(∀i,(A.y i).b≠some t.1)/\t.1≠A.wt
def St.setP (S:St)(b:Nat)(x:PS):St:={S with ps:=S.ps.map fun q=>if q.1=b then(b,x) else q}
section
variable {K:Nat}{A:Lay}{S:St}{F L L':Frag}
theorem _root_.Go.Lo.Fun.ne {L:Frag}{b b':Nat}{fl fl':Bool}{o o':Obj}(h:Fun L)(h1:(b,fl,o)∈L)(h2:(b',fl',o')∈L)(hne:o≠o'):b≠b':=by
 rintro rfl;exact hne (h _ _ _ _ _ h1 h2).2
theorem aQ {c c':Array Value}{t t':TypeId}{f f':Nat×Nat}(h:t≠t'):Obj.cells c t f≠Obj.cells c' t' f':=by
 intro e;cases e;exact h rfl
theorem slOk.mono {a:Sl}{xs:List Value}{e:TypeId}(h:slOk a xs e L)(hs: ∀b,a.b=some b-> ∀o,(b,true,o)∈L->(b,true,o)∈L'):slOk a xs e L':=by
 unfold slOk at*
 split
 ·rename_i hb;rw[hb] at h;exact h
 ·rename_i b hb;rw[hb] at h;exact hs b hb _ h
theorem slOk.mem {a:Sl}{xs:List Value}{e:TypeId}(h:slOk a xs e L){b:Nat}(hb:a.b=some b):(b,true,Obj.cells (xs++a.junk).toArray e)∈L:=by
 unfold slOk at h;rw[hb] at h;exact h
theorem bY {a:Sl}{xs:List Value}{e:TypeId}(h:slOk a xs e L): ∃base cap,slv a xs.length= .slice base xs.length cap/\ ∀i v,xs[i]? =some v-> ∃b,a.b=some b/\base=some ⟨b,0,none⟩/\At L b i v:=by
 unfold slv;cases hb:a.b with
 |none=>
  unfold slOk at h;rw[hb] at h;obtain⟨rfl,_⟩:=h;exact⟨none,0,rfl,fun i v hv=>by simp at hv⟩
 |some b=>
  refine⟨some ⟨b,0,none⟩,_,rfl,fun i v hv=>⟨b,rfl,rfl,true,_,_,_,h.mem hb, ?_⟩⟩;have hlt:=(List.getElem?_eq_some_iff.1 hv).1;rw[List.getElem?_toArray,List.getElem?_append_left hlt];exact hv
theorem Rep.of (h:Rep K A S F L)(hf:Fun L')(hs: ∀t∈L,t∈L'):Rep K A S F L':=
 {h with
  fn:=hf,k:=hs _ h.k,g:=hs _ h.g,p:=fun q hq=>hs _ (h.p q hq),w:=hs _ h.w,fr:=fun t ht=>hs _ (h.fr t ht)
  pa:=h.pa.mono fun _ _ _ x=>hs _ x,rw:=fun l hl=>(h.rw l hl).mono fun _ _ _ x=>hs _ x,ya:=fun i hi=>(h.ya i hi).mono fun _ _ _ x=>hs _ x,wa:=fun e he=>(h.wa e he).mono fun _ _ _ x=>hs _ x
  al:=fun i c hc=>(h.al i c hc).imp fun _ x=>hs _ x,yl:=fun i c hc=>(h.yl i c hc).imp fun _ x=>hs _ x}
theorem Rep.add (h:Rep K A S F L){b:Nat}{o:Obj}(u:Add L b o L'):Rep K A S F L':=h.of u.fn u.sub
theorem Rep.less (h:Rep K A S F L){F':Frag}(hs: ∀t∈F',t∈F):Rep K A S F' L:={h with fr:=fun t ht=>h.fr t (hs t ht),fd:=fun t ht=>h.fd t (hs t ht)}
theorem a6 {l:List (Nat×PS)}(h:(l.map (·.1)).Nodup){b:Nat}{x y:PS}(h1:(b,x)∈l)(h2:(b,y)∈l):x=y:=by
 obtain⟨i,hi⟩:=List.getElem?_of_mem h1;obtain⟨j,hj⟩:=List.getElem?_of_mem h2;have e1:(l.map (·.1))[i]? =some b:=by simp[hi]
 have e2:(l.map (·.1))[j]? =some b:=by simp[hj]
 obtain⟨hl1,he1⟩:=List.getElem?_eq_some_iff.1 e1;obtain⟨hl2,he2⟩:=List.getElem?_eq_some_iff.1 e2;have hij:i=j:=by
  rcases Nat.lt_trichotomy i j with g|g|g
  ·exact absurd (he1.trans he2.symm) (List.pairwise_iff_getElem.1 h i j hl1 hl2 g)
  ·exact g
  ·exact absurd (he2.trans he1.symm) (List.pairwise_iff_getElem.1 h j i hl2 hl1 g)
 subst hij;rw[hi] at hj;simpa using hj
theorem ba (S:St)(b:Nat)(x:PS):(S.setP b x).ps.map (·.1)=S.ps.map (·.1):=by
 simp only[St.setP,List.map_map];apply List.map_congr_left;intro q _;simp only[Function.comp]
 split
 ·rename_i e;exact e.symm
 ·rfl
theorem fj (S:St)(b:Nat)(x:PS):(S.setP b x).ps.length=S.ps.length:=by simp[St.setP]
theorem aO {S:St}{b:Nat}{x:PS}{q:Nat×PS}(h:q∈(S.setP b x).ps):q=(b,x)\/(q∈S.ps/\q.1≠b):=by
 simp only[St.setP,List.mem_map] at h;obtain⟨r,hr,e⟩:=h
 split at e
 ·exact .inl e.symm
 ·rename_i hne;exact .inr ⟨e▸hr,e▸hne⟩
theorem ar {S:St}{b:Nat}{x y:PS}(h:(b,y)∈S.ps):(b,x)∈(S.setP b x).ps:=by
 simp only[St.setP,List.mem_map];exact⟨(b,y),h,by simp⟩
theorem vw (S:St)(b:Nat)(x:PS):(S.setP b x).ps.map (fun q=>ptr q.1)=S.ps.map fun q=>ptr q.1:=by
 have:=congrArg (List.map ptr) (ba S b x);rw[List.map_map,List.map_map] at this;exact this
theorem vx (A:Lay)(S:St)(b:Nat)(x:PS):kst A (S.setP b x)=kst A S:=by unfold kst;rw[fj];rfl
theorem Rep.setP (h:Rep K A S F L){b:Nat}{x x':PS}(hb:(b,x)∈S.ps)(u:Upd L b (.cells (pcells x') 99) L'):Rep K A (S.setP b x') F L':=by
 have hbm:=h.p _ hb;have hk:K≠b:=h.fn.ne h.k hbm (aQ (by decide));have arr: ∀(a:Sl)(xs:List Value)(e:TypeId),e≠99->slOk a xs e L->slOk a xs e L':=fun a xs e he ha=>by
  refine ha.mono fun c hc o ho=>u.ne _ ho ?_;exact h.fn.ne (ha.mem hc) hbm (aQ he)
 exact{h with
  fn:=u.fn
  k:=by rw[vx];exact u.ne _ h.k hk
  g:=u.ne _ h.g (h.fn.ne h.g hbm (aQ (by decide)))
  p:=fun q hq=>by
   rcases aO hq with rfl|⟨h1,h2⟩
   ·exact u.self
   ·exact u.ne _ (h.p q h1) h2
  pn:=by rw[ba];exact h.pn
  p8:=by rw[fj];exact h.p8
  pa:=by rw[vw];exact arr _ _ _ (by decide) h.pa
  rw:=fun l hl=>arr _ _ _ (by decide) (h.rw l hl)
  ya:=fun i hi=>arr _ _ _ (by decide) (h.ya i hi)
  w:=u.ne _ h.w (h.fn.ne h.w hbm (by simp[wobj]))
  wa:=fun e he=>arr _ _ _ (by decide) (h.wa e he)
  al:=fun i c hc=>by obtain⟨xs,hx⟩:=h.al i c hc;exact⟨xs,u.ne _ hx (h.fn.ne hx hbm (aQ (by decide)))⟩
  yl:=fun i c hc=>by obtain⟨xs,hx⟩:=h.yl i c hc;exact⟨xs,u.ne _ hx (h.fn.ne hx hbm (aQ (by decide)))⟩
  fr:=fun t ht=>u.ne _ (h.fr t ht) ((h.fd t ht).2.1 _ hb)
  fd:=fun t ht=>⟨(h.fd t ht).1,fun q hq=>by
   rcases aO hq with rfl|⟨h1,h2⟩
   ·exact(h.fd t ht).2.1 (b,x) hb
   ·exact(h.fd t ht).2.1 q h1,(h.fd t ht).2.2⟩}
theorem Rep.setK (h:Rep K A S F L){S':St}(hps:S'.ps=S.ps)(hrw:S'.rows=S.rows)(hby:S'.by_=S.by_)(hwt:S'.wt=S.wt)(hpn:S'.pn=S.pn)(hpg:S'.pg=S.pg)(u:Upd L K (.cells (kcells (kst A S')) 115) L'):Rep K A S' F L':=by
 have arr: ∀(a:Sl)(xs:List Value)(e:TypeId),e≠115->slOk a xs e L->slOk a xs e L':=fun a xs e he ha=>by
  refine ha.mono fun c hc o ho=>u.ne _ ho ?_;exact h.fn.ne (ha.mem hc) h.k (aQ he)
 exact{h with
  fn:=u.fn
  k:=u.self
  g:=u.ne _ h.g (h.fn.ne h.g h.k (aQ (by decide)))
  gv:=by rw[hpn,hpg];exact h.gv
  p:=fun q hq=>u.ne _ (h.p q (hps▸hq)) (h.fn.ne (h.p q (hps▸hq)) h.k (aQ (by decide)))
  pn:=by rw[hps];exact h.pn
  p8:=by rw[hps];exact h.p8
  pa:=by rw[hps];exact arr _ _ _ (by decide) h.pa
  rw:=fun l hl=>by rw[hrw];exact arr _ _ _ (by decide) (h.rw l hl)
  ya:=fun i hi=>by rw[hby];exact arr _ _ _ (by decide) (h.ya i hi)
  w:=by
   have:wobj A S'=wobj A S:=by unfold wobj;rw[hwt]
   rw[this];exact u.ne _ h.w (h.fn.ne h.w h.k (by simp[wobj]))
  wl:=by rw[hwt];exact h.wl
  wa:=fun e he=>arr _ _ _ (by decide) (h.wa e (hwt▸he))
  al:=fun i c hc=>by obtain⟨xs,hx⟩:=h.al i c hc;exact⟨xs,u.ne _ hx (h.fn.ne hx h.k (aQ (by decide)))⟩
  yl:=fun i c hc=>by obtain⟨xs,hx⟩:=h.yl i c hc;exact⟨xs,u.ne _ hx (h.fn.ne hx h.k (aQ (by decide)))⟩
  fr:=fun t ht=>u.ne _ (h.fr t ht) (h.fd t ht).1
  fd:=fun t ht=>⟨(h.fd t ht).1,fun q hq=>(h.fd t ht).2.1 q (hps▸hq),(h.fd t ht).2.2⟩}
def Lay.setA (A:Lay)(i:Nat)(a:Sl):Lay:={A with a:=put A.a i a}
structure LRel (A A':Lay):Prop where
 a: ∀i,i=0\/3<i->A'.a i=A.a i
 y:A'.y=A.y
 w:A'.wt=A.wt/\A'.born=A.born/\A'.clock=A.clock
 g:A'.g=A.g/\A'.gcap=A.gcap/\A'.gc=A.gc
theorem LRel.refl (A:Lay):LRel A A:=⟨fun _ _=>rfl,rfl,⟨rfl,rfl,rfl⟩,⟨rfl,rfl,rfl⟩⟩
theorem LRel.trans {A B C:Lay}(h:LRel A B)(k:LRel B C):LRel A C:=⟨fun i hi=>(k.a i hi).trans (h.a i hi),k.y.trans h.y,⟨k.w.1.trans h.w.1,k.w.2.1.trans h.w.2.1,k.w.2.2.trans h.w.2.2⟩,⟨k.g.1.trans h.g.1,k.g.2.1.trans h.g.2.1,k.g.2.2.trans h.g.2.2⟩⟩
theorem LRel.set (A:Lay){l:Nat}(hl:l<3)(a:Sl):LRel A (A.setA (l+1) a):=⟨fun i hi=>by simp[Lay.setA,put];intro e;omega,rfl,⟨rfl,rfl,rfl⟩,⟨rfl,rfl,rfl⟩⟩
def St.setRow (S:St)(l:Nat)(xs:List Nat):St:={S with rows:=put S.rows l xs}
theorem Rep.setRow (h:Rep K A S F L){l:Nat}(hl:l<3){a':Sl}{xs:List Nat}(hf:Fun L')(hk:kb K (kst (A.setA (l+1) a') (S.setRow l xs))∈L')(hs: ∀t∈L,t.1≠K->(A.a (l+1)).b≠some t.1->t∈L') (ha:slOk a' (xs.map ptr) 93 L')
 (hd: ∀b,a'.b=some b->(A.a (l+1)).b=some b\/((∀i,(A.a i).b≠some b)/\ ∀t∈F,t.1≠b)) (hw: ∀e∈S.wt,slot e.1≠l+1):Rep K (A.setA (l+1) a') (S.setRow l xs) F L':=by
 have hal: ∀b,(A.a (l+1)).b=some b->(b,true,Obj.cells ((S.rows l).map ptr++(A.a (l+1)).junk).toArray 93)∈L:=fun b hb=>(h.rw l hl).mem hb;have ty: ∀{b:Nat}{fl:Bool}{o:Obj},(b,fl,o)∈L->(∀c,o≠Obj.cells c 93)->(A.a (l+1)).b≠some b:=fun hm ho hb=>ho _ (h.fn _ _ _ _ _ hm (hal _ hb)).2;have arr: ∀(a:Sl)(xs:List Value)(e:TypeId),e≠115->(∀b,a.b=some b->(A.a (l+1)).b≠some b)->slOk a xs e L->slOk a xs e L':=fun a xs e he hne ha=>by
  refine ha.mono fun c hc o ho=>hs _ ho ?_ (hne c hc);exact h.fn.ne (ha.mem hc) h.k (aQ he)
 have hdn: ∀i,i≠l+1-> ∀b,(A.a i).b=some b->(A.a (l+1)).b≠some b:=fun i hi b hb e=>h.d i (l+1) hi (by rw[hb];simp) (by rw[hb,e]);have pm: ∀q∈S.ps,pb q.1 q.2∈L':=fun q hq=>hs _ (h.p q hq) (h.fn.ne (h.p q hq) h.k (aQ (by decide))) (ty (h.p q hq) fun c=>aQ (by decide));have pA: ∀i,i≠l+1->(A.setA (l+1) a').a i=A.a i:=fun i hi=>by simp[Lay.setA,put,hi]
 exact{h with
  fn:=hf
  k:=hk
  g:=hs _ h.g (h.fn.ne h.g h.k (aQ (by decide))) (ty h.g fun c=>aQ (by decide))
  p:=pm
  pa:=by rw[pA 0 (by omega)];exact arr _ _ _ (by decide) (hdn 0 (by omega)) h.pa
  rw:=fun l' hl'=>by
   by_cases e:l'=l
   ·subst e;have e1:(A.setA (l'+1) a').a (l'+1)=a':=by simp[Lay.setA,put]
    have e2:(S.setRow l' xs).rows l'=xs:=by simp[St.setRow,put]
    rw[e1,e2];exact ha
   ·have e2:(S.setRow l xs).rows l'=S.rows l':=by simp[St.setRow,put,e]
    rw[pA _ (by omega),e2];exact arr _ _ _ (by decide) (hdn _ (by omega)) (h.rw l' hl')
  ya:=fun i hi=>arr _ _ _ (by decide) (fun b hb=>ty ((h.ya i hi).mem hb) fun c=>aQ (by decide)) (h.ya i hi)
  w:=by
   have:wobj (A.setA (l+1) a') (S.setRow l xs)=wobj A S:=by
    have e0:(S.wt.zip A.born).map (went (A.setA (l+1) a'))=(S.wt.zip A.born).map (went A):=by
     apply List.map_congr_left;intro e he;unfold went;rw[pA _ (hw e.1 (List.of_mem_zip he).1)]
    show Obj.map ((S.wt.zip A.born).map (went (A.setA (l+1) a'))).toArray A.clock=_;rw[e0];rfl
   rw[this];exact hs _ h.w (h.fn.ne h.w h.k (by simp[wobj])) (ty h.w fun c=>by simp[wobj])
  wa:=fun e he=>by rw[pA _ (hw e he)];exact arr _ _ _ (by decide) (hdn _ (hw e he)) (h.wa e he)
  al:=fun i c hc=>by
   by_cases ei:i=l+1
   ·subst ei;have e1:(A.setA (l+1) a').a (l+1)=a':=by simp[Lay.setA,put]
    rw[e1] at hc;exact⟨_,ha.mem hc⟩
   ·rw[pA i ei] at hc;obtain⟨xs,hx⟩:=h.al i c hc;exact⟨xs,hs _ hx (h.fn.ne hx h.k (aQ (by decide))) (hdn i ei c hc)⟩
  yl:=fun i c hc=>by
   obtain⟨xs,hx⟩:=h.yl i c hc;exact⟨xs,hs _ hx (h.fn.ne hx h.k (aQ (by decide))) (ty hx fun c=>aQ (by decide))⟩
  d:=fun i j hij hi=>by
   by_cases ei:i=l+1
   ·subst ei;have e1:(A.setA (l+1) a').a (l+1)=a':=by simp[Lay.setA,put]
    rw[pA j (by omega),e1];rw[e1] at hi;intro e;cases hb:a'.b with
    |none=>exact hi hb
    |some b=>
     rcases hd b hb with h1|h1
     ·exact h.d (l+1) j (by omega) (by rw[h1];simp) (by rw[h1,<-e,hb])
     ·exact h1.1 j (by rw[<-e,hb])
   ·rw[pA i ei];rw[pA i ei] at hi;by_cases ej:j=l+1
    ·subst ej;have e1:(A.setA (l+1) a').a (l+1)=a':=by simp[Lay.setA,put]
     rw[e1];intro e;cases hb:a'.b with
     |none=>rw[hb] at e;exact hi e
     |some b=>
      rcases hd b hb with h1|h1
      ·exact h.d i (l+1) ei hi (by rw[h1,e,hb])
      ·exact h1.1 i (by rw[e,hb])
    ·rw[pA j ej];exact h.d i j hij hi
  fr:=fun t ht=>hs _ (h.fr t ht) (h.fd t ht).1 ((h.fd t ht).2.2.1 _)
  fd:=fun t ht=>by
   refine⟨(h.fd t ht).1,(h.fd t ht).2.1,fun i=> ?_,(h.fd t ht).2.2.2⟩;by_cases ei:i=l+1
   ·subst ei;have e1:(A.setA (l+1) a').a (l+1)=a':=by simp[Lay.setA,put]
    rw[e1];intro e;rcases hd _ e with h1|h1
    ·exact(h.fd t ht).2.2.1 _ h1
    ·exact h1.2 t ht rfl
   ·rw[pA i ei];exact(h.fd t ht).2.2.1 i}
end
abbrev ptq (a:Nat×Nat):Value:= .pointer (some ⟨a.1,a.2,none⟩)
theorem DL: ∃n,∀{σ}{F:Fam σ}{Δ:DM F}{main s}(L:Frag)(e:Nat×Nat)(t vp:Nat),(∀cs,(Δ s).New (.cells cs 196))->
 CallsL Δ Tryz.prog main 122 [.iface 255 (ptq e), .iface 182 (ptr t),rval 182 vp 150,rty 180].toArray n s L (fun s' v L'=>s=s'/\v= .bool false/\Fun L'/\ ∀t∈L,t∈L'):=by
 apply Exists.intro;intro σ F Δ main s L e t vp hN;co_applyP aF 62 Tryz.func122 Tryz.ntmps122;co_applyP aa;co_applyP b5 rfl (b8 (hN _));intro nb L1 hA;co_applyP oan rfl;co_applyP aC;co_applyP bg (fun k s' ε' L'=>s'=s/\k=1/\L'=L1/\kn ε' [(0, .iface 255 (ptq e)),(1, .iface 182 (ptr t)),(3,rty 180),(6,ptr nb)]) 1
 ·exact⟨rfl,rfl,rfl,rfl⟩
 rintro k s' ε' L' ⟨rfl,rfl,rfl,he⟩;co_applyP aN he;co_applyP aC;co_applyP au;co_applyP aa;co_applyP om rfl rfl rfl (zL);co_applyP om rfl rfl rfl (yn);co_applyP ai;co_applyP aE rfl;co_applyP aB;co_applyP au;co_applyP aa;co_applyP om rfl rfl rfl (Cz);co_applyP om rfl rfl rfl co;co_applyP oy rfl co;co_applyP oy rfl bR;co_applyP oan rfl;co_applyP aa;co_applyP om rfl rfl rfl ag;co_applyP ou rfl;co_applyP ou rfl;co_applyP ou rfl;co_applyP oy rfl aH;co_applyP ai;co_applyP aE rfl;co_applyP aB;co_applyP aa;co_applyP oy rfl ag;co_applyP ai;co_applyP aC;co_applyP aa;co_applyP oy rfl (zJ);co_applyP oy rfl co;co_applyP oy rfl co;co_applyP ai;co_applyP aE rfl;co_applyP aa;co_applyP oy rfl (zK);co_applyP oy rfl co;co_applyP oy rfl co;co_applyP ai;co_applyP aE rfl;co_applyP aa;co_applyP oan rfl;co_applyP aa;co_applyP oan rfl;co_applyP aK;change∃v,resE .. =some v/\_;exact⟨_,rfl,rfl,rfl,hA.fn,hA.sub⟩
theorem DN: ∃n,∀{σ}{F:Fam σ}{Δ:DM F}{main s}(L:Frag)(r t vp:Nat)(v0:Value),(∀cs,(Δ s).New (.cells cs 196))->(∀cs,(Δ s).New (.cells cs 180))->At L vp 0 (ptr t)->(t,true,Obj.cells #[v0] 180)∈L->
 CallsL Δ Tryz.prog main 122 [.iface 180 (ptr r), .iface 182 (ptr t),rval 182 vp 150,rty 180].toArray n s L (fun s' v L'=>s=s'/\v= .bool true/\ ∃L1,Fun L1/\(∀t∈L,t∈L1)/\Upd L1 t (.cells #[ptr r] 180) L'):=by
 apply Exists.intro;intro σ F Δ main s L r t vp v0 hN hN2 hv ht;co_applyP aF 62 Tryz.func122 Tryz.ntmps122;co_applyP aa;co_applyP b5 rfl (b8 (hN _));intro nb L1 hA;co_applyP oan rfl;co_applyP aC;co_applyP bg (fun k s' ε' L'=>s'=s/\k=1/\L'=L1/\kn ε' [(0, .iface 180 (ptr r)),(1, .iface 182 (ptr t)),(3,rty 180),(6,ptr nb)]) 1
 ·exact⟨rfl,rfl,rfl,rfl⟩
 rintro k s' ε' L' ⟨rfl,rfl,rfl,he⟩;co_applyP aN he;have hv1:At L' vp 0 (ptr t):=let ⟨a,b,c,d,e,f⟩:=hv;⟨a,b,c,d,hA.sub _ e,f⟩;co_applyP aC;co_applyP au (n₂:=0);co_applyP aa;co_applyP om rfl rfl rfl (CF);co_applyP om rfl rfl rfl (yo);co_applyP ai;co_applyP bv rfl;co_applyP aa;co_applyP oy rfl (bF (ht:=ie) (hs:=fC) (hm:=hA.self) (hi:=Nat.le_refl _));co_applyP oy rfl (DI hv1);co_applyP oy rfl ag;co_applyP b5 rfl (CI (hN2 _));intro nb2 L2 hA2;have hat2:At L2 nb2 0 (ptr r):=⟨true,_,_,_,hA2.self,rfl⟩;co_applyP oeN rfl (fun hnd=>DK hnd hat2 (hA2.sub _ (hA.sub _ ht)) (Nat.one_pos));rintro _ L3 ⟨rfl,hU⟩;co_applyP ai;co_applyP aa;co_applyP oan rfl;co_applyP aK;change∃v,resE .. =some v/\_;exact⟨_,rfl,rfl,rfl,L2,hA2.fn,fun x hx=>hA2.sub _ (hA.sub _ hx),hU⟩
theorem DO: ∃n,∀{σ}{F:Fam σ}{Δ:DM F}{main s}(L:Frag)(e:Nat×Nat)(t:Nat),(∀cs,(Δ s).New (.cells cs 196))->(∀cs,(Δ s).New (.cells cs 182))->At L 2 0 (rty 168)->
 CallsL Δ Tryz.prog main 103 [.iface 255 (ptq e), .iface 182 (ptr t)].toArray n s L (fun s' v L'=>s=s'/\v= .bool false/\Fun L'/\ ∀t∈L,t∈L'):=by
 obtain⟨n1,g1⟩:=DL;apply Exists.intro;intro σ F Δ main s L e t hN hN2 hg;co_applyP aF 42 Tryz.func103 Tryz.ntmps103;co_applyP aa;co_applyP oan rfl;co_applyP au;co_applyP aa;co_applyP om rfl rfl rfl (eQ (v:= .iface 255 (ptq e)) (c:=false) (hv:= .inr ⟨_,_,rfl,rfl⟩) (hu:=Tryz.underlying168));co_applyP ai;co_applyP aE rfl;co_applyP aB;co_applyP au;co_applyP aa;co_applyP om rfl rfl rfl (eQ (v:= .iface 182 (ptr t)) (c:=false) (hv:= .inr ⟨_,_,rfl,rfl⟩) (hu:=Tryz.underlying20));co_applyP ai;co_applyP aE rfl;co_applyP aB;co_applyP aa;co_applyP oy rfl ag;co_applyP b5 rfl (zN (hN2 _));intro vp L1 hA;co_applyP b5 rfl (fO (z:= .agg #[.pointer none, .pointer none, .int .u64 0]) (hN _));intro nb L2 hA2;co_applyP oeN rfl (fun hnd=>j2 (hs:=fC) (vs:=[.pointer (some ⟨11,182,none⟩),ptr vp, .int .u64 150]) (hnd:=hnd) (hm:=hA2.self) (hi:=Nat.le_refl _));rintro _ L3 ⟨rfl,hU⟩;have hb3:=hU.self;have hv3:(vp,true,Obj.cells #[ptr t] 182)∈L3:=hU.ne _ (hA2.sub _ hA.self) (fun h=>hA2.new _ hA.self h);have hvp:At L3 vp 0 (ptr t):=⟨true,_,_,_,hv3,rfl⟩;have hL3: ∀x∈L,x∈L3:=fun x hx=>hU.ne _ (hA2.sub _ (hA.sub _ hx)) (fun h=>hA2.new _ (hA.sub _ hx) h);have hg3:At L3 2 0 (rty 168):=let ⟨a,b,c,d,e,f⟩:=hg;⟨a,b,c,d,hL3 _ e,f⟩;co_applyP ai;co_applyP aa;co_applyP oy rfl (bF (ht:=ie) (hs:=fC) (hm:=hb3) (hi:=Nat.le_refl _));co_applyP oy rfl (CG);co_applyP oan rfl;co_applyP au;co_applyP aa;co_applyP om rfl rfl rfl (pv);co_applyP oy rfl dK;co_applyP om rfl rfl rfl (bF (ht:=ie) (hs:=fC) (hm:=hb3) (hi:=Nat.le_refl _));co_applyP oy rfl (CH hvp);co_applyP oy rfl aH;co_applyP ai;co_applyP aE rfl;co_applyP aB;co_applyP aa;co_applyP om rfl rfl rfl (px);co_applyP oan rfl;co_applyP au;co_applyP aa;co_applyP om rfl rfl rfl (pw);co_applyP oy rfl dK;co_applyP om rfl rfl rfl (ag);co_applyP oy rfl ((aA (ht:=vq)));co_applyP oy rfl (zM);co_applyP oy rfl (cP);co_applyP oy rfl aH;co_applyP ai;co_applyP aE rfl;co_applyP aB;co_applyP aa;co_applyP om rfl rfl rfl ag;co_applyP oy rfl (bF (ht:=ie) (hs:=fC) (hm:=hb3) (hi:=Nat.le_refl _));co_applyP oy rfl ag;co_applyP oc rfl rfl rfl (g1 L3 e t vp hN);rintro _ _ _ ⟨rfl,rfl,hF,hs⟩;co_applyP oan rfl;co_applyP aK
 change∃v,resE .. =some v/\_;exact⟨_,rfl,rfl,rfl,hF,fun x hx=>hs _ (hL3 _ hx)⟩
theorem DP: ∃n,∀{σ}{F:Fam σ}{Δ:DM F}{main s}(L:Frag)(e t:Nat)(v0:Value),(∀cs,(Δ s).New (.cells cs 196))->(∀cs,(Δ s).New (.cells cs 182))->At L 2 0 (rty 168)->(∀cs,(Δ s).New (.cells cs 180))->(t,true,Obj.cells #[v0] 180)∈L->
 CallsL Δ Tryz.prog main 103 [.iface 180 (ptr e), .iface 182 (ptr t)].toArray n s L (fun s' v L'=>s=s'/\v= .bool true/\ ∃L1,Fun L1/\(∀t∈L,t∈L1)/\Upd L1 t (.cells #[ptr e] 180) L'):=by
 obtain⟨n1,g1⟩:=DN;apply Exists.intro;intro σ F Δ main s L e t v0 hN hN2 hg hN3 ht;co_applyP aF 42 Tryz.func103 Tryz.ntmps103;co_applyP aa;co_applyP oan rfl;co_applyP au;co_applyP aa;co_applyP om rfl rfl rfl (eQ (v:= .iface 180 (ptr e)) (c:=false) (hv:= .inr ⟨_,_,rfl,rfl⟩) (hu:=Tryz.underlying168));co_applyP ai;co_applyP aE rfl;co_applyP aB;co_applyP au;co_applyP aa;co_applyP om rfl rfl rfl (eQ (v:= .iface 182 (ptr t)) (c:=false) (hv:= .inr ⟨_,_,rfl,rfl⟩) (hu:=Tryz.underlying20));co_applyP ai;co_applyP aE rfl;co_applyP aB;co_applyP aa;co_applyP oy rfl ag;co_applyP b5 rfl (zN (hN2 _));intro vp L1 hA;co_applyP b5 rfl (fO (z:= .agg #[.pointer none, .pointer none, .int .u64 0]) (hN _));intro nb L2 hA2;co_applyP oeN rfl (fun hnd=>j2 (hs:=fC) (vs:=[.pointer (some ⟨11,182,none⟩),ptr vp, .int .u64 150]) (hnd:=hnd) (hm:=hA2.self) (hi:=Nat.le_refl _));rintro _ L3 ⟨rfl,hU⟩;have hb3:=hU.self;have hv3:(vp,true,Obj.cells #[ptr t] 182)∈L3:=hU.ne _ (hA2.sub _ hA.self) (fun h=>hA2.new _ hA.self h);have hvp:At L3 vp 0 (ptr t):=⟨true,_,_,_,hv3,rfl⟩;have hL3: ∀x∈L,x∈L3:=fun x hx=>hU.ne _ (hA2.sub _ (hA.sub _ hx)) (fun h=>hA2.new _ (hA.sub _ hx) h);have hg3:At L3 2 0 (rty 168):=let ⟨a,b,c,d,e,f⟩:=hg;⟨a,b,c,d,hL3 _ e,f⟩;co_applyP ai;co_applyP aa;co_applyP oy rfl (bF (ht:=ie) (hs:=fC) (hm:=hb3) (hi:=Nat.le_refl _));co_applyP oy rfl (CG);co_applyP oan rfl;co_applyP au;co_applyP aa;co_applyP om rfl rfl rfl (pv);co_applyP oy rfl dK;co_applyP om rfl rfl rfl (bF (ht:=ie) (hs:=fC) (hm:=hb3) (hi:=Nat.le_refl _));co_applyP oy rfl (CH hvp);co_applyP oy rfl aH;co_applyP ai;co_applyP aE rfl;co_applyP aB;co_applyP aa;co_applyP om rfl rfl rfl (px);co_applyP oan rfl;co_applyP au;co_applyP aa;co_applyP om rfl rfl rfl (pw);co_applyP oy rfl dK;co_applyP om rfl rfl rfl (ag);co_applyP oy rfl ((aA (ht:=vq)));co_applyP oy rfl (zM);co_applyP oy rfl (cP);co_applyP oy rfl aH;co_applyP ai;co_applyP aE rfl;co_applyP aB;co_applyP aa;co_applyP om rfl rfl rfl ag;co_applyP oy rfl (bF (ht:=ie) (hs:=fC) (hm:=hb3) (hi:=Nat.le_refl _));co_applyP oy rfl ag;co_applyP oc rfl rfl rfl (g1 L3 e t vp v0 hN hN3 hvp (hL3 _ ht));rintro _ _ _ ⟨rfl,rfl,L4,hF,hs,hU4⟩;co_applyP oan rfl
 co_applyP aK;change∃v,resE .. =some v/\_;exact⟨_,rfl,rfl,rfl,L4,hF,fun x hx=>hs _ (hL3 _ hx),hU4⟩
end Go.Proofs.YtejkelcaljmnoaaGreatDoor
namespace Go.Lo
open Go.Conc Go.Hx
section
variable {σ:Type}{F:Fam σ}{Δ: ∀s,Dom (F.R s) (F.D s)} {P:Program} {main:Bool} {fn:FuncId} {N:Nat} {Q:σ->Exit->Env->Frag->Prop} {s:σ} {ε:Env} {L:Frag}
theorem jP {f:FuncId}{vs:Array Value}{n n':Nat}{Post:σ->Value->Frag->Prop}(h:CallsL Δ P main f vs n s L Post)(hn:n<=n'):CallsL Δ P main f vs n' s L Post:=fun w hO=>by
 obtain⟨g,c,hf,hname,hbody,hwp⟩:=h w hO;exact⟨g,c,hf,hname,hbody,fun b k cs m hb hk hc=>(hwp b k cs m hb hk hc).mono (by omega)⟩
theorem dB (p:Prop){c:Code}{n₁ n₂:Nat}(h1:p->wpE Δ P main fn N c n₁ s Q ε L)(h2: ¬p->wpE Δ P main fn N c n₂ s Q ε L):wpE Δ P main fn N c (n₁+n₂) s Q ε L:=by
 by_cases h:p
 ·exact iy (h1 h) (by omega)
 ·exact iy (h2 h) (by omega)
theorem rV (p:Prop){ops:Array Oper}{todo:List Nat}{n₁ n₂:Nat}(h1:p->OpsE Δ P main fn N ops todo n₁ s Q ε L)(h2: ¬p->OpsE Δ P main fn N ops todo n₂ s Q ε L):OpsE Δ P main fn N ops todo (n₁+n₂) s Q ε L:=by
 by_cases h:p
 ·exact l8 (h1 h) (by omega)
 ·exact l8 (h2 h) (by omega)
theorem aZ (p:Prop){f:FuncId}{vs:Array Value}{n₁ n₂:Nat}{Post:σ->Value->Frag->Prop}(h1:p->CallsL Δ P main f vs n₁ s L Post)(h2: ¬p->CallsL Δ P main f vs n₂ s L Post):CallsL Δ P main f vs (n₁+n₂) s L Post:=by
 by_cases h:p
 ·exact jP (h1 h) (by omega)
 ·exact jP (h2 h) (by omega)
theorem aU {f:FuncId}{vs:Array Value}{n:Nat}{Post Post':σ->Value->Frag->Prop}(h:CallsL Δ P main f vs n s L Post)(hp: ∀s v L,Post s v L->Post' s v L):CallsL Δ P main f vs n s L Post':=fun w hO=>by
 obtain⟨g,c,hf,hname,hbody,hwp⟩:=h w hO;refine⟨g,c,hf,hname,hbody,fun b k cs m hb hk hc=>hwp b k cs m hb hk fun s' e a' w' q=>hc s' e a' w' ?_⟩;cases e with
 |normal=>obtain⟨h1,v,h2,L',h3,h4⟩:=q;exact⟨h1,v,h2,L',h3,hp _ _ _ h4⟩
 |ret=>obtain⟨h1,v,h2,L',h3,h4⟩:=q;exact⟨h1,v,h2,L',h3,hp _ _ _ h4⟩
 |_=>exact q
end
section
variable {P:Program}{New:Obj->Prop}{N:Nat}{ε:Env}{L:Frag}{d:Option Tmp}{ty:TypeId}{ps:String}{af:Array Edge}{g:Option (Nat×Bool)}
theorem bi {t:TypeId}{fs:Array (Nat×Operand)}{ws:List (Nat×Value)}{v:Value}(hv:evR P (Instr.build t ws.toArray) []=some (v,[]))(hx:fs.toList.map (fun p=>(p.1,ev ε p.2))=ws.map (fun p=>(p.1,some p.2)):=by rfl):EY P N ε L ⟨d, .build t fs,ty,ps,af,g⟩ v:=fun a ha=>by
 have hw:fs.map (fun p=>(p.1,a.eval p.2))=ws.toArray:=by
  apply Array.ext';have: ∀(l:List (Nat×Operand))(ws:List (Nat×Value)),l.map (fun p=>(p.1,ev ε p.2))=ws.map (fun p=>(p.1,some p.2))->l.map (fun p=>(p.1,a.eval p.2))=ws:=by
   intro l
   induction l with
   |nil=>intro vs h;cases vs<;>simp_all
   |cons x l ih=>
    intro vs h;cases vs with
    |nil=>simp at h
    |cons v vs=>
     simp only[List.map_cons,List.cons.injEq,Prod.mk.injEq] at h⊢;exact⟨Prod.ext h.1.1 (ha.ev h.1.2),ih vs h.2⟩
  simpa using this _ _ hx
 refine cW (fun _=>rfl) fun K hK=> ?_;show wpQ P (Instr.build t (fs.map fun p=>(p.1,a.eval p.2))) K L;rw[hw];exact bm hv hK
end
end Go.Lo
