/-
  Part 7 of the proof.
  No condition but those that each statement names.
-/
import Derived.Test.YtejkelcaljmnoaaGreatDoorHy06
import Derived.Test.YtejkelcaljmnoaaGreatDoorHy03
import Derived.Conc.Own3
set_option maxRecDepth 100000
set_option maxHeartbeats 4000000
set_option linter.unusedVariables false
set_option linter.unusedSimpArgs false
set_option linter.unusedSectionVars false
namespace Go.Proofs.YtejkelcaljmnoaaGreatDoor
open Go.Conc Go.Hx Go.Lo
def rowv (a:Sl)(sz n:Nat):Value:=match a.b with
 |none=> .slice none 0 0
 |some b=> .slice (some ⟨b,0,none⟩) n (n+a.junk.length/sz)
structure ApN (L:Frag)(e:TypeId)(a:Sl)(zs:List Value)(a':Sl)(L':Frag):Prop where
 ok:slOk a' zs e L'
 fn:Fun L'
 sub: ∀t∈L,a.b≠some t.1->t∈L'
 d: ∀b,a'.b=some b->a.b=some b\/ ∀t∈L,t.1≠b
theorem lw: ∀(vs:List Value)(cs:Array Value)(o k:Nat),(vs.zipIdx k).foldl (fun cs (c,j)=>cs.setIfInBounds (o+j) c) cs=puts cs (o+k) vs
 |[],cs,o,k=>by simp[puts]
 |v::vs,cs,o,k=>by
  simp only[List.zipIdx_cons,List.foldl_cons,puts];rw[lw vs _ o (k+1)];rfl
section
variable {New:Obj->Prop}{N:Nat}{ε:Env}{L:Frag}{d:Option Tmp}{ty:TypeId}{ps:String}{af:Array Edge}{g:Option (Nat×Bool)}{x y:Operand}{P:Program}
theorem fY {t e:TypeId}{x:Operand}{v z:Value}{sz:Nat}(hN:New (.cells v.cells e))(hv:v.cells.size=sz)(hx:ev ε x=some v:=by rfl)(hu:P.underlying t=some (.slice e))(hs:sizeAt P e=some sz)(hz:zeroAt P e=some z)(h0:0<sz)(h24:sz<=1000):
 EO P New N ε L ⟨d, .buildSlice t 1 #[(0,x)],ty,ps,af,g⟩ (fun r L''=> ∃b,(∀t∈L,t.1≠b)/\r= .slice (some ⟨b,0,none⟩) 1 1/\L''=(b,true, .cells v.cells e)::L):=by
 intro a ha;simp only[execOp,List.map_toArray,List.map_cons,List.map_nil];unfold Instr.buildSlice newRow;have hf:Instr.fill (fun i=>some (i*sz,sz)) ((Array.range (1*sz)).map (z.cells[· %z.cells.size]!)) [(0,v)]=some v.cells:=by
  have e1:((Array.range (1*sz)).map (z.cells[· %z.cells.size]!)).size=sz:=by simp
  generalize (Array.range (1*sz)).map (z.cells[· %z.cells.size]!)=cs at e1;simp only[Instr.fill];rw[if_neg (by simp[hv,e1])];congr 1;have e2:v.cells.zipIdx.foldl (fun cs (c,j)=>cs.setIfInBounds (0*sz+j) c) cs=puts cs (0*sz+0) v.cells.toList:=by
   rw[<-lw,<-Array.foldl_toList,Array.toList_zipIdx]
  rw[e2];obtain⟨l⟩:=cs;rw[cL _ _ _ (by simp at e1⊢;omega)];apply Array.ext';have:l.drop (0*sz+0+v.cells.toList.length)=[]:=List.drop_eq_nil_of_le (by simp at e1⊢;omega);rw[this];simp
 rw[ax,ax,aY hu,ha.ev hx];simp only[];rw[ax,bO hs];rw[if_neg (by omega),if_neg (by omega),ax,b7 hz,ax,bz];simp only[hf,ax];exact cf hN fun b hb=>⟨b,hb,rfl,rfl⟩
theorem nL {a:Sl}{xs:List Value}{e:TypeId}{sz n:Nat}(ha:slOk a xs e L)(hn:xs.length=n*sz)(h0:0<sz):Reads P L sz n (rowv a sz n) xs.toArray:=by
 cases hab:a.b with
 |none=>
  unfold slOk at ha;rw[hab] at ha;obtain rfl:xs=[]:=ha.1;obtain rfl:n=0:=by
   rcases Nat.eq_zero_or_pos n with h|h
   ·exact h
   ·have:=Nat.mul_pos h h0;simp at hn;omega
  have e3:rowv a sz 0= .slice none 0 0:=by unfold rowv;rw[hab]
  rw[e3];exact gY
 |some b=>
  have hm:=ha.mem hab;have e3:rowv a sz n= .slice (some ⟨b,0,none⟩) n (n+a.junk.length/sz):=by unfold rowv;rw[hab]
  rw[e3];have:=cI (P:=P) (sz:=sz) (n:=n) (len:=n) (cap:=n+a.junk.length/sz) (o:=0) hm (by simp;omega);have e7:(xs++a.junk).take (n*sz)=xs:=by rw[<-hn,List.take_append_of_le_length (by simp)];exact List.take_of_length_le (by simp)
  simpa [e7] using this
theorem mH {ρ:Operand->Value}{Q:Next->Frag->Prop}{t u e e2:TypeId}{sz:Nat}{yb:Option Addr}{yc:Nat}{vs:Array Value}(hx:ρ x= .slice none 0 0)(hy:ρ y= .slice yb 0 yc)(hu:P.underlying t=some (.slice e))(hv:P.underlying u=some (.slice e2))(hs:sizeAt P e=some sz)
 (hr:Reads P L sz 0 (.slice yb 0 yc) vs) (hQ:Q (.value (.slice none 0 0)) L):wpS P New (execOp ρ ⟨d, .call ⟨.builtin .append, #[x,y], #[t,u]⟩,ty,ps,af,g⟩) Q L:=by
 refine ct (s:=Builtin.append_ #[t,u] ty #[.slice none 0 0, .slice yb 0 yc]) (fun _=>by simp[builtin,hx,hy]) ?_;unfold Builtin.append_;simp only[List.getElem?_toArray,List.getElem?_cons_zero,List.getElem?_cons_succ];rw[ax,aY hu];simp only[];rw[ax,bO hs];rw[ax,aY hv,ax,bz];simp only[Bool.false_eq_true,if_false,Bool.not_false,if_true,Builtin.lenOf];rw[ax,bz];simp only[Nat.le_refl,if_true];rw[ax];refine hr.r New _ ?_;exact hQ
theorem zY {t e:TypeId}{a:Sl}{xs ys:List Value}{n m sz by_:Nat}{z:Value}{yb:Option Addr}{yc:Nat}(hx:ev ε x=some (rowv a sz n):=by rfl)(hy:ev ε y=some (.slice yb m yc):=by rfl)(hnd:(L.map (·.1)).Nodup)(hu:P.underlying t=some (.slice e))(hs:sizeAt P e=some sz)(hb:bytesAt P e=some (by_+1))(hz:zeroAt P e=some z)(hzs:z.cells.size=sz)(hN: ∀cs,New (.cells cs e)) (ha:slOk a xs e L) (hn:xs.length=n*sz) (hr:Reads P L sz m (.slice yb m yc) ys.toArray) (hm:ys.length=m*sz) (hpl:ys.all plainV=true) (h0:0<sz) (h8:(2*(n+m)+192)*(by_+1)<=281474976710656):
 EO P New N ε L ⟨d, .call ⟨.builtin .append, #[x,y], #[t,t]⟩,ty,ps,af,g⟩ (fun r L'=> ∃a',r=rowv a' sz (n+m)/\ApN L e a (xs++ys) a' L'/\((a'.b=a.b/\a'.junk.length+ys.length=a.junk.length)\/ ∀t∈L,t∈L')):=by
 have hws:=nL (P:=P) ha hn h0
 have grow: ∀(cap0:Nat),(∃base,rowv a sz n= .slice base n cap0)->cap0<n+m->
  EO P New N ε L ⟨d, .call ⟨.builtin .append, #[x,y], #[t,t]⟩,ty,ps,af,g⟩ (fun r L'=> ∃a',r=rowv a' sz (n+m)/\ApN L e a (xs++ys) a' L'/\((a'.b=a.b/\a'.junk.length+ys.length=a.junk.length)\/ ∀t∈L,t∈L')):=by
  rintro cap0 ⟨base,hbs⟩ hc;rw[hbs] at hws hx;intro ac hac;refine cr ?_ _ _ (rO (by_:=by_) (New:=New) hx hy (bG hnd) hu hu hs hb hz hws hr hc h8 hN ac hac);intro r L' q;cases r<;>try exact q.elim
  ·obtain⟨b,cap,h1,h2,rfl,hA⟩:=q;have hzl:(Builtin.zeroCells z.cells (cap-(n+m))).toList.length=(cap-(n+m))*sz:=by unfold Builtin.zeroCells;simp[hzs]
   refine⟨⟨some b,(Builtin.zeroCells z.cells (cap-(n+m))).toList⟩, ?_,⟨?_,hA.fn,fun t ht _=>hA.sub t ht,fun b' hb'=> .inr ?_⟩, .inr hA.sub⟩
   ·unfold rowv;simp only[];rw[hzl,Nat.mul_div_cancel _ h0,show n+m+(cap-(n+m))=cap by omega]
   ·have e5:xs.toArray++ys.toArray++Builtin.zeroCells z.cells (cap-(n+m))=((xs++ys)++(Builtin.zeroCells z.cells (cap-(n+m))).toList).toArray:=by
     apply Array.ext';simp
    rw[e5] at hA;exact hA.self
   ·obtain rfl:b=b':=by simpa using hb'
    exact hA.new
  ·obtain⟨b,cap,_,_,e,_⟩:=q;cases e
 cases hab:a.b with
 |none=>
  have h2:=ha;unfold slOk at h2;rw[hab] at h2;obtain⟨e1,e2⟩:=h2;obtain rfl:xs=[]:=e1;obtain rfl:n=0:=by
   rcases Nat.eq_zero_or_pos n with h|h
   ·exact h
   ·have:=Nat.mul_pos h h0;simp at hn;omega
  have e3:rowv a sz 0= .slice none 0 0:=by unfold rowv;rw[hab]
  by_cases hm0:m=0
  ·subst hm0;obtain rfl:ys=[]:=List.length_eq_zero_iff.1 (by simpa using hm);rw[e3] at hx;intro ac hac;exact mH (hac.ev hx) (hac.ev hy) hu hu hs hr ⟨a,by rw[Nat.add_zero,e3],⟨by simpa using ha,bG hnd,fun t ht _=>ht,fun b hb=> .inl hb⟩, .inr fun _ h=>h⟩
  have:=grow 0 ⟨none,e3⟩ (by omega)
  rwa [hab] at this
 |some b=>
  have hmm:=ha.mem hab;have e3:rowv a sz n= .slice (some ⟨b,0,none⟩) n (n+a.junk.length/sz):=by unfold rowv;rw[hab]
  by_cases hj:m<=a.junk.length/sz
  ·intro ac hac;rw[e3] at hx;have hj':m*sz<=a.junk.length:=(Nat.le_div_iff_mul_le h0).1 hj;refine cr ?_ _ _ (o0 (New:=New) hx hy hnd hu hu hs hr (by omega) hmm (by simp;omega) (by simpa using hpl) ac hac);intro r L' q;cases r<;>try exact q.elim
   ·obtain⟨rfl,hU⟩:=q;have e4:puts (xs++a.junk).toArray (0+n*sz) ys.toArray.toList=((xs++ys)++a.junk.drop (m*sz)).toArray:=by
     rw[cL _ _ _ (by simp;omega)];have e6:(xs++a.junk).drop (0+n*sz+ys.toArray.toList.length)=a.junk.drop (m*sz):=by
      rw[show 0+n*sz+ys.toArray.toList.length=xs.length+m*sz by simp;omega,List.drop_append];simp
     have e7:(xs++a.junk).take (0+n*sz)=xs:=by rw[Nat.zero_add,<-hn,List.take_append_of_le_length (by simp)];exact List.take_of_length_le (by simp)
     rw[e6,e7]
    rw[e4] at hU;refine⟨⟨some b,a.junk.drop (m*sz)⟩, ?_,⟨hU.self,hU.fn,fun t ht hne=>hU.ne t ht fun e=>hne (by rw[hab,e]),fun b' hb'=> .inl (by rw[hab];exact hb')⟩, .inl ⟨rfl,by simp only[List.length_drop,hm];omega⟩⟩;unfold rowv;simp only[List.length_drop];rw[Nat.mul_comm m sz,Nat.sub_mul_div];rw[show n+m+(a.junk.length/sz-m)=n+a.junk.length/sz by omega]
   ·exact absurd q.1 (by simp[undef])
  ·have:=grow (n+a.junk.length/sz) ⟨_,e3⟩ (by omega)
   rwa [hab] at this
theorem jW {t e:TypeId}{a:Sl}{xs ys:List Value}{n m sz by_:Nat}{z:Value}{yb:Option Addr}{yc:Nat}(hx:ev ε x=some (rowv a sz n):=by rfl)(hy:ev ε y=some (.slice yb m yc):=by rfl)(hnd:(L.map (·.1)).Nodup)(hu:P.underlying t=some (.slice e))(hs:sizeAt P e=some sz)(hb:bytesAt P e=some (by_+1))(hz:zeroAt P e=some z)(hzs:z.cells.size=sz)(hN: ∀cs,New (.cells cs e)) (ha:slOk a xs e L) (hn:xs.length=n*sz) (hr:Reads P L sz m (.slice yb m yc) ys.toArray) (hm:ys.length=m*sz) (hpl:ys.all plainV=true) (h0:0<sz) (h8:(2*(n+m)+192)*(by_+1)<=281474976710656):
 EO P New N ε L ⟨d, .call ⟨.builtin .append, #[x,y], #[t,t]⟩,ty,ps,af,g⟩ (fun r L'=> ∃a',r=rowv a' sz (n+m)/\ApN L e a (xs++ys) a' L'):=fun ac hac=>cr (by
 intro r L' q;cases r<;>try exact q.elim
 ·obtain⟨a',h1,h2,_⟩:=q;exact⟨a',h1,h2⟩
 ·obtain⟨a',h1,h2,_⟩:=q;exact⟨a',h1,h2⟩) _ _ (zY hx hy hnd hu hs hb hz hzs hN ha hn hr hm hpl h0 h8 ac hac)
end
end Go.Proofs.YtejkelcaljmnoaaGreatDoor
namespace Go.Lo
open Go.Conc Go.Hx
section
variable {σ:Type}{F:Fam σ}{Δ: ∀s,Dom (F.R s) (F.D s)} {P:Program} {main:Bool} {fn:FuncId} {N:Nat} {Q:σ->Exit->Env->Frag->Prop} {s:σ} {ε:Env} {L:Frag} {ops:Array Oper} {nf:Nat} {R L0:Frag} {e:Nat} {s0:σ} {fuel:Nat} {ls:Array Bool}
theorem t2 {i j:Nat}{d d':Option Tmp}{k k':Op}{ot ot':TypeId}{ps ps':String}{af af':Array Edge}{g g':Option (Nat×Bool)}{f:FuncId}{args:Array Operand}{ats:Array TypeId}{vs:List Value}{Post:σ->Value->Frag->Prop}{post:Value->Frag->Prop}(ho:ops[i]? =some ⟨d,k,ot,ps,af,g⟩)(hop:k= .call {callee:= .value (.func f),args,argTypes:=ats})(ha:args.toList.map (ev ε)=vs.map some)(hcall:CallsL Δ P main f vs.toArray nf s L Post)
 (ho':ops[j]? =some ⟨d',k',ot',ps',af',g'⟩) (hy:EO P (Δ s).New N ε L ⟨d',k',ot',ps',af',g'⟩ post)
 (hr:Region.ready .any ops ls=[i,j]:=by kernel_rfl) (hw:wantedE ops N ε g=some true:=by rfl) (hd:dstOk N d=true:=by rfl) (hw':wantedE ops N ε g'=some true:=by rfl) (hd':dstOk N d'=true:=by rfl)
 (h1: ∀s' v L',Post s' v L'->Pre R L0 e s0 (ls.setIfInBounds i true) s' L'/\AnyE Δ P main fn N ops Q nf R L0 e s0 fuel (ls.setIfInBounds i true) s' (putE d v ε) L')
 (h2: ∀v L',post v L'->Pre R L0 e s0 (ls.setIfInBounds j true) s L'/\AnyE Δ P main fn N ops Q nf R L0 e s0 fuel (ls.setIfInBounds j true) s (putE d' v ε) L'):AnyE Δ P main fn N ops Q nf R L0 e s0 (fuel+1) ls s ε L:=by
 intro a hf;have e':args.map a.eval=vs.toArray:=by
  apply Array.ext';simp only[Array.toList_map];have: ∀(l:List Operand)(vs:List Value),l.map (ev ε)=vs.map some->l.map a.eval=vs:=by
   intro l
   induction l with
   |nil=>intro vs h;cases vs<;>simp_all
   |cons x l ih=>
    intro vs h;cases vs with
    |nil=>simp at h
    |cons v vs=>
     simp only[List.map_cons,List.cons.injEq] at h⊢;exact⟨hf.ev h.1,ih vs h.2⟩
  exact this _ _ ha
 refine vb hr (fun w hO hD=> ?_) fun w hO hD=> ?_
 ·have hrm:i∈Region.ready .any ops ls:=by simp[hr]
  have hc:=hcall w hO;rw[<-e'] at hc;exact .inr ⟨_,f,args,ats,_,ho,hf.wanted hw,hop,hc,fun s' v w' ⟨L',hL,hp⟩=>⟨⟨L',hL,(h1 s' v L' hp).1⟩,(h1 s' v L' hp).2 _ (hf.put hd v) (hD.step hrm) _ hL⟩⟩
 ·have hrm:j∈Region.ready .any ops ls:=by simp[hr]
  refine .inl ?_;unfold OpC;have hww:Region.wanted ⟨d',k',ot',ps',af',g'⟩ (yielded ops a.tmps)=true:=hf.wanted hw';simp only[ho',hww,if_true];intro w₁ h₁
  have hy':wpS P (Δ s).New (execOp a.eval ⟨d',k',ot',ps',af',g'⟩) (fun x L'=>onNext ⟨d',k',ot',ps',af',g'⟩ a (fun a'=>Pre R L0 e s0 (ls.setIfInBounds j true) s L'/\AnyL Δ P main fn ops (upE N Q) nf R L0 e s0 fuel (ls.setIfInBounds j true) s a' L') x) L:=
   cr (fun x L' q=>by cases x<;>first|exact⟨(h2 _ _ q).1,(h2 _ _ q).2 _ (hf.put hd' _)⟩|exact q.elim) _ _ (hy a hf)
  obtain⟨x,w',hrun,hg,he,L',hL,hx⟩:=qD (Δ s) ((Δ s).rely hO h₁) hy';exact mY (Δ:=Δ) (s:=s) (KL:=fun a' L'=>Pre R L0 e s0 (ls.setIfInBounds j true) s L'/\AnyL Δ P main fn ops (upE N Q) nf R L0 e s0 fuel (ls.setIfInBounds j true) s a' L') hrun hL hx fun a' k=>⟨(Δ s).dd hg fun e hm=>he e (mem_listed hm),⟨L',hL,k.1⟩,k.2 (hD.step hrm) _ hL⟩
end
end Go.Lo
namespace Go.Proofs.YtejkelcaljmnoaaGreatDoor
open Go.Conc Go.Hx Go.Lo
def cfgv (c:Nat->Int)(bo:Int):Value:= .agg #[.int .i64 (c 0), .int .i64 (c 1), .int .i64 (c 2), .int .i64 bo]
def arr3 (c:Nat->Int):Value:= .agg #[.int .i64 (c 0), .int .i64 (c 1), .int .i64 (c 2)]
def okc (c:Nat->Int)(bo:Int):Bool:=decide (((1<=c 0/\c 0<=10)/\(1<=c 1/\c 1<=10)/\(1<=c 2/\c 2<=10))/\1<=bo/\bo<=1000)
theorem CY (c:Nat->Int){i:Nat}(hi:i<3):evR Tryz.prog (Instr.index 24 (arr3 c) (.int .i64 (i:Nat))) []=some (.int .i64 (c i),[]):=by
 have:i=0\/i=1\/i=2:=by omega
 rcases this with rfl|rfl|rfl
 ·show evR Tryz.prog (Instr.index 24 (arr3 c) (.int .i64 ((0:Nat):Int))) []=some (.int .i64 (c 0),[]);kernel_rfl
 ·show evR Tryz.prog (Instr.index 24 (arr3 c) (.int .i64 ((1:Nat):Int))) []=some (.int .i64 (c 1),[]);kernel_rfl
 ·show evR Tryz.prog (Instr.index 24 (arr3 c) (.int .i64 ((2:Nat):Int))) []=some (.int .i64 (c 2),[]);kernel_rfl
theorem il: ∃n,∀{σ}{F:Fam σ}{Δ:DM F}{main s}(L:Frag)(c:Nat->Int)(bo:Int),(∀cs,(Δ s).New (.cells cs 26))->Fun L->
 CallsL Δ Tryz.prog main 45 [cfgv c bo].toArray n s L (fun s' v L'=>s=s'/\v= .bool (okc c bo)/\Ext L L'):=by
 apply Exists.intro;intro σ F Δ main s L c bo hN hF;co_applyP aF 25 Tryz.func45 Tryz.ntmps45;co_applyP aa;co_applyP b5 rfl (b8 (hN _));intro b L1 hA;have hE:Ext L L1:=⟨hA.fn,hA.sub⟩;have hbo:At L1 b 3 (.int .i64 bo):=⟨true,_,_,_,hA.self,rfl⟩;co_applyP oan rfl;co_applyP au;co_applyP aa;co_applyP oy rfl (ak (hf:=iD));co_applyP oy rfl (bF (ht:=Cq) (hs:=Cp) (hm:=hA.self) (hi:=by show 0+0+3<=4;decide));co_applyP oy rfl ag;co_applyP ai;co_applyP aC;rw[show (Value.agg (((cfgv c bo).cells).extract 0 (0+3)))=arr3 c from rfl];co_applyP bg (fun k s' ε' L'=>s'=s/\L'=L1/\ ∃i,i<=3/\k+i=3/\(∀j,j<i->1<=c j/\c j<=10)/\kn ε' [(1,ptr b),(6,arr3 c),(7, .int .i64 (i:Nat))]) 3
 ·exact⟨rfl,rfl,0,by omega,rfl,by omega,rfl⟩
 rintro k s' ε' L' ⟨rfl,rfl,i,hi,hk,hok,he⟩;co_applyP aN he;have ei:IntKind.i64.wrap ((i:Int)+1)=((i+1:Nat):Int):=by simp[IntKind.wrap_i64];omega
 co_applyP aa;co_applyP oy rfl bj;co_applyP ai;co_applyP au;co_applyP aT rfl;intro hlt
 ·have hi3:i<3:=by simp at hlt;omega
  co_applyP aB;co_applyP au;co_applyP aC;co_applyP aa;co_applyP oy rfl (zU (CY c hi3));co_applyP oan rfl;co_applyP au;co_applyP cO ([(15, .bool (decide (c i<1\/10<c i))),(1,ptr b),(6,arr3 c),(7, .int .i64 (i:Nat))]);co_applyP aq;co_applyP om rfl rfl rfl bj;co_applyP oy rfl ag
  ·by_cases h3:c i<1
   ·have e3:decide (c i<1)=true:=by simp[h3]
    rw[e3];co_applyP ou rfl;co_applyP ou rfl;co_applyP oy rfl aH;co_applyP ai;change _=_/\_=_/\kn _ _;refine⟨rfl,rfl, ?_⟩;have e4:true=decide (c i<1\/10<c i):=by simp[h3]
    rw[<-e4];rfl
   ·have e3:decide (c i<1)=false:=by simp;omega
    rw[e3];co_applyP om rfl rfl rfl (cx);co_applyP oy rfl aH;co_applyP ai;change _=_/\_=_/\kn _ _;refine⟨rfl,rfl, ?_⟩;have e4:decide (10<c i)=decide (c i<1\/10<c i):=by simp[h3]
    rw[<-e4];rfl
  co_applyP aT rfl;intro hw;co_applyP aa;co_applyP oan rfl;co_applyP aK;change∃v,resE .. =some v/\_
  ·have hw':c i<1\/10<c i:=by simpa using hw
   have e5:okc c bo=false:=by
    unfold okc;simp only[decide_eq_false_iff_not];rintro⟨h1,_⟩;have:i=0\/i=1\/i=2:=by omega
    rcases this with rfl|rfl|rfl<;>omega
   exact⟨_,rfl,rfl,by rw[e5],hE⟩
  intro hw;co_applyP aB;co_applyP aq;co_applyP oy rfl aS;co_applyP oy rfl ag;co_applyP ai;change∃k',k'<_/\_;have hw': ¬(c i<1\/10<c i):=by simpa using hw
  refine⟨k-1,by omega,rfl,rfl,i+1,by omega,by omega,fun j hj=> ?_,by rw[<-ei];rfl⟩;by_cases hj':j=i
  ·subst hj';omega
  ·exact hok j (by omega)
 intro hlt;co_applyP bf;co_applyP au;have hi3:i=3:=by simp at hlt;omega
 subst hi3;co_applyP cO ([(2, .bool (okc c bo))]);co_applyP aq;co_applyP oy rfl (ak (hf:=eu));co_applyP oy rfl (aA (ht:=aR));co_applyP oy rfl dt;co_applyP oy rfl ag
 ·by_cases h3:1<=bo
  ·have e3:decide (1<=bo)=true:=by simp[h3]
   rw[e3];co_applyP oy rfl ((ak (hf:=eu)));co_applyP oy rfl ((aA (ht:=aR)));co_applyP oy rfl (l9);co_applyP oy rfl aH;co_applyP oan rfl;change _=_/\_=_/\kn _ _;refine⟨rfl,rfl, ?_⟩;have e4:decide (bo<=1000)=okc c bo:=by unfold okc;have h0:=hok 0 (by omega);have h1:=hok 1 (by omega);have h2:=hok 2 (by omega);simp[h3,h0,h1,h2]
   rw[<-e4];rfl
  ·have e3:decide (1<=bo)=false:=decide_eq_false h3;rw[e3];co_applyP ou rfl;co_applyP ou rfl;co_applyP ou rfl;co_applyP oy rfl aH;co_applyP oan rfl;change _=_/\_=_/\kn _ _;refine⟨rfl,rfl, ?_⟩;have e4:false=okc c bo:=by unfold okc;symm;simp only[decide_eq_false_iff_not];omega
   rw[<-e4];rfl
 co_applyP aK;change∃v,resE .. =some v/\_;exact⟨_,rfl,rfl,rfl,hE⟩
def oki (n:Nat):Bool:=decide (0<n/\n%4=0/\n<=1024)
theorem mI: ∃n,∀{σ}{F:Fam σ}{Δ:DM F}{main s}(L:Frag)(base:Option Addr)(len cap:Nat),
 CallsL Δ Tryz.prog main 46 [.slice base len cap].toArray n s L (fun s' v L'=>s=s'/\v= .bool (oki len)/\L=L'):=by
 apply Exists.intro;intro σ F Δ main s L base len cap;co_applyP aF 17 Tryz.func46 Tryz.ntmps46;co_applyP aa;co_applyP oan rfl;co_applyP aa;co_applyP om rfl rfl rfl (bt (hu:=U44));co_applyP oan rfl;co_applyP au;co_applyP cO ([(2, .bool (oki len))]);co_applyP aq;co_applyP om rfl rfl rfl cx;co_applyP oy rfl ag
 ·by_cases h3:0<len
  ·have e3:decide ((0:Int)<(len:Int))=true:=by simp[h3]
   rw[e3];co_applyP om rfl rfl rfl (eP);rw[show Int.tmod (len:Int) 4=((len%4:Nat):Int) by rw[Int.tmod_eq_emod_of_nonneg (by omega)];rfl];co_applyP oy rfl (aI);co_applyP oy rfl aH;co_applyP oy rfl ag;by_cases h4:len%4=0
   ·have e5:(((len%4:Nat):Int)==0)=true:=by simp[h4]
    rw[e5];co_applyP om rfl rfl rfl (l9);co_applyP oy rfl aH;co_applyP oan rfl;change _=_/\_=_/\kn _ _;refine⟨rfl,rfl, ?_⟩;have e4:decide ((len:Int)<=1024)=oki len:=by unfold oki;simp only[h3,h4,true_and];congr 1;simp;omega
    rw[<-e4];rfl
   ·have e5:(((len%4:Nat):Int)==0)=false:=by simp;omega
    rw[e5];co_applyP ou rfl;co_applyP ou rfl;co_applyP oy rfl aH;co_applyP oan rfl;change _=_/\_=_/\kn _ _;refine⟨rfl,rfl, ?_⟩;have e4:false=oki len:=by unfold oki;symm;simp only[decide_eq_false_iff_not];omega
    rw[<-e4];rfl
  ·have e3:decide ((0:Int)<(len:Int))=false:=by simp;omega
   rw[e3];co_applyP ou rfl;co_applyP ou rfl;co_applyP ou rfl;co_applyP oy rfl aH;co_applyP oy rfl ag;co_applyP ou rfl;co_applyP ou rfl;co_applyP oy rfl aH;co_applyP oan rfl;change _=_/\_=_/\kn _ _;refine⟨rfl,rfl, ?_⟩;have e4:false=oki len:=by unfold oki;symm;simp only[decide_eq_false_iff_not];omega
   rw[<-e4];rfl
 co_applyP aK;change∃v,resE .. =some v/\_;exact⟨_,rfl,rfl,rfl,rfl⟩
abbrev bts (im:Nat->Int)(n:Nat):List Value:=(List.range n).map fun i=>Value.int .u8 (im i)
theorem AU (a b c e:Int):evR Tryz.prog (Instr.build 158 [(0, .int .u8 a),(1, .int .u8 b),(2, .int .u8 c),(3, .int .u8 e)].toArray) []=some (.agg #[.int .u8 a, .int .u8 b, .int .u8 c, .int .u8 e],[]):=by kernel_rfl
theorem wq:zeroAt Tryz.prog 158=some (.agg #[.int .u8 0, .int .u8 0, .int .u8 0, .int .u8 0]):=by kernel_rfl
theorem yL:bytesAt Tryz.prog 158=some 4:=by kernel_rfl
theorem DW (im:Nat->Int)(j:Nat):bts im (4*(j+1))=bts im (4*j)++[.int .u8 (im (4*j)), .int .u8 (im (4*j+1)), .int .u8 (im (4*j+2)), .int .u8 (im (4*j+3))]:=by
 have:4*(j+1)=4*j+1+1+1+1:=by omega
 rw[this];simp only[bts,List.range_succ,List.map_append,List.map_cons,List.map_nil,List.append_assoc,List.cons_append,List.nil_append]
theorem wu: ∃n,∀{σ}{F:Fam σ}{Δ:DM F}{main s}(L:Frag)(ib o len cap:Nat)(im:Nat->Int),(∀cs,(Δ s).New (.cells cs 158))->Fun L->len%4=0->len<=1024->(∀i,i<len->At L ib (o+i) (.int .u8 (im i)))->
 CallsL Δ Tryz.prog main 47 [.slice (some ⟨ib,o,none⟩) len cap].toArray n s L (fun s' v L'=>s=s'/\ ∃a,v=rowv a 4 (len/4)/\slOk a (bts im len) 158 L'/\(∀t∈L,a.b≠some t.1)/\Ext L L'):=by
 apply Exists.intro;intro σ F Δ main s L ib o len cap im hN hF h4 hle hat;co_applyP aF 36 Tryz.func47 Tryz.ntmps47;co_applyP aa;co_applyP oan rfl;co_applyP aa;co_applyP oan rfl;co_applyP au;co_applyP aa;co_applyP oan rfl;co_applyP aC;co_applyP bg (fun c s' ε' L'=>s'=s/\Ext L L'/\ ∃j a,4*j<=len/\c+j=256/\slOk a (bts im (4*j)) 158 L'/\(∀t∈L,a.b≠some t.1)/\kn ε' [(0, .slice (some ⟨ib,o,none⟩) len cap),(4, .int .i64 ((4*j:Nat):Int)),(3,rowv a 4 j)]) 256
 ·exact⟨rfl,⟨hF,fun _ h=>h⟩,0,⟨none,[]⟩,by omega,rfl,⟨rfl,rfl⟩,fun t ht=>by simp,rfl⟩
 rintro c s' ε' L' ⟨rfl,hE,j,a,hj,hc,ha,han,he⟩;co_applyP aN he;have w0:IntKind.i64.wrap (((4*j:Nat):Int)+4)=((4*(j+1):Nat):Int):=by simp[IntKind.wrap_i64];omega
 have w1:IntKind.i64.wrap (((4*j:Nat):Int)+1)=((4*j+1:Nat):Int):=by simp[IntKind.wrap_i64];omega
 have w2:IntKind.i64.wrap (((4*j:Nat):Int)+2)=((4*j+2:Nat):Int):=by simp[IntKind.wrap_i64];omega
 have w3:IntKind.i64.wrap (((4*j:Nat):Int)+3)=((4*j+3:Nat):Int):=by simp[IntKind.wrap_i64];omega
 co_applyP au;co_applyP aa;co_applyP om rfl rfl rfl aS;co_applyP om rfl rfl rfl (bt (hu:=U44));co_applyP oy rfl l9;co_applyP ai;co_applyP aT rfl;intro hlt
 ·rw[w0] at hlt;have hlt':4*(j+1)<=len:=by simp only[decide_eq_true_eq] at hlt;omega
  have hat': ∀i,i<4->At L' ib (o+(4*j+i)) (.int .u8 (im (4*j+i))):=fun i hi=>by
   obtain⟨fl,cs,ty,fr,h1,h2⟩:=hat (4*j+i) (by omega);exact⟨fl,cs,ty,fr,hE.s _ h1,h2⟩
  co_applyP aB;co_applyP au;co_applyP aC;co_applyP br [] 22 (nf:=0) a5;co_applyP tr 0 rfl (ag) pN;co_applyP tr 1 rfl (ag) pN;co_applyP tr 2 rfl (ag) pN;co_applyP tr 3 rfl (bw U44 dX (off:=o+(4*j)) (ho:=by rw[Nat.mul_one,Int.toNat_natCast])) pN;co_applyP t0 4 rfl (aA (ht:=eX) (hv:=hat' 0 (by omega))) pN;co_applyP tr 5 rfl (ag) pN;co_applyP tr 6 rfl (ag) pN;co_applyP tr 7 rfl (aS) pN;rw[w1];co_applyP tr 8 rfl (bw U44 dX (off:=o+(4*j+1)) (ho:=by rw[Nat.mul_one,Int.toNat_natCast])) pN;co_applyP t0 9 rfl (aA (ht:=eX) (hv:=hat' 1 (by omega))) pN;co_applyP tr 10 rfl (ag) pN;co_applyP tr 11 rfl (ag) pN;co_applyP tr 12 rfl (aS) pN;rw[w2];co_applyP tr 13 rfl (bw U44 dX (off:=o+(4*j+2)) (ho:=by rw[Nat.mul_one,Int.toNat_natCast])) pN;co_applyP t0 14 rfl (aA (ht:=eX) (hv:=hat' 2 (by omega))) pN;co_applyP tr 15 rfl (ag) pN;co_applyP tr 16 rfl (ag) pN;co_applyP tr 17 rfl (aS) pN;rw[w3];co_applyP tr 18 rfl (bw U44 dX (off:=o+(4*j+3)) (ho:=by rw[Nat.mul_one,Int.toNat_natCast])) pN;co_applyP t0 19 rfl (aA (ht:=eX) (hv:=hat' 3 (by omega))) pN;co_applyP tr 20 rfl (bi (AU _ _ _ _)) pN;co_applyP m7 (i:=21) rfl (fY (sz:=4) (hN:=hN _) (hv:=rfl) (hu:=na) (hs:=dg) (hz:=wq) (h0:=by decide) (h24:=by decide));intro nb L1 hA;refine⟨cJ (by simp) (fun t ht=>hA.sub t ht), ?_⟩;co_applyP bd;intro hnd;have hr:Reads Tryz.prog L1 4 1 (.slice (some ⟨nb,0,none⟩) 1 1) [Value.int .u8 (im (4*j)), .int .u8 (im (4*j+1)), .int .u8 (im (4*j+2)), .int .u8 (im (4*j+3))].toArray:=by
   have:=cI (P:=Tryz.prog) (sz:=4) (n:=1) (len:=1) (cap:=1) (o:=0) hA.self (by show 0+1*4<=4;decide);exact this
  co_applyP te (i:=22) rfl (jW (a:=a) (by_:=3) (xs:=bts im (4*j)) (n:=j) (m:=1) (hnd:=hnd) (hu:=na) (hs:=dg) (hb:=yL) (hz:=wq) (hzs:=rfl) (hN:=hN) (ha:=ha.mono fun c hc o ho=>hA.sub _ ho) (hn:=by simp;omega) (hr:=hr) (hm:=rfl) (hpl:=rfl) (h0:=by decide) (h8:=by omega));rintro _ _ ⟨a',rfl,hp⟩;refine⟨aD (by simp), ?_⟩;co_applyP to 23 rfl (bR) (aD (by simp));co_applyP td (by kernel_rfl);co_applyP aq;co_applyP om rfl rfl rfl aS;co_applyP oan rfl;change∃k',k'<_/\_;refine⟨c-1,by omega,rfl,⟨hp.fn,fun t ht=>hp.sub _ (hA.sub _ (hE.s _ ht)) (han t ht)⟩,j+1,a',by omega,by omega, ?_,fun t ht e=> ?_,by rw[w0];rfl⟩
  ·rw[DW];exact hp.ok
  ·rcases hp.d _ e with h|h
   ·exact han t ht h
   ·exact h _ (hA.sub _ (hE.s _ ht)) rfl
 intro hlt;co_applyP bf;co_applyP aa;co_applyP oy rfl ag;co_applyP oan rfl;co_applyP aK;change∃v,resE .. =some v/\_;rw[w0] at hlt;have hj4:4*j=len:=by simp at hlt;omega
 have hj4':len/4=j:=by omega
 exact⟨_,rfl,rfl,a,by rw[hj4'],by rw[<-hj4];exact ha,han,hE⟩
section
variable {New:Obj->Prop}{N:Nat}{ε:Env}{L:Frag}{d:Option Tmp}{ty:TypeId}{ps:String}{af:Array Edge}{g:Option (Nat×Bool)}{P:Program}
theorem CZ {t:TypeId}(hN:New (.map #[] 0)):EO P New N ε L ⟨d, .makeMap t none,ty,ps,af,g⟩ (fun r L''=> ∃b,(∀t∈L,t.1≠b)/\r= .map (some b)/\L''=(b,true, .map #[] 0)::L):=
 fun _ _=>tt hN fun b hb=>⟨b,hb,rfl,rfl⟩
end
def PS.zero:PS:=⟨0,0,0,0,0,0,0,fun _=>0,fun _=>0,fun _=>(0,0),0⟩
def St.bare (c:Nat->Int)(bo:Int)(pn:Nat)(im:Nat->Int):St:=⟨c,bo,pn,fun i j=>im (4*i+j),[],0,fun _=>[],fun _=>[],[],0⟩
theorem wv (c:Nat->Int)(bo:Int)(b n cap wb:Nat):evR Tryz.prog (Instr.build 115 [(0,cfgv c bo),(1, .slice (some ⟨b,0,none⟩) n cap),(6, .map (some wb))].toArray) []=some (.agg (kcells ⟨c,bo, .slice (some ⟨b,0,none⟩) n cap, .slice none 0 0,0,fun _=> .slice none 0 0,fun _=> .slice none 0 0, .map (some wb),0⟩),[]):=by kernel_rfl
theorem DX:evR Tryz.prog (Instr.build 99 [].toArray) []=some (.agg (pcells PS.zero),[]):=by kernel_rfl
theorem si {K g cap wb len:Nat}{c:Nat->Int}{bo:Int}{im:Nat->Int}{L L1 L2:Frag}{a:Sl}(hab:a.b=some g)(h4:len%4=0)(hcap:cap=len/4+a.junk.length/4)(ha:slOk a (bts im len) 158 L1)(hw:(wb,true,Obj.map #[] 0)∈L1)(hE:Ext L L1)(han: ∀t∈L,a.b≠some t.1) (hwn: ∀t∈L,t.1≠wb)
 (hA:Add L1 K (.cells (kcells ⟨c,bo, .slice (some ⟨g,0,none⟩) (len/4) cap, .slice none 0 0,0,fun _=> .slice none 0 0,fun _=> .slice none 0 0, .map (some wb),0⟩) 115) L2):
 Rep K ⟨g,cap,(bts im len++a.junk).toArray,fun _=>⟨none,[]⟩,fun _=>⟨none,[]⟩,wb,[],0⟩ (St.bare c bo (len/4) im) L L2 where
 fn:=hA.fn
 k:=hA.self
 g:=hA.sub _ (ha.mem hab)
 gv i j hi hj:=by
  have hlt:4*i+j<len:=by have:i<len/4:=hi;omega
  simp only[List.getElem?_toArray];rw[List.getElem?_append_left (by simpa using hlt)];simp[hlt,St.bare]
 p q hq:=by cases hq
 pn:=by simp[St.bare]
 p8:=by simp[St.bare]
 pa:=⟨rfl,rfl⟩
 rw l hl:=⟨rfl,rfl⟩
 ya i hi:=⟨rfl,rfl⟩
 w:=hA.sub _ hw
 wl:=rfl
 bn:=by simp
 bc x hx:=by cases hx
 wa e he:=by cases he
 d i j hij hn:=absurd rfl hn
 dy i j hij hn:=absurd rfl hn
 al i c hc:=by cases hc
 yl i c hc:=by cases hc
 fr t ht:=hA.sub _ (hE.s _ ht)
 fd t ht:=⟨hA.new _ (hE.s _ ht),fun q hq=>by(cases hq),fun i h=>by(cases h),fun i h=>by(cases h),hwn t ht⟩
theorem C0: ∃n,∀{σ}{F:Fam σ}{Δ:DM F}{main s}(L:Frag)(c:Nat->Int)(bo:Int)(im:Value),(∀s o,(Δ s).New o)->Fun L->okc c bo=false->
 CallsL Δ Tryz.prog main 29 [cfgv c bo,im].toArray n s L (fun s' v L'=>s=s'/\v= .tuple #[.pointer none, .int .i64 1]/\Ext L L'):=by
 obtain⟨n1,g1⟩:=il;apply Exists.intro;intro σ F Δ main s L c bo im hN hF hok;co_applyP aF 24 Tryz.func29 Tryz.ntmps29;co_applyP aa;co_applyP b5 rfl (b8 (hN _ _));intro b L1 hA;co_applyP oy rfl bR;co_applyP oan rfl;co_applyP au (n₂:=0);co_applyP aa;co_applyP oy rfl (bF (ht:=jN) (hs:=iC) (hm:=hA.self) (hi:=by show 0+4<=4;decide));rw[show (Value.agg (((cfgv c bo).cells).extract 0 (0+4)))=cfgv c bo from rfl];co_applyP oc rfl rfl rfl (g1 L1 c bo (fun cs=>hN _ _) hA.fn);rintro _ _ _ ⟨rfl,rfl,hE⟩;rw[hok];co_applyP oy rfl cP;co_applyP ai;co_applyP bv rfl;co_applyP aa;co_applyP oy rfl bR;co_applyP oan rfl;co_applyP aK;change∃v,resE .. =some v/\_;exact⟨_,rfl,rfl,rfl,(Ext.mk hA.fn hA.sub).trans hE⟩
theorem C1: ∃n,∀{σ}{F:Fam σ}{Δ:DM F}{main s}(L:Frag)(c:Nat->Int)(bo:Int)(base:Option Addr)(len cap:Nat),(∀s o,(Δ s).New o)->Fun L->okc c bo=true->oki len=false->
 CallsL Δ Tryz.prog main 29 [cfgv c bo, .slice base len cap].toArray n s L (fun s' v L'=>s=s'/\v= .tuple #[.pointer none, .int .i64 2]/\Ext L L'):=by
 obtain⟨n1,g1⟩:=il;obtain⟨n2,g2⟩:=mI;apply Exists.intro;intro σ F Δ main s L c bo base len cap hN hF hok hoi;co_applyP aF 24 Tryz.func29 Tryz.ntmps29;co_applyP aa;co_applyP b5 rfl (b8 (hN _ _));intro b L1 hA;co_applyP oy rfl bR;co_applyP oan rfl;co_applyP au;co_applyP aa;co_applyP oy rfl (bF (ht:=jN) (hs:=iC) (hm:=hA.self) (hi:=by show 0+4<=4;decide));rw[show (Value.agg (((cfgv c bo).cells).extract 0 (0+4)))=cfgv c bo from rfl];co_applyP oc rfl rfl rfl (g1 L1 c bo (fun cs=>hN _ _) hA.fn);rintro _ _ _ ⟨rfl,rfl,hE⟩;rw[hok];co_applyP oy rfl cP;co_applyP ai;co_applyP aE rfl;co_applyP aB;co_applyP au (n₂:=0);co_applyP aa;co_applyP oy rfl ag;co_applyP oc rfl rfl rfl (g2 _ base len cap);rintro _ _ _ ⟨rfl,rfl,rfl⟩;rw[hoi];co_applyP oy rfl cP;co_applyP ai;co_applyP bv rfl;co_applyP aa;co_applyP oy rfl bR;co_applyP oan rfl;co_applyP aK;change∃v,resE .. =some v/\_;exact⟨_,rfl,rfl,rfl,(Ext.mk hA.fn hA.sub).trans hE⟩
theorem C2: ∃n,∀{σ}{F:Fam σ}{Δ:DM F}{main s}(L:Frag)(c:Nat->Int)(bo:Int)(ib o len cap:Nat)(im:Nat->Int),(∀s o,(Δ s).New o)->Fun L->okc c bo=true->oki len=true->(∀i,i<len->At L ib (o+i) (.int .u8 (im i)))->
 CallsL Δ Tryz.prog main 29 [cfgv c bo, .slice (some ⟨ib,o,none⟩) len cap].toArray n s L (fun s' v L'=>s=s'/\ ∃K A b,v= .tuple #[ptr K, .int .i64 0]/\Rep K A ((St.bare c bo (len/4) im).adopt b PS.zero) L L'):=by
 obtain⟨n1,g1⟩:=il;obtain⟨n2,g2⟩:=mI;obtain⟨n3,g3⟩:=wu;obtain⟨n4,g4⟩:=zW;apply Exists.intro;intro σ F Δ main s L c bo ib o len cap im hN hF hok hoi hat;have hoi':0<len/\len%4=0/\len<=1024:=by unfold oki at hoi;simpa using hoi
 co_applyP aF 24 Tryz.func29 Tryz.ntmps29;co_applyP aa;co_applyP b5 rfl (b8 (hN _ _));intro b L1 hA;have hE1:Ext L L1:=⟨hA.fn,hA.sub⟩;co_applyP oy rfl bR;co_applyP oan rfl;co_applyP au;co_applyP aa;co_applyP oy rfl (bF (ht:=jN) (hs:=iC) (hm:=hA.self) (hi:=by show 0+4<=4;decide));rw[show (Value.agg (((cfgv c bo).cells).extract 0 (0+4)))=cfgv c bo from rfl];co_applyP oc rfl rfl rfl (g1 L1 c bo (fun cs=>hN _ _) hA.fn);rintro _ _ _ ⟨rfl,rfl,hE⟩;rename_i L2;rw[hok];co_applyP oy rfl cP;co_applyP ai;co_applyP aE rfl;co_applyP aB;co_applyP au;co_applyP aa;co_applyP oy rfl ag;co_applyP oc rfl rfl rfl (g2 _ _ len cap);rintro _ _ _ ⟨rfl,rfl,rfl⟩;rw[hoi];co_applyP oy rfl cP;co_applyP ai;co_applyP aE rfl;co_applyP aB;change wpE ..;have hcfg:(b,true,Obj.cells (cfgv c bo).cells 26)∈L2:=hE.s _ hA.self;have hE2:Ext L L2:=hE1.trans hE;have hbn: ∀(a:Sl)(L3:Frag),slOk a (bts im len) 158 L3-> ∃g,a.b=some g:=fun a L3 h=>by
  cases hab:a.b with
  |some g=>exact⟨g,rfl⟩
  |none=>
   unfold slOk at h;rw[hab] at h;have:=congrArg List.length h.1;simp at this;omega
 co_applyP cK (fun s'' ε'' L''=>s=s''/\ ∃K A,Rep K A (St.bare c bo (len/4) im) L2 L''/\kn ε'' [(6,ptr K)]);co_applyP br L2 5 a5;co_applyP tr 0 rfl (bF (ht:=jN) (hs:=iC) (hm:=hcfg) (hi:=by show 0+4<=4;decide)) pI;rw[show (Value.agg (((cfgv c bo).cells).extract 0 (0+4)))=cfgv c bo from rfl];co_applyP tr 1 rfl (ag) pI;co_applyP t2 (i:=2) (j:=3) rfl rfl rfl (g3 L2 ib o len cap im (fun cs=>hN _ _) hE.f hoi'.2.1 hoi'.2.2 (fun i hi=>hE2.at (hat i hi))) rfl (CZ (hN _ _))
 ·rintro s' v L3 ⟨rfl,a,rfl,ha,han,hE3⟩;refine⟨cJ (fun t h=>hE3.s t h) (fun t h=>hE3.s t h), ?_⟩;obtain⟨g,hg⟩:=hbn a L3 ha;have ev:rowv a 4 (len/4)= .slice (some ⟨g,0,none⟩) (len/4) (len/4+a.junk.length/4):=by unfold rowv;rw[hg]
  rw[ev];co_applyP m7 (i:=3) rfl (CZ (hN _ _));intro wb L4 hA4;refine⟨cJ (fun t h=>hA4.sub _ (hE3.s t h)) (fun t h=>hA4.sub _ (hE3.s t h)), ?_⟩;co_applyP to 4 rfl (bi (wv c bo g _ _ wb)) (cJ (fun t h=>hA4.sub _ (hE3.s t h)) (fun t h=>hA4.sub _ (hE3.s t h)));co_applyP m7 (i:=5) rfl (b8 (hN _ _));intro K L5 hA5;refine⟨aD (fun t h=>hA5.sub _ (hA4.sub _ (hE3.s t h))), ?_⟩;co_applyP to 6 rfl (bR) (aD (fun t h=>hA5.sub _ (hA4.sub _ (hE3.s t h))));co_applyP td (by kernel_rfl);change _=_/\ ∃K A,_/\kn _ _;exact⟨rfl,K,_,si hg hoi'.2.1 rfl (ha.mono fun c hc o ho=>hA4.sub _ ho) hA4.self ⟨hA4.fn,fun t h=>hA4.sub _ (hE3.s t h)⟩ han (fun t ht=>hA4.new _ (hE3.s _ ht)) hA5,rfl⟩
 ·rintro v L3 ⟨wb,hwb,rfl,rfl⟩;refine⟨cJ (fun t h=>List.mem_cons_of_mem _ h) (fun t h=>List.mem_cons_of_mem _ h), ?_⟩;have hA3:=cQ (o:= .map #[] 0) hE.f hwb;have hE3:Ext L2 ((wb,true, .map #[] 0)::L2):=⟨hA3.fn,hA3.sub⟩;co_applyP tc 2 rfl rfl rfl (g3 _ ib o len cap im (fun cs=>hN _ _) hA3.fn hoi'.2.1 hoi'.2.2 (fun i hi=>(hE2.trans hE3).at (hat i hi)));rintro _ _ _ ⟨rfl,a,rfl,ha,han,hE4⟩;refine⟨cJ (fun t h=>hE4.s _ (hA3.sub t h)) (fun t h=>hE4.s _ (hA3.sub t h)), ?_⟩;rename_i L4;obtain⟨g,hg⟩:=hbn a L4 ha;have ev:rowv a 4 (len/4)= .slice (some ⟨g,0,none⟩) (len/4) (len/4+a.junk.length/4):=by unfold rowv;rw[hg]
  rw[ev];co_applyP to 4 rfl (bi (wv c bo g _ _ wb)) (cJ (fun t h=>hE4.s _ (hA3.sub t h)) (fun t h=>hE4.s _ (hA3.sub t h)));co_applyP m7 (i:=5) rfl (b8 (hN _ _));intro K L5 hA5;refine⟨aD (fun t h=>hA5.sub _ (hE4.s _ (hA3.sub t h))), ?_⟩;co_applyP to 6 rfl (bR) (aD (fun t h=>hA5.sub _ (hE4.s _ (hA3.sub t h))));co_applyP td (by kernel_rfl);change _=_/\ ∃K A,_/\kn _ _;exact⟨rfl,K,_,si hg hoi'.2.1 rfl ha (hE4.s _ hA3.self) (hE3.trans hE4) (fun t ht=>han _ (hA3.sub _ ht)) hwb hA5,rfl⟩
 rintro s'' ε'' L3 ⟨rfl,K,A,hR,he⟩;co_applyP aN he;co_applyP aa;co_applyP om rfl rfl rfl (bi DX);co_applyP b5 rfl (b8 (hN _ _));intro pbk L4 hA4;have hR4:Rep K A (St.bare c bo (len/4) im) (pb pbk PS.zero::L2) L4:=hR.fresh ⟨hA4.fn,hA4.sub⟩ hA4.new hA4.self;co_applyP oc rfl rfl rfl (g4 K A _ L2 L4 pbk PS.zero (fun cs=>hN _ _) hR4 (fun t ht=>hA4.new _ (hR.fr t ht)) (by simp[St.bare]) (by simp[St.bare]) (by decide) (by simp[St.bare]));rintro _ _ _ ⟨rfl,rfl,A',hR5⟩;co_applyP ai;co_applyP aa;co_applyP om rfl rfl rfl bR;co_applyP oan rfl;co_applyP aK;change∃v,resE .. =some v/\_;exact⟨_,rfl,rfl,K,A',pbk,rfl,hR5.less fun t ht=>hE2.s t ht⟩
section
variable {P:Program}{N:Nat}{ε:Env}{L:Frag}{d:Option Tmp}{ty:TypeId}{ps:String}{af:Array Edge}{g:Option (Nat×Bool)}{t e:TypeId}{x y z:Operand}{b o sz len:Nat}{k1 k2:IntKind}{l h:Int}
theorem wz (hu:P.underlying t=some (.array (len+1) e))(hs:sizeAt P e=some sz)(hx:ev ε x=some (.pointer (some ⟨b,o,none⟩)):=by rfl):
 EY P N ε L ⟨d, .slice t x none none none,ty,ps,af,g⟩ (.slice (some ⟨b,o,none⟩) (len+1) (len+1)):=fun _ ha=>by
 refine cW (fun _=>rfl) fun K hK=> ?_;simp only[Option.map_none,ha.ev hx];unfold Instr.sliceAt;rw[ay,aL hu];simp only;rw[ay,dr];simp only[Instr.sliceBounds];simp only[ay,bP];rw[cH hs];have e1:(if len+1=0 then(⟨b,o,none⟩:Addr) else(⟨b,o,none⟩:Addr).add (0*sz))=⟨b,o,none⟩:=by
  simp[dq]
 rw[e1];exact hK
end
def phead (x:PS):List Value:= .int .i64 x.id:: .int .i64 x.par:: .int .i64 x.st:: .int .i64 x.stat:: .int .i64 x.at_:: .int .i64 x.lv:: .int .i64 x.used::(List.range 8).map (fun i=> .int .u16 (x.r i))
theorem ug (x:PS):(pcells x).extract (0+0) (0+0+15)=(phead x).toArray:=rfl
theorem wA:bytesAt Tryz.prog 49=some 72:=by kernel_rfl
theorem sj:zeroAt Tryz.prog 49=some (.agg (phead PS.zero).toArray):=by kernel_rfl
def heads (l:List (Nat×PS)):List Value:=l.flatMap fun q=>phead q.2
theorem fm (l:List (Nat×PS)):(heads l).length=l.length*15:=by
 induction l with
 |nil=>rfl
 |cons q l ih=>
  have:heads (q::l)=phead q.2++heads l:=rfl;rw[this,List.length_append,ih];simp[phead];omega
theorem rB (l:List (Nat×PS))(q:Nat×PS):heads (l++[q])=heads l++phead q.2:=by simp[heads]
theorem yM: ∃n,∀{σ}{F:Fam σ}{Δ:DM F}{main s}(K:Nat)(A:Lay)(S:St)(Fr L:Frag),(∀s o,(Δ s).New o)->Rep K A S Fr L->
 CallsL Δ Tryz.prog main 20 [ptr K].toArray n s L (fun s' v L'=>s=s'/\ ∃a,v=rowv a 15 S.ps.length/\slOk a (heads S.ps) 49 L'/\(∀t∈L,a.b≠some t.1)/\Ext L L'):=by
 obtain⟨n1,g1⟩:=zO;apply Exists.intro;intro σ F Δ main s K A S Fr L hN hR;obtain⟨base,cap,hv,hat⟩:=bY hR.pa;simp only[List.length_map] at hv;co_applyP aF 22 Tryz.func20 Tryz.ntmps20;co_applyP aa;co_applyP oan rfl;co_applyP aa;co_applyP oan rfl;co_applyP au;co_applyP aa;co_applyP oy rfl ag;co_applyP oc rfl rfl rfl (g1 K A S Fr L hR);rintro _ _ _ ⟨rfl,rfl,rfl⟩;rw[hv];co_applyP oy rfl (bt (hu:=U91));co_applyP oy rfl ag;co_applyP ai;co_applyP aC;co_applyP bg (fun k s' ε' L'=>s'=s/\Ext L L'/\ ∃l1 l2 a,S.ps=l1++l2/\k+l1.length=8/\slOk a (heads l1) 49 L'/\(∀t∈L,a.b≠some t.1)/\kn ε' [(9, .int .i64 l1.length),(8, .int .i64 S.ps.length),(7, .slice base S.ps.length cap),(3,rowv a 15 l1.length)]) 8
 ·exact⟨rfl,⟨hR.fn,fun _ h=>h⟩,[],S.ps,⟨none,[]⟩,rfl,rfl,⟨rfl,rfl⟩,fun t ht=>by simp,rfl⟩
 rintro k s' ε' L' ⟨rfl,hE,l1,l2,a,hl,hk,ha,han,he⟩;co_applyP aN he;have hlen:=congrArg List.length hl;simp only[List.length_append] at hlen;have h8:=hR.p8;co_applyP aa;co_applyP oy rfl bj;co_applyP ai;co_applyP au;co_applyP aT rfl;intro hc
 ·cases l2 with
  |nil=>simp at hc hlen;omega
  |cons q l2=>
   obtain⟨b,hb,hbs,hbv⟩:=hat l1.length (ptr q.1) (by rw[hl];simp);subst hbs;have hbv':At L' b l1.length (ptr q.1):=hE.at hbv;have hq:=hE.s _ (hR.p q (by rw[hl];simp));simp at hlen;have ei:IntKind.i64.wrap ((l1.length:Int)+1)=((l1++[q]).length:Int):=by simp[IntKind.wrap_i64];omega
   co_applyP aB;co_applyP au;co_applyP aC;co_applyP aa;co_applyP oy rfl (bw U91 cM);co_applyP oy rfl (aA (ht:=ff));co_applyP oan rfl;co_applyP aq;co_applyP om rfl rfl rfl ag;co_applyP oy rfl av;co_applyP oy rfl (ak (hf:=aM));co_applyP oy rfl (bF (ht:=pd) (hs:=fe) (hm:=hq) (hi:=by rw[bL];omega));rw[ug];co_applyP b5 rfl (fY (sz:=15) (hN:=hN _ _) (hv:=rfl) (hu:=U42) (hs:=fe) (hz:=sj) (h0:=by decide) (h24:=by decide));intro nb L1 hA;have hr:Reads Tryz.prog L1 15 1 (.slice (some ⟨nb,0,none⟩) 1 1) (phead q.2).toArray:=by
    have:=cI (P:=Tryz.prog) (sz:=15) (n:=1) (len:=1) (cap:=1) (o:=0) hA.self (by show 0+1*15<=15;decide);exact this
   co_applyP oeN rfl (fun hnd=>jW (a:=a) (by_:=71) (xs:=heads l1) (n:=l1.length) (m:=1) (hnd:=hnd) (hu:=U42) (hs:=fe) (hb:=wA) (hz:=sj) (hzs:=rfl) (hN:=fun cs=>hN _ _) (ha:=ha.mono fun c hc o ho=>hA.sub _ ho) (hn:=fm l1) (hr:=hr) (hm:=rfl) (hpl:=rfl) (h0:=by decide) (h8:=by omega));rintro _ L2 ⟨a',rfl,hp⟩;co_applyP oan rfl;co_applyP aq;co_applyP oy rfl aS;co_applyP oy rfl ag;co_applyP ai;change∃k',k'<_/\_;refine⟨k-1,by omega,rfl,⟨hp.fn,fun t ht=>hp.sub _ (hA.sub _ (hE.s _ ht)) (han t ht)⟩,l1++[q],l2,a',by simp[hl],by simp;omega, ?_,fun t ht e=> ?_, ?_⟩
   ·rw[rB];exact hp.ok
   ·rcases hp.d _ e with h|h
    ·exact han t ht h
    ·exact h _ (hA.sub _ (hE.s _ ht)) rfl
   ·rw[<-ei,show (l1++[q]).length=l1.length+1 by simp];rfl
 intro hc;co_applyP bf;co_applyP aa;co_applyP oy rfl ag;co_applyP oan rfl;co_applyP aK;change∃v,resE .. =some v/\_;have hl2:l2=[]:=by
  cases l2 with
  |nil=>rfl
  |cons q l2=>simp at hc hlen;omega
 subst hl2;simp only[List.append_nil] at hl;rw[<-hl] at ha;exact⟨_,rfl,rfl,a,by rw[hl],ha,han,hE⟩
theorem wB: ∃n,∀{σ}{F:Fam σ}{Δ:DM F}{main s}(L:Frag)(Q o len cap:Nat)(cs:Array Value)(e:TypeId)(fl:Bool),(∀s o,(Δ s).New o)->Fun L->(Q,fl,Obj.cells cs e)∈L->0<len->len<=1000->o+len<=cs.size->(∀v∈cs.toList,plainV v=true)->
 CallsL Δ Tryz.prog main 38 [.slice (some ⟨Q,o,none⟩) len cap].toArray n s L (fun s' v L'=>s=s'/\ ∃a,v=rowv a 1 len/\slOk a (cs.extract o (o+len)).toList 5 L'/\(∀t∈L,a.b≠some t.1)/\Ext L L'):=by
 apply Exists.intro;intro σ F Δ main s L Q o len cap cs e fl hN hF hm h0 h1000 hsz hpl;co_applyP aF 8 Tryz.func38 Tryz.ntmps38;co_applyP aa;co_applyP oan rfl;co_applyP au;co_applyP aa;co_applyP om rfl rfl rfl (zS U44);co_applyP ai;co_applyP aE rfl;co_applyP aB;co_applyP aa;co_applyP b5 rfl (zT (hN _ _) (hu:=U44) (hs:=dX));intro nb L1 hA;co_applyP oy rfl ag;have hr:Reads Tryz.prog L1 1 len (.slice (some ⟨Q,o,none⟩) len cap) (cs.extract o (o+len)).toList.toArray:=by
  have:=cI (P:=Tryz.prog) (sz:=1) (n:=len) (len:=len) (cap:=cap) (o:=o) (hA.sub _ hm) (by omega);rw[Nat.mul_one] at this;exact this
 have hrow:Value.slice (some ⟨nb,0,none⟩) 0 0=rowv ⟨some nb,[]⟩ 1 0:=by simp[rowv]
 rw[hrow];have hl:(cs.extract o (o+len)).toList.length=len*1:=by simp;omega
 co_applyP oeN rfl (fun hnd=>jW (a:=⟨some nb,[]⟩) (by_:=0) (xs:=[]) (ys:=(cs.extract o (o+len)).toList) (n:=0) (m:=len) (hnd:=hnd) (hu:=U44) (hs:=dX) (hb:=vK) (hz:=yw) (hzs:=rfl) (hN:=fun cs=>hN _ _) (ha:=hA.self) (hn:=rfl) (hr:=hr) (hm:=hl) (hpl:=by rw[List.all_eq_true];intro v hv;simp only[Array.toList_extract,List.extract_eq_take_drop] at hv;exact hpl v (List.mem_of_mem_drop (List.mem_of_mem_take hv))) (h0:=by decide) (h8:=by omega));rintro _ L2 ⟨a',rfl,hp⟩;co_applyP oan rfl;co_applyP aK;change∃v,resE .. =some v/\_;have hE:Ext L L2:=⟨hp.fn,fun t ht=>hp.sub _ (hA.sub _ ht) (by simpa using (hA.new _ ht).symm)⟩;refine⟨_,rfl,rfl,a',by rw[Nat.zero_add],hp.ok,fun t ht e=> ?_,hE⟩;rcases hp.d _ e with h|h
 ·exact hA.new t ht (by simpa using h.symm)
 ·exact h _ (hA.sub _ ht) rfl
def mems (x:PS):List Value:=(List.range 64).map fun i=> .int .u8 (x.m i)
theorem nM (x:PS): ∀v∈(pcells x).toList,plainV v=true:=by
 intro v hv;have:(pcells x).toList.all plainV=true:=rfl;exact List.all_eq_true.1 this v hv
theorem wC (x:PS):((pcells x).extract (0+15) (0+15+64)).toList=mems x:=by
 have h:=pG x;have h':(pcells x).extract (0+15) (0+15+64)=((List.range 64).map fun i=>Value.int .u8 (x.m i)).toArray:=Value.agg.inj h;rw[h'];rfl
theorem wD: ∃n,∀{σ}{F:Fam σ}{Δ:DM F}{main s}(K:Nat)(A:Lay)(S:St)(Fr L:Frag)(id:Int),Rep K A S Fr L->S.find id=none->
 CallsL Δ Tryz.prog main 21 [ptr K, .int .i64 id].toArray n s L (fun s' v L'=>s=s'/\v= .tuple #[.slice none 0 0, .int .i64 4]/\L=L'):=by
 obtain⟨n1,g1⟩:=js;apply Exists.intro;intro σ F Δ main s K A S Fr L id hR hn;co_applyP aF 17 Tryz.func21 Tryz.ntmps21;co_applyP aa;co_applyP oy rfl bR;co_applyP oan rfl;co_applyP aa;co_applyP om rfl rfl rfl ag;co_applyP oc rfl rfl rfl (g1 K A S Fr L id hR);rintro _ _ _ ⟨rfl,rfl,rfl⟩;rw[hn];simp only[Option.map_none,optPtr];co_applyP oan rfl;co_applyP au (n₂:=0);co_applyP aa;co_applyP om rfl rfl rfl (fN (hu:=U93));co_applyP ai;co_applyP bv rfl;co_applyP aa;co_applyP oy rfl bR;co_applyP oan rfl;co_applyP aK;change∃v,resE .. =some v/\_;exact⟨_,rfl,rfl,rfl,rfl⟩
theorem wE: ∃n,∀{σ}{F:Fam σ}{Δ:DM F}{main s}(K:Nat)(A:Lay)(S:St)(Fr L:Frag)(id:Int)(b:Nat)(x:PS),(∀s o,(Δ s).New o)->Rep K A S Fr L->S.find id=some (b,x)->
 CallsL Δ Tryz.prog main 21 [ptr K, .int .i64 id].toArray n s L (fun s' v L'=>s=s'/\ ∃a,v= .tuple #[rowv a 1 64, .int .i64 0]/\slOk a (mems x) 5 L'/\(∀t∈L,a.b≠some t.1)/\Ext L L'):=by
 obtain⟨n1,g1⟩:=js;obtain⟨n2,g2⟩:=wB;apply Exists.intro;intro σ F Δ main s K A S Fr L id b x hN hR hn;have hb:(b,x)∈S.ps:=List.mem_of_find?_eq_some hn;co_applyP aF 17 Tryz.func21 Tryz.ntmps21;co_applyP aa;co_applyP oy rfl bR;co_applyP oan rfl;co_applyP aa;co_applyP om rfl rfl rfl ag;co_applyP oc rfl rfl rfl (g1 K A S Fr L id hR);rintro _ _ _ ⟨rfl,rfl,rfl⟩;rw[hn];simp only[Option.map_some,optPtr];co_applyP oan rfl;co_applyP au;co_applyP aa;co_applyP om rfl rfl rfl (fN (hu:=U93));co_applyP ai;co_applyP aE rfl;co_applyP aB;co_applyP aa;co_applyP om rfl rfl rfl av;co_applyP oy rfl (ak (hf:=kg));co_applyP oy rfl (wz U94 dX);co_applyP oc rfl rfl rfl (g2 L b (0+15) 64 64 (pcells x) 99 true hN hR.fn (hR.p _ hb) (by decide) (by decide) (by rw[bL];decide) (nM x));rintro _ _ _ ⟨rfl,a,rfl,ha,han,hE⟩;co_applyP oy rfl bR;co_applyP oan rfl;co_applyP aK;change∃v,resE .. =some v/\_;rw[wC] at ha;exact⟨_,rfl,rfl,a,rfl,ha,han,hE⟩
theorem AV: ∃n,∀{σ}{F:Fam σ}{Δ:DM F}{main s}(L:Frag)(K:Option Addr)(m:Int),(∀s o,(Δ s).New o)->Fun L->(m<0\/2000<m)->
 CallsL Δ Tryz.prog main 19 [.pointer K, .int .i64 m].toArray n s L (fun s' v L'=>s=s'/\v= .tuple #[.slice none 0 0, .int .i64 3]/\Ext L L'):=by
 apply Exists.intro;intro σ F Δ main s L K m hN hF hm;co_applyP aF 25 Tryz.func19 Tryz.ntmps19;co_applyP aa;co_applyP b5 rfl (b8 (hN _ _));intro kb L1 hA1;co_applyP b5 rfl (b8 (hN _ _));intro mb L2 hA2;have hE:Ext L L2:=⟨hA2.fn,fun t h=>hA2.sub _ (hA1.sub _ h)⟩;have hmb:At L2 mb 0 (.int .i64 m):=⟨true,_,_,_,hA2.self,rfl⟩;co_applyP oy rfl bR;co_applyP oan rfl;co_applyP au (n₂:=0);co_applyP au;co_applyP cO ([(15, .bool true)]);co_applyP aq;co_applyP oy rfl (aA (ht:=aR));co_applyP oy rfl bj;co_applyP oy rfl ag
 ·by_cases h3:m<0
  ·have e3:decide (m<0)=true:=by simp[h3]
   rw[e3];co_applyP ou rfl;co_applyP ou rfl;co_applyP oy rfl aH;co_applyP ai;change _=_/\_=_/\kn _ _;exact⟨rfl,rfl,rfl⟩
  ·have e3:decide (m<0)=false:=by simp;omega
   rw[e3];co_applyP oy rfl ((aA (ht:=aR)));co_applyP oy rfl (cx);co_applyP oy rfl aH;co_applyP ai;change _=_/\_=_/\kn _ _;refine⟨rfl,rfl, ?_⟩;have e4:decide (2000<m)=true:=by simp;omega
   rw[e4];rfl
 co_applyP bv rfl;co_applyP aa;co_applyP oy rfl bR;co_applyP oan rfl;co_applyP aK;change∃v,resE .. =some v/\_;exact⟨_,rfl,rfl,rfl,hE⟩
end Go.Proofs.YtejkelcaljmnoaaGreatDoor
namespace Go.Lo
open Go.Conc Go.Hx
def strv (l:List Int):Value:= .string ⟨(l.map fun n=>UInt8.ofNat n.toNat).toArray⟩
def Byt (l:List Int):Prop:= ∀n∈l,0<=n/\n<256
section
variable {P:Program}{N:Nat}{ε:Env}{L:Frag}{d:Option Tmp}{ty:TypeId}{ps:String}{af:Array Edge}{g:Option (Nat×Bool)}{x y:Operand}{t u:TypeId}{New:Obj->Prop}
theorem jX (f:Value->ByteArray->Sem (ForInStep ByteArray))(hf: ∀(n:Int)(r:ByteArray),f (.int .u8 n) r=pure (.yield (r.push (UInt8.ofNat n.toNat)))):
 ∀(l:List Int)(s:ByteArray),forIn (l.map (Value.int .u8)) s f=(pure ⟨s.data++(l.map fun n=>UInt8.ofNat n.toNat).toArray⟩:Sem ByteArray)
 |[],s=>by simp
 |n::l,s=>by
  simp only[List.map_cons,List.forIn_cons];rw[hf];show forIn (l.map (Value.int .u8)) (s.push (UInt8.ofNat n.toNat)) f=_;rw[jX f hf l];congr 1;apply ByteArray.ext;apply Array.ext';simp
theorem wF {l:List Int}{b o len cap:Nat}{cs:Array Value}{e e':TypeId}{fr:Nat×Nat}{fl:Bool}(hx:ev ε x=some (.slice (some ⟨b,o,none⟩) len cap):=by rfl)(ht:P.underlying t=some (.slice e))(he:P.underlying e=some (.int .u8))(hu:P.underlying u=some .string)(hm:(b,fl, .cells cs e' fr)∈L)(hc:o+len<=cs.size)(hl:cs.extract o (o+len)=(l.map (Value.int .u8)).toArray):EY P N ε L ⟨d, .convert t u x,ty,ps,af,g⟩ (strv l):=fun a ha=>by
 refine cW (fun _=>rfl) fun K hK=> ?_;unfold convert;rw[ha.ev hx,ay,aL ht,ay,aL hu];simp only;rw[ay,aL he];show wpQ P (Conv.bytesToString _) K L;unfold Conv.bytesToString;simp only;rw[ay];refine eW hm hc ?_;rw[hl,List.forIn_toArray,jX _ (fun n r=>rfl)];have e1:(⟨ByteArray.empty.data++(l.map fun n=>UInt8.ofNat n.toNat).toArray⟩:ByteArray)=⟨(l.map fun n=>UInt8.ofNat n.toNat).toArray⟩:=by apply ByteArray.ext;simp
 rw[e1];exact hK
theorem AW {e:TypeId}{n m:Nat}(hx:ev ε x=some (.slice none n m):=by rfl)(ht:P.underlying t=some (.slice e))(he:P.underlying e=some (.int .u8))(hu:P.underlying u=some .string):EY P N ε L ⟨d, .convert t u x,ty,ps,af,g⟩ (strv []):=fun a ha=>by
 refine cW (fun _=>rfl) fun K hK=> ?_;unfold convert;rw[ha.ev hx,ay,aL ht,ay,aL hu];simp only;rw[ay,aL he];exact hK
end
end Go.Lo
namespace Go.Proofs.YtejkelcaljmnoaaGreatDoor
open Go.Conc Go.Hx Go.Lo
def I64 (c:Int):Prop:= -9223372036854775808<=c/\c<=9223372036854775807
def pickN (c:Int)(n:Nat):Nat:=(if c<0 then-(c+1) else c).toNat%n
theorem wG {a:Int}{n:Nat}(h:0<=a):a.tmod (n:Int)=((a.toNat%n:Nat):Int):=by
 rw[Int.tmod_eq_emod_of_nonneg h];obtain⟨m,rfl⟩:=Int.eq_ofNat_of_zero_le h;simp
theorem wH (c:Int){n:Nat}(h:0<n):pickN c n<n:=Nat.mod_lt _ h
theorem C3 (a b c:Int):evR Tryz.prog (Instr.build 24 [(0, .int .i64 a),(1, .int .i64 b),(2, .int .i64 c)].toArray) []=some (.agg #[.int .i64 a, .int .i64 b, .int .i64 c],[]):=by kernel_rfl
theorem C4 (a b c e:Int):evR Tryz.prog (Instr.build 26 [(0, .agg #[.int .i64 a, .int .i64 b, .int .i64 c]),(1, .int .i64 e)].toArray) []=some (.agg #[.int .i64 a, .int .i64 b, .int .i64 c, .int .i64 e],[]):=by kernel_rfl
def St.fresh (c:Nat->Int)(bo:Int)(l:List Int)(b:Nat):St:=(St.bare c bo (l.length/4) (fun i=>l.getD i 0)).adopt b PS.zero
def PS.one:PS:={PS.zero with id:=1,st:=1}
section
variable {c:Nat->Int}{bo:Int}{l:List Int}{b:Nat}
theorem lx:(St.fresh c bo l b).ps=[(b,PS.one)]:=by simp[St.fresh,St.adopt,St.taken,St.wake1,St.setP,St.setRow,St.setPs,St.bare,PS.one,PS.zero]
theorem fZ:St.fresh c bo l b=⟨c,bo,l.length/4,fun i j=>l.getD (4*i+j) 0,[(b,PS.one)],1,put (fun _=>[]) 0 [b],fun _=>[],[],0⟩:=by
 have:=lx (c:=c) (bo:=bo) (l:=l) (b:=b);have e:St.fresh c bo l b={St.fresh c bo l b with ps:=(St.fresh c bo l b).ps}:=rfl;rw[e,this];rfl
theorem BN:(St.fresh c bo l b).map (fun _=>1)=St.fresh c bo l 1:=by
 rw[fZ,fZ];unfold St.map mapW;congr 1
 funext i
 show (put (fun _=>([]:List Nat)) 0 [b] i).map (fun _=>1)=put (fun _=>[]) 0 [1] i;unfold put
 split<;>rfl
theorem p9 (hc:okc c bo=true)(hl:oki l.length=true)(hB:Byt l):TI (fun _=>1) (St.fresh c bo l b):=by
 have hc':((1<=c 0/\c 0<=10)/\(1<=c 1/\c 1<=10)/\(1<=c 2/\c 2<=10))/\1<=bo/\bo<=1000:=by unfold okc at hc;exact of_decide_eq_true hc
 have hl':0<l.length/\l.length%4=0/\l.length<=1024:=by unfold oki at hl;exact of_decide_eq_true hl
 rw[fZ];have one: ∀q∈[(b,PS.one)],q=(b,PS.one):=fun q hq=>List.mem_singleton.1 hq;have row: ∀i c,c∈put (fun _=>([]:List Nat)) 0 [b] i->i=0/\c=b:=fun i c hc=>by
  unfold put at hc
  split at hc
  ·rename_i h;exact⟨h,List.mem_singleton.1 hc⟩
  ·cases hc
 refine⟨⟨⟨⟨?_, ?_, ?_, ?_, ?_, ?_⟩, ?_, ?_, ?_, ?_, ?_, ?_, ?_, ?_, ?_⟩, ?_,⟨?_, ?_, ?_, ?_, ?_, ?_, ?_⟩⟩,⟨?_, ?_⟩, ?_, ?_⟩
 ·simp
 ·simp
 ·intro q hq;rw[one q hq];show (0:Nat)<3;decide
 ·intro i _;show (put (fun _=>([]:List Nat)) 0 [b] i).Nodup;unfold put
  split<;>simp
 ·intro i _ d hd;obtain⟨rfl,rfl⟩:=row i d hd;exact⟨PS.one,List.mem_singleton.2 rfl,rfl,rfl⟩
 ·intro q hq _;rw[one q hq];show b∈put (fun _=>([]:List Nat)) 0 [b] 0;simp[put]
 ·intro q hq;rw[one q hq];exact⟨fun i _=>⟨Int.le_refl 0,by show (0:Int)<65536;decide⟩,fun i _=>⟨Int.le_refl 0,by show (0:Int)<256;decide⟩⟩
 ·intro q hq i _;rw[one q hq];exact .inl rfl
 ·intro i _;exact Nat.zero_le _
 ·intro i _ v hv;cases hv
 ·simp
 ·intro e he;cases he
 ·intro e he;cases he
 ·intro e he;cases he
 ·intro e he;cases he
 ·intro e he;cases he
 ·intro q hq;rw[one q hq];exact Nat.le_refl _
 ·intro q hq r hr _;rw[one q hq,one r hr]
 ·intro q hq;rw[one q hq];exact⟨Nat.le_refl 1,Nat.le_refl 1⟩
 ·exact⟨(b,PS.one),List.mem_singleton.2 rfl,rfl⟩
 ·intro q hq;rw[one q hq];exact⟨fun _=>rfl,fun _=>rfl⟩
 ·intro i hi;show put (fun _=>([]:List Nat)) 0 [b] i=[];unfold put;rw[if_neg (by omega)]
 ·intro q hq;rw[one q hq];rfl
 ·show l.length/4<=256;omega
 ·intro i hi j hj;have hi':i<l.length/4:=hi;show 0<=l.getD (4*i+j) 0/\l.getD (4*i+j) 0<256;have hlt:4*i+j<l.length:=by omega
  rw[List.getD_eq_getElem?_getD,List.getElem?_eq_getElem hlt];exact hB _ (List.getElem_mem hlt)
 ·show bo≠0;omega
 ·exact Nat.le_refl 1
theorem wI (hc:okc c bo=true)(hl:oki l.length=true)(hB:Byt l):Ab (St.fresh c bo l b) (St.fresh c bo l 1):=⟨_,p9 hc hl hB,BN.symm⟩
end
theorem mJ (S:St)(c:Nat):(S.tickU c).now=S.now:=by
 unfold St.tickU;cases S.lead.first with
 |none=>exact(bQ S).now
 |some b=>
  simp only;cases S.lead.get b with
  |none=>exact(bQ S).now
  |some x=>
   simp only;have h1:=(iS S.lead b x c).1.now;have h2:((S.lead.runS b x c).after b).now=(S.lead.runS b x c).now:=(iQ _ _).now;rw[h2,h1];exact(bQ S).now
theorem sm: ∀(m:Nat)(T:St),(St.runs m T).now<=T.now+m
 |0,T=>Nat.le_refl _
 |m+1,T=>by
  unfold St.runs
  split
  ·omega
  ·have h:=sm m T.next
   have e:T.next.now=T.now+1:=by
    show (T.tickU (T.last+1)).now+1=_;rw[mJ]
   omega
theorem Ab.now {S T:St}(h:Ab S T):S.now=T.now:=by
 obtain⟨N,_,rfl⟩:=h.ex;rfl
end Go.Proofs.YtejkelcaljmnoaaGreatDoor
namespace Go.Proofs.YtejkelcaljmnoaaGreatDoor
open Go.Conc Go.ConcX Go.Hx Go.Lo
theorem nN {P:Program}{b:Frame}{a:Act}{w:World}{fn:Func}{todo:List Item}{v:Value}(hn:b.kind= .normal)(hd:a.defers=[])(hf:P.funcs[b.fn]? =some fn)(hi:P.inits.idxOf? b.fn=none)
 (hr:(results fn a.tmps).run P w= .ok v w): ∃es,stepG P true (G {b.at a todo with mode:= .returning} []) w= .ended (.done v) w es/\ ∀e∈es,e∈(results fn a.tmps).events P w #[]:=
 ⟨_,by simp[G,stepG,unwind,doReturn,Frame.at,hn,hd,hf,hi,hr,GStep.after];rfl,fun _ he=>mem_seen (by simpa using he)⟩
theorem C5 [Payload]{P:Program}{Fin:Value->World->Prop}(hFin: ∀v w w₁,AtRel w w₁->Fin v w->Fin v w₁) {f:FuncId} {args:Array Value} {n N:Nat} {W:World} (hi:P.inits.idxOf? f=none)
 (h:CallsX (FZ P Fin) P true f args n (N,[]) W fun s' v w'=>s'.1=0/\Fin v w'): ∃m,Goes P true AtRel (D0 (Shs [])) (StopZ P Fin N []) m (G (Frame.enter P f args .normal) []) W:=by
 obtain⟨g,c,hf,hname,hbody,hwp⟩:=h
 have hleave: ∀(s':Nat×List Nat)(a':Act)(w':World)(todo:List Item),(a'.defers=[]/\ ∃v,ResultsC P g a'.tmps v/\s'.1=0/\Fin v w')->
  Goes P true AtRel (D0 (Shs s'.2)) (StopZ P Fin s'.1 s'.2) 0 (G {(base f).at a' todo with mode:= .returning} []) w':=by
  rintro⟨q,s'⟩ a' w' todo ⟨hd,v,hr,h0,hp⟩;simp only at h0;subst h0;refine Goes.stop fun w₁ h₁=> ?_;obtain⟨es,h2,h3⟩:=nN (P:=P) (b:=base f) (todo:=todo) rfl hd hf hi (hr w₁).1;refine⟨rfl,v,es,h2,fun e he=> ?_,hFin _ _ _ h₁ hp⟩;have:=h3 e he;rw[(hr w₁).2] at this;simp at this
 refine⟨1+n, ?_⟩;rw[enter_at args hf hbody];refine hwp (base f) [] [] 1 rfl (by simp[base]) fun s' e a' w' q=> ?_;cases e with
 |normal=>exact Goes.step rfl fun w₁ h₁=>by rw[stepG_end];exact⟨((FZ P Fin).terms s').idle _,(hleave s' a' w' [] q).rely ((FZ P Fin).terms s').trans h₁⟩
 |ret=>exact fun todo=>(hleave s' a' w' todo q).more
 |exit id=>exact q.elim
 |goto l=>exact q.elim
 |panic ch=>exact q.elim
 |outgrown=>exact q.elim
def base0 (W:World):Frag:=(List.range W.heap.size).map fun b=>(b,false,W.heap.getD b default)
theorem jG {W:World}{b:Nat}{o:Obj}(h:W.heap[b]? =some o):(b,false,o)∈base0 W:=by
 obtain⟨hb,e⟩:=Array.getElem?_eq_some_iff.1 h;refine List.mem_map.2 ⟨b,List.mem_range.2 hb, ?_⟩;simp[Array.getD_eq_getD_getElem?,h]
theorem qa {W:World}{b i:Nat}{v:Value}(h:W.cell? ⟨b,i,none⟩=some v):At (base0 W) b i v:=by
 unfold World.cell? at h
 split at h
 ·rename_i c t f hh;exact⟨false,c,t,f,jG hh,by simpa using h⟩
 ·cases h
theorem qd (W:World):((base0 W).map (·.1)).Nodup:=by
 unfold base0;rw[List.map_map];have:((fun t:Nat×Bool×Obj=>t.1)∘fun b=>(b,false,W.heap.getD b default))=id:=rfl;rw[this,List.map_id];exact List.nodup_range
theorem uh (W:World):Own0 (Shs []) W W.heap.size (base0 W) W where
 has t ht:=by
  obtain⟨b,hb,rfl⟩:=List.mem_map.1 ht;have hb':=List.mem_range.1 hb;simp[Array.getD_eq_getD_getElem?,hb']
 ap t ht l hl hs:=hs
 own t ht hf:=by
  obtain⟨b,hb,rfl⟩:=List.mem_map.1 ht;cases hf
 nd:=qd W
 low l b hs:=hs.elim
 old:=⟨rfl,rfl,rfl,Nat.le_refl _,fun _ _=>rfl⟩
def FinT (W:World)(v:Value)(w':World):Prop:=v= .bool true/\W.grownBy w' none
theorem C6 {P:Program}{f:FuncId}{args:Array Value}{n N:Nat}{W:World}(hi:P.inits.idxOf? f=none)
 (h:CallsL (F:=FZ P (FinT W)) (fun s=>dom0 (Shs s.2) W W.heap.size) P true f args n (N,[]) (base0 W) fun s' v L'=>s'.1=0/\v= .bool true):
 ∃k last o w' t',runNT P (k+1) (solo (G (Frame.enter P f args .normal) []) W) #[]=(.ended o w',t')/\runN P k (solo (G (Frame.enter P f args .normal) []) W)= .next last/\step P last= .ended o w'/\Conc.Good P (FinT W) last o w' t':=by
 have hFin: ∀v w w₁,AtRel w w₁->FinT W v w->FinT W v w₁:=fun v w w₁ hr h=>by
  obtain⟨d,rfl⟩:=hr;exact⟨h.1,h.2.os,h.2.tape,h.2.output,h.2.size,h.2.block⟩
 obtain⟨m,hG⟩:=C5 hFin hi (fX (h W (uh W)) fun s' v w' ⟨L',hL,h1,h2⟩=>⟨h1,h2,by
  have ho:OldW W W.heap.size w':=(show Own0 (Shs s'.2) W W.heap.size L' w' from hL).old;exact⟨ho.o,ho.t,ho.u,ho.z,fun k hk _=>ho.b k hk⟩⟩)
 exact lV N [] #[G (Frame.enter P f args .normal) []] _ W none #[] (fun _=>0) m rfl (leavers_one P _) sT hG
end Go.Proofs.YtejkelcaljmnoaaGreatDoor
