/-
  Part 9 of the proof.
  No condition but those that each statement names.
-/
import Derived.Test.YtejkelcaljmnoaaGreatDoorHy08
import Derived.Conc.LeavingOf
import Derived.JoinedOf
import Derived.RowKit
import Derived.RowKitTokens
import Derived.Stop.Joined
import Derived.Carry
import Derived.Deep.Slices
import Derived.Test.YtejkelcaljmnoaaGreatDoorHy07
import Derived.Test.YtejkelcaljmnoaaGreatDoorHy04
set_option maxRecDepth 100000
set_option maxHeartbeats 4000000
set_option linter.unusedVariables false
set_option linter.unusedSimpArgs false
set_option linter.unusedSectionVars false
namespace Go.Proofs.YtejkelcaljmnoaaGreatDoor
open Go.ChangeShapes Go.WideShapes Go.RowKit Go.Conc Go.ConcX Go.Hx Go.Lo
abbrev tx0:ByteArray:={data:= #[116,104,101,114,101,32,105,115,32,110,111,32,115,117,99,104,32,105,110,115,116,114,117,99,116,105,111,110]}
abbrev tx1:ByteArray:={data:= #[116,104,101,114,101,32,105,115,32,110,111,32,115,117,99,104,32,111,112,101,114,97,116,111,114]}
abbrev tx2:ByteArray:={data:= #[116,104,101,114,101,32,105,115,32,110,111,32,115,117,99,104,32,98,121,116,101,32,111,102,32,109,101,109,111,114,121]}
abbrev tx3:ByteArray:={data:= #[110,111,32,115,117,99,104,32,102,105,108,101,44,32,111,114,32,110,111,116,32,111,102,32,116,104,97,116,32,107,105,110,100]}
abbrev tx4:ByteArray:={data:= #[116,104,101,114,101,32,105,115,32,110,111,32,114,111,111,109,32,102,111,114,32,111,110,101,32,109,111,114,101]}
abbrev tx5:ByteArray:={data:= #[116,104,101,114,101,32,105,115,32,110,111,32,99,104,105,108,100]}
abbrev tx6:ByteArray:={data:= #[116,104,101,114,101,32,105,115,32,110,111,32,115,117,99,104,32,112,114,111,99,101,115,115]}
abbrev tx7:ByteArray:={data:= #[110,111,98,111,100,121,32,99,97,110,32,114,101,97,100,32,116,104,97,116]}
abbrev tx8:ByteArray:={data:= #[109,101,109,111,114,121,32,116,104,97,116,32,116,104,101,114,101,32,105,115,32,110,111,116]}
abbrev tx9:ByteArray:={data:= #[110,111,32,115,117,99,104,32,99,97,108,108,44,32,111,114,32,110,111,116,32,119,105,116,104,32,116,104,97,116]}
noncomputable def low:Nat:=(World.holding Tryz.prog default ⟨#[], #[],[]⟩).heap.size
def lay (h:Array Obj)(g:Nat)(v:Value):Array Obj:=h.modify g fun
 | .cells _ t frozen=> .cells #[v] t frozen
 |o=>o
noncomputable def laidWorld (os:Os):World:=
 let w0:=World.holding Tryz.prog os ⟨#[.cells #[.string tx0] 275, .cells #[.string tx1] 275, .cells #[.string tx2] 275, .cells #[.string tx3] 275, .cells #[.string tx4] 275, .cells #[.string tx5] 275, .cells #[.string tx6] 275, .cells #[.string tx7] 275, .cells #[.string tx8] 275, .cells #[.string tx9] 275], #[],[]⟩
 {w0 with heap:=lay (lay (lay (lay (lay (lay (lay (lay (lay (lay (lay (w0.heap) 0 (.iface 255 (.pointer (some ⟨low+0,0,none⟩)))) 1 (.iface 255 (.pointer (some ⟨low+1,0,none⟩)))) 10 (.iface 255 (.pointer (some ⟨low+2,0,none⟩)))) 3 (.iface 255 (.pointer (some ⟨low+3,0,none⟩)))) 4 (.iface 255 (.pointer (some ⟨low+4,0,none⟩)))) 5 (.iface 255 (.pointer (some ⟨low+5,0,none⟩)))) 6 (.iface 255 (.pointer (some ⟨low+6,0,none⟩)))) 7 (.iface 255 (.pointer (some ⟨low+7,0,none⟩)))) 8 (.iface 255 (.pointer (some ⟨low+8,0,none⟩)))) 9 (.iface 255 (.pointer (some ⟨low+9,0,none⟩)))) 2 (rty 168)}
theorem lP (os:Os)(args:Array Value):laidMetH Tryz.prog Rows.sumsRow.laid ((laidWorld os).forCall (fun _ _=>0) ⟨#[],args,[]⟩).memory:=
 laidMetH_of_parts (laidMet_of_run (ps:=[.cell 0 0, .cell (low+0) 0, .cell 1 0, .cell (low+1) 0, .cell 10 0, .cell (low+2) 0, .cell 3 0, .cell (low+3) 0, .cell 4 0, .cell (low+4) 0, .cell 5 0, .cell (low+5) 0, .cell 6 0, .cell (low+6) 0, .cell 7 0, .cell (low+7) 0, .cell 8 0, .cell (low+8) 0, .cell 9 0, .cell (low+9) 0]) 8 (by kernel_rfl) (by kernel_rfl) (by kernel_rfl)) (by kernel_rfl)
theorem wJ {n:Int}(h:(Lit.int .i64 n).wf=true):I64 n:=by
 simp[Lit.wf,IntKind.min,IntKind.max,IntKind.signed,IntKind.bits] at h;unfold I64;omega
end Go.Proofs.YtejkelcaljmnoaaGreatDoor
namespace Go.Proofs.YtejkelcaljmnoaaGreatDoor
open Go.ChangeShapes Go.WideShapes Go.WideElems Go.RowKit Go.Conc Go.ConcX Go.Hx Go.Lo
section
variable {H:Type}{enc:TypeId×Value->H}{P:Program}
theorem mH (hl:laidOutB P=true){W W':World}(hb:Below W.heap.size W W'):
 ∀{ts:List TypeId}{vs:List Value}{ds:List (DataW H)}{ps:List MemPlace},(∀t∈ts,P.readableRec t=true/\t<P.types.size)->DataW.TrodAll enc P W 0 (fun _=>true) true ts vs ds ps->DataW.TrodAll enc P W' 0 (fun b=>decide (b<W.heap.size)) true ts vs ds ps
 |[],[],[],_,_,h=>h
 |[],[],_::_,_,_,h=>h.elim
 |[],_::_,_,_,_,h=>h.elim
 |_::_,[],_,_,_,h=>h.elim
 |_::_,_::_,[],_,_,h=>h.elim
 |t::ts,v::vs,d::ds,ps,hr,h=>by
  have hlt:=h.lt;obtain⟨p,q,⟨n,h1⟩,h2,e⟩:=h;have ht:=hr t List.mem_cons_self;have hp: ∀x∈p,x.block<W.heap.size:=fun x hx=>hlt x (by rw[e];simp[hx]);exact⟨p,q,⟨n,DataW.trod_stays (kids_book hl ht.1) (book_sized ht.1) (fun h=>by cases h) ⟨ht.2,book_self t⟩ h1 (fun x hx=>hb.same (hp x hx)) (fun x hx=>by simpa using hp x hx)⟩,mH hl hb (fun t ht=>hr t (List.mem_cons_of_mem _ ht)) h2,e⟩
end
end Go.Proofs.YtejkelcaljmnoaaGreatDoor
namespace Go.Proofs.YtejkelcaljmnoaaGreatDoor
open Go.Conc Go.Hx Go.Lo
theorem ly {T:St}(h:T.isOver=true): ∀m,St.evs m T=[]
 |0=>rfl
 |m+1=>by unfold St.evs;rw[if_pos h]
theorem gL {T:St}(h:T.isOver=true): ∀m,St.runs m T=T
 |0=>rfl
 |m+1=>by unfold St.runs;rw[if_pos h]
theorem qa: ∀(a b:Nat)(T:St),St.runs (a+b) T=St.runs b (St.runs a T)
 |0,b,T=>by rw[Nat.zero_add];rfl
 |a+1,b,T=>by
  by_cases h:T.isOver=true
  ·rw[gL h,gL h,gL h]
  ·rw[show a+1+b=(a+b)+1 by omega];have e1: ∀n,St.runs (n+1) T=St.runs n T.next:=fun n=>by
    show (if T.isOver then T else St.runs n T.next)=_;rw[if_neg h]
   rw[e1,e1];exact qa a b T.next
theorem sq: ∀(a b:Nat)(T:St),St.evs (a+b) T=St.evs a T++St.evs b (St.runs a T)
 |0,b,T=>by rw[Nat.zero_add];rfl
 |a+1,b,T=>by
  by_cases h:T.isOver=true
  ·rw[gL h,ly h,ly h,ly h];rfl
  ·rw[show a+1+b=(a+b)+1 by omega];have e1:St.runs (a+1) T=St.runs a T.next:=by
    show (if T.isOver then T else St.runs a T.next)=_;rw[if_neg h]
   have e2: ∀n,St.evs (n+1) T=T.tickE++St.evs n T.next:=fun n=>by
    show (if T.isOver then [] else T.tickE++St.evs n T.next)=_;rw[if_neg h]
   rw[e1,e2,e2,sq a b T.next,List.append_assoc]
end Go.Proofs.YtejkelcaljmnoaaGreatDoor
namespace Go.Lo
open Go.Conc Go.Hx
end Go.Lo
namespace Go.Proofs.YtejkelcaljmnoaaGreatDoor
open Go.Conc Go.Hx Go.Lo
abbrev wcs (ws:List Wd):List Value:=ws.flatMap Wd.c
theorem iY (ws:List Wd):(wcs ws).length=ws.length*4:=by
 induction ws with
 |nil=>rfl
 |cons w ws ih=>
  have:wcs (w::ws)=Wd.c w++wcs ws:=rfl;rw[this,List.length_append,ih];show 4+_=_;simp only[List.length_cons];omega
theorem AW (ws:List Wd): ∀(i:Nat)(w:Wd),ws[i]? =some w-> ∀j,j<4->(wcs ws)[4*i+j]? =(Wd.c w)[j]? :=by
 induction ws with
 |nil=>intro i w h;simp at h
 |cons v ws ih=>
  intro i w h j hj;have e:wcs (v::ws)=Wd.c v++wcs ws:=rfl;have hl:(Wd.c v).length=4:=rfl;rw[e];cases i with
  |zero=>
   obtain rfl:v=w:=by simpa using h
   rw[Nat.mul_zero,Nat.zero_add,List.getElem?_append_left (by rw[hl];exact hj)]
  |succ i=>
   rw[List.getElem?_append_right (by rw[hl];omega),hl,show 4*(i+1)+j-4=4*i+j by omega];exact ih i w (by simpa using h) j hj
theorem yN (a b:List Wd):wcs (a++b)=wcs a++wcs b:=by simp[wcs]
theorem su:zeroAt Tryz.prog 51=some (evt 0 0 0 0):=by kernel_rfl
theorem wK:bytesAt Tryz.prog 51=some 32:=by kernel_rfl
section
variable {K M:Nat}{A B:Lay}{S T:St}{F L L' L2:Frag}
def Own (K:Nat)(A:Lay)(S:St)(b:Nat):Prop:=b=K\/(∃q∈S.ps,b=q.1)\/(∃i,(A.a i).b=some b)\/(∃i,(A.y i).b=some b)\/b=A.wt
theorem Rep.own (h:Rep K A S F L){b:Nat}(hb:Own K A S b): ∃o,(b,true,o)∈L/\((∃m c,o=Obj.map m c)\/ ∃cs e,o=Obj.cells cs e/\(e=115\/e=99\/e=93\/e=5)):=by
 rcases hb with rfl|⟨q,hq,rfl⟩|⟨i,hi⟩|⟨i,hi⟩|rfl
 ·exact⟨_,h.k, .inr ⟨_,_,rfl, .inl rfl⟩⟩
 ·exact⟨_,h.p q hq, .inr ⟨_,_,rfl, .inr (.inl rfl)⟩⟩
 ·obtain⟨xs,hx⟩:=h.al i b hi;exact⟨_,hx, .inr ⟨_,_,rfl, .inr (.inr (.inl rfl))⟩⟩
 ·obtain⟨xs,hx⟩:=h.yl i b hi;exact⟨_,hx, .inr ⟨_,_,rfl, .inr (.inr (.inr rfl))⟩⟩
 ·exact⟨_,h.w, .inl ⟨_,_,rfl⟩⟩
theorem Rep.notown (h:Rep K A S F L){b:Nat}{f:Bool}{cs:Array Value}{e:TypeId}(hm:(b,f,Obj.cells cs e)∈L)(he:e≠115/\e≠99/\e≠93/\e≠5): ¬Own K A S b:=fun hb=>by
 obtain⟨o,ho,h1⟩:=h.own hb;have e1:=(h.fn _ _ _ _ _ hm ho).2;rcases h1 with ⟨m,c,rfl⟩|⟨cs',e',rfl,h2⟩
 ·cases e1
 ·cases e1;rcases h2 with h2|h2|h2|h2
  ·exact he.1 h2
  ·exact he.2.1 h2
  ·exact he.2.2.1 h2
  ·exact he.2.2.2 h2
theorem AX {b:Nat}(h: ¬Own K A S b):b≠K/\(∀q∈S.ps,b≠q.1)/\(∀i,(A.a i).b≠some b)/\(∀i,(A.y i).b≠some b)/\b≠A.wt:=
 ⟨fun e=>h (.inl e),fun q hq e=>h (.inr (.inl ⟨q,hq,e⟩)),fun i e=>h (.inr (.inr (.inl ⟨i,e⟩))),fun i e=>h (.inr (.inr (.inr (.inl ⟨i,e⟩)))),fun e=>h (.inr (.inr (.inr (.inr e))))⟩
theorem Rep.frown (h:Rep K A S F L){t:Nat×Bool×Obj}(ht:t∈F): ¬Own K A S t.1:=by
 obtain⟨h1,h2,h3,h4,h5⟩:=h.fd t ht;rintro(e|⟨q,hq,e⟩|⟨i,e⟩|⟨i,e⟩|e)
 ·exact h1 e
 ·exact h2 q hq e
 ·exact h3 i e
 ·exact h4 i e
 ·exact h5 e
theorem Rep.move (h:Rep K A S F L)(hf:Fun L')(ho: ∀t∈L,Own K A S t.1->t∈L') (hg:(A.g,true,Obj.cells A.gc 158)∈L') (hF: ∀t∈F,t∈L'):Rep K A S F L':=
 {h with
  fn:=hf,k:=ho _ h.k (.inl rfl),g:=hg,p:=fun q hq=>ho _ (h.p q hq) (.inr (.inl ⟨q,hq,rfl⟩)),w:=ho _ h.w (.inr (.inr (.inr (.inr rfl)))),fr:=hF
  pa:=h.pa.mono fun b hb _ x=>ho _ x (.inr (.inr (.inl ⟨_,hb⟩)))
  rw:=fun l hl=>(h.rw l hl).mono fun b hb _ x=>ho _ x (.inr (.inr (.inl ⟨_,hb⟩)))
  ya:=fun i hi=>(h.ya i hi).mono fun b hb _ x=>ho _ x (.inr (.inr (.inr (.inl ⟨_,hb⟩))))
  wa:=fun e he=>(h.wa e he).mono fun b hb _ x=>ho _ x (.inr (.inr (.inl ⟨_,hb⟩)))
  al:=fun i c hc=>(h.al i c hc).imp fun _ x=>ho _ x (.inr (.inr (.inl ⟨_,hc⟩)))
  yl:=fun i c hc=>(h.yl i c hc).imp fun _ x=>ho _ x (.inr (.inr (.inr (.inl ⟨_,hc⟩))))}
end
section
variable {N:Nat}{ε:Env}{L:Frag}{d:Option Tmp}{ty:TypeId}{ps:String}{af:Array Edge}{g:Option (Nat×Bool)}{x y:Operand}{P:Program}{t u:TypeId}
theorem C5 {a b:Value}{r:Bool}(hg:evR P (eqGuard .eql t x y a b) []=some ((),[]))(hb:evR P (binOp .eql t a b) []=some (.bool r,[]))(hx:ev ε x=some a:=by rfl)(hy:ev ε y=some b:=by rfl):EY P N ε L ⟨d, .binOp .eql t x y u,ty,ps,af,g⟩ (.bool r):=fun ac ha=>by
 refine cW (fun _=>rfl) fun K hK=> ?_;rw[ha.ev hx,ha.ev hy];show wpQ P (eqGuard .eql t x y a b>>=fun _=>binOp .eql t a b) K L;rw[ay];exact bm hg (bm hb hK)
end
end Go.Proofs.YtejkelcaljmnoaaGreatDoor
namespace Go.Lo
open Go.Conc Go.Hx
def Same (P:Program)(d:Nat)(t:TypeId)(v:Value):Prop:= ∀{K:Bool->Prop}{L:Frag},K true->wpQ P (Op.equalIn d t v v) K L
section
variable {P:Program}{N:Nat}{ε:Env}{L:Frag}{d:Option Tmp}{ty:TypeId}{ps:String}{af:Array Edge}{g:Option (Nat×Bool)}{x y:Operand}{t u:TypeId}
theorem iZ {d:Nat}{k k':IntKind}{a:Int}(h:P.underlying t=some (.int k')):Same P (d+1) t (.int k a):=fun hK=>d8 h (by rw[beq_self_eq_true];exact hK)
theorem f9 {d:Nat}{xs:Array Value}{fs:Array Field}(ht:P.underlying t=some (.struct fs))(hp:P.stoodInHeld t=false)(h: ∀f∈fs.toList,∃v,evR P (part f.type xs f.offset) []=some (v,[])/\Same P d f.type v):Same P (d+1) t (.agg xs):=fun{K L} hK=>by
 refine eI ht hp ?_;generalize fs.toList=l at h
 induction l with
 |nil=>exact hK
 |cons f l ih=>
  have hr:=ih fun f hf=>h f (List.mem_cons_of_mem _ hf);simp only[Op.eqFields]
  split
  ·obtain⟨v,h1,h2⟩:=h f List.mem_cons_self;simp only[ay];refine bm h1 (bm h1 (h2 ?_));simpa using hr
  ·exact hr
theorem rC {d n z:Nat}{e:TypeId}{xs:Array Value}(ht:P.underlying t=some (.array n e))(hz:sizeAt P e=some z)(h: ∀i,i<n-> ∃v,evR P (part e xs (i*z)) []=some (v,[])/\Same P d e v):Same P (d+1) t (.agg xs):=fun{K L} hK=>by
 rw[Op.equalIn.eq_def,ay,aL ht];simp only;rw[ay,cH hz];simp only[Std.Legacy.Range.forIn_eq_forIn_range',Std.Legacy.Range.size,Nat.sub_zero,Nat.add_one_sub_one,Nat.div_one];have hr: ∀i∈List.range' 0 n,∃v,evR P (part e xs (i*z)) []=some (v,[])/\Same P d e v:=fun i hi=>h i (by simpa using hi);generalize List.range' 0 n=l at hr
 induction l with
 |nil=>exact hK
 |cons i l ih=>
  have hr':=ih fun f hf=>hr f (List.mem_cons_of_mem _ hf);simp only[List.forIn_cons,ay];obtain⟨v,h1,h2⟩:=hr i List.mem_cons_self;refine bm h1 (bm h1 (h2 ?_));simpa [ay,bP] using hr'
end
end Go.Lo
namespace Go.Proofs.YtejkelcaljmnoaaGreatDoor
open Go.Conc Go.Hx Go.Lo
def WL (L:Frag)(base:Option Addr)(ws:List Wd):Prop:= ∀i w,ws[i]? =some w-> ∃g cs,base=some ⟨g,0,none⟩/\(g,true,Obj.cells cs 51)∈L/\i*4+4<=cs.size/\cs.extract (i*4) (i*4+4)=(Wd.c w).toArray
theorem yO {ws:List Wd}{i:Nat}{w:Wd}(h:ws[i]? =some w)(l:List Value):((wcs ws++l).toArray.extract (i*4) (i*4+4))=(Wd.c w).toArray:=by
 have hi:=(List.getElem?_eq_some_iff.1 h).1;apply Array.ext';apply List.ext_getElem?;intro j;by_cases hj:j<4
 ·simp only[Array.toList_extract,List.extract_eq_take_drop];rw[List.getElem?_take_of_lt (by omega),List.getElem?_drop,List.getElem?_append_left (by rw[iY];omega),Nat.mul_comm i 4,AW ws i w h j hj]
 ·rw[List.getElem?_eq_none (by simp;omega),List.getElem?_eq_none (by show 4<=j;omega)]
theorem nL {L:Frag}{a:Sl}{ws:List Wd}(ha:slOk a (wcs ws) 51 L): ∃base cap,rowv a 4 ws.length= .slice base ws.length cap/\WL L base ws:=by
 cases hab:a.b with
 |none=>
  unfold slOk at ha;rw[hab] at ha;have h0:=ha.1;have:ws=[]:=by
   have h1:=congrArg List.length h0;rw[iY] at h1;exact List.length_eq_zero_iff.1 (by simp at h1;omega)
  subst this;exact⟨none,0,by unfold rowv;rw[hab];rfl,fun i w hw=>by simp at hw⟩
 |some b=>
  refine⟨some ⟨b,0,none⟩,_,by unfold rowv;rw[hab],fun i w hw=>⟨b,_,rfl,ha.mem hab, ?_,yO hw _⟩⟩;have hi:=(List.getElem?_eq_some_iff.1 hw).1;simp only[List.size_toArray,List.length_append,iY];omega
theorem qd {told:Value}{ws:List Wd}{L:Frag}(h:Heard told (ws.map Wd.v) L): ∃a,told=rowv a 4 ws.length/\slOk a (wcs ws) 51 L:=by
 rcases h with ⟨rfl,h0⟩|⟨g,cap,cur,rfl,hg,hn,hc,hz,ht⟩
 ·have:ws=[]:=by simpa using h0
  subst this;exact⟨⟨none,[]⟩,rfl,rfl,rfl⟩
 ·rw[List.length_map] at hn ht⊢;have e:cur.toList.take (ws.length*4)=wcs ws:=by rw[ht,List.flatMap_map];rfl
  have e2:(wcs ws++cur.toList.drop (ws.length*4)).toArray=cur:=by
   rw[<-e,List.take_append_drop]
  refine⟨⟨some g,cur.toList.drop (ws.length*4)⟩, ?_, ?_⟩
  ·unfold rowv;simp only[List.length_drop,Array.length_toList];have:ws.length+(cur.size-ws.length*4)/4=cap:=by omega
   rw[this]
  ·show (g,true,Obj.cells (wcs ws++cur.toList.drop (ws.length*4)).toArray 51)∈L;rw[e2];exact hg
theorem qf: ∀(l:List (Nat×PS)){i:Nat}{q:Nat×PS},l[i]? =some q-> ∀j,j<15->(heads l)[i*15+j]? =(phead q.2)[j]?
 |[],i,q,h,_,_=>by simp at h
 |r::l,0,q,h,j,hj=>by
  obtain rfl:r=q:=by simpa using h
  show (phead r.2++heads l)[0*15+j]? =_;rw[List.getElem?_append_left (by show 0*15+j<15;omega),Nat.zero_mul,Nat.zero_add]
 |r::l,i+1,q,h,j,hj=>by
  show (phead r.2++heads l)[(i+1)*15+j]? =_;rw[List.getElem?_append_right (by show 15<=(i+1)*15+j;omega),show (i+1)*15+j-(phead r.2).length=i*15+j from(by show (i+1)*15+j-15=_;omega)];exact qf l (by simpa using h) j hj
theorem ul {l:List (Nat×PS)}{i:Nat}{q:Nat×PS}(h:l[i]? =some q)(m:List Value):((heads l++m).toArray.extract (i*15) (i*15+15))=(phead q.2).toArray:=by
 have hi:=(List.getElem?_eq_some_iff.1 h).1;apply Array.ext';apply List.ext_getElem?;intro j;by_cases hj:j<15
 ·simp only[Array.toList_extract,List.extract_eq_take_drop];rw[List.getElem?_take_of_lt (by omega),List.getElem?_drop,List.getElem?_append_left (by rw[fk];omega),qf l h j hj]
 ·rw[List.getElem?_eq_none (by simp;omega),List.getElem?_eq_none (by show 15<=j;omega)]
theorem wL (w:Wd):Same Tryz.prog 10000 51 (.agg (Wd.c w).toArray):=by
 refine f9 (d:=9999) Tryz.underlying51 (by kernel_rfl) ?_;have k: ∀a:Int,Same Tryz.prog 9999 3 (.int .i64 a):=fun a=>iZ (d:=9998) U3;refine List.forall_mem_cons.2 ⟨⟨.int .i64 w.1,by kernel_rfl,k _⟩,List.forall_mem_cons.2 ⟨⟨.int .i64 w.2.1,by kernel_rfl,k _⟩,List.forall_mem_cons.2 ⟨⟨.int .i64 w.2.2.1,by kernel_rfl,k _⟩,List.forall_mem_cons.2 ⟨⟨.int .i64 w.2.2.2,by kernel_rfl,k _⟩, ?_⟩⟩⟩⟩;intro f hf;cases hf
theorem wM (r:Nat->Int):Same Tryz.prog 9999 47 (.agg ((List.range 8).map fun i=>Value.int .u16 (r i)).toArray):=by
 refine rC (d:=9998) U47 aV fun i hi=>⟨.int .u16 (r i), ?_,iZ (d:=9997) U32⟩;rcases i with _|_|_|_|_|_|_|_|i<;>first|omega|kernel_rfl
theorem AY (z:PS):Same Tryz.prog 10000 49 (.agg (phead z).toArray):=by
 refine f9 (d:=9999) Tryz.underlying49 (by kernel_rfl) ?_;have k: ∀a:Int,Same Tryz.prog 9999 3 (.int .i64 a):=fun a=>iZ (d:=9998) U3;refine List.forall_mem_cons.2 ⟨⟨.int .i64 z.id,by kernel_rfl,k _⟩,List.forall_mem_cons.2 ⟨⟨.int .i64 z.par,by kernel_rfl,k _⟩,List.forall_mem_cons.2 ⟨⟨.int .i64 z.st,by kernel_rfl,k _⟩,List.forall_mem_cons.2 ⟨⟨.int .i64 z.stat,by kernel_rfl,k _⟩, ?_⟩⟩⟩⟩;refine List.forall_mem_cons.2 ⟨⟨.int .i64 z.at_,by kernel_rfl,k _⟩,List.forall_mem_cons.2 ⟨⟨.int .i64 z.lv,by kernel_rfl,k _⟩,List.forall_mem_cons.2 ⟨⟨.int .i64 z.used,by kernel_rfl,k _⟩,List.forall_mem_cons.2 ⟨⟨_,by kernel_rfl,wM z.r⟩, ?_⟩⟩⟩⟩;intro f hf;cases hf
structure RE where
 pi:Nat->Nat
 wr:Nat->Bool
 ad:Int
 mn:Int
 un:Int
 du:Nat
def rHead (x:PS)(e:RE):List Value:=[.int .i64 x.id, .int .i64 x.par, .int .i64 x.st, .int .i64 x.stat, .int .i64 x.at_, .int .i64 x.lv, .int .i64 ((x.used+e.du:Nat):Int)]
def rTail (e:RE):List Value:=(List.range 6).map (fun i=> .int .i64 (e.pi i))++((List.range 6).map (fun i=> .bool (e.wr i))++[.int .i64 e.ad, .int .i64 e.mn, .int .i64 e.un])
def rpc (x:PS)(e:RE):Array Value:=(rHead x e++((List.range 8).map (fun i=>Value.int .u16 (x.r i))++((List.range 64).map (fun i=>Value.int .u8 (x.m i))++rTail e))).toArray
section
variable (x:PS)(e:RE)
theorem wN:rpc x e=((rHead x e++(List.range 8).map (fun i=>Value.int .u16 (x.r i)))++((List.range 64).map (fun i=>Value.int .u8 (x.m i))++rTail e)).toArray:=by unfold rpc;rw[List.append_assoc]
theorem wO {i:Nat}(hi:i<8):(rpc x e)[7+i]? =some (.int .u16 (x.r i)):=by
 unfold rpc;rw[List.getElem?_toArray];exact ko (rHead x e) 8 _ _ hi
theorem AZ {i:Nat}(hi:i<64):(rpc x e)[15+i]? =some (.int .u8 (x.m i)):=by
 rw[wN,List.getElem?_toArray];exact ko (rHead x e++(List.range 8).map (fun i=>Value.int .u16 (x.r i))) 64 _ _ hi
theorem ee {i:Nat}(hi:i<8)(v:Int):(rpc x e).setIfInBounds (7+i) (.int .u16 v)=rpc {x with r:=put x.r i v} e:=by
 unfold rpc;rw[List.setIfInBounds_toArray];have h:=kl (rHead x e) 8 (fun i=>Value.int .u16 (x.r i)) ((List.range 64).map (fun i=>Value.int .u8 (x.m i))++rTail e) hi (.int .u16 v);have e:put (fun i=>Value.int .u16 (x.r i)) i (.int .u16 v)=fun j=>Value.int .u16 (put x.r i v j):=by funext j;unfold put;split<;>rfl
 rw[e] at h;exact congrArg List.toArray h
theorem A0 {i:Nat}(hi:i<64)(v:Int):(rpc x e).setIfInBounds (15+i) (.int .u8 v)=rpc {x with m:=put x.m i v} e:=by
 rw[wN,List.setIfInBounds_toArray];have h:=kl (rHead x e++(List.range 8).map (fun i=>Value.int .u16 (x.r i))) 64 (fun i=>Value.int .u8 (x.m i)) (rTail e) hi (.int .u8 v);have e:put (fun i=>Value.int .u8 (x.m i)) i (.int .u8 v)=fun j=>Value.int .u8 (put x.m i v j):=by funext j;unfold put;split<;>rfl
 rw[e] at h;rw[wN];exact congrArg List.toArray h
theorem bC:(rpc x e).size=94:=by unfold rpc;simp[rHead,rTail]
theorem ku:(rpc x e)[0]? =some (.int .i64 x.id):=rfl
end
structure RX where
 img:List Int
 now:Nat
 over:Bool
 ws:List Wd
structure RB where
 p:Nat->Nat
 e:Nat->RE
 ap:Sl
 a:Nat->Sl
 ae:Sl
abbrev i64s (l:List Nat):List Value:=l.map fun n=>Value.int .i64 (n:Nat)
def rkc (B:RB)(T:St)(X:RX):Array Value:= #[.int .i64 (T.sl 0), .int .i64 (T.sl 1), .int .i64 (T.sl 2), .int .i64 T.bo,strv X.img,rowv B.ap 1 T.ps.length, .slice none 0 0,rowv (B.a 0) 1 (T.rows 0).length,rowv (B.a 1) 1 (T.rows 1).length,rowv (B.a 2) 1 (T.rows 2).length, .int .i64 (T.last:Nat), .int .i64 0, .int .i64 0, .int .i64 (X.now:Nat), .bool X.over,rowv B.ae 4 X.ws.length]
structure RImg (T:St)(img:List Int):Prop where
 n:img.length=4*T.pn
 g: ∀i j,i<T.pn->j<4->img[4*i+j]? =some (T.pg i j)
 b:Byt img
abbrev rpb (B:RB)(q:Nat×PS):Nat×Bool×Obj:=(B.p q.1,true,Obj.cells (rpc q.2 (B.e q.1)) 154)
structure RepR (o:Nat)(R:Nat)(B:RB)(T:St)(X:RX)(L:Frag):Prop where
 fn:Fun L
 k:(R,true,Obj.cells (rkc B T X) 150)∈L
 p: ∀q∈T.ps,rpb B q∈L
 pl:slOk B.ap (T.ps.map fun q=>ptr (B.p q.1)) 155 L
 rw: ∀l,l<3->slOk (B.a l) (i64s (T.rows l)) 3 L
 ev:slOk B.ae (wcs X.ws) 51 L
 dj: ∀l,l<3-> ∀l',l'<3->l≠l'-> ∀b,(B.a l).b=some b->(B.a l').b≠some b
 im:RImg T X.img
 id: ∀q∈T.ps,q.2.id=q.1
 le: ∀q∈T.ps,q.1<=T.last
 pn:(T.ps.map (·.1)).Nodup
 np: ∀q∈T.ps,∀i,i<6->(B.e q.1).pi i=0
 un: ∀q∈T.ps,q.2.st=3->(B.e q.1).un=q.2.til
 du: ∀q∈T.ps,(B.e q.1).du=if q.1=o then 1 else 0
 sz: ∀q∈T.ps,q.2.st≠6->q.2.stat=0
 ab: ∀q∈T.ps,q.2.at_<=65536
 nf: ∀q∈T.ps,∀i,i<6->q.2.f i=(0,0)
 wt:T.wt=[]
def OwnR (R:Nat)(B:RB)(T:St)(b:Nat):Prop:=b=R\/(∃q∈T.ps,b=B.p q.1)\/B.ap.b=some b\/(∃l,l<3/\(B.a l).b=some b)\/B.ae.b=some b
structure Foot (own own':Nat->Prop)(L L':Frag):Prop where
 s: ∀t∈L,¬own t.1->t∈L'
 n: ∀b,own' b->own b\/ ∀t∈L,t.1≠b
theorem Foot.refl (own:Nat->Prop)(L:Frag):Foot own own L L:=⟨fun _ h _=>h,fun _ h=> .inl h⟩
theorem Foot.trans {o1 o2 o3:Nat->Prop}{L1 L2 L3:Frag}(h:Foot o1 o2 L1 L2)(k:Foot o2 o3 L2 L3):Foot o1 o3 L1 L3 where
 s t ht hn:=k.s t (h.s t ht hn) fun e=>by
  rcases h.n _ e with e|e
  ·exact hn e
  ·exact e t ht rfl
 n b hb:=by
  rcases k.n b hb with e|e
  ·exact h.n b e
  ·by_cases hm: ∃t∈L1,t.1=b
   ·obtain⟨t,ht,e2⟩:=hm;by_cases ho:o1 b
    ·exact .inl ho
    ·exact absurd e2 (e t (h.s t ht (by rw[e2];exact ho)))
   ·exact .inr fun t ht e2=>hm ⟨t,ht,e2⟩
theorem Foot.ext {own:Nat->Prop}{L L':Frag}(e:Ext L L'):Foot own own L L':=⟨fun t ht _=>e.s t ht,fun _ h=> .inl h⟩
theorem dJ (S:St)(b:Nat)(x:PS):(S.setP b x).ps.map (·.1)=S.ps.map (·.1):=ba S b x
theorem dk {L:Frag}(hF:Fun L){b:Nat}{cs cs':Array Value}{e e':TypeId}{f f':Bool}(h:(b,f,Obj.cells cs e)∈L)(h':(b,f',Obj.cells cs' e')∈L):e=e':=by
 have:=(hF _ _ _ _ _ h h').2;cases this;rfl
structure Ch (D:Nat->Prop)(L L':Frag):Prop where
 fn:Fun L'
 s: ∀t∈L,¬D t.1->t∈L'
def NoT (L:Frag)(D:Nat->Prop)(e:TypeId):Prop:= ∀b cs,(b,true,Obj.cells cs e)∈L-> ¬D b
section
variable {L L' L1:Frag}{D D':Nat->Prop}{a:Sl}{xs:List Value}{e e0:TypeId}{b:Nat}{cs:Array Value}
theorem _root_.Go.Lo.Upd.ch {o:Obj}(h:Upd L b o L'):Ch (· =b) L L':=⟨h.fn,h.ne⟩
theorem ApN.ch {zs:List Value}{a':Sl}(h:ApN L e a zs a' L'):Ch (fun c=>a.b=some c) L L':=⟨h.fn,h.sub⟩
theorem NoT.one (hF:Fun L)(h:(b,true,Obj.cells cs e0)∈L)(he:e0≠e):NoT L (· =b) e:=fun c ds hm hd=>by
 have hd':c=b:=hd;subst hd';exact he (dk hF h hm)
theorem NoT.sl (hF:Fun L)(h:slOk a xs e0 L)(he:e0≠e):NoT L (fun c=>a.b=some c) e:=fun c ds hm hd=>he (dk hF (h.mem hd) hm)
theorem NoT.or (h:NoT L D e)(k:NoT L D' e):NoT L (fun c=>D c\/D' c) e:=fun c ds hm hd=>hd.elim (h c ds hm) (k c ds hm)
theorem Ch.keep (c:Ch D L L')(h:NoT L D e)(hm:(b,true,Obj.cells cs e)∈L):(b,true,Obj.cells cs e)∈L':=c.s _ hm (h _ _ hm)
theorem Ch.keepA (c:Ch D L L')(h: ∀b,a.b=some b-> ¬D b) (hm:slOk a xs e L):slOk a xs e L':=by
 unfold slOk at*
 split
 ·rename_i hb;rw[hb] at hm;exact hm
 ·rename_i b hb;rw[hb] at hm;exact c.s _ hm (h b hb)
theorem Ch.keepS (c:Ch D L L')(h:NoT L D e)(hm:slOk a xs e L):slOk a xs e L':=c.keepA (fun b hb=>h b _ (hm.mem hb)) hm
end
section
variable {o R:Nat}{B B':RB}{T T':St}{X X':RX}{L L' L1:Frag}{b:Nat}{x x':PS}
theorem RepR.kat (h:RepR o R B T X L){i:Nat}{v:Value}(hv:(rkc B T X)[i]? =some v):At L R i v:=⟨true,_,_,_,h.k,hv⟩
theorem RepR.pat (h:RepR o R B T X L)(hb:(b,x)∈T.ps){i:Nat}{v:Value}(hv:(rpc x (B.e b))[i]? =some v):At L (B.p b) i v:=⟨true,_,_,_,h.p _ hb,hv⟩
theorem RepR.ext (h:RepR o R B T X L)(e:Ext L L'):RepR o R B T X L':=
 {h with fn:=e.f,k:=e.s _ h.k,p:=fun q hq=>e.s _ (h.p q hq),pl:=h.pl.mono fun _ _ _=>e.s _,rw:=fun l hl=>(h.rw l hl).mono fun _ _ _=>e.s _,ev:=h.ev.mono fun _ _ _=>e.s _}
theorem RepR.inj (h:RepR o R B T X L){q r:Nat×PS}(hq:q∈T.ps)(hr:r∈T.ps)(e:B.p q.1=B.p r.1):q.1=r.1:=by
 have h1:=h.p q hq;have h2:=h.p r hr;unfold rpb at h1 h2;rw[e] at h1;have:=(h.fn _ _ _ _ _ h1 h2).2;have e2:rpc q.2 (B.e q.1)=rpc r.2 (B.e r.1):=(Obj.cells.inj this).1;have e3:=congrArg (fun c=>c[0]?) e2;simp only[ku] at e3;have e4:q.2.id=r.2.id:=by simp at e3;exact Int.ofNat.inj e3
 rw[h.id q hq,h.id r hr] at e4;exact e4
theorem RepR.setK (h:RepR o R B T X L){cs:Array Value}(hU:Upd L R (.cells cs 150) L')(T':St)(X':RX)(hc:cs=rkc B T' X')(hp:T'.ps=T.ps:=by rfl)(hr:T'.rows=T.rows:=by rfl)(hw:X'.ws=X.ws:=by rfl)(hi:X'.img=X.img:=by rfl)(hn:T'.pn=T.pn:=by rfl)(hg:T'.pg=T.pg:=by rfl)(hls:T.last<=T'.last:=by exact Nat.le_refl _)(hwt:T'.wt=T.wt:=by rfl):RepR o R B T' X' L'/\Foot (OwnR R B T) (OwnR R B T') L L':=by
 have no: ∀e,150≠e->NoT L (· =R) e:=fun e he=> .one h.fn h.k he;have c:=hU.ch;refine⟨⟨hU.fn,hc▸hU.self, ?_, ?_, ?_, ?_,h.dj, ?_, ?_, ?_, ?_, ?_, ?_, ?_, ?_, ?_, ?_,hwt.trans h.wt⟩,⟨fun t ht hn=>hU.ne t ht fun e=>hn (.inl e),fun b hb=> .inl ?_⟩⟩
 ·rw[hp];exact fun q hq=>c.keep (no _ (by decide)) (h.p q hq)
 ·rw[hp];exact c.keepS (no _ (by decide)) h.pl
 ·rw[hr];exact fun l hl=>c.keepS (no _ (by decide)) (h.rw l hl)
 ·rw[hw];exact c.keepS (no _ (by decide)) h.ev
 ·rw[hi];exact⟨by rw[hn];exact h.im.n,by rw[hn,hg];exact h.im.g,h.im.b⟩
 ·rw[hp];exact h.id
 ·rw[hp];exact fun q hq=>Nat.le_trans (h.le q hq) hls
 ·rw[hp];exact h.pn
 ·rw[hp];exact h.np
 ·rw[hp];exact h.un
 ·rw[hp];exact h.du
 ·rw[hp];exact h.sz
 ·rw[hp];exact h.ab
 ·rw[hp];exact h.nf
 ·unfold OwnR at*;rw[hp] at hb;exact hb
theorem RepR.setP (h:RepR o R B T X L)(hb:(b,x)∈T.ps){cs:Array Value}(hU:Upd L (B.p b) (.cells cs 154) L')(x':PS)(e':RE)(o':Nat)(hc:cs=rpc x' e')(hid:x'.id=x.id:=by rfl)(hpi:e'.pi=(B.e b).pi:=by rfl)(hun:x'.st=3->e'.un=x'.til)(hdu:e'.du=if b=o' then 1 else 0)(ho: ∀q∈T.ps,q.1≠b->(q.1=o↔q.1=o')) (hsz:x'.st≠6->x'.stat=0) (hab:x'.at_=x.at_\/x'.at_<=65536:=by exact .inl rfl) (hnf:x'.f=x.f:=by rfl):RepR o' R {B with e:=put B.e b e'} (T.setP b x') X L'/\Foot (OwnR R B T) (OwnR R {B with e:=put B.e b e'} (T.setP b x')) L L':=by
 have no: ∀e,154≠e->NoT L (· =B.p b) e:=fun e he=> .one h.fn (h.p _ hb) he;have c:=hU.ch;have hfst:(T.setP b x').ps.map (·.1)=T.ps.map (·.1):=ba T b x';have hlen:(T.setP b x').ps.length=T.ps.length:=by simp[St.setP]
 have eb: ∀q,q∈T.ps->q.1≠b->put B.e b e' q.1=B.e q.1:=fun q _ hne=>by unfold put;rw[if_neg hne]
 have es:put B.e b e' b=e':=by unfold put;rw[if_pos rfl]
 refine⟨⟨hU.fn, ?_,fun q hq=> ?_, ?_,fun l hl=>c.keepS (no _ (by decide)) (h.rw l hl),c.keepS (no _ (by decide)) h.ev,h.dj,⟨h.im.n,h.im.g,h.im.b⟩,fun q hq=> ?_,fun q hq=> ?_,by rw[hfst];exact h.pn,fun q hq=> ?_,fun q hq=> ?_,fun q hq=> ?_,fun q hq=> ?_,fun q hq=> ?_,fun q hq=> ?_,h.wt⟩,⟨fun t ht hn=>hU.ne t ht fun e=>hn (.inr (.inl ⟨_,hb,e⟩)),fun d hd=> .inl ?_⟩⟩
 ·have:=c.keep (no _ (by decide)) h.k;unfold rkc at*;rw[hlen];exact this
 ·rcases aO hq with rfl|⟨h1,h2⟩
  ·show (_,true,Obj.cells (rpc x' (put B.e b e' b)) 154)∈L';rw[es,<-hc];exact hU.self
  ·show (_,true,Obj.cells (rpc q.2 (put B.e b e' q.1)) 154)∈L';rw[eb q h1 h2];exact hU.ne _ (h.p q h1) fun e=>h2 (h.inj h1 hb e)
 ·have e:((T.setP b x').ps.map fun q=>ptr (B.p q.1))=T.ps.map fun q=>ptr (B.p q.1):=by
   have:=congrArg (List.map fun n=>ptr (B.p n)) hfst;rw[List.map_map,List.map_map] at this;exact this
  show slOk B.ap ((T.setP b x').ps.map fun q=>ptr (B.p q.1)) 155 L';rw[e];exact c.keepS (no _ (by decide)) h.pl
 ·rcases aO hq with rfl|⟨h1,h2⟩
  ·exact hid.trans (h.id _ hb)
  ·exact h.id q h1
 ·rcases aO hq with rfl|⟨h1,h2⟩
  ·exact h.le (b,x) hb
  ·exact h.le q h1
 ·rcases aO hq with rfl|⟨h1,h2⟩
  ·show∀i,i<6->(put B.e b e' b).pi i=0;rw[es,hpi];exact h.np _ hb
  ·show∀i,i<6->(put B.e b e' q.1).pi i=0;rw[eb q h1 h2];exact h.np q h1
 ·rcases aO hq with rfl|⟨h1,h2⟩
  ·show _->(put B.e b e' b).un=_;rw[es];exact hun
  ·show _->(put B.e b e' q.1).un=_;rw[eb q h1 h2];exact h.un q h1
 ·rcases aO hq with rfl|⟨h1,h2⟩
  ·show (put B.e b e' b).du=_;rw[es];exact hdu
  ·show (put B.e b e' q.1).du=_;rw[eb q h1 h2,h.du q h1];simp only[ho q h1 h2]
 ·rcases aO hq with rfl|⟨h1,h2⟩
  ·exact hsz
  ·exact h.sz q h1
 ·rcases aO hq with rfl|⟨h1,h2⟩
  ·rcases hab with e|e
   ·show x'.at_<=65536;rw[e];exact h.ab _ hb
   ·exact e
  ·exact h.ab q h1
 ·rcases aO hq with rfl|⟨h1,h2⟩
  ·show∀i,i<6->x'.f i=(0,0);rw[hnf];exact h.nf _ hb
  ·exact h.nf q h1
 ·rcases hd with hd|⟨q,hq,hd⟩|hd
  ·exact .inl hd
  ·have:q.1∈T.ps.map (·.1):=by rw[<-hfst];exact List.mem_map.2 ⟨q,hq,rfl⟩
   obtain⟨r,hr,e⟩:=List.mem_map.1 this;exact .inr (.inl ⟨r,hr,by rw[hd,<-e]⟩)
  ·exact .inr (.inr hd)
theorem RepR.setR (h:RepR o R B T X L){n:Nat}(hn:n<3){a':Sl}{zs:List Nat}(hp:ApN L 3 (B.a n) (i64s zs) a' L1){cs:Array Value}(hU:Upd L1 R (.cells cs 150) L')(hc:cs=rkc {B with a:=put B.a n a'} (T.setRow n zs) X):RepR o R {B with a:=put B.a n a'} (T.setRow n zs) X L'/\Foot (OwnR R B T) (OwnR R {B with a:=put B.a n a'} (T.setRow n zs)) L L':=by
 have n1: ∀e,3≠e->NoT L (fun c=>(B.a n).b=some c) e:=fun e he=> .sl h.fn (h.rw n hn) he;have hk1:=hp.ch.keep (n1 _ (by decide)) h.k;have n2: ∀e,150≠e->NoT L1 (· =R) e:=fun e he=> .one hp.fn hk1 he;refine⟨{h with fn:=hU.fn,k:=hc▸hU.self,p:=fun q hq=>hU.ch.keep (n2 _ (by decide)) (hp.ch.keep (n1 _ (by decide)) (h.p q hq)),pl:=hU.ch.keepS (n2 _ (by decide)) (hp.ch.keepS (n1 _ (by decide)) h.pl),ev:=hU.ch.keepS (n2 _ (by decide)) (hp.ch.keepS (n1 _ (by decide)) h.ev),rw:=fun l hl=> ?_,dj:=fun l hl l' hl' hne b hb hb'=> ?_,im:=⟨h.im.n,h.im.g,h.im.b⟩},⟨fun t ht hno=>hU.ne t (hp.sub t ht fun e=>hno (.inr (.inr (.inr (.inl ⟨n,hn,e⟩))))) fun e=>hno (.inl e),fun c hc=> ?_⟩⟩
 ·by_cases e:l=n
  ·subst e;have e1:put B.a l a' l=a':=by unfold put;rw[if_pos rfl]
   have e2:(T.setRow l zs).rows l=zs:=by show put T.rows l zs l=zs;unfold put;rw[if_pos rfl]
   show slOk (put B.a l a' l) (i64s ((T.setRow l zs).rows l)) 3 L';rw[e1,e2];exact hU.ch.keepS (n2 _ (by decide)) hp.ok
  ·have e1:put B.a n a' l=B.a l:=by unfold put;rw[if_neg e]
   have e2:(T.setRow n zs).rows l=T.rows l:=by show put T.rows n zs l=_;unfold put;rw[if_neg e]
   show slOk (put B.a n a' l) (i64s ((T.setRow n zs).rows l)) 3 L';rw[e1,e2];exact hU.ch.keepS (n2 _ (by decide)) (hp.ch.keepA (h.dj l hl n hn e) (h.rw l hl))
 ·simp only[put] at hb hb'
  split at hb
  ·rename_i e;rw[if_neg (fun e2=>hne (e.trans e2.symm))] at hb';rcases hp.d b hb with e2|e2
   ·exact h.dj n hn l' hl' (fun e3=>hne (e.trans e3)) b e2 hb'
   ·exact e2 _ ((h.rw l' hl').mem hb') rfl
  ·rename_i e
   split at hb'
   ·rcases hp.d b hb' with e2|e2
    ·exact h.dj l hl n hn e b hb e2
    ·exact e2 _ ((h.rw l hl).mem hb) rfl
   ·exact h.dj l hl l' hl' hne b hb hb'
 ·rcases hc with e|e|e|⟨l,hl,e⟩|e
  ·exact .inl (.inl e)
  ·exact .inl (.inr (.inl e))
  ·exact .inl (.inr (.inr (.inl e)))
  ·simp only[put] at e
   split at e
   ·rcases hp.d c e with e2|e2
    ·exact .inl (.inr (.inr (.inr (.inl ⟨n,hn,e2⟩))))
    ·exact .inr e2
   ·exact .inl (.inr (.inr (.inr (.inl ⟨l,hl,e⟩))))
  ·exact .inl (.inr (.inr (.inr (.inr e))))
theorem RepR.setE (h:RepR o R B T X L){a':Sl}{ws:List Wd}(hp:ApN L 51 B.ae (wcs ws) a' L1){cs:Array Value}(hU:Upd L1 R (.cells cs 150) L')(hc:cs=rkc {B with ae:=a'} T {X with ws:=ws}):RepR o R {B with ae:=a'} T {X with ws:=ws} L'/\Foot (OwnR R B T) (OwnR R {B with ae:=a'} T) L L':=by
 have n1: ∀e,51≠e->NoT L (fun c=>B.ae.b=some c) e:=fun e he=> .sl h.fn h.ev he;have hk1:=hp.ch.keep (n1 _ (by decide)) h.k;have n2: ∀e,150≠e->NoT L1 (· =R) e:=fun e he=> .one hp.fn hk1 he;refine⟨{h with fn:=hU.fn,k:=hc▸hU.self,p:=fun q hq=>hU.ch.keep (n2 _ (by decide)) (hp.ch.keep (n1 _ (by decide)) (h.p q hq)),pl:=hU.ch.keepS (n2 _ (by decide)) (hp.ch.keepS (n1 _ (by decide)) h.pl),ev:=hU.ch.keepS (n2 _ (by decide)) hp.ok,rw:=fun l hl=>hU.ch.keepS (n2 _ (by decide)) (hp.ch.keepS (n1 _ (by decide)) (h.rw l hl))},⟨fun t ht hno=>hU.ne t (hp.sub t ht fun e=>hno (.inr (.inr (.inr (.inr e))))) fun e=>hno (.inl e),fun c hc=> ?_⟩⟩;rcases hc with e|e|e|e|e
 ·exact .inl (.inl e)
 ·exact .inl (.inr (.inl e))
 ·exact .inl (.inr (.inr (.inl e)))
 ·exact .inl (.inr (.inr (.inr (.inl e))))
 ·rcases hp.d c e with e2|e2
  ·exact .inl (.inr (.inr (.inr (.inr e2))))
  ·exact .inr e2
theorem RepR.setL (h:RepR o R B T X L){p':Nat->Nat}{e':Nat->RE}{a':Sl}{T':St}(hp:ApN L 155 B.ap (T'.ps.map fun q=>ptr (p' q.1)) a' L1){cs:Array Value}(hU:Upd L1 R (.cells cs 150) L')(hc:cs=rkc {B with p:=p',e:=e',ap:=a'} T' X)(hr:T'.rows=T.rows:=by rfl)(hnn:T'.pn=T.pn:=by rfl)(hg:T'.pg=T.pg:=by rfl)
 (hb: ∀q∈T'.ps,(p' q.1,true,Obj.cells (rpc q.2 (e' q.1)) 154)∈L) (hid: ∀q∈T'.ps,q.2.id=q.1) (hle: ∀q∈T'.ps,q.1<=T'.last) (hpn:(T'.ps.map (·.1)).Nodup) (hpi: ∀q∈T'.ps,∀i,i<6->(e' q.1).pi i=0) (hun: ∀q∈T'.ps,q.2.st=3->(e' q.1).un=q.2.til) (hdu: ∀q∈T'.ps,(e' q.1).du=if q.1=o then 1 else 0) (hsz: ∀q∈T'.ps,q.2.st≠6->q.2.stat=0) (hab: ∀q∈T'.ps,q.2.at_<=65536) (hnf: ∀q∈T'.ps,∀i,i<6->q.2.f i=(0,0)) (hwt:T'.wt=T.wt:=by rfl) {L0:Frag} (he: ∀t∈L0,t∈L) (hnew: ∀q∈T'.ps,(∃r∈T.ps,p' q.1=B.p r.1)\/ ∀t∈L0,t.1≠p' q.1):
 RepR o R {B with p:=p',e:=e',ap:=a'} T' X L'/\Foot (OwnR R B T) (OwnR R {B with p:=p',e:=e',ap:=a'} T') L0 L':=by
 have n1: ∀e,155≠e->NoT L (fun c=>B.ap.b=some c) e:=fun e he=> .sl h.fn h.pl he;have hk1:=hp.ch.keep (n1 _ (by decide)) h.k;have n2: ∀e,150≠e->NoT L1 (· =R) e:=fun e he=> .one hp.fn hk1 he;refine⟨⟨hU.fn,hc▸hU.self,fun q hq=>hU.ch.keep (n2 _ (by decide)) (hp.ch.keep (n1 _ (by decide)) (hb q hq)),hU.ch.keepS (n2 _ (by decide)) hp.ok,fun l hl=> ?_,hU.ch.keepS (n2 _ (by decide)) (hp.ch.keepS (n1 _ (by decide)) h.ev),h.dj,⟨by rw[hnn];exact h.im.n,by rw[hnn,hg];exact h.im.g,h.im.b⟩,hid,hle,hpn,hpi,hun,hdu,hsz,hab,hnf,hwt.trans h.wt⟩,⟨fun t ht hno=>hU.ne t (hp.sub t (he t ht) fun e=>hno (.inr (.inr (.inl e)))) fun e=>hno (.inl e),fun c hc=> ?_⟩⟩
 ·rw[hr];exact hU.ch.keepS (n2 _ (by decide)) (hp.ch.keepS (n1 _ (by decide)) (h.rw l hl))
 rcases hc with e|⟨q,hq,e⟩|e|e|e
 ·exact .inl (.inl e)
 ·rcases hnew q hq with ⟨r,hr,e2⟩|e2
  ·exact .inl (.inr (.inl ⟨r,hr,e.trans e2⟩))
  ·exact .inr (by rw[e];exact e2)
 ·rcases hp.d c e with e2|e2
  ·exact .inl (.inr (.inr (.inl e2)))
  ·exact .inr fun t ht=>e2 t (he t ht)
 ·exact .inl (.inr (.inr (.inr (.inl e))))
 ·exact .inl (.inr (.inr (.inr (.inr e))))
end
def Gone (L:Frag)(c n:Nat):Prop:= ∃cs,(c,true,Obj.cells cs 154)∈L/\cs[0]? =some (.int .i64 (n:Nat))/\cs[2]? =some (.int .i64 6)
structure To (o R:Nat)(B:RB)(T:St)(L:Frag)(B':RB)(T':St)(X':RX)(L':Frag):Prop where
 r:RepR o R B' T' X' L'
 f:Foot (OwnR R B T) (OwnR R B' T') L L'
 p: ∀b,b<=T.last->B'.p b=B.p b
 l:T.last<=T'.last
 i: ∀q∈T.ps,q.1∈T'.ps.map (·.1)\/Gone L' (B.p q.1) q.1
 le: ∀q∈T.ps,q.1<=T.last
section
variable {o R:Nat}{B B1 B2:RB}{T T1 T2:St}{X X1 X2:RX}{L L1 L2:Frag}
theorem To.q (h:To o R B T L B1 T1 X1 L1){o':Nat}(hR:RepR o' R B T X L){b:Nat}{x:PS}(hq:(b,x)∈T.ps):B1.p b=B.p b:=h.p _ (hR.le _ hq)
theorem RepR.idb (h:RepR o R B T X L){b:Nat}{x:PS}(hq:(b,x)∈T.ps):x.id=b:=h.id _ hq
theorem To.num (h:To o R B T L B1 T1 X1 L1){o':Nat}(hR:RepR o' R B T X L){b:Nat}{x:PS}(hq:(b,x)∈T.ps):At L1 (B.p b) 0 (.int .i64 (b:Nat)):=by
 rcases h.i _ hq with h1|⟨cs,h1,h2,_⟩
 ·obtain⟨r,hr,e⟩:=List.mem_map.1 h1;have e':r.1=b:=e;have h2:=h.r.p r hr;unfold rpb at h2;rw[e',h.q hR hq] at h2;exact⟨true,_,_,_,h2,by rw[ku,h.r.id r hr,e']⟩
 ·exact⟨true,_,_,_,h1,h2⟩
theorem RepR.to (h:RepR o R B T X L):To o R B T L B T X L:=⟨h,Foot.refl _ _,fun _ _=>rfl,Nat.le_refl _,fun q hq=> .inl (List.mem_map.2 ⟨q,hq,rfl⟩),h.le⟩
theorem To.of {o':Nat}(h:RepR o' R B1 T1 X1 L1/\Foot (OwnR R B T) (OwnR R B1 T1) L L1)(hp:B1.p=B.p:=by rfl)(hl:T1.last=T.last:=by rfl)(hn:T1.ps.map (·.1)=T.ps.map (·.1):=by first|rfl|exact dJ _ _ _):To o' R B T L B1 T1 X1 L1:=⟨h.1,h.2,fun b _=>congrFun hp b,Nat.le_of_eq hl.symm,fun q hq=> .inl (by rw[hn];exact List.mem_map.2 ⟨q,hq,rfl⟩),fun q hq=>by
 have:q.1∈T1.ps.map (·.1):=by rw[hn];exact List.mem_map.2 ⟨q,hq,rfl⟩
 obtain⟨r,hr,e⟩:=List.mem_map.1 this;rw[<-e,<-hl];exact h.1.le r hr⟩
theorem To.trans {o1:Nat}(h:To o1 R B T L B1 T1 X1 L1)(k:To o R B1 T1 L1 B2 T2 X2 L2):To o R B T L B2 T2 X2 L2:=⟨k.r,h.f.trans k.f,fun b hb=>(k.p b (Nat.le_trans hb h.l)).trans (h.p b hb),Nat.le_trans h.l k.l,fun q hq=>by
 have inn:q.1∈T1.ps.map (·.1)->q.1∈T2.ps.map (·.1)\/Gone L2 (B.p q.1) q.1:=fun h1=>by
  obtain⟨r,hr,e⟩:=List.mem_map.1 h1;have:=k.i r hr;have e':r.1=q.1:=e;rw[e',h.p _ (h.le q hq)] at this;exact this
 rcases h.i q hq with h1|⟨cs,h1,h2,h3⟩
 ·exact inn h1
 ·by_cases ho:OwnR R B1 T1 (B.p q.1)
  ·rcases ho with e|⟨r,hr,e⟩|e|⟨l,hl,e⟩|e
   ·rw[e] at h1;exact absurd (dk h.r.fn h1 h.r.k) (by decide)
   ·rw[e] at h1;have h4:cs=rpc r.2 (B1.e r.1):=(Obj.cells.inj (h.r.fn _ _ _ _ _ h1 (h.r.p r hr)).2).1;rw[h4,ku,h.r.id r hr] at h2;have h5:r.1=q.1:=by simp at h2;exact Int.ofNat.inj h2
    exact inn (List.mem_map.2 ⟨r,hr,h5⟩)
   ·exact absurd (dk h.r.fn h1 (h.r.pl.mem e)) (by decide)
   ·exact absurd (dk h.r.fn h1 ((h.r.rw l hl).mem e)) (by decide)
   ·exact absurd (dk h.r.fn h1 (h.r.ev.mem e)) (by decide)
  ·exact .inr ⟨cs,k.f.s _ h1 ho,h2,h3⟩,h.le⟩
theorem To.ext (h:To o R B T L B1 T1 X1 L1)(e:Ext L1 L2):To o R B T L B1 T1 X1 L2:=⟨h.r.ext e,h.f.trans (Foot.ext e),h.p,h.l,fun q hq=>(h.i q hq).imp id fun⟨cs,h1,h2⟩=>⟨cs,e.s _ h1,h2⟩,h.le⟩
theorem To.pre {L0:Frag}(e:Ext L0 L)(h:To o R B T L B1 T1 X1 L1):To o R B T L0 B1 T1 X1 L1:=⟨h.r,(Foot.ext e).trans h.f,h.p,h.l,h.i,h.le⟩
end
structure NP (T:St):Prop where
 w:T.wt=[]
 f: ∀q∈T.ps,∀i,i<6->q.2.f i=(0,0)
def St.gone (T:St)(b:Nat):St:={T with rows:=fun l=>(T.rows l).filter fun c=> !decide (c=b)}
section
variable {S T:St}{b c:Nat}{x y:PS}{g:PS->PS}
theorem i0 (hg:Good T)(r3: ∀l,3<=l->T.rows l=[]) (hb:(b,x)∈T.ps):T.gone b=T.setRow x.lv ((T.rows x.lv).erase b):=by
 unfold St.gone St.setRow;have e:(fun l=>(T.rows l).filter fun c=> !decide (c=b))=put T.rows x.lv ((T.rows x.lv).erase b):=by
  funext l
  unfold put;by_cases hl:l=x.lv
  ·rw[if_pos hl,hl,(hg.rn x.lv (hg.lv _ hb)).erase_eq_filter];rfl
  ·rw[if_neg hl,List.filter_eq_self];intro c hc;simp only[Bool.not_eq_true',decide_eq_false_iff_not];rintro rfl;by_cases h3:l<3
   ·obtain⟨y,hy,h1,_⟩:=hg.rm l h3 c hc;rw[a6 hg.pn hb hy] at hl;exact hl h1.symm
   ·rw[r3 l (by omega)] at hc;cases hc
 rw[e]
theorem cT (S:St)(l:Nat)(xs:List Nat):(S.setRow l xs).setP b x=(S.setP b x).setRow l xs:=rfl
def St.end2 (T:St)(b:Nat)(x:PS)(s:Int):St:=(T.gone b).setP b {x with st:=6,stat:=s}
theorem nM (h:NP T)(hg:Good T)(r3: ∀l,3<=l->T.rows l=[]) (hb:(b,x)∈T.ps) (s:Int):T.fin b x s=((T.end2 b x s).orphs x.id (T.ps.map (·.1))).parents (T.ps.map (·.1)):=by
 have e1: ∀k,T.depart b k=T:=fun k=>by
  unfold St.depart St.setW;rw[h.w];show ({T with wt:=[]}:St)=T;have:=h.w;cases T;simp only at this;rw[this]
 have e2:(T.stop1 b x 6).setP b {x with st:=6,stat:=s}=T.end2 b x s:=by
  unfold St.stop1 St.end2;rw[i0 hg r3 hb,cT,cT,bI]
 have e3: ∀(S:St)(ns:List Nat),(∀n∈ns,n<6)->S.shuts b x.f ns=S:=fun S ns=>by
  induction ns with
  |nil=>intro _;rfl
  |cons n ns ih=>
   intro hn;unfold St.shuts;rw[if_pos (h.f _ hb n (hn n List.mem_cons_self))];exact ih fun m hm=>hn m (List.mem_cons_of_mem _ hm)
 have e4:(T.end2 b x s).ps.map (·.1)=T.ps.map (·.1):=dJ _ _ _;have e5: ∀(id:Nat)(bs:List Nat)(S:St),(S.orphs id bs).ps.map (·.1)=S.ps.map (·.1):=fun id bs=>by
  induction bs with
  |nil=>intro S;rfl
  |cons b bs ih=>
   intro S;unfold St.orphs;rw[ih]
   split
   ·split
    ·exact dJ _ _ _
    ·rfl
   ·rfl
 unfold St.fin;simp only[e1,e2];rw[e3 _ _ (fun n hn=>by simp[List.mem_range'] at hn;omega),e4,e5,e4]
theorem jZ (h:(c,y)∈(S.parent1 b).ps)(h2:y.st=2):(c,y)∈S.ps:=by
 unfold St.parent1 at h
 split at h
 ·split at h
  ·split at h
   ·split at h
    ·rcases aO h with e|⟨h1,hne⟩
     ·cases e;cases h2
     ·unfold St.take at h1
      split at h1
      ·rcases aO h1 with e|⟨h3,_⟩
       ·cases e;exact absurd rfl hne
       ·exact List.mem_of_mem_eraseIdx h3
      ·exact h1
    ·exact h
   ·exact h
  ·exact h
 ·exact h
theorem eL (p:Nat->Bool): ∀(l:List Nat)(S:St),(∀b∈l,∀x,(b,x)∈S.ps->x.st=2->p b=true)->S.parents l=S.parents (l.filter p)
 |[],S,_=>rfl
 |b::l,S,h=>by
  cases hp:p b with
  |true=>
   rw[List.filter_cons_of_pos hp];show (S.parent1 b).parents l=(S.parent1 b).parents (l.filter p);exact eL p l _ fun c hc x hx h2=>h c (List.mem_cons_of_mem _ hc) x (jZ hx h2) h2
  |false=>
   rw[List.filter_cons_of_neg (by rw[hp];decide)];have e:S.parent1 b=S:=by
    unfold St.parent1
    split
    ·rename_i x hx;rw[if_neg];intro h2;rw[h b List.mem_cons_self x (bh hx) h2] at hp;cases hp
    ·rfl
   show (S.parent1 b).parents l=_;rw[e];exact eL p l S fun c hc=>h c (List.mem_cons_of_mem _ hc)
theorem fm (id:Nat): ∀(l:List Nat)(S:St){c:Nat}{y:PS},(c,y)∈(S.orphs id l).ps-> ∃z,(c,z)∈S.ps/\z.st=y.st/\z.f=y.f
 |[],S,c,y,h=>⟨y,h,rfl,rfl⟩
 |b::l,S,c,y,h=>by
  unfold St.orphs at h;obtain⟨z,hz,e1,e2⟩:=fm id l _ h
  split at hz
  ·rename_i w hw
   split at hz
   ·rcases aO hz with e|⟨h1,_⟩
    ·cases e;exact⟨w,bh hw,e1,e2⟩
    ·exact⟨z,h1,e1,e2⟩
   ·exact⟨z,hz,e1,e2⟩
  ·exact⟨z,hz,e1,e2⟩
def St.upd (S:St)(b:Nat)(g:PS->PS):St:={S with ps:=S.ps.map fun q=>if q.1=b then(b,g q.2) else q}
structure Tame (g:PS->PS):Prop where
 id: ∀y,(g y).id=y.id
 par: ∀y,(g y).par=y.par
 st: ∀y,(g y).st=y.st
 stat: ∀y,(g y).stat=y.stat
 p1: ∀y,g {y with par:=1}={g y with par:=1}
 s6: ∀y s,g {y with st:=6,stat:=s}={g y with st:=6,stat:=s}
theorem upd_ne (h:c≠b):(S.setP c y).upd b g=(S.upd b g).setP c y:=by
 unfold St.upd St.setP;simp only[List.map_map];congr 1;apply List.map_congr_left;intro q _;simp only[Function.comp];by_cases h1:q.1=c
 ·rw[if_pos h1,if_neg (show¬(c,y).1=b from h),if_neg (show¬q.1=b by rw[h1];exact h),if_pos h1]
 ·rw[if_neg h1];by_cases h2:q.1=b
  ·rw[if_pos h2,if_neg (show¬(b,g q.2).1=c from fun e=>h e.symm)]
  ·rw[if_neg h2,if_neg h1]
theorem wP:(S.setP b y).upd b g=(S.upd b g).setP b (g y):=by
 unfold St.upd St.setP;simp only[List.map_map];congr 1;apply List.map_congr_left;intro q _;simp only[Function.comp];by_cases h1:q.1=b
 ·rw[if_pos h1,if_pos rfl,if_pos h1,if_pos rfl]
 ·rw[if_neg h1,if_neg h1,if_neg h1]
theorem sv:(S.upd b g).get c=(S.get c).map fun y=>if c=b then g y else y:=by
 unfold St.get St.upd;simp only[List.find?_map];have e:((fun q:Nat×PS=>q.1==c)∘fun q:Nat×PS=>if q.1=b then(b,g q.2) else q)=fun q=>q.1==c:=by
  funext q
  simp only[Function.comp]
  split
  ·rename_i h;rw[h]
  ·rfl
 rw[e];cases h:S.ps.find? fun q=>q.1==c with
 |none=>rfl
 |some q=>
  have h1:=List.find?_some h;simp at h1;simp only[Option.map_some,h1]
  split<;>rfl
theorem mI (hg:Tame g)(id:Nat): ∀(l:List Nat)(S:St),(S.upd b g).orphs id l=(S.orphs id l).upd b g
 |[],S=>rfl
 |c::l,S=>by
  unfold St.orphs;rw[<-mI hg id l];congr 1;rw[sv];cases h:S.get c with
  |none=>rfl
  |some y=>
   simp only[Option.map_some];by_cases hc:c=b
   ·subst hc;simp only[if_true,hg.par]
    split
    ·rw[wP,hg.p1]
    ·rfl
   ·simp only[if_neg hc]
    split
    ·rw[upd_ne hc]
    ·rfl
theorem qg (hg:Tame g):(S.upd b g).childAt x=S.childAt x:=by
 unfold St.childAt St.upd;rw[List.findIdx?_map];congr 1
 funext q
 simp only[Function.comp,isChildEnded]
 split
 ·simp only[hg.par,hg.st]
 ·rfl
theorem j0 {α β:Type}(f:α->β): ∀(l:List α)(i:Nat),(l.map f).eraseIdx i=(l.eraseIdx i).map f
 |[],_=>rfl
 |_::_,0=>rfl
 |a::l,i+1=>by simp[j0 f l i]
theorem wQ (hc:c≠b)(hg:Tame g)(i:Nat):(S.upd b g).take c x i=(S.take c x i).upd b g:=by
 unfold St.take;have e:(S.upd b g).ps[i]? =(S.ps[i]?).map fun q=>if q.1=b then(b,g q.2) else q:=by unfold St.upd;simp
 rw[e];cases S.ps[i]? with
 |none=>rfl
 |some q=>
  simp only[Option.map_some];rw[upd_ne hc];have e2:told x (if q.1=b then(b,g q.2) else q).2=told x q.2:=by
   split
   ·unfold told;simp only[hg.id,hg.stat]
   ·rfl
  rw[e2];congr 1;unfold St.upd St.setPs;simp only[j0]
theorem qh (hg:Tame g)(hb: ∀y,(b,y)∈S.ps->y.st≠2):(S.upd b g).parent1 c=(S.parent1 c).upd b g:=by
 unfold St.parent1;rw[sv];cases h:S.get c with
 |none=>rfl
 |some y=>
  simp only[Option.map_some];by_cases hc:c=b
  ·subst hc;have h2:=hb y (bh h);simp only[if_true,hg.st];rw[if_neg h2,if_neg h2]
  ·simp only[if_neg hc]
   split
   ·rw[qg hg];cases S.childAt y with
    |none=>rfl
    |some i=>
     have e:(S.upd b g).ps[i]? =(S.ps[i]?).map fun q=>if q.1=b then(b,g q.2) else q:=by unfold St.upd;simp
     simp only[e];cases S.ps[i]? with
     |none=>rfl
     |some q=>
      simp only[Option.map_some];have e2:told y (if q.1=b then(b,g q.2) else q).2=told y q.2:=by
       split
       ·unfold told;simp only[hg.id,hg.stat]
       ·rfl
      rw[e2,wQ hc hg];unfold St.wake1;show _=((S.take c y i).setP c _|>.upd b g).setRow _ _;rw[upd_ne hc];rfl
   ·rfl
theorem j1 (hg:Tame g): ∀(l:List Nat)(S:St),(∀y,(b,y)∈S.ps->y.st≠2)->(S.upd b g).parents l=(S.parents l).upd b g
 |[],S,_=>rfl
 |c::l,S,h=>by
  show ((S.upd b g).parent1 c).parents l=((S.parent1 c).parents l).upd b g;rw[qh hg h];exact j1 hg l _ fun y hy h2=>h y (jZ hy h2) h2
theorem wR (hn:(S.ps.map (·.1)).Nodup)(hb:(b,x)∈S.ps):S.upd b g=S.setP b (g x):=by
 unfold St.upd St.setP;congr 1;apply List.map_congr_left;intro q hq
 split
 ·rename_i h;have:(b,q.2)∈S.ps:=by rw[<-h];exact hq
  rw[a6 hn hb this]
 ·rfl
theorem A8 (h: ∀q∈S.ps,q.1≠b):S.upd b g=S:=by
 unfold St.upd;have:(S.ps.map fun q=>if q.1=b then(b,g q.2) else q)=S.ps:=by
  conv=>rhs;rw[<-List.map_id S.ps]
  apply List.map_congr_left;intro q hq;rw[if_neg (h q hq)];rfl
 rw[this]
theorem A9 (hn:(S.ps.map (·.1)).Nodup)(v:Int):S.r0 b v=S.upd b (·.r0 v):=by
 unfold St.r0;cases h:S.get b with
 |some z=>exact(wR (g:=fun y=>y.r0 v) hn (bh h)).symm
 |none=>
  refine(A8 fun q hq e=> ?_).symm;have:=bk (b:=q.1) (x:=q.2) hn hq;rw[e,h] at this;cases this
theorem sw (v:Int):Tame (·.r0 v):=⟨fun _=>rfl,fun _=>rfl,fun _=>rfl,fun _=>rfl,fun _=>rfl,fun _ _=>rfl⟩
theorem Ba {P:Nat->Prop}{N:Nat->Nat}(hM:MI P N T)(h:NP T)(hb:(b,x)∈T.ps)(hs:x.st≠2)(hc:(c,y)∈T.ps)(v s:Int)(hM':MI P N (T.setP b (x.r0 v))):(T.setP b (x.r0 v)).fin c (if c=b then x.r0 v else y) s=(T.fin c y s).r0 b v:=by
 have hn:=hM.i.g.pn;have e1:T.setP b (x.r0 v)=T.upd b (·.r0 v):=(wR (g:=fun y=>y.r0 v) hn hb).symm;rw[A9 (hM.fin hc s).i.g.pn];have hN':NP (T.setP b (x.r0 v)):=⟨h.w,fun q hq=>by
  rcases aO hq with rfl|⟨h1,_⟩
  ·exact h.f (b,x) hb
  ·exact h.f q h1⟩
 have hc':(c,if c=b then x.r0 v else y)∈(T.setP b (x.r0 v)).ps:=by
  by_cases e:c=b
  ·subst e;rw[if_pos rfl];exact ar hb
  ·rw[if_neg e];exact bK hc e
 rw[nM hN' hM'.i.g hM'.x.r3 hc',nM h hM.i.g hM.x.r3 hc,dJ];have e2:(T.setP b (x.r0 v)).end2 c (if c=b then x.r0 v else y) s=(T.end2 c y s).upd b (·.r0 v):=by
  rw[e1];unfold St.end2;by_cases e:c=b
  ·subst e;rw[if_pos rfl,wP,a6 hn hc hb];rfl
  ·rw[if_neg e,upd_ne e];rfl
 have e3:(if c=b then x.r0 v else y).id=y.id:=by
  split
  ·rename_i e;subst e;rw[a6 hn hc hb];rfl
  ·rfl
 rw[e2,e3,mI (sw v),j1 (sw v)];intro z hz;obtain⟨w,hw,e4,_⟩:=fm _ _ _ hz;rcases aO hw with e|⟨h1,_⟩
 ·cases e;rw[<-e4];exact(by decide:(6:Nat)≠2)
 ·rw[<-e4,a6 hn (h1:(b,w)∈T.ps) hb];exact hs
end
theorem gd:zeroAt Tryz.prog 155=some (.pointer none):=by kernel_rfl
theorem i8:bytesAt Tryz.prog 155=some 8:=by kernel_rfl
theorem bW (a:Sl)(sz n:Nat):plainV (rowv a sz n)=true:=by unfold rowv;split<;>rfl
theorem fG {a:Sl}{xs:List Value}{e:TypeId}{L:Frag}(h:slOk a xs e L){n:Nat}(hn:xs.length=n): ∃base cap,rowv a 1 n= .slice base n cap/\ ∀i v,xs[i]? =some v-> ∃b,a.b=some b/\base=some ⟨b,0,none⟩/\At L b i v:=by
 subst hn;unfold rowv;cases hb:a.b with
 |none=>
  unfold slOk at h;rw[hb] at h;obtain⟨rfl,_⟩:=h;exact⟨none,0,rfl,fun i v hv=>by simp at hv⟩
 |some b=>
  refine⟨some ⟨b,0,none⟩,_,rfl,fun i v hv=>⟨b,rfl,rfl,true,_,_,_,h.mem hb, ?_⟩⟩;have hlt:=(List.getElem?_eq_some_iff.1 hv).1;rw[List.getElem?_toArray,List.getElem?_append_left hlt];exact hv
theorem gS {New:Obj->Prop}{N:Nat}{ε:Env}{L:Frag}{d:Option Tmp}{ty:TypeId}{ps:String}{af:Array Edge}{g:Option (Nat×Bool)}{x y:Operand}{P:Program}{t e:TypeId}{a:Sl}{xs:List Value}{n nb:Nat}{v z:Value}(hx:ev ε x=some (rowv a 1 n):=by rfl)(hy:ev ε y=some (.slice (some ⟨nb,0,none⟩) 1 1):=by rfl)(hnd:(L.map (·.1)).Nodup)(hu:P.underlying t=some (.slice e))(hs:sizeAt P e=some 1)(hb:bytesAt P e=some 8)(hz:zeroAt P e=some z)(hzs:z.cells.size=1)(hN: ∀cs,New (.cells cs e)) (ha:slOk a xs e L) (hn:xs.length=n) (hm:(nb,true,Obj.cells #[v] e)∈L) (hpl:plainV v=true) (h8:n<=17000000000000):
 EO P New N ε L ⟨d, .call ⟨.builtin .append, #[x,y], #[t,t]⟩,ty,ps,af,g⟩ (fun r L'=> ∃a',r=rowv a' 1 (n+1)/\ApN L e a (xs++[v]) a' L'):=by
 have hr:=cI (P:=P) (sz:=1) (n:=1) (len:=1) (cap:=1) (o:=0) hm (by show 0+1*1<=1;decide);exact jX (ys:=[v]) (by_:=7) (m:=1) hx hy hnd hu hs hb hz hzs hN ha (by omega) hr rfl (by simp[hpl]) (by decide) (by omega)
theorem sx {New:Obj->Prop}{N:Nat}{ε:Env}{L:Frag}{d:Option Tmp}{ty:TypeId}{ps:String}{af:Array Edge}{g:Option (Nat×Bool)}{x:Operand}{v:Int}(hN:New (.cells #[.int .i64 v] 3))(hx:ev ε x=some (.int .i64 v):=by rfl):
 EO Tryz.prog New N ε L ⟨d, .buildSlice 54 1 #[(0,x)],ty,ps,af,g⟩ (fun r L''=> ∃b,(∀t∈L,t.1≠b)/\r= .slice (some ⟨b,0,none⟩) 1 1/\L''=(b,true, .cells #[.int .i64 v] 3)::L):=
 fY (v:= .int .i64 v) (sz:=1) (hN:=hN) (hv:=rfl) (hx:=hx) (hu:=U54) (hs:=bS) (hz:=tM) (h0:=by decide) (h24:=by decide)
abbrev tellX (X:RX)(k id a:Int):RX:={X with ws:=X.ws++[((X.now:Int),k,id,a)]}
theorem nN: ∃n,∀{σ}{F:Fam σ}{Δ:DM F}{main s}(o R:Nat)(B:RB)(T:St)(X:RX)(L:Frag)(kd id a:Int),(∀s o,(Δ s).New o)->RepR o R B T X L->X.ws.length<=10000->
 CallsL Δ Tryz.prog main 102 [ptr R, .int .i64 kd, .int .i64 id, .int .i64 a].toArray n s L (fun s' v L'=>s=s'/\v= .tuple #[]/\ ∃B',To o R B T L B' T (tellX X kd id a) L'):=by
 apply Exists.intro;intro σ F Δ main s o R B T X L kd id a hN hR hw;have h15:At L R 15 (rowv B.ae 4 X.ws.length):=hR.kat rfl;have h13:At L R 13 (.int .i64 (X.now:Nat)):=hR.kat rfl;co_applyP aF 25 Tryz.func102 Tryz.ntmps102;co_applyP br [] 14 (nf:=0) a5;co_applyP tr 0 rfl ag pN;co_applyP tr 1 rfl ag pN;co_applyP tr 2 rfl av pN;co_applyP tr 3 rfl (ak (hf:=gB)) pN;co_applyP t0 4 rfl (aA (ht:=kR)) pN;co_applyP tr 5 rfl ag pN;co_applyP tr 6 rfl av pN;co_applyP tr 7 rfl (ak (hf:=eH)) pN;co_applyP t0 8 rfl (aA (ht:=aR)) pN;co_applyP tr 9 rfl ag pN;co_applyP tr 10 rfl ag pN;co_applyP tr 11 rfl ag pN;co_applyP tr 12 rfl (bj (zU _ _ _ _)) pN;co_applyP te (i:=13) rfl (fY (sz:=4) (hN:=hN _ _) (hv:=rfl) (hu:=U38) (hs:=fF) (hz:=su) (h0:=by decide) (h24:=by decide));rintro _ _ ⟨nb,hnb,rfl,rfl⟩;refine⟨cJ (by simp) (fun t ht=>List.mem_cons_of_mem _ ht), ?_⟩;co_applyP bd;intro hnd;have hA:=cQ (o:= .cells (evt (X.now:Nat) kd id a).cells 51) hR.fn hnb;have hE:Ext L _:=⟨hA.fn,hA.sub⟩;have hR1:=hR.ext hE;have hr:Reads Tryz.prog ((nb,true, .cells (evt (X.now:Nat) kd id a).cells 51)::L) 4 1 (.slice (some ⟨nb,0,none⟩) 1 1) (wcs [((X.now:Int),kd,id,a)]).toArray:=by
  have:=cI (P:=Tryz.prog) (sz:=4) (n:=1) (len:=1) (cap:=1) (o:=0) hA.self (by show 0+1*4<=4;decide);exact this
 co_applyP te (i:=14) rfl (jX (a:=B.ae) (by_:=31) (xs:=wcs X.ws) (n:=X.ws.length) (m:=1) (hnd:=hnd) (hu:=U38) (hs:=fF) (hb:=wK) (hz:=su) (hzs:=rfl) (hN:=fun cs=>hN _ _) (ha:=hR1.ev) (hn:=iY _) (hr:=hr) (hm:=rfl) (hpl:=rfl) (h0:=by decide) (h8:=by omega));rintro _ _ ⟨a',rfl,hp⟩;refine⟨aD (by simp), ?_⟩;co_applyP to 15 rfl (av) (aD (by simp));co_applyP to 16 rfl ((ak (hf:=gB))) (aD (by simp));co_applyP bd;intro hnd';co_applyP te (i:=17) rfl (dv (hnd:=hnd') (hm:=hp.ch.keep (NoT.sl hR1.fn hR1.ev (by decide)) hR1.k) (hi:=by show 15<16;decide) (hp:=bW _ _ _) (hs:=vj));rintro _ _ ⟨rfl,hU⟩;refine⟨aD (by simp), ?_⟩;co_applyP td (by kernel_rfl);change∃v,resE .. =some v/\_;rw[<-yN] at hp;exact⟨_,rfl,rfl,rfl,_,To.pre hE (To.of (hR1.setE hp hU (by simp[rkc])))⟩
theorem wS: ∃n,∀{σ}{F:Fam σ}{Δ:DM F}{main s}(o R:Nat)(B:RB)(T:St)(X:RX)(L:Frag)(id:Int),RepR o R B T X L->T.ps.length<=8->
 CallsL Δ Tryz.prog main 100 [ptr R, .int .i64 id].toArray n s L (fun s' v L'=>s=s'/\L=L'/\v=optPtr ((T.find id).map fun q=>B.p q.1)):=by
 apply Exists.intro;intro σ F Δ main s o R B T X L id hR h8;obtain⟨base,cap,hv,hat⟩:=fG hR.pl (n:=T.ps.length) (by simp);have h5:At L R 5 (.slice base T.ps.length cap):=by rw[<-hv];exact hR.kat rfl
 co_applyP aF 35 Tryz.func100 Tryz.ntmps100;co_applyP aa;co_applyP oan rfl;co_applyP au;co_applyP aa;co_applyP oan rfl;co_applyP aC;co_applyP bg (fun k s' ε' L'=>s'=s/\L'=L/\ ∃l1 l2,T.ps=l1++l2/\(∀q∈l1,((q.2.id:Int)==id)=false)/\k+l1.length=8/\kn ε' [(5, .int .i64 l1.length),(1, .int .i64 id),(0,ptr R)]) 8
 ·exact⟨rfl,rfl,[],T.ps,rfl,by simp,rfl,rfl⟩
 rintro k s' ε' L' ⟨rfl,rfl,l1,l2,hl,hn,hk,he⟩;co_applyP aN he;have hlen:=congrArg List.length hl;simp only[List.length_append] at hlen;co_applyP au;co_applyP aa;co_applyP om rfl rfl rfl ag;co_applyP oy rfl av;co_applyP oy rfl (ak (hf:=bu));co_applyP oy rfl (aA (ht:=ci));co_applyP oy rfl (bt (hu:=cY));co_applyP oy rfl bi;co_applyP ai;co_applyP aT rfl;intro hc
 ·cases l2 with
  |nil=>simp at hc hlen;omega
  |cons q l2=>
   obtain⟨b,hb,hbs,hbv⟩:=hat l1.length (ptr (B.p q.1)) (by rw[hl];simp);subst hbs;have hq:=hR.pat (b:=q.1) (x:=q.2) (by rw[hl];simp) (i:=0) rfl;simp at hlen;co_applyP aB;co_applyP au;co_applyP aC;co_applyP aa;co_applyP om rfl rfl rfl av;co_applyP oy rfl (ak (hf:=bu));co_applyP oy rfl (aA (ht:=ci));co_applyP om rfl rfl rfl (bw cY cq);co_applyP oy rfl (aA (ht:=dZ));co_applyP oy rfl av;co_applyP oy rfl (ak (hf:=aG));co_applyP oy rfl (ak (hf:=bH));co_applyP oy rfl (aA (ht:=aR));co_applyP om rfl rfl rfl aI;co_applyP ai;co_applyP aT rfl;intro hid;co_applyP aa;co_applyP om rfl rfl rfl av;co_applyP oy rfl (ak (hf:=bu));co_applyP oy rfl (aA (ht:=ci));co_applyP om rfl rfl rfl (bw cY cq);co_applyP oy rfl (aA (ht:=dZ));co_applyP oan rfl;co_applyP aK;change∃v,resE .. =some v/\_;exact⟨_,rfl,rfl,rfl,by rw[rX hl hn hid];rfl⟩;intro hid;co_applyP aB;co_applyP aq;co_applyP om rfl rfl rfl aS;co_applyP oan rfl;change∃k',k'<_/\_;refine⟨k-1,by omega,rfl,rfl,l1++[q],l2,by simp[hl], ?_,by simp;omega, ?_⟩
   ·intro r hr;rcases List.mem_append.1 hr with h|h
    ·exact hn r h
    ·simp at h;rw[h];exact hid
   ·have e:IntKind.i64.wrap ((l1.length:Int)+1)=((l1++[q]).length:Int):=by simp[IntKind.wrap_i64];omega
    rw[<-e];rfl
 intro hc;co_applyP bf;co_applyP aa;co_applyP oan rfl;co_applyP aK;change∃v,resE .. =some v/\_;cases l2 with
 |nil=>exact⟨_,rfl,rfl,rfl,by rw[l8 (by rw[hl];simpa using hn)];rfl⟩
 |cons q l2=>simp at hc hlen;omega
def wo (l:List Nat)(b:Nat):List Nat:=l.filter fun c=> !decide (c=b)
theorem wT (l m:List Nat)(b:Nat):wo (l++m) b=wo l b++wo m b:=by simp[wo]
theorem C6 (l:List Nat)(b:Nat):(wo l b).length<=l.length:=List.length_filter_le _ _
theorem um: ∃n,∀{σ}{F:Fam σ}{Δ:DM F}{main s}(L:Frag)(a:Sl)(l:List Nat)(b:Nat),(∀s o,(Δ s).New o)->Fun L->slOk a (i64s l) 3 L->l.length<=8->
 CallsL Δ Tryz.prog main 141 [rowv a 1 l.length, .int .i64 b].toArray n s L (fun s' v L'=>s=s'/\ ∃a',v=rowv a' 1 (wo l b).length/\Ext L L'/\ApN L 3 a (i64s (wo l b)) a' L'/\ ∀c,a'.b=some c-> ∀t∈L,t.1≠c):=by
 apply Exists.intro;intro σ F Δ main s L a l b hN hF ha h8;obtain⟨base,cap,hv,hat⟩:=fG ha (n:=l.length) (by simp);rw[hv];co_applyP aF 27 Tryz.func141 Tryz.ntmps141;co_applyP aa;co_applyP oan rfl;co_applyP aa;co_applyP oan rfl;co_applyP au;co_applyP aa;co_applyP oan rfl;co_applyP aC;co_applyP bg (fun k s' ε' L'=>s=s'/\Ext L L'/\ ∃l1 l2 a',l=l1++l2/\k+l1.length=8/\slOk a' (i64s (wo l1 b)) 3 L'/\(∀c,a'.b=some c-> ∀t∈L,t.1≠c)/\kn ε' [(6, .int .i64 l1.length),(5,rowv a' 1 (wo l1 b).length),(1, .int .i64 b),(0, .slice base l.length cap)]) 8
 ·exact⟨rfl,⟨hF,fun _ h=>h⟩,[],l,⟨none,[]⟩,rfl,rfl,⟨rfl,rfl⟩,by simp,rfl⟩
 rintro k s' ε' L' ⟨rfl,hE,l1,l2,a',hl,hk,ha',hfr,he⟩;co_applyP aN he;have hlen:=congrArg List.length hl;simp only[List.length_append] at hlen;co_applyP au;co_applyP aa;co_applyP om rfl rfl rfl ag;co_applyP oy rfl (bt (hu:=U54));co_applyP oy rfl bi;co_applyP ai;co_applyP aT rfl;intro hc
 ·cases l2 with
  |nil=>simp at hc hlen;omega
  |cons q l2=>
   obtain⟨g,hg,hbs,hbv⟩:=hat l1.length (.int .i64 q) (by rw[hl];simp);subst hbs;have hbv':=hE.at hbv;simp at hlen;have e:IntKind.i64.wrap ((l1.length:Int)+1)=((l1++[q]).length:Int):=by simp[IntKind.wrap_i64];omega
   co_applyP aB;co_applyP cK ((fun s'' ε'' L''=>s=s''/\Ext L L''/\ ∃a',slOk a' (i64s (wo (l1++[q]) b)) 3 L''/\(∀c,a'.b=some c-> ∀t∈L,t.1≠c)/\kn ε'' [(6, .int .i64 l1.length),(5,rowv a' 1 (wo (l1++[q]) b).length),(1, .int .i64 b),(0, .slice (some ⟨g,0,none⟩) l.length cap)]));co_applyP aC;co_applyP aa;co_applyP om rfl rfl rfl ag;co_applyP oy rfl (bw U54 bS);co_applyP oy rfl (aA (ht:=aR));co_applyP om rfl rfl rfl dK;co_applyP ai;co_applyP aT rfl;intro hq;co_applyP aq;co_applyP om rfl rfl rfl ag;co_applyP om rfl rfl rfl (bw U54 bS);co_applyP oy rfl (aA (ht:=aR))
   ·have hne:q≠b:=fun e=>by simp[e] at hq
    co_applyP b5 rfl (sx (hN _ _));intro nb L1 hA;co_applyP oeN rfl (fun hnd=>gS (e:=3) (hnd:=hnd) (hu:=U54) (hs:=bS) (hb:=pD) (hz:=tM) (hzs:=rfl) (hN:=fun cs=>hN _ _) (ha:=ha'.mono fun c _ o=>hA.sub _) (hn:=by simp) (v:= .int .i64 (q:Nat)) (hm:=hA.self) (hpl:=rfl) (h8:=by have:=C6 l1 b;omega));rintro _ L2 ⟨a2,rfl,hp⟩;co_applyP oan rfl;change _=_/\Ext _ _/\ ∃a',_;have ew:wo (l1++[q]) b=wo l1 b++[q]:=by rw[wT];simp[wo,hne]
    rw[ew];refine⟨rfl,⟨hp.fn,fun t ht=>hp.sub t (hA.sub t (hE.s t ht)) fun e=>hfr _ e t ht rfl⟩,a2,by have:=hp.ok;simpa [i64s] using this,fun c hc t ht=> ?_,by simp;rfl⟩;rcases hp.d c hc with h1|h1
    ·exact hfr c h1 t ht
    ·exact h1 t (hA.sub t (hE.s t ht))
   intro hq;co_applyP aB;change _=_/\Ext _ _/\ ∃a',_;have hqe:q=b:=by simp at hq;omega
   have ew:wo (l1++[q]) b=wo l1 b:=by rw[wT];simp[wo,hqe]
   rw[ew];exact⟨rfl,hE,a',ha',hfr,rfl⟩;rintro _ ε2 L2 ⟨rfl,hE2,a2,ha2,hfr2,he2⟩;co_applyP aN he2;co_applyP aq;co_applyP om rfl rfl rfl aS;co_applyP oan rfl;change∃k',k'<_/\_;rw[e];exact⟨k-1,by omega,rfl,hE2,l1++[q],l2,a2,by simp[hl],by simp;omega,ha2,hfr2,rfl⟩
 intro hc;co_applyP bf;co_applyP aa;co_applyP oy rfl ag;co_applyP oan rfl;co_applyP aK;change∃v,resE .. =some v/\_;cases l2 with
 |nil=>
  simp only[List.append_nil] at hl;subst hl;exact⟨_,rfl,rfl,a',rfl,hE,⟨ha',hE.f,fun t ht _=>hE.s t ht,fun c hc=> .inr (hfr c hc)⟩,hfr⟩
 |cons q l2=>simp at hc hlen;omega
section
variable {T:St}{b j:Nat}
def St.goneTo (T:St)(b j:Nat):St:={T with rows:=fun l=>if l<j then wo (T.rows l) b else T.rows l}
theorem wU:T.goneTo b 0=T:=by unfold St.goneTo;simp
theorem wV:(T.goneTo b j).setRow j (wo (T.rows j) b)=T.goneTo b (j+1):=by
 unfold St.goneTo St.setRow put;congr 1
 funext l
 by_cases h:l=j
 ·subst h;simp
 ·simp only[if_neg h];by_cases h1:l<j
  ·rw[if_pos h1,if_pos (by omega)]
  ·rw[if_neg h1,if_neg (by omega)]
theorem wW (r3: ∀l,3<=l->T.rows l=[]):T.goneTo b 3=T.gone b:=by
 unfold St.goneTo St.gone;congr 1
 funext l
 split
 ·rfl
 ·rw[r3 l (by omega)];rfl
end
theorem lz (B:RB)(T:St)(X:RX){l:Nat}(hl:l<3):(rkc B T X)[7+l]? =some (rowv (B.a l) 1 (T.rows l).length):=by
 rcases l with _|_|_|l
 ·rfl
 ·rfl
 ·rfl
 ·omega
theorem jI (B:RB)(T:St)(X:RX){l:Nat}(hl:l<3)(a':Sl)(zs:List Nat):(rkc B T X).setIfInBounds (7+l) (rowv a' 1 zs.length)=rkc {B with a:=put B.a l a'} (T.setRow l zs) X:=by
 rcases l with _|_|_|l
 ·rfl
 ·rfl
 ·rfl
 ·omega
theorem kw: ∃n,∀{σ}{F:Fam σ}{Δ:DM F}{main s}(o R:Nat)(B:RB)(T:St)(X:RX)(L:Frag)(b:Nat)(x:PS),(∀s o,(Δ s).New o)->RepR o R B T X L->(b,x)∈T.ps->(∀l,l<3->(T.rows l).length<=8)->(∀l,3<=l->T.rows l=[])->
 CallsL Δ Tryz.prog main 118 [ptr R,ptr (B.p b)].toArray n s L (fun s' v L'=>s=s'/\v= .tuple #[]/\ ∃B',To o R B T L B' (T.gone b) X L'):=by
 obtain⟨n1,g1⟩:=um;apply Exists.intro;intro σ F Δ main s o R B T X L b x hN hR hb h8 r3;co_applyP aF 26 Tryz.func118 Tryz.ntmps118;co_applyP aa;co_applyP oan rfl;co_applyP aC;co_applyP bg (fun k s' ε' L'=>s=s'/\ ∃(j:Nat) (B':RB),k+j=3/\To o R B T L B' (T.goneTo b j) X L'/\kn ε' [(4, .int .i64 j),(1,ptr (B.p b)),(0,ptr R)]) 3
 ·exact⟨rfl,0,B,rfl,by rw[wU];exact hR.to,rfl⟩
 rintro k s' ε' L' ⟨rfl,j,B',hk,hT,he⟩;co_applyP aN he;have hR':=hT.r;have hpb:=hT.q hR hb;have hid:At L' (B.p b) 0 (.int .i64 (b:Nat)):=hT.num hR hb;co_applyP au;co_applyP aa;co_applyP om rfl rfl rfl bi;co_applyP ai;co_applyP aT rfl;intro hc
 ·have hj:j<3:=by simp at hc;omega
  have er:(T.goneTo b j).rows j=T.rows j:=if_neg (Nat.lt_irrefl j);have hrow:At L' R (7+j) (rowv (B'.a j) 1 (T.rows j).length):=by rw[<-er];exact hR'.kat (lz _ _ _ hj)
  have hok:slOk (B'.a j) (i64s (T.rows j)) 3 L':=by rw[<-er];exact hR'.rw j hj
  have e:IntKind.i64.wrap ((j:Int)+1)=((j+1:Nat):Int):=by simp[IntKind.wrap_i64];omega
  co_applyP aB;co_applyP au;co_applyP aC;co_applyP br [] 13 a5;co_applyP tr 0 rfl ag pN;co_applyP tr 1 rfl ag pN;co_applyP tr 2 rfl ag pN;co_applyP tr 3 rfl ag pN;co_applyP tr 4 rfl av pN;co_applyP tr 5 rfl (ak (hf:=cB)) pN;co_applyP tr 6 rfl (aX jr dx) pN;co_applyP t0 7 rfl (aA (ht:=kS)) pN;co_applyP tr 8 rfl ag pN;co_applyP tr 9 rfl av pN;co_applyP tr 10 rfl (ak (hf:=aG)) pN;co_applyP tr 11 rfl (ak (hf:=bH)) pN;co_applyP t0 12 rfl (aA (ht:=aR)) pN;co_applyP tr 14 rfl av pN;co_applyP tr 15 rfl (ak (hf:=cB)) pN;co_applyP tc 13 rfl rfl rfl (g1 L' (B'.a j) (T.rows j) b hN hR'.fn hok (h8 j hj));rintro _ _ _ ⟨rfl,a2,rfl,hE,hp,hfr⟩;refine⟨aD (by simp), ?_⟩;co_applyP to 16 rfl ((aX jr dx)) (aD (by simp));co_applyP bd;intro hnd';co_applyP te (i:=17) rfl (dv (hnd:=hnd') (hm:=hE.s _ hR'.k) (hi:=by show _<16;omega) (hp:=bW _ _ _) (hs:=dx));rintro _ _ ⟨rfl,hU⟩;refine⟨aD (by simp), ?_⟩;co_applyP td (by kernel_rfl);co_applyP aq;co_applyP om rfl rfl rfl aS;co_applyP oan rfl;change∃k',k'<_/\_;have hT2:=hT.trans (To.of (hR'.setR hj hp hU (jI _ _ _ hj _ _)));rw[wV] at hT2;rw[e];exact⟨k-1,by omega,rfl,j+1,_,by omega,hT2,rfl⟩
 intro hc;co_applyP bf;change∃v,resE .. =some v/\_;have hj:j=3:=by simp at hc;omega
 subst hj;rw[wW r3] at hT;exact⟨_,rfl,rfl,rfl,B',hT⟩
theorem nO: ∃n,∀{σ}{F:Fam σ}{Δ:DM F}{main s}(o R:Nat)(B:RB)(T:St)(X:RX)(L:Frag)(b:Nat)(x:PS),(∀s o,(Δ s).New o)->RepR o R B T X L->(b,x)∈T.ps->x.lv<3->(T.rows x.lv).length<=10000->b≠o->x.st≠6->
 CallsL Δ Tryz.prog main 98 [ptr R,ptr (B.p b)].toArray n s L (fun s' v L'=>s=s'/\v= .tuple #[]/\ ∃B',To o R B T L B' (T.wake1 b x) X L'):=by
 apply Exists.intro;intro σ F Δ main s o R B T X L b x hN hR hb hlv h8 hbo h6;have hz:=hR.sz _ hb h6;co_applyP aF 38 Tryz.func98 Tryz.ntmps98;co_applyP aa;co_applyP om rfl rfl rfl av;co_applyP oy rfl (ak (hf:=aG));co_applyP oy rfl (ak (hf:=bM));co_applyP osm rfl (hs:=bS) (hm:=hR.p _ hb) (hi:=by rw[bC];decide);intro L1 hU;have hT1:=To.of (hR.setP hb hU {x with st:=1} (B.e b) o rfl (hun:=fun h=>nomatch h) (hdu:=hR.du _ hb) (ho:=fun _ _ _=>Iff.rfl) (hsz:=fun _=>hz));have hb1:=ar (x:={x with st:=1}) hb;co_applyP ai;co_applyP aa;co_applyP om rfl rfl rfl av;co_applyP oy rfl (ak (hf:=aG));co_applyP oy rfl (ak (hf:=da));co_applyP osm rfl (hs:=bS) (hm:=hT1.r.p _ hb1) (hi:=by rw[bC];decide);intro L2 hU2;have hT2:=hT1.trans (To.of (hT1.r.setP hb1 hU2 {x with st:=1,used:=0} {put B.e b (B.e b) b with du:=0} o rfl (hun:=fun h=>nomatch h) (hdu:=by rw[if_neg hbo]) (ho:=fun _ _ _=>Iff.rfl) (hsz:=fun _=>hz)));rw[bI] at hT2;have hb2:=ar (x:={x with st:=1,used:=0}) hb;have hR2:=hT2.r;generalize hB2:({B with e:=_}:RB)=B2 at hT2 hR2;have ep:B2.p b=B.p b:=by rw[<-hB2]
 have hx5:At L2 (B.p b) 5 (.int .i64 (x.lv:Nat)):=by rw[<-ep];exact hR2.pat hb2 (i:=5) rfl
 have hx0:At L2 (B.p b) 0 (.int .i64 (b:Nat)):=hT2.num hR hb;have hrow:At L2 R (7+x.lv) (rowv (B2.a x.lv) 1 (T.rows x.lv).length):=hR2.kat (lz _ _ _ hlv);have hpm:(B.p b,true,Obj.cells (rpc {x with st:=1,used:=0} (B2.e b)) 154)∈L2:=by rw[<-ep];exact hR2.p _ hb2
 co_applyP ai;co_applyP br [(B.p b,true,Obj.cells (rpc {x with st:=1,used:=0} (B2.e b)) 154)] 22 (nf:=0) a5;co_applyP tr 0 rfl ag (aj (by simpa using hpm));co_applyP tr 1 rfl ag (aj (by simpa using hpm));co_applyP tr 2 rfl av (aj (by simpa using hpm));co_applyP tr 3 rfl (ak (hf:=aG)) (aj (by simpa using hpm));co_applyP tr 4 rfl (ak (hf:=cn)) (aj (by simpa using hpm));co_applyP tr 5 rfl (aA (ht:=aR)) (aj (by simpa using hpm));co_applyP tr 6 rfl ag (aj (by simpa using hpm));co_applyP tr 7 rfl ag (aj (by simpa using hpm));co_applyP tr 8 rfl av (aj (by simpa using hpm));co_applyP tr 9 rfl (ak (hf:=aG)) (aj (by simpa using hpm));co_applyP tr 10 rfl (ak (hf:=cn)) (aj (by simpa using hpm));co_applyP t0 11 rfl (aA (ht:=aR)) (aj (by simpa using hpm));co_applyP tr 12 rfl av (aj (by simpa using hpm));co_applyP tr 13 rfl (ak (hf:=cB)) (aj (by simpa using hpm));co_applyP tr 14 rfl (aX jr dx) (aj (by simpa using hpm));co_applyP t0 15 rfl (aA (ht:=kS)) (aj (by simpa using hpm));co_applyP tr 16 rfl ag (aj (by simpa using hpm));co_applyP tr 17 rfl av (aj (by simpa using hpm));co_applyP tr 18 rfl (ak (hf:=aG)) (aj (by simpa using hpm));co_applyP tr 19 rfl (ak (hf:=bH)) (aj (by simpa using hpm));co_applyP t0 20 rfl (aA (ht:=aR)) (aj (by simpa using hpm));co_applyP tr 23 rfl av (aj (by simpa using hpm));co_applyP tr 24 rfl (ak (hf:=cB)) (aj (by simpa using hpm));co_applyP te (i:=21) rfl (sx (hN _ _));rintro _ _ ⟨nb,hnb,rfl,rfl⟩;refine⟨cJ (by simpa using hpm) (fun t ht=>List.mem_cons_of_mem _ ht), ?_⟩;co_applyP bd;intro hnd;have hA:=cQ (o:= .cells #[.int .i64 (b:Nat)] 3) hR2.fn hnb;have hE:Ext L2 _:=⟨hA.fn,hA.sub⟩;have hR3:=hR2.ext hE;co_applyP te (i:=22) rfl (gS (e:=3) (hnd:=hnd) (hu:=U54) (hs:=bS) (hb:=pD) (hz:=tM) (hzs:=rfl) (hN:=fun cs=>hN _ _) (ha:=hR3.rw _ hlv) (hn:=by rw[List.length_map];rfl) (v:= .int .i64 (b:Nat)) (hm:=hA.self) (hpl:=rfl) (h8:=by omega));rintro _ _ ⟨a',rfl,hp⟩;refine⟨aD (by simpa using hp.ch.keep (NoT.sl hR3.fn (hR3.rw _ hlv) (by decide)) (hA.sub _ hpm)), ?_⟩;co_applyP to 25 rfl (aX jr dx (h1:=Int.ofNat_lt.2 hlv)) (aD (by simpa using hp.ch.keep (NoT.sl hR3.fn (hR3.rw _ hlv) (by decide)) (hA.sub _ hpm)));co_applyP bd;intro hnd';have hk:=hp.ch.keep (NoT.sl hR3.fn (hR3.rw _ hlv) (by decide)) hR3.k;have hpm3:=hp.ch.keep (NoT.sl hR3.fn (hR3.rw _ hlv) (by decide)) (hA.sub _ hpm);co_applyP te (i:=26) rfl (dv (hnd:=hnd') (hm:=hk) (hi:=by show _<16;omega) (hp:=bW _ _ _) (hs:=dx))
 rintro _ _ ⟨rfl,hU3⟩;refine⟨aD (by simpa using hU3.ne _ hpm3 fun e=>absurd (dk hp.fn hpm3 (e▸hk)) (by decide)), ?_⟩;co_applyP td (by kernel_rfl);change∃v,resE .. =some v/\_;have ez:i64s ((T.setP b {x with st:=1,used:=0}).rows x.lv)++[.int .i64 (b:Nat)]=i64s (T.rows x.lv++[b]):=by rw[i64s,i64s,List.map_append];rfl
 rw[ez] at hp;exact⟨_,rfl,rfl,rfl,_,hT2.trans (To.pre hE (To.of (hR3.setR hlv hp hU3 (by rw[<-jI _ _ _ hlv];simp))))⟩
def St.tell1 (T:St)(b:Nat)(x:PS):St:=match T.childAt x with
 |some i=>(match T.ps[i]? with
  |some q=>if x.st=1 then T.take b x i else(T.take b x i).wake1 b (told x q.2)
  |none=>T)
 |none=>T
theorem mJ {a:Sl}{xs:List Value}{e:TypeId}{L:Frag}{P:Program}(ha:slOk a xs e L){g:Nat}(hb:a.b=some g){i m cap len cap':Nat}(hc:cap=xs.length+a.junk.length)(h:i+m<=xs.length):Reads P L 1 m (.slice (some ⟨g,cutAt 0 i cap 1,none⟩) len cap') ((xs.drop i).take m).toArray:=by
 have hs:(xs++a.junk).toArray.size=cap:=by simp[hc]
 have ho:cutAt 0 i cap 1+m*1<=(xs++a.junk).toArray.size:=by rw[hs];unfold cutAt;split<;>omega
 have:=cI (P:=P) (n:=m) (sz:=1) (len:=len) (cap:=cap') (ha.mem hb) ho;have e:(xs++a.junk).toArray.extract (cutAt 0 i cap 1) (cutAt 0 i cap 1+m*1)=((xs.drop i).take m).toArray:=by
  unfold cutAt
  split
  ·have hm:m=0:=by omega
   subst hm;simp
  ·rw[List.extract_toArray];simp only[List.extract_eq_take_drop,Nat.zero_add,Nat.mul_one];rw[List.drop_append_of_le_length (by omega),List.take_append_of_le_length (by simp;omega),Nat.add_sub_cancel_left]
 rw[e] at this;exact this
theorem wX: ∃n,∀{σ}{F:Fam σ}{Δ:DM F}{main s}(o R:Nat)(B:RB)(T:St)(X:RX)(L:Frag)(b:Nat)(x:PS),(∀s o,(Δ s).New o)->RepR o R B T X L->(b,x)∈T.ps->x.st≠6->x.lv<3->(T.rows x.lv).length<=10000->(x.st=1\/b≠o)->T.ps.length<=8->
 CallsL Δ Tryz.prog main 155 [ptr R,ptr (B.p b)].toArray n s L (fun s' v L'=>s=s'/\v= .bool (T.childAt x).isSome/\ ∃B',To o R B T L B' (T.tell1 b x) X L'):=by
 obtain⟨n1,g1⟩:=nO;apply Exists.intro;intro σ F Δ main s o R B T X L b x hN hR hb h6 hlv hr8 hbo h8;obtain⟨base,cap,hv,hat⟩:=fG hR.pl (n:=T.ps.length) (by simp);have h5:At L R 5 (.slice base T.ps.length cap):=by rw[<-hv];exact hR.kat rfl
 have hx0:At L (B.p b) 0 (.int .i64 (x.id:Nat)):=hR.pat hb (i:=0) rfl;co_applyP aF 94 Tryz.func155 Tryz.ntmps155;co_applyP aa;co_applyP oan rfl;co_applyP au;co_applyP aa;co_applyP oan rfl;co_applyP aC;co_applyP bg (fun k s' ε' L'=>s'=s/\L'=L/\ ∃l1 l2,T.ps=l1++l2/\(∀q∈l1,isChildEnded x q.2=false)/\k+l1.length=8/\kn ε' [(5, .int .i64 l1.length),(1,ptr (B.p b)),(0,ptr R)]) 8
 ·exact⟨rfl,rfl,[],T.ps,rfl,by simp,rfl,rfl⟩
 rintro k s' ε' L' ⟨rfl,rfl,l1,l2,hl,hn,hk,he⟩;co_applyP aN he;have hlen:=congrArg List.length hl;simp only[List.length_append] at hlen;co_applyP au;co_applyP aa;co_applyP om rfl rfl rfl ag;co_applyP oy rfl av;co_applyP oy rfl (ak (hf:=bu));co_applyP oy rfl (aA (ht:=ci));co_applyP oy rfl (bt (hu:=cY));co_applyP oy rfl bi;co_applyP ai;co_applyP aT rfl;intro hc
 ·cases l2 with
  |nil=>simp at hc hlen;omega
  |cons q l2=>
   obtain⟨g,hg,hbs,hbv⟩:=hat l1.length (ptr (B.p q.1)) (by rw[hl];simp);subst hbs;have hq:q∈T.ps:=by rw[hl];simp
   have hq1:At L' (B.p q.1) 1 (.int .i64 (q.2.par:Nat)):=hR.pat (b:=q.1) (x:=q.2) hq (i:=1) rfl;have hq2:At L' (B.p q.1) 2 (.int .i64 (q.2.st:Nat)):=hR.pat (b:=q.1) (x:=q.2) hq (i:=2) rfl;simp at hlen;have e1:IntKind.i64.wrap ((l1.length:Int)+1)=((l1.length+1:Nat):Int):=by simp[IntKind.wrap_i64];omega
   co_applyP aB;co_applyP au;co_applyP aC;co_applyP aa;co_applyP om rfl rfl rfl av;co_applyP oy rfl (ak (hf:=bu));co_applyP oy rfl (aA (ht:=ci));co_applyP om rfl rfl rfl (bw cY cq);co_applyP oy rfl (aA (ht:=dZ));co_applyP oan rfl;co_applyP au;co_applyP au;co_applyP cO ([(42, .bool (!isChildEnded x q.2)),(6,ptr (B.p q.1)),(5, .int .i64 l1.length),(1,ptr (B.p b)),(0,ptr R)]);co_applyP bA a5;co_applyP tr 0 rfl ag pI;co_applyP tr 1 rfl av pI;co_applyP tr 2 rfl (ak (hf:=aG)) pI;co_applyP tr 3 rfl (ak (hf:=fy)) pI;co_applyP tr 4 rfl (aA (ht:=aR)) pI;co_applyP tr 5 rfl ag pI;co_applyP tr 6 rfl av pI;co_applyP tr 7 rfl (ak (hf:=aG)) pI;co_applyP tr 8 rfl (ak (hf:=bH)) pI;co_applyP tr 9 rfl (aA (ht:=aR)) pI;co_applyP tr 10 rfl dK pI;co_applyP tr 11 rfl ag pI
   ·by_cases hpar:q.2.par=x.id
    ·have e3:((q.2.par:Int) !=(x.id:Int))=false:=by simp[hpar]
     rw[e3];co_applyP tr 12 rfl (ag) pI;co_applyP tr 13 rfl (av) pI;co_applyP tr 14 rfl ((ak (hf:=aG))) pI;co_applyP tr 15 rfl ((ak (hf:=bM))) pI;co_applyP tr 16 rfl ((aA (ht:=aR))) pI;co_applyP tr 17 rfl (dK) pI;co_applyP tr 18 rfl aH pI;co_applyP td (by kernel_rfl);change _=_/\_=_/\kn _ _;refine⟨rfl,rfl, ?_⟩;have e4:((q.2.st:Int) !=6)= !isChildEnded x q.2:=by
      unfold isChildEnded;by_cases h:q.2.st=6
      ·simp[h,hpar]
      ·have: ¬(q.2.st:Int)=6:=by omega
       simp[h,hpar,this]
     rw[<-e4];rfl
    ·have e3:((q.2.par:Int) !=(x.id:Int))=true:=by simp;omega
     rw[e3];co_applyP tu 12 rfl pI;co_applyP tu 13 rfl pI;co_applyP tu 14 rfl pI;co_applyP tu 15 rfl pI;co_applyP tu 16 rfl pI;co_applyP tu 17 rfl pI;co_applyP tr 18 rfl aH pI;co_applyP td (by kernel_rfl);change _=_/\_=_/\kn _ _;refine⟨rfl,rfl, ?_⟩;have e4:true= !isChildEnded x q.2:=by unfold isChildEnded;simp[hpar]
     rw[<-e4];rfl
   co_applyP aT rfl;intro hw;co_applyP bf;co_applyP aq;co_applyP om rfl rfl rfl aS;co_applyP oan rfl;change∃k',k'<_/\_
   ·rw[e1];have hw':isChildEnded x q.2=false:=by simpa using hw
    refine⟨k-1,by omega,rfl,rfl,l1++[q],l2,by simp[hl], ?_,by simp;omega,by simp;rfl⟩;intro r hr;rcases List.mem_append.1 hr with h|h
    ·exact hn r h
    ·simp at h;rw[h];exact hw'
   intro hw;co_applyP aB;co_applyP aa;co_applyP oan rfl;co_applyP aa;co_applyP om rfl rfl rfl ag;co_applyP oy rfl av;co_applyP oy rfl (ak (hf:=bu));co_applyP oy rfl (aA (ht:=ci));co_applyP oy rfl ag;have hce:isChildEnded x q.2=true:=by simpa using hw
   have hce':q.2.par=x.id/\q.2.st=6:=by simpa [isChildEnded] using hce
   have hqb:q.1≠b:=fun e=>by
    have:(b,q.2)∈T.ps:=by rw[<-e];exact hq
    rw[a6 hR.pn hb this] at h6;exact h6 hce'.2
   have hch:T.childAt x=some l1.length:=by
    unfold St.childAt;rw[hl,List.findIdx?_append,List.findIdx?_cons,hce];have:l1.findIdx? (fun q=>isChildEnded x q.2)=none:=List.findIdx?_eq_none_iff.2 hn;rw[this];simp
   have hcap:cap=(T.ps.map fun q=>ptr (B.p q.1)).length+B.ap.junk.length:=by
    unfold rowv at hv;rw[hg] at hv;cases hv;simp
   have hr1:=mJ (P:=Tryz.prog) hR.pl hg (i:=0) (m:=l1.length) (len:=l1.length) (cap':=cap-0) hcap (by simp;omega);have er1:((T.ps.map fun q=>ptr (B.p q.1)).drop 0).take l1.length=l1.map fun q=>ptr (B.p q.1):=by rw[hl];simp
   rw[er1] at hr1;simp only[List.length_map] at hcap;co_applyP oy rfl (ve cY cq (h1:=by rw[hcap];omega));co_applyP oeN rfl (fun hnd=>jX (a:=⟨none,[]⟩) (xs:=[]) (ys:=l1.map fun q=>ptr (B.p q.1)) (n:=0) (m:=l1.length) (by_:=7) (hnd:=hnd) (hu:=cY) (hs:=cq) (hb:=i8) (hz:=gd) (hzs:=rfl) (hN:=fun cs=>hN _ _) (ha:=⟨rfl,rfl⟩) (hn:=rfl) (hr:=hr1) (hm:=by simp) (hpl:=by simp[plainV]) (h0:=by decide) (h8:=by omega));rintro _ L1 ⟨a1,rfl,hp1⟩;have hn1: ∀t∈L',a1.b≠some t.1:=fun t ht e=>by
    rcases hp1.d _ e with h|h
    ·cases h
    ·exact h t ht rfl
   have hE1:Ext L' L1:=⟨hp1.fn,fun t ht=>hp1.sub t ht (by simp)⟩;have hr2:=mJ (P:=Tryz.prog) (hR.ext hE1).pl hg (i:=l1.length+1) (m:=l2.length) (len:=l2.length) (cap':=cap-(l1.length+1)) (cap:=cap) (by simp;exact hcap) (by simp;omega);have er2:((T.ps.map fun q=>ptr (B.p q.1)).drop (l1.length+1)).take l2.length=l2.map fun q=>ptr (B.p q.1):=by
    have e:(T.ps.map fun q=>ptr (B.p q.1))=((l1++[q]).map fun q=>ptr (B.p q.1))++l2.map fun q=>ptr (B.p q.1):=by rw[hl];simp
    rw[e,List.drop_left' (by simp),List.take_of_length_le (by simp)]
   rw[er2] at hr2;have h5':=hE1.at h5;co_applyP oan rfl;co_applyP aa;co_applyP om rfl rfl rfl ag;co_applyP om rfl rfl rfl av;co_applyP oy rfl (ak (hf:=bu));co_applyP oy rfl (aA (ht:=ci));co_applyP om rfl rfl rfl aS;rw[e1];co_applyP oy rfl (zx cY cq (h1:=by omega));co_applyP oeN rfl (fun hnd=>jX (a:=a1) (xs:=l1.map fun q=>ptr (B.p q.1)) (ys:=l2.map fun q=>ptr (B.p q.1)) (n:=0+l1.length) (m:=l2.length) (by_:=7) (hy:=by rw[show l2.length=T.ps.length-(((l1.length+1:Nat):Int)).toNat by simp;omega];rfl) (hnd:=hnd) (hu:=cY) (hs:=cq) (hb:=i8) (hz:=gd) (hzs:=rfl) (hN:=fun cs=>hN _ _) (ha:=hp1.ok) (hn:=by simp) (hr:=hr2) (hm:=by simp) (hpl:=by simp[plainV]) (h0:=by decide) (h8:=by omega));rintro _ L2 ⟨a2,rfl,hp2⟩;co_applyP oy rfl av;co_applyP oy rfl (ak (hf:=bu));have hs2: ∀t∈L',t∈L2:=fun t ht=>hp2.sub t (hE1.s t ht) (hn1 t ht);have hp:ApN L' 155 B.ap ((l1++l2).map fun q=>ptr (B.p q.1)) a2 L2:=⟨by rw[List.map_append];exact hp2.ok,hp2.fn,fun t ht _=>hs2 t ht,fun c hc=> .inr fun t ht e=>by
    rcases hp2.d c hc with h|h
    ·exact hn1 t ht (e▸h)
    ·exact h t (hE1.s t ht) e⟩
   co_applyP osm rfl (hs:=qS) (hm:=hs2 _ hR.k) (hi:=by show 5<16;decide) (hp:=bW _ _ _);intro L3 hU;have hcs:(rkc B T X).setIfInBounds 5 (rowv a2 1 (0+l1.length+l2.length))=rkc {B with p:=B.p,e:=B.e,ap:=a2} {T.setPs (l1++l2) with last:=T.last} X:=by
    unfold rkc St.setPs;simp
   have hin: ∀r∈l1++l2,r∈T.ps:=fun r hr=>by
    rw[hl];rcases List.mem_append.1 hr with h|h
    ·exact List.mem_append.2 (.inl h)
    ·exact List.mem_append.2 (.inr (List.mem_cons_of_mem _ h))
   have hsub:(l1++l2).Sublist T.ps:=by rw[hl];exact List.Sublist.append_left (List.sublist_cons_self _ _) l1
   have hT3a:=(hR.setL (p':=B.p) (e':=B.e) (T':={T.setPs (l1++l2) with last:=T.last}) hp hU hcs (hb:=fun r hr=>hR.p r (hin r hr)) (hid:=fun r hr=>hR.id r (hin r hr)) (hle:=fun r hr=>hR.le r (hin r hr)) (hpn:=hR.pn.sublist (hsub.map _)) (hpi:=fun r hr=>hR.np r (hin r hr)) (hun:=fun r hr=>hR.un r (hin r hr)) (hdu:=fun r hr=>hR.du r (hin r hr)) (hsz:=fun r hr=>hR.sz r (hin r hr)) (hab:=fun r hr=>hR.ab r (hin r hr)) (hnf:=fun r hr=>hR.nf r (hin r hr)) (he:=fun t ht=>ht) (hnew:=fun r hr=> .inl ⟨r,hin r hr,rfl⟩));have hi3: ∀r∈T.ps,r.1∈(l1++l2).map (·.1)\/Gone L3 (B.p r.1) r.1:=fun r hr=>by
    rw[hl] at hr;rcases List.mem_append.1 hr with h|h
    ·exact .inl (List.mem_map.2 ⟨r,List.mem_append_left _ h,rfl⟩)
    ·rcases List.mem_cons.1 h with h|h
     ·subst h;refine .inr ⟨_,hU.ne _ (hs2 _ (hR.p r hq)) fun e=>absurd (dk hp.fn (hs2 _ (hR.p r hq)) ((show B.p r.1=R from e)▸hs2 _ hR.k)) (by decide),by rw[ku,hR.id r hq], ?_⟩;show some (Value.int .i64 (r.2.st:Nat))=_;rw[hce'.2];rfl
     ·exact .inl (List.mem_map.2 ⟨r,List.mem_append_right _ h,rfl⟩)
   have hT3:To o R B T L' _ {T.setPs (l1++l2) with last:=T.last} X L3:=⟨hT3a.1,hT3a.2,fun _ _=>rfl,Nat.le_refl _,hi3,hR.le⟩;have hb3:(b,x)∈({T.setPs (l1++l2) with last:=T.last}:St).ps:=by
    show (b,x)∈l1++l2;rw[hl] at hb;rcases List.mem_append.1 hb with h|h
    ·exact List.mem_append.2 (.inl h)
    ·rcases List.mem_cons.1 h with h|h
     ·exact absurd (congrArg Prod.fst h).symm hqb
     ·exact List.mem_append.2 (.inr h)
   have hpq:B.p q.1≠B.p b:=fun e=>hqb (hR.inj hq hb e);have hq3:=hU.ne _ (hs2 _ (hR.p q hq)) fun e=>absurd (dk hp.fn (hs2 _ (hR.p q hq)) ((show B.p q.1=R from e)▸hs2 _ hR.k)) (by decide);have hR3:=hT3.r;have hq30:At L3 (B.p q.1) 0 (.int .i64 (q.2.id:Nat)):=⟨true,_,_,_,hq3,rfl⟩;co_applyP ai;co_applyP au;co_applyP br [] 11 (nf:=0) a5;co_applyP tr 0 rfl ag pN;co_applyP tr 1 rfl ag pN;co_applyP tr 2 rfl av pN;co_applyP tr 3 rfl (ak (hf:=aG)) pN;co_applyP tr 4 rfl (ak (hf:=bH)) pN;co_applyP t0 5 rfl (aA (ht:=aR)) pN;co_applyP tr 6 rfl (cF (hs:=U3) (ht:=U32)) pN;co_applyP tr 7 rfl av pN;co_applyP tr 8 rfl (ak (hf:=aG)) pN;co_applyP tr 9 rfl (ak (hf:=aW)) pN;co_applyP tr 10 rfl (aX U47 aV) pN;co_applyP bd;intro hnd;co_applyP te (i:=11) rfl (dv (hnd:=hnd) (hm:=hR3.p _ hb3) (hi:=by rw[bC];decide) (hs:=aV));rintro _ _ ⟨rfl,hU4⟩;refine⟨aD (by simp), ?_⟩;rw[bZ] at hU4;have hT4:=hT3.trans (To.of (hR3.setP hb3 hU4 {x with r:=put x.r 0 ((q.2.id:Int)%65536)} (B.e b) o (ee x _ (i:=0) (by decide) _) (hun:=hR.un _ hb) (hdu:=hR.du _ hb) (ho:=fun _ _ _=>Iff.rfl) (hsz:=hR.sz _ hb)));have hb4:=ar (x:={x with r:=put x.r 0 ((q.2.id:Int)%65536)}) hb3;have hR4:=hT4.r;have hq4:=hU4.ne _ hq3 hpq;rename_i L4;have hq43:At L4 (B.p q.1) 3 (.int .i64 q.2.stat):=⟨true,_,_,_,hq4,rfl⟩;co_applyP td (by kernel_rfl);co_applyP au;co_applyP br [] 11 (nf:=0) a5;co_applyP tr 0 rfl ag pN;co_applyP tr 1 rfl ag pN;co_applyP tr 2 rfl av pN;co_applyP tr 3 rfl (ak (hf:=aG)) pN;co_applyP tr 4 rfl (ak (hf:=kf)) pN;co_applyP t0 5 rfl (aA (ht:=aR)) pN;co_applyP tr 6 rfl (cF (hs:=U3) (ht:=U32)) pN;co_applyP tr 7 rfl av pN;co_applyP tr 8 rfl (ak (hf:=aG)) pN;co_applyP tr 9 rfl (ak (hf:=aW)) pN;co_applyP tr 10 rfl (aX U47 aV) pN;co_applyP bd;intro hnd2;co_applyP te (i:=11) rfl (dv (hnd:=hnd2) (hm:=hR4.p _ hb4) (hi:=by rw[bC];decide) (hs:=aV));rintro _ _ ⟨rfl,hU5⟩;refine⟨aD (by simp), ?_⟩;rw[bZ] at hU5;have hT5:=hT4.trans (To.of (hR4.setP hb4 hU5 (told x q.2) (put B.e b (B.e b) b) o (ee _ _ (i:=1) (by decide) _) (hun:=by have:=hR4.un _ hb4;exact this) (hdu:=by have:=hR4.du _ hb4;exact this) (ho:=fun _ _ _=>Iff.rfl) (hsz:=hR.sz _ hb)))
   rw[bI] at hT5;have htk:({T.setPs (l1++l2) with last:=T.last}:St).setP b (told x q.2)=T.take b x l1.length:=by
    unfold St.take;have e1:T.ps[l1.length]? =some q:=by rw[hl];simp
    have e2:T.ps.eraseIdx l1.length=l1++l2:=by rw[hl];exact iL
    rw[e1,e2]
   rw[htk] at hT5;have hb5:(b,told x q.2)∈(T.take b x l1.length).ps:=by rw[<-htk];exact ar hb3
   have hT5':=hT5.r;have hps:T.ps[l1.length]? =some q:=by rw[hl];simp
   rename_i L5;have epb:=hT5.q hR hb;have hst:At L5 (B.p b) 2 (.int .i64 (x.st:Nat)):=by rw[<-epb];exact hT5'.pat hb5 (i:=2) rfl
   have hfin:T.tell1 b x=if x.st=1 then T.take b x l1.length else(T.take b x l1.length).wake1 b (told x q.2):=by unfold St.tell1;rw[hch];simp only[hps]
   co_applyP td (by kernel_rfl);co_applyP cK ((fun s'' ε'' L''=>s'=s''/\kn ε'' []/\ ∃B6,To o R B T L' B6 (T.tell1 b x) X L''));co_applyP aa;co_applyP om rfl rfl rfl av;co_applyP oy rfl (ak (hf:=aG));co_applyP oy rfl (ak (hf:=bM));co_applyP oy rfl (aA (ht:=aR));co_applyP oy rfl dK;co_applyP ai;co_applyP aT rfl;intro hs1;co_applyP aq;co_applyP om rfl rfl rfl ag
   ·have hs1':x.st≠1:=by simp at hs1;omega
    have hrt:(T.take b x l1.length).rows=T.rows:=by rw[<-htk];rfl
    rw[<-epb];co_applyP oc rfl rfl rfl (g1 o R _ _ X L5 b (told x q.2) hN hT5' hb5 hlv (by rw[hrt];exact hr8) (by rcases hbo with h|h;exact absurd h hs1';exact h) h6);rintro _ _ _ ⟨rfl,rfl,B6,hT6⟩;co_applyP ai;change _=_/\kn _ _/\ ∃B6,_;exact⟨rfl,rfl,B6,by rw[hfin,if_neg hs1'];exact hT5.trans hT6⟩
   intro hs1;co_applyP aB;change _=_/\kn _ _/\ ∃B6,_;have hs1':x.st=1:=by simp at hs1;omega
   exact⟨rfl,rfl,_,by rw[hfin,if_pos hs1'];exact hT5⟩;rintro _ ε9 L9 ⟨rfl,he9,B6,hT6⟩;co_applyP aN he9;co_applyP aa;co_applyP oan rfl;co_applyP aK;change∃v,resE .. =some v/\_;exact⟨_,rfl,rfl,by rw[hch];rfl,B6,hT6⟩
 intro hc;co_applyP bf;co_applyP aa;co_applyP oan rfl;co_applyP aK;change∃v,resE .. =some v/\_;cases l2 with
 |nil=>
  have hch:T.childAt x=none:=List.findIdx?_eq_none_iff.2 (by rw[hl];simpa using hn);exact⟨_,rfl,rfl,by rw[hch];rfl,B,by unfold St.tell1;rw[hch];exact hR.to⟩
 |cons q l2=>simp at hc hlen;omega
section
variable {o R:Nat}{B B1:RB}{S T T1:St}{X X1:RX}{L L0 L1 L2:Frag}{D:Nat->Prop}{b c:Nat}{x y:PS}{N:Nat->Nat}{P:Nat->Prop}
theorem yP (x:PS)(e:RE){i:Nat}(hi:i<6):(rpc x e)[79+i]? =some (.int .i64 (e.pi i:Nat)):=by
 rcases i with _|_|_|_|_|_|i
 ·rfl
 ·rfl
 ·rfl
 ·rfl
 ·rfl
 ·rfl
 ·omega
theorem RepR.other (h:RepR o R B T X L)(c:Ch D L L1)(hD: ∀b,D b-> ¬OwnR R B T b):RepR o R B T X L1:=
 {h with
  fn:=c.fn,k:=c.s _ h.k fun hd=>hD _ hd (.inl rfl),p:=fun q hq=>c.s _ (h.p q hq) fun hd=>hD _ hd (.inr (.inl ⟨q,hq,rfl⟩))
  pl:=c.keepA (fun b hb hd=>hD b hd (.inr (.inr (.inl hb)))) h.pl,rw:=fun l hl=>c.keepA (fun b hb hd=>hD b hd (.inr (.inr (.inr (.inl ⟨l,hl,hb⟩))))) (h.rw l hl),ev:=c.keepA (fun b hb hd=>hD b hd (.inr (.inr (.inr (.inr hb))))) h.ev}
theorem To.other (h:To o R B T L B1 T1 X1 L1)(c:Ch D L1 L2)(hD: ∀b,D b-> ¬OwnR R B1 T1 b/\ ∀t∈L,¬OwnR R B T t.1->t.1≠b) (h4:NoT L1 D 154):To o R B T L B1 T1 X1 L2:=
 ⟨h.r.other c fun b hb=>(hD b hb).1,⟨fun t ht hn=>c.s _ (h.f.s t ht hn) fun hd=>(hD _ hd).2 t ht hn rfl,h.f.n⟩,h.p,h.l,fun q hq=>(h.i q hq).imp id fun⟨cs,h1,h2⟩=>⟨cs,c.keep h4 h1,h2⟩,h.le⟩
theorem Foot.free {own own':Nat->Prop}(h:Foot own own' L L1){fl:Bool}{obj:Obj}(hm:(b,fl,obj)∈L)(hn: ¬own b):(b,fl,obj)∈L1/\ ¬own' b:=⟨h.s _ hm hn,fun ho=>by
 rcases h.n b ho with h1|h1
 ·exact hn h1
 ·exact h1 _ hm rfl⟩
theorem RepR.no155 (h:RepR o R B T X L){cs:Array Value}(hm:(b,true,Obj.cells cs 155)∈L)(hb:B.ap.b≠some b): ¬OwnR R B T b:=by
 rintro(e|⟨q,hq,e⟩|e|⟨l,hl,e⟩|e)
 ·subst e;exact absurd (dk h.fn hm h.k) (by decide)
 ·subst e;exact absurd (dk h.fn hm (h.p q hq)) (by decide)
 ·exact hb e
 ·exact absurd (dk h.fn hm ((h.rw l hl).mem e)) (by decide)
 ·exact absurd (dk h.fn hm (h.ev.mem e)) (by decide)
theorem yQ (hg:Good T)(r3: ∀l,3<=l->T.rows l=[]) (hb:(b,x)∈T.ps) (s:Int):(T.stop1 b x 6).setP b {x with st:=6,stat:=s}=T.end2 b x s:=by
 unfold St.stop1 St.end2;rw[i0 hg r3 hb,cT,cT,bI]
theorem MI.end2 (h:MI P N T)(ho:T.out b)(hb:(b,x)∈T.ps)(s:Int):MI P N (T.end2 b x s):=by
 rw[<-yQ h.i.g h.x.r3 hb];exact(h.stop1 hb ho (s:=6) (by decide)).like (x':={x with st:=6,stat:=s}) (ar hb) ho rfl rfl ⟨(h.i.wf _ hb).r,(h.i.wf _ hb).m⟩ (h.i.fl (b,x) hb) rfl rfl (h.x.un (b,x) hb)
theorem mK (id:Nat): ∀(bs:List Nat)(S:St),(S.orphs id bs).ps.map (·.1)=S.ps.map (·.1)
 |[],S=>rfl
 |b::bs,S=>by
  unfold St.orphs;rw[mK id bs]
  split
  ·split
   ·exact dJ _ _ _
   ·rfl
  ·rfl
theorem dS (h:c∈S.ps.map (·.1)): ∃y,(c,y)∈S.ps:=by
 obtain⟨q,hq,rfl⟩:=List.mem_map.1 h;exact⟨q.2,hq⟩
def St.isW (S:St)(c:Nat):Bool:=match S.get c with
 |some y=>y.st==2
 |none=>false
theorem nP (hn:(S.ps.map (·.1)).Nodup)(h:(c,y)∈S.ps):S.isW c=(y.st==2):=by unfold St.isW;rw[bk hn h]
theorem nQ (hn:(S.ps.map (·.1)).Nodup)(h:(c,y)∈S.ps)(h2:y.st=2):S.parent1 c=S.tell1 c y:=by
 unfold St.parent1 St.tell1;rw[bk hn h];simp only[if_pos h2];have h1: ¬y.st=1:=by omega
 cases S.childAt y with
 |none=>rfl
 |some i=>
  simp only[if_neg h1];cases S.ps[i]? <;>rfl
theorem nR (hn:(S.ps.map (·.1)).Nodup)(h:(b,x)∈S.ps)(h2:x.st=2)(hne:b≠c):(b,x)∈(S.parent1 c).ps:=by
 unfold St.parent1
 split
 ·rename_i y hy
  split
  ·split
   ·rename_i i hi
    split
    ·rename_i q hq;refine bK ?_ hne;unfold St.take;rw[hq];refine bK ?_ hne;show (b,x)∈S.ps.eraseIdx i;rw[List.mem_eraseIdx_iff_getElem?];obtain⟨j,hj⟩:=List.getElem?_of_mem h;refine⟨j,fun e=> ?_,hj⟩;subst e;rw[hj] at hq;have:=List.findIdx?_eq_some_iff_getElem.1 hi;obtain⟨hlt,h3,_⟩:=this;have e2:S.ps[j]=(b,x):=by
      have:=List.getElem?_eq_getElem hlt;rw[hj] at this;exact(Option.some.inj this).symm
     rw[e2] at h3;simp[isChildEnded] at h3;omega
    ·exact h
   ·exact h
  ·exact h
 ·exact h
end
abbrev finX (X:RX)(b:Nat)(st:Int):RX:={tellX X 4 b st with over:=X.over||decide (b=1)}
theorem wY: ∃n,∀{σ}{F:Fam σ}{Δ:DM F}{main s}(o R:Nat)(B:RB)(T:St)(X:RX)(L:Frag)(b:Nat)(x:PS)(st:Int),(∀s o,(Δ s).New o)->RepR o R B T X L->MI (fun _=>False) (fun b=>b) T->NP T->(b,x)∈T.ps->x.st≠6->X.ws.length<=10000->(∀y,(o,y)∈T.ps->y.st=1)->
 CallsL Δ Tryz.prog main 139 [ptr R,ptr (B.p b), .int .i64 st].toArray n s L (fun s' v L'=>s=s'/\v= .tuple #[]/\ ∃B',To o R B T L B' (T.fin b x st) (finX X b st) L'):=by
 obtain⟨n1,g1⟩:=kw;obtain⟨n2,g2⟩:=nN;obtain⟨n3,g3⟩:=wX;apply Exists.intro;intro σ F Δ main s o R B T X L b x st hN hR hM hNP hb h6 hw ho;have hg:=hM.i.g;have hout:T.out b:=fun e he=>by rw[hNP.w] at he;cases he
 co_applyP aF 161 Tryz.func139 Tryz.ntmps139;co_applyP aa;co_applyP om rfl rfl rfl ag;co_applyP oc rfl rfl rfl (g1 o R B T X L b x hN hR hb (fun l hl=>hg.r8 hl) hM.x.r3);rintro _ _ _ ⟨rfl,rfl,B1,hT1⟩;co_applyP ai;co_applyP au;co_applyP aa;co_applyP oan rfl;co_applyP aC;rename_i L1;have h6':At L1 R 6 (.slice none 0 0):=hT1.r.kat rfl;co_applyP bg (fun k s' ε' L'=>s=s'/\L1=L'/\kn ε' [(6, .int .i64 0),(2, .int .i64 st),(1,ptr (B.p b)),(0,ptr R)]) 0
 ·exact⟨rfl,rfl,rfl⟩
 rintro k s' ε' L' ⟨rfl,rfl,he⟩;co_applyP aN he;co_applyP au (n₂:=0);co_applyP aa;co_applyP om rfl rfl rfl ag;co_applyP oy rfl av;co_applyP oy rfl (ak (hf:=vn));co_applyP oy rfl (aA (ht:=Al));co_applyP oy rfl (bt (hu:=Tryz.underlying147));co_applyP oy rfl bi;co_applyP ai;co_applyP aE rfl;co_applyP bf;co_applyP aa;co_applyP om rfl rfl rfl av;co_applyP oy rfl (ak (hf:=aG));co_applyP oy rfl (ak (hf:=bM));have hb1:(b,x)∈(T.gone b).ps:=hb;have ep1:=hT1.q hR hb;rw[<-ep1];co_applyP osm rfl (hs:=bS) (hm:=hT1.r.p _ hb1) (hi:=by rw[bC];decide);intro L2 hU2;have hT2:=hT1.trans (To.of (hT1.r.setP hb1 hU2 {x with st:=6} (B1.e b) o rfl (hun:=fun h=>nomatch h) (hdu:=hT1.r.du _ hb1) (ho:=fun _ _ _=>Iff.rfl) (hsz:=fun h=>absurd rfl h)));have hb2:=ar (x:={x with st:=6}) hb1;co_applyP ai;co_applyP aa;co_applyP om rfl rfl rfl ag;co_applyP oy rfl av;co_applyP oy rfl (ak (hf:=aG));co_applyP oy rfl (ak (hf:=kf));co_applyP osm rfl (hs:=bS) (hm:=hT2.r.p _ hb2) (hi:=by rw[bC];decide);intro L3 hU3;have hT3:=hT2.trans (To.of (hT2.r.setP hb2 hU3 {x with st:=6,stat:=st} (put B1.e b (B1.e b) b) o rfl (hun:=fun h=>nomatch h) (hdu:=hT2.r.du _ hb2) (ho:=fun _ _ _=>Iff.rfl) (hsz:=fun h=>absurd rfl h)));rw[bI] at hT3;have hb3:=ar (x:={x with st:=6,stat:=st}) hb1;replace hT3:To o R B T L _ (T.end2 b x st) X L3:=hT3;clear hT1 hT2;have hid3:At L3 (B1.p b) 0 (.int .i64 (b:Nat)):=by rw[ep1];exact hT3.num hR hb
 co_applyP ai;co_applyP aa;co_applyP om rfl rfl rfl ag;co_applyP oy rfl av;co_applyP oy rfl (ak (hf:=aG));co_applyP oy rfl (ak (hf:=bH));co_applyP oy rfl (aA (ht:=aR));co_applyP oy rfl ag;co_applyP oc rfl rfl rfl (g2 o R _ _ X L3 4 b st hN hT3.r hw);rintro _ _ _ ⟨rfl,rfl,B4,hT4⟩;co_applyP ai;co_applyP au;co_applyP aa;co_applyP oan rfl;co_applyP aC;replace hT4:=hT3.trans hT4;rename_i L4;clear hT3;have ep4:=hT4.q hR hb;rw[ep1];have hb4:(b,{x with st:=6,stat:=st})∈(T.end2 b x st).ps:=hb3;co_applyP bg (fun k s' ε' L'=>s=s'/\L4=L'/\ ∃i:Nat,k+i=6/\kn ε' [(8, .int .i64 i),(2, .int .i64 st),(1,ptr (B.p b)),(0,ptr R)]) 6
 ·exact⟨rfl,rfl,0,rfl,rfl⟩
 rintro k s' ε' L' ⟨rfl,rfl,i,hk,he⟩;co_applyP aN he;co_applyP au;co_applyP aa;co_applyP om rfl rfl rfl bi;co_applyP ai;co_applyP aT rfl;intro hc
 ·have hi:i<6:=by simp at hc;omega
  have e1:IntKind.i64.wrap ((i:Int)+1)=((i+1:Nat):Int):=by simp[IntKind.wrap_i64];omega
  have hpi:At L4 (B.p b) (79+i) (.int .i64 0):=by
   have:=hT4.r.pat hb4 (yP _ _ hi);rw[hT4.r.np _ hb4 i hi,ep4] at this;exact this
  co_applyP aB;co_applyP au;co_applyP aC;co_applyP aa;co_applyP om rfl rfl rfl ag;co_applyP oy rfl av;co_applyP oy rfl (ak (hf:=pk));co_applyP oy rfl (aX Tryz.underlying151 bS);co_applyP oy rfl (aA (ht:=aR));co_applyP oy rfl dK;co_applyP ai;co_applyP aE rfl;co_applyP aB;co_applyP aq;co_applyP om rfl rfl rfl aS;co_applyP oan rfl;change∃k',k'<_/\_;rw[e1];exact⟨k-1,by omega,rfl,rfl,i+1,by omega,rfl⟩
 intro hc;co_applyP bf;co_applyP aa;co_applyP oan rfl;co_applyP au;co_applyP aa;co_applyP oan rfl;co_applyP aC;have hM2:=hM.end2 hout hb st;have hfst:(T.end2 b x st).ps.map (·.1)=T.ps.map (·.1):=dJ _ _ _;have h1b:1<=b:=by have:=(hM.x.idr _ hb).1;rw[hR.idb hb] at this;exact this
 have hbid:=hR.idb hb;have hnd:=hg.pn;generalize hns:T.ps.map (·.1)=ns at hfst hnd;have hl8:ns.length<=8:=by rw[<-hns];simpa using hg.p8
 co_applyP bg (fun k s' ε' L'=>s=s'/\ ∃l1 l2 B' a',ns=l1++l2/\k+l1.length=8/\To o R B T L B' ((T.end2 b x st).orphs b l1) (tellX X 4 b st) L'/\slOk a' ((l1.filter (T.end2 b x st).isW).map fun c=>ptr (B.p c)) 155 L'/\(∀c,a'.b=some c->B'.ap.b≠some c/\ ∀t∈L,¬OwnR R B T t.1->t.1≠c)/\kn ε' [(10, .int .i64 l1.length),(9,rowv a' 1 (l1.filter (T.end2 b x st).isW).length),(1,ptr (B.p b)),(0,ptr R)]) 8
 ·exact⟨rfl,[],ns,B4,⟨none,[]⟩,rfl,rfl,hT4,⟨rfl,rfl⟩,by simp,rfl⟩
 rintro k s' ε' L' ⟨rfl,l1,l2,B',a',hl,hk,hT,ha,hfr,he⟩;co_applyP aN he;have hlen:=congrArg List.length hl;simp only[List.length_append] at hlen;have hR':=hT.r;have hMo:=MI.orphs b h1b l1 hM2;have hfo:((T.end2 b x st).orphs b l1).ps.map (·.1)=ns:=by rw[mK,hfst]
 have hpl:((T.end2 b x st).orphs b l1).ps.length=ns.length:=by rw[<-hfo];simp
 obtain⟨base,cap,hv,hat⟩:=fG hR'.pl (n:=ns.length) (by simp[hpl]);have h5:At L' R 5 (.slice base ns.length cap):=by rw[<-hv,<-hpl];exact hR'.kat rfl
 co_applyP au;co_applyP aa;co_applyP om rfl rfl rfl ag;co_applyP oy rfl av;co_applyP oy rfl (ak (hf:=bu));co_applyP oy rfl (aA (ht:=ci));co_applyP oy rfl (bt (hu:=cY));co_applyP oy rfl bi;co_applyP ai;co_applyP aT rfl;intro hc
 ·cases l2 with
  |nil=>simp at hc hlen;omega
  |cons c l2=>
   obtain⟨y,hy⟩:=dS (c:=c) (S:=(T.end2 b x st).orphs b l1) (by rw[hfo,hl];simp);obtain⟨z,hz,hzs,_⟩:=fm b l1 _ hy;have hgi:(((T.end2 b x st).orphs b l1).ps.map fun q=>ptr (B'.p q.1))[l1.length]? =some (ptr (B'.p c)):=by
    have:(((T.end2 b x st).orphs b l1).ps.map (·.1))[l1.length]? =some c:=by rw[hfo,hl];simp
    rw[List.getElem?_map] at this⊢;cases h:((T.end2 b x st).orphs b l1).ps[l1.length]? with
    |none=>rw[h] at this;cases this
    |some q=>rw[h] at this;simp at this;simp[this]
   obtain⟨g,hgb,hbs,hbv⟩:=hat l1.length _ hgi;subst hbs;simp at hlen;have hcT: ∃w,(c,w)∈T.ps:=dS (by rw[hns,hl];simp);obtain⟨w,hcw⟩:=hcT;have epc:B'.p c=B.p c:=hT.q hR hcw;have e1:IntKind.i64.wrap ((l1.length:Int)+1)=((l1++[c]).length:Int):=by simp[IntKind.wrap_i64];omega
   have hy1:At L' (B.p c) 1 (.int .i64 (y.par:Nat)):=by rw[<-epc];exact hR'.pat hy (i:=1) rfl
   have hb0:At L' (B.p b) 0 (.int .i64 (b:Nat)):=hT.num hR hb;have hisw:(T.end2 b x st).isW c=(y.st==2):=by rw[nP hM2.i.g.pn hz,hzs]
   have hnx:(T.end2 b x st).orphs b (l1++[c])=if y.par=b then((T.end2 b x st).orphs b l1).setP c {y with par:=1} else(T.end2 b x st).orphs b l1:=by
    rw[iN];show St.orphs (match ((T.end2 b x st).orphs b l1).get c with|some x=>_|none=>_) b []=_;rw[bk hMo.i.g.pn hy];rfl
   rw[epc] at hbv;co_applyP aB;co_applyP cK ((fun s'' ε'' L''=>s=s''/\ ∃B' a',To o R B T L B' ((T.end2 b x st).orphs b (l1++[c])) (tellX X 4 b st) L''/\slOk a' (((l1++[c]).filter (T.end2 b x st).isW).map fun c=>ptr (B.p c)) 155 L''/\(∀c,a'.b=some c->B'.ap.b≠some c/\ ∀t∈L,¬OwnR R B T t.1->t.1≠c)/\kn ε'' [(10, .int .i64 l1.length),(9,rowv a' 1 ((l1++[c]).filter (T.end2 b x st).isW).length),(1,ptr (B.p b)),(0,ptr R)]));co_applyP aC;co_applyP aa;co_applyP om rfl rfl rfl av;co_applyP oy rfl (ak (hf:=bu));co_applyP oy rfl (aA (ht:=ci));co_applyP om rfl rfl rfl (bw cY cq);co_applyP oy rfl (aA (ht:=dZ));co_applyP oan rfl;co_applyP cK ((fun s'' ε'' L''=>s=s''/\ ∃B' y',To o R B T L B' ((T.end2 b x st).orphs b (l1++[c])) (tellX X 4 b st) L''/\slOk a' ((l1.filter (T.end2 b x st).isW).map fun c=>ptr (B.p c)) 155 L''/\(∀c,a'.b=some c->B'.ap.b≠some c/\ ∀t∈L,¬OwnR R B T t.1->t.1≠c)/\(c,y')∈((T.end2 b x st).orphs b (l1++[c])).ps/\y'.st=y.st/\kn ε'' [(11,ptr (B.p c)),(10, .int .i64 l1.length),(9,rowv a' 1 (l1.filter (T.end2 b x st).isW).length),(1,ptr (B.p b)),(0,ptr R)]));co_applyP au;co_applyP bA a5;co_applyP tr 0 rfl ag pI;co_applyP tr 1 rfl av pI;co_applyP tr 2 rfl (ak (hf:=aG)) pI;co_applyP tr 3 rfl (ak (hf:=fy)) pI;co_applyP tr 4 rfl (aA (ht:=aR)) pI;co_applyP tr 5 rfl ag pI;co_applyP tr 6 rfl av pI;co_applyP tr 7 rfl (ak (hf:=aG)) pI;co_applyP tr 8 rfl (ak (hf:=bH)) pI;co_applyP tr 9 rfl (aA (ht:=aR)) pI;co_applyP tr 10 rfl aI pI;co_applyP td (by kernel_rfl);co_applyP aT rfl;intro hp;co_applyP aq;co_applyP om rfl rfl rfl av;co_applyP oy rfl (ak (hf:=aG));co_applyP oy rfl (ak (hf:=fy))
   ·have hp':y.par=b:=by simp at hp;omega
    rw[if_pos hp'] at hnx;rw[<-epc];co_applyP osm rfl (hs:=bS) (hm:=hR'.p _ hy) (hi:=by rw[bC];decide);intro L5 hU5;have hT5:=hT.trans (To.of (hR'.setP hy hU5 {y with par:=1} (B'.e c) o rfl (hun:=hR'.un _ hy) (hdu:=hR'.du _ hy) (ho:=fun _ _ _=>Iff.rfl) (hsz:=hR'.sz _ hy)));rw[<-hnx] at hT5;co_applyP ai;change _=_/\ ∃B' y',_;rw[epc];refine⟨rfl,_,{y with par:=1},hT5,hU5.ch.keepS (.one hR'.fn (hR'.p _ hy) (by decide)) ha,hfr,by rw[hnx];exact ar hy,rfl,rfl⟩
   intro hp;co_applyP aB;change _=_/\ ∃B' y',_;have hp': ¬y.par=b:=by simp at hp;omega
   rw[if_neg hp'] at hnx;exact⟨rfl,B',y,by rw[hnx];exact hT,ha,hfr,by rw[hnx];exact hy,rfl,rfl⟩;rintro _ ε5 L5 ⟨rfl,B5,y5,hT5,ha5,hfr5,hy5,hys5,he5⟩;co_applyP aN he5;have epc5:B5.p c=B.p c:=hT5.q hR hcw;have hy52:At L5 (B.p c) 2 (.int .i64 (y.st:Nat)):=by rw[<-epc5,<-hys5];exact hT5.r.pat hy5 (i:=2) rfl
   co_applyP aa;co_applyP om rfl rfl rfl av;co_applyP oy rfl (ak (hf:=aG));co_applyP oy rfl (ak (hf:=bM));co_applyP oy rfl (aA (ht:=aR));co_applyP oy rfl aI;co_applyP ai;co_applyP aT rfl;intro hw2;co_applyP aq;co_applyP om rfl rfl rfl ag
   ·have hw2':y.st=2:=by simp at hw2;omega
    have ew:(l1++[c]).filter (T.end2 b x st).isW=l1.filter (T.end2 b x st).isW++[c]:=by rw[List.filter_append];simp[hisw,hw2']
    have hfl:(l1.filter (T.end2 b x st).isW).length<=l1.length:=List.length_filter_le _ _;co_applyP b5 rfl (fY (v:=ptr (B.p c)) (sz:=1) (hN:=hN _ _) (hv:=rfl) (hu:=cY) (hs:=cq) (hz:=gd) (h0:=by decide) (h24:=by decide));intro nb L6 hA;co_applyP oeN rfl (fun hnd=>gS (e:=155) (hnd:=hnd) (hu:=cY) (hs:=cq) (hb:=i8) (hz:=gd) (hzs:=rfl) (hN:=fun cs=>hN _ _) (ha:=ha5.mono fun c _ o=>hA.sub _) (hn:=by simp) (hm:=hA.self) (hpl:=rfl) (h8:=by omega));rintro _ L7 ⟨a7,rfl,hp7⟩;co_applyP oan rfl;change _=_/\ ∃B' y',_;have hT6:=hT5.ext (L2:=L6) ⟨hA.fn,hA.sub⟩;have ha6:slOk a' ((l1.filter (T.end2 b x st).isW).map fun c=>ptr (B.p c)) 155 L6:=ha5.mono fun c _ o=>hA.sub _;have hT7:=hT6.other hp7.ch (fun d hd=>⟨hT6.r.no155 (ha6.mem hd) (hfr5 d hd).1,(hfr5 d hd).2⟩) (.sl hT6.r.fn ha6 (by decide));rw[ew];refine⟨rfl,B5,a7,hT7,by have:=hp7.ok;simpa using this,fun d hd=> ?_,by simp;rfl⟩;rcases hp7.d d hd with h|h
    ·exact hfr5 d h
    ·exact⟨fun e=>h _ (hT6.r.pl.mem e) rfl,fun t ht hown e=>h _ (hT6.f.s t ht hown) e⟩
   intro hw2;co_applyP aB;change _=_/\ ∃B' y',_;have hw2': ¬y.st=2:=by simp at hw2;omega
   have ew:(l1++[c]).filter (T.end2 b x st).isW=l1.filter (T.end2 b x st).isW:=by rw[List.filter_append];simp[hisw,hw2']
   rw[ew];exact⟨rfl,B5,a',hT5,ha5,hfr5,rfl⟩;rintro _ ε8 L8 ⟨rfl,B8,a8,hT8,ha8,hfr8,he8⟩;co_applyP aN he8;co_applyP aq;co_applyP om rfl rfl rfl aS;co_applyP oan rfl;change∃k',k'<_/\_;rw[e1];exact⟨k-1,by omega,rfl,l1++[c],l2,B8,a8,by simp[hl],by simp;omega,hT8,ha8,hfr8,rfl⟩
 intro hc;co_applyP bf;co_applyP au;co_applyP aa;co_applyP oan rfl;co_applyP aC;have hl2:l2=[]:=by
  cases l2 with
  |nil=>rfl
  |cons c l2=>simp at hc hlen;omega
 subst hl2;simp only[List.append_nil] at hl;subst hl;have hT0:=hT;have hM4:=hMo;have hWm: ∀c∈ns.filter (T.end2 b x st).isW,∃w,(c,w)∈T.ps/\w.st=2/\c≠b:=fun c hc=>by
  obtain⟨h1,h2⟩:=List.mem_filter.1 hc;obtain⟨z,hz⟩:=dS (c:=c) (S:=T.end2 b x st) (by rw[hfst];exact h1);rw[nP hM2.i.g.pn hz] at h2;have h2':z.st=2:=by simpa using h2
  rcases aO hz with e|⟨h3,h4⟩
  ·cases e;cases h2'
  ·exact⟨z,h3,h2',h4⟩
 have hW4: ∀c∈ns.filter (T.end2 b x st).isW,∃y,(c,y)∈((T.end2 b x st).orphs b ns).ps/\y.st=2:=fun c hc=>by
  obtain⟨h1,h2⟩:=List.mem_filter.1 hc;obtain⟨y,hy⟩:=dS (c:=c) (S:=(T.end2 b x st).orphs b ns) (by rw[hfo];exact h1);obtain⟨z,hz,hzs,_⟩:=fm b ns _ hy;rw[nP hM2.i.g.pn hz,hzs] at h2;exact⟨y,hy,by simpa using h2⟩
 have hpf:((T.end2 b x st).orphs b ns).parents ns=((T.end2 b x st).orphs b ns).parents (ns.filter (T.end2 b x st).isW):=eL _ _ _ fun c hc y hy h2=>by
  obtain⟨z,hz,hzs,_⟩:=fm b ns _ hy;rw[nP hM2.i.g.pn hz,hzs,h2];rfl
 have hfin:T.fin b x st=((T.end2 b x st).orphs b ns).parents (ns.filter (T.end2 b x st).isW):=by rw[nM hNP hg hM.x.r3 hb,hns,hbid,hpf]
 have hWn:(ns.filter (T.end2 b x st).isW).Nodup:=hnd.sublist List.filter_sublist;have hW8:(ns.filter (T.end2 b x st).isW).length<=8:=Nat.le_trans (List.length_filter_le _ _) hl8;have hfr0: ∀c,a'.b=some c-> ¬OwnR R B' ((T.end2 b x st).orphs b ns) c:=fun c hc=>hR'.no155 (ha.mem hc) (hfr c hc).1;generalize ns.filter (T.end2 b x st).isW=W at ha hWm hW4 hfin hWn hW8;generalize (T.end2 b x st).orphs b ns=T4 at hT0 hM4 hW4 hfin hfr0;clear hT hR' hMo hat hv h5 hfr hpf hlen;co_applyP bg (fun k s' ε' L'=>s=s'/\ ∃w1 w2 B',W=w1++w2/\k+w1.length=8/\To o R B T L B' (T4.parents w1) (tellX X 4 b st) L'/\slOk a' (W.map fun c=>ptr (B.p c)) 155 L'/\(∀c,a'.b=some c-> ¬OwnR R B' (T4.parents w1) c)/\(∀c∈w2,∃y,(c,y)∈(T4.parents w1).ps/\y.st=2)/\MI (fun _=>False) (fun b=>b) (T4.parents w1)/\kn ε' [(12, .int .i64 w1.length),(9,rowv a' 1 W.length),(1,ptr (B.p b)),(0,ptr R)]) 8
 ·exact⟨rfl,[],W,B',rfl,rfl,hT0,ha,hfr0,hW4,hM4,rfl⟩
 rintro k s' ε' L' ⟨rfl,w1,w2,B7,hl,hk,hT,ha7,hfr7,hw7,hM7,he⟩;co_applyP aN he;have hlen:=congrArg List.length hl;simp only[List.length_append] at hlen;obtain⟨base,cap,hv,hat⟩:=fG ha7 (n:=W.length) (by simp);rw[hv];co_applyP au;co_applyP aa;co_applyP om rfl rfl rfl ag;co_applyP oy rfl (bt (hu:=cY));co_applyP oy rfl bi;co_applyP ai;co_applyP aT rfl;intro hc
 ·cases w2 with
  |nil=>simp at hc hlen;omega
  |cons c w2=>
   obtain⟨g,hgb,hbs,hbv⟩:=hat w1.length (ptr (B.p c)) (by rw[hl];simp);subst hbs;simp at hlen;obtain⟨w,hcw,hw2,hcb⟩:=hWm c (by rw[hl];simp);obtain⟨y,hy,hy2⟩:=hw7 c List.mem_cons_self;have epc:B7.p c=B.p c:=hT.q hR hcw;have hco:c≠o:=fun e=>by rw[e] at hcw;have:=ho _ hcw;omega
   have e1:IntKind.i64.wrap ((w1.length:Int)+1)=((w1++[c]).length:Int):=by simp[IntKind.wrap_i64];omega
   have hys:At L' (B.p c) 2 (.int .i64 2):=by
    have:At L' (B7.p c) 2 (.int .i64 (y.st:Nat)):=hT.r.pat hy (i:=2) rfl;rw[epc,hy2] at this;exact this
   have hg7:=hM7.i.g;co_applyP aB;co_applyP au;co_applyP aC;co_applyP aa;co_applyP om rfl rfl rfl ag;co_applyP oy rfl (bw cY cq);co_applyP oy rfl (aA (ht:=dZ));co_applyP oy rfl av;co_applyP oy rfl (ak (hf:=aG));co_applyP oy rfl (ak (hf:=bM));co_applyP oy rfl (aA (ht:=aR));co_applyP oy rfl aI;co_applyP ai;co_applyP bv rfl;co_applyP aq;co_applyP om rfl rfl rfl ag;co_applyP om rfl rfl rfl (bw cY cq);co_applyP oy rfl (aA (ht:=dZ));rw[<-epc];co_applyP oc rfl rfl rfl (g3 o R B7 _ _ L' c y hN hT.r hy (by omega) (hg7.lv _ hy) (Nat.le_trans (hg7.r8 (hg7.lv _ hy)) (by decide)) (.inr hco) hg7.p8);rintro _ _ _ ⟨rfl,rfl,B8,hT8⟩;co_applyP ai;co_applyP aq;co_applyP om rfl rfl rfl aS;co_applyP oan rfl;change∃k',k'<_/\_;rename_i L8;have hpt:(T4.parents w1).tell1 c y=T4.parents (w1++[c]):=by rw[dE,<-nQ hg7.pn hy hy2];rfl
   rw[hpt] at hT8;have hM8:MI (fun _=>False) (fun b=>b) (T4.parents (w1++[c])):=by rw[dE];exact MI.parent1 hM7 c
   rw[e1];refine⟨k-1,by omega,rfl,w1++[c],w2,B8,by simp[hl],by simp;omega,hT.trans hT8, ?_,fun d hd=> ?_,fun d hd=> ?_,hM8,rfl⟩
   ·unfold slOk at ha7⊢
    split
    ·rename_i h;rw[h] at ha7;exact ha7
    ·rename_i d h;rw[h] at ha7;exact(hT8.f.free ha7 (hfr7 d h)).1
   ·exact(hT8.f.free (ha7.mem hd) (hfr7 d hd)).2
   ·obtain⟨z,hz,hz2⟩:=hw7 d (List.mem_cons_of_mem _ hd);refine⟨z, ?_,hz2⟩;rw[dE];refine nR hg7.pn hz hz2 fun e=> ?_;rw[hl] at hWn;have:=(List.nodup_append.1 hWn).2.1;rw[List.nodup_cons] at this;exact this.1 (e▸hd)
 intro hc;have hl2:w2=[]:=by
  cases w2 with
  |nil=>rfl
  |cons c l2=>simp at hc hlen;omega
 subst hl2;simp only[List.append_nil] at hl;subst hl;rw[<-hfin] at hT;have hb0:At L' (B.p b) 0 (.int .i64 (b:Nat)):=hT.num hR hb;co_applyP bf;co_applyP aa;co_applyP om rfl rfl rfl av;co_applyP oy rfl (ak (hf:=aG));co_applyP oy rfl (ak (hf:=bH));co_applyP oy rfl (aA (ht:=aR));co_applyP oy rfl aI;co_applyP ai;co_applyP aT rfl;intro h1;co_applyP aq;co_applyP om rfl rfl rfl av;co_applyP oy rfl (ak (hf:=pj))
 ·have h1':b=1:=by simp at h1;omega
  co_applyP osm rfl (hs:=DF) (hm:=hT.r.k) (hi:=by show 14<16;decide);intro L9 hU9;co_applyP ai;change∃v,resE .. =some v/\_;exact⟨_,rfl,rfl,rfl,B7,hT.trans (To.of (hT.r.setK hU9 (T.fin b x st) (finX X b st) (by simp[rkc,h1'])))⟩
 intro h1;co_applyP aB;change∃v,resE .. =some v/\_;have h1': ¬b=1:=by simp at h1;omega
 exact⟨_,rfl,rfl,rfl,B7,by unfold finX;simp only[h1',decide_false,Bool.or_false];exact hT⟩
def St.waitS (T:St)(b:Nat)(x:PS):St:=if T.hasChild x then(T.waitR b x).2 else T.setP b (x.r0 65533)
theorem Bb: ∃n,∀{σ}{F:Fam σ}{Δ:DM F}{main s}(o R:Nat)(B:RB)(T:St)(X:RX)(L:Frag)(b:Nat)(x:PS),(∀s o,(Δ s).New o)->RepR o R B T X L->MI (fun _=>False) (fun b=>b) T->(b,x)∈T.ps->x.st=1->
 CallsL Δ Tryz.prog main 157 [ptr R,ptr (B.p b)].toArray n s L (fun s' v L'=>s=s'/\v= .tuple #[]/\ ∃B',To o R B T L B' (T.waitS b x) X L'):=by
 obtain⟨n1,g1⟩:=wX;obtain⟨n2,g2⟩:=kw;apply Exists.intro;intro σ F Δ main s o R B T X L b x hN hR hM hb hs1;have hg:=hM.i.g;have h8:=hg.p8;obtain⟨base,cap,hv,hat⟩:=fG hR.pl (n:=T.ps.length) (by simp);have h5:At L R 5 (.slice base T.ps.length cap):=by rw[<-hv];exact hR.kat rfl
 have hx0:At L (B.p b) 0 (.int .i64 (x.id:Nat)):=hR.pat hb (i:=0) rfl;co_applyP aF 55 Tryz.func157 Tryz.ntmps157;co_applyP aa;co_applyP oan rfl;co_applyP au;co_applyP aa;co_applyP oan rfl;co_applyP aC;co_applyP bg (fun k s' ε' L'=>s=s'/\L=L'/\ ∃l1 l2,T.ps=l1++l2/\k+l1.length=8/\kn ε' [(5, .int .i64 l1.length),(4, .bool (l1.any fun q=>decide (q.2.par=x.id))),(1,ptr (B.p b)),(0,ptr R)]) 8
 ·exact⟨rfl,rfl,[],T.ps,rfl,rfl,rfl⟩
 rintro k s' ε' L' ⟨rfl,rfl,l1,l2,hl,hk,he⟩;co_applyP aN he;have hlen:=congrArg List.length hl;simp only[List.length_append] at hlen;co_applyP au;co_applyP aa;co_applyP om rfl rfl rfl ag;co_applyP oy rfl av;co_applyP oy rfl (ak (hf:=bu));co_applyP oy rfl (aA (ht:=ci));co_applyP oy rfl (bt (hu:=cY));co_applyP oy rfl bi;co_applyP ai;co_applyP aT rfl;intro hc
 ·cases l2 with
  |nil=>simp at hc hlen;omega
  |cons q l2=>
   obtain⟨g,hgb,hbs,hbv⟩:=hat l1.length (ptr (B.p q.1)) (by rw[hl];simp);subst hbs;have hq:q∈T.ps:=by rw[hl];simp
   have hq1:At L (B.p q.1) 1 (.int .i64 (q.2.par:Nat)):=hR.pat (b:=q.1) (x:=q.2) hq (i:=1) rfl;simp at hlen;have e1:IntKind.i64.wrap ((l1.length:Int)+1)=((l1++[q]).length:Int):=by simp[IntKind.wrap_i64];omega
   co_applyP aB;co_applyP cK ((fun s'' ε'' L''=>s=s''/\L=L''/\kn ε'' [(4, .bool ((l1++[q]).any fun q=>decide (q.2.par=x.id))),(5, .int .i64 l1.length),(1,ptr (B.p b)),(0,ptr R)]));co_applyP aC;co_applyP bA a5;co_applyP tr 0 rfl ag pI;co_applyP tr 1 rfl ag pI
   ·by_cases ha:(l1.any fun q=>decide (q.2.par=x.id))=true
    ·rw[ha];co_applyP tu 2 rfl pI;co_applyP tu 3 rfl pI;co_applyP tu 4 rfl pI;co_applyP tu 5 rfl pI;co_applyP tu 6 rfl pI;co_applyP tu 7 rfl pI;co_applyP tu 8 rfl pI;co_applyP tu 9 rfl pI;co_applyP tu 10 rfl pI;co_applyP tu 11 rfl pI;co_applyP tu 12 rfl pI;co_applyP tu 13 rfl pI;co_applyP tu 14 rfl pI;co_applyP tu 15 rfl pI;co_applyP tu 16 rfl pI;co_applyP tu 17 rfl pI;co_applyP tu 18 rfl pI;co_applyP tr 19 rfl aH pI;co_applyP tr 20 rfl bR pI;co_applyP td (by kernel_rfl);change _=_/\_=_/\kn _ _;refine⟨rfl,rfl, ?_⟩;have e4:true=(l1++[q]).any fun q=>decide (q.2.par=x.id):=by rw[List.any_append,ha];rfl
     rw[<-e4];rfl
    ·rw[Bool.not_eq_true] at ha;rw[ha];co_applyP tr 2 rfl (ag) pI;co_applyP tr 3 rfl (av) pI;co_applyP tr 4 rfl ((ak (hf:=bu))) pI;co_applyP tr 5 rfl ((aA (ht:=ci))) pI;co_applyP tr 6 rfl (ag) pI;co_applyP tr 7 rfl ((bw cY cq)) pI;co_applyP tr 8 rfl ((aA (ht:=dZ))) pI;co_applyP tr 9 rfl (av) pI;co_applyP tr 10 rfl ((ak (hf:=aG))) pI;co_applyP tr 11 rfl ((ak (hf:=fy))) pI;co_applyP tr 12 rfl ((aA (ht:=aR))) pI;co_applyP tr 13 rfl (ag) pI;co_applyP tr 14 rfl (av) pI;co_applyP tr 15 rfl ((ak (hf:=aG))) pI;co_applyP tr 16 rfl ((ak (hf:=bH))) pI;co_applyP tr 17 rfl ((aA (ht:=aR))) pI;co_applyP tr 18 rfl (aI) pI;co_applyP tr 19 rfl aH pI;co_applyP tr 20 rfl bR pI;co_applyP td (by kernel_rfl);change _=_/\_=_/\kn _ _;refine⟨rfl,rfl, ?_⟩;have e4:((q.2.par:Int)==(x.id:Int))=(l1++[q]).any fun q=>decide (q.2.par=x.id):=by
      rw[List.any_append,ha];by_cases h:q.2.par=x.id
      ·simp[h]
      ·have: ¬(q.2.par:Int)=x.id:=by omega
       simp[h,this]
     rw[<-e4];rfl
   rintro _ ε2 _ ⟨rfl,rfl,he2⟩;co_applyP aN he2;co_applyP aq;co_applyP om rfl rfl rfl aS;co_applyP oan rfl;change∃k',k'<_/\_;rw[e1];exact⟨k-1,by omega,rfl,rfl,l1++[q],l2,by simp[hl],by simp;omega,rfl⟩
 intro hc;co_applyP bf;co_applyP au;co_applyP aa;co_applyP om rfl rfl rfl cP;co_applyP ai;change wpE ..;have hl2:l2=[]:=by
  cases l2 with
  |nil=>rfl
  |cons c l2=>simp at hc hlen;omega
 subst hl2;simp only[List.append_nil] at hl;subst hl;have hcd:(T.ps.any fun q=>decide (q.2.par=x.id))=T.hasChild x:=rfl;rw[hcd];co_applyP aT rfl;intro hn;co_applyP aa;co_applyP om rfl rfl rfl av;co_applyP oy rfl (ak (hf:=aG));co_applyP oy rfl (ak (hf:=aW));co_applyP oy rfl (aX U47 aV)
 ·have hn':T.hasChild x=false:=by simpa using hn
  co_applyP osm rfl (hs:=aV) (hm:=hR.p _ hb) (hi:=by rw[bC];decide);intro L1 hU;have hT1:=To.of (hR.setP hb hU (x.r0 65533) (B.e b) o (ee x _ (i:=0) (by decide) _) (hun:=hR.un _ hb) (hdu:=hR.du _ hb) (ho:=fun _ _ _=>Iff.rfl) (hsz:=hR.sz _ hb));co_applyP ai;co_applyP aK;change∃v,resE .. =some v/\_;exact⟨_,rfl,rfl,rfl,_,by unfold St.waitS;rw[if_neg (by rw[hn'];decide)];exact hT1⟩
 intro hn;co_applyP aB;co_applyP aa;co_applyP om rfl rfl rfl ag;have hn':T.hasChild x=true:=by simpa using hn
 have hw:T.waitS b x=match T.childAt x with
  |some i=>T.take b x i
  |none=>T.stop1 b x 2:=by unfold St.waitS St.waitR;rw[if_pos hn',if_pos hn'];rfl
 co_applyP oc rfl rfl rfl (g1 o R B T X L b x hN hR hb (by omega) (hg.lv _ hb) (Nat.le_trans (hg.r8 (hg.lv _ hb)) (by decide)) (.inl hs1) h8);rintro _ _ _ ⟨rfl,rfl,B1,hT1⟩;co_applyP oan rfl;co_applyP aa;co_applyP om rfl rfl rfl cP;co_applyP ai;change wpE ..;rename_i L1;co_applyP aT rfl;intro hn2;co_applyP aa;co_applyP om rfl rfl rfl av;co_applyP oy rfl (ak (hf:=aG));co_applyP oy rfl (ak (hf:=bM))
 ·have hch:T.childAt x=none:=by
   cases h:T.childAt x with
   |none=>rfl
   |some i=>rw[h] at hn2;cases hn2
  have hti:T.tell1 b x=T:=by unfold St.tell1;rw[hch]
  rw[hti] at hT1;have hR1:=hT1.r;have ep:=hT1.q hR hb;rw[<-ep];co_applyP osm rfl (hs:=bS) (hm:=hR1.p _ hb) (hi:=by rw[bC];decide);intro L2 hU2;have hT2:=hT1.trans (To.of (hR1.setP hb hU2 {x with st:=2} (B1.e b) o rfl (hun:=fun h=>nomatch h) (hdu:=hR1.du _ hb) (ho:=fun _ _ _=>Iff.rfl) (hsz:=fun _=>hR.sz _ hb (by rw[show (b,x).2.st=1 from hs1];decide))));co_applyP ai;co_applyP aq;co_applyP om rfl rfl rfl ag;co_applyP oc rfl rfl rfl (g2 o R _ _ X L2 b {x with st:=2} hN hT2.r (ar hb) (fun l hl=>hg.r8 hl) hM.x.r3);rintro _ _ _ ⟨rfl,rfl,B3,hT3⟩;co_applyP ai;change∃v,resE .. =some v/\_;have hgo:(T.setP b {x with st:=2}).gone b=T.stop1 b x 2:=by
   show (T.gone b).setP b _=_;rw[i0 hg hM.x.r3 hb];rfl
  rw[hgo] at hT3;exact⟨_,rfl,rfl,rfl,B3,by rw[hw,hch];exact hT2.trans hT3⟩
 intro hn2;co_applyP aB;change∃v,resE .. =some v/\_;cases hch:T.childAt x with
 |none=>rw[hch] at hn2;cases hn2
 |some i=>
  have hti:T.tell1 b x=T.take b x i:=by
   unfold St.tell1;rw[hch];simp only[if_pos hs1];have:=(List.findIdx?_eq_some_iff_getElem.1 hch).1;rw[List.getElem?_eq_getElem this]
  exact⟨_,rfl,rfl,rfl,B1,by rw[hw,hch];rw[hti] at hT1;exact hT1⟩
theorem rx0 (x:PS)(e:RE):Value.agg ((rpc x e).extract 0 (0+15))= .agg (rHead x e++(List.range 8).map fun i=>Value.int .u16 (x.r i)).toArray:=by kernel_rfl
theorem rx1 (x:PS)(e:RE):Value.agg ((rpc x e).extract 15 (15+64))= .agg ((List.range 64).map fun i=>Value.int .u8 (x.m i)).toArray:=by kernel_rfl
theorem rx2 (x:PS)(e:RE):Value.agg ((rpc x e).extract 79 (79+6))= .agg ((List.range 6).map fun i=>Value.int .i64 (e.pi i:Nat)).toArray:=by kernel_rfl
theorem rx3 (x:PS)(e:RE):Value.agg ((rpc x e).extract 85 (85+6))= .agg ((List.range 6).map fun i=>Value.bool (e.wr i)).toArray:=by kernel_rfl
theorem Bc (x:PS)(e:RE):evR Tryz.prog (Instr.build 154 [(0, .agg (rHead x e++(List.range 8).map fun i=>Value.int .u16 (x.r i)).toArray),(1, .agg ((List.range 64).map fun i=>Value.int .u8 (x.m i)).toArray),(2, .agg ((List.range 6).map fun i=>Value.int .i64 (e.pi i:Nat)).toArray),(3, .agg ((List.range 6).map fun i=>Value.bool (e.wr i)).toArray)].toArray) []=some (.agg (rpc x {e with ad:=0,mn:=0,un:=0}),[]):=by kernel_rfl
section
variable {o R:Nat}{B B1:RB}{S T T1:St}{X X1:RX}{L L0 L1 L2:Frag}{D:Nat->Prop}{b c:Nat}{x y:PS}
theorem RepR.nown (h:RepR o R B T X L)(hn: ∀t∈L,t.1≠c): ¬OwnR R B T c:=by
 rintro(e|⟨q,hq,e⟩|e|⟨l,hl,e⟩|e)
 ·exact hn _ h.k e.symm
 ·exact hn _ (h.p q hq) e.symm
 ·exact hn _ (h.pl.mem e) rfl
 ·exact hn _ ((h.rw l hl).mem e) rfl
 ·exact hn _ (h.ev.mem e) rfl
theorem To.fresh {o':Nat}(h:To o R B T L B1 T1 X1 L1)(hR:RepR o' R B T X L)(c:Ch D L1 L2)(hD: ∀b,D b-> ¬OwnR R B1 T1 b/\ ∀t∈L,t.1≠b):To o R B T L B1 T1 X1 L2:=
 ⟨h.r.other c fun b hb=>(hD b hb).1,⟨fun t ht hn=>c.s _ (h.f.s t ht hn) fun hd=>(hD _ hd).2 t ht rfl,h.f.n⟩,h.p,h.l,fun q hq=>(h.i q hq).imp id fun⟨cs,h1,h2⟩=>⟨cs,c.s _ h1 fun hd=>(hD _ hd).2 _ (hR.p q hq) rfl,h2⟩,h.le⟩
def St.forkT (T:St)(b:Nat)(x:PS):St:=if 8<=T.ps.length then T.setP b (x.r0 65534) else T.forkS b x (T.last+1)
def kid (T:St)(x:PS)(d:Nat):PS:=⟨T.last+1,x.id,x.st,x.stat,x.at_,0,x.used+d,put x.r 0 0,x.m,x.f,0⟩
theorem yR (d:Nat)(hle: ∀q∈T.ps,q.1<=T.last) (hb:b<=T.last) (hz:x.stat=0) (v:Int):({(({T with last:=T.last+1}:St).setP b (x.r0 v)).setPs ((({T with last:=T.last+1}:St).setP b (x.r0 v)).ps++[(T.last+1,kid T x d)]) with last:=T.last+1}:St).wake1 (T.last+1) (kid T x d)=(T.adopt (T.last+1) (x.copy.r0 0)).setP b (x.r0 v):=by
 have hcb: ¬T.last+1=b:=by omega
 unfold St.adopt St.taken St.wake1 St.setRow St.setPs St.setP;simp only[List.map_append,List.map_map,List.map_cons,List.map_nil];congr 1
 ·congr 1
  ·apply List.map_congr_left;intro q hq;have h1: ¬q.1=T.last+1:=by have:=hle q hq;omega
   simp only[Function.comp];have hbc: ¬b=T.last+1:=fun e=>hcb e.symm;by_cases e:q.1=b
   ·simp[e,hbc]
   ·simp[e,h1]
  ·simp only[Function.comp,if_true,if_neg hcb];unfold kid PS.copy PS.r0;simp[hz]
end
theorem Bd: ∃n,∀{σ}{F:Fam σ}{Δ:DM F}{main s}(R:Nat)(B:RB)(T:St)(X:RX)(L:Frag)(b:Nat)(x:PS),(∀s o,(Δ s).New o)->RepR b R B T X L->MI (fun _=>False) (fun b=>b) T->(b,x)∈T.ps->x.st=1->T.last<4611686018427387904->
 CallsL Δ Tryz.prog main 156 [ptr R,ptr (B.p b)].toArray n s L (fun s' v L'=>s=s'/\v= .tuple #[]/\ ∃B',To b R B T L B' (T.forkT b x) X L'):=by
 obtain⟨n1,g1⟩:=nO;apply Exists.intro;intro σ F Δ main s R B T X L b x hN hR hM hb hs1 hls;have hg:=hM.i.g;have h8:=hg.p8;have hz:x.stat=0:=hR.sz _ hb (by rw[show (b,x).2.st=1 from hs1];decide);obtain⟨base,cap,hv,hat⟩:=fG hR.pl (n:=T.ps.length) (by simp);have h5:At L R 5 (.slice base T.ps.length cap):=by rw[<-hv];exact hR.kat rfl
 have h10:At L R 10 (.int .i64 (T.last:Nat)):=hR.kat rfl;co_applyP aF 90 Tryz.func156 Tryz.ntmps156;co_applyP au;co_applyP aa;co_applyP om rfl rfl rfl av;co_applyP oy rfl (ak (hf:=bu));co_applyP oy rfl (aA (ht:=ci));co_applyP oy rfl (bt (hu:=cY));co_applyP oy rfl dt;co_applyP ai;co_applyP aT rfl;intro hf;co_applyP aa;co_applyP om rfl rfl rfl av;co_applyP oy rfl (ak (hf:=aG));co_applyP oy rfl (ak (hf:=aW));co_applyP oy rfl (aX U47 aV)
 ·have hf':8<=T.ps.length:=by simp at hf;omega
  co_applyP osm rfl (hs:=aV) (hm:=hR.p _ hb) (hi:=by rw[bC];decide);intro L1 hU;have hT1:=To.of (hR.setP hb hU (x.r0 65534) (B.e b) b (ee x _ (i:=0) (by decide) _) (hun:=hR.un _ hb) (hdu:=hR.du _ hb) (ho:=fun _ _ _=>Iff.rfl) (hsz:=hR.sz _ hb));co_applyP ai;co_applyP aK;change∃v,resE .. =some v/\_;exact⟨_,rfl,rfl,rfl,_,by unfold St.forkT;rw[if_pos hf'];exact hT1⟩
 intro hf;co_applyP aB;co_applyP aa;co_applyP om rfl rfl rfl av;co_applyP oy rfl (ak (hf:=iH));co_applyP oy rfl (aA (ht:=aR));co_applyP oy rfl aS;co_applyP oy rfl av;co_applyP oy rfl (ak (hf:=iH));have hf': ¬8<=T.ps.length:=by simp at hf;omega
 have w1:IntKind.i64.wrap ((T.last:Int)+1)=((T.last+1:Nat):Int):=by simp[IntKind.wrap_i64];omega
 rw[w1];co_applyP osm rfl (hs:=bS) (hm:=hR.k) (hi:=by show 10<16;decide);intro L1 hU;have hT1:To b R B T L B {T with last:=T.last+1} X L1:=by
  have h:=hR.setK hU {T with last:=T.last+1} X rfl (hls:=Nat.le_succ _);exact⟨h.1,h.2,fun _ _=>rfl,Nat.le_succ _,fun q hq=> .inl (List.mem_map.2 ⟨q,hq,rfl⟩),hR.le⟩
 have hb1:(b,x)∈({T with last:=T.last+1}:St).ps:=hb;have hR1:=hT1.r;co_applyP ai;co_applyP au;co_applyP br [] 17 (nf:=0) a5;co_applyP tr 0 rfl ag pN;co_applyP tr 1 rfl av pN;co_applyP tr 2 rfl (ak (hf:=aG)) pN;co_applyP tr 4 rfl ag pN;co_applyP tr 5 rfl av pN;co_applyP tr 6 rfl (ak (hf:=iI)) pN;co_applyP tr 8 rfl ag pN;co_applyP tr 9 rfl av pN;co_applyP tr 10 rfl (ak (hf:=pk)) pN;co_applyP tr 12 rfl ag pN;co_applyP tr 13 rfl av pN;co_applyP tr 14 rfl (ak (hf:=vo)) pN;co_applyP t0 3 rfl (bF (i:=0) (ht:=o9) (hs:=fc) (hm:=hR1.p _ hb1) (hi:=by rw[bC];decide)) pN;co_applyP t0 7 rfl (bF (i:=15) (ht:=zC) (hs:=zB) (hm:=hR1.p _ hb1) (hi:=by rw[bC];decide)) pN;co_applyP t0 11 rfl (bF (i:=79) (ht:=An) (hs:=Am) (hm:=hR1.p _ hb1) (hi:=by rw[bC];decide)) pN;co_applyP t0 15 rfl (bF (i:=85) (ht:=Ap) (hs:=Ao) (hm:=hR1.p _ hb1) (hi:=by rw[bC];decide)) pN;rw[rx0,rx1,rx2,rx3];co_applyP tr 16 rfl (bj (Bc x (B.e b))) pN;co_applyP m4 (i:=17) rfl (b8 (hN _ _));intro nb L2 hA;refine⟨aD (by simp), ?_⟩;co_applyP to 18 rfl (bR) (aD (by simp));replace hA:Add L1 nb (.cells (rpc x {B.e b with ad:=0,mn:=0,un:=0}) 154) L2:=hA;have hnL: ∀t∈L,t.1≠nb:=fun t ht e=>by
  by_cases hown:OwnR R B T t.1
  ·rcases hown with e2|⟨q,hq,e2⟩|e2|⟨l,hl,e2⟩|e2
   ·exact hA.new _ hR1.k (e2.symm.trans e)
   ·exact hA.new _ (hR1.p q hq) (e2.symm.trans e)
   ·exact hA.new _ (hR1.pl.mem e2) e
   ·exact hA.new _ ((hR1.rw l hl).mem e2) e
   ·exact hA.new _ (hR1.ev.mem e2) e
  ·exact hA.new _ (hT1.f.s t ht hown) e
 have hno:=hR1.nown hA.new;have hT2:=hT1.ext (L2:=L2) ⟨hA.fn,hA.sub⟩;have hD: ∀d,d=nb-> ¬OwnR R B {T with last:=T.last+1} d/\ ∀t∈L,t.1≠d:=fun d hd=>hd▸⟨hno,hnL⟩;have h102:At L2 R 10 (.int .i64 ((T.last+1:Nat):Nat)):=hT2.r.kat rfl;co_applyP td (by kernel_rfl);co_applyP aa;co_applyP om rfl rfl rfl ag;co_applyP oy rfl av;co_applyP oy rfl (ak (hf:=iH));co_applyP oy rfl (aA (ht:=aR));co_applyP oy rfl av;co_applyP oy rfl (ak (hf:=aG));co_applyP oy rfl (ak (hf:=bH));co_applyP osm rfl (hs:=bS) (hm:=hA.self) (hi:=by rw[bC];decide);intro L3 hU3;have hT3:=hT2.fresh hR hU3.ch hD;have hx03:At L3 (B.p b) 0 (.int .i64 (b:Nat)):=hT3.num hR hb;co_applyP ai;co_applyP aa;co_applyP om rfl rfl rfl ag;co_applyP oy rfl av;co_applyP oy rfl (ak (hf:=aG));co_applyP oy rfl (ak (hf:=bH));co_applyP oy rfl (aA (ht:=aR));co_applyP oy rfl av;co_applyP oy rfl (ak (hf:=aG));co_applyP oy rfl (ak (hf:=fy));co_applyP osm rfl (hs:=bS) (hm:=hU3.self) (hi:=by rw[Array.size_setIfInBounds,bC];decide);intro L4 hU4;have hT4:=hT3.fresh hR hU4.ch hD;co_applyP ai;co_applyP aa;co_applyP om rfl rfl rfl av;co_applyP oy rfl (ak (hf:=aG));co_applyP oy rfl (ak (hf:=cn));co_applyP osm rfl (hs:=bS) (hm:=hU4.self) (hi:=by rw[Array.size_setIfInBounds,Array.size_setIfInBounds,bC];decide);intro L5 hU5;have hT5:=hT4.fresh hR hU5.ch hD;co_applyP ai;co_applyP aa;co_applyP om rfl rfl rfl av;co_applyP oy rfl (ak (hf:=aG));co_applyP oy rfl (ak (hf:=aW));co_applyP oy rfl (aX U47 aV);co_applyP osm rfl (hs:=aV) (hm:=hU5.self) (hi:=by rw[Array.size_setIfInBounds,Array.size_setIfInBounds,Array.size_setIfInBounds,bC];decide);intro L6 hU6;have hT6:=hT5.fresh hR hU6.ch hD;have hid:=hR.idb hb;have hc6:(nb,true,Obj.cells (rpc (kid T x (B.e b).du) {B.e b with ad:=0,mn:=0,un:=0,du:=0}) 154)∈L6:=by
  have h:=hU6.self;have e1:(((rpc x {B.e b with ad:=0,mn:=0,un:=0}).setIfInBounds 0 (.int .i64 ((T.last+1:Nat):Nat))).setIfInBounds 1 (.int .i64 (b:Nat))).setIfInBounds 5 (.int .i64 0)=rpc {x with id:=T.last+1,par:=b,lv:=0} {B.e b with ad:=0,mn:=0,un:=0}:=rfl;have e2:=ee {x with id:=T.last+1,par:=b,lv:=0} {B.e b with ad:=0,mn:=0,un:=0} (i:=0) (by decide) 0;have e3:rpc (kid T x (B.e b).du) {B.e b with ad:=0,mn:=0,un:=0,du:=0}=rpc {x with id:=T.last+1,par:=b,lv:=0,r:=put x.r 0 0} {B.e b with ad:=0,mn:=0,un:=0}:=by
   unfold kid;rw[hid];rfl
  rw[e3,<-e2,<-e1];exact h
 clear hU3 hU4 hU5 hU6 hT2 hT3 hT4 hT5;have hR6:=hT6.r;have h106:At L6 R 10 (.int .i64 ((T.last+1:Nat):Nat)):=hR6.kat rfl;co_applyP ai;co_applyP au;co_applyP br [] 10 (nf:=0) a5;co_applyP tr 0 rfl ag pN;co_applyP tr 1 rfl ag pN;co_applyP tr 2 rfl av pN;co_applyP tr 3 rfl (ak (hf:=iH)) pN;co_applyP t0 4 rfl (aA (ht:=aR)) pN;co_applyP tr 5 rfl (cF (hs:=U3) (ht:=U32)) pN;co_applyP tr 6 rfl av pN;co_applyP tr 7 rfl (ak (hf:=aG)) pN;co_applyP tr 8 rfl (ak (hf:=aW)) pN;co_applyP tr 9 rfl (aX U47 aV) pN;co_applyP bd;intro hnd;co_applyP te (i:=10) rfl (dv (hnd:=hnd) (hm:=hR6.p _ hb1) (hi:=by rw[bC];decide) (hs:=aV));rintro _ _ ⟨rfl,hU7⟩;refine⟨aD (by simp), ?_⟩;rename_i L7;rw[bZ] at hU7;have hT7:=hT6.trans (To.of (hR6.setP hb1 hU7 (x.r0 (((T.last+1:Nat):Int)%65536)) (B.e b) b (ee x _ (i:=0) (by decide) _) (hun:=hR.un _ hb) (hdu:=hR.du _ hb) (ho:=fun _ _ _=>Iff.rfl) (hsz:=hR.sz _ hb)));have hc7:=hU7.ne _ hc6 fun e=>hno (.inr (.inl ⟨_,hb1,e⟩));have hR7:=hT7.r;generalize hv7:((T.last+1:Nat):Int)%65536=v7 at hT7 hR7;generalize hB7:({B with e:=put B.e b (B.e b)}:RB)=B7 at hT7 hR7;have ep7:B7.p=B.p:=by rw[<-hB7]
 have hno7: ¬OwnR R B7 (({T with last:=T.last+1}:St).setP b (x.r0 v7)) nb:=fun h=>by
  rcases h with e2|⟨q,hq,e2⟩|e2|e2|e2
  ·exact hno (.inl e2)
  ·rw[ep7] at e2;rcases aO hq with rfl|⟨h1,_⟩
   ·exact hno (.inr (.inl ⟨_,hb1,e2⟩))
   ·exact hno (.inr (.inl ⟨_,h1,e2⟩))
  ·rw[<-hB7] at e2;exact hno (.inr (.inr (.inl e2)))
  ·rw[<-hB7] at e2;exact hno (.inr (.inr (.inr (.inl e2))))
  ·rw[<-hB7] at e2;exact hno (.inr (.inr (.inr (.inr e2))))
 have hl7:(({T with last:=T.last+1}:St).setP b (x.r0 v7)).ps.length=T.ps.length:=by simp[St.setP]
 have h57:At L7 R 5 (rowv B7.ap 1 T.ps.length):=by rw[<-hl7];exact hR7.kat rfl
 co_applyP td (by kernel_rfl);co_applyP aa;co_applyP om rfl rfl rfl ag;co_applyP oy rfl av;co_applyP oy rfl (ak (hf:=bu));co_applyP oy rfl (aA (ht:=ci));co_applyP oy rfl ag;co_applyP b5 rfl (fY (v:=ptr nb) (sz:=1) (hN:=hN _ _) (hv:=rfl) (hu:=cY) (hs:=cq) (hz:=gd) (h0:=by decide) (h24:=by decide));intro nl L8 hA8;have hR8:=hR7.ext (L':=L8) ⟨hA8.fn,hA8.sub⟩;co_applyP oeN rfl (fun hnd=>gS (e:=155) (n:=T.ps.length) (v:=ptr nb) (hnd:=hnd) (hu:=cY) (hs:=cq) (hb:=i8) (hz:=gd) (hzs:=rfl) (hN:=fun cs=>hN _ _) (ha:=hR8.pl) (hn:=by rw[List.length_map,hl7]) (hm:=hA8.self) (hpl:=rfl) (h8:=by omega));rintro _ L9 ⟨a9,rfl,hp9⟩;have hk9:=hp9.ch.keep (NoT.sl hR8.fn hR8.pl (by decide)) hR8.k;co_applyP oy rfl av;co_applyP oy rfl (ak (hf:=bu));co_applyP osm rfl (hs:=qS) (hm:=hk9) (hi:=by show 5<16;decide) (hp:=bW _ _ _);intro L10 hU10;have hcl: ∀q∈T.ps,q.1≠T.last+1:=fun q hq e=>by have:=hR.le q hq;omega
 have hcl7: ∀q∈(({T with last:=T.last+1}:St).setP b (x.r0 v7)).ps,q.1≠T.last+1:=fun q hq=>by
  rcases aO hq with rfl|⟨h1,_⟩
  ·exact hcl (b,x) hb
  ·exact hcl q h1
 have hpl: ∀q∈(({T with last:=T.last+1}:St).setP b (x.r0 v7)).ps,put B7.p (T.last+1) nb q.1=B7.p q.1/\put B7.e (T.last+1) {B.e b with ad:=0,mn:=0,un:=0,du:=0} q.1=B7.e q.1:=fun q hq=>by
  unfold put;rw[if_neg (hcl7 q hq),if_neg (hcl7 q hq)];exact⟨rfl,rfl⟩
 have hpc:put B7.p (T.last+1) nb (T.last+1)=nb/\put B7.e (T.last+1) {B.e b with ad:=0,mn:=0,un:=0,du:=0} (T.last+1)={B.e b with ad:=0,mn:=0,un:=0,du:=0}:=by
  unfold put;simp
 have hlast: ∀{P:Nat×PS->Prop},(∀q∈(({T with last:=T.last+1}:St).setP b (x.r0 v7)).ps,P q)->P (T.last+1,kid T x (B.e b).du)-> ∀q∈(({T with last:=T.last+1}:St).setP b (x.r0 v7)).ps++[(T.last+1,kid T x (B.e b).du)],P q:=fun h1 h2 q hq=>by
  rcases List.mem_append.1 hq with h|h
  ·exact h1 q h
  ·simp at h;rw[h];exact h2
 have hmp:((({T with last:=T.last+1}:St).setP b (x.r0 v7)).ps++[(T.last+1,kid T x (B.e b).du)]).map (fun q=>ptr (put B7.p (T.last+1) nb q.1))=((({T with last:=T.last+1}:St).setP b (x.r0 v7)).ps.map fun q=>ptr (B7.p q.1))++[ptr nb]:=by
  rw[List.map_append];congr 1
  ·exact List.map_congr_left fun q hq=>by rw[(hpl q hq).1]
  ·simp[hpc.1]
 rw[<-hmp] at hp9
 have hT10a:=hR8.setL (p':=put B7.p (T.last+1) nb) (e':=put B7.e (T.last+1) {B.e b with ad:=0,mn:=0,un:=0,du:=0}) (T':={(({T with last:=T.last+1}:St).setP b (x.r0 v7)).setPs ((({T with last:=T.last+1}:St).setP b (x.r0 v7)).ps++[(T.last+1,kid T x (B.e b).du)]) with last:=T.last+1}) hp9 hU10 (by unfold rkc St.setPs;simp[hl7];rfl)
  (hb:=hlast (fun q hq=>by rw[(hpl q hq).1,(hpl q hq).2];exact hR8.p q hq) (by rw[hpc.1,hpc.2];exact hA8.sub _ hc7))
  (hid:=hlast (fun q hq=>hR8.id q hq) rfl) (hle:=hlast (fun q hq=>hR8.le q hq) (Nat.le_refl _))
  (hpn:=by
   show ((_++[(T.last+1,kid T x (B.e b).du)]).map (·.1)).Nodup;rw[List.map_append,List.nodup_append];refine⟨hR8.pn,by simp,fun a ha d hd e=> ?_⟩;obtain⟨q,hq,rfl⟩:=List.mem_map.1 ha;simp at hd;exact hcl7 q hq (e.trans hd))
  (hpi:=hlast (fun q hq i hi=>by rw[(hpl q hq).2];exact hR8.np q hq i hi) (fun i hi=>by rw[hpc.2];exact hR.np _ hb i hi))
  (hun:=hlast (fun q hq h=>by rw[(hpl q hq).2];exact hR8.un q hq h) (fun h=>by rw[show (T.last+1,kid T x (B.e b).du).2.st=1 from hs1] at h;cases h))
  (hdu:=hlast (fun q hq=>by rw[(hpl q hq).2];exact hR8.du q hq) (by rw[hpc.2,if_neg (fun e=>hcl _ hb e.symm)]))
  (hsz:=hlast (fun q hq=>hR8.sz q hq) (fun _=>hz)) (hab:=hlast (fun q hq=>hR8.ab q hq) (hR.ab (b,x) hb)) (hnf:=hlast (fun q hq=>hR8.nf q hq) (hR.nf (b,x) hb)) (L0:=L7.filter fun t=> !decide (t.1=nb)) (he:=fun t ht=>hA8.sub _ (List.mem_filter.1 ht).1) (hnew:=hlast (fun q hq=> .inl ⟨q,hq,(hpl q hq).1⟩) (.inr fun t ht e=>by
   rw[hpc.1] at e;have:=(List.mem_filter.1 ht).2;simp[e] at this))
 have hF:Foot (OwnR R B T) (OwnR R B7 (({T with last:=T.last+1}:St).setP b (x.r0 v7))) L (L7.filter fun t=> !decide (t.1=nb)):=⟨fun t ht hn=>List.mem_filter.2 ⟨hT7.f.s t ht hn,by simp[hnL t ht]⟩,hT7.f.n⟩;have hT10:To b R B T L _ _ X L10:=⟨hT10a.1,hF.trans hT10a.2,fun d hd=>by
  show put B7.p (T.last+1) nb d=B.p d;unfold put;rw[if_neg (by omega),ep7],Nat.le_succ _,fun q hq=>by
  have hq7:q.1∈(({T with last:=T.last+1}:St).setP b (x.r0 v7)).ps.map (·.1):=by rw[dJ];exact List.mem_map.2 ⟨q,hq,rfl⟩
  obtain⟨r,hr,e⟩:=List.mem_map.1 hq7;exact .inl (List.mem_map.2 ⟨r,List.mem_append_left _ hr,e⟩),hR.le⟩
 co_applyP ai;co_applyP aq;co_applyP om rfl rfl rfl ag;rw[<-hpc.1];co_applyP oc rfl rfl rfl (g1 b R _ _ X L10 (T.last+1) (kid T x (B.e b).du) hN hT10.r (List.mem_append_right _ List.mem_cons_self) (by show 0<3;decide) (Nat.le_trans (hg.r8 (l:=0) (by decide)) (by decide)) (fun e=>hcl _ hb e.symm) (by rw[show (kid T x (B.e b).du).st=1 from hs1];decide));rintro _ _ _ ⟨rfl,rfl,B11,hT11⟩;co_applyP ai;change∃v,resE .. =some v/\_;refine⟨_,rfl,rfl,rfl,B11, ?_⟩;have hfin:T.forkT b x=(T.adopt (T.last+1) (x.copy.r0 0)).setP b (x.r0 v7):=by
  unfold St.forkT St.forkS;rw[if_neg hf',hv7]
 rw[hfin,<-yR (B.e b).du hR.le (hR.le _ hb) hz];exact hT10.trans hT11
end Go.Proofs.YtejkelcaljmnoaaGreatDoor
