/- Part 10 of the proof. -/
import Derived.Test.YtejkelcaljmnoaaGreatDoorHy09
import Derived.Conc.LeavingOf
import Derived.JoinedOf
import Derived.RowKitTokens
import Derived.Stop.Joined
import Derived.Carry
import Derived.Deep.Slices
set_option maxRecDepth 100000
set_option maxHeartbeats 4000000
set_option linter.all false
namespace Go.Proofs.YtejkelcaljmnoaaGreatDoor
open Go.ChangeShapes Go.WideShapes Go.RowKit Go.Conc Go.ConcX Go.Hx Go.Lo Go.Proofs.Tryz
abbrev tx0:ByteArray:={data:= #[116,104,101,114,101,32,105,115,32,110,111,32,115,117,99,104,32,105,110,115,116,114,117,99,116,105,111,110]}
abbrev tx1:ByteArray:={data:= #[116,104,101,114,101,32,105,115,32,110,111,32,115,117,99,104,32,111,112,101,114,97,116,111,114]}
abbrev tx2:ByteArray:={data:= #[116,104,101,114,101,32,105,115,32,110,111,32,115,117,99,104,32,98,121,116,101,32,111,102,32,109,101,109,111,114,121]}
abbrev tx3:ByteArray:={data:= #[110,111,32,115,117,99,104,32,102,105,108,101,44,32,111,114,32,110,111,116,32,111,102,32,116,104,97,116,32,107,105,110,100]}
abbrev tx4:ByteArray:={data:= #[116,104,101,114,101,32,105,115,32,110,111,32,114,111,111,109,32,102,111,114,32,111,110,101,32,109,111,114,101]}
abbrev tx5:ByteArray:={data:= #[116,104,101,114,101,32,105,115,32,110,111,32,99,104,105,108,100]}
abbrev tx6:ByteArray:={data:= #[116,104,101,114,101,32,105,115,32,110,111,32,115,117,99,104,32,112,114,111,99,101,115,115]}
abbrev tx7:ByteArray:={data:= #[110,111,98,111,100,121,32,99,97,110,32,114,101,97,100,32,116,104,97,116]}
abbrev tx8:ByteArray:={data:= #[109,101,109,111,114,121,32,116,104,97,116,32,116,104,101,114,101,32,105,115,32,110,111,116]}
abbrev tx9:ByteArray:={data:= #[110,111,32,115,117,99,104,32,99,97,108,108,44,32,111,114,32,110,111,116,32,119,105,116,104,32,116,104,97,116]}
noncomputable def low:Nat:=(World.holding prog default ⟨#[], #[],[]⟩).heap.size
def lay (h:Array Obj)(g:Nat)(v:Value):Array Obj:=h.modify g fun
 | .cells _ t frozen=> .cells #[v] t frozen
 |o=>o
noncomputable def Nf (os:Os):World:=
 let w0:=World.holding prog os ⟨#[.cells #[.string tx0] 275, .cells #[.string tx1] 275, .cells #[.string tx2] 275, .cells #[.string tx3] 275, .cells #[.string tx4] 275, .cells #[.string tx5] 275, .cells #[.string tx6] 275, .cells #[.string tx7] 275, .cells #[.string tx8] 275, .cells #[.string tx9] 275], #[],[]⟩
 {w0 with heap:=lay (lay (lay (lay (lay (lay (lay (lay (lay (lay (lay (w0.heap) 0 (.iface 255 (.pointer (some ⟨low+0,0,none⟩)))) 1 (.iface 255 (.pointer (some ⟨low+1,0,none⟩)))) 10 (.iface 255 (.pointer (some ⟨low+2,0,none⟩)))) 3 (.iface 255 (.pointer (some ⟨low+3,0,none⟩)))) 4 (.iface 255 (.pointer (some ⟨low+4,0,none⟩)))) 5 (.iface 255 (.pointer (some ⟨low+5,0,none⟩)))) 6 (.iface 255 (.pointer (some ⟨low+6,0,none⟩)))) 7 (.iface 255 (.pointer (some ⟨low+7,0,none⟩)))) 8 (.iface 255 (.pointer (some ⟨low+8,0,none⟩)))) 9 (.iface 255 (.pointer (some ⟨low+9,0,none⟩)))) 2 (Mg 168)}
theorem m4 (os:Os)(args:Array Value):laidMetH prog Rows.sumsRow.laid ((Nf os).forCall (λ_ _=>0) ⟨#[],args,[]⟩).memory:=
 laidMetH_of_parts (laidMet_of_run (ps:=[.cell 0 0, .cell (low+0) 0, .cell 1 0, .cell (low+1) 0, .cell 10 0, .cell (low+2) 0, .cell 3 0, .cell (low+3) 0, .cell 4 0, .cell (low+4) 0, .cell 5 0, .cell (low+5) 0, .cell 6 0, .cell (low+6) 0, .cell 7 0, .cell (low+7) 0, .cell 8 0, .cell (low+8) 0, .cell 9 0, .cell (low+9) 0]) 8 bD bD bD) bD
theorem zQ {n:Int}(h:(Lit.int .i64 n).wf=true):N8 n:=by
 simp[Lit.wf,IntKind.min,IntKind.max,IntKind.signed,IntKind.bits] at h;unfold N8;omega
end Go.Proofs.YtejkelcaljmnoaaGreatDoor
namespace Go.Proofs.YtejkelcaljmnoaaGreatDoor
open Go.ChangeShapes Go.WideShapes Go.WideElems Go.RowKit Go.Conc Go.ConcX Go.Hx Go.Lo Go.Proofs.Tryz
section
variable {H:Type}{enc:TypeId×Value->H}{P:Program}
theorem nZ (hl:laidOutB P=true){W l:World}(hb:Below W.heap.size W l):
 ∀{g:List TypeId}{vs:List Value}{j:List (DataW H)}{ps:List MemPlace},(∀t∈g,P.readableRec t=true/\t<P.types.size)->DataW.TrodAll enc P W 0 (λ_=>true) true g vs j ps->DataW.TrodAll enc P l 0 (λb=>decide (b<W.heap.size)) true g vs j ps
 |[],[],[],_,_,h=>h
 |[],[],_::_,_,_,h=>h.elim
 |[],_::_,_,_,_,h=>h.elim
 |_::_,[],_,_,_,h=>h.elim
 |_::_,_::_,[],_,_,h=>h.elim
 |t::g,v::vs,d::j,ps,hr,h=>by
  have i:=h.lt;obtain⟨p,q,⟨n,m⟩,o,e⟩:=h;have f:=hr t eT;have k: ∀x∈p,x.block<W.heap.size:=λx a=>i x (by rw[e];simp[a]);exact⟨p,q,⟨n,DataW.trod_stays (kids_book hl f.1) (book_sized f.1) (λh=>by cases h) ⟨f.2,book_self t⟩ m (λx a=>hb.same (k x a)) (λx a=>by simpa using k x a)⟩,nZ hl hb (λt f=>hr t (dc _ f)) o,e⟩
end
end Go.Proofs.YtejkelcaljmnoaaGreatDoor
namespace Go.Proofs.YtejkelcaljmnoaaGreatDoor
open Go.Conc Go.Hx Go.Lo Go.Proofs.Tryz
theorem mG {T:St}(h:T.IX=true): ∀m,St.evs m T=[]
 |0=>rfl
 |m+1=>by unfold St.evs;rw[if_pos h]
theorem ie {T:St}(h:T.IX=true): ∀m,St.runs m T=T
 |0=>rfl
 |m+1=>by unfold St.runs;rw[if_pos h]
theorem rG: ∀(a b:Nat)(T:St),St.runs (a+b) T=St.runs b (St.runs a T)
 |0,b,T=>by rw[ic];rfl
 |a+1,b,T=>by
  by_cases h:T.IX=true
  ·rw[ie h,ie h,ie h]
  ·rw[show a+1+b=(a+b)+1 by omega];have d: ∀n,St.runs (n+1) T=St.runs n T.next:=λn=>by
    show (if T.IX then T else St.runs n T.next)=_;rw[if_neg h]
   rw[d,d];exact rG a b T.next
theorem uz: ∀(a b:Nat)(T:St),St.evs (a+b) T=St.evs a T++St.evs b (St.runs a T)
 |0,b,T=>by rw[ic];rfl
 |a+1,b,T=>by
  by_cases h:T.IX=true
  ·rw[ie h,mG h,mG h,mG h];rfl
  ·rw[show a+1+b=(a+b)+1 by omega];have e:St.runs (a+1) T=St.runs a T.next:=by
    show (if T.IX then T else St.runs a T.next)=_;rw[if_neg h]
   have d: ∀n,St.evs (n+1) T=T.Jh++St.evs n T.next:=λn=>by
    show (if T.IX then [] else T.Jh++St.evs n T.next)=_;rw[if_neg h]
   rw[e,d,d,uz a b T.next,r5]
end Go.Proofs.YtejkelcaljmnoaaGreatDoor
namespace Go.Lo
open Go.Conc Go.Hx
end Go.Lo
namespace Go.Proofs.YtejkelcaljmnoaaGreatDoor
open Go.Conc Go.Hx Go.Lo Go.Proofs.Tryz
abbrev M4 (l:List Int):List Value:=l.map (Value.int .u8)
abbrev MD (ws:List Wd):List Value:=ws.flatMap Wd.c
theorem jD (ws:List Wd):(MD ws).length=ws.length*4:=by
 induction ws with
 |nil=>rfl
 |cons w ws ih=>
  have:MD (w::ws)=Wd.c w++MD ws:=rfl;rw[this,mb,ih];show 4+_=_;simp only[gf];omega
theorem Fs (ws:List Wd): ∀(i:Nat)(w:Wd),ws[i]? =some w-> ∀j,j<4->(MD ws)[4*i+j]? =(Wd.c w)[j]? :=by
 induction ws with
 |nil=>intro i w h;simp at h
 |cons v ws ih=>
  intro i w h j b;have e:MD (v::ws)=Wd.c v++MD ws:=rfl;have a:(Wd.c v).length=4:=rfl;rw[e];cases i with
  |zero=>
   obtain rfl:v=w:=by simpa using h
   rw[Nat.mul_zero,ic,rD (by rw[a];exact b)]
  |succ i=>
   rw[Oy (by rw[a];omega),a,show 4*(i+1)+j-4=4*i+j by omega];exact ih i w (by simpa using h) j b
theorem Cx (a b:List Wd):MD (a++b)=MD a++MD b:=by simp[MD]
theorem uA:zeroAt prog 51=some (LK 0 0 0 0):=bD
theorem zR:KJ prog 51=some 32:=bD
section
variable {K M:Nat}{A B:Kq}{S T:St}{F L L' L2:Ka}
def Own (K:Nat)(A:Kq)(S:St)(b:Nat):Prop:=b=K\/(∃q∈S.ps,b=q.1)\/(∃i,(A.a i).b=some b)\/(∃i,(A.y i).b=some b)\/b=A.wt
theorem Ke.own (h:Ke K A S F L){b:Nat}(hb:Own K A S b): ∃o,(b,true,o)∈L/\((∃m c,o=Obj.map m c)\/ ∃cs e,o=Obj.cells cs e/\(e=115\/e=99\/e=93\/e=5)):=by
 rcases hb with rfl|⟨q,f,rfl⟩|⟨i,d⟩|⟨i,d⟩|rfl
 ·exact⟨_,h.k, .inr ⟨_,_,rfl, .inl rfl⟩⟩
 ·exact⟨_,h.p q f, .inr ⟨_,_,rfl, .inr (.inl rfl)⟩⟩
 ·obtain⟨xs,a⟩:=h.al i b d;exact⟨_,a, .inr ⟨_,_,rfl, .inr (.inr (.inl rfl))⟩⟩
 ·obtain⟨xs,a⟩:=h.yl i b d;exact⟨_,a, .inr ⟨_,_,rfl, .inr (.inr (.inr rfl))⟩⟩
 ·exact⟨_,h.w, .inl ⟨_,_,rfl⟩⟩
theorem Ke.notown (h:Ke K A S F L){b:Nat}{f:Bool}{cs:Array Value}{e:TypeId}(hm:(b,f,Obj.cells cs e)∈L)(he:e≠115/\e≠99/\e≠93/\e≠5): ¬Own K A S b:=λhb=>by
 obtain⟨o,g,j⟩:=h.own hb;have d:=(h.fn _ _ _ _ _ hm g).2;rcases j with ⟨m,c,rfl⟩|⟨i,k,rfl,a⟩
 ·cases d
 ·cases d;rcases a with a|a|a|a
  ·exact he.1 a
  ·exact he.2.1 a
  ·exact he.2.2.1 a
  ·exact he.2.2.2 a
theorem Ft {b:Nat}(h: ¬Own K A S b):b≠K/\(∀q∈S.ps,b≠q.1)/\(∀i,(A.a i).b≠some b)/\(∀i,(A.y i).b≠some b)/\b≠A.wt:=
 ⟨λe=>h (.inl e),λq d e=>h (.inr (.inl ⟨q,d,e⟩)),λi e=>h (.inr (.inr (.inl ⟨i,e⟩))),λi e=>h (.inr (.inr (.inr (.inl ⟨i,e⟩)))),λe=>h (.inr (.inr (.inr (.inr e))))⟩
theorem Ke.J4 (h:Ke K A S F L){t:Nat×Bool×Obj}(ht:t∈F): ¬Own K A S t.1:=by
 obtain⟨b,g,j,d,a⟩:=h.fd t ht;rintro(e|⟨q,f,e⟩|⟨i,e⟩|⟨i,e⟩|e)
 ·exact b e
 ·exact g q f e
 ·exact j i e
 ·exact d i e
 ·exact a e
theorem Ke.move (h:Ke K A S F L)(hf:K5 L')(ho: ∀t∈L,Own K A S t.1->t∈L') (j:(A.g,true,Obj.cells A.gc 158)∈L') (hF: ∀t∈F,t∈L'):Ke K A S F L':=
 {h with
  fn:=hf,k:=ho _ h.k (.inl rfl),g:=j,p:=λq a=>ho _ (h.p q a) (.inr (.inl ⟨q,a,rfl⟩)),w:=ho _ h.w (.inr (.inr (.inr (.inr rfl)))),fr:=hF
  pa:=h.pa.mono λb hb _ x=>ho _ x (.inr (.inr (.inl ⟨_,hb⟩)))
  rw:=λl f=>(h.rw l f).mono λb hb _ x=>ho _ x (.inr (.inr (.inl ⟨_,hb⟩)))
  ya:=λi d=>(h.ya i d).mono λb hb _ x=>ho _ x (.inr (.inr (.inr (.inl ⟨_,hb⟩))))
  wa:=λe he=>(h.wa e he).mono λb hb _ x=>ho _ x (.inr (.inr (.inl ⟨_,hb⟩)))
  al:=λi c hc=>(h.al i c hc).imp λ_ x=>ho _ x (.inr (.inr (.inl ⟨_,hc⟩)))
  yl:=λi c hc=>(h.yl i c hc).imp λ_ x=>ho _ x (.inr (.inr (.inr (.inl ⟨_,hc⟩))))}
end
section
variable {N:Nat}{ε:Env}{L:Ka}{d:Option Tmp}{ty:TypeId}{ps:String}{af:Array Edge}{g:Option (Nat×Bool)}{x y:Operand}{P:Program}{t u:TypeId}
theorem HD {a b:Value}{r:Bool}(i:KF P (eqGuard .eql t x y a b) []=some ((),[]))(hb:KF P (binOp .eql t a b) []=some (.bool r,[]))(hx:ev ε x=some a:=by rfl)(hy:ev ε y=some b:=by rfl):EY P N ε L ⟨d, .binOp .eql t x y u,ty,ps,af,g⟩ (.bool r):=by
 unfold EY;intro ac e
 refine cN (λ_=>rfl) λK f=> ?_;rw[e.ev hx,e.ev hy];show Kz P (eqGuard .eql t x y a b>>=λ_=>binOp .eql t a b) K L;rw[aq];exact aZ i (aZ hb f)
end
end Go.Proofs.YtejkelcaljmnoaaGreatDoor
namespace Go.Lo
open Go.Conc Go.Hx
def Mj (P:Program)(d:Nat)(t:TypeId)(v:Value):Prop:= ∀{K:Bool->Prop}{L:Ka},K true->Kz P (Op.equalIn d t v v) K L
section
variable {P:Program}{N:Nat}{ε:Env}{L:Ka}{d:Option Tmp}{ty:TypeId}{ps:String}{af:Array Edge}{g:Option (Nat×Bool)}{x y:Operand}{t u:TypeId}
theorem jE {d:Nat}{k k':IntKind}{a:Int}(h:P.underlying t=some (.int k')):Mj P (d+1) t (.int k a):=λb=>eB h (by rw[beq_self_eq_true];exact b)
theorem gK {d:Nat}{xs:Array Value}{a:Array Field}(ht:P.underlying t=some (.struct a))(hp:P.stoodInHeld t=false)(h: ∀f∈a.toList,∃v,KF P (part f.type xs f.offset) []=some (v,[])/\Mj P d f.type v):Mj P (d+1) t (.agg xs):=λ{K L} g=>by
 refine eQ ht hp ?_;generalize a.toList=l at h
 induction l with
 |nil=>exact g
 |cons f l ih=>
  have e:=ih λf i=>h f (dc _ i);simp only[Op.eqFields]
  split
  ·obtain⟨v,b,j⟩:=h f eT;simp only[aq];refine aZ b (aZ b (j ?_));simpa using e
  ·exact e
theorem tx {d n z:Nat}{e:TypeId}{xs:Array Value}(ht:P.underlying t=some (.array n e))(hz:Kd P e=some z)(h: ∀i,i<n-> ∃v,KF P (part e xs (i*z)) []=some (v,[])/\Mj P d e v):Mj P (d+1) t (.agg xs):=λ{K L} k=>by
 rw[Op.equalIn.eq_def,aq,aE ht];simp only;rw[aq,cG hz];simp only[Std.Legacy.Range.forIn_eq_forIn_range',Std.Legacy.Range.size,Nat.sub_zero,Nat.add_one_sub_one,Nat.div_one];have b: ∀i∈List.range' 0 n,∃v,KF P (part e xs (i*z)) []=some (v,[])/\Mj P d e v:=λi j=>h i (by simpa using j);generalize List.range' 0 n=l at b
 induction l with
 |nil=>exact k
 |cons i l ih=>
  have a:=ih λf m=>b f (dc _ m);simp only[List.forIn_cons,aq];obtain⟨v,g,o⟩:=b i eT;refine aZ g (aZ g (o ?_));simpa [aq,bM] using a
end
end Go.Lo
namespace Go.Proofs.YtejkelcaljmnoaaGreatDoor
open Go.Conc Go.Hx Go.Lo Go.Proofs.Tryz
attribute [local irreducible] EY KO K6 Kw Kc Ku Kd Program.underlying
def WL (L:Ka)(base:Option Addr)(ws:List Wd):Prop:= ∀i w,ws[i]? =some w-> ∃g cs,base=some ⟨g,0,none⟩/\(g,true,Obj.cells cs 51)∈L/\i*4+4<=cs.size/\cs.extract (i*4) (i*4+4)=(Wd.c w).toArray
theorem Cy {ws:List Wd}{i:Nat}{w:Wd}(h:ws[i]? =some w)(l:List Value):((MD ws++l).toArray.extract (i*4) (i*4+4))=(Wd.c w).toArray:=by
 have b:=(mo.1 h).1;apply gm;apply xt;intro j;by_cases a:j<4
 ·simp only[OC,u7];rw[Pa bl,List.getElem?_drop,rD (by rw[jD];omega),Nat.mul_comm i 4,Fs ws i w h j a]
 ·rw[O6 ao,O6 (by show 4<=j;omega)]
theorem pr {L:Ka}{a:Sl}{ws:List Wd}(ha:Kf a (MD ws) 51 L): ∃base cap,Kj a 4 ws.length= .slice base ws.length cap/\WL L base ws:=by
 cases d:a.b with
 |none=>
  unfold Kf at ha;rw[d] at ha;have h0:=ha.1;have:ws=[]:=by
   have e:=congrArg List.length h0;rw[jD] at e;exact OI.1 (by simp at e;omega)
  subst this;exact⟨none,0,by unfold Kj;rw[d];rfl,λi w hw=>by simp at hw⟩
 |some b=>
  refine⟨some ⟨b,0,none⟩,_,by unfold Kj;rw[d],λi w hw=>⟨b,_,rfl,ha.mem d, ?_,Cy hw _⟩⟩;have f:=(mo.1 hw).1;simp only[l7,mb,jD];omega
theorem rH {told:Value}{ws:List Wd}{L:Ka}(h:Heard told (ws.map Wd.v) L): ∃a,told=Kj a 4 ws.length/\Kf a (MD ws) 51 L:=by
 rcases h with ⟨rfl,h0⟩|⟨g,cap,cur,rfl,i,d,hc,j,b⟩
 ·have:ws=[]:=by simpa using h0
  subst this;exact⟨⟨none,[]⟩,rfl,rfl,rfl⟩
 ·rw[ia] at d b⊢;have e:cur.toList.take (ws.length*4)=MD ws:=by rw[b,List.flatMap_map];rfl
  have f:(MD ws++cur.toList.drop (ws.length*4)).toArray=cur:=by
   rw[<-e,List.take_append_drop]
  refine⟨⟨some g,cur.toList.drop (ws.length*4)⟩, ?_, ?_⟩
  ·unfold Kj;simp only[OO,Array.length_toList];have:ws.length+(cur.size-ws.length*4)/4=cap:=bl
   rw[this]
  ·show (g,true,Obj.cells (MD ws++cur.toList.drop (ws.length*4)).toArray 51)∈L;rw[f];exact i
theorem rI: ∀(l:List (Nat×PS)){i:Nat}{q:Nat×PS},l[i]? =some q-> ∀j,j<15->(LD l)[i*15+j]? =(Ll q.2)[j]?
 |[],i,q,h,_,_=>by simp at h
 |r::l,0,q,h,j,hj=>by
  obtain rfl:r=q:=by simpa using h
  show (Ll r.2++LD l)[0*15+j]? =_;rw[rD (by show 0*15+j<15;omega),Nat.zero_mul,ic]
 |r::l,i+1,q,h,j,hj=>by
  show (Ll r.2++LD l)[(i+1)*15+j]? =_;rw[Oy (by show 15<=(i+1)*15+j;omega),show (i+1)*15+j-(Ll r.2).length=i*15+j from(by show (i+1)*15+j-15=_;omega)];exact rI l (by simpa using h) j hj
theorem wB {l:List (Nat×PS)}{i:Nat}{q:Nat×PS}(h:l[i]? =some q)(m:List Value):((LD l++m).toArray.extract (i*15) (i*15+15))=(Ll q.2).toArray:=by
 have b:=(mo.1 h).1;apply gm;apply xt;intro j;by_cases a:j<15
 ·simp only[OC,u7];rw[Pa bl,List.getElem?_drop,rD (by rw[fI];omega),rI l h j a]
 ·rw[O6 ao,O6 (by show 15<=j;omega)]
theorem zS (w:Wd):Mj prog 10000 51 (.agg (Wd.c w).toArray):=by
 refine gK (d:=9999) underlying51 bD ?_;have k: ∀a:Int,Mj prog 9999 3 (.int .i64 a):=λa=>jE (d:=9998) U3;refine rE.2 ⟨⟨.int .i64 w.1,bD,k _⟩,rE.2 ⟨⟨.int .i64 w.2.1,bD,k _⟩,rE.2 ⟨⟨.int .i64 w.2.2.1,bD,k _⟩,rE.2 ⟨⟨.int .i64 w.2.2.2,bD,k _⟩, ?_⟩⟩⟩⟩;intro f b;cases b
theorem zT (r:Nat->Int):Mj prog 9999 47 (.agg ((List.range 8).map λi=>Value.int .u16 (r i)).toArray):=by
 refine tx (d:=9998) U47 bh λi a=>⟨.int .u16 (r i), ?_,jE (d:=9997) U32⟩;rcases i with _|_|_|_|_|_|_|_|i<;>first|omega|kernel_rfl
theorem Fu (z:PS):Mj prog 10000 49 (.agg (Ll z).toArray):=by
 refine gK (d:=9999) underlying49 bD ?_;have k: ∀a:Int,Mj prog 9999 3 (.int .i64 a):=λa=>jE (d:=9998) U3;refine rE.2 ⟨⟨.int .i64 z.id,bD,k _⟩,rE.2 ⟨⟨.int .i64 z.par,bD,k _⟩,rE.2 ⟨⟨.int .i64 z.st,bD,k _⟩,rE.2 ⟨⟨.int .i64 z.stat,bD,k _⟩, ?_⟩⟩⟩⟩;refine rE.2 ⟨⟨.int .i64 z.at_,bD,k _⟩,rE.2 ⟨⟨.int .i64 z.lv,bD,k _⟩,rE.2 ⟨⟨.int .i64 z.used,bD,k _⟩,rE.2 ⟨⟨_,bD,zT z.r⟩, ?_⟩⟩⟩⟩;intro f b;cases b
structure RE where
 pi:Nat->Nat
 wr:Nat->Bool
 ad:Int
 mn:Int
 un:Int
 du:Nat
def Md (x:PS)(e:RE):List Value:=[.int .i64 x.id, .int .i64 x.par, .int .i64 x.st, .int .i64 x.stat, .int .i64 x.at_, .int .i64 x.lv, .int .i64 ((x.used+e.du:Nat):Int)]
def NG (e:RE):List Value:=(List.range 6).map (λi=> .int .i64 (e.pi i))++((List.range 6).map (λi=> .bool (e.wr i))++[.int .i64 e.ad, .int .i64 e.mn, .int .i64 e.un])
def KV (x:PS)(e:RE):Array Value:=(Md x e++((List.range 8).map (λi=>Value.int .u16 (x.r i))++((List.range 64).map (λi=>Value.int .u8 (x.m i))++NG e))).toArray
section
variable (x:PS)(e:RE)
theorem zU:KV x e=((Md x e++(List.range 8).map (λi=>Value.int .u16 (x.r i)))++((List.range 64).map (λi=>Value.int .u8 (x.m i))++NG e)).toArray:=by unfold KV;rw[r5]
theorem mH {i:Nat}(hi:i<8):(KV x e)[7+i]? =some (.int .u16 (x.r i)):=by
 unfold KV;rw[nw];exact kT (Md x e) 8 _ _ hi
theorem zV {i:Nat}(hi:i<64):(KV x e)[15+i]? =some (.int .u8 (x.m i)):=by
 rw[zU,nw];exact kT (Md x e++(List.range 8).map (λi=>Value.int .u16 (x.r i))) 64 _ _ hi
theorem cS {i:Nat}(hi:i<8)(v:Int):(KV x e).setIfInBounds (7+i) (.int .u16 v)=KV {x with r:=put x.r i v} e:=by
 unfold KV;rw[OB];have h:=kS (Md x e) 8 (λi=>Value.int .u16 (x.r i)) ((List.range 64).map (λi=>Value.int .u8 (x.m i))++NG e) hi (.int .u16 v);have e:put (λi=>Value.int .u16 (x.r i)) i (.int .u16 v)=λj=>Value.int .u16 (put x.r i v j):=by funext j;unfold put;split<;>rfl
 rw[e] at h;exact congrArg List.toArray h
theorem zW {i:Nat}(hi:i<64)(v:Int):(KV x e).setIfInBounds (15+i) (.int .u8 v)=KV {x with m:=put x.m i v} e:=by
 rw[zU,OB];have h:=kS (Md x e++(List.range 8).map (λi=>Value.int .u16 (x.r i))) 64 (λi=>Value.int .u8 (x.m i)) (NG e) hi (.int .u8 v);have e:put (λi=>Value.int .u8 (x.m i)) i (.int .u8 v)=λj=>Value.int .u8 (put x.m i v j):=by funext j;unfold put;split<;>rfl
 rw[e] at h;rw[zU];exact congrArg List.toArray h
theorem aX:(KV x e).size=94:=by unfold KV;simp[Md,NG]
theorem k5:(KV x e)[0]? =some (.int .i64 x.id):=rfl
theorem Cz (v:Int):(KV x e).setIfInBounds 91 (.int .i64 v)=KV x {e with ad:=v}:=rfl
theorem CB (v:Int):(KV x e).setIfInBounds 92 (.int .i64 v)=KV x {e with mn:=v}:=rfl
end
structure RX where
 img:List Int
 now:Nat
 over:Bool
 ws:List Wd
 no:Nat
 op:Nat
 ask:Nat
 nu:Nat->Nat
structure RB where
 p:Nat->Nat
 e:Nat->RE
 ap:Sl
 a:Nat->Sl
 ae:Sl
 al:Sl
 q:Nat->Nat
 y:Nat->Sl
 yb:Nat->List Int
 w:Nat->List Nat
 no:Nat
abbrev KM (l:List Nat):List Value:=l.map λn=>Value.int .i64 (n:Nat)
def M6 (B:RB)(T:St)(l:Nat):List Nat:=if l<3 then T.rows l else B.w l
def ME (B:RB)(T:St)(X:RX):Array Value:= #[.int .i64 (T.sl 0), .int .i64 (T.sl 1), .int .i64 (T.sl 2), .int .i64 T.bo,KU X.img,Kj B.ap 1 T.ps.length,Kj B.al 1 B.no,Kj (B.a 0) 1 (T.rows 0).length,Kj (B.a 1) 1 (T.rows 1).length,Kj (B.a 2) 1 (T.rows 2).length, .int .i64 (T.last:Nat), .int .i64 (X.op:Nat), .int .i64 (X.ask:Nat), .int .i64 (X.now:Nat), .bool X.over,Kj B.ae 4 X.ws.length]
def Me (B:RB)(n:Nat):Array Value:= #[.int .i64 (n:Nat),Kj (B.y n) 1 (B.yb n).length,Kj (B.a (2*n+1)) 1 (B.w (2*n+1)).length,Kj (B.a (2*n+2)) 1 (B.w (2*n+2)).length]
structure RImg (T:St)(img:List Int):Prop where
 n:img.length=4*T.pn
 g: ∀i j,i<T.pn->j<4->img[4*i+j]? =some (T.pg i j)
 b:NS img
abbrev rpb (B:RB)(q:Nat×PS):Nat×Bool×Obj:=(B.p q.1,true,Obj.cells (KV q.2 (B.e q.1)) 154)
def FI (nu:Nat->Nat)(e:RE)(x:PS):Prop:= ∀i,i<6->e.pi i=nu (x.f i).1/\e.wr i=decide ((x.f i).2=5)/\(x.f i≠(0,0)->nu (x.f i).1≠0)
structure Nr (B:RB)(T:St)(nu:Nat->Nat):Prop where
 n0:nu 0=0
 nl: ∀u,nu u<=B.no
 ni: ∀u v,nu u=nu v->nu u≠0->u=v
 n5: ∀u,5<=u->nu u=0
 fi: ∀q∈T.ps,FI nu (B.e q.1) q.2
 rl: ∀u,nu u≠0->B.yb (nu u)=T.by_ u/\B.w (2*nu u+1)=T.rowAt (u,4)/\B.w (2*nu u+2)=T.rowAt (u,5)
 rz: ∀n,(∀u,nu u≠n)->B.w (2*n+1)=[]/\B.w (2*n+2)=[]
 wa: ∀e∈T.wt,∀c∈e.2,∀y,(c,y)∈T.ps->(B.e c).ad=y.r 1/\(B.e c).mn=y.r 2
structure RM (R:Nat)(B:RB)(T:St)(X:RX)(L:Ka):Prop where
 k:(R,true,Obj.cells (ME B T X) 150)∈L
 p: ∀q∈T.ps,rpb B q∈L
 pl:Kf B.ap (T.ps.map λq=>ptr (B.p q.1)) 155 L
 rs: ∀l,Kf (B.a l) (KM (M6 B T l)) 3 L
 ev:Kf B.ae (MD X.ws) 51 L
 al:Kf B.al ((List.range B.no).map λj=>ptr (B.q (j+1))) 236 L
 q: ∀n,0<n/\n<=B.no->(B.q n,true,Obj.cells (Me B n) 238)∈L
 y: ∀n,Kf (B.y n) (M4 (B.yb n)) 5 L
structure Ki (o:Nat)(R:Nat)(B:RB)(T:St)(X:RX)(L:Ka):Prop extends RM R B T X L where
 fn:K5 L
 dj: ∀l l',l≠l'-> ∀b,(B.a l).b=some b->(B.a l').b≠some b
 dy: ∀l l',l≠l'-> ∀b,(B.y l).b=some b->(B.y l').b≠some b
 im:RImg T X.img
 id: ∀q∈T.ps,q.2.id=q.1
 le: ∀q∈T.ps,q.1<=T.last
 pn:(T.ps.map (·.1)).Nodup
 un: ∀q∈T.ps,q.2.st=3->(B.e q.1).un=q.2.til
 du: ∀q∈T.ps,(B.e q.1).du=if q.1=o then 1 else 0
 sz: ∀q∈T.ps,q.2.st≠6->q.2.stat=0
 ab: ∀q∈T.ps,q.2.at_<=65536
 no:B.no=X.no
 pp:Nr B T X.nu
def Kv (R:Nat)(B:RB)(T:St)(b:Nat):Prop:=b=R\/(∃q∈T.ps,b=B.p q.1)\/B.ap.b=some b\/(∃l,(B.a l).b=some b)\/B.ae.b=some b\/B.al.b=some b\/(∃n,(0<n/\n<=B.no)/\b=B.q n)\/ ∃n,(B.y n).b=some b
structure K1 (own own':Nat->Prop)(L L':Ka):Prop where
 s: ∀t∈L,¬own t.1->t∈L'
 n: ∀b,own' b->own b\/ ∀t∈L,t.1≠b
theorem K1.refl (own:Nat->Prop)(L:Ka):K1 own own L L:=⟨λ_ h _=>h,λ_ h=> .inl h⟩
theorem K1.trans {f l i:Nat->Prop}{L1 L2 j:Ka}(h:K1 f l L1 L2)(k:K1 l i L2 j):K1 f i L1 j where
 s t a hn:=k.s t (h.s t a hn) λe=>by
  rcases h.n _ e with e|e
  ·exact hn e
  ·exact e t a rfl
 n b hb:=by
  rcases k.n b hb with e|e
  ·exact h.n b e
  ·by_cases hm: ∃t∈L1,t.1=b
   ·obtain⟨t,a,d⟩:=hm;by_cases g:f b
    ·exact .inl g
    ·exact absurd d (e t (h.s t a (by rw[d];exact g)))
   ·exact .inr λt a d=>hm ⟨t,a,d⟩
theorem K1.ext {own:Nat->Prop}{L L':Ka}(e:Ext L L'):K1 own own L L':=⟨λt a _=>e.s t a,λ_ h=> .inl h⟩
theorem eA (S:St)(b:Nat)(x:PS):(S.ID b x).ps.map (·.1)=S.ps.map (·.1):=aV S b x
theorem cY {L:Ka}(hF:K5 L){b:Nat}{cs a:Array Value}{e e':TypeId}{f d:Bool}(h:(b,f,Obj.cells cs e)∈L)(g:(b,d,Obj.cells a e')∈L):e=e':=by
 have:=(hF _ _ _ _ _ h g).2;cases this;rfl
structure Ch (D:Nat->Prop)(L L':Ka):Prop where
 fn:K5 L'
 s: ∀t∈L,¬D t.1->t∈L'
def Lg (L:Ka)(D:Nat->Prop)(e:TypeId):Prop:= ∀b cs,(b,true,Obj.cells cs e)∈L-> ¬D b
section
variable {L L' L1:Ka}{D D':Nat->Prop}{a:Sl}{xs:List Value}{e e0:TypeId}{b:Nat}{cs:Array Value}
theorem _root_.Go.Lo.K4.ch {o:Obj}(h:K4 L b o L'):Ch (· =b) L L':=⟨h.fn,h.ne⟩
theorem MM.ch {zs:List Value}{d:Sl}(h:MM L e a zs d L'):Ch (λc=>a.b=some c) L L':=⟨h.fn,h.sub⟩
theorem Ch.trans (h:Ch D L L1)(k:Ch D' L1 L'):Ch (λc=>D c\/D' c) L L':=⟨k.fn,λt b a=>k.s t (h.s t b λe=>a (.inl e)) λe=>a (.inr e)⟩
theorem Lg.one (hF:K5 L)(h:(b,true,Obj.cells cs e0)∈L)(he:e0≠e):Lg L (· =b) e:=λc f hm d=>by
 have a:c=b:=d;subst a;exact he (cY hF h hm)
theorem Lg.sl (hF:K5 L)(h:Kf a xs e0 L)(he:e0≠e):Lg L (λc=>a.b=some c) e:=λc f hm d=>he (cY hF (h.mem d) hm)
theorem Lg.or (h:Lg L D e)(k:Lg L D' e):Lg L (λc=>D c\/D' c) e:=λc a hm b=>b.elim (h c a hm) (k c a hm)
theorem Ch.keep (c:Ch D L L')(h:Lg L D e)(hm:(b,true,Obj.cells cs e)∈L):(b,true,Obj.cells cs e)∈L':=c.s _ hm (h _ _ hm)
theorem Ch.keepA (c:Ch D L L')(h: ∀b,a.b=some b-> ¬D b) (hm:Kf a xs e L):Kf a xs e L':=by
 unfold Kf at*
 split
 ·rename_i hb;rw[hb] at hm;exact hm
 ·rename_i b hb;rw[hb] at hm;exact c.s _ hm (h b hb)
theorem Ch.Jr (c:Ch D L L')(h:Lg L D e)(hm:Kf a xs e L):Kf a xs e L':=c.keepA (λb hb=>h b _ (hm.mem hb)) hm
end
section
variable {o R:Nat}{B B':RB}{T T':St}{X X':RX}{L L' L1 L2:Ka}{D:Nat->Prop}{b c:Nat}{x x':PS}
theorem RM.own (h:RM R B T X L)(hb:Kv R B T b): ∃cs e,(b,true,Obj.cells cs e)∈L/\(e=150\/(e=154/\ ∃q∈T.ps,b=B.p q.1)\/(e=155/\B.ap.b=some b)\/e=3\/e=51\/e=236\/e=238\/e=5):=by
 rcases hb with rfl|⟨q,a,rfl⟩|e|⟨l,e⟩|e|e|⟨n,d,rfl⟩|⟨n,e⟩
 ·exact⟨_,_,h.k, .inl rfl⟩
 ·exact⟨_,_,h.p q a, .inr (.inl ⟨rfl,q,a,rfl⟩)⟩
 ·exact⟨_,_,h.pl.mem e,by simp[e]⟩
 ·exact⟨_,_,(h.rs l).mem e,bE⟩
 ·exact⟨_,_,h.ev.mem e,bE⟩
 ·exact⟨_,_,h.al.mem e,bE⟩
 ·exact⟨_,_,h.q n d,bE⟩
 ·exact⟨_,_,(h.y n).mem e,bE⟩
theorem Ki.own4 (h:Ki o R B T X L){cs:Array Value}(hm:(b,true,Obj.cells cs 154)∈L)(hb:Kv R B T b): ∃q∈T.ps,b=B.p q.1:=by
 obtain⟨d,e,a,f⟩:=h.toRM.own hb;have:=cY h.fn hm a;subst this;simpa using f
theorem Ki.no155 (h:Ki o R B T X L){cs:Array Value}(hm:(b,true,Obj.cells cs 155)∈L)(hb:B.ap.b≠some b): ¬Kv R B T b:=λa=>by
 obtain⟨d,e,f,g⟩:=h.toRM.own a;have:=cY h.fn hm f;subst this;simp[hb] at g
theorem Ki.J6 (h:Ki o R B T X L)(hn: ∀t∈L,t.1≠c): ¬Kv R B T c:=λb=>by
 obtain⟨_,_,a,_⟩:=h.toRM.own b;exact hn _ a rfl
theorem Ki.rw (h:Ki o R B T X L)(l:Nat)(hl:l<3):Kf (B.a l) (KM (T.rows l)) 3 L:=by
 have:=h.rs l;unfold M6 at this;rw[if_pos hl] at this;exact this
theorem Ki.kat (h:Ki o R B T X L){i:Nat}{v:Value}(hv:(ME B T X)[i]? =some v):At L R i v:=⟨true,_,_,_,h.k,hv⟩
theorem Ki.pat (h:Ki o R B T X L)(hb:(b,x)∈T.ps){i:Nat}{v:Value}(hv:(KV x (B.e b))[i]? =some v):At L (B.p b) i v:=⟨true,_,_,_,h.p _ hb,hv⟩
theorem RM.mv (h:RM R B T X L)(mv: ∀u∈L,Kv R B T u.1->u∈L'):RM R B T X L' where
 k:=mv _ h.k (.inl rfl)
 p q hq:=mv _ (h.p q hq) (.inr (.inl ⟨q,hq,rfl⟩))
 pl:=h.pl.mono λb hb _ hm=>mv _ hm (.inr (.inr (.inl hb)))
 rs l:=(h.rs l).mono λb hb _ hm=>mv _ hm (.inr (.inr (.inr (.inl ⟨l,hb⟩))))
 ev:=h.ev.mono λb hb _ hm=>mv _ hm (.inr (.inr (.inr (.inr (.inl hb)))))
 al:=h.al.mono λb hb _ hm=>mv _ hm (.inr (.inr (.inr (.inr (.inr (.inl hb))))))
 q n hn:=mv _ (h.q n hn) (.inr (.inr (.inr (.inr (.inr (.inr (.inl ⟨n,hn,rfl⟩)))))))
 y n:=(h.y n).mono λb hb _ hm=>mv _ hm (.inr (.inr (.inr (.inr (.inr (.inr (.inr ⟨n,hb⟩)))))))
theorem Ki.mv (h:Ki o R B T X L)(hF:K5 L')(mv: ∀u∈L,Kv R B T u.1->u∈L'):Ki o R B T X L':={h with toRM:=h.toRM.mv mv,fn:=hF}
theorem Ki.ext (h:Ki o R B T X L)(e:Ext L L'):Ki o R B T X L':=h.mv e.f λu hu _=>e.s u hu
theorem Ki.other (h:Ki o R B T X L)(c:Ch D L L1)(e: ∀b,D b-> ¬Kv R B T b):Ki o R B T X L1:=h.mv c.fn λu hu a=>c.s u hu λd=>e _ d a
theorem Ki.inj (h:Ki o R B T X L){q r:Nat×PS}(hq:q∈T.ps)(hr:r∈T.ps)(e:B.p q.1=B.p r.1):q.1=r.1:=by
 have b:=h.p q hq;have f:=h.p r hr;unfold rpb at b f;rw[e] at b;have:=(h.fn _ _ _ _ _ b f).2;have g:KV q.2 (B.e q.1)=KV r.2 (B.e r.1):=(Obj.cells.inj this).1;have a:=congrArg (λc=>c[0]?) g;simp only[k5] at a;have d:q.2.id=r.2.id:=by simp at a;exact Int.ofNat.inj a
 rw[h.id q hq,h.id r hr] at d;exact d
theorem Ki.qinj (h:Ki o R B T X L){m n:Nat}(hm:0<m/\m<=B.no)(hn:0<n/\n<=B.no)(e:B.q m=B.q n):m=n:=by
 have a:=h.q m hm;rw[e] at a;have d:=(Obj.cells.inj (h.fn _ _ _ _ _ a (h.q n hn)).2).1;have b:=congrArg (λc=>c[0]?) d;simp[Me] at b;exact Int.ofNat.inj b
theorem Nr.of {nu:Nat->Nat}(h:Nr B T nu)(a:B'.no=B.no:=by rfl)(hw:B'.w=B.w:=by rfl)(hy:B'.yb=B.yb:=by rfl)(hwt:T'.wt=T.wt:=by rfl)(hby:T'.by_=T.by_:=by rfl)(hfi: ∀q∈T'.ps,FI nu (B'.e q.1) q.2) (hwa: ∀e∈T.wt,∀c∈e.2,∀y,(c,y)∈T'.ps->(B'.e c).ad=y.r 1/\(B'.e c).mn=y.r 2):Nr B' T' nu:=by
 have b: ∀k,T'.rowAt k=T.rowAt k:=λk=>by unfold St.rowAt;rw[hwt]
 refine⟨h.n0,by rw[a];exact h.nl,h.ni,h.n5,hfi, ?_,by rw[hw];exact h.rz,by rw[hwt];exact hwa⟩;rw[hw,hy,hby];simp only[b];exact h.rl
structure Kp (ok:TypeId->Prop)(R:Nat)(B:RB)(T:St)(X:RX)(L:Ka):Prop where
 k:ok 150->(R,true,Obj.cells (ME B T X) 150)∈L
 p:ok 154-> ∀q∈T.ps,rpb B q∈L
 pl:ok 155->Kf B.ap (T.ps.map λq=>ptr (B.p q.1)) 155 L
 rs:ok 3-> ∀l,Kf (B.a l) (KM (M6 B T l)) 3 L
 ev:ok 51->Kf B.ae (MD X.ws) 51 L
 al:ok 236->Kf B.al ((List.range B.no).map λj=>ptr (B.q (j+1))) 236 L
 q:ok 238-> ∀n,0<n/\n<=B.no->(B.q n,true,Obj.cells (Me B n) 238)∈L
 y:ok 5-> ∀n,Kf (B.y n) (M4 (B.yb n)) 5 L
theorem RM.kp (h:RM R B T X L)(c:Ch D L L'){ok:TypeId->Prop}(no: ∀e,ok e->Lg L D e):Kp ok R B T X L' where
 k o:=c.keep (no _ o) h.k
 p o q hq:=c.keep (no _ o) (h.p q hq)
 pl o:=c.Jr (no _ o) h.pl
 rs o l:=c.Jr (no _ o) (h.rs l)
 ev o:=c.Jr (no _ o) h.ev
 al o:=c.Jr (no _ o) h.al
 q o n hn:=c.keep (no _ o) (h.q n hn)
 y o n:=c.Jr (no _ o) (h.y n)
theorem Ki.JM (h:Ki o R B T X L){cs:Array Value}(a:K4 L R (.cells cs 150) L')(T':St)(X':RX)(hc:cs=ME B T' X')(hp:T'.ps=T.ps:=by rfl)(hr:T'.rows=T.rows:=by rfl)(hw:X'.ws=X.ws:=by rfl)(hi:X'.img=X.img:=by rfl)(hn:T'.pn=T.pn:=by rfl)(r:T'.pg=T.pg:=by rfl)(hls:T.last<=T'.last:=by exact Nat.le_refl _)(hwt:T'.wt=T.wt:=by rfl)(hby:T'.by_=T.by_:=by rfl)(d:X'.no=X.no:=by rfl)(f:X'.nu=X.nu:=by rfl):Ki o R B T' X' L'/\K1 (Kv R B T) (Kv R B T') L L':=by
 have K:=h.toRM.kp a.ch (ok:=λe=>150≠e) λe he=> .one h.fn h.k he;have i: ∀l,M6 B T' l=M6 B T l:=λl=>by unfold M6;rw[hr]
 refine⟨⟨⟨hc▸a.self,by rw[hp];exact K.p bx,by rw[hp];exact K.pl bx,λl=>by rw[i];exact K.rs bx l,by rw[hw];exact K.ev bx,K.al bx,K.q bx,K.y bx⟩,a.fn,h.dj,h.dy, ?_, ?_, ?_, ?_, ?_, ?_, ?_, ?_,h.no.trans d.symm, ?_⟩,⟨λt j hn=>a.ne t j λe=>hn (.inl e),λb hb=> .inl ?_⟩⟩
 ·rw[hi];exact⟨by rw[hn];exact h.im.n,by rw[hn,r];exact h.im.g,h.im.b⟩
 ·rw[hp];exact h.id
 ·rw[hp];exactλq m=>l6 (h.le q m) hls
 ·rw[hp];exact h.pn
 ·rw[hp];exact h.un
 ·rw[hp];exact h.du
 ·rw[hp];exact h.sz
 ·rw[hp];exact h.ab
 ·rw[f];exact h.pp.of (hwt:=hwt) (hby:=hby) (hfi:=by rw[hp];exact h.pp.fi) (hwa:=by rw[hp];exact h.pp.wa)
 ·unfold Kv at*;rw[hp] at hb;exact hb
theorem Ki.ID (h:Ki o R B T X L)(hb:(b,x)∈T.ps){cs:Array Value}(u:K4 L (B.p b) (.cells cs 154) L')(x':PS)(e':RE)(o':Nat)(hc:cs=KV x' e')(hid:x'.id=x.id:=by rfl)(hfi:FI X.nu (B.e b) x->FI X.nu e' x':=by exactλh=>h)(hwa: ∀e∈T.wt,b∈e.2->(B.e b).ad=x.r 1/\(B.e b).mn=x.r 2->e'.ad=x'.r 1/\e'.mn=x'.r 2:=by exactλ_ _ _ h=>h) (hun:x'.st=3->e'.un=x'.til) (hdu:e'.du=if b=o' then 1 else 0) (ho: ∀q∈T.ps,q.1≠b->(q.1=o↔q.1=o')) (hsz:x'.st≠6->x'.stat=0) (hab:x'.at_=x.at_\/x'.at_<=65536:=by exact .inl rfl):Ki o' R {B with e:=put B.e b e'} (T.ID b x') X L'/\K1 (Kv R B T) (Kv R {B with e:=put B.e b e'} (T.ID b x')) L L':=by
 have K:=h.toRM.kp u.ch (ok:=λe=>154≠e) λe he=> .one h.fn (h.p _ hb) he;have f:(T.ID b x').ps.map (·.1)=T.ps.map (·.1):=aV T b x';have m:(T.ID b x').ps.length=T.ps.length:=by simp[St.ID]
 have J: ∀q,q∈T.ps->q.1≠b->put B.e b e' q.1=B.e q.1:=λq _ A=>by unfold put;rw[if_neg A]
 have es:put B.e b e' b=e':=by unfold put;rw[if_pos rfl]
 have i: ∀{Q:Nat×PS->RE->Prop},Q (b,x') e'->(∀q∈T.ps,q.1≠b->Q q (B.e q.1))-> ∀q∈(T.ID b x').ps,Q q (put B.e b e' q.1):=λ{Q} a s q C=>by
  rcases aN C with rfl|⟨D,E⟩
  ·show Q (b,x') (put B.e b e' b);rw[es];exact a
  ·rw[J q D E];exact s q D E
 refine⟨⟨⟨?_,i (Q:=λq e=>(B.p q.1,true,Obj.cells (KV q.2 e) 154)∈L') (by rw[<-hc];exact u.self) λq a s=>u.ne _ (h.p q a) λe=>s (h.inj a hb e), ?_,K.rs bx,K.ev bx,K.al bx,K.q bx,K.y bx⟩,u.fn,h.dj,h.dy,⟨h.im.n,h.im.g,h.im.b⟩,i (Q:=λq _=>q.2.id=q.1) (hid.trans (h.id _ hb)) λq a _=>h.id q a,i (Q:=λq _=>q.1<=T.last) (h.le (b,x) hb) λq a _=>h.le q a,by rw[f];exact h.pn,i (Q:=λq e=>q.2.st=3->e.un=q.2.til) hun λq a _=>h.un q a,i (Q:=λq e=>e.du=if q.1=o' then 1 else 0) hdu λq a s=>by rw[h.du q a];simp only[ho q a s],i (Q:=λq _=>q.2.st≠6->q.2.stat=0) hsz λq a _=>h.sz q a,i (Q:=λq _=>q.2.at_<=65536) ?_ λq a _=>h.ab q a,h.no,h.pp.of (hfi:=i (Q:=λq e=>FI X.nu e q.2) (hfi (h.pp.fi _ hb)) λq a _=>h.pp.fi q a) (hwa:=λe he c l y F=> ?_)⟩,⟨λt G H=>u.ne t G λe=>H (.inr (.inl ⟨_,hb,e⟩)),λd j=> .inl ?_⟩⟩
 ·have:=K.k bx;unfold ME at*;rw[m];exact this
 ·have e:((T.ID b x').ps.map λq=>ptr (B.p q.1))=T.ps.map λq=>ptr (B.p q.1):=by
   have:=congrArg (List.map λn=>ptr (B.p n)) f;rw[kt,kt] at this;exact this
  show Kf B.ap ((T.ID b x').ps.map λq=>ptr (B.p q.1)) 155 L';rw[e];exact K.pl bx
 ·rcases hab with e|e
  ·show x'.at_<=65536;rw[e];exact h.ab _ hb
  ·exact e
 ·exact i (Q:=λq e=>q.1=c->e.ad=q.2.r 1/\e.mn=q.2.r 2) (λz=>hwa e he ((show b=c from z).symm▸l) (h.pp.wa e he b ((show b=c from z).symm▸l) _ hb)) (λq a _ z=>h.pp.wa e he q.1 (by rw[z];exact l) q.2 a) _ F rfl
 ·rcases j with j|⟨q,C,j⟩|j
  ·exact .inl j
  ·have:q.1∈T.ps.map (·.1):=by rw[<-f];exact cm.2 ⟨q,C,rfl⟩
   obtain⟨r,I,e⟩:=cm.1 this;exact .inr (.inl ⟨r,I,by rw[j,<-e]⟩)
  ·exact .inr (.inr j)
theorem djA {a:Nat->Sl}{xs:Nat->List Value}{e:TypeId}{n:Nat}{k:Sl}{zs:List Value}(h: ∀l,Kf (a l) (xs l) e L) (d: ∀l i,l≠i-> ∀b,(a l).b=some b->(a i).b≠some b) (hp:MM L e (a n) zs k L1) (c2:Ch D L1 L') (m:Lg L1 D e):(∀l,Kf (put a n k l) (put xs n zs l) e L')/\(∀l i,l≠i-> ∀b,(put a n k l).b=some b->(put a n k i).b≠some b)/\ ∀b l,(put a n k l).b=some b->(∃l,(a l).b=some b)\/ ∀t∈L,t.1≠b:=by
 refine⟨λl=> ?_,λl i j b hb f=> ?_,λb l hb=> ?_⟩
 ·unfold put
  split
  ·exact c2.Jr m hp.ok
  ·rename_i e;exact c2.Jr m (hp.ch.keepA (d l n e) (h l))
 ·simp only[put] at hb f
  split at hb
  ·rename_i e;rw[if_neg (λg=>j (e.trans g.symm))] at f;rcases hp.d b hb with g|g
   ·exact d n i (λo=>j (e.trans o)) b g f
   ·exact g _ ((h i).mem f) rfl
  ·rename_i e
   split at f
   ·rcases hp.d b f with g|g
    ·exact d l n e b hb g
    ·exact g _ ((h l).mem hb) rfl
   ·exact d l i j b hb f
 ·simp only[put] at hb
  split at hb
  ·rcases hp.d b hb with g|g
   ·exact .inl ⟨n,g⟩
   ·exact .inr g
  ·exact .inl ⟨l,hb⟩
theorem Ki.ap3 (h:Ki o R B T X L){n C:Nat}{f:Sl}{zs:List Nat}(hp:MM L 3 (B.a n) (KM zs) f L1){cs k:Array Value}{e:TypeId}(m:K4 L1 C (.cells cs e) L')(hC:(C,true,Obj.cells k e)∈L)(he:e≠3):Kp (λe'=>e'≠3/\e'≠e) R B T X L'/\(∀l,Kf (put B.a n f l) (KM (put (M6 B T) n zs l)) 3 L')/\(∀l r,l≠r-> ∀b,(put B.a n f l).b=some b->(put B.a n f r).b≠some b)/\(∀b l,(put B.a n f l).b=some b->(∃l,(B.a l).b=some b)\/ ∀t∈L,t.1≠b)/\ ∀t∈L,¬Kv R B T t.1->t.1≠C->t∈L':=by
 have p: ∀e,3≠e->Lg L (λc=>(B.a n).b=some c) e:=λe he=> .sl h.fn (h.rs n) he;have j:=hp.ch.keep (p _ he.symm) hC;have s: ∀e',e≠e'->Lg L1 (· =C) e':=λe' d=> .one hp.fn j d;have:=djA h.rs h.dj hp m.ch (s _ he);refine⟨h.toRM.kp (hp.ch.trans m.ch) λe' d=>(p e' d.1.symm).or λb cs hm hb=> ?_,λl=> ?_,this.2.1,this.2.2,λt u y x=>m.ne t (hp.sub t u λe=>y (.inr (.inr (.inr (.inl ⟨n,e⟩))))) x⟩
 ·subst hb;exact d.2 (cY h.fn hm hC)
 ·have g:=this.1 l;unfold put at*
  split<;>rename_i i
  ·rw[if_pos i] at g;simpa [i] using g
  ·rw[if_neg i] at g;simpa [i] using g
theorem Ki.J2 (h:Ki o R B T X L){n:Nat}(hn:n<3){d:Sl}{zs:List Nat}(hp:MM L 3 (B.a n) (KM zs) d L1){cs:Array Value}(i:K4 L1 R (.cells cs 150) L')(hc:cs=ME {B with a:=put B.a n d} (T.setRow n zs) X):Ki o R {B with a:=put B.a n d} (T.setRow n zs) X L'/\K1 (Kv R B T) (Kv R {B with a:=put B.a n d} (T.setRow n zs)) L L':=by
 obtain⟨K,u,x,z,s⟩:=h.ap3 hp i h.k bx;refine⟨⟨⟨hc▸i.self,K.p bx,K.pl bx,λl=> ?_,K.ev bx,K.al bx,λm hm=> ?_,K.y bx⟩,i.fn,x,h.dy,⟨h.im.n,h.im.g,h.im.b⟩,h.id,h.le,h.pn,h.un,h.du,h.sz,h.ab,h.no,h.pp.of (hfi:=h.pp.fi) (hwa:=h.pp.wa)⟩,⟨λt r f=>s t r f λe=>f (.inl e),λc hc=> ?_⟩⟩
 ·have e:M6 {B with a:=put B.a n d} (T.setRow n zs) l=put (M6 B T) n zs l:=by
   unfold M6 St.setRow put;by_cases j:l=n
   ·simp[j,hn]
   ·simp[j]
  rw[e];exact u l
 ·have e:Me {B with a:=put B.a n d} m=Me B m:=by
   unfold Me put;simp only[];rw[if_neg bl,if_neg bl]
  rw[e];exact K.q bx m hm
 ·rcases hc with e|e|e|⟨l,e⟩|e
  ·exact .inl (.inl e)
  ·exact .inl (.inr (.inl e))
  ·exact .inl (.inr (.inr (.inl e)))
  ·exact(z c l e).imp (λe=> .inr (.inr (.inr (.inl e)))) λe=>e
  ·exact .inl (.inr (.inr (.inr (.inr e))))
theorem HE (B:RB){i m:Nat}(b:Sl)(zs:List Nat)(h1:i≠2*m+1)(h2:i≠2*m+2):Me {B with a:=put B.a i b,w:=put B.w i zs} m=Me B m:=by
 unfold Me put;simp only[];rw[if_neg h1.symm,if_neg h2.symm,if_neg h1.symm,if_neg h2.symm]
theorem Ki.I8 (h:Ki o R B T X L){i n:Nat}(hn:0<n/\n<=B.no)(hi:i=2*n+1\/i=2*n+2){d:Sl}{zs:List Nat}(hp:MM L 3 (B.a i) (KM zs) d L1){cs:Array Value}(r:K4 L1 (B.q n) (.cells cs 238) L')(hc:cs=Me {B with a:=put B.a i d,w:=put B.w i zs} n)(T':St)(D:Nr {B with a:=put B.a i d,w:=put B.w i zs} T' X.nu)(s:T'={T with wt:=T'.wt}):Ki o R {B with a:=put B.a i d,w:=put B.w i zs} T' X L'/\K1 (Kv R B T) (Kv R {B with a:=put B.a i d,w:=put B.w i zs} T') L L':=by
 obtain⟨K,z,A,C,u⟩:=h.ap3 hp r (h.q n hn) bx;generalize E:T'.wt=wt at s;subst s;refine⟨⟨⟨?_,K.p bx,K.pl bx,λl=> ?_,K.ev bx,K.al bx,λm hm=> ?_,K.y bx⟩,r.fn,A,h.dy,⟨h.im.n,h.im.g,h.im.b⟩,h.id,h.le,h.pn,h.un,h.du,h.sz,h.ab,h.no,D⟩,⟨λt x j=>u t x j λe=>j (.inr (.inr (.inr (.inr (.inr (.inr (.inl ⟨n,hn,e⟩))))))),λc hc=> ?_⟩⟩
 ·have:=K.k bx;unfold ME put at*;simp only[];rw[if_neg bl,if_neg bl,if_neg bl];exact this
 ·have e:M6 {B with a:=put B.a i d,w:=put B.w i zs} {T with wt:=wt} l=put (M6 B T) i zs l:=by
   unfold M6 put;by_cases f:l=i
   ·simp only[f,if_true];rw[if_neg bl]
   ·simp only[f,if_false]
  rw[e];exact z l
 ·by_cases e:m=n
  ·subst e;rw[<-hc];exact r.self
  ·rw[HE B d zs bl bl];exact r.ne _ (hp.sub _ (h.q m hm) λf=>absurd (cY h.fn (h.q m hm) ((h.rs i).mem f)) bx) λf=>e (h.qinj hm hn f)
 ·rcases hc with e|e|e|⟨l,e⟩|e
  ·exact .inl (.inl e)
  ·exact .inl (.inr (.inl e))
  ·exact .inl (.inr (.inr (.inl e)))
  ·exact(C c l e).imp (λe=> .inr (.inr (.inr (.inl e)))) λe=>e
  ·exact .inl (.inr (.inr (.inr (.inr e))))
theorem Ki.IY (h:Ki o R B T X L){n:Nat}(hn:0<n/\n<=B.no){d:Sl}{zs:List Int}(hp:MM L 5 (B.y n) (M4 zs) d L1){cs:Array Value}(i:K4 L1 (B.q n) (.cells cs 238) L')(hc:cs=Me {B with y:=put B.y n d,yb:=put B.yb n zs} n)(T':St)(F:Nr {B with y:=put B.y n d,yb:=put B.yb n zs} T' X.nu)(x:T'={T with by_:=T'.by_}):Ki o R {B with y:=put B.y n d,yb:=put B.yb n zs} T' X L'/\K1 (Kv R B T) (Kv R {B with y:=put B.y n d,yb:=put B.yb n zs} T') L L':=by
 have u: ∀e,5≠e->Lg L (λc=>(B.y n).b=some c) e:=λe he=> .sl h.fn (h.y n) he;have s:=hp.ch.keep (u _ bx) (h.q n hn);obtain⟨E,C,f⟩:=djA (xs:=λl=>M4 (B.yb l)) h.y h.dy hp i.ch (.one hp.fn s bx);have K:=h.toRM.kp (ok:=λe=>e≠5/\e≠238) (hp.ch.trans i.ch) λD j=>(u D j.1.symm).or λb cs hm hb=>by
  subst hb;exact j.2 (cY h.fn hm (h.q n hn))
 generalize G:T'.by_=wt at x;subst x;refine⟨⟨⟨K.k bx,K.p bx,K.pl bx,K.rs bx,K.ev bx,K.al bx,λm hm=> ?_,λl=> ?_⟩,i.fn,h.dj,C,⟨h.im.n,h.im.g,h.im.b⟩,h.id,h.le,h.pn,h.un,h.du,h.sz,h.ab,h.no,F⟩,⟨λt A r=>i.ne t (hp.sub t A λe=>r (.inr (.inr (.inr (.inr (.inr (.inr (.inr ⟨n,e⟩)))))))) λe=>r (.inr (.inr (.inr (.inr (.inr (.inr (.inl ⟨n,hn,e⟩))))))),λc hc=> ?_⟩⟩
 ·by_cases e:m=n
  ·subst e;rw[<-hc];exact i.self
  ·have z:Me {B with y:=put B.y n d,yb:=put B.yb n zs} m=Me B m:=by unfold Me put;simp[e]
   rw[z];exact i.ne _ (hp.sub _ (h.q m hm) λa=>absurd (cY h.fn (h.q m hm) ((h.y n).mem a)) bx) λa=>e (h.qinj hm hn a)
 ·have f:=E l;show Kf (put B.y n d l) (M4 (put B.yb n zs l)) 5 L';unfold put at*
  split<;>rename_i a
  ·rw[if_pos a,if_pos a] at f;exact f
  ·rw[if_neg a,if_neg a] at f;exact f
 ·rcases hc with e|e|e|e|e|e|e|⟨l,e⟩
  ·exact .inl (.inl e)
  ·exact .inl (.inr (.inl e))
  ·exact .inl (.inr (.inr (.inl e)))
  ·exact .inl (.inr (.inr (.inr (.inl e))))
  ·exact .inl (.inr (.inr (.inr (.inr (.inl e)))))
  ·exact .inl (.inr (.inr (.inr (.inr (.inr (.inl e))))))
  ·exact .inl (.inr (.inr (.inr (.inr (.inr (.inr (.inl e)))))))
  ·exact(f c l e).imp (λe=> .inr (.inr (.inr (.inr (.inr (.inr (.inr e))))))) λe=>e
theorem Ki.setE (h:Ki o R B T X L){j:Sl}{ws:List Wd}(hp:MM L 51 B.ae (MD ws) j L1){cs:Array Value}(i:K4 L1 R (.cells cs 150) L')(hc:cs=ME {B with ae:=j} T {X with ws:=ws}):Ki o R {B with ae:=j} T {X with ws:=ws} L'/\K1 (Kv R B T) (Kv R {B with ae:=j} T) L L':=by
 have r: ∀e,51≠e->Lg L (λc=>B.ae.b=some c) e:=λe he=> .sl h.fn h.ev he;have l:=hp.ch.keep (r _ bx) h.k;have s: ∀e,150≠e->Lg L1 (· =R) e:=λe he=> .one hp.fn l he;have K:=h.toRM.kp (ok:=λe=>e≠51/\e≠150) (hp.ch.trans i.ch) λx f=>(r x f.1.symm).or λb cs hm hb=>by
  subst hb;exact f.2 (cY h.fn hm h.k)
 refine⟨⟨⟨hc▸i.self,K.p bx,K.pl bx,K.rs bx,i.ch.Jr (s _ bx) hp.ok,K.al bx,K.q bx,K.y bx⟩,i.fn,h.dj,h.dy,⟨h.im.n,h.im.g,h.im.b⟩,h.id,h.le,h.pn,h.un,h.du,h.sz,h.ab,h.no,h.pp.of (hfi:=h.pp.fi) (hwa:=h.pp.wa)⟩,⟨λt u a=>i.ne t (hp.sub t u λe=>a (.inr (.inr (.inr (.inr (.inl e)))))) λe=>a (.inl e),λc hc=> ?_⟩⟩;rcases hc with e|e|e|e|e|e
 ·exact .inl (.inl e)
 ·exact .inl (.inr (.inl e))
 ·exact .inl (.inr (.inr (.inl e)))
 ·exact .inl (.inr (.inr (.inr (.inl e))))
 ·rcases hp.d c e with m|m
  ·exact .inl (.inr (.inr (.inr (.inr (.inl m)))))
  ·exact .inr m
 ·exact .inl (.inr (.inr (.inr (.inr (.inr e)))))
theorem Ki.setL (h:Ki o R B T X L){p':Nat->Nat}{e':Nat->RE}{s:Sl}{T':St}(hp:MM L 155 B.ap (T'.ps.map λq=>ptr (p' q.1)) s L1){cs:Array Value}(f:K4 L1 R (.cells cs 150) L')(hc:cs=ME {B with p:=p',e:=e',ap:=s} T' X)(hr:T'.rows=T.rows:=by rfl)(m:T'.pn=T.pn:=by rfl)(E:T'.pg=T.pg:=by rfl)
 (hb: ∀q∈T'.ps,(p' q.1,true,Obj.cells (KV q.2 (e' q.1)) 154)∈L) (hid: ∀q∈T'.ps,q.2.id=q.1) (hle: ∀q∈T'.ps,q.1<=T'.last) (hpn:(T'.ps.map (·.1)).Nodup) (hfi: ∀q∈T'.ps,FI X.nu (e' q.1) q.2) (hwa: ∀e∈T.wt,∀c∈e.2,∀y,(c,y)∈T'.ps->(e' c).ad=y.r 1/\(e' c).mn=y.r 2) (hun: ∀q∈T'.ps,q.2.st=3->(e' q.1).un=q.2.til) (hdu: ∀q∈T'.ps,(e' q.1).du=if q.1=o then 1 else 0) (hsz: ∀q∈T'.ps,q.2.st≠6->q.2.stat=0) (hab: ∀q∈T'.ps,q.2.at_<=65536) (hwt:T'.wt=T.wt:=by rfl) (hby:T'.by_=T.by_:=by rfl) {L0:Ka} (he: ∀t∈L0,t∈L) (hnew: ∀q∈T'.ps,(∃r∈T.ps,p' q.1=B.p r.1)\/ ∀t∈L0,t.1≠p' q.1):
 Ki o R {B with p:=p',e:=e',ap:=s} T' X L'/\K1 (Kv R B T) (Kv R {B with p:=p',e:=e',ap:=s} T') L0 L':=by
 have A: ∀e,155≠e->Lg L (λc=>B.ap.b=some c) e:=λe he=> .sl h.fn h.pl he;have z:=hp.ch.keep (A _ bx) h.k;have C: ∀e,150≠e->Lg L1 (· =R) e:=λe he=> .one hp.fn z he;have K:=h.toRM.kp (ok:=λe=>e≠155/\e≠150) (hp.ch.trans f.ch) λe' i=>(A e' i.1.symm).or λb cs hm hb=>by
  subst hb;exact i.2 (cY h.fn hm h.k)
 have D: ∀l,M6 {B with p:=p',e:=e',ap:=s} T' l=M6 B T l:=λl=>by unfold M6;rw[hr]
 refine⟨⟨⟨hc▸f.self,λq x=>f.ch.keep (C _ bx) (hp.ch.keep (A _ bx) (hb q x)),f.ch.Jr (C _ bx) hp.ok,λl=>by rw[D];exact K.rs bx l,K.ev bx,K.al bx,K.q bx,K.y bx⟩,f.fn,h.dj,h.dy,⟨by rw[m];exact h.im.n,by rw[m,E];exact h.im.g,h.im.b⟩,hid,hle,hpn,hun,hdu,hsz,hab,h.no,h.pp.of (hwt:=hwt) (hby:=hby) (hfi:=hfi) (hwa:=hwa)⟩,⟨λt u j=>f.ne t (hp.sub t (he t u) λe=>j (.inr (.inr (.inl e)))) λe=>j (.inl e),λc hc=> ?_⟩⟩;rcases hc with e|⟨q,x,e⟩|e|e
 ·exact .inl (.inl e)
 ·rcases hnew q x with ⟨r,hr,a⟩|a
  ·exact .inl (.inr (.inl ⟨r,hr,e.trans a⟩))
  ·exact .inr (by rw[e];exact a)
 ·rcases hp.d c e with a|a
  ·exact .inl (.inr (.inr (.inl a)))
  ·exact .inr λt u=>a t (he t u)
 ·exact .inl (.inr (.inr (.inr e)))
end
def Gone (L:Ka)(c n:Nat):Prop:= ∃cs,(c,true,Obj.cells cs 154)∈L/\cs[0]? =some (.int .i64 (n:Nat))/\cs[2]? =some (.int .i64 6)
structure To (o R:Nat)(B:RB)(T:St)(L:Ka)(B':RB)(T':St)(X':RX)(L':Ka):Prop where
 r:Ki o R B' T' X' L'
 f:K1 (Kv R B T) (Kv R B' T') L L'
 p: ∀b,b<=T.last->B'.p b=B.p b
 l:T.last<=T'.last
 i: ∀q∈T.ps,q.1∈T'.ps.map (·.1)\/Gone L' (B.p q.1) q.1
 le: ∀q∈T.ps,q.1<=T.last
 qq:B.no<=B'.no/\ ∀n,n<=B.no->B'.q n=B.q n
section
variable {o R:Nat}{B B1 B2:RB}{T T1 T2:St}{X X1 X2:RX}{L L1 L2:Ka}
theorem To.q (h:To o R B T L B1 T1 X1 L1){o':Nat}(a:Ki o' R B T X L){b:Nat}{x:PS}(hq:(b,x)∈T.ps):B1.p b=B.p b:=h.p _ (a.le _ hq)
theorem Ki.idb (h:Ki o R B T X L){b:Nat}{x:PS}(hq:(b,x)∈T.ps):x.id=b:=h.id _ hq
theorem To.num (h:To o R B T L B1 T1 X1 L1){o':Nat}(j:Ki o' R B T X L){b:Nat}{x:PS}(hq:(b,x)∈T.ps):At L1 (B.p b) 0 (.int .i64 (b:Nat)):=by
 rcases h.i _ hq with d|⟨cs,d,a,_⟩
 ·obtain⟨r,g,e⟩:=cm.1 d;have f:r.1=b:=e;have a:=h.r.p r g;unfold rpb at a;rw[f,h.q j hq] at a;exact⟨true,_,_,_,a,by rw[k5,h.r.id r g,f]⟩
 ·exact⟨true,_,_,_,d,a⟩
theorem Ki.to (h:Ki o R B T X L):To o R B T L B T X L:=⟨h,K1.refl _ _,λ_ _=>rfl,cD _,λq a=> .inl (cm.2 ⟨q,a,rfl⟩),h.le,cD _,λ_ _=>rfl⟩
theorem To.of {o':Nat}(h:Ki o' R B1 T1 X1 L1/\K1 (Kv R B T) (Kv R B1 T1) L L1)(hp:B1.p=B.p:=by rfl)(hl:T1.last=T.last:=by rfl)(hn:T1.ps.map (·.1)=T.ps.map (·.1):=by first|rfl|exact eA _ _ _)(hq:B.no<=B1.no/\ ∀n,n<=B.no->B1.q n=B.q n:=by exact⟨Nat.le_refl _,λ_ _=>rfl⟩):To o' R B T L B1 T1 X1 L1:=⟨h.1,h.2,λb _=>congrFun hp b,Nat.le_of_eq hl.symm,λq hq=> .inl (by rw[hn];exact cm.2 ⟨q,hq,rfl⟩),λq hq=>by
 have:q.1∈T1.ps.map (·.1):=by rw[hn];exact cm.2 ⟨q,hq,rfl⟩
 obtain⟨r,a,e⟩:=cm.1 this;rw[<-e,<-hl];exact h.1.le r a,hq⟩
theorem To.trans {D:Nat}(h:To D R B T L B1 T1 X1 L1)(k:To o R B1 T1 L1 B2 T2 X2 L2):To o R B T L B2 T2 X2 L2:=⟨k.r,h.f.trans k.f,λb hb=>(k.p b (l6 hb h.l)).trans (h.p b hb),l6 h.l k.l,λq x=>by
 have d:q.1∈T1.ps.map (·.1)->q.1∈T2.ps.map (·.1)\/Gone L2 (B.p q.1) q.1:=λa=>by
  obtain⟨r,g,e⟩:=cm.1 a;have:=k.i r g;have C:r.1=q.1:=e;rw[C,h.p _ (h.le q x)] at this;exact this
 rcases h.i q x with a|⟨cs,a,j,z⟩
 ·exact d a
 ·by_cases m:Kv R B1 T1 (B.p q.1)
  ·obtain⟨r,g,e⟩:=h.r.own4 a m;rw[e] at a;have A:cs=KV r.2 (B1.e r.1):=(Obj.cells.inj (h.r.fn _ _ _ _ _ a (h.r.p r g)).2).1;rw[A,k5,h.r.id r g] at j;have y:r.1=q.1:=by simp at j;exact Int.ofNat.inj j
   exact d (cm.2 ⟨r,g,y⟩)
  ·exact .inr ⟨cs,k.f.s _ a m,j,z⟩,h.le,l6 h.qq.1 k.qq.1,λn u=>(k.qq.2 n (l6 u h.qq.1)).trans (h.qq.2 n u)⟩
theorem To.ext (h:To o R B T L B1 T1 X1 L1)(e:Ext L1 L2):To o R B T L B1 T1 X1 L2:=⟨h.r.ext e,h.f.trans (K1.ext e),h.p,h.l,λq b=>(h.i q b).imp id λ⟨cs,a,d⟩=>⟨cs,e.s _ a,d⟩,h.le,h.qq⟩
theorem To.pre {L0:Ka}(e:Ext L0 L)(h:To o R B T L B1 T1 X1 L1):To o R B T L0 B1 T1 X1 L1:=⟨h.r,(K1.ext e).trans h.f,h.p,h.l,h.i,h.le,h.qq⟩
end
def St.gone (T:St)(b:Nat):St:={T with rows:=λl=>(T.rows l).filter λc=> !decide (c=b)}
section
variable {S T:St}{b c:Nat}{x y:PS}{g:PS->PS}
theorem jF (d:Good T)(r3: ∀l,3<=l->T.rows l=[]) (hb:(b,x)∈T.ps):T.gone b=T.setRow x.lv ((T.rows x.lv).erase b):=by
 unfold St.gone St.setRow;have e:(λl=>(T.rows l).filter λc=> !decide (c=b))=put T.rows x.lv ((T.rows x.lv).erase b):=by
  funext l
  unfold put;by_cases a:l=x.lv
  ·rw[if_pos a,a,(d.rn x.lv (d.lv _ hb)).erase_eq_filter];rfl
  ·rw[if_neg a,List.filter_eq_self];intro c hc;simp only[Bool.not_eq_true',decide_eq_false_iff_not];rintro rfl;by_cases i:l<3
   ·obtain⟨y,f,g,_⟩:=d.rm l i c hc;rw[aS d.pn hb f] at a;exact a g.symm
   ·rw[r3 l bl] at hc;cases hc
 rw[e]
theorem cZ (S:St)(l:Nat)(xs:List Nat):(S.setRow l xs).ID b x=(S.ID b x).setRow l xs:=rfl
def St.JC (T:St)(b:Nat)(x:PS)(s:Int):St:=(T.gone b).ID b {x with st:=6,stat:=s}
theorem kD (h:(c,y)∈(S.IJ b).ps)(h2:y.st=2):(c,y)∈S.ps:=by
 unfold St.IJ at h
 split at h
 ·split at h
  ·split at h
   ·split at h
    ·rcases aN h with e|⟨a,d⟩
     ·cases e;cases h2
     ·unfold St.take at a
      split at a
      ·rcases aN a with e|⟨f,_⟩
       ·cases e;exact absurd rfl d
       ·exact tD f
      ·exact a
    ·exact h
   ·exact h
  ·exact h
 ·exact h
theorem eW (p:Nat->Bool): ∀(l:List Nat)(S:St),(∀b∈l,∀x,(b,x)∈S.ps->x.st=2->p b=true)->S.parents l=S.parents (l.filter p)
 |[],S,_=>rfl
 |b::l,S,h=>by
  cases a:p b with
  |true=>
   rw[List.filter_cons_of_pos a];show (S.IJ b).parents l=(S.IJ b).parents (l.filter p);exact eW p l _ λc hc x f d=>h c (dc _ hc) x (kD f d) d
  |false=>
   rw[List.filter_cons_of_neg (by rw[a];decide)];have e:S.IJ b=S:=by
    unfold St.IJ
    split
    ·rename_i x f;rw[if_neg];intro d;rw[h b eT x (ba f) d] at a;cases a
    ·rfl
   show (S.IJ b).parents l=_;rw[e];exact eW p l S λc hc=>h c (dc _ hc)
theorem fJ (id:Nat): ∀(l:List Nat)(S:St){c:Nat}{y:PS},(c,y)∈(S.IH id l).ps-> ∃z,(c,z)∈S.ps/\z.st=y.st/\z.f=y.f
 |[],S,c,y,h=>⟨y,h,rfl,rfl⟩
 |b::l,S,c,y,h=>by
  unfold St.IH at h;obtain⟨z,a,g,d⟩:=fJ id l _ h
  split at a
  ·rename_i w hw
   split at a
   ·rcases aN a with e|⟨i,_⟩
    ·cases e;exact⟨w,ba hw,g,d⟩
    ·exact⟨z,i,g,d⟩
   ·exact⟨z,a,g,d⟩
  ·exact⟨z,a,g,d⟩
def St.upd (S:St)(b:Nat)(g:PS->PS):St:={S with ps:=S.ps.map λq=>if q.1=b then(b,g q.2) else q}
structure NT (g:PS->PS):Prop where
 id: ∀y,(g y).id=y.id
 par: ∀y,(g y).par=y.par
 st: ∀y,(g y).st=y.st
 stat: ∀y,(g y).stat=y.stat
 p1: ∀y,g {y with par:=1}={g y with par:=1}
 s6: ∀y s,g {y with st:=6,stat:=s}={g y with st:=6,stat:=s}
theorem upd_ne (h:c≠b):(S.ID c y).upd b g=(S.upd b g).ID c y:=by
 unfold St.upd St.ID;simp only[kt];congr 1;apply k0;intro q _;simp only[Function.comp];by_cases a:q.1=c
 ·rw[if_pos a,if_neg (show¬(c,y).1=b from h),if_neg (show¬q.1=b by rw[a];exact h),if_pos a]
 ·rw[if_neg a];by_cases d:q.1=b
  ·rw[if_pos d,if_neg (show¬(b,g q.2).1=c fromλe=>h e.symm)]
  ·rw[if_neg d,if_neg a]
theorem tA:(S.ID b y).upd b g=(S.upd b g).ID b (g y):=by
 unfold St.upd St.ID;simp only[kt];congr 1;apply k0;intro q _;simp only[Function.comp];by_cases a:q.1=b
 ·rw[if_pos a,if_pos rfl,if_pos a,if_pos rfl]
 ·rw[if_neg a,if_neg a,if_neg a]
theorem k6:(S.upd b g).get c=(S.get c).map λy=>if c=b then g y else y:=by
 unfold St.get St.upd;simp only[List.find?_map];have e:((λq:Nat×PS=>q.1==c)∘λq:Nat×PS=>if q.1=b then(b,g q.2) else q)=λq=>q.1==c:=by
  funext q
  simp only[Function.comp]
  split
  ·rename_i h;rw[h]
  ·rfl
 rw[e];cases h:S.ps.find? λq=>q.1==c with
 |none=>rfl
 |some q=>
  have a:=OU h;simp at a;simp only[qs,a]
  split<;>rfl
theorem od (a:NT g)(id:Nat): ∀(l:List Nat)(S:St),(S.upd b g).IH id l=(S.IH id l).upd b g
 |[],S=>rfl
 |c::l,S=>by
  unfold St.IH;rw[<-od a id l];congr 1;rw[k6];cases h:S.get c with
  |none=>rfl
  |some y=>
   simp only[qs];by_cases hc:c=b
   ·subst hc;simp only[if_true,a.par]
    split
    ·rw[tA,a.p1]
    ·rfl
   ·simp only[if_neg hc]
    split
    ·rw[upd_ne hc]
    ·rfl
theorem rJ (a:NT g):(S.upd b g).II x=S.II x:=by
 unfold St.II St.upd;rw[List.findIdx?_map];congr 1
 funext q
 simp only[Function.comp,Kl]
 split
 ·simp only[a.par,a.st]
 ·rfl
theorem kE {b d:Type}(f:b->d): ∀(l:List b)(i:Nat),(l.map f).eraseIdx i=(l.eraseIdx i).map f
 |[],_=>rfl
 |_::_,0=>rfl
 |a::l,i+1=>by simp[kE f l i]
theorem zX (hc:c≠b)(a:NT g)(i:Nat):(S.upd b g).take c x i=(S.take c x i).upd b g:=by
 unfold St.take;have e:(S.upd b g).ps[i]? =(S.ps[i]?).map λq=>if q.1=b then(b,g q.2) else q:=by unfold St.upd;simp
 rw[e];cases S.ps[i]? with
 |none=>rfl
 |some q=>
  simp only[qs];rw[upd_ne hc];have d:told x (if q.1=b then(b,g q.2) else q).2=told x q.2:=by
   split
   ·unfold told;simp only[a.id,a.stat]
   ·rfl
  rw[d];congr 1;unfold St.upd St.IP;simp only[kE]
theorem rK (a:NT g)(hb: ∀y,(b,y)∈S.ps->y.st≠2):(S.upd b g).IJ c=(S.IJ c).upd b g:=by
 unfold St.IJ;rw[k6];cases h:S.get c with
 |none=>rfl
 |some y=>
  simp only[qs];by_cases hc:c=b
  ·subst hc;have d:=hb y (ba h);simp only[if_true,a.st];rw[if_neg d,if_neg d]
  ·simp only[if_neg hc]
   split
   ·rw[rJ a];cases S.II y with
    |none=>rfl
    |some i=>
     have e:(S.upd b g).ps[i]? =(S.ps[i]?).map λq=>if q.1=b then(b,g q.2) else q:=by unfold St.upd;simp
     simp only[e];cases S.ps[i]? with
     |none=>rfl
     |some q=>
      simp only[qs];have f:told y (if q.1=b then(b,g q.2) else q).2=told y q.2:=by
       split
       ·unfold told;simp only[a.id,a.stat]
       ·rfl
      rw[f,zX hc a];unfold St.IV;show _=((S.take c y i).ID c _|>.upd b g).setRow _ _;rw[upd_ne hc];rfl
   ·rfl
theorem kF (d:NT g): ∀(l:List Nat)(S:St),(∀y,(b,y)∈S.ps->y.st≠2)->(S.upd b g).parents l=(S.parents l).upd b g
 |[],S,_=>rfl
 |c::l,S,h=>by
  show ((S.upd b g).IJ c).parents l=((S.IJ c).parents l).upd b g;rw[rK d h];exact kF d l _ λy e a=>h y (kD e a) a
theorem tB (hn:(S.ps.map (·.1)).Nodup)(hb:(b,x)∈S.ps):S.upd b g=S.ID b (g x):=by
 unfold St.upd St.ID;congr 1;apply k0;intro q a
 split
 ·rename_i h;have:(b,q.2)∈S.ps:=by rw[<-h];exact a
  rw[aS hn hb this]
 ·rfl
theorem Fv (h: ∀q∈S.ps,q.1≠b):S.upd b g=S:=by
 unfold St.upd;have:(S.ps.map λq=>if q.1=b then(b,g q.2) else q)=S.ps:=by
  conv=>rhs;rw[<-List.map_id S.ps]
  apply k0;intro q a;rw[if_neg (h q a)];rfl
 rw[this]
theorem zY (hn:(S.ps.map (·.1)).Nodup)(v:Int):S.r0 b v=S.upd b (·.r0 v):=by
 unfold St.r0;cases h:S.get b with
 |some z=>exact(tB (g:=λy=>y.r0 v) hn (ba h)).symm
 |none=>
  refine(Fv λq a e=> ?_).symm;have:=aY (b:=q.1) (x:=q.2) hn a;rw[e,h] at this;cases this
theorem pt (v:Int):NT (·.r0 v):=⟨λ_=>rfl,λ_=>rfl,λ_=>rfl,λ_=>rfl,λ_=>rfl,λ_ _=>rfl⟩
end
theorem gL:zeroAt prog 155=some (.pointer none):=bD
theorem jG:KJ prog 155=some 8:=bD
theorem bj (a:Sl)(sz n:Nat):Km (Kj a sz n)=true:=by unfold Kj;split<;>rfl
theorem dm {a:Sl}{xs:List Value}{e:TypeId}{L:Ka}(h:Kf a xs e L){n:Nat}(hn:xs.length=n): ∃base cap,Kj a 1 n= .slice base n cap/\ ∀i v,xs[i]? =some v-> ∃b,a.b=some b/\base=some ⟨b,0,none⟩/\At L b i v:=by
 subst hn;unfold Kj;cases hb:a.b with
 |none=>
  unfold Kf at h;rw[hb] at h;obtain⟨rfl,_⟩:=h;exact⟨none,0,rfl,λi v d=>by simp at d⟩
 |some b=>
  refine⟨some ⟨b,0,none⟩,_,rfl,λi v d=>⟨b,rfl,rfl,true,_,_,_,h.mem hb, ?_⟩⟩;have f:=(mo.1 d).1;rw[nw,rD f];exact d
theorem fh {New:Obj->Prop}{N:Nat}{b:Env}{L:Ka}{d:Option Tmp}{ty:TypeId}{ps:String}{af:Array Edge}{g:Option (Nat×Bool)}{x y:Operand}{P:Program}{t e:TypeId}{a:Sl}{xs:List Value}{n nb:Nat}{v z:Value}(hx:ev b x=some (Kj a 1 n):=by rfl)(hy:ev b y=some (.slice (some ⟨nb,0,none⟩) 1 1):=by rfl)(hnd:(L.map (·.1)).Nodup)(hu:P.underlying t=some (.slice e))(hs:Kd P e=some 1)(hb:KJ P e=some 8)(hz:zeroAt P e=some z)(hzs:z.cells.size=1)(hN: ∀cs,New (.cells cs e)) (ha:Kf a xs e L) (hn:xs.length=n) (hm:(nb,true,Obj.cells #[v] e)∈L) (hpl:Km v=true) (h8:n<=17000000000000):
 EO P New N b L ⟨d, .call ⟨.builtin .append, #[x,y], #[t,t]⟩,ty,ps,af,g⟩ (λr L'=> ∃f,r=Kj f 1 (n+1)/\MM L e a (xs++[v]) f L'):=by
 have i:=bR (P:=P) (sz:=1) (n:=1) (len:=1) (cap:=1) (o:=0) hm (by show 0+1*1<=1;decide);exact iu (ys:=[v]) (by_:=7) (m:=1) hx hy hnd hu hs hb hz hzs hN ha bl i rfl (by simp[hpl]) bx bl
theorem mI {New:Obj->Prop}{N:Nat}{e:Env}{L:Ka}{d:Option Tmp}{ty:TypeId}{ps:String}{af:Array Edge}{g:Option (Nat×Bool)}{x:Operand}{v:Int}(hN:New (.cells #[.int .i64 v] 3))(hx:ev e x=some (.int .i64 v):=by rfl):
 EO prog New N e L ⟨d, .buildSlice 54 1 #[(0,x)],ty,ps,af,g⟩ (λr a=> ∃b,(∀t∈L,t.1≠b)/\r= .slice (some ⟨b,0,none⟩) 1 1/\a=(b,true, .cells #[.int .i64 v] 3)::L):=
 gI (v:= .int .i64 v) (sz:=1) (hN:=hN) (hv:=rfl) (hx:=hx) (hu:=U54) (hs:=bJ) (hz:=mm) (h0:=bx) (h24:=bx)
abbrev tellX (X:RX)(k id a:Int):RX:={X with ws:=X.ws++[((X.now:Int),k,id,a)]}
theorem pv: ∃n,∀{z}{F:Kn z}{r:DM F}{d s}(o R:Nat)(B:RB)(T:St)(X:RX)(L:Ka)(kd id a:Int),(∀s o,(r s).New o)->Ki o R B T X L->X.ws.length<=10000->
 Kb r prog d 102 [ptr R, .int .i64 kd, .int .i64 id, .int .i64 a].toArray n s L (λs' v L'=>s=s'/\v= .tuple #[]/\ ∃G,To o R B T L G T (tellX X kd id a) L'):=by
 constructor;intro z F r d s o R B T X L kd id a g j hw;have D:At L R 15 (Kj B.ae 4 X.ws.length):=j.kat rfl;have E:At L R 13 (.int .i64 (X.now:Nat)):=j.kat rfl;co_applyP ar 25 func102 ntmps102;co_applyP aM [] 14 (nf:=0) mixed;co_applyP(bZ);co_applyP tr 12 rfl (aQ (DW _ _ _ _)) pN;co_applyP te (i:=13) rfl (gI (sz:=4) (hN:=g _ _) (hv:=rfl) (hu:=U38) (hs:=iZ) (hz:=uA) (h0:=bx) (h24:=bx));rintro _ _ ⟨u,p,rfl,rfl⟩;refine⟨cx bE (λt C=>dc _ C), ?_⟩;co_applyP aF;intro hnd;have l:=cT (o:= .cells (LK (X.now:Nat) kd id a).cells 51) j.fn p;have x:Ext L _:=⟨l.fn,l.sub⟩;have b:=j.ext x;have y:Reads prog ((u,true, .cells (LK (X.now:Nat) kd id a).cells 51)::L) 4 1 (.slice (some ⟨u,0,none⟩) 1 1) (MD [((X.now:Int),kd,id,a)]).toArray:=by
  have:=bR (P:=prog) (sz:=4) (n:=1) (len:=1) (cap:=1) (o:=0) l.self (by show 0+1*4<=4;decide);exact this
 co_applyP te (i:=14) rfl (iu (a:=B.ae) (by_:=31) (xs:=MD X.ws) (n:=X.ws.length) (m:=1) (hnd:=hnd) (hu:=U38) (hs:=iZ) (hb:=zR) (hz:=uA) (hzs:=rfl) (hN:=λcs=>g _ _) (ha:=b.ev) (hn:=jD _) (hr:=y) (hm:=rfl) (hpl:=rfl) (h0:=bx) (h8:=bl));rintro _ _ ⟨H,rfl,f⟩;refine⟨aj bE, ?_⟩;co_applyP to 15 rfl (bI) (aj bE);co_applyP to 16 rfl ((br (hf:=nz))) (aj bE);co_applyP aF;intro e;co_applyP te (i:=17) rfl (bX (hnd:=e) (hm:=f.ch.keep (Lg.sl b.fn b.ev bx) b.k) (hi:=by show 15<16;decide) (hp:=bj _ _ _) (hs:=xK));rintro _ _ ⟨rfl,A⟩;refine⟨aj bE, ?_⟩;co_applyP(zo);change∃v,Ko .. =some v/\_;rw[<-Cx] at f;exact⟨_,rfl,rfl,rfl,_,To.pre x (To.of (b.setE f A (by simp[ME])))⟩
theorem pw: ∃n,∀{E}{F:Kn E}{D:DM F}{f s}(o R:Nat)(B:RB)(T:St)(X:RX)(L:Ka)(id:Int),Ki o R B T X L->T.ps.length<=8->
 Kb D prog f 100 [ptr R, .int .i64 id].toArray n s L (λs' v L'=>s=s'/\L=L'/\v=MB ((T.find id).map λq=>B.p q.1)):=by
 constructor;intro E F D f s o R B T X L id C N;obtain⟨u,cap,G,A⟩:=dm C.pl (n:=T.ps.length) bE;have J:At L R 5 (.slice u T.ps.length cap):=by rw[<-G];exact C.kat rfl
 co_applyP ar 35 func100 ntmps100;co_applyP(aO);co_applyP aU (λk s' m L'=>s'=s/\L'=L/\ ∃d j,T.ps=d++j/\(∀q∈d,((q.2.id:Int)==id)=false)/\k+d.length=8/\kn m [(5, .int .i64 d.length),(1, .int .i64 id),(0,ptr R)]) 8
 ·exact⟨rfl,rfl,[],T.ps,rfl,bE,rfl,rfl⟩
 rintro k s' m L' ⟨rfl,rfl,d,j,l,z,M,he⟩;co_applyP aA he;have a:=congrArg List.length l;simp only[mb] at a;co_applyP(aP);co_applyP aI rfl;intro hc
 ·cases j with
  |nil=>simp at hc a;omega
  |cons q j=>
   obtain⟨b,hb,y,I⟩:=A d.length (ptr (B.p q.1)) (by rw[l];simp);subst y;have K:=C.pat (b:=q.1) (x:=q.2) (by rw[l];simp) (i:=0) rfl;simp at a;co_applyP(aH);co_applyP(ax);co_applyP aI rfl;intro g;co_applyP(bf);exact xI _ ⟨rfl,rfl,rfl,by rw[ua l z g];rfl⟩;intro g;co_applyP(aC);change∃k',k'<_/\_;refine⟨k-1,bl,rfl,rfl,d++[q],j,by simp[l], ?_,by simp;omega, ?_⟩
   ·intro r H;rcases cE.1 H with h|h
    ·exact z r h
    ·simp at h;rw[h];exact g
   ·have e:IntKind.i64.wrap ((d.length:Int)+1)=((d++[q]).length:Int):=ag
    rw[<-e];rfl
 intro hc;co_applyP(au);change∃v,Ko .. =some v/\_;cases j with
 |nil=>exact⟨_,rfl,rfl,rfl,by rw[nC (by rw[l];simpa using z)];rfl⟩
 |cons q j=>simp at hc a;omega
def wo (l:List Nat)(b:Nat):List Nat:=l.filter λc=> !decide (c=b)
theorem zZ (l m:List Nat)(b:Nat):wo (l++m) b=wo l b++wo m b:=by simp[wo]
theorem HF (l:List Nat)(b:Nat):(wo l b).length<=l.length:=O5 _ _
theorem fK: ∃n,∀{σ}{F:Kn σ}{Y:DM F}{r s}(L:Ka)(a:Sl)(l:List Nat)(b:Nat),(∀s o,(Y s).New o)->K5 L->Kf a (KM l) 3 L->l.length<=8->
 Kb Y prog r 141 [Kj a 1 l.length, .int .i64 b].toArray n s L (λs' v L'=>s=s'/\ ∃j,v=Kj j 1 (wo l b).length/\Ext L L'/\MM L 3 a (KM (wo l b)) j L'/\ ∀c,j.b=some c-> ∀t∈L,t.1≠c):=by
 constructor;intro σ F Y r s L a l b V hF Z h8;obtain⟨D,cap,hv,T⟩:=dm Z (n:=l.length) bE;rw[hv];co_applyP ar 27 func141 ntmps141;co_applyP(bf);co_applyP aU (λk s' A L'=>s=s'/\Ext L L'/\ ∃i z j,l=i++z/\k+i.length=8/\Kf j (KM (wo i b)) 3 L'/\(∀c,j.b=some c-> ∀t∈L,t.1≠c)/\kn A [(6, .int .i64 i.length),(5,Kj j 1 (wo i b).length),(1, .int .i64 b),(0, .slice D l.length cap)]) 8
 ·exact⟨rfl,⟨hF,λ_ h=>h⟩,[],l,⟨none,[]⟩,rfl,rfl,⟨rfl,rfl⟩,bE,rfl⟩
 rintro k s' A L' ⟨rfl,y,i,z,j,G,hk,u,p,he⟩;co_applyP aA he;have m:=congrArg List.length G;simp only[mb] at m;co_applyP(aR);co_applyP aI rfl;intro hc
 ·cases z with
  |nil=>simp at hc m;omega
  |cons q z=>
   obtain⟨g,hg,Q,X⟩:=T i.length (.int .i64 q) (by rw[G];simp);subst Q;have b':=y.at X;simp at m;have e:IntKind.i64.wrap ((i.length:Int)+1)=((i++[q]).length:Int):=ag
   co_applyP(zo);co_applyP bL ((λR B C=>s=R/\Ext L C/\ ∃j,Kf j (KM (wo (i++[q]) b)) 3 C/\(∀c,j.b=some c-> ∀t∈L,t.1≠c)/\kn B [(6, .int .i64 i.length),(5,Kj j 1 (wo (i++[q]) b).length),(1, .int .i64 b),(0, .slice (some ⟨g,0,none⟩) l.length cap)]));co_applyP(bm);co_applyP aI rfl;intro P;co_applyP(aC)
   ·have O:q≠b:=λe=>by simp[e] at P
    co_applyP bB rfl (mI (V _ _));intro nb L1 H;co_applyP oeN rfl (λhnd=>fh (e:=3) (hnd:=hnd) (hu:=U54) (hs:=bJ) (hb:=jv) (hz:=mm) (hzs:=rfl) (hN:=λcs=>V _ _) (ha:=u.mono λc _ o=>H.sub _) (hn:=bE) (v:= .int .i64 (q:Nat)) (hm:=H.self) (hpl:=rfl) (h8:=by have:=HF i b;omega));rintro _ L2 ⟨J,rfl,I⟩;co_applyP(ay);change _=_/\Ext _ _/\ ∃j,_;have M:wo (i++[q]) b=wo i b++[q]:=by rw[zZ];simp[wo,O]
    rw[M];refine⟨rfl,⟨I.fn,λt x=>I.sub t (H.sub t (y.s t x)) λe=>p _ e t x rfl⟩,J,by have:=I.ok;simpa [KM] using this,λc hc t x=> ?_,by simp;rfl⟩;rcases I.d c hc with U|U
    ·exact p c U t x
    ·exact U t (H.sub t (y.s t x))
   intro P;co_applyP(zo);change _=_/\Ext _ _/\ ∃j,_;have S:q=b:=by simp at P;omega
   have M:wo (i++[q]) b=wo i b:=by rw[zZ];simp[wo,S]
   rw[M];exact⟨rfl,y,j,u,p,rfl⟩;rintro _ c' L2 ⟨rfl,N,J,K,E,W⟩;co_applyP aA W;co_applyP(au);change∃k',k'<_/\_;rw[e];exact⟨k-1,bl,rfl,N,i++[q],z,J,by simp[G],by simp;omega,K,E,rfl⟩
 intro hc;co_applyP(aC);change∃v,Ko .. =some v/\_;cases z with
 |nil=>
  simp only[wc] at G;subst G;exact⟨_,rfl,rfl,j,rfl,y,⟨u,y.f,λt x _=>y.s t x,λc hc=> .inr (p c hc)⟩,p⟩
 |cons q z=>simp at hc m;omega
section
variable {T:St}{b j:Nat}
def St.Jx (T:St)(b j:Nat):St:={T with rows:=λl=>if l<j then wo (T.rows l) b else T.rows l}
theorem z5:T.Jx b 0=T:=by unfold St.Jx;simp
theorem z6:(T.Jx b j).setRow j (wo (T.rows j) b)=T.Jx b (j+1):=by
 unfold St.Jx St.setRow put;congr 1
 funext l
 by_cases h:l=j
 ·subst h;simp
 ·simp only[if_neg h];by_cases a:l<j
  ·rw[if_pos a,if_pos bl]
  ·rw[if_neg a,if_neg bl]
theorem z7 (r3: ∀l,3<=l->T.rows l=[]):T.Jx b 3=T.gone b:=by
 unfold St.Jx St.gone;congr 1
 funext l
 split
 ·rfl
 ·rw[r3 l bl];rfl
end
theorem mJ (B:RB)(T:St)(X:RX){l:Nat}(hl:l<3):(ME B T X)[7+l]? =some (Kj (B.a l) 1 (T.rows l).length):=by
 rcases l with _|_|_|l
 ·rfl
 ·rfl
 ·rfl
 ·omega
theorem j7 (B:RB)(T:St)(X:RX){l:Nat}(hl:l<3)(b:Sl)(zs:List Nat):(ME B T X).setIfInBounds (7+l) (Kj b 1 zs.length)=ME {B with a:=put B.a l b} (T.setRow l zs) X:=by
 rcases l with _|_|_|l
 ·rfl
 ·rfl
 ·rfl
 ·omega
theorem jH: ∃n,∀{J}{F:Kn J}{E:DM F}{f s}(o R:Nat)(B:RB)(T:St)(X:RX)(L:Ka)(b:Nat)(x:PS),(∀s o,(E s).New o)->Ki o R B T X L->(b,x)∈T.ps->(∀l,l<3->(T.rows l).length<=8)->(∀l,3<=l->T.rows l=[])->
 Kb E prog f 118 [ptr R,ptr (B.p b)].toArray n s L (λs' v L'=>s=s'/\v= .tuple #[]/\ ∃g,To o R B T L g (T.gone b) X L'):=by
 obtain⟨Z,U⟩:=fK;constructor;intro J F E f s o R B T X L b x V C hb S O;co_applyP ar 26 func118 ntmps118;co_applyP(av);co_applyP aU (λk s' z L'=>s=s'/\ ∃(j:Nat) (g:RB),k+j=3/\To o R B T L g (T.Jx b j) X L'/\kn z [(4, .int .i64 j),(1,ptr (B.p b)),(0,ptr R)]) 3
 ·exact⟨rfl,0,B,rfl,by rw[z5];exact C.to,rfl⟩
 rintro k s' z L' ⟨rfl,j,g,Y,u,he⟩;co_applyP aA he;have d:=u.r;have K:=u.q C hb;have N:At L' (B.p b) 0 (.int .i64 (b:Nat)):=u.num C hb;co_applyP(au);co_applyP aI rfl;intro hc
 ·have m:j<3:=by simp at hc;omega
  have H:(T.Jx b j).rows j=T.rows j:=if_neg (Nat.lt_irrefl j);have I:At L' R (7+j) (Kj (g.a j) 1 (T.rows j).length):=by rw[<-H];exact d.kat (mJ _ _ _ m)
  have D:Kf (g.a j) (KM (T.rows j)) 3 L':=by rw[<-H];exact d.rw j m
  have e:IntKind.i64.wrap ((j:Int)+1)=((j+1:Nat):Int):=ag
  co_applyP(ax);co_applyP aM [] 13 mixed;co_applyP(bQ);co_applyP tr 14 rfl bI pN;co_applyP(zo);co_applyP tc 13 rfl rfl rfl (U L' (g.a j) (T.rows j) b V d.fn D (S j m));rintro _ _ _ ⟨rfl,W,rfl,Q,G,P⟩;refine⟨aj bE, ?_⟩;co_applyP to 16 rfl ((cW sG dC)) (aj bE);co_applyP aF;intro A;co_applyP te (i:=17) rfl (bX (hnd:=A) (hm:=Q.s _ d.k) (hi:=by show _<16;omega) (hp:=bj _ _ _) (hs:=dC));rintro _ _ ⟨rfl,M⟩;refine⟨aj bE, ?_⟩;co_applyP(aC);change∃k',k'<_/\_;have y:=u.trans (To.of (d.J2 m G M (j7 _ _ _ m _ _)));rw[z6] at y;rw[e];exact⟨k-1,bl,rfl,j+1,_,bl,y,rfl⟩
 intro hc;co_applyP(zo);change∃v,Ko .. =some v/\_;have m:j=3:=by simp at hc;omega
 subst m;rw[z7 O] at u;exact⟨_,rfl,rfl,rfl,g,u⟩
theorem k8: ∃n,∀{Z}{F:Kn Z}{S:DM F}{y s}(o R:Nat)(B:RB)(T:St)(X:RX)(L:Ka)(b:Nat)(x:PS),(∀s o,(S s).New o)->Ki o R B T X L->(b,x)∈T.ps->x.lv<3->(T.rows x.lv).length<=10000->b≠o->x.st≠6->
 Kb S prog y 98 [ptr R,ptr (B.p b)].toArray n s L (λs' v L'=>s=s'/\v= .tuple #[]/\ ∃B',To o R B T L B' (T.IV b x) X L'):=by
 constructor;intro Z F S y s o R B T X L b x Q H hb g h8 P h6;have M:=H.sz _ hb h6;co_applyP ar 38 func98 ntmps98;co_applyP(au);co_applyP osm rfl (hs:=bJ) (hm:=H.p _ hb) (hi:=by rw[aX];decide);intro L1 hU;have z:=To.of (H.ID hb hU {x with st:=1} (B.e b) o rfl (hun:=λh=>nomatch h) (hdu:=H.du _ hb) (ho:=λ_ _ _=>fz) (hsz:=λ_=>M));have G:=ai (x:={x with st:=1}) hb;co_applyP(aC);co_applyP osm rfl (hs:=bJ) (hm:=z.r.p _ G) (hi:=by rw[aX];decide);intro C K;have l:=z.trans (To.of (z.r.ID G K {x with st:=1,used:=0} {put B.e b (B.e b) b with du:=0} o rfl (hun:=λh=>nomatch h) (hdu:=by rw[if_neg P]) (ho:=λ_ _ _=>fz) (hsz:=λ_=>M)));rw[bd] at l;have E:=ai (x:={x with st:=1,used:=0}) hb;have j:=l.r;generalize O:({B with e:=_}:RB)=B2 at l j;have Y:B2.p b=B.p b:=by rw[<-O]
 have c':At C (B.p b) 5 (.int .i64 (x.lv:Nat)):=by rw[<-Y];exact j.pat E (i:=5) rfl
 have b':At C (B.p b) 0 (.int .i64 (b:Nat)):=l.num H hb;have W:At C R (7+x.lv) (Kj (B2.a x.lv) 1 (T.rows x.lv).length):=j.kat (mJ _ _ _ g);have d:(B.p b,true,Obj.cells (KV {x with st:=1,used:=0} (B2.e b)) 154)∈C:=by rw[<-Y];exact j.p _ E
 co_applyP(zo);co_applyP aM [(B.p b,true,Obj.cells (KV {x with st:=1,used:=0} (B2.e b)) 154)] 22 (nf:=0) mixed;co_applyP tr 0 rfl bk (aa (by simpa using d));co_applyP tr 1 rfl bk (aa (by simpa using d));co_applyP tr 2 rfl bI (aa (by simpa using d));co_applyP tr 3 rfl (br (hf:=dD)) (aa (by simpa using d));co_applyP tr 4 rfl (br (hf:=fe)) (aa (by simpa using d));co_applyP tr 5 rfl (bT (ht:=dq)) (aa (by simpa using d));co_applyP tr 6 rfl bk (aa (by simpa using d));co_applyP tr 7 rfl bk (aa (by simpa using d));co_applyP tr 8 rfl bI (aa (by simpa using d));co_applyP tr 9 rfl (br (hf:=dD)) (aa (by simpa using d));co_applyP tr 10 rfl (br (hf:=fe)) (aa (by simpa using d));co_applyP t0 11 rfl (bT (ht:=dq)) (aa (by simpa using d));co_applyP tr 12 rfl bI (aa (by simpa using d));co_applyP tr 13 rfl (br (hf:=gA)) (aa (by simpa using d));co_applyP tr 14 rfl (cW sG dC) (aa (by simpa using d));co_applyP t0 15 rfl (bT (ht:=xN)) (aa (by simpa using d));co_applyP tr 16 rfl bk (aa (by simpa using d));co_applyP tr 17 rfl bI (aa (by simpa using d));co_applyP tr 18 rfl (br (hf:=dD)) (aa (by simpa using d));co_applyP tr 19 rfl (br (hf:=fR)) (aa (by simpa using d));co_applyP t0 20 rfl (bT (ht:=dq)) (aa (by simpa using d));co_applyP tr 23 rfl bI (aa (by simpa using d));co_applyP tr 24 rfl (br (hf:=gA)) (aa (by simpa using d));co_applyP te (i:=21) rfl (mI (Q _ _));rintro _ _ ⟨nb,N,rfl,rfl⟩;refine⟨cx (by simpa using d) (λt D=>dc _ D), ?_⟩;co_applyP aF;intro hnd;have A:=cT (o:= .cells #[.int .i64 (b:Nat)] 3) j.fn N;have U:Ext C _:=⟨A.fn,A.sub⟩;have f:=j.ext U;co_applyP te (i:=22) rfl (fh (e:=3) (hnd:=hnd) (hu:=U54) (hs:=bJ) (hb:=jv) (hz:=mm) (hzs:=rfl) (hN:=λcs=>Q _ _) (ha:=f.rw _ g) (hn:=by rw[ia];rfl) (v:= .int .i64 (b:Nat)) (hm:=A.self) (hpl:=rfl) (h8:=bl));rintro _ _ ⟨a',rfl,m⟩;refine⟨aj (by simpa using m.ch.keep (Lg.sl f.fn (f.rw _ g) bx) (A.sub _ d)), ?_⟩;co_applyP to 25 rfl (cW sG dC (h1:=Int.ofNat_lt.2 g)) (aj (by simpa using m.ch.keep (Lg.sl f.fn (f.rw _ g) bx) (A.sub _ d)));co_applyP aF;intro J;have V:=m.ch.keep (Lg.sl f.fn (f.rw _ g) bx) f.k;have u:=m.ch.keep (Lg.sl f.fn (f.rw _ g) bx) (A.sub _ d);co_applyP te (i:=26) rfl (bX (hnd:=J) (hm:=V) (hi:=by show _<16;omega) (hp:=bj _ _ _) (hs:=dC))
 rintro _ _ ⟨rfl,I⟩;refine⟨aj (by simpa using I.ne _ u λe=>absurd (cY m.fn u (e▸V)) bx), ?_⟩;co_applyP(zo);change∃v,Ko .. =some v/\_;have ez:KM ((T.ID b {x with st:=1,used:=0}).rows x.lv)++[.int .i64 (b:Nat)]=KM (T.rows x.lv++[b]):=by rw[KM,KM,l3];rfl
 rw[ez] at m;exact⟨_,rfl,rfl,rfl,_,l.trans (To.pre U (To.of (f.J2 g m I (by rw[<-j7 _ _ _ g];simp))))⟩
def St.Jz (T:St)(b:Nat)(x:PS):St:=match T.II x with
 |some i=>(match T.ps[i]? with
  |some q=>if x.st=1 then T.take b x i else(T.take b x i).IV b (told x q.2)
  |none=>T)
 |none=>T
theorem og {a:Sl}{xs:List Value}{e:TypeId}{L:Ka}{P:Program}(ha:Kf a xs e L){g:Nat}(hb:a.b=some g){i m cap len cap':Nat}(hc:cap=xs.length+a.junk.length)(h:i+m<=xs.length):Reads P L 1 m (.slice (some ⟨g,cutAt 0 i cap 1,none⟩) len cap') ((xs.drop i).take m).toArray:=by
 have f:(xs++a.junk).toArray.size=cap:=by simp[hc]
 have d:cutAt 0 i cap 1+m*1<=(xs++a.junk).toArray.size:=by rw[f];unfold cutAt;split<;>omega
 have:=bR (P:=P) (n:=m) (sz:=1) (len:=len) (cap:=cap') (ha.mem hb) d;have e:(xs++a.junk).toArray.extract (cutAt 0 i cap 1) (cutAt 0 i cap 1+m*1)=((xs.drop i).take m).toArray:=by
  unfold cutAt
  split
  ·have hm:m=0:=bl
   subst hm;simp
  ·rw[List.extract_toArray];simp only[u7,ic,w9];rw[OS bl,sA ao,O8]
 rw[e] at this;exact this
theorem z8: ∃n,∀{σ}{F:Kn σ}{Δ:DM F}{b' s}(o R:Nat)(B:RB)(T:St)(X:RX)(L:Ka)(b:Nat)(x:PS),(∀s o,(Δ s).New o)->Ki o R B T X L->(b,x)∈T.ps->x.st≠6->x.lv<3->(T.rows x.lv).length<=10000->(x.st=1\/b≠o)->T.ps.length<=8->T.out b->
 Kb Δ prog b' 155 [ptr R,ptr (B.p b)].toArray n s L (λs' v L'=>s=s'/\v= .bool (T.II x).isSome/\ ∃B',To o R B T L B' (T.Jz b x) X L'):=by
 obtain⟨n1,g1⟩:=k8;constructor;intro σ F Δ b' s o R B T X L b x hN j hb h6 S' N' V' h8 K';obtain⟨x',cap,hv,Q'⟩:=dm j.pl (n:=T.ps.length) bE;have h5:At L R 5 (.slice x' T.ps.length cap):=by rw[<-hv];exact j.kat rfl
 have Y':At L (B.p b) 0 (.int .i64 (x.id:Nat)):=j.pat hb (i:=0) rfl;co_applyP ar 94 func155 ntmps155;co_applyP(aO);co_applyP aU (λk s' h' L'=>s'=s/\L'=L/\ ∃f l,T.ps=f++l/\(∀q∈f,Kl x q.2=false)/\k+f.length=8/\kn h' [(5, .int .i64 f.length),(1,ptr (B.p b)),(0,ptr R)]) 8
 ·exact⟨rfl,rfl,[],T.ps,rfl,bE,rfl,rfl⟩
 rintro k s' h' L' ⟨rfl,rfl,f,l,C,hn,hk,he⟩;co_applyP aA he;have H:=congrArg List.length C;simp only[mb] at H;co_applyP(aP);co_applyP aI rfl;intro hc
 ·cases l with
  |nil=>simp at hc H;omega
  |cons q l=>
   obtain⟨g,hg,G',hbv⟩:=Q' f.length (ptr (B.p q.1)) (by rw[C];simp);subst G';have U:q∈T.ps:=by rw[C];simp
   have hq1:At L' (B.p q.1) 1 (.int .i64 (q.2.par:Nat)):=j.pat (b:=q.1) (x:=q.2) U (i:=1) rfl;have hq2:At L' (B.p q.1) 2 (.int .i64 (q.2.st:Nat)):=j.pat (b:=q.1) (x:=q.2) U (i:=2) rfl;simp at H;have e1:IntKind.i64.wrap ((f.length:Int)+1)=((f.length+1:Nat):Int):=ag
   co_applyP(dE);co_applyP aK;co_applyP ct ([(42, .bool (!Kl x q.2)),(6,ptr (B.p q.1)),(5, .int .i64 f.length),(1,ptr (B.p b)),(0,ptr R)]);co_applyP(bQ)
   ·by_cases E:q.2.par=x.id
    ·have e3:((q.2.par:Int) !=(x.id:Int))=false:=by simp[E]
     rw[e3];co_applyP tr 12 rfl (bk) pI;co_applyP(aR);change _=_/\_=_/\kn _ _;refine⟨rfl,rfl, ?_⟩;have e4:((q.2.st:Int) !=6)= !Kl x q.2:=by
      unfold Kl;by_cases h:q.2.st=6
      ·simp[h,E]
      ·have: ¬(q.2.st:Int)=6:=bl
       simp[h,E,this]
     rw[<-e4];rfl
    ·have e3:((q.2.par:Int) !=(x.id:Int))=true:=ao
     rw[e3];co_applyP tu 12 rfl pI;co_applyP(aR);change _=_/\_=_/\kn _ _;refine⟨rfl,rfl, ?_⟩;have e4:true= !Kl x q.2:=by unfold Kl;simp[E]
     rw[<-e4];rfl
   co_applyP aI rfl;intro hw;co_applyP(aC);change∃k',k'<_/\_
   ·rw[e1];have D':Kl x q.2=false:=by simpa using hw
    refine⟨k-1,bl,rfl,rfl,f++[q],l,by simp[C], ?_,by simp;omega,by simp;rfl⟩;intro r u;rcases cE.1 u with h|h
    ·exact hn r h
    ·simp at h;rw[h];exact D'
   intro hw;co_applyP(bf);have t':Kl x q.2=true:=by simpa using hw
   have Y:q.2.par=x.id/\q.2.st=6:=by simpa [Kl] using t'
   have z':q.1≠b:=λe=>by
    have:(b,q.2)∈T.ps:=by rw[<-e];exact U
    rw[aS j.pn hb this] at h6;exact h6 Y.2
   have K:T.II x=some f.length:=by
    unfold St.II;rw[C,List.findIdx?_append,O0,t'];have:f.findIdx? (λq=>Kl x q.2)=none:=wb.2 hn;rw[this];simp
   have G:cap=(T.ps.map λq=>ptr (B.p q.1)).length+B.ap.junk.length:=by
    unfold Kj at hv;rw[hg] at hv;cases hv;simp
   have l':=og (P:=prog) j.pl hg (i:=0) (m:=f.length) (len:=f.length) (cap':=cap-0) G ao;have M':((T.ps.map λq=>ptr (B.p q.1)).drop 0).take f.length=f.map λq=>ptr (B.p q.1):=by rw[C];simp
   rw[M'] at l';simp only[ia] at G;co_applyP oy rfl (qx kH eO (h1:=by rw[G];omega));co_applyP oeN rfl (λhnd=>iu (a:=⟨none,[]⟩) (xs:=[]) (ys:=f.map λq=>ptr (B.p q.1)) (n:=0) (m:=f.length) (by_:=7) (hnd:=hnd) (hu:=kH) (hs:=eO) (hb:=jG) (hz:=gL) (hzs:=rfl) (hN:=λcs=>hN _ _) (ha:=⟨rfl,rfl⟩) (hn:=rfl) (hr:=l') (hm:=bE) (hpl:=by simp[Km]) (h0:=bx) (h8:=bl));rintro _ L1 ⟨a1,rfl,O⟩;have i': ∀t∈L',a1.b≠some t.1:=λt J e=>by
    rcases O.d _ e with h|h
    ·cases h
    ·exact h t J rfl
   have S:Ext L' L1:=⟨O.fn,λt J=>O.sub t J bE⟩;have A':=og (P:=prog) (j.ext S).pl hg (i:=f.length+1) (m:=l.length) (len:=l.length) (cap':=cap-(f.length+1)) (cap:=cap) (by simp;exact G) ao;have R':((T.ps.map λq=>ptr (B.p q.1)).drop (f.length+1)).take l.length=l.map λq=>ptr (B.p q.1):=by
    have e:(T.ps.map λq=>ptr (B.p q.1))=((f++[q]).map λq=>ptr (B.p q.1))++l.map λq=>ptr (B.p q.1):=by rw[C];simp
    rw[e,List.drop_left' bE,sD bE]
   rw[R'] at A';have Z':=S.at h5;co_applyP(bf);rw[e1];co_applyP oy rfl (qz kH eO (h1:=bl));co_applyP oeN rfl (λhnd=>iu (a:=a1) (xs:=f.map λq=>ptr (B.p q.1)) (ys:=l.map λq=>ptr (B.p q.1)) (n:=0+f.length) (m:=l.length) (by_:=7) (hy:=by rw[show l.length=T.ps.length-(((f.length+1:Nat):Int)).toNat by simp;omega];rfl) (hnd:=hnd) (hu:=kH) (hs:=eO) (hb:=jG) (hz:=gL) (hzs:=rfl) (hN:=λcs=>hN _ _) (ha:=O.ok) (hn:=bE) (hr:=A') (hm:=bE) (hpl:=by simp[Km]) (h0:=bx) (h8:=bl));rintro _ L2 ⟨a2,rfl,V⟩;co_applyP(ay);have A: ∀t∈L',t∈L2:=λt J=>V.sub t (S.s t J) (i' t J);have hp:MM L' 155 B.ap ((f++l).map λq=>ptr (B.p q.1)) a2 L2:=⟨by rw[l3];exact V.ok,V.fn,λt J _=>A t J,λc hc=> .inr λt J e=>by
    rcases V.d c hc with h|h
    ·exact i' t J (e▸h)
    ·exact h t (S.s t J) e⟩
   co_applyP osm rfl (hs:=sK) (hm:=A _ j.k) (hi:=by show 5<16;decide) (hp:=bj _ _ _);intro L3 hU;have hcs:(ME B T X).setIfInBounds 5 (Kj a2 1 (0+f.length+l.length))=ME {B with p:=B.p,e:=B.e,ap:=a2} {T.IP (f++l) with last:=T.last} X:=by
    unfold ME St.IP;simp
   have z: ∀r∈f++l,r∈T.ps:=λr u=>by
    rw[C];rcases cE.1 u with h|h
    ·exact cE.2 (.inl h)
    ·exact cE.2 (.inr (dc _ h))
   have n':(f++l).Sublist T.ps:=by rw[C];exact List.Sublist.append_left (List.sublist_cons_self _ _) f
   have W:=(j.setL (p':=B.p) (e':=B.e) (T':={T.IP (f++l) with last:=T.last}) hp hU hcs (hb:=λr u=>j.p r (z r u)) (hid:=λr u=>j.id r (z r u)) (hle:=λr u=>j.le r (z r u)) (hpn:=j.pn.sublist (n'.map _)) (hfi:=λr u=>j.pp.fi r (z r u)) (hwa:=λe he c hc y hy=>j.pp.wa e he c hc y (z _ hy)) (hun:=λr u=>j.un r (z r u)) (hdu:=λr u=>j.du r (z r u)) (hsz:=λr u=>j.sz r (z r u)) (hab:=λr u=>j.ab r (z r u)) (he:=λt J=>J) (hnew:=λr u=> .inl ⟨r,z r u,rfl⟩));have P': ∀r∈T.ps,r.1∈(f++l).map (·.1)\/Gone L3 (B.p r.1) r.1:=λr u=>by
    rw[C] at u;rcases cE.1 u with h|h
    ·exact .inl (cm.2 ⟨r,nx _ h,rfl⟩)
    ·rcases gn.1 h with h|h
     ·subst h;refine .inr ⟨_,hU.ne _ (A _ (j.p r U)) λe=>absurd (cY hp.fn (A _ (j.p r U)) ((show B.p r.1=R from e)▸A _ j.k)) bx,by rw[k5,j.id r U], ?_⟩;show some (Value.int .i64 (r.2.st:Nat))=_;rw[Y.2];rfl
     ·exact .inl (cm.2 ⟨r,rv _ h,rfl⟩)
   have j':To o R B T L' _ {T.IP (f++l) with last:=T.last} X L3:=⟨W.1,W.2,λ_ _=>rfl,cD _,P',j.le,cD _,λ_ _=>rfl⟩;have N:(b,x)∈({T.IP (f++l) with last:=T.last}:St).ps:=by
    show (b,x)∈f++l;rw[C] at hb;rcases cE.1 hb with h|h
    ·exact cE.2 (.inl h)
    ·rcases gn.1 h with h|h
     ·exact absurd (congrArg Prod.fst h).symm z'
     ·exact cE.2 (.inr h)
   have I':B.p q.1≠B.p b:=λe=>z' (j.inj U hb e);have u':=hU.ne _ (A _ (j.p q U)) λe=>absurd (cY hp.fn (A _ (j.p q U)) ((show B.p q.1=R from e)▸A _ j.k)) bx;have q':=j'.r;have X':At L3 (B.p q.1) 0 (.int .i64 (q.2.id:Nat)):=⟨true,_,_,_,u',rfl⟩;co_applyP(ay);co_applyP aM [] 11 (nf:=0) mixed;co_applyP(bf);co_applyP aF;intro hnd;co_applyP te (i:=11) rfl (bX (hnd:=hnd) (hm:=q'.p _ N) (hi:=by rw[aX];decide) (hs:=bh));rintro _ _ ⟨rfl,d'⟩;refine⟨aj bE, ?_⟩;rw[bC] at d';have w':=j'.trans (To.of (q'.ID N d' {x with r:=put x.r 0 ((q.2.id:Int)%65536)} (B.e b) o (cS x _ (i:=0) bx _) (hun:=j.un _ hb) (hdu:=j.du _ hb) (ho:=λ_ _ _=>fz) (hsz:=j.sz _ hb)));have Q:=ai (x:={x with r:=put x.r 0 ((q.2.id:Int)%65536)}) N;have M:=w'.r;have U':=d'.ne _ u' I';rename_i L4;have W':At L4 (B.p q.1) 3 (.int .i64 q.2.stat):=⟨true,_,_,_,U',rfl⟩;co_applyP(ay);co_applyP aM [] 11 (nf:=0) mixed;co_applyP(bf);co_applyP aF;intro y';co_applyP te (i:=11) rfl (bX (hnd:=y') (hm:=M.p _ Q) (hi:=by rw[aX];decide) (hs:=bh));rintro _ _ ⟨rfl,m'⟩;refine⟨aj bE, ?_⟩;rw[bC] at m';have I:=w'.trans (To.of (M.ID Q m' (told x q.2) (put B.e b (B.e b) b) o (cS _ _ (i:=1) bx _) (hun:=by have:=M.un _ Q;exact this) (hdu:=by have:=M.du _ Q;exact this) (hwa:=λe he hc=>absurd hc (K' e he)) (ho:=λ_ _ _=>fz) (hsz:=j.sz _ hb)))
   rw[bd] at I;have g':({T.IP (f++l) with last:=T.last}:St).ID b (told x q.2)=T.take b x f.length:=by
    unfold St.take;have e1:T.ps[f.length]? =some q:=by rw[C];simp
    have e2:T.ps.eraseIdx f.length=f++l:=by rw[C];exact jf
    rw[e1,e2]
   rw[g'] at I;have C':(b,told x q.2)∈(T.take b x f.length).ps:=by rw[<-g'];exact ai N
   have a':=I.r;have H':T.ps[f.length]? =some q:=by rw[C];simp
   rename_i L5;have r':=I.q j hb;have hst:At L5 (B.p b) 2 (.int .i64 (x.st:Nat)):=by rw[<-r'];exact a'.pat C' (i:=2) rfl
   have Z:T.Jz b x=if x.st=1 then T.take b x f.length else(T.take b x f.length).IV b (told x q.2):=by unfold St.Jz;rw[K];simp only[H']
   co_applyP(zo);co_applyP bL ((λO' v' F'=>s'=O'/\kn v' []/\ ∃B6,To o R B T L' B6 (T.Jz b x) X F'));co_applyP(aO);co_applyP aI rfl;intro f';co_applyP(ax)
   ·have D:x.st≠1:=by simp at f';omega
    have E':(T.take b x f.length).rows=T.rows:=by rw[<-g'];rfl
    rw[<-r'];co_applyP oc rfl rfl rfl (g1 o R _ _ X L5 b (told x q.2) hN a' C' S' (by rw[E'];exact N') (by rcases V' with h|h;exact absurd h D;exact h) h6);rintro _ _ _ ⟨rfl,rfl,B6,c'⟩;co_applyP(zo);change _=_/\kn _ _/\ ∃B6,_;exact⟨rfl,rfl,B6,by rw[Z,if_neg D];exact I.trans c'⟩
   intro f';co_applyP(zo);change _=_/\kn _ _/\ ∃B6,_;have D:x.st=1:=by simp at f';omega
   exact⟨rfl,rfl,_,by rw[Z,if_pos D];exact I⟩;rintro _ ε9 L9 ⟨rfl,J',B6,c'⟩;co_applyP aA J';co_applyP(av);exact xI _ ⟨rfl,rfl,by rw[K];rfl,B6,c'⟩
 intro hc;co_applyP(au);change∃v,Ko .. =some v/\_;cases l with
 |nil=>
  have K:T.II x=none:=wb.2 (by rw[C];simpa using hn);exact⟨_,rfl,rfl,by rw[K];rfl,B,by unfold St.Jz;rw[K];exact j.to⟩
 |cons q l=>simp at hc H;omega
theorem fV (x:PS)(e:RE){i:Nat}(hi:i<6):(KV x e)[79+i]? =some (.int .i64 (e.pi i:Nat)):=by
 rcases i with _|_|_|_|_|_|i
 ·rfl
 ·rfl
 ·rfl
 ·rfl
 ·rfl
 ·rfl
 ·omega
theorem uB (x:PS)(e:RE){i:Nat}(hi:i<6):(KV x e)[85+i]? =some (.bool (e.wr i)):=by
 rcases i with _|_|_|_|_|_|i
 ·rfl
 ·rfl
 ·rfl
 ·rfl
 ·rfl
 ·rfl
 ·omega
section
variable {o R:Nat}{B:RB}{T:St}{X:RX}{L:Ka}
theorem Ki.qat (h:Ki o R B T X L){n:Nat}(hn:0<n/\n<=B.no){i:Nat}{v:Value}(hv:(Me B n)[i]? =some v):At L (B.q n) i v:=⟨true,_,_,_,h.q n hn,hv⟩
end
def opn (e:RE)(m:Nat)(w:Bool)(i:Nat):Bool:=decide (e.pi i=m)&&(e.wr i==w)
theorem z9: ∃n,∀{x}{F:Kn x}{u:DM F}{a s}(o R:Nat)(B:RB)(T:St)(X:RX)(L:Ka)(m:Nat),Ki o R B T X L->0<m/\m<=B.no->B.no<=10000->
 Kb u prog a 162 [ptr R, .int .i64 (m:Nat)].toArray n s L (λs' v L'=>s=s'/\L=L'/\v=ptr (B.q m)):=by
 constructor;intro x F u a s o R B T X L m p hm y;obtain⟨g,cap,z,l⟩:=dm p.al (n:=B.no) bE;have D:At L R 6 (.slice g B.no cap):=by rw[<-z];exact p.kat rfl
 co_applyP ar 34 func162 ntmps162;co_applyP(aO);co_applyP aU (λk s' f L'=>s'=s/\L'=L/\ ∃i:Nat,i<m/\k+i=10000/\kn f [(5, .int .i64 i),(1, .int .i64 (m:Nat)),(0,ptr R)]) 10000
 ·exact⟨rfl,rfl,0,hm.1,rfl,rfl⟩
 rintro k s' f L' ⟨rfl,rfl,i,C,G,he⟩;co_applyP aA he;co_applyP(aP);co_applyP aI rfl;intro hc
 ·obtain⟨b,hb,j,A⟩:=l i (ptr (B.q (i+1))) (by rw[sE,List.getElem?_range bl];rfl);subst j;have E:At L' (B.q (i+1)) 0 (.int .i64 ((i+1:Nat):Nat)):=p.qat ⟨bl,bl⟩ rfl;have e:IntKind.i64.wrap ((i:Int)+1)=((i+1:Nat):Int):=ag
  co_applyP(aH);co_applyP(ay);co_applyP aI rfl;intro d;co_applyP(bf);change∃v,Ko .. =some v/\_;have r:i+1=m:=by simp at d;omega
  subst r;exact⟨_,rfl,rfl,rfl,rfl⟩;intro d;co_applyP(aC);change∃k',k'<_/\_;have r:i+1≠m:=by simp at d;omega
  rw[e];exact⟨k-1,bl,rfl,rfl,i+1,bl,bl,rfl⟩
 intro hc;co_applyP(au);change∃v,Ko .. =some v/\_;exfalso;simp at hc;omega
theorem tC: ∃n,∀{σ}{F:Kn σ}{Δ:DM F}{D s}(o R:Nat)(B:RB)(T:St)(X:RX)(L:Ka)(m:Nat),Ki o R B T X L->T.ps.length<=8->
 Kb Δ prog D 164 [ptr R, .int .i64 (m:Nat)].toArray n s L (λs' v L'=>s=s'/\L=L'/\ ∃r w:Nat,v= .tuple #[.int .i64 r, .int .i64 w]/\r<=48/\w<=48/\(0<r↔ ∃q∈T.ps,∃i,i<6/\opn (B.e q.1) m false i=true)/\(0<w↔ ∃q∈T.ps,∃i,i<6/\opn (B.e q.1) m true i=true)):=by
 constructor;intro σ F Δ D s o R B T X L m V h8;obtain⟨S,cap,hv,a'⟩:=dm V.pl (n:=T.ps.length) bE;have h5:At L R 5 (.slice S T.ps.length cap):=by rw[<-hv];exact V.kat rfl
 co_applyP ar 70 func164 ntmps164;co_applyP(aH);co_applyP aU (λk s' x L'=>s=s'/\L=L'/\ ∃a J,∃r w:Nat,T.ps=a++J/\k+a.length=8/\r<=6*a.length/\w<=6*a.length/\(0<r↔ ∃q∈a,∃i,i<6/\opn (B.e q.1) m false i=true)/\(0<w↔ ∃q∈a,∃i,i<6/\opn (B.e q.1) m true i=true)/\kn x [(8, .int .i64 a.length),(7, .int .i64 w),(6, .int .i64 r),(1, .int .i64 (m:Nat)),(0,ptr R)]) 8
 ·exact⟨rfl,rfl,[],T.ps,0,0,rfl,rfl,bE,bE,bE,bE,rfl⟩
 rintro k s' x L' ⟨rfl,rfl,a,J,r,w,M,hk,hr,hw,P,O,he⟩;co_applyP aA he;have d:=congrArg List.length M;simp only[mb] at d;co_applyP(aP);co_applyP aI rfl;intro hc
 ·cases J with
  |nil=>simp at hc d;omega
  |cons q J=>
   obtain⟨g,hb,Y,h'⟩:=a' a.length (ptr (B.p q.1)) (by rw[M];simp);subst Y;have N:(q.1,q.2)∈T.ps:=by rw[M];simp
   simp at d;have e:IntKind.i64.wrap ((a.length:Int)+1)=((a++[q]).length:Int):=ag
   co_applyP(aH);co_applyP(ay);co_applyP aU (λW s' x L2=>s=s'/\L=L2/\ ∃j u f:Nat,W+j=6/\u<=6*a.length+j/\f<=6*a.length+j/\(0<u↔(∃q∈a,∃i,i<6/\opn (B.e q.1) m false i=true)\/ ∃i,i<j/\opn (B.e q.1) m false i=true)/\(0<f↔(∃q∈a,∃i,i<6/\opn (B.e q.1) m true i=true)\/ ∃i,i<j/\opn (B.e q.1) m true i=true)/\kn x [(10, .int .i64 j),(9,ptr (B.p q.1)),(8, .int .i64 a.length),(7, .int .i64 f),(6, .int .i64 u),(1, .int .i64 (m:Nat)),(0,ptr R)]) 6
   ·exact⟨rfl,rfl,0,r,w,rfl,bl,bl,by simpa using P,by simpa using O,rfl⟩
   rintro W s2 m' L2 ⟨rfl,rfl,j,u,f,l',j',e',A,C,d'⟩;co_applyP aA d';co_applyP(au);co_applyP aI rfl;intro Z
   ·have z:j<6:=by simp at Z;omega
    have i':At L (B.p q.1) (79+j) (.int .i64 ((B.e q.1).pi j:Nat)):=V.pat N (fV _ _ z);have f':At L (B.p q.1) (85+j) (.bool ((B.e q.1).wr j)):=V.pat N (uB _ _ z);have ej:IntKind.i64.wrap ((j:Int)+1)=((j+1:Nat):Int):=ag
    have ew:IntKind.i64.wrap ((f:Int)+1)=((f+1:Nat):Int):=ag
    have er:IntKind.i64.wrap ((u:Int)+1)=((u+1:Nat):Int):=ag
    co_applyP(zo);co_applyP bL ((λI l H=>s=I/\L=H/\kn l [(10, .int .i64 j),(9,ptr (B.p q.1)),(8, .int .i64 a.length),(7, .int .i64 ((f+(if opn (B.e q.1) m true j then 1 else 0):Nat))),(6, .int .i64 ((u+(if opn (B.e q.1) m false j then 1 else 0):Nat))),(1, .int .i64 (m:Nat)),(0,ptr R)]));co_applyP(zo);co_applyP bL ((λI l H=>s=I/\L=H/\kn l [(10, .int .i64 j),(9,ptr (B.p q.1)),(8, .int .i64 a.length),(7, .int .i64 ((f+(if opn (B.e q.1) m true j then 1 else 0):Nat))),(6, .int .i64 u),(1, .int .i64 (m:Nat)),(0,ptr R)]));co_applyP aK;co_applyP ct ([(46, .bool (opn (B.e q.1) m true j)),(10, .int .i64 j),(9,ptr (B.p q.1)),(8, .int .i64 a.length),(7, .int .i64 f),(6, .int .i64 u),(1, .int .i64 (m:Nat)),(0,ptr R)])
    ·by_cases K:(B.e q.1).pi j=m
     ·have E:(((B.e q.1).pi j:Int)==(m:Int))=true:=by simp[K]
      co_applyP(aP);rw[E];co_applyP(aO);change _=_/\_=_/\kn _ _;refine⟨rfl,rfl, ?_⟩;have e:opn (B.e q.1) m true j=(B.e q.1).wr j:=by unfold opn;simp[K]
      rw[e];rfl
     ·have E:(((B.e q.1).pi j:Int)==(m:Int))=false:=ao
      co_applyP(aP);rw[E];co_applyP(aO);change _=_/\_=_/\kn _ _;refine⟨rfl,rfl, ?_⟩;have e:opn (B.e q.1) m true j=false:=by unfold opn;simp[K]
      rw[e];rfl
    co_applyP aI rfl;intro G;co_applyP(au);change _=_/\_=_/\kn _ _
    ·skip
     rw[ew];exact⟨rfl,rfl,by rw[show (if opn (B.e q.1) m true j then 1 else 0:Nat)=1 by rw[G];rfl];rfl⟩
    intro G;co_applyP(zo);change _=_/\_=_/\kn _ _;exact⟨rfl,rfl,by rw[show (if opn (B.e q.1) m true j then 1 else 0:Nat)=0 by rw[G];rfl];rfl⟩;rintro _ n' L3 ⟨rfl,rfl,b'⟩;co_applyP aA b';co_applyP aK;co_applyP ct ([(65, .bool (opn (B.e q.1) m false j)),(10, .int .i64 j),(9,ptr (B.p q.1)),(8, .int .i64 a.length),(7, .int .i64 ((f+(if opn (B.e q.1) m true j then 1 else 0):Nat))),(6, .int .i64 u),(1, .int .i64 (m:Nat)),(0,ptr R)])
    ·by_cases K:(B.e q.1).pi j=m
     ·have E:(((B.e q.1).pi j:Int)==(m:Int))=true:=by simp[K]
      co_applyP(aP);rw[E];co_applyP(bm);change _=_/\_=_/\kn _ _;refine⟨rfl,rfl, ?_⟩;have e:opn (B.e q.1) m false j= !(B.e q.1).wr j:=by unfold opn;simp[K]
      rw[e];rfl
     ·have E:(((B.e q.1).pi j:Int)==(m:Int))=false:=ao
      co_applyP(aP);rw[E];co_applyP(bm);change _=_/\_=_/\kn _ _;refine⟨rfl,rfl, ?_⟩;have e:opn (B.e q.1) m false j=false:=by unfold opn;simp[K]
      rw[e];rfl
    co_applyP aI rfl;intro G;co_applyP(au);change _=_/\_=_/\kn _ _
    ·skip
     rw[er];exact⟨rfl,rfl,by rw[show (if opn (B.e q.1) m false j then 1 else 0:Nat)=1 by rw[G];rfl];rfl⟩
    intro G;co_applyP(zo);change _=_/\_=_/\kn _ _;exact⟨rfl,rfl,by rw[show (if opn (B.e q.1) m false j then 1 else 0:Nat)=0 by rw[G];rfl];rfl⟩;rintro _ g' L4 ⟨rfl,rfl,c'⟩;co_applyP aA c';co_applyP(au);change∃k',k'<_/\_;rw[ej];have oj: ∀(b:Bool)(Q:Prop),((Q\/ ∃i,i<j/\opn (B.e q.1) m b i=true)\/opn (B.e q.1) m b j=true)↔(Q\/ ∃i,i<j+1/\opn (B.e q.1) m b i=true):=λb Q=>by
     constructor
     ·rintro((h|⟨i,U,y⟩)|h)
      ·exact .inl h
      ·exact .inr ⟨i,bl,y⟩
      ·exact .inr ⟨j,bl,h⟩
     ·rintro(h|⟨i,U,y⟩)
      ·exact .inl (.inl h)
      ·by_cases e:i=j
       ·exact .inr (e▸y)
       ·exact .inl (.inr ⟨i,bl,y⟩)
    refine⟨W-1,bl,rfl,rfl,j+1,_,_,bl, ?_, ?_, ?_, ?_,rfl⟩
    ·split<;>omega
    ·split<;>omega
    ·rw[<-oj false,<-A];split<;>rename_i h<;>simp[h]
    ·rw[<-oj true,<-C];split<;>rename_i h<;>simp[h]
   intro Z;co_applyP(aC);change∃k',k'<_/\_;have z:j=6:=by simp at Z;omega
   subst z;rw[e];have ol: ∀(b:Bool),((∃q∈a,∃i,i<6/\opn (B.e q.1) m b i=true)\/ ∃i,i<6/\opn (B.e q.1) m b i=true)↔ ∃r∈a++[q],∃i,i<6/\opn (B.e r.1) m b i=true:=λb=>by
    constructor
    ·rintro(⟨r,U,y⟩|h)
     ·exact⟨r,by simp[U],y⟩
     ·exact⟨q,bE,h⟩
    ·rintro⟨r,U,y⟩;rcases cE.1 U with h|h
     ·exact .inl ⟨r,h,y⟩
     ·simp at h;subst h;exact .inr y
   exact⟨k-1,bl,rfl,rfl,a++[q],J,u,f,by simp[M],by simp;omega,by simp;omega,by simp;omega,A.trans (ol false),C.trans (ol true),rfl⟩
 intro hc;co_applyP(aO);change∃v,Ko .. =some v/\_;cases J with
 |nil=>
  simp only[wc] at M;subst M;exact⟨_,rfl,rfl,rfl,r,w,rfl,bl,bl,P,O⟩
 |cons q J=>simp at hc d;omega
section
variable {o R:Nat}{B B':RB}{T T':St}{X:RX}{L L':Ka}{nu:Nat->Nat}{u v k2 b c:Nat}{x y:PS}{k:Nat×Nat}
theorem Nr.wput {zs:List Nat}(h:Nr B T nu)(hu:nu u≠0)(b:k2=4\/k2=5)(j:Nat->Sl)(hr: ∀k',T'.rowAt k'=if k'=(u,k2) then zs else T.rowAt k') (hfi: ∀q∈T'.ps,FI nu (B.e q.1) q.2) (hby:T'.by_=T.by_) (hwa: ∀e∈T'.wt,∀c∈e.2,∀y,(c,y)∈T'.ps->(B.e c).ad=y.r 1/\(B.e c).mn=y.r 2):Nr {B with a:=j,w:=put B.w (2*nu u+(k2-3)) zs} T' nu where
 n0:=h.n0
 nl:=h.nl
 ni:=h.ni
 n5:=h.n5
 fi:=hfi
 rl v hv:=by
  obtain⟨f,g,i⟩:=h.rl v hv;refine⟨by rw[hby];exact f, ?_, ?_⟩
  ·show put B.w (2*nu u+(k2-3)) zs (2*nu v+1)=_;rw[hr];unfold put;by_cases e:(v,4)=(u,k2)
   ·obtain⟨rfl,rfl⟩:=Prod.mk.inj e;simp
   ·rw[if_neg e,if_neg,g];intro d;rcases b with rfl|rfl
    ·exact e (by rw[h.ni v u bl hv])
    ·omega
  ·show put B.w (2*nu u+(k2-3)) zs (2*nu v+2)=_;rw[hr];unfold put;by_cases e:(v,5)=(u,k2)
   ·obtain⟨rfl,rfl⟩:=Prod.mk.inj e;simp
   ·rw[if_neg e,if_neg,i];intro d;rcases b with rfl|rfl
    ·omega
    ·exact e (by rw[h.ni v u bl hv])
 rz n hn:=by
  have:=hn u;show put B.w (2*nu u+(k2-3)) zs (2*n+1)=[]/\put B.w (2*nu u+(k2-3)) zs (2*n+2)=[];unfold put;rw[if_neg bl,if_neg bl];exact h.rz n hn
 wa:=hwa
theorem Nr.IE (h:Nr B T nu)(j:(T.wt.map (·.1)).Nodup)(hu:nu u≠0)(k:k2=4\/k2=5)(b:Nat)(g:Nat->Sl):Nr {B with a:=g,w:=put B.w (2*nu u+(k2-3)) (wo (T.rowAt (u,k2)) b)} (T.IE b (u,k2)) nu:=
 h.wput hu k g (jr j) h.fi rfl λe he c hc y f=>by
  rcases bW he with ⟨d,_⟩|⟨_,_,xs,d,i⟩
  ·exact h.wa e d c hc y f
  ·rw[i] at hc;exact h.wa _ d c (l4.1 hc).1 y f
theorem Nr.IY (h:Nr B T nu)(hu:nu u≠0)(zs:List Int)(i:Nat->Sl):Nr {B with y:=i,yb:=put B.yb (nu u) zs} (T.IY u zs) nu:=⟨h.n0,h.nl,h.ni,h.n5,h.fi,λv a=>by
 obtain⟨d,f,g⟩:=h.rl v a;refine⟨?_,f,g⟩;show put B.yb (nu u) zs (nu v)=put T.by_ u zs v;unfold put;by_cases e:v=u
 ·rw[e];simp
 ·rw[if_neg e,if_neg λb=>e (h.ni v u b a),d],h.rz,h.wa⟩
theorem CC:x.has k=true↔ ∃i,i<6/\k=x.f i:=by unfold PS.has;simp
theorem CE {e:RE}(hp:Nr B T nu)(h:FI nu e x)(hf: ∀i,i<6->x.f i=(0,0)\/KX (x.f i)) (hu:nu u≠0) (w:Bool):(∃i,i<6/\opn e (nu u) w i=true)↔x.has (u,if w then 5 else 4)=true:=by
 rw[CC];refine exists_congr λi=>and_congr_right λb=> ?_;obtain⟨j,k,m⟩:=h i b;unfold opn;rw[j,k,Bool.and_eq_true,decide_eq_true_eq,beq_iff_eq];constructor
 ·rintro⟨a,d⟩;have g:(x.f i).1=u:=hp.ni _ _ a (by rw[a];exact hu);rcases hf i b with h0|⟨_,l⟩
  ·rw[h0] at a;exact absurd (a.symm.trans hp.n0) hu
  ·cases w<;>simp at d<;>refine Prod.ext g.symm ?_
   ·show 4=_;omega
   ·exact d.symm
 ·intro e;rw[<-e];cases w<;>simp
theorem Ki.opn (h:Ki o R B T X L)(b:Inv T)(hu:X.nu u≠0)(w:Bool):(∃q∈T.ps,∃i,i<6/\opn (B.e q.1) (X.nu u) w i=true)↔T.IM (u,if w then 5 else 4)=true:=by
 unfold St.IM;rw[OH];exact exists_congr λq=>and_congr_right λa=>CE h.pp (h.pp.fi q a) (b.fl q a) hu w
def Ak (o:Nat)(T:St)(ask:Nat):Prop:= ∀e∈T.wt,∀c∈e.2,∀y,(c,y)∈T.ps->(y.st=1↔c=ask)/\(c=o->c=ask)
theorem Ak.serve (h:Ak o T v)(z:Inv T)(u:T.serve k=some T'):Ak o T' v:=λe he c hc y a=>by
 obtain⟨b,x,j,F,hb,_,E⟩:=cR u;obtain⟨B,_⟩:=z.JE j hb;have A:(T.IE b k).out b:=by have:=z.I3 hb;rw[B.f] at this;exact this
 obtain⟨i,n,p⟩:=ju u;have s:i=b:=gu (n.symm.trans F);subst s;rw[p] at he;have d:c≠i:=λD=>A e he (D▸hc);have g:(c,y)∈T.ps:=by
  rw[E] at a;have aux:(c,y)∈((T.IE i k).carry i x k).ps->(c,y)∈T.ps:=λa=>by
   rw[cL] at a;rcases aN a with l|⟨m,_⟩
   ·exact absurd (congrArg Prod.fst l) d
   ·exact m
  split at a
  ·exact aux a
  ·rcases aN a with l|⟨m,_⟩
   ·exact absurd (congrArg Prod.fst l) d
   ·exact aux m
 rcases bW he with ⟨r,_⟩|⟨_,_,xs,r,C⟩
 ·exact h e r c hc y g
 ·rw[C] at hc;exact h _ r c (l4.1 hc).1 y g
theorem rL: ∀(vs:List Int)(x:PS)(i:Nat)(v:Int),x.Je i (vs++[v])={x.Je i vs with m:=put (x.Je i vs).m (i+vs.length) v}
 |[],x,i,v=>rfl
 |w::vs,x,i,v=>by
  show PS.Je {x with m:=put x.m i w} (i+1) (vs++[v])=_;rw[rL vs];simp only[gf,Nat.add_assoc,Nat.add_comm 1];rfl
end
section
variable {o R:Nat}{B B':RB}{T T':St}{X:RX}{L L1 L':Ka}{u v k2 b c:Nat}{x y:PS}{k:Nat×Nat}
theorem tF (B:RB)(n:Nat)(d:k2=4\/k2=5)(b:Sl)(zs:List Nat):(Me B n).setIfInBounds (k2-2) (Kj b 1 zs.length)=Me {B with a:=put B.a (2*n+(k2-3)) b,w:=put B.w (2*n+(k2-3)) zs} n:=by
 rcases d with rfl|rfl<;>(unfold Me put;simp)
theorem Aa (B:RB)(n:Nat)(a:Sl)(zs:List Int):(Me B n).setIfInBounds 1 (Kj a 1 zs.length)=Me {B with y:=put B.y n a,yb:=put B.yb n zs} n:=by unfold Me put;simp
theorem Ki.nq (h:Ki o R B T X L)(hu:X.nu u≠0):0<X.nu u/\X.nu u<=B.no:=⟨bl,h.pp.nl u⟩
theorem Ki.JP (h:Ki o R B T X L)(hu:X.nu u≠0)(f:k2=4\/k2=5):B.w (2*X.nu u+(k2-3))=T.rowAt (u,k2)/\Kf (B.a (2*X.nu u+(k2-3))) (KM (T.rowAt (u,k2))) 3 L:=by
 obtain⟨_,b,d⟩:=h.pp.rl u hu;have e:B.w (2*X.nu u+(k2-3))=T.rowAt (u,k2):=by rcases f with rfl|rfl;exact b;exact d
 have:=h.rs (2*X.nu u+(k2-3));unfold M6 at this;rw[if_neg bl,e] at this;exact⟨e,this⟩
theorem Ki.JU (h:Ki o R B T X L)(f:(T.wt.map (·.1)).Nodup)(hu:X.nu u≠0)(e:k2=4\/k2=5){d:Sl}(hp:MM L 3 (B.a (2*X.nu u+(k2-3))) (KM (wo (T.rowAt (u,k2)) b)) d L1)(g:K4 L1 (B.q (X.nu u)) (.cells ((Me B (X.nu u)).setIfInBounds (k2-2) (Kj d 1 (wo (T.rowAt (u,k2)) b).length)) 238) L'):To o R B T L {B with a:=put B.a (2*X.nu u+(k2-3)) d,w:=put B.w (2*X.nu u+(k2-3)) (wo (T.rowAt (u,k2)) b)} (T.IE b (u,k2)) X L':=
 To.of (h.I8 (h.nq hu) bl hp g (tF B _ e _ _) _ (h.pp.IE f hu e b _) rfl)
theorem rM (h:Inv T)(k:Nat×Nat):(T.rowAt k).length<=8:=by
 cases e:T.rowAt k with
 |nil=>simp
 |cons c l=>
  obtain⟨xs,a,b⟩:=cK (S:=T) (k:=k) (c:=c) (by rw[e];simp);rw[<-e,<-b];exact h.w.rl _ a
theorem Inv.rowP (h:Inv T)(hc:c∈T.rowAt k): ∃y,(c,y)∈T.ps/\NQ y k:=by
 obtain⟨xs,a,b⟩:=cK hc;exact h.rm _ a c (by rw[b];exact hc)
theorem rN (h:T.rowAt k=[]):T.serve k=none:=by unfold St.serve;rw[h]
theorem rO (hn:(T.ps.map (·.1)).Nodup){l:List Nat}(h:T.rowAt k=b::l)(hb:(b,x)∈T.ps):T.serve k=if T.IL x k then some (if x.st=1 then(T.IE b k).carry b x k else((T.IE b k).carry b x k).IV b (T.carried x k)) else none:=by
 unfold St.serve;rw[h];simp only[aY hn hb]
theorem px (d:Ki o R B T X L)(hb:(b,x)∈T.ps):T.find (b:Int)=some (b,x):=by
 cases h:T.find (b:Int) with
 |none=>
  have:=sS.1 h _ hb;simp[d.idb hb] at this
 |some q=>
  obtain⟨a,f⟩:=dK h;have e:q.1=b:=by have:=d.id q a;omega
  rw[show q=(b,q.2) from Prod.ext e rfl] at a⊢;rw[aS d.pn hb a]
theorem Fw (x:PS)(e:RE){i n:Nat}(h:i+n<=64):(KV x e).extract (15+i) (15+i+n)=(M4 (x.Jn i n)).toArray:=by
 apply Array.ext
 ·simp[PS.Jn,aX];omega
 ·intro j d a;have b:j<n:=by simpa [PS.Jn] using a
  have:=zV x e (i:=i+j) bl;rw[show 15+(i+j)=15+i+j by omega] at this;obtain⟨_,he⟩:=ib.1 this;simp only[Array.getElem_extract,he];simp[PS.Jn]
theorem Ki.reads (h:Ki o R B T X L)(hb:(b,x)∈T.ps){i n:Nat}(d:i+n<=64):Reads prog L 1 n (.slice (some ⟨B.p b,cutAt (0+15) i 64 1,none⟩) n (64-i)) (M4 (x.Jn i n)).toArray:=by
 have a:cutAt (0+15) i 64 1=if 64=i then 15 else 15+i:=by unfold cutAt;split<;>omega
 have h:=bR (P:=prog) (sz:=1) (n:=n) (len:=n) (cap:=64-i) (o:=cutAt (0+15) i 64 1) (h.p _ hb) (by rw[aX,a];split<;>omega);have e:(KV x (B.e b)).extract (cutAt (0+15) i 64 1) (cutAt (0+15) i 64 1+n*1)=(M4 (x.Jn i n)).toArray:=by
  rw[a]
  split
  ·have h0:n=0:=bl
   subst h0;simp[PS.Jn];omega
  ·rw[w9,Fw x _ d]
 rw[e] at h;exact h
theorem Ac {d:Type}(f:Nat->d)(i:Nat)(a b:d):put (put f i a) i b=put f i b:=by
 funext j;unfold put;split<;>rfl
theorem u8p (l:List Int):(M4 l).all Km=true:=by
 rw[OF];intro v a;obtain⟨w,_,rfl⟩:=cm.1 a;rfl
end
theorem Ad: ∃n,∀{k}{F:Kn k}{j:DM F}{d s}(o R:Nat)(B:RB)(T:St)(X:RX)(L:Ka)(b:Nat)(x:PS),(∀s o,(j s).New o)->Ki o R B T X L->(b,x)∈T.ps->x.lv<3->(T.rows x.lv).length<=10000->(b≠X.ask->b≠o)->x.st≠6->
 Kb j prog d 174 [ptr R,ptr (B.p b)].toArray n s L (λs' v L'=>s=s'/\v= .tuple #[]/\ ∃B',To o R B T L B' (if b=X.ask then T else T.IV b x) X L'):=by
 obtain⟨A,u⟩:=k8;constructor;intro k F j d s o R B T X L b x y e hb f m i l;have r:At L R 12 (.int .i64 (X.ask:Nat)):=e.kat rfl;have h0:At L (B.p b) 0 (.int .i64 (b:Nat)):=e.to.num e hb;co_applyP ar 17 func174 ntmps174;co_applyP(bQ);co_applyP aI rfl;intro hc;co_applyP(ax)
 ·have a: ¬b=X.ask:=by simp at hc;omega
  co_applyP oc rfl rfl rfl (u o R B T X L b x y e hb f m (i a) l);rintro _ _ _ ⟨rfl,rfl,z,g⟩;co_applyP(zo);exact xI _ ⟨rfl,rfl,rfl,z,by rw[if_neg a];exact g⟩
 intro hc;co_applyP(zo);change∃v,Ko .. =some v/\_;have a:b=X.ask:=by simp at hc;omega
 exact⟨_,rfl,rfl,rfl,B,by rw[if_pos a];exact e.to⟩
theorem CF: ∃n,∀{σ}{F:Kn σ}{Δ:DM F}{Z s}(o R:Nat)(B:RB)(T:St)(X:RX)(L:Ka)(u:Nat),(∀s o,(Δ s).New o)->Ki o R B T X L->Inv T->Ak o T X.ask->X.nu u≠0->
 Kb Δ prog Z 169 [ptr R,ptr (B.q (X.nu u))].toArray n s L (λs' v L'=>s=s'/\v= .bool (T.serve (u,5)).isSome/\ ∃B',To o R B T L B' ((T.serve (u,5)).getD T) X L'):=by
 obtain⟨n1,g1⟩:=pw;obtain⟨n2,g2⟩:=tC;obtain⟨n3,g3⟩:=fK;obtain⟨n4,g4⟩:=Ad;constructor;intro σ F Δ Z s o R B T X L u hN d A hA hu;have hq:=d.nq hu;obtain⟨e1,e4,e5⟩:=d.pp.rl u hu;have U:=(d.JP hu (k2:=5) (.inr rfl)).2;have Z':=rM A (u,5);obtain⟨F',cap,hv,hat⟩:=dm U (n:=(T.rowAt (u,5)).length) bE;have h3:At L (B.q (X.nu u)) 3 (.slice F' (T.rowAt (u,5)).length cap):=by rw[<-hv,<-e5];exact d.qat hq rfl
 have h0:At L (B.q (X.nu u)) 0 (.int .i64 (X.nu u:Nat)):=d.qat hq rfl;co_applyP ar 104 func169 ntmps169;co_applyP(bZ);co_applyP aI rfl;intro hc;co_applyP(av);change∃v,Ko .. =some v/\_
 ·have H':T.rowAt (u,5)=[]:=by simpa using hc
  have hs:=rN H';exact⟨_,rfl,rfl,by rw[hs];rfl,B,by rw[hs];exact d.to⟩
 intro hc;obtain⟨b,l,N⟩: ∃b l,T.rowAt (u,5)=b::l:=by
  cases h:T.rowAt (u,5) with
  |nil=>rw[h] at hc;simp at hc
  |cons b l=>exact⟨b,l,rfl⟩
 have hlt:0<(T.rowAt (u,5)).length:=by rw[N];simp
 have S:b∈T.rowAt (u,5):=by rw[N];simp
 obtain⟨x,hb,e'⟩:=A.rowP S;obtain⟨xs,G',m'⟩:=cK S;obtain⟨V,hbo⟩:=hA _ G' b (by rw[m'];exact S) x hb;obtain⟨U',v'⟩:=d.pp.wa _ G' b (by rw[m'];exact S) x hb;obtain⟨g,hg,V',hbv⟩:=hat 0 (.int .i64 b) (by rw[N];rfl);subst V';have hfb:=px d hb;have z:=rO A.g.pn N hb;have hsx:x.st=1\/x.st=5:=e'.s;have h6:x.st≠6:=bl
 have wx1:0<=x.r 1/\x.r 1<65536:=(A.wf _ hb).r 1 bl;have t':0<=x.r 2/\x.r 2<65536:=(A.wf _ hb).r 2 bl;have W':=e'.a;have A':u<5:=by have:=d.pp.n5 u;omega
 have hy8:=A.y8 u A';co_applyP(bm);co_applyP oc rfl rfl rfl (g1 o R B T X L b d A.g.p8);rintro _ _ _ ⟨rfl,rfl,rfl⟩;co_applyP(aO);rw[hfb];co_applyP oc rfl rfl rfl (g2 o R B T X L (X.nu u) d A.g.p8);rintro _ _ _ ⟨rfl,rfl,r,w,rfl,hr48,hw48,hr,hw⟩;co_applyP(aR);co_applyP aK;have P:0<r↔T.IM (u,4)=true:=hr.trans (d.opn A hu false);have K':T.IL x (u,5)=if T.IM (u,4) then decide (((T.by_ u).length:Int)+x.r 2<=8) else true:=rfl;have r':At L (B.p b) 92 (.int .i64 (x.r 2)):=by rw[<-v'];exact d.pat hb rfl
 obtain⟨yb,yc,w',_⟩:=dm (d.y (X.nu u)) (n:=(B.yb (X.nu u)).length) bE;rw[e1] at w';have hy1:At L (B.q (X.nu u)) 1 (.slice yb (T.by_ u).length yc):=by rw[<-w',<-e1];exact d.qat hq rfl
 have w2:IntKind.i64.wrap (((T.by_ u).length:Int)+x.r 2)=((T.by_ u).length:Int)+x.r 2:=ag
 co_applyP ct ([(45, .bool (!T.IL x (u,5))),(6, .int .i64 (r:Nat)),(5,ptr (B.p b)),(1,ptr (B.q (X.nu u))),(0,ptr R)])
 ·by_cases H:T.IM (u,4)=true
  ·have hg:decide ((0:Int)<(r:Int))=true:=by have:=P.2 H;simp;omega
   co_applyP(av);rw[hg];co_applyP(bQ);change _=_/\_=_/\kn _ _;rw[w2];refine⟨rfl,rfl, ?_⟩;have e:T.IL x (u,5)= !decide ((8:Int)<((T.by_ u).length:Int)+x.r 2):=by
    rw[K',if_pos H];by_cases h:((T.by_ u).length:Int)+x.r 2<=8
    ·simp[h]<;>omega
    ·simp[h]<;>omega
   rw[e,Bool.not_not];rfl
  ·have hg:decide ((0:Int)<(r:Int))=false:=by have:=mt P.1 H;simp;omega
   co_applyP(av);rw[hg];co_applyP(bQ);change _=_/\_=_/\kn _ _;refine⟨rfl,rfl, ?_⟩;have e:T.IL x (u,5)=true:=by rw[K',if_neg H]
   rw[e];rfl
 co_applyP aI rfl;intro g';co_applyP(av);change∃v,Ko .. =some v/\_
 ·have k:T.IL x (u,5)=false:=by simpa using g'
  rw[if_neg (by rw[k];decide)] at z;exact⟨_,rfl,rfl,by rw[z];rfl,B,by rw[z];exact d.to⟩
 intro g';have k:T.IL x (u,5)=true:=by simpa using g'
 rw[if_pos k] at z;have hid0:At L (B.p b) 0 (.int .i64 (b:Nat)):=d.to.num d hb;rw[<-hv] at h3;co_applyP(ay);co_applyP aM [] 10 mixed;co_applyP(aP);co_applyP tc 10 rfl rfl rfl (g3 L _ (T.rowAt (u,5)) b hN d.fn U Z');rintro _ _ _ ⟨rfl,a2,rfl,hE,hp,hfr⟩;refine⟨aj bE, ?_⟩;co_applyP to 11 rfl (bI) (aj bE);co_applyP to 12 rfl ((br (hf:=lM))) (aj bE);co_applyP aF;intro y';co_applyP te (i:=13) rfl (bX (hnd:=y') (hm:=hE.s _ (d.q _ hq)) (hi:=by show 3<4;decide) (hp:=bj _ _ _) (hs:=dC));rintro _ _ ⟨rfl,hU⟩;refine⟨aj bE, ?_⟩;rename_i L2;have q':=d.JU (b:=b) A.kn hu (.inr rfl) hp hU;have C':=q'.r;have hI2:Inv (T.IE b (u,5)):=A.IE;have E:(b,x)∈(T.IE b (u,5)).ps:=hb;have ho2:(T.IE b (u,5)).out b:=by have:=A.I3 hb;rw[e'.f] at this;exact this
 co_applyP(aR);co_applyP osm rfl (hs:=bh) (hm:=C'.p _ E) (hi:=by rw[aX];decide);intro L3 R';obtain⟨I,C,n',Y⟩: ∃I,To o R B T L I ((T.IE b (u,5)).ID b (x.r0 65531)) X L3/\(I.e b).ad=x.r 1/\(I.e b).mn=x.r 2:=⟨_,q'.trans (To.of (C'.ID E R' (x.r0 65531) (B.e b) o (cS x _ (i:=0) bx _) (hun:=d.un _ hb) (hdu:=d.du _ hb) (ho:=λ_ _ _=>fz) (hsz:=d.sz _ hb))),by simp[put,U'],by simp[put,v']⟩;have j:=C.r;have K:=ai (x:=x.r0 65531) E;have j':=C.q d hb;co_applyP(zo);co_applyP bL ((λs'' D' T'=>s=s''/\kn D' [(5,ptr (B.p b)),(0,ptr R)]/\ ∃M,To o R B T L M ((T.IE b (u,5)).carry b x (u,5)) X T'));co_applyP(av);co_applyP aI rfl;intro f';co_applyP aK
 ·have H:T.IM (u,4)=true:=P.1 (by simp at f';omega);have k':I.q (X.nu u)=B.q (X.nu u):=C.qq.2 _ hq.2;have i':=j.nq hu;have I':I.yb (X.nu u)=T.by_ u:=(j.pp.rl u hu).1;have w3:IntKind.i64.wrap (x.r 1+x.r 2)=x.r 1+x.r 2:=ag
  have X':(x.r 1+x.r 2).toNat-(x.r 1).toNat=(x.r 2).toNat:=bl
  have r':At L3 (B.p b) 92 (.int .i64 (x.r 2)):=by rw[<-Y,<-j'];exact j.pat K rfl
  have hm91:At L3 (B.p b) 91 (.int .i64 (x.r 1)):=by rw[<-n',<-j'];exact j.pat K rfl
  have hy3:At L3 (B.q (X.nu u)) 1 (Kj (I.y (X.nu u)) 1 (T.by_ u).length):=by rw[<-k',<-I'];exact j.qat i' rfl
  have M':Kf (I.y (X.nu u)) (M4 (T.by_ u)) 5 L3:=by rw[<-I'];exact j.y _
  have S':(B.q (X.nu u),true,Obj.cells (Me I (X.nu u)) 238)∈L3:=by rw[<-k'];exact j.q _ i'
  have u':=j.reads K (i:=(x.r 1).toNat) (n:=(x.r 2).toNat) bl;rw[j'] at u';co_applyP aM [] 22 (nf:=0) mixed;co_applyP(aH);co_applyP(aC);rw[w3];co_applyP tr 21 rfl (ug U94 cP) pN;rw[X'];co_applyP aF;intro hnd;co_applyP te (i:=22) rfl (iu (a:=I.y (X.nu u)) (by_:=0) (sz:=1) (xs:=M4 (T.by_ u)) (n:=(T.by_ u).length) (m:=(x.r 2).toNat) (ys:=M4 (x.Jn (x.r 1).toNat (x.r 2).toNat)) (hnd:=hnd) (hu:=U44) (hs:=cP) (hb:=nH) (hz:=qT) (hzs:=rfl) (hN:=λcs=>hN _ _) (ha:=M') (hn:=bE) (hr:=u') (hm:=by simp[PS.Jn]) (hpl:=u8p _) (h0:=bx) (h8:=bl));rintro _ _ ⟨a',rfl,h'⟩;refine⟨aj bE, ?_⟩;co_applyP to 23 rfl (bI) (aj bE);co_applyP to 24 rfl ((br (hf:=qF))) (aj bE);co_applyP aF;intro E';co_applyP te (i:=25) rfl (bX (hnd:=E') (hm:=h'.ch.keep (Lg.sl j.fn M' bx) S') (hi:=by show 1<4;decide) (hp:=bj _ _ _) (hs:=gj));rintro _ _ ⟨rfl,c'⟩;refine⟨aj bE, ?_⟩;rename_i L5;rw[<-k'] at c';obtain⟨W,J⟩: ∃W,W=T.by_ u++x.Jn (x.r 1).toNat (x.r 2).toNat:=⟨_,rfl⟩;have ez:M4 (T.by_ u)++M4 (x.Jn (x.r 1).toNat (x.r 2).toNat)=M4 W:=by rw[J,M4,M4,M4,l3]
  have el:(T.by_ u).length+(x.r 2).toNat=W.length:=by rw[J];simp[PS.Jn]
  rw[ez] at h';rw[el] at c';obtain⟨M,d',z'⟩: ∃M,To o R B T L M (((T.IE b (u,5)).ID b (x.r0 65531)).IY u W) X L5/\(M.e b).mn=x.r 2:=⟨_,C.trans (To.of (j.IY i' h' c' (Aa _ _ _ _) (((T.IE b (u,5)).ID b (x.r0 65531)).IY u W) (j.pp.IY hu _ _) rfl)),Y⟩;have D:=d'.r;have b':=d'.q d hb;have G:(b,x.r0 65531)∈(((T.IE b (u,5)).ID b (x.r0 65531)).IY u W).ps:=K;have hm95:At L5 (B.p b) 92 (.int .i64 (x.r 2)):=by rw[<-z',<-b'];exact D.pat G rfl
  have O':(B.p b,true,Obj.cells (KV (x.r0 65531) (M.e b)) 154)∈L5:=by rw[<-b'];exact D.p _ G
  co_applyP(zo);co_applyP aM [] 10 (nf:=0) mixed;co_applyP(aP);co_applyP aF;intro N';co_applyP te (i:=10) rfl (bX (hnd:=N') (hm:=O') (hi:=by rw[aX];decide) (hs:=bh));rintro _ _ ⟨rfl,p'⟩;refine⟨aj bE, ?_⟩;rename_i L6;rw[bC,Int.emod_eq_of_lt t'.1 t'.2,<-b'] at p';have Q':=d'.trans (To.of (D.ID G p' x.JQ (M.e b) o ((cS (x.r0 65531) _ (i:=0) bx _).trans (by unfold PS.r0 PS.JQ;simp only[Ac])) (hun:=D.un _ G) (hdu:=D.du _ G) (ho:=λ_ _ _=>fz) (hsz:=d.sz _ hb)));have ec:(T.IE b (u,5)).carry b x (u,5)=(((T.IE b (u,5)).ID b (x.r0 65531)).IY u W).ID b x.JQ:=by
   unfold St.carry;rw[if_neg (show¬5=4 by decide),if_pos (show (T.IE b (u,5)).IM (KH (u,5))=true from H),J];show _=(((T.IE b (u,5)).IY u _).ID b (x.r0 65531)).ID b x.JQ;rw[bd];rfl
  co_applyP(zo);change _=_/\kn _ _/\ ∃M,_;exact⟨rfl,rfl,_,by rw[ec];exact Q'⟩
 intro f';co_applyP(zo);change _=_/\kn _ _/\ ∃M,_;have H: ¬T.IM (u,4)=true:=λe=>by have:=P.2 e;simp at f';omega
 have ec:(T.IE b (u,5)).carry b x (u,5)=(T.IE b (u,5)).ID b (x.r0 65531):=by
  unfold St.carry;rw[if_neg (show¬5=4 by decide),if_neg (show¬(T.IE b (u,5)).IM (KH (u,5))=true from H)];rfl
 exact⟨rfl,rfl,_,by rw[ec];exact C⟩;rintro _ ε7 L7 ⟨rfl,P',B7,O⟩;co_applyP aA P';have x':(b,T.carried x (u,5))∈((T.IE b (u,5)).carry b x (u,5)).ps:=by rw[cL];exact ai E
 have Y':=O.q d hb;obtain⟨c1,c2,c3,c4,c5⟩:=b9 T x (u,5);have l':=hI2.carry E ho2 A' W' k;have J':=l'.g.lv _ x';rw[<-Y'];co_applyP(ax);co_applyP oc rfl rfl rfl (g4 o R B7 _ X L7 b _ hN O.r x' J' (l6 (l'.g.r8 J') bx) (λh e=>h (hbo e)) (by rw[c1];exact h6));rintro _ _ _ ⟨rfl,rfl,B8,Q⟩;co_applyP(au);refine xI _ ⟨rfl,rfl,by rw[z];rfl,B8, ?_⟩;rw[z];by_cases h1:x.st=1
 ·rw[if_pos (V.1 h1)] at Q;rw[if_pos h1];exact O.trans Q
 ·rw[if_neg (mt V.2 h1)] at Q;rw[if_neg h1];exact O.trans Q
end Go.Proofs.YtejkelcaljmnoaaGreatDoor
namespace Go.Lo
open Go.Conc Go.Hx
theorem Fits.unw {N:Nat}{ε:Env}{a:Act}(h:Fits N ε a){ops:Array Oper}{o:Oper}{j:Nat}{want:Bool}{d:Tmp}(k:o.guard=some (j,want))(hd:(ops[j]?).bind (·.dst)=some d)(hl:look ε d=some undef):Region.wanted o (yielded ops a.tmps)=false:=by
 unfold Region.wanted;rw[k];obtain⟨f,e⟩:=h.at_ _ _ hl;have g:a.tmps[d]? =some undef:=by
  have:d<a.tmps.size:=by rw[h.sz];exact f
  simp[vp,this] at e;simp[this,e]
 have i:yielded ops a.tmps j=none:=by
  unfold yielded;rw[hd];show (match a.tmps[d]? with|some (.bool b)=>some b|_=>none)=none;rw[g];rfl
 simp only[i];rfl
section
variable {σ:Type}{F:Kn σ}{Δ: ∀s,Ma (F.R s) (F.D s)} {P:Program} {main:Bool} {fn:FuncId} {N:Nat} {Q:σ->Exit->Env->Ka->Prop} {s:σ} {ε:Env} {L:Ka}
theorem on {ops:Array Oper}{i:Nat}{rest:List Nat}{d:Option Tmp}{k:Op}{f:TypeId}{ps:String}{af:Array Edge}{j:Nat}{want:Bool}{dd:Tmp}{n:Nat}(ho:ops[i]? =some ⟨d,k,f,ps,af,some (j,want)⟩)(b:(ops[j]?).bind (·.dst)=some dd:=by rfl)(hl:look ε dd=some undef:=by rfl)(hd:KG N d=true:=by rfl)(h:KO Δ P main fn N ops rest n s Q (KY d undef ε) L):KO Δ P main fn N ops (i::rest) (n+1) s Q ε L:=
 λa e=>il ho (e.unw rfl b hl) (h _ (e.put hd undef))
end
end Go.Lo
namespace Go.Proofs.YtejkelcaljmnoaaGreatDoor
open Go.Conc Go.Hx Go.Lo Go.Proofs.Tryz
attribute [local irreducible] EY KO K6 Kw Kc Ku Kd Program.underlying
theorem HG {P:Program}{N:Nat}{b:Env}{L:Ka}{d:Option Tmp}{ty:TypeId}{ps:String}{af:Array Edge}{g:Option (Nat×Bool)}{t:TypeId}{x y:Operand}{w j v:Value}(hv:KF P (Instr.sliceAt t w (some j) none none) []=some (v,[]))(hx:ev b x=some w:=by rfl)(hy:ev b y=some j:=by rfl):EY P N b L ⟨d, .slice t x (some y) none none,ty,ps,af,g⟩ v:=by
 unfold EY;intro a e
 refine cN (λ_=>rfl) λK f=> ?_;show Kz P (Instr.sliceAt t (a.eval x) (some (a.eval y)) none none) K L;rw[e.ev hx,e.ev hy];exact aZ hv f
theorem HH:KF prog (Instr.sliceAt 44 (.slice none 0 0) (some (.int .i64 0)) none none) []=some (.slice none 0 0,[]):=bD
abbrev cutB (a:Sl)(n l:Nat):Option Addr:=a.b.map λb=>⟨b,cutAt 0 l (n+a.junk.length) 1,none⟩
theorem HI {N:Nat}{f:Env}{L:Ka}{d:Option Tmp}{ty:TypeId}{ps:String}{af:Array Edge}{g:Option (Nat×Bool)}{x y:Operand}{a:Sl}{xs:List Value}{n l:Nat}(ha:Kf a xs 5 L)(hn:xs.length=n)(hl:l<=n)(hx:ev f x=some (Kj a 1 n):=by rfl)(hy:ev f y=some (.int .i64 (l:Nat)):=by rfl):EY prog N f L ⟨d, .slice 44 x (some y) none none,ty,ps,af,g⟩ (.slice (cutB a n l) (n-l) (n+a.junk.length-l)):=by
 unfold Kj at hx;unfold cutB;unfold Kf at ha;cases hb:a.b with
 |none=>
  rw[hb] at hx ha;obtain⟨rfl,i⟩:=ha;rw[i];have e:n=0:=hn.symm;subst e;have e:l=0:=bl
  subst e;exact HG HH hx hy
 |some b=>
  rw[hb] at hx;rw[Nat.div_one] at hx;exact qz U44 cP hx hy (h0:=bl) (h1:=bl)
theorem Ae {L:Ka}{a:Sl}{xs:List Value}{n l:Nat}(ha:Kf a xs 5 L)(hn:xs.length=n)(hl:l<=n):Reads prog L 1 (n-l) (.slice (cutB a n l) (n-l) (n+a.junk.length-l)) (xs.drop l).toArray:=by
 subst hn;unfold cutB;cases hb:a.b with
 |none=>
  unfold Kf at ha;rw[hb] at ha;obtain⟨rfl,f⟩:=ha;simp;exact dx
 |some b=>
  have hm:=ha.mem hb;have d:cutAt 0 l (xs.length+a.junk.length) 1=if xs.length+a.junk.length=l then 0 else l:=by unfold cutAt;split<;>omega
  have h:=bR (P:=prog) (sz:=1) (n:=xs.length-l) (len:=xs.length-l) (cap:=xs.length+a.junk.length-l) (o:=cutAt 0 l (xs.length+a.junk.length) 1) hm (by rw[d];simp;split<;>omega);have e:(xs++a.junk).toArray.extract (cutAt 0 l (xs.length+a.junk.length) 1) (cutAt 0 l (xs.length+a.junk.length) 1+(xs.length-l)*1)=(xs.drop l).toArray:=by
   rw[d,w9]
   split
   ·have:xs.length-l=0:=bl
    rw[this,List.drop_eq_nil_of_le bl];simp
   ·rw[show l+(xs.length-l)=xs.length by omega];simp;rw[OS hl];simp
  rw[e] at h;exact h
theorem Fx: ∃n,∀{σ}{F:Kn σ}{Δ:DM F}{a' s}(o R:Nat)(B:RB)(T:St)(X:RX)(L:Ka)(u:Nat),(∀s o,(Δ s).New o)->Ki o R B T X L->Inv T->Ak o T X.ask->X.nu u≠0->
 Kb Δ prog a' 170 [ptr R,ptr (B.q (X.nu u))].toArray n s L (λs' v L'=>s=s'/\v= .bool (T.serve (u,4)).isSome/\ ∃G,To o R B T L G ((T.serve (u,4)).getD T) X L'):=by
 obtain⟨n1,g1⟩:=pw;obtain⟨n2,g2⟩:=tC;obtain⟨n3,g3⟩:=fK;obtain⟨n4,g4⟩:=Ad;constructor;intro σ F Δ a' s o R B T X L u hN z E hA hu;have hq:=z.nq hu;obtain⟨e1,e4,e5⟩:=z.pp.rl u hu;have Y:=(z.JP hu (k2:=4) (.inl rfl)).2;have hr8:=rM E (u,4);have G':u<5:=by have:=z.pp.n5 u;omega
 have hy8:=E.y8 u G';obtain⟨M',cap,hv,hat⟩:=dm Y (n:=(T.rowAt (u,4)).length) bE;have h2:At L (B.q (X.nu u)) 2 (.slice M' (T.rowAt (u,4)).length cap):=by rw[<-hv,<-e4];exact z.qat hq rfl
 have h0:At L (B.q (X.nu u)) 0 (.int .i64 (X.nu u:Nat)):=z.qat hq rfl;obtain⟨yb,yc,C',_⟩:=dm (z.y (X.nu u)) (n:=(B.yb (X.nu u)).length) bE;rw[e1] at C';have hy1:At L (B.q (X.nu u)) 1 (.slice yb (T.by_ u).length yc):=by rw[<-C',<-e1];exact z.qat hq rfl
 co_applyP ar 118 func170 ntmps170;co_applyP(bm);co_applyP oc rfl rfl rfl (g2 o R B T X L (X.nu u) z E.g.p8);rintro _ _ _ ⟨rfl,rfl,r,w,rfl,hr48,hw48,hr,hw⟩;co_applyP(aR);co_applyP aK;have z':0<w↔T.IM (u,5)=true:=hw.trans (z.opn E hu true);co_applyP ct ([(37, .bool (T.serve (u,4)).isNone),(1,ptr (B.q (X.nu u))),(0,ptr R)])
 ·by_cases C:T.rowAt (u,4)=[]
  ·have hg:(((T.rowAt (u,4)).length:Int)==0)=true:=by rw[C];rfl
   co_applyP(aO);rw[hg];co_applyP(aR);co_applyP on rfl;co_applyP on rfl;co_applyP(ax);change _=_/\_=_/\kn _ _;refine⟨rfl,rfl, ?_⟩;rw[rN C];rfl
  ·have hg:(((T.rowAt (u,4)).length:Int)==0)=false:=by
    cases h:T.rowAt (u,4) with
    |nil=>exact absurd h C
    |cons c l=>simp;omega
   obtain⟨b,rest,t'⟩:=List.exists_cons_of_ne_nil C;obtain⟨x,hb,_⟩:=E.rowP (k:=(u,4)) (c:=b) (by rw[t'];simp);have O:=rO E.g.pn t' hb;have U':T.IL x (u,4)=if T.IM (u,5) then decide (0<(T.by_ u).length) else true:=rfl;have v':(T.serve (u,4)).isNone= !T.IL x (u,4):=by rw[O];cases T.IL x (u,4)<;>rfl
   by_cases hz:(T.by_ u).length=0
   ·have i':(((T.by_ u).length:Int)==0)=true:=by rw[hz];rfl
    co_applyP(aO);rw[hg];co_applyP(aR);rw[i'];co_applyP(au);change _=_/\_=_/\kn _ _;refine⟨rfl,rfl, ?_⟩;have e:(T.serve (u,4)).isNone=decide ((0:Int)<(w:Int)):=by
     rw[v',U'];by_cases ho:T.IM (u,5)=true
     ·rw[if_pos ho];have:=z'.2 ho;simp[hz];omega
     ·rw[if_neg ho];have:=mt z'.1 ho;simp;omega
    rw[e];rfl
   ·have i':(((T.by_ u).length:Int)==0)=false:=beq_false_of_ne bl;co_applyP(aO);rw[hg];co_applyP(aR);rw[i'];co_applyP(au);change _=_/\_=_/\kn _ _;refine⟨rfl,rfl, ?_⟩;have e:(T.serve (u,4)).isNone=false:=by
     rw[v',U']
     split
     ·simp;omega
     ·rfl
    rw[e];rfl
 co_applyP aI rfl;intro Q;co_applyP(av);change∃v,Ko .. =some v/\_
 ·have O:T.serve (u,4)=none:=by simpa using Q
  exact⟨_,rfl,rfl,by rw[O];rfl,B,by rw[O];exact z.to⟩
 intro Q;obtain⟨S',hS⟩: ∃S',T.serve (u,4)=some S':=Option.ne_none_iff_exists'.1 λe=>by rw[e] at Q;cases Q
 obtain⟨b,x,M,O',hb,q',eS⟩:=cR hS;obtain⟨c',_⟩:=E.JE M hb;have hlt:0<(T.rowAt (u,4)).length:=List.length_pos_of_mem M;obtain⟨xs,N',p'⟩:=cK M;obtain⟨Z,hbo⟩:=hA _ N' b (by rw[p'];exact M) x hb;obtain⟨had,hmn⟩:=z.pp.wa _ N' b (by rw[p'];exact M) x hb;obtain⟨g,hg,hbs,hbv⟩:=hat 0 (.int .i64 b) (by rw[List.head?_eq_getElem?] at O';rw[sE,O'];rfl);subst hbs;have hfb:=px z hb;have hsx:x.st=1\/x.st=4:=c'.s;have h6:x.st≠6:=bl
 have wx1:0<=x.r 1/\x.r 1<65536:=(E.wf _ hb).r 1 bl;have wx2:0<=x.r 2/\x.r 2<65536:=(E.wf _ hb).r 2 bl;have hfc:=c'.a;co_applyP(bm);co_applyP oc rfl rfl rfl (g1 o R B T X L b z E.g.p8);rintro _ _ _ ⟨rfl,rfl,rfl⟩;co_applyP(ay);co_applyP aK;rw[hfb];have hid0:At L (B.p b) 0 (.int .i64 (b:Nat)):=z.to.num z hb;rw[<-hv] at h2;co_applyP aM [] 10 mixed;co_applyP(aP);co_applyP tc 10 rfl rfl rfl (g3 L _ (T.rowAt (u,4)) b hN z.fn Y hr8);rintro _ _ _ ⟨rfl,a2,rfl,hE,hp,hfr⟩;refine⟨aj bE, ?_⟩;co_applyP to 11 rfl (bI) (aj bE);co_applyP to 12 rfl ((br (hf:=lL))) (aj bE);co_applyP aF;intro F';co_applyP te (i:=13) rfl (bX (hnd:=F') (hm:=hE.s _ (z.q _ hq)) (hi:=by show 2<4;decide) (hp:=bj _ _ _) (hs:=dC));rintro _ _ ⟨rfl,hU⟩;refine⟨aj bE, ?_⟩;rename_i L2;obtain⟨U,P,I',H'⟩: ∃U,To o R B T L U (T.IE b (u,4)) X L2/\(U.e b).ad=x.r 1/\(U.e b).mn=x.r 2:=⟨_,z.JU (b:=b) E.kn hu (.inl rfl) hp hU,had,hmn⟩;have J:=P.r;have R':Inv (T.IE b (u,4)):=E.IE;have H:(b,x)∈(T.IE b (u,4)).ps:=hb;have ho2:(T.IE b (u,4)).out b:=by have:=E.I3 hb;rw[c'.f] at this;exact this
 have ep2:=P.q z hb;have eq2:U.q (X.nu u)=B.q (X.nu u):=P.qq.2 _ hq.2;have l':U.yb (X.nu u)=T.by_ u:=(J.pp.rl u hu).1;have hm92:At L2 (B.p b) 92 (.int .i64 (x.r 2)):=by rw[<-H',<-ep2];exact J.pat H rfl
 have hy2:At L2 (B.q (X.nu u)) 1 (Kj (U.y (X.nu u)) 1 (T.by_ u).length):=by rw[<-eq2,<-l'];exact J.qat (J.nq hu) rfl
 obtain⟨yb2,yc2,V,_⟩:=dm (J.y (X.nu u)) (n:=(U.yb (X.nu u)).length) bE;rw[l'] at V;rw[V] at hy2;obtain⟨m,hm⟩: ∃m,m=min (T.by_ u).length (x.r 2).toNat:=⟨_,rfl⟩;have u':m<=(T.by_ u).length:=by rw[hm];exact Nat.min_le_left _ _
 have hmr:m<=(x.r 2).toNat:=by rw[hm];exact Nat.min_le_right _ _
 co_applyP(aO);co_applyP bL ((λs'' J' L''=>s=s''/\L2=L''/\kn J' [(8, .int .i64 (m:Nat)),(7,ptr (B.p b)),(1,ptr (B.q (X.nu u))),(0,ptr R)]));co_applyP(bm);co_applyP aI rfl;intro b';co_applyP(aO);change _=_/\_=_/\kn _ _
 ·have y':((T.by_ u).length:Int)<x.r 2:=by simpa using b'
  have em:m=(T.by_ u).length:=by rw[hm];exact Nat.min_eq_left bl
  exact⟨rfl,rfl,by rw[em];rfl⟩
 intro b';co_applyP(zo);change _=_/\_=_/\kn _ _;have y': ¬((T.by_ u).length:Int)<x.r 2:=by simpa using b'
 have em:x.r 2=(m:Nat):=by rw[hm,Nat.min_eq_right bl];omega
 exact⟨rfl,rfl,by rw[<-em];rfl⟩;rintro _ ε3 _ ⟨rfl,rfl,he3⟩;co_applyP aA he3;co_applyP(au);co_applyP aU (λk s' m' L'=>s=s'/\ ∃(i:Nat) (G:RB),i<=m/\k+i=8/\To o R B T L G ((T.IE b (u,4)).ID b (x.Je (x.r 1).toNat ((T.by_ u).take i))) X L'/\(G.e b).ad=x.r 1/\kn m' [(9, .int .i64 i),(8, .int .i64 (m:Nat)),(7,ptr (B.p b)),(1,ptr (B.q (X.nu u))),(0,ptr R)]) 8
 ·exact⟨rfl,0,U,hX _,rfl,by rw[List.take_zero,show x.Je (x.r 1).toNat []=x from rfl,eJ R'.g.pn H];exact P,I',rfl⟩
 rintro k s' m' L' ⟨rfl,i,G,him,hk,hT,W,he⟩;co_applyP aA he;have j:=hT.r;have h':=hT.q z hb;have j':G.q (X.nu u)=B.q (X.nu u):=hT.qq.2 _ hq.2;have e':=j.nq hu;have P':G.yb (X.nu u)=T.by_ u:=(j.pp.rl u hu).1;have A:(b,x.Je (x.r 1).toNat ((T.by_ u).take i))∈((T.IE b (u,4)).ID b (x.Je (x.r 1).toNat ((T.by_ u).take i))).ps:=ai H;have g':Kf (G.y (X.nu u)) (M4 (T.by_ u)) 5 L':=by rw[<-P'];exact j.y _
 have hy3:At L' (B.q (X.nu u)) 1 (Kj (G.y (X.nu u)) 1 (T.by_ u).length):=by rw[<-j',<-P'];exact j.qat e' rfl
 co_applyP(aC);co_applyP aI rfl;intro hi
 ·have f':i<m:=by simp at hi;omega
  obtain⟨yb3,yc3,X',V'⟩:=dm g' (n:=(T.by_ u).length) bE;rw[X'] at hy3;obtain⟨v,Y'⟩: ∃v,(T.by_ u)[i]? =some v:=⟨_,sy (show i<(T.by_ u).length by omega)⟩;obtain⟨gy,hgy,T',hbv3⟩:=V' i (.int .u8 v) (by rw[sE,Y'];rfl);subst T';have hm91:At L' (B.p b) 91 (.int .i64 (x.r 1)):=by rw[<-W,<-h'];exact j.pat A rfl
  have hpm:(B.p b,true,Obj.cells (KV (x.Je (x.r 1).toNat ((T.by_ u).take i)) (G.e b)) 154)∈L':=by rw[<-h'];exact j.p _ A
  have w3:IntKind.i64.wrap (x.r 1+(i:Int))=x.r 1+i:=ag
  have ei:IntKind.i64.wrap ((i:Int)+1)=((i+1:Nat):Int):=ag
  co_applyP(ax);co_applyP aM [] 17 (nf:=0) mixed;co_applyP(aH);co_applyP(ay);co_applyP aF;intro hnd;co_applyP te (i:=17) rfl (bX (hnd:=hnd) (hm:=hpm) (hi:=by rw[aX,w3];omega) (hs:=cP));rintro _ _ ⟨rfl,E'⟩;refine⟨aj bE, ?_⟩;rename_i L4;rw[w3,show (x.r 1+(i:Int)).toNat=(x.r 1).toNat+i by omega,<-h'] at E';have Z':x.Je (x.r 1).toNat ((T.by_ u).take (i+1))={x.Je (x.r 1).toNat ((T.by_ u).take i) with m:=put (x.Je (x.r 1).toNat ((T.by_ u).take i)).m ((x.r 1).toNat+i) v}:=by
   rw[List.take_add_one,Y'];show x.Je _ (_++[v])=_;rw[rL,List.length_take,Nat.min_eq_left bl]
  have K':=hT.trans (To.of (j.ID A E' {x.Je (x.r 1).toNat ((T.by_ u).take i) with m:=put (x.Je (x.r 1).toNat ((T.by_ u).take i)).m ((x.r 1).toNat+i) v} (G.e b) o (zW _ _ bl _) (hun:=j.un _ A) (hdu:=j.du _ A) (ho:=λ_ _ _=>fz) (hsz:=j.sz _ A)));rw[bd,<-Z'] at K';co_applyP(aC);change∃k',k'<_/\_;rw[ei];exact⟨k-1,bl,rfl,i+1,_,f',bl,K',by simp[put,W],rfl⟩
 intro hi;co_applyP(bZ);have f':i=m:=by simp at hi;omega
 subst f';have hqm:(B.q (X.nu u),true,Obj.cells (Me G (X.nu u)) 238)∈L':=by rw[<-j'];exact j.q _ e'
 have A':=Ae (l:=i) g' (n:=(T.by_ u).length) bE u';rw[<-List.map_drop] at A';co_applyP oy rfl (HI g' bE u');co_applyP oeN rfl (λhnd=>iu (a:=⟨none,[]⟩) (by_:=0) (sz:=1) (xs:=[]) (n:=0) (m:=(T.by_ u).length-i) (ys:=M4 ((T.by_ u).drop i)) (hnd:=hnd) (hu:=U44) (hs:=cP) (hb:=nH) (hz:=qT) (hzs:=rfl) (hN:=λcs=>hN _ _) (ha:=⟨rfl,rfl⟩) (hn:=rfl) (hr:=A') (hm:=bE) (hpl:=u8p _) (h0:=bx) (h8:=bl));rintro _ L5 ⟨a5,rfl,I⟩;co_applyP(ay);co_applyP oeN rfl (λhnd=>bX (hnd:=hnd) (hm:=I.sub _ hqm bE) (hi:=by show 1<4;decide) (hp:=bj _ _ _) (hs:=gj));rintro _ L6 ⟨rfl,r'⟩;co_applyP(bm);rw[show 0+((T.by_ u).length-i)=((T.by_ u).drop i).length by simp,<-j'] at r';have hp6:MM L' 5 (G.y (X.nu u)) (M4 ((T.by_ u).drop i)) a5 L5:=⟨by simpa using I.ok,I.fn,λt ht _=>I.sub t ht bE,λc hc=>(I.d c hc).elim (λe=>nomatch e) .inr⟩;obtain⟨B6,d'⟩: ∃B6,To o R B T L B6 (((T.IE b (u,4)).ID b (x.Je (x.r 1).toNat ((T.by_ u).take i))).IY u ((T.by_ u).drop i)) X L6:=⟨_,hT.trans (To.of (j.IY e' hp6 r' (Aa _ _ _ _) (((T.IE b (u,4)).ID b (x.Je (x.r 1).toNat ((T.by_ u).take i))).IY u ((T.by_ u).drop i)) (j.pp.IY hu _ _) rfl))⟩;have K:=d'.r;have w':=d'.q z hb;have N:(b,x.Je (x.r 1).toNat ((T.by_ u).take i))∈(((T.IE b (u,4)).ID b (x.Je (x.r 1).toNat ((T.by_ u).take i))).IY u ((T.by_ u).drop i)).ps:=A;have x':(B.p b,true,Obj.cells (KV (x.Je (x.r 1).toNat ((T.by_ u).take i)) (B6.e b)) 154)∈L6:=by rw[<-w'];exact K.p _ N
 co_applyP osm rfl (hs:=bh) (hm:=x') (hi:=by rw[aX];decide);intro L7 W';rw[bC,Int.emod_eq_of_lt (OW _) bl,<-w'] at W';have D:=d'.trans (To.of (K.ID N W' {x.Je (x.r 1).toNat ((T.by_ u).take i) with r:=put (x.Je (x.r 1).toNat ((T.by_ u).take i)).r 0 (i:Nat)} (B6.e b) o (cS _ _ (i:=0) bx _) (hun:=K.un _ N) (hdu:=K.du _ N) (ho:=λ_ _ _=>fz) (hsz:=K.sz _ N)));have ec:(T.IE b (u,4)).carry b x (u,4)=(((T.IE b (u,4)).ID b (x.Je (x.r 1).toNat ((T.by_ u).take i))).IY u ((T.by_ u).drop i)).ID b {x.Je (x.r 1).toNat ((T.by_ u).take i) with r:=put (x.Je (x.r 1).toNat ((T.by_ u).take i)).r 0 (i:Nat)}:=by
  show _=(((T.IE b (u,4)).IY u ((T.by_ u).drop i)).ID b _).ID b _;rw[bd,hm];rfl
 rw[<-ec] at D;generalize hB7:({B6 with e:=_}:RB)=B7 at D;have D':(b,T.carried x (u,4))∈((T.IE b (u,4)).carry b x (u,4)).ps:=by rw[cL];exact ai H
 have ep7:=D.q z hb;obtain⟨c1,c2,c3,c4,c5⟩:=b9 T x (u,4);have n':=R'.carry H ho2 G' hfc q';have Q':=n'.g.lv _ D';rw[<-ep7];co_applyP(av);co_applyP oc rfl rfl rfl (g4 o R B7 _ X L7 b _ hN D.r D' Q' (l6 (n'.g.r8 Q') bx) (λh e=>h (hbo e)) (by rw[c1];exact h6));rintro _ _ _ ⟨rfl,rfl,B8,S⟩;co_applyP(au);refine xI _ ⟨rfl,rfl,by rw[hS];rfl,B8, ?_⟩;rw[hS];show To o R B T L B8 S' X _;rw[eS];by_cases h1:x.st=1
 ·rw[if_pos (Z.1 h1)] at S;rw[if_pos h1];exact D.trans S
 ·rw[if_neg (mt Z.2 h1)] at S;rw[if_neg h1];exact D.trans S
theorem uC: ∃n,∀{V}{F:Kn V}{P:DM F}{l s}(o R:Nat)(B:RB)(T:St)(X:RX)(L:Ka)(u:Nat),(∀s o,(P s).New o)->Ki o R B T X L->Inv T->Ak o T X.ask->X.nu u≠0->
 Kb P prog l 163 [ptr R,ptr (B.q (X.nu u))].toArray n s L (λs' v L'=>s=s'/\v= .tuple #[]/\ ∃k,To o R B T L k (T.look u) X L'):=by
 obtain⟨n1,g1⟩:=CF;obtain⟨n2,g2⟩:=Fx;constructor;intro V F P l s o R B T X L u Q S O W hu;have hq:=S.nq hu;co_applyP ar 16 func163 ntmps163;co_applyP(av);co_applyP aU (λc s' A L'=>s=s'/\ ∃(C:Bool) (k:RB) (f:St) (m:Nat),To o R B T L k f X L'/\Inv f/\Ak o f X.ask/\(C=true->f.meas u<c/\f.meas u<=m)/\(C=true->St.looks m f u=T.look u)/\(C=false->f=T.look u)/\kn A [(4, .bool C),(1,ptr (B.q (X.nu u))),(0,ptr R)]) 17
 ·exact⟨rfl,true,B,T,16,S.to,O,W,λ_=>⟨Nat.lt_succ_of_le (kW O u),kW O u⟩,λ_=>rfl,nofun,rfl⟩
 rintro c s' A L' ⟨rfl,C,k,f,m,p,a,i,hm,y,K,he⟩;co_applyP aA he;have x:k.q (X.nu u)=B.q (X.nu u):=p.qq.2 _ hq.2;co_applyP(av);co_applyP aI rfl;intro g
 ·obtain⟨Y,a'⟩:=hm g;rw[<-x];co_applyP(au);co_applyP oc rfl rfl rfl (g1 o R k f X L' u Q p.r a i hu);rintro _ _ _ ⟨rfl,rfl,J,d⟩;co_applyP(aP);change Kw ..;rename_i Z;have D:J.q (X.nu u)=k.q (X.nu u):=d.qq.2 _ (p.r.nq hu).2;co_applyP aI rfl;intro H;co_applyP(ax)
  ·have b:f.serve (u,5)=none:=by simpa using H
   rw[b] at d;rw[<-D];co_applyP oc rfl rfl rfl (g2 o R J f X Z u Q d.r a i hu);rintro _ _ _ ⟨rfl,rfl,U,j⟩;co_applyP(ay);change∃k',k'<_/\_;rw[D,x];cases e:f.serve (u,4) with
   |none=>
    rw[e] at j;exact⟨0,bl,rfl,false,U,f,m,(p.trans d).trans j,a,i,nofun,nofun,λ_=>by rw[<-y g,ma b e],rfl⟩
   |some S4=>
    rw[e] at j;have G:=fU a (.inl rfl) e;obtain⟨N,z,M⟩:=mi b e (show S4.meas u<m by omega);exact⟨S4.meas u+1,bl,rfl,true,U,S4,N,(p.trans d).trans j,a.serve e,i.serve a e,λ_=>⟨bl,z⟩,λ_=>by rw[<-M];exact y g,nofun,rfl⟩
  intro H;co_applyP(zo);change∃k',k'<_/\_;have I:(f.serve (u,5)).isSome=true:=by simpa using H
  obtain⟨E,b⟩:=Option.isSome_iff_exists.1 I;have G:=fU a (.inr rfl) b;rw[b] at d⊢;rw[x];obtain⟨N,z,M⟩:=mh b (show E.meas u<m by omega);exact⟨E.meas u+1,bl,rfl,true,J,E,N,p.trans d,a.serve b,i.serve a b,λ_=>⟨bl,z⟩,λ_=>by rw[<-M];exact y g,nofun,rfl⟩
 intro g;co_applyP(zo);exact xI _ ⟨rfl,rfl,rfl,k,by rw[<-K g];exact p⟩
theorem py (x:PS)(e:RE){i:Nat}(hi:i<6)(v:Nat):(KV x e).setIfInBounds (79+i) (.int .i64 (v:Nat))=KV x {e with pi:=put e.pi i v}:=by
 rcases i with _|_|_|_|_|_|i
 ·kernel_rfl
 ·kernel_rfl
 ·kernel_rfl
 ·kernel_rfl
 ·kernel_rfl
 ·kernel_rfl
 ·omega
theorem pz (x:PS)(e:RE){i:Nat}(hi:i<6)(v:Bool):(KV x e).setIfInBounds (85+i) (.bool v)=KV x {e with wr:=put e.wr i v}:=by
 rcases i with _|_|_|_|_|_|i
 ·kernel_rfl
 ·kernel_rfl
 ·kernel_rfl
 ·kernel_rfl
 ·kernel_rfl
 ·kernel_rfl
 ·omega
theorem K4.two {L d L2:Ka}{b:Nat}{g e:Obj}(h:K4 L b g d)(k:K4 d b e L2):K4 L b e L2:=⟨k.self,λt f a=>k.ne t (h.ne t f a) a,k.fn⟩
theorem FI.put {nu:Nat->Nat}{e:RE}{x:PS}(h:FI nu e x)(j:Nat){k:Nat×Nat}(hn:nu 0=0)(g:k=(0,0)\/nu k.1≠0):FI nu {e with pi:=put e.pi j (nu k.1),wr:=put e.wr j (decide (k.2=5))} {x with f:=put x.f j k}:=λi d=>by
 unfold Go.Proofs.YtejkelcaljmnoaaGreatDoor.put;simp only[]
 split
 ·refine⟨rfl,rfl,λa=> ?_⟩;rcases g with rfl|b
  ·exact absurd rfl a
  ·exact b
 ·exact h i d
theorem Ak.ID {o a b:Nat}{T:St}{x:PS}(h:Ak o T a)(ho:T.out b):Ak o (T.ID b x) a:=λe he c hc y d=>by
 rcases aN d with g|⟨f,_⟩
 ·cases g;exact absurd hc (ho e he)
 ·exact h e he c hc y f
theorem rP: ∃n,∀{J}{F:Kn J}{H:DM F}{k s}(o R:Nat)(B:RB)(T:St)(X:RX)(L:Ka)(b:Nat)(x:PS)(j:Nat),(∀s o,(H s).New o)->Ki o R B T X L->Inv T->Ak o T X.ask->(b,x)∈T.ps->T.out b->j<6->x.f j≠(0,0)->X.no<=10000->
 Kb H prog k 154 [ptr R,ptr (B.p b), .int .i64 (j:Nat)].toArray n s L (λs' v L'=>s=s'/\v= .tuple #[]/\ ∃Y,To o R B T L Y (T.shut b j) X L'):=by
 obtain⟨n1,S⟩:=z9;obtain⟨Z,O⟩:=uC;constructor;intro J F H k s o R B T X L b x j U a y K hb i z M E;obtain⟨f1,f2,f3⟩:=a.pp.fi _ hb j z;have hu:X.nu (x.f j).1≠0:=f3 M;have W:At L (B.p b) (79+j) (.int .i64 (X.nu (x.f j).1:Nat)):=by
  have:=a.pat hb (fV x (B.e b) z);rw[show (B.e b).pi j=X.nu (x.f j).1 from f1] at this;exact this
 co_applyP ar 30 func154 ntmps154;co_applyP(aH);co_applyP osm rfl (hs:=bJ) (hm:=a.p _ hb) (hi:=by rw[aX];omega);intro L1 u;co_applyP(aR);co_applyP osm rfl (hs:=xJ) (hm:=u.self) (hi:=by rw[tE,aX];omega);intro I C;have N:=K4.two u C;have Q:((KV x (B.e b)).setIfInBounds (79+j) (.int .i64 0)).setIfInBounds (85+j) (.bool false)=KV {x with f:=put x.f j (0,0)} {B.e b with pi:=put (B.e b).pi j (X.nu 0),wr:=put (B.e b).wr j false}:=by
  rw[show (Value.int .i64 0)= .int .i64 ((0:Nat):Nat) from rfl,py _ _ z,pz _ _ z,a.pp.n0];rfl
 have l:=To.of (a.ID hb N {x with f:=put x.f j (0,0)} {B.e b with pi:=put (B.e b).pi j (X.nu 0),wr:=put (B.e b).wr j false} o Q (hfi:=λh=>h.put j a.pp.n0 (.inl rfl)) (hun:=a.un _ hb) (hdu:=a.du _ hb) (ho:=λ_ _ _=>fz) (hsz:=a.sz _ hb));generalize V:({B with e:=_}:RB)=B1 at l;have d:=l.r;have G:Inv (T.ID b {x with f:=put x.f j (0,0)}):=y.Jq (x':={x with f:=put x.f j (0,0)}) hb i rfl rfl ⟨(y.wf _ hb).r,(y.wf _ hb).m⟩ (iF (y.fl _ hb) (.inl rfl));have D:=d.nq hu;co_applyP(av);co_applyP oc rfl rfl rfl (S o R B1 _ X I (X.nu (x.f j).1) d D (by rw[d.no];exact E));rintro _ _ _ ⟨rfl,rfl,rfl⟩;co_applyP(au);co_applyP oc rfl rfl rfl (O o R B1 _ X I (x.f j).1 U d G (K.ID i) hu);rintro _ _ _ ⟨rfl,rfl,P,A⟩;co_applyP(zo);change∃v,Ko .. =some v/\_;have es:T.shut b j=(T.ID b {x with f:=put x.f j (0,0)}).look (x.f j).1:=by unfold St.shut;rw[aY y.g.pn hb]
 exact⟨_,rfl,rfl,rfl,P,by rw[es];exact l.trans A⟩
end Go.Proofs.YtejkelcaljmnoaaGreatDoor
