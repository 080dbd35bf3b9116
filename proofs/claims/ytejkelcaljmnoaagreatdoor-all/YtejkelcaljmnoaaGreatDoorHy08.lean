/- Part 8 of the proof. -/
import Derived.Test.YtejkelcaljmnoaaGreatDoorHy07
import Derived.Conc.Own3
set_option maxRecDepth 100000
set_option maxHeartbeats 4000000
set_option linter.all false
namespace Go.Proofs.YtejkelcaljmnoaaGreatDoor
open Go.Conc Go.Hx Go.Lo Tryz
attribute [local irreducible] EY KO K6 Kw Kc Ku Kd Program.underlying
def PS.one:PS:={PS.zero with id:=1,st:=1}
section
variable {c:Nat->Int}{bo:Int}{l:List Int}{b:Nat}
theorem mF:(St.fresh c bo l b).ps=[(b,PS.one)]:=by simp[St.fresh,St.Jw,St.taken,St.IV,St.ID,St.setRow,St.IP,St.bare,PS.one,PS.zero]
theorem gJ:St.fresh c bo l b=⟨c,bo,l.length/4,λi j=>l.getD (4*i+j) 0,[(b,PS.one)],1,put (λ_=>[]) 0 [b],λ_=>[],[],0⟩:=by
 have:=mF (c:=c) (bo:=bo) (l:=l) (b:=b);have e:St.fresh c bo l b={St.fresh c bo l b with ps:=(St.fresh c bo l b).ps}:=rfl;rw[e,this];rfl
theorem F9:(St.fresh c bo l b).map (λ_=>1)=St.fresh c bo l 1:=by
 rw[gJ,gJ];unfold St.map LP;congr 1
 funext i
 show (put (λ_=>([]:List Nat)) 0 [b] i).map (λ_=>1)=put (λ_=>[]) 0 [1] i;unfold put
 split<;>rfl
theorem rB (hc:Mv c bo=true)(hl:Mw l.length=true)(u:NS l):TI (λ_=>1) (St.fresh c bo l b):=by
 have k:((1<=c 0/\c 0<=10)/\(1<=c 1/\c 1<=10)/\(1<=c 2/\c 2<=10))/\1<=bo/\bo<=1000:=by unfold Mv at hc;exact of_decide_eq_true hc
 have s:0<l.length/\l.length%4=0/\l.length<=1024:=by unfold Mw at hl;exact of_decide_eq_true hl
 rw[gJ];have one: ∀q∈[(b,PS.one)],q=(b,PS.one):=λq a=>wx.1 a;have row: ∀i c,c∈put (λ_=>([]:List Nat)) 0 [b] i->i=0/\c=b:=λi c hc=>by
  unfold put at hc
  split at hc
  ·rename_i h;exact⟨h,wx.1 hc⟩
  ·cases hc
 refine⟨⟨⟨⟨?_, ?_, ?_, ?_, ?_, ?_⟩, ?_, ?_, ?_, ?_, ?_, ?_, ?_, ?_, ?_⟩, ?_,⟨?_, ?_, ?_, ?_, ?_, ?_, ?_⟩⟩,⟨?_, ?_⟩, ?_, ?_⟩
 ·simp
 ·simp
 ·intro q a;rw[one q a];show (0:Nat)<3;decide
 ·intro i _;show (put (λ_=>([]:List Nat)) 0 [b] i).Nodup;unfold put
  split<;>simp
 ·intro i _ d o;obtain⟨rfl,rfl⟩:=row i d o;exact⟨PS.one,wx.2 rfl,rfl,rfl⟩
 ·intro q a _;rw[one q a];show b∈put (λ_=>([]:List Nat)) 0 [b] 0;simp[put]
 ·intro q a;rw[one q a];exact⟨λi _=>⟨Int.le_refl 0,by show (0:Int)<65536;decide⟩,λi _=>⟨Int.le_refl 0,by show (0:Int)<256;decide⟩⟩
 ·intro q a i _;rw[one q a];exact .inl rfl
 ·intro i _;exact hX _
 ·intro i _ v m;cases m
 ·simp
 ·intro e he;cases he
 ·intro e he;cases he
 ·intro e he;cases he
 ·intro e he;cases he
 ·intro e he;cases he
 ·intro q a;rw[one q a];exact cD _
 ·intro q a r p _;rw[one q a,one r p]
 ·intro q a;rw[one q a];exact⟨cD 1,cD 1⟩
 ·exact⟨(b,PS.one),wx.2 rfl,rfl⟩
 ·intro q a;rw[one q a];exact⟨λ_=>rfl,λ_=>rfl⟩
 ·intro i g;show put (λ_=>([]:List Nat)) 0 [b] i=[];unfold put;rw[if_neg bl]
 ·intro q a;rw[one q a];rfl
 ·show l.length/4<=256;omega
 ·intro i g j x;have n:i<l.length/4:=g;show 0<=l.getD (4*i+j) 0/\l.getD (4*i+j) 0<256;have f:4*i+j<l.length:=bl
  rw[List.getD_eq_getElem?_getD,sy f];exact u _ (List.getElem_mem f)
 ·show bo≠0;omega
 ·exact cD 1
theorem zP (hc:Mv c bo=true)(hl:Mw l.length=true)(a:NS l):Ab (St.fresh c bo l b) (St.fresh c bo l 1):=⟨_,rB hc hl a,F9.symm⟩
end
theorem nY (S:St)(c:Nat):(S.I5 c).now=S.now:=by
 unfold St.I5;cases S.lead.first with
 |none=>exact(cj S).now
 |some b=>
  simp only;cases S.lead.get b with
  |none=>exact(cj S).now
  |some x=>
   simp only;have a:=(kY S.lead b x c).1.now;have d:((S.lead.I2 b x c).after b).now=(S.lead.I2 b x c).now:=(jx _ _).now;rw[d,a];exact(cj S).now
theorem uy: ∀(m:Nat)(T:St),(St.runs m T).now<=T.now+m
 |0,T=>cD _
 |m+1,T=>by
  unfold St.runs
  split
  ·omega
  ·have h:=uy m T.next
   have e:T.next.now=T.now+1:=by
    show (T.I5 (T.last+1)).now+1=_;rw[nY]
   omega
theorem Ab.now {S T:St}(h:Ab S T):S.now=T.now:=by
 obtain⟨N,_,rfl⟩:=h.ex;rfl
end Go.Proofs.YtejkelcaljmnoaaGreatDoor
namespace Go.Proofs.YtejkelcaljmnoaaGreatDoor
open Go.Conc Go.ConcX Go.Hx Go.Lo Tryz
theorem pq {P:Program}{b:Frame}{a:Act}{w:World}{fn:Func}{todo:List Item}{v:Value}(hn:b.kind= .normal)(hd:a.defers=[])(hf:P.funcs[b.fn]? =some fn)(hi:P.inits.idxOf? b.fn=none)
 (hr:(results fn a.tmps).run P w= .ok v w): ∃es,stepG P true (G {b.at a todo with mode:= .returning} []) w= .ended (.done v) w es/\ ∀e∈es,e∈(results fn a.tmps).events P w #[]:=
 ⟨_,by simp[G,stepG,unwind,doReturn,Frame.at,hn,hd,hf,hi,hr,GStep.after];rfl,λ_ he=>mem_seen (by simpa using he)⟩
theorem HB [Payload]{P:Program}{Fin:Value->World->Prop}(p: ∀v w d,AtRel w d->Fin v w->Fin v d) {f:FuncId} {args:Array Value} {n N:Nat} {W:World} (hi:P.inits.idxOf? f=none)
 (h:Ld (FZ P Fin) P true f args n (N,[]) W λs' v w'=>s'.1=0/\Fin v w'): ∃m,Goes P true AtRel (D0 (K9 [])) (Mp P Fin N []) m (G (Frame.enter P f args .normal) []) W:=by
 obtain⟨g,c,u,s,k,r⟩:=h
 have i: ∀(s':Nat×List Nat)(o:Act)(w':World)(a:List Item),(o.defers=[]/\ ∃v,ResultsC P g o.tmps v/\s'.1=0/\Fin v w')->
  Goes P true AtRel (D0 (K9 s'.2)) (Mp P Fin s'.1 s'.2) 0 (G {(base f).at o a with mode:= .returning} []) w':=by
  rintro⟨q,s'⟩ o w' a ⟨B,v,x,h0,y⟩;simp only at h0;subst h0;refine Goes.stop λd j=> ?_;obtain⟨es,A,z⟩:=pq (P:=P) (b:=base f) (todo:=a) rfl B u hi (x d).1;refine⟨rfl,v,es,A,λe he=> ?_,p _ _ _ j y⟩;have:=z e he;rw[(x d).2] at this;simp at this
 refine⟨1+n, ?_⟩;rw[enter_at args u k];refine r (base f) [] [] 1 rfl (by simp[base]) λs' e o w' q=> ?_;cases e with
 |normal=>exact Goes.step rfl λd j=>by rw[stepG_end];exact⟨((FZ P Fin).terms s').idle _,(i s' o w' [] q).rely ((FZ P Fin).terms s').trans j⟩
 |ret=>exactλa=>(i s' o w' a q).more
 |exit id=>exact q.elim
 |goto l=>exact q.elim
 |panic ch=>exact q.elim
 |outgrown=>exact q.elim
def Mc (W:World):Ka:=(List.range W.heap.size).map λb=>(b,false,W.heap.getD b default)
theorem j6 {W:World}{b:Nat}{o:Obj}(h:W.heap[b]? =some o):(b,false,o)∈Mc W:=by
 obtain⟨hb,e⟩:=ib.1 h;refine cm.2 ⟨b,OV.2 hb, ?_⟩;simp[vp,h]
theorem rC {W:World}{b i:Nat}{v:Value}(h:W.cell? ⟨b,i,none⟩=some v):At (Mc W) b i v:=by
 unfold World.cell? at h
 split at h
 ·rename_i c t f a;exact⟨false,c,t,f,j6 a,by simpa using h⟩
 ·cases h
theorem rF (W:World):((Mc W).map (·.1)).Nodup:=by
 unfold Mc;rw[kt];have:((λt:Nat×Bool×Obj=>t.1)∘λb=>(b,false,W.heap.getD b default))=id:=rfl;rw[this,List.map_id];exact List.nodup_range
theorem wv (W:World):Mi (K9 []) W W.heap.size (Mc W) W where
 has t ht:=by
  obtain⟨b,hb,rfl⟩:=cm.1 ht;have a:=OV.1 hb;simp[vp,a]
 ap t ht l hl hs:=hs
 own t ht hf:=by
  obtain⟨b,hb,rfl⟩:=cm.1 ht;cases hf
 nd:=rF W
 low l b hs:=hs.elim
 old:=⟨rfl,rfl,rfl,cD _,λ_ _=>rfl⟩
def Ol (W:World)(v:Value)(w':World):Prop:=v= .bool true/\W.grownBy w' none
theorem HC {P:Program}{f:FuncId}{args:Array Value}{n N:Nat}{W:World}(hi:P.inits.idxOf? f=none)
 (h:Kb (F:=FZ P (Ol W)) (λs=>Mq (K9 s.2) W W.heap.size) P true f args n (N,[]) (Mc W) λs' v L'=>s'.1=0/\v= .bool true):
 ∃k last o w' t',runNT P (k+1) (solo (G (Frame.enter P f args .normal) []) W) #[]=(.ended o w',t')/\runN P k (solo (G (Frame.enter P f args .normal) []) W)= .next last/\step P last= .ended o w'/\Conc.Good P (Ol W) last o w' t':=by
 have g: ∀v w a,AtRel w a->Ol W v w->Ol W v a:=λv w a x h=>by
  obtain⟨d,rfl⟩:=x;exact⟨h.1,h.2.os,h.2.tape,h.2.output,h.2.size,h.2.block⟩
 obtain⟨m,i⟩:=HB g hi (gH (h W (wv W)) λs' v w' ⟨L',p,j,r⟩=>⟨j,r,by
  have e:ML W W.heap.size w':=(show Mi (K9 s'.2) W W.heap.size L' w' from p).old;exact⟨e.o,e.t,e.u,e.z,λk l _=>e.b k l⟩⟩)
 exact m7 N [] #[G (Frame.enter P f args .normal) []] _ W none #[] (λ_=>0) m rfl (leavers_one P _) uU i
end Go.Proofs.YtejkelcaljmnoaaGreatDoor
