/-
  Part 4 of the proof.
  No condition but those that each statement names.
-/
import Derived.Test.YtejkelcaljmnoaaGreatDoorHy03
import Derived.Test.YtejkelcaljmnoaaGreatDoorHy02
import Derived.Laws.StructEq
set_option maxRecDepth 100000
set_option maxHeartbeats 4000000
set_option linter.unusedVariables false
set_option linter.unusedSimpArgs false
set_option linter.unusedSectionVars false
namespace Go.Proofs.YtejkelcaljmnoaaGreatDoor
open Go.Conc Go.Hx Go.Lo
theorem yq (r:Nat):evR Tryz.prog (Go.method (Tryz.prog.types.size+Made.depth) 180 (ptr r) "Unwrap") []=some ((193,ptr r),[]):=by kernel_rfl
theorem Au:(Tryz.prog.info? 255).map (·.comparable)=some true:=by kernel_rfl
theorem vy: ∃n,∀{σ}{F:Fam σ}{Δ:DM F}{main s}(L:Frag)(r:Nat)(v:Value),At L r 1 v->
 CallsL Δ Tryz.prog main 193 [ptr r].toArray n s L (fun s' v' L'=>s=s'/\L=L'/\v=v'):=by
 apply Exists.intro;intro σ F Δ main s L r v hv;co_applyP aF 7 Tryz.func193 Tryz.ntmps193;co_applyP aa;co_applyP oan rfl;co_applyP aa;co_applyP om rfl rfl rfl av;co_applyP oy rfl (ak (hf:=vr));co_applyP oy rfl (aA (ht:=dh));co_applyP oan rfl;co_applyP aK;change∃v,resE .. =some v/\_;exact⟨_,rfl,rfl,rfl,rfl⟩
theorem DQ: ∃n,∀{σ}{F:Fam σ}{Δ:DM F}{main s}(L:Frag)(r:Nat)(e t:Nat×Nat)(fl fl':Bool)(cs cs':Array Value)(ty ty':TypeId),At L r 1 (.iface 255 (ptq e))->(e.1,fl,Obj.cells cs ty)∈L->(t.1,fl',Obj.cells cs' ty')∈L->
 CallsL Δ Tryz.prog main 145 [.iface 180 (ptr r), .iface 255 (ptq t), .bool true].toArray n s L (fun s' v L'=>s=s'/\L=L'/\v= .bool (decide (e=t))):=by
 obtain⟨n1,g1⟩:=vy;apply Exists.intro;intro σ F Δ main s L r e t fl fl' cs cs' ty ty' hr he ht;co_applyP aF 54 Tryz.func145 Tryz.ntmps145;co_applyP aa;co_applyP oan rfl;co_applyP aC;co_applyP bg (fun k s' ε' L'=>s'=s/\L'=L/\((k=2/\kn ε' [(0, .iface 180 (ptr r)),(1, .iface 255 (ptq t)),(2, .bool true)])\/(k=1/\kn ε' [(0, .iface 255 (ptq e)),(1, .iface 255 (ptq t)),(2, .bool true)]))) 2
 ·exact⟨rfl,rfl, .inl ⟨rfl,rfl⟩⟩
 rintro k s' ε' L' ⟨rfl,rfl,hk⟩;co_applyP dB (k=2);intro h2
 ·have hε:kn ε' [(0, .iface 180 (ptr r)),(1, .iface 255 (ptq t)),(2, .bool true)]:=by
   rcases hk with ⟨_,h⟩|⟨h,_⟩
   ·exact h
   ·omega
  co_applyP aN hε;co_applyP aC;co_applyP au;co_applyP aa;co_applyP om rfl rfl rfl ag;co_applyP om rfl rfl rfl (ag);co_applyP oy rfl (Ck (qT _ _));co_applyP oy rfl aH;co_applyP ai;co_applyP aE rfl;co_applyP aB;co_applyP au;co_applyP aa;co_applyP om rfl rfl rfl (Cz);co_applyP om rfl rfl rfl co;co_applyP oy rfl co;co_applyP oy rfl bR;co_applyP oan rfl;co_applyP aa;co_applyP om rfl rfl rfl ag;co_applyP ou rfl;co_applyP ou rfl;co_applyP ou rfl;co_applyP oy rfl aH;co_applyP ai;co_applyP aE rfl;co_applyP aB;co_applyP aa;co_applyP oy rfl ag;co_applyP ai;co_applyP aC;co_applyP aa;co_applyP oy rfl (DD (CB _));co_applyP oy rfl co;co_applyP oy rfl co;co_applyP ai;co_applyP bv rfl;co_applyP aa;co_applyP oan rfl;co_applyP aa;co_applyP oy rfl ag;co_applyP oi rfl (vs:=[]) (rc:=ptr r) (hm:=bm (yq r) rfl) (hf:=Tryz.func193) (hcall:=g1 L' r (.iface 255 (ptq e)) hr);rintro _ _ _ ⟨rfl,rfl,rfl⟩;co_applyP oan rfl;co_applyP aa;co_applyP om rfl rfl rfl (eP (v:= .iface 255 (ptq e)) (c:=false) (hv:= .inr ⟨_,_,rfl,rfl⟩) (hu:=Tryz.underlying168));co_applyP ai;co_applyP aE rfl;co_applyP aB;change∃k',k'<_/\_;exact⟨1,by omega,rfl,rfl, .inr ⟨rfl,rfl⟩⟩
 intro h2;co_applyP aC;co_applyP au;co_applyP au;have hε:kn ε' [(0, .iface 255 (ptq e)),(1, .iface 255 (ptq t)),(2, .bool true)]:=by
  rcases hk with ⟨h,_⟩|⟨_,h⟩
  ·omega
  ·exact h
 co_applyP aN hε;co_applyP aq;co_applyP om rfl rfl rfl ag;co_applyP om rfl rfl rfl (ag);co_applyP oy rfl (Cm (hu:=Tryz.underlying168) (hi:=Au) (hp:=Tryz.underlying255) (hs:=As) (h1:=he) (h2:=ht));co_applyP oy rfl aH;co_applyP ai;co_applyP aT rfl;intro hc;co_applyP aa;co_applyP oan rfl;co_applyP aK;change∃v,resE .. =some v/\_
 ·have e1:e=t:=by simpa [Prod.ext_iff] using hc
  exact⟨_,rfl,rfl,rfl,by simp[e1]⟩
 intro hc;co_applyP aB;co_applyP au;co_applyP aa;co_applyP oy rfl ag;have e1: ¬e=t:=by simpa [Prod.ext_iff] using hc
 co_applyP oy rfl (Cy);co_applyP om rfl rfl rfl co;co_applyP oy rfl co;co_applyP oy rfl bR;co_applyP oan rfl;co_applyP aa;co_applyP om rfl rfl rfl ag;co_applyP ou rfl;co_applyP ou rfl;co_applyP ou rfl;co_applyP oy rfl aH;co_applyP ai;co_applyP aE rfl;co_applyP aB;co_applyP aa;co_applyP oy rfl ag;co_applyP ai;co_applyP aC;co_applyP aa;co_applyP oy rfl (zI);co_applyP oy rfl co;co_applyP oy rfl co;co_applyP ai;co_applyP aE rfl;co_applyP aa;co_applyP oy rfl (zJ);co_applyP oy rfl co;co_applyP oy rfl co;co_applyP ai;co_applyP aE rfl;co_applyP aa;co_applyP oan rfl;co_applyP aa;co_applyP oan rfl;co_applyP aK;change∃v,resE .. =some v/\_;exact⟨_,rfl,rfl,rfl,by simp[e1]⟩
theorem DR: ∃n,∀{σ}{F:Fam σ}{Δ:DM F}{main s}(L:Frag)(r:Nat)(e t:Nat×Nat)(fl fl':Bool)(cs cs':Array Value)(ty ty':TypeId),At L r 1 (.iface 255 (ptq e))->(e.1,fl,Obj.cells cs ty)∈L->(t.1,fl',Obj.cells cs' ty')∈L->
 CallsL Δ Tryz.prog main 123 [.iface 180 (ptr r), .iface 255 (ptq t)].toArray n s L (fun s' v L'=>s=s'/\L=L'/\v= .bool (decide (e=t))):=by
 obtain⟨n1,g1⟩:=DQ;apply Exists.intro;intro σ F Δ main s L r e t fl fl' cs cs' ty ty' hr he ht;co_applyP aF 22 Tryz.func123 Tryz.ntmps123;co_applyP aa;co_applyP oan rfl;co_applyP au;co_applyP aa;co_applyP om rfl rfl rfl (eP (v:= .iface 180 (ptr r)) (c:=false) (hv:= .inr ⟨_,_,rfl,rfl⟩) (hu:=Tryz.underlying168));co_applyP om rfl rfl rfl (ag);co_applyP oy rfl (eP (v:= .iface 255 (ptq t)) (c:=false) (hv:= .inr ⟨_,_,rfl,rfl⟩) (hu:=Tryz.underlying168));co_applyP oy rfl aH;co_applyP ai;co_applyP aE rfl;co_applyP aB;co_applyP aa;co_applyP om rfl rfl rfl (zK);co_applyP oy rfl (DJ);co_applyP oan rfl;co_applyP aa;co_applyP om rfl rfl rfl ag;co_applyP oy rfl ag;co_applyP oc rfl rfl rfl (g1 L r e t fl fl' cs cs' ty ty' hr he ht);rintro _ _ _ ⟨rfl,rfl,rfl⟩;co_applyP oan rfl;co_applyP aK;change∃v,resE .. =some v/\_;exact⟨_,rfl,rfl,rfl,rfl⟩
structure Ers (eb:Nat->Nat×Nat)(L:Frag):Prop where
 g: ∀i,i<11->i≠2->At L i 0 (.iface 255 (ptq (eb i)))
 t:At L 2 0 (rty 168)
 b: ∀i,i<11->i≠2-> ∃fl cs ty,((eb i).1,fl,Obj.cells cs ty)∈L
 d: ∀i j,i<11->j<11->i≠2->j≠2->eb i=eb j->i=j
theorem ki {L L':Frag}{b i:Nat}{v:Value}(h:At L b i v)(hs: ∀t∈L,t∈L'):At L' b i v:=let ⟨a,b,c,d,e,f⟩:=h;⟨a,b,c,d,hs _ e,f⟩
theorem Ers.mono {eb:Nat->Nat×Nat}{L L':Frag}(h:Ers eb L)(hs: ∀t∈L,t∈L'):Ers eb L':=
 ⟨fun i h1 h2=>ki (h.g i h1 h2) hs,ki h.t hs,fun i h1 h2=>let ⟨a,b,c,d⟩:=h.b i h1 h2;⟨a,b,c,hs _ d⟩,h.d⟩
def ansOf (i:Nat):Int:=if i=3 then 65535 else if i=4 then 65534 else if i=5 then 65533 else if i=6 then 65532 else if i=7 then 65531 else if i=8 then 65530 else 65529
theorem vz: ∃n,∀{σ}{F:Fam σ}{Δ:DM F}{main s}(L:Frag)(eb:Nat->Nat×Nat)(r i:Nat),Ers eb L->i<11->i≠2->At L r 1 (.iface 255 (ptq (eb i)))->
 CallsL Δ Tryz.prog main 104 [ptr r].toArray n s L (fun s' v L'=>s=s'/\L=L'/\v= .int .u16 (ansOf i)):=by
 obtain⟨n1,g1⟩:=DR;apply Exists.intro;intro σ F Δ main s L eb r i hE hi hi2 hr;have hi180: ∀ms:Array (String×TypeId),TypeDesc.pointer 210≠ .interface ms:=fun _=>by simp
 obtain⟨fl,cs,ty,hb⟩:=hE.b i hi hi2;obtain⟨f3,c3,t3,h3⟩:=hE.b 3 (by decide) (by decide);obtain⟨f4,c4,t4,h4⟩:=hE.b 4 (by decide) (by decide);obtain⟨f5,c5,t5,h5⟩:=hE.b 5 (by decide) (by decide);obtain⟨f6,c6,t6,h6⟩:=hE.b 6 (by decide) (by decide);obtain⟨f7,c7,t7,h7⟩:=hE.b 7 (by decide) (by decide);obtain⟨f8,c8,t8,h8⟩:=hE.b 8 (by decide) (by decide);have g3:=hE.g 3 (by decide) (by decide);have g4:=hE.g 4 (by decide) (by decide);have g5:=hE.g 5 (by decide) (by decide);have g6:=hE.g 6 (by decide) (by decide);have g7:=hE.g 7 (by decide) (by decide);have g8:=hE.g 8 (by decide) (by decide);have d: ∀j,j<11->j≠2-> ¬eb i=eb j->i≠j:=fun j _ _ h e=>h (by rw[e]);co_applyP aF 33 Tryz.func104 Tryz.ntmps104;co_applyP aa;co_applyP oan rfl;co_applyP aC;co_applyP aa;co_applyP om rfl rfl rfl (iA hi180 (ht:=qQ));co_applyP oy rfl (aA (ht:=dh));co_applyP oc rfl rfl rfl (g1 L r (eb i) (eb 3) fl f3 cs c3 ty t3 hr hb h3);rintro _ _ _ ⟨rfl,rfl,rfl⟩;co_applyP oan rfl;co_applyP aT rfl;intro hc;co_applyP aa;co_applyP oan rfl;co_applyP aK;change∃v,resE .. =some v/\_
 ·have e:i=3:=hE.d i 3 hi (by decide) hi2 (by decide) (by simpa using hc);exact⟨_,rfl,rfl,rfl,by simp[ansOf,e]⟩
 intro hc;co_applyP aa;co_applyP oy rfl ag;have e3:=d 3 (by decide) (by decide) (by simpa using hc);co_applyP oy rfl (iA hi180 (ht:=qQ));co_applyP oy rfl (aA (ht:=dh));co_applyP oc rfl rfl rfl (g1 L r (eb i) (eb 4) fl f4 cs c4 ty t4 hr hb h4);rintro _ _ _ ⟨rfl,rfl,rfl⟩;co_applyP oan rfl;co_applyP aT rfl;intro hc;co_applyP aa;co_applyP oan rfl;co_applyP aK;change∃v,resE .. =some v/\_
 ·have e:i=4:=hE.d i 4 hi (by decide) hi2 (by decide) (by simpa using hc);exact⟨_,rfl,rfl,rfl,by simp[ansOf,e]⟩
 intro hc;co_applyP aa;co_applyP oy rfl ag;have e4:=d 4 (by decide) (by decide) (by simpa using hc);co_applyP oy rfl (iA hi180 (ht:=qQ));co_applyP oy rfl (aA (ht:=dh));co_applyP oc rfl rfl rfl (g1 L r (eb i) (eb 5) fl f5 cs c5 ty t5 hr hb h5);rintro _ _ _ ⟨rfl,rfl,rfl⟩;co_applyP oan rfl;co_applyP aT rfl;intro hc;co_applyP aa;co_applyP oan rfl;co_applyP aK;change∃v,resE .. =some v/\_
 ·have e:i=5:=hE.d i 5 hi (by decide) hi2 (by decide) (by simpa using hc);exact⟨_,rfl,rfl,rfl,by simp[ansOf,e]⟩
 intro hc;co_applyP aa;co_applyP oy rfl ag;have e5:=d 5 (by decide) (by decide) (by simpa using hc);co_applyP oy rfl (iA hi180 (ht:=qQ));co_applyP oy rfl (aA (ht:=dh));co_applyP oc rfl rfl rfl (g1 L r (eb i) (eb 6) fl f6 cs c6 ty t6 hr hb h6);rintro _ _ _ ⟨rfl,rfl,rfl⟩;co_applyP oan rfl;co_applyP aT rfl;intro hc;co_applyP aa;co_applyP oan rfl;co_applyP aK;change∃v,resE .. =some v/\_
 ·have e:i=6:=hE.d i 6 hi (by decide) hi2 (by decide) (by simpa using hc);exact⟨_,rfl,rfl,rfl,by simp[ansOf,e]⟩
 intro hc;co_applyP aa;co_applyP oy rfl ag;have e6:=d 6 (by decide) (by decide) (by simpa using hc);co_applyP oy rfl (iA hi180 (ht:=qQ));co_applyP oy rfl (aA (ht:=dh));co_applyP oc rfl rfl rfl (g1 L r (eb i) (eb 7) fl f7 cs c7 ty t7 hr hb h7);rintro _ _ _ ⟨rfl,rfl,rfl⟩;co_applyP oan rfl;co_applyP aT rfl;intro hc;co_applyP aa;co_applyP oan rfl;co_applyP aK;change∃v,resE .. =some v/\_
 ·have e:i=7:=hE.d i 7 hi (by decide) hi2 (by decide) (by simpa using hc);exact⟨_,rfl,rfl,rfl,by simp[ansOf,e]⟩
 intro hc;co_applyP aa;co_applyP oy rfl ag;have e7:=d 7 (by decide) (by decide) (by simpa using hc);co_applyP oy rfl (iA hi180 (ht:=qQ));co_applyP oy rfl (aA (ht:=dh));co_applyP oc rfl rfl rfl (g1 L r (eb i) (eb 8) fl f8 cs c8 ty t8 hr hb h8);rintro _ _ _ ⟨rfl,rfl,rfl⟩;co_applyP oan rfl;co_applyP aT rfl;intro hc;co_applyP aa;co_applyP oan rfl;co_applyP aK;change∃v,resE .. =some v/\_
 ·have e:i=8:=hE.d i 8 hi (by decide) hi2 (by decide) (by simpa using hc);exact⟨_,rfl,rfl,rfl,by simp[ansOf,e]⟩
 intro hc;co_applyP aa;co_applyP oan rfl;co_applyP aK;change∃v,resE .. =some v/\_;have e8:=d 8 (by decide) (by decide) (by simpa using hc);exact⟨_,rfl,rfl,rfl,by simp[ansOf,e3,e4,e5,e6,e7,e8]⟩
section
variable {K:Nat}{A:Lay}{S:St}{Fr L:Frag}
theorem Rep.kat (h:Rep K A S Fr L){i:Nat}{v:Value}(hv:(kcells (kst A S))[i]? =some v):At L K i v:=⟨true,_,_,_,h.k,hv⟩
theorem Rep.pat (h:Rep K A S Fr L){b:Nat}{x:PS}(hb:(b,x)∈S.ps){i:Nat}{v:Value}(hv:(pcells x)[i]? =some v):At L b i v:=⟨true,_,_,_,h.p _ hb,hv⟩
end
theorem zN: ∃n,∀{σ}{F:Fam σ}{Δ:DM F}{main s}(K:Nat)(A:Lay)(S:St)(Fr L:Frag),Rep K A S Fr L->
 CallsL Δ Tryz.prog main 36 [ptr K].toArray n s L (fun s' v L'=>s=s'/\L=L'/\v=slv (A.a 0) S.ps.length):=by
 apply Exists.intro;intro σ F Δ main s K A S Fr L hR;have h1:At L K 5 _:=hR.kat rfl;co_applyP aF 9 Tryz.func36 Tryz.ntmps36;co_applyP aa;co_applyP oan rfl;co_applyP au;co_applyP aa;co_applyP om rfl rfl rfl (fN (hu:=Tryz.underlying35));co_applyP ai;co_applyP aE rfl;co_applyP aB;co_applyP aa;co_applyP om rfl rfl rfl av;co_applyP oy rfl (ak (hf:=bX));co_applyP oy rfl (aA (ht:=dz));co_applyP oan rfl;co_applyP aK;change∃v,resE .. =some v/\_;exact⟨_,rfl,rfl,rfl,rfl⟩
def St.find (S:St)(id:Int):Option (Nat×PS):=S.ps.find? fun q=>(q.2.id:Int)==id
def optPtr:Option Nat->Value
 |none=> .pointer none
 |some b=>ptr b
theorem rX {S:St}{id:Int}{l1 l2:List (Nat×PS)}{q:Nat×PS}(hl:S.ps=l1++q::l2)(hn: ∀q∈l1,((q.2.id:Int)==id)=false) (hq:((q.2.id:Int)==id)=true):S.find id=some q:=by
 unfold St.find;rw[hl,List.find?_append,List.find?_cons,hq];have:l1.find? (fun q=>(q.2.id:Int)==id)=none:=List.find?_eq_none.2 fun r hr=>by simp[hn r hr]
 rw[this];rfl
theorem l8 {S:St}{id:Int}(hn: ∀q∈S.ps,((q.2.id:Int)==id)=false):S.find id=none:=List.find?_eq_none.2 fun r hr=>by simp[hn r hr]
theorem jt: ∃n,∀{σ}{F:Fam σ}{Δ:DM F}{main s}(K:Nat)(A:Lay)(S:St)(Fr L:Frag)(id:Int),Rep K A S Fr L->
 CallsL Δ Tryz.prog main 37 [ptr K, .int .i64 id].toArray n s L (fun s' v L'=>s=s'/\L=L'/\v=optPtr ((S.find id).map (·.1))):=by
 obtain⟨n1,g1⟩:=zN;apply Exists.intro;intro σ F Δ main s K A S Fr L id hR;obtain⟨base,cap,hv,hat⟩:=bY hR.pa;simp only[List.length_map] at hv;co_applyP aF 23 Tryz.func37 Tryz.ntmps37;co_applyP aa;co_applyP oan rfl;co_applyP au;co_applyP aa;co_applyP oy rfl ag;co_applyP oc rfl rfl rfl (g1 K A S Fr L hR);rintro _ _ _ ⟨rfl,rfl,rfl⟩;rw[hv];co_applyP oy rfl (bt (hu:=U91));co_applyP oy rfl ag;co_applyP ai;co_applyP aC;co_applyP bg (fun k s' ε' L'=>s'=s/\L'=L/\ ∃l1 l2,S.ps=l1++l2/\(∀q∈l1,((q.2.id:Int)==id)=false)/\k+l1.length=8/\kn ε' [(10, .int .i64 l1.length),(9, .int .i64 S.ps.length),(8, .slice base S.ps.length cap),(1, .int .i64 id),(0,ptr K)]) 8
 ·exact⟨rfl,rfl,[],S.ps,rfl,by simp,rfl,rfl⟩
 rintro k s' ε' L' ⟨rfl,rfl,l1,l2,hl,hn,hk,he⟩;co_applyP aN he;have hlen:=congrArg List.length hl;simp only[List.length_append] at hlen;have h8:=hR.p8;co_applyP aa;co_applyP oy rfl bi;co_applyP ai;co_applyP au;co_applyP aT rfl;intro hc
 ·cases l2 with
  |nil=>simp at hc hlen;omega
  |cons q l2=>
   obtain⟨b,hb,hbs,hbv⟩:=hat l1.length (ptr q.1) (by rw[hl];simp);subst hbs;have hq:=hR.pat (b:=q.1) (x:=q.2) (by rw[hl];simp) (i:=0) rfl;simp at hlen;co_applyP aB;co_applyP au;co_applyP aC;co_applyP aa;co_applyP oy rfl (bw U91 cM);co_applyP oy rfl (aA (ht:=fe));co_applyP oan rfl;co_applyP aa;co_applyP om rfl rfl rfl av;co_applyP oy rfl (ak (hf:=aM));co_applyP oy rfl (ak (hf:=bH));co_applyP oy rfl (aA (ht:=aR));co_applyP om rfl rfl rfl aI;co_applyP ai;co_applyP aT rfl;intro hid;co_applyP aa;co_applyP oy rfl ag;co_applyP oan rfl;co_applyP aK;change∃v,resE .. =some v/\_;exact⟨_,rfl,rfl,rfl,by rw[rX hl hn hid];rfl⟩;intro hid;co_applyP aB;co_applyP aq;co_applyP oy rfl aS;co_applyP oy rfl ag;co_applyP ai;change∃k',k'<_/\_;refine⟨k-1,by omega,rfl,rfl,l1++[q],l2,by simp[hl], ?_,by simp;omega, ?_⟩
   ·intro r hr;rcases List.mem_append.1 hr with h|h
    ·exact hn r h
    ·simp at h;rw[h];exact hid
   ·have e:IntKind.i64.wrap ((l1.length:Int)+1)=((l1++[q]).length:Int):=by simp[IntKind.wrap_i64];omega
    rw[<-e];rfl
 intro hc;co_applyP bf;co_applyP aa;co_applyP oan rfl;co_applyP aK;change∃v,resE .. =some v/\_;cases l2 with
 |nil=>exact⟨_,rfl,rfl,rfl,by rw[l8 (by rw[hl];simpa using hn)];rfl⟩
 |cons q l2=>simp at hc hlen;omega
theorem Av: ∃n,∀{σ}{F:Fam σ}{Δ:DM F}{main s}(K:Nat)(A:Lay)(S:St)(Fr L:Frag)(b:Nat)(x:PS),Rep K A S Fr L->S.find 1=some (b,x)->
 CallsL Δ Tryz.prog main 62 [ptr K].toArray n s L (fun s' v L'=>s=s'/\L=L'/\v= .bool ((x.st:Int)==6)):=by
 obtain⟨n1,g1⟩:=jt;apply Exists.intro;intro σ F Δ main s K A S Fr L b x hR hf;have hb:(b,x)∈S.ps:=List.mem_of_find?_eq_some hf;have h1:=hR.pat hb (i:=2) rfl;co_applyP aF 16 Tryz.func62 Tryz.ntmps62;co_applyP aa;co_applyP oan rfl;co_applyP aa;co_applyP oy rfl ag;co_applyP oc rfl rfl rfl (g1 K A S Fr L 1 hR);rintro _ _ _ ⟨rfl,rfl,rfl⟩;rw[hf];co_applyP oan rfl;co_applyP aa;co_applyP om rfl rfl rfl (fN (hu:=U93));co_applyP om rfl rfl rfl (ag);co_applyP oy rfl (av);co_applyP oy rfl ((ak (hf:=aM)));co_applyP oy rfl ((ak (hf:=bM)));co_applyP oy rfl ((aA (ht:=aR)));co_applyP oy rfl (aI);co_applyP oy rfl aH;co_applyP oan rfl;co_applyP aK;change∃v,resE .. =some v/\_;exact⟨_,rfl,rfl,rfl,rfl⟩
theorem kZ (k:KS){l:Nat}(hl:l<3):(kcells k)[7+l]? =some (k.row l):=by
 rcases l with _|_|_|l
 ·rfl
 ·rfl
 ·rfl
 ·omega
def St.first (S:St):Option Nat:=(S.rows 0++(S.rows 1++S.rows 2)).head?
theorem rY: ∃n,∀{σ}{F:Fam σ}{Δ:DM F}{main s}(K:Nat)(A:Lay)(S:St)(Fr L:Frag),Rep K A S Fr L->
 CallsL Δ Tryz.prog main 82 [.pointer (some ⟨K,7,none⟩)].toArray n s L (fun s' v L'=>s=s'/\L=L'/\v=optPtr S.first):=by
 apply Exists.intro;intro σ F Δ main s K A S Fr L hR;co_applyP aF 19 Tryz.func82 Tryz.ntmps82;co_applyP aa;co_applyP oan rfl;co_applyP au;co_applyP aa;co_applyP om rfl rfl rfl av;co_applyP oy rfl ag;co_applyP ai;co_applyP aC;co_applyP bg (fun k s' ε' L'=>s'=s/\L'=L/\ ∃i:Nat,k+i=3/\(∀j,j<i->S.rows j=[])/\kn ε' [(7, .int .i64 i),(5, .pointer (some ⟨K,7,none⟩)),(0, .pointer (some ⟨K,7,none⟩))]) 3
 ·exact⟨rfl,rfl,0,rfl,by simp,rfl⟩
 rintro k s' ε' L' ⟨rfl,rfl,i,hk,hn,he⟩;co_applyP aN he;co_applyP aa;co_applyP oy rfl bi;co_applyP ai;co_applyP au;co_applyP aT rfl;intro hc
 ·have hi:i<3:=by simp at hc;omega
  obtain⟨base,cap,hv,hat⟩:=bY (hR.rw i hi);simp only[List.length_map] at hv;have hrow:At L' K (7+i) (.slice base (S.rows i).length cap):=by
   rw[<-hv];exact hR.kat (kZ _ hi)
  co_applyP aB;co_applyP au;co_applyP aC;co_applyP aa;co_applyP oy rfl av;co_applyP oy rfl (aX m8 eD);co_applyP oy rfl (aA (ht:=dz));co_applyP oan rfl;co_applyP aa;co_applyP om rfl rfl rfl (bt (hu:=U91));co_applyP oy rfl cx;co_applyP ai;co_applyP aT rfl;intro hz;cases hxs:S.rows i with
  |nil=>rw[hxs] at hz;simp at hz
  |cons b bs=>
   obtain⟨c,hc1,hc2,hc3⟩:=hat 0 (ptr b) (by rw[hxs];rfl);subst hc2;have hb0:0<((S.rows i).length:Int):=by rw[hxs];simp
   co_applyP aa;co_applyP om rfl rfl rfl (bw U91 cM);co_applyP oy rfl (aA (ht:=fe));co_applyP oan rfl;co_applyP aK;change∃v,resE .. =some v/\_;refine⟨_,rfl,rfl,rfl, ?_⟩;have:S.first=some b:=by
    unfold St.first
    rcases i with _|_|_|i
    ·rw[hxs];rfl
    ·rw[hn 0 (by omega),hxs];rfl
    ·rw[hn 0 (by omega),hn 1 (by omega),hxs];rfl
    ·omega
   rw[this];rfl
  intro hz;co_applyP aB;co_applyP aq;co_applyP oy rfl aS;co_applyP oy rfl ag;co_applyP ai;change∃k',k'<_/\_;refine⟨k-1,by omega,rfl,rfl,i+1,by omega,fun j hj=> ?_, ?_⟩
  ·rcases Nat.lt_succ_iff_lt_or_eq.1 hj with h|rfl
   ·exact hn j h
   ·simpa using hz
  ·have e:IntKind.i64.wrap ((i:Int)+1)=((i+1:Nat):Int):=by simp[IntKind.wrap_i64];omega
   rw[<-e];rfl
 intro hc;co_applyP bf;co_applyP aa;co_applyP oan rfl;co_applyP aK;change∃v,resE .. =some v/\_;have h3:3<=i:=by simp at hc;omega
 refine⟨_,rfl,rfl,rfl, ?_⟩;have:S.first=none:=by unfold St.first;rw[hn 0 (by omega),hn 1 (by omega),hn 2 (by omega)];rfl
 rw[this];rfl
def idx (xs:List Nat)(b:Nat):Int:=match xs.findIdx? (· ==b) with
 |some i=>i
 |none=> -1
theorem qU {xs l1 l2:List Nat}{q b:Nat}(hl:xs=l1++q::l2)(hn: ∀c∈l1,c≠b) (hq:q=b):idx xs b=l1.length:=by
 have:xs.findIdx? (· ==b)=some l1.length:=by
  rw[hl,List.findIdx?_append,List.findIdx?_cons];have h1:l1.findIdx? (· ==b)=none:=List.findIdx?_eq_none_iff.2 fun c hc=>by simpa using hn c hc
  simp[h1,hq]
 unfold idx;rw[this]
theorem pw {xs:List Nat}{b:Nat}(hn: ∀c∈xs,c≠b):idx xs b= -1:=by
 have:xs.findIdx? (· ==b)=none:=List.findIdx?_eq_none_iff.2 fun c hc=>by simpa using hn c hc
 unfold idx;rw[this]
theorem yr: ∃n,∀{σ}{F:Fam σ}{Δ:DM F}{main s}(L:Frag)(a:Sl)(xs:List Nat)(b:Nat),xs.length<=8->slOk a (xs.map ptr) 93 L->(∀c∈xs,∃x,pb c x∈L)->(∃x,pb b x∈L)->
 CallsL Δ Tryz.prog main 115 [slv a xs.length,ptr b].toArray n s L (fun s' v L'=>s=s'/\L=L'/\v= .int .i64 (idx xs b)):=by
 apply Exists.intro;intro σ F Δ main s L a xs b h8 ha hxs hb;obtain⟨base,cap,hv,hat⟩:=bY ha;simp only[List.length_map] at hv;rw[hv];obtain⟨xb,hxb⟩:=hb;co_applyP aF 19 Tryz.func115 Tryz.ntmps115;co_applyP aa;co_applyP oan rfl;co_applyP au;co_applyP aa;co_applyP om rfl rfl rfl (bt (hu:=U91));co_applyP oy rfl ag;co_applyP ai;co_applyP aC;co_applyP bg (fun k s' ε' L'=>s'=s/\L'=L/\ ∃l1 l2,xs=l1++l2/\(∀c∈l1,c≠b)/\k+l1.length=8/\kn ε' [(8, .int .i64 l1.length),(7, .int .i64 xs.length),(1,ptr b),(0, .slice base xs.length cap)]) 8
 ·exact⟨rfl,rfl,[],xs,rfl,by simp,rfl,rfl⟩
 rintro k s' ε' L' ⟨rfl,rfl,l1,l2,hl,hn,hk,he⟩;co_applyP aN he;have hlen:=congrArg List.length hl;simp only[List.length_append] at hlen;co_applyP aa;co_applyP oy rfl bi;co_applyP ai;co_applyP au;co_applyP aT rfl;intro hc
 ·cases l2 with
  |nil=>simp at hc hlen;omega
  |cons q l2=>
   obtain⟨c,hc1,hc2,hc3⟩:=hat l1.length (ptr q) (by rw[hl];simp);subst hc2;simp at hlen;obtain⟨xq,hxq⟩:=hxs q (by rw[hl];simp);co_applyP aB;co_applyP au;co_applyP aC;co_applyP aa;co_applyP oy rfl ag;co_applyP oan rfl;co_applyP aa;co_applyP om rfl rfl rfl ag;co_applyP om rfl rfl rfl (bw U91 cM);co_applyP oy rfl (aA (ht:=fe));co_applyP oy rfl (Cg hxb hxq (hu:=U93) (hs:=Ct));co_applyP ai;co_applyP aT rfl;intro hq;co_applyP aa;co_applyP oy rfl ag;co_applyP oan rfl;co_applyP aK;change∃v,resE .. =some v/\_
   ·refine⟨_,rfl,rfl,rfl, ?_⟩;have:q=b:=by simp at hq;exact hq.symm
    rw[qU hl hn this]
   intro hq;co_applyP aB;co_applyP aq;co_applyP oy rfl aS;co_applyP oy rfl ag;co_applyP ai;change∃k',k'<_/\_;refine⟨k-1,by omega,rfl,rfl,l1++[q],l2,by simp[hl], ?_,by simp;omega, ?_⟩
   ·intro r hr;rcases List.mem_append.1 hr with h|h
    ·exact hn r h
    ·simp at h hq;rw[h];exact fun e=>hq e.symm
   ·have e:IntKind.i64.wrap ((l1.length:Int)+1)=((l1++[q]).length:Int):=by simp[IntKind.wrap_i64];omega
    rw[<-e];rfl
 intro hc;co_applyP bf;co_applyP aa;co_applyP oan rfl;co_applyP aK;change∃v,resE .. =some v/\_;cases l2 with
 |nil=>exact⟨_,rfl,rfl,rfl,by rw[pw (by rw[hl];simpa using hn)]⟩
 |cons q l2=>simp at hc hlen;omega
theorem l9:zeroAt Tryz.prog 93=some (.pointer none):=by kernel_rfl
theorem vA {xs junk:List Value}{i:Nat}(hi:i<xs.length):((xs++junk).toArray.extract (cutAt 0 ((i:Int)+1).toNat (xs.length+junk.length) 1) (cutAt 0 ((i:Int)+1).toNat (xs.length+junk.length) 1+(xs.length-((i:Int)+1).toNat)*1)).toList=xs.drop (i+1):=by
 have h1:((i:Int)+1).toNat=i+1:=by omega
 rw[h1];simp only[Array.toList_extract,List.extract_eq_take_drop];unfold cutAt
 split
 ·rename_i e;have:xs.length=i+1:=by omega
  simp[this]
 ·have e1:0+(i+1)*1+(xs.length-(i+1))*1-(0+(i+1)*1)=xs.length-(i+1):=by omega
  have e2:0+(i+1)*1=i+1:=by omega
  rw[e1,e2,List.drop_append_of_le_length (by omega),List.take_append_of_le_length (by simp)];rw[List.take_of_length_le (by simp)]
theorem tH {xs junk:List Value}{i:Nat}(hi:i<xs.length):
 puts (xs++junk).toArray (0+((i:Int).toNat-0)*1) ((xs++junk).toArray.extract (cutAt 0 ((i:Int)+1).toNat (xs.length+junk.length) 1) (cutAt 0 ((i:Int)+1).toNat (xs.length+junk.length) 1+(xs.length-((i:Int)+1).toNat)*1)).toList=(xs.eraseIdx i++(xs.drop (xs.length-1)++junk)).toArray:=by
 have h2:0+((i:Int).toNat-0)*1=i:=by omega
 rw[h2,vA hi,cL _ _ _ (by simp;omega)];congr 1;rw[List.take_append_of_le_length (by omega),List.length_drop,show i+(xs.length-(i+1))=xs.length-1 by omega,List.drop_append_of_le_length (by omega),List.eraseIdx_eq_take_drop_succ]
theorem qV {xs junk:List Value}{i:Nat}(hi:i<xs.length):puts (xs.eraseIdx i++(xs.drop (xs.length-1)++junk)).toArray (xs.length-1) (List.replicate 1 (.pointer none))=(xs.eraseIdx i++ .pointer none::junk).toArray:=by
 have hl:(xs.eraseIdx i).length=xs.length-1:=by rw[List.length_eraseIdx];simp[hi]
 rw[cL _ _ _ (by simp[hl];omega)];congr 1;rw[List.take_append_of_le_length (by omega),List.take_of_length_le (by omega)];have:(xs.eraseIdx i++(xs.drop (xs.length-1)++junk)).drop (xs.length-1+(List.replicate 1 (Value.pointer none)).length)=junk:=by
  rw[<-List.append_assoc,List.drop_append_of_le_length (by simp[hl];omega),List.drop_of_length_le (by simp[hl];omega)];rfl
 rw[this];simp
theorem px: ∃n,∀{σ}{F:Fam σ}{Δ:DM F}{main s}(L:Frag)(b:Nat)(xs junk:List Value)(i:Nat),i<xs.length->xs.length<1000000->xs.all plainV=true->(b,true,Obj.cells (xs++junk).toArray 93)∈L->
 CallsL Δ Tryz.prog main 116 [.slice (some ⟨b,0,none⟩) xs.length (xs.length+junk.length), .int .i64 i, .int .i64 ((i:Int)+1)].toArray n s L (fun s' v L'=>s=s'/\v= .slice (some ⟨b,0,none⟩) (xs.length-1) (xs.length+junk.length)/\Upd L b (.cells (xs.eraseIdx i++ .pointer none::junk).toArray 93) L'):=by
 apply Exists.intro;intro σ F Δ main s L b xs junk i hi hxs hpl hb;co_applyP aF 33 Tryz.func116 Tryz.ntmps116;co_applyP aa;co_applyP oan rfl;co_applyP aa;co_applyP om rfl rfl rfl ag;co_applyP om rfl rfl rfl ag;co_applyP oy rfl (bt (hu:=U91));co_applyP oy rfl (Ci U91 cM);co_applyP ai;co_applyP au;co_applyP aa;co_applyP om rfl rfl rfl ag;co_applyP oy rfl aI;co_applyP ai;change wpE ..;have e0:((i:Int)==(i:Int)+1)=false:=by simp;omega
 rw[e0];co_applyP aE rfl;co_applyP aB;co_applyP aa;co_applyP om rfl rfl rfl (bt (hu:=U91));co_applyP oan rfl;co_applyP au;have hsz:(xs++junk).toArray.size=xs.length+junk.length:=by simp
 have hcut:cutAt 0 ((i:Int)+1).toNat (xs.length+junk.length) 1+(xs.length-((i:Int)+1).toNat)*1<=(xs++junk).toArray.size:=by unfold cutAt;rw[hsz];split<;>omega
 co_applyP br [] 6 (nf:=0) a5;co_applyP tr 0 rfl ag pN;co_applyP tr 1 rfl ag pN;co_applyP tr 2 rfl (ve U91 cM) pN;co_applyP tr 3 rfl ag pN;co_applyP tr 4 rfl ag pN;co_applyP tr 5 rfl (zx U91 cM) pN;co_applyP bd;intro hnd;co_applyP te (i:=6) rfl (oY (hnd:=hnd) (hu:=U91) (hv:=U91) (hs:=cM) (hr:=cI hb hcut) (hc:=by omega) (hm:=hb) (ho:=by simp;unfold cutAt;split<;>split<;>omega) (hp:=by rw[vA hi];rw[List.all_eq_true] at hpl⊢;exact fun v hv=>hpl v (List.mem_of_mem_drop hv)));rintro _ _ ⟨rfl,hU⟩;refine⟨aD (by simp), ?_⟩;co_applyP to 7 rfl (bR) (aD (by simp));have ec:cutAt 0 0 (xs.length+junk.length) 1=0:=by unfold cutAt;split<;>omega
 have el:(i:Int).toNat-0+(xs.length-((i:Int)+1).toNat)=xs.length-1:=by omega
 have ek:xs.length+junk.length-0=xs.length+junk.length:=rfl;rw[ec,tH hi] at hU;rw[ec,el,ek];co_applyP td (by kernel_rfl);co_applyP aa;co_applyP om rfl rfl rfl ag;co_applyP oy rfl (bt (hu:=U91));co_applyP om rfl rfl rfl (Ai U91 cM);co_applyP j8;intro hnd';co_applyP oe rfl (Cj (hnd:=hnd') (hu:=U91) (hz0:=l9) (hzp:=rfl) (hm:=hU.self) (ho:=by have hl:(xs.eraseIdx i).length=xs.length-1:=(by rw[List.length_eraseIdx];simp[hi]);simp[hl];unfold cutAt;split<;>omega));rintro _ _ ⟨rfl,hU'⟩;co_applyP ai;co_applyP aa;co_applyP oy rfl ag;co_applyP oan rfl;co_applyP aK;change∃v,resE .. =some v/\_;have e3:cutAt 0 (((xs.length-1:Nat):Int)).toNat (xs.length+junk.length) 1=xs.length-1:=by unfold cutAt;split<;>omega
 have e4:(xs.length:Int).toNat-((xs.length-1:Nat):Int).toNat=1:=by omega
 rw[e3,e4,qV hi] at hU';exact⟨_,rfl,rfl,rfl,hU'.self,fun t ht hne=>hU'.ne t (hU.ne t ht hne) hne,hU'.fn⟩
theorem qW:bytesAt Tryz.prog 93=some 8:=by kernel_rfl
theorem ju (a:Sl)(n:Nat):plainV (slv a n)=true:=by unfold slv;split<;>rfl
theorem ii {z:Value}(h:plainV z=true)(n:Nat):Builtin.zeroCells z.cells n=(List.replicate n z).toArray:=by
 rw[dW h];unfold Builtin.zeroCells;apply Array.ext';apply List.ext_getElem
 ·simp
 ·intro i h1 h2;simp[Nat.mod_one]
structure Ap1 (L:Frag)(a:Sl)(xs:List Nat)(c:Nat)(a':Sl)(L':Frag):Prop where
 ok:slOk a' ((xs++[c]).map ptr) 93 L'
 fn:Fun L'
 sub: ∀t∈L,a.b≠some t.1->t∈L'
 d: ∀b,a'.b=some b->a.b=some b\/ ∀t∈L,t.1≠b
section
variable {New:Obj->Prop}{N:Nat}{ε:Env}{L:Frag}{d:Option Tmp}{ty:TypeId}{ps:String}{af:Array Edge}{g:Option (Nat×Bool)}{x y:Operand}
theorem zO {a:Sl}{xs:List Nat}{c nb:Nat}(hx:ev ε x=some (slv a xs.length):=by rfl)(hy:ev ε y=some (.slice (some ⟨nb,0,none⟩) 1 1):=by rfl)(hnd:(L.map (·.1)).Nodup)(hN: ∀cs,New (.cells cs 93)) (ha:slOk a (xs.map ptr) 93 L) (h8:xs.length<=1000) (hnb:(nb,true, .cells #[ptr c] 93)∈L):
 EO Tryz.prog New N ε L ⟨d, .call ⟨.builtin .append, #[x,y], #[91,91]⟩,ty,ps,af,g⟩ (fun r L'=> ∃a',r=slv a' (xs.length+1)/\Ap1 L a xs c a' L'):=by
 have hr:Reads Tryz.prog L 1 1 (.slice (some ⟨nb,0,none⟩) 1 1) #[ptr c]:=by
  have:=cI (P:=Tryz.prog) (sz:=1) (n:=1) (len:=1) (cap:=1) (o:=0) hnb (by simp);simpa using this
 have grow: ∀(ws:Array Value)(cap0:Nat),Reads Tryz.prog L 1 xs.length (slv a xs.length) ws->ws=(xs.map ptr).toArray->(∃base,slv a xs.length= .slice base xs.length cap0)->cap0<xs.length+1->
  EO Tryz.prog New N ε L ⟨d, .call ⟨.builtin .append, #[x,y], #[91,91]⟩,ty,ps,af,g⟩ (fun r L'=> ∃a',r=slv a' (xs.length+1)/\Ap1 L a xs c a' L'):=by
  rintro ws cap0 hws rfl ⟨base,hb⟩ hc;rw[hb] at hws hx;intro ac hac;refine cr ?_ _ _ (rP (by_:=7) (New:=New) hx hy (bG hnd) U91 U91 cM qW l9 hws hr hc (by omega) hN ac hac);intro r L' q;cases r<;>try exact q.elim
  ·obtain⟨b,cap,h1,h2,rfl,hA⟩:=q;rw[ii rfl] at hA;refine⟨⟨some b,List.replicate (cap-(xs.length+1)) (.pointer none)⟩, ?_, ?_,hA.fn,fun t ht _=>hA.sub t ht,fun b' hb'=> .inr ?_⟩
   ·unfold slv;simp;omega
   ·have e5:(xs.map ptr).toArray++ #[ptr c]++(List.replicate (cap-(xs.length+1)) (Value.pointer none)).toArray=((xs++[c]).map ptr++List.replicate (cap-(xs.length+1)) (Value.pointer none)).toArray:=by
     apply Array.ext';simp
    rw[e5] at hA;exact hA.self
   ·obtain rfl:b=b':=by simpa using hb'
    exact hA.new
  ·obtain⟨b,cap,_,_,e,_⟩:=q;cases e
 cases hab:a.b with
 |none=>
  have h2:=ha;unfold slOk at h2;rw[hab] at h2;obtain⟨e1,e2⟩:=h2;obtain rfl:xs=[]:=by simpa using e1
  have e3:slv a 0= .slice none 0 0:=by unfold slv;rw[hab]
  exact grow #[] 0 (by rw[List.length_nil,e3];exact gZ) rfl ⟨none,e3⟩ (by simp)
 |some b=>
  have hm:=ha.mem hab;have e3:slv a xs.length= .slice (some ⟨b,0,none⟩) xs.length (xs.length+a.junk.length):=by unfold slv;rw[hab]
  cases hj:a.junk with
  |nil=>
   rw[hj] at e3 hm;refine grow _ xs.length ?_ rfl ⟨_,e3⟩ (by omega);rw[e3];have:=cI (P:=Tryz.prog) (sz:=1) (n:=xs.length) (len:=xs.length) (cap:=xs.length+([]:List Value).length) (o:=0) hm (by simp);have e7:(xs.map ptr).take xs.length=xs.map ptr:=List.take_of_length_le (by simp);simpa [e7] using this
  |cons u junk=>
   rw[hj] at e3 hm;intro ac hac;rw[e3] at hx;refine cr ?_ _ _ (oY (New:=New) hx hy hnd U91 U91 cM hr (by simp) hm (by simp) (by simp[plainV]) ac hac);intro r L' q;cases r<;>try exact q.elim
   ·obtain⟨rfl,hU⟩:=q;have e4:puts (xs.map ptr++u::junk).toArray (0+xs.length*1) #[ptr c].toList=((xs++[c]).map ptr++junk).toArray:=by
     rw[cL _ _ _ (by simp)];have e6:(xs.map ptr++u::junk).drop (xs.length+1)=junk:=by
      rw[List.drop_append];simp
     simp[e6]
    rw[e4] at hU;refine⟨⟨some b,junk⟩, ?_,hU.self,hU.fn,fun t ht hne=>hU.ne t ht fun e=>hne (by rw[hab,e]),fun b' hb'=> .inl (by rw[hab];exact hb')⟩;unfold slv;simp;omega
   ·exact absurd q.1 (by simp[undef])
end
theorem Rep.row_ne {K:Nat}{A:Lay}{S:St}{Fr L:Frag}(h:Rep K A S Fr L){l:Nat}(hl:l<3){t:Nat×Bool×Obj}(ht:t∈L)(ho: ∀c,t.2.2≠ .cells c 93):(A.a (l+1)).b≠some t.1:=fun e=>
 ho _ (h.fn _ _ _ _ _ ht ((h.rw l hl).mem e)).2
theorem fj {c:Array Value}{t:TypeId}(h:t≠93): ∀c',Obj.cells c t≠ .cells c' 93:=fun _=>aQ h
theorem iK (k:KS){l:Nat}(hl:l<3)(v:Value):(kcells k).setIfInBounds (7+l) v=kcells {k with row:=put k.row l v}:=by
 rcases l with _|_|_|l
 ·rfl
 ·rfl
 ·rfl
 ·omega
theorem kj (A:Lay)(S:St)(l:Nat)(a':Sl)(xs:List Nat)(h0:l+1≠0):kst (A.setA (l+1) a') (S.setRow l xs)={kst A S with row:=put (kst A S).row l (slv a' xs.length)}:=by
 unfold kst Lay.setA St.setRow;simp only[KS.mk.injEq,true_and];refine⟨by simp[put], ?_, ?_⟩
 ·funext l'
  unfold put;by_cases e:l'=l
  ·subst e;simp
  ·simp[e]
 ·simp
theorem qX: ∃n,∀{σ}{F:Fam σ}{Δ:DM F}{main s}(K:Nat)(A:Lay)(S:St)(Fr L:Frag)(b:Nat)(x:PS),(∀cs,(Δ s).New (.cells cs 93))->Rep K A S Fr L->(b,x)∈S.ps->x.lv<3->(S.rows x.lv).length<=8->(∀e∈S.wt,slot e.1≠x.lv+1)->
 CallsL Δ Tryz.prog main 91 [.pointer (some ⟨K,7,none⟩),ptr b].toArray n s L (fun s' v L'=>s=s'/\v= .tuple #[]/\ ∃A',LRel A A'/\Rep K A' (S.setRow x.lv (S.rows x.lv++[b])) Fr L'):=by
 apply Exists.intro;intro σ F Δ main s K A S Fr L b x hN hR hb hlv h8 hw;have hx5:=hR.pat hb (i:=5) rfl;have hx5':At L b 5 (.int .i64 (x.lv:Int)):=hx5;have hrow:At L K (7+x.lv) (slv (A.a (x.lv+1)) (S.rows x.lv).length):=hR.kat (kZ _ hlv);clear hx5;co_applyP aF 24 Tryz.func91 Tryz.ntmps91;co_applyP br [pb b x] 17 (nf:=0) a5;co_applyP tr 0 rfl ag (aj (by simpa using hR.p _ hb));co_applyP tr 1 rfl ag (aj (by simpa using hR.p _ hb));co_applyP tr 2 rfl av (aj (by simpa using hR.p _ hb));co_applyP tr 3 rfl (ak (hf:=aM)) (aj (by simpa using hR.p _ hb));co_applyP tr 4 rfl (ak (hf:=cn)) (aj (by simpa using hR.p _ hb));co_applyP tr 5 rfl (aA (ht:=aR)) (aj (by simpa using hR.p _ hb));co_applyP tr 6 rfl ag (aj (by simpa using hR.p _ hb));co_applyP tr 7 rfl ag (aj (by simpa using hR.p _ hb));co_applyP tr 8 rfl av (aj (by simpa using hR.p _ hb));co_applyP tr 9 rfl (ak (hf:=aM)) (aj (by simpa using hR.p _ hb));co_applyP tr 10 rfl (ak (hf:=cn)) (aj (by simpa using hR.p _ hb));co_applyP t0 11 rfl (aA (ht:=aR)) (aj (by simpa using hR.p _ hb));co_applyP tr 12 rfl av (aj (by simpa using hR.p _ hb));co_applyP tr 13 rfl (aX m8 eD) (aj (by simpa using hR.p _ hb));co_applyP t0 14 rfl (aA (ht:=dz)) (aj (by simpa using hR.p _ hb));co_applyP tr 15 rfl ag (aj (by simpa using hR.p _ hb));co_applyP tr 18 rfl av (aj (by simpa using hR.p _ hb));co_applyP te (i:=16) rfl (oX (hN _) (hx:=rfl) (hu:=U91) (hs:=cM) (hz:=l9));rintro _ _ ⟨nb,hnb,rfl,rfl⟩;refine⟨cJ (by simpa using hR.p _ hb) (fun t ht=>List.mem_cons_of_mem _ ht), ?_⟩;co_applyP bd;intro hnd;have hA:=cQ (o:= .cells #[ptr b] 93) hR.fn hnb;have hR1:=hR.add hA;have hpne:(A.a (x.lv+1)).b≠some b:=hR1.row_ne hlv (hR1.p _ hb) (fj (by decide));have hkne:(A.a (x.lv+1)).b≠some K:=hR1.row_ne hlv hR1.k (fj (by decide));co_applyP te (i:=17) rfl (zO (c:=b) (hnd:=hnd) (hN:=hN) (ha:=hR1.rw _ hlv) (h8:=by omega) (hnb:=hA.self));rintro _ _ ⟨a',rfl,hp⟩;refine⟨aD (by simpa using hp.sub _ (hR1.p _ hb) hpne), ?_⟩;co_applyP to 19 rfl ((aX m8 eD)) (aD (by simpa using hp.sub _ (hR1.p _ hb) hpne));co_applyP bd;intro hnd';co_applyP te (i:=20) rfl (dv (hnd:=hnd') (hm:=hp.sub _ hR1.k hkne) (hi:=by rw[bU];omega) (hp:=ju _ _) (hs:=eD));rintro _ _ ⟨rfl,hU⟩;refine⟨aD (by simpa using hU.ne _ (hp.sub _ (hR1.p _ hb) hpne) (hR1.fn.ne (hR1.p _ hb) hR1.k (aQ (by decide)))), ?_⟩;co_applyP td (by kernel_rfl);change∃v,resE .. =some v/\_;refine⟨_,rfl,rfl,rfl,A.setA (x.lv+1) a',LRel.set A hlv a', ?_⟩;refine hR1.setRow hlv hU.fn ?_ (fun t ht h1 h2=>hU.ne t (hp.sub t ht h2) h1) ?_ ?_ hw
 ·rw[kj _ _ _ _ _ (by omega)];have:=hU.self;rw[iK _ hlv] at this;simpa using this
 ·exact hp.ok.mono fun c hc o ho=>hU.ne _ ho fun e=>by
   have h1:=hp.ok.mem hc;have e':c=K:=e;rw[e'] at h1;exact aQ (by decide) (hp.fn _ _ _ _ _ h1 (hp.sub _ hR1.k hkne)).2
 ·intro c hc;rcases hp.d c hc with h1|h1
  ·exact .inl h1
  ·refine .inr ⟨fun i hi=> ?_,fun t ht=>h1 t (hR1.fr t ht)⟩;obtain⟨ys,hy⟩:=hR1.al i c hi;exact h1 _ hy rfl
theorem py (S:St)(l:Nat):S.setRow l (S.rows l)=S:=by
 have:put S.rows l (S.rows l)=S.rows:=by funext j;unfold put;split<;>simp_all
 unfold St.setRow;rw[this]
theorem vB {l1 l2:List Nat}{b:Nat}(hn: ∀c∈l1,c≠b):(l1++b::l2).erase b=l1++l2:=by
 rw[List.erase_append_right _ (fun h=>hn b h rfl)];simp
theorem iL {α:Type}{l1 l2:List α}{b:α}:(l1++b::l2).eraseIdx l1.length=l1++l2:=by rw[List.eraseIdx_append_of_length_le (Nat.le_refl _)];simp
theorem iM {α β:Type}(f:α->β)(l:List α)(i:Nat):(l.eraseIdx i).map f=(l.map f).eraseIdx i:=by
 rw[List.eraseIdx_eq_take_drop_succ,List.eraseIdx_eq_take_drop_succ];simp
theorem nc: ∃n,∀{σ}{F:Fam σ}{Δ:DM F}{main s}(K:Nat)(A:Lay)(S:St)(Fr L:Frag)(b:Nat)(x:PS),Rep K A S Fr L->(b,x)∈S.ps->x.lv<3->(S.rows x.lv).length<=8->(∀c∈S.rows x.lv,∃y,(c,y)∈S.ps)->(∀e∈S.wt,slot e.1≠x.lv+1)->
 CallsL Δ Tryz.prog main 97 [.pointer (some ⟨K,7,none⟩),ptr b].toArray n s L (fun s' v L'=>s=s'/\v= .tuple #[]/\ ∃A',LRel A A'/\Rep K A' (S.setRow x.lv ((S.rows x.lv).erase b)) Fr L'):=by
 obtain⟨n1,g1⟩:=yr;obtain⟨n2,g2⟩:=px;apply Exists.intro;intro σ F Δ main s K A S Fr L b x hR hb hlv h8 hm hw;have hx5:At L b 5 (.int .i64 (x.lv:Int)):=hR.pat hb (i:=5) rfl;have hrow:At L K (7+x.lv) (slv (A.a (x.lv+1)) (S.rows x.lv).length):=hR.kat (kZ _ hlv);co_applyP aF 33 Tryz.func97 Tryz.ntmps97;co_applyP au;co_applyP bA a5;co_applyP tr 0 rfl ag pI;co_applyP tr 1 rfl ag pI;co_applyP tr 2 rfl av pI;co_applyP tr 3 rfl (ak (hf:=aM)) pI;co_applyP tr 4 rfl (ak (hf:=cn)) pI;co_applyP tr 5 rfl (aA (ht:=aR)) pI;co_applyP tr 6 rfl av pI;co_applyP tr 7 rfl (aX m8 eD) pI;co_applyP tr 8 rfl (aA (ht:=dz)) pI;co_applyP tr 9 rfl bR pI;co_applyP td (by kernel_rfl);co_applyP aa;co_applyP om rfl rfl rfl ag;co_applyP oc rfl rfl rfl (g1 L (A.a (x.lv+1)) (S.rows x.lv) b h8 (hR.rw _ hlv) (fun c hc=>by obtain⟨y,hy⟩:=hm c hc;exact⟨y,hR.p _ hy⟩) ⟨x,hR.p _ hb⟩);rintro _ _ _ ⟨rfl,rfl,rfl⟩;co_applyP oan rfl;co_applyP aa;co_applyP om rfl rfl rfl dt;co_applyP ai;co_applyP aT rfl;intro hi
 ·by_cases hin:b∈S.rows x.lv
  ·obtain⟨l1,l2,hl,hn⟩:=List.eq_append_cons_of_mem hin;have hn': ∀c∈l1,c≠b:=fun c hc e=>hn (e▸hc);have hix:idx (S.rows x.lv) b=(l1.length:Int):=qU hl hn' rfl;have hll:l1.length<(S.rows x.lv).length:=by rw[hl];simp
   have hwr:IntKind.i64.wrap ((l1.length:Int)+1)=(l1.length:Int)+1:=by simp[IntKind.wrap_i64];omega
   cases hQ:(A.a (x.lv+1)).b with
   |none=>
    have:=hR.rw _ hlv;unfold slOk at this;rw[hQ] at this;rw[hl] at this;simp at this
   |some Q=>
    have hQm:=(hR.rw _ hlv).mem hQ;have hsv:slv (A.a (x.lv+1)) (S.rows x.lv).length= .slice (some ⟨Q,0,none⟩) ((S.rows x.lv).map ptr).length (((S.rows x.lv).map ptr).length+(A.a (x.lv+1)).junk.length):=by unfold slv;rw[hQ];simp
    have hpQ:b≠Q:=fun e=>hR.row_ne hlv (hR.p _ hb) (fj (by decide)) (by rw[hQ,e]);have hkQ:K≠Q:=fun e=>hR.row_ne hlv hR.k (fj (by decide)) (by rw[hQ,e]);rw[hix,hsv];co_applyP br [pb b x] 10 a5;co_applyP tr 0 rfl ag (aj (by simpa using hR.p _ hb));co_applyP tr 1 rfl ag (aj (by simpa using hR.p _ hb));co_applyP tr 2 rfl av (aj (by simpa using hR.p _ hb));co_applyP tr 3 rfl (ak (hf:=aM)) (aj (by simpa using hR.p _ hb));co_applyP tr 4 rfl (ak (hf:=cn)) (aj (by simpa using hR.p _ hb));co_applyP tr 5 rfl (aA (ht:=aR)) (aj (by simpa using hR.p _ hb));co_applyP tr 6 rfl ag (aj (by simpa using hR.p _ hb));co_applyP tr 7 rfl ag (aj (by simpa using hR.p _ hb));co_applyP tr 8 rfl ag (aj (by simpa using hR.p _ hb));co_applyP tr 9 rfl aS (aj (by simpa using hR.p _ hb));co_applyP tr 11 rfl av (aj (by simpa using hR.p _ hb));rw[hwr];co_applyP tc 10 rfl rfl rfl (g2 L Q ((S.rows x.lv).map ptr) (A.a (x.lv+1)).junk l1.length (by simpa using hll) (by simp;omega) (by simp[plainV]) hQm);rintro _ _ _ ⟨rfl,rfl,hU⟩;refine⟨aD (by simpa using hU.ne _ (hR.p _ hb) hpQ), ?_⟩;co_applyP to 12 rfl ((aX m8 eD)) (aD (by simpa using hU.ne _ (hR.p _ hb) hpQ));co_applyP bd;intro hnd;co_applyP te (i:=13) rfl (dv (hnd:=hnd) (hm:=hU.ne _ hR.k hkQ) (hi:=by rw[bU];omega) (hs:=eD));rintro _ _ ⟨rfl,hU'⟩;refine⟨aD (by simpa using hU'.ne _ (hU.ne _ (hR.p _ hb) hpQ) (hR.fn.ne (hR.p _ hb) hR.k (aQ (by decide)))), ?_⟩;co_applyP td (by kernel_rfl);change∃v,resE .. =some v/\_;have her:(S.rows x.lv).erase b=(S.rows x.lv).eraseIdx l1.length:=by rw[hl,vB hn',iL]
    have hlen':((S.rows x.lv).eraseIdx l1.length).length=(S.rows x.lv).length-1:=by rw[List.length_eraseIdx];simp[hll]
    refine⟨_,rfl,rfl,rfl,A.setA (x.lv+1) ⟨some Q, .pointer none::(A.a (x.lv+1)).junk⟩,LRel.set A hlv _, ?_⟩;rw[her];refine hR.setRow hlv hU'.fn ?_ (fun t ht h1 h2=>hU'.ne t (hU.ne t ht fun e=>h2 (by rw[hQ,e])) h1) ?_ (fun c hc=> .inl (by rw[hQ];exact hc)) hw
    ·rw[kj _ _ _ _ _ (by omega)];have:=hU'.self;rw[iK _ hlv] at this;have e9:slv ⟨some Q, .pointer none::(A.a (x.lv+1)).junk⟩ ((S.rows x.lv).eraseIdx l1.length).length= .slice (some ⟨Q,0,none⟩) (((S.rows x.lv).map ptr).length-1) (((S.rows x.lv).map ptr).length+(A.a (x.lv+1)).junk.length):=by
      unfold slv;simp[hlen'];omega
     rw[e9];exact this
    ·have:=hU'.ne _ hU.self (Ne.symm hkQ);show (Q,true,_)∈_;rw[iM];exact this
  ·rw[pw (fun c hc e=>hin (by rw[<-e];exact hc))] at hi;simp at hi
 intro hi;co_applyP aB;change∃v,resE .. =some v/\_;refine⟨_,rfl,rfl,rfl,A,LRel.refl A, ?_⟩;have hni:b∉S.rows x.lv:=fun hin=>by
  obtain⟨l1,l2,hl,hn⟩:=List.eq_append_cons_of_mem hin;rw[qU hl (fun c hc e=>hn (by rw[<-e];exact hc)) rfl] at hi;simp at hi
 rw[List.erase_of_not_mem hni,py];exact hR
theorem bI (S:St)(b:Nat)(x y:PS):(S.setP b x).setP b y=S.setP b y:=by
 unfold St.setP;simp only[List.map_map];congr 1;apply List.map_congr_left;intro q _;simp only[Function.comp]
 split<;>simp_all
theorem jR {S:St}{b c:Nat}{x:PS}(h: ∃y,(c,y)∈S.ps): ∃y,(c,y)∈(S.setP b x).ps:=by
 obtain⟨y,hy⟩:=h;simp only[St.setP,List.mem_map];by_cases e:c=b
 ·exact⟨x,(c,y),hy,by simp[e]⟩
 ·exact⟨y,(c,y),hy,by simp[e]⟩
theorem qY: ∃n,∀{σ}{F:Fam σ}{Δ:DM F}{main s}(K:Nat)(A:Lay)(S:St)(Fr L:Frag)(b:Nat)(x:PS),(∀cs,(Δ s).New (.cells cs 93))->Rep K A S Fr L->(b,x)∈S.ps->x.lv<3->(S.rows x.lv).length<=8->(∀e∈S.wt,slot e.1≠x.lv+1)->
 CallsL Δ Tryz.prog main 75 [ptr K,ptr b].toArray n s L (fun s' v L'=>s=s'/\v= .tuple #[]/\ ∃A',LRel A A'/\Rep K A' ((S.setP b {x with st:=1,used:=0}).setRow x.lv (S.rows x.lv++[b])) Fr L'):=by
 obtain⟨n1,g1⟩:=qX;apply Exists.intro;intro σ F Δ main s K A S Fr L b x hN hR hb hlv h8 hw;co_applyP aF 17 Tryz.func75 Tryz.ntmps75;co_applyP aa;co_applyP om rfl rfl rfl av;co_applyP oy rfl (ak (hf:=aM));co_applyP oy rfl (ak (hf:=bM));co_applyP osm rfl (hs:=bS) (hm:=hR.p _ hb) (hi:=by first|decide|(rw[bL];omega)|(rw[bU];omega));intro L1 hU;have hR1:=hR.setP (x':={x with st:=1}) hb hU;co_applyP ai;co_applyP aa;co_applyP om rfl rfl rfl av;co_applyP oy rfl (ak (hf:=aM));co_applyP oy rfl (ak (hf:=da));co_applyP osm rfl (hs:=bS) (hm:=hR1.p _ (ar hb)) (hi:=by first|decide|(rw[bL];omega)|(rw[bU];omega));intro L2 hU2;have hR2:=hR1.setP (x':={x with st:=1,used:=0}) (ar hb) hU2;rw[bI] at hR2;co_applyP ai;co_applyP aq;co_applyP om rfl rfl rfl av;co_applyP oy rfl (ak (hf:=dA));co_applyP oy rfl ag;co_applyP oc rfl rfl rfl (g1 K A _ Fr L2 b _ hN hR2 (ar hb) hlv h8 hw);rintro _ _ _ ⟨rfl,rfl,A',hr,hR3⟩;co_applyP ai;change∃v,resE .. =some v/\_;exact⟨_,rfl,rfl,rfl,A',hr,hR3⟩
theorem ng: ∃n,∀{σ}{F:Fam σ}{Δ:DM F}{main s}(K:Nat)(A:Lay)(S:St)(Fr L:Frag)(b:Nat)(x:PS)(st:Nat),Rep K A S Fr L->(b,x)∈S.ps->x.lv<3->(S.rows x.lv).length<=8->(∀c∈S.rows x.lv,∃y,(c,y)∈S.ps)->(∀e∈S.wt,slot e.1≠x.lv+1)->
 CallsL Δ Tryz.prog main 107 [ptr K,ptr b, .int .i64 st].toArray n s L (fun s' v L'=>s=s'/\v= .tuple #[]/\ ∃A',LRel A A'/\Rep K A' ((S.setP b {x with st:=st}).setRow x.lv ((S.rows x.lv).erase b)) Fr L'):=by
 obtain⟨n1,g1⟩:=nc;apply Exists.intro;intro σ F Δ main s K A S Fr L b x st hR hb hlv h8 hm hw;co_applyP aF 16 Tryz.func107 Tryz.ntmps107;co_applyP aa;co_applyP om rfl rfl rfl av;co_applyP oy rfl (ak (hf:=dA));co_applyP oy rfl ag;co_applyP oc rfl rfl rfl (g1 K A S Fr L b x hR hb hlv h8 hm hw);rintro _ _ _ ⟨rfl,rfl,A',hr,hR1⟩;co_applyP ai;co_applyP aq;co_applyP om rfl rfl rfl ag;co_applyP oy rfl av;co_applyP oy rfl (ak (hf:=aM));co_applyP oy rfl (ak (hf:=bM));co_applyP osm rfl (hs:=bS) (hm:=hR1.p _ hb) (hi:=by first|decide|(rw[bL];omega)|(rw[bU];omega));intro L2 hU2;have hR2:=hR1.setP (x':={x with st:=st}) hb hU2;co_applyP ai;change∃v,resE .. =some v/\_;exact⟨_,rfl,rfl,rfl,A',hr,hR2⟩
def St.turn (S:St)(b:Nat)(x:PS):St:=
 if(x.used:Int)<S.sl x.lv then S
 else
  let lv:=min (x.lv+1) 2
  let S1:=(S.setRow x.lv ((S.rows x.lv).erase b)).setP b {x with lv:=lv,used:=0}
  S1.setRow lv (S1.rows lv++[b])
theorem CJ (k:KS){l:Nat}(hl:l<3):(kcells k)[l]? =some (.int .i64 (k.sl l)):=by
 rcases l with _|_|_|l
 ·rfl
 ·rfl
 ·rfl
 ·omega
theorem Aw: ∃n,∀{σ}{F:Fam σ}{Δ:DM F}{main s}(K:Nat)(A:Lay)(S:St)(Fr L:Frag)(b:Nat)(x:PS),(∀cs,(Δ s).New (.cells cs 93))->Rep K A S Fr L->(b,x)∈S.ps->x.lv<3->(∀l,l<3->(S.rows l).length<=8)->(∀c∈S.rows x.lv,∃y,(c,y)∈S.ps)->(∀e∈S.wt,∀l,l<3->slot e.1≠l+1)->
 CallsL Δ Tryz.prog main 86 [ptr K,ptr b].toArray n s L (fun s' v L'=>s=s'/\v= .tuple #[]/\ ∃A',LRel A A'/\Rep K A' (S.turn b x) Fr L'):=by
 obtain⟨n1,g1⟩:=nc;obtain⟨n2,g2⟩:=qX;apply Exists.intro;intro σ F Δ main s K A S Fr L b x hN hR hb hlv h8 hm hw;have hx5:At L b 5 (.int .i64 (x.lv:Int)):=hR.pat hb (i:=5) rfl;have hx6:At L b 6 (.int .i64 (x.used:Int)):=hR.pat hb (i:=6) rfl;have hsl:At L K x.lv (.int .i64 (S.sl x.lv)):=hR.kat (CJ _ hlv);co_applyP aF 46 Tryz.func86 Tryz.ntmps86;co_applyP au;co_applyP au;co_applyP bA a5;co_applyP tr 0 rfl ag pI;co_applyP tr 1 rfl av pI;co_applyP tr 2 rfl (ak (hf:=aM)) pI;co_applyP tr 3 rfl (ak (hf:=da)) pI;co_applyP tr 4 rfl (aA (ht:=aR)) pI;co_applyP tr 5 rfl ag pI;co_applyP tr 6 rfl ag pI;co_applyP tr 7 rfl av pI;co_applyP tr 8 rfl (ak (hf:=aM)) pI;co_applyP tr 9 rfl (ak (hf:=cn)) pI;co_applyP tr 10 rfl (aA (ht:=aR)) pI;co_applyP tr 11 rfl av pI;co_applyP tr 12 rfl (ak (hf:=fQ)) pI;co_applyP tr 13 rfl (ak (hf:=iE)) pI;co_applyP tr 14 rfl (aX Tryz.underlying24 bS) pI;co_applyP tr 15 rfl (aA (ht:=aR)) pI;co_applyP tr 16 rfl bi pI;co_applyP td (by kernel_rfl);co_applyP aT rfl;intro hc;co_applyP aK;change∃v,resE .. =some v/\_
 ·refine⟨_,rfl,rfl,rfl,A,LRel.refl A, ?_⟩;have:(x.used:Int)<S.sl x.lv:=by simpa using hc
  unfold St.turn;rw[if_pos this];exact hR
 intro hc;have hnl: ¬(x.used:Int)<S.sl x.lv:=by simpa using hc
 have emin:(if(2:Int)<IntKind.i64.wrap ((x.lv:Int)+1) then(2:Int) else IntKind.i64.wrap ((x.lv:Int)+1))=((min (x.lv+1) 2:Nat):Int):=by
  have:IntKind.i64.wrap ((x.lv:Int)+1)=(x.lv:Int)+1:=by simp[IntKind.wrap_i64];omega
  rw[this];split<;>omega
 co_applyP aB;co_applyP aa;co_applyP om rfl rfl rfl av;co_applyP oy rfl (ak (hf:=dA));co_applyP oy rfl ag;co_applyP oc rfl rfl rfl (g1 K A S Fr L b x hR hb hlv (h8 _ hlv) hm (fun e he=>hw e he _ hlv));rintro _ _ _ ⟨rfl,rfl,A1,hr1,hR1⟩;have hx5':=hR1.pat hb (i:=5) rfl;have hx5'':At _ b 5 (.int .i64 (x.lv:Int)):=hx5';clear hx5' hx5 hx6 hsl;co_applyP ai;co_applyP aa;co_applyP om rfl rfl rfl ag;co_applyP oy rfl av;co_applyP oy rfl (ak (hf:=aM));co_applyP oy rfl (ak (hf:=cn));co_applyP oy rfl (aA (ht:=aR));co_applyP oy rfl aS;co_applyP oy rfl Cf;co_applyP oy rfl av;co_applyP oy rfl (ak (hf:=aM));co_applyP oy rfl (ak (hf:=cn));rw[emin];co_applyP osm rfl (hs:=bS) (hm:=hR1.p _ hb) (hi:=by first|decide|(rw[bL];omega)|(rw[bU];omega));intro L1 hU;have hR2:=hR1.setP (x':={x with lv:=min (x.lv+1) 2}) hb hU;co_applyP ai;co_applyP aa;co_applyP om rfl rfl rfl av;co_applyP oy rfl (ak (hf:=aM));co_applyP oy rfl (ak (hf:=da));co_applyP osm rfl (hs:=bS) (hm:=hR2.p _ (ar hb)) (hi:=by first|decide|(rw[bL];omega)|(rw[bU];omega));intro L2 hU2;have hR3:=hR2.setP (x':={x with lv:=min (x.lv+1) 2,used:=0}) (ar hb) hU2;rw[bI] at hR3;have hmin:min (x.lv+1) 2<3:=by omega
 co_applyP ai;co_applyP aq;co_applyP om rfl rfl rfl av;co_applyP oy rfl (ak (hf:=dA));co_applyP oy rfl ag;co_applyP oc rfl rfl rfl (g2 K A1 _ Fr L2 b _ hN hR3 (ar hb) hmin (by show (put S.rows x.lv ((S.rows x.lv).erase b) (min (x.lv+1) 2)).length<=8;unfold put;split;exact Nat.le_trans (List.length_erase_le) (h8 _ hlv);exact h8 _ hmin) (fun e he=>hw e he _ hmin));rintro _ _ _ ⟨rfl,rfl,A3,hr3,hR4⟩;co_applyP ai;change∃v,resE .. =some v/\_;refine⟨_,rfl,rfl,rfl,A3,hr1.trans hr3, ?_⟩;unfold St.turn;rw[if_neg hnl];exact hR4
theorem jv: ∀{l m:List Nat},l.Nodup->(∀x∈l,x∈m)->l.length<=m.length
 |[],_,_,_=>by simp
 |x::l,m,hn,hs=>by
  have hx:=hs x List.mem_cons_self;have h1:=jv (l:=l) (m:=m.erase x) (List.nodup_cons.1 hn).2 fun y hy=>(List.mem_erase_of_ne fun e=>(List.nodup_cons.1 hn).1 (by rw[<-e];exact hy)).2 (hs y (List.mem_cons_of_mem _ hy));have h2:=List.length_erase_of_mem hx;have h3:=List.length_pos_of_mem hx;simp only[List.length_cons];omega
def St.get (S:St)(b:Nat):Option PS:=(S.ps.find? fun q=>q.1==b).map (·.2)
structure Good (S:St):Prop where
 pn:(S.ps.map (·.1)).Nodup
 p8:S.ps.length<=8
 lv: ∀q∈S.ps,q.2.lv<3
 rn: ∀l,l<3->(S.rows l).Nodup
 rm: ∀l,l<3-> ∀c∈S.rows l,∃y,(c,y)∈S.ps/\y.lv=l/\y.st=1
 rr: ∀q∈S.ps,q.2.st=1->q.1∈S.rows q.2.lv
section
variable {S:St}
theorem bk {b:Nat}{x:PS}(hn:(S.ps.map (·.1)).Nodup)(h:(b,x)∈S.ps):S.get b=some x:=by
 unfold St.get;cases hf:S.ps.find? fun q=>q.1==b with
 |none=>
  have:=List.find?_eq_none.1 hf (b,x) h;simp at this
 |some q=>
  have h1:=List.mem_of_find?_eq_some hf;have h2:=List.find?_some hf;obtain⟨c,y⟩:=q;have e:c=b:=by simpa using h2
  subst e;simp[a6 hn h1 h]
theorem bh {b:Nat}{x:PS}(h:S.get b=some x):(b,x)∈S.ps:=by
 unfold St.get at h;obtain⟨q,hq,rfl⟩:=Option.map_eq_some_iff.1 h;have h2:=List.find?_some hq;have e:q.1=b:=by simpa using h2
 subst e;exact List.mem_of_find?_eq_some hq
theorem Good.r8 (h:Good S){l:Nat}(hl:l<3):(S.rows l).length<=8:=by
 have:=jv (m:=S.ps.map (·.1)) (h.rn l hl) fun c hc=>by
  obtain⟨y,hy,_⟩:=h.rm l hl c hc;exact List.mem_map.2 ⟨_,hy,rfl⟩
 have h8:=h.p8;simp at this;omega
theorem Good.ex (h:Good S){l:Nat}(hl:l<3): ∀c∈S.rows l,∃y,(c,y)∈S.ps:=fun c hc=>by
 obtain⟨y,hy,_⟩:=h.rm l hl c hc;exact⟨y,hy⟩
theorem dC (k:Nat×Nat){l:Nat}(hl:l<3):slot k≠l+1:=by unfold slot;omega
def St.wake1 (S:St)(b:Nat)(x:PS):St:=(S.setP b {x with st:=1,used:=0}).setRow x.lv (S.rows x.lv++[b])
theorem Good.wake1 (h:Good S){b:Nat}{x:PS}(hb:(b,x)∈S.ps)(hs:x.st≠1):Good (S.wake1 b x):=by
 have hlv:=h.lv _ hb;have hnr: ∀l,l<3->b∉S.rows l:=fun l hl hm=>by
  obtain⟨y,hy,_,h1⟩:=h.rm l hl b hm;rw[a6 h.pn hb hy] at hs;exact hs h1
 have rows: ∀l,(S.wake1 b x).rows l=if l=x.lv then S.rows x.lv++[b] else S.rows l:=fun l=>rfl;refine⟨by unfold St.wake1 St.setRow;rw[ba];exact h.pn,by unfold St.wake1 St.setRow;rw[fi];exact h.p8,fun q hq=> ?_,fun l hl=> ?_,fun l hl c hc=> ?_,fun q hq h1=> ?_⟩
 ·rcases aO hq with rfl|⟨h1,_⟩
  ·exact hlv
  ·exact h.lv q h1
 ·rw[rows]
  split
  ·rename_i e;refine List.nodup_append.2 ⟨h.rn _ hlv,by simp,fun a ha c hc=> ?_⟩;simp at hc;subst hc;exact fun e=>hnr _ hlv (e▸ha)
  ·exact h.rn l hl
 ·rw[rows] at hc;have old: ∀l',l'<3->c∈S.rows l'-> ∃y,(c,y)∈(S.setP b {x with st:=1,used:=0}).ps/\y.lv=l'/\y.st=1:=fun l' hl' hc'=>by
   obtain⟨y,hy,h1,h2⟩:=h.rm l' hl' c hc';refine⟨y, ?_,h1,h2⟩;simp only[St.setP,List.mem_map];refine⟨(c,y),hy, ?_⟩;rw[if_neg];rintro rfl;exact hnr l' hl' hc'
  split at hc
  ·rename_i e;subst e;rcases List.mem_append.1 hc with h1|h1
   ·exact old _ hl h1
   ·simp at h1;subst h1;exact⟨_,ar hb,rfl,rfl⟩
  ·exact old l hl hc
 ·rw[rows];rcases aO hq with rfl|⟨h2,h3⟩
  ·simp
  ·have:=h.rr q h2 h1
   split
   ·rename_i e;rw[e] at this;exact List.mem_append_left _ this
   ·exact this
end
def St.wakes (S:St):List Nat->St
 |[]=>S
 |b::bs=>St.wakes (match S.get b with
  |some x=>if x.st=3/\x.til=S.now then S.wake1 b x else S
  |none=>S) bs
theorem nh (S:St)(l m:List Nat):S.wakes (l++m)=(S.wakes l).wakes m:=by
 induction l generalizing S with
 |nil=>rfl
 |cons b l ih=>simp only[List.cons_append,St.wakes];exact ih _
structure WRel (S S':St):Prop where
 f:S'.ps.map (·.1)=S.ps.map (·.1)
 now:S'.now=S.now
theorem WRel.refl (S:St):WRel S S:=⟨rfl,rfl⟩
theorem ma (S:St)(b:Nat)(x:PS):WRel S (S.wake1 b x):=⟨ba S b _,rfl⟩
theorem fS: ∃n,∀{σ}{F:Fam σ}{Δ:DM F}{main s}(K:Nat)(A:Lay)(S:St)(Fr L:Frag),(∀cs,(Δ s).New (.cells cs 93))->Rep K A S Fr L->Good S->
 CallsL Δ Tryz.prog main 80 [ptr K].toArray n s L (fun s' v L'=>s=s'/\v= .tuple #[]/\Good (S.wakes (S.ps.map (·.1)))/\WRel S (S.wakes (S.ps.map (·.1)))/\ ∃A',LRel A A'/\Rep K A' (S.wakes (S.ps.map (·.1))) Fr L'):=by
 obtain⟨n1,g1⟩:=qY;apply Exists.intro;intro σ F Δ main s K A S Fr L hN hR hG;obtain⟨base,cap,hv,hat0⟩:=bY hR.pa;simp only[List.length_map] at hv;have h5:At L K 5 (.slice base S.ps.length cap):=by rw[<-hv];exact hR.kat rfl
 co_applyP aF 34 Tryz.func80 Tryz.ntmps80;co_applyP aa;co_applyP om rfl rfl rfl av;co_applyP oy rfl (ak (hf:=bX));co_applyP oy rfl (aA (ht:=dz));co_applyP oy rfl (bt (hu:=U91));co_applyP oy rfl ag;co_applyP ai;co_applyP aC;co_applyP bg (fun k s' ε' L'=>s'=s/\ ∃l1 l2 A',S.ps=l1++l2/\LRel A A'/\Rep K A' (S.wakes (l1.map (·.1))) Fr L'/\Good (S.wakes (l1.map (·.1)))/\WRel S (S.wakes (l1.map (·.1)))/\k+l1.length=8/\kn ε' [(9, .int .i64 l1.length),(8, .int .i64 S.ps.length),(7, .slice base S.ps.length cap),(0,ptr K)]) 8
 ·exact⟨rfl,[],S.ps,A,rfl,LRel.refl A,hR,hG,WRel.refl S,rfl,rfl⟩
 rintro k s' ε' L' ⟨rfl,l1,l2,A',hl,hr,hR',hG',hW',hk,he⟩;co_applyP aN he;have hlen:=congrArg List.length hl;simp only[List.length_append] at hlen;have h8:=hR.p8;co_applyP aa;co_applyP oy rfl bi;co_applyP ai;co_applyP au;co_applyP aT rfl;intro hc
 ·cases l2 with
  |nil=>simp at hc hlen;omega
  |cons q l2=>
   have hat: ∃b,base=some ⟨b,0,none⟩/\At L' b l1.length (ptr q.1):=by
    obtain⟨b,hb1,hb2,_⟩:=hat0 l1.length (ptr q.1) (by rw[hl];simp);have hpa:=hR'.pa;obtain⟨base',cap',_,hat'⟩:=bY hpa;have e1:(S.wakes (l1.map (·.1))).ps.map (fun q=>ptr q.1)=S.ps.map fun q=>ptr q.1:=by
     have:=congrArg (List.map ptr) hW'.f;rw[List.map_map,List.map_map] at this;exact this
    obtain⟨b',hb1',_,hv'⟩:=hat' l1.length (ptr q.1) (by rw[e1,hl];simp);rw[hr.a 0 (.inl rfl),hb1] at hb1';obtain rfl:b=b':=by simpa using hb1'
    exact⟨b,hb2,hv'⟩
   obtain⟨ab,rfl,hav⟩:=hat;simp at hlen;have hmem:q.1∈(S.wakes (l1.map (·.1))).ps.map (·.1):=by rw[hW'.f,hl];simp
   obtain⟨⟨b,x⟩,hbx,hbq⟩:=List.mem_map.1 hmem;have hbq':b=q.1:=hbq;subst hbq';have hx2:At L' q.1 2 (.int .i64 (x.st:Int)):=hR'.pat hbx (i:=2) rfl;have hx91:At L' q.1 91 (.int .i64 x.til):=hR'.pat hbx (i:=91) rfl;have hk16:At L' K 16 (.int .i64 ((S.wakes (l1.map (·.1))).now:Int)):=hR'.kat rfl;have hget:=bk hG'.pn hbx;co_applyP aB;co_applyP au;co_applyP aC;co_applyP aa;co_applyP oy rfl (bw U91 cM);co_applyP oy rfl (aA (ht:=fe));co_applyP oan rfl;co_applyP au;co_applyP cO ([(29, .bool (decide (x.st=3/\x.til=(S.wakes (l1.map (·.1))).now))),(3,ptr q.1),(9, .int .i64 l1.length),(8, .int .i64 S.ps.length),(7, .slice (some ⟨ab,0,none⟩) S.ps.length cap),(0,ptr K)]);co_applyP bA a5;co_applyP tr 0 rfl ag pI;co_applyP tr 1 rfl av pI;co_applyP tr 2 rfl (ak (hf:=aM)) pI;co_applyP tr 3 rfl (ak (hf:=bM)) pI;co_applyP tr 4 rfl (aA (ht:=aR)) pI;co_applyP tr 5 rfl aI pI;co_applyP tr 6 rfl ag pI
   ·by_cases h3:x.st=3
    ·have e3:((x.st:Int)==3)=true:=by simp[h3]
     rw[e3];co_applyP tr 7 rfl (ag) pI;co_applyP tr 8 rfl (av) pI;co_applyP tr 9 rfl ((ak (hf:=rT))) pI;co_applyP tr 10 rfl ((aA (ht:=aR))) pI;co_applyP tr 11 rfl (ag) pI;co_applyP tr 12 rfl (av) pI;co_applyP tr 13 rfl ((ak (hf:=cg))) pI;co_applyP tr 14 rfl ((aA (ht:=aR))) pI;co_applyP tr 15 rfl (aI) pI;co_applyP tr 16 rfl aH pI;co_applyP td (by kernel_rfl);change _=_/\_=_/\kn _ _;refine⟨rfl,rfl, ?_⟩;have e4:(x.til==((S.wakes (l1.map (·.1))).now:Int))=decide (x.st=3/\x.til=(S.wakes (l1.map (·.1))).now):=by rw[Bool.eq_iff_iff];simp[h3]
     rw[<-e4];rfl
    ·have e3:((x.st:Int)==3)=false:=by simp;omega
     rw[e3];co_applyP tu 7 rfl pI;co_applyP tu 8 rfl pI;co_applyP tu 9 rfl pI;co_applyP tu 10 rfl pI;co_applyP tu 11 rfl pI;co_applyP tu 12 rfl pI;co_applyP tu 13 rfl pI;co_applyP tu 14 rfl pI;co_applyP tu 15 rfl pI;co_applyP tr 16 rfl aH pI;co_applyP td (by kernel_rfl);change _=_/\_=_/\kn _ _;refine⟨rfl,rfl, ?_⟩;have e4:false=decide (x.st=3/\x.til=(S.wakes (l1.map (·.1))).now):=by simp[h3]
     rw[<-e4];rfl
   have hnext:S.wakes ((l1++[q]).map (·.1))=if x.st=3/\x.til=(S.wakes (l1.map (·.1))).now then(S.wakes (l1.map (·.1))).wake1 q.1 x else S.wakes (l1.map (·.1)):=by
    rw[List.map_append,nh];show St.wakes (match (S.wakes (l1.map (·.1))).get q.1 with|some x=>_|none=>_) []=_;rw[hget];rfl
   have elen:IntKind.i64.wrap ((l1.length:Int)+1)=((l1++[q]).length:Int):=by simp[IntKind.wrap_i64];omega
   co_applyP aT rfl;intro hw;co_applyP aq;co_applyP om rfl rfl rfl ag;co_applyP oc rfl rfl rfl (g1 K A' _ Fr L' q.1 x hN hR' hbx (hG'.lv _ hbx) (hG'.r8 (hG'.lv _ hbx)) (fun e _=>dC _ (hG'.lv _ hbx)));rintro _ _ _ ⟨rfl,rfl,A2,hr2,hR2⟩;co_applyP ai;co_applyP aq;co_applyP oy rfl aS;co_applyP oy rfl ag;co_applyP ai;change∃k',k'<_/\_;have hw':x.st=3/\x.til=(S.wakes (l1.map (·.1))).now:=by simpa using hw
   rw[if_pos hw'] at hnext;refine⟨k-1,by omega,rfl,l1++[q],l2,A2,by simp[hl],hr.trans hr2, ?_, ?_, ?_,by simp;omega, ?_⟩
   ·rw[hnext];exact hR2
   ·rw[hnext];exact hG'.wake1 hbx (by omega)
   ·rw[hnext];exact⟨(ma _ _ _).f.trans hW'.f,(ma _ _ _).now.trans hW'.now⟩
   ·rw[<-elen];rfl
   intro hw;co_applyP aB;co_applyP aq;co_applyP oy rfl aS;co_applyP oy rfl ag;co_applyP ai;change∃k',k'<_/\_;have hw': ¬(x.st=3/\x.til=(S.wakes (l1.map (·.1))).now):=by simpa using hw
   rw[if_neg hw'] at hnext;refine⟨k-1,by omega,rfl,l1++[q],l2,A',by simp[hl],hr, ?_, ?_, ?_,by simp;omega, ?_⟩
   ·rw[hnext];exact hR'
   ·rw[hnext];exact hG'
   ·rw[hnext];exact hW'
   ·rw[<-elen];rfl
 intro hc;co_applyP bf;change∃v,resE .. =some v/\_;cases l2 with
 |nil=>
  have e:l1=S.ps:=by rw[hl];simp
  subst e;exact⟨_,rfl,rfl,rfl,hG',hW',A',hr,hR'⟩
 |cons q l2=>simp at hc hlen;omega
theorem kl {α:Type}(A:List α)(n:Nat)(f:Nat->α)(C:List α){i:Nat}(hi:i<n)(v:α):(A++((List.range n).map f++C)).set (A.length+i) v=A++((List.range n).map (put f i v)++C):=by
 rw[List.set_append_right _ _ (Nat.le_add_right _ _),Nat.add_sub_cancel_left,List.set_append_left _ _ (by simpa using hi)];congr 2;apply List.ext_getElem
 ·simp
 ·intro j h1 h2;simp only[List.getElem_set,List.getElem_map,List.getElem_range,put]
  split
  ·rename_i e;simp[e]
  ·rename_i e;simp[Ne.symm e]
theorem ko {α:Type}(A:List α)(n:Nat)(f:Nat->α)(C:List α){i:Nat}(hi:i<n):(A++((List.range n).map f++C))[A.length+i]? =some (f i):=by
 rw[List.getElem?_append_right (Nat.le_add_right _ _),Nat.add_sub_cancel_left,List.getElem?_append_left (by simpa using hi)];simp[hi]
section
variable (x:PS)
def pHead:List Value:=[.int .i64 x.id, .int .i64 x.par, .int .i64 x.st, .int .i64 x.stat, .int .i64 x.at_, .int .i64 x.lv, .int .i64 x.used]
def pFiles:List Value:=(List.range 6).flatMap (fun i=>[.int .i64 (x.f i).1, .int .i64 (x.f i).2])++[.int .i64 x.til]
theorem k5:pcells x=(pHead x++((List.range 8).map (fun i=>Value.int .u16 (x.r i))++((List.range 64).map (fun i=>Value.int .u8 (x.m i))++pFiles x))).toArray:=rfl
theorem k6:pcells x=((pHead x++(List.range 8).map (fun i=>Value.int .u16 (x.r i)))++((List.range 64).map (fun i=>Value.int .u8 (x.m i))++pFiles x)).toArray:=by rw[k5,List.append_assoc]
theorem cC {i:Nat}(hi:i<8):(pcells x)[7+i]? =some (.int .u16 (x.r i)):=by
 rw[k5,List.getElem?_toArray];exact ko (pHead x) 8 _ _ hi
theorem vC {i:Nat}(hi:i<64):(pcells x)[15+i]? =some (.int .u8 (x.m i)):=by
 rw[k6,List.getElem?_toArray];exact ko (pHead x++(List.range 8).map (fun i=>Value.int .u16 (x.r i))) 64 _ _ hi
theorem fC {i:Nat}(hi:i<8)(v:Int):(pcells x).setIfInBounds (7+i) (.int .u16 v)=pcells {x with r:=put x.r i v}:=by
 rw[k5,List.setIfInBounds_toArray];have h:=kl (pHead x) 8 (fun i=>Value.int .u16 (x.r i)) ((List.range 64).map (fun i=>Value.int .u8 (x.m i))++pFiles x) hi (.int .u16 v);have e:put (fun i=>Value.int .u16 (x.r i)) i (.int .u16 v)=fun j=>Value.int .u16 (put x.r i v j):=by funext j;unfold put;split<;>rfl
 rw[e] at h;exact congrArg List.toArray h
theorem Ax {i:Nat}(hi:i<64)(v:Int):(pcells x).setIfInBounds (15+i) (.int .u8 v)=pcells {x with m:=put x.m i v}:=by
 rw[k6,List.setIfInBounds_toArray];have h:=kl (pHead x++(List.range 8).map (fun i=>Value.int .u16 (x.r i))) 64 (fun i=>Value.int .u8 (x.m i)) (pFiles x) hi (.int .u8 v);have e:put (fun i=>Value.int .u8 (x.m i)) i (.int .u8 v)=fun j=>Value.int .u8 (put x.m i v j):=by funext j;unfold put;split<;>rfl
 rw[e] at h;rw[k6];exact congrArg List.toArray h
end
structure WF (x:PS):Prop where
 r: ∀i,i<8->0<=x.r i/\x.r i<65536
 m: ∀i,i<64->0<=x.m i/\x.m i<256
theorem bZ (n:Int):IntKind.u16.wrap n=n%65536:=by simp[IntKind.wrap,IntKind.bits,IntKind.signed]
theorem kq (n:Int):IntKind.u8.wrap n=n%256:=by simp[IntKind.wrap,IntKind.bits,IntKind.signed]
def PS.do (x:PS)(op a b c:Int):Except Nat PS:=
 let ra:=(a%8).toNat
 let rb:=(b%8).toNat
 let k:=(b+256*c)%65536
 let y:={x with at_:=x.at_+1}
 if op=1 then .ok {y with r:=put x.r ra k}
 else if op=2 then .ok {y with r:=put x.r ra (x.r rb)}
 else if op=3 then .ok {y with r:=put x.r ra ((x.r ra+x.r rb)%65536)}
 else if op=4 then .ok {y with r:=put x.r ra ((x.r ra-x.r rb)%65536)}
 else if op=5 then .ok {y with at_:=if x.r ra=0 then k.toNat else x.at_+1}
 else if op=6 then .ok {y with at_:=k.toNat}
 else if op=7 then if x.r rb+c<64 then .ok {y with r:=put x.r ra (x.m (x.r rb+c).toNat)} else .error 10
 else if op=8 then if x.r rb+c<64 then .ok {y with m:=put x.m (x.r rb+c).toNat (x.r ra%256)} else .error 10
 else .error 1
abbrev insnv (op a b c:Int):Value:= .agg #[.int .u8 op, .int .u8 a, .int .u8 b, .int .u8 c]
theorem k_s: ∃n,∀{σ}{F:Fam σ}{Δ:DM F}{main s}(L:Frag)(op a b c:Int),(∀cs,(Δ s).New (.cells cs 158))->0<=b/\b<256->0<=c/\c<256->
 CallsL Δ Tryz.prog main 113 [insnv op a b c].toArray n s L (fun s' v L'=>s=s'/\v= .int .u16 ((b+256*c)%65536)/\Fun L'/\ ∀t∈L,t∈L'):=by
 apply Exists.intro;intro σ F Δ main s L op a b c hN hb hc;co_applyP aF 11 Tryz.func113 Tryz.ntmps113;co_applyP j9;intro hF;co_applyP aa;co_applyP oe rfl (b8 (hN _));rintro _ _ ⟨nb,hnb,rfl,rfl⟩;co_applyP oan rfl;co_applyP aa;co_applyP oy rfl (ak (hf:=pp));co_applyP oy rfl (aA (ht:=eW));co_applyP oy rfl (cF (hs:=U5) (ht:=U32));co_applyP oy rfl (ak (hf:=kY));co_applyP oy rfl (aA (ht:=eW));co_applyP oy rfl (cF (hs:=U5) (ht:=U32));co_applyP oy rfl jM;co_applyP oy rfl aS;co_applyP oan rfl;co_applyP aK;change∃v,resE .. =some v/\_;have hA:=cQ (o:= .cells #[.int .u8 op, .int .u8 a, .int .u8 b, .int .u8 c] 158) hF hnb;refine⟨_,rfl,rfl, ?_,hA.fn,hA.sub⟩;simp only[bZ];congr 1;omega
theorem yt: ∃n,∀{σ}{F:Fam σ}{Δ:DM F}{main s}(L:Frag)(p:Value)(b c:Int)(e10:Value),0<=b/\b<65536->0<=c/\c<256->At L 10 0 e10->
 CallsL Δ Tryz.prog main 114 [p, .int .u16 b, .int .u8 c].toArray n s L (fun s' v L'=>s=s'/\L=L'/\v= .tuple #[.int .i64 (if b+c<64 then b+c else 0),if b+c<64 then .nilIface else e10]):=by
 apply Exists.intro;intro σ F Δ main s L p b c e10 hb hc h10;have w1:IntKind.i64.wrap b=b:=by simp[IntKind.wrap_i64];omega
 have w2:IntKind.i64.wrap c=c:=by simp[IntKind.wrap_i64];omega
 have w3:IntKind.i64.wrap (b+c)=b+c:=by simp[IntKind.wrap_i64];omega
 co_applyP aF 18 Tryz.func114 Tryz.ntmps114;co_applyP aa;co_applyP oy rfl bR;co_applyP oan rfl;co_applyP aa;co_applyP om rfl rfl rfl (cF (hs:=U32) (ht:=U3));co_applyP om rfl rfl rfl (cF (hs:=U5) (ht:=U3));co_applyP oy rfl aS;co_applyP oan rfl;co_applyP au;co_applyP aa;co_applyP om rfl rfl rfl dt;co_applyP ai;change wpE ..;simp only[w1,w2,w3];co_applyP aT rfl;intro hc;co_applyP au;co_applyP bA a5;co_applyP tr 0 rfl (aA (ht:=dh)) pI;co_applyP tr 1 rfl bR pI;co_applyP tr 2 rfl bR pI;co_applyP td (by kernel_rfl);co_applyP aK;change∃v,resE .. =some v/\_
 ·refine⟨_,rfl,rfl,rfl, ?_⟩;have: ¬b+c<64:=by simp at hc;omega
  rw[if_neg this,if_neg this]
 intro hc;co_applyP aB;co_applyP aa;co_applyP om rfl rfl rfl bR;co_applyP oan rfl;co_applyP aK;change∃v,resE .. =some v/\_;refine⟨_,rfl,rfl,rfl, ?_⟩;have:b+c<64:=by simp at hc;omega
 rw[if_pos this,if_pos this]
theorem mf {S:St}{b:Nat}{x:PS}(hn:(S.ps.map (·.1)).Nodup)(h:(b,x)∈S.ps):S.setP b x=S:=by
 have:(S.ps.map fun q=>if q.1=b then(b,x) else q)=S.ps:=by
  conv=>rhs;rw[<-List.map_id S.ps]
  apply List.map_congr_left;rintro⟨c,y⟩ hq;by_cases e:c=b
  ·subst e;simp[a6 hn h hq]
  ·simp[e]
 unfold St.setP;rw[this]
def errv (e0 e1 e10:Value):Nat->Value
 |0=>e0
 |1=>e1
 |_=>e10
theorem DS: ∃n,∀{σ}{F:Fam σ}{Δ:DM F}{main s}(K:Nat)(A:Lay)(S:St)(Fr L:Frag)(b:Nat)(x:PS)(op ia ib ic:Int)(e0 e1 e10:Value),(∀cs,(Δ s).New (.cells cs 158))->Rep K A S Fr L->(b,x)∈S.ps->WF x->x.at_<256->0<=ia/\ia<256->0<=ib/\ib<256->0<=ic/\ic<256->(∀i∈[0,1,10],∃fl cs ty fr,(i,fl,Obj.cells cs ty fr)∈Fr/\cs[0]? =some (errv e0 e1 e10 i))->(∃t w,e10= .iface t w)->
 CallsL Δ Tryz.prog main 96 [ptr b,insnv op ia ib ic].toArray n s L (fun s' v L'=>s=s'/\match x.do op ia ib ic with
  | .ok x'=>v= .nilIface/\Rep K A (S.setP b x') Fr L'
  | .error e=>v=errv e0 e1 e10 e/\Rep K A S Fr L'):=by
 obtain⟨n1,g1⟩:=k_s;obtain⟨n2,g2⟩:=yt;apply Exists.intro;intro σ F Δ main s K A S Fr L b x op ia ib ic e0 e1 e10 hN hR hb hx hat ha hib hic hg hi10;have gl: ∀(L:Frag),Rep K A S Fr L-> ∀i∈[0,1,10],At L i 0 (errv e0 e1 e10 i):=fun L h i hi=>by
  obtain⟨fl,cs,ty,fr,h1,h2⟩:=hg i hi;exact⟨fl,cs,ty,fr,h.fr _ h1,h2⟩
 obtain⟨ra,hra⟩: ∃ra,ra=(ia%8).toNat:=⟨_,rfl⟩;obtain⟨rb,hrb⟩: ∃rb,rb=(ib%8).toNat:=⟨_,rfl⟩;have hra8:ra<8:=by omega
 have hrb8:rb<8:=by omega
 have ea:(IntKind.i64.wrap ia).tmod 8=(ra:Int):=by
  have:IntKind.i64.wrap ia=ia:=by simp[IntKind.wrap_i64];omega
  rw[this,Int.tmod_eq_emod_of_nonneg (by omega)];omega
 have eb:(IntKind.i64.wrap ib).tmod 8=(rb:Int):=by
  have:IntKind.i64.wrap ib=ib:=by simp[IntKind.wrap_i64];omega
  rw[this,Int.tmod_eq_emod_of_nonneg (by omega)];omega
 have en:IntKind.i64.wrap ((x.at_:Int)+1)=((x.at_+1:Nat):Int):=by simp[IntKind.wrap_i64];omega
 have wra:=hx.r ra hra8;have wrb:=hx.r rb hrb8;co_applyP aF 130 Tryz.func96 Tryz.ntmps96;co_applyP aa;co_applyP b5 rfl (b8 (hN _));intro nb L1 hA;have hR1:=hR.add hA;have hbm:=hA.self;have hb0: ∀i v,(#[Value.int .u8 op, .int .u8 ia, .int .u8 ib, .int .u8 ic])[i]? =some v->At L1 nb i v:=fun i v h=>⟨true,_,_,_,hbm,h⟩;have hc0:=hb0 0 _ rfl;have hc1:=hb0 1 _ rfl;have hc2:=hb0 2 _ rfl;have hc3:=hb0 3 _ rfl;have hb1:At L1 b (7+((IntKind.i64.wrap ib).tmod 8).toNat) (.int .u16 (x.r rb)):=by
  rw[eb];exact hR1.pat hb (cC x hrb8)
 have hb4:At L1 b 4 (.int .i64 (x.at_:Int)):=hR1.pat hb (i:=4) rfl;co_applyP oan rfl;co_applyP au;co_applyP bA a5;co_applyP tr 0 rfl ag pI;co_applyP tr 1 rfl (ak (hf:=kX)) pI;co_applyP tr 2 rfl (aA (ht:=eW)) pI;co_applyP tr 3 rfl (cF (hs:=U5) (ht:=U3)) pI;co_applyP tr 4 rfl eO pI;co_applyP tr 5 rfl av pI;co_applyP tr 6 rfl (ak (hf:=aM)) pI;co_applyP tr 7 rfl (ak (hf:=aW)) pI;co_applyP tr 8 rfl (aX U47 aV) pI;co_applyP tr 9 rfl bR pI;co_applyP td (by kernel_rfl);co_applyP au;co_applyP bA a5;co_applyP tr 0 rfl ag pI;co_applyP tr 1 rfl (ak (hf:=pp)) pI;co_applyP tr 2 rfl (aA (ht:=eW)) pI;co_applyP tr 3 rfl (cF (hs:=U5) (ht:=U3)) pI;co_applyP tr 4 rfl eO pI;co_applyP tr 5 rfl av pI;co_applyP tr 6 rfl (ak (hf:=aM)) pI;co_applyP tr 7 rfl (ak (hf:=aW)) pI;co_applyP tr 8 rfl (aX U47 aV) pI;co_applyP tr 9 rfl (aA (ht:=dw)) pI;co_applyP tr 10 rfl bR pI;co_applyP td (by kernel_rfl);co_applyP aa;co_applyP om rfl rfl rfl av;co_applyP oy rfl (ak (hf:=aM));co_applyP oy rfl (ak (hf:=bT));co_applyP oy rfl (aA (ht:=aR));co_applyP oy rfl aS;co_applyP oan rfl;co_applyP aN (ε':=[(0,ptr b),(3,ptr nb),(5, .pointer (some ⟨b,7+ra,none⟩)),(6, .int .u16 (x.r rb)),(7, .int .i64 ((x.at_+1:Nat):Int))]) (by rw[<-en];unfold kn;simp only[ea,eb,Int.toNat_natCast];rfl);clear hb1 hb4;have har:At L1 b (7+ra) (.int .u16 (x.r ra)):=hR1.pat hb (cC x hra8);have ek:IntKind.i64.wrap ((ib+256*ic)%65536)=((((ib+256*ic)%65536).toNat:Nat):Int):=by simp[IntKind.wrap_i64];omega
 have hself:S.setP b x=S:=mf hR.pn hb;co_applyP cK (fun s' ε' L'=>s=s'/\ ∃(y:PS) (nx:Nat),Rep K A (S.setP b y) Fr L'/\kn ε' [(0,ptr b),(7, .int .i64 (nx:Int))]/\x.do op ia ib ic= .ok {y with at_:=nx});co_applyP aa;co_applyP oy rfl (ak (hf:=iJ));co_applyP oy rfl (aA (ht:=eW));co_applyP ai;co_applyP aC;co_applyP aa;co_applyP oy rfl aI;co_applyP oan rfl;co_applyP aT rfl;intro c1;co_applyP aq;co_applyP oy rfl ag
 ·have h1:op=1:=by simpa using c1
  co_applyP oy rfl (bF (ht:=ie) (hs:=dg) (hm:=hbm) (hi:=Nat.le_refl _));co_applyP oc rfl rfl rfl (g1 L1 op ia ib ic hN hib hic);rintro _ _ _ ⟨rfl,rfl,hF2,hs2⟩;have hR2:=hR1.of hF2 hs2;co_applyP oy rfl av;co_applyP osm rfl (hs:=aV) (hm:=hR2.p _ hb) (hi:=by first|decide|(rw[bL];omega)|(rw[bU];omega));intro L2 hU2;rw[fC x hra8] at hU2;have hRr:=hR2.setP (x':={x with r:=put x.r ra ((ib+256*ic)%65536)}) hb hU2;co_applyP ai;change _=_/\ ∃(y:PS) (nx:Nat),_;exact⟨rfl,{x with r:=put x.r ra ((ib+256*ic)%65536)},x.at_+1,hRr,rfl,by unfold PS.do;simp[h1,hra,hrb]⟩
 intro c1;co_applyP aa;co_applyP oy rfl aI;co_applyP oan rfl;change wpE ..;have n1: ¬op=1:=by simpa using c1
 co_applyP aT rfl;intro c2;co_applyP aq;co_applyP om rfl rfl rfl ag;co_applyP oy rfl av
 ·have h2:op=2:=by simpa using c2
  co_applyP osm rfl (hs:=aV) (hm:=hR1.p _ hb) (hi:=by first|decide|(rw[bL];omega)|(rw[bU];omega));intro L2 hU2;rw[fC x hra8] at hU2;have hRr:=hR1.setP (x':={x with r:=put x.r ra (x.r rb)}) hb hU2;co_applyP ai;change _=_/\ ∃(y:PS) (nx:Nat),_;exact⟨rfl,{x with r:=put x.r ra (x.r rb)},x.at_+1,hRr,rfl,by unfold PS.do;simp[h2,hra,hrb]⟩
 intro c2;co_applyP aa;co_applyP oy rfl aI;co_applyP oan rfl;change wpE ..;have n2: ¬op=2:=by simpa using c2
 co_applyP aT rfl;intro c3;co_applyP aq;co_applyP om rfl rfl rfl av;co_applyP oy rfl (aA (ht:=dw));co_applyP om rfl rfl rfl aS;co_applyP oy rfl av
 ·have h3:op=3:=by simpa using c3
  co_applyP osm rfl (hs:=aV) (hm:=hR1.p _ hb) (hi:=by first|decide|(rw[bL];omega)|(rw[bU];omega));intro L2 hU2;rw[bZ,fC x hra8] at hU2;have hRr:=hR1.setP (x':={x with r:=put x.r ra ((x.r ra+x.r rb)%65536)}) hb hU2;co_applyP ai;change _=_/\ ∃(y:PS) (nx:Nat),_;exact⟨rfl,{x with r:=put x.r ra ((x.r ra+x.r rb)%65536)},x.at_+1,hRr,rfl,by unfold PS.do;simp[h3,hra,hrb]⟩
 intro c3;co_applyP aa;co_applyP oy rfl aI;co_applyP oan rfl;change wpE ..;have n3: ¬op=3:=by simpa using c3
 co_applyP aT rfl;intro c4;co_applyP aq;co_applyP om rfl rfl rfl av;co_applyP oy rfl (aA (ht:=dw));co_applyP om rfl rfl rfl zw;co_applyP oy rfl av
 ·have h4:op=4:=by simpa using c4
  co_applyP osm rfl (hs:=aV) (hm:=hR1.p _ hb) (hi:=by first|decide|(rw[bL];omega)|(rw[bU];omega));intro L2 hU2;rw[bZ,fC x hra8] at hU2;have hRr:=hR1.setP (x':={x with r:=put x.r ra ((x.r ra-x.r rb)%65536)}) hb hU2;co_applyP ai;change _=_/\ ∃(y:PS) (nx:Nat),_;exact⟨rfl,{x with r:=put x.r ra ((x.r ra-x.r rb)%65536)},x.at_+1,hRr,rfl,by unfold PS.do;simp[h4,hra,hrb]⟩
 intro c4;co_applyP aa;co_applyP oy rfl aI;co_applyP oan rfl;change wpE ..;have n4: ¬op=4:=by simpa using c4
 co_applyP aT rfl;intro c5;co_applyP aa;co_applyP om rfl rfl rfl av;co_applyP oy rfl (aA (ht:=dw));co_applyP oy rfl aI;co_applyP ai;change wpE ..
 ·have h5:op=5:=by simpa using c5
  co_applyP aT rfl;intro cz;co_applyP aq;co_applyP oy rfl (bF (ht:=ie) (hs:=dg) (hm:=hbm) (hi:=Nat.le_refl _));co_applyP oc rfl rfl rfl (g1 L1 op ia ib ic hN hib hic);rintro _ _ _ ⟨rfl,rfl,hF2,hs2⟩;have hR2:=hR1.of hF2 hs2;co_applyP oy rfl (cF (hs:=U32) (ht:=U3));co_applyP oan rfl;change _=_/\ ∃(y:PS) (nx:Nat),_;rw[ek];exact⟨rfl,x,((ib+256*ic)%65536).toNat,by rw[hself];exact hR2,rfl,by unfold PS.do;simp[h5,hra,hrb,show x.r (ia%8).toNat=0 from by rw[<-hra];simpa using cz]⟩;intro cz;co_applyP aB;change _=_/\ ∃(y:PS) (nx:Nat),_;exact⟨rfl,x,x.at_+1,by rw[hself];exact hR1,rfl,by unfold PS.do;simp[h5,hra,hrb,show¬x.r (ia%8).toNat=0 from by rw[<-hra];simpa using cz]⟩
 intro c5;co_applyP aa;co_applyP oy rfl aI;co_applyP oan rfl;change wpE ..;have n5: ¬op=5:=by simpa using c5
 co_applyP aT rfl;intro c6;co_applyP aq
 ·have h6:op=6:=by simpa using c6
  co_applyP oy rfl (bF (ht:=ie) (hs:=dg) (hm:=hbm) (hi:=Nat.le_refl _));co_applyP oc rfl rfl rfl (g1 L1 op ia ib ic hN hib hic);rintro _ _ _ ⟨rfl,rfl,hF2,hs2⟩;have hR2:=hR1.of hF2 hs2;co_applyP oy rfl (cF (hs:=U32) (ht:=U3));co_applyP oan rfl;change _=_/\ ∃(y:PS) (nx:Nat),_;rw[ek];exact⟨rfl,x,((ib+256*ic)%65536).toNat,by rw[hself];exact hR2,rfl,by unfold PS.do;simp[h6,hra,hrb]⟩
 intro c6;co_applyP aa;co_applyP oy rfl aI;co_applyP oan rfl;change wpE ..;have n6: ¬op=6:=by simpa using c6
 co_applyP aT rfl;intro c7;co_applyP aa;co_applyP om rfl rfl rfl ag;co_applyP oy rfl (ak (hf:=kY));co_applyP oy rfl (aA (ht:=eW))
 ·have h7:op=7:=by simpa using c7
  co_applyP oc rfl rfl rfl (g2 L1 (ptr b) (x.r rb) ic e10 wrb hic (gl L1 hR1 10 (by simp)));rintro _ _ _ ⟨rfl,rfl,rfl⟩;co_applyP om rfl rfl rfl co;co_applyP oy rfl co;co_applyP oy rfl bR;co_applyP oan rfl;co_applyP au;co_applyP aa;co_applyP om rfl rfl rfl (eP (v:=if x.r rb+ic<64 then .nilIface else e10) (c:=decide (x.r rb+ic<64)) (hv:=by by_cases hm:x.r rb+ic<64;exact .inl ⟨by rw[if_pos hm],by simp[hm]⟩;obtain⟨t,w,e⟩:=hi10;exact .inr ⟨t,w,by rw[if_neg hm,e],by simp[hm]⟩) (hu:=Tryz.underlying168));co_applyP ai;co_applyP aT rfl;intro cm;co_applyP aa;co_applyP oy rfl ag;co_applyP oan rfl;co_applyP aK;change∃v,resE .. =some v/\_;have hm: ¬x.r rb+ic<64:=by simpa using cm
  refine⟨_,rfl,rfl, ?_⟩;have hdo:x.do op ia ib ic= .error 10:=by unfold PS.do;simp[h7,hra,hrb,show¬x.r (ib%8).toNat+ic<64 from by rw[<-hrb];exact hm]
  rw[hdo];refine⟨?_,hR1⟩;show (if x.r rb+ic<64 then Value.nilIface else e10)=e10;rw[if_neg hm];intro cm;have hm:x.r rb+ic<64:=by simpa using cm
  have hm':x.r (ib%8).toNat+ic<64:=by rw[<-hrb];exact hm
  simp only[if_pos hm];have hmm:At L1 b (15+(x.r rb+ic).toNat) (.int .u8 (x.m (x.r rb+ic).toNat)):=hR1.pat hb (vC x (by omega));have hmw:=hx.m (x.r rb+ic).toNat (by omega);have e16:IntKind.u16.wrap (x.m (x.r rb+ic).toNat)=x.m (x.r rb+ic).toNat:=by rw[bZ];omega
  co_applyP aB;co_applyP aq;co_applyP om rfl rfl rfl ag;co_applyP om rfl rfl rfl av;co_applyP oy rfl (ak (hf:=kg));co_applyP oy rfl (aX U94 dX);co_applyP oy rfl (aA (ht:=eW));co_applyP oy rfl (cF (hs:=U5) (ht:=U32));co_applyP oy rfl av;rw[e16];co_applyP osm rfl (hs:=aV) (hm:=hR1.p _ hb) (hi:=by first|decide|(rw[bL];omega)|(rw[bU];omega));intro L2 hU2;rw[fC x hra8] at hU2;have hRr:=hR1.setP (x':={x with r:=put x.r ra (x.m (x.r rb+ic).toNat)}) hb hU2;co_applyP ai;change _=_/\ ∃(y:PS) (nx:Nat),_;exact⟨rfl,{x with r:=put x.r ra (x.m (x.r rb+ic).toNat)},x.at_+1,hRr,rfl,by unfold PS.do;simp[h7,hra,hrb,hm']⟩
 intro c7;co_applyP aa;co_applyP oy rfl aI;co_applyP oan rfl;change wpE ..;have n7: ¬op=7:=by simpa using c7
 co_applyP aT rfl;intro c8;co_applyP aa;co_applyP om rfl rfl rfl ag;co_applyP oy rfl (ak (hf:=kY));co_applyP oy rfl (aA (ht:=eW))
 ·have h8:op=8:=by simpa using c8
  co_applyP oc rfl rfl rfl (g2 L1 (ptr b) (x.r rb) ic e10 wrb hic (gl L1 hR1 10 (by simp)));rintro _ _ _ ⟨rfl,rfl,rfl⟩;co_applyP om rfl rfl rfl co;co_applyP oy rfl co;co_applyP oy rfl bR;co_applyP oan rfl;co_applyP au;co_applyP aa;co_applyP om rfl rfl rfl (eP (v:=if x.r rb+ic<64 then .nilIface else e10) (c:=decide (x.r rb+ic<64)) (hv:=by by_cases hm:x.r rb+ic<64;exact .inl ⟨by rw[if_pos hm],by simp[hm]⟩;obtain⟨t,w,e⟩:=hi10;exact .inr ⟨t,w,by rw[if_neg hm,e],by simp[hm]⟩) (hu:=Tryz.underlying168));co_applyP ai;co_applyP aT rfl;intro cm;co_applyP aa;co_applyP oy rfl ag;co_applyP oan rfl;co_applyP aK;change∃v,resE .. =some v/\_;have hm: ¬x.r rb+ic<64:=by simpa using cm
  refine⟨_,rfl,rfl, ?_⟩;have hdo:x.do op ia ib ic= .error 10:=by unfold PS.do;simp[h8,hra,hrb,show¬x.r (ib%8).toNat+ic<64 from by rw[<-hrb];exact hm]
  rw[hdo];refine⟨?_,hR1⟩;show (if x.r rb+ic<64 then Value.nilIface else e10)=e10;rw[if_neg hm];intro cm;have hm:x.r rb+ic<64:=by simpa using cm
  have hm':x.r (ib%8).toNat+ic<64:=by rw[<-hrb];exact hm
  simp only[if_pos hm];co_applyP aB;co_applyP br [] 9 (nf:=0) a5;co_applyP tr 0 rfl ag pN;co_applyP tr 1 rfl ag pN;co_applyP tr 2 rfl ag pN;co_applyP tr 3 rfl av pN;co_applyP t0 4 rfl (aA (ht:=dw)) pN;co_applyP tr 5 rfl (cF (hs:=U32) (ht:=U5)) pN;co_applyP tr 6 rfl av pN;co_applyP tr 7 rfl (ak (hf:=kg)) pN;co_applyP tr 8 rfl (aX U94 dX) pN;co_applyP bd;intro hnd;co_applyP te (i:=9) rfl (dv (hnd:=hnd) (hm:=hR1.p _ hb) (hi:=by rw[bL];omega) (hs:=dX));rintro _ _ ⟨rfl,hU2⟩;refine⟨aD (by simp), ?_⟩;rw[kq,Ax x (by omega)] at hU2;have hRr:=hR1.setP (x':={x with m:=put x.m (x.r rb+ic).toNat (x.r ra%256)}) hb hU2;co_applyP td (by kernel_rfl);change _=_/\ ∃(y:PS) (nx:Nat),_;exact⟨rfl,{x with m:=put x.m (x.r rb+ic).toNat (x.r ra%256)},x.at_+1,hRr,rfl,by unfold PS.do;simp[h8,hra,hrb,hm']⟩
 intro c8;have n8: ¬op=8:=by simpa using c8
 have h1g:=gl L1 hR1 1 (by simp);co_applyP aa;co_applyP oy rfl (aA (ht:=dh));co_applyP oan rfl;co_applyP aK;change∃v,resE .. =some v/\_;refine⟨_,rfl,rfl, ?_⟩;have hdo:x.do op ia ib ic= .error 1:=by unfold PS.do;simp[n1,n2,n3,n4,n5,n6,n7,n8]
 rw[hdo];exact⟨rfl,hR1⟩;rintro s' ε' L' ⟨rfl,y,nx,hRy,hk,hdo⟩;co_applyP aN hk;co_applyP aa;co_applyP om rfl rfl rfl ag;co_applyP oy rfl av;co_applyP oy rfl (ak (hf:=aM));co_applyP oy rfl (ak (hf:=bT));co_applyP osm rfl (hs:=bS) (hm:=hRy.p _ (ar hb)) (hi:=by first|decide|(rw[bL];omega)|(rw[bU];omega));intro L3 hU3;have hR3:=hRy.setP (x':={y with at_:=nx}) (ar hb) hU3;rw[bI] at hR3;co_applyP ai;co_applyP aa;co_applyP oan rfl;co_applyP aK;change∃v,resE .. =some v/\_;refine⟨_,rfl,rfl, ?_⟩;rw[hdo];exact⟨rfl,hR3⟩
theorem Ay (k:Int)(e:Nat×Nat):evR Tryz.prog (Instr.build 210 [(0, .int .i64 k),(1, .iface 255 (ptq e))].toArray) []=some (.agg #[.int .i64 k, .iface 255 (ptq e)],[]):=by kernel_rfl
abbrev erv (eb:Nat->Nat×Nat)(i:Nat):Value:= .iface 255 (ptq (eb i))
structure NewE {R:World->World->Prop}{D:World->World->Array Event->Prop}(Δ:Dom R D):Prop where
 a: ∀cs,Δ.New (.cells cs 180)
 b: ∀cs,Δ.New (.cells cs 182)
 c: ∀cs,Δ.New (.cells cs 196)
 d: ∀cs,Δ.New (.cells cs 210)
theorem qZ: ∃n,∀{σ}{F:Fam σ}{Δ:DM F}{main s}(L:Frag)(eb:Nat->Nat×Nat)(b:Nat)(e:Nat×Nat),NewE (Δ s)->Ers eb L->
 CallsL Δ Tryz.prog main 93 [ptr b, .iface 255 (ptq e)].toArray n s L (fun s' v L'=>s=s'/\v= .bool false/\Fun L'/\ ∀t∈L,t∈L'):=by
 obtain⟨n1,g1⟩:=DO;apply Exists.intro;intro σ F Δ main s L eb b e hN hE;have hi182: ∀ms:Array (String×TypeId),TypeDesc.pointer 180≠ .interface ms:=fun _=>by simp
 co_applyP aF 17 Tryz.func93 Tryz.ntmps93;co_applyP aa;co_applyP oan rfl;co_applyP aa;co_applyP b5 rfl (fO (z:= .pointer none) (hN.a _));intro t L1 hA;co_applyP ai;co_applyP au (n₂:=0);co_applyP aa;co_applyP om rfl rfl rfl (iA hi182 (ht:=Tryz.underlying182));co_applyP oc rfl rfl rfl (g1 L1 e t hN.c hN.b (hE.mono hA.sub).t);rintro _ _ _ ⟨rfl,rfl,hF,hs⟩;co_applyP oy rfl cP;co_applyP ai;co_applyP bv rfl;co_applyP aa;co_applyP oan rfl;co_applyP aK;change∃v,resE .. =some v/\_;exact⟨_,rfl,rfl,rfl,hF,fun x hx=>hs _ (hA.sub _ hx)⟩
theorem q5: ∃n,∀{σ}{F:Fam σ}{Δ:DM F}{main s}(K:Nat)(A:Lay)(S:St)(Fr L:Frag)(eb:Nat->Nat×Nat)(b:Nat)(x:PS)(r i:Nat),NewE (Δ s)->Rep K A S Fr L->Ers eb Fr->(b,x)∈S.ps->At L r 1 (erv eb i)->i<11->i≠2->
 CallsL Δ Tryz.prog main 93 [ptr b, .iface 180 (ptr r)].toArray n s L (fun s' v L'=>s=s'/\v= .bool true/\Rep K A (S.setP b {x with r:=put x.r 0 (ansOf i)}) Fr L'):=by
 obtain⟨n1,g1⟩:=DP;obtain⟨n2,g2⟩:=vz;apply Exists.intro;intro σ F Δ main s K A S Fr L eb b x r i hN hR hE hb hr hi hi2;have hi182: ∀ms:Array (String×TypeId),TypeDesc.pointer 180≠ .interface ms:=fun _=>by simp
 co_applyP aF 17 Tryz.func93 Tryz.ntmps93;co_applyP aa;co_applyP oan rfl;co_applyP aa;co_applyP b5 rfl (fO (z:= .pointer none) (hN.a _));intro t L1 hA;co_applyP ai;co_applyP au;co_applyP aa;co_applyP om rfl rfl rfl (iA hi182 (ht:=Tryz.underlying182));co_applyP oc rfl rfl rfl (g1 L1 r t (.pointer none) hN.c hN.b ((hE.mono hR.fr).mono hA.sub).t hN.a hA.self);rintro _ _ _ ⟨rfl,rfl,L2,hF,hs,hU⟩;co_applyP oy rfl cP;co_applyP ai;change wpE ..;rename_i L3;have hs3: ∀x∈L,x∈L3:=fun x hx=>hU.ne _ (hs _ (hA.sub _ hx)) (hA.new _ hx);have hR3:=hR.of hU.fn hs3;have hE3:=hE.mono hR3.fr;have hr3:=ki hr hs3;have ht3:At L3 t 0 (ptr r):=⟨true,_,_,_,hU.self,rfl⟩;co_applyP aE rfl;co_applyP aB;co_applyP au;co_applyP br [] 2 a5;co_applyP tr 0 rfl ag pN;co_applyP t0 1 rfl (aA (ht:=Ar)) pN;co_applyP tr 3 rfl av pN;co_applyP tr 4 rfl (ak (hf:=aM)) pN;co_applyP tr 5 rfl (ak (hf:=aW)) pN;co_applyP tc 2 rfl rfl rfl (g2 L3 eb r i hE3 hi hi2 hr3);rintro _ _ _ ⟨rfl,rfl,rfl⟩;refine⟨aD (by simp), ?_⟩;co_applyP to 6 rfl ((aX U47 aV)) (aD (by simp));co_applyP bd;intro hnd;co_applyP te (i:=7) rfl (dv (hnd:=hnd) (hm:=hR3.p _ hb) (hi:=by rw[bL];omega) (hs:=aV));rintro _ _ ⟨rfl,hU4⟩;refine⟨aD (by simp), ?_⟩;co_applyP td (by kernel_rfl);co_applyP aa;co_applyP oan rfl;co_applyP aK;change∃v,resE .. =some v/\_;refine⟨_,rfl,rfl,rfl, ?_⟩;have h7:(pcells x).setIfInBounds (7+0) (.int .u16 (ansOf i))=pcells {x with r:=put x.r 0 (ansOf i)}:=fC x (by omega) _;exact hR3.setP hb (x':={x with r:=put x.r 0 (ansOf i)}) (h7▸hU4)
theorem vD: ∃n,∀{σ}{F:Fam σ}{Δ:DM F}{main s}(L:Frag)(k:Int),
 CallsL Δ Tryz.prog main 111 [.int .i64 k, .nilIface].toArray n s L (fun s' v L'=>s=s'/\L=L'/\v= .nilIface):=by
 apply Exists.intro;intro σ F Δ main s L k;co_applyP aF 12 Tryz.func111 Tryz.ntmps111;co_applyP aa;co_applyP oan rfl;co_applyP au (n₂:=0);co_applyP aa;co_applyP om rfl rfl rfl (eP (v:= .nilIface) (c:=true) (hv:= .inl ⟨rfl,rfl⟩) (hu:=Tryz.underlying168));co_applyP ai;co_applyP bv rfl;co_applyP aa;co_applyP oan rfl;co_applyP aK;change∃v,resE .. =some v/\_;exact⟨_,rfl,rfl,rfl,rfl⟩
theorem vE: ∃n,∀{σ}{F:Fam σ}{Δ:DM F}{main s}(L:Frag)(k:Int)(e:Nat×Nat),(∀cs,(Δ s).New (.cells cs 210))->
 CallsL Δ Tryz.prog main 111 [.int .i64 k, .iface 255 (ptq e)].toArray n s L (fun s' v L'=>s=s'/\ ∃r,v= .iface 180 (ptr r)/\Add L r (.cells #[.int .i64 k, .iface 255 (ptq e)] 210) L'):=by
 apply Exists.intro;intro σ F Δ main s L k e hN;have hi180: ∀ms:Array (String×TypeId),TypeDesc.pointer 210≠ .interface ms:=fun _=>by simp
 co_applyP aF 12 Tryz.func111 Tryz.ntmps111;co_applyP aa;co_applyP oan rfl;co_applyP au;co_applyP aa;co_applyP om rfl rfl rfl (eP (v:= .iface 255 (ptq e)) (c:=false) (hv:= .inr ⟨_,_,rfl,rfl⟩) (hu:=Tryz.underlying168));co_applyP ai;co_applyP aE rfl;co_applyP aB;co_applyP aa;co_applyP om rfl rfl rfl ag;co_applyP oy rfl (bj (Ay k e));co_applyP b5 rfl (b8 (hN _));intro r L1 hA;co_applyP oy rfl (iA hi180 (ht:=qQ));co_applyP oan rfl;co_applyP aK;change∃v,resE .. =some v/\_;exact⟨_,rfl,rfl,r,rfl,hA⟩
end Go.Proofs.YtejkelcaljmnoaaGreatDoor
namespace Go.Hx
open Go.Conc
theorem ni {P:Program}{main:Bool}{b:Frame}{a:Act}{cs:List Frame}{w:World}{fn:Func}{todo:List Item}{c:Frame}{v:Value}(hn:b.kind= .normal)(hd:a.defers=[])(hf:P.funcs[b.fn]? =some fn)
 (hr:(results fn a.tmps).run P w= .ok v w): ∃es,stepG P main (G {b.at a todo with mode:= .returning} (c::cs)) w= .go (G (c.finish v) cs) w es/\ ∀e∈es,e∈(results fn a.tmps).events P w #[]:=
 ⟨_,by simp[G,stepG,unwind,doReturn,Frame.at,hn,hd,hf,hr,GStep.after];rfl,fun _ he=>mem_seen he⟩
end Go.Hx
namespace Go.Lo
open Go.Conc Go.Hx
def bodyLM {σ:Type}(P:Program)(g:Func)(Post:σ->Value->Frag->Prop):σ->Exit->Act->Frag->Prop
 |s, .normal,a,L|s, .ret,a,L=>a.defers=[]/\ ∃v,wpQ P (results g a.tmps) (· =v) L/\Post s v L
 |_,_,_,_=>False
def CallsM {σ:Type}{F:Fam σ}(Δ: ∀s,Dom (F.R s) (F.D s)) (P:Program) (main:Bool) (f:FuncId) (args:Array Value) (n:Nat) (s:σ) (L:Frag) (Post:σ->Value->Frag->Prop):Prop:=
 ∃g c,P.funcs[f]? =some g/\(g.name== "runtime.NumGoroutine")=false/\g.body=some c/\wpL Δ P main f c n s (bodyLM P g Post) {tmps:=args++Array.replicate (g.ntmps-args.size) undef,defers:=[]} L
section
variable {σ:Type}{F:Fam σ}{Δ: ∀s,Dom (F.R s) (F.D s)} {P:Program} {main:Bool} {fn:FuncId} {s:σ} {a:Act} {L:Frag}
theorem q6 {Q:σ->Exit->Act->Frag->Prop}{ops:Array Oper}{i:Nat}{rest:List Nat}{o:Oper}{f:FuncId}{args:Array Operand}{ats:Array TypeId}{nf n:Nat}{Post:σ->Value->Frag->Prop}
 (ho:ops[i]? =some o) (hw:Region.wanted o (yielded ops a.tmps)=true) (hop:o.op= .call {callee:= .value (.func f),args,argTypes:=ats}) (hcall:CallsM Δ P main f (args.map a.eval) nf s L Post) (hnext: ∀s' v L',Post s' v L'->OpsL Δ P main fn ops rest n s' Q (a.put o.dst v) L'):OpsL Δ P main fn ops (i::rest) (n+nf+3) s Q a L:=by
 intro w hO b k cs m hb hk hc;obtain⟨g,c,hf,hname,hbody,hwp⟩:=hcall;have hfin: ∀v,(b.at a (.inRegion ops (i::rest)::k)).finish v=b.at (a.put o.dst v) (.inRegion ops rest::k):=fun v=>by rw[Frame.finish_at,ho];rfl
 have hleave: ∀(s':σ)(a':Act)(w':World)(todo:List Item),(∃L',(Δ s').Own L' w'/\a'.defers=[]/\ ∃v,wpQ P (results g a'.tmps) (· =v) L'/\Post s' v L')->
  Goes P main (F.R s') (F.D s') (F.Stop s') (m+n+1) (G {(base f).at a' todo with mode:= .returning} (b.at a (.inRegion ops (i::rest)::k)::cs)) w':=by
  rintro s' a' w' todo ⟨L',hL,hd,v,hr,hp⟩;refine Goes.step rfl fun w₁ h₁=> ?_;obtain⟨q1,q2⟩:=mX (Δ s') ((Δ s').rely hL h₁) hr;obtain⟨es,hes,hm⟩:=ni (main:=main) (cs:=cs) (todo:=todo) (c:=b.at a (.inRegion ops (i::rest)::k)) (b:=base f) rfl hd hf q1;rw[hes,hfin];exact⟨(Δ s').dd ((Δ s').gr w₁) fun e he=>q2 e (hm e he),(hnext s' v L' hp w' hL b k cs m hb hk hc).rely (F.terms s').trans h₁⟩
 have hbodyG:Goes P main (F.R s) (F.D s) (F.Stop s) (m+n+2+nf) (G ((base f).at {tmps:=args.map a.eval++Array.replicate (g.ntmps-(args.map a.eval).size) undef,defers:=[]} [.code c]) (b.at a (.inRegion ops (i::rest)::k)::cs)) w:=by
  refine hwp w hO (base f) [] _ (m+n+2) rfl (by simp[base]) fun s' e a' w' q=> ?_;obtain⟨L',hL,q⟩:=q;cases e with
  |normal=>exact Goes.step rfl fun w₁ h₁=>by rw[stepG_end];exact⟨(F.terms s').idle _,(hleave s' a' w' [] ⟨L',hL,q⟩).rely (F.terms s').trans h₁⟩
  |ret=>exact fun todo=>(hleave s' a' w' todo ⟨L',hL,q⟩).more
  |exit id=>exact q.elim
  |goto l=>exact q.elim
  |panic ch=>exact q.elim
  |outgrown=>exact q.elim
 have e:m+(n+nf+3)=(m+n+2+nf)+1:=by omega
 rw[e];exact Goes.step rfl fun w₁ h₁=>goes_call ho hw hk hop hf hname hbody ⟨(F.terms s).idle _,hbodyG.rely (F.terms s).trans h₁⟩
end
def resM (P:Program)(g:Func)(ε:Env)(L:Frag)(v:Value):Prop:= ∃t ty b i n fl cs e,g.results.toList=[.cell t ty]/\look ε t=some (.pointer (some ⟨b,i,none⟩))/\aggAt P ty=some true/\sizeAt P ty=some n/\(b,fl,Obj.cells cs e)∈L/\i+n<=cs.size/\v= .agg (cs.extract i (i+n))
def bodyM {σ:Type}(P:Program)(g:Func)(Post:σ->Value->Frag->Prop):σ->Exit->Env->Frag->Prop
 |s, .normal,ε,L|s, .ret,ε,L=> ∃v,resM P g ε L v/\Post s v L
 |_,_,_,_=>False
section
variable {σ:Type}{F:Fam σ}{Δ: ∀s,Dom (F.R s) (F.D s)} {P:Program} {main:Bool} {fn:FuncId} {N:Nat} {Q:σ->Exit->Env->Frag->Prop} {s:σ} {ε:Env} {L:Frag}
theorem yu {g:Func}{a:Act}{v:Value}(hf:Fits N ε a)(h:resM P g ε L v):wpQ P (results g a.tmps) (· =v) L:=by
 obtain⟨t,ty,b,i,n,fl,cs,e,h1,h2,h3,h4,h5,h6,rfl⟩:=h;have h1':g.results= #[.cell t ty]:=Array.ext' h1;have e1:=(hf.at_ _ _ h2).2;have e0:results g a.tmps=(asAddr (a.tmps.getD t undef)>>=fun x=>loadVar ty x):=by simp[results,h1']
 rw[e0,e1,ay];show wpQ P (loadVar ty ⟨b,i,none⟩) _ L;unfold loadVar;rw[ay,gq h3];simp only[if_true];rw[ay,cH h4,ay];exact eV h5 h6 rfl
theorem rZ (N:Nat){f:FuncId}{g:Func}{c:Code}{vs:List Value}{n:Nat}{Post:σ->Value->Frag->Prop}(hf:P.funcs[f]? =some g)(hN:g.ntmps=N)(hname:(g.name== "runtime.NumGoroutine")=false:=by rfl)(hb:g.body=some c:=by rfl)(hl:Nat.ble vs.length N=true:=by rfl)(h:wpE Δ P main f N c n s (bodyM P g Post) (args vs) L):CallsM Δ P main f vs.toArray n s L Post:=by
 have hl:=Nat.le_of_ble_eq_true hl;subst hN;refine⟨g,c,hf,hname,hb,dV (h _ ⟨by simp;omega,rfl,fun t v ht=> ?_⟩) fun s' e a' L' ⟨ε',hf,q⟩=> ?_⟩
 ·obtain⟨_,h2⟩:=jq vs 0 t v ht;have hlt:=(List.getElem?_eq_some_iff.1 h2).1;simp only[Nat.sub_zero] at h2 hlt;refine⟨by omega, ?_⟩;simp only[Array.getD_eq_getD_getElem?,Array.getElem?_append,List.size_toArray,hlt,if_true,List.getElem?_toArray,h2,Option.getD_some]
 ·cases e<;>first|exact⟨hf.df,q.choose,yu hf q.choose_spec.1,q.choose_spec.2⟩|exact q
theorem ocm {ops:Array Oper}{i:Nat}{rest:List Nat}{d:Option Tmp}{k:Op}{ot:TypeId}{ps:String}{af:Array Edge}{g:Option (Nat×Bool)}{f:FuncId}{args:Array Operand}{ats:Array TypeId}{vs:List Value}{nf n:Nat}{Post:σ->Value->Frag->Prop}
 (ho:ops[i]? =some ⟨d,k,ot,ps,af,g⟩) (hop:k= .call {callee:= .value (.func f),args,argTypes:=ats}) (ha:args.toList.map (ev ε)=vs.map some) (hcall:CallsM Δ P main f vs.toArray nf s L Post)
  (hw:wantedE ops N ε g=some true:=by rfl) (hd:dstOk N d=true:=by rfl) (h: ∀s' v L',Post s' v L'->OpsE Δ P main fn N ops rest n s' Q (putE d v ε) L'):OpsE Δ P main fn N ops (i::rest) (n+nf+3) s Q ε L:=by
 intro a hfa;have e1:args.map a.eval=vs.toArray:=by apply Array.ext';simpa using ey hfa _ _ ha
 subst hop;exact q6 ho (hfa.wanted hw) rfl (by rw[e1];exact hcall) fun s' v L' hp=>h s' v L' hp _ (hfa.put hd v)
end
end Go.Lo
namespace Go.Proofs.YtejkelcaljmnoaaGreatDoor
open Go.Conc Go.Hx Go.Lo
theorem Az (x:PS){i:Nat}(hi:i<6):(pcells x).extract (79+2*i) (79+2*i+2)= #[.int .i64 (x.f i).1, .int .i64 (x.f i).2]:=by
 have:i=0\/i=1\/i=2\/i=3\/i=4\/i=5:=by omega
 rcases this with rfl|rfl|rfl|rfl|rfl|rfl<;>rfl
def PS.file (x:PS)(n:Int):Nat×Nat:=if n<6 then x.f n.toNat else(0,0)
theorem zP:evR Tryz.prog (Instr.build 96 ([]:List (Nat×Value)).toArray) []=some (keyv (0,0),[]):=by kernel_rfl
theorem AA: ∃n,∀{σ}{F:Fam σ}{Δ:DM F}{main s}(K:Nat)(A:Lay)(S:St)(Fr L:Frag)(b:Nat)(x:PS)(k:Int),(∀cs,(Δ s).New (.cells cs 96))->Rep K A S Fr L->(b,x)∈S.ps->0<=k/\k<65536->
 CallsM Δ Tryz.prog main 106 [ptr b, .int .u16 k].toArray n s L (fun s' v L'=>s=s'/\v=keyv (x.file k)/\Fun L'/\ ∀t∈L,t∈L'):=by
 apply Exists.intro;intro σ F Δ main s K A S Fr L b x k hN hR hb hk;have hw:IntKind.i64.wrap k=k:=by simp[IntKind.wrap_i64];omega
 co_applyP rZ 15 Tryz.func106 Tryz.ntmps106;co_applyP aa;co_applyP b5 rfl (fO (z:=keyv (0,0)) (hN _));intro nb L1 hA;have hR1:=hR.add hA;co_applyP ai;co_applyP au;co_applyP aa;co_applyP om rfl rfl rfl (cF (hs:=U32) (ht:=U3));co_applyP oy rfl dt;co_applyP ai;change wpE ..;simp only[hw];co_applyP aT rfl;intro hc;co_applyP aa
 ·have h6: ¬k<6:=by simpa using hc
  co_applyP oy rfl (bj zP);co_applyP oeN rfl (fun hnd=>j3 (hs:=fP) (vs:=[.int .i64 (0:Nat), .int .i64 (0:Nat)]) (hnd:=hnd) (hm:=hA.self) (hi:=Nat.le_refl _));rintro _ L2 ⟨rfl,hU⟩;co_applyP ai;co_applyP aK;change∃v,resM _ _ _ _ v/\_;refine⟨_,⟨_,_,nb,0,2,true,_,_,rfl,rfl,kT,fP,hU.self,Nat.le_refl _,rfl⟩,rfl,by simp[PS.file,h6];rfl,hU.fn,fun t ht=>hU.ne _ (hA.sub _ ht) (hA.new _ ht)⟩
 intro hc;have h6:k<6:=by simpa using hc
 co_applyP aB;co_applyP aa;co_applyP om rfl rfl rfl ag;co_applyP oy rfl av;co_applyP oy rfl (ak (hf:=na));co_applyP oy rfl (aX Tryz.underlying97 fP);co_applyP oy rfl (bF (ht:=kT) (hs:=fP) (hm:=hR1.p _ hb) (hi:=by rw[bL];omega));co_applyP oeN rfl (fun hnd=>j3 (hs:=fP) (vs:=[.int .i64 (x.f k.toNat).1, .int .i64 (x.f k.toNat).2]) (hy:=by rw[show 0+79+k.toNat*2=79+2*k.toNat by omega,Az x (by omega)];rfl) (hnd:=hnd) (hm:=hA.self) (hi:=Nat.le_refl _));rintro _ L2 ⟨rfl,hU⟩;co_applyP ai;co_applyP aK;change∃v,resM _ _ _ _ v/\_;refine⟨_,⟨_,_,nb,0,2,true,_,_,rfl,rfl,kT,fP,hU.self,Nat.le_refl _,rfl⟩,rfl,by simp[PS.file,h6];rfl,hU.fn,fun t ht=>hU.ne _ (hA.sub _ ht) (hA.new _ ht)⟩
end Go.Proofs.YtejkelcaljmnoaaGreatDoor
namespace Go.Lo
open Go.Conc Go.Hx
section
variable {P:Program}{New:Obj->Prop}{L:Frag}
theorem eI {d:Nat}{t:TypeId}{xs ys:Array Value}{fs:Array Field}{K:Bool->Prop}(ht:P.underlying t=some (.struct fs))(hp:P.stoodInHeld t=false)(h:wpQ P (Op.eqFields d xs ys fs.toList) K L):wpQ P (Op.equalIn (d+1) t (.agg xs) (.agg ys)) K L:=by
 rw[Op.equalIn.eq_def];rw[ay,aL ht];simp only;rw[ay];show wpQ P (if P.stoodInHeld t=true then _ else _) K L;rw[hp];simp only[Bool.false_eq_true,if_false];rw[<-Array.forIn_toList];generalize fs.toList=l at h⊢;clear ht
 induction l with
 |nil=>exact h
 |cons f l ih=>
  simp only[Op.eqFields] at h;simp only[List.forIn_cons,ay]
  split
  ·rename_i hn;rw[if_pos hn] at h;simp only[ay] at h⊢;refine cX ?_ (fun _ h=>h) _ h;intro a h;refine cX ?_ (fun _ h=>h) _ h;intro b h;refine cX ?_ (fun _ h=>h) _ h;intro r h;cases r with
   |false=>exact h
   |true=>
    have:=ih h;simpa [ay,bP] using this
  ·rename_i hn;rw[if_neg hn] at h;have:=ih h;simpa [ay,bP] using this
theorem d8 {d:Nat}{t:TypeId}{k k':IntKind}{a b:Int}{K:Bool->Prop}(h:P.underlying t=some (.int k'))(hK:K (a==b)):wpQ P (Op.equalIn (d+1) t (.int k a) (.int k b)) K L:=by
 rw[Op.equalIn.eq_def,ay,aL h];simpa [bP] using hK
abbrev kv (k:Nat×Nat):Value:= .agg #[.int .i64 k.1, .int .i64 k.2]
structure FldAt (P:Program)(f:Field)(off:Nat):Prop where
 n:f.name≠ "_"
 o:f.offset=off
 a:aggAt P f.type=some false
 u: ∃k,P.underlying f.type=some (.int k)
structure Key2 (P:Program)(t:TypeId):Prop where
 ex: ∃f0 f1,P.underlying t=some (.struct #[f0,f1])/\FldAt P f0 0/\FldAt P f1 1
 hp:P.stoodInHeld t=false
 ck: ∀e a b,evR P (Instr.checkKey e 10000 t (.agg #[.int .i64 a, .int .i64 b])) []=some ((),[])
theorem mg {t:TypeId}(H:Key2 P t){k k':Nat×Nat}{K:Bool->Prop}(hK:K (decide (k=k'))):wpQ P (Op.equal t (kv k) (kv k')) K L:=by
 obtain⟨f0,f1,hu,h0,h1⟩:=H.ex;obtain⟨k0,u0⟩:=h0.u;obtain⟨k1,u1⟩:=h1.u;rw[dm];refine eI hu H.hp ?_;simp only[Op.eqFields,if_pos h0.n,if_pos h1.n,ay];refine gz h0.a (v:= .int .i64 k.1) (by rw[h0.o];rfl) ?_;refine gz h0.a (v:= .int .i64 k'.1) (by rw[h0.o];rfl) ?_;refine d8 (d:=9998) u0 ?_;by_cases e0:k.1=k'.1
 ·simp only[e0,beq_self_eq_true,Bool.not_true,Bool.false_eq_true,if_false,ay];refine gz h1.a (v:= .int .i64 k.2) (by rw[h1.o];rfl) ?_;refine gz h1.a (v:= .int .i64 k'.2) (by rw[h1.o];rfl) ?_;refine d8 (d:=9998) u1 ?_;by_cases e1:k.2=k'.2
  ·have e:k=k':=Prod.ext e0 e1;simpa [e,bP] using hK
  ·have e: ¬k=k':=fun e=>e1 (by rw[e]);have e2:((k.2:Int)==(k'.2:Int))=false:=by simp;omega
   rw[e2];simpa [e,bP] using hK
 ·have e: ¬k=k':=fun e=>e0 (by rw[e]);have e2:((k.1:Int)==(k'.1:Int))=false:=by simp;omega
  rw[e2];simpa [e,bP] using hK
abbrev Ents:=List ((Nat×Nat)×Value×Nat)
def ent (e:(Nat×Nat)×Value×Nat):MapEntry:=⟨kv e.1,e.2.1,e.2.2⟩
def mapO (l:Ents)(clock:Nat):Obj:= .map (l.map ent).toArray clock
def lk (k:Nat×Nat):Ents->Nat->Option (Nat×Value)
 |[],_=>none
 |e::l,i=>if k=e.1 then some (i,e.2.1) else lk k l (i+1)
theorem k8 {t:TypeId}(H:Key2 P t){k:Nat×Nat}{K:Option (Nat×Value)->Prop}: ∀(l:Ents)(i:Nat),K (lk k l i)->wpQ P (Instr.findAsking t (kv k) (l.map ent) i) K L:=by
 intro l
 induction l with
 |nil=>exact fun i h=>h
 |cons e l ih=>
  intro i h;simp only[List.map_cons,Instr.findAsking,ay];refine mg H ?_;simp only[lk] at h;by_cases e1:k=e.1
  ·rw[if_pos e1] at h;simp only[decide_eq_true e1,if_true];exact h
  ·rw[if_neg e1] at h;simp only[decide_eq_false e1,Bool.false_eq_true,if_false];exact ih _ h
theorem jS {t:TypeId}(H:Key2 P t){k:Nat×Nat}{K:Option (Nat×Value)->Prop}(l:Ents)(h:K (lk k l 0)):wpQ P (Instr.findKey t (kv k) (l.map ent)) K L:=by
 obtain⟨f0,f1,hu,h0,h1⟩:=H.ex;unfold Instr.findKey;rw[ay,aL hu];cases l with
 |nil=>exact h
 |cons e l=>exact k8 H (e::l) 0 h
def dlk (k:Nat×Nat)(l:Ents):Ents:=match lk k l 0 with
 |some (i,_)=>l.eraseIdx i
 |none=>l
theorem zQ {k:Nat×Nat}: ∀{l:Ents}{j i:Nat}{v:Value},lk k l j=some (i,v)-> ∃e,j<=i/\l[i-j]? =some e/\e.1=k/\e.2.1=v
 |[],_,_,_,h=>by cases h
 |e::l,j,i,v,h=>by
  simp only[lk] at h
  split at h
  ·rename_i e1;simp only[Option.some.injEq,Prod.mk.injEq] at h;obtain⟨rfl,rfl⟩:=h;exact⟨e,Nat.le_refl _,by simp,e1.symm,rfl⟩
  ·obtain⟨e',h1,h2,h3⟩:=zQ h;refine⟨e',by omega, ?_,h3⟩;rw[show i-j=(i-(j+1))+1 by omega];simpa using h2
end
section
variable {P:Program}{New:Obj->Prop}{N:Nat}{ε:Env}{L:Frag}{d:Option Tmp}{ty:TypeId}{ps:String}{af:Array Edge}{g:Option (Nat×Bool)}
theorem DU {x ix:Operand}{t kt et:TypeId}{r clock:Nat}{k:Nat×Nat}{l:Ents}{z:Value}{fl:Bool}(H:Key2 P kt)(hu:P.underlying t=some (.map kt et))(hz:zeroAt P et=some z)(hm:(r,fl,mapO l clock)∈L)(hx:ev ε x=some (.map (some r)):=by rfl)(hi:ev ε ix=some (kv k):=by rfl):
 EY P N ε L ⟨d, .lookup t x ix false,ty,ps,af,g⟩ (match lk k l 0 with|some (_,v)=>v|none=>z):=fun a ha=>by
 refine cW (fun _=>rfl) fun K hK=> ?_;rw[ha.ev hx,ha.ev hi];unfold Instr.lookup;rw[ay,aL hu];simp only[ay];refine qG hm rfl ?_;simp only[mapO];rw[ay,bP,ay];refine bm (H.ck _ _ _) ?_;rw[ay];refine jS H l ?_;cases hl:lk k l 0 with
 |some p=>
  rw[hl] at hK;exact hK
 |none=>
  rw[hl] at hK;simp only[ay,lI hz];exact hK
theorem CK {x ix:Operand}{ats:Array TypeId}{t kt et:TypeId}{r clock:Nat}{k:Nat×Nat}{l:Ents}(hnd:(L.map (·.1)).Nodup)(H:Key2 P kt)(hu:P.underlying t=some (.map kt et))(hm:(r,true,mapO l clock)∈L)(hx:ev ε x=some (.map (some r)):=by rfl)(hi:ev ε ix=some (kv k):=by rfl)(ha':ats[0]? =some t:=by rfl):
 EO P New N ε L ⟨d, .call ⟨.builtin .delete, #[x,ix],ats⟩,ty,ps,af,g⟩ (fun r' L''=>r'= .tuple #[]/\Upd L r (mapO (dlk k l) clock) L''):=by
 intro a ha;obtain⟨n,hn⟩:=List.getElem?_of_mem hm;refine ct (s:=Builtin.delete_ ats ty #[.map (some r),kv k]) (fun _=>by simp[builtin,ha.ev hx,ha.ev hi]) ?_;unfold Builtin.delete_;simp only[ha',List.getElem?_toArray,List.getElem?_cons_zero,List.getElem?_cons_succ];rw[ax,aY hu];simp only[ax];refine qF hm rfl ?_;simp only[mapO,ax];refine eC (K:=(· =())) (fun _ _=> ?_) _ (bm (H.ck _ _ _) rfl);refine eC (K:=(· =lk k l 0)) (fun _ e=> ?_) _ (jS H l rfl);subst e;cases hl:lk k l 0 with
 |some p=>
  obtain⟨i,w⟩:=p;obtain⟨e,_,h2,h3,_⟩:=zQ hl;simp only[Nat.sub_zero] at h2;simp only[ax];refine kG hn rfl rfl ?_;refine⟨by first|rfl|trivial, ?_⟩;have hlt:=(List.getElem?_eq_some_iff.1 h2).1;have he:(l.map ent).toArray.eraseIdxIfInBounds i=((dlk k l).map ent).toArray:=by
   unfold dlk;rw[hl];apply Array.ext';simp[Array.eraseIdxIfInBounds,hlt,List.eraseIdx_eq_take_drop_succ]
  rw[he];exact ef hnd hn
 |none=>
  simp only[ax];refine kG hn rfl rfl ?_;refine⟨by first|rfl|trivial, ?_⟩;have he:dlk k l=l:=by unfold dlk;rw[hl]
  rw[he];exact ef hnd hn
end
end Go.Lo
namespace Go.Proofs.YtejkelcaljmnoaaGreatDoor
open Go.Conc Go.Hx Go.Lo
structure Ext (L L':Frag):Prop where
 f:Fun L'
 s: ∀t∈L,t∈L'
theorem Ext.trans {L L' L'':Frag}(h:Ext L L')(k:Ext L' L''):Ext L L'':=⟨k.f,fun t ht=>k.s t (h.s t ht)⟩
theorem Ext.at {L L':Frag}(h:Ext L L'){b i:Nat}{v:Value}(ha:At L b i v):At L' b i v:=ki ha h.s
theorem Rep.ext {K:Nat}{A:Lay}{S:St}{F L L':Frag}(h:Rep K A S F L)(e:Ext L L'):Rep K A S F L':=h.of e.f e.s
def idxF (test:Nat->Bool)(xs:List Nat):Int:=match xs.findIdx? test with
 |some i=>i
 |none=> -1
theorem fT (nf:Nat): ∃n,∀{σ}{F:Fam σ}{Δ:DM F}{main s}(L0:Frag)(f:FuncId)(gf:Func)(c1 c2:List Value)(xs:List Nat)(test:Nat->Bool)(base:Option Addr)(cap:Nat),
 (∀i v,(xs.map ptr)[i]? =some v-> ∃b,base=some ⟨b,0,none⟩/\At L0 b i v)->xs.length<=8->Tryz.prog.funcs[f]? =some gf->(gf.name== "runtime.NumGoroutine")=false->gf.body.isNone=false->
 (∀c∈xs,∀L,Ext L0 L->CallsL Δ Tryz.prog main f (c1++[ptr c]++c2).toArray nf s L (fun s' v L'=>s=s'/\v= .bool (test c)/\Ext L L'))->
 CallsL Δ Tryz.prog main 146 [.slice base xs.length cap, .func (.func f) c1.toArray c2.toArray].toArray n s L0 (fun s' v L'=>s=s'/\v= .int .i64 (idxF test xs)/\Ext L0 L'):=by
 apply Exists.intro;intro σ F Δ main s L0 f gf c1 c2 xs test base cap hat h8 hf hname hb hc;co_applyP aF 19 Tryz.func146 Tryz.ntmps146;co_applyP j9;intro hF0;co_applyP aa;co_applyP oan rfl;co_applyP au;co_applyP aa;co_applyP om rfl rfl rfl (bt (hu:=U91));co_applyP oy rfl ag;co_applyP ai;co_applyP aC;co_applyP bg (fun k s' ε' L'=>s'=s/\Ext L0 L'/\ ∃l1 l2,xs=l1++l2/\(∀q∈l1,test q=false)/\k+l1.length=8/\kn ε' [(8, .int .i64 l1.length),(7, .int .i64 xs.length),(0, .slice base xs.length cap),(1, .func (.func f) c1.toArray c2.toArray)]) 8
 ·exact⟨rfl,⟨hF0,fun _ h=>h⟩,[],xs,rfl,by simp,rfl,rfl⟩
 rintro k s' ε' L' ⟨rfl,hE,l1,l2,hl,hn,hk,he⟩;co_applyP aN he;have hlen:=congrArg List.length hl;simp only[List.length_append] at hlen;co_applyP aa;co_applyP oy rfl bi;co_applyP ai;co_applyP au;co_applyP aT rfl;intro hlt
 ·cases l2 with
  |nil=>simp at hlt hlen;omega
  |cons q l2=>
   simp at hlen;obtain⟨b,rfl,hav⟩:=hat l1.length (ptr q) (by rw[hl];simp);have hav':=hE.at hav;co_applyP aB;co_applyP au;co_applyP aC;co_applyP aa;co_applyP oy rfl ag;co_applyP oan rfl;co_applyP aa;co_applyP om rfl rfl rfl ag;co_applyP om rfl rfl rfl (bw U91 cM);co_applyP oy rfl (aA (ht:=fe));co_applyP ov rfl (vs:=[ptr q]) (hf:=hf) (hname:=hname) (hb:=hb) (hcall:=hc q (by rw[hl];simp) L' hE);rintro _ _ _ ⟨rfl,rfl,hE2⟩;co_applyP ai;co_applyP aT rfl;intro ht;co_applyP aa;co_applyP oy rfl ag;co_applyP oan rfl;co_applyP aK;change∃v,resE .. =some v/\_
   ·have e1:idxF test xs=l1.length:=by
     unfold idxF;have:xs.findIdx? test=some l1.length:=by
      rw[hl,List.findIdx?_append,List.findIdx?_eq_none_iff.2 (fun x hx=>by simpa using hn x hx)];have ht':test q=true:=by simpa using ht
      simp[List.findIdx?_cons,ht']
     rw[this]
    refine⟨_,rfl,rfl,by rw[e1],hE.trans hE2⟩
   intro ht;co_applyP aB;co_applyP aq;co_applyP oy rfl aS;co_applyP oy rfl ag;co_applyP ai;change∃k',k'<_/\_;have elen:IntKind.i64.wrap ((l1.length:Int)+1)=((l1++[q]).length:Int):=by simp[IntKind.wrap_i64];omega
   refine⟨k-1,by omega,rfl,hE.trans hE2,l1++[q],l2,by simp[hl], ?_,by simp;omega, ?_⟩
   ·intro x hx;rcases List.mem_append.1 hx with h|h
    ·exact hn x h
    ·simp at h;subst h;simpa using ht
   ·rw[<-elen];rfl
 intro hlt;co_applyP bf;co_applyP aa;co_applyP oan rfl;co_applyP aK;change∃v,resE .. =some v/\_;cases l2 with
 |nil=>
  have e:l1=xs:=by rw[hl];simp
  subst e;have e1:idxF test l1= -1:=by
   unfold idxF;rw[List.findIdx?_eq_none_iff.2 (fun x hx=>by simpa using hn x hx)]
  exact⟨_,rfl,rfl,by rw[e1],hE⟩
 |cons q l2=>simp at hlt hlen;omega
abbrev Wt:=List ((Nat×Nat)×List Nat)
def entsOf (A:Lay)(l:Wt)(bs:List Nat):Ents:=(l.zip bs).map fun e=>(e.1.1,slv (A.a (slot e.1.1)) e.1.2.length,e.2)
theorem jw (A:Lay)(S:St):wobj A S=mapO (entsOf A S.wt A.born) A.clock:=by
 unfold wobj mapO entsOf;rw[List.map_map];rfl
theorem r6 {k:Nat×Nat}: ∀{l m:Ents}{i:Nat},(∀e∈l,e.1≠k)->lk k (l++m) i=lk k m (i+l.length)
 |[],m,i,_=>rfl
 |e::l,m,i,h=>by
  have h1:=h e List.mem_cons_self;simp only[List.cons_append,lk,if_neg (Ne.symm h1),List.length_cons];rw[r6 fun e he=>h e (List.mem_cons_of_mem _ he)];congr 1;omega
theorem r7 {k:Nat×Nat}{l:Ents}{i:Nat}(h: ∀e∈l,e.1≠k):lk k l i=none:=by
 have:=r6 (m:=[]) (i:=i) h;rw[List.append_nil] at this;rw[this];rfl
theorem q7 {A:Lay}{l:Wt}{bs:List Nat}{k:Nat×Nat}(h: ∀e∈l,e.1≠k): ∀e∈entsOf A l bs,e.1≠k:=by
 intro e he;unfold entsOf at he;obtain⟨p,hp,rfl⟩:=List.mem_map.1 he;exact h _ (List.of_mem_zip hp).1
theorem nj {A A':Lay}{l:Wt}{bs:List Nat}(h: ∀e∈l,A'.a (slot e.1)=A.a (slot e.1)):entsOf A' l bs=entsOf A l bs:=by
 unfold entsOf;apply List.map_congr_left;intro e he;rw[h _ (List.of_mem_zip he).1]
def okKey (k:Nat×Nat):Prop:=k.2<10
def St.setW (S:St)(wt:Wt):St:={S with wt:=wt}
structure WLay (A A':Lay):Prop where
 a: ∀i,i<100->A'.a i=A.a i
 y:A'.y=A.y
 w:A'.wt=A.wt
 g:A'.g=A.g/\A'.gcap=A.gcap/\A'.gc=A.gc
theorem WLay.refl (A:Lay):WLay A A:=⟨fun _ _=>rfl,rfl,rfl,⟨rfl,rfl,rfl⟩⟩
structure WGood (S:St):Prop where
 kn:(S.wt.map (·.1)).Nodup
 kk: ∀e∈S.wt,okKey e.1
 rl: ∀e∈S.wt,e.2.length<=8
 ne: ∀e∈S.wt,e.2≠[]
 rm: ∀e∈S.wt,∀c∈e.2,∃y,(c,y)∈S.ps
def departW (b:Nat)(k:Nat×Nat)(l:Wt):Wt:=l.filterMap fun e=>if e.1=k then(if(e.2.filter fun c=> !decide (c=b)).length=0 then none else some (k,e.2.filter fun c=> !decide (c=b))) else some e
def St.depart (S:St)(b:Nat)(k:Nat×Nat):St:=S.setW (departW b k S.wt)
theorem nk {b:Nat}{k:Nat×Nat}{l:Wt}(h: ∀e∈l,e.1≠k):departW b k l=l:=by
 unfold departW
 induction l with
 |nil=>rfl
 |cons e l ih=>
  rw[List.filterMap_cons_some (by rw[if_neg (h e List.mem_cons_self)])];rw[ih fun e he=>h e (List.mem_cons_of_mem _ he)]
theorem gC {l:Wt}{k:Nat×Nat}(hn:(l.map (·.1)).Nodup)(h:k∈l.map (·.1)): ∃l1 xs l2,l=l1++(k,xs)::l2/\(∀e∈l1,e.1≠k)/\ ∀e∈l2,e.1≠k:=by
 obtain⟨⟨k',xs⟩,he,rfl⟩:=List.mem_map.1 h;obtain⟨l1,l2,rfl⟩:=List.append_of_mem he;rw[List.map_append,List.map_cons] at hn;obtain⟨h1,h2,h3⟩:=List.nodup_append.1 hn;refine⟨l1,xs,l2,rfl,fun e he e1=> ?_,fun e he e1=> ?_⟩
 ·exact h3 e.1 (List.mem_map.2 ⟨e,he,rfl⟩) k' (by simp) e1
 ·exact(List.nodup_cons.1 h2).1 (List.mem_map.2 ⟨e,he,e1⟩)
theorem vF:Key2 Tryz.prog 96:=by
 refine⟨⟨_,_,Tryz.underlying96,⟨by decide,rfl,aR,_,U3⟩,⟨by decide,rfl,aR,_,U3⟩⟩,by kernel_rfl,fun e a b=>by kernel_rfl⟩
theorem CL:zeroAt Tryz.prog 91=some (.slice none 0 0):=by kernel_rfl
theorem upd_same {L L':Frag}{b:Nat}{o:Obj}(hF:Fun L)(h:(b,true,o)∈L)(u:Upd L b o L'):Ext L L':=⟨u.fn,fun t ht=>by
 by_cases e:t.1=b
 ·obtain⟨b',fl,o'⟩:=t;have e':b'=b:=e;subst e';obtain⟨rfl,rfl⟩:=hF _ _ _ _ _ ht h;exact u.self
 ·exact u.ne t ht e⟩
theorem nq: ∃n,∀{σ}{F:Fam σ}{Δ:DM F}{main s}(L0:Frag)(f:FuncId)(gf:Func)(c1 c2:List Value),Tryz.prog.funcs[f]? =some gf->(gf.name== "runtime.NumGoroutine")=false->gf.body.isNone=false->
 CallsL Δ Tryz.prog main 124 [.slice none 0 0, .func (.func f) c1.toArray c2.toArray].toArray n s L0 (fun s' v L'=>s=s'/\v= .slice none 0 0/\Ext L0 L'):=by
 obtain⟨n1,g1⟩:=fT 0;apply Exists.intro;intro σ F Δ main s L0 f gf c1 c2 hf hname hb;co_applyP aF 42 Tryz.func124 Tryz.ntmps124;co_applyP aa;co_applyP oan rfl;co_applyP aa;co_applyP om rfl rfl rfl ag;co_applyP oc rfl rfl rfl (g1 L0 f gf c1 c2 [] (fun _=>false) none 0 (fun i v hv=>by simp at hv) (by simp) hf hname hb (fun c hcx=>by simp at hcx));rintro _ _ _ ⟨rfl,rfl,hE1⟩;co_applyP oan rfl;co_applyP au (n₂:=0);co_applyP aa;co_applyP om rfl rfl rfl aI;co_applyP ai;co_applyP bv rfl;co_applyP aa;co_applyP oy rfl ag;co_applyP oan rfl;co_applyP aK;change∃v,resE .. =some v/\_;exact⟨_,rfl,rfl,rfl,hE1⟩
theorem vG: ∃n,∀{σ}{F:Fam σ}{Δ:DM F}{main s}(K:Nat)(A:Lay)(S:St)(Fr L:Frag)(b:Nat)(k:Nat×Nat),(∀cs,(Δ s).New (.cells cs 93))->(∀cs,(Δ s).New (.cells cs 96))->Rep K A S Fr L->(∀e∈S.wt,e.1≠k)->
 CallsL Δ Tryz.prog main 105 [ptr K,ptr b,keyv k].toArray n s L (fun s' v L'=>s=s'/\v= .tuple #[]/\Rep K A S Fr L'):=by
 obtain⟨n1,g1⟩:=nq;apply Exists.intro;intro σ F Δ main s K A S Fr L b k hN hN2 hR hk;co_applyP aF 29 Tryz.func105 Tryz.ntmps105;co_applyP aa;co_applyP b5 rfl (b8 (hN _));intro xb L1 hA1;co_applyP b5 rfl (b8 (hN2 _));intro xk L2 hA2;have hR2:=(hR.add hA1).add hA2;have hkx:At L2 K 15 (.map (some A.wt)):=hR2.kat rfl;have hw2:=hR2.w;rw[jw] at hw2;have hkey:=q7 (A:=A) (bs:=A.born) hk;co_applyP ai;co_applyP au;co_applyP br [] 7 a5;co_applyP tr 0 rfl ag pN;co_applyP tr 1 rfl av pN;co_applyP tr 2 rfl (ak (hf:=pe)) pN;co_applyP t0 3 rfl (aA (ht:=vm)) pN;co_applyP tr 6 rfl vc pN;co_applyP t0 4 rfl (bF (ht:=kT) (hs:=fP) (hm:=hA2.self) (hi:=Nat.le_refl _)) pN;co_applyP t0 5 rfl (DU (k:=k) vF Tryz.underlying110 CL hw2) pN;rw[r7 hkey];co_applyP tc 7 rfl rfl rfl (g1 L2 125 _ [] [ptr xb] Tryz.func125 rfl rfl);rintro _ _ _ ⟨rfl,rfl,hE⟩;refine⟨aD (by simp), ?_⟩;rename_i L3;have hR3:=hR2.ext hE;have hkx3:=hE.at hkx;have hw3:=hE.s _ hw2;have hk3:=hE.s _ hA2.self;co_applyP to 8 rfl (bR) (aD (by simp));co_applyP td (by kernel_rfl);co_applyP au (n₂:=0);co_applyP aa;co_applyP om rfl rfl rfl (bt (hu:=U91));co_applyP oy rfl aI;co_applyP ai;co_applyP bv rfl;co_applyP au;co_applyP br [] 5 (nf:=0) a5;co_applyP tr 0 rfl ag pN;co_applyP tr 1 rfl av pN;co_applyP tr 2 rfl (ak (hf:=pe)) pN;co_applyP t0 3 rfl (aA (ht:=vm)) pN;co_applyP t0 4 rfl (bF (ht:=kT) (hs:=fP) (hm:=hk3) (hi:=Nat.le_refl _)) pN;co_applyP bd;intro hnd;co_applyP te (i:=5) rfl (CK (k:=k) hnd vF Tryz.underlying110 hw3);rintro _ _ ⟨rfl,hU⟩;refine⟨aD (by simp), ?_⟩;co_applyP td (by kernel_rfl);co_applyP aK;change∃v,resE .. =some v/\_;have hd:dlk k (entsOf A S.wt A.born)=entsOf A S.wt A.born:=by unfold dlk;rw[r7 hkey]
 rw[hd] at hU;exact⟨_,rfl,rfl,rfl,hR3.ext (upd_same hR3.fn hw3 hU)⟩
end Go.Proofs.YtejkelcaljmnoaaGreatDoor
namespace Go.Lo
open Go.Conc Go.Hx
section
variable {P:Program}{New:Obj->Prop}{N:Nat}{ε:Env}{L:Frag}{d:Option Tmp}{ty:TypeId}{ps:String}{af:Array Edge}{g:Option (Nat×Bool)}
theorem CM {t u:TypeId}{x y:Operand}{k k':Nat×Nat}(H:Key2 P t)(hg: ∀x y,evR P (eqGuard .eql t x y (kv k) (kv k')) []=some ((),[])) (hx:ev ε x=some (kv k):=by rfl) (hy:ev ε y=some (kv k'):=by rfl):EY P N ε L ⟨d, .binOp .eql t x y u,ty,ps,af,g⟩ (.bool (decide (k=k'))):=fun a ha=>by
 refine cW (fun _=>rfl) fun K hQ=> ?_;rw[ha.ev hx,ha.ev hy,ay];refine bm (hg _ _) ?_;show wpQ P (do pure (.bool (<-Op.equal t (kv k) (kv k')))) K L;rw[ay];exact mg H hQ
end
end Go.Lo
namespace Go.Proofs.YtejkelcaljmnoaaGreatDoor
open Go.Conc Go.Hx Go.Lo
theorem CN (k k':Nat×Nat)(x y:Operand):evR Tryz.prog (eqGuard .eql 96 x y (kv k) (kv k')) []=some ((),[]):=by kernel_rfl
def PS.has (x:PS)(k:Nat×Nat):Bool:=(List.range 6).any fun i=>decide (k=x.f i)
theorem vH (test:Nat->Bool)(xs:List Nat):decide (0<=idxF test xs)=xs.any test:=by
 unfold idxF;cases h:xs.findIdx? test with
 |none=>
  have:=List.findIdx?_eq_none_iff.1 h;rw[List.any_eq_false.2 fun i hi=>by simpa using this i hi];rfl
 |some i=>
  obtain⟨h1,h2,_⟩:=List.findIdx?_eq_some_iff_getElem.1 h;rw[List.any_eq_true.2 ⟨_,List.getElem_mem h1,h2⟩];simp
theorem eJ (nf:Nat): ∃n,∀{σ}{F:Fam σ}{Δ:DM F}{main s}(L0:Frag)(f:FuncId)(gf:Func)(c1 c2:List Value)(xs:List Nat)(test:Nat->Bool)(base:Option Addr)(cap:Nat),
 (∀i v,(xs.map ptr)[i]? =some v-> ∃b,base=some ⟨b,0,none⟩/\At L0 b i v)->xs.length<=8->Tryz.prog.funcs[f]? =some gf->(gf.name== "runtime.NumGoroutine")=false->gf.body.isNone=false->
 (∀c∈xs,∀L,Ext L0 L->CallsL Δ Tryz.prog main f (c1++[ptr c]++c2).toArray nf s L (fun s' v L'=>s=s'/\v= .bool (test c)/\Ext L L'))->
 CallsL Δ Tryz.prog main 149 [.slice base xs.length cap, .func (.func f) c1.toArray c2.toArray].toArray n s L0 (fun s' v L'=>s=s'/\v= .bool (xs.any test)/\Ext L0 L'):=by
 obtain⟨n1,g1⟩:=fT nf;apply Exists.intro;intro σ F Δ main s L0 f gf c1 c2 xs test base cap hat h8 hf hname hb hc;co_applyP aF 9 Tryz.func149 Tryz.ntmps149;co_applyP aa;co_applyP oan rfl;co_applyP aa;co_applyP om rfl rfl rfl ag;co_applyP oc rfl rfl rfl (g1 L0 f gf c1 c2 xs test base cap hat h8 hf hname hb hc);rintro _ _ _ ⟨rfl,rfl,hE⟩;co_applyP oy rfl dt;co_applyP oan rfl;co_applyP aK;change∃v,resE .. =some v/\_;exact⟨_,rfl,rfl,by rw[<-vH],hE⟩
def St.isOpen (S:St)(k:Nat×Nat):Bool:=S.ps.any fun q=>q.2.has k
def St.testB (S:St)(p:PS->Bool)(c:Nat):Bool:=match S.get c with
 |some y=>p y
 |none=>false
theorem jx {S:St}(hn:(S.ps.map (·.1)).Nodup)(p:PS->Bool):(S.ps.map (·.1)).any (S.testB p)=S.ps.any fun q=>p q.2:=by
 rw[List.any_map];rw[Bool.eq_iff_iff,List.any_eq_true,List.any_eq_true];constructor
 ·rintro⟨q,hq,h⟩;refine⟨q,hq, ?_⟩;simpa [Function.comp,St.testB,bk hn (b:=q.1) (x:=q.2) hq] using h
 ·rintro⟨q,hq,h⟩;refine⟨q,hq, ?_⟩;simpa [Function.comp,St.testB,bk hn (b:=q.1) (x:=q.2) hq] using h
def otherE (k:Nat×Nat):Nat×Nat:=if k.2=4 then(k.1,5) else(k.1,4)
def St.canBeDone (S:St)(x:PS)(k:Nat×Nat):Bool:=if S.isOpen (otherE k) then(if k.2=4 then decide (0<(S.by_ k.1).length) else decide (((S.by_ k.1).length:Int)+x.r 2<=8)) else true
theorem AB (a b:Nat):((a:Int)==(b:Int))=decide (a=b):=by rw[Bool.eq_iff_iff];simp;omega
theorem dD: ∃n,∀{σ}{F:Fam σ}{Δ:DM F}{main s}(L:Frag)(p c:Nat)(x y:PS),pb p x∈L->pb c y∈L->
 CallsL Δ Tryz.prog main 128 [ptr p,ptr c].toArray n s L (fun s' v L'=>s=s'/\L=L'/\v= .bool (decide (y.par=x.id))):=by
 apply Exists.intro;intro σ F Δ main s L p c x y hp hc;have h1:At L c 1 (.int .i64 y.par):=⟨true,_,_,_,hc,rfl⟩;have h2:At L p 0 (.int .i64 x.id):=⟨true,_,_,_,hp,rfl⟩;co_applyP aF 16 Tryz.func128 Tryz.ntmps128;co_applyP aa;co_applyP oan rfl;co_applyP au;co_applyP bA a5;co_applyP tr 0 rfl ag pI;co_applyP tr 1 rfl av pI;co_applyP tr 2 rfl (ak (hf:=aM)) pI;co_applyP tr 3 rfl (ak (hf:=fy)) pI;co_applyP tr 4 rfl (aA (ht:=aR)) pI;co_applyP tr 5 rfl ag pI;co_applyP tr 6 rfl av pI;co_applyP tr 7 rfl (ak (hf:=aM)) pI;co_applyP tr 8 rfl (ak (hf:=bH)) pI;co_applyP tr 9 rfl (aA (ht:=aR)) pI;co_applyP tr 10 rfl aI pI;co_applyP tr 11 rfl bR pI;co_applyP td (by kernel_rfl);co_applyP aK;change∃v,resE .. =some v/\_;exact⟨_,rfl,rfl,rfl,by rw[AB]⟩
theorem jy: ∃n,∀{σ}{F:Fam σ}{Δ:DM F}{main s}(L:Frag)(p c xb:Nat)(x y:PS),pb p x∈L->pb c y∈L->At L xb 0 (ptr p)->
 CallsL Δ Tryz.prog main 148 [ptr c,ptr xb].toArray n s L (fun s' v L'=>s=s'/\v= .bool (decide (y.par=x.id/\y.st=6))/\Ext L L'):=by
 obtain⟨n1,g1⟩:=dD;apply Exists.intro;intro σ F Δ main s L p c xb x y hp hc hb;have h1:At L c 2 (.int .i64 y.st):=⟨true,_,_,_,hc,rfl⟩;co_applyP aF 15 Tryz.func148 Tryz.ntmps148;co_applyP j9;intro hF;co_applyP aa;co_applyP oan rfl;co_applyP aa;co_applyP oy rfl (aA (ht:=fe));co_applyP oy rfl ag;co_applyP oc rfl rfl rfl (g1 L p c x y hp hc);rintro _ _ _ ⟨rfl,rfl,rfl⟩;co_applyP oy rfl ag;co_applyP rW (y.par=x.id);intro hpar
 ·rw[decide_eq_true hpar];co_applyP om rfl rfl rfl (av);co_applyP oy rfl ((ak (hf:=aM)));co_applyP oy rfl ((ak (hf:=bM)));co_applyP oy rfl ((aA (ht:=aR)));co_applyP oy rfl (aI);co_applyP oy rfl aH;co_applyP oan rfl;co_applyP aK;change∃v,resE .. =some v/\_;refine⟨_,rfl,rfl, ?_,hF,fun _ h=>h⟩;have e:((y.st:Int)==6)=decide (y.par=x.id/\y.st=6):=by rw[Bool.eq_iff_iff];simp[hpar];omega
  rw[<-e];rfl
 intro hpar;rw[decide_eq_false hpar];co_applyP ou rfl;co_applyP ou rfl;co_applyP ou rfl;co_applyP ou rfl;co_applyP ou rfl;co_applyP ou rfl;co_applyP oy rfl aH;co_applyP oan rfl;co_applyP aK;change∃v,resE .. =some v/\_;refine⟨_,rfl,rfl, ?_,hF,fun _ h=>h⟩;have e:false=decide (y.par=x.id/\y.st=6):=by simp[hpar]
 rw[<-e];rfl
def St.orphs (S:St)(id:Nat):List Nat->St
 |[]=>S
 |b::bs=>St.orphs (match S.get b with
  |some y=>if y.par=id then S.setP b {y with par:=1} else S
  |none=>S) id bs
theorem iN (S:St)(id:Nat)(l m:List Nat):S.orphs id (l++m)=(S.orphs id l).orphs id m:=by
 induction l generalizing S with
 |nil=>rfl
 |cons b l ih=>simp only[List.cons_append,St.orphs];exact ih _
structure ORel (S S':St):Prop where
 f:S'.ps.map (·.1)=S.ps.map (·.1)
 v: ∀b y,(b,y)∈S.ps-> ∃z,(b,z)∈S'.ps/\{z with par:=y.par}=y
 r:S'.rows=S.rows/\S'.by_=S.by_/\S'.wt=S.wt/\S'.now=S.now/\S'.last=S.last
theorem ORel.refl (S:St):ORel S S:=⟨rfl,fun b y h=>⟨y,h,rfl⟩,rfl,rfl,rfl,rfl,rfl⟩
theorem ORel.step {S S':St}(h:ORel S S')(hn:(S'.ps.map (·.1)).Nodup){b:Nat}{y:PS}(hb:(b,y)∈S'.ps):ORel S (S'.setP b {y with par:=1}):=by
 refine⟨by rw[ba];exact h.f,fun c w hc=> ?_,h.r⟩;obtain⟨z,hz,he⟩:=h.v c w hc;by_cases e:c=b
 ·subst e;obtain rfl:=a6 hn hb hz;exact⟨_,ar hz,by simpa using he⟩
 ·exact⟨z,by simp only[St.setP,List.mem_map];exact⟨(c,z),hz,by simp[e]⟩,he⟩
theorem vI: ∃n,∀{σ}{F:Fam σ}{Δ:DM F}{main s}(K:Nat)(A:Lay)(S:St)(Fr L:Frag)(b:Nat)(x:PS),Rep K A S Fr L->(b,x)∈S.ps->
 CallsL Δ Tryz.prog main 109 [ptr K,ptr b].toArray n s L (fun s' v L'=>s=s'/\v= .tuple #[]/\ORel S (S.orphs x.id (S.ps.map (·.1)))/\Rep K A (S.orphs x.id (S.ps.map (·.1))) Fr L'):=by
 obtain⟨n1,g1⟩:=dD;apply Exists.intro;intro σ F Δ main s K A S Fr L b x hR hb;obtain⟨base,cap,hv,hat0⟩:=bY hR.pa;simp only[List.length_map] at hv;have h5:At L K 5 (.slice base S.ps.length cap):=by rw[<-hv];exact hR.kat rfl
 co_applyP aF 23 Tryz.func109 Tryz.ntmps109;co_applyP aa;co_applyP om rfl rfl rfl av;co_applyP oy rfl (ak (hf:=bX));co_applyP oy rfl (aA (ht:=dz));co_applyP oy rfl (bt (hu:=U91));co_applyP oy rfl ag;co_applyP ai;co_applyP aC;co_applyP bg (fun k s' ε' L'=>s'=s/\ ∃l1 l2,S.ps=l1++l2/\Rep K A (S.orphs x.id (l1.map (·.1))) Fr L'/\ORel S (S.orphs x.id (l1.map (·.1)))/\k+l1.length=8/\kn ε' [(11, .int .i64 l1.length),(10, .int .i64 S.ps.length),(9, .slice base S.ps.length cap),(1,ptr b),(0,ptr K)]) 8
 ·exact⟨rfl,[],S.ps,rfl,hR,ORel.refl S,rfl,rfl⟩
 rintro k s' ε' L' ⟨rfl,l1,l2,hl,hR',hO,hk,he⟩;co_applyP aN he;have hlen:=congrArg List.length hl;simp only[List.length_append] at hlen;have h8:=hR.p8;co_applyP aa;co_applyP oy rfl bi;co_applyP ai;co_applyP au;co_applyP aT rfl;intro hlt
 ·cases l2 with
  |nil=>simp at hlt hlen;omega
  |cons q l2=>
   have hat: ∃ab,base=some ⟨ab,0,none⟩/\At L' ab l1.length (ptr q.1):=by
    obtain⟨ab,hb1,hb2,_⟩:=hat0 l1.length (ptr q.1) (by rw[hl];simp);obtain⟨base',cap',_,hat'⟩:=bY hR'.pa;have e1:(S.orphs x.id (l1.map (·.1))).ps.map (fun q=>ptr q.1)=S.ps.map fun q=>ptr q.1:=by
     have:=congrArg (List.map ptr) hO.f;rw[List.map_map,List.map_map] at this;exact this
    obtain⟨b',hb1',_,hv'⟩:=hat' l1.length (ptr q.1) (by rw[e1,hl];simp);rw[hb1] at hb1';obtain rfl:ab=b':=by simpa using hb1'
    exact⟨ab,hb2,hv'⟩
   obtain⟨ab,rfl,hav⟩:=hat;simp at hlen;obtain⟨z,hz,hze⟩:=hO.v q.1 q.2 (by rw[hl];simp);obtain⟨w,hw,hwe⟩:=hO.v b x hb;have hwid:w.id=x.id:=by have:=congrArg PS.id hwe;exact this
   have hget:=bk hR'.pn hz;have elen:IntKind.i64.wrap ((l1.length:Int)+1)=((l1++[q]).length:Int):=by simp[IntKind.wrap_i64];omega
   have hnext:S.orphs x.id ((l1++[q]).map (·.1))=if z.par=x.id then(S.orphs x.id (l1.map (·.1))).setP q.1 {z with par:=1} else S.orphs x.id (l1.map (·.1)):=by
    rw[List.map_append,iN];show St.orphs (match (S.orphs x.id (l1.map (·.1))).get q.1 with|some y=>_|none=>_) x.id []=_;rw[hget];rfl
   co_applyP aB;co_applyP au;co_applyP aC;co_applyP aa;co_applyP oy rfl (bw U91 cM);co_applyP oy rfl (aA (ht:=fe));co_applyP oan rfl;co_applyP aa;co_applyP om rfl rfl rfl ag;co_applyP oc rfl rfl rfl (g1 L' b q.1 w z (hR'.p _ hw) (hR'.p _ hz));rintro _ _ _ ⟨rfl,rfl,rfl⟩;co_applyP ai;co_applyP aT rfl;intro hc;co_applyP aq;co_applyP om rfl rfl rfl av;co_applyP oy rfl (ak (hf:=aM));co_applyP oy rfl (ak (hf:=fy))
   ·have hp:z.par=x.id:=by rw[<-hwid];simpa using hc
    co_applyP osm rfl (hs:=bS) (hm:=hR'.p _ hz) (hi:=by first|decide|(rw[bL];omega)|(rw[bU];omega));intro L2 hU;have hR2:=hR'.setP hz (x':={z with par:=1}) hU;co_applyP ai;co_applyP aq;co_applyP oy rfl aS;co_applyP oy rfl ag;co_applyP ai;change∃k',k'<_/\_;rw[if_pos hp] at hnext;exact⟨k-1,by omega,rfl,l1++[q],l2,by simp[hl],by rw[hnext];exact hR2,by rw[hnext];exact hO.step hR'.pn hz,by simp;omega,by rw[<-elen];rfl⟩
   intro hc;co_applyP aB;co_applyP aq;co_applyP oy rfl aS;co_applyP oy rfl ag;co_applyP ai;change∃k',k'<_/\_;have hp: ¬z.par=x.id:=by rw[<-hwid];simpa using hc
   rw[if_neg hp] at hnext;exact⟨k-1,by omega,rfl,l1++[q],l2,by simp[hl],by rw[hnext];exact hR',by rw[hnext];exact hO,by simp;omega,by rw[<-elen];rfl⟩
 intro hlt;co_applyP bf;change∃v,resE .. =some v/\_;cases l2 with
 |nil=>
  have e:l1=S.ps:=by rw[hl];simp
  subst e;exact⟨_,rfl,rfl,rfl,hO,hR'⟩
 |cons q l2=>simp at hlt hlen;omega
def St.setPs (S:St)(ps:List (Nat×PS)):St:={S with ps:=ps}
section
variable {K:Nat}{A:Lay}{S:St}{F L L':Frag}
theorem Rep.setPs (h:Rep K A S F L){a':Sl}{ps':List (Nat×PS)}{ls:Nat}(hf:Fun L')(hk:kb K (kst (A.setA 0 a') {S.setPs ps' with last:=ls})∈L')(hs: ∀t∈L,t.1≠K->(A.a 0).b≠some t.1->t∈L') (ha:slOk a' (ps'.map fun q=>ptr q.1) 93 L')
 (hp: ∀q∈ps',pb q.1 q.2∈L') (hpn:(ps'.map (·.1)).Nodup) (hp8:ps'.length<=8) (hpF: ∀t∈F,∀q∈ps',t.1≠q.1)
 (hd: ∀b,a'.b=some b->(A.a 0).b=some b\/((∀i,(A.a i).b≠some b)/\ ∀t∈F,t.1≠b)):Rep K (A.setA 0 a') {S.setPs ps' with last:=ls} F L':=by
 have hal: ∀b,(A.a 0).b=some b->(b,true,Obj.cells ((S.ps.map fun q=>ptr q.1)++(A.a 0).junk).toArray 93)∈L:=fun b hb=>h.pa.mem hb;have ty: ∀{b:Nat}{fl:Bool}{o:Obj},(b,fl,o)∈L->(∀c,o≠Obj.cells c 93)->(A.a 0).b≠some b:=fun hm ho hb=>ho _ (h.fn _ _ _ _ _ hm (hal _ hb)).2;have arr: ∀(a:Sl)(xs:List Value)(e:TypeId),e≠115->(∀b,a.b=some b->(A.a 0).b≠some b)->slOk a xs e L->slOk a xs e L':=fun a xs e he hne ha=>by
  refine ha.mono fun c hc o ho=>hs _ ho ?_ (hne c hc);exact h.fn.ne (ha.mem hc) h.k (aQ he)
 have hdn: ∀i,i≠0-> ∀b,(A.a i).b=some b->(A.a 0).b≠some b:=fun i hi b hb e=>h.d i 0 hi (by rw[hb];simp) (by rw[hb,e]);have pA: ∀i,i≠0->(A.setA 0 a').a i=A.a i:=fun i hi=>by simp[Lay.setA,put,hi]
 have p0:(A.setA 0 a').a 0=a':=by simp[Lay.setA,put]
 exact{h with
  fn:=hf
  k:=hk
  g:=hs _ h.g (h.fn.ne h.g h.k (aQ (by decide))) (ty h.g fun c=>aQ (by decide))
  p:=hp
  pn:=hpn
  p8:=hp8
  pa:=by rw[p0];exact ha
  rw:=fun l hl=>by rw[pA _ (by omega)];exact arr _ _ _ (by decide) (hdn _ (by omega)) (h.rw l hl)
  ya:=fun i hi=>arr _ _ _ (by decide) (fun b hb=>ty ((h.ya i hi).mem hb) fun c=>aQ (by decide)) (h.ya i hi)
  w:=by
   have:wobj (A.setA 0 a') {S.setPs ps' with last:=ls}=wobj A S:=by
    rw[jw,jw];show mapO (entsOf (A.setA 0 a') S.wt A.born) A.clock=_;rw[nj fun e _=>pA _ (by unfold slot;omega)]
   rw[this];exact hs _ h.w (h.fn.ne h.w h.k (by simp[wobj])) (ty h.w fun c=>by simp[wobj])
  wa:=fun e he=>by rw[pA _ (by unfold slot;omega)];exact arr _ _ _ (by decide) (hdn _ (by unfold slot;omega)) (h.wa e he)
  al:=fun i c hc=>by
   by_cases ei:i=0
   ·subst ei;rw[p0] at hc;exact⟨_,ha.mem hc⟩
   ·rw[pA i ei] at hc;obtain⟨xs,hx⟩:=h.al i c hc;exact⟨xs,hs _ hx (h.fn.ne hx h.k (aQ (by decide))) (hdn i ei c hc)⟩
  yl:=fun i c hc=>by
   obtain⟨xs,hx⟩:=h.yl i c hc;exact⟨xs,hs _ hx (h.fn.ne hx h.k (aQ (by decide))) (ty hx fun c=>aQ (by decide))⟩
  d:=fun i j hij hi=>by
   by_cases ei:i=0
   ·subst ei;rw[pA j (Ne.symm hij),p0];rw[p0] at hi;intro e;cases hb:a'.b with
    |none=>exact hi hb
    |some b=>
     rcases hd b hb with h1|h1
     ·exact h.d 0 j hij (by rw[h1];simp) (by rw[h1,<-e,hb])
     ·exact h1.1 j (by rw[<-e,hb])
   ·rw[pA i ei];rw[pA i ei] at hi;by_cases ej:j=0
    ·subst ej;rw[p0];intro e;cases hb:a'.b with
     |none=>rw[hb] at e;exact hi e
     |some b=>
      rcases hd b hb with h1|h1
      ·exact h.d i 0 ei hi (by rw[h1,e,hb])
      ·exact h1.1 i (by rw[e,hb])
    ·rw[pA j ej];exact h.d i j hij hi
  fr:=fun t ht=>hs _ (h.fr t ht) (h.fd t ht).1 ((h.fd t ht).2.2.1 _)
  fd:=fun t ht=>by
   refine⟨(h.fd t ht).1,hpF t ht,fun i=> ?_,(h.fd t ht).2.2.2⟩;by_cases ei:i=0
   ·subst ei;rw[p0];intro e;rcases hd _ e with h1|h1
    ·exact(h.fd t ht).2.2.1 _ h1
    ·exact h1.2 t ht rfl
   ·rw[pA i ei];exact(h.fd t ht).2.2.1 i}
theorem Rep.beside (h:Rep K A S F L){c:Nat}{y:PS}(hm:pb c y∈L)(hp: ∀q∈S.ps,c≠q.1):Rep K A S (pb c y::F) L:=
 {h with
  fr:=fun t ht=>by
   rcases List.mem_cons.1 ht with rfl|ht
   ·exact hm
   ·exact h.fr t ht
  fd:=fun t ht=>by
   rcases List.mem_cons.1 ht with rfl|ht
   ·refine⟨h.fn.ne hm h.k (aQ (by decide)),hp,fun i e=> ?_,fun i e=> ?_,h.fn.ne hm h.w (by simp[wobj])⟩
    ·obtain⟨xs,hx⟩:=h.al i _ e;exact aQ (by decide) (h.fn _ _ _ _ _ hm hx).2
    ·obtain⟨xs,hx⟩:=h.yl i _ e;exact aQ (by decide) (h.fn _ _ _ _ _ hm hx).2
   ·exact h.fd t ht}
theorem k9 (k:KS)(v:Value):(kcells k).setIfInBounds 5 v=kcells {k with procs:=v}:=rfl
theorem tI (A:Lay)(S:St)(a':Sl)(ps':List (Nat×PS)):kcells (kst (A.setA 0 a') {S.setPs ps' with last:=S.last})=kcells {kst A S with procs:=slv a' ps'.length}:=by
 unfold kcells kst Lay.setA put St.setPs;simp
end
def isChildEnded (x:PS)(y:PS):Bool:=decide (y.par=x.id/\y.st=6)
def St.childAt (S:St)(x:PS):Option Nat:=S.ps.findIdx? fun q=>isChildEnded x q.2
def told (x y:PS):PS:={x with r:=put (put x.r 0 ((y.id:Int)%65536)) 1 (y.stat%65536)}
theorem q8 {S:St}(hn:(S.ps.map (·.1)).Nodup)(p:PS->Bool):(S.ps.map (·.1)).findIdx? (S.testB p)=S.ps.findIdx? fun q=>p q.2:=by
 rw[List.findIdx?_map];have: ∀q∈S.ps,(S.testB p∘(·.1)) q=p q.2:=fun q hq=>by simp[St.testB,bk hn (b:=q.1) (x:=q.2) hq]
 generalize S.ps=l at this⊢
 induction l with
 |nil=>rfl
 |cons q l ih=>
  rw[List.findIdx?_cons,List.findIdx?_cons,this q List.mem_cons_self,ih fun q hq=>this q (List.mem_cons_of_mem _ hq)]
theorem jz: ∃n,∀{σ}{F:Fam σ}{Δ:DM F}{main s}(K:Nat)(A:Lay)(S:St)(Fr L:Frag)(b:Nat)(x:PS),(∀cs,(Δ s).New (.cells cs 93))->Rep K A S Fr L->(b,x)∈S.ps->x.st≠6->
 CallsL Δ Tryz.prog main 130 [ptr K,ptr b].toArray n s L (fun s' v L'=>s=s'/\match S.childAt x with
  |none=>v= .bool false/\Rep K A S Fr L'
  |some i=>v= .bool true/\ ∃c y a',S.ps[i]? =some (c,y)/\Rep K (A.setA 0 a') ({S.setPs (S.ps.eraseIdx i) with last:=S.last}.setP b (told x y)) (pb c y::Fr) L'):=by
 obtain⟨n0,g0⟩:=jy;obtain⟨n1,g1⟩:=fT n0;obtain⟨n2,g2⟩:=px;apply Exists.intro;intro σ F Δ main s K A S Fr L b x hN hR hb hx6;co_applyP aF 55 Tryz.func130 Tryz.ntmps130;co_applyP aa;co_applyP b5 rfl (b8 (hN _));intro xb L1 hA1;have hR1:=hR.add hA1;have hxb:At L1 xb 0 (ptr b):=⟨true,_,_,_,hA1.self,rfl⟩;obtain⟨base,cap,hv,hat0⟩:=bY hR1.pa;simp only[List.length_map] at hv;have h5:At L1 K 5 (.slice base (S.ps.map (·.1)).length cap):=by rw[List.length_map,<-hv];exact hR1.kat rfl
 have hcl: ∀c∈S.ps.map (·.1),∀L,Ext L1 L->CallsL Δ Tryz.prog main 148 ([]++[ptr c]++[ptr xb]).toArray n0 s L (fun s' v L'=>s=s'/\v= .bool (S.testB (isChildEnded x) c)/\Ext L L'):=by
  intro c hc L hE;obtain⟨q,hq,rfl⟩:=List.mem_map.1 hc;have e:S.testB (isChildEnded x) q.1=decide (q.2.par=x.id/\q.2.st=6):=by simp[St.testB,bk hR1.pn (b:=q.1) (x:=q.2) hq,isChildEnded]
  rw[e];exact g0 L b q.1 xb x q.2 (hE.s _ (hR1.p _ hb)) (hE.s _ (hR1.p _ hq)) (hE.at hxb)
 co_applyP oan rfl;co_applyP aa;co_applyP om rfl rfl rfl av;co_applyP oy rfl (ak (hf:=bX));co_applyP oy rfl (aA (ht:=dz));co_applyP oy rfl vc;co_applyP oc rfl rfl rfl (g1 L1 148 _ [] [ptr xb] (S.ps.map (·.1)) (S.testB (isChildEnded x)) base cap (fun i v hv=>by obtain⟨b,_,h2,h3⟩:=hat0 i v (by simpa using hv);exact⟨b,h2,h3⟩) (by simpa using hR1.p8) Tryz.func148 rfl rfl hcl);rintro _ _ _ ⟨rfl,rfl,hE⟩;co_applyP oan rfl;co_applyP au;co_applyP aa;co_applyP om rfl rfl rfl bi;co_applyP ai;change wpE ..;rename_i L2;have hR2:=hR1.ext hE;have hidx:=q8 hR.pn (isChildEnded x);co_applyP aT rfl;intro hc
 ·have hnone:S.childAt x=none:=by
   cases h:S.childAt x with
   |none=>rfl
   |some i=>unfold St.childAt at h;unfold idxF at hc;rw[hidx,h] at hc;simp at hc;omega
  co_applyP aa;co_applyP oan rfl;co_applyP aK;change∃v,resE .. =some v/\_;rw[hnone];exact⟨_,rfl,rfl,rfl,hR2⟩
 intro hc;obtain⟨i,hsome⟩: ∃i,S.childAt x=some i:=by
  cases h:S.childAt x with
  |none=>unfold St.childAt at h;unfold idxF at hc;rw[hidx,h] at hc;simp at hc
  |some i=>exact⟨i,rfl⟩
 have hi:idxF (S.testB (isChildEnded x)) (S.ps.map (·.1))=i:=by unfold idxF;unfold St.childAt at hsome;rw[hidx,hsome]
 obtain⟨hil,hti,_⟩:=List.findIdx?_eq_some_iff_getElem.1 hsome;rw[hi,hsome];generalize hcy:S.ps[i]=cy at hti;obtain⟨c,y⟩:=cy;have hcy':S.ps[i]? =some (c,y):=by rw[List.getElem?_eq_getElem hil,hcy]
 have hcm:(c,y)∈S.ps:=List.mem_of_getElem? hcy';obtain⟨ab,hab,hbase,hav⟩:=hat0 i (ptr c) (by simp[hcy']);subst hbase;have hav2:=hE.at hav;have h52:=hE.at h5;rw[List.length_map] at h52;have h8:=hR.p8;have ei:IntKind.i64.wrap ((i:Int)+1)=(i:Int)+1:=by simp[IntKind.wrap_i64];omega
 have hcap:cap=S.ps.length+(A.a 0).junk.length:=by
  unfold slv at hv;rw[hab] at hv;simp only[Value.slice.injEq,true_and] at hv;exact hv.symm
 subst hcap;have hpa2:=hR2.pa.mem hab;have hKab:K≠ab:=hR2.fn.ne hR2.k hpa2 (aQ (by decide));have pab: ∀q∈S.ps,q.1≠ab:=fun q hq=>hR2.fn.ne (hR2.p _ hq) hpa2 (aQ (by decide));have hxab:xb≠ab:=fun e=>hA1.new _ (hR.pa.mem hab) e.symm;have hxp: ∀q∈S.ps,q.1≠xb:=fun q hq=>hA1.new _ (hR.p _ hq);have hxK:K≠xb:=hA1.new _ hR.k;have g2':=g2 (Δ:=Δ) (main:=main) (s:=s) L2 ab (S.ps.map fun q=>ptr q.1) (A.a 0).junk i (by simpa using hil) (by simp;omega) (by simp[plainV]) hpa2;rw[List.length_map] at g2';co_applyP aB;co_applyP aa;co_applyP om rfl rfl rfl av;co_applyP oy rfl (ak (hf:=bX));co_applyP oy rfl (aA (ht:=dz));co_applyP om rfl rfl rfl (bw U91 cM);co_applyP oy rfl (aA (ht:=fe));co_applyP oan rfl;co_applyP aa;co_applyP om rfl rfl rfl ag;co_applyP oy rfl av;co_applyP oy rfl (ak (hf:=bX));co_applyP oy rfl (aA (ht:=dz));co_applyP om rfl rfl rfl ag;co_applyP oy rfl aS;rw[ei];co_applyP oc rfl rfl rfl (g2');rintro _ _ _ ⟨rfl,rfl,hU3⟩;co_applyP oy rfl av;co_applyP oy rfl (ak (hf:=bX));rename_i L3;have hK3:=hU3.ne _ hR2.k hKab;co_applyP oeN rfl (fun hnd=>dv (hs:=eD) (hnd:=hnd) (hm:=hK3) (hi:=by rw[bU];omega));rintro _ L4 ⟨rfl,hU4⟩;co_applyP ai;co_applyP au;have hlen':(S.ps.eraseIdx i).length=S.ps.length-1:=by rw[List.length_eraseIdx];simp[hil]
 have hemap:(S.ps.eraseIdx i).map (fun q=>ptr q.1)=(S.ps.map fun q=>ptr q.1).eraseIdx i:=by simp[List.eraseIdx_eq_take_drop_succ]
 have hesub: ∀q∈S.ps.eraseIdx i,q∈S.ps:=fun q hq=>List.mem_of_mem_eraseIdx hq;have keep4: ∀t∈L2,t.1≠K->t.1≠ab->t∈L4:=fun t ht h1 h2=>hU4.ne _ (hU3.ne _ ht h2) h1;have hR4:Rep K (A.setA 0 ⟨some ab, .pointer none::(A.a 0).junk⟩) {S.setPs (S.ps.eraseIdx i) with last:=S.last} Fr L4:=by
  refine hR2.setPs hU4.fn ?_ (fun t ht h1 h2=>keep4 t ht h1 fun e=>h2 (by rw[hab,e])) ?_ (fun q hq=>keep4 _ (hR2.p _ (hesub q hq)) (hR2.fn.ne (hR2.p _ (hesub q hq)) hR2.k (aQ (by decide))) (pab _ (hesub q hq))) ?_ (by omega) (fun t ht q hq=>(hR2.fd t ht).2.1 q (hesub q hq)) (fun b hb=> .inl (by rw[hab];exact hb))
  ·have:=hU4.self;rw[k9] at this;unfold kb;rw[tI];have e1:slv ⟨some ab, .pointer none::(A.a 0).junk⟩ (S.ps.eraseIdx i).length= .slice (some ⟨ab,0,none⟩) (S.ps.length-1) (S.ps.length+(A.a 0).junk.length):=by
    unfold slv;simp only[hlen',List.length_cons];congr 1;omega
   rw[e1];exact this
  ·rw[hemap];exact hU4.ne _ hU3.self (Ne.symm hKab)
  ·rw[show (S.ps.eraseIdx i).map (·.1)=(S.ps.map (·.1)).eraseIdx i by simp[List.eraseIdx_eq_take_drop_succ]];exact hR2.pn.sublist (List.eraseIdx_sublist _ _)
 have hcb:c≠b:=fun e=>by
  subst e;obtain rfl:=a6 hR.pn hcm hb;have:isChildEnded y y=true:=hti;simp[isChildEnded] at this;exact hx6 this.2
 have hb4:(b,x)∈S.ps.eraseIdx i:=by
  obtain⟨j,hj⟩:=List.getElem?_of_mem hb;have hji:j≠i:=fun e=>by subst e;rw[hj] at hcy';simp at hcy';exact hcb hcy'.1.symm
  rw[List.mem_eraseIdx_iff_getElem?];exact⟨j,hji,hj⟩
 have hpc4:pb c y∈L4:=keep4 _ (hR2.p _ hcm) (hR2.fn.ne (hR2.p _ hcm) hR2.k (aQ (by decide))) (pab _ hcm);have hcn: ∀q∈S.ps.eraseIdx i,c≠q.1:=fun q hq e=>by
  obtain⟨j,hji,hj⟩:=List.mem_eraseIdx_iff_getElem?.1 hq;have hq':=List.mem_of_getElem? hj;obtain⟨qc,qy⟩:=q;have e':c=qc:=e;subst e';have e1:(S.ps.map (·.1))[j]? =some c:=by simp[hj]
  have e2:(S.ps.map (·.1))[i]? =some c:=by simp[hcy']
  obtain⟨hj1,hj2⟩:=List.getElem?_eq_some_iff.1 e1;obtain⟨hi1,hi2⟩:=List.getElem?_eq_some_iff.1 e2;rcases Nat.lt_or_gt_of_ne hji with g|g
  ·exact absurd (hj2.trans hi2.symm) (List.pairwise_iff_getElem.1 hR.pn j i hj1 hi1 g)
  ·exact absurd (hi2.trans hj2.symm) (List.pairwise_iff_getElem.1 hR.pn i j hi1 hj1 g)
 replace hR4:=hR4.beside hpc4 hcn;have hxb4:(xb,true,Obj.cells #[ptr b] 93)∈L4:=keep4 _ (hE.s _ hA1.self) (Ne.symm hxK) hxab;have hx4:At L4 xb 0 (ptr b):=⟨true,_,_,_,hxb4,rfl⟩;have hc40:At L4 c 0 (.int .i64 (y.id:Nat)):=⟨true,_,_,_,hpc4,rfl⟩;have hc43:At L4 c 3 (.int .i64 y.stat):=⟨true,_,_,_,hpc4,rfl⟩;have hxbm: ∀(L:Frag),(xb,true,Obj.cells #[ptr b] 93)∈L-> ∀t∈[(xb,true,Obj.cells #[ptr b] 93)],t∈L:=fun L h t ht=>by simp at ht;rw[ht];exact h
 have hbx:b≠xb:=hxp _ hb;co_applyP br [(xb,true,Obj.cells #[ptr b] 93)] 18 (nf:=0) a5;co_applyP t0 0 rfl (aA (ht:=fe)) (aj (hxbm _ hxb4));co_applyP tr 1 rfl (aA (ht:=fe)) (aj (hxbm _ hxb4));co_applyP tr 2 rfl ag (aj (hxbm _ hxb4));co_applyP tr 3 rfl av (aj (hxbm _ hxb4));co_applyP tr 4 rfl (ak (hf:=aM)) (aj (hxbm _ hxb4));co_applyP tr 5 rfl (ak (hf:=bH)) (aj (hxbm _ hxb4));co_applyP t0 6 rfl (aA (ht:=aR)) (aj (hxbm _ hxb4));co_applyP tr 7 rfl (cF (hs:=U3) (ht:=U32)) (aj (hxbm _ hxb4));co_applyP tr 8 rfl ag (aj (hxbm _ hxb4));co_applyP tr 9 rfl av (aj (hxbm _ hxb4));co_applyP tr 10 rfl (ak (hf:=aM)) (aj (hxbm _ hxb4));co_applyP tr 11 rfl (ak (hf:=kf)) (aj (hxbm _ hxb4));co_applyP t0 12 rfl (aA (ht:=aR)) (aj (hxbm _ hxb4));co_applyP tr 13 rfl (cF (hs:=U3) (ht:=U32)) (aj (hxbm _ hxb4));co_applyP tr 14 rfl av (aj (hxbm _ hxb4));co_applyP tr 15 rfl (ak (hf:=aM)) (aj (hxbm _ hxb4));co_applyP tr 16 rfl (ak (hf:=aW)) (aj (hxbm _ hxb4));co_applyP tr 17 rfl (aX U47 aV) (aj (hxbm _ hxb4));co_applyP tr 19 rfl av (aj (hxbm _ hxb4));co_applyP tr 20 rfl (ak (hf:=aM)) (aj (hxbm _ hxb4));co_applyP tr 21 rfl (ak (hf:=aW)) (aj (hxbm _ hxb4));co_applyP bd;intro hnd;co_applyP te (i:=18) rfl (dv (hnd:=hnd) (hm:=hR4.p _ hb4) (hi:=by rw[bL];omega) (hs:=aV));rintro _ _ ⟨rfl,hU5⟩;refine⟨aD (hxbm _ (hU5.ne _ hxb4 (Ne.symm hbx))), ?_⟩;rename_i L5;rw[bZ] at hU5;have h7:(pcells x).setIfInBounds (7+0) (.int .u16 ((y.id:Int)%65536))=pcells {x with r:=put x.r 0 ((y.id:Int)%65536)}:=fC x (by omega) _;have hR5:=hR4.setP hb4 (x':={x with r:=put x.r 0 ((y.id:Int)%65536)}) (h7▸hU5);have hb5:(b,{x with r:=put x.r 0 ((y.id:Int)%65536)})∈({S.setPs (S.ps.eraseIdx i) with last:=S.last}.setP b {x with r:=put x.r 0 ((y.id:Int)%65536)}).ps:=ar hb4;have hxb5:=hU5.ne _ hxb4 (Ne.symm hbx);co_applyP to 22 rfl ((aX U47 aV)) (aD (hxbm _ hxb5));co_applyP bd;intro hnd';co_applyP te (i:=23) rfl (dv (hnd:=hnd') (hm:=hR5.p _ hb5) (hi:=by rw[bL];omega) (hs:=aV));rintro _ _ ⟨rfl,hU6⟩;refine⟨aD (hxbm _ (hU6.ne _ hxb5 (Ne.symm hbx))), ?_⟩;rw[bZ] at hU6;co_applyP td (by kernel_rfl);co_applyP aa;co_applyP oan rfl;co_applyP aK;change∃v,resE .. =some v/\_;have h8':(pcells {x with r:=put x.r 0 ((y.id:Int)%65536)}).setIfInBounds (7+1) (.int .u16 (y.stat%65536))=pcells (told x y):=fC _ (by omega) _
 have hR6:=hR5.setP hb5 (x':=told x y) (h8'▸hU6);refine⟨_,rfl,rfl,rfl,c,y,⟨some ab, .pointer none::(A.a 0).junk⟩,hcy', ?_⟩;have e6:({S.setPs (S.ps.eraseIdx i) with last:=S.last}.setP b {x with r:=put x.r 0 ((y.id:Int)%65536)}).setP b (told x y)=({S.setPs (S.ps.eraseIdx i) with last:=S.last}:St).setP b (told x y):=by
  unfold St.setP;simp only[List.map_map];congr 1;apply List.map_congr_left;intro q _;simp only[Function.comp]
  split
  ·simp
  ·rename_i h;simp[h]
 rw[e6] at hR6;exact hR6
end Go.Proofs.YtejkelcaljmnoaaGreatDoor
namespace Go.Lo
open Go.Conc Go.Hx
section
variable {P:Program}{New:Obj->Prop}{N:Nat}{ε:Env}{L:Frag}{d:Option Tmp}{ty:TypeId}{ps:String}{af:Array Edge}{g:Option (Nat×Bool)}
theorem zR {t u e:TypeId}{x y:Operand}{base:Option Addr}{len cap:Nat}(hu:P.underlying t=some (.slice e))(hx:ev ε x=some (.slice base len cap):=by rfl)(hy:ev ε y=some (.slice none 0 0):=by rfl):EY P N ε L ⟨d, .binOp .eql t x y u,ty,ps,af,g⟩ (.bool base.isNone):=fun a ha=>by
 refine cW (fun _=>rfl) fun K hQ=> ?_;rw[ha.ev hx,ha.ev hy];show wpQ P (do pure (.bool (<-Op.equal t (.slice base len cap) (.slice none 0 0)))) K L;rw[ay,dm,Op.equalIn.eq_def,ay,aL hu];cases base<;>exact hQ
theorem zS {t e:TypeId}{sz:Nat}(hN:New (.cells #[] e))(hu:P.underlying t=some (.slice e))(hs:sizeAt P e=some sz):
 EO P New N ε L ⟨d, .buildSlice t 0 #[],ty,ps,af,g⟩ (fun r L''=> ∃b,(∀t∈L,t.1≠b)/\r= .slice (some ⟨b,0,none⟩) 0 0/\L''=(b,true, .cells #[] e)::L):=by
 intro a ha;simp only[execOp,List.map_toArray,List.map_nil];rw[ax];unfold Instr.buildSlice newRow;rw[ax,aY hu];simp only[ax,bO hs,Nat.zero_mul];have e0:Array.map (fun x=>(#[]:Array Value)[x%(#[]:Array Value).size]!) (Array.range 0)= #[]:=by simp
 simp only[gt_iff_lt,Nat.not_lt_zero,if_false,if_true,bz,ax,e0];have h0:Instr.fill (fun i=>some (i*sz,sz)) (#[]:Array Value) []=some #[]:=by simp[Instr.fill]
 simp only[h0,ax];exact cf hN fun b hb=>⟨b,hb,rfl,rfl⟩
end
end Go.Lo
namespace Go.Proofs.YtejkelcaljmnoaaGreatDoor
open Go.Conc Go.Hx Go.Lo
theorem yv: ∃n,∀{σ}{F:Fam σ}{Δ:DM F}{main s}(L:Frag)(Q:Nat)(xs junk:List Value),(∀cs,(Δ s).New (.cells cs 93))->(Q,true,Obj.cells (xs++junk).toArray 93)∈L->0<xs.length->xs.length<=8->
 CallsL Δ Tryz.prog main 129 [.slice (some ⟨Q,0,none⟩) xs.length (xs.length+junk.length)].toArray n s L (fun s' v L'=>s=s'/\ ∃b cap jk,v= .slice (some ⟨b,0,none⟩) xs.length cap/\Ext L L'/\(∀t∈L,t.1≠b)/\(b,true,Obj.cells (xs++jk).toArray 93)∈L'):=by
 apply Exists.intro;intro σ F Δ main s L Q xs junk hN hQ h0 h8;co_applyP aF 8 Tryz.func129 Tryz.ntmps129;co_applyP j9;intro hF;co_applyP aa;co_applyP oan rfl;co_applyP au;co_applyP aa;co_applyP om rfl rfl rfl (zR U91);co_applyP ai;co_applyP aE rfl;co_applyP aB;co_applyP aa;co_applyP b5 rfl (zS (hN _) U91 cM);intro nb L1 hA;co_applyP oy rfl ag;have hQ1:=hA.sub _ hQ;have hw:Reads Tryz.prog L1 1 0 (.slice (some ⟨nb,0,none⟩) 0 0) #[]:=by
  have:=cI (P:=Tryz.prog) (sz:=1) (n:=0) (len:=0) (cap:=0) (o:=0) hA.self (by simp);simpa using this
 have hr:Reads Tryz.prog L1 1 xs.length (.slice (some ⟨Q,0,none⟩) xs.length (xs.length+junk.length)) xs.toArray:=by
  have:=cI (P:=Tryz.prog) (sz:=1) (n:=xs.length) (len:=xs.length) (cap:=xs.length+junk.length) (o:=0) hQ1 (by simp);simpa using this
 co_applyP oeN rfl (fun hnd=>rP (by_:=7) (hF:=hA.fn) (hu:=U91) (hv:=U91) (hs:=cM) (hb:=qW) (hz0:=l9) (hw:=hw) (hr:=hr) (hc:=by omega) (hbig:=by omega) (hN:=hN));rintro _ L2 ⟨b,cap,h1,h2,rfl,hA2⟩;co_applyP oan rfl;co_applyP aK;change∃v,resE .. =some v/\_;have e1: #[]++xs.toArray++Builtin.zeroCells (Value.pointer none).cells (cap-(0+xs.length))=(xs++List.replicate (cap-(0+xs.length)) (Value.pointer none)).toArray:=by
  rw[ii rfl];apply Array.ext';simp
 rw[e1] at hA2;exact⟨_,rfl,rfl,b,cap,_,by simp,⟨hA2.fn,fun t ht=>hA2.sub _ (hA.sub _ ht)⟩,fun t ht=>hA2.new _ (hA.sub _ ht),hA2.self⟩
section
variable {S:St}
theorem Good.like (h:Good S){b:Nat}{x x':PS}(hb:(b,x)∈S.ps)(hs:x'.st=x.st)(hl:x'.lv=x.lv):Good (S.setP b x'):=by
 refine⟨by rw[ba];exact h.pn,by rw[fi];exact h.p8,fun q hq=> ?_,h.rn,fun l hl' c hc=> ?_,fun q hq h1=> ?_⟩
 ·rcases aO hq with rfl|⟨h1,_⟩
  ·rw[hl];exact h.lv _ hb
  ·exact h.lv q h1
 ·obtain⟨y,hy,h1,h2⟩:=h.rm l hl' c hc;by_cases e:c=b
  ·subst e;obtain rfl:=a6 h.pn hb hy;exact⟨x',ar hb,by rw[hl];exact h1,by rw[hs];exact h2⟩
  ·exact⟨y,by simp only[St.setP,List.mem_map];exact⟨(c,y),hy,by simp[e]⟩,h1,h2⟩
 ·rcases aO hq with rfl|⟨h2,_⟩
  ·have:=h.rr _ hb (by rw[<-hs];exact h1);show b∈S.rows x'.lv;rw[hl];exact this
  ·exact h.rr q h2 h1
theorem Good.erase (h:Good S){i c:Nat}{y:PS}(hi:S.ps[i]? =some (c,y))(hy:y.st≠1){ls:Nat}:Good {S.setPs (S.ps.eraseIdx i) with last:=ls}:=by
 refine⟨?_, ?_,fun q hq=>h.lv q (List.mem_of_mem_eraseIdx hq),h.rn,fun l hl c' hc=> ?_,fun q hq h1=>h.rr q (List.mem_of_mem_eraseIdx hq) h1⟩
 ·show ((S.ps.eraseIdx i).map (·.1)).Nodup;rw[show (S.ps.eraseIdx i).map (·.1)=(S.ps.map (·.1)).eraseIdx i by simp[List.eraseIdx_eq_take_drop_succ]];exact h.pn.sublist (List.eraseIdx_sublist _ _)
 ·show (S.ps.eraseIdx i).length<=8;have:=List.length_eraseIdx_le S.ps i;have:=h.p8;omega
 ·obtain⟨z,hz,h1,h2⟩:=h.rm l hl c' hc;refine⟨z, ?_,h1,h2⟩;show (c',z)∈S.ps.eraseIdx i;obtain⟨j,hj⟩:=List.getElem?_of_mem hz;have hji:j≠i:=fun e=>by subst e;rw[hj] at hi;simp at hi;exact hy (by rw[<-hi.2];exact h2)
  rw[List.mem_eraseIdx_iff_getElem?];exact⟨j,hji,hj⟩
end
def St.take (S:St)(b:Nat)(x:PS)(i:Nat):St:=match S.ps[i]? with
 |some q=>({S.setPs (S.ps.eraseIdx i) with last:=S.last}:St).setP b (told x q.2)
 |none=>S
def St.parent1 (S:St)(b:Nat):St:=match S.get b with
 |some x=>if x.st=2 then(match S.childAt x with
  |some i=>match S.ps[i]? with
   |some q=>(S.take b x i).wake1 b (told x q.2)
   |none=>S
  |none=>S) else S
 |none=>S
def St.parents (S:St):List Nat->St
 |[]=>S
 |b::bs=>(S.parent1 b).parents bs
theorem dE (S:St)(l m:List Nat):S.parents (l++m)=(S.parents l).parents m:=by
 induction l generalizing S with
 |nil=>rfl
 |cons b l ih=>simp only[List.cons_append,St.parents];exact ih _
theorem Rep.fresh {K:Nat}{A:Lay}{S:St}{F L L':Frag}(h:Rep K A S F L)(e:Ext L L'){b:Nat}{o:Obj}(hn: ∀t∈L,t.1≠b) (hm:(b,true,o)∈L'):Rep K A S ((b,true,o)::F) L':=
 {h.ext e with
  fr:=fun t ht=>by
   rcases List.mem_cons.1 ht with rfl|ht
   ·exact hm
   ·exact e.s _ (h.fr t ht)
  fd:=fun t ht=>by
   rcases List.mem_cons.1 ht with rfl|ht
   ·exact⟨fun e=>hn _ h.k e.symm,fun q hq e=>hn _ (h.p q hq) e.symm,fun i e=>let ⟨_,hx⟩:=h.al i _ e;hn _ hx rfl,fun i e=>let ⟨_,hx⟩:=h.yl i _ e;hn _ hx rfl,fun e=>hn _ h.w e.symm⟩
   ·exact h.fd t ht}
end Go.Proofs.YtejkelcaljmnoaaGreatDoor
