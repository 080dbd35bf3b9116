/-
  Part 11 of the proof.
  No condition but those that each statement names.
-/
import Derived.Test.YtejkelcaljmnoaaGreatDoorHy10
import Derived.Test.YtejkelcaljmnoaaGreatDoorHy07
import Derived.Test.YtejkelcaljmnoaaGreatDoorHy05
import Derived.Test.YtejkelcaljmnoaaGreatDoorHy09
import Derived.Test.YtejkelcaljmnoaaGreatDoorHy06
set_option maxRecDepth 100000
set_option maxHeartbeats 4000000
set_option linter.unusedVariables false
set_option linter.unusedSimpArgs false
set_option linter.unusedSectionVars false
namespace Go.Proofs.YtejkelcaljmnoaaGreatDoor
open Go.Conc Go.Hx Go.Lo
theorem uw (vs:List Value)(cs:Array Value)(o x:Nat)(hs:o+vs.length<=cs.size):(puts cs o vs)[x]? =if o<=x/\x<o+vs.length then vs[x-o]? else cs[x]? :=by
 obtain⟨l⟩:=cs;have hs':o+vs.length<=l.length:=by simpa using hs
 rw[cL _ _ _ hs'];simp only[List.getElem?_toArray];by_cases h1:x<o
 ·rw[if_neg (by omega),List.append_assoc,List.getElem?_append_left (by simp;omega),List.getElem?_take_of_lt h1]
 ·by_cases h2:x<o+vs.length
  ·rw[if_pos ⟨by omega,h2⟩,List.append_assoc,List.getElem?_append_right (by simp;omega),List.getElem?_append_left (by simp;omega)];congr 1;simp;omega
  ·rw[if_neg (by omega),List.getElem?_append_right (by simp;omega),List.getElem?_drop];congr 1;simp;omega
def patEl (m:Nat):List Value:=[.int .i64 (-(m:Int)), .int .i64 0, .int .i64 0, .int .i64 0]
def patPl (m:Nat):List Value:=[.int .i64 (-(m:Int)), .int .i64 0, .int .i64 0, .int .i64 0, .int .i64 0, .int .i64 0, .int .i64 0, .int .u16 0, .int .u16 0, .int .u16 0, .int .u16 0, .int .u16 0, .int .u16 0, .int .u16 0, .int .u16 0]
theorem nW (m i:Nat){j:Nat}(h:j<4):(patEl m)[j]? =some (patE m i j):=by
 rcases j with _|_|_|_|j
 ·rfl
 ·rfl
 ·rfl
 ·rfl
 ·omega
theorem nX (m i:Nat){j:Nat}(h:j<15):(patPl m)[j]? =some (patP m i j):=by
 rcases j with _|_|_|_|_|_|_|_|_|_|_|_|_|_|_|j
 all_goals first|rfl|omega
theorem Br (m:Nat):evR Tryz.prog (Instr.build 51 [(0, .int .i64 (-(m:Int)))].toArray) []=some (.agg (patEl m).toArray,[]):=by kernel_rfl
theorem Bs (m:Nat):evR Tryz.prog (Instr.build 49 [(0, .int .i64 (-(m:Int)))].toArray) []=some (.agg (patPl m).toArray,[]):=by kernel_rfl
section
variable {h:HS}{e:TypeId}{sz i b:Nat}{p:Nat->Nat->Value}{L L':Frag}{cs:Array Value}{vs:List Value}
theorem HS.put (hb:h.b=some b)(hm:(b,true,Obj.cells cs e)∈L)(hc:cs.size/sz=h.cap)(hi:i<h.cap)(ho: ∀i',i'<i-> ∀j,j<sz->cs[i'*sz+j]? =some (p i' j)) (hv:vs.length=sz) (hp: ∀j,j<sz->vs[j]? =some (p i j)) (hU:Upd L b (.cells (puts cs (i*sz) vs) e) L'):({h with n:=i+1}:HS).ok e sz p L':=by
 have hle:i*sz+sz<=cs.size:=HS.fit hc hi;unfold HS.ok;simp only[hb];refine⟨_,hU.self,by rw[Go.Lo.tk];exact hc,hi,fun i' hi' j hj=> ?_⟩;rw[uw _ _ _ _ (by omega)];by_cases e1:i'=i
 ·subst e1;rw[if_pos ⟨by omega,by omega⟩,Nat.add_sub_cancel_left];exact hp j hj
 ·have h1:i'*sz+sz<=i*sz:=by rw[<-Nat.succ_mul];exact Nat.mul_le_mul_right _ (by omega)
  rw[if_neg (by omega)];exact ho i' (by omega) j hj
theorem HS.any.chT {D:Nat->Prop}(hh:h.any e sz L)(c:Ch D L L')(hn:NoT L D e):h.any e sz L':=by
 unfold HS.any at*
 split
 ·rename_i hb;rw[hb] at hh;exact hh
 ·rename_i b hb;rw[hb] at hh;obtain⟨cs,h1,h2⟩:=hh;exact⟨cs,c.s _ h1 (hn _ _ h1),h2⟩
theorem HS.ok.chT {D:Nat->Prop}(hh:h.ok e sz p L)(c:Ch D L L')(hn:NoT L D e):h.ok e sz p L':=by
 unfold HS.ok at*
 split
 ·rename_i hb;rw[hb] at hh;exact hh
 ·rename_i b hb;rw[hb] at hh;obtain⟨cs,h1,h2⟩:=hh;exact⟨cs,c.s _ h1 (hn _ _ h1),h2⟩
theorem xg (cs:Array Value)(i:Nat)(v:Value):cs.setIfInBounds i v=puts cs i [v]:=rfl
end
theorem zd (K:Nat): ∃n,∀{σ}{F:Fam σ}{Δ:DM F}{main s}(L:Frag)(H:Nat)(h:Hd),Fun L->(H,true,Obj.cells (hcs h) 143)∈L->h.bs.any 5 1 L->h.es.any 51 4 L->h.ps.any 49 15 L->h.bs.n<=K->h.es.n<=K->h.ps.n<=K->K<4611686018427387904->h.m<4611686018427387904->
 CallsL Δ Tryz.prog main 88 [ptr H].toArray n s L (fun s' v L'=>s=s'/\v= .tuple #[]/\Ch (fun c=>h.bs.b=some c\/h.es.b=some c\/h.ps.b=some c) L L'/\h.bs.ok 5 1 (patB h.m) L'/\h.es.ok 51 4 (patE h.m) L'/\h.ps.ok 49 15 (patP h.m) L'):=by
 obtain⟨n1,g1⟩:=rI;apply Exists.intro;intro σ F Δ main s L H h hF hH hbs hes hps hkb hke hkp hK hm;have nm:IntKind.i64.wrap (0-(h.m:Int))= -(h.m:Int):=by simp[IntKind.wrap_i64];omega
 obtain⟨base,cap,hv,hvb⟩:=HS.view hbs;obtain⟨base2,cap2,hv2,hvb2⟩:=HS.view hes;obtain⟨base3,cap3,hv3,hvb3⟩:=HS.view hps;have at0: ∀{L':Frag},(H,true,Obj.cells (hcs h) 143)∈L'->At L' H 0 (.slice base h.bs.n cap)/\At L' H 1 (.slice base2 h.es.n cap2)/\At L' H 2 (.slice base3 h.ps.n cap3)/\At L' H 3 (.int .i64 (h.m:Nat)):=fun hm=>⟨⟨true,_,_,_,hm,by rw[<-hv];rfl⟩,⟨true,_,_,_,hm,by rw[<-hv2];rfl⟩,⟨true,_,_,_,hm,by rw[<-hv3];rfl⟩,⟨true,_,_,_,hm,rfl⟩⟩;co_applyP aF 68 Tryz.func88 Tryz.ntmps88;co_applyP au;co_applyP aa;co_applyP oan rfl;co_applyP aC;co_applyP bg (fun k s' ε' L'=>s=s'/\ ∃i:Nat,k+i=K/\i<=h.bs.n/\Ch (fun c=>h.bs.b=some c) L L'/\({h.bs with n:=i}:HS).ok 5 1 (patB h.m) L'/\kn ε' [(2, .int .i64 (i:Nat)),(0,ptr H)]) K
 ·refine⟨rfl,0,rfl,Nat.zero_le _,⟨hF,fun t ht _=>ht⟩, ?_,rfl⟩;unfold HS.any at hbs;unfold HS.ok
  split
  ·rfl
  ·rename_i b hb;have hb':h.bs.b=some b:=hb;rw[hb'] at hbs;obtain⟨cs,h1,h2,h3⟩:=hbs;exact⟨cs,h1,h2,Nat.zero_le _,fun i hi=>absurd hi (Nat.not_lt_zero _)⟩
 rintro k s' ε' L' ⟨rfl,i,hk,hin,hC,hok,he⟩;co_applyP aN he;have hH':=hC.keep (hbs.no hF (by decide)) hH;obtain⟨a0,a1,a2,a3⟩:=at0 hH';co_applyP au;co_applyP aa;co_applyP om rfl rfl rfl ag;co_applyP oy rfl av;co_applyP oy rfl (ak (hf:=eG));co_applyP oy rfl (aA (ht:=l0));co_applyP oy rfl (bt (hu:=U44));co_applyP oy rfl bi;co_applyP ai;co_applyP aT rfl;intro hc
 ·have hi:i<h.bs.n:=by simp at hc;omega
  obtain⟨b,hb,hbase⟩:=hvb (by omega);subst hbase;unfold HS.ok at hok;simp only[hb] at hok;obtain⟨cs,h1,h2,h3,h4⟩:=hok;have hcp:h.bs.n<=h.bs.cap:=by
   unfold HS.any at hbs;rw[hb] at hbs;obtain⟨_,_,_,h⟩:=hbs;exact h
  have e1:IntKind.i64.wrap ((i:Int)+1)=((i+1:Nat):Int):=by simp[IntKind.wrap_i64];omega
  replace hH':(H,true,Obj.cells #[.slice (some ⟨b,0,none⟩) h.bs.n cap,h.es.v,h.ps.v, .int .i64 (h.m:Nat)] 143)∈L':=by rw[<-hv];exact hH'
  co_applyP aB;co_applyP au;co_applyP aC;co_applyP br [(H,true,Obj.cells #[.slice (some ⟨b,0,none⟩) h.bs.n cap,h.es.v,h.ps.v, .int .i64 (h.m:Nat)] 143)] 10 a5;co_applyP tr 0 rfl ag (aj (by simpa using hH'));co_applyP tr 1 rfl av (aj (by simpa using hH'));co_applyP tr 2 rfl (ak (hf:=eG)) (aj (by simpa using hH'));co_applyP tr 3 rfl (aA (ht:=l0)) (aj (by simpa using hH'));co_applyP tr 4 rfl ag (aj (by simpa using hH'));co_applyP tr 5 rfl ag (aj (by simpa using hH'));co_applyP tr 6 rfl av (aj (by simpa using hH'));co_applyP tr 7 rfl (ak (hf:=cR)) (aj (by simpa using hH'));co_applyP t0 8 rfl (aA (ht:=aR)) (aj (by simpa using hH'));co_applyP tr 9 rfl ag (aj (by simpa using hH'));co_applyP tc 10 rfl rfl rfl (g1 L' h.m i hm);rintro _ _ _ ⟨rfl,rfl,rfl⟩;refine⟨aD (by simpa using hH'), ?_⟩;co_applyP to 11 rfl ((bw U44 dX)) (aD (by simpa using hH'));co_applyP bd;intro hnd;have hne:H≠b:=fun e=>absurd (dk hC.fn hH' (e▸h1)) (by decide);co_applyP te (i:=12) rfl (dv (hnd:=hnd) (hm:=h1) (hi:=by have:=HS.fit h2 (show i<h.bs.cap by omega);omega) (hs:=dX));rintro _ _ ⟨rfl,hU⟩;refine⟨aD (by simpa using hU.ne _ hH' hne), ?_⟩;co_applyP td (by kernel_rfl);co_applyP aq;co_applyP om rfl rfl rfl aS;co_applyP oan rfl;change∃k',k'<_/\_;rw[e1];refine⟨k-1,by omega,rfl,i+1,by omega,by omega,⟨hU.fn,fun t ht hn=>hU.ne t (hC.s t ht hn) fun e=>hn (e▸hb)⟩, ?_,rfl⟩;refine HS.put (h:=h.bs) (i:=i) hb h1 h2 (by omega) h4 (vs:=[.int .u8 (sgn h.m i)]) rfl (fun j hj=> ?_) (by rw[Nat.mul_one,<-xg];exact hU);obtain rfl:j=0:=by omega
  rfl
 intro hc;have hi:i=h.bs.n:=by simp at hc;omega
 subst hi;replace hok:h.bs.ok 5 1 (patB h.m) L':=hok;replace hC:Ch (fun c=>h.bs.b=some c) L L':=hC;have hes1:=hes.chT hC (hbs.no hF (by decide));have hps1:=hps.chT hC (hbs.no hF (by decide));have hF1:=hC.fn;have hH1:=hH';have hb1:=hok.any;clear a0 a1 a2 a3 hH';have hok1:=hok;clear hok;co_applyP bf;co_applyP au;co_applyP aa;co_applyP oan rfl;co_applyP aC;co_applyP bg (fun k s' ε' L''=>s=s'/\ ∃i:Nat,k+i=K/\i<=h.es.n/\Ch (fun c=>h.es.b=some c) L' L''/\({h.es with n:=i}:HS).ok 51 4 (patE h.m) L''/\kn ε' [(3, .int .i64 (i:Nat)),(0,ptr H)]) K
 ·refine⟨rfl,0,rfl,Nat.zero_le _,⟨hF1,fun t ht _=>ht⟩, ?_,rfl⟩;have hx:=hes1;unfold HS.any at hx;unfold HS.ok
  split
  ·rfl
  ·rename_i b hb;have hb':h.es.b=some b:=hb;rw[hb'] at hx;obtain⟨cs,h1,h2,h3⟩:=hx;exact⟨cs,h1,h2,Nat.zero_le _,fun i hi=>absurd hi (Nat.not_lt_zero _)⟩
 rintro k2 s' ε' L2 ⟨rfl,i,hk2,hin2,hC2,hok,he⟩;co_applyP aN he;have hH':=hC2.keep (hes1.no hF1 (by decide)) hH1;obtain⟨a0,a1,a2,a3⟩:=at0 hH';co_applyP au;co_applyP aa;co_applyP om rfl rfl rfl ag;co_applyP oy rfl av;co_applyP oy rfl (ak (hf:=ff));co_applyP oy rfl (aA (ht:=kR));co_applyP oy rfl (bt (hu:=U38));co_applyP oy rfl bi;co_applyP ai;co_applyP aT rfl;intro hc
 ·have hi:i<h.es.n:=by simp at hc;omega
  obtain⟨b,hb,hbase⟩:=hvb2 (by omega);subst hbase;unfold HS.ok at hok;simp only[hb] at hok;obtain⟨cs,h1,h2,h3,h4⟩:=hok;have hcp:h.es.n<=h.es.cap:=by
   unfold HS.any at hes;rw[hb] at hes;obtain⟨_,_,_,h⟩:=hes;exact h
  have e1:IntKind.i64.wrap ((i:Int)+1)=((i+1:Nat):Int):=by simp[IntKind.wrap_i64];omega
  co_applyP aB;co_applyP au;co_applyP aC;co_applyP br [] 12 (nf:=0) a5;co_applyP tr 0 rfl ag pN;co_applyP tr 1 rfl av pN;co_applyP tr 2 rfl (ak (hf:=ff)) pN;co_applyP t0 3 rfl (aA (ht:=kR)) pN;co_applyP tr 4 rfl ag pN;co_applyP tr 5 rfl ag pN;co_applyP tr 6 rfl av pN;co_applyP tr 7 rfl (ak (hf:=cR)) pN;co_applyP t0 8 rfl (aA (ht:=aR)) pN;co_applyP tr 9 rfl kN pN;rw[nm];co_applyP tr 10 rfl (bj (Br h.m)) pN;co_applyP tr 11 rfl ((bw U38 fF)) pN;co_applyP bd;intro hnd;co_applyP te (i:=12) rfl (j3 (vs:=patEl h.m) (hs:=fF) (hnd:=hnd) (hm:=h1) (hi:=HS.fit h2 (show i<h.es.cap by omega)));rintro _ _ ⟨rfl,hU⟩;refine⟨aD (by simp), ?_⟩;co_applyP td (by kernel_rfl);co_applyP aq;co_applyP om rfl rfl rfl aS;co_applyP oan rfl;change∃k',k'<_/\_;rw[e1];exact⟨k2-1,by omega,rfl,i+1,by omega,by omega,⟨hU.fn,fun t ht hn=>hU.ne t (hC2.s t ht hn) fun e=>hn (e▸hb)⟩,HS.put (h:=h.es) (i:=i) hb h1 h2 (by omega) h4 (vs:=patEl h.m) rfl (fun j hj=>nW _ _ hj) hU,rfl⟩
 intro hc;have hi:i=h.es.n:=by simp at hc;omega
 subst hi;replace hok:h.es.ok 51 4 (patE h.m) L2:=hok;have hok2:=hok;clear hok a0 a1 a2 a3;have hps2:=hps1.chT hC2 (hes1.no hF1 (by decide));have hok1b:=hok1.chT hC2 (hes1.no hF1 (by decide));have hF2:=hC2.fn;have hH2:=hH';clear hH';have he2:=hok2.any;co_applyP bf;co_applyP aa;co_applyP oan rfl;co_applyP aC;co_applyP bg (fun k s' ε' L''=>s=s'/\ ∃i:Nat,k+i=K/\i<=h.ps.n/\Ch (fun c=>h.ps.b=some c) L2 L''/\({h.ps with n:=i}:HS).ok 49 15 (patP h.m) L''/\kn ε' [(4, .int .i64 (i:Nat)),(0,ptr H)]) K
 ·refine⟨rfl,0,rfl,Nat.zero_le _,⟨hF2,fun t ht _=>ht⟩, ?_,rfl⟩;have hx:=hps2;unfold HS.any at hx;unfold HS.ok
  split
  ·rfl
  ·rename_i b hb;have hb':h.ps.b=some b:=hb;rw[hb'] at hx;obtain⟨cs,h1,h2,h3⟩:=hx;exact⟨cs,h1,h2,Nat.zero_le _,fun i hi=>absurd hi (Nat.not_lt_zero _)⟩
 rintro k3 s' ε' L3 ⟨rfl,i,hk3,hin3,hC3,hok,he⟩;co_applyP aN he;have hH':=hC3.keep (hps2.no hF2 (by decide)) hH2;obtain⟨a0,a1,a2,a3⟩:=at0 hH';co_applyP au;co_applyP aa;co_applyP om rfl rfl rfl ag;co_applyP oy rfl av;co_applyP oy rfl (ak (hf:=fg));co_applyP oy rfl (aA (ht:=o8));co_applyP oy rfl (bt (hu:=U42));co_applyP oy rfl bi;co_applyP ai;co_applyP aT rfl;intro hc
 ·have hi:i<h.ps.n:=by simp at hc;omega
  obtain⟨b,hb,hbase⟩:=hvb3 (by omega);subst hbase;unfold HS.ok at hok;simp only[hb] at hok;obtain⟨cs,h1,h2,h3,h4⟩:=hok;have hcp:h.ps.n<=h.ps.cap:=by
   unfold HS.any at hps;rw[hb] at hps;obtain⟨_,_,_,h⟩:=hps;exact h
  have e1:IntKind.i64.wrap ((i:Int)+1)=((i+1:Nat):Int):=by simp[IntKind.wrap_i64];omega
  co_applyP aB;co_applyP au;co_applyP aC;co_applyP br [] 12 (nf:=0) a5;co_applyP tr 0 rfl ag pN;co_applyP tr 1 rfl av pN;co_applyP tr 2 rfl (ak (hf:=fg)) pN;co_applyP t0 3 rfl (aA (ht:=o8)) pN;co_applyP tr 4 rfl ag pN;co_applyP tr 5 rfl ag pN;co_applyP tr 6 rfl av pN;co_applyP tr 7 rfl (ak (hf:=cR)) pN;co_applyP t0 8 rfl (aA (ht:=aR)) pN;co_applyP tr 9 rfl kN pN;rw[nm];co_applyP tr 10 rfl (bj (Bs h.m)) pN;co_applyP tr 11 rfl ((bw U42 fc)) pN;co_applyP bd;intro hnd;co_applyP te (i:=12) rfl (j3 (vs:=patPl h.m) (hs:=fc) (hnd:=hnd) (hm:=h1) (hi:=HS.fit h2 (show i<h.ps.cap by omega)));rintro _ _ ⟨rfl,hU⟩;refine⟨aD (by simp), ?_⟩;co_applyP td (by kernel_rfl);co_applyP aq;co_applyP om rfl rfl rfl aS;co_applyP oan rfl;change∃k',k'<_/\_;rw[e1];exact⟨k3-1,by omega,rfl,i+1,by omega,by omega,⟨hU.fn,fun t ht hn=>hU.ne t (hC3.s t ht hn) fun e=>hn (e▸hb)⟩,HS.put (h:=h.ps) (i:=i) hb h1 h2 (by omega) h4 (vs:=patPl h.m) rfl (fun j hj=>nX _ _ hj) hU,rfl⟩
 intro hc;have hi:i=h.ps.n:=by simp at hc;omega
 subst hi;replace hok:h.ps.ok 49 15 (patP h.m) L3:=hok;co_applyP bf;change∃v,resE .. =some v/\_;refine⟨_,rfl,rfl,rfl,⟨hC3.fn,fun t ht hn=>hC3.s t (hC2.s t (hC.s t ht fun e=>hn (.inl e)) fun e=>hn (.inr (.inl e))) fun e=>hn (.inr (.inr e))⟩, ?_, ?_,hok⟩
 ·exact hok1b.chT hC3 (hps2.no hF2 (by decide))
 ·exact hok2.chT hC3 (hps2.no hF2 (by decide))
section
variable {P:Program}{N:Nat}{ε:Env}{L:Frag}{d:Option Tmp}{ty:TypeId}{ps:String}{af:Array Edge}{g:Option (Nat×Bool)}{x y:Operand}{t u:TypeId}
theorem sG {xs:Array Value}(H:Same P 10000 t (.agg xs))(hg: ∀x y,evR P (eqGuard .eql t x y (.agg xs) (.agg xs)) []=some ((),[])) (hx:ev ε x=some (.agg xs):=by rfl) (hy:ev ε y=some (.agg xs):=by rfl):EY P N ε L ⟨d, .binOp .eql t x y u,ty,ps,af,g⟩ (.bool true):=fun a ha=>by
 refine cW (fun _=>rfl) fun K hQ=> ?_;rw[ha.ev hx,ha.ev hy,ay];refine bm (hg _ _) ?_;show wpQ P (do pure (.bool (<-Op.equal t (.agg xs) (.agg xs)))) K L;rw[ay,dm];exact H hQ
end
theorem Da (m:Nat):Same Tryz.prog 10000 49 (.agg (patPl m).toArray):=by
 refine f9 (d:=9999) Tryz.underlying49 (by kernel_rfl) ?_;have k: ∀a:Int,Same Tryz.prog 9999 3 (.int .i64 a):=fun a=>iZ (d:=9998) U3;refine List.forall_mem_cons.2 ⟨⟨.int .i64 (-(m:Int)),by kernel_rfl,k _⟩,List.forall_mem_cons.2 ⟨⟨.int .i64 0,by kernel_rfl,k _⟩,List.forall_mem_cons.2 ⟨⟨.int .i64 0,by kernel_rfl,k _⟩,List.forall_mem_cons.2 ⟨⟨.int .i64 0,by kernel_rfl,k _⟩, ?_⟩⟩⟩⟩;refine List.forall_mem_cons.2 ⟨⟨.int .i64 0,by kernel_rfl,k _⟩,List.forall_mem_cons.2 ⟨⟨.int .i64 0,by kernel_rfl,k _⟩,List.forall_mem_cons.2 ⟨⟨.int .i64 0,by kernel_rfl,k _⟩,List.forall_mem_cons.2 ⟨⟨_,by kernel_rfl,wM fun _=>0⟩, ?_⟩⟩⟩⟩;intro f hf;cases hf
theorem ze (m:Nat):patEl m=Wd.c (-(m:Int),0,0,0):=rfl
theorem Db (m:Nat):Same Tryz.prog 10000 51 (.agg (patEl m).toArray):=by
 rw[ze];exact wL _
theorem DY (m:Nat)(x y:Operand):evR Tryz.prog (eqGuard .eql 51 x y (.agg (patEl m).toArray) (.agg (patEl m).toArray)) []=some ((),[]):=by kernel_rfl
theorem DZ (m:Nat)(x y:Operand):evR Tryz.prog (eqGuard .eql 49 x y (.agg (patPl m).toArray) (.agg (patPl m).toArray)) []=some ((),[]):=by kernel_rfl
theorem nY {cs:Array Value}{o sz:Nat}{l:List Value}(hl:l.length=sz)(h: ∀j,j<sz->cs[o+j]? =l[j]?) (hs:o+sz<=cs.size):cs.extract o (o+sz)=l.toArray:=by
 apply Array.ext';apply List.ext_getElem?;intro j;by_cases hj:j<sz
 ·have:=h j hj;rw[Array.toList_extract,List.extract_eq_take_drop,List.getElem?_take_of_lt (by omega),List.getElem?_drop,Array.getElem?_toList,this]
 ·rw[List.getElem?_eq_none (by simp;omega),List.getElem?_eq_none (by simp;omega)]
theorem xh (K:Nat): ∃n,∀{σ}{F:Fam σ}{Δ:DM F}{main s}(L:Frag)(H:Nat)(h:Hd),(H,true,Obj.cells (hcs h) 143)∈L->h.bs.ok 5 1 (patB h.m) L->h.es.ok 51 4 (patE h.m) L->h.ps.ok 49 15 (patP h.m) L->h.bs.n<=K->h.es.n<=K->h.ps.n<=K->K<4611686018427387904->h.m<4611686018427387904->
 CallsL Δ Tryz.prog main 44 [ptr H].toArray n s L (fun s' v L'=>s=s'/\v= .bool true/\L=L'):=by
 obtain⟨n1,g1⟩:=rI;apply Exists.intro;intro σ F Δ main s L H h hH hbs hes hps hkb hke hkp hK hm;have nm:IntKind.i64.wrap (0-(h.m:Int))= -(h.m:Int):=by simp[IntKind.wrap_i64];omega
 obtain⟨base,cap,hv,hvb⟩:=HS.view hbs.any;obtain⟨base2,cap2,hv2,hvb2⟩:=HS.view hes.any;obtain⟨base3,cap3,hv3,hvb3⟩:=HS.view hps.any;have a0:At L H 0 (.slice base h.bs.n cap):=⟨true,_,_,_,hH,by rw[<-hv];rfl⟩;have a1:At L H 1 (.slice base2 h.es.n cap2):=⟨true,_,_,_,hH,by rw[<-hv2];rfl⟩;have a2:At L H 2 (.slice base3 h.ps.n cap3):=⟨true,_,_,_,hH,by rw[<-hv3];rfl⟩;have a3:At L H 3 (.int .i64 (h.m:Nat)):=⟨true,_,_,_,hH,rfl⟩;co_applyP aF 86 Tryz.func44 Tryz.ntmps44;co_applyP aa;co_applyP oan rfl;co_applyP aa;co_applyP oan rfl;co_applyP au;co_applyP aa;co_applyP oan rfl;co_applyP aC;co_applyP bg (fun k s' ε' L'=>s=s'/\L=L'/\ ∃i:Nat,k+i=K/\i<=h.bs.n/\kn ε' [(4, .int .i64 (i:Nat)),(3, .bool true),(0,ptr H)]) K
 ·exact⟨rfl,rfl,0,rfl,Nat.zero_le _,rfl⟩
 rintro k s' ε' L' ⟨rfl,rfl,i,hk,hin,he⟩;co_applyP aN he;co_applyP au;co_applyP aa;co_applyP om rfl rfl rfl ag;co_applyP oy rfl av;co_applyP oy rfl (ak (hf:=eG));co_applyP oy rfl (aA (ht:=l0));co_applyP oy rfl (bt (hu:=U44));co_applyP oy rfl bi;co_applyP ai;co_applyP aT rfl;intro hc
 ·have hi:i<h.bs.n:=by simp at hc;omega
  obtain⟨b,hb,hbase⟩:=hvb (by omega);subst hbase;unfold HS.ok at hbs;rw[hb] at hbs;obtain⟨cs,h1,h2,h3,h4⟩:=hbs;have hci:=h4 i hi 0 (by omega);rw[Nat.mul_one,Nat.add_zero] at hci;have hci':cs[i]? =some (.int .u8 (sgn h.m i)):=hci;have e1:IntKind.i64.wrap ((i:Int)+1)=((i+1:Nat):Int):=by simp[IntKind.wrap_i64];omega
  have hH':(H,true,Obj.cells #[.slice (some ⟨b,0,none⟩) h.bs.n cap,h.es.v,h.ps.v, .int .i64 (h.m:Nat)] 143)∈L:=by rw[<-hv];exact hH
  have hp: ∀t∈[(H,true,Obj.cells #[.slice (some ⟨b,0,none⟩) h.bs.n cap,h.es.v,h.ps.v, .int .i64 (h.m:Nat)] 143),(b,true,Obj.cells cs 5)],t∈L:=fun t ht=>by
   rcases List.mem_cons.1 ht with rfl|ht
   ·exact hH'
   ·simp at ht;rw[ht];exact h1
  co_applyP aB;co_applyP au;co_applyP aC;co_applyP br [(H,true,Obj.cells #[.slice (some ⟨b,0,none⟩) h.bs.n cap,h.es.v,h.ps.v, .int .i64 (h.m:Nat)] 143),(b,true,Obj.cells cs 5)] 14 a5;co_applyP tr 0 rfl ag (aj hp);co_applyP tr 1 rfl ag (aj hp);co_applyP tr 2 rfl (ag) (aj hp);co_applyP tr 3 rfl (av) (aj hp);co_applyP tr 4 rfl ((ak (hf:=eG))) (aj hp);co_applyP tr 5 rfl ((aA (ht:=l0))) (aj hp);co_applyP tr 6 rfl (ag) (aj hp);co_applyP tr 7 rfl ((bw U44 dX)) (aj hp);co_applyP tr 8 rfl (aA (ht:=eW) (hv:=⟨true,cs,5,(0,0),by simp,by simpa using hci'⟩)) (aj hp);co_applyP tr 9 rfl (ag) (aj hp);co_applyP tr 10 rfl (av) (aj hp);co_applyP tr 11 rfl ((ak (hf:=cR))) (aj hp);co_applyP tr 12 rfl ((aA (ht:=aR))) (aj hp);co_applyP tr 13 rfl (ag) (aj hp);co_applyP tc 14 rfl rfl rfl (g1 L h.m i hm);rintro _ _ _ ⟨rfl,rfl,rfl⟩;refine⟨aD hp, ?_⟩;co_applyP to 15 rfl (aI) (aD hp);co_applyP to 16 rfl (aH) (aD hp);co_applyP to 17 rfl (bR) (aD hp);co_applyP td (by kernel_rfl);co_applyP aq;co_applyP om rfl rfl rfl aS;co_applyP oan rfl;change∃k',k'<_/\_;rw[e1,show (sgn h.m i==sgn h.m i)=true from beq_self_eq_true _];exact⟨k-1,by omega,rfl,rfl,i+1,by omega,by omega,rfl⟩
 intro hc;co_applyP bf;co_applyP au;co_applyP aa;co_applyP oan rfl;co_applyP aC;co_applyP bg (fun k s' ε' L'=>s=s'/\L=L'/\ ∃i:Nat,k+i=K/\i<=h.es.n/\kn ε' [(5, .int .i64 (i:Nat)),(3, .bool true),(0,ptr H)]) K
 ·exact⟨rfl,rfl,0,rfl,Nat.zero_le _,rfl⟩
 rintro k2 s' ε' L' ⟨rfl,rfl,i2,hk2,hin2,he⟩;co_applyP aN he;co_applyP au;co_applyP aa;co_applyP om rfl rfl rfl ag;co_applyP oy rfl av;co_applyP oy rfl (ak (hf:=ff));co_applyP oy rfl (aA (ht:=kR));co_applyP oy rfl (bt (hu:=U38));co_applyP oy rfl bi;co_applyP ai;co_applyP aT rfl;intro hc2
 ·have hi:i2<h.es.n:=by simp at hc2;omega
  obtain⟨b,hb,hbase⟩:=hvb2 (by omega);subst hbase;unfold HS.ok at hes;rw[hb] at hes;obtain⟨cs,h1,h2,h3,h4⟩:=hes;have e1:IntKind.i64.wrap ((i2:Int)+1)=((i2+1:Nat):Int):=by simp[IntKind.wrap_i64];omega
  have hce:=nY (cs:=cs) (o:=i2*4) (sz:=4) (l:=patEl h.m) rfl (fun j hj=>by rw[h4 i2 hi j hj,nW _ i2 hj]) (HS.fit h2 (by omega));co_applyP aB;co_applyP au;co_applyP aC;co_applyP bA a5;co_applyP tr 0 rfl ag pI;co_applyP tr 1 rfl ag pI;co_applyP tr 2 rfl (ag) pI;co_applyP tr 3 rfl (av) pI;co_applyP tr 4 rfl ((ak (hf:=ff))) pI;co_applyP tr 5 rfl ((aA (ht:=kR))) pI;co_applyP tr 6 rfl (ag) pI;co_applyP tr 7 rfl ((bw U38 fF)) pI;co_applyP tr 8 rfl (bF (i:=i2*4) (ht:=vl) (hs:=fF) (hm:=h1) (hi:=HS.fit h2 (by omega))) pI;rw[hce];co_applyP tr 9 rfl (ag) pI;co_applyP tr 10 rfl (av) pI;co_applyP tr 11 rfl ((ak (hf:=cR))) pI;co_applyP tr 12 rfl ((aA (ht:=aR))) pI;co_applyP tr 13 rfl (kN) pI;rw[nm];co_applyP tr 14 rfl (bj (Br h.m)) pI;co_applyP tr 15 rfl (sG (Db h.m) (DY h.m)) pI;co_applyP tr 16 rfl aH pI;co_applyP tr 17 rfl bR pI;co_applyP td (by kernel_rfl);co_applyP aq;co_applyP om rfl rfl rfl aS;co_applyP oan rfl;change∃k',k'<_/\_;rw[e1];exact⟨k2-1,by omega,rfl,rfl,i2+1,by omega,by omega,rfl⟩
 intro hc2;co_applyP bf;co_applyP au;co_applyP aa;co_applyP oan rfl;co_applyP aC;co_applyP bg (fun k s' ε' L'=>s=s'/\L=L'/\ ∃i:Nat,k+i=K/\i<=h.ps.n/\kn ε' [(6, .int .i64 (i:Nat)),(3, .bool true),(0,ptr H)]) K
 ·exact⟨rfl,rfl,0,rfl,Nat.zero_le _,rfl⟩
 rintro k3 s' ε' L' ⟨rfl,rfl,i3,hk3,hin3,he⟩;co_applyP aN he;co_applyP au;co_applyP aa;co_applyP om rfl rfl rfl ag;co_applyP oy rfl av;co_applyP oy rfl (ak (hf:=fg));co_applyP oy rfl (aA (ht:=o8));co_applyP oy rfl (bt (hu:=U42));co_applyP oy rfl bi;co_applyP ai;co_applyP aT rfl;intro hc3
 ·have hi:i3<h.ps.n:=by simp at hc3;omega
  obtain⟨b,hb,hbase⟩:=hvb3 (by omega);subst hbase;unfold HS.ok at hps;rw[hb] at hps;obtain⟨cs,h1,h2,h3,h4⟩:=hps;have e1:IntKind.i64.wrap ((i3:Int)+1)=((i3+1:Nat):Int):=by simp[IntKind.wrap_i64];omega
  have hce:=nY (cs:=cs) (o:=i3*15) (sz:=15) (l:=patPl h.m) rfl (fun j hj=>by rw[h4 i3 hi j hj,nX _ i3 hj]) (HS.fit h2 (by omega));co_applyP aB;co_applyP au;co_applyP aC;co_applyP bA a5;co_applyP tr 0 rfl ag pI;co_applyP tr 1 rfl ag pI;co_applyP tr 2 rfl (ag) pI;co_applyP tr 3 rfl (av) pI;co_applyP tr 4 rfl ((ak (hf:=fg))) pI;co_applyP tr 5 rfl ((aA (ht:=o8))) pI;co_applyP tr 6 rfl (ag) pI;co_applyP tr 7 rfl ((bw U42 fc)) pI;co_applyP tr 8 rfl (bF (i:=i3*15) (ht:=o9) (hs:=fc) (hm:=h1) (hi:=HS.fit h2 (by omega))) pI;rw[hce];co_applyP tr 9 rfl (ag) pI;co_applyP tr 10 rfl (av) pI;co_applyP tr 11 rfl ((ak (hf:=cR))) pI;co_applyP tr 12 rfl ((aA (ht:=aR))) pI;co_applyP tr 13 rfl (kN) pI;rw[nm];co_applyP tr 14 rfl (bj (Bs h.m)) pI;co_applyP tr 15 rfl (sG (Da h.m) (DZ h.m)) pI;co_applyP tr 16 rfl aH pI;co_applyP tr 17 rfl bR pI;co_applyP td (by kernel_rfl);co_applyP aq;co_applyP om rfl rfl rfl aS;co_applyP oan rfl;change∃k',k'<_/\_;rw[e1];exact⟨k3-1,by omega,rfl,rfl,i3+1,by omega,by omega,rfl⟩
 intro hc3;co_applyP bf;co_applyP aa;co_applyP oy rfl ag;co_applyP oan rfl;co_applyP aK;change∃v,resE .. =some v/\_;exact⟨_,rfl,rfl,rfl,rfl⟩
def Bl (L L':Frag):Prop:= ∀t∈L,∃u∈L',u.1=t.1
structure LG (h g:HS)(e:TypeId)(sz:Nat)(p:Nat->Nat->Value)(L L':Frag):Prop where
 ok:g.ok e sz p L'
 n:g.n=h.n+1
 d: ∀b,g.b=some b->h.b=some b\/ ∀t∈L,t.1≠b
 k: ∀h2:HS,h2.b=h.b->h2.n<=h.n->h2.ok e sz p L->h2.ok e sz p L'
theorem Bl.trans {L L1 L2:Frag}(h:Bl L L1)(k:Bl L1 L2):Bl L L2:=fun t ht=>by
 obtain⟨u,hu,e⟩:=h t ht;obtain⟨v,hv,e'⟩:=k u hu;exact⟨v,hv,e'.trans e⟩
theorem Bl.sub {L L':Frag}(h: ∀t∈L,t∈L'):Bl L L':=fun t ht=>⟨t,h t ht,rfl⟩
theorem Bl.upd {L L':Frag}{b:Nat}{o:Obj}(h:Upd L b o L'):Bl L L':=fun t ht=>by
 by_cases e:t.1=b
 ·exact⟨_,h.self,e.symm⟩
 ·exact⟨t,h.ne t ht e,rfl⟩
theorem HS.ok.ofT {h:HS}{e:TypeId}{sz:Nat}{p:Nat->Nat->Value}{L L':Frag}(hh:h.ok e sz p L)(hs: ∀b cs,(b,true,Obj.cells cs e)∈L->(b,true,Obj.cells cs e)∈L'):h.ok e sz p L':=by
 unfold HS.ok at*
 split
 ·rename_i hb;rw[hb] at hh;exact hh
 ·rename_i b hb;rw[hb] at hh;obtain⟨cs,h1,h2⟩:=hh;exact⟨cs,hs b _ h1,h2⟩
theorem LG.lift {h g:HS}{e:TypeId}{sz:Nat}{p:Nat->Nat->Value}{L0 L1 L2 L3:Frag}(q:LG h g e sz p L1 L2)(t1: ∀b cs,(b,true,Obj.cells cs e)∈L0->(b,true,Obj.cells cs e)∈L1) (b1:Bl L0 L1) (t2: ∀b cs,(b,true,Obj.cells cs e)∈L2->(b,true,Obj.cells cs e)∈L3):LG h g e sz p L0 L3:=
 ⟨q.ok.ofT t2,q.n,fun b hb=>(q.d b hb).imp id fun hn t ht e=>by
  obtain⟨u,hu,e'⟩:=b1 t ht;exact hn u hu (e'.trans e),fun h2 e1 e2 e3=>(q.k h2 e1 e2 (e3.ofT t1)).ofT t2⟩
section
variable {New:Obj->Prop}{N:Nat}{ε:Env}{L:Frag}{d:Option Tmp}{ty:TypeId}{ps:String}{af:Array Edge}{g:Option (Nat×Bool)}{x y:Operand}{P:Program}
theorem xi {t e:TypeId}{h:HS}{sz by_ yb:Nat}{z:Value}{ys:List Value}{p:Nat->Nat->Value}{fl:Bool}(hx:ev ε x=some h.v:=by rfl)(hy:ev ε y=some (.slice (some ⟨yb,0,none⟩) 1 1):=by rfl)(hym:(yb,fl,Obj.cells ys.toArray e)∈L)(hnd:(L.map (·.1)).Nodup)(hu:P.underlying t=some (.slice e))(hs:sizeAt P e=some sz)(hb:bytesAt P e=some (by_+1))(hz:zeroAt P e=some z)(hzs:z.cells.size=sz)(hN: ∀cs,New (.cells cs e)) (hh:h.ok e sz p L) (hyl:ys.length=sz) (hyp: ∀j,j<sz->ys[j]? =some (p h.n j)) (hpl:ys.all plainV=true) (h0:0<sz) (h8:(2*(h.n+1)+192)*(by_+1)<=281474976710656):
 EO P New N ε L ⟨d, .call ⟨.builtin .append, #[x,y], #[t,t]⟩,ty,ps,af,g⟩ (fun r L'=> ∃g:HS,r=g.v/\LG h g e sz p L L'/\Ch (fun c=>h.b=some c) L L'/\Bl L L'):=by
 have hF:=bG hnd;obtain⟨a,xs,hv,ha,hn,hab,hjk,hpat⟩: ∃(a:Sl) (xs:List Value),h.v=rowv a sz h.n/\slOk a xs e L/\xs.length=h.n*sz/\a.b=h.b/\(∀b,h.b=some b->(xs.length+a.junk.length)/sz=h.cap)/\ ∀i,i<h.n-> ∀j,j<sz->xs[i*sz+j]? =some (p i j):=by
  unfold HS.ok at hh;cases hb':h.b with
  |none=>
   rw[hb'] at hh;have hh':h.n=0:=hh;refine⟨⟨none,[]⟩,[],by unfold HS.v rowv;rw[hb'],⟨rfl,rfl⟩,by rw[hh'];simp,rfl,fun b e=>(by cases e),fun i hi=>by omega⟩
  |some b=>
   rw[hb'] at hh;obtain⟨cs,h1,h2,h3,h4⟩:=hh;have hle:h.n*sz<=cs.size:=by
    have:=Nat.div_mul_le_self cs.size sz;rw[h2] at this;exact Nat.le_trans (Nat.mul_le_mul_right _ h3) this
   have hlen:(cs.toList.take (h.n*sz)).length=h.n*sz:=by simp;omega
   refine⟨⟨some b,cs.toList.drop (h.n*sz)⟩,cs.toList.take (h.n*sz), ?_, ?_,hlen,rfl,fun _ _=> ?_,fun i hi j hj=> ?_⟩
   ·unfold HS.v rowv;rw[hb'];simp only[List.length_drop,Array.length_toList];rw[Nat.mul_comm h.n sz,Nat.sub_mul_div,h2,show h.n+(h.cap-h.n)=h.cap by omega]
   ·show (b,true,Obj.cells (cs.toList.take (h.n*sz)++cs.toList.drop (h.n*sz)).toArray e)∈L;simpa using h1
   ·rw[hlen,List.length_drop,Array.length_toList,<-h2];congr 1;omega
   ·have h5:i*sz+sz<=h.n*sz:=by rw[<-Nat.succ_mul];exact Nat.mul_le_mul_right _ hi
    rw[List.getElem?_take_of_lt (by omega),Array.getElem?_toList];exact h4 i hi j hj
 have hr:Reads P L sz 1 (.slice (some ⟨yb,0,none⟩) 1 1) ys.toArray:=by
  have:=cI (P:=P) (sz:=sz) (n:=1) (len:=1) (cap:=1) (o:=0) hym (by simp;omega);have e7:ys.take sz=ys:=List.take_of_length_le (by omega);simpa [e7] using this
 intro ac hac;refine cr ?_ _ _ (zX (by_:=by_) (a:=a) (n:=h.n) (m:=1) (ys:=ys) (hv▸hx) hy hnd hu hs hb hz hzs hN ha hn hr (by omega) hpl h0 h8 ac hac);intro r L' q;cases r<;>try exact q.elim
 ·obtain⟨a',rfl,hA,hK⟩:=q;cases hb':a'.b with
  |none=>
   have h1:=hA.ok;unfold slOk at h1;rw[hb'] at h1;have:(xs++ys).length=0:=by rw[h1.1];rfl
   rw[List.length_append] at this;omega
  |some b=>
   have hm:=hA.ok.mem hb';have hl:(xs++ys).length=(h.n+1)*sz:=by rw[List.length_append,hn,hyl,Nat.succ_mul]
   refine⟨⟨some b,h.n+1,h.n+1+a'.junk.length/sz⟩,by unfold HS.v rowv;rw[hb'],⟨⟨_,hm, ?_,Nat.le_add_right _ _,fun i hi j hj=> ?_⟩,rfl,fun c hc=> ?_,fun h2 e1 e2 e3=> ?_⟩,⟨hA.fn,fun t ht hne=>hA.sub t ht (by rw[hab];exact hne)⟩,fun t ht=> ?_⟩
   ·rw[List.size_toArray,List.length_append,hl,Nat.add_comm,Nat.add_mul_div_right _ _ h0,Nat.add_comm]
   ·have hi':i<h.n+1:=hi;have h5:i*sz+sz<=(h.n+1)*sz:=by rw[<-Nat.succ_mul];exact Nat.mul_le_mul_right _ hi'
    rw[List.getElem?_toArray,List.getElem?_append_left (by omega)];by_cases h6:i=h.n
    ·subst h6;rw[List.getElem?_append_right (by omega),hn,Nat.add_sub_cancel_left];exact hyp j hj
    ·have h7:i*sz+sz<=h.n*sz:=by rw[<-Nat.succ_mul];exact Nat.mul_le_mul_right _ (by omega)
     rw[List.getElem?_append_left (by omega)];exact hpat i (by omega) j hj
   ·have hc':b=c:=by simpa using hc
    rcases hA.d b hb' with h3|h3
    ·exact .inl (by rw[<-hab,h3,hc'])
    ·exact .inr (hc'▸h3)
   ·unfold HS.ok at e3⊢;cases hc:h.b with
    |none=>
     rw[e1,hc] at e3⊢;exact e3
    |some c=>
     rw[e1,hc] at e3⊢;obtain⟨cs,h3,h4,h5,h6⟩:=e3;have hac:=ha.mem (hab.trans hc);have ecs:cs=(xs++a.junk).toArray:=by
      have:=(hF _ _ _ _ _ h3 hac).2;cases this;rfl
     rcases hK with ⟨h7,h8⟩|h7
     ·have ebc:b=c:=by rw[hb',hab,hc] at h7;exact Option.some.inj h7
      refine⟨_,ebc▸hm, ?_,h5,fun i hi j hj=> ?_⟩
      ·rw[<-h4,ecs];congr 1;simp;omega
      ·rw[<-h6 i hi j hj,ecs];have h9:i*sz+sz<=h.n*sz:=by rw[<-Nat.succ_mul];exact Nat.mul_le_mul_right _ (by omega)
       rw[List.getElem?_toArray,List.getElem?_toArray,List.append_assoc,List.getElem?_append_left (by omega),List.getElem?_append_left (by omega)]
     ·exact⟨cs,h7 _ h3,h4,h5,h6⟩
   ·rcases hK with ⟨h7,h8⟩|h7
    ·by_cases e:a.b=some t.1
     ·exact⟨_,hm,by rw[hb',e] at h7;exact Option.some.inj h7⟩
     ·exact⟨t,hA.sub t ht e,rfl⟩
    ·exact⟨t,h7 t ht,rfl⟩
 ·obtain⟨a',e,_⟩:=q;unfold rowv at e
  split at e<;>cases e
end
abbrev Cl:=Nat×Nat
structure Tu (C:Cl->Prop)(ow:Nat->Cl)(L:Frag)(ow':Nat->Cl)(L':Frag):Prop where
 fn:Fun L'
 s: ∀t∈L,¬C (ow t.1)->t∈L'/\ow' t.1=ow t.1
 g: ∀b cs,(b,true,Obj.cells cs 158)∈L->(b,true,Obj.cells cs 158)∈L'
 f: ∀t∈L,t.2.1=false->t∈L'
section
variable {C C':Cl->Prop}{ow ow1 ow':Nat->Cl}{L L1 L':Frag}{K:Nat}{A:Lay}{S T:St}{F:Frag}{R:Nat}{B:RB}{X:RX}{c:Cl}{D ov ov':Nat->Prop}
theorem Tu.trans (h:Tu C ow L ow1 L1)(k:Tu C' ow1 L1 ow' L'):Tu (fun c=>C c\/C' c) ow L ow' L':=
 ⟨k.fn,fun t ht hn=>by
  obtain⟨h1,h2⟩:=h.s t ht fun e=>hn (.inl e);obtain⟨h3,h4⟩:=k.s t h1 fun e=>hn (.inr (h2▸e));exact⟨h3,h4.trans h2⟩,fun b cs h1=>k.g b cs (h.g b cs h1),fun t ht e=>k.f t (h.f t ht e) e⟩
theorem Tu.mono (h:Tu C ow L ow' L')(hc: ∀c,C c->C' c):Tu C' ow L ow' L':=⟨h.fn,fun t ht hn=>h.s t ht fun e=>hn (hc _ e),h.g,h.f⟩
theorem Tu.ext (e:Ext L L'):Tu (fun _=>False) ow L ow L':=⟨e.f,fun t ht _=>⟨e.s t ht,rfl⟩,fun b cs h=>e.s _ h,fun t ht _=>e.s t ht⟩
theorem Tu.of (hF:Fun L')(h:Foot ov ov' L L')(ho: ∀b,ov b->C (ow b)) (ht: ∀t∈L,ov t.1->t.2.1=true/\ ∀cs,t.2.2≠ .cells cs 158) (c:Cl): ∃ow',Tu C ow L ow' L'/\ ∀b,ov' b\/ow b=c->ow' b=c:=by
 classical
 refine⟨fun b=>if ov' b then c else ow b,⟨hF,fun t h1 hn=> ?_,fun b cs h1=>h.s _ h1 fun e=>(ht _ h1 e).2 cs rfl,fun t h1 e=>h.s t h1 fun e'=>by rw[(ht t h1 e').1] at e;cases e⟩,fun b hb=> ?_⟩
 ·have h1': ¬ov t.1:=fun e=>hn (ho _ e);refine⟨h.s t h1 h1', ?_⟩;show (if ov' t.1 then c else ow t.1)=_;rw[if_neg fun e=>(h.n _ e).elim h1' fun e=>e t h1 rfl]
 ·show (if ov' b then c else ow b)=c
  split
  ·rfl
  ·exact hb.elim (fun e=>absurd e ‹_›) id
theorem Ch.tu (h:Ch D L L')(hF:Fun L)(hD: ∀b,D b->C (ow b)/\ ∃cs e,(b,true,Obj.cells cs e)∈L/\e≠158):Tu C ow L ow L':=
 ⟨h.fn,fun t ht hn=>⟨h.s t ht fun e=>hn (hD _ e).1,rfl⟩,fun b cs hm=>h.s _ hm fun e=>by
  obtain⟨_,cs',e',h1,h2⟩:=hD _ e;exact h2 (dk hF h1 hm),fun t ht e=>h.s t ht fun hd=>by
  obtain⟨_,cs',e',h1,h2⟩:=hD _ hd;have:=(hF _ _ _ _ _ h1 (show (t.1,t.2.1,t.2.2)∈L from ht)).1;rw[e] at this;cases this⟩
theorem Rep.tu (h:Rep K A S [] L)(t:Tu C ow L ow' L')(ho: ∀b,Own K A S b->ow b=c) (hc: ¬C c):Rep K A S [] L'/\ ∀b,Own K A S b->ow' b=c:=
 ⟨h.move t.fn (fun u hu hO=>(t.s u hu (by rw[ho _ hO];exact hc)).1) (t.g _ _ h.g) (fun _ h=>by cases h),fun b hb=>by
  obtain⟨o,hm,_⟩:=h.own hb;have:=(t.s _ hm (by rw[ho b hb];exact hc)).2;rw[<-ho b hb];exact this⟩
theorem Rep.full (h:Rep K A S F L): ∃G,Rep K A S G L/\ ∀t,t∈G↔t∈L/\ ¬Own K A S t.1:=by
 classical
 have hG: ∀t,t∈L.filter (fun t=>decide (¬Own K A S t.1))↔t∈L/\ ¬Own K A S t.1:=fun t=>by simp
 exact⟨_,{h with fr:=fun t ht=>((hG t).1 ht).1,fd:=fun t ht=>AX ((hG t).1 ht).2},hG⟩
theorem Rep.foot {G:Frag}{A':Lay}{S':St}(hG: ∀t,t∈G↔t∈L/\ ¬Own K A S t.1) (h:Rep K A' S' G L'):Foot (Own K A S) (Own K A' S') L L':=
 ⟨fun t ht hn=>h.fr t ((hG t).2 ⟨ht,hn⟩),fun b hb=>by
  classical
  by_cases e:Own K A S b
  ·exact .inl e
  ·refine .inr fun t ht e'=> ?_;subst e';exact h.frown ((hG t).2 ⟨ht,e⟩) hb⟩
theorem Rep.ownt (h:Rep K A S F L): ∀t∈L,Own K A S t.1->t.2.1=true/\ ∀cs,t.2.2≠ .cells cs 158:=fun t ht ho=>by
 obtain⟨o,h1,h2⟩:=h.own ho;obtain⟨e1,e2⟩:=h.fn _ _ _ _ _ h1 (show (t.1,t.2.1,t.2.2)∈L from ht);refine⟨e1.symm,fun cs e=> ?_⟩;rw[e] at e2;subst e2;rcases h2 with ⟨m,c,h3⟩|⟨cs',e',h3,h4⟩
 ·cases h3
 ·cases h3
  revert h4
  decide
theorem RepR.own {o:Nat}(h:RepR o R B T X L){b:Nat}(hb:OwnR R B T b): ∃cs e,(b,true,Obj.cells cs e)∈L/\e≠158:=by
 rcases hb with rfl|⟨q,hq,rfl⟩|hb|⟨l,hl,hb⟩|hb
 ·exact⟨_,_,h.k,by decide⟩
 ·exact⟨_,_,h.p q hq,by decide⟩
 ·exact⟨_,_,h.pl.mem hb,by decide⟩
 ·exact⟨_,_,(h.rw l hl).mem hb,by decide⟩
 ·exact⟨_,_,h.ev.mem hb,by decide⟩
theorem RepR.ownt {o:Nat}(h:RepR o R B T X L): ∀t∈L,OwnR R B T t.1->t.2.1=true/\ ∀cs,t.2.2≠ .cells cs 158:=fun t ht ho=>by
 obtain⟨cs,e,h1,h2⟩:=h.own ho;obtain⟨e1,e2⟩:=h.fn _ _ _ _ _ h1 (show (t.1,t.2.1,t.2.2)∈L from ht);refine⟨e1.symm,fun cs' e'=> ?_⟩;rw[e'] at e2;cases e2;exact h2 rfl
theorem RepR.tu {o:Nat}(h:RepR o R B T X L)(t:Tu C ow L ow' L')(ho: ∀b,OwnR R B T b->ow b=c) (hc: ¬C c):RepR o R B T X L'/\ ∀b,OwnR R B T b->ow' b=c:=by
 have mv: ∀u∈L,OwnR R B T u.1->u∈L':=fun u hu hO=>(t.s u hu (by rw[ho _ hO];exact hc)).1;refine⟨{h with fn:=t.fn,k:=mv _ h.k (.inl rfl),p:=fun q hq=>mv _ (h.p q hq) (.inr (.inl ⟨q,hq,rfl⟩)),pl:=h.pl.mono fun b hb _ x=>mv _ x (.inr (.inr (.inl hb))),rw:=fun l hl=>(h.rw l hl).mono fun b hb _ x=>mv _ x (.inr (.inr (.inr (.inl ⟨l,hl,hb⟩)))),ev:=h.ev.mono fun b hb _ x=>mv _ x (.inr (.inr (.inr (.inr hb))))},fun b hb=> ?_⟩;obtain⟨cs,e,hm,_⟩:=h.own hb;have:=(t.s _ hm (by rw[ho b hb];exact hc)).2;rw[<-ho b hb];exact this
theorem Ref.tu (h:Ref R B T X L)(t:Tu C ow L ow' L')(ho: ∀b,OwnR R B T b->ow b=c) (hc: ¬C c):Ref R B T X L'/\ ∀b,OwnR R B T b->ow' b=c:=
 let ⟨h1,h2⟩:=h.r.tu t ho hc
 ⟨⟨h1,h.t,h.o,h.n,h.np⟩,h2⟩
theorem HS.ok.of {h:HS}{e:TypeId}{sz:Nat}{p:Nat->Nat->Value}(hh:h.ok e sz p L)(hs: ∀b,h.b=some b-> ∀o,(b,true,o)∈L->(b,true,o)∈L'):h.ok e sz p L':=by
 unfold HS.ok at*
 split
 ·rename_i hb;rw[hb] at hh;exact hh
 ·rename_i b hb;rw[hb] at hh;obtain⟨cs,h1,h2⟩:=hh;exact⟨cs,hs b hb _ h1,h2⟩
theorem HS.ok.blk {h:HS}{e:TypeId}{sz:Nat}{p:Nat->Nat->Value}(hh:h.ok e sz p L){b:Nat}(hb:h.b=some b): ∃cs,(b,true,Obj.cells cs e)∈L:=by
 unfold HS.ok at hh;rw[hb] at hh;obtain⟨cs,h1,_⟩:=hh;exact⟨cs,h1⟩
end
structure Pl where
 b:Nat
 K:Nat
 A:Lay
 S:St
 T:St
 R:Nat
 B:RB
 U:St
 X:RX
 t:Nat
structure PlIn (ow:Nat->Cl)(j:Nat)(x:Pl)(L:Frag):Prop where
 k:Rep x.K x.A x.S [] L
 ab:Ab x.S x.T
 r:Ref x.R x.B x.U x.X L
 ok: ∀b,Own x.K x.A x.S b->ow b=(2,j)
 or: ∀b,OwnR x.R x.B x.U b->ow b=(3,j)
structure HdIn (ow:Nat->Cl)(h:Hd)(L:Frag):Prop where
 b:h.bs.ok 5 1 (patB h.m) L
 e:h.es.ok 51 4 (patE h.m) L
 p:h.ps.ok 49 15 (patP h.m) L
 o: ∀c,h.bs.b=some c\/h.es.b=some c\/h.ps.b=some c->ow c=(4,h.m)
structure Wo where
 w:Nat
 ap:Sl
 ah:Sl
 ps:List Pl
 hs:List (Nat×Hd)
def Wo.own1 (W:Wo)(c:Nat):Prop:=c=W.w\/W.ap.b=some c\/W.ah.b=some c\/ ∃h∈W.hs,c=h.1
def Wo.own (W:Wo)(c:Nat):Prop:=W.own1 c\/ ∃x∈W.ps,c=x.b
def plc (x:Pl):Array Value:= #[ptr x.K,ptr x.R, .int .i64 (x.t:Nat)]
def woc (W:Wo):Array Value:= #[rowv W.ap 1 W.ps.length,rowv W.ah 1 W.hs.length]
def Hd.le (h:Hd)(k:Nat):Prop:=h.bs.n<=140737488351240+k/\h.es.n<=4000+k/\h.ps.n<=8+k
structure WI (B0:Frag)(ow:Nat->Cl)(W:Wo)(L:Frag):Prop where
 fn:Fun L
 w:(W.w,true,Obj.cells (woc W) 71)∈L
 pa:slOk W.ap (W.ps.map fun x=>ptr x.b) 102 L
 ha:slOk W.ah (W.hs.map fun h=>ptr h.1) 105 L
 pb: ∀x∈W.ps,(x.b,true,Obj.cells (plc x) 145)∈L
 hb: ∀h∈W.hs,(h.1,true,Obj.cells (hcs h.2) 143)∈L
 pi: ∀j x,W.ps[j]? =some x->PlIn ow j x L
 hi: ∀h∈W.hs,HdIn ow h.2 L
 hm: ∀h∈W.hs,h.2.m<=W.hs.length/\h.2.le 3
 nd:(W.ps.map (·.b)).Nodup
 b0: ∀t∈B0,t∈L/\t.2.1=false
 o: ∀c,W.own c->ow c=(0,0)
section
variable {C C':Cl->Prop}{ow ow1 ow':Nat->Cl}{L L1 L' B0:Frag}{W:Wo}
theorem PlIn.tu {j:Nat}{x:Pl}(h:PlIn ow j x L)(t:Tu C ow L ow' L')(h2: ¬C (2,j))(h3: ¬C (3,j)):PlIn ow' j x L':=
 let ⟨a,b⟩:=h.k.tu t h.ok h2
 let ⟨c,d⟩:=h.r.tu t h.or h3
 ⟨a,h.ab,c,b,d⟩
theorem HdIn.tu {x:Hd}(h:HdIn ow x L)(t:Tu C ow L ow' L')(h4: ¬C (4,x.m)):HdIn ow' x L':=by
 have mv: ∀c,x.bs.b=some c\/x.es.b=some c\/x.ps.b=some c-> ∀o,(c,true,o)∈L->(c,true,o)∈L'/\ow' c=(4,x.m):=fun c hc o ho=>by
  obtain⟨h5,h6⟩:=t.s _ ho (by rw[h.o c hc];exact h4);exact⟨h5,h6.trans (h.o c hc)⟩
 refine⟨h.b.of fun c hc o ho=>(mv c (.inl hc) o ho).1,h.e.of fun c hc o ho=>(mv c (.inr (.inl hc)) o ho).1,h.p.of fun c hc o ho=>(mv c (.inr (.inr hc)) o ho).1,fun c hc=> ?_⟩;rcases id hc with h7|h7|h7
 ·exact let ⟨_,h8⟩:=h.b.blk h7;(mv c hc _ h8).2
 ·exact let ⟨_,h8⟩:=h.e.blk h7;(mv c hc _ h8).2
 ·exact let ⟨_,h8⟩:=h.p.blk h7;(mv c hc _ h8).2
theorem WI.blk (h:WI B0 ow W L){c:Nat}(hc:W.own c): ∃cs e,(c,true,Obj.cells cs e)∈L/\e≠158:=by
 rcases hc with (rfl|hc|hc|⟨x,hx,rfl⟩)|⟨x,hx,rfl⟩
 ·exact⟨_,_,h.w,by decide⟩
 ·exact⟨_,_,h.pa.mem hc,by decide⟩
 ·exact⟨_,_,h.ha.mem hc,by decide⟩
 ·exact⟨_,_,h.hb x hx,by decide⟩
 ·exact⟨_,_,h.pb x hx,by decide⟩
theorem WI.blkt (h:WI B0 ow W L): ∀t∈L,W.own t.1->t.2.1=true/\ ∀cs,t.2.2≠ .cells cs 158:=fun t ht ho=>by
 obtain⟨cs,e,h1,h2⟩:=h.blk ho;obtain⟨e1,e2⟩:=h.fn _ _ _ _ _ h1 (show (t.1,t.2.1,t.2.2)∈L from ht);refine⟨e1.symm,fun cs' e'=> ?_⟩;rw[e'] at e2;cases e2;exact h2 rfl
theorem WI.mv (h:WI B0 ow W L)(t:Tu C ow L ow' L')(hw: ∀b o,W.own1 b->(b,true,o)∈L->(b,true,o)∈L') (ho: ∀c,W.own c->ow' c=(0,0)) (hi: ∀x∈W.hs,HdIn ow' x.2 L') {ps':List Pl} (e:ps'.map (·.b)=W.ps.map (·.b)) (hpb: ∀x∈ps',(x.b,true,Obj.cells (plc x) 145)∈L') (hp: ∀j x,ps'[j]? =some x->PlIn ow' j x L'):WI B0 ow' {W with ps:=ps'} L':=by
 have el:ps'.length=W.ps.length:=by simpa using congrArg List.length e
 have ei:ps'.map (fun x=>ptr x.b)=W.ps.map fun x=>ptr x.b:=by
  have:=congrArg (List.map ptr) e;simpa [Function.comp_def] using this
 exact{
  fn:=t.fn
  w:=by have:=hw _ _ (.inl rfl) h.w;unfold woc at*;simp only[el];exact this
  pa:=by simp only[ei];exact h.pa.mono fun b hb o=>hw b o (.inr (.inl hb))
  ha:=h.ha.mono fun b hb o=>hw b o (.inr (.inr (.inl hb)))
  pb:=hpb
  hb:=fun x hx=>hw _ _ (.inr (.inr (.inr ⟨x,hx,rfl⟩))) (h.hb x hx)
  pi:=hp
  hi:=hi
  hm:=h.hm
  nd:=by simp only[e];exact h.nd
  b0:=fun u hu=>⟨t.f u (h.b0 u hu).1 (h.b0 u hu).2,(h.b0 u hu).2⟩
  o:=fun c hc=>by
   rcases hc with hc|⟨x,hx,rfl⟩
   ·exact ho c (.inl hc)
   ·have:x.b∈W.ps.map (·.b):=by rw[<-e];exact List.mem_map.2 ⟨x,hx,rfl⟩
    obtain⟨y,hy,e1⟩:=List.mem_map.1 this;exact ho _ (.inr ⟨y,hy,e1.symm⟩)}
theorem WI.mvo (h:WI B0 ow W L)(t:Tu C ow L ow' L')(h0: ¬C (0,0)):(∀b o,W.own b->(b,true,o)∈L->(b,true,o)∈L')/\ ∀c,W.own c->ow' c=(0,0):=
 ⟨fun c o hc ho=>(t.s _ ho (by rw[h.o c hc];exact h0)).1,fun c hc=>by
  obtain⟨cs,e',h1,_⟩:=h.blk hc;have:=(t.s _ h1 (by rw[h.o c hc];exact h0)).2;rw[<-h.o c hc];exact this⟩
theorem WI.tu (h:WI B0 ow W L)(t:Tu C ow L ow' L')(h0: ¬C (0,0))(hm: ∀m,m<=W.hs.length-> ¬C (4,m)) {ps':List Pl} (e:ps'.map (·.b)=W.ps.map (·.b)) (ec: ∀x∈ps',∃y∈W.ps,x.b=y.b/\plc x=plc y) (hp: ∀j x,ps'[j]? =some x->PlIn ow' j x L'):WI B0 ow' {W with ps:=ps'} L':=
 let ⟨mv,ho⟩:=h.mvo t h0
 h.mv t (fun b o hb=>mv b o (.inl hb)) ho (fun x hx=>(h.hi x hx).tu t (hm _ (h.hm x hx).1)) e (fun x hx=>by
  obtain⟨y,hy,e1,e2⟩:=ec x hx;rw[e1,e2];exact mv _ _ (.inr ⟨y,hy,rfl⟩) (h.pb y hy)) hp
theorem WI.tu0 (h:WI B0 ow W L)(t:Tu C ow L ow' L')(h0: ¬C (0,0))(hm: ∀m,m<=W.hs.length-> ¬C (4,m)) (hj: ∀j,j<W.ps.length-> ¬C (2,j)/\ ¬C (3,j)):WI B0 ow' W L':=
 h.tu t h0 hm (ps':=W.ps) rfl (fun x hx=>⟨x,hx,rfl,rfl⟩) fun j x hx=>by
  have:=(List.getElem?_eq_some_iff.1 hx).1;exact(h.pi j x hx).tu t (hj j this).1 (hj j this).2
end
def HS.nil:HS:=⟨none,0,0⟩
theorem jJ (h:HS):plainV h.v=true:=by unfold HS.v;split<;>rfl
theorem Bt (m:Nat):evR Tryz.prog (Instr.build 143 [(3, .int .i64 (m:Nat))].toArray) []=some (.agg (hcs ⟨.nil, .nil, .nil,m⟩),[]):=by kernel_rfl
structure LGs (h g:Hd)(G:Nat)(L L':Frag):Prop where
 m:g.m=h.m
 b:LG h.bs g.bs 5 1 (patB h.m) L L'
 e:LG h.es g.es 51 4 (patE h.m) L L'
 p:LG h.ps g.ps 49 15 (patP h.m) L L'
 c:Ch (fun c=>h.bs.b=some c\/h.es.b=some c\/h.ps.b=some c) L L'
 g:(G,true,Obj.cells (hcs g) 143)∈L'
 n: ∀t∈L,t.1≠G
theorem xj: ∃n,∀{σ}{F:Fam σ}{Δ:DM F}{main s}(L:Frag)(H:Nat)(h:Hd),(∀s o,(Δ s).New o)->Fun L->(H,true,Obj.cells (hcs h) 143)∈L->h.bs.ok 5 1 (patB h.m) L->h.es.ok 51 4 (patE h.m) L->h.ps.ok 49 15 (patP h.m) L->h.le 3->h.m<4611686018427387904->
 CallsL Δ Tryz.prog main 89 [ptr H].toArray n s L (fun s' v L'=>s=s'/\ ∃G g,v=ptr G/\LGs h g G L L'):=by
 obtain⟨n1,g1⟩:=rI;apply Exists.intro;rintro σ F Δ main s L H h hN hF hH hbs hes hps ⟨hkb,hke,hkp⟩ hm;have nm:IntKind.i64.wrap (0-(h.m:Int))= -(h.m:Int):=by simp[IntKind.wrap_i64];omega
 obtain⟨base,cap,hv,_⟩:=HS.view hbs.any;replace hH:(H,true,Obj.cells #[.slice base h.bs.n cap,h.es.v,h.ps.v, .int .i64 (h.m:Nat)] 143)∈L:=by rw[<-hv];exact hH
 have at0: ∀{L':Frag},(H,true,Obj.cells #[.slice base h.bs.n cap,h.es.v,h.ps.v, .int .i64 (h.m:Nat)] 143)∈L'->At L' H 0 (.slice base h.bs.n cap)/\At L' H 1 h.es.v/\At L' H 2 h.ps.v/\At L' H 3 (.int .i64 (h.m:Nat)):=fun hm=>⟨⟨true,_,_,_,hm,rfl⟩,⟨true,_,_,_,hm,rfl⟩,⟨true,_,_,_,hm,rfl⟩,⟨true,_,_,_,hm,rfl⟩⟩;obtain⟨a0,a1,a2,a3⟩:=at0 hH;co_applyP aF 62 Tryz.func89 Tryz.ntmps89;co_applyP aa;co_applyP oan rfl;co_applyP aa;co_applyP om rfl rfl rfl av;co_applyP oy rfl (ak (hf:=cR));co_applyP oy rfl (aA (ht:=aR));co_applyP oy rfl (bj (Bt h.m));co_applyP b5 rfl (b8 (hN _ _));intro G L1 hA;have hH1:=hA.sub _ hH;have hGn:=hA.new;obtain⟨b0,b1,b2,b3⟩:=at0 hH1;have hE1:Ext L L1:=⟨hA.fn,hA.sub⟩;replace hG1:(G,true,Obj.cells (hcs ⟨.nil, .nil, .nil,h.m⟩) 143)∈L1:=hA.self;have hGH:G≠H:=fun e=>hGn _ hH e.symm;co_applyP oan rfl;co_applyP au;co_applyP br [(H,true,Obj.cells #[.slice base h.bs.n cap,h.es.v,h.ps.v, .int .i64 (h.m:Nat)] 143)] 9 a5;co_applyP tr 0 rfl ag (aj (by simpa using hH1));co_applyP tr 1 rfl av (aj (by simpa using hH1));co_applyP tr 2 rfl (ak (hf:=cR)) (aj (by simpa using hH1));co_applyP t0 3 rfl (aA (ht:=aR)) (aj (by simpa using hH1));co_applyP tr 4 rfl ag (aj (by simpa using hH1));co_applyP tr 5 rfl av (aj (by simpa using hH1));co_applyP tr 6 rfl (ak (hf:=eG)) (aj (by simpa using hH1));co_applyP t0 7 rfl (aA (ht:=l0)) (aj (by simpa using hH1));co_applyP tr 8 rfl (bt (hu:=U44)) (aj (by simpa using hH1));co_applyP tc 9 rfl rfl rfl (g1 L1 h.m h.bs.n hm);rintro _ _ _ ⟨rfl,rfl,rfl⟩;refine⟨aD (by simpa using hH1), ?_⟩;co_applyP to 10 rfl (bR) (aD (by simpa using hH1));co_applyP td (by kernel_rfl);co_applyP aa;co_applyP om rfl rfl rfl ag;co_applyP oy rfl av;co_applyP oy rfl (ak (hf:=eG));co_applyP oy rfl (aA (ht:=l0));co_applyP oy rfl ag;co_applyP oe rfl (fY (sz:=1) (v:= .int .u8 (sgn h.m h.bs.n)) (z:= .int .u8 0) (hN _ _) rfl (hu:=U44) (hs:=dX) (hz:=yw) (h0:=by decide) (h24:=by decide));rintro _ _ ⟨yb,hyn,rfl,rfl⟩;co_applyP kO;intro hF2;have x2: ∀t∈L,t∈(yb,true,Obj.cells (Value.int .u8 (sgn h.m h.bs.n)).cells 5)::L1:=fun t ht=>List.mem_cons_of_mem _ (hA.sub t ht);co_applyP oeN rfl (fun hnd=>xi (h:=h.bs) (p:=patB h.m) (ys:=[.int .u8 (sgn h.m h.bs.n)]) (by_:=0) (hym:=List.mem_cons_self) (hnd:=hnd) (hu:=U44) (hs:=dX) (hb:=vK) (hz:=yw) (hzs:=rfl) (hN:=fun cs=>hN _ _) (hyl:=rfl) (hpl:=rfl) (h0:=by decide) (h8:=by omega) (hx:=by rw[hv];rfl) (hh:=hbs.of fun _ _ _=>x2 _) (hyp:=fun j hj=>by obtain rfl:j=0:=(by omega);rfl))
 rintro _ L3 ⟨gb,rfl,qb,cb,bb⟩;have nb: ∀e,5≠e-> ∀b cs,(b,true,Obj.cells cs e)∈(yb,true,Obj.cells (Value.int .u8 (sgn h.m h.bs.n)).cells 5)::L1->(b,true,Obj.cells cs e)∈L3:=fun e he b cs hm=>cb.keep ((hbs.of fun _ _ _=>x2 _).any.no hF2 he) hm;have hG3:=nb 143 (by decide) _ _ (List.mem_cons_of_mem _ hG1);have hH3:=nb 143 (by decide) _ _ (x2 _ hH);co_applyP oy rfl av;co_applyP oy rfl (ak (hf:=eG));co_applyP osm rfl (hs:=Cq) (hm:=hG3) (hi:=by show 0<4;decide) (hp:=jJ _);intro L4 hU4;have k4: ∀e,143≠e-> ∀b cs,(b,true,Obj.cells cs e)∈L3->(b,true,Obj.cells cs e)∈L4:=fun e he b cs hm=>hU4.ch.keep (NoT.one cb.fn hG3 he) hm;have hG4:(G,true,Obj.cells (hcs ⟨gb, .nil, .nil,h.m⟩) 143)∈L4:=hU4.self;have hH4:=hU4.ne _ hH3 hGH.symm;obtain⟨c0,c1,c2,c3⟩:=at0 hH4;have t4: ∀b cs,(b,true,Obj.cells cs 51)∈L->(b,true,Obj.cells cs 51)∈L4:=fun b cs hm=>k4 _ (by decide) b cs (nb _ (by decide) b cs (x2 _ hm));co_applyP ai;co_applyP au;co_applyP br [(H,true,Obj.cells #[.slice base h.bs.n cap,h.es.v,h.ps.v, .int .i64 (h.m:Nat)] 143)] 11 (nf:=0) a5;co_applyP tr 0 rfl ag (aj (by simpa using hH4));co_applyP tr 1 rfl ag (aj (by simpa using hH4));co_applyP tr 2 rfl av (aj (by simpa using hH4));co_applyP tr 3 rfl (ak (hf:=ff)) (aj (by simpa using hH4));co_applyP tr 4 rfl (aA (ht:=kR)) (aj (by simpa using hH4));co_applyP tr 5 rfl ag (aj (by simpa using hH4));co_applyP tr 6 rfl av (aj (by simpa using hH4));co_applyP tr 7 rfl (ak (hf:=cR)) (aj (by simpa using hH4));co_applyP t0 8 rfl (aA (ht:=aR)) (aj (by simpa using hH4));co_applyP tr 9 rfl kN (aj (by simpa using hH4));rw[nm];co_applyP tr 10 rfl (bj (Br h.m)) (aj (by simpa using hH4));co_applyP te (i:=11) rfl (fY (sz:=4) (v:= .agg (patEl h.m).toArray) (z:=evt 0 0 0 0) (hN _ _) rfl (hu:=U38) (hs:=fF) (hz:=su) (h0:=by decide) (h24:=by decide));rintro _ _ ⟨yc,hyc,rfl,rfl⟩;refine⟨aD (by simpa using hH4), ?_⟩;co_applyP bd;intro hnd;have x5: ∀t∈L4,t∈(yc,true,Obj.cells (Value.agg (patEl h.m).toArray).cells 51)::L4:=fun t ht=>List.mem_cons_of_mem _ ht;have hes5:=hes.ofT fun b cs hm=>x5 _ (t4 b cs hm);co_applyP te (i:=12) rfl (xi (h:=h.es) (p:=patE h.m) (ys:=patEl h.m) (by_:=31) (hym:=List.mem_cons_self) (hnd:=hnd) (hu:=U38) (hs:=fF) (hb:=wK) (hz:=su) (hzs:=rfl) (hN:=fun cs=>hN _ _) (hyl:=rfl) (hpl:=rfl) (h0:=by decide) (h8:=by omega) (hh:=hes5) (hyp:=fun j hj=>nW _ _ hj));rintro _ _ ⟨ge,rfl,qe,ce,be⟩;refine⟨aD (by simpa using ce.keep (hes5.any.no (bG hnd) (by decide)) (x5 _ hH4)), ?_⟩;rename_i L6;have ne:=fun e (he:51≠e) b cs (hm:(b,true,Obj.cells cs e)∈_)=>ce.keep (hes5.any.no (bG hnd) he) hm
 have hH6:=ne 143 (by decide) _ _ (x5 _ hH4);have hG6:=ne 143 (by decide) _ _ (x5 _ hG4);co_applyP to 13 rfl (av) (aD (by simpa using hH6));co_applyP to 14 rfl ((ak (hf:=ff))) (aD (by simpa using hH6));co_applyP bd;intro hnd6;co_applyP te (i:=15) rfl (dv (hnd:=hnd6) (hm:=hG6) (hi:=by show 1<4;decide) (hp:=jJ _) (hs:=vj));rintro _ _ ⟨rfl,hU7⟩;refine⟨aD (by simpa using hU7.ne _ hH6 hGH.symm), ?_⟩;rename_i L7;have k7:=fun e (he:143≠e) b cs (hm:(b,true,Obj.cells cs e)∈_)=>hU7.ch.keep (NoT.one ce.fn hG6 he) hm;have hG7:(G,true,Obj.cells (hcs ⟨gb,ge, .nil,h.m⟩) 143)∈_:=hU7.self;have hH7:=hU7.ne _ hH6 hGH.symm;obtain⟨d0,d1,d2,d3⟩:=at0 hH7;co_applyP td (by kernel_rfl);co_applyP au;co_applyP br [(H,true,Obj.cells #[.slice base h.bs.n cap,h.es.v,h.ps.v, .int .i64 (h.m:Nat)] 143)] 11 (nf:=0) a5;co_applyP tr 0 rfl ag (aj (by simpa using hH7));co_applyP tr 1 rfl ag (aj (by simpa using hH7));co_applyP tr 2 rfl av (aj (by simpa using hH7));co_applyP tr 3 rfl (ak (hf:=fg)) (aj (by simpa using hH7));co_applyP tr 4 rfl (aA (ht:=o8)) (aj (by simpa using hH7));co_applyP tr 5 rfl ag (aj (by simpa using hH7));co_applyP tr 6 rfl av (aj (by simpa using hH7));co_applyP tr 7 rfl (ak (hf:=cR)) (aj (by simpa using hH7));co_applyP t0 8 rfl (aA (ht:=aR)) (aj (by simpa using hH7));co_applyP tr 9 rfl kN (aj (by simpa using hH7));rw[nm];co_applyP tr 10 rfl (bj (Bs h.m)) (aj (by simpa using hH7));co_applyP te (i:=11) rfl (fY (sz:=15) (v:= .agg (patPl h.m).toArray) (z:= .agg (phead PS.zero).toArray) (hN _ _) rfl (hu:=U42) (hs:=fc) (hz:=sm) (h0:=by decide) (h24:=by decide));rintro _ _ ⟨yd,hyd,rfl,rfl⟩;refine⟨aD (by simpa using hH7), ?_⟩;co_applyP bd;intro hnd8;have x8: ∀t∈L7,t∈(yd,true,Obj.cells (Value.agg (patPl h.m).toArray).cells 49)::L7:=fun t ht=>List.mem_cons_of_mem _ ht;have hps8:=hps.ofT fun b cs hm=>x8 _ (k7 _ (by decide) b cs (ne _ (by decide) b cs (x5 _ (k4 _ (by decide) b cs (nb _ (by decide) b cs (x2 _ hm))))));co_applyP te (i:=12) rfl (xi (h:=h.ps) (p:=patP h.m) (ys:=patPl h.m) (by_:=71) (hym:=List.mem_cons_self) (hnd:=hnd8) (hu:=U42) (hs:=fc) (hb:=wA) (hz:=sm) (hzs:=rfl) (hN:=fun cs=>hN _ _) (hyl:=rfl) (hpl:=rfl) (h0:=by decide) (h8:=by omega) (hh:=hps8) (hyp:=fun j hj=>nX _ _ hj));rintro _ _ ⟨gp,rfl,qp,cp,bp⟩;refine⟨aD (by simpa using cp.keep (hps8.any.no (bG hnd8) (by decide)) (x8 _ hH7)), ?_⟩;have np:=fun e (he:49≠e) b cs (hm:(b,true,Obj.cells cs e)∈_)=>cp.keep (hps8.any.no (bG hnd8) he) hm;have hH9:=np 143 (by decide) _ _ (x8 _ hH7);have hG9:=np 143 (by decide) _ _ (x8 _ hG7)
 co_applyP to 13 rfl (av) (aD (by simpa using hH9));co_applyP to 14 rfl ((ak (hf:=fg))) (aD (by simpa using hH9));co_applyP bd;intro hnd9;co_applyP te (i:=15) rfl (dv (hnd:=hnd9) (hm:=hG9) (hi:=by show 2<4;decide) (hp:=jJ _) (hs:=Cp));rintro _ _ ⟨rfl,hU10⟩;refine⟨aD (by simpa using hU10.ne _ hH9 hGH.symm), ?_⟩;have k10:=fun e (he:143≠e) b cs (hm:(b,true,Obj.cells cs e)∈_)=>hU10.ch.keep (NoT.one cp.fn hG9 he) hm;co_applyP td (by kernel_rfl);co_applyP aa;co_applyP oy rfl ag;co_applyP oan rfl;co_applyP aK;change∃v,resE .. =some v/\_;refine⟨_,rfl,rfl,G,⟨gb,ge,gp,h.m⟩,rfl,rfl,qb.lift (fun b cs hm=>x2 _ hm) (Bl.sub x2) fun b cs hm=>k10 _ (by decide) b cs (np _ (by decide) b cs (x8 _ (k7 _ (by decide) b cs (ne _ (by decide) b cs (x5 _ (k4 _ (by decide) b cs hm)))))), ?_, ?_,⟨hU10.fn,fun t ht hn=> ?_⟩,hU10.self,hGn⟩
 ·exact qe.lift (fun b cs hm=>x5 _ (t4 b cs hm)) ((((Bl.sub x2).trans bb).trans (Bl.upd hU4)).trans (Bl.sub x5)) fun b cs hm=>k10 _ (by decide) b cs (np _ (by decide) b cs (x8 _ (k7 _ (by decide) b cs hm)))
 ·exact qp.lift (fun b cs hm=>x8 _ (k7 _ (by decide) b cs (ne _ (by decide) b cs (x5 _ (k4 _ (by decide) b cs (nb _ (by decide) b cs (x2 _ hm))))))) (((((((Bl.sub x2).trans bb).trans (Bl.upd hU4)).trans (Bl.sub x5)).trans be).trans (Bl.upd hU7)).trans (Bl.sub x8)) (k10 _ (by decide))
 ·have hG':=hGn t ht;exact hU10.ne _ (cp.s _ (x8 _ (hU7.ne _ (ce.s _ (x5 _ (hU4.ne _ (cb.s _ (x2 t ht) fun e=>hn (.inl e)) hG')) fun e=>hn (.inr (.inl e))) hG')) fun e=>hn (.inr (.inr e))) hG'
end Go.Proofs.YtejkelcaljmnoaaGreatDoor
namespace Go.Lo
open Go.Conc Go.Hx
section
variable {P:Program}{N:Nat}{ε:Env}{L:Frag}{d:Option Tmp}{ty:TypeId}{ps:String}{af:Array Edge}{g:Option (Nat×Bool)}{x y:Operand}{t:TypeId}{l:List Int}{k:IntKind}{h:Int}
theorem xl (l:List Int)(a b:Nat)(hb:b<=l.length):(⟨(l.map fun n=>UInt8.ofNat n.toNat).toArray⟩:ByteArray).extract a b=⟨(((l.take b).drop a).map fun n=>UInt8.ofNat n.toNat).toArray⟩:=by
 apply ByteArray.ext;rw[ByteArray.data_extract];apply Array.ext';simp only[Array.toList_extract,List.extract_eq_take_drop,List.map_drop,List.map_take];rw[List.drop_take]
end
section
variable {P:Program}{New:Obj->Prop}{N:Nat}{ε:Env}{L:Frag}{d:Option Tmp}{ty t u e:TypeId}{ps:String}{af:Array Edge}{g:Option (Nat×Bool)}{x y:Operand}
theorem rJ {l:List Int}(hl:Byt l):(Array.map (fun b:UInt8=>Value.int .u8 (b.toNat:Nat)) (l.map fun n=>UInt8.ofNat n.toNat).toArray)=(l.map (Value.int .u8)).toArray:=by
 apply Array.ext';simp only[List.map_toArray,List.map_map];refine List.map_congr_left fun n hn=> ?_;have:=hl n hn;simp only[Function.comp,UInt8.toNat_ofNat'];congr 1;omega
theorem Dc {n:Nat}{z:Value}(hN: ∀cs,New (.cells cs e)) (hx:ev ε x=some (.int .i64 (n:Nat)):=by rfl) (hu:P.underlying t=some (.slice e)) (hs:sizeAt P e=some 1) (hb:bytesAt P e=some 1) (hz:zeroAt P e=some z) (hzp:plainV z=true) (hn:n<=281474976710656) (h0:0<n):
 EO P New N ε L ⟨d, .makeSlice t x x,ty,ps,af,g⟩ (fun r L''=> ∃b,(∀t∈L,t.1≠b)/\r= .slice (some ⟨b,0,none⟩) n n/\L''=(b,true, .cells (List.replicate n z).toArray e)::L):=by
 intro a ha;simp only[execOp];unfold Instr.makeSlice newRow;have w:IntKind.i64.wrap ((n:Nat):Int)=(n:Int):=by simp[IntKind.wrap_i64];omega
 rw[ax,ax,aY hu,ha.ev hx];simp only[asInt,asIntOf];rw[ax,ax,bz,bz,ax,ax,bz,bz];obtain⟨i,hi,hib⟩: ∃i,P.info? e=some i/\i.bytes=1:=by
  unfold bytesAt at hb;cases h:P.info? e with
  |none=>rw[h] at hb;cases hb
  |some i=>rw[h] at hb;exact⟨i,rfl,by simpa using hb⟩
 rw[ax,b4 hi];simp only[w,hib];rw[if_neg (by simp;omega),ax];refine fM ?_;rw[ax,bO hs];simp only[Nat.mul_one,Int.toNat_natCast];rw[if_neg (by omega),ax,b7 hz,ax,bz];have e1:(Array.range n).map (z.cells[· %z.cells.size]!)=(List.replicate n z).toArray:=by
  have hc:z.cells= #[z]:=by cases z<;>first|rfl|(simp[plainV] at hzp)
  rw[hc];apply Array.ext';simp only[Array.toList_map,Array.toList_range];rw[show (fun x:Nat=>(#[z]:Array Value)[x%(#[z]:Array Value).size]!)=fun _=>z from funext fun x=>by simp[Nat.mod_one],List.map_const'];simp
 rw[e1,ax,ax];exact cf (hN _) fun b hb=>⟨b,hb,rfl,rfl⟩
theorem Dd {l:List Int}{b dl dc:Nat}{cs:Array Value}{e':TypeId}(hl:Byt l)(hx:ev ε x=some (.slice (some ⟨b,0,none⟩) dl dc):=by rfl)(hy:ev ε y=some (strv l):=by rfl)(hnd:(L.map (·.1)).Nodup)(hu:P.underlying t=some (.slice e))(hs:sizeAt P e=some 1)(hd:l.length<=dl)(hm:(b,true, .cells cs e')∈L)(ho:l.length<=cs.size):
 EO P New N ε L ⟨d, .call ⟨.builtin .copy, #[x,y], #[t,u]⟩,ty,ps,af,g⟩ (fun r L'=>r= .int .i64 (l.length:Nat)/\Upd L b (.cells (puts cs 0 (l.map (Value.int .u8))) e') L'):=by
 intro a ha;obtain⟨m,hm'⟩:=List.getElem?_of_mem hm;have hsz:(⟨(l.map fun n=>UInt8.ofNat n.toNat).toArray⟩:ByteArray).size=l.length:=by simp[ByteArray.size]
 have hmin:Nat.min l.length dl=l.length:=Nat.min_eq_left hd;refine ct (s:=Builtin.copy_ #[t,u] ty #[.slice (some ⟨b,0,none⟩) dl dc,strv l]) (fun _=>by simp[builtin,ha.ev hx,ha.ev hy]) ?_;unfold Builtin.copy_;simp only[List.getElem?_toArray,List.getElem?_cons_zero,List.getElem?_cons_succ];rw[ax,aY hu];simp only[Builtin.lenOf,strv];rw[ax,bz,ax,bO hs,ax];simp only[Builtin.firstCells,hsz,hmin];rw[xl l 0 l.length (Nat.le_refl _),bz];simp only[List.take_length,List.drop_zero];rw[rJ hl,ax];exact cA hm' (by simpa using ho) (by simp[plainV]) ⟨rfl,ef hnd hm'⟩
end
end Go.Lo
namespace Go.Proofs.YtejkelcaljmnoaaGreatDoor
open Go.Conc Go.Hx Go.Lo
def lentc (l:List Int):Array Value:=(l.map (Value.int .u8)++List.replicate 8 (Value.int .u8 201)).toArray
def lentp (l:List Int)(i:Nat):Array Value:=(l.map (Value.int .u8)++(List.replicate i (Value.int .u8 201)++List.replicate (8-i) (Value.int .u8 0))).toArray
theorem ux (l:List Int){i:Nat}(hi:i<8):(lentp l i).setIfInBounds (l.length+i) (.int .u8 201)=lentp l (i+1):=by
 unfold lentp;obtain⟨j,hj⟩: ∃j,8-i=j+1:=⟨7-i,by omega⟩;rw[hj,show 8-(i+1)=j by omega,List.replicate_succ,List.replicate_succ'];simp[List.set_append]
theorem rK (l:List Int){i:Nat}(hi:i<=8):(lentp l i).size=l.length+8:=by unfold lentp;simp;omega
theorem Bu: ∃n,∀{σ}{F:Fam σ}{Δ:DM F}{main s}(L:Frag)(l:List Int),(∀s o,(Δ s).New o)->Byt l->l.length<=140737488351232->
 CallsL Δ Tryz.prog main 69 [strv l].toArray n s L (fun s' v L'=>s=s'/\ ∃b,v= .slice (some ⟨b,0,none⟩) (l.length+8) (l.length+8)/\Add L b (.cells (lentc l) 5) L'):=by
 apply Exists.intro;intro σ F Δ main s L l hN hB hl;have e8:IntKind.i64.wrap ((l.length:Int)+8)=((l.length+8:Nat):Int):=by simp[IntKind.wrap_i64];omega
 co_applyP aF 24 Tryz.func69 Tryz.ntmps69;co_applyP aa;co_applyP oan rfl;co_applyP aa;co_applyP om rfl rfl rfl (dO (hu:=U9));co_applyP oy rfl aS;rw[b9,e8];co_applyP oe rfl (Dc (n:=l.length+8) (z:= .int .u8 0) (hN:=fun cs=>hN _ _) (hu:=U44) (hs:=dX) (hb:=vK) (hz:=yw) (hzp:=rfl) (hn:=by omega) (h0:=by omega));rintro _ _ ⟨b,hb,rfl,rfl⟩;co_applyP oan rfl;co_applyP aa;co_applyP om rfl rfl rfl ag;co_applyP oeN rfl (fun hnd=>Dd (l:=l) (cs:=(List.replicate (l.length+8) (Value.int .u8 0)).toArray) hB (hnd:=hnd) (hu:=U44) (hs:=dX) (hd:=by omega) (hm:=List.mem_cons_self) (ho:=by simp));rintro _ L2 ⟨rfl,hU⟩;have e0:puts (List.replicate (l.length+8) (Value.int .u8 0)).toArray 0 (l.map (Value.int .u8))=lentp l 0:=by
  rw[cL _ _ _ (by simp)];unfold lentp;simp
 rw[e0] at hU;co_applyP ai;co_applyP au;co_applyP aa;co_applyP om rfl rfl rfl (dO (hu:=U9));co_applyP oan rfl;co_applyP aC;rw[b9];co_applyP bg (fun k s' ε' L'=>s=s'/\ ∃i:Nat,k+i=8/\(∀t∈L,t∈L')/\Fun L'/\(b,true,Obj.cells (lentp l i) 5)∈L'/\kn ε' [(4, .int .i64 ((l.length+i:Nat):Int)),(3, .slice (some ⟨b,0,none⟩) (l.length+8) (l.length+8))]) 8
 ·exact⟨rfl,0,rfl,fun t ht=>hU.ne _ (List.mem_cons_of_mem _ ht) (hb t ht),hU.fn,hU.self,rfl⟩
 rintro k s' ε' L' ⟨rfl,i,hk,hs,hF,hm,he⟩;co_applyP aN he;co_applyP au;co_applyP aa;co_applyP om rfl rfl rfl ag;co_applyP oy rfl (bt (hu:=U44));co_applyP oy rfl bi;co_applyP ai;co_applyP aT rfl;intro hc
 ·have hi:i<8:=by simp at hc;omega
  have e1:IntKind.i64.wrap (((l.length+i:Nat):Int)+1)=((l.length+(i+1):Nat):Int):=by simp[IntKind.wrap_i64];omega
  co_applyP aB;co_applyP au;co_applyP aC;co_applyP aq;co_applyP om rfl rfl rfl ag;co_applyP oy rfl (bw U44 dX);co_applyP osm rfl (hs:=dX) (hm:=hm) (hi:=by rw[rK l (by omega)];omega);intro L3 hU3;replace hU3:Upd L' b (.cells ((lentp l i).setIfInBounds (l.length+i) (.int .u8 201)) 5) L3:=hU3;rw[ux l hi] at hU3;co_applyP ai;co_applyP aq;co_applyP om rfl rfl rfl aS;co_applyP oan rfl;change∃k',k'<_/\_;rw[e1];exact⟨k-1,by omega,rfl,i+1,by omega,fun t ht=>hU3.ne _ (hs t ht) (hb t ht),hU3.fn,hU3.self,rfl⟩
 intro hc;co_applyP bf;co_applyP aa;co_applyP oy rfl ag;co_applyP oan rfl;co_applyP aK;change∃v,resE .. =some v/\_;have hi:i=8:=by simp at hc;omega
 subst hi;exact⟨_,rfl,rfl,b,rfl,hm,hs,hb,hF⟩
theorem zf (K:Nat): ∃n,∀{σ}{F:Fam σ}{Δ:DM F}{main s}(L:Frag)(l:List Int)(b:Nat),Byt l->l.length+8<=K->K<=4611686018427387904->(b,true,Obj.cells (lentc l) 5)∈L->
 CallsL Δ Tryz.prog main 71 [.slice (some ⟨b,0,none⟩) (l.length+8) (l.length+8),strv l].toArray n s L (fun s' v L'=>s=s'/\v= .bool true/\L=L'):=by
 apply Exists.intro;intro σ F Δ main s L l b hB hl hK hm;co_applyP aF 39 Tryz.func71 Tryz.ntmps71;co_applyP aa;co_applyP oan rfl;co_applyP au;co_applyP aa;co_applyP oan rfl;co_applyP aC;co_applyP bg (fun k s' ε' L'=>s=s'/\L=L'/\ ∃i:Nat,k+i=K/\i<=l.length+8/\kn ε' [(5, .int .i64 (i:Nat)),(0, .slice (some ⟨b,0,none⟩) (l.length+8) (l.length+8)),(1,strv l)]) K
 ·exact⟨rfl,rfl,0,rfl,Nat.zero_le _,rfl⟩
 rintro k s' ε' L' ⟨rfl,rfl,i,hk,hin,he⟩;co_applyP aN he;co_applyP au;co_applyP aa;co_applyP om rfl rfl rfl ag;co_applyP oy rfl (bt (hu:=U44));co_applyP oy rfl bi;co_applyP ai;co_applyP aT rfl;intro hc
 ·have hi:i<l.length+8:=by simp at hc;omega
  have e1:IntKind.i64.wrap ((i:Int)+1)=((i+1:Nat):Int):=by simp[IntKind.wrap_i64];omega
  co_applyP aB;co_applyP au;co_applyP aC;co_applyP au;by_cases h:i<l.length
  ·obtain⟨v,hv⟩: ∃v,l[i]? =some v:=⟨_,List.getElem?_eq_getElem h⟩;have hat:At L b i (.int .u8 v):=⟨true,_,_,_,hm,by unfold lentc;rw[List.getElem?_toArray,List.getElem?_append_left (by simpa using h)];simp[hv]⟩;have hvb:=hB v (List.mem_of_getElem? hv);co_applyP bA a5;co_applyP tr 0 rfl ag pI;co_applyP tr 1 rfl ag pI;co_applyP tr 2 rfl (dO (hu:=U9)) pI;co_applyP tr 3 rfl bi pI;co_applyP tr 4 rfl ag pI;rw[b9,show decide ((i:Int)<(l.length:Int))=true by simp[h]];co_applyP tr 5 rfl (ag) pI;co_applyP tr 6 rfl (ag) pI;co_applyP tr 7 rfl ((bw U44 dX)) pI;co_applyP tr 8 rfl ((aA (ht:=eW))) pI;co_applyP tr 9 rfl (ag) pI;co_applyP tr 10 rfl (ag) pI;co_applyP tr 11 rfl (i9 (l:=l) (v:=v) (hu:=U9) (h0:=by omega) (hv:=by simpa using hv) (hb:=hvb)) pI;co_applyP tr 12 rfl (dK) pI;co_applyP tr 13 rfl aH pI;co_applyP tr 14 rfl ag pI;rw[show (v !=v)=false by simp];co_applyP tr 15 rfl (ag) pI;co_applyP tr 16 rfl (ag) pI;co_applyP tr 17 rfl ((dO (hu:=U9))) pI;co_applyP tr 18 rfl (dt) pI;rw[b9,show decide ((i:Int)≥(l.length:Int))=false by simp;omega];co_applyP tr 19 rfl (ag) pI;co_applyP tu 20 rfl pI;co_applyP tu 21 rfl pI;co_applyP tu 22 rfl pI;co_applyP tu 23 rfl pI;co_applyP tu 24 rfl pI;co_applyP tr 25 rfl (aH) pI;co_applyP tr 26 rfl aH pI;co_applyP td (by kernel_rfl);co_applyP aE rfl;co_applyP aB;co_applyP aq;co_applyP om rfl rfl rfl aS;co_applyP oan rfl;change∃k',k'<_/\_;rw[e1];exact⟨k-1,by omega,rfl,rfl,i+1,by omega,by omega,rfl⟩
  ·have hat:At L b i (.int .u8 201):=⟨true,_,_,_,hm,by unfold lentc;rw[List.getElem?_toArray,List.getElem?_append_right (by simp;omega),List.getElem?_replicate,if_pos (by simp;omega)]⟩;co_applyP bA a5;co_applyP tr 0 rfl ag pI;co_applyP tr 1 rfl ag pI;co_applyP tr 2 rfl (dO (hu:=U9)) pI;co_applyP tr 3 rfl bi pI;co_applyP tr 4 rfl ag pI;rw[b9,show decide ((i:Int)<(l.length:Int))=false by simp;omega];co_applyP tu 5 rfl pI;co_applyP tu 6 rfl pI;co_applyP tu 7 rfl pI;co_applyP tu 8 rfl pI;co_applyP tu 9 rfl pI;co_applyP tu 10 rfl pI;co_applyP tu 11 rfl pI;co_applyP tu 12 rfl pI;co_applyP tr 13 rfl aH pI;co_applyP tr 14 rfl ag pI;co_applyP tr 15 rfl (ag) pI;co_applyP tr 16 rfl (ag) pI;co_applyP tr 17 rfl ((dO (hu:=U9))) pI;co_applyP tr 18 rfl (dt) pI;rw[b9,show decide ((i:Int)≥(l.length:Int))=true by simp;omega];co_applyP tr 19 rfl (ag) pI;co_applyP tr 20 rfl (ag) pI;co_applyP tr 21 rfl (ag) pI;co_applyP tr 22 rfl ((bw U44 dX)) pI;co_applyP tr 23 rfl ((aA (ht:=eW))) pI;co_applyP tr 24 rfl (dK) pI;co_applyP tr 25 rfl (aH) pI;co_applyP tr 26 rfl aH pI;co_applyP td (by kernel_rfl);co_applyP aE rfl;co_applyP aB;co_applyP aq;co_applyP om rfl rfl rfl aS;co_applyP oan rfl;change∃k',k'<_/\_;rw[e1];exact⟨k-1,by omega,rfl,rfl,i+1,by omega,by omega,rfl⟩
 intro hc;co_applyP bf;co_applyP aa;co_applyP oan rfl;co_applyP aK;change∃v,resE .. =some v/\_;exact⟨_,rfl,rfl,rfl,rfl⟩
theorem xm: ∃n,∀{σ}{F:Fam σ}{Δ:DM F}{main s}(L:Frag),(∀s o,(Δ s).New o)->Fun L->
 CallsM Δ Tryz.prog main 13 [].toArray n s L (fun s' v L'=>s=s'/\v=cfgv (fun _=>5) 50/\Ext L L'):=by
 apply Exists.intro;intro σ F Δ main s L hN hF;co_applyP rZ 3 Tryz.func13 Tryz.ntmps13;co_applyP aa;co_applyP b5 rfl (fO (z:=cfgv (fun _=>0) 0) (hN _ _));intro xr L1 hA;co_applyP ai;co_applyP aa;co_applyP oy rfl (bj (C1 _ _ _));co_applyP oy rfl (bj (C2 _ _ _ _));co_applyP oeN rfl (fun hnd=>j3 (hs:=iD) (vs:=[.int .i64 5, .int .i64 5, .int .i64 5, .int .i64 50]) (hnd:=hnd) (hm:=hA.self) (hi:=Nat.le_refl _));rintro _ L3 ⟨rfl,hU⟩;co_applyP ai;co_applyP aK;change∃v,resM _ _ _ _ v/\_;exact⟨_,⟨_,_,xr,0,4,true,_,_,rfl,rfl,jO,iD,hU.self,Nat.le_refl _,rfl⟩,rfl,rfl,hU.fn,fun t ht=>hU.ne _ (hA.sub _ ht) (hA.new _ ht)⟩
def AloneI (least:Int)(l:List Int):Prop:= ∀i,4*i+1<l.length-> ¬(l.getD (4*i) 0=9/\least<=l.getD (4*i+1) 0/\l.getD (4*i+1) 0<=10/\l.getD (4*i+1) 0≠6)
theorem AloneI.np {least:Int}{l:List Int}(h:AloneI least l)(h7:least<=7):NoPipe l:=fun i v w hv hw e=>by
 have h1:=(List.getElem?_eq_some_iff.1 hw).1;have h2:=h i h1;simp only[List.getD,hv,hw,Option.getD_some] at h2;by_cases h3:w<7
 ·exact .inl h3
 ·by_cases h4:10<w
  ·exact .inr h4
  ·exact absurd ⟨e,by omega,by omega,by omega⟩ h2
theorem zg (K:Nat): ∃n,∀{σ}{F:Fam σ}{Δ:DM F}{main s}(L:Frag)(l:List Int)(least:Nat),Byt l->l.length<=K->K<=4611686018427387904->least<=7->
 CallsL Δ Tryz.prog main 14 [strv l, .int .i64 (least:Nat)].toArray n s L (fun s' v L'=>s=s'/\L=L'/\ ∃r,v= .bool r/\(r=true↔AloneI least l)):=by
 apply Exists.intro;intro σ F Δ main s L l least hB hl hK h7;co_applyP aF 40 Tryz.func14 Tryz.ntmps14;co_applyP aa;co_applyP oan rfl;co_applyP au;co_applyP aa;co_applyP oan rfl;co_applyP aC;co_applyP bg (fun k s' ε' L'=>s=s'/\L=L'/\ ∃i:Nat,k+i=K/\4*i<=l.length+3/\(∀j,j<i->4*j+1<l.length-> ¬(l.getD (4*j) 0=9/\(least:Int)<=l.getD (4*j+1) 0/\l.getD (4*j+1) 0<=10/\l.getD (4*j+1) 0≠6))/\kn ε' [(5, .int .i64 ((4*i:Nat):Int)),(0,strv l),(1, .int .i64 (least:Nat))]) K
 ·exact⟨rfl,rfl,0,rfl,by omega,by omega,rfl⟩
 rintro k s' ε' L' ⟨rfl,rfl,i,hk,hin,hok,he⟩;co_applyP aN he;have e1:IntKind.i64.wrap (((4*i:Nat):Int)+1)=((4*i+1:Nat):Int):=by simp[IntKind.wrap_i64];omega
 co_applyP au;co_applyP aa;co_applyP om rfl rfl rfl aS;co_applyP om rfl rfl rfl (dO (hu:=U9));co_applyP oy rfl bi;co_applyP ai;change wpE ..;rw[e1,b9];co_applyP aT rfl;intro hc
 ·have hi:4*i+1<l.length:=by simp at hc;omega
  have e4:IntKind.i64.wrap (((4*i:Nat):Int)+4)=((4*(i+1):Nat):Int):=by simp[IntKind.wrap_i64];omega
  obtain⟨v,hv⟩: ∃v,l[4*i]? =some v:=⟨_,List.getElem?_eq_getElem (by omega)⟩;obtain⟨w,hw⟩: ∃w,l[4*i+1]? =some w:=⟨_,List.getElem?_eq_getElem hi⟩;have hvb:=hB v (List.mem_of_getElem? hv);have hwb:=hB w (List.mem_of_getElem? hw);have ww:IntKind.i64.wrap w=w:=by simp[IntKind.wrap_i64];omega
  co_applyP aB;co_applyP au;co_applyP aC;co_applyP au;co_applyP cO ([(39, .bool (decide (v=9/\(least:Int)<=w/\w<=10/\w≠6))),(5, .int .i64 ((4*i:Nat):Int)),(0,strv l),(1, .int .i64 (least:Nat))])
  ·skip
   co_applyP aq;co_applyP om rfl rfl rfl ag;co_applyP oy rfl (i9 (i:=((4*i:Nat):Int)) (l:=l) (v:=v) (hu:=U9) (h0:=by omega) (hv:=hv) (hb:=hvb));co_applyP oy rfl aI;co_applyP oy rfl ag;by_cases h9:v=9
   ·rw[show (v==9)=true by simp[h9]];co_applyP om rfl rfl rfl (ag);co_applyP oy rfl (aS);rw[e1];co_applyP oy rfl (i9 (i:=((4*i+1:Nat):Int)) (l:=l) (v:=w) (hu:=U9) (h0:=by omega) (hv:=hw) (hb:=hwb));co_applyP oy rfl ((cF (hs:=U5) (ht:=U3)));co_applyP om rfl rfl rfl (dt);co_applyP oy rfl aH;co_applyP oy rfl ag;rw[ww];by_cases hle:(least:Int)<=w
    ·rw[show decide (w≥(least:Int))=true by simp[hle]];co_applyP om rfl rfl rfl (ag);co_applyP oy rfl (aS);rw[e1];co_applyP oy rfl (i9 (i:=((4*i+1:Nat):Int)) (l:=l) (v:=w) (hu:=U9) (h0:=by omega) (hv:=hw) (hb:=hwb));co_applyP oy rfl (lZ);co_applyP oy rfl aH;co_applyP oy rfl ag;by_cases h10:w<=10
     ·rw[show decide (w<=10)=true by simp[h10]];co_applyP om rfl rfl rfl (ag);co_applyP oy rfl (aS);rw[e1];co_applyP oy rfl (i9 (i:=((4*i+1:Nat):Int)) (l:=l) (v:=w) (hu:=U9) (h0:=by omega) (hv:=hw) (hb:=hwb));co_applyP oy rfl (dK);co_applyP oy rfl aH;co_applyP ai;change _=_/\_=_/\kn _ _;refine⟨rfl,rfl, ?_⟩;rw[show decide (v=9/\(least:Int)<=w/\w<=10/\w≠6)=(w !=6) by simp[h9,hle,h10,bne,Bool.beq_eq_decide_eq]];rfl
     ·rw[show decide (w<=10)=false by simp;omega];co_applyP ou rfl;co_applyP ou rfl;co_applyP ou rfl;co_applyP ou rfl;co_applyP ou rfl;co_applyP oy rfl aH;co_applyP ai;change _=_/\_=_/\kn _ _;refine⟨rfl,rfl, ?_⟩;rw[show decide (v=9/\(least:Int)<=w/\w<=10/\w≠6)=false by simp[h10]];rfl
    ·rw[show decide (w≥(least:Int))=false by simp;omega];co_applyP ou rfl;co_applyP ou rfl;co_applyP ou rfl;co_applyP ou rfl;co_applyP ou rfl;co_applyP oy rfl aH;co_applyP oy rfl ag;co_applyP ou rfl;co_applyP ou rfl;co_applyP ou rfl;co_applyP ou rfl;co_applyP ou rfl;co_applyP oy rfl aH;co_applyP ai;change _=_/\_=_/\kn _ _;refine⟨rfl,rfl, ?_⟩;rw[show decide (v=9/\(least:Int)<=w/\w<=10/\w≠6)=false by simp;omega];rfl
   ·rw[show (v==9)=false by simp[h9]];co_applyP ou rfl;co_applyP ou rfl;co_applyP ou rfl;co_applyP ou rfl;co_applyP ou rfl;co_applyP ou rfl;co_applyP ou rfl;co_applyP oy rfl aH;co_applyP oy rfl ag;co_applyP ou rfl;co_applyP ou rfl;co_applyP ou rfl;co_applyP ou rfl;co_applyP ou rfl;co_applyP oy rfl aH;co_applyP oy rfl ag;co_applyP ou rfl;co_applyP ou rfl;co_applyP ou rfl;co_applyP ou rfl;co_applyP ou rfl;co_applyP oy rfl aH;co_applyP ai;change _=_/\_=_/\kn _ _;refine⟨rfl,rfl, ?_⟩;rw[show decide (v=9/\(least:Int)<=w/\w<=10/\w≠6)=false by simp[h9]];rfl
  co_applyP aT rfl;intro hb;co_applyP aa;co_applyP oan rfl;co_applyP aK;change∃v,resE .. =some v/\_
  ·have hb':v=9/\(least:Int)<=w/\w<=10/\w≠6:=by simpa using hb
   exact⟨_,rfl,rfl,rfl,false,rfl,fun h=>(by cases h),fun h=>absurd (by simp only[List.getD,hv,hw,Option.getD_some];exact hb') (h i hi)⟩
  intro hb;co_applyP aB;co_applyP aq;co_applyP om rfl rfl rfl aS;co_applyP oan rfl;change∃k',k'<_/\_;have hb': ¬(v=9/\(least:Int)<=w/\w<=10/\w≠6):=by simpa using hb
  rw[e4];refine⟨k-1,by omega,rfl,rfl,i+1,by omega,by omega,fun j hj h1=> ?_,rfl⟩;by_cases ej:j=i
  ·subst ej;simp only[List.getD,hv,hw,Option.getD_some];exact hb'
  ·exact hok j (by omega) h1
 intro hc;co_applyP bf;co_applyP aa;co_applyP oan rfl;co_applyP aK;change∃v,resE .. =some v/\_;have hi: ¬4*i+1<l.length:=by simp at hc;omega
 exact⟨_,rfl,rfl,rfl,true,rfl,fun _ j hj=>hok j (by omega) hj,fun _=>rfl⟩
section
variable {C C':Cl->Prop}{ow ow1 ow':Nat->Cl}{L L1 L2 L3 L' B0:Frag}{W:Wo}{H G:Nat}{h g:Hd}{a':Sl}
theorem WI.push (h:WI B0 ow W L)(hx:Ext L L1)(p:ApN L1 105 W.ah ((W.hs.map fun h=>ptr h.1)++[ptr H]) a' L2)(u:Upd L2 W.w (.cells (woc {W with ah:=a',hs:=W.hs++[(H,g)]}) 71) L3)(hH:(H,true,Obj.cells (hcs g) 143)∈L)(hHo:ow H=(0,0))(hg:HdIn ow g L)(hgm:g.m<=W.hs.length+1)(hgl:g.le 3): ∃ow',WI B0 ow' {W with ah:=a',hs:=W.hs++[(H,g)]} L3/\Tu (· =(0,0)) ow L ow' L3:=by
 have ft:Foot (fun b=>W.ah.b=some b\/b=W.w) (fun b=>a'.b=some b\/b=W.w) L L3:=⟨fun t ht hn=>u.ne t (p.sub t (hx.s t ht) fun e=>hn (.inl e)) fun e=>hn (.inr e),fun b hb=>by
  rcases hb with hb|hb
  ·exact(p.d b hb).imp .inl fun hn t ht=>hn t (hx.s t ht)
  ·exact .inl (.inr hb)⟩
 have ow0: ∀b,W.ah.b=some b\/b=W.w->W.own b:=fun b hb=> .inl (hb.elim (fun e=> .inr (.inr (.inl e))) .inl);obtain⟨ow',T,ho⟩:=Tu.of (ow:=ow) (C:=(· =(0,0))) u.fn ft (fun b hb=>h.o b (ow0 b hb)) (fun t ht hb=>h.blkt t ht (ow0 _ hb)) (0,0);have kt: ∀e,105≠e->71≠e-> ∀b cs,(b,true,Obj.cells cs e)∈L->(b,true,Obj.cells cs e)∈L3:=fun e h1 h2 b cs hm=>ft.s _ hm fun hb=>by
  rcases hb with hb|hb
  ·exact h1 (dk h.fn (h.ha.mem hb) hm)
  ·exact h2 (dk h.fn (hb▸h.w) hm)
 refine⟨ow', ?_,T⟩
 exact{
  fn:=u.fn
  w:=u.self
  pa:=h.pa.mono fun b hb o ho=>by
   have e:=(h.fn _ _ _ _ _ ho (h.pa.mem hb)).2;rw[e] at ho⊢;exact kt 102 (by decide) (by decide) _ _ ho
  ha:=by
   have h1:=p.ok;have h2:(W.w,true,Obj.cells (woc W) 71)∈L2:=p.sub _ (hx.s _ h.w) fun e=>absurd (dk h.fn (h.ha.mem e) h.w) (by decide);rw[List.map_append];exact u.ch.keepS (NoT.one p.fn h2 (by decide)) h1
  pb:=fun x hx=>kt _ (by decide) (by decide) _ _ (h.pb x hx)
  hb:=fun x hx=>by
   rcases List.mem_append.1 hx with hx|hx
   ·exact kt _ (by decide) (by decide) _ _ (h.hb x hx)
   ·obtain rfl:x=(H,g):=by simpa using hx
    exact kt _ (by decide) (by decide) _ _ hH
  pi:=fun j x hx=>(h.pi j x hx).tu T (by simp) (by simp)
  hi:=fun x hx=>by
   rcases List.mem_append.1 hx with hx|hx
   ·exact(h.hi x hx).tu T (by simp)
   ·obtain rfl:x=(H,g):=by simpa using hx
    exact hg.tu T (by simp)
  hm:=fun x hx=>by
   have el:(W.hs++[(H,g)]).length=W.hs.length+1:=by simp
   rcases List.mem_append.1 hx with hx|hx
   ·have:=h.hm x hx;exact⟨by simp only[el];omega,this.2⟩
   ·obtain rfl:x=(H,g):=by simpa using hx
    exact⟨by simp only[el];exact hgm,hgl⟩
  nd:=h.nd
  b0:=fun v hv=>⟨T.f v (h.b0 v hv).1 (h.b0 v hv).2,(h.b0 v hv).2⟩
  o:=fun c hc=>by
   rcases hc with (hc|hc|hc|⟨x,hx,rfl⟩)|hc
   ·exact ho c (.inl (.inr hc))
   ·exact ho c (.inr (h.o c (.inl (.inr (.inl hc)))))
   ·exact ho c (.inl (.inl hc))
   ·rcases List.mem_append.1 hx with hx|hx
    ·exact ho _ (.inr (h.o _ (.inl (.inr (.inr (.inr ⟨x,hx,rfl⟩))))))
    ·obtain rfl:x=(H,g):=by simpa using hx
     exact ho _ (.inr hHo)
   ·exact ho c (.inr (h.o c (.inr hc)))}
def Top (W:Wo)(g:Hd):Prop:= ∀x∈W.hs,x.2.m=g.m->(x.2.bs.b=g.bs.b->x.2.bs.n<=g.bs.n)/\(x.2.es.b=g.es.b->x.2.es.n<=g.es.n)/\(x.2.ps.b=g.ps.b->x.2.ps.n<=g.ps.n)
theorem LG.keep {D:Nat->Prop}{h g x:HS}{e:TypeId}{sz:Nat}{p:Nat->Nat->Value}(q:LG h g e sz p L L')(c:Ch D L L')(hD: ∀c,(∃cs,(c,true,Obj.cells cs e)∈L)->D c->h.b=some c) (hx:x.ok e sz p L) (hn:x.b=h.b->x.n<=h.n):x.ok e sz p L':=by
 by_cases e1:x.b=h.b
 ·exact q.k x e1 (hn e1) hx
 ·exact hx.ch c fun b hb hd=>e1 (by rw[hb,hD b (hx.blk hb) hd])
theorem WI.grow (h:WI B0 ow W L){k:Hd}(hk:(H,k)∈W.hs)(ht:Top W k)(q:LGs k g G L L'): ∃ow',WI B0 ow' W L'/\HdIn ow' g L'/\ow' G=(0,0)/\Tu (· =(4,k.m)) ow L ow' L':=by
 have hki:=h.hi _ hk;have ty: ∀c cs e,(c,true,Obj.cells cs e)∈L->(k.bs.b=some c->e=5)/\(k.es.b=some c->e=51)/\(k.ps.b=some c->e=49):=fun c cs e hm=>⟨fun hb=>let ⟨_,h1⟩:=hki.b.blk hb;dk h.fn hm h1,fun hb=>let ⟨_,h1⟩:=hki.e.blk hb;dk h.fn hm h1,fun hb=>let ⟨_,h1⟩:=hki.p.blk hb;dk h.fn hm h1⟩;have bl: ∀c,k.bs.b=some c\/k.es.b=some c\/k.ps.b=some c-> ∃cs e,(c,true,Obj.cells cs e)∈L/\e≠158:=fun c hc=>by
  rcases hc with hc|hc|hc
  ·exact let ⟨cs,h1⟩:=hki.b.blk hc;⟨cs,5,h1,by decide⟩
  ·exact let ⟨cs,h1⟩:=hki.e.blk hc;⟨cs,51,h1,by decide⟩
  ·exact let ⟨cs,h1⟩:=hki.p.blk hc;⟨cs,49,h1,by decide⟩
 obtain⟨ow1,T,ho⟩:=Tu.of (ow:=ow) (C:=(· =(4,k.m))) (ov:=fun c=>k.bs.b=some c\/k.es.b=some c\/k.ps.b=some c) (ov':=fun c=>g.bs.b=some c\/g.es.b=some c\/g.ps.b=some c) q.c.fn ⟨q.c.s,fun b hb=>by
  rcases hb with hb|hb|hb
  ·exact(q.b.d b hb).imp .inl id
  ·exact(q.e.d b hb).imp (fun e=> .inr (.inl e)) id
  ·exact(q.p.d b hb).imp (fun e=> .inr (.inr e)) id⟩ (fun b hb=>hki.o b hb) (fun t ht hb=>by
  obtain⟨cs,e,h1,h2⟩:=bl _ hb;obtain⟨e1,e2⟩:=h.fn _ _ _ _ _ h1 (show (t.1,t.2.1,t.2.2)∈L from ht);refine⟨e1.symm,fun cs' e'=> ?_⟩;rw[e'] at e2;cases e2;exact h2 rfl) (4,k.m)
 have gn: ∀c o f,(c,f,o)∈L->c≠G:=fun c o f hm=>q.n _ hm;have T':Tu (· =(4,k.m)) ow L (fun b=>if b=G then(0,0) else ow1 b) L':=⟨T.fn,fun t ht hn=>⟨(T.s t ht hn).1,(if_neg (q.n t ht)).trans (T.s t ht hn).2⟩,T.g,T.f⟩;have gne: ∀c e,(∃cs,(c,true,Obj.cells cs e)∈L')->e≠143->c≠G:=fun c e ⟨cs,hm⟩ he e'=>he (dk q.c.fn hm (e'▸q.g));obtain⟨mv,mo⟩:=h.mvo T' (by simp);refine⟨_,h.mv T' (fun b o hb=>mv b o (.inl hb)) mo (fun x hx=> ?_) rfl (fun x hx=>mv _ _ (.inr ⟨x,hx,rfl⟩) (h.pb x hx)) (fun j x hx=>(h.pi j x hx).tu T' (by simp) (by simp)),⟨by rw[q.m];exact q.b.ok,by rw[q.m];exact q.e.ok,by rw[q.m];exact q.p.ok,fun c hc=> ?_⟩,by simp,T'⟩
 ·by_cases e:x.2.m=k.m
  ·have hxi:=h.hi x hx;obtain⟨t1,t2,t3⟩:=ht x hx e;refine⟨?_, ?_, ?_,fun c hc=> ?_⟩
   ·rw[e];exact q.b.keep q.c (fun c ⟨cs,hm⟩ hd=>by
     obtain⟨h1,h2,h3⟩:=ty c cs _ hm;rcases hd with hd|hd|hd
     ·exact hd
     ·exact absurd (h2 hd) (by decide)
     ·exact absurd (h3 hd) (by decide)) (e▸hxi.b) t1
   ·rw[e];exact q.e.keep q.c (fun c ⟨cs,hm⟩ hd=>by
     obtain⟨h1,h2,h3⟩:=ty c cs _ hm;rcases hd with hd|hd|hd
     ·exact absurd (h1 hd) (by decide)
     ·exact hd
     ·exact absurd (h3 hd) (by decide)) (e▸hxi.e) t2
   ·rw[e];exact q.p.keep q.c (fun c ⟨cs,hm⟩ hd=>by
     obtain⟨h1,h2,h3⟩:=ty c cs _ hm;rcases hd with hd|hd|hd
     ·exact absurd (h1 hd) (by decide)
     ·exact absurd (h2 hd) (by decide)
     ·exact hd) (e▸hxi.p) t3
   ·have hcL: ∃cs e,(c,true,Obj.cells cs e)∈L:=by
     rcases hc with hc|hc|hc
     ·exact let ⟨cs,h1⟩:=hxi.b.blk hc;⟨cs,5,h1⟩
     ·exact let ⟨cs,h1⟩:=hxi.e.blk hc;⟨cs,51,h1⟩
     ·exact let ⟨cs,h1⟩:=hxi.p.blk hc;⟨cs,49,h1⟩
    obtain⟨cs,e5,h5⟩:=hcL;rw[if_neg (gn _ _ _ h5),e];exact ho c (.inr (by rw[<-e];exact hxi.o c hc))
  ·exact(h.hi x hx).tu T' fun e'=>e (by simpa using e')
 ·have:c≠G:=by
   rcases hc with hc|hc|hc
   ·exact gne c 5 (q.b.ok.blk hc) (by decide)
   ·exact gne c 51 (q.e.ok.blk hc) (by decide)
   ·exact gne c 49 (q.p.ok.blk hc) (by decide)
  rw[if_neg this,q.m];exact ho c (.inl hc)
theorem Top.next (h:WI B0 ow W L){k:Hd}(ht:Top W k)(q:LGs k g G L L'){a':Sl}:Top {W with ah:=a',hs:=W.hs++[(G,g)]} g:=fun x hx hm=>by
 rcases List.mem_append.1 hx with hx|hx
 ·have hxi:=h.hi x hx;obtain⟨t1,t2,t3⟩:=ht x hx (hm.trans q.m);have go: ∀(y a b:HS)(e:TypeId)(sz:Nat)(p p':Nat->Nat->Value),y.ok e sz p L->LG a b e sz p' L L'->(y.b=a.b->y.n<=a.n)->y.b=b.b->y.n<=b.n:=fun y a b e sz p p' hy hq hn e1=>by
   cases hb:b.b with
   |none=>
    unfold HS.ok at hy;rw[e1,hb] at hy;have hy':y.n=0:=hy;omega
   |some c=>
    rw[hb] at e1;rcases hq.d c hb with h1|h1
    ·have:=hn (e1.trans h1.symm);have:=hq.n;omega
    ·obtain⟨cs,h2⟩:=hy.blk e1;exact absurd rfl (h1 _ h2)
  exact⟨go _ _ _ _ _ _ _ hxi.b q.b t1,go _ _ _ _ _ _ _ hxi.e q.e t2,go _ _ _ _ _ _ _ hxi.p q.p t3⟩
 ·obtain rfl:x=(G,g):=by simpa using hx
  exact⟨fun _=>Nat.le_refl _,fun _=>Nat.le_refl _,fun _=>Nat.le_refl _⟩
end
theorem nZ:zeroAt Tryz.prog 105=some (.pointer none):=by kernel_rfl
theorem sH:bytesAt Tryz.prog 105=some 8:=by kernel_rfl
theorem qo (W:Wo)(a':Sl)(H:Nat)(g:Hd):(woc W).setIfInBounds 1 (rowv a' 1 (W.hs.length+1))=woc {W with ah:=a',hs:=W.hs++[(H,g)]}:=by unfold woc;simp
theorem HS.any.blk {h:HS}{e:TypeId}{sz:Nat}{L:Frag}(hh:h.any e sz L){b:Nat}(hb:h.b=some b): ∃cs,(b,true,Obj.cells cs e)∈L:=by
 unfold HS.any at hh;rw[hb] at hh;obtain⟨cs,h1,_⟩:=hh;exact⟨cs,h1⟩
theorem Hd.le.mono {h:Hd}{j k:Nat}(hl:h.le j)(hk:j<=k):h.le k:=⟨Nat.le_trans hl.1 (Nat.add_le_add_left hk _),Nat.le_trans hl.2.1 (Nat.add_le_add_left hk _),Nat.le_trans hl.2.2 (Nat.add_le_add_left hk _)⟩
theorem od: ∃n,∀{σ}{F:Fam σ}{Δ:DM F}{main s}(B0:Frag)(ow:Nat->Cl)(W:Wo)(L:Frag)(H:Nat)(h:Hd),(∀s o,(Δ s).New o)->WI B0 ow W L->(H,true,Obj.cells (hcs h) 143)∈L->ow H=(0,0)-> ¬W.own H->h.bs.any 5 1 L->h.es.any 51 4 L->h.ps.any 49 15 L->(∀c,h.bs.b=some c\/h.es.b=some c\/h.ps.b=some c->ow c=(4,W.hs.length+1))->h.le 0->W.hs.length<=10000000000000->
 CallsL Δ Tryz.prog main 72 [ptr W.w,ptr H].toArray n s L (fun s' v L'=>s=s'/\v= .tuple #[]/\ ∃ow' W',WI B0 ow' W' L'/\W'.w=W.w/\W'.ps=W.ps/\W'.hs.length=W.hs.length+4/\Tu (fun c=>c=(0,0)\/c=(4,W.hs.length+1)) ow L ow' L'):=by
 obtain⟨n1,g1⟩:=zd 140737488351243;obtain⟨n2,g2⟩:=xj;apply Exists.intro;intro σ F Δ main s B0 ow W L H h hN hW hH hHo hHn hbs hes hps hlo hl hln;obtain⟨base,cap,hv,_⟩:=fG hW.ha (n:=W.hs.length) (by simp);have at1: ∀{L':Frag},(W.w,true,Obj.cells (woc W) 71)∈L'->At L' W.w 1 (.slice base W.hs.length cap):=fun hm=>⟨true,_,_,_,hm,by rw[<-hv];rfl⟩;have h1:=at1 hW.w;have e1:IntKind.i64.wrap ((W.hs.length:Int)+1)=((W.hs.length+1:Nat):Int):=by simp[IntKind.wrap_i64];omega
 co_applyP aF 44 Tryz.func72 Tryz.ntmps72;co_applyP aa;co_applyP om rfl rfl rfl ag;co_applyP oy rfl av;co_applyP oy rfl (ak (hf:=fA));co_applyP oy rfl (aA (ht:=pd));co_applyP oy rfl (bt (hu:=U69));co_applyP oy rfl aS;co_applyP oy rfl av;co_applyP oy rfl (ak (hf:=cR));rw[e1];co_applyP osm rfl (hs:=bS) (hm:=hH) (hi:=by show 3<4;decide);intro L1 hU1;have hH1:(H,true,Obj.cells (hcs ⟨h.bs,h.es,h.ps,W.hs.length+1⟩) 143)∈L1:=hU1.self;have no1: ∀e,143≠e->NoT L (· =H) e:=fun e he=>NoT.one hW.fn hH he;have T1:Tu (· =(0,0)) ow L ow L1:=hU1.ch.tu hW.fn fun b hb=>by
  obtain rfl:b=H:=hb;exact⟨hHo,_,_,hH,by decide⟩
 have hW1:WI B0 ow W L1:=hW.mv T1 (fun b o hb hm=>hU1.ne _ hm fun e=>hHn (by have e':b=H:=e;rw[<-e'];exact .inl hb)) hW.o (fun x hx=>(hW.hi x hx).tu T1 (by simp)) rfl (fun x hx=>hU1.ch.keep (no1 _ (by decide)) (hW.pb x hx)) (fun j x hx=>(hW.pi j x hx).tu T1 (by simp) (by simp));have hb1:=hbs.chT hU1.ch (no1 _ (by decide));have he1:=hes.chT hU1.ch (no1 _ (by decide));have hp1:=hps.chT hU1.ch (no1 _ (by decide));co_applyP ai;co_applyP aa;co_applyP oy rfl ag;co_applyP oc rfl rfl rfl (g1 L1 H ⟨h.bs,h.es,h.ps,W.hs.length+1⟩ hU1.fn hH1 hb1 he1 hp1 (Nat.le_trans hl.1 (by decide)) (Nat.le_trans hl.2.1 (by decide)) (Nat.le_trans hl.2.2 (by decide)) (by decide) (by show W.hs.length+1<_;omega));rintro _ _ _ ⟨rfl,rfl,hC,o1,o2,o3⟩;rename_i L2;have T2:Tu (· =(4,W.hs.length+1)) ow L1 ow L2:=hC.tu hU1.fn fun b hb=>⟨hlo b hb,by
  rcases hb with hb|hb|hb
  ·exact let ⟨cs,h1⟩:=hb1.blk hb;⟨cs,5,h1,by decide⟩
  ·exact let ⟨cs,h1⟩:=he1.blk hb;⟨cs,51,h1,by decide⟩
  ·exact let ⟨cs,h1⟩:=hp1.blk hb;⟨cs,49,h1,by decide⟩⟩
 have hW2:WI B0 ow W L2:=hW1.tu0 T2 (by simp) (fun m hm e=>by simp at e;omega) fun j hj=>⟨by simp,by simp⟩;have hH2:=hC.keep (NoT.or (hb1.no hU1.fn (by decide)) (NoT.or (he1.no hU1.fn (by decide)) (hp1.no hU1.fn (by decide)))) hH1;have hk2:HdIn ow ⟨h.bs,h.es,h.ps,W.hs.length+1⟩ L2:=⟨o1,o2,o3,hlo⟩;have h2:=at1 hW2.w;co_applyP ai;co_applyP aa;co_applyP om rfl rfl rfl ag;co_applyP oy rfl av;co_applyP oy rfl (ak (hf:=fA));co_applyP oy rfl (aA (ht:=pd));co_applyP oy rfl ag;co_applyP b5 rfl (oX (hN _ _) (hu:=U69) (hs:=kU) (hz:=nZ));intro nb L3 hA3;have ha3:=hW2.ha.mono fun c hc o ho=>hA3.sub _ ho;co_applyP oeN rfl (fun hnd=>gS (a:=W.ah) (n:=W.hs.length) (xs:=W.hs.map fun h=>ptr h.1) (v:=ptr H) (hx:=by rw[hv];rfl) (hnd:=hnd) (hu:=U69) (hs:=kU) (hb:=sH) (hz:=nZ) (hzs:=rfl) (hN:=fun cs=>hN _ _) (ha:=ha3) (hn:=by simp) (hm:=hA3.self) (hpl:=rfl) (h8:=by omega));rintro _ L4 ⟨a',rfl,hp⟩;have hw4:(W.w,true,Obj.cells (woc W) 71)∈L4:=hp.ch.keep (NoT.sl hA3.fn ha3 (by decide)) (hA3.sub _ hW2.w);co_applyP oy rfl av;co_applyP oy rfl (ak (hf:=fA));co_applyP osm rfl (hs:=zA) (hm:=hw4) (hi:=by show 1<2;decide) (hp:=bW _ _ _);intro L5 hU5;rw[qo W a' H ⟨h.bs,h.es,h.ps,W.hs.length+1⟩] at hU5;obtain⟨ow3,hW3,T3⟩:=hW2.push ⟨hA3.fn,hA3.sub⟩ hp hU5 hH2 hHo hk2 (Nat.le_refl _) (hl.mono (by decide));co_applyP ai;co_applyP aa;co_applyP oy rfl ag;co_applyP oan rfl;co_applyP aa;co_applyP oan rfl;co_applyP aC;co_applyP bg (fun j s' ε' L'=>s=s'/\ ∃(i:Nat) (ow':Nat->Cl) (W':Wo) (G:Nat) (g:Hd),j+i=3/\WI B0 ow' W' L'/\W'.w=W.w/\W'.ps=W.ps/\W'.hs.length=W.hs.length+1+i/\(G,g)∈W'.hs/\g.m=W.hs.length+1/\g.le i/\Top W' g/\Tu (fun c=>c=(0,0)\/c=(4,W.hs.length+1)) ow L ow' L'/\kn ε' [(5, .int .i64 (i:Nat)),(4,ptr G),(0,ptr W.w)]) 3
 ·refine⟨rfl,0,ow3,_,H,⟨h.bs,h.es,h.ps,W.hs.length+1⟩,rfl,hW3,rfl,rfl,by simp,by simp,rfl,hl, ?_,((T1.trans T2).trans T3).mono (fun c hc=>hc.elim id .inl),rfl⟩;intro x hx hm;rcases List.mem_append.1 hx with hx|hx
  ·have:=(hW.hm x hx).1;rw[hm] at this;have:W.hs.length+1<=W.hs.length:=this;omega
  ·obtain rfl:=List.mem_singleton.1 hx;exact⟨fun _=>Nat.le_refl _,fun _=>Nat.le_refl _,fun _=>Nat.le_refl _⟩
 clear h1 h2 at1;rintro j s' ε' L' ⟨rfl,i,ow',W',G,g,hj,hW',ew,ep,el,hG,hgm,hgl,ht,T',he⟩;co_applyP aN he;co_applyP au;co_applyP aa;co_applyP om rfl rfl rfl bi;co_applyP ai;co_applyP aT rfl;intro hc
 ·have hi3:i<3:=by simp at hc;omega
  have hgi:=hW'.hi _ hG;have e2:IntKind.i64.wrap ((i:Int)+1)=((i+1:Nat):Int):=by simp[IntKind.wrap_i64];omega
  obtain⟨base2,cap2,hv2,_⟩:=fG hW'.ha (n:=W'.hs.length) (by simp);co_applyP aB;co_applyP au;co_applyP aC;co_applyP aa;co_applyP oy rfl ag;co_applyP oc rfl rfl rfl (g2 L' G g hN hW'.fn (hW'.hb _ hG) hgi.b hgi.e hgi.p (hgl.mono (by omega)) (by omega));rintro _ _ _ ⟨rfl,G',g',rfl,q⟩;rename_i L2;obtain⟨ow1,hW1,hg',hG0,T1⟩:=hW'.grow hG ht q;have h1:At L2 W.w 1 (.slice base2 W'.hs.length cap2):=⟨true,_,_,_,ew▸hW1.w,by rw[<-hv2];rfl⟩;co_applyP oan rfl;co_applyP aq;co_applyP om rfl rfl rfl ag;co_applyP oy rfl av;co_applyP oy rfl (ak (hf:=fA));co_applyP oy rfl (aA (ht:=pd));co_applyP oy rfl ag;co_applyP b5 rfl (oX (hN _ _) (hu:=U69) (hs:=kU) (hz:=nZ));intro nb L3 hA3;have ha3:=hW1.ha.mono fun c hc o ho=>hA3.sub _ ho;co_applyP oeN rfl (fun hnd=>gS (a:=W'.ah) (n:=W'.hs.length) (xs:=W'.hs.map fun h=>ptr h.1) (v:=ptr G') (hx:=by rw[hv2];rfl) (hnd:=hnd) (hu:=U69) (hs:=kU) (hb:=sH) (hz:=nZ) (hzs:=rfl) (hN:=fun cs=>hN _ _) (ha:=ha3) (hn:=by simp) (hm:=hA3.self) (hpl:=rfl) (h8:=by omega));rintro _ L4 ⟨a',rfl,hp⟩;have hw4:(W.w,true,Obj.cells (woc W') 71)∈L4:=hp.ch.keep (NoT.sl hA3.fn ha3 (by decide)) (hA3.sub _ (ew▸hW1.w));co_applyP oy rfl av;co_applyP oy rfl (ak (hf:=fA));co_applyP osm rfl (hs:=zA) (hm:=hw4) (hi:=by show 1<2;decide) (hp:=bW _ _ _);intro L5 hU5;rw[qo W' a' G' g'] at hU5;have hl':g'.le (i+1):=by
   obtain⟨x1,x2,x3⟩:=hgl;have y1:=q.b.n;have y2:=q.e.n;have y3:=q.p.n;exact⟨by omega,by omega,by omega⟩
  obtain⟨ow3,hW3,T3⟩:=hW1.push (g:=g') ⟨hA3.fn,hA3.sub⟩ hp (by rw[ew];exact hU5) q.g hG0 hg' (by rw[q.m,hgm];omega) (hl'.mono (by omega));co_applyP ai;co_applyP aq;co_applyP om rfl rfl rfl aS;co_applyP oan rfl;change∃k',k'<_/\_;rw[e2];refine⟨j-1,by omega,rfl,i+1,ow3,_,G',g',by omega,hW3,ew,ep, ?_, ?_, ?_,hl',ht.next hW' q,((T'.trans T1).trans T3).mono ?_,rfl⟩
  ·simp;omega
  ·simp
  ·rw[q.m,hgm]
  ·rintro c ((h|h)|h)
   ·exact h
   ·exact .inr (by rw[h,hgm])
   ·exact .inl h
 intro hc;co_applyP bf;change∃v,resE .. =some v/\_;have hi3:i=3:=by simp at hc;omega
 subst hi3;exact⟨_,rfl,rfl,rfl,ow',W',hW',ew,ep,by omega,T'⟩
theorem zh (k:Nat): ∃n,∀{σ}{F:Fam σ}{Δ:DM F}{main s}(B0:Frag)(ow:Nat->Cl)(W:Wo)(L:Frag),WI B0 ow W L->W.hs.length<=k->W.hs.length<=10000000000000->
 CallsL Δ Tryz.prog main 28 [ptr W.w].toArray n s L (fun s' v L'=>s=s'/\v= .bool true/\L=L'):=by
 obtain⟨n1,g1⟩:=xh 140737488351243;apply Exists.intro;intro σ F Δ main s B0 ow W L hW hk hln;obtain⟨base,cap,hv,hat⟩:=fG hW.ha (n:=W.hs.length) (by simp);have h1:At L W.w 1 (.slice base W.hs.length cap):=⟨true,_,_,_,hW.w,by rw[<-hv];rfl⟩;co_applyP aF 24 Tryz.func28 Tryz.ntmps28;co_applyP aa;co_applyP oan rfl;co_applyP au;co_applyP aa;co_applyP oan rfl;co_applyP aC;co_applyP bg (fun j s' ε' L'=>s=s'/\L=L'/\ ∃i:Nat,j+i=k/\i<=W.hs.length/\kn ε' [(3, .int .i64 (i:Nat)),(0,ptr W.w)]) k
 ·exact⟨rfl,rfl,0,rfl,Nat.zero_le _,rfl⟩
 rintro j s' ε' L' ⟨rfl,rfl,i,hj,hin,he⟩;co_applyP aN he;co_applyP au;co_applyP aa;co_applyP om rfl rfl rfl ag;co_applyP oy rfl av;co_applyP oy rfl (ak (hf:=fA));co_applyP oy rfl (aA (ht:=pd));co_applyP oy rfl (bt (hu:=U69));co_applyP oy rfl bi;co_applyP ai;co_applyP aT rfl;intro hc
 ·have hi:i<W.hs.length:=by simp at hc;omega
  obtain⟨x,hx⟩: ∃x,W.hs[i]? =some x:=⟨_,List.getElem?_eq_getElem hi⟩;have hxm:=List.mem_of_getElem? hx;have hxi:=hW.hi x hxm;obtain⟨hm1,hm2,hm3,hm4⟩:=hW.hm x hxm;obtain⟨b,hb,hbs,hbv⟩:=hat i (ptr x.1) (by simp[hx]);subst hbs;have e2:IntKind.i64.wrap ((i:Int)+1)=((i+1:Nat):Int):=by simp[IntKind.wrap_i64];omega
  co_applyP aB;co_applyP au;co_applyP aC;co_applyP aa;co_applyP om rfl rfl rfl av;co_applyP oy rfl (ak (hf:=fA));co_applyP oy rfl (aA (ht:=pd));co_applyP om rfl rfl rfl (bw U69 kU);co_applyP oy rfl (aA (ht:=Ak));co_applyP oc rfl rfl rfl (g1 L x.1 x.2 (hW.hb x hxm) hxi.b hxi.e hxi.p hm2 (by omega) (by omega) (by decide) (by omega));rintro _ _ _ ⟨rfl,rfl,rfl⟩;co_applyP oan rfl;co_applyP aa;co_applyP om rfl rfl rfl cP;co_applyP ai;co_applyP aE rfl;co_applyP aB;co_applyP aq;co_applyP om rfl rfl rfl aS;co_applyP oan rfl;change∃k',k'<_/\_;rw[e2];exact⟨j-1,by omega,rfl,rfl,i+1,by omega,by omega,rfl⟩
 intro hc;co_applyP bf;co_applyP aa;co_applyP oan rfl;co_applyP aK;change∃v,resE .. =some v/\_;exact⟨_,rfl,rfl,rfl,rfl⟩
theorem jg {α:Type}{l:List α}{j:Nat}{x y:α}(h:y∈l.set j x):y=x\/ ∃i,i≠j/\l[i]? =some y:=by
 obtain⟨i,hi⟩:=List.getElem?_of_mem h;rw[List.getElem?_set] at hi
 split at hi
 ·split at hi
  ·exact .inl (Option.some.inj hi).symm
  ·cases hi
 ·exact .inr ⟨i,fun e=>by omega,hi⟩
theorem og {α:Type}{l:List α}{j i:Nat}{x y:α}(h:(l.set j x)[i]? =some y):(i=j/\y=x)\/(i≠j/\l[i]? =some y):=by
 rw[List.getElem?_set] at h
 split at h
 ·split at h
  ·exact .inl ⟨by omega,(Option.some.inj h).symm⟩
  ·cases h
 ·exact .inr ⟨fun e=>by omega,h⟩
theorem jh {α β:Type}(f:α->β){l:List α}{j:Nat}{x y:α}(h:l[j]? =some y)(e:f x=f y):(l.set j x).map f=l.map f:=by
 rw[List.map_set,e];apply List.ext_getElem?;intro i;rw[List.getElem?_set]
 split
 ·subst_vars
  simp[h];exact(List.getElem?_eq_some_iff.1 h).1
 ·rfl
section
variable {C C':Cl->Prop}{ow ow1 ow':Nat->Cl}{L L1 L2 L3 L' B0:Frag}{W:Wo}{j:Nat}{x:Pl}
theorem Tu.new (T:Tu C ow L ow' L')(nw:Nat->Prop)(hn: ∀b,nw b-> ∀t∈L,t.1≠b) (c:Cl): ∃ow2,Tu C ow L ow2 L'/\(∀b,nw b->ow2 b=c)/\ ∀b,¬nw b->ow2 b=ow' b:=by
 classical
 refine⟨fun b=>if nw b then c else ow' b,⟨T.fn,fun t ht hC=>⟨(T.s t ht hC).1, ?_⟩,T.g,T.f⟩,fun b hb=>if_pos hb,fun b hb=>if_neg hb⟩;exact(if_neg fun e=>hn _ e t ht rfl).trans (T.s t ht hC).2
theorem WI.add (h:WI B0 ow W L)(e:Ext L L')(nw:Nat->Prop)(hn: ∀b,nw b-> ∀t∈L,t.1≠b) (c:Cl): ∃ow',WI B0 ow' W L'/\Tu (fun _=>False) ow L ow' L'/\ ∀b,nw b->ow' b=c:=by
 obtain⟨ow',T,h1,_⟩:=(Tu.ext (ow:=ow) e).new nw hn c;exact⟨ow',h.tu0 T id (fun _ _=>id) fun _ _=>⟨id,id⟩,T,h1⟩
theorem WI.ker (h:WI B0 ow W L)(hx:W.ps[j]? =some x){A':Lay}{S' T':St}{G:Frag}(hG: ∀t,t∈G↔t∈L/\ ¬Own x.K x.A x.S t.1) (hR:Rep x.K A' S' G L') (hab:Ab S' T') (nw:Nat->Prop) (hn: ∀b,nw b-> ∀t∈L,t.1≠b) (ho: ∀b,nw b-> ¬Own x.K A' S' b) (c:Cl): ∃ow',WI B0 ow' {W with ps:=W.ps.set j {x with A:=A',S:=S',T:=T'}} L'/\Tu (· =(2,j)) ow L ow' L'/\ ∀b,nw b->ow' b=c:=by
 have hp:=h.pi j x hx;obtain⟨ow1,T1,o1⟩:=Tu.of (ow:=ow) (C:=(· =(2,j))) hR.fn (Rep.foot hG hR) hp.ok hp.k.ownt (2,j);obtain⟨ow',T,o2,o3⟩:=T1.new nw hn c;refine⟨ow',h.tu T (by simp) (by simp) (jh _ hx rfl) (fun y hy=> ?_) (fun i y hy=> ?_),T,o2⟩
 ·rcases jg hy with rfl|⟨i,_,hi⟩
  ·exact⟨x,List.mem_of_getElem? hx,rfl,rfl⟩
  ·exact⟨y,List.mem_of_getElem? hi,rfl,rfl⟩
 ·rcases og hy with ⟨rfl,rfl⟩|⟨hne,hi⟩
  ·obtain⟨r1,r2⟩:=hp.r.tu T hp.or (by simp);exact⟨hR.less fun t ht=>(by cases ht),hab,r1,fun b hb=>by rw[o3 b fun e=>ho b e hb];exact o1 b (.inl hb),r2⟩
  ·exact(h.pi i y hi).tu T (by simp[hne]) (by simp)
theorem WI.ref (h:WI B0 ow W L)(hx:W.ps[j]? =some x){B':RB}{U':St}{X':RX}(hR:Ref x.R B' U' X' L')(f:Foot (OwnR x.R x.B x.U) (OwnR x.R B' U') L L'): ∃ow',WI B0 ow' {W with ps:=W.ps.set j {x with B:=B',U:=U',X:=X'}} L'/\Tu (· =(3,j)) ow L ow' L':=by
 have hp:=h.pi j x hx;obtain⟨ow',T,o1⟩:=Tu.of (ow:=ow) (C:=(· =(3,j))) hR.r.fn f hp.or hp.r.r.ownt (3,j);refine⟨ow',h.tu T (by simp) (by simp) (jh _ hx rfl) (fun y hy=> ?_) (fun i y hy=> ?_),T⟩
 ·rcases jg hy with rfl|⟨i,_,hi⟩
  ·exact⟨x,List.mem_of_getElem? hx,rfl,rfl⟩
  ·exact⟨y,List.mem_of_getElem? hi,rfl,rfl⟩
 ·rcases og hy with ⟨rfl,rfl⟩|⟨hne,hi⟩
  ·obtain⟨r1,r2⟩:=hp.k.tu T hp.ok (by simp);exact⟨r1,hp.ab,hR,r2,fun b hb=>o1 b (.inl hb)⟩
  ·exact(h.pi i y hi).tu T (by simp) (by simp[hne])
theorem WI.tick (h:WI B0 ow W L)(hx:W.ps[j]? =some x){t':Nat}(u:Upd L x.b (.cells (plc {x with t:=t'}) 145) L'):WI B0 ow {W with ps:=W.ps.set j {x with t:=t'}} L'/\Tu (· =(0,0)) ow L ow L':=by
 have hxm:=List.mem_of_getElem? hx;have no: ∀e,145≠e->NoT L (· =x.b) e:=fun e he=>NoT.one h.fn (h.pb x hxm) he;have T:Tu (· =(0,0)) ow L ow L':=u.ch.tu h.fn fun b hb=>by
  obtain rfl:b=x.b:=hb;exact⟨h.o _ (.inr ⟨x,hxm,rfl⟩),_,_,h.pb x hxm,by decide⟩
 refine⟨h.mv T (fun b o hb hm=>u.ne _ hm fun e=> ?_) h.o (fun y hy=>(h.hi y hy).tu T (by simp)) (jh _ hx rfl) (fun y hy=> ?_) (fun i y hy=> ?_),T⟩
 ·have e':b=x.b:=e;subst e';have hb1:=h.pb x hxm;rcases hb with hb|hb|hb|⟨y,hy,hb⟩
  ·exact absurd (dk h.fn hb1 (hb▸h.w)) (by decide)
  ·exact absurd (dk h.fn hb1 (h.pa.mem hb)) (by decide)
  ·exact absurd (dk h.fn hb1 (h.ha.mem hb)) (by decide)
  ·exact absurd (dk h.fn hb1 (hb▸h.hb y hy)) (by decide)
 ·rcases jg hy with rfl|⟨i,hi,hy'⟩
  ·exact u.self
  ·refine u.ne _ (h.pb y (List.mem_of_getElem? hy')) fun e=>hi ?_;have e':y.b=x.b:=e;have h1:=(List.getElem?_eq_some_iff.1 hy').1;exact(List.getElem?_inj (l:=W.ps.map (·.b)) (by simpa using h1) h.nd).1 (by simp[hy',hx,e'])
 ·rcases og hy with ⟨rfl,rfl⟩|⟨hne,hi⟩
  ·have:=(h.pi _ x hx).tu T (by simp) (by simp);exact⟨this.k,this.ab,this.r,this.ok,this.or⟩
  ·exact(h.pi i y hi).tu T (by simp) (by simp)
theorem WI.pushP (h:WI B0 ow W L)(hx:Ext L L1){a':Sl}(p:ApN L1 102 W.ap ((W.ps.map fun x=>ptr x.b)++[ptr x.b]) a' L2)(u:Upd L2 W.w (.cells (woc {W with ap:=a',ps:=W.ps++[x]}) 71) L3)(hb:(x.b,true,Obj.cells (plc x) 145)∈L)(hbo:ow x.b=(0,0))(hbn: ¬W.own x.b)(hp:PlIn ow W.ps.length x L): ∃ow',WI B0 ow' {W with ap:=a',ps:=W.ps++[x]} L3/\Tu (· =(0,0)) ow L ow' L3:=by
 have ft:Foot (fun b=>W.ap.b=some b\/b=W.w) (fun b=>a'.b=some b\/b=W.w) L L3:=⟨fun t ht hn=>u.ne t (p.sub t (hx.s t ht) fun e=>hn (.inl e)) fun e=>hn (.inr e),fun b hb=>by
  rcases hb with hb|hb
  ·exact(p.d b hb).imp .inl fun hn t ht=>hn t (hx.s t ht)
  ·exact .inl (.inr hb)⟩
 have ow0: ∀b,W.ap.b=some b\/b=W.w->W.own b:=fun b hb=> .inl (hb.elim (fun e=> .inr (.inl e)) .inl);obtain⟨ow',T,ho⟩:=Tu.of (ow:=ow) (C:=(· =(0,0))) u.fn ft (fun b hb=>h.o b (ow0 b hb)) (fun t ht hb=>h.blkt t ht (ow0 _ hb)) (0,0);have kt: ∀e,102≠e->71≠e-> ∀b cs,(b,true,Obj.cells cs e)∈L->(b,true,Obj.cells cs e)∈L3:=fun e h1 h2 b cs hm=>ft.s _ hm fun hb=>by
  rcases hb with hb|hb
  ·exact h1 (dk h.fn (h.pa.mem hb) hm)
  ·exact h2 (dk h.fn (hb▸h.w) hm)
 refine⟨ow', ?_,T⟩
 exact{
  fn:=u.fn
  w:=u.self
  ha:=h.ha.mono fun b hb o ho=>by
   have e:=(h.fn _ _ _ _ _ ho (h.ha.mem hb)).2;rw[e] at ho⊢;exact kt 105 (by decide) (by decide) _ _ ho
  pa:=by
   have h1:=p.ok;have h2:(W.w,true,Obj.cells (woc W) 71)∈L2:=p.sub _ (hx.s _ h.w) fun e=>absurd (dk h.fn (h.pa.mem e) h.w) (by decide);rw[List.map_append];exact u.ch.keepS (NoT.one p.fn h2 (by decide)) h1
  pb:=fun y hy=>by
   rcases List.mem_append.1 hy with hy|hy
   ·exact kt _ (by decide) (by decide) _ _ (h.pb y hy)
   ·obtain rfl:y=x:=by simpa using hy
    exact kt _ (by decide) (by decide) _ _ hb
  hb:=fun y hy=>kt _ (by decide) (by decide) _ _ (h.hb y hy)
  pi:=fun i y hy=>by
   rw[List.getElem?_append] at hy
   split at hy
   ·exact(h.pi i y hy).tu T (by simp) (by simp)
   ·rename_i hi;obtain⟨rfl,rfl⟩:i=W.ps.length/\y=x:=by
     rcases hz:i-W.ps.length with _|z
     ·rw[hz] at hy;exact⟨by omega,by simpa using hy.symm⟩
     ·rw[hz] at hy;simp at hy
    exact hp.tu T (by simp) (by simp)
  hi:=fun y hy=>(h.hi y hy).tu T (by simp)
  hm:=h.hm
  nd:=by
   rw[List.map_append];refine List.nodup_append.2 ⟨h.nd,by simp,fun a ha b hb' e=> ?_⟩;obtain⟨y,hy,rfl⟩:=List.mem_map.1 ha;obtain rfl:b=x.b:=by simpa using hb'
   exact hbn (.inr ⟨y,hy,e.symm⟩)
  b0:=fun v hv=>⟨T.f v (h.b0 v hv).1 (h.b0 v hv).2,(h.b0 v hv).2⟩
  o:=fun c hc=>by
   rcases hc with (hc|hc|hc|hc)|⟨y,hy,rfl⟩
   ·exact ho c (.inl (.inr hc))
   ·exact ho c (.inl (.inl hc))
   ·exact ho c (.inr (h.o c (.inl (.inr (.inr (.inl hc))))))
   ·exact ho c (.inr (h.o c (.inl (.inr (.inr (.inr hc))))))
   ·rcases List.mem_append.1 hy with hy|hy
    ·exact ho _ (.inr (h.o _ (.inr ⟨y,hy,rfl⟩)))
    ·obtain rfl:y=x:=by simpa using hy
     exact ho _ (.inr hbo)}
end
def HS.of (a:Sl)(sz n:Nat):HS:=⟨a.b,n,n+a.junk.length/sz⟩
theorem HS.of_v (a:Sl)(sz n:Nat):(HS.of a sz n).v=rowv a sz n:=rfl
theorem HS.of_any {a:Sl}{xs:List Value}{e:TypeId}{L:Frag}{sz n:Nat}(h:slOk a xs e L)(hn:xs.length=n*sz)(h0:0<sz):(HS.of a sz n).any e sz L:=by
 unfold HS.any HS.of;simp only;unfold slOk at h;cases hb:a.b with
 |none=>
  rw[hb] at h;simp only;rw[h.1] at hn;rcases Nat.eq_zero_or_pos n with h1|h1
  ·exact h1
  ·have:=Nat.mul_pos h1 h0;simp at hn;omega
 |some b=>
  rw[hb] at h;refine⟨_,h, ?_,Nat.le_add_right _ _⟩;rw[List.size_toArray,List.length_append,hn,Nat.add_comm,Nat.add_mul_div_right _ _ h0,Nat.add_comm]
theorem xo: ∃n,∀{σ}{F:Fam σ}{Δ:DM F}{main s}(K:Nat)(A:Lay)(S:St)(Fr L:Frag)(b:Nat)(x:PS)(k:Nat×Nat),(∀cs,(Δ s).New (.cells cs 93))->(∀cs,(Δ s).New (.cells cs 96))->Rep K A S Fr L->WGood S->(b,x)∈S.ps->S.wt=[]->
 CallsL Δ Tryz.prog main 105 [ptr K,ptr b,keyv k].toArray n s L (fun s' v L'=>s=s'/\v= .tuple #[]/\ ∃A',WLay A A'/\Rep K A' (S.depart b k) Fr L'):=by
 obtain⟨n0,g0⟩:=vG;refine⟨n0,fun{σ F Δ main s} K A S Fr L b x k hN hN2 hR hW hb hw=> ?_⟩;have h: ∀e∈S.wt,e.1≠k:=by rw[hw];intro e he;cases he
 refine aU (g0 K A S Fr L b k hN hN2 hR h) fun s' v L' ⟨h1,h2,h3⟩=>⟨h1,h2,A,WLay.refl A, ?_⟩;have e:S.depart b k=S:=by unfold St.depart;rw[nk h];rfl
 rw[e];exact h3
theorem uy: ∃n,∀{σ}{F:Fam σ}{Δ:DM F}{main s}(K:Nat)(A:Lay)(S:St)(Fr L:Frag)(eb:Nat->Nat×Nat)(b:Nat)(x:PS),(∀s,NewK (Δ s))->Rep K A S Fr L->Ers eb Fr->Inv S->(b,x)∈S.ps->S.out b->(∀i,i<6->x.f i=(0,0))->
 CallsL Δ Tryz.prog main 108 [ptr K,ptr b].toArray n s L (fun s' v L'=>s=s'/\v= .tuple #[]/\ ∃A',Rep K A' (S.shuts b x.f (List.range' 0 6)) Fr L'):=by
 obtain⟨n1,g1⟩:=vJ;apply Exists.intro;intro σ F Δ main s K A S Fr L eb b x hN hR hE hI hb ho hf0;co_applyP aF 22 Tryz.func108 Tryz.ntmps108;co_applyP aa;co_applyP om rfl rfl rfl av;co_applyP oy rfl (ak (hf:=na));co_applyP oy rfl (bF (ht:=zG) (hs:=zF) (hm:=hR.p _ hb) (hi:=by rw[bL];omega));co_applyP oy rfl ag;co_applyP ai;co_applyP aC;rw[show (0+79:Nat)=79 from rfl,show (79+12:Nat)=91 from rfl,lg];co_applyP bg (fun c s' ε' L'=>s'=s/\ ∃A' S' i,i<=6/\c+i=6/\Rep K A' S' Fr L'/\Shutting b x S S'/\S'.shuts b x.f (List.range' i (6-i))=S.shuts b x.f (List.range' 0 6)/\kn ε' [(0,ptr K),(1,ptr b),(9,filesv x.f),(10, .int .i64 (i:Nat))]) 6
 ·exact⟨rfl,A,S,0,by omega,rfl,hR,⟨hI,rfl,ho,x.f,hb⟩,rfl,rfl⟩
 rintro c s' ε' L' ⟨rfl,A',S',i,hi,hc,hR',hS',hsh,he⟩;co_applyP aN he;have ei:IntKind.i64.wrap ((i:Int)+1)=((i+1:Nat):Int):=by simp[IntKind.wrap_i64];omega
 co_applyP aa;co_applyP oy rfl bi;co_applyP ai;co_applyP au;co_applyP aT rfl;intro hlt
 ·have hi6:i<6:=by simp at hlt;omega
  have e6:List.range' i (6-i)=i::List.range' (i+1) (6-(i+1)):=by
   rw[show 6-i=(6-(i+1))+1 by omega,List.range'_succ]
  rw[e6] at hsh;co_applyP aB;co_applyP au;co_applyP aC;co_applyP aa;co_applyP om rfl rfl rfl (zT (CQ x.f hi6));co_applyP b5 rfl (fO (z:=keyv (0,0)) ((hN _).k _));intro nb L1 hA1;co_applyP oy rfl bR;co_applyP oeN rfl (fun hnd=>j3 (hs:=fP) (vs:=[.int .i64 (x.f i).1, .int .i64 (x.f i).2]) (hnd:=hnd) (hm:=hA1.self) (hi:=Nat.le_refl _));rintro _ L2 ⟨rfl,hU2⟩;co_applyP ai;co_applyP aa;have hR2:=hR'.of hU2.fn (fun t ht=>hU2.ne _ (hA1.sub _ ht) (hA1.new _ ht));co_applyP oy rfl (bF (ht:=kT) (hs:=fP) (hm:=hU2.self) (hi:=Nat.le_refl _));co_applyP oc rfl rfl rfl (g1 L2 (x.f i) (hN _).k);rintro _ _ _ ⟨rfl,rfl,hE3⟩;co_applyP oy rfl cP;co_applyP ai;change wpE ..;have hR3:=hR2.ext hE3;rw[hf0 i hi6];co_applyP aE rfl;co_applyP aB;co_applyP aq;co_applyP oy rfl aS;co_applyP oy rfl ag;co_applyP ai;change∃k',k'<_/\_;have hz':=hf0 i hi6;refine⟨c-1,by omega,rfl,A',S',i+1,by omega,by omega,hR3,hS', ?_,by rw[<-ei];rfl⟩;rw[<-hsh];show _=(if x.f i=(0,0) then S' else S'.shut b i).shuts b x.f _;rw[if_pos hz']
 intro hlt;co_applyP bf;change∃v,resE .. =some v/\_;have hi6:i=6:=by simp at hlt;omega
 subst hi6;refine⟨_,rfl,rfl,rfl,A', ?_⟩;rw[<-hsh];exact hR'
theorem xp: ∃n,∀{p:Par}{Sh:Loc->Prop}{E Dn:Nat}{PostB:World->Prop}{Aft:Goroutine->World->Prop}{W:World}{O:Nat}{G0:List (Nat×Obj)}{vs:List Value}(K:Nat)(A:Lay)(S:St)(Fr L:Frag)(eb:Nat->Nat×Nat)(b:Nat)(x:PS)(status:Int),(∀s,NewK (domT Tryz.prog p Sh E Dn PostB Aft W O G0 s))->Rep K A S Fr L->Ers eb Fr->Inv S->(b,x)∈S.ps->NP S->
 CallsL (domT Tryz.prog p Sh E Dn PostB Aft W O G0) Tryz.prog false 94 [ptr K,ptr b, .int .i64 status, .chan (some E)].toArray n (evt S.now 4 x.id status::vs) L (fun s' v L'=>vs=s'/\v= .tuple #[]/\ ∃A' G,(∀q∈S.ps,(∃z,(q.1,z)∈(S.fin b x status).ps)\/ ∃z,pb q.1 z∈G/\z.st=6)/\Rep K A' (S.fin b x status) (G++Fr) L'):=by
 obtain⟨n1,g1⟩:=AA;obtain⟨n2,g2⟩:=xo;obtain⟨n3,g3⟩:=ng;obtain⟨n4,g4⟩:=ny;obtain⟨n5,g5⟩:=uy;obtain⟨n6,g6⟩:=vI;obtain⟨n7,g7⟩:=j4;apply Exists.intro;intro p Sh E Dn PostB Aft W O G0 vs K A S Fr L eb b x status hN hR hE hI hb hnp;have hx0:At L b 7 (.int .u16 (x.r 0)):=hR.pat hb (cC x (i:=0) (by omega));have ho:=hI.out_depart hb;have hI1:Inv (S.depart b (x.file (x.r 0))):=hI.depart;have hb1:(b,x)∈(S.depart b (x.file (x.r 0))).ps:=hb;have hlv:=hI.g.lv _ hb;have hI2:=hI1.stop1 hb1 ho (s:=6) (by decide);have hb2:(b,{x with st:=6})∈((S.depart b (x.file (x.r 0))).stop1 b x 6).ps:=ar hb1;have hI3:=hI2.alike (x':={x with st:=6,stat:=status}) hb2 rfl rfl rfl rfl rfl;have hb3:(b,{x with st:=6,stat:=status})∈(((S.depart b (x.file (x.r 0))).stop1 b x 6).setP b {x with st:=6,stat:=status}).ps:=ar hb2;have h4:=Shutting.all (b:=b) (x:={x with st:=6,stat:=status}) x.f (List.range' 0 6) ⟨hI3,rfl,ho,x.f,hb3⟩;obtain⟨f',hb4⟩:=h4.m;have h5:=Inv.orphs x.id ((St.shuts (((S.depart b (x.file (x.r 0))).stop1 b x 6).setP b {x with st:=6,stat:=status}) b x.f (List.range' 0 6)).ps.map (·.1)) h4.i;have hfst:(St.orphs (St.shuts (((S.depart b (x.file (x.r 0))).stop1 b x 6).setP b {x with st:=6,stat:=status}) b x.f (List.range' 0 6)) x.id ((St.shuts (((S.depart b (x.file (x.r 0))).stop1 b x 6).setP b {x with st:=6,stat:=status}) b x.f (List.range' 0 6)).ps.map (·.1))).ps.map (·.1)=S.ps.map (·.1):=by
  rw[h5.2,h4.f,ba];show ((S.depart b (x.file (x.r 0))).setP b _).ps.map (·.1)=_;rw[ba];rfl
 have hne:(St.orphs (St.shuts (((S.depart b (x.file (x.r 0))).stop1 b x 6).setP b {x with st:=6,stat:=status}) b x.f (List.range' 0 6)) x.id ((St.shuts (((S.depart b (x.file (x.r 0))).stop1 b x 6).setP b {x with st:=6,stat:=status}) b x.f (List.range' 0 6)).ps.map (·.1))).ps≠[]:=by
  intro e;rw[e] at hfst;have:b∈S.ps.map (·.1):=List.mem_map.2 ⟨(b,x),hb,rfl⟩;rw[<-hfst] at this;simp at this
 co_applyP aF 44 Tryz.func94 Tryz.ntmps94;co_applyP aa;co_applyP om rfl rfl rfl ag;co_applyP om rfl rfl rfl ag;co_applyP oy rfl av;co_applyP oy rfl (ak (hf:=aM));co_applyP oy rfl (ak (hf:=aW));co_applyP oy rfl (aX U47 aV);co_applyP oy rfl (aA (ht:=dw));co_applyP ocm rfl rfl rfl (g1 K A S Fr L b x (x.r 0) (hN _).k hR hb ((hI.wf _ hb).r 0 (by omega)));rintro _ _ _ ⟨rfl,rfl,hF1,hs1⟩;rename_i L1;have hR1:=hR.of hF1 hs1;co_applyP oc rfl rfl rfl (g2 K A S Fr L1 b x (x.file (x.r 0)) (hN _).r (hN _).k hR1 hI.w hb hnp.w);rintro _ _ _ ⟨rfl,rfl,A2,hw2,hR2⟩;co_applyP ai;co_applyP aa;co_applyP om rfl rfl rfl ag;rename_i L2;co_applyP oc rfl rfl rfl (g3 K A2 _ Fr L2 b x 6 hR2 hb1 hlv (hI1.g.r8 hlv) (hI1.g.ex hlv) (fun e he=>dC e.1 hlv));rintro _ _ _ ⟨rfl,rfl,A3,hw3,hR3⟩;co_applyP ai;co_applyP aa;co_applyP om rfl rfl rfl ag;co_applyP oy rfl av;co_applyP oy rfl (ak (hf:=aM));co_applyP oy rfl (ak (hf:=kf));rename_i L3;have hb2':=hb2;co_applyP osm rfl (hs:=bS) (hm:=hR3.p _ hb2) (hi:=by first|decide|(rw[bL];omega)|(rw[bU];omega));intro L4 hU4;have hR4:=hR3.setP (x':={x with st:=6,stat:=status}) hb2 hU4;have hid:At L4 b 0 (.int .i64 (x.id:Nat)):=hR4.pat hb3 (i:=0) rfl;co_applyP ai;co_applyP aa;co_applyP om rfl rfl rfl ag;co_applyP om rfl rfl rfl av;co_applyP oy rfl (ak (hf:=aM));co_applyP oy rfl (ak (hf:=bH));co_applyP oy rfl (aA (ht:=aR));co_applyP oy rfl ag;co_applyP oc rfl rfl rfl (g4 K A3 _ Fr L4 4 x.id status hR4);rintro _ _ _ ⟨rfl,rfl,rfl⟩;co_applyP ai;co_applyP aa;co_applyP om rfl rfl rfl ag;co_applyP oc rfl rfl rfl (g5 K A3 _ Fr L4 eb b _ hN hR4 hE hI3 hb3 ho (hnp.f _ hb));rintro _ _ _ ⟨rfl,rfl,A5,hR5⟩;co_applyP ai;co_applyP aa;co_applyP om rfl rfl rfl ag;rename_i L5;co_applyP oc rfl rfl rfl (g6 K A5 _ Fr L5 b _ hR5 hb4);rintro _ _ _ ⟨rfl,rfl,hrel,hR6⟩;co_applyP ai;co_applyP aq;co_applyP oy rfl ag;rename_i L6;co_applyP oc rfl rfl rfl (g7 K A5 _ Fr L6 (hN _).r hR6 h5.1.g hne);rintro _ _ _ ⟨rfl,rfl,hG,A7,G,hall,hR7⟩;co_applyP ai;change∃v,resE .. =some v/\_;refine⟨_,rfl,rfl,rfl,A7,G,fun q hq=> ?_,hR7⟩;have hm:q.1∈S.ps.map (·.1):=List.mem_map.2 ⟨q,hq,rfl⟩;rw[<-hfst] at hm;obtain⟨q',hq',e⟩:=List.mem_map.1 hm;have:=hall q' hq';rw[e] at this;exact this
theorem xu: ∃n,∀{p:Par}{Sh:Loc->Prop}{E Dn:Nat}{PostB:World->Prop}{Aft:Goroutine->World->Prop}{W:World}{O:Nat}{G0:List (Nat×Obj)}{vs:List Value}(K:Nat)(A:Lay)(S:St)(Fr L:Frag)(eb:Nat->Nat×Nat)(b:Nat)(x:PS)(e:Nat×Nat),(∀s,NewK (domT Tryz.prog p Sh E Dn PostB Aft W O G0 s))->Rep K A S Fr L->Ers eb Fr->Inv S->(b,x)∈S.ps->NP S->
 CallsL (domT Tryz.prog p Sh E Dn PostB Aft W O G0) Tryz.prog false 84 [ptr K,ptr b, .iface 255 (ptq e), .chan (some E)].toArray n (evt S.now 4 x.id 65281::vs) L (fun s' v L'=>vs=s'/\v= .tuple #[]/\ ∃A' G,(∀q∈S.ps,(∃z,(q.1,z)∈(S.fin b x 65281).ps)\/ ∃z,pb q.1 z∈G/\z.st=6)/\Rep K A' (S.fin b x 65281) (G++Fr) L'):=by
 obtain⟨n1,g1⟩:=qZ;obtain⟨n2,g2⟩:=xp;apply Exists.intro;intro p Sh E Dn PostB Aft W O G0 vs K A S Fr L eb b x e hN hR hE hI hb hnp;co_applyP aF 20 Tryz.func84 Tryz.ntmps84;co_applyP aa;co_applyP om rfl rfl rfl (eP (v:= .iface 255 (ptq e)) (c:=false) (hv:= .inr ⟨_,_,rfl,rfl⟩) (hu:=Tryz.underlying168));co_applyP om rfl rfl rfl (ag);co_applyP oy rfl (ag);co_applyP oc rfl rfl rfl (g1 L eb b e (hN _).toNewE (hE.mono hR.fr));rintro _ _ _ ⟨rfl,rfl,hF1,hs1⟩;rename_i L1;have hR1:=hR.of hF1 hs1;co_applyP oy rfl (cP);co_applyP oy rfl aH;co_applyP ai;co_applyP bv rfl;co_applyP aq;co_applyP om rfl rfl rfl ag;co_applyP oy rfl ag;co_applyP oc rfl rfl rfl (g2 K A S Fr L1 eb b x 65281 hN hR1 hE hI hb hnp);rintro _ _ _ ⟨rfl,rfl,A2,G,hall,hR2⟩;co_applyP ai;change∃v,resE .. =some v/\_;exact⟨_,rfl,rfl,rfl,A2,G,hall,hR2⟩
theorem Bv: ∃n,∀{p:Par}{Sh:Loc->Prop}{E Dn:Nat}{PostB:World->Prop}{Aft:Goroutine->World->Prop}{W:World}{O:Nat}{G0:List (Nat×Obj)}{vs:List Value}(K:Nat)(A:Lay)(S:St)(Fr L:Frag)(eb:Nat->Nat×Nat)(b:Nat)(x:PS)(c:Nat)(y:PS),(∀s,NewK (domT Tryz.prog p Sh E Dn PostB Aft W O G0 s))->Rep K A S Fr L->Ers eb Fr->Inv S->(b,x)∈S.ps->S.find (x.r 0)=some (c,y)->y.st≠6->NP S->
 CallsL (domT Tryz.prog p Sh E Dn PostB Aft W O G0) Tryz.prog false 133 [ptr K,ptr b, .chan (some E)].toArray n (evt S.now 4 y.id 65280::vs) L (fun s' v L'=>vs=s'/\v= .nilIface/\ ∃A' G,Stays b ((S.fin c y 65280).r0 b 0) G/\Rep K A' ((S.fin c y 65280).r0 b 0) (G++Fr) L'):=by
 obtain⟨n1,g1⟩:=jt;obtain⟨n2,g2⟩:=xp;apply Exists.intro;intro p Sh E Dn PostB Aft W O G0 vs K A S Fr L eb b x c y hN hR hE hI hb hf h6 hnp;have wx0:0<=x.r 0/\x.r 0<65536:=(hI.wf _ hb).r 0 (by omega);have w0:IntKind.i64.wrap (x.r 0)=x.r 0:=by simp[IntKind.wrap_i64];omega
 have hx0:At L b 7 (.int .u16 (x.r 0)):=hR.pat hb (cC x (i:=0) (by omega));have hc:=(dH hf).1;have hy2:At L c 2 (.int .i64 (y.st:Nat)):=hR.pat hc (i:=2) rfl;have e6:((y.st:Int)==6)=false:=by simp;omega
 have hFb: ∀t∈Fr,t.1≠b:=fun t ht=>(hR.fd t ht).2.1 _ hb;co_applyP aF 37 Tryz.func133 Tryz.ntmps133;co_applyP aa;co_applyP oan rfl;co_applyP aa;co_applyP om rfl rfl rfl ag;co_applyP oy rfl av;co_applyP oy rfl (ak (hf:=aM));co_applyP oy rfl (ak (hf:=aW));co_applyP oy rfl (aX U47 aV);co_applyP oy rfl (aA (ht:=dw));co_applyP oy rfl (cF (hs:=U32) (ht:=U3));simp only[w0];co_applyP oc rfl rfl rfl (g1 K A S Fr L (x.r 0) hR);rintro _ _ _ ⟨rfl,rfl,rfl⟩;rw[hf];co_applyP oan rfl;co_applyP au;co_applyP aa;co_applyP om rfl rfl rfl (fN (hu:=U93));co_applyP om rfl rfl rfl (ag);co_applyP oy rfl (av);co_applyP oy rfl ((ak (hf:=aM)));co_applyP oy rfl ((ak (hf:=bM)));co_applyP oy rfl ((aA (ht:=aR)));co_applyP oy rfl (aI);co_applyP oy rfl aH;co_applyP ai;change wpE ..;rw[e6];co_applyP aE rfl;co_applyP aB;co_applyP aa;co_applyP om rfl rfl rfl ag;co_applyP oy rfl ag;co_applyP oc rfl rfl rfl (g2 K A S Fr L eb c y 65280 hN hR hE hI hc hnp);rintro _ _ _ ⟨rfl,rfl,A2,G,hall,hR2⟩;co_applyP ai;co_applyP aa;co_applyP om rfl rfl rfl av;co_applyP oy rfl (ak (hf:=aM));co_applyP oy rfl (ak (hf:=aW));co_applyP oy rfl (aX U47 aV);rename_i L2;obtain⟨z,hzL,hz⟩:=Stays.at hR2 (hall _ hb);co_applyP osm rfl (hs:=aV) (hm:=hzL) (hi:=by first|decide|(rw[bL];omega)|(rw[bU];omega));intro L3 hU3;rw[eR] at hU3;obtain⟨G',hst,hR3⟩:=hR2.r0 hz hFb hU3;co_applyP ai;co_applyP aa;co_applyP oan rfl;co_applyP aK;change∃v,resE .. =some v/\_;exact⟨_,rfl,rfl,rfl,A2,G',hst,hR3⟩
theorem NP.setP {S:St}{b:Nat}{x x':PS}(h:NP S)(hb:(b,x)∈S.ps)(hf:x'.f=x.f):NP (S.setP b x'):=⟨h.w,fun q hq i hi=>by
 obtain⟨r,hr,e⟩:=List.mem_map.1 hq;by_cases e1:r.1=b
 ·rw[if_pos e1] at e;rw[<-e];show x'.f i=_;rw[hf];exact h.f _ hb i hi
 ·rw[if_neg e1] at e;rw[<-e];exact h.f r hr i hi⟩
def NoPg (S:St):Prop:= ∀i,i<S.pn->S.pg i 0=9->S.pg i 1<7\/10<S.pg i 1
structure RunN (S:St)(b:Nat)(x:PS):Prop extends Running S b x where
 np:NP S
 pg:NoPg S
theorem RunN.setP {S:St}{b:Nat}{x x':PS}(h:RunN S b x)(hs:x'.st=x.st)(hl:x'.lv=x.lv)(hr:x'.r=x.r)(hf:x'.f=x.f)(hm:x'.m=x.m):RunN (S.setP b x') b x':=
 ⟨h.toRunning.setP hs hl hr hf hm,h.np.setP h.m hf,h.pg⟩
theorem xv: ∃n,∀{p:Par}{Sh:Loc->Prop}{E Dn:Nat}{PostB:World->Prop}{Aft:Goroutine->World->Prop}{W:World}{O:Nat}{G0:List (Nat×Obj)}{vs:List Value}(K:Nat)(A:Lay)(S:St)(Fr L:Frag)(eb:Nat->Nat×Nat)(b:Nat)(x:PS),(∀s,NewT (domT Tryz.prog p Sh E Dn PostB Aft W O G0 s))->Rep K A S Fr L->Ers eb Fr->RunN S b x->
 CallsL (domT Tryz.prog p Sh E Dn PostB Aft W O G0) Tryz.prog false 112 [ptr K,ptr b, .int .u8 0, .chan (some E)].toArray n (evt S.now 4 x.id (x.r 0)::vs) L (fun s' v L'=>vs=s'/\v= .nilIface/\ ∃A' G,Stays b (S.fin b x (x.r 0)) G/\Rep K A' (S.fin b x (x.r 0)) (G++Fr) L'):=by
 obtain⟨n0,g0⟩:=xp;apply Exists.intro;intro p Sh E Dn PostB Aft W O G0 vs K A S Fr L eb b x hN hR hE hu;have hI:=hu.i;have hb:=hu.m;have wx0:0<=x.r 0/\x.r 0<65536:=(hI.wf _ hb).r 0 (by omega);have w0:IntKind.i64.wrap (x.r 0)=x.r 0:=by simp[IntKind.wrap_i64];omega
 have hx0:At L b 7 (.int .u16 (x.r 0)):=hR.pat hb (cC x (i:=0) (by omega));have hid:At L b 0 (.int .i64 (x.id:Nat)):=hR.pat hb (i:=0) rfl;co_applyP aF 106 Tryz.func112 Tryz.ntmps112;co_applyP aa;co_applyP oan rfl;co_applyP au;co_applyP aa;co_applyP oy rfl ag;co_applyP ai;co_applyP aC;co_applyP aa;co_applyP oy rfl aI;co_applyP oan rfl;co_applyP bv rfl;co_applyP aq;co_applyP om rfl rfl rfl ag;co_applyP om rfl rfl rfl av;co_applyP oy rfl (ak (hf:=aM));co_applyP oy rfl (ak (hf:=aW));co_applyP oy rfl (aX U47 aV);co_applyP oy rfl (aA (ht:=dw));co_applyP oy rfl (cF (hs:=U32) (ht:=U3));co_applyP oy rfl ag;simp only[w0];co_applyP oc rfl rfl rfl (g0 K A S Fr L eb b x (x.r 0) (fun s=>(hN s).toNewK) hR hE hI hb hu.np);rintro _ _ _ ⟨rfl,rfl,A2,G,hall,hR2⟩;co_applyP ai;co_applyP aa;co_applyP oan rfl;co_applyP aK;change∃v,resE .. =some v/\_;exact⟨_,rfl,rfl,rfl,A2,G,hall _ hb,hR2⟩
theorem xw: ∃n,∀{p:Par}{Sh:Loc->Prop}{E Dn:Nat}{PostB:World->Prop}{Aft:Goroutine->World->Prop}{W:World}{O:Nat}{G0:List (Nat×Obj)}{vs:List Value}(K:Nat)(A:Lay)(S:St)(Fr L:Frag)(eb:Nat->Nat×Nat)(b:Nat)(x:PS)(c:Nat)(y:PS),(∀s,NewT (domT Tryz.prog p Sh E Dn PostB Aft W O G0 s))->Rep K A S Fr L->Ers eb Fr->RunN S b x->S.find (x.r 0)=some (c,y)->y.st≠6->
 CallsL (domT Tryz.prog p Sh E Dn PostB Aft W O G0) Tryz.prog false 112 [ptr K,ptr b, .int .u8 3, .chan (some E)].toArray n (evt S.now 4 y.id 65280::vs) L (fun s' v L'=>vs=s'/\v= .nilIface/\ ∃A' G,Stays b ((S.fin c y 65280).r0 b 0) G/\Rep K A' ((S.fin c y 65280).r0 b 0) (G++Fr) L'):=by
 obtain⟨n0,g0⟩:=Bv;apply Exists.intro;intro p Sh E Dn PostB Aft W O G0 vs K A S Fr L eb b x c y hN hR hE hu hf h6;have hI:=hu.i;have hb:=hu.m;have wx0:0<=x.r 0/\x.r 0<65536:=(hI.wf _ hb).r 0 (by omega);have w0:IntKind.i64.wrap (x.r 0)=x.r 0:=by simp[IntKind.wrap_i64];omega
 have hx0:At L b 7 (.int .u16 (x.r 0)):=hR.pat hb (cC x (i:=0) (by omega));have hid:At L b 0 (.int .i64 (x.id:Nat)):=hR.pat hb (i:=0) rfl;co_applyP aF 106 Tryz.func112 Tryz.ntmps112;co_applyP aa;co_applyP oan rfl;co_applyP au (n₂:=0);co_applyP aa;co_applyP oy rfl ag;co_applyP ai;co_applyP aC;co_applyP aa;co_applyP oy rfl aI;co_applyP oan rfl;co_applyP aE rfl;co_applyP aa;co_applyP oy rfl aI;co_applyP oan rfl;co_applyP aE rfl;co_applyP aa;co_applyP oy rfl aI;co_applyP oan rfl;co_applyP aE rfl;co_applyP aa;co_applyP oy rfl aI;co_applyP oan rfl;co_applyP bv rfl;co_applyP aa;co_applyP om rfl rfl rfl ag;co_applyP oy rfl ag;co_applyP oc rfl rfl rfl (g0 K A S Fr L eb b x c y (fun s=>(hN s).toNewK) hR hE hI hb hf h6 hu.np);rintro _ _ _ ⟨rfl,rfl,A2,G,hst,hR2⟩;co_applyP oan rfl;co_applyP aK;change∃v,resE .. =some v/\_;exact⟨_,rfl,rfl,rfl,A2,G,hst,hR2⟩
theorem sI: ∃n,∀{p:Par}{Sh:Loc->Prop}{E Dn:Nat}{PostB:World->Prop}{Aft:Goroutine->World->Prop}{W:World}{O:Nat}{G0:List (Nat×Obj)}{vs:List Value}(K:Nat)(A:Lay)(S:St)(Fr L:Frag)(eb:Nat->Nat×Nat)(b:Nat)(x:PS)(m:Int),(∀s,NewT (domT Tryz.prog p Sh E Dn PostB Aft W O G0 s))->Rep K A S Fr L->Ers eb Fr->RunN S b x->m<7\/10<m->
 CallsL (domT Tryz.prog p Sh E Dn PostB Aft W O G0) Tryz.prog false 112 [ptr K,ptr b, .int .u8 m, .chan (some E)].toArray n (S.grantE b x m++vs) L (fun s' v L'=>vs=s'/\v=erV eb (S.grantV b x m)/\ ∃A' G c,(∀q∈S.ps,c≠q.1)/\Stays b (S.grantS b x m c) G/\Rep K A' (S.grantS b x m c) (G++Fr) L'):=by
 obtain⟨n0,g0⟩:=xv;obtain⟨n1a,g1a⟩:=vQ;obtain⟨n1b,g1b⟩:=vR;obtain⟨n2,g2⟩:=yC;obtain⟨n3a,g3a⟩:=vS;obtain⟨n3b,g3b⟩:=vT;obtain⟨n3c,g3c⟩:=xw;obtain⟨n4,g4⟩:=yD;obtain⟨n5,g5⟩:=yE;obtain⟨n6,g6⟩:=yF;obtain⟨n11,g11⟩:=vU;obtain⟨n12,g12⟩:=vV;refine⟨n0+(n1a+(n1b+(n2+(n3a+(n3b+(n3c+(n4+(n5+(n6+(n11+n12)))))))))),fun{p Sh E Dn PostB Aft W O G0 vs} K A S Fr L eb b x m hN hR hE hu hm7=> ?_⟩;have hK: ∀q∈S.ps,K≠q.1:=fun q hq=>hR.fn.ne hR.k (hR.p q hq) (aQ (by decide));have hb:=hu.m
 have simple: ∀{n:Nat}{e:Option Nat}{S':St},S.grantE b x m=[]->S.grantV b x m=e->(∀c,S.grantS b x m c=S')->(∃z,(b,z)∈S'.ps)->
  CallsL (domT Tryz.prog p Sh E Dn PostB Aft W O G0) Tryz.prog false 112 [ptr K,ptr b, .int .u8 m, .chan (some E)].toArray n vs L (fun s' v L'=>vs=s'/\v=erV eb e/\ ∃A',Rep K A' S' Fr L')->
  CallsL (domT Tryz.prog p Sh E Dn PostB Aft W O G0) Tryz.prog false 112 [ptr K,ptr b, .int .u8 m, .chan (some E)].toArray n (S.grantE b x m++vs) L (fun s' v L'=>vs=s'/\v=erV eb (S.grantV b x m)/\ ∃A' G c,(∀q∈S.ps,c≠q.1)/\Stays b (S.grantS b x m c) G/\Rep K A' (S.grantS b x m c) (G++Fr) L'):=by
  intro n e S' h1 h2 h3 h4 h;rw[h1,h2];exact aU h fun s' v L' ⟨q1,q2,A',q3⟩=>⟨q1,q2,A',[],K,hK,by rw[h3];exact .inl h4,by rw[h3];exact q3⟩
 refine aZ (m=0) (fun h=> ?_) fun h0=> ?_
 ·subst h;exact aU (g0 K A S Fr L eb b x hN hR hE hu) fun s' v L' ⟨q1,q2,A',G,q3,q4⟩=>⟨q1,q2,A',G,K,hK,q3,q4⟩
 refine aZ (m=1/\8<=S.ps.length) (fun h=> ?_) fun h1=> ?_
 ·obtain⟨rfl,h8⟩:=h;exact simple (e:=some 4) (S':=S) rfl (by simp[St.grantV,h8]) (fun c=>by simp[St.grantS,h8]) ⟨x,hb⟩ (aU (g1a K A S Fr L eb b x hN hR hE hu.toRunning h8) fun s' v L' ⟨q1,q2,q3⟩=>⟨q1,q2,A,q3⟩)
 refine aZ (m=1) (fun h=> ?_) fun h1'=> ?_
 ·subst h;have h8: ¬8<=S.ps.length:=fun h=>h1 ⟨rfl,h⟩;refine aU (g1b K A S Fr L eb b x hN hR hE hu.toRunning (by omega)) fun s' v L' ⟨q1,q2,A',c,q3,q4⟩=>⟨q1,by simp[St.grantV,h8];exact q2,A',[],c,q3, ?_, ?_⟩
  ·simp[St.grantS,h8];exact .inl (yH hb c)
  ·simp[St.grantS,h8];exact q4
 refine aZ (m=2) (fun h=> ?_) fun h2=> ?_
 ·subst h;exact simple rfl rfl (fun c=>rfl) (yG hb hu.s) (g2 K A S Fr L eb b x hN hR hE hu.toRunning)
 refine aZ (m=3/\S.find (x.r 0)=none) (fun h=> ?_) fun h3a=> ?_
 ·obtain⟨rfl,hf⟩:=h;exact simple (by simp[St.grantE,hf]) (e:=some 6) (by simp[St.grantV,hf]) (S':=S) (fun c=>by simp[St.grantS,hf]) ⟨x,hb⟩ (aU (g3a K A S Fr L eb b x hN hR hE hu.toRunning hf) fun s' v L' ⟨q1,q2,q3⟩=>⟨q1,q2,A,q3⟩)
 refine aZ (m=3/\ ∃q,S.find (x.r 0)=some q/\q.2.st=6) (fun h=> ?_) fun h3b=> ?_
 ·obtain⟨rfl,⟨c,y⟩,hf,h6'⟩:=h;have h6:y.st=6:=h6';exact simple (by simp[St.grantE,hf,h6]) (e:=some 6) (by simp[St.grantV,hf,h6]) (S':=S) (fun c=>by simp[St.grantS,hf,h6]) ⟨x,hb⟩ (aU (g3b K A S Fr L eb b x c y hN hR hE hu.toRunning hf h6) fun s' v L' ⟨q1,q2,q3⟩=>⟨q1,q2,A,q3⟩)
 refine aZ (m=3) (fun h=> ?_) fun h3=> ?_
 ·subst h;obtain⟨⟨c,y⟩,hf⟩: ∃q,S.find (x.r 0)=some q:=by
   cases hf:S.find (x.r 0) with
   |none=>exact absurd ⟨rfl,hf⟩ h3a
   |some q=>exact⟨q,rfl⟩
  have h6: ¬y.st=6:=fun h=>h3b ⟨rfl,_,hf,h⟩;have e1:S.grantE b x 3=[evt S.now 4 y.id 65280]:=by simp[St.grantE,hf,h6]
  have e2:S.grantV b x 3=none:=by simp[St.grantV,hf,h6]
  have e3: ∀c',S.grantS b x 3 c'=(S.fin c y 65280).r0 b 0:=fun c'=>by simp[St.grantS,hf,h6]
  rw[e1,e2];exact aU (g3c K A S Fr L eb b x c y hN hR hE hu hf h6) fun s' v L' ⟨q1,q2,A',G,q3,q4⟩=>⟨q1,q2,A',G,K,hK,by rw[e3];exact q3,by rw[e3];exact q4⟩
 refine aZ (m=4) (fun h=> ?_) fun h4=> ?_
 ·subst h;exact simple (e:=none) rfl rfl (fun c=>rfl) (vW hb) (g4 K A S Fr L eb b x hN hR hE hu.toRunning)
 refine aZ (m=5) (fun h=> ?_) fun h5=> ?_
 ·subst h;exact simple (e:=none) rfl rfl (fun c=>rfl) (vX hb) (g5 K A S Fr L eb b x hN hR hE hu.toRunning)
 refine aZ (m=6) (fun h=> ?_) fun h6=> ?_
 ·subst h;exact simple (e:=none) rfl rfl (fun c=>rfl) ⟨_,ar hb⟩ (aU (g6 K A S Fr L eb b x hN hR hE hu.toRunning) fun s' v L' ⟨q1,q2,q3⟩=>⟨q1,q2,A,q3⟩)
 have h7: ¬m=7:=by omega
 have h8: ¬m=8:=by omega
 have h9: ¬m=9:=by omega
 have h10: ¬m=10:=by omega
 refine aZ (m=11) (fun h=> ?_) fun h11=> ?_
 ·subst h;exact aU (g11 K A S Fr L eb b x hN hR hE hu.toRunning) fun s' v L' ⟨q1,q2,q3⟩=>⟨q1,q2,A,[],K,hK, .inl ⟨_,ar hb⟩,q3⟩
 ·have h1'': ¬m=1:=h1';refine simple (e:=some 9) (S':=S) (by simp[St.grantE,h0,h3,h11]) (by simp[St.grantV,h0,h1'',h2,h3,h4,h5,h6,h7,h8,h9,h10,h11]) (fun c=>by simp[St.grantS,h0,h1'',h2,h3,h4,h5,h6,h7,h8,h9,h10,h11]) ⟨x,hb⟩ (aU (g12 K A S Fr L eb b x m hN hR hE hu.toRunning fun i hi1 hi2=> ?_) fun s' v L' ⟨q1,q2,q3⟩=>⟨q1,q2,A,q3⟩);omega
theorem zi: ∃n,∀{p:Par}{Sh:Loc->Prop}{E Dn:Nat}{PostB:World->Prop}{Aft:Goroutine->World->Prop}{W:World}{O:Nat}{G0:List (Nat×Obj)}{vs:List Value}(K:Nat)(A:Lay)(S:St)(Fr L:Frag)(eb:Nat->Nat×Nat)(b:Nat)(x:PS)(m:Int),(∀s,NewT (domT Tryz.prog p Sh E Dn PostB Aft W O G0 s))->Rep K A S Fr L->Ers eb Fr->RunN S b x->m<7\/10<m->S.grantV b x m=none->
 CallsL (domT Tryz.prog p Sh E Dn PostB Aft W O G0) Tryz.prog false 95 [ptr K,ptr b, .int .u8 m, .chan (some E)].toArray n (S.grantE b x m++vs) L (fun s' v L'=>vs=s'/\v= .nilIface/\ ∃A' G c,(∀q∈S.ps,c≠q.1)/\Stays b (S.grantS b x m c) G/\Rep K A' (S.grantS b x m c) (G++Fr) L'):=by
 obtain⟨n0,g0⟩:=sI;obtain⟨n1,g1⟩:=vD;apply Exists.intro;intro p Sh E Dn PostB Aft W O G0 vs K A S Fr L eb b x m hN hR hE hu hm7 hV;co_applyP aF 17 Tryz.func95 Tryz.ntmps95;co_applyP aa;co_applyP oan rfl;co_applyP aa;co_applyP om rfl rfl rfl (cF (hs:=U5) (ht:=U3));co_applyP om rfl rfl rfl ag;co_applyP om rfl rfl rfl ag;co_applyP oc rfl rfl rfl (g0 K A S Fr L eb b x m hN hR hE hu hm7);rintro _ _ _ ⟨rfl,rfl,A2,G,c,hc,hst,hR2⟩;rename_i L2;rw[hV];co_applyP oc rfl rfl rfl (g1 L2 _);rintro _ _ _ ⟨rfl,rfl,rfl⟩;co_applyP oan rfl;co_applyP aK;change∃v,resE .. =some v/\_;exact⟨_,rfl,rfl,rfl,A2,G,c,hc,hst,hR2⟩
theorem zk: ∃n,∀{p:Par}{Sh:Loc->Prop}{E Dn:Nat}{PostB:World->Prop}{Aft:Goroutine->World->Prop}{W:World}{O:Nat}{G0:List (Nat×Obj)}{vs:List Value}(K:Nat)(A:Lay)(S:St)(Fr L:Frag)(eb:Nat->Nat×Nat)(b:Nat)(x:PS)(m:Int)(i:Nat),(∀s,NewT (domT Tryz.prog p Sh E Dn PostB Aft W O G0 s))->Rep K A S Fr L->Ers eb Fr->RunN S b x->m<7\/10<m->S.grantV b x m=some i->
 CallsL (domT Tryz.prog p Sh E Dn PostB Aft W O G0) Tryz.prog false 95 [ptr K,ptr b, .int .u8 m, .chan (some E)].toArray n (S.grantE b x m++vs) L (fun s' v L'=>vs=s'/\ ∃r,v= .iface 180 (ptr r)/\At L' r 1 (erv eb i)/\ ∃A' G c,(∀q∈S.ps,c≠q.1)/\Stays b (S.grantS b x m c) G/\Rep K A' (S.grantS b x m c) (G++Fr) L'):=by
 obtain⟨n0,g0⟩:=sI;obtain⟨n1,g1⟩:=vE;apply Exists.intro;intro p Sh E Dn PostB Aft W O G0 vs K A S Fr L eb b x m i hN hR hE hu hm7 hV;co_applyP aF 17 Tryz.func95 Tryz.ntmps95;co_applyP aa;co_applyP oan rfl;co_applyP aa;co_applyP om rfl rfl rfl (cF (hs:=U5) (ht:=U3));co_applyP om rfl rfl rfl ag;co_applyP om rfl rfl rfl ag;co_applyP oc rfl rfl rfl (g0 K A S Fr L eb b x m hN hR hE hu hm7);rintro _ _ _ ⟨rfl,rfl,A2,G,c,hc,hst,hR2⟩;rename_i L2;rw[hV];co_applyP oc rfl rfl rfl (g1 L2 _ (eb i) (hN _).d);rintro _ _ _ ⟨rfl,r,rfl,hA3⟩;co_applyP oan rfl;co_applyP aK;change∃v,resE .. =some v/\_;exact⟨_,rfl,rfl,r,rfl,⟨true,_,_,_,hA3.self,rfl⟩,A2,G,c,hc,hst,hR2.add hA3⟩
theorem xy: ∃n,∀{p:Par}{Sh:Loc->Prop}{E Dn:Nat}{PostB:World->Prop}{Aft:Goroutine->World->Prop}{W:World}{O:Nat}{G0:List (Nat×Obj)}{vs:List Value}(K:Nat)(A:Lay)(S:St)(Fr L:Frag)(eb:Nat->Nat×Nat)(b:Nat)(x:PS),(∀s,NewT (domT Tryz.prog p Sh E Dn PostB Aft W O G0 s))->Rep K A S Fr L->Ers eb Fr->RunN S b x->x.at_<S.pn->S.pn<=256->S.pg x.at_ 0=9->(S.setP b x.next).grantV b x.next (S.pg x.at_ 1)=none->
 CallsL (domT Tryz.prog p Sh E Dn PostB Aft W O G0) Tryz.prog false 85 [ptr K,ptr b, .chan (some E)].toArray n ((S.setP b x.next).grantE b x.next (S.pg x.at_ 1)++vs) L (fun s' v L'=>vs=s'/\v= .nilIface/\ ∃A' G c,(∀q∈S.ps,c≠q.1)/\Stays b ((S.setP b x.next).grantS b x.next (S.pg x.at_ 1) c) G/\Rep K A' ((S.setP b x.next).grantS b x.next (S.pg x.at_ 1) c) (G++Fr) L'):=by
 obtain⟨n0,g0⟩:=zi;apply Exists.intro;intro p Sh E Dn PostB Aft W O G0 vs K A S Fr L eb b x hN hR hE hu hp h256 h9 hV;have hb:=hu.m;have hat:At L b 4 (.int .i64 (x.at_:Nat)):=hR.pat hb (i:=4) rfl;have hpg:At L K 4 (.slice (some ⟨A.g,0,none⟩) S.pn A.gcap):=hR.kat rfl;have e1:decide ((S.pn:Int)<=(x.at_:Int))=false:=by simp;omega
 obtain⟨hge,hgs⟩:=AM hR hp;have hRm: ∀t∈[kb K (kst A S),pb b x,(A.g,true,Obj.cells A.gc 158)],t∈L:=fun t ht=>by
  simp only[List.mem_cons,List.mem_nil_iff,or_false] at ht;rcases ht with rfl|rfl|rfl
  ·exact hR.k
  ·exact hR.p _ hb
  ·exact hR.g
 have hatR:At [kb K (kst A S),pb b x,(A.g,true,Obj.cells A.gc 158)] b 4 (.int .i64 (x.at_:Nat)):=⟨true,_,_,_,List.mem_cons_of_mem _ List.mem_cons_self,rfl⟩;have hpgR:At [kb K (kst A S),pb b x,(A.g,true,Obj.cells A.gc 158)] K 4 (.slice (some ⟨A.g,0,none⟩) S.pn A.gcap):=⟨true,_,_,_,List.mem_cons_self,rfl⟩;have hgR:(A.g,true,Obj.cells A.gc 158)∈[kb K (kst A S),pb b x,(A.g,true,Obj.cells A.gc 158)]:=List.mem_cons_of_mem _ (List.mem_cons_of_mem _ List.mem_cons_self);have eo:x.at_*4=4*x.at_:=by omega
 have hlt:((x.at_:Nat):Int)<(S.pn:Nat):=by omega
 co_applyP aF 52 Tryz.func85 Tryz.ntmps85;co_applyP aa;co_applyP oan rfl;co_applyP au;co_applyP au;co_applyP bA a5;co_applyP tr 0 rfl ag pI;co_applyP tr 1 rfl av pI;co_applyP tr 2 rfl (ak (hf:=aM)) pI;co_applyP tr 3 rfl (ak (hf:=bT)) pI;co_applyP tr 4 rfl (aA (ht:=aR)) pI;co_applyP tr 5 rfl ag pI;co_applyP tr 6 rfl av pI;co_applyP tr 7 rfl (ak (hf:=eF)) pI;co_applyP tr 8 rfl (aA (ht:=hY)) pI;co_applyP tr 9 rfl (bt (hu:=m7)) pI;co_applyP tr 10 rfl dt pI;co_applyP td (by kernel_rfl);change wpE ..;rw[e1];co_applyP aE rfl;co_applyP aB;co_applyP au;co_applyP br [kb K (kst A S),pb b x,(A.g,true,Obj.cells A.gc 158)] 11 (nf:=0) a5;co_applyP tr 0 rfl ag (aj hRm);co_applyP tr 1 rfl av (aj hRm);co_applyP tr 2 rfl (ak (hf:=eF)) (aj hRm);co_applyP tr 3 rfl (aA (ht:=hY)) (aj hRm);co_applyP tr 4 rfl ag (aj hRm);co_applyP tr 5 rfl av (aj hRm);co_applyP tr 6 rfl (ak (hf:=aM)) (aj hRm);co_applyP tr 7 rfl (ak (hf:=bT)) (aj hRm);co_applyP tr 8 rfl (aA (ht:=aR)) (aj hRm);co_applyP tr 9 rfl (bw m7 dg) (aj hRm);co_applyP tr 10 rfl (bF (ht:=ie) (hs:=dg) (hm:=hgR) (hi:=by omega)) (aj hRm);co_applyP m4 (i:=11) rfl (fO (z:=insnv 0 0 0 0) ((hN _).i _));intro nb L1 hA1;refine⟨aD fun t ht=>hA1.sub _ (hRm t ht), ?_⟩;co_applyP bd;intro hnd1;co_applyP te (i:=12) rfl (j3 (hs:=dg) (vs:=[.int .u8 (S.pg x.at_ 0), .int .u8 (S.pg x.at_ 1), .int .u8 (S.pg x.at_ 2), .int .u8 (S.pg x.at_ 3)]) (hy:=by rw[eo,hge];rfl) (hnd:=hnd1) (hm:=hA1.self) (hi:=Nat.le_refl _));rintro _ _ ⟨rfl,hU2⟩;refine⟨aD fun t ht=>hU2.ne _ (hA1.sub _ (hRm t ht)) (hA1.new _ (hRm t ht)), ?_⟩;rename_i L2;have hR2:=hR.of hU2.fn fun t ht=>hU2.ne _ (hA1.sub _ ht) (hA1.new _ ht);have hn2:(nb,true,Obj.cells #[.int .u8 (S.pg x.at_ 0), .int .u8 (S.pg x.at_ 1), .int .u8 (S.pg x.at_ 2), .int .u8 (S.pg x.at_ 3)] 158)∈L2:=hU2.self;have hn20:At L2 nb 0 (.int .u8 (S.pg x.at_ 0)):=⟨true,_,_,_,hn2,rfl⟩;have hnbb:nb≠b:=fun e=>hA1.new _ (hR.p _ hb) e.symm;have e9:(S.pg x.at_ 0==9)=true:=by simp[h9]
 have w1:IntKind.i64.wrap ((x.at_:Int)+1)=((x.at_+1:Nat):Int):=by simp[IntKind.wrap_i64];omega
 have hat2:At L2 b 4 (.int .i64 (x.at_:Nat)):=hR2.pat hb (i:=4) rfl;co_applyP td (by kernel_rfl);co_applyP au (n₂:=0);co_applyP aa;co_applyP oy rfl (ak (hf:=iJ));co_applyP oy rfl (aA (ht:=eW));co_applyP oy rfl aI;co_applyP ai;change wpE ..;rw[e9];co_applyP bv rfl;co_applyP aa;co_applyP om rfl rfl rfl av;co_applyP oy rfl (ak (hf:=aM));co_applyP oy rfl (ak (hf:=bT));co_applyP oy rfl (aA (ht:=aR));co_applyP oy rfl aS;co_applyP oy rfl av;co_applyP oy rfl (ak (hf:=aM));co_applyP oy rfl (ak (hf:=bT));rw[w1];co_applyP osm rfl (hs:=bS) (hm:=hR2.p _ hb) (hi:=by first|decide|(rw[bL];omega)|(rw[bU];omega));intro L3 hU3;have hR3:=hR2.setP (x':=x.next) hb (by unfold PS.next;rw[<-rU];exact hU3);have hn31:At L3 nb 1 (.int .u8 (S.pg x.at_ 1)):=⟨true,_,_,_,hU3.ne _ hn2 hnbb,rfl⟩;have hu3:RunN (S.setP b x.next) b x.next:=hu.setP rfl rfl rfl rfl rfl
 have hcf: ∀c,(∀q∈(S.setP b x.next).ps,c≠q.1)-> ∀q∈S.ps,c≠q.1:=fun c h q hq e=>by
  have:q.1∈(S.setP b x.next).ps.map (·.1):=by rw[ba];exact List.mem_map.2 ⟨q,hq,rfl⟩
  obtain⟨q',hq',e'⟩:=List.mem_map.1 this;exact h q' hq' (by rw[e,<-e'])
 co_applyP ai;co_applyP aa;co_applyP om rfl rfl rfl ag;co_applyP oy rfl (ak (hf:=kX));co_applyP oy rfl (aA (ht:=eW));co_applyP oy rfl ag;co_applyP oc rfl rfl rfl (g0 K A _ Fr L3 eb b x.next (S.pg x.at_ 1) hN hR3 hE hu3 (hu.pg _ hp h9) hV);rintro _ _ _ ⟨rfl,rfl,A4,G,c,hc,hst,hR4⟩;co_applyP oan rfl;co_applyP aK;change∃v,resE .. =some v/\_;exact⟨_,rfl,rfl,rfl,A4,G,c,hcf c hc,hst,hR4⟩
theorem xz: ∃n,∀{p:Par}{Sh:Loc->Prop}{E Dn:Nat}{PostB:World->Prop}{Aft:Goroutine->World->Prop}{W:World}{O:Nat}{G0:List (Nat×Obj)}{vs:List Value}(K:Nat)(A:Lay)(S:St)(Fr L:Frag)(eb:Nat->Nat×Nat)(b:Nat)(x:PS)(i:Nat),(∀s,NewT (domT Tryz.prog p Sh E Dn PostB Aft W O G0 s))->Rep K A S Fr L->Ers eb Fr->RunN S b x->x.at_<S.pn->S.pn<=256->S.pg x.at_ 0=9->(S.setP b x.next).grantV b x.next (S.pg x.at_ 1)=some i->
 CallsL (domT Tryz.prog p Sh E Dn PostB Aft W O G0) Tryz.prog false 85 [ptr K,ptr b, .chan (some E)].toArray n ((S.setP b x.next).grantE b x.next (S.pg x.at_ 1)++vs) L (fun s' v L'=>vs=s'/\ ∃r,v= .iface 180 (ptr r)/\At L' r 1 (erv eb i)/\ ∃A' G c,(∀q∈S.ps,c≠q.1)/\Stays b ((S.setP b x.next).grantS b x.next (S.pg x.at_ 1) c) G/\Rep K A' ((S.setP b x.next).grantS b x.next (S.pg x.at_ 1) c) (G++Fr) L'):=by
 obtain⟨n0,g0⟩:=zk;apply Exists.intro;intro p Sh E Dn PostB Aft W O G0 vs K A S Fr L eb b x i hN hR hE hu hp h256 h9 hV;have hb:=hu.m;have hat:At L b 4 (.int .i64 (x.at_:Nat)):=hR.pat hb (i:=4) rfl;have hpg:At L K 4 (.slice (some ⟨A.g,0,none⟩) S.pn A.gcap):=hR.kat rfl;have e1:decide ((S.pn:Int)<=(x.at_:Int))=false:=by simp;omega
 obtain⟨hge,hgs⟩:=AM hR hp;have hRm: ∀t∈[kb K (kst A S),pb b x,(A.g,true,Obj.cells A.gc 158)],t∈L:=fun t ht=>by
  simp only[List.mem_cons,List.mem_nil_iff,or_false] at ht;rcases ht with rfl|rfl|rfl
  ·exact hR.k
  ·exact hR.p _ hb
  ·exact hR.g
 have hatR:At [kb K (kst A S),pb b x,(A.g,true,Obj.cells A.gc 158)] b 4 (.int .i64 (x.at_:Nat)):=⟨true,_,_,_,List.mem_cons_of_mem _ List.mem_cons_self,rfl⟩;have hpgR:At [kb K (kst A S),pb b x,(A.g,true,Obj.cells A.gc 158)] K 4 (.slice (some ⟨A.g,0,none⟩) S.pn A.gcap):=⟨true,_,_,_,List.mem_cons_self,rfl⟩;have hgR:(A.g,true,Obj.cells A.gc 158)∈[kb K (kst A S),pb b x,(A.g,true,Obj.cells A.gc 158)]:=List.mem_cons_of_mem _ (List.mem_cons_of_mem _ List.mem_cons_self);have eo:x.at_*4=4*x.at_:=by omega
 have hlt:((x.at_:Nat):Int)<(S.pn:Nat):=by omega
 co_applyP aF 52 Tryz.func85 Tryz.ntmps85;co_applyP aa;co_applyP oan rfl;co_applyP au;co_applyP au;co_applyP bA a5;co_applyP tr 0 rfl ag pI;co_applyP tr 1 rfl av pI;co_applyP tr 2 rfl (ak (hf:=aM)) pI;co_applyP tr 3 rfl (ak (hf:=bT)) pI;co_applyP tr 4 rfl (aA (ht:=aR)) pI;co_applyP tr 5 rfl ag pI;co_applyP tr 6 rfl av pI;co_applyP tr 7 rfl (ak (hf:=eF)) pI;co_applyP tr 8 rfl (aA (ht:=hY)) pI;co_applyP tr 9 rfl (bt (hu:=m7)) pI;co_applyP tr 10 rfl dt pI;co_applyP td (by kernel_rfl);change wpE ..;rw[e1];co_applyP aE rfl;co_applyP aB;co_applyP au;co_applyP br [kb K (kst A S),pb b x,(A.g,true,Obj.cells A.gc 158)] 11 (nf:=0) a5;co_applyP tr 0 rfl ag (aj hRm);co_applyP tr 1 rfl av (aj hRm);co_applyP tr 2 rfl (ak (hf:=eF)) (aj hRm);co_applyP tr 3 rfl (aA (ht:=hY)) (aj hRm);co_applyP tr 4 rfl ag (aj hRm);co_applyP tr 5 rfl av (aj hRm);co_applyP tr 6 rfl (ak (hf:=aM)) (aj hRm);co_applyP tr 7 rfl (ak (hf:=bT)) (aj hRm);co_applyP tr 8 rfl (aA (ht:=aR)) (aj hRm);co_applyP tr 9 rfl (bw m7 dg) (aj hRm);co_applyP tr 10 rfl (bF (ht:=ie) (hs:=dg) (hm:=hgR) (hi:=by omega)) (aj hRm);co_applyP m4 (i:=11) rfl (fO (z:=insnv 0 0 0 0) ((hN _).i _));intro nb L1 hA1;refine⟨aD fun t ht=>hA1.sub _ (hRm t ht), ?_⟩;co_applyP bd;intro hnd1;co_applyP te (i:=12) rfl (j3 (hs:=dg) (vs:=[.int .u8 (S.pg x.at_ 0), .int .u8 (S.pg x.at_ 1), .int .u8 (S.pg x.at_ 2), .int .u8 (S.pg x.at_ 3)]) (hy:=by rw[eo,hge];rfl) (hnd:=hnd1) (hm:=hA1.self) (hi:=Nat.le_refl _));rintro _ _ ⟨rfl,hU2⟩;refine⟨aD fun t ht=>hU2.ne _ (hA1.sub _ (hRm t ht)) (hA1.new _ (hRm t ht)), ?_⟩;rename_i L2;have hR2:=hR.of hU2.fn fun t ht=>hU2.ne _ (hA1.sub _ ht) (hA1.new _ ht);have hn2:(nb,true,Obj.cells #[.int .u8 (S.pg x.at_ 0), .int .u8 (S.pg x.at_ 1), .int .u8 (S.pg x.at_ 2), .int .u8 (S.pg x.at_ 3)] 158)∈L2:=hU2.self;have hn20:At L2 nb 0 (.int .u8 (S.pg x.at_ 0)):=⟨true,_,_,_,hn2,rfl⟩;have hnbb:nb≠b:=fun e=>hA1.new _ (hR.p _ hb) e.symm;have e9:(S.pg x.at_ 0==9)=true:=by simp[h9]
 have w1:IntKind.i64.wrap ((x.at_:Int)+1)=((x.at_+1:Nat):Int):=by simp[IntKind.wrap_i64];omega
 have hat2:At L2 b 4 (.int .i64 (x.at_:Nat)):=hR2.pat hb (i:=4) rfl;co_applyP td (by kernel_rfl);co_applyP au (n₂:=0);co_applyP aa;co_applyP oy rfl (ak (hf:=iJ));co_applyP oy rfl (aA (ht:=eW));co_applyP oy rfl aI;co_applyP ai;change wpE ..;rw[e9];co_applyP bv rfl;co_applyP aa;co_applyP om rfl rfl rfl av;co_applyP oy rfl (ak (hf:=aM));co_applyP oy rfl (ak (hf:=bT));co_applyP oy rfl (aA (ht:=aR));co_applyP oy rfl aS;co_applyP oy rfl av;co_applyP oy rfl (ak (hf:=aM));co_applyP oy rfl (ak (hf:=bT));rw[w1];co_applyP osm rfl (hs:=bS) (hm:=hR2.p _ hb) (hi:=by first|decide|(rw[bL];omega)|(rw[bU];omega));intro L3 hU3;have hR3:=hR2.setP (x':=x.next) hb (by unfold PS.next;rw[<-rU];exact hU3);have hn31:At L3 nb 1 (.int .u8 (S.pg x.at_ 1)):=⟨true,_,_,_,hU3.ne _ hn2 hnbb,rfl⟩;have hu3:RunN (S.setP b x.next) b x.next:=hu.setP rfl rfl rfl rfl rfl
 have hcf: ∀c,(∀q∈(S.setP b x.next).ps,c≠q.1)-> ∀q∈S.ps,c≠q.1:=fun c h q hq e=>by
  have:q.1∈(S.setP b x.next).ps.map (·.1):=by rw[ba];exact List.mem_map.2 ⟨q,hq,rfl⟩
  obtain⟨q',hq',e'⟩:=List.mem_map.1 this;exact h q' hq' (by rw[e,<-e'])
 co_applyP ai;co_applyP aa;co_applyP om rfl rfl rfl ag;co_applyP oy rfl (ak (hf:=kX));co_applyP oy rfl (aA (ht:=eW));co_applyP oy rfl ag;co_applyP oc rfl rfl rfl (g0 K A _ Fr L3 eb b x.next (S.pg x.at_ 1) i hN hR3 hE hu3 (hu.pg _ hp h9) hV);rintro _ _ _ ⟨rfl,r,rfl,hr,A4,G,c,hc,hst,hR4⟩;co_applyP oan rfl;co_applyP aK;change∃v,resE .. =some v/\_;exact⟨_,rfl,rfl,r,rfl,hr,A4,G,c,hcf c hc,hst,hR4⟩
section
variable {S S':St}{b c:Nat}{x x':PS}{N:Nat->Nat}
def ZF (x:PS):Prop:= ∀i,i<6->x.f i=(0,0)
theorem NP.put (h:NP S)(hz:ZF x'):NP (S.setP b x'):=⟨h.w,fun q hq=>by
 obtain⟨r,hr,e⟩:=List.mem_map.1 hq;by_cases e1:r.1=b
 ·rw[if_pos e1] at e;rw[<-e];exact hz
 ·rw[if_neg e1] at e;rw[<-e];exact h.f r hr⟩
theorem NP.eq (h:NP S)(e1:S'.ps=S.ps)(e2:S'.wt=S.wt):NP S':=⟨by rw[e2];exact h.w,by rw[e1];exact h.f⟩
theorem NP.get (h:NP S)(e:S.get b=some x):ZF x:=by
 unfold St.get at e;obtain⟨q,hq,rfl⟩:=Option.map_eq_some_iff.1 e;exact h.f q (List.mem_of_find?_eq_some hq)
theorem NP.wake1 (h:NP S)(hz:ZF x):NP (S.wake1 b x):=(h.put (b:=b) (x':={x with st:=1,used:=0}) hz).eq rfl rfl
theorem NP.wakes: ∀(bs:List Nat){S:St},NP S->NP (S.wakes bs)
 |[],_,h=>h
 |b::bs,S,h=>by
  unfold St.wakes;refine NP.wakes bs ?_
  split
  ·rename_i x hx
   split
   ·exact h.wake1 (h.get hx)
   ·exact h
  ·exact h
theorem NP.lifts: ∀(bs:List Nat){S:St},NP S->NP (S.lifts bs)
 |[],_,h=>h
 |b::bs,S,h=>by
  unfold St.lifts;refine NP.lifts bs ?_
  split
  ·rename_i x hx
   split
   ·have hz:=h.get hx;exact h.put hz
   ·exact h
  ·exact h
theorem NP.lead (h:NP S):NP S.lead:=by
 unfold St.lead St.boost;have h1:NP S.wake:=NP.wakes _ h
 split
 ·exact(NP.lifts _ h1).eq (dQ _ 2).1 (dQ _ 2).2.1
 ·exact h1
theorem NP.orphs (id:Nat): ∀(bs:List Nat){S:St},NP S->NP (S.orphs id bs)
 |[],_,h=>h
 |b::bs,S,h=>by
  unfold St.orphs;refine NP.orphs id bs ?_
  split
  ·rename_i x hx
   split
   ·have hz:=h.get hx;exact h.put hz
   ·exact h
  ·exact h
theorem NP.take (h:NP S)(hz:ZF x)(i:Nat):NP (S.take b x i):=by
 unfold St.take
 split
 ·exact NP.put (S:={S.setPs (S.ps.eraseIdx i) with last:=S.last}) ⟨h.w,fun q hq=>h.f q (List.mem_of_mem_eraseIdx hq)⟩ hz
 ·exact h
theorem NP.parent1 (h:NP S):NP (S.parent1 b):=by
 unfold St.parent1
 split
 ·rename_i x hx;have hz:=h.get hx
  split
  ·split
   ·split
    ·exact(h.take hz _).wake1 hz
    ·exact h
   ·exact h
  ·exact h
 ·exact h
theorem NP.parents: ∀(bs:List Nat){S:St},NP S->NP (S.parents bs)
 |[],_,h=>h
 |b::bs,S,h=>by unfold St.parents;exact NP.parents bs h.parent1
theorem NP.fin (h:NP S)(hg:Good S)(r3: ∀l,3<=l->S.rows l=[]) (hb:(b,x)∈S.ps) (s:Int):NP (S.fin b x s):=by
 rw[nM h hg r3 hb];exact NP.parents _ (NP.orphs _ _ (NP.put (S:=S.gone b) ⟨h.w,h.f⟩ (h.f _ hb)))
theorem NP.r0 (h:NP S)(v:Int):NP (S.r0 b v):=by
 unfold St.r0
 split
 ·rename_i z hz;have hz':=h.get hz;exact h.put hz'
 ·exact h
theorem NP.grant (h:NP S)(hg:Good S)(r3: ∀l,3<=l->S.rows l=[]) (hb:(b,x)∈S.ps) {m:Int} (hm:m<7\/10<m):NP (S.grantS b x m c):=by
 have hz:ZF x:=h.f _ hb;unfold St.grantS;by_cases e0:m=0
 ·rw[if_pos e0];exact h.fin hg r3 hb _
 rw[if_neg e0];by_cases e1:m=1
 ·rw[if_pos e1];by_cases e8:8<=S.ps.length
  ·rw[if_pos e8];exact h
  rw[if_neg e8];unfold St.forkS St.adopt St.taken;refine NP.put (NP.wake1 ⟨h.w,fun q hq=> ?_⟩ hz) hz;rcases List.mem_append.1 hq with hq|hq
  ·exact h.f q hq
  ·rw[List.mem_singleton.1 hq];exact hz
 rw[if_neg e1];by_cases e2:m=2
 ·rw[if_pos e2];unfold St.waitR;by_cases e8:S.hasChild x
  ·rw[if_pos e8];cases S.childAt x with
   |some i=>exact h.take hz i
   |none=>exact(h.put (b:=b) (x':={x with st:=2}) hz).eq rfl rfl
  ·rw[if_neg e8];exact h
 rw[if_neg e2];by_cases e3:m=3
 ·rw[if_pos e3];cases hq:S.find (x.r 0) with
  |some q=>
   simp only;by_cases e8:q.2.st=6
   ·rw[if_pos e8];exact h
   ·rw[if_neg e8];exact NP.r0 (h.fin hg r3 (List.mem_of_find?_eq_some hq) _) 0
  |none=>exact h
 rw[if_neg e3];by_cases e4:m=4
 ·rw[if_pos e4];unfold St.sleep1;by_cases e8:x.r 0=0
  ·rw[if_pos e8];exact h.put hz
  ·rw[if_neg e8];exact((h.put (b:=b) (x':={x.r0 0 with til:=(S.now:Int)+x.r 0}) hz).put (b:=b) (x':={x.r0 0 with til:=(S.now:Int)+x.r 0,st:=3}) hz).eq rfl rfl
 rw[if_neg e4];by_cases e5:m=5
 ·rw[if_pos e5];exact(h.put (b:=b) (x':=x.r0 0) hz).eq rfl rfl
 rw[if_neg e5];by_cases e6:m=6
 ·rw[if_pos e6];exact h.put hz
 rw[if_neg e6,if_neg (by omega),if_neg (by omega),if_neg (by omega),if_neg (by omega)];by_cases e11:m=11
 ·rw[if_pos e11];exact h.put hz
 ·rw[if_neg e11];exact h
theorem NP.turn (h:NP S)(hz:ZF x):NP (S.turn b x):=by
 unfold St.turn
 split
 ·exact h
 ·exact((h.eq (S':=S.setRow x.lv ((S.rows x.lv).erase b)) rfl rfl).put (b:=b) (x':={x with lv:=min (x.lv+1) 2,used:=0}) hz).eq rfl rfl
theorem NP.after (h:NP S):NP (S.after b):=by
 unfold St.after
 split
 ·rename_i z hz;have hz1:=h.get hz;have hz':ZF z.more:=hz1
  split
  ·exact(h.put hz').turn hz'
  ·exact h.put hz'
 ·exact h
theorem NP.run (h:NP S)(hp:NoPg S)(hu:Inv S)(r3: ∀l,3<=l->S.rows l=[]) (hb:(b,x)∈S.ps) (hw:WF x) (hc:Coded S):NP (S.runS b x c):=by
 have hz:ZF x:=h.f _ hb;have hi:=hu.alike (x':=x.next) hb rfl rfl rfl rfl rfl;have h1:NP (S.setP b x.next):=h.put hz;have hb1:(b,x.next)∈(S.setP b x.next).ps:=ar hb;unfold St.runS
 split
 ·exact h.fin hu.g r3 hb _
 ·rename_i hpn
  split
  ·rename_i h9;have hm:=hp _ (Nat.lt_of_not_le hpn) h9
   split
   ·exact NP.r0 (h1.grant hi.g r3 hb1 hm) _
   ·exact h1.grant hi.g r3 hb1 hm
  ·split
   ·rename_i x' hx;have hl:=hc.2 _ (Nat.lt_of_not_le hpn);have:=(nE hw (hl 2 (by decide)) (hl 3 (by decide)) hx).2.2.2.2.2.1;refine h.put fun i hi=> ?_;rw[this];exact hz i hi
   ·exact h.fin hu.g r3 hb _
theorem NP.tick (h:NP S)(hp:NoPg S)(hT:TI N S)(c:Nat):NP (S.tickU c).later:=by
 have hl:=h.lead;have hf:=bQ S;have hpl:NoPg S.lead:=fun i hi=>by rw[hf.pn] at hi;rw[hf.pg];exact hp i hi
 refine NP.eq (S:=S.tickU c) ?_ rfl rfl;unfold St.tickU
 split
 ·exact hl
 ·rename_i b hb
  split
  ·rename_i x hx;obtain⟨y,hy,_⟩:=dn hT.m.lead.i.g hb;rw[bk hT.m.lead.i.g.pn hy] at hx;obtain rfl:y=x:=Option.some.inj hx;exact NP.after (hl.run hpl hT.m.lead.i hT.m.lead.x.r3 hy (hT.m.lead.i.wf _ hy) hT.coded_lead)
  ·exact hl
theorem xA (S:St)(b:Nat):(S.after b).pn=S.pn/\(S.after b).pg=S.pg:=by
 unfold St.after
 split
 ·split
  ·unfold St.turn
   split
   ·exact⟨rfl,rfl⟩
   ·exact⟨rfl,rfl⟩
  ·exact⟨rfl,rfl⟩
 ·exact⟨rfl,rfl⟩
theorem NoPg.tick (hp:NoPg S)(c:Nat):NoPg (S.tickU c).later:=by
 have hf:=bQ S;have h:(S.tickU c).pn=S.pn/\(S.tickU c).pg=S.pg:=by
  unfold St.tickU
  split
  ·exact⟨hf.pn,hf.pg⟩
  ·rename_i b _
   split
   ·rename_i x _;have h2:=(iT S.lead b x c).1;obtain⟨h3,h4⟩:=xA (S.lead.runS b x c) b;exact⟨by rw[h3,h2.pn,hf.pn],by rw[h4,h2.pg,hf.pg]⟩
   ·exact⟨hf.pn,hf.pg⟩
 intro i hi;show (S.tickU c).pg i 0=9->(S.tickU c).pg i 1<7\/10<(S.tickU c).pg i 1;have hi':i<(S.tickU c).pn:=hi;rw[h.1] at hi';rw[h.2];exact hp i hi'
end
end Go.Proofs.YtejkelcaljmnoaaGreatDoor
