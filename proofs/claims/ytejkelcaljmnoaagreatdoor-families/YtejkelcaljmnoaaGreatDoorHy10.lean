/-
  Part 10 of the proof.
  No condition but those that each statement names.
-/
import Derived.Test.YtejkelcaljmnoaaGreatDoorHy09
import Derived.Test.YtejkelcaljmnoaaGreatDoorHy03
import Derived.Test.YtejkelcaljmnoaaGreatDoorHy07
set_option maxRecDepth 100000
set_option maxHeartbeats 4000000
set_option linter.unusedVariables false
set_option linter.unusedSimpArgs false
set_option linter.unusedSectionVars false
namespace Go.Proofs.YtejkelcaljmnoaaGreatDoor
open Go.Conc Go.Hx Go.Lo
def St.trapS (T:St)(b:Nat)(x:PS)(m:Int):St:=if m=5 then T.setP b (x.r0 0) else match T.grantV b x m with
 |some i=>(T.grantS b x m (T.last+1)).r0 b (ansOf i)
 |none=>T.grantS b x m (T.last+1)
def trapX (T:St)(X:RX)(b:Nat)(x:PS)(m:Int):RX:=
 if m=0 then finX X b (x.r 0)
 else if m=3 then(match T.find (x.r 0) with
  |some q=>if q.2.st=6 then X else finX X q.1 65280
  |none=>X)
 else if m=11 then tellX X 3 b (x.r 0%256) else X
section
variable {T:St}{b:Nat}{x:PS}
theorem qk (hn:(T.ps.map (·.1)).Nodup)(hb:(b,x)∈T.ps)(v:Int):T.r0 b v=T.setP b (x.r0 v):=by unfold St.r0;rw[bk hn hb]
theorem yS (hn:(T.ps.map (·.1)).Nodup)(hb:(b,x)∈T.ps):T.trapS b x 1=T.forkT b x:=by
 by_cases h:8<=T.ps.length
 ·simp[St.trapS,St.grantV,St.grantS,St.forkT,h,qk hn hb,ansOf]
 ·simp[St.trapS,St.grantV,St.grantS,St.forkT,h]
theorem yT (hn:(T.ps.map (·.1)).Nodup)(hb:(b,x)∈T.ps):T.trapS b x 2=T.waitS b x:=by
 by_cases h:T.hasChild x=true
 ·simp[St.trapS,St.grantV,St.grantS,St.waitS,St.waitR,h]
 ·simp[St.trapS,St.grantV,St.grantS,St.waitS,St.waitR,h,qk hn hb,ansOf]
def St.noKill (T:St)(x:PS):Bool:=match T.find (x.r 0) with
 |some q=>decide (q.2.st=6)
 |none=>true
theorem ql (hn:(T.ps.map (·.1)).Nodup)(hb:(b,x)∈T.ps)(h:T.noKill x=true)(X:RX):T.trapS b x 3=T.setP b (x.r0 65532)/\trapX T X b x 3=X:=by
 unfold St.noKill at h;cases hf:T.find (x.r 0) with
 |none=>simp[St.trapS,St.grantV,St.grantS,trapX,hf,qk hn hb,ansOf]
 |some q=>
  rw[hf] at h;have h6:q.2.st=6:=by simpa using h
  simp[St.trapS,St.grantV,St.grantS,trapX,hf,h6,qk hn hb,ansOf]
theorem wZ (h:T.noKill x=false)(X:RX): ∃q,T.find (x.r 0)=some q/\q.2.st≠6/\T.trapS b x 3=(T.fin q.1 q.2 65280).r0 b 0/\trapX T X b x 3=finX X q.1 65280:=by
 unfold St.noKill at h;cases hf:T.find (x.r 0) with
 |none=>rw[hf] at h;cases h
 |some q=>
  rw[hf] at h;have h6: ¬q.2.st=6:=by simpa using h
  exact⟨q,rfl,h6,by simp[St.trapS,St.grantV,St.grantS,hf,h6],by simp[trapX,hf,h6]⟩
end
abbrev z47:Value:= .agg #[.int .u16 0, .int .u16 0, .int .u16 0, .int .u16 0, .int .u16 0, .int .u16 0, .int .u16 0, .int .u16 0]
theorem C9:zeroAt Tryz.prog 47=some z47:=by kernel_rfl
abbrev regs (x:PS):List Value:=[.int .u16 (x.r 0), .int .u16 (x.r 1), .int .u16 (x.r 2), .int .u16 (x.r 3), .int .u16 (x.r 4), .int .u16 (x.r 5), .int .u16 (x.r 6), .int .u16 (x.r 7)]
theorem rx4 (x:PS)(e:RE):Value.agg ((rpc x e).extract 7 (7+8))= .agg (regs x).toArray:=by rfl
theorem Da (x:PS):(puts z47.cells 0 (regs x))[0]? =some (.int .u16 (x.r 0)):=by kernel_rfl
theorem Bf: ∃n,∀{σ}{F:Fam σ}{Δ:DM F}{main s}(R:Nat)(B:RB)(T:St)(X:RX)(L:Frag)(b:Nat)(x:PS)(m:Int),(∀s o,(Δ s).New o)->RepR b R B T X L->MI (fun _=>False) (fun b=>b) T->NP T->(b,x)∈T.ps->x.st=1->X.ws.length<=10000->X.now=T.now->T.now<4611686018427387904->T.last<4611686018427387904->(m<7\/10<m)->
 CallsL Δ Tryz.prog main 140 [ptr R,ptr (B.p b), .int .i64 m].toArray n s L (fun s' v L'=>s=s'/\v= .tuple #[]/\ ∃B',To b R B T L B' (T.trapS b x m) (trapX T X b x m) L'):=by
 obtain⟨n1,g1⟩:=wY;obtain⟨n2,g2⟩:=Be;obtain⟨n3,g3⟩:=Bc;obtain⟨n4,g4⟩:=wS;obtain⟨n5,g5⟩:=kw;obtain⟨n6,g6⟩:=nQ;apply Exists.intro;intro σ F Δ main s R B T X L b x m hN hR hM hNP hb hs1 hw hnow hnl hls hm;have hg:=hM.i.g;have hn:=hg.pn;have hout:T.out b:=fun e he=>by rw[hNP.w] at he;cases he
 have wx0:0<=x.r 0/\x.r 0<65536:=(hM.i.wf _ hb).r 0 (by omega);have w0:IntKind.i64.wrap (x.r 0)=x.r 0:=by simp[IntKind.wrap_i64];omega
 have h6:x.st≠6:=by omega
 have ho: ∀y,(b,y)∈T.ps->y.st=1:=fun y hy=>by rw[<-a6 hn hb hy];exact hs1
 have hz:=hR.sz _ hb h6;co_applyP aF 168 Tryz.func140 Tryz.ntmps140;co_applyP aa;co_applyP om rfl rfl rfl av;co_applyP oy rfl (ak (hf:=aG));co_applyP oy rfl (ak (hf:=aW));co_applyP oy rfl (bF (i:=7) (ht:=zA) (hs:=vk) (hm:=hR.p _ hb) (hi:=by rw[bC];decide));rw[rx4];co_applyP b5 rfl (fO (hN _ _) C9);intro nb L1 hA;co_applyP oeN rfl (fun hnd=>j2 (hs:=vk) (vs:=regs x) (hnd:=hnd) (hm:=hA.self) (hi:=Nat.le_refl _));rintro _ L2 ⟨rfl,hU⟩;have hT2:=(hR.to.ext (L2:=L1) ⟨hA.fn,hA.sub⟩).fresh hR hU.ch (fun d hd=>hd▸⟨hR.nown hA.new,hA.new⟩);have hr0:At L2 nb 0 (.int .u16 (x.r 0)):=⟨true,_,_,_,hU.self,Da x⟩;clear hU hA;have hR2:=hT2.r;have sr: ∀{v:Int}{L3:Frag},Upd L2 (B.p b) (.cells ((rpc x (B.e b)).setIfInBounds 7 (.int .u16 v)) 154) L3->To b R B T L {B with e:=put B.e b (B.e b)} (T.setP b (x.r0 v)) X L3:=fun hU=>hT2.trans (To.of (hR2.setP hb hU (x.r0 _) (B.e b) b (ee x _ (i:=0) (by decide) _) (hun:=hR.un _ hb) (hdu:=hR.du _ hb) (ho:=fun _ _ _=>Iff.rfl) (hsz:=hR.sz _ hb)));co_applyP ai;co_applyP aa;co_applyP oy rfl (aX U47 aV);co_applyP oy rfl (aA (ht:=dw));co_applyP oy rfl (cF (hs:=U32) (ht:=U3));co_applyP oan rfl;co_applyP aa;co_applyP oy rfl ag;co_applyP ai;co_applyP aC;co_applyP aa;co_applyP oy rfl aI;co_applyP oan rfl;change wpE ..;rw[w0];co_applyP aT rfl;intro c0;co_applyP aq;co_applyP om rfl rfl rfl ag;co_applyP oy rfl ag
 ·have e:m=0:=by simpa using c0
  subst e;co_applyP oc rfl rfl rfl (g1 b R B T X L2 b x (x.r 0) hN hR2 hM hNP hb h6 hw ho);rintro _ _ _ ⟨rfl,rfl,B3,hT3⟩;co_applyP ai;change∃v,resE .. =some v/\_;exact⟨_,rfl,rfl,rfl,B3,hT2.trans hT3⟩
 intro c0;co_applyP aN (by rfl:kn _ [(17, .int .i64 m),(7, .int .i64 (x.r 0)),(2, .int .i64 m),(1,ptr (B.p b)),(0,ptr R)]);co_applyP aa;co_applyP oy rfl aI;co_applyP oan rfl;co_applyP aT rfl;intro c1;co_applyP aq;co_applyP om rfl rfl rfl ag
 ·have e:m=1:=by simpa using c1
  subst e;co_applyP oc rfl rfl rfl (g2 R B T X L2 b x hN hR2 hM hb hs1 hls);rintro _ _ _ ⟨rfl,rfl,B3,hT3⟩;co_applyP ai;change∃v,resE .. =some v/\_;exact⟨_,rfl,rfl,rfl,B3,by rw[yS hn hb];exact hT2.trans hT3⟩
 intro c1;co_applyP aN (by rfl:kn _ [(17, .int .i64 m),(7, .int .i64 (x.r 0)),(2, .int .i64 m),(1,ptr (B.p b)),(0,ptr R)]);co_applyP aa;co_applyP oy rfl aI;co_applyP oan rfl;co_applyP aT rfl;intro c2;co_applyP aq;co_applyP om rfl rfl rfl ag
 ·have e:m=2:=by simpa using c2
  subst e;co_applyP oc rfl rfl rfl (g3 b R B T X L2 b x hN hR2 hM hb hs1);rintro _ _ _ ⟨rfl,rfl,B3,hT3⟩;co_applyP ai;change∃v,resE .. =some v/\_;exact⟨_,rfl,rfl,rfl,B3,by rw[yT hn hb];exact hT2.trans hT3⟩
 intro c2;co_applyP aN (by rfl:kn _ [(17, .int .i64 m),(7, .int .i64 (x.r 0)),(2, .int .i64 m),(1,ptr (B.p b)),(0,ptr R)]);co_applyP aa;co_applyP oy rfl aI;co_applyP oan rfl;co_applyP aT rfl;intro c3;co_applyP aa;co_applyP om rfl rfl rfl ag
 ·have e:m=3:=by simpa using c3
  subst e;co_applyP oc rfl rfl rfl (g4 b R B T X L2 (x.r 0) hR2 hg.p8);rintro _ _ _ ⟨rfl,rfl,rfl⟩;co_applyP oan rfl;co_applyP au;co_applyP au;co_applyP cO ([(53, .bool (T.noKill x)),(8,optPtr ((T.find (x.r 0)).map fun q=>B.p q.1)),(1,ptr (B.p b)),(0,ptr R)])
  ·cases hf:T.find (x.r 0) with
   |none=>
    co_applyP aq;co_applyP om rfl rfl rfl (fN (hu:=Tryz.underlying155));co_applyP oy rfl ag;co_applyP ou rfl;co_applyP ou rfl;co_applyP ou rfl;co_applyP ou rfl;co_applyP ou rfl;co_applyP ou rfl;co_applyP oy rfl aH;co_applyP ai;change _=_/\_=_/\kn _ _;refine⟨rfl,rfl, ?_⟩;have e:T.noKill x=true:=by unfold St.noKill;rw[hf]
    rw[e];rfl
   |some q=>
    obtain⟨hq,_⟩:=dH hf;have hq2:At L2 (B.p q.1) 2 (.int .i64 (q.2.st:Nat)):=hR2.pat (b:=q.1) (x:=q.2) hq (i:=2) rfl;co_applyP aq;co_applyP om rfl rfl rfl (fN (hu:=Tryz.underlying155));co_applyP om rfl rfl rfl (ag);co_applyP oy rfl (av);co_applyP oy rfl ((ak (hf:=aG)));co_applyP oy rfl ((ak (hf:=bM)));co_applyP oy rfl ((aA (ht:=aR)));co_applyP oy rfl (aI);co_applyP oy rfl aH;co_applyP ai;change _=_/\_=_/\kn _ _;refine⟨rfl,rfl, ?_⟩;have e:T.noKill x=((q.2.st:Int)==6):=by
     unfold St.noKill;rw[hf];by_cases h:q.2.st=6
     ·simp[h]
     ·have: ¬(q.2.st:Int)=6:=by omega
      simp[h,this]
    rw[e];rfl
  co_applyP aT rfl;intro hk;co_applyP aa;co_applyP om rfl rfl rfl av;co_applyP oy rfl (ak (hf:=aG));co_applyP oy rfl (ak (hf:=aW));co_applyP oy rfl (aX U47 aV)
  ·skip
   co_applyP osm rfl (hs:=aV) (hm:=hR2.p _ hb) (hi:=by rw[bC];decide);intro L3 hU3;co_applyP ai;co_applyP aK;change∃v,resE .. =some v/\_;exact⟨_,rfl,rfl,rfl,_,by rw[(ql hn hb hk X).1,(ql hn hb hk X).2];exact sr hU3⟩
  intro hk;co_applyP aB;co_applyP aa;co_applyP om rfl rfl rfl av;co_applyP oy rfl (ak (hf:=aG));co_applyP oy rfl (ak (hf:=aW));co_applyP oy rfl (aX U47 aV);obtain⟨q,hf,hq6,et,ex⟩:=wZ (b:=b) hk X;obtain⟨hq,_⟩:=dH hf;rw[hf];co_applyP osm rfl (hs:=aV) (hm:=hR2.p _ hb) (hi:=by rw[bC];decide);intro L3 hU3;have hT3:=sr hU3;have hM3:=hM.r0 hb hout (v:=0) (by decide);have hN3:NP (T.setP b (x.r0 0)):=⟨hNP.w,fun q hq=>by
   rcases aO hq with rfl|⟨h1,_⟩
   ·exact hNP.f (b,x) hb
   ·exact hNP.f q h1⟩
  have hq3:(q.1,if q.1=b then x.r0 0 else q.2)∈(T.setP b (x.r0 0)).ps:=by
   by_cases e:q.1=b
   ·rw[if_pos e,e];exact ar hb
   ·rw[if_neg e];exact bK hq e
  have h63:(if q.1=b then x.r0 0 else q.2).st≠6:=by
   split
   ·exact h6
   ·exact hq6
  have ho3: ∀y,(b,y)∈(T.setP b (x.r0 0)).ps->y.st=1:=fun y hy=>by
   rcases aO hy with e|⟨_,h2⟩
   ·cases e;exact hs1
   ·exact absurd rfl h2
  co_applyP ai;co_applyP aq;co_applyP om rfl rfl rfl ag;co_applyP oc rfl rfl rfl (g1 b R {B with e:=put B.e b (B.e b)} _ X L3 q.1 _ 65280 hN hT3.r hM3 hN3 hq3 h63 hw ho3);rintro _ _ _ ⟨rfl,rfl,B4,hT4⟩;co_applyP ai;change∃v,resE .. =some v/\_;rw[Bb hM hNP hb (by omega) hq 0 65280 hM3] at hT4;exact⟨_,rfl,rfl,rfl,B4,by rw[et,ex];exact hT3.trans hT4⟩
 intro c3;co_applyP aN (by rfl:kn _ [(17, .int .i64 m),(7, .int .i64 (x.r 0)),(2, .int .i64 m),(1,ptr (B.p b)),(0,ptr R)]);co_applyP aa;co_applyP oy rfl aI;co_applyP oan rfl;co_applyP aT rfl;intro c4;co_applyP aa;co_applyP om rfl rfl rfl av;co_applyP oy rfl (ak (hf:=aG));co_applyP oy rfl (ak (hf:=aW));co_applyP oy rfl (aX U47 aV)
 ·have e:m=4:=by simpa using c4
  subst e;co_applyP osm rfl (hs:=aV) (hm:=hR2.p _ hb) (hi:=by rw[bC];decide);intro L3 hU3;have hT3:=sr hU3;co_applyP ai;co_applyP aa;co_applyP om rfl rfl rfl cx;co_applyP ai;co_applyP aT rfl;intro hp;co_applyP aa;co_applyP om rfl rfl rfl av;co_applyP oy rfl (ak (hf:=aG));co_applyP oy rfl (ak (hf:=bM))
  ·have hp': ¬x.r 0=0:=by simp at hp;omega
   have hb3:=ar (x:=x.r0 0) hb;co_applyP osm rfl (hs:=bS) (hm:=hT3.r.p _ hb3) (hi:=by rw[bC];decide);intro L4 hU4;have hT4:=hT3.trans (To.of (hT3.r.setP hb3 hU4 {x.r0 0 with st:=3,til:=(put B.e b (B.e b) b).un} (put B.e b (B.e b) b) b rfl (hun:=fun _=>rfl) (hdu:=hT3.r.du _ hb3) (ho:=fun _ _ _=>Iff.rfl) (hsz:=fun _=>hz)));rw[bI] at hT4;have hb4:=ar (x:={x.r0 0 with st:=3,til:=(put B.e b (B.e b) b).un}) hb;have hn4:At L4 R 13 (.int .i64 (T.now:Nat)):=by rw[<-hnow];exact hT4.r.kat rfl
   have wn:IntKind.i64.wrap ((T.now:Int)+x.r 0)=(T.now:Int)+x.r 0:=by simp[IntKind.wrap_i64];omega
   co_applyP ai;co_applyP aa;co_applyP om rfl rfl rfl ag;co_applyP oy rfl av;co_applyP oy rfl (ak (hf:=eI));co_applyP oy rfl (aA (ht:=aR));co_applyP om rfl rfl rfl aS;co_applyP oy rfl av;co_applyP oy rfl (ak (hf:=pq));rw[wn];co_applyP osm rfl (hs:=bS) (hm:=hT4.r.p _ hb4) (hi:=by rw[bC];decide);intro L5 hU5;have hT5:=hT4.trans (To.of (hT4.r.setP hb4 hU5 {x.r0 0 with st:=3,til:=(T.now:Int)+x.r 0} {put (put B.e b (B.e b)) b (put B.e b (B.e b) b) b with un:=(T.now:Int)+x.r 0} b rfl (hun:=fun _=>rfl) (hdu:=hT4.r.du _ hb4) (ho:=fun _ _ _=>Iff.rfl) (hsz:=fun _=>hz)));rw[bI] at hT5;have hb5:=ar (x:={x.r0 0 with st:=3,til:=(T.now:Int)+x.r 0}) hb;co_applyP ai;co_applyP aq;co_applyP om rfl rfl rfl ag;co_applyP oc rfl rfl rfl (g5 b R _ _ X L5 b _ hN hT5.r hb5 (fun l hl=>hg.r8 hl) hM.x.r3);rintro _ _ _ ⟨rfl,rfl,B6,hT6⟩;co_applyP ai;change∃v,resE .. =some v/\_;have et:T.trapS b x 4=(T.setP b {x.r0 0 with st:=3,til:=(T.now:Int)+x.r 0}).gone b:=by
    show T.sleep1 b x=(T.gone b).setP b _;rw[iZ hg hM.x.r3 hb];unfold St.sleep1 St.stop1;rw[if_neg hp',bI];rfl
   exact⟨_,rfl,rfl,rfl,B6,by rw[et];exact hT5.trans hT6⟩
  intro hp;co_applyP aB;change∃v,resE .. =some v/\_;have hp':x.r 0=0:=by simp at hp;omega
  exact⟨_,rfl,rfl,rfl,_,by rw[show T.trapS b x 4=T.setP b (x.r0 0) by show T.sleep1 b x=_;unfold St.sleep1;rw[if_pos hp']];exact hT3⟩
 intro c4;co_applyP aN (by rfl:kn _ [(17, .int .i64 m),(7, .int .i64 (x.r 0)),(2, .int .i64 m),(1,ptr (B.p b)),(0,ptr R)]);co_applyP aa;co_applyP oy rfl aI;co_applyP oan rfl;co_applyP aT rfl;intro c5;co_applyP aq;co_applyP om rfl rfl rfl av;co_applyP oy rfl (ak (hf:=aG));co_applyP oy rfl (ak (hf:=aW));co_applyP oy rfl (aX U47 aV)
 ·have e:m=5:=by simpa using c5
  subst e;co_applyP osm rfl (hs:=aV) (hm:=hR2.p _ hb) (hi:=by rw[bC];decide);intro L3 hU3;co_applyP ai;change∃v,resE .. =some v/\_;exact⟨_,rfl,rfl,rfl,_,sr hU3⟩
 intro c5;co_applyP aN (by rfl:kn _ [(17, .int .i64 m),(7, .int .i64 (x.r 0)),(2, .int .i64 m),(1,ptr (B.p b)),(0,ptr R)]);co_applyP aa;co_applyP oy rfl aI;co_applyP oan rfl;co_applyP aT rfl;intro c6
 ·have e:m=6:=by simpa using c6
  subst e;have hid:At L2 (B.p b) 0 (.int .i64 (x.id:Nat)):=hR2.pat hb (i:=0) rfl;co_applyP br [] 11 (nf:=0) a5;co_applyP tr 0 rfl ag pN;co_applyP tr 1 rfl ag pN;co_applyP tr 2 rfl av pN;co_applyP tr 3 rfl (ak (hf:=aG)) pN;co_applyP tr 4 rfl (ak (hf:=bH)) pN;co_applyP t0 5 rfl (aA (ht:=aR)) pN;co_applyP tr 6 rfl (cF (hs:=U3) (ht:=U32)) pN;co_applyP tr 7 rfl av pN;co_applyP tr 8 rfl (ak (hf:=aG)) pN;co_applyP tr 9 rfl (ak (hf:=aW)) pN;co_applyP tr 10 rfl (aX U47 aV) pN;co_applyP bd;intro hnd;co_applyP te (i:=11) rfl (dv (hnd:=hnd) (hm:=hR2.p _ hb) (hi:=by rw[bC];decide) (hs:=aV));rintro _ _ ⟨rfl,hU3⟩;refine⟨aD (by simp), ?_⟩;rw[bZ] at hU3;co_applyP td (by kernel_rfl);change∃v,resE .. =some v/\_;exact⟨_,rfl,rfl,rfl,_,sr hU3⟩
 intro c6;co_applyP aN (by rfl:kn _ [(17, .int .i64 m),(7, .int .i64 (x.r 0)),(2, .int .i64 m),(1,ptr (B.p b)),(0,ptr R)]);co_applyP aa;co_applyP oy rfl aI;co_applyP oan rfl;change wpE ..;have e7:(m==7)=false:=by simp;omega
 have e8:(m==8)=false:=by simp;omega
 have e9:(m==9)=false:=by simp;omega
 have e10:(m==10)=false:=by simp;omega
 rw[e7];co_applyP aE rfl;co_applyP aa;co_applyP oy rfl aI;co_applyP oan rfl;change wpE ..;rw[e8];co_applyP aE rfl;co_applyP au;co_applyP aa;co_applyP oy rfl aI;co_applyP oan rfl;change wpE ..;rw[e9];co_applyP aE rfl;co_applyP aq;co_applyP oy rfl aI;co_applyP oan rfl;change wpE ..;rw[e10];co_applyP aE rfl;co_applyP aa;co_applyP oy rfl aI;co_applyP oan rfl;co_applyP aT rfl;intro c11;co_applyP aa;co_applyP om rfl rfl rfl av;co_applyP oy rfl (ak (hf:=aG));co_applyP oy rfl (ak (hf:=aW));co_applyP oy rfl (aX U47 aV)
 ·have e:m=11:=by simpa using c11
  subst e;co_applyP osm rfl (hs:=aV) (hm:=hR2.p _ hb) (hi:=by rw[bC];decide);intro L3 hU3;have hT3:=sr hU3;have hid3:At L3 (B.p b) 0 (.int .i64 (b:Nat)):=hT3.num hR hb;co_applyP ai;co_applyP aq;co_applyP om rfl rfl rfl ag;co_applyP oy rfl av;co_applyP oy rfl (ak (hf:=aG));co_applyP oy rfl (ak (hf:=bH));co_applyP oy rfl (aA (ht:=aR));co_applyP om rfl rfl rfl eP;have et:(x.r 0).tmod 256=x.r 0%256:=Int.tmod_eq_emod_of_nonneg wx0.1;rw[et];co_applyP oc rfl rfl rfl (g6 b R _ _ X L3 3 b (x.r 0%256) hN hT3.r hw);rintro _ _ _ ⟨rfl,rfl,B4,hT4⟩;co_applyP ai;change∃v,resE .. =some v/\_;exact⟨_,rfl,rfl,rfl,B4,hT3.trans hT4⟩
 intro c11;co_applyP aq;co_applyP om rfl rfl rfl av;co_applyP oy rfl (ak (hf:=aG));co_applyP oy rfl (ak (hf:=aW));co_applyP oy rfl (aX U47 aV);co_applyP osm rfl (hs:=aV) (hm:=hR2.p _ hb) (hi:=by rw[bC];decide);intro L3 hU3;co_applyP ai;change∃v,resE .. =some v/\_;have h0': ¬m=0:=by simpa using c0
 have h1': ¬m=1:=by simpa using c1
 have h2': ¬m=2:=by simpa using c2
 have h3': ¬m=3:=by simpa using c3
 have h4': ¬m=4:=by simpa using c4
 have h5': ¬m=5:=by simpa using c5
 have h6': ¬m=6:=by simpa using c6
 have h11': ¬m=11:=by simpa using c11
 have h7': ¬m=7:=by omega
 have h8': ¬m=8:=by omega
 have h9': ¬m=9:=by omega
 have h10': ¬m=10:=by omega
 have hT3:=sr hU3;have et:T.trapS b x m=T.setP b (x.r0 65529):=by simp[St.trapS,St.grantV,St.grantS,h0',h1',h2',h3',h4',h5',h6',h7',h8',h9',h10',h11',qk hn hb,ansOf]
 have ex:trapX T X b x m=X:=by simp[trapX,h0',h3',h11']
 exact⟨_,rfl,rfl,rfl,_,by rw[et,ex];exact hT3⟩
end Go.Proofs.YtejkelcaljmnoaaGreatDoor
namespace Go.Lo
open Go.Conc Go.Hx
theorem Fits.unw {N:Nat}{ε:Env}{a:Act}(h:Fits N ε a){ops:Array Oper}{o:Oper}{j:Nat}{want:Bool}{d:Tmp}(hg:o.guard=some (j,want))(hd:(ops[j]?).bind (·.dst)=some d)(hl:look ε d=some undef):Region.wanted o (yielded ops a.tmps)=false:=by
 unfold Region.wanted;rw[hg];obtain⟨h1,h2⟩:=h.at_ _ _ hl;have h3:a.tmps[d]? =some undef:=by
  have:d<a.tmps.size:=by rw[h.sz];exact h1
  simp[Array.getD_eq_getD_getElem?,this] at h2;simp[this,h2]
 have h4:yielded ops a.tmps j=none:=by
  unfold yielded;rw[hd];show (match a.tmps[d]? with|some (.bool b)=>some b|_=>none)=none;rw[h3];rfl
 simp only[h4];rfl
section
variable {σ:Type}{F:Fam σ}{Δ: ∀s,Dom (F.R s) (F.D s)} {P:Program} {main:Bool} {fn:FuncId} {N:Nat} {Q:σ->Exit->Env->Frag->Prop} {s:σ} {ε:Env} {L:Frag}
theorem on {ops:Array Oper}{i:Nat}{rest:List Nat}{d:Option Tmp}{k:Op}{ot:TypeId}{ps:String}{af:Array Edge}{j:Nat}{want:Bool}{dd:Tmp}{n:Nat}(ho:ops[i]? =some ⟨d,k,ot,ps,af,some (j,want)⟩)(hdd:(ops[j]?).bind (·.dst)=some dd:=by rfl)(hl:look ε dd=some undef:=by rfl)(hd:dstOk N d=true:=by rfl)(h:OpsE Δ P main fn N ops rest n s Q (putE d undef ε) L):OpsE Δ P main fn N ops (i::rest) (n+1) s Q ε L:=
 fun a ha=>gO ho (ha.unw rfl hdd hl) (h _ (ha.put hd undef))
end
end Go.Lo
namespace Go.Proofs.YtejkelcaljmnoaaGreatDoor
open Go.Conc Go.Hx Go.Lo
theorem i8 {P:Program}{N:Nat}{ε:Env}{L:Frag}{d:Option Tmp}{ty:TypeId}{ps:String}{af:Array Edge}{g:Option (Nat×Bool)}{x y:Operand}{t:TypeId}{l:List Int}{k:IntKind}{i v:Int}(hu:P.underlying t=some .string)(hx:ev ε x=some (strv l):=by rfl)(hy:ev ε y=some (.int k i):=by rfl)(h0:0<=i)(hv:l[i.toNat]? =some v)(hb:0<=v/\v<256):
 EY P N ε L ⟨d, .index t x y,ty,ps,af,g⟩ (.int .u8 v):=fun _ ha=>by
 refine cW (fun _=>rfl) fun K hK=> ?_;rw[ha.ev hx,ha.ev hy];unfold Instr.index;simp only[ay,asIntOf,bP,aL hu,strv,if_pos h0];have hlt:=(List.getElem?_eq_some_iff.1 hv).1;have hsz:(⟨(l.map fun n=>UInt8.ofNat n.toNat).toArray⟩:ByteArray).size=l.length:=by simp[ByteArray.size]
 have e:(⟨(l.map fun n=>UInt8.ofNat n.toNat).toArray⟩:ByteArray)[i.toNat]? =some (UInt8.ofNat v.toNat):=by
  rw[getElem?_pos _ _ (by rw[hsz];exact hlt)];congr 1;show (l.map fun n=>UInt8.ofNat n.toNat).toArray[i.toNat]'_=_;have:=(List.getElem?_eq_some_iff.1 hv).2;simp[this]
 rw[e];simp only[bP];have e2:((UInt8.ofNat v.toNat).toNat:Int)=v:=by
  rw[UInt8.toNat_ofNat_of_lt' (by show v.toNat<256;omega)];omega
 rw[e2];exact hK
theorem b9 (l:List Int):(⟨(l.map fun n=>UInt8.ofNat n.toNat).toArray⟩:ByteArray).size=l.length:=by simp[ByteArray.size]
def badOp (op m:Int):Bool:=decide (op<1)||decide (9<op)||((op==7||op==8)&&decide (64<=m))
def St.stepS (T:St)(b:Nat)(x:PS):St:=if T.pn<=x.at_ then T.fin b x 65281 else if T.pg x.at_ 0=9 then(T.setP b x.next).trapS b x.next (T.pg x.at_ 1) else match T.doR x with
 | .ok x'=>T.setP b x'
 | .error _=>T.fin b x 65281
def stepX (T:St)(X:RX)(b:Nat)(x:PS):RX:=if T.pn<=x.at_ then finX X b 65281 else if T.pg x.at_ 0=9 then trapX (T.setP b x.next) X b x.next (T.pg x.at_ 1) else match T.doR x with
 | .ok _=>X
 | .error _=>finX X b 65281
def St.stepY (T:St)(x:PS):Bool:=decide (x.at_<T.pn)&&(T.pg x.at_ 0==9)&&(T.pg x.at_ 1==5)
section
variable {T:St}{b:Nat}{x x':PS}{X:RX}
theorem yU (h: ¬T.pn<=x.at_)(h9: ¬T.pg x.at_ 0=9)(hd:T.doR x= .ok x'):T.stepS b x=T.setP b x'/\stepX T X b x=X/\T.stepY x=false:=by
 refine⟨?_, ?_, ?_⟩
 ·unfold St.stepS;rw[if_neg h,if_neg h9,hd]
 ·unfold stepX;rw[if_neg h,if_neg h9,hd]
 ·unfold St.stepY;simp[h9]
theorem qm (h:T.pn<=x.at_\/(¬T.pg x.at_ 0=9/\ ∃e,T.doR x= .error e)):T.stepS b x=T.fin b x 65281/\stepX T X b x=finX X b 65281/\T.stepY x=false:=by
 by_cases hp:T.pn<=x.at_
 ·refine⟨?_, ?_, ?_⟩
  ·unfold St.stepS;rw[if_pos hp]
  ·unfold stepX;rw[if_pos hp]
  ·unfold St.stepY;simp;omega
 ·rcases h with h|⟨h9,e,hd⟩
  ·exact absurd h hp
  ·refine⟨?_, ?_, ?_⟩
   ·unfold St.stepS;rw[if_neg hp,if_neg h9,hd]
   ·unfold stepX;rw[if_neg hp,if_neg h9,hd]
   ·unfold St.stepY;simp[h9]
theorem um (h: ¬T.pn<=x.at_)(h9:T.pg x.at_ 0=9):T.stepS b x=(T.setP b x.next).trapS b x.next (T.pg x.at_ 1)/\stepX T X b x=trapX (T.setP b x.next) X b x.next (T.pg x.at_ 1)/\T.stepY x=(T.pg x.at_ 1==5):=by
 refine⟨?_, ?_, ?_⟩
 ·unfold St.stepS;rw[if_neg h,if_pos h9]
 ·unfold stepX;rw[if_neg h,if_pos h9]
 ·unfold St.stepY;rw[h9];simp;intro _;omega
theorem Bg {op a c d:Int}(h:badOp op (x.r (c%8).toNat+d)=true): ¬op=9/\ ∃e,x.do op a c d= .error e:=by
 unfold badOp at h;simp only[Bool.or_eq_true,Bool.and_eq_true,decide_eq_true_eq,beq_iff_eq] at h;rcases h with (h|h)|⟨h|h,h2⟩
 ·refine⟨by omega,1, ?_⟩;unfold PS.do
  simp[show¬op=1 by omega,show¬op=2 by omega,show¬op=3 by omega,show¬op=4 by omega,show¬op=5 by omega,show¬op=6 by omega,show¬op=7 by omega,show¬op=8 by omega]
 ·refine⟨by omega,1, ?_⟩;unfold PS.do
  simp[show¬op=1 by omega,show¬op=2 by omega,show¬op=3 by omega,show¬op=4 by omega,show¬op=5 by omega,show¬op=6 by omega,show¬op=7 by omega,show¬op=8 by omega]
 ·refine⟨by omega,10, ?_⟩;unfold PS.do
  simp[h,show¬x.r (c%8).toNat+d<64 by omega]
 ·refine⟨by omega,10, ?_⟩;unfold PS.do
  simp[h,show¬x.r (c%8).toNat+d<64 by omega]
end
theorem Bh: ∃n,∀{σ}{F:Fam σ}{Δ:DM F}{main s}(R:Nat)(B:RB)(T:St)(X:RX)(L:Frag)(b:Nat)(x:PS),(∀s o,(Δ s).New o)->RepR b R B T X L->MI (fun _=>False) (fun b=>b) T->NP T->(b,x)∈T.ps->x.st=1->X.ws.length<=10000->X.now=T.now->T.now<4611686018427387904->T.last<4611686018427387904->T.pn<=256->(∀i,i<T.pn->T.pg i 0=9->T.pg i 1<7\/10<T.pg i 1)->
 CallsL Δ Tryz.prog main 117 [ptr R,ptr (B.p b)].toArray n s L (fun s' v L'=>s=s'/\v= .bool (T.stepY x)/\ ∃B',To b R B T L B' (T.stepS b x) (stepX T X b x) L'):=by
 obtain⟨n1,g1⟩:=wY;obtain⟨n2,g2⟩:=Bf;apply Exists.intro;intro σ F Δ main s R B T X L b x hN hR hM hNP hb hs1 hw hnow hnl hls hpn hfam;have hg:=hM.i.g;have hn:=hg.pn;have hout:T.out b:=fun e he=>by rw[hNP.w] at he;cases he
 have hwf:=hM.i.wf _ hb;have h6:x.st≠6:=by omega
 have hz:=hR.sz _ hb h6;have hab:x.at_<=65536:=hR.ab _ hb;have ho: ∀y,(b,y)∈T.ps->y.st=1:=fun y hy=>by rw[<-a6 hn hb hy];exact hs1
 have hat:At L (B.p b) 4 (.int .i64 (x.at_:Nat)):=hR.pat hb (i:=4) rfl;have him:At L R 4 (strv X.img):=hR.kat rfl;have w4:IntKind.i64.wrap (4*(x.at_:Int))=((4*x.at_:Nat):Int):=by simp[IntKind.wrap_i64];omega
 co_applyP aF 224 Tryz.func117 Tryz.ntmps117;co_applyP aa;co_applyP oan rfl;co_applyP aa;co_applyP om rfl rfl rfl av;co_applyP oy rfl (ak (hf:=aG));co_applyP oy rfl (ak (hf:=bT));co_applyP oy rfl (aA (ht:=aR));co_applyP oan rfl;co_applyP au;co_applyP aa;co_applyP om rfl rfl rfl jL;co_applyP om rfl rfl rfl av;co_applyP oy rfl (ak (hf:=fR));co_applyP oy rfl (aA (ht:=lM));co_applyP oy rfl (dO (hu:=U9));co_applyP oy rfl dt;co_applyP ai;change wpE ..;rw[w4,b9,hR.im.n];co_applyP aT rfl;intro hf;co_applyP aa;co_applyP om rfl rfl rfl ag
 ·have hf':T.pn<=x.at_:=by simp at hf;omega
  co_applyP oc rfl rfl rfl (g1 b R B T X L b x 65281 hN hR hM hNP hb h6 hw ho);rintro _ _ _ ⟨rfl,rfl,B3,hT3⟩;co_applyP ai;co_applyP aa;co_applyP oan rfl;co_applyP aK;change∃v,resE .. =some v/\_;obtain⟨e1,e2,e3⟩:=qm (b:=b) (X:=X) (.inl hf');exact⟨_,rfl,rfl,by rw[e3],B3,by rw[e1,e2];exact hT3⟩
 intro hf;have hf': ¬T.pn<=x.at_:=by simp at hf;omega
 have hi:x.at_<T.pn:=by omega
 have hv0:=hR.im.g x.at_ 0 hi (by omega);have hv1:=hR.im.g x.at_ 1 hi (by omega);have hv2:=hR.im.g x.at_ 2 hi (by omega);have hv3:=hR.im.g x.at_ 3 hi (by omega);have hb0:=hR.im.b _ (List.mem_of_getElem? hv0);have hb1:=hR.im.b _ (List.mem_of_getElem? hv1);have hb2:=hR.im.b _ (List.mem_of_getElem? hv2);have hb3:=hR.im.b _ (List.mem_of_getElem? hv3);have hfm:=hfam x.at_ hi;have hdo:T.doR x=x.do (T.pg x.at_ 0) (T.pg x.at_ 1) (T.pg x.at_ 2) (T.pg x.at_ 3):=rfl
 have hsb:badOp (T.pg x.at_ 0) (x.r (T.pg x.at_ 2%8).toNat+T.pg x.at_ 3)=true->T.stepS b x=T.fin b x 65281/\stepX T X b x=finX X b 65281/\T.stepY x=false:=fun h=>by
  obtain⟨h9,e,he⟩:=Bg (x:=x) (a:=T.pg x.at_ 1) h;exact qm (.inr ⟨h9,e,hdo.trans he⟩)
 have hst9:=fun h9=>um (b:=b) (X:=X) hf' h9;have hsok:=fun h9 (x':PS) hd=>yU (b:=b) (X:=X) (x':=x') hf' h9 (hdo.trans hd);generalize T.pg x.at_ 0=op at*;generalize T.pg x.at_ 1=a at*;generalize T.pg x.at_ 2=bb at*;generalize T.pg x.at_ 3=c at*;have wo0:IntKind.i64.wrap op=op:=by simp[IntKind.wrap_i64];omega
 have wa0:IntKind.i64.wrap a=a:=by simp[IntKind.wrap_i64];omega
 have wb0:IntKind.i64.wrap bb=bb:=by simp[IntKind.wrap_i64];omega
 have wc0:IntKind.i64.wrap c=c:=by simp[IntKind.wrap_i64];omega
 have w41:IntKind.i64.wrap (((4*x.at_:Nat):Int)+1)=((4*x.at_+1:Nat):Int):=by simp[IntKind.wrap_i64];omega
 have w42:IntKind.i64.wrap (((4*x.at_:Nat):Int)+2)=((4*x.at_+2:Nat):Int):=by simp[IntKind.wrap_i64];omega
 have w43:IntKind.i64.wrap (((4*x.at_:Nat):Int)+3)=((4*x.at_+3:Nat):Int):=by simp[IntKind.wrap_i64];omega
 have wc2:IntKind.i64.wrap (256*c)=256*c:=by simp[IntKind.wrap_i64];omega
 have wk0:IntKind.i64.wrap (bb+256*c)=bb+256*c:=by simp[IntKind.wrap_i64];omega
 have ta:a.tmod 8=a%8:=Int.tmod_eq_emod_of_nonneg hb1.1;have tb:bb.tmod 8=bb%8:=Int.tmod_eq_emod_of_nonneg hb2.1;have hra:(a%8).toNat<8:=by omega
 have hrb:(bb%8).toNat<8:=by omega
 have hya:0<=x.r (a%8).toNat/\x.r (a%8).toNat<65536:=hwf.r _ hra;have hyb:0<=x.r (bb%8).toNat/\x.r (bb%8).toNat<65536:=hwf.r _ hrb;have wy:IntKind.i64.wrap (x.r (bb%8).toNat)=x.r (bb%8).toNat:=by simp[IntKind.wrap_i64];omega
 have wm:IntKind.i64.wrap (x.r (bb%8).toNat+c)=x.r (bb%8).toNat+c:=by simp[IntKind.wrap_i64];omega
 have hatb:At L (B.p b) (7+(bb%8).toNat) (.int .u16 (x.r (bb%8).toNat)):=hR.pat hb (wO x _ hrb);co_applyP aN (by rfl:kn _ [(5, .int .i64 (x.at_:Nat)),(1,ptr (B.p b)),(0,ptr R)]);co_applyP aB;co_applyP aa;co_applyP om rfl rfl rfl av;co_applyP oy rfl (ak (hf:=fR));co_applyP oy rfl (aA (ht:=lM));co_applyP om rfl rfl rfl jL;rw[w4];co_applyP oy rfl (i8 U9 (h0:=Int.natCast_nonneg _) (hv:=hv0) (hb:=hb0));co_applyP oy rfl (cF (hs:=U5) (ht:=U3));co_applyP oan rfl;co_applyP aa;co_applyP om rfl rfl rfl av;co_applyP oy rfl (ak (hf:=fR));co_applyP oy rfl (aA (ht:=lM));co_applyP om rfl rfl rfl jL;co_applyP oy rfl aS;rw[wo0,w4,w41];co_applyP oy rfl (i8 U9 (h0:=Int.natCast_nonneg _) (hv:=hv1) (hb:=hb1));co_applyP oy rfl (cF (hs:=U5) (ht:=U3));co_applyP oan rfl;co_applyP aa;co_applyP om rfl rfl rfl av;co_applyP oy rfl (ak (hf:=fR));co_applyP oy rfl (aA (ht:=lM));co_applyP om rfl rfl rfl jL;co_applyP oy rfl aS;rw[wa0,w4,w42];co_applyP oy rfl (i8 U9 (h0:=Int.natCast_nonneg _) (hv:=hv2) (hb:=hb2));co_applyP oy rfl (cF (hs:=U5) (ht:=U3));co_applyP oan rfl;co_applyP aa;co_applyP om rfl rfl rfl av;co_applyP oy rfl (ak (hf:=fR));co_applyP oy rfl (aA (ht:=lM));co_applyP om rfl rfl rfl jL;co_applyP oy rfl aS;rw[wb0,w4,w43];co_applyP oy rfl (i8 U9 (h0:=Int.natCast_nonneg _) (hv:=hv3) (hb:=hb3));co_applyP oy rfl (cF (hs:=U5) (ht:=U3));co_applyP oan rfl;co_applyP aa;co_applyP om rfl rfl rfl ag;co_applyP oy rfl jL;co_applyP oy rfl aS;co_applyP oan rfl;co_applyP aa;co_applyP om rfl rfl rfl eP;co_applyP oan rfl;co_applyP aa;co_applyP om rfl rfl rfl ag;co_applyP oy rfl eP;co_applyP oy rfl av;co_applyP oy rfl (ak (hf:=aG));co_applyP oy rfl (ak (hf:=aW));rw[wc0,wc2,wk0,ta,tb];co_applyP oy rfl (aX U47 aV (h0:=by omega) (h1:=by show _<(8:Int);omega));co_applyP oy rfl (aA (ht:=dw));co_applyP oan rfl;co_applyP aa;co_applyP om rfl rfl rfl (cF (hs:=U32) (ht:=U3));co_applyP om rfl rfl rfl aS;co_applyP oan rfl
 co_applyP au;co_applyP au;rw[wy,wm];co_applyP aN (by rfl:kn _ [(13, .int .i64 (x.r (bb%8).toNat+c)),(12, .int .u16 (x.r (bb%8).toNat)),(11, .int .i64 (a%8)),(10, .int .i64 (bb+256*c)),(7, .int .i64 a),(6, .int .i64 op),(5, .int .i64 (x.at_:Nat)),(1,ptr (B.p b)),(0,ptr R)]);generalize hm:x.r (bb%8).toNat+c=m at*;co_applyP cO ([(100, .bool (badOp op m)),(13, .int .i64 m),(12, .int .u16 (x.r (bb%8).toNat)),(11, .int .i64 (a%8)),(10, .int .i64 (bb+256*c)),(7, .int .i64 a),(6, .int .i64 op),(5, .int .i64 (x.at_:Nat)),(1,ptr (B.p b)),(0,ptr R)]);co_applyP aq;co_applyP om rfl rfl rfl bj;co_applyP oy rfl ag
 ·by_cases h1:op<1
  ·rw[show decide (op<1)=true by simp[h1]];co_applyP ou rfl;co_applyP ou rfl;co_applyP oy rfl aH;co_applyP oy rfl ag;co_applyP ou rfl;co_applyP ou rfl;co_applyP ou rfl;co_applyP on rfl;co_applyP on rfl;co_applyP ou rfl;co_applyP ou rfl;co_applyP on rfl;co_applyP on rfl;co_applyP ou rfl;co_applyP oy rfl aH;co_applyP ai;change _=_/\_=_/\kn _ _;refine⟨rfl,rfl, ?_⟩;rw[show badOp op m=true by simp[badOp,h1]];rfl
  rw[show decide (op<1)=false by simp[h1]];by_cases h2:9<op
  ·skip
   co_applyP om rfl rfl rfl (cx);co_applyP oy rfl aH;co_applyP oy rfl ag;rw[show decide (9<op)=true by simp[h2]];co_applyP ou rfl;co_applyP ou rfl;co_applyP ou rfl;co_applyP on rfl;co_applyP on rfl;co_applyP ou rfl;co_applyP ou rfl;co_applyP on rfl;co_applyP on rfl;co_applyP ou rfl;co_applyP oy rfl aH;co_applyP ai;change _=_/\_=_/\kn _ _;refine⟨rfl,rfl, ?_⟩;rw[show badOp op m=true by simp[badOp,h2]];rfl
  have hbd:badOp op m=((op==7||op==8)&&decide (64<=m)):=by simp[badOp,h1,h2]
  by_cases h7:op=7
  ·skip
   co_applyP om rfl rfl rfl (cx);co_applyP oy rfl aH;co_applyP oy rfl ag;rw[show decide (9<op)=false by simp[h2]];co_applyP om rfl rfl rfl (aI);co_applyP oy rfl (ag);rw[show (op==7)=true by simp[h7]];co_applyP ou rfl;co_applyP ou rfl;co_applyP oy rfl (aH);co_applyP om rfl rfl rfl (ag);co_applyP oy rfl (dt);co_applyP oy rfl (aH);co_applyP oy rfl aH;co_applyP ai;change _=_/\_=_/\kn _ _;refine⟨rfl,rfl, ?_⟩;rw[hbd,show (op==7)=true by simp[h7]];rfl
  by_cases h8:op=8
  ·skip
   co_applyP om rfl rfl rfl (cx);co_applyP oy rfl aH;co_applyP oy rfl ag;rw[show decide (9<op)=false by simp[h2]];co_applyP om rfl rfl rfl (aI);co_applyP oy rfl (ag);rw[show (op==7)=false by simp[h7]];co_applyP om rfl rfl rfl (aI);rw[show (op==8)=true by simp[h8]];co_applyP oy rfl (aH);co_applyP om rfl rfl rfl (ag);co_applyP oy rfl (dt);co_applyP oy rfl (aH);co_applyP oy rfl aH;co_applyP ai;change _=_/\_=_/\kn _ _;refine⟨rfl,rfl, ?_⟩;rw[hbd,show (op==7)=false by simp[h7],show (op==8)=true by simp[h8]];rfl
  ·skip
   co_applyP om rfl rfl rfl (cx);co_applyP oy rfl aH;co_applyP oy rfl ag;rw[show decide (9<op)=false by simp[h2]];co_applyP om rfl rfl rfl (aI);co_applyP oy rfl (ag);rw[show (op==7)=false by simp[h7]];co_applyP om rfl rfl rfl (aI);rw[show (op==8)=false by simp[h8]];co_applyP oy rfl (aH);co_applyP oy rfl (ag);co_applyP ou rfl;co_applyP ou rfl;co_applyP oy rfl (aH);co_applyP oy rfl aH;co_applyP ai;change _=_/\_=_/\kn _ _;refine⟨rfl,rfl, ?_⟩;rw[hbd,show (op==7)=false by simp[h7],show (op==8)=false by simp[h8]];rfl
 co_applyP aT rfl;intro hbad;co_applyP aa;co_applyP om rfl rfl rfl ag
 ·skip
  co_applyP oc rfl rfl rfl (g1 b R B T X L b x 65281 hN hR hM hNP hb h6 hw ho);rintro _ _ _ ⟨rfl,rfl,B3,hT3⟩;co_applyP ai;co_applyP aa;co_applyP oan rfl;co_applyP aK;change∃v,resE .. =some v/\_;obtain⟨e1,e2,e3⟩:=hsb hbad;exact⟨_,rfl,rfl,by rw[e3],B3,by rw[e1,e2];exact hT3⟩
 intro hbad;have hbd:badOp op m=false:=hbad;have w1:IntKind.i64.wrap ((x.at_:Int)+1)=((x.at_+1:Nat):Int):=by simp[IntKind.wrap_i64];omega
 co_applyP aB;co_applyP aa;co_applyP om rfl rfl rfl ag;co_applyP oy rfl aS;co_applyP oy rfl av;co_applyP oy rfl (ak (hf:=aG));co_applyP oy rfl (ak (hf:=bT));rw[w1];co_applyP osm rfl (hs:=bS) (hm:=hR.p _ hb) (hi:=by rw[bC];decide);intro L1 hU1;have hT1:=To.of (hR.setP hb hU1 x.next (B.e b) b rfl (hun:=hR.un _ hb) (hdu:=hR.du _ hb) (ho:=fun _ _ _=>Iff.rfl) (hsz:=hR.sz _ hb) (hab:= .inr (by show x.at_+1<=65536;omega)));have hR1:=hT1.r;have hb1':=ar (x:=x.next) hb;have sr: ∀{cs:Array Value}{L3:Frag}(x':PS),Upd L1 (B.p b) (.cells cs 154) L3->cs=rpc x' (put B.e b (B.e b) b)->x'.id=x.id->x'.st=x.st->x'.stat=x.stat->x'.til=x.til->x'.at_<=65536->x'.f=x.f->To b R B T L {B with e:=put (put B.e b (B.e b)) b (put B.e b (B.e b) b)} (T.setP b x') X L3:=fun x' hU hc h1 h2 h3 h4 h5 h6=>by
  have:=hT1.trans (To.of (hR1.setP hb1' hU x' (put B.e b (B.e b) b) b hc h1 rfl (hun:=fun h=>by rw[h4];exact hR1.un _ hb1' (h2.symm.trans h)) (hdu:=hR1.du _ hb1') (ho:=fun _ _ _=>Iff.rfl) (hsz:=fun _=>h3.trans hz) (hab:= .inr h5) (hnf:=h6)));rw[bI] at this;exact this
 generalize hB1:({B with e:=put B.e b (B.e b)}:RB)=B1 at hT1 hR1;generalize he1:put B.e b (B.e b) b=e1 at sr;have hpm:(B.p b,true,Obj.cells (rpc x.next e1) 154)∈L1:=by
  have:=hR1.p _ hb1';rw[<-hB1] at this;rw[<-he1];exact this
 have ea: ∀{i:Nat}{v:Value},(rpc x.next e1)[i]? =some v->At L1 (B.p b) i v:=fun h=>⟨true,_,_,_,hpm,h⟩;have haa:At L1 (B.p b) (7+(a%8).toNat) (.int .u16 (x.r (a%8).toNat)):=ea (wO x.next _ hra);have hk6:(bb+256*c)%65536=bb+256*c:=by omega
 co_applyP ai;co_applyP aN (by rfl:kn _ [(13, .int .i64 m),(12, .int .u16 (x.r (bb%8).toNat)),(11, .int .i64 (a%8)),(10, .int .i64 (bb+256*c)),(7, .int .i64 a),(6, .int .i64 op),(1,ptr (B.p b)),(0,ptr R)]);co_applyP cK ((fun s'' ε'' L''=>s=s''/\kn ε'' []/\T.stepY x=false/\ ∃B',To b R B T L B' (T.stepS b x) (stepX T X b x) L''));co_applyP aa;co_applyP oy rfl ag;co_applyP ai;co_applyP aC;co_applyP aa;co_applyP oy rfl aI;co_applyP oan rfl;co_applyP aT rfl;intro c1;co_applyP aq;co_applyP om rfl rfl rfl ag;co_applyP om rfl rfl rfl (cF (hs:=U3) (ht:=U32));co_applyP oy rfl av;co_applyP oy rfl (ak (hf:=aG));co_applyP oy rfl (ak (hf:=aW));co_applyP oy rfl (aX U47 aV)
 ·have e:op=1:=by simpa using c1
  co_applyP osm rfl (hs:=aV) (hm:=hpm) (hi:=by rw[bC];omega);intro L3 hU3;rw[bZ,hk6] at hU3;co_applyP ai;change _=_/\kn _ _/\_=_/\ ∃B',_;obtain⟨q1,q2,q3⟩:=hsok (by omega) {x.next with r:=put x.r (a%8).toNat (bb+256*c)} (by rw[e];unfold PS.do;simp[hk6,PS.next]);exact⟨rfl,rfl,q3,_,by rw[q1,q2];exact sr _ hU3 (ee x.next _ hra _) rfl rfl rfl rfl (by show x.at_+1<=65536;omega) rfl⟩
 intro c1;co_applyP aN (by rfl:kn _ [(13, .int .i64 m),(12, .int .u16 (x.r (bb%8).toNat)),(11, .int .i64 (a%8)),(10, .int .i64 (bb+256*c)),(7, .int .i64 a),(110, .int .i64 op),(1,ptr (B.p b)),(0,ptr R)]);co_applyP aa;co_applyP oy rfl aI;co_applyP oan rfl;co_applyP aT rfl;intro c2;co_applyP aq;co_applyP om rfl rfl rfl ag;co_applyP om rfl rfl rfl av;co_applyP oy rfl (ak (hf:=aG));co_applyP oy rfl (ak (hf:=aW));co_applyP oy rfl (aX U47 aV)
 ·have e:op=2:=by simpa using c2
  co_applyP osm rfl (hs:=aV) (hm:=hpm) (hi:=by rw[bC];omega);intro L3 hU3;co_applyP ai;change _=_/\kn _ _/\_=_/\ ∃B',_;obtain⟨q1,q2,q3⟩:=hsok (by omega) {x.next with r:=put x.r (a%8).toNat (x.r (bb%8).toNat)} (by rw[e];rfl);exact⟨rfl,rfl,q3,_,by rw[q1,q2];exact sr _ hU3 (ee x.next _ hra _) rfl rfl rfl rfl (by show x.at_+1<=65536;omega) rfl⟩
 intro c2;co_applyP aN (by rfl:kn _ [(13, .int .i64 m),(12, .int .u16 (x.r (bb%8).toNat)),(11, .int .i64 (a%8)),(10, .int .i64 (bb+256*c)),(7, .int .i64 a),(110, .int .i64 op),(1,ptr (B.p b)),(0,ptr R)]);co_applyP aa;co_applyP oy rfl aI;co_applyP oan rfl;co_applyP aT rfl;intro c3
 ·have e:op=3:=by simpa using c3
  co_applyP br [] 15 (nf:=0) a5;co_applyP tr 0 rfl ag pN;co_applyP tr 1 rfl ag pN;co_applyP tr 2 rfl ag pN;co_applyP tr 3 rfl ag pN;co_applyP tr 4 rfl av pN;co_applyP tr 5 rfl (ak (hf:=aG)) pN;co_applyP tr 6 rfl (ak (hf:=aW)) pN;co_applyP tr 7 rfl (aX U47 aV) pN;co_applyP t0 8 rfl (aA (ht:=dw)) pN;co_applyP tr 9 rfl ag pN;co_applyP tr 10 rfl aS pN;co_applyP tr 11 rfl av pN;co_applyP tr 12 rfl (ak (hf:=aG)) pN;co_applyP tr 13 rfl (ak (hf:=aW)) pN;co_applyP tr 14 rfl (aX U47 aV) pN;co_applyP bd;intro hnd;co_applyP te (i:=15) rfl (dv (hnd:=hnd) (hm:=hpm) (hi:=by rw[bC];omega) (hs:=aV));rintro _ _ ⟨rfl,hU3⟩;refine⟨aD (by simp), ?_⟩;rw[bZ] at hU3;co_applyP td (by kernel_rfl);change _=_/\kn _ _/\_=_/\ ∃B',_;obtain⟨q1,q2,q3⟩:=hsok (by omega) {x.next with r:=put x.r (a%8).toNat ((x.r (a%8).toNat+x.r (bb%8).toNat)%65536)} (by rw[e];rfl);exact⟨rfl,rfl,q3,_,by rw[q1,q2];exact sr _ hU3 (ee x.next _ hra _) rfl rfl rfl rfl (by show x.at_+1<=65536;omega) rfl⟩
 intro c3;co_applyP aN (by rfl:kn _ [(13, .int .i64 m),(12, .int .u16 (x.r (bb%8).toNat)),(11, .int .i64 (a%8)),(10, .int .i64 (bb+256*c)),(7, .int .i64 a),(110, .int .i64 op),(1,ptr (B.p b)),(0,ptr R)]);co_applyP aa;co_applyP oy rfl aI;co_applyP oan rfl;co_applyP aT rfl;intro c4
 ·have e:op=4:=by simpa using c4
  co_applyP br [] 15 (nf:=0) a5;co_applyP tr 0 rfl ag pN;co_applyP tr 1 rfl ag pN;co_applyP tr 2 rfl ag pN;co_applyP tr 3 rfl ag pN;co_applyP tr 4 rfl av pN;co_applyP tr 5 rfl (ak (hf:=aG)) pN;co_applyP tr 6 rfl (ak (hf:=aW)) pN;co_applyP tr 7 rfl (aX U47 aV) pN;co_applyP t0 8 rfl (aA (ht:=dw)) pN;co_applyP tr 9 rfl ag pN;co_applyP tr 10 rfl zx pN;co_applyP tr 11 rfl av pN;co_applyP tr 12 rfl (ak (hf:=aG)) pN;co_applyP tr 13 rfl (ak (hf:=aW)) pN;co_applyP tr 14 rfl (aX U47 aV) pN;co_applyP bd;intro hnd;co_applyP te (i:=15) rfl (dv (hnd:=hnd) (hm:=hpm) (hi:=by rw[bC];omega) (hs:=aV));rintro _ _ ⟨rfl,hU3⟩;refine⟨aD (by simp), ?_⟩;rw[bZ] at hU3;co_applyP td (by kernel_rfl);change _=_/\kn _ _/\_=_/\ ∃B',_;obtain⟨q1,q2,q3⟩:=hsok (by omega) {x.next with r:=put x.r (a%8).toNat ((x.r (a%8).toNat-x.r (bb%8).toNat)%65536)} (by rw[e];rfl);exact⟨rfl,rfl,q3,_,by rw[q1,q2];exact sr _ hU3 (ee x.next _ hra _) rfl rfl rfl rfl (by show x.at_+1<=65536;omega) rfl⟩
 intro c4;co_applyP aN (by rfl:kn _ [(13, .int .i64 m),(12, .int .u16 (x.r (bb%8).toNat)),(11, .int .i64 (a%8)),(10, .int .i64 (bb+256*c)),(7, .int .i64 a),(110, .int .i64 op),(1,ptr (B.p b)),(0,ptr R)]);co_applyP aa;co_applyP oy rfl aI;co_applyP oan rfl;co_applyP aT rfl;intro c5;co_applyP aa;co_applyP om rfl rfl rfl ag;co_applyP oy rfl av;co_applyP oy rfl (ak (hf:=aG));co_applyP oy rfl (ak (hf:=aW));co_applyP oy rfl (aX U47 aV);co_applyP oy rfl (aA (ht:=dw));co_applyP oy rfl aI;co_applyP ai;change wpE ..
 ·have e:op=5:=by simpa using c5
  co_applyP aT rfl;intro hj;co_applyP aq;co_applyP om rfl rfl rfl ag;co_applyP oy rfl av;co_applyP oy rfl (ak (hf:=aG));co_applyP oy rfl (ak (hf:=bT))
  ·have hj':x.r (a%8).toNat=0:=by simpa using hj
   co_applyP osm rfl (hs:=bS) (hm:=hpm) (hi:=by rw[bC];omega);intro L3 hU3;co_applyP ai;change _=_/\kn _ _/\_=_/\ ∃B',_;obtain⟨q1,q2,q3⟩:=hsok (by omega) {x.next with at_:=(bb+256*c).toNat} (by rw[e];unfold PS.do;simp[hk6,hj',PS.next]);exact⟨rfl,rfl,q3,_,by rw[q1,q2];exact sr _ hU3 (by rw[<-Int.toNat_of_nonneg (show 0<=bb+256*c by omega)];rfl) rfl rfl rfl rfl (by show (bb+256*c).toNat<=65536;omega) rfl⟩
  intro hj;co_applyP aB;change _=_/\kn _ _/\_=_/\ ∃B',_;have hj': ¬x.r (a%8).toNat=0:=by simpa using hj
  obtain⟨q1,q2,q3⟩:=hsok (by omega) x.next (by rw[e];unfold PS.do;simp[hj',PS.next])
  exact⟨rfl,rfl,q3,_,by rw[q1,q2];exact hT1⟩
 intro c5;co_applyP aN (by rfl:kn _ [(13, .int .i64 m),(12, .int .u16 (x.r (bb%8).toNat)),(11, .int .i64 (a%8)),(10, .int .i64 (bb+256*c)),(7, .int .i64 a),(110, .int .i64 op),(1,ptr (B.p b)),(0,ptr R)]);co_applyP aa;co_applyP oy rfl aI;co_applyP oan rfl;co_applyP aT rfl;intro c6;co_applyP aq;co_applyP om rfl rfl rfl ag;co_applyP oy rfl av;co_applyP oy rfl (ak (hf:=aG));co_applyP oy rfl (ak (hf:=bT))
 ·have e:op=6:=by simpa using c6
  co_applyP osm rfl (hs:=bS) (hm:=hpm) (hi:=by rw[bC];omega);intro L3 hU3;co_applyP ai;change _=_/\kn _ _/\_=_/\ ∃B',_;obtain⟨q1,q2,q3⟩:=hsok (by omega) {x.next with at_:=(bb+256*c).toNat} (by rw[e];unfold PS.do;simp[hk6,PS.next]);exact⟨rfl,rfl,q3,_,by rw[q1,q2];exact sr _ hU3 (by rw[<-Int.toNat_of_nonneg (show 0<=bb+256*c by omega)];rfl) rfl rfl rfl rfl (by show (bb+256*c).toNat<=65536;omega) rfl⟩
 intro c6;co_applyP aN (by rfl:kn _ [(13, .int .i64 m),(12, .int .u16 (x.r (bb%8).toNat)),(11, .int .i64 (a%8)),(10, .int .i64 (bb+256*c)),(7, .int .i64 a),(110, .int .i64 op),(1,ptr (B.p b)),(0,ptr R)]);co_applyP aa;co_applyP oy rfl aI;co_applyP oan rfl;change wpE ..;have hm0:0<=m:=by omega
 co_applyP aT rfl;intro c7
 ·have e:op=7:=by simpa using c7
  have hm6:m<64:=by rw[e] at hbd;simp[badOp] at hbd;omega
  have hmm:At L1 (B.p b) (15+m.toNat) (.int .u8 (x.m m.toNat)):=ea (A0 x.next _ (by omega));have hmb:0<=x.m m.toNat/\x.m m.toNat<256:=hwf.m m.toNat (by omega);co_applyP br [] 13 (nf:=0) a5;co_applyP tr 0 rfl ag pN;co_applyP tr 1 rfl ag pN;co_applyP tr 2 rfl ag pN;co_applyP tr 3 rfl ag pN;co_applyP tr 4 rfl av pN;co_applyP tr 5 rfl (ak (hf:=iH)) pN;co_applyP tr 6 rfl (aX U94 dX) pN;co_applyP t0 7 rfl (aA (ht:=eX)) pN;co_applyP tr 8 rfl (cF (hs:=U5) (ht:=U32)) pN;co_applyP tr 9 rfl av pN;co_applyP tr 10 rfl (ak (hf:=aG)) pN;co_applyP tr 11 rfl (ak (hf:=aW)) pN;co_applyP tr 12 rfl (aX U47 aV) pN;co_applyP bd;intro hnd;co_applyP te (i:=13) rfl (dv (hnd:=hnd) (hm:=hpm) (hi:=by rw[bC];omega) (hs:=aV));rintro _ _ ⟨rfl,hU3⟩;refine⟨aD (by simp), ?_⟩;rw[bZ,show x.m m.toNat%65536=x.m m.toNat by omega] at hU3;co_applyP td (by kernel_rfl);change _=_/\kn _ _/\_=_/\ ∃B',_;obtain⟨q1,q2,q3⟩:=hsok (by omega) {x.next with r:=put x.r (a%8).toNat (x.m m.toNat)} (by rw[e];unfold PS.do;simp[hm,hm6,PS.next]);exact⟨rfl,rfl,q3,_,by rw[q1,q2];exact sr _ hU3 (ee x.next _ hra _) rfl rfl rfl rfl (by show x.at_+1<=65536;omega) rfl⟩
 intro c7;co_applyP aN (by rfl:kn _ [(13, .int .i64 m),(12, .int .u16 (x.r (bb%8).toNat)),(11, .int .i64 (a%8)),(10, .int .i64 (bb+256*c)),(7, .int .i64 a),(110, .int .i64 op),(1,ptr (B.p b)),(0,ptr R)]);co_applyP aa;co_applyP oy rfl aI;co_applyP oan rfl;co_applyP aT rfl;intro c8
 ·have e:op=8:=by simpa using c8
  have hm6:m<64:=by rw[e] at hbd;simp[badOp] at hbd;omega
  co_applyP br [] 13 (nf:=0) a5;co_applyP tr 0 rfl ag pN;co_applyP tr 1 rfl ag pN;co_applyP tr 2 rfl ag pN;co_applyP tr 3 rfl ag pN;co_applyP tr 4 rfl av pN;co_applyP tr 5 rfl (ak (hf:=aG)) pN;co_applyP tr 6 rfl (ak (hf:=aW)) pN;co_applyP tr 7 rfl (aX U47 aV) pN;co_applyP t0 8 rfl (aA (ht:=dw)) pN;co_applyP tr 9 rfl (cF (hs:=U32) (ht:=U5)) pN;co_applyP tr 10 rfl av pN;co_applyP tr 11 rfl (ak (hf:=iH)) pN;co_applyP tr 12 rfl (aX U94 dX) pN;co_applyP bd;intro hnd;co_applyP te (i:=13) rfl (dv (hnd:=hnd) (hm:=hpm) (hi:=by rw[bC];omega) (hs:=dX));rintro _ _ ⟨rfl,hU3⟩;refine⟨aD (by simp), ?_⟩;rw[kq] at hU3;co_applyP td (by kernel_rfl);change _=_/\kn _ _/\_=_/\ ∃B',_;obtain⟨q1,q2,q3⟩:=hsok (by omega) {x.next with m:=put x.m m.toNat (x.r (a%8).toNat%256)} (by rw[e];unfold PS.do;simp[hm,hm6,PS.next]);exact⟨rfl,rfl,q3,_,by rw[q1,q2];exact sr _ hU3 (A8 x.next _ (by omega) _) rfl rfl rfl rfl (by show x.at_+1<=65536;omega) rfl⟩
 intro c8;co_applyP aN (by rfl:kn _ [(13, .int .i64 m),(12, .int .u16 (x.r (bb%8).toNat)),(11, .int .i64 (a%8)),(10, .int .i64 (bb+256*c)),(7, .int .i64 a),(110, .int .i64 op),(1,ptr (B.p b)),(0,ptr R)]);co_applyP aa;co_applyP oy rfl aI;co_applyP oan rfl;change wpE ..;have h1': ¬op=1:=by simpa using c1
 have h2': ¬op=2:=by simpa using c2
 have h3': ¬op=3:=by simpa using c3
 have h4': ¬op=4:=by simpa using c4
 have h5': ¬op=5:=by simpa using c5
 have h6': ¬op=6:=by simpa using c6
 have h7': ¬op=7:=by simpa using c7
 have h8': ¬op=8:=by simpa using c8
 have hop:op=9:=by simp[badOp] at hbd;omega
 rw[show (op==9)=true by simp[hop]];co_applyP bv rfl;co_applyP aa;co_applyP om rfl rfl rfl ag;co_applyP oy rfl ag;have hM1:MI (fun _=>False) (fun b=>b) (T.setP b x.next):=hM.like hb hout rfl rfl ⟨hwf.r,hwf.m⟩ (hM.i.fl (b,x) hb) rfl rfl (hM.x.un (b,x) hb);have hN1:NP (T.setP b x.next):=⟨hNP.w,fun q hq=>by
  rcases aO hq with rfl|⟨h1,_⟩
  ·exact hNP.f (b,x) hb
  ·exact hNP.f q h1⟩
 have ep1:B1.p b=B.p b:=by rw[<-hB1]
 rw[<-ep1];co_applyP oc rfl rfl rfl (g2 R B1 _ X L1 b x.next a hN hR1 hM1 hN1 hb1' hs1 hw hnow hnl hls (hfm hop));rintro _ _ _ ⟨rfl,rfl,B4,hT4⟩;co_applyP ai;co_applyP aa;co_applyP om rfl rfl rfl aI;co_applyP oan rfl;co_applyP aK;change∃v,resE .. =some v/\_;obtain⟨q1,q2,q3⟩:=hst9 hop;exact⟨_,rfl,rfl,by rw[q3],B4,by rw[q1,q2];exact hT1.trans hT4⟩;rintro _ ε9 L9 ⟨rfl,he9,hy9,B9,hT9⟩;co_applyP aN he9;co_applyP aa;co_applyP oan rfl;co_applyP aK;change∃v,resE .. =some v/\_;exact⟨_,rfl,rfl,by rw[hy9],B9,hT9⟩
section
variable {o R:Nat}{B B1:RB}{S T T1:St}{X X1:RX}{L L1 L2:Frag}{b c:Nat}{x y z:PS}
theorem yV (hn:(T.ps.map (·.1)).Nodup)(hb:(b,x)∈T.ps):T.setP b x=T:=by
 have:(T.ps.map fun q=>if q.1=b then(b,x) else q)=T.ps:=by
  conv=>rhs;rw[<-List.map_id T.ps]
  apply List.map_congr_left;intro q hq
  split
  ·rename_i e;have:(b,q.2)∈T.ps:=by rw[<-e];exact hq
   rw[a6 hn hb this,<-e];rfl
  ·rfl
 unfold St.setP;rw[this]
theorem upd_self {o:Obj}(hF:Fun L)(h:(b,true,o)∈L):Upd L b o L:=⟨h,fun _ ht _=>ht,hF⟩
theorem RepR.o' (h:RepR o R B T X L){o':Nat}(ho: ∀q∈T.ps,(q.1=o↔q.1=o')):RepR o' R B T X L:={h with du:=fun q hq=>by rw[h.du q hq];simp only[ho q hq]}
theorem To.more (h:To b R B T L B1 T1 X1 L1)(hb:(b,z)∈T1.ps)(h0: ∀q∈T1.ps,q.1≠0): ∃B2,To 0 R B T L B2 (T1.setP b z.more) X1 L1:=by
 have hd:=h.r.du _ hb;rw[if_pos rfl] at hd;have e:rpc z (B1.e b)=rpc z.more {B1.e b with du:=0}:=by
  unfold rpc rHead;rw[hd];rfl
 have hU:=upd_self h.r.fn (h.r.p _ hb);exact⟨_,h.trans (To.of (h.r.setP hb hU z.more {B1.e b with du:=0} 0 e (hun:=h.r.un _ hb) (hdu:=by rw[if_neg (h0 _ hb)]) (ho:=fun q hq hne=>⟨fun e=>absurd e hne,fun e=>absurd e (h0 q hq)⟩) (hsz:=h.r.sz _ hb)))⟩
theorem fp (h:T.stepY x=false):T.runS b x (T.last+1)=T.stepS b x:=by
 unfold St.runS St.stepS;by_cases hp:T.pn<=x.at_
 ·rw[if_pos hp,if_pos hp]
 ·rw[if_neg hp,if_neg hp];by_cases h9:T.pg x.at_ 0=9
  ·rw[if_pos h9,if_pos h9];have h5: ¬T.pg x.at_ 1=5:=fun e=>by
    unfold St.stepY at h;rw[h9,e] at h;simp at h;omega
   unfold St.trapS;rw[if_neg h5];rfl
  ·rw[if_neg h9,if_neg h9];rfl
theorem nV (l:Nat)(xs ys:List Nat):(S.setRow l xs).setRow l ys=S.setRow l ys:=by
 unfold St.setRow put;congr 1
 funext j
 by_cases e:j=l
 ·simp[e]
 ·simp[e]
theorem gg (l:Nat)(xs:List Nat):(S.setRow l xs).rows l=xs:=by simp[St.setRow,put]
theorem rF {l:List Nat}(hn:l.Nodup):(l.erase b++[b]).erase b=l.erase b:=by
 rw[List.erase_append_right _ (by rw[hn.mem_erase_iff];simp)];simp
theorem eN (h:T.stepY x=true):T.stepS b x=T.setP b (x.next.r0 0)/\T.runS b x (T.last+1)=(T.setP b (x.next.r0 0)).setRow x.lv ((T.rows x.lv).erase b++[b]):=by
 unfold St.stepY at h;simp at h;obtain⟨⟨hp,h9⟩,h5⟩:=h;constructor
 ·unfold St.stepS;rw[if_neg (by omega),if_pos h9,h5];unfold St.trapS;rw[if_pos rfl,bI]
 ·unfold St.runS;rw[if_neg (by omega),if_pos h9,h5];show (T.setP b x.next).yield1 b x.next=_
  unfold St.yield1;simp only[bI,nV,gg];rfl
def PS.past (z:PS)(sl:Int):PS:=if(z.used:Int)+1<sl then z.more else{z with used:=0,lv:=min (z.lv+1) 2}
theorem w5 (hg:Good T)(r3: ∀l,3<=l->T.rows l=[]) (hz:(b,z)∈T.ps) (hs:z.st=1) (yi:Bool):
 (if yi then T.setRow z.lv ((T.rows z.lv).erase b++[b]) else T).after b=(if yi|| !decide ((z.used:Int)+1<T.sl z.lv) then((T.setP b (z.past (T.sl z.lv))).gone b).setRow (z.past (T.sl z.lv)).lv (((T.setP b (z.past (T.sl z.lv))).gone b).rows (z.past (T.sl z.lv)).lv++[b]) else T.setP b (z.past (T.sl z.lv))):=by
 have hgo: ∀z',(T.setP b z').gone b=(T.setRow z.lv ((T.rows z.lv).erase b)).setP b z':=fun z'=>by
  show (T.gone b).setP b z'=_;rw[iZ hg r3 hz]
 have hget:(if yi then T.setRow z.lv ((T.rows z.lv).erase b++[b]) else T).get b=some z:=by
  cases yi
  ·exact bk hg.pn hz
  ·exact bk (S:=T.setRow z.lv _) hg.pn hz
 unfold St.after;rw[hget];simp only[if_pos hs];unfold St.turn PS.past;have hsl:((if yi then T.setRow z.lv ((T.rows z.lv).erase b++[b]) else T).setP b z.more).sl=T.sl:=by cases yi<;>rfl
 have hlv:z.more.lv=z.lv:=rfl;have hus:((z.more.used:Nat):Int)=(z.used:Int)+1:=by show ((z.used+1:Nat):Int)=_;omega
 rw[hsl,hlv,hus];by_cases ho:(z.used:Int)+1<T.sl z.lv
 ·rw[if_pos ho];simp only[if_pos ho,ho,decide_true,Bool.not_true,Bool.or_false];cases yi
  ·rfl
  ·simp only[if_true];rw[hgo];show _=((T.setRow z.lv ((T.rows z.lv).erase b)).setP b z.more).setRow z.lv ((T.setRow z.lv ((T.rows z.lv).erase b)).rows z.lv++[b]);rw[gg,<-cT,nV]
 ·rw[if_neg ho];simp only[if_neg ho,ho,decide_false,Bool.not_false,Bool.or_true,if_true];rw[hgo];have hS1:((((if yi then T.setRow z.lv ((T.rows z.lv).erase b++[b]) else T).setP b z.more).setRow z.lv ((((if yi then T.setRow z.lv ((T.rows z.lv).erase b++[b]) else T).setP b z.more).rows z.lv).erase b)).setP b {z.more with lv:=min (z.lv+1) 2,used:=0})=(T.setRow z.lv ((T.rows z.lv).erase b)).setP b {z with used:=0,lv:=min (z.lv+1) 2}:=by
   cases yi
   ·simp only[Bool.false_eq_true,if_false];rw[<-cT,bI];rfl
   ·simp only[if_true];have er:((T.setRow z.lv ((T.rows z.lv).erase b++[b])).setP b z.more).rows z.lv=(T.rows z.lv).erase b++[b]:=gg _ _;rw[er,rF (hg.rn _ (hg.lv _ hz)),<-cT,bI,nV];rfl
  rw[hS1];simp only[if_false]
theorem MI.stepS {N:Nat->Nat}(h:MI (fun _=>False) N T)(hp:Coded T)(hb:(b,x)∈T.ps)(hs:x.st=1)(hc: ∀q∈T.ps,T.last+1≠q.1) (hN:N (T.last+1)=T.last+1):MI (fun _=>False) N (T.stepS b x):=by
 cases hy:T.stepY x with
 |false=>rw[<-fp hy];exact h.runS hp hb hs hc hN
 |true=>
  rw[(eN hy).1];exact h.like hb (h.out hb hs) rfl rfl (fE (x:=x.next) ⟨(h.i.wf _ hb).r,(h.i.wf _ hb).m⟩ (by decide)) (h.i.fl (b,x) hb) rfl rfl (h.x.un (b,x) hb)
theorem Db (B:RB)(T:St)(X:RX){l:Nat}(hl:l<3):(rkc B T X)[l]? =some (.int .i64 (T.sl l)):=by
 rcases l with _|_|_|l
 ·rfl
 ·rfl
 ·rfl
 ·omega
end
theorem Bi: ∃n,∀{σ}{F:Fam σ}{Δ:DM F}{main s}(R:Nat)(B:RB)(T:St)(X:RX)(L:Frag)(b:Nat)(x:PS),(∀s o,(Δ s).New o)->RepR 0 R B T X L->MI (fun _=>False) (fun b=>b) T->NP T->(b,x)∈T.ps->x.st=1->X.ws.length<=9999->X.now=T.now->T.now<2305843009213693952->T.last<4611686018427387904->Coded T->(∀i,i<T.pn->T.pg i 0=9->T.pg i 1<7\/10<T.pg i 1)->
 CallsL Δ Tryz.prog main 101 [ptr R,ptr (B.p b)].toArray n s L (fun s' v L'=>s=s'/\v= .tuple #[]/\ ∃B',To 0 R B T L B' ((T.runS b x (T.last+1)).after b) (stepX T (tellX X 1 b x.at_) b x) L'):=by
 obtain⟨n1,g1⟩:=nQ;obtain⟨n2,g2⟩:=Bh;obtain⟨n3,g3⟩:=kw;apply Exists.intro;intro σ F Δ main s R B T X L b x hN hR hM hNP hb hs1 hw hnow hnl hls hcd hfam;have hn:=hM.i.g.pn;have h0: ∀q∈T.ps,q.1≠0:=fun q hq e=>by have:=(hM.x.idr q hq).1;rw[hR.id q hq] at this;omega
 have hx0:At L (B.p b) 0 (.int .i64 (b:Nat)):=hR.to.num hR hb;have hx4:At L (B.p b) 4 (.int .i64 (x.at_:Nat)):=hR.pat hb (i:=4) rfl;have hun:x.used<=T.now:=hM.x.un _ hb;have hcl: ∀q∈T.ps,T.last+1≠q.1:=fun q hq e=>by have:=hR.le q hq;omega
 co_applyP aF 96 Tryz.func101 Tryz.ntmps101;co_applyP au;co_applyP rf 11 a5;co_applyP lt (i:=0) rfl ag;co_applyP lt (i:=1) rfl ag;co_applyP lt (i:=2) rfl av;co_applyP lt (i:=3) rfl (ak (hf:=aG));co_applyP lt (i:=4) rfl (ak (hf:=bH));co_applyP lt (i:=5) rfl (aA (ht:=aR));co_applyP lt (i:=6) rfl ag;co_applyP lt (i:=7) rfl av;co_applyP lt (i:=8) rfl (ak (hf:=aG));co_applyP lt (i:=9) rfl (ak (hf:=bT));co_applyP lt (i:=10) rfl (aA (ht:=aR));co_applyP lc (i:=11) rfl rfl rfl (g1 0 R B T X L 1 b (x.at_:Nat) hN hR (by omega));rintro _ _ _ ⟨rfl,rfl,B1,hT1⟩;change wpE ..;rename_i L1;have ep1:=hT1.q hR hb;have hx6:At L1 (B.p b) 6 (.int .i64 (x.used:Nat)):=by
  have:At L1 (B1.p b) 6 (.int .i64 ((x.used+(B1.e b).du:Nat):Int)):=hT1.r.pat hb (i:=6) rfl;rw[hT1.r.du _ hb,if_neg (h0 _ hb),ep1] at this;exact this
 have w1:IntKind.i64.wrap ((x.used:Int)+1)=((x.used+1:Nat):Int):=by simp[IntKind.wrap_i64];omega
 co_applyP aa;co_applyP om rfl rfl rfl av;co_applyP oy rfl (ak (hf:=aG));co_applyP oy rfl (ak (hf:=da));co_applyP oy rfl (aA (ht:=aR));co_applyP oy rfl aS;co_applyP oy rfl av;co_applyP oy rfl (ak (hf:=aG));co_applyP oy rfl (ak (hf:=da));rw[w1,<-ep1];co_applyP osm rfl (hs:=bS) (hm:=hT1.r.p _ hb) (hi:=by rw[bC];decide);intro L2 hU2;have hT2:=hT1.trans (To.of (hT1.r.setP hb hU2 x {B1.e b with du:=1} b rfl (hun:=hT1.r.un _ hb) (hdu:=by rw[if_pos rfl]) (ho:=fun q hq hne=>⟨fun e=>absurd e (h0 q hq),fun e=>absurd e hne⟩) (hsz:=hT1.r.sz _ hb)));rw[yV hn hb] at hT2;have ep2:=hT2.q hR hb;rw[ep1,<-ep2];co_applyP ai;co_applyP aa;co_applyP om rfl rfl rfl ag;co_applyP oc rfl rfl rfl (g2 R _ T _ L2 b x hN hT2.r hM hNP hb hs1 (by simp;omega) hnow (by omega) hls hcd.1 hfam);rintro _ _ _ ⟨rfl,rfl,B3,hT3⟩;rename_i L3;have hM3:MI (fun _=>False) (fun b=>b) (T.stepS b x):=hM.stepS hcd hb hs1 hcl rfl;replace hT3:=hT2.trans hT3;rw[ep2];have hy1:T.stepY x=true-> ∀z,(b,z)∈(T.stepS b x).ps->z.st=1/\z.lv=x.lv/\(T.stepS b x).rows=T.rows:=fun hy z hz=>by
  rw[(eN hy).1] at hz⊢;rcases aO hz with e|⟨_,h⟩
  ·cases e;exact⟨hs1,rfl,rfl⟩
  ·exact absurd rfl h
 have h03: ∀q∈(T.stepS b x).ps,q.1≠0:=fun q hq e=>by have:=(hM3.x.idr q hq).1;rw[hT3.r.id q hq] at this;omega
 have ep3:=hT3.q hR hb;have key: ∃st:Nat,At L3 (B.p b) 2 (.int .i64 (st:Nat))/\(st=1-> ∃z,(b,z)∈(T.stepS b x).ps/\z.st=1)/\(st≠1-> ∃B',To 0 R B T L B' ((T.runS b x (T.last+1)).after b) (stepX T (tellX X 1 b x.at_) b x) L3):=by
  rcases hT3.i _ hb with hin|⟨cs,h1,h2,h3⟩
  ·obtain⟨z,hz⟩:=dS hin;have hz':(b,z)∈(T.stepS b x).ps:=hz;refine⟨z.st, ?_,fun h=>⟨z,hz',h⟩,fun h=> ?_⟩
   ·rw[<-ep3];exact hT3.r.pat hz' (i:=2) rfl
   ·have hy:T.stepY x=false:=by
     cases hy:T.stepY x with
     |false=>rfl
     |true=>exact absurd (hy1 hy z hz').1 h
    obtain⟨B',hB⟩:=hT3.more hz' h03;refine⟨B', ?_⟩;rw[fp hy];unfold St.after;rw[bk hM3.i.g.pn hz'];simp only[if_neg h];exact hB
  ·by_cases hin:b∈(T.stepS b x).ps.map (·.1)
   ·obtain⟨z,hz⟩:=dS hin;refine⟨z.st, ?_,fun h=>⟨z,hz,h⟩,fun h=> ?_⟩
    ·rw[<-ep3];exact hT3.r.pat hz (i:=2) rfl
    ·have hy:T.stepY x=false:=by
      cases hy:T.stepY x with
      |false=>rfl
      |true=>exact absurd (hy1 hy z hz).1 h
     obtain⟨B',hB⟩:=hT3.more hz h03;refine⟨B', ?_⟩;rw[fp hy];unfold St.after;rw[bk hM3.i.g.pn hz];simp only[if_neg h];exact hB
   ·have hne: ∀q∈(T.stepS b x).ps,q.1≠b:=fun q hq e=>hin (List.mem_map.2 ⟨q,hq,e⟩);refine⟨6,⟨true,_,_,_,h1,h3⟩,fun h=>absurd h (by decide),fun _=>⟨B3, ?_⟩⟩;have hy:T.stepY x=false:=by
     cases hy:T.stepY x with
     |false=>rfl
     |true=>
      rw[(eN hy).1] at hne;exact absurd rfl (hne _ (ar hb))
    rw[fp hy];unfold St.after;rw[fU hne];exact{hT3 with r:=hT3.r.o' fun q hq=>⟨fun e=>absurd e (hne q hq),fun e=>absurd e (h03 q hq)⟩}
 obtain⟨st,hst2,hst1,hstn⟩:=key;co_applyP oan rfl;co_applyP au;co_applyP aa;co_applyP om rfl rfl rfl av;co_applyP oy rfl (ak (hf:=aG));co_applyP oy rfl (ak (hf:=bM));co_applyP oy rfl (aA (ht:=aR));co_applyP oy rfl dK;co_applyP ai;co_applyP aT rfl;intro hs;co_applyP aK;change∃v,resE .. =some v/\_
 ·have hs':st≠1:=by simp at hs;omega
  obtain⟨B',hB⟩:=hstn hs';exact⟨_,rfl,rfl,rfl,B',hB⟩
 intro hs;have hs':st=1:=by simp at hs;omega
 obtain⟨z,hz,hz1⟩:=hst1 hs';clear hst1 hstn;have hg3:=hM3.i.g;have hrun:T.runS b x (T.last+1)=if T.stepY x then(T.stepS b x).setRow z.lv (((T.stepS b x).rows z.lv).erase b++[b]) else T.stepS b x:=by
  cases hy:T.stepY x with
  |false=>exact fp hy
  |true=>
   obtain⟨_,h2,h3⟩:=hy1 hy z hz;rw[h2,h3,(eN hy).2,(eN hy).1];rfl
 have hfin:=w5 hg3 hM3.x.r3 hz hz1 (T.stepY x);rw[<-hrun] at hfin;have hlv:z.lv<3:=hg3.lv _ hz;have hdu3:=hT3.r.du _ hz;rw[if_pos rfl] at hdu3;have hz5:At L3 (B.p b) 5 (.int .i64 (z.lv:Nat)):=by rw[<-ep3];exact hT3.r.pat hz (i:=5) rfl
 have hz6:At L3 (B.p b) 6 (.int .i64 ((z.used+1:Nat):Int)):=by
  have:At L3 (B3.p b) 6 (.int .i64 ((z.used+(B3.e b).du:Nat):Int)):=hT3.r.pat hz (i:=6) rfl;rw[hdu3,ep3] at this;exact this
 have hsl:At L3 R z.lv (.int .i64 ((T.stepS b x).sl z.lv)):=hT3.r.kat (Db _ _ _ hlv);generalize T.stepY x=yi at hfin;generalize hT3e:T.stepS b x=T3 at*;generalize stepX T (tellX X 1 b x.at_) b x=X3 at*;rw[hfin];clear hrun hy1 hfin;co_applyP aB;co_applyP aa;co_applyP om rfl rfl rfl av;co_applyP oy rfl (ak (hf:=aG));co_applyP oy rfl (ak (hf:=cn));co_applyP oy rfl (aA (ht:=aR));co_applyP oan rfl;co_applyP aN (by rfl:kn _ [(5, .int .i64 (z.lv:Nat)),(4, .bool yi),(1,ptr (B.p b)),(0,ptr R)]);co_applyP cK ((fun s'' ε'' L''=>s=s''/\kn ε'' [(4, .bool (yi|| !decide ((z.used:Int)+1<T3.sl z.lv))),(1,ptr (B.p b)),(0,ptr R)]/\ ∃B5,To 0 R B T L B5 (T3.setP b (z.past (T3.sl z.lv))) X3 L''));co_applyP au;co_applyP bA a5;co_applyP tr 0 rfl ag pI;co_applyP tr 1 rfl av pI;co_applyP tr 2 rfl (ak (hf:=aG)) pI;co_applyP tr 3 rfl (ak (hf:=da)) pI;co_applyP tr 4 rfl (aA (ht:=aR)) pI;co_applyP tr 5 rfl ag pI;co_applyP tr 6 rfl ag pI;co_applyP tr 7 rfl av pI;co_applyP tr 8 rfl (ak (hf:=pk)) pI;co_applyP tr 9 rfl (ak (hf:=iD)) pI;co_applyP tr 10 rfl (aX Tryz.underlying24 bS) pI;co_applyP tr 11 rfl (aA (ht:=aR)) pI;co_applyP tr 12 rfl dt pI;co_applyP td (by kernel_rfl);co_applyP aT rfl;intro ho;co_applyP aa;co_applyP om rfl rfl rfl av;co_applyP oy rfl (ak (hf:=aG));co_applyP oy rfl (ak (hf:=da))
 ·have ho': ¬(z.used:Int)+1<T3.sl z.lv:=by simp at ho;omega
  have epa:z.past (T3.sl z.lv)={z with used:=0,lv:=min (z.lv+1) 2}:=by unfold PS.past;rw[if_neg ho']
  rw[<-ep3,epa];co_applyP osm rfl (hs:=bS) (hm:=hT3.r.p _ hz) (hi:=by rw[bC];decide);intro L4 hU4;have hT4:=hT3.trans (To.of (hT3.r.setP hz hU4 {z with used:=0} {B3.e b with du:=0} 0 rfl (hun:=hT3.r.un _ hz) (hdu:=by rw[if_neg (h03 _ hz)]) (ho:=fun q hq hne=>⟨fun e=>absurd e hne,fun e=>absurd e (h03 q hq)⟩) (hsz:=hT3.r.sz _ hz)));have hz4:=ar (x:={z with used:=0}) hz;have ho2:(yi|| !decide ((z.used:Int)+1<T3.sl z.lv))=true:=by simp[ho']
  rw[ho2];co_applyP ai;co_applyP cK ((fun s'' ε'' L''=>s=s''/\kn ε'' [(1,ptr (B3.p b)),(0,ptr R)]/\ ∃B5,To 0 R B T L B5 (T3.setP b {z with used:=0,lv:=min (z.lv+1) 2}) X3 L''));co_applyP aa;co_applyP om rfl rfl rfl bj;co_applyP ai;co_applyP aT rfl;intro hl;co_applyP aq;co_applyP om rfl rfl rfl ag;co_applyP oy rfl aS;co_applyP oy rfl av;co_applyP oy rfl (ak (hf:=aG));co_applyP oy rfl (ak (hf:=cn))
  ·have hl':z.lv<2:=by simp at hl;omega
   have wl:IntKind.i64.wrap ((z.lv:Int)+1)=((z.lv+1:Nat):Int):=by simp[IntKind.wrap_i64];omega
   rw[wl];co_applyP osm rfl (hs:=bS) (hm:=hT4.r.p _ hz4) (hi:=by rw[bC];decide);intro L5 hU5;have hT5:=hT4.trans (To.of (hT4.r.setP hz4 hU5 {z with used:=0,lv:=z.lv+1} (put B3.e b {B3.e b with du:=0} b) 0 rfl (hun:=hT4.r.un _ hz4) (hdu:=hT4.r.du _ hz4) (ho:=fun _ _ _=>Iff.rfl) (hsz:=hT4.r.sz _ hz4)));rw[bI] at hT5;co_applyP ai;change _=_/\kn _ _/\ ∃B5,_;exact⟨rfl,rfl,_,by rw[show min (z.lv+1) 2=z.lv+1 by omega];exact hT5⟩
  intro hl;co_applyP aB;change _=_/\kn _ _/\ ∃B5,_;have hl': ¬z.lv<2:=by simp at hl;omega
  exact⟨rfl,rfl,_,by rw[show min (z.lv+1) 2=z.lv by omega];exact hT4⟩;rintro _ ε5 L5 ⟨rfl,he5,B5,hT5⟩;co_applyP aN he5;co_applyP aq;co_applyP oan rfl;change _=_/\kn _ _/\ ∃B5,_;exact⟨rfl,by rw[ep3];rfl,B5,hT5⟩
 intro ho;co_applyP aB;change _=_/\kn _ _/\ ∃B5,_;have ho':(z.used:Int)+1<T3.sl z.lv:=by simp at ho;omega
 have epa:z.past (T3.sl z.lv)=z.more:=by unfold PS.past;rw[if_pos ho']
 obtain⟨B5,hT5⟩:=hT3.more hz h03;exact⟨rfl,by rw[show (yi|| !decide ((z.used:Int)+1<T3.sl z.lv))=yi by simp[ho']];rfl,B5,by rw[epa];exact hT5⟩;rintro _ ε5 L5 ⟨rfl,he5,B5,hT5⟩;co_applyP aN he5;have hlv4:(z.past (T3.sl z.lv)).lv<3:=by
  unfold PS.past
  split
  ·exact hlv
  ·show min (z.lv+1) 2<3;omega
 generalize z.past (T3.sl z.lv)=z4 at*;have hz5':=ar (x:=z4) hz;have hr5: ∀l,l<3->((T3.setP b z4).rows l).length<=8:=fun l hl=>hg3.r8 hl;co_applyP aa;co_applyP oy rfl ag;co_applyP ai;co_applyP aT rfl;intro hy;co_applyP aa;co_applyP om rfl rfl rfl ag
 ·rw[if_pos hy];have ep5:=hT5.q hR hb;rw[<-ep5];co_applyP oc rfl rfl rfl (g3 0 R B5 _ X3 L5 b z4 hN hT5.r hz5' hr5 hM3.x.r3);rintro _ _ _ ⟨rfl,rfl,B6,hT6⟩;co_applyP ai;change wpE ..;rename_i L6;replace hT6:=hT5.trans hT6;have hz6':(b,z4)∈((T3.setP b z4).gone b).ps:=hz5';have hr6:(((T3.setP b z4).gone b).rows z4.lv).length<=8:=Nat.le_trans (List.length_filter_le _ _) (hr5 _ hlv4);generalize (T3.setP b z4).gone b=T6 at*;have ep6:=hT6.q hR hb;rw[ep5];have hR6:=hT6.r;have hx5:At L6 (B.p b) 5 (.int .i64 (z4.lv:Nat)):=by rw[<-ep6];exact hR6.pat hz6' (i:=5) rfl
  have hx0':At L6 (B.p b) 0 (.int .i64 (b:Nat)):=hT6.num hR hb;have hrow:At L6 R (7+z4.lv) (rowv (B6.a z4.lv) 1 (T6.rows z4.lv).length):=hR6.kat (lz _ _ _ hlv4);have hpm:(B.p b,true,Obj.cells (rpc z4 (B6.e b)) 154)∈L6:=by rw[<-ep6];exact hR6.p _ hz6'
  co_applyP br [(B.p b,true,Obj.cells (rpc z4 (B6.e b)) 154)] 22 (nf:=0) a5;co_applyP tr 0 rfl ag (aj (by simpa using hpm));co_applyP tr 1 rfl ag (aj (by simpa using hpm));co_applyP tr 2 rfl av (aj (by simpa using hpm));co_applyP tr 3 rfl (ak (hf:=aG)) (aj (by simpa using hpm));co_applyP tr 4 rfl (ak (hf:=cn)) (aj (by simpa using hpm));co_applyP tr 5 rfl (aA (ht:=aR)) (aj (by simpa using hpm));co_applyP tr 6 rfl ag (aj (by simpa using hpm));co_applyP tr 7 rfl ag (aj (by simpa using hpm));co_applyP tr 8 rfl av (aj (by simpa using hpm));co_applyP tr 9 rfl (ak (hf:=aG)) (aj (by simpa using hpm));co_applyP tr 10 rfl (ak (hf:=cn)) (aj (by simpa using hpm));co_applyP t0 11 rfl (aA (ht:=aR)) (aj (by simpa using hpm));co_applyP tr 12 rfl av (aj (by simpa using hpm));co_applyP tr 13 rfl (ak (hf:=cB)) (aj (by simpa using hpm));co_applyP tr 14 rfl (aX jq dx) (aj (by simpa using hpm));co_applyP t0 15 rfl (aA (ht:=kS)) (aj (by simpa using hpm));co_applyP tr 16 rfl ag (aj (by simpa using hpm));co_applyP tr 17 rfl av (aj (by simpa using hpm));co_applyP tr 18 rfl (ak (hf:=aG)) (aj (by simpa using hpm));co_applyP tr 19 rfl (ak (hf:=bH)) (aj (by simpa using hpm));co_applyP t0 20 rfl (aA (ht:=aR)) (aj (by simpa using hpm));co_applyP tr 23 rfl av (aj (by simpa using hpm));co_applyP tr 24 rfl (ak (hf:=cB)) (aj (by simpa using hpm));co_applyP te (i:=21) rfl (sw (hN _ _));rintro _ _ ⟨nb,hnb,rfl,rfl⟩;refine⟨cJ (by simpa using hpm) (fun t ht=>List.mem_cons_of_mem _ ht), ?_⟩;co_applyP bd;intro hnd;have hA:=cQ (o:= .cells #[.int .i64 (b:Nat)] 3) hR6.fn hnb;have hE:Ext L6 _:=⟨hA.fn,hA.sub⟩;have hR7:=hR6.ext hE;have hpm7:=hA.sub _ hpm;have k7: ∀{e:TypeId},3≠e->NoT _ (fun c=>(B6.a z4.lv).b=some c) e:=fun he=>NoT.sl hR7.fn (hR7.rw _ hlv4) he;co_applyP te (i:=22) rfl (gR (e:=3) (hnd:=hnd) (hu:=U54) (hs:=bS) (hb:=pF) (hz:=tL) (hzs:=rfl) (hN:=fun cs=>hN _ _) (ha:=hR7.rw _ hlv4) (hn:=by rw[List.length_map]) (v:= .int .i64 (b:Nat)) (hm:=hA.self) (hpl:=rfl) (h8:=by omega));rintro _ _ ⟨a',rfl,hp⟩;refine⟨aD (by simpa using hp.ch.keep (k7 (by decide)) hpm7), ?_⟩;co_applyP to 25 rfl (aX jq dx (h1:=Int.ofNat_lt.2 hlv4)) (aD (by simpa using hp.ch.keep (k7 (by decide)) hpm7));co_applyP bd;intro hnd';have hk:=hp.ch.keep (k7 (by decide)) hR7.k;have hpm8:=hp.ch.keep (k7 (by decide)) hpm7;co_applyP te (i:=26) rfl (dv (hnd:=hnd') (hm:=hk) (hi:=by show _<16;omega) (hp:=bW _ _ _) (hs:=dx))
  rintro _ _ ⟨rfl,hU8⟩;refine⟨aD (by simpa using hU8.ne _ hpm8 fun e=>absurd (dk hp.fn hpm8 (e▸hk)) (by decide)), ?_⟩;co_applyP td (by kernel_rfl);change∃v,resE .. =some v/\_;rw[show i64s (T6.rows z4.lv)++[.int .i64 (b:Nat)]=i64s (T6.rows z4.lv++[b]) by simp[i64s]] at hp;exact⟨_,rfl,rfl,rfl,_,hT6.trans (To.pre hE (To.of (hR7.setR hlv4 hp hU8 (by rw[<-jH _ _ _ hlv4];simp))))⟩
 intro hy;co_applyP aB;change∃v,resE .. =some v/\_;exact⟨_,rfl,rfl,rfl,B5,by rw[hy];exact hT5⟩
section
variable {T:St}{j:Nat}
theorem mO: ∀(bs:List Nat)(S:St),(S.lifts bs).ps.map (·.1)=S.ps.map (·.1)
 |[],S=>rfl
 |b::bs,S=>by
  unfold St.lifts;rw[mO bs]
  split
  ·split
   ·exact dJ _ _ _
   ·rfl
  ·rfl
theorem lA: ∀(bs:List Nat)(S:St),(S.lifts bs).rows=S.rows
 |[],S=>rfl
 |b::bs,S=>by
  unfold St.lifts;rw[lA bs]
  split
  ·split<;>rfl
  ·rfl
def St.emptyTo (T:St)(j:Nat):St:={T with rows:=fun l=>if l<j then [] else T.rows l}
def St.allTo (T:St)(j:Nat):List Nat:=(List.range j).flatMap T.rows
theorem uo:T.emptyTo 0=T:=by unfold St.emptyTo;simp
theorem uq:(T.emptyTo j).setRow j []=T.emptyTo (j+1):=by
 unfold St.emptyTo St.setRow put;congr 1
 funext l
 by_cases h:l=j
 ·subst h;simp
 ·simp only[if_neg h];by_cases h1:l<j
  ·rw[if_pos h1,if_pos (by omega)]
  ·rw[if_neg h1,if_neg (by omega)]
theorem gL:T.allTo (j+1)=T.allTo j++T.rows j:=by unfold St.allTo;rw[List.range_succ,List.flatMap_append];simp
theorem ur:(T.emptyTo 3).setRow 0 (T.allTo 3)=T.raises 2:=by
 have e:T.allTo 3=T.rows 0++T.rows 1++T.rows 2:=by rw[gL,gL,gL];rfl
 rw[e];unfold St.emptyTo St.raises St.raises St.raises St.raise1 St.setRow put;congr 1
 funext l
 rcases l with _|_|_|l
 ·simp
 ·simp
 ·simp
 ·simp;intro h;omega
theorem mP (h: ∀l,l<3->(T.rows l).length<=8): ∀j,j<=3->(T.allTo j).length<=8*j
 |0,_=>by simp[St.allTo]
 |j+1,hj=>by
  rw[gL,List.length_append];have:=mP h j (by omega);have:=h j (by omega);omega
end
theorem yW: ∃n,∀{σ}{F:Fam σ}{Δ:DM F}{main s}(R:Nat)(B:RB)(T:St)(X:RX)(L:Frag),(∀s o,(Δ s).New o)->RepR 0 R B T X L->MI (fun _=>False) (fun b=>b) T->
 CallsL Δ Tryz.prog main 99 [ptr R].toArray n s L (fun s' v L'=>s=s'/\v= .tuple #[]/\ ∃B',To 0 R B T L B' ((T.lifts (T.ps.map (·.1))).raises 2) X L'):=by
 apply Exists.intro;intro σ F Δ main s R B T X L hN hR hM;have hg:=hM.i.g;have h0: ∀q∈T.ps,q.1≠0:=fun q hq e=>by have:=(hM.x.idr q hq).1;rw[hR.id q hq] at this;omega
 have hnd:=hg.pn;generalize hns:T.ps.map (·.1)=ns at hnd;have hl8:ns.length<=8:=by rw[<-hns];simpa using hg.p8
 co_applyP aF 66 Tryz.func99 Tryz.ntmps99;co_applyP au;co_applyP aa;co_applyP oan rfl;co_applyP aC;co_applyP bg (fun k s' ε' L'=>s=s'/\ ∃l1 l2 B',ns=l1++l2/\k+l1.length=8/\To 0 R B T L B' (T.lifts l1) X L'/\kn ε' [(2, .int .i64 l1.length),(0,ptr R)]) 8
 ·exact⟨rfl,[],ns,B,rfl,rfl,hR.to,rfl⟩
 rintro k s' ε' L' ⟨rfl,l1,l2,B',hl,hk,hT,he⟩;co_applyP aN he;have hlen:=congrArg List.length hl;simp only[List.length_append] at hlen;have hR':=hT.r;have hfo:(T.lifts l1).ps.map (·.1)=ns:=by rw[mO,hns]
 have hpl:(T.lifts l1).ps.length=ns.length:=by rw[<-hfo];simp
 obtain⟨base,cap,hv,hat⟩:=fG hR'.pl (n:=ns.length) (by simp[hpl]);have h5:At L' R 5 (.slice base ns.length cap):=by rw[<-hv,<-hpl];exact hR'.kat rfl
 co_applyP au;co_applyP aa;co_applyP om rfl rfl rfl ag;co_applyP oy rfl av;co_applyP oy rfl (ak (hf:=bu));co_applyP oy rfl (aA (ht:=ci));co_applyP oy rfl (bt (hu:=cY));co_applyP oy rfl bj;co_applyP ai;co_applyP aT rfl;intro hc
 ·cases l2 with
  |nil=>simp at hc hlen;omega
  |cons c l2=>
   obtain⟨y,hy⟩:=dS (c:=c) (S:=T.lifts l1) (by rw[hfo,hl];simp);have hgi:((T.lifts l1).ps.map fun q=>ptr (B'.p q.1))[l1.length]? =some (ptr (B'.p c)):=by
    have:((T.lifts l1).ps.map (·.1))[l1.length]? =some c:=by rw[hfo,hl];simp
    rw[List.getElem?_map] at this⊢;cases h:(T.lifts l1).ps[l1.length]? with
    |none=>rw[h] at this;cases this
    |some q=>rw[h] at this;simp at this;simp[this]
   obtain⟨g,hgb,hbs,hbv⟩:=hat l1.length _ hgi;subst hbs;simp at hlen;have hc0:c≠0:=by
    obtain⟨w,hw⟩:=dS (c:=c) (S:=T) (by rw[hns,hl];simp);exact h0 _ hw
   have e1:IntKind.i64.wrap ((l1.length:Int)+1)=((l1++[c]).length:Int):=by simp[IntKind.wrap_i64];omega
   have hy2:At L' (B'.p c) 2 (.int .i64 (y.st:Nat)):=hR'.pat hy (i:=2) rfl;have hy5:At L' (B'.p c) 5 (.int .i64 (y.lv:Nat)):=hR'.pat hy (i:=5) rfl;have hnx:T.lifts (l1++[c])=if y.st≠6/\0<y.lv then(T.lifts l1).setP c {y with lv:=0,used:=0} else T.lifts l1:=by
    rw[iN];show St.lifts (match (T.lifts l1).get c with|some x=>_|none=>_) []=_;rw[bk hR'.pn hy];rfl
   co_applyP aB;co_applyP cK ((fun s'' ε'' L''=>s=s''/\ ∃B',To 0 R B T L B' (T.lifts (l1++[c])) X L''/\kn ε'' [(2, .int .i64 l1.length),(0,ptr R)]));co_applyP aC;co_applyP aa;co_applyP om rfl rfl rfl av;co_applyP oy rfl (ak (hf:=bu));co_applyP oy rfl (aA (ht:=ci));co_applyP om rfl rfl rfl (bw cY cq);co_applyP oy rfl (aA (ht:=dZ));co_applyP oan rfl;co_applyP au;co_applyP cO ([(35, .bool (decide (y.st≠6/\0<y.lv))),(3,ptr (B'.p c)),(2, .int .i64 l1.length),(0,ptr R)]);co_applyP aq;co_applyP om rfl rfl rfl av;co_applyP oy rfl (ak (hf:=aG));co_applyP oy rfl (ak (hf:=bM));co_applyP oy rfl (aA (ht:=aR));co_applyP oy rfl dK;co_applyP oy rfl ag
   ·by_cases h6:y.st=6
    ·rw[show ((y.st:Int) !=6)=false by simp[h6]];co_applyP ou rfl;co_applyP ou rfl;co_applyP ou rfl;co_applyP ou rfl;co_applyP ou rfl;co_applyP ou rfl;co_applyP oy rfl aH;co_applyP ai;change _=_/\_=_/\kn _ _;refine⟨rfl,rfl, ?_⟩;rw[show decide (y.st≠6/\0<y.lv)=false by simp[h6]];rfl
    ·rw[show ((y.st:Int) !=6)=true by simp;omega];co_applyP om rfl rfl rfl (av);co_applyP oy rfl ((ak (hf:=aG)));co_applyP oy rfl ((ak (hf:=cn)));co_applyP oy rfl ((aA (ht:=aR)));co_applyP oy rfl (dK);co_applyP oy rfl aH;co_applyP ai;change _=_/\_=_/\kn _ _;refine⟨rfl,rfl, ?_⟩;have e4:decide (y.st≠6/\0<y.lv)=((y.lv:Int) !=0):=by
      by_cases h:y.lv=0
      ·simp[h]
      ·rw[show decide (y.st≠6/\0<y.lv)=true from decide_eq_true ⟨h6,by omega⟩,show ((y.lv:Int) !=0)=true by simp;omega]
     rw[e4];rfl
   co_applyP aT rfl;intro hw;co_applyP aa;co_applyP om rfl rfl rfl av;co_applyP oy rfl (ak (hf:=aG));co_applyP oy rfl (ak (hf:=cn))
   ·have hw':y.st≠6/\0<y.lv:=by simpa using hw
    rw[if_pos hw'] at hnx;co_applyP osm rfl (hs:=bS) (hm:=hR'.p _ hy) (hi:=by rw[bC];decide);intro L2 hU2;have hT2:=hT.trans (To.of (hR'.setP hy hU2 {y with lv:=0} (B'.e c) 0 rfl (hun:=hR'.un _ hy) (hdu:=hR'.du _ hy) (ho:=fun _ _ _=>Iff.rfl) (hsz:=hR'.sz _ hy)));have hy2':=ar (x:={y with lv:=0}) hy;co_applyP ai;co_applyP aq;co_applyP om rfl rfl rfl av;co_applyP oy rfl (ak (hf:=aG));co_applyP oy rfl (ak (hf:=da));co_applyP osm rfl (hs:=bS) (hm:=hT2.r.p _ hy2') (hi:=by rw[bC];decide);intro L3 hU3;have hT3:=hT2.trans (To.of (hT2.r.setP hy2' hU3 {y with lv:=0,used:=0} {put B'.e c (B'.e c) c with du:=0} 0 rfl (hun:=hT2.r.un _ hy2') (hdu:=by rw[if_neg hc0]) (ho:=fun _ _ _=>Iff.rfl) (hsz:=hT2.r.sz _ hy2')));rw[bI,<-hnx] at hT3;co_applyP ai;change _=_/\ ∃B',_;exact⟨rfl,_,hT3,rfl⟩
   intro hw;co_applyP aB;change _=_/\ ∃B',_;have hw': ¬(y.st≠6/\0<y.lv):=by simpa using hw
   rw[if_neg hw'] at hnx;exact⟨rfl,B',by rw[hnx];exact hT,rfl⟩;rintro _ ε8 L8 ⟨rfl,B8,hT8,he8⟩;co_applyP aN he8;co_applyP aq;co_applyP om rfl rfl rfl aS;co_applyP oan rfl;change∃k',k'<_/\_;rw[e1];exact⟨k-1,by omega,rfl,l1++[c],l2,B8,by simp[hl],by simp;omega,hT8,rfl⟩
 intro hc;co_applyP bf;co_applyP aa;co_applyP oan rfl;co_applyP au;co_applyP aa;co_applyP oan rfl;co_applyP aC;have hl2:l2=[]:=by
  cases l2 with
  |nil=>rfl
  |cons c l2=>simp at hc hlen;omega
 subst hl2;simp only[List.append_nil] at hl;subst hl;have hr8: ∀l,l<3->((T.lifts ns).rows l).length<=8:=fun l hl=>by rw[lA];exact hg.r8 hl
 generalize T.lifts ns=T1 at hT hr8;clear hat hv h5 hR' hfo hpl;co_applyP bg (fun k s' ε' L'=>s=s'/\ ∃(j:Nat) (B':RB) (a':Sl),k+j=3/\To 0 R B T L B' (T1.emptyTo j) X L'/\slOk a' (i64s (T1.allTo j)) 3 L'/\(∀c,a'.b=some c-> ¬OwnR R B' (T1.emptyTo j) c/\ ∀t∈L,¬OwnR R B T t.1->t.1≠c)/\kn ε' [(5, .int .i64 j),(4,rowv a' 1 (T1.allTo j).length),(0,ptr R)]) 3
 ·exact⟨rfl,0,B',⟨none,[]⟩,rfl,by rw[uo];exact hT,⟨rfl,rfl⟩,by simp,rfl⟩
 rintro k s' ε' L' ⟨rfl,j,B2,a',hk,hT2,ha,hfr,he⟩;co_applyP aN he;co_applyP au;co_applyP aa;co_applyP om rfl rfl rfl bj;co_applyP ai;co_applyP aT rfl;intro hc
 ·have hj:j<3:=by simp at hc;omega
  have er:(T1.emptyTo j).rows j=T1.rows j:=if_neg (Nat.lt_irrefl j);have hok:slOk (B2.a j) (i64s (T1.rows j)) 3 L':=by rw[<-er];exact hT2.r.rw j hj
  obtain⟨base,cap,hv,hat⟩:=fG hok (n:=(T1.rows j).length) (by simp);have hrow:At L' R (7+j) (.slice base (T1.rows j).length cap):=by rw[<-hv,<-er];exact hT2.r.kat (lz _ _ _ hj)
  have hrd:Reads Tryz.prog L' 1 (T1.rows j).length (.slice base (T1.rows j).length cap) (i64s (T1.rows j)).toArray:=by rw[<-hv];exact nL hok (by simp) (by decide)
  have e:IntKind.i64.wrap ((j:Int)+1)=((j+1:Nat):Int):=by simp[IntKind.wrap_i64];omega
  have hal:=mP hr8 j (by omega);have hrl:=hr8 j hj;co_applyP aB;co_applyP au;co_applyP aC;co_applyP aa;co_applyP om rfl rfl rfl ag;co_applyP om rfl rfl rfl av;co_applyP oy rfl (ak (hf:=cB));co_applyP oy rfl (aX jq dx);co_applyP oy rfl (aA (ht:=kS));co_applyP oeN rfl (fun hnd=>jW (a:=a') (xs:=i64s (T1.allTo j)) (ys:=i64s (T1.rows j)) (n:=(T1.allTo j).length) (m:=(T1.rows j).length) (by_:=7) (hnd:=hnd) (hu:=U54) (hs:=bS) (hb:=pF) (hz:=tL) (hzs:=rfl) (hN:=fun cs=>hN _ _) (ha:=ha) (hn:=by simp) (hr:=hrd) (hm:=by simp) (hpl:=by simp[plainV]) (h0:=by decide) (h8:=by omega));rintro _ L3 ⟨a3,rfl,hp3⟩;have hT3:=hT2.other hp3.ch (fun d hd=>hfr d hd) (.sl hT2.r.fn ha (by decide));have hnil:ApN L3 3 (B2.a j) (i64s []) ⟨none,[]⟩ L3:=⟨⟨rfl,rfl⟩,hT3.r.fn,fun t ht _=>ht,fun c hc=>by cases hc⟩;co_applyP oan rfl;co_applyP aq;co_applyP om rfl rfl rfl ag;co_applyP oy rfl av;co_applyP oy rfl (ak (hf:=cB));co_applyP oy rfl (aX jq dx);co_applyP osm rfl (hs:=dx) (hm:=hT3.r.k) (hi:=by show _<16;omega);intro L4 hU4;have hT4a:=hT3.r.setR hj hnil hU4 (jH _ _ _ hj ⟨none,[]⟩ []);rw[uq] at hT4a;have hT4:=hT3.trans (To.of hT4a);have ha3:slOk a3 (i64s (T1.allTo (j+1))) 3 L3:=by rw[gL];simpa [i64s] using hp3.ok
  have ha4:slOk a3 (i64s (T1.allTo (j+1))) 3 L4:=hU4.ch.keepS (.one hT3.r.fn hT3.r.k (by decide)) ha3;have hl4:(T1.allTo j).length+(T1.rows j).length=(T1.allTo (j+1)).length:=by rw[gL,List.length_append]
  have hf3: ∀c,a3.b=some c-> ¬OwnR R B2 (T1.emptyTo j) c/\ ∀t∈L,¬OwnR R B T t.1->t.1≠c:=fun c hc=>by
   rcases hp3.d c hc with h|h
   ·exact hfr c h
   ·exact⟨hT2.r.nown h,fun t ht hn e=>h t (hT2.f.s t ht hn) e⟩
  co_applyP ai;co_applyP aq;co_applyP om rfl rfl rfl aS;co_applyP oan rfl;change∃k',k'<_/\_;rw[e,hl4];exact⟨k-1,by omega,rfl,j+1,_,a3,by omega,hT4,ha4,fun c hc=>⟨(hT4a.2.free (ha3.mem hc) (hf3 c hc).1).2,(hf3 c hc).2⟩,rfl⟩
 intro hc;have hj:j=3:=by simp at hc;omega
 subst hj;have hT3:=hT2.other (L2:=L'.filter fun t=>decide (a'.b≠some t.1)) (D:=fun c=>a'.b=some c) ⟨fun b f f' o o' h1 h2=>hT2.r.fn b f f' o o' (List.mem_filter.1 h1).1 (List.mem_filter.1 h2).1,fun t ht hn=>List.mem_filter.2 ⟨ht,by simpa using hn⟩⟩ (fun d hd=>hfr d hd) (.sl hT2.r.fn ha (by decide));have hap:ApN (L'.filter fun t=>decide (a'.b≠some t.1)) 3 (B2.a 0) (i64s (T1.allTo 3)) a' L':=⟨ha,hT2.r.fn,fun t ht _=>(List.mem_filter.1 ht).1,fun c hc=> .inr fun t ht e=>by
  have:=(List.mem_filter.1 ht).2;simp at this;exact this (e▸hc)⟩
 co_applyP bf;co_applyP aq;co_applyP om rfl rfl rfl ag;co_applyP oy rfl av;co_applyP oy rfl (ak (hf:=cB));co_applyP oy rfl (aX jq dx);co_applyP osm rfl (hs:=dx) (hm:=hT2.r.k) (hi:=by show 7<16;decide) (hp:=bW _ _ _);intro L5 hU5;have hT5:=hT3.trans (To.of (hT3.r.setR (n:=0) (by decide) hap hU5 (jH _ _ _ (l:=0) (by decide) a' (T1.allTo 3))));rw[ur] at hT5;co_applyP ai;change∃v,resE .. =some v/\_;exact⟨_,rfl,rfl,rfl,_,hT5⟩
def tickX (T:St)(X:RX):RX:=match T.lead.first with
 |none=>tellX X 2 0 0
 |some b=>match T.lead.get b with
  |some x=>stepX T.lead (tellX X 1 b x.at_) b x
  |none=>X
theorem yX (x:PS)(e:RE):(rpc x e)[93]? =some (.int .i64 e.un):=by kernel_rfl
theorem mQ: ∀(bs:List Nat)(S:St),(S.wakes bs).ps.map (·.1)=S.ps.map (·.1)
 |[],S=>rfl
 |b::bs,S=>by
  unfold St.wakes;rw[mQ bs]
  split
  ·split
   ·exact dJ _ _ _
   ·rfl
  ·rfl
theorem ut (S:St)(l m:List Nat):S.wakes (l++m)=(S.wakes l).wakes m:=by
 induction l generalizing S with
 |nil=>rfl
 |cons b l ih=>simp only[List.cons_append,St.wakes];exact ih _
theorem yY {o R:Nat}{B:RB}{T:St}{X:RX}{L:Frag}{b:Nat}{x:PS}(hR:RepR o R B T X L)(hb:(b,x)∈T.ps):T.find (b:Int)=some (b,x):=by
 cases h:T.find (b:Int) with
 |none=>
  have:=List.find?_eq_none.1 h _ hb;simp[hR.idb hb] at this
 |some q=>
  obtain⟨h1,h2⟩:=dH h;rw[hR.id q h1] at h2;have e:q.1=b:=Int.ofNat.inj h2;have:(b,q.2)∈T.ps:=by rw[<-e];exact h1
  rw[a6 hR.pn hb this,<-e]
theorem Bj: ∃n,∀{σ}{F:Fam σ}{Δ:DM F}{main s}(R:Nat)(B:RB)(T:St)(X:RX)(L:Frag),(∀s o,(Δ s).New o)->RepR 0 R B T X L->TI (fun b=>b) T->X.ws.length<=9999->X.now=T.now->T.now<2305843009213693952->(∀i,i<T.pn->T.pg i 0=9->T.pg i 1<7\/10<T.pg i 1)->
 CallsL Δ Tryz.prog main 90 [ptr R].toArray n s L (fun s' v L'=>s=s'/\v= .tuple #[]/\ ∃B',To 0 R B T L B' (T.tickU (T.last+1)) (tickX T X) L'):=by
 obtain⟨n1,g1⟩:=nR;obtain⟨n2,g2⟩:=yW;obtain⟨n3,g3⟩:=wS;obtain⟨n4,g4⟩:=Bi;obtain⟨n5,g5⟩:=nQ;apply Exists.intro;intro σ F Δ main s R B T X L hN hR hTI hw hnow hnl hfam;have hM:=hTI.m;have hg:=hM.i.g;have h0: ∀q∈T.ps,q.1≠0:=fun q hq e=>by have:=(hM.x.idr q hq).1;rw[hR.id q hq] at this;omega
 have hwk:T.wake=T.wakes (T.ps.map (·.1)):=rfl;generalize hns:T.ps.map (·.1)=ns at hwk;have hl8:ns.length<=8:=by rw[<-hns];simpa using hg.p8
 co_applyP aF 89 Tryz.func90 Tryz.ntmps90;co_applyP au;co_applyP aa;co_applyP oan rfl;co_applyP aC;co_applyP bg (fun k s' ε' L'=>s=s'/\ ∃l1 l2 B',ns=l1++l2/\k+l1.length=8/\To 0 R B T L B' (T.wakes l1) X L'/\kn ε' [(2, .int .i64 l1.length),(0,ptr R)]) 8
 ·exact⟨rfl,[],ns,B,rfl,rfl,hR.to,rfl⟩
 rintro k s' ε' L' ⟨rfl,l1,l2,B',hl,hk,hT,he⟩;co_applyP aN he;have hlen:=congrArg List.length hl;simp only[List.length_append] at hlen;have hR':=hT.r;have hfo:(T.wakes l1).ps.map (·.1)=ns:=by rw[mQ,hns]
 have hpl:(T.wakes l1).ps.length=ns.length:=by rw[<-hfo];simp
 obtain⟨base,cap,hv,hat⟩:=fG hR'.pl (n:=ns.length) (by simp[hpl]);have h5:At L' R 5 (.slice base ns.length cap):=by rw[<-hv,<-hpl];exact hR'.kat rfl
 have h13:At L' R 13 (.int .i64 (T.now:Nat)):=by rw[<-hnow];exact hR'.kat rfl
 co_applyP au;co_applyP aa;co_applyP om rfl rfl rfl ag;co_applyP oy rfl av;co_applyP oy rfl (ak (hf:=bu));co_applyP oy rfl (aA (ht:=ci));co_applyP oy rfl (bt (hu:=cY));co_applyP oy rfl bj;co_applyP ai;co_applyP aT rfl;intro hc
 ·cases l2 with
  |nil=>simp at hc hlen;omega
  |cons c l2=>
   obtain⟨y,hy⟩:=dS (c:=c) (S:=T.wakes l1) (by rw[hfo,hl];simp);have hgi:((T.wakes l1).ps.map fun q=>ptr (B'.p q.1))[l1.length]? =some (ptr (B'.p c)):=by
    have:((T.wakes l1).ps.map (·.1))[l1.length]? =some c:=by rw[hfo,hl];simp
    rw[List.getElem?_map] at this⊢;cases h:(T.wakes l1).ps[l1.length]? with
    |none=>rw[h] at this;cases this
    |some q=>rw[h] at this;simp at this;simp[this]
   obtain⟨g,hgb,hbs,hbv⟩:=hat l1.length _ hgi;subst hbs;simp at hlen;have hc0:c≠0:=by
    obtain⟨w,hw⟩:=dS (c:=c) (S:=T) (by rw[hns,hl];simp);exact h0 _ hw
   have e1:IntKind.i64.wrap ((l1.length:Int)+1)=((l1++[c]).length:Int):=by simp[IntKind.wrap_i64];omega
   have hy2:At L' (B'.p c) 2 (.int .i64 (y.st:Nat)):=hR'.pat hy (i:=2) rfl;have hy9:At L' (B'.p c) 93 (.int .i64 (B'.e c).un):=hR'.pat hy (yX _ _);have hyu:y.st=3->(B'.e c).un=y.til:=hR'.un _ hy;have hnx:T.wakes (l1++[c])=if y.st=3/\y.til=(T.now:Int) then(T.wakes l1).wake1 c y else T.wakes l1:=by
    rw[ut];show St.wakes (match (T.wakes l1).get c with|some x=>_|none=>_) []=_;rw[bk hR'.pn hy,(eB l1 T).now];rfl
   have hMw:=MI.wakes l1 hM;co_applyP aB;co_applyP cK ((fun s'' ε'' L''=>s=s''/\ ∃B',To 0 R B T L B' (T.wakes (l1++[c])) X L''/\kn ε'' [(2, .int .i64 l1.length),(0,ptr R)]));co_applyP aC;co_applyP aa;co_applyP om rfl rfl rfl av;co_applyP oy rfl (ak (hf:=bu));co_applyP oy rfl (aA (ht:=ci));co_applyP om rfl rfl rfl (bw cY cq);co_applyP oy rfl (aA (ht:=dZ));co_applyP oan rfl;co_applyP au;co_applyP cO ([(38, .bool (decide (y.st=3/\y.til=(T.now:Int)))),(3,ptr (B'.p c)),(2, .int .i64 l1.length),(0,ptr R)]);co_applyP bA a5;co_applyP tr 0 rfl ag pI;co_applyP tr 1 rfl av pI;co_applyP tr 2 rfl (ak (hf:=aG)) pI;co_applyP tr 3 rfl (ak (hf:=bM)) pI;co_applyP tr 4 rfl (aA (ht:=aR)) pI;co_applyP tr 5 rfl aI pI;co_applyP tr 6 rfl ag pI
   ·by_cases h3:y.st=3
    ·rw[show ((y.st:Int)==3)=true by simp[h3]];co_applyP tr 7 rfl (ag) pI;co_applyP tr 8 rfl (av) pI;co_applyP tr 9 rfl ((ak (hf:=pq))) pI;co_applyP tr 10 rfl ((aA (ht:=aR))) pI;co_applyP tr 11 rfl (ag) pI;co_applyP tr 12 rfl (av) pI;co_applyP tr 13 rfl ((ak (hf:=eI))) pI;co_applyP tr 14 rfl ((aA (ht:=aR))) pI;co_applyP tr 15 rfl (aI) pI;co_applyP tr 16 rfl aH pI;co_applyP td (by kernel_rfl);change _=_/\_=_/\kn _ _;refine⟨rfl,rfl, ?_⟩;rw[hyu h3,show decide (y.st=3/\y.til=(T.now:Int))=(y.til==(T.now:Int)) by simp[h3];rfl];rfl
    ·rw[show ((y.st:Int)==3)=false by simp;omega];co_applyP tu 7 rfl pI;co_applyP tu 8 rfl pI;co_applyP tu 9 rfl pI;co_applyP tu 10 rfl pI;co_applyP tu 11 rfl pI;co_applyP tu 12 rfl pI;co_applyP tu 13 rfl pI;co_applyP tu 14 rfl pI;co_applyP tu 15 rfl pI;co_applyP tr 16 rfl aH pI;co_applyP td (by kernel_rfl);change _=_/\_=_/\kn _ _;refine⟨rfl,rfl, ?_⟩;rw[show decide (y.st=3/\y.til=(T.now:Int))=false by simp[h3]];rfl
   co_applyP aT rfl;intro hw2;co_applyP aq;co_applyP om rfl rfl rfl ag
   ·have hw':y.st=3/\y.til=(T.now:Int):=by simpa using hw2
    rw[if_pos hw'] at hnx;co_applyP oc rfl rfl rfl (g1 0 R B' _ X L' c y hN hR' hy (hMw.i.g.lv _ hy) (Nat.le_trans (hMw.i.g.r8 (hMw.i.g.lv _ hy)) (by decide)) hc0 (by omega));rintro _ _ _ ⟨rfl,rfl,B3,hT3⟩;co_applyP ai;change _=_/\ ∃B',_;exact⟨rfl,B3,by rw[hnx];exact hT.trans hT3,rfl⟩
   intro hw2;co_applyP aB;change _=_/\ ∃B',_;have hw': ¬(y.st=3/\y.til=(T.now:Int)):=by simpa using hw2
   rw[if_neg hw'] at hnx;exact⟨rfl,B',by rw[hnx];exact hT,rfl⟩;rintro _ ε8 L8 ⟨rfl,B8,hT8,he8⟩;co_applyP aN he8;co_applyP aq;co_applyP om rfl rfl rfl aS;co_applyP oan rfl;change∃k',k'<_/\_;rw[e1];exact⟨k-1,by omega,rfl,l1++[c],l2,B8,by simp[hl],by simp;omega,hT8,rfl⟩
 intro hc;have hl2:l2=[]:=by
  cases l2 with
  |nil=>rfl
  |cons c l2=>simp at hc hlen;omega
 subst hl2;simp only[List.append_nil] at hl;subst hl;rw[<-hwk] at hT;have hMw:MI (fun _=>False) (fun b=>b) T.wake:=MI.wakes _ hM;have hfw:Fix T T.wake:=eB _ T;have h3b:At L' R 3 (.int .i64 T.bo):=by rw[<-hfw.bo];exact hT.r.kat rfl
 have hbo:=hTI.bo;have hld:T.lead=if T.wake.boosts then(T.wake.lifts (T.wake.ps.map (·.1))).raises 2 else T.wake:=rfl;have hbs:T.wake.boosts↔0<T.now/\((T.now:Nat):Int).tmod T.bo=0:=by unfold St.boosts;rw[hfw.now,hfw.bo]
 clear hat hv h5 hR' hfo hpl;co_applyP bf;co_applyP cK ((fun s'' ε'' L''=>s=s''/\ ∃B',To 0 R B T L B' T.lead X L''/\kn ε'' [(0,ptr R)]));co_applyP au;co_applyP cO ([(59, .bool (decide T.wake.boosts)),(0,ptr R)]);co_applyP bA a5;co_applyP tr 0 rfl ag pI;co_applyP tr 1 rfl av pI;co_applyP tr 2 rfl (ak (hf:=eI)) pI;co_applyP tr 3 rfl (aA (ht:=aR)) pI;co_applyP tr 4 rfl cx pI;co_applyP tr 5 rfl ag pI
 ·by_cases h3:0<T.now
  ·rw[show decide ((0:Int)<(T.now:Nat))=true by simp;omega];co_applyP tr 6 rfl (ag) pI;co_applyP tr 7 rfl (av) pI;co_applyP tr 8 rfl ((ak (hf:=eI))) pI;co_applyP tr 9 rfl ((aA (ht:=aR))) pI;co_applyP tr 10 rfl (ag) pI;co_applyP tr 11 rfl (av) pI;co_applyP tr 12 rfl ((ak (hf:=pk))) pI;co_applyP tr 13 rfl ((ak (hf:=eu))) pI;co_applyP tr 14 rfl ((aA (ht:=aR))) pI;co_applyP tr 15 rfl (eP) pI;co_applyP tr 16 rfl (aI) pI;co_applyP tr 17 rfl aH pI;co_applyP td (by kernel_rfl);change _=_/\_=_/\kn _ _;refine⟨rfl,rfl, ?_⟩;rw[show decide T.wake.boosts=(((T.now:Nat):Int).tmod T.bo==0) by simp only[hbs];simp[h3];rfl];rfl
  ·rw[show decide ((0:Int)<(T.now:Nat))=false by simp;omega];co_applyP tu 6 rfl pI;co_applyP tu 7 rfl pI;co_applyP tu 8 rfl pI;co_applyP tu 9 rfl pI;co_applyP tu 10 rfl pI;co_applyP tu 11 rfl pI;co_applyP tu 12 rfl pI;co_applyP tu 13 rfl pI;co_applyP tu 14 rfl pI;co_applyP tu 15 rfl pI;co_applyP tu 16 rfl pI;co_applyP tr 17 rfl aH pI;co_applyP td (by kernel_rfl);change _=_/\_=_/\kn _ _;refine⟨rfl,rfl, ?_⟩;rw[show decide T.wake.boosts=false by simp only[hbs];simp[h3]];rfl
 co_applyP aT rfl;intro hb;co_applyP aq;co_applyP oy rfl ag
 ·have hb':T.wake.boosts:=by simpa using hb
  co_applyP oc rfl rfl rfl (g2 R B' T.wake X L' hN hT.r hMw);rintro _ _ _ ⟨rfl,rfl,B3,hT3⟩;co_applyP ai;change _=_/\ ∃B',_;exact⟨rfl,B3,by rw[hld,if_pos hb'];exact hT.trans hT3,rfl⟩
 intro hb;co_applyP aB;change _=_/\ ∃B',_;have hb': ¬T.wake.boosts:=by simpa using hb
 exact⟨rfl,B',by rw[hld,if_neg hb'];exact hT,rfl⟩;rintro _ ε4 L4 ⟨rfl,B4,hT4,he4⟩;co_applyP aN he4;have hM4:=hM.lead;have hR4:=hT4.r;have hf4:=bQ T;co_applyP au;co_applyP aa;co_applyP oan rfl;co_applyP aC;co_applyP bg (fun k s' ε' L'=>s=s'/\L4=L'/\ ∃i:Nat,k+i=3/\(∀j,j<i->T.lead.rows j=[])/\kn ε' [(4, .int .i64 i),(0,ptr R)]) 3
 ·exact⟨rfl,rfl,0,rfl,by simp,rfl⟩
 rintro k s' ε' L' ⟨rfl,rfl,i,hk,hn,he⟩;co_applyP aN he;co_applyP au;co_applyP aa;co_applyP om rfl rfl rfl bj;co_applyP ai;co_applyP aT rfl;intro hc
 ·have hi:i<3:=by simp at hc;omega
  have e1:IntKind.i64.wrap ((i:Int)+1)=((i+1:Nat):Int):=by simp[IntKind.wrap_i64];omega
  obtain⟨base,cap,hv,hat⟩:=fG (hR4.rw i hi) (n:=(T.lead.rows i).length) (by simp);have hrow:At L4 R (7+i) (.slice base (T.lead.rows i).length cap):=by rw[<-hv];exact hR4.kat (lz _ _ _ hi)
  co_applyP aB;co_applyP au;co_applyP aC;co_applyP aa;co_applyP om rfl rfl rfl ag;co_applyP oy rfl av;co_applyP oy rfl (ak (hf:=cB));co_applyP oy rfl (aX jq dx);co_applyP oy rfl (aA (ht:=kS));co_applyP oy rfl (bt (hu:=U54));co_applyP oy rfl cx;co_applyP ai;co_applyP aT rfl;intro hz;cases hxs:T.lead.rows i with
  |nil=>rw[hxs] at hz;simp at hz
  |cons b bs=>
   obtain⟨g,hg1,hg2,hg3⟩:=hat 0 (.int .i64 (b:Nat)) (by rw[hxs];rfl);subst hg2;have hb0:0<((T.lead.rows i).length:Int):=by rw[hxs];simp
   have hfst:T.lead.first=some b:=by
    unfold St.first
    rcases i with _|_|_|i
    ·rw[hxs];rfl
    ·rw[hn 0 (by omega),hxs];rfl
    ·rw[hn 0 (by omega),hn 1 (by omega),hxs];rfl
    ·omega
   obtain⟨x,hx,hx1⟩:=dn hM4.i.g hfst;co_applyP aa;co_applyP om rfl rfl rfl ag;co_applyP om rfl rfl rfl av;co_applyP oy rfl (ak (hf:=cB));co_applyP oy rfl (aX jq dx);co_applyP oy rfl (aA (ht:=kS));co_applyP oy rfl (bw U54 bS);co_applyP oy rfl (aA (ht:=aR));co_applyP oc rfl rfl rfl (g3 0 R B4 T.lead X L4 b hR4 hM4.i.g.p8);rintro _ _ _ ⟨rfl,rfl,rfl⟩;co_applyP oan rfl;co_applyP aa;co_applyP om rfl rfl rfl ag;rw[yY hR4 hx];co_applyP oc rfl rfl rfl (g4 R B4 T.lead X L4 b x hN hR4 hM4 ⟨hR4.wt,hR4.nf⟩ hx hx1 hw (hnow.trans hf4.now.symm) (by rw[hf4.now];exact hnl) (by rw[cV];have:=hTI.ls;omega) hTI.coded_lead (by rw[hf4.pn,hf4.pg];exact hfam));rintro _ _ _ ⟨rfl,rfl,B5,hT5⟩;co_applyP ai;co_applyP aK;change∃v,resE .. =some v/\_;refine⟨_,rfl,rfl,rfl,B5, ?_⟩;rw[cV] at hT5;unfold St.tickU tickX;rw[hfst];simp only[bk hM4.i.g.pn hx];exact hT4.trans hT5
  intro hz;co_applyP aB;co_applyP aq;co_applyP om rfl rfl rfl aS;co_applyP oan rfl;change∃k',k'<_/\_;have hz':T.lead.rows i=[]:=by
   cases h:T.lead.rows i with
   |nil=>rfl
   |cons b bs=>rw[h] at hz;simp at hz
  rw[e1];refine⟨k-1,by omega,rfl,rfl,i+1,by omega,fun j hj=> ?_,rfl⟩;by_cases e:j=i
  ·rw[e];exact hz'
  ·exact hn j (by omega)
 intro hc;co_applyP bf;co_applyP aq;co_applyP oy rfl ag;have hi:i=3:=by simp at hc;omega
 have hfst:T.lead.first=none:=by
  unfold St.first
  rw[hn 0 (by omega),hn 1 (by omega),hn 2 (by omega)];rfl
 co_applyP oc rfl rfl rfl (g5 0 R B4 T.lead X L4 2 0 0 hN hR4 (by omega));rintro _ _ _ ⟨rfl,rfl,B5,hT5⟩;co_applyP ai;change∃v,resE .. =some v/\_;refine⟨_,rfl,rfl,rfl,B5, ?_⟩;unfold St.tickU tickX;rw[hfst];exact hT4.trans hT5
abbrev Key:=Nat×Nat×Bool
def key (q:Nat×PS):Key:=(q.2.id,q.2.par,decide (q.2.st=6))
def St.sk (S:St):List Key:=S.ps.map key
def mark (id:Nat)(e:Key):Key:=if e.1=id then(e.1,e.2.1,true) else e
def orph (id:Nat)(e:Key):Key:=if e.2.1=id then(e.1,1,e.2.2) else e
def Del (l m:List Key):Prop:=m.Sublist l/\ ∀e∈l,e∈m\/(e.2.2=true/\e.2.1≠0)
theorem Del.refl (l:List Key):Del l l:=⟨List.Sublist.refl _,fun e h=> .inl h⟩
theorem Del.trans {l m n:List Key}(h:Del l m)(k:Del m n):Del l n:=⟨k.1.trans h.1,fun e he=>by
 rcases h.2 e he with h1|h1
 ·exact k.2 e h1
 ·exact .inr h1⟩
theorem Del.of {l m:List Key}(h:m=l):Del l m:=h▸Del.refl _
section
variable {S S':St}{b:Nat}{x x':PS}{k:Nat×Nat}{P:Nat->Prop}{N:Nat->Nat}
theorem b6 (hn:(S.ps.map (·.1)).Nodup)(hb:(b,x)∈S.ps)(hid:x'.id=x.id)(hpar:x'.par=x.par)(hs:x'.st=6↔x.st=6):(S.setP b x').sk=S.sk:=by
 unfold St.sk St.setP;simp only[List.map_map];apply List.map_congr_left;intro q hq;simp only[Function.comp]
 split
 ·rename_i e;obtain⟨c,y⟩:=q;obtain rfl:c=b:=e;obtain rfl:=a6 hn hq hb;simp[key,hid,hpar,hs]
 ·rfl
theorem i9 (hn:(S.ps.map (·.1)).Nodup)(hb:(b,x)∈S.ps)(h6:x.st≠6):(S.wake1 b x).sk=S.sk:=
 b6 (x':={x with st:=1,used:=0}) hn hb rfl rfl ⟨fun e=>by simp at e,fun e=>absurd e h6⟩
theorem lB (hn:(S.ps.map (·.1)).Nodup)(hb:(b,x)∈S.ps)(h6:x.st≠6){s:Nat}(hs:s≠6):(S.stop1 b x s).sk=S.sk:=
 b6 (x':={x with st:=s}) hn hb rfl rfl ⟨fun e=>absurd e hs,fun e=>absurd e h6⟩
theorem qn (h:Inv S)(hS:S.serve k=some S'):S'.sk=S.sk:=by
 obtain⟨b,x,hm,_,hb,hc,rfl⟩:=di hS;obtain⟨ha,hk⟩:=h.atRow hm hb;obtain⟨l1,l2,l3,l4,l5⟩:=dF S x k;have h6:x.st≠6:=by
  have h1:=ha.s;have h2:=hk.2;omega
 have e:((S.depart b k).carry b x k).sk=S.sk:=by
  unfold St.sk;rw[dY];exact b6 (S:=S.depart b k) (x':=S.carried x k) h.g.pn hb l4 l5 (by rw[l1])
 split
 ·exact e
 ·refine(i9 (x:=S.carried x k) ?_ ?_ ?_).trans e
  ·rw[dY,ba];exact h.g.pn
  ·rw[dY];exact ar (S:=S.depart b k) hb
  ·rw[l1];exact h6
theorem ja (p:Nat): ∀(n:Nat){S:St},Inv S->(St.looks n S p).sk=S.sk
 |0,_,_=>rfl
 |n+1,S,h=>by
  unfold St.looks
  split
  ·rename_i S1 h1;exact(ja p n (h.serve h1)).trans (qn h h1)
  ·split
   ·rename_i S1 h1;exact(ja p n (h.serve h1)).trans (qn h h1)
   ·rfl
theorem sx (h:MI P N S)(hb:(b,x)∈S.ps)(ho:S.out b)(n:Nat):(S.shut b n).sk=S.sk:=by
 unfold St.shut;rw[bk h.i.g.pn hb];have h1:=h.like (x':={x with f:=put x.f n (0,0)}) hb ho rfl rfl ⟨(h.i.wf _ hb).r,(h.i.wf _ hb).m⟩ (lf (h.i.fl _ hb) (.inl rfl)) rfl rfl (h.x.un (b,x) hb);exact(ja _ 16 h1.i).trans (b6 (x':={x with f:=put x.f n (0,0)}) h.i.g.pn hb rfl rfl Iff.rfl)
theorem lC (f:Nat->Nat×Nat): ∀(ns:List Nat){S:St}{x:PS},MI P N S->(b,x)∈S.ps->S.out b->(S.shuts b f ns).sk=S.sk
 |[],_,_,_,_,_=>rfl
 |n::ns,S,x,h,hb,ho=>by
  show ((if f n=(0,0) then S else S.shut b n).shuts b f ns).sk=_
  split
  ·exact lC f ns h hb ho
  ·have hl:=h.i.shut hb ho n;exact(lC f ns (h.shut hb ho n) (hl.m b _ ho (ar hb)) (hl.o b ho)).trans (sx h hb ho n)
def orphP (id:Nat)(bs:List Nat)(q:Nat×PS):Nat×PS:=if q.1∈bs/\q.2.par=id then(q.1,{q.2 with par:=1}) else q
theorem qo (id:Nat): ∀(bs:List Nat){S:St},(S.ps.map (·.1)).Nodup->(S.orphs id bs).ps=S.ps.map (orphP id bs)
 |[],S,_=>by
  show S.ps=_;have: ∀q∈S.ps,orphP id [] q=q:=fun q _=>by simp[orphP]
  rw[List.map_congr_left this];simp
 |b::bs,S,hn=>by
  unfold St.orphs;have step: ∀S1:St,S1.ps=S.ps.map (orphP id [b])->(S1.orphs id bs).ps=S.ps.map (orphP id (b::bs)):=fun S1 h1=>by
   have hf:S1.ps.map (·.1)=S.ps.map (·.1):=by
    rw[h1,List.map_map];apply List.map_congr_left;intro q _;simp only[Function.comp,orphP]
    split<;>rfl
   rw[qo id bs (by rw[hf];exact hn),h1,List.map_map];apply List.map_congr_left;intro q _;simp only[Function.comp,orphP];by_cases e1:q.1=b<;>by_cases e2:q.2.par=id<;>by_cases e3:q.1∈bs<;>simp[e1,e2,e3]
  cases hg:S.get b with
  |none=>
   refine step S ?_;have: ∀q∈S.ps,orphP id [b] q=q:=fun q hq=>by
    unfold orphP;rw[if_neg];rintro⟨e,_⟩;have e:q.1=b:=by simpa using e
    have:=bk hn (b:=q.1) (x:=q.2) hq;rw[e,hg] at this;cases this
   rw[List.map_congr_left this];simp
  |some y=>
   simp only;have hb:=bh hg
   split
   ·rename_i hp;refine step _ ?_;show S.ps.map _=_;apply List.map_congr_left;rintro⟨c,z⟩ hq;unfold orphP;by_cases e:c=b
    ·subst e;obtain rfl:=a6 hn hq hb;simp[hp]
    ·simp[e]
   ·rename_i hp;refine step S ?_;have: ∀q∈S.ps,orphP id [b] q=q:=fun q hq=>by
     unfold orphP;rw[if_neg];rintro⟨e,e2⟩;obtain⟨c,z⟩:=q;obtain rfl:c=b:=by simpa using e
     obtain rfl:=a6 hn hq hb;exact hp e2
    rw[List.map_congr_left this];simp
theorem w7 (id:Nat)(hn:(S.ps.map (·.1)).Nodup):(S.orphs id (S.ps.map (·.1))).sk=S.sk.map (orph id):=by
 unfold St.sk;rw[qo id _ hn,List.map_map,List.map_map];apply List.map_congr_left;intro q hq;have hm:q.1∈S.ps.map (·.1):=List.mem_map.2 ⟨q,hq,rfl⟩;simp only[Function.comp,orphP,orph,key];by_cases e:q.2.par=id<;>simp only[hm,e,true_and,and_true,if_true,if_false,and_false]
theorem sA (h:MI P N S)(hb:(b,x)∈S.ps)(ho:S.out b){i:Nat}(hc:S.childAt x=some i)(h6:x.st≠6):Del S.sk (S.take b x i).sk:=by
 obtain⟨q,hq,hp,hq6⟩:=cU hc;have hbe:=(h.take hb ho hc h6).2;have e:S.take b x i=({S.setPs (S.ps.eraseIdx i) with last:=S.last}:St).setP b (told x q.2):=by unfold St.take;rw[hq]
 have hn:((S.ps.eraseIdx i).map (·.1)).Nodup:=List.Nodup.sublist ((List.eraseIdx_sublist S.ps i).map _) h.i.g.pn;rw[e,b6 (S:=({S.setPs (S.ps.eraseIdx i) with last:=S.last}:St)) (x:=x) (x':=told x q.2) hn hbe rfl rfl Iff.rfl];refine⟨(List.eraseIdx_sublist S.ps i).map _,fun e he=> ?_⟩;obtain⟨r,hr,rfl⟩:=List.mem_map.1 he;obtain⟨j,hj⟩:=List.getElem?_of_mem hr;by_cases hji:j=i
 ·subst hji;rw[hj] at hq;obtain rfl:r=q:=by simpa using hq
  refine .inr ⟨by simp[key,hq6], ?_⟩;show r.2.par≠0;have:=(h.x.idr _ hb).1;simp only at this;omega
 ·exact .inl (List.mem_map.2 ⟨r,List.mem_eraseIdx_iff_getElem?.2 ⟨j,hji,hj⟩,rfl⟩)
theorem rG (h:MI P N S)(c:Nat):Del S.sk (S.parent1 c).sk:=by
 unfold St.parent1;cases hg:S.get c with
 |none=>exact Del.refl _
 |some x=>
  simp only
  split
  ·rename_i h2;cases hc:S.childAt x with
   |none=>exact Del.refl _
   |some i=>
    obtain⟨q,hq,_,h6⟩:=cU hc;simp only[hq];have hb:=bh hg;have ho:=h.i.out_st hb (by omega) (by omega) (by omega);obtain⟨hT,hci⟩:=h.take hb ho hc (by omega);have e:S.take c x i=({S.setPs (S.ps.eraseIdx i) with last:=S.last}:St).setP c (told x q.2):=by unfold St.take;rw[hq]
    refine(sA h hb ho hc (by omega)).trans (Del.of (i9 (x:=told x q.2) hT.i.g.pn ?_ (by show x.st≠6;omega)));rw[e];exact ar hci
  ·exact Del.refl _
theorem lD: ∀(bs:List Nat){S:St},MI P N S->Del S.sk (S.parents bs).sk
 |[],_,_=>Del.refl _
 |c::bs,_,h=>(rG h c).trans (lD bs (h.parent1 c))
theorem yZ (h:MI P N S)(hb:(b,x)∈S.ps)(hid:x'.id=x.id)(hpar:x'.par=x.par)(hs:x'.st=6):(S.setP b x').sk=S.sk.map (mark x.id):=by
 unfold St.sk St.setP;simp only[List.map_map];apply List.map_congr_left;intro q hq;simp only[Function.comp]
 split
 ·rename_i e;obtain⟨c,y⟩:=q;obtain rfl:c=b:=e;obtain rfl:=a6 h.i.g.pn hq hb;simp[key,mark,hid,hpar,hs]
 ·rename_i e;unfold mark;rw[if_neg];intro e2;exact e (by rw[h.x.idn q hq _ hb e2])
theorem rH (h:MI P N S)(hb:(b,x)∈S.ps)(status:Int):Del ((S.sk.map (mark x.id)).map (orph x.id)) (S.fin b x status).sk:=by
 have ho:=h.i.out_depart hb;have h1:MI P N (S.depart b (x.file (x.r 0))):=h.depart;have hb1:(b,x)∈(S.depart b (x.file (x.r 0))).ps:=hb;have h2:=h1.stop1 hb1 ho (s:=6) (by decide);have hb2:(b,{x with st:=6})∈((S.depart b (x.file (x.r 0))).stop1 b x 6).ps:=ar hb1;have h3:=h2.like (x':={x with st:=6,stat:=status}) hb2 ho rfl rfl ⟨(h.i.wf _ hb).r,(h.i.wf _ hb).m⟩ (h.i.fl (b,x) hb) rfl rfl (h.x.un (b,x) hb);have h4:=MI.shuts (b:=b) x.f (List.range' 0 6) h3 (ar hb2) ho;have e1:((S.depart b (x.file (x.r 0))).stop1 b x 6).sk=S.sk.map (mark x.id):=yZ (S:=S) (x':={x with st:=6}) h hb rfl rfl rfl;have e2:=b6 (x':={x with st:=6,stat:=status}) h2.i.g.pn hb2 rfl rfl Iff.rfl;have e3:=lC (b:=b) x.f (List.range' 0 6) h3 (ar hb2) ho;have e4:=w7 x.id h4.i.g.pn;rw[e3,e2,e1] at e4;rw[<-e4];exact lD _ (MI.orphs _ (h.x.idr _ hb).1 _ h4)
theorem xa (hn:(S.ps.map (·.1)).Nodup)(v:Int):(S.r0 b v).sk=S.sk:=by
 unfold St.r0;cases hg:S.get b with
 |none=>rfl
 |some z=>exact b6 (x':=z.r0 v) hn (bh hg) rfl rfl Iff.rfl
theorem sB (h:MI (fun _=>False) N S)(hb:(b,x)∈S.ps)(hs:x.st=1){use most:Nat}(hu:use=4\/use=5)(hm:use=5->most<=8):(S.askR b x use most).2.sk=S.sk:=by
 have ho:=h.out hb hs;unfold St.askR;cases hc:x.checkUse use most with
 |some i=>rfl
 |none=>
  obtain⟨c1,c2,c3⟩:=jT hc;have hk:okEnd (x.file (x.r 0)):=(h.i.file_ok hb _).resolve_left fun e=>by rw[e] at c1;simp only at c1;omega
  have hj:Inv (S.joinW b (x.file (x.r 0))):=h.i.joinW hb ho ⟨rfl,c3,fun h5=>by rw[h5] at c1;have:=hm c1.symm;omega, .inl hs⟩ hk;have h2:=(hj.look (x.file (x.r 0)).1).i;have e:=ja (x.file (x.r 0)).1 16 hj;simp only
  split
  ·rename_i hin;cases hg:((S.joinW b (x.file (x.r 0))).look (x.file (x.r 0)).1).get b with
   |none=>exact e
   |some z=>
    have hz:=bh hg;have hask:=(h2.atRow hin hz).1.s;have:=hk.2;exact(lB h2.g.pn hz (by omega) (by omega)).trans e
  ·exact e
inductive Skp (l:List Key)(n t id:Nat):List Value->List Key->Nat->Prop
 |calm {l'}:Del l l'->Skp l n t id [] l' n
 |said {l'} (v:Int):0<=v/\v<256->Del l l'->Skp l n t id [evt t 3 id v] l' n
 |fork:Skp l n t id [] (l++[(n+1,id,false)]) (n+1)
 |gone {l'} (d p:Nat) (v:Int):(d,p,false)∈l->Del ((l.map (mark d)).map (orph d)) l'->Skp l n t id [evt t 4 d v] l' n
theorem xc (h:MI (fun _=>False) N S)(hb:(b,x)∈S.ps)(hs:x.st=1){c:Nat}(hc: ∀q∈S.ps,c≠q.1) (hN:N c=S.last+1) (m:Int):Skp S.sk S.last S.now x.id (S.grantE b x m) (S.grantS b x m c).sk (S.grantS b x m c).last:=by
 have ho:=h.out hb hs;have hn:=h.i.g.pn;have h6:x.st≠6:=by omega
 have same: ∀{S':St},S'.sk=S.sk->S'.last=S.last->Skp S.sk S.last S.now x.id [] S'.sk S'.last:=fun h1 h2=>by rw[h1,h2];exact .calm (Del.refl _)
 have km: ∀{q:Nat×PS},q∈S.ps->q.2.st≠6->(q.2.id,q.2.par,false)∈S.sk:=fun{q} hq h=>List.mem_map.2 ⟨q,hq,by simp[key,h]⟩;unfold St.grantE St.grantS;by_cases e0:m=0
 ·rw[if_pos e0,if_pos e0];rw[(jC S b x (x.r 0)).last];exact .gone x.id x.par _ (km hb h6) (rH h hb _)
 rw[if_neg e0,if_neg e0];by_cases e1:m=1
 ·rw[if_neg (by omega),if_neg (by omega),if_pos e1]
  split
  ·exact same rfl rfl
  ·rename_i h8;have hbc:b≠c:=fun e=>hc _ hb e.symm;have hw:=h.i.wf _ hb;have hid:=(h.x.idr _ hb).1;obtain⟨h1,ho1⟩:=h.taken (y:=x.copy.r0 0) hc (by omega) rfl (by show 0<3;omega) (fE (x:=x.copy) (v:=0) ⟨hw.r,hw.m⟩ (by omega)) (h.i.fl (b,x) hb) (by show x.id≠0;simp only at hid;omega) (Nat.zero_le _) hN;have hcm:(c,{x.copy.r0 0 with id:=S.last+1})∈(S.taken c (x.copy.r0 0)).ps:=List.mem_append_right _ List.mem_cons_self;have h2:=h1.wake1 hcm ho1 (by show (0:Nat)≠1;omega);have hb2:(b,x)∈(S.adopt c (x.copy.r0 0)).ps:=bK (List.mem_append_left _ hb) hbc;have e1:=b6 (x':=x.r0 (((S.last+1:Nat):Int)%65536)) h2.i.g.pn hb2 rfl rfl Iff.rfl;have e2:=i9 h1.i.g.pn hcm (by show (0:Nat)≠6;omega);have e3:(S.forkS b x c).sk=S.sk++[(S.last+1,x.id,false)]:=by
    refine e1.trans (e2.trans ?_);show (S.ps++[(c,{x.copy.r0 0 with id:=S.last+1})]).map key=_;rw[List.map_append];rfl
   rw[e3];exact .fork
 rw[if_neg e1];by_cases e2:m=2
 ·rw[if_neg (by omega),if_neg (by omega),if_pos e2];rw[(pO S b x).last];refine .calm ?_;unfold St.waitR
  split
  ·simp only
   split
   ·exact sA h hb ho ‹_› h6
   ·exact Del.of (lB hn hb h6 (by decide))
  ·exact Del.refl _
 rw[if_neg e2];by_cases e3:m=3
 ·rw[if_pos e3,if_pos e3];cases hf:S.find (x.r 0) with
  |none=>exact same rfl rfl
  |some q=>
   simp only
   split
   ·exact same rfl rfl
   ·rename_i h7;obtain⟨hq,_⟩:=dH hf;rw[xa (MI.fin (b:=q.1) (x:=q.2) h hq _).i.g.pn 0,(pK _ b 0).last,(jC S q.1 q.2 65280).last];exact .gone q.2.id q.2.par _ (km hq h7) (rH (b:=q.1) (x:=q.2) h hq _)
 rw[if_neg e3,if_neg e3];by_cases e11:m=11
 ·subst e11;simp only[if_pos];exact .said _ (by omega) (Del.of (b6 (x':=x.r0 0) hn hb rfl rfl Iff.rfl))
 rw[if_neg e11];by_cases e4:m=4
 ·rw[if_pos e4];refine same ?_ (mz _ _ _).last;unfold St.sleep1
  split
  ·exact b6 (x':=x.r0 0) hn hb rfl rfl Iff.rfl
  ·refine(lB (x:={x.r0 0 with til:=(S.now:Int)+x.r 0}) (by rw[ba];exact hn) (ar hb) h6 (by decide)).trans ?_;exact b6 (x':={x.r0 0 with til:=(S.now:Int)+x.r 0}) hn hb rfl rfl Iff.rfl
 rw[if_neg e4];by_cases e5:m=5
 ·rw[if_pos e5];exact same (b6 (x':=x.r0 0) hn hb rfl rfl Iff.rfl) rfl
 rw[if_neg e5];by_cases e6:m=6
 ·rw[if_pos e6];exact same (b6 (x':=x.r0 ((x.id:Int)%65536)) hn hb rfl rfl Iff.rfl) rfl
 rw[if_neg e6];by_cases e7:m=7
 ·rw[if_pos e7];refine same ?_ (pP _ _ _).last;unfold St.pipeR
  split
  ·rfl
  ·split
   ·rename_i i j _ _;exact b6 (S:=S.setY S.unused []) (x':=x.piped S.unused i j) hn hb rfl rfl Iff.rfl
   ·rfl
 rw[if_neg e7];by_cases e8:m=8
 ·rw[if_pos e8];refine same ?_ (mA _ _ _).last;unfold St.closeR
  split
  ·rfl
  ·exact(xa (h.shut hb ho _).i.g.pn 0).trans (sx h hb ho _)
 rw[if_neg e8];by_cases e9:m=9
 ·rw[if_pos e9];exact same (sB h hb hs (.inl rfl) (by omega)) (kr _ _ _ _ _).last
 rw[if_neg e9];by_cases e10:m=10
 ·rw[if_pos e10];exact same (sB h hb hs (.inr rfl) (by omega)) (kr _ _ _ _ _).last
 rw[if_neg e10,if_neg e11];exact same rfl rfl
theorem Bm (h:MI (fun _=>False) N S)(hp:Coded S)(hb:(b,x)∈S.ps)(hs:x.st=1){c:Nat}(hc: ∀q∈S.ps,c≠q.1) (hN:N c=S.last+1):Skp S.sk S.last S.now x.id (S.runE b x) (S.runS b x c).sk (S.runS b x c).last:=by
 have ho:=h.out hb hs;have hn:=h.i.g.pn;have h6:x.st≠6:=by omega
 have km:(x.id,x.par,false)∈S.sk:=List.mem_map.2 ⟨(b,x),hb,by simp[key,h6]⟩;have fault: ∀v:Int,Skp S.sk S.last S.now x.id [evt S.now 4 x.id v] (S.fin b x v).sk (S.fin b x v).last:=fun v=>by
  rw[(jC S b x v).last];exact .gone x.id x.par _ km (rH h hb _)
 unfold St.runE St.runS;by_cases e1:S.pn<=x.at_
 ·rw[if_pos e1,if_pos e1];exact fault _
 rw[if_neg e1,if_neg e1];by_cases e2:S.pg x.at_ 0=9
 ·rw[if_pos e2,if_pos e2];have h1:MI (fun _=>False) N (S.setP b x.next):=h.like (x':=x.next) hb ho rfl rfl ⟨(h.i.wf _ hb).r,(h.i.wf _ hb).m⟩ (h.i.fl (b,x) hb) rfl rfl (h.x.un (b,x) hb);have hb1:(b,x.next)∈(S.setP b x.next).ps:=ar hb;have hc1: ∀q∈(S.setP b x.next).ps,c≠q.1:=fun q hq e=>by
   have:q.1∈S.ps.map (·.1):=by rw[<-ba S b x.next];exact List.mem_map.2 ⟨q,hq,rfl⟩
   obtain⟨r,hr,e2⟩:=List.mem_map.1 this;exact hc r hr (by rw[e,<-e2])
  have hg:=xc h1 hb1 hs hc1 hN (S.pg x.at_ 1);rw[b6 (x':=x.next) hn hb rfl rfl Iff.rfl] at hg
  split
  ·rw[xa (h1.grantS hb1 hs hc1 hN _).i.g.pn,(pK _ b _).last];exact hg
  ·exact hg
 rw[if_neg e2,if_neg e2];cases hd:S.doR x with
 |error i=>exact fault _
 |ok x'=>
  have hpc:=hp.2 x.at_ (by omega);obtain⟨d1,d2,d3,d4,d5,d6,d7⟩:=nH (h.i.wf _ hb) (hpc 2 (by omega)) (hpc 3 (by omega)) hd;show Skp S.sk S.last S.now x.id [] (S.setP b x').sk S.last;rw[b6 (x':=x') hn hb d3 d4 (by rw[d1])];exact .calm (Del.refl _)
theorem xd (hn:(S.ps.map (·.1)).Nodup)(b:Nat):(S.after b).sk=S.sk:=by
 unfold St.after;cases hg:S.get b with
 |none=>rfl
 |some z=>
  have hb:=bh hg;have e1:=b6 (x':=z.more) hn hb rfl rfl Iff.rfl;simp only
  split
  ·unfold St.turn
   split
   ·exact e1
   ·simp only;exact(b6 (S:=(S.setP b z.more).setRow z.more.lv (((S.setP b z.more).rows z.more.lv).erase b)) (x':={z.more with lv:=min (z.more.lv+1) 2,used:=0}) (by show ((S.setP b z.more).ps.map (·.1)).Nodup;rw[ba];exact hn) (ar hb) rfl rfl Iff.rfl).trans e1
  ·exact e1
theorem jb: ∀(bs:List Nat){S:St},(S.ps.map (·.1)).Nodup->(S.wakes bs).sk=S.sk/\((S.wakes bs).ps.map (·.1))=S.ps.map (·.1)
 |[],_,_=>⟨rfl,rfl⟩
 |b::bs,S,hn=>by
  unfold St.wakes;cases hg:S.get b with
  |none=>exact jb bs hn
  |some x=>
   simp only
   split
   ·rename_i h;have hb:=bh hg;have e:(S.wake1 b x).ps.map (·.1)=S.ps.map (·.1):=ba S b _;obtain⟨h1,h2⟩:=jb bs (S:=S.wake1 b x) (by rw[e];exact hn);exact⟨h1.trans (i9 hn hb (by omega)),h2.trans e⟩
   ·exact jb bs hn
theorem jc: ∀(bs:List Nat){S:St},(S.ps.map (·.1)).Nodup->(S.lifts bs).sk=S.sk
 |[],_,_=>rfl
 |b::bs,S,hn=>by
  unfold St.lifts;cases hg:S.get b with
  |none=>exact jc bs hn
  |some x=>
   simp only
   split
   ·have hb:=bh hg;exact(jc bs (by rw[ba];exact hn)).trans (b6 (x':={x with lv:=0,used:=0}) hn hb rfl rfl Iff.rfl)
   ·exact jc bs hn
theorem y6 (hn:(S.ps.map (·.1)).Nodup):S.lead.sk=S.sk:=by
 obtain⟨h1,h2⟩:=jb (S.ps.map (·.1)) hn;unfold St.lead St.boost
 split
 ·have h3:((S.wake.lifts (S.wake.ps.map (·.1))).raises 2).sk=(S.wake.lifts (S.wake.ps.map (·.1))).sk:=by unfold St.sk;rw[(dQ _ 2).1]
  exact h3.trans ((jc _ (S:=S.wake) (by unfold St.wake;rw[h2];exact hn)).trans h1)
 ·exact h1
theorem y7 {c:Nat}(h:TI N S)(hc: ∀q∈S.lead.ps,c≠q.1) (hN:N c=S.last+1):
 (S.tickE=[evt S.now 2 0 0]/\(S.tickU c).later.sk=S.sk/\(S.tickU c).later.last=S.last)\/
 ∃id par at_ es,(id,par,false)∈S.sk/\S.tickE=evt S.now 1 (id:Nat) (at_:Nat)::es/\Skp S.sk S.last S.now id es (S.tickU c).later.sk (S.tickU c).later.last:=by
 have hsk:=y6 h.m.i.g.pn;have hnow:S.lead.now=S.now:=(bQ S).now;have hl:=cV S;unfold St.tickE St.tickU;cases hf:S.lead.first with
 |none=>exact .inl ⟨by rw[hnow],hsk,hl⟩
 |some b=>
  obtain⟨x,hx,hs⟩:=dn h.m.lead.i.g hf;simp only[bk h.m.lead.i.g.pn hx];have hr:=Bm h.m.lead h.coded_lead hx hs hc (by rw[hl];exact hN);rw[hsk,hl,hnow] at hr;refine .inr ⟨x.id,x.par,x.at_,_, ?_,by rw[hnow], ?_⟩
  ·rw[<-hsk];exact List.mem_map.2 ⟨(b,x),hx,by simp[key,hs]⟩
  ·show Skp _ _ _ _ _ ((S.lead.runS b x c).after b).sk ((S.lead.runS b x c).after b).last;rw[xd (h.m.lead.runS h.coded_lead hx hs hc (by rw[hl];exact hN)).i.g.pn,(iQ _ b).last];exact hr
end
def gone1 (ws:List Wd):Bool:=ws.any fun w=>w.2.1==4&&w.2.2.1==1
structure XE (X X':RX)(ws:List Wd):Prop where
 w:X'.ws=X.ws++ws
 o:X'.over=(X.over||gone1 ws)
 n:X'.now=X.now
 i:X'.img=X.img
section
variable {X X1 X2:RX}{S T T':St}{b:Nat}{x:PS}{l l':List Key}{n t id n':Nat}{es:List Value}{ws ws':List Wd}
theorem XE.refl (X:RX):XE X X []:=⟨by simp,by simp[gone1],rfl,rfl⟩
theorem XE.trans (h:XE X X1 ws)(k:XE X1 X2 ws'):XE X X2 (ws++ws'):=⟨by rw[k.w,h.w,List.append_assoc],by rw[k.o,h.o];simp[gone1,Bool.or_assoc],k.n.trans h.n,k.i.trans h.i⟩
theorem nW (X:RX)(b:Nat)(st:Int):XE X (finX X b st) [((X.now:Int),4,(b:Int),st)]:=⟨rfl,by
 show (X.over||decide (b=1))=_;unfold gone1;simp;by_cases h:b=1
 ·simp[h]
 ·have: ¬(b:Int)=1:=by omega
  simp[h,this],rfl,rfl⟩
theorem nX (X:RX)(k id a:Int)(hk:k≠4):XE X (tellX X k id a) [((X.now:Int),k,id,a)]:=⟨rfl,by simp[gone1,hk],rfl,rfl⟩
theorem y9 (hn:X.now=T.now)(hid: ∀q∈T.ps,q.2.id=q.1) (hb:(b,x)∈T.ps) (m:Int): ∃ws,XE X (trapX T X b x m) ws/\T.grantE b x m=ws.map Wd.v/\ws.length<=1:=by
 unfold trapX St.grantE;have hxb:x.id=b:=hid _ hb;by_cases h0:m=0
 ·rw[if_pos h0,if_pos h0];exact⟨_,nW X b _,by rw[hn,hxb];rfl,Nat.le_refl _⟩
 rw[if_neg h0,if_neg h0];by_cases h3:m=3
 ·rw[if_pos h3,if_pos h3];cases hf:T.find (x.r 0) with
  |none=>exact⟨[],XE.refl X,rfl,Nat.zero_le _⟩
  |some q=>
   simp only
   split
   ·exact⟨[],XE.refl X,rfl,Nat.zero_le _⟩
   ·exact⟨_,nW X q.1 _,by rw[hn,hid q (dH hf).1];rfl,Nat.le_refl _⟩
 rw[if_neg h3,if_neg h3];by_cases h11:m=11
 ·rw[if_pos h11,if_pos h11];exact⟨_,nX X 3 b _ (by decide),by rw[hn,hxb];rfl,Nat.le_refl _⟩
 ·rw[if_neg h11,if_neg h11];exact⟨[],XE.refl X,rfl,Nat.zero_le _⟩
theorem za (hn:X.now=T.now)(hid: ∀q∈T.ps,q.2.id=q.1) (hb:(b,x)∈T.ps): ∃ws,XE X (stepX T X b x) ws/\T.runE b x=ws.map Wd.v/\ws.length<=1:=by
 unfold stepX St.runE;have hxb:x.id=b:=hid _ hb;by_cases hp:T.pn<=x.at_
 ·rw[if_pos hp,if_pos hp];exact⟨_,nW X b _,by rw[hn,hxb];rfl,Nat.le_refl _⟩
 rw[if_neg hp,if_neg hp];by_cases h9:T.pg x.at_ 0=9
 ·rw[if_pos h9,if_pos h9];refine y9 (T:=T.setP b x.next) hn (fun q hq=> ?_) (ar hb) _;rcases aO hq with rfl|⟨h1,_⟩
  ·exact hxb
  ·exact hid q h1
 rw[if_neg h9,if_neg h9];cases T.doR x with
 |ok x'=>exact⟨[],XE.refl X,rfl,Nat.zero_le _⟩
 |error e=>exact⟨_,nW X b _,by rw[hn,hxb];rfl,Nat.le_refl _⟩
theorem zb (hn:X.now=T.now)(hid: ∀q∈T.lead.ps,q.2.id=q.1) (hg:Good T.lead): ∃ws,XE X (tickX T X) ws/\T.tickE=ws.map Wd.v/\ws.length<=2:=by
 have hnow:T.lead.now=T.now:=(bQ T).now;unfold tickX St.tickE;cases hf:T.lead.first with
 |none=>exact⟨_,nX X 2 0 0 (by decide),by rw[hnow,hn];rfl,by simp⟩
 |some b=>
  obtain⟨x,hx,_⟩:=dn hg hf;simp only[bk hg.pn hx];have h1:=nX X 1 b x.at_ (by decide);obtain⟨ws,h2,h3,h4⟩:=za (X:=tellX X 1 b x.at_) (T:=T.lead) (hn.trans hnow.symm) hid hx;refine⟨_,h1.trans h2, ?_,by simp;omega⟩;rw[h3,hnow,hid _ hx,hn];rfl
def sk1 (l:List Key):Bool:=l.any fun e=>decide (e.1=1)&&e.2.2
theorem jd:sk1 l=true↔ ∃e∈l,e.1=1/\e.2.2=true:=by unfold sk1;simp[List.any_eq_true]
theorem sC {N:Nat->Nat}(h:TI N T):T.isOver=sk1 T.sk:=by
 obtain⟨q,hq,h1⟩:=h.m.x.p1;unfold St.isOver;cases hf:T.find 1 with
 |none=>
  unfold St.find at hf;have:=List.find?_eq_none.1 hf q hq;simp at this;omega
 |some r=>
  obtain⟨hr,h2⟩:=dH hf;have e:sk1 T.sk=true↔r.2.st=6:=by
   rw[jd];constructor
   ·rintro⟨e,he,h3,h4⟩;obtain⟨q,hq,rfl⟩:=List.mem_map.1 he;have h5:q.2.id=r.2.id:=by have:q.2.id=1:=h3;omega
    rw[h.m.x.idn q hq r hr h5] at h4;simpa [key] using h4
   ·intro h6;exact⟨key r,List.mem_map.2 ⟨r,hr,rfl⟩,by show r.2.id=1;omega,by simp[key,h6]⟩
  simp only;cases hs:sk1 T.sk with
  |true=>simp[e.1 hs]
  |false=>simp;intro h6;rw[e.2 h6] at hs;cases hs
theorem nY (d:Del l l')(h: ∀e∈l,e.1=1->e.2.1=0):sk1 l'=sk1 l:=by
 have:sk1 l'=true↔sk1 l=true:=by
  rw[jd,jd];constructor
  ·rintro⟨e,he,h1,h2⟩;exact⟨e,d.1.subset he,h1,h2⟩
  ·rintro⟨e,he,h1,h2⟩;rcases d.2 e he with h3|⟨_,h3⟩
   ·exact⟨e,h3,h1,h2⟩
   ·exact absurd (h e he h1) h3
 cases h1:sk1 l'<;>cases h2:sk1 l<;>simp_all
theorem je {w:Wd}{a b c d:Int}(h:evt a b c d=w.v):w=(a,b,c,d):=by
 unfold evt at h;have h1:=Value.agg.inj h;obtain⟨w1,w2,w3,w4⟩:=w;simp[wd] at h1;obtain⟨rfl,rfl,rfl,rfl⟩:=h1;rfl
theorem xe (hs:Skp l n t id (ws.map Wd.v) l' n')(h: ∀e∈l,e.1=1->e.2.1=0) (h1: ∀e∈l,1<=e.1):sk1 l'=(sk1 l||gone1 ws):=by
 generalize he:ws.map Wd.v=es at hs;cases hs with
 |calm d=>
  have:ws=[]:=List.map_eq_nil_iff.1 he;rw[nY d h,this];simp[gone1]
 |said v hv d=>
  obtain⟨w,hw,e⟩: ∃w,ws=[w]/\w.v=evt t 3 id v:=by
   cases ws with
   |nil=>cases he
   |cons w ws=>cases ws with
    |nil=>exact⟨w,rfl,by simpa using he⟩
    |cons w' ws=>simp at he
  rw[nY d h,hw,je e.symm];simp[gone1]
 |fork=>
  have:ws=[]:=List.map_eq_nil_iff.1 he;rw[this];simp[sk1,gone1]
 |gone d p v hd dl=>
  obtain⟨w,hw,e⟩: ∃w,ws=[w]/\w.v=evt t 4 d v:=by
   cases ws with
   |nil=>cases he
   |cons w ws=>cases ws with
    |nil=>exact⟨w,rfl,by simpa using he⟩
    |cons w' ws=>simp at he
  have hd1:=h1 _ hd;have hd1':1<=d:=hd1;have hm1: ∀e,(orph d (mark d e)).1=e.1:=fun e=>by unfold orph mark;split<;>split<;>rfl
  have hm2: ∀e,(orph d (mark d e)).2.2=(if e.1=d then true else e.2.2):=fun e=>by unfold orph mark;split<;>split<;>simp_all
  have hm3: ∀e,e.2.1=0->(orph d (mark d e)).2.1=0:=fun e h=>by
   unfold orph mark;by_cases e1:e.1=d
   ·rw[if_pos e1,if_neg (show¬(e.1,e.2.1,true).2.1=d by show¬e.2.1=d;omega)];exact h
   ·rw[if_neg e1,if_neg (show¬e.2.1=d by omega)];exact h
  rw[nY dl (fun e he h2=>by
   obtain⟨e1,he1,rfl⟩:=List.mem_map.1 he;obtain⟨e2,he2,rfl⟩:=List.mem_map.1 he1;rw[hm1] at h2;exact hm3 e2 (h e2 he2 h2)),hw,je e.symm]
  have:sk1 ((l.map (mark d)).map (orph d))=true↔(sk1 l||gone1 [((t:Int),4,(d:Int),v)])=true:=by
   rw[Bool.or_eq_true,jd,jd];have hg1:gone1 [((t:Int),4,(d:Int),v)]=true↔d=1:=by unfold gone1;simp;omega
   rw[hg1];constructor
   ·rintro⟨e,he,h2,h3⟩;obtain⟨e1,he1,rfl⟩:=List.mem_map.1 he;obtain⟨e2,he2,rfl⟩:=List.mem_map.1 he1;rw[hm1] at h2;rw[hm2] at h3
    split at h3
    ·rename_i h4;exact .inr (h4.symm.trans h2)
    ·exact .inl ⟨e2,he2,h2,h3⟩
   ·rintro(⟨e,he,h2,h3⟩|rfl)
    ·exact⟨_,List.mem_map.2 ⟨_,List.mem_map.2 ⟨e,he,rfl⟩,rfl⟩,by rw[hm1];exact h2,by rw[hm2,h3];simp⟩
    ·exact⟨_,List.mem_map.2 ⟨_,List.mem_map.2 ⟨_,hd,rfl⟩,rfl⟩,by rw[hm1],by rw[hm2];simp⟩
  cases h1:sk1 ((l.map (mark d)).map (orph d))<;>cases h2:(sk1 l||gone1 [((t:Int),4,(d:Int),v)])<;>simp_all
theorem uu (h:TI (fun b=>b) T)(hc: ∀q∈T.lead.ps,T.last+1≠q.1) (hT':TI (fun b=>b) T.next) (hw:T.tickE=ws.map Wd.v):T.next.isOver=(T.isOver||gone1 ws):=by
 rw[sC h,sC hT'];have hp: ∀e∈T.sk,e.1=1->e.2.1=0:=fun e he h1=>by
  obtain⟨q,hq,rfl⟩:=List.mem_map.1 he;exact(h.m.x.p0 q hq).2 h1
 have h1: ∀e∈T.sk,1<=e.1:=fun e he=>by
  obtain⟨q,hq,rfl⟩:=List.mem_map.1 he;exact(h.m.x.idr q hq).1
 rcases y7 h hc rfl with ⟨e1,e2,_⟩|⟨id,par,at_,es,_,e1,e2⟩
 ·have:T.next.sk=T.sk:=e2
  rw[this];rw[e1] at hw;obtain⟨w,hw',e⟩: ∃w,ws=[w]/\w.v=evt T.now 2 0 0:=by
   cases ws with
   |nil=>cases hw
   |cons w ws=>cases ws with
    |nil=>exact⟨w,rfl,by simpa using hw.symm⟩
    |cons w' ws=>simp at hw
  rw[hw',je e.symm];simp[gone1]
 ·rw[e1] at hw;cases ws with
  |nil=>cases hw
  |cons w ws=>
   simp only[List.map_cons,List.cons.injEq] at hw;rw[hw.2] at e2;have:=xe e2 hp h1;have e3:sk1 T.next.sk=(sk1 T.sk||gone1 ws):=this
   rw[e3,je hw.1];simp[gone1]
end
def NoPipe (img:List Int):Prop:= ∀i v w,img[4*i]? =some v->img[4*i+1]? =some w->v=9->w<7\/10<w
theorem NoPipe.of {T:St}{img:List Int}(h:NoPipe img)(hi:RImg T img): ∀i,i<T.pn->T.pg i 0=9->T.pg i 1<7\/10<T.pg i 1:=fun i hp=>h i _ _ (hi.g i 0 hp (by omega)) (hi.g i 1 hp (by omega))
theorem lE {T:St}(h:TI (fun b=>b) T): ∀q∈T.lead.ps,T.last+1≠q.1:=fun q hq e=>by
 have h1:=(h.m.lead.x.idr q hq).2;have h2:q.1=q.2.id:=h.m.lead.x.nm q hq;rw[cV] at h1;omega
structure Ref (R:Nat)(B:RB)(T:St)(X:RX)(L:Frag):Prop where
 r:RepR 0 R B T X L
 t:TI (fun b=>b) T
 o:X.over=T.isOver
 n:X.over=false->X.now=T.now
 np:NoPipe X.img
theorem Bn: ∃n,∀{σ}{F:Fam σ}{Δ:DM F}{main s}(L:Frag)(R:Nat)(m:Int),(m<0\/2000<m)->
 CallsL Δ Tryz.prog main 73 [ptr R, .int .i64 m].toArray n s L (fun s' v L'=>s=s'/\v= .tuple #[.slice none 0 0, .int .i64 3]/\L=L'):=by
 apply Exists.intro;intro σ F Δ main s L R m hm;co_applyP aF 39 Tryz.func73 Tryz.ntmps73;co_applyP aa;co_applyP oy rfl bR;co_applyP oan rfl;co_applyP au (n₂:=0);co_applyP au;co_applyP cO ([(12, .bool true)]);co_applyP aq;co_applyP om rfl rfl rfl bj;co_applyP oy rfl ag
 ·by_cases h:m<0
  ·rw[show decide (m<0)=true by simp[h]];co_applyP ou rfl;co_applyP ou rfl;co_applyP oy rfl aH;co_applyP ai;change _=_/\_=_/\kn _ _;exact⟨rfl,rfl,rfl⟩
  ·rw[show decide (m<0)=false by simp[h]];co_applyP om rfl rfl rfl (cx);co_applyP oy rfl aH;co_applyP ai;change _=_/\_=_/\kn _ _;refine⟨rfl,rfl, ?_⟩;rw[show decide (2000<m)=true by simp;omega];rfl
 co_applyP bv rfl;co_applyP aa;co_applyP oy rfl bR;co_applyP oan rfl;co_applyP aK;change∃v,resE .. =some v/\_;exact⟨_,rfl,rfl,rfl,rfl⟩
theorem Bo: ∃n,∀{σ}{F:Fam σ}{Δ:DM F}{main s}(R:Nat)(B:RB)(T:St)(X:RX)(L:Frag)(m:Nat),(∀s o,(Δ s).New o)->Ref R B T X L->m<=2000->T.now<1152921504606846976->X.now<1152921504606846976->
 CallsL Δ Tryz.prog main 73 [ptr R, .int .i64 (m:Nat)].toArray n s L (fun s' v L'=>s=s'/\ ∃B' X',v= .tuple #[rowv B'.ae 4 X'.ws.length, .int .i64 0]/\Ref R B' (St.runs m T) X' L'/\To 0 R B T L B' (St.runs m T) X' L'/\X'.ws.map Wd.v=St.evs m T/\X'.now=X.now+m):=by
 obtain⟨n1,g1⟩:=Bj;apply Exists.intro;intro σ F Δ main s R B T X L m hN hF hm hnl hxl;have hR:=hF.r;co_applyP aF 39 Tryz.func73 Tryz.ntmps73;co_applyP aa;co_applyP oy rfl bR;co_applyP oan rfl;co_applyP au;co_applyP au;co_applyP cO ([(12, .bool false),(1, .int .i64 (m:Nat)),(0,ptr R)]);co_applyP aq;co_applyP om rfl rfl rfl bj;co_applyP oy rfl ag
 ·rw[show decide ((m:Int)<0)=false by simp];co_applyP om rfl rfl rfl (cx);co_applyP oy rfl aH;co_applyP ai;change _=_/\_=_/\kn _ _;refine⟨rfl,rfl, ?_⟩;rw[show decide ((2000:Int)<(m:Int))=false by simp;omega];rfl
 co_applyP aE rfl;co_applyP aB;co_applyP aa;co_applyP om rfl rfl rfl av;co_applyP oy rfl (ak (hf:=gA));co_applyP osm rfl (hs:=vj) (hm:=hR.k) (hi:=by show 15<16;decide);intro L1 hU1;have hnil:ApN L 51 B.ae (wcs []) ⟨none,[]⟩ L:=⟨⟨rfl,rfl⟩,hR.fn,fun t ht _=>ht,fun c hc=>by cases hc⟩;have hT1:To 0 R B T L _ T {X with ws:=[]} L1:=To.of (hR.setE hnil hU1 rfl);co_applyP ai;co_applyP au;co_applyP aa;co_applyP oan rfl;co_applyP aC;co_applyP bg (fun k s' ε' L'=>s=s'/\ ∃(i:Nat) (B':RB) (X':RX),k+i=2000/\i<=m/\To 0 R B T L B' (St.runs i T) X' L'/\TI (fun b=>b) (St.runs i T)/\X'.over=(St.runs i T).isOver/\(X'.over=false->X'.now=(St.runs i T).now)/\X'.img=X.img/\X'.ws.map Wd.v=St.evs i T/\X'.ws.length<=2*i/\X'.now=X.now+i/\(St.runs i T).now<=T.now+i/\kn ε' [(6, .int .i64 i),(1, .int .i64 (m:Nat)),(0,ptr R)]) 2000
 ·exact⟨rfl,0,_,_,rfl,Nat.zero_le _,hT1,hF.t,hF.o,hF.n,rfl,rfl,Nat.le_refl _,rfl,Nat.le_refl _,rfl⟩
 rintro k s' ε' L' ⟨rfl,i,B2,X2,hk,him,hT2,hTI,hov,hno,him2,hev,hwl,hnx,hnt,he⟩;co_applyP aN he;have hR2:=hT2.r;co_applyP au;co_applyP aa;co_applyP om rfl rfl rfl ag;co_applyP oy rfl bj;co_applyP ai;co_applyP aT rfl;intro hc
 ·have hi:i<m:=by simp at hc;omega
  have e1:IntKind.i64.wrap ((i:Int)+1)=((i+1:Nat):Int):=by simp[IntKind.wrap_i64];omega
  have h14:At L' R 14 (.bool X2.over):=hR2.kat rfl;have hrs:St.runs (i+1) T=if(St.runs i T).isOver then St.runs i T else(St.runs i T).next:=by rw[qf i 1];rfl
  have hes:St.evs (i+1) T=St.evs i T++(if(St.runs i T).isOver then [] else(St.runs i T).tickE):=by
   rw[sn i 1];congr 1;show (if _ then _ else _++[])=_
   split
   ·rfl
   ·rw[List.append_nil]
  co_applyP aB;co_applyP cK ((fun s'' ε'' L''=>s=s''/\kn ε'' [(6, .int .i64 i),(1, .int .i64 (m:Nat)),(0,ptr R)]/\ ∃B3 X3,To 0 R B T L B3 (St.runs (i+1) T) X3 L''/\TI (fun b=>b) (St.runs (i+1) T)/\X3.over=(St.runs (i+1) T).isOver/\(X3.over=false->X3.now=(St.runs (i+1) T).now)/\X3.img=X.img/\X3.ws.map Wd.v=St.evs (i+1) T/\X3.ws.length<=2*(i+1)/\X3.now=X.now+(i+1)/\(St.runs (i+1) T).now<=T.now+(i+1)));co_applyP aC;co_applyP cK ((fun s'' ε'' L''=>s=s''/\kn ε'' [(6, .int .i64 i),(1, .int .i64 (m:Nat)),(0,ptr R)]/\ ∃B3 X3,To 0 R B T L B3 (if(St.runs i T).isOver then St.runs i T else(St.runs i T).tickU ((St.runs i T).last+1)) X3 L''/\X3.over=(St.runs (i+1) T).isOver/\X3.now=X2.now/\X3.img=X.img/\X3.ws.map Wd.v=St.evs (i+1) T/\X3.ws.length<=2*(i+1)));co_applyP aa;co_applyP om rfl rfl rfl av;co_applyP oy rfl (ak (hf:=po));co_applyP oy rfl (aA (ht:=DH));co_applyP oy rfl cP;co_applyP ai;co_applyP aT rfl;intro hv;co_applyP aq;co_applyP oy rfl ag
  ·have hv':X2.over=false:=by simpa using hv
   have hio:(St.runs i T).isOver=false:=by rw[<-hov];exact hv'
   rw[hio] at hrs hes;simp only[Bool.false_eq_true,if_false] at hrs hes;have hnw:=hno hv';co_applyP oc rfl rfl rfl (g1 R B2 (St.runs i T) X2 L' hN hR2 hTI (by omega) hnw (by omega) (NoPipe.of (him2▸hF.np) hR2.im));rintro _ _ _ ⟨rfl,rfl,B3,hT3⟩;co_applyP ai;change _=_/\kn _ _/\ ∃B3 X3,_;have hld:=hTI.m.lead;obtain⟨ws,hx,hte,hwl2⟩:=zb (X:=X2) (T:=St.runs i T) hnw (fun q hq=>(hld.x.nm q hq).symm) hld.i.g;have hnext:TI (fun b=>b) (St.runs i T).next:=hTI.tick (lE hTI) rfl
   have hno2:=uu hTI (lE hTI) hnext hte;refine⟨rfl,rfl,B3,tickX (St.runs i T) X2,by rw[hio];exact hT2.trans hT3, ?_,hx.n,hx.i.trans him2, ?_, ?_⟩
   ·rw[hx.o,hrs,hno2,hov]
   ·rw[hx.w,List.map_append,hev,hes,hte]
   ·rw[hx.w,List.length_append];omega
  intro hv;co_applyP aB;change _=_/\kn _ _/\ ∃B3 X3,_;have hv':X2.over=true:=by simpa using hv
  have hio:(St.runs i T).isOver=true:=by rw[<-hov];exact hv'
  rw[hio] at hrs hes;simp only[if_true,List.append_nil] at hrs hes;exact⟨rfl,rfl,B2,X2,by rw[hio];exact hT2,by rw[hrs];exact hov,rfl,him2,by rw[hes];exact hev,by omega⟩;rintro _ ε5 L5 ⟨rfl,he5,B3,X3,hT3,ho3,hn3,hi3,hw3,hl3⟩;co_applyP aN he5;have h13:At L5 R 13 (.int .i64 (X3.now:Nat)):=hT3.r.kat rfl;have wn:IntKind.i64.wrap ((X3.now:Int)+1)=((X3.now+1:Nat):Int):=by simp[IntKind.wrap_i64];omega
  co_applyP aq;co_applyP om rfl rfl rfl av;co_applyP oy rfl (ak (hf:=eI));co_applyP oy rfl (aA (ht:=aR));co_applyP oy rfl aS;co_applyP oy rfl av;co_applyP oy rfl (ak (hf:=eI));rw[wn];co_applyP osm rfl (hs:=bS) (hm:=hT3.r.k) (hi:=by show 13<16;decide);intro L6 hU6;co_applyP ai;change _=_/\kn _ _/\ ∃B3 X3,_;have hT6:To 0 R B T L B3 (St.runs (i+1) T) {X3 with now:=X3.now+1} L6/\TI (fun b=>b) (St.runs (i+1) T)/\((St.runs (i+1) T).isOver=false->(St.runs (i+1) T).now=(St.runs i T).now+1/\(St.runs i T).isOver=false)/\(St.runs (i+1) T).now<=(St.runs i T).now+1:=by
   cases hio:(St.runs i T).isOver with
   |true=>
    rw[hio] at hrs hT3 hU6;simp only[if_true] at hrs hT3 hU6;rw[hrs];exact⟨hT3.trans (To.of (hT3.r.setK hU6 (St.runs i T) {X3 with now:=X3.now+1} rfl)),hTI,fun h=>absurd (hio.symm.trans h) (by decide),Nat.le_succ _⟩
   |false=>
    rw[hio] at hrs hT3 hU6;simp only[Bool.false_eq_true,if_false] at hrs hT3 hU6;rw[hrs];have hnx:(St.runs i T).next.now=(St.runs i T).now+1:=by show ((St.runs i T).tickU _).now+1=_;rw[mJ]
    exact⟨hT3.trans (To.of (hT3.r.setK hU6 (St.runs i T).next {X3 with now:=X3.now+1} rfl)),hTI.tick (lE hTI) rfl,fun _=>⟨hnx,rfl⟩,Nat.le_of_eq hnx⟩
  exact⟨rfl,rfl,B3,_,hT6.1,hT6.2.1,ho3,fun h=>by
   have h':X3.over=false:=h;obtain⟨q1,q2⟩:=hT6.2.2.1 (ho3.symm.trans h');have:=hno (hov.trans q2);show X3.now+1=_;omega,hi3,hw3,hl3,by show X3.now+1=_;omega,by have:=hT6.2.2.2;omega⟩
  rintro _ ε7 L7 ⟨rfl,he7,B7,X7,hT7,hTI7,ho7,hn7,hi7,hw7,hl7,hnx7,hnt7⟩;co_applyP aN he7;co_applyP aq;co_applyP om rfl rfl rfl aS;co_applyP oan rfl;change∃k',k'<_/\_;rw[e1];exact⟨k-1,by omega,rfl,i+1,B7,X7,by omega,by omega,hT7,hTI7,ho7,hn7,hi7,hw7,hl7,hnx7,hnt7,rfl⟩
 intro hc;have hi:i=m:=by simp at hc;omega
 subst hi;have h15:At L' R 15 (rowv B2.ae 4 X2.ws.length):=hR2.kat rfl;co_applyP bf;co_applyP aa;co_applyP om rfl rfl rfl av;co_applyP oy rfl (ak (hf:=gA));co_applyP oy rfl (aA (ht:=kR));co_applyP oy rfl bR;co_applyP oan rfl;co_applyP aK;change∃v,resE .. =some v/\_;exact⟨_,rfl,rfl,B2,X2,rfl,⟨hR2,hTI,hov,hno,him2▸hF.np⟩,hT2,hev,hnx⟩
def RB.none:RB:=⟨fun _=>0,fun _=>⟨fun _=>0,fun _=>false,0,0,0,0⟩,⟨.none,[]⟩,fun _=>⟨.none,[]⟩,⟨.none,[]⟩⟩
def RX.new (l:List Int):RX:=⟨l,0,false,[]⟩
def St.void (c:Nat->Int)(bo:Int)(l:List Int):St:=⟨c,bo,l.length/4,fun i j=>l.getD (4*i+j) 0,[],1,fun _=>[],fun _=>[],[],0⟩
theorem Bp (c:Nat->Int)(bo:Int)(l:List Int):evR Tryz.prog (Instr.build 150 [(0,cfgv c bo),(1,strv l),(5, .int .i64 1)].toArray) []=some (.agg (rkc RB.none (St.void c bo l) (RX.new l)),[]):=by kernel_rfl
theorem zc:evR Tryz.prog (Instr.build 154 [].toArray) []=some (.agg (rpc PS.zero (RB.none.e 0)),[]):=by kernel_rfl
theorem xf {c:Nat->Int}{bo:Int}{l:List Int}{R:Nat}{L:Frag}(hF:Fun L)(hm:(R,true,Obj.cells (rkc RB.none (St.void c bo l) (RX.new l)) 150)∈L)(h4:l.length%4=0)(hB:Byt l):RepR 0 R RB.none (St.void c bo l) (RX.new l) L where
 fn:=hF
 k:=hm
 p:=fun q hq=>by cases hq
 pl:=⟨rfl,rfl⟩
 rw:=fun l _=>⟨rfl,rfl⟩
 ev:=⟨rfl,rfl⟩
 dj:=fun l _ l' _ _ b hb=>by cases hb
 im:=⟨by show l.length=4*(l.length/4);omega,fun i j hi hj=>by
  have hi':i<l.length/4:=hi;show l[4*i+j]? =some (l.getD (4*i+j) 0);have:4*i+j<l.length:=by omega
  simp[List.getD,this],hB⟩
 id:=fun q hq=>by cases hq
 le:=fun q hq=>by cases hq
 pn:=List.nodup_nil
 np:=fun q hq=>by cases hq
 un:=fun q hq=>by cases hq
 du:=fun q hq=>by cases hq
 sz:=fun q hq=>by cases hq
 ab:=fun q hq=>by cases hq
 nf:=fun q hq=>by cases hq
 wt:=rfl
theorem Bq: ∃n,∀{σ}{F:Fam σ}{Δ:DM F}{main s}(L:Frag)(c:Nat->Int)(bo:Int)(l:List Int),(∀s o,(Δ s).New o)->Fun L->Byt l->
 CallsL Δ Tryz.prog main 70 [cfgv c bo,strv l].toArray n s L (fun s' v L'=>s=s'/\Ext L L'/\if okc c bo=true/\oki l.length=true then∃R B,v= .tuple #[ptr R, .int .i64 0]/\RepR 0 R B (St.fresh c bo l 1) (RX.new l) L'/\ ∀d,OwnR R B (St.fresh c bo l 1) d-> ∀t∈L,t.1≠d else v= .tuple #[.pointer none, .int .i64 (if okc c bo then 2 else 1)]):=by
 apply Exists.intro;intro σ F Δ main s L c bo l hN hF hB;co_applyP aF 83 Tryz.func70 Tryz.ntmps70;co_applyP aa;co_applyP b5 rfl (b8 (hN _ _));intro cb L1 hA;have hE:Ext L L1:=⟨hA.fn,hA.sub⟩;have hbo:At L1 cb 3 (.int .i64 bo):=⟨true,_,_,_,hA.self,rfl⟩;have hat: ∀i,i<3->At L1 cb i (.int .i64 (c i)):=fun i hi=>by
  rcases i with _|_|_|i
  ·exact⟨true,_,_,_,hA.self,rfl⟩
  ·exact⟨true,_,_,_,hA.self,rfl⟩
  ·exact⟨true,_,_,_,hA.self,rfl⟩
  ·omega
 co_applyP oy rfl bR;co_applyP oan rfl;co_applyP au;co_applyP aa;co_applyP oan rfl;co_applyP aC;co_applyP bg (fun k s' ε' L'=>s=s'/\L1=L'/\ ∃i:Nat,k+i=3/\(∀j,j<i->1<=c j/\c j<=10)/\kn ε' [(6, .int .i64 (i:Nat)),(2,ptr cb),(1,strv l)]) 3
 ·exact⟨rfl,rfl,0,rfl,by omega,rfl⟩
 rintro k s' ε' L' ⟨rfl,rfl,i,hk,hok,he⟩;co_applyP aN he;have ei:IntKind.i64.wrap ((i:Int)+1)=((i+1:Nat):Int):=by simp[IntKind.wrap_i64];omega
 co_applyP au;co_applyP aa;co_applyP om rfl rfl rfl bj;co_applyP ai;co_applyP aT rfl;intro hlt
 ·have hi3:i<3:=by simp at hlt;omega
  have hci:=hat i hi3;co_applyP aB;co_applyP au;co_applyP aC;co_applyP au;co_applyP cO ([(24, .bool (decide (c i<1\/10<c i))),(6, .int .i64 (i:Nat)),(2,ptr cb),(1,strv l)]);co_applyP aq;co_applyP om rfl rfl rfl (ak (hf:=iD));co_applyP oy rfl (aX Tryz.underlying24 bS);co_applyP oy rfl (aA (ht:=aR));co_applyP oy rfl bj;co_applyP oy rfl ag
  ·by_cases h3:c i<1
   ·rw[show decide (c i<1)=true by simp[h3]];co_applyP ou rfl;co_applyP ou rfl;co_applyP ou rfl;co_applyP ou rfl;co_applyP ou rfl;co_applyP oy rfl aH;co_applyP ai;change _=_/\_=_/\kn _ _;refine⟨rfl,rfl, ?_⟩;rw[show decide (c i<1\/10<c i)=true by simp[h3]];rfl
   ·rw[show decide (c i<1)=false by simp;omega];co_applyP om rfl rfl rfl ((ak (hf:=iD)));co_applyP oy rfl ((aX Tryz.underlying24 bS));co_applyP oy rfl ((aA (ht:=aR)));co_applyP oy rfl (cx);co_applyP oy rfl aH;co_applyP ai;change _=_/\_=_/\kn _ _;refine⟨rfl,rfl, ?_⟩;rw[show decide (c i<1\/10<c i)=decide (10<c i) by simp[h3]];rfl
  co_applyP aT rfl;intro hw;co_applyP aa;co_applyP oy rfl bR;co_applyP oan rfl;co_applyP aK;change∃v,resE .. =some v/\_
  ·have hw':c i<1\/10<c i:=by simpa using hw
   have e5:okc c bo=false:=by
    unfold okc;simp only[decide_eq_false_iff_not];rintro⟨h1,_⟩;have:i=0\/i=1\/i=2:=by omega
    rcases this with rfl|rfl|rfl<;>omega
   exact⟨_,rfl,rfl,hE,by rw[e5];rfl⟩
  intro hw;co_applyP aB;co_applyP aq;co_applyP om rfl rfl rfl aS;co_applyP oan rfl;change∃k',k'<_/\_;have hw': ¬(c i<1\/10<c i):=by simpa using hw
  refine⟨k-1,by omega,rfl,rfl,i+1,by omega,fun j hj=> ?_,by rw[<-ei];rfl⟩;by_cases hj':j=i
  ·subst hj';omega
  ·exact hok j (by omega)
 intro hlt;co_applyP bf;co_applyP au;co_applyP au;have hi3:i=3:=by simp at hlt;omega
 subst hi3;have hk0:=hok 0 (by omega);have hk1:=hok 1 (by omega);have hk2:=hok 2 (by omega);co_applyP cO ([(32, .bool (decide (bo<1\/1000<bo))),(2,ptr cb),(1,strv l)]);co_applyP aq;co_applyP oy rfl (ak (hf:=eu));co_applyP oy rfl (aA (ht:=aR));co_applyP oy rfl bj;co_applyP oy rfl ag
 ·by_cases h3:bo<1
  ·rw[show decide (bo<1)=true by simp[h3]];co_applyP ou rfl;co_applyP ou rfl;co_applyP ou rfl;co_applyP oy rfl aH;co_applyP ai;change _=_/\_=_/\kn _ _;refine⟨rfl,rfl, ?_⟩;rw[show decide (bo<1\/1000<bo)=true by simp[h3]];rfl
  ·rw[show decide (bo<1)=false by simp;omega];co_applyP oy rfl ((ak (hf:=eu)));co_applyP oy rfl ((aA (ht:=aR)));co_applyP oy rfl (cx);co_applyP oy rfl aH;co_applyP ai;change _=_/\_=_/\kn _ _;refine⟨rfl,rfl, ?_⟩;rw[show decide (bo<1\/1000<bo)=decide (1000<bo) by simp[h3]];rfl
 co_applyP aT rfl;intro hw;co_applyP aa;co_applyP oy rfl bR;co_applyP oan rfl;co_applyP aK;change∃v,resE .. =some v/\_
 ·have hw':bo<1\/1000<bo:=by simpa using hw
  have e5:okc c bo=false:=by unfold okc;simp only[decide_eq_false_iff_not];omega
  exact⟨_,rfl,rfl,hE,by rw[e5];rfl⟩
 intro hw;co_applyP aB;co_applyP au;co_applyP au;have hw': ¬(bo<1\/1000<bo):=by simpa using hw
 have hkc:okc c bo=true:=by unfold okc;simp only[decide_eq_true_eq];omega
 co_applyP cO ([(46, .bool (!oki l.length)),(2,ptr cb),(1,strv l)])
 ·skip
  co_applyP aq;co_applyP om rfl rfl rfl (dO (hu:=U9));co_applyP oy rfl aI;co_applyP oy rfl ag;rw[b9];by_cases h3:l.length=0
  ·rw[show ((l.length:Int)==0)=true by rw[h3];rfl];co_applyP ou rfl;co_applyP ou rfl;co_applyP ou rfl;co_applyP ou rfl;co_applyP oy rfl aH;co_applyP oy rfl ag;co_applyP ou rfl;co_applyP ou rfl;co_applyP ou rfl;co_applyP oy rfl aH;co_applyP ai;change _=_/\_=_/\kn _ _;refine⟨rfl,rfl, ?_⟩;rw[show oki l.length=false from decide_eq_false fun h=>by omega];rfl
  rw[show ((l.length:Int)==0)=false from beq_false_of_ne (by omega)];have tm:(l.length:Int).tmod 4=(l.length:Int)%4:=Int.tmod_eq_emod_of_nonneg (by omega);by_cases h4:l.length%4=0
  ·skip
   co_applyP om rfl rfl rfl ((dO (hu:=U9)));rw[b9];co_applyP oy rfl (eP);co_applyP oy rfl (dK);co_applyP oy rfl aH;co_applyP oy rfl ag;rw[tm,show ((l.length:Int)%4 !=0)=false by simp;omega];co_applyP om rfl rfl rfl ((dO (hu:=U9)));rw[b9];co_applyP oy rfl (cx);co_applyP oy rfl aH;co_applyP ai;change _=_/\_=_/\kn _ _;refine⟨rfl,rfl, ?_⟩;rw[show (!oki l.length)=decide ((1024:Int)<l.length) by
    unfold oki;by_cases h:1024<l.length
    ·rw[show decide ((1024:Int)<l.length)=true by simp;omega];simp;omega
    ·rw[show decide ((1024:Int)<l.length)=false by simp;omega];simp;omega];rfl
  ·skip
   co_applyP om rfl rfl rfl ((dO (hu:=U9)));rw[b9];co_applyP oy rfl (eP);co_applyP oy rfl (dK);co_applyP oy rfl aH;co_applyP oy rfl ag;rw[tm,show ((l.length:Int)%4 !=0)=true by simp;omega];co_applyP ou rfl;co_applyP ou rfl;co_applyP ou rfl;co_applyP oy rfl aH;co_applyP ai;change _=_/\_=_/\kn _ _;refine⟨rfl,rfl, ?_⟩;rw[show oki l.length=false from decide_eq_false fun h=>by omega];rfl
 co_applyP aT rfl;intro hi;co_applyP aa;co_applyP oy rfl bR;co_applyP oan rfl;co_applyP aK;change∃v,resE .. =some v/\_
 ·have hi':oki l.length=false:=by simpa using hi
  exact⟨_,rfl,rfl,hE,by rw[hkc,hi'];rfl⟩
 intro hi;co_applyP aB;co_applyP aa;have hi':oki l.length=true:=by simpa using hi
 have hio:0<l.length/\l.length%4=0/\l.length<=1024:=by simpa [oki] using hi'
 co_applyP oy rfl (bF (i:=0) (ht:=jN) (hs:=iC) (hm:=hA.self) (hi:=by show 0+4<=4;decide));co_applyP oy rfl ag;rw[show Value.agg ((cfgv c bo).cells.extract 0 (0+4))=cfgv c bo from rfl];co_applyP oy rfl (bi (Bp c bo l));co_applyP b5 rfl (b8 (hN _ _));intro R L2 hA2;co_applyP oan rfl;co_applyP aa;replace hA2:Add L1 R (.cells (rkc RB.none (St.void c bo l) (RX.new l)) 150) L2:=hA2;have hR2:=xf hA2.fn hA2.self hio.2.1 hB;co_applyP oy rfl (bi zc);co_applyP b5 rfl (b8 (hN _ _));intro nb L3 hA3;replace hA3:Add L2 nb (.cells (rpc PS.zero (RB.none.e 0)) 154) L3:=hA3;have hno: ¬OwnR R RB.none (St.void c bo l) nb:=hR2.nown hA3.new;have hD: ∀d,d=nb-> ¬OwnR R RB.none (St.void c bo l) d/\ ∀t∈L2,t.1≠d:=fun d hd=>hd▸⟨hno,hA3.new⟩;have hT3:=hR2.to.ext (L2:=L3) ⟨hA3.fn,hA3.sub⟩;co_applyP oan rfl;co_applyP aa;co_applyP om rfl rfl rfl av;co_applyP oy rfl (ak (hf:=aG));co_applyP oy rfl (ak (hf:=bH));co_applyP osm rfl (hs:=bS) (hm:=hA3.self) (hi:=by rw[bC];decide);intro L4 hU4;have hT4:=hT3.fresh hR2 hU4.ch hD;co_applyP ai;co_applyP aa;co_applyP om rfl rfl rfl av;co_applyP oy rfl (ak (hf:=aG));co_applyP oy rfl (ak (hf:=bM));co_applyP osm rfl (hs:=bS) (hm:=hU4.self) (hi:=by rw[Array.size_setIfInBounds,bC];decide);intro L5 hU5;have hT5:=hT4.fresh hR2 hU5.ch hD;have hp5:(nb,true,Obj.cells (rpc PS.one (RB.none.e 0)) 154)∈L5:=hU5.self;have hR5:=hT5.r;have h55:At L5 R 5 (rowv RB.none.ap 1 0):=hR5.kat rfl;co_applyP ai;co_applyP aa;co_applyP om rfl rfl rfl ag;co_applyP oy rfl av;co_applyP oy rfl (ak (hf:=bu));co_applyP oy rfl (aA (ht:=ci));co_applyP oy rfl ag;co_applyP b5 rfl (fY (v:=ptr nb) (sz:=1) (hN:=hN _ _) (hv:=rfl) (hu:=cY) (hs:=cq) (hz:=gd) (h0:=by decide) (h24:=by decide));intro nl L6 hA6;have hR6:=hR5.ext (L':=L6) ⟨hA6.fn,hA6.sub⟩;co_applyP oeN rfl (fun hnd=>gR (e:=155) (n:=0) (xs:=[]) (v:=ptr nb) (hnd:=hnd) (hu:=cY) (hs:=cq) (hb:=i0) (hz:=gd) (hzs:=rfl) (hN:=fun cs=>hN _ _) (ha:=hR6.pl) (hn:=rfl) (hm:=hA6.self) (hpl:=rfl) (h8:=by omega));rintro _ L7 ⟨a7,rfl,hp7⟩;have hk7:=hp7.ch.keep (NoT.sl hR6.fn hR6.pl (by decide)) hR6.k;co_applyP oy rfl av;co_applyP oy rfl (ak (hf:=bu));co_applyP osm rfl (hs:=qS) (hm:=hk7) (hi:=by show 5<16;decide) (hp:=bW _ _ _);intro L8 hU8;have one: ∀{P:Nat×PS->Prop},P (1,PS.one)-> ∀q∈[(1,PS.one)],P q:=fun h q hq=>by simp at hq;rw[hq];exact h
 have hT8a:=hR6.setL (p':=fun _=>nb) (e':=fun _=>RB.none.e 0) (T':={(St.void c bo l).setPs [(1,PS.one)] with last:=1}) hp7 hU8 rfl
  (hb:=one (hA6.sub _ hp5)) (hid:=one rfl) (hle:=one (Nat.le_refl _)) (hpn:=by show [1].Nodup;simp) (hpi:=one fun _ _=>rfl) (hun:=one fun h=>nomatch h) (hdu:=one rfl) (hsz:=one fun _=>rfl) (hab:=one (by decide)) (hnf:=one fun _ _=>rfl)
  (L0:=L5.filter fun t=> !decide (t.1=nb)) (he:=fun t ht=>hA6.sub _ (List.mem_filter.1 ht).1) (hnew:=one (.inr fun t ht e=>by
   have:=(List.mem_filter.1 ht).2;simp[e] at this))
 have hF8:Foot (OwnR R RB.none (St.void c bo l)) (OwnR R RB.none (St.void c bo l)) L2 (L5.filter fun t=> !decide (t.1=nb)):=⟨fun t ht hn=>List.mem_filter.2 ⟨hT5.f.s t ht hn,by simp[hA3.new t ht]⟩,hT5.f.n⟩;have hF9:=hF8.trans hT8a.2;have hR8:=hT8a.1;have h78:At L8 R 7 (rowv RB.none.ap 1 0):=hR8.kat rfl;co_applyP ai;co_applyP au;co_applyP br [] 7 (nf:=0) a5;co_applyP tr 0 rfl ag pN;co_applyP tr 1 rfl ag pN;co_applyP tr 2 rfl av pN;co_applyP tr 3 rfl (ak (hf:=cB)) pN;co_applyP tr 4 rfl (aX jq dx) pN;co_applyP t0 5 rfl (aA (ht:=kS)) pN;co_applyP tr 8 rfl av pN;co_applyP tr 9 rfl (ak (hf:=cB)) pN;co_applyP te (i:=6) rfl (sw (hN _ _));rintro _ _ ⟨nb2,hnb,rfl,rfl⟩;refine⟨cJ (by simp) (fun t ht=>List.mem_cons_of_mem _ ht), ?_⟩;co_applyP bd;intro hnd;have hA9:=cQ (o:= .cells #[.int .i64 1] 3) hR8.fn hnb;have hE9:Ext L8 _:=⟨hA9.fn,hA9.sub⟩;have hR9:=hR8.ext hE9;co_applyP te (i:=7) rfl (gR (e:=3) (n:=0) (a:=⟨.none,[]⟩) (xs:=[]) (hnd:=hnd) (hu:=U54) (hs:=bS) (hb:=pF) (hz:=tL) (hzs:=rfl) (hN:=fun cs=>hN _ _) (ha:=⟨rfl,rfl⟩) (hn:=rfl) (v:= .int .i64 1) (hm:=hA9.self) (hpl:=rfl) (h8:=by omega));rintro _ _ ⟨a',rfl,hp⟩;refine⟨aD (by simp), ?_⟩;co_applyP to 10 rfl ((aX jq dx)) (aD (by simp));co_applyP bd;intro hnd';have hk:=hp.sub _ hR9.k (by simp);co_applyP te (i:=11) rfl (dv (hnd:=hnd') (hm:=hk) (hi:=by show 7<16;decide) (hp:=bW _ _ _) (hs:=dx));rintro _ _ ⟨rfl,hU10⟩;refine⟨aD (by simp), ?_⟩;co_applyP td (by kernel_rfl);co_applyP aa;co_applyP om rfl rfl rfl bR;co_applyP oan rfl;co_applyP aK;change∃v,resE .. =some v/\_;have hT10:=hR9.setR (n:=0) (by decide) (zs:=[1]) hp hU10 (jH _ _ _ (l:=0) (by decide) a' [1]);have hF10:=(hF9.trans (Foot.ext hE9)).trans hT10.2;refine⟨_,rfl,rfl,⟨hT10.1.fn,fun t ht=>hF10.s t (hA2.sub _ (hA.sub t ht)) ?_⟩, ?_⟩
 ·rintro(e|⟨q,hq,_⟩|e|⟨_,_,e⟩|e)
  ·exact hA2.new t (hA.sub t ht) e
  ·cases hq
  ·cases e
  ·cases e
  ·cases e
 ·rw[if_pos ⟨hkc,hi'⟩];have hfr:St.fresh c bo l 1=({(St.void c bo l).setPs [(1,PS.one)] with last:=1}:St).setRow 0 [1]:=by rw[fZ];rfl
  rw[hfr];refine⟨R,_,rfl,hT10.1,fun d hd t ht e=> ?_⟩;rcases hF10.n d hd with (e2|⟨q,hq,_⟩|e2|⟨_,_,e2⟩|e2)|h
  ·exact hA2.new t (hA.sub t ht) (e.trans e2)
  ·cases hq
  ·cases e2
  ·cases e2
  ·cases e2
  ·exact h t (hA2.sub _ (hA.sub t ht)) e
def sgn (m i:Nat):Int:=((m+i*(1+m/256):Nat):Int)%256
theorem qq (x:Int):(IntKind.i64.wrap x)%256=x%256:=by simp[IntKind.wrap_i64];omega
theorem rI: ∃n,∀{σ}{F:Fam σ}{Δ:DM F}{main s}(L:Frag)(m i:Nat),m<4611686018427387904->
 CallsL Δ Tryz.prog main 74 [.int .i64 (m:Nat), .int .i64 (i:Nat)].toArray n s L (fun s' v L'=>s=s'/\L=L'/\v= .int .u8 (sgn m i)):=by
 apply Exists.intro;intro σ F Δ main s L m i hm;have e1:(m:Int).tdiv 256=((m/256:Nat):Int):=rfl;have w1:IntKind.i64.wrap ((m/256:Nat):Int)=((m/256:Nat):Int):=by simp[IntKind.wrap_i64];omega
 have w2:IntKind.i64.wrap (1+((m/256:Nat):Int))=((1+m/256:Nat):Int):=by simp[IntKind.wrap_i64];omega
 co_applyP aF 13 Tryz.func74 Tryz.ntmps74;co_applyP aa;co_applyP oan rfl;co_applyP aa;co_applyP om rfl rfl rfl ag;co_applyP om rfl rfl rfl Cg;co_applyP oy rfl aS;co_applyP oy rfl jL;co_applyP oy rfl aS;co_applyP oy rfl (cF (hs:=U3) (ht:=U5));co_applyP oan rfl;co_applyP aK;change∃v,resE .. =some v/\_;refine⟨_,rfl,rfl,rfl, ?_⟩;rw[e1,w1,w2,kq,qq,<-Int.natCast_mul];unfold sgn;generalize i*(1+m/256)=z;have:=qq ((z:Nat):Int);congr 1;omega
theorem Br: ∃n,∀{σ}{F:Fam σ}{Δ:DM F}{main s}(L:Frag)(c:Int)(k:Nat),I64 c->0<k->
 CallsL Δ Tryz.prog main 40 [.int .i64 c, .int .i64 (k:Nat)].toArray n s L (fun s' v L'=>s=s'/\v= .int .i64 (pickN c k:Nat)/\L=L'):=by
 apply Exists.intro;intro σ F Δ main s L c k hc hk;obtain⟨hc1,hc2⟩:=hc;co_applyP aF 13 Tryz.func40 Tryz.ntmps40;co_applyP aa;co_applyP oan rfl;co_applyP cK (fun s'' ε'' L''=>s=s''/\L=L''/\kn ε'' [(0, .int .i64 (if c<0 then-(c+1) else c)),(1, .int .i64 (k:Nat))]);co_applyP aa;co_applyP om rfl rfl rfl bj;co_applyP ai;co_applyP aT rfl;intro hn;co_applyP aq;co_applyP om rfl rfl rfl aS;co_applyP oy rfl kN;co_applyP oan rfl;change _=_/\_=_/\kn _ _
 ·have hn':c<0:=by simpa using hn
  have w1:IntKind.i64.wrap (c+1)=c+1:=by simp[IntKind.wrap_i64];omega
  have w2:IntKind.i64.wrap (0-(c+1))= -(c+1):=by simp[IntKind.wrap_i64];omega
  rw[w1,w2,if_pos hn'];exact⟨rfl,rfl,rfl⟩
 intro hn;co_applyP aB;change _=_/\_=_/\kn _ _;have hn': ¬c<0:=by simpa using hn
 rw[if_neg hn'];exact⟨rfl,rfl,rfl⟩;rintro s'' ε'' L'' ⟨rfl,rfl,he⟩;co_applyP aN he;co_applyP aa;co_applyP om rfl rfl rfl ag;co_applyP oy rfl eP;co_applyP oan rfl;co_applyP aK;change∃v,resE .. =some v/\_;refine⟨_,rfl,rfl, ?_,rfl⟩;unfold pickN;rw[wG (by split<;>omega)]
structure HS where
 b:Option Nat
 n:Nat
 cap:Nat
def HS.v (h:HS):Value:=match h.b with
 |none=> .slice none 0 0
 |some b=> .slice (some ⟨b,0,none⟩) h.n h.cap
def HS.ok (h:HS)(e:TypeId)(sz:Nat)(p:Nat->Nat->Value)(L:Frag):Prop:=match h.b with
 |none=>h.n=0
 |some b=> ∃cs,(b,true,Obj.cells cs e)∈L/\cs.size/sz=h.cap/\h.n<=h.cap/\ ∀i,i<h.n-> ∀j,j<sz->cs[i*sz+j]? =some (p i j)
def HS.any (h:HS)(e:TypeId)(sz:Nat)(L:Frag):Prop:=match h.b with
 |none=>h.n=0
 |some b=> ∃cs,(b,true,Obj.cells cs e)∈L/\cs.size/sz=h.cap/\h.n<=h.cap
def patB (m i _:Nat):Value:= .int .u8 (sgn m i)
def patE (m _ j:Nat):Value:=if j=0 then .int .i64 (-(m:Int)) else .int .i64 0
def patP (m _ j:Nat):Value:=if j=0 then .int .i64 (-(m:Int)) else if j<7 then .int .i64 0 else .int .u16 0
structure Hd where
 bs:HS
 es:HS
 ps:HS
 m:Nat
def hcs (h:Hd):Array Value:= #[h.bs.v,h.es.v,h.ps.v, .int .i64 (h.m:Nat)]
theorem HS.fit {cs:Array Value}{sz cap i:Nat}(h:cs.size/sz=cap)(hi:i<cap):i*sz+sz<=cs.size:=by
 have h1:=Nat.div_mul_le_self cs.size sz;rw[h] at h1;have h2:(i+1)*sz<=cap*sz:=Nat.mul_le_mul_right _ hi;rw[Nat.succ_mul] at h2;omega
section
variable {h:HS}{e:TypeId}{sz:Nat}{p:Nat->Nat->Value}{L L':Frag}{D:Nat->Prop}
theorem HS.ok.any (hh:h.ok e sz p L):h.any e sz L:=by
 unfold HS.ok at hh;unfold HS.any
 split
 ·rename_i hb;rw[hb] at hh;exact hh
 ·rename_i b hb;rw[hb] at hh;obtain⟨cs,h1,h2,h3,_⟩:=hh;exact⟨cs,h1,h2,h3⟩
theorem HS.view (hh:h.any e sz L): ∃base cap,h.v= .slice base h.n cap/\(0<h.n-> ∃b,h.b=some b/\base=some ⟨b,0,none⟩):=by
 unfold HS.any at hh;unfold HS.v;cases hb:h.b with
 |none=>rw[hb] at hh;simp only at hh;rw[hh];exact⟨none,0,rfl,fun h=>absurd h (by decide)⟩
 |some b=>exact⟨_,_,rfl,fun _=>⟨b,rfl,rfl⟩⟩
theorem HS.ok.ch (hh:h.ok e sz p L)(c:Ch D L L')(hD: ∀b,h.b=some b-> ¬D b):h.ok e sz p L':=by
 unfold HS.ok at*
 split
 ·rename_i hb;rw[hb] at hh;exact hh
 ·rename_i b hb;rw[hb] at hh;obtain⟨cs,h1,h2⟩:=hh;exact⟨cs,c.s _ h1 (hD b hb),h2⟩
theorem HS.any.no (hF:Fun L)(hh:h.any e sz L){e':TypeId}(he:e≠e'):NoT L (fun c=>h.b=some c) e':=fun c cs hm hd=>by
 unfold HS.any at hh;rw[hd] at hh;obtain⟨ds,h1,_⟩:=hh;exact he (dk hF h1 hm)
end
end Go.Proofs.YtejkelcaljmnoaaGreatDoor
