/-
  Part 6 of the proof.
  No condition but those that each statement names.
-/
import Derived.Test.YtejkelcaljmnoaaGreatDoorHy05
import Derived.Test.YtejkelcaljmnoaaGreatDoorHy02
import Derived.Conc.FxGenDone
import Derived.Conc.FxGenLone
import Derived.Conc.SmallLaws
set_option maxRecDepth 100000
set_option maxHeartbeats 4000000
set_option linter.unusedVariables false
set_option linter.unusedSimpArgs false
set_option linter.unusedSectionVars false
namespace Go.Proofs.YtejkelcaljmnoaaGreatDoor
open Go.Conc Go.Hx Go.Lo
def St.grantE (S:St)(b:Nat)(x:PS)(n:Int):List Value:=
 if n=0 then [evt S.now 4 x.id (x.r 0)]
 else if n=3 then(match S.find (x.r 0) with
  |some q=>if q.2.st=6 then [] else [evt S.now 4 q.2.id 65280]
  |none=>[])
 else if n=11 then [evt S.now 3 x.id (x.r 0%256)] else []
def St.grantV (S:St)(b:Nat)(x:PS)(n:Int):Option Nat:=
 if n=0 then none else if n=1 then(if 8<=S.ps.length then some 4 else none)
 else if n=2 then(S.waitR b x).1
 else if n=3 then(match S.find (x.r 0) with
  |some q=>if q.2.st=6 then some 6 else none
  |none=>some 6)
 else if n=4 then none else if n=5 then none else if n=6 then none
 else if n=7 then(S.pipeR b x).1 else if n=8 then(S.closeR b x).1
 else if n=9 then(S.askR b x 4 64).1 else if n=10 then(S.askR b x 5 8).1
 else if n=11 then none else some 9
def St.grantS (S:St)(b:Nat)(x:PS)(n:Int)(c:Nat):St:=
 if n=0 then S.fin b x (x.r 0) else if n=1 then(if 8<=S.ps.length then S else S.forkS b x c)
 else if n=2 then(S.waitR b x).2
 else if n=3 then(match S.find (x.r 0) with
  |some q=>if q.2.st=6 then S else(S.fin q.1 q.2 65280).r0 b 0
  |none=>S)
 else if n=4 then S.sleep1 b x else if n=5 then S.yield1 b x else if n=6 then S.setP b (x.r0 ((x.id:Int)%65536))
 else if n=7 then(S.pipeR b x).2 else if n=8 then(S.closeR b x).2
 else if n=9 then(S.askR b x 4 64).2 else if n=10 then(S.askR b x 5 8).2
 else if n=11 then S.setP b (x.r0 0) else S
structure Running (S:St)(b:Nat)(x:PS):Prop where
 i:Inv S
 m:(b,x)∈S.ps
 s:x.st=1
 o:S.out b
 n:S.now<4611686018427387904
 l:S.last<4611686018427387904
theorem vQ: ∃n,∀{p:Par}{Sh:Loc->Prop}{E Dn:Nat}{PostB:World->Prop}{Aft:Goroutine->World->Prop}{W:World}{O:Nat}{G0:List (Nat×Obj)}{vs:List Value}(K:Nat)(A:Lay)(S:St)(Fr L:Frag)(eb:Nat->Nat×Nat)(b:Nat)(x:PS),(∀s,NewT (domT Tryz.prog p Sh E Dn PostB Aft W O G0 s))->Rep K A S Fr L->Ers eb Fr->Running S b x->8<=S.ps.length->
 CallsL (domT Tryz.prog p Sh E Dn PostB Aft W O G0) Tryz.prog false 112 [ptr K,ptr b, .int .u8 1, .chan (some E)].toArray n (vs) L (fun s' v L'=>vs=s'/\v=erv eb 4/\Rep K A S Fr L'):=by
 obtain⟨n0,g0⟩:=AL;apply Exists.intro;intro p Sh E Dn PostB Aft W O G0 vs K A S Fr L eb b x hN hR hE hu h8;have hI:=hu.i;have hb:=hu.m;have wx0:0<=x.r 0/\x.r 0<65536:=(hI.wf _ hb).r 0 (by omega);have w0:IntKind.i64.wrap (x.r 0)=x.r 0:=by simp[IntKind.wrap_i64];omega
 have hx0:At L b 7 (.int .u16 (x.r 0)):=hR.pat hb (cC x (i:=0) (by omega));have hid:At L b 0 (.int .i64 (x.id:Nat)):=hR.pat hb (i:=0) rfl;co_applyP aF 106 Tryz.func112 Tryz.ntmps112;co_applyP aa;co_applyP oan rfl;co_applyP au (n₂:=0);co_applyP aa;co_applyP oy rfl ag;co_applyP ai;co_applyP aC;co_applyP aa;co_applyP oy rfl aI;co_applyP oan rfl;co_applyP aE rfl;co_applyP aa;co_applyP oy rfl aI;co_applyP oan rfl;co_applyP bv rfl;co_applyP aa;co_applyP om rfl rfl rfl ag;co_applyP oc rfl rfl rfl (g0 K A S Fr L eb b hR hE h8);rintro _ _ _ ⟨rfl,rfl,rfl⟩;co_applyP oan rfl;co_applyP aK;change∃v,resE .. =some v/\_;exact⟨_,rfl,rfl,rfl,hR⟩
theorem vR: ∃n,∀{p:Par}{Sh:Loc->Prop}{E Dn:Nat}{PostB:World->Prop}{Aft:Goroutine->World->Prop}{W:World}{O:Nat}{G0:List (Nat×Obj)}{vs:List Value}(K:Nat)(A:Lay)(S:St)(Fr L:Frag)(eb:Nat->Nat×Nat)(b:Nat)(x:PS),(∀s,NewT (domT Tryz.prog p Sh E Dn PostB Aft W O G0 s))->Rep K A S Fr L->Ers eb Fr->Running S b x->S.ps.length<8->
 CallsL (domT Tryz.prog p Sh E Dn PostB Aft W O G0) Tryz.prog false 112 [ptr K,ptr b, .int .u8 1, .chan (some E)].toArray n (vs) L (fun s' v L'=>vs=s'/\v= .nilIface/\ ∃A' c,(∀q∈S.ps,c≠q.1)/\Rep K A' (S.forkS b x c) Fr L'):=by
 obtain⟨n0,g0⟩:=AM;apply Exists.intro;intro p Sh E Dn PostB Aft W O G0 vs K A S Fr L eb b x hN hR hE hu h8;have hI:=hu.i;have hb:=hu.m;have wx0:0<=x.r 0/\x.r 0<65536:=(hI.wf _ hb).r 0 (by omega);have w0:IntKind.i64.wrap (x.r 0)=x.r 0:=by simp[IntKind.wrap_i64];omega
 have hx0:At L b 7 (.int .u16 (x.r 0)):=hR.pat hb (cC x (i:=0) (by omega));have hid:At L b 0 (.int .i64 (x.id:Nat)):=hR.pat hb (i:=0) rfl;co_applyP aF 106 Tryz.func112 Tryz.ntmps112;co_applyP aa;co_applyP oan rfl;co_applyP au (n₂:=0);co_applyP aa;co_applyP oy rfl ag;co_applyP ai;co_applyP aC;co_applyP aa;co_applyP oy rfl aI;co_applyP oan rfl;co_applyP aE rfl;co_applyP aa;co_applyP oy rfl aI;co_applyP oan rfl;co_applyP bv rfl;co_applyP aa;co_applyP om rfl rfl rfl ag;co_applyP oc rfl rfl rfl (g0 K A S Fr L b x (hN _).r (hN _).p hR hI hb h8 hu.l);rintro _ _ _ ⟨rfl,rfl,A2,c,hc,hR2⟩;co_applyP oan rfl;co_applyP aK;change∃v,resE .. =some v/\_;exact⟨_,rfl,rfl,rfl,A2,c,hc,hR2⟩
theorem yC: ∃n,∀{p:Par}{Sh:Loc->Prop}{E Dn:Nat}{PostB:World->Prop}{Aft:Goroutine->World->Prop}{W:World}{O:Nat}{G0:List (Nat×Obj)}{vs:List Value}(K:Nat)(A:Lay)(S:St)(Fr L:Frag)(eb:Nat->Nat×Nat)(b:Nat)(x:PS),(∀s,NewT (domT Tryz.prog p Sh E Dn PostB Aft W O G0 s))->Rep K A S Fr L->Ers eb Fr->Running S b x->
 CallsL (domT Tryz.prog p Sh E Dn PostB Aft W O G0) Tryz.prog false 112 [ptr K,ptr b, .int .u8 2, .chan (some E)].toArray n (vs) L (fun s' v L'=>vs=s'/\v=erV eb (S.waitR b x).1/\ ∃A',Rep K A' (S.waitR b x).2 Fr L'):=by
 obtain⟨n0,g0⟩:=AI;apply Exists.intro;intro p Sh E Dn PostB Aft W O G0 vs K A S Fr L eb b x hN hR hE hu;have hI:=hu.i;have hb:=hu.m;have wx0:0<=x.r 0/\x.r 0<65536:=(hI.wf _ hb).r 0 (by omega);have w0:IntKind.i64.wrap (x.r 0)=x.r 0:=by simp[IntKind.wrap_i64];omega
 have hx0:At L b 7 (.int .u16 (x.r 0)):=hR.pat hb (cC x (i:=0) (by omega));have hid:At L b 0 (.int .i64 (x.id:Nat)):=hR.pat hb (i:=0) rfl;co_applyP aF 106 Tryz.func112 Tryz.ntmps112;co_applyP aa;co_applyP oan rfl;co_applyP au (n₂:=0);co_applyP aa;co_applyP oy rfl ag;co_applyP ai;co_applyP aC;co_applyP aa;co_applyP oy rfl aI;co_applyP oan rfl;co_applyP aE rfl;co_applyP aa;co_applyP oy rfl aI;co_applyP oan rfl;co_applyP aE rfl;co_applyP aa;co_applyP oy rfl aI;co_applyP oan rfl;co_applyP bv rfl;co_applyP aa;co_applyP om rfl rfl rfl ag;co_applyP oc rfl rfl rfl (g0 K A S Fr L eb b x (hN _).r hR hE hI hb (by have:=hu.s;omega));rintro _ _ _ ⟨rfl,rfl,A2,hR2⟩;co_applyP oan rfl;co_applyP aK;change∃v,resE .. =some v/\_;exact⟨_,rfl,rfl,rfl,A2,hR2⟩
theorem vS: ∃n,∀{p:Par}{Sh:Loc->Prop}{E Dn:Nat}{PostB:World->Prop}{Aft:Goroutine->World->Prop}{W:World}{O:Nat}{G0:List (Nat×Obj)}{vs:List Value}(K:Nat)(A:Lay)(S:St)(Fr L:Frag)(eb:Nat->Nat×Nat)(b:Nat)(x:PS),(∀s,NewT (domT Tryz.prog p Sh E Dn PostB Aft W O G0 s))->Rep K A S Fr L->Ers eb Fr->Running S b x->S.find (x.r 0)=none->
 CallsL (domT Tryz.prog p Sh E Dn PostB Aft W O G0) Tryz.prog false 112 [ptr K,ptr b, .int .u8 3, .chan (some E)].toArray n (vs) L (fun s' v L'=>vs=s'/\v=erv eb 6/\Rep K A S Fr L'):=by
 obtain⟨n0,g0⟩:=AJ;apply Exists.intro;intro p Sh E Dn PostB Aft W O G0 vs K A S Fr L eb b x hN hR hE hu hf;have hI:=hu.i;have hb:=hu.m;have wx0:0<=x.r 0/\x.r 0<65536:=(hI.wf _ hb).r 0 (by omega);have w0:IntKind.i64.wrap (x.r 0)=x.r 0:=by simp[IntKind.wrap_i64];omega
 have hx0:At L b 7 (.int .u16 (x.r 0)):=hR.pat hb (cC x (i:=0) (by omega));have hid:At L b 0 (.int .i64 (x.id:Nat)):=hR.pat hb (i:=0) rfl;co_applyP aF 106 Tryz.func112 Tryz.ntmps112;co_applyP aa;co_applyP oan rfl;co_applyP au (n₂:=0);co_applyP aa;co_applyP oy rfl ag;co_applyP ai;co_applyP aC;co_applyP aa;co_applyP oy rfl aI;co_applyP oan rfl;co_applyP aE rfl;co_applyP aa;co_applyP oy rfl aI;co_applyP oan rfl;co_applyP aE rfl;co_applyP aa;co_applyP oy rfl aI;co_applyP oan rfl;co_applyP aE rfl;co_applyP aa;co_applyP oy rfl aI;co_applyP oan rfl;co_applyP bv rfl;co_applyP aa;co_applyP om rfl rfl rfl ag;co_applyP oy rfl ag;co_applyP oc rfl rfl rfl (g0 K A S Fr L eb b x _ hR hE hI hb hf);rintro _ _ _ ⟨rfl,rfl,rfl⟩;co_applyP oan rfl;co_applyP aK;change∃v,resE .. =some v/\_;exact⟨_,rfl,rfl,rfl,hR⟩
theorem vT: ∃n,∀{p:Par}{Sh:Loc->Prop}{E Dn:Nat}{PostB:World->Prop}{Aft:Goroutine->World->Prop}{W:World}{O:Nat}{G0:List (Nat×Obj)}{vs:List Value}(K:Nat)(A:Lay)(S:St)(Fr L:Frag)(eb:Nat->Nat×Nat)(b:Nat)(x:PS)(c:Nat)(y:PS),(∀s,NewT (domT Tryz.prog p Sh E Dn PostB Aft W O G0 s))->Rep K A S Fr L->Ers eb Fr->Running S b x->S.find (x.r 0)=some (c,y)->y.st=6->
 CallsL (domT Tryz.prog p Sh E Dn PostB Aft W O G0) Tryz.prog false 112 [ptr K,ptr b, .int .u8 3, .chan (some E)].toArray n (vs) L (fun s' v L'=>vs=s'/\v=erv eb 6/\Rep K A S Fr L'):=by
 obtain⟨n0,g0⟩:=AK;apply Exists.intro;intro p Sh E Dn PostB Aft W O G0 vs K A S Fr L eb b x c y hN hR hE hu hf h6;have hI:=hu.i;have hb:=hu.m;have wx0:0<=x.r 0/\x.r 0<65536:=(hI.wf _ hb).r 0 (by omega);have w0:IntKind.i64.wrap (x.r 0)=x.r 0:=by simp[IntKind.wrap_i64];omega
 have hx0:At L b 7 (.int .u16 (x.r 0)):=hR.pat hb (cC x (i:=0) (by omega));have hid:At L b 0 (.int .i64 (x.id:Nat)):=hR.pat hb (i:=0) rfl;co_applyP aF 106 Tryz.func112 Tryz.ntmps112;co_applyP aa;co_applyP oan rfl;co_applyP au (n₂:=0);co_applyP aa;co_applyP oy rfl ag;co_applyP ai;co_applyP aC;co_applyP aa;co_applyP oy rfl aI;co_applyP oan rfl;co_applyP aE rfl;co_applyP aa;co_applyP oy rfl aI;co_applyP oan rfl;co_applyP aE rfl;co_applyP aa;co_applyP oy rfl aI;co_applyP oan rfl;co_applyP aE rfl;co_applyP aa;co_applyP oy rfl aI;co_applyP oan rfl;co_applyP bv rfl;co_applyP aa;co_applyP om rfl rfl rfl ag;co_applyP oy rfl ag;co_applyP oc rfl rfl rfl (g0 K A S Fr L eb b x _ c y hR hE hI hb hf h6);rintro _ _ _ ⟨rfl,rfl,rfl⟩;co_applyP oan rfl;co_applyP aK;change∃v,resE .. =some v/\_;exact⟨_,rfl,rfl,rfl,hR⟩
theorem yD: ∃n,∀{p:Par}{Sh:Loc->Prop}{E Dn:Nat}{PostB:World->Prop}{Aft:Goroutine->World->Prop}{W:World}{O:Nat}{G0:List (Nat×Obj)}{vs:List Value}(K:Nat)(A:Lay)(S:St)(Fr L:Frag)(eb:Nat->Nat×Nat)(b:Nat)(x:PS),(∀s,NewT (domT Tryz.prog p Sh E Dn PostB Aft W O G0 s))->Rep K A S Fr L->Ers eb Fr->Running S b x->
 CallsL (domT Tryz.prog p Sh E Dn PostB Aft W O G0) Tryz.prog false 112 [ptr K,ptr b, .int .u8 4, .chan (some E)].toArray n (vs) L (fun s' v L'=>vs=s'/\v= .nilIface/\ ∃A',Rep K A' (S.sleep1 b x) Fr L'):=by
 obtain⟨n0,g0⟩:=yA;apply Exists.intro;intro p Sh E Dn PostB Aft W O G0 vs K A S Fr L eb b x hN hR hE hu;have hI:=hu.i;have hb:=hu.m;have wx0:0<=x.r 0/\x.r 0<65536:=(hI.wf _ hb).r 0 (by omega);have w0:IntKind.i64.wrap (x.r 0)=x.r 0:=by simp[IntKind.wrap_i64];omega
 have hx0:At L b 7 (.int .u16 (x.r 0)):=hR.pat hb (cC x (i:=0) (by omega));have hid:At L b 0 (.int .i64 (x.id:Nat)):=hR.pat hb (i:=0) rfl;co_applyP aF 106 Tryz.func112 Tryz.ntmps112;co_applyP aa;co_applyP oan rfl;co_applyP au;co_applyP aa;co_applyP oy rfl ag;co_applyP ai;co_applyP aC;co_applyP aa;co_applyP oy rfl aI;co_applyP oan rfl;co_applyP aE rfl;co_applyP aa;co_applyP oy rfl aI;co_applyP oan rfl;co_applyP aE rfl;co_applyP aa;co_applyP oy rfl aI;co_applyP oan rfl;co_applyP aE rfl;co_applyP aa;co_applyP oy rfl aI;co_applyP oan rfl;co_applyP aE rfl;co_applyP aa;co_applyP oy rfl aI;co_applyP oan rfl;co_applyP bv rfl;co_applyP aq;co_applyP om rfl rfl rfl ag;co_applyP oc rfl rfl rfl (g0 K A S Fr L b x hR hI hb hu.n);rintro _ _ _ ⟨rfl,rfl,A2,hR2⟩;co_applyP ai;co_applyP aa;co_applyP oan rfl;co_applyP aK;change∃v,resE .. =some v/\_;exact⟨_,rfl,rfl,rfl,A2,hR2⟩
theorem yE: ∃n,∀{p:Par}{Sh:Loc->Prop}{E Dn:Nat}{PostB:World->Prop}{Aft:Goroutine->World->Prop}{W:World}{O:Nat}{G0:List (Nat×Obj)}{vs:List Value}(K:Nat)(A:Lay)(S:St)(Fr L:Frag)(eb:Nat->Nat×Nat)(b:Nat)(x:PS),(∀s,NewT (domT Tryz.prog p Sh E Dn PostB Aft W O G0 s))->Rep K A S Fr L->Ers eb Fr->Running S b x->
 CallsL (domT Tryz.prog p Sh E Dn PostB Aft W O G0) Tryz.prog false 112 [ptr K,ptr b, .int .u8 5, .chan (some E)].toArray n (vs) L (fun s' v L'=>vs=s'/\v= .nilIface/\ ∃A',Rep K A' (S.yield1 b x) Fr L'):=by
 obtain⟨n0,g0⟩:=yB;apply Exists.intro;intro p Sh E Dn PostB Aft W O G0 vs K A S Fr L eb b x hN hR hE hu;have hI:=hu.i;have hb:=hu.m;have wx0:0<=x.r 0/\x.r 0<65536:=(hI.wf _ hb).r 0 (by omega);have w0:IntKind.i64.wrap (x.r 0)=x.r 0:=by simp[IntKind.wrap_i64];omega
 have hx0:At L b 7 (.int .u16 (x.r 0)):=hR.pat hb (cC x (i:=0) (by omega));have hid:At L b 0 (.int .i64 (x.id:Nat)):=hR.pat hb (i:=0) rfl;co_applyP aF 106 Tryz.func112 Tryz.ntmps112;co_applyP aa;co_applyP oan rfl;co_applyP au;co_applyP aa;co_applyP oy rfl ag;co_applyP ai;co_applyP aC;co_applyP aa;co_applyP oy rfl aI;co_applyP oan rfl;co_applyP aE rfl;co_applyP aa;co_applyP oy rfl aI;co_applyP oan rfl;co_applyP aE rfl;co_applyP aa;co_applyP oy rfl aI;co_applyP oan rfl;co_applyP aE rfl;co_applyP aa;co_applyP oy rfl aI;co_applyP oan rfl;co_applyP aE rfl;co_applyP aa;co_applyP oy rfl aI;co_applyP oan rfl;co_applyP aE rfl;co_applyP aa;co_applyP oy rfl aI;co_applyP oan rfl;co_applyP bv rfl;co_applyP aq;co_applyP om rfl rfl rfl ag;co_applyP oc rfl rfl rfl (g0 K A S Fr L b x (hN _).r hR hI hb);rintro _ _ _ ⟨rfl,rfl,A2,hR2⟩;co_applyP ai;co_applyP aa;co_applyP oan rfl;co_applyP aK;change∃v,resE .. =some v/\_;exact⟨_,rfl,rfl,rfl,A2,hR2⟩
theorem yF: ∃n,∀{p:Par}{Sh:Loc->Prop}{E Dn:Nat}{PostB:World->Prop}{Aft:Goroutine->World->Prop}{W:World}{O:Nat}{G0:List (Nat×Obj)}{vs:List Value}(K:Nat)(A:Lay)(S:St)(Fr L:Frag)(eb:Nat->Nat×Nat)(b:Nat)(x:PS),(∀s,NewT (domT Tryz.prog p Sh E Dn PostB Aft W O G0 s))->Rep K A S Fr L->Ers eb Fr->Running S b x->
 CallsL (domT Tryz.prog p Sh E Dn PostB Aft W O G0) Tryz.prog false 112 [ptr K,ptr b, .int .u8 6, .chan (some E)].toArray n (vs) L (fun s' v L'=>vs=s'/\v= .nilIface/\Rep K A (S.setP b (x.r0 ((x.id:Int)%65536))) Fr L'):=by
 apply Exists.intro;intro p Sh E Dn PostB Aft W O G0 vs K A S Fr L eb b x hN hR hE hu;have hI:=hu.i;have hb:=hu.m;have wx0:0<=x.r 0/\x.r 0<65536:=(hI.wf _ hb).r 0 (by omega);have w0:IntKind.i64.wrap (x.r 0)=x.r 0:=by simp[IntKind.wrap_i64];omega
 have hx0:At L b 7 (.int .u16 (x.r 0)):=hR.pat hb (cC x (i:=0) (by omega));have hid:At L b 0 (.int .i64 (x.id:Nat)):=hR.pat hb (i:=0) rfl;co_applyP aF 106 Tryz.func112 Tryz.ntmps112;co_applyP aa;co_applyP oan rfl;co_applyP au;co_applyP aa;co_applyP oy rfl ag;co_applyP ai;co_applyP aC;co_applyP aa;co_applyP oy rfl aI;co_applyP oan rfl;co_applyP aE rfl;co_applyP aa;co_applyP oy rfl aI;co_applyP oan rfl;co_applyP aE rfl;co_applyP aa;co_applyP oy rfl aI;co_applyP oan rfl;co_applyP aE rfl;co_applyP aa;co_applyP oy rfl aI;co_applyP oan rfl;co_applyP aE rfl;co_applyP aa;co_applyP oy rfl aI;co_applyP oan rfl;co_applyP aE rfl;co_applyP aa;co_applyP oy rfl aI;co_applyP oan rfl;co_applyP aE rfl;co_applyP aa;co_applyP oy rfl aI;co_applyP oan rfl;co_applyP bv rfl;co_applyP br [] 11 (nf:=0) a5;co_applyP tr 0 rfl ag pN;co_applyP tr 1 rfl ag pN;co_applyP tr 2 rfl av pN;co_applyP tr 3 rfl (ak (hf:=aM)) pN;co_applyP tr 4 rfl (ak (hf:=bH)) pN;co_applyP t0 5 rfl (aA (ht:=aR)) pN;co_applyP tr 6 rfl (cF (hs:=U3) (ht:=U32)) pN;co_applyP tr 7 rfl av pN;co_applyP tr 8 rfl (ak (hf:=aM)) pN;co_applyP tr 9 rfl (ak (hf:=aW)) pN;co_applyP tr 10 rfl (aX U47 aV) pN;rw[bZ];co_applyP bd;intro hnd;co_applyP te (i:=11) rfl (dv (hnd:=hnd) (hm:=hR.p _ hb) (hi:=by rw[bL];omega) (hs:=aV));rintro _ _ ⟨rfl,hU1⟩;refine⟨aD (by simp), ?_⟩;rename_i L1;have hU1':Upd L b (.cells (pcells (x.r0 ((x.id:Int)%65536))) 99) L1:=by rw[<-eU];exact hU1
 co_applyP td (by kernel_rfl);co_applyP aa;co_applyP oan rfl;co_applyP aK;change∃v,resE .. =some v/\_;exact⟨_,rfl,rfl,rfl,hR.setP hb hU1'⟩
theorem vU: ∃n,∀{p:Par}{Sh:Loc->Prop}{E Dn:Nat}{PostB:World->Prop}{Aft:Goroutine->World->Prop}{W:World}{O:Nat}{G0:List (Nat×Obj)}{vs:List Value}(K:Nat)(A:Lay)(S:St)(Fr L:Frag)(eb:Nat->Nat×Nat)(b:Nat)(x:PS),(∀s,NewT (domT Tryz.prog p Sh E Dn PostB Aft W O G0 s))->Rep K A S Fr L->Ers eb Fr->Running S b x->
 CallsL (domT Tryz.prog p Sh E Dn PostB Aft W O G0) Tryz.prog false 112 [ptr K,ptr b, .int .u8 11, .chan (some E)].toArray n (evt S.now 3 x.id (x.r 0%256)::vs) L (fun s' v L'=>vs=s'/\v= .nilIface/\Rep K A (S.setP b (x.r0 0)) Fr L'):=by
 obtain⟨n0,g0⟩:=nD;apply Exists.intro;intro p Sh E Dn PostB Aft W O G0 vs K A S Fr L eb b x hN hR hE hu;have hI:=hu.i;have hb:=hu.m;have wx0:0<=x.r 0/\x.r 0<65536:=(hI.wf _ hb).r 0 (by omega);have w0:IntKind.i64.wrap (x.r 0)=x.r 0:=by simp[IntKind.wrap_i64];omega
 have hx0:At L b 7 (.int .u16 (x.r 0)):=hR.pat hb (cC x (i:=0) (by omega));have hid:At L b 0 (.int .i64 (x.id:Nat)):=hR.pat hb (i:=0) rfl;co_applyP aF 106 Tryz.func112 Tryz.ntmps112;co_applyP aa;co_applyP oan rfl;co_applyP au;co_applyP aa;co_applyP oy rfl ag;co_applyP ai;co_applyP aC;co_applyP aa;co_applyP oy rfl aI;co_applyP oan rfl;co_applyP aE rfl;co_applyP aa;co_applyP oy rfl aI;co_applyP oan rfl;co_applyP aE rfl;co_applyP aa;co_applyP oy rfl aI;co_applyP oan rfl;co_applyP aE rfl;co_applyP aa;co_applyP oy rfl aI;co_applyP oan rfl;co_applyP aE rfl;co_applyP aa;co_applyP oy rfl aI;co_applyP oan rfl;co_applyP aE rfl;co_applyP aa;co_applyP oy rfl aI;co_applyP oan rfl;co_applyP aE rfl;co_applyP aa;co_applyP oy rfl aI;co_applyP oan rfl;co_applyP aE rfl;co_applyP aa;co_applyP oy rfl aI;co_applyP oan rfl;co_applyP aE rfl;co_applyP aa;co_applyP oy rfl aI;co_applyP oan rfl;co_applyP aE rfl;co_applyP aa;co_applyP oy rfl aI;co_applyP oan rfl;co_applyP aE rfl;co_applyP aa;co_applyP oy rfl aI;co_applyP oan rfl;co_applyP aE rfl;co_applyP aa;co_applyP oy rfl aI;co_applyP oan rfl;co_applyP bv rfl;co_applyP au;have w8:IntKind.u8.wrap (x.r 0)=x.r 0%256:=kq _;have w9:IntKind.i64.wrap (x.r 0%256)=x.r 0%256:=by simp[IntKind.wrap_i64];omega
 co_applyP rf 15 a5;co_applyP lt (i:=0) rfl ag;co_applyP lt (i:=1) rfl ag;co_applyP lt (i:=2) rfl ag;co_applyP lt (i:=3) rfl av;co_applyP lt (i:=4) rfl (ak (hf:=aM));co_applyP lt (i:=5) rfl (ak (hf:=bH));co_applyP lt (i:=6) rfl (aA (ht:=aR));co_applyP lt (i:=7) rfl ag;co_applyP lt (i:=8) rfl av;co_applyP lt (i:=9) rfl (ak (hf:=aM));co_applyP lt (i:=10) rfl (ak (hf:=aW));co_applyP lt (i:=11) rfl (aX U47 aV);co_applyP lt (i:=12) rfl (aA (ht:=dw));co_applyP lt (i:=13) rfl (cF (hs:=U32) (ht:=U5));co_applyP lt (i:=14) rfl (cF (hs:=U5) (ht:=U3));rw[w8,w9];co_applyP lc (i:=15) rfl rfl rfl (g0 K A S Fr L 3 x.id (x.r 0%256) hR);rintro _ _ _ ⟨rfl,rfl,rfl⟩;co_applyP aq;co_applyP om rfl rfl rfl av;co_applyP oy rfl (ak (hf:=aM));co_applyP oy rfl (ak (hf:=aW));co_applyP oy rfl (aX U47 aV);co_applyP osm rfl (hs:=aV) (hm:=hR.p _ hb) (hi:=by first|decide|(rw[bL];omega)|(rw[bU];omega));intro L1 hU1;rw[eU] at hU1;co_applyP ai;co_applyP aa;co_applyP oan rfl;co_applyP aK;change∃v,resE .. =some v/\_;exact⟨_,rfl,rfl,rfl,hR.setP hb hU1⟩
theorem vV: ∃n,∀{p:Par}{Sh:Loc->Prop}{E Dn:Nat}{PostB:World->Prop}{Aft:Goroutine->World->Prop}{W:World}{O:Nat}{G0:List (Nat×Obj)}{vs:List Value}(K:Nat)(A:Lay)(S:St)(Fr L:Frag)(eb:Nat->Nat×Nat)(b:Nat)(x:PS)(m:Int),(∀s,NewT (domT Tryz.prog p Sh E Dn PostB Aft W O G0 s))->Rep K A S Fr L->Ers eb Fr->Running S b x->(∀i:Int,0<=i->i<12->m≠i)->
 CallsL (domT Tryz.prog p Sh E Dn PostB Aft W O G0) Tryz.prog false 112 [ptr K,ptr b, .int .u8 m, .chan (some E)].toArray n (vs) L (fun s' v L'=>vs=s'/\v=erv eb 9/\Rep K A S Fr L'):=by
 apply Exists.intro;intro p Sh E Dn PostB Aft W O G0 vs K A S Fr L eb b x m hN hR hE hu hm;have hI:=hu.i;have hb:=hu.m;have wx0:0<=x.r 0/\x.r 0<65536:=(hI.wf _ hb).r 0 (by omega);have w0:IntKind.i64.wrap (x.r 0)=x.r 0:=by simp[IntKind.wrap_i64];omega
 have hx0:At L b 7 (.int .u16 (x.r 0)):=hR.pat hb (cC x (i:=0) (by omega));have hid:At L b 0 (.int .i64 (x.id:Nat)):=hR.pat hb (i:=0) rfl;co_applyP aF 106 Tryz.func112 Tryz.ntmps112;co_applyP aa;co_applyP oan rfl;co_applyP au (n₂:=0);co_applyP aa;co_applyP oy rfl ag;co_applyP ai;co_applyP aC;co_applyP aa;co_applyP oy rfl aI;co_applyP oan rfl;change wpE ..;have hg:=(hE.mono hR.fr).g 9 (by decide) (by decide);rw[show (m==0)=false by simpa using hm 0 (by omega) (by omega)];co_applyP aE rfl;co_applyP aa;co_applyP oy rfl aI;co_applyP oan rfl;change wpE ..;rw[show (m==1)=false by simpa using hm 1 (by omega) (by omega)];co_applyP aE rfl;co_applyP aa;co_applyP oy rfl aI;co_applyP oan rfl;change wpE ..;rw[show (m==2)=false by simpa using hm 2 (by omega) (by omega)];co_applyP aE rfl;co_applyP aa;co_applyP oy rfl aI;co_applyP oan rfl;change wpE ..;rw[show (m==3)=false by simpa using hm 3 (by omega) (by omega)];co_applyP aE rfl;co_applyP aa;co_applyP oy rfl aI;co_applyP oan rfl;change wpE ..;rw[show (m==4)=false by simpa using hm 4 (by omega) (by omega)];co_applyP aE rfl;co_applyP aa;co_applyP oy rfl aI;co_applyP oan rfl;change wpE ..;rw[show (m==5)=false by simpa using hm 5 (by omega) (by omega)];co_applyP aE rfl;co_applyP aa;co_applyP oy rfl aI;co_applyP oan rfl;change wpE ..;rw[show (m==6)=false by simpa using hm 6 (by omega) (by omega)];co_applyP aE rfl;co_applyP aa;co_applyP oy rfl aI;co_applyP oan rfl;change wpE ..;rw[show (m==7)=false by simpa using hm 7 (by omega) (by omega)];co_applyP aE rfl;co_applyP aa;co_applyP oy rfl aI;co_applyP oan rfl;change wpE ..;rw[show (m==8)=false by simpa using hm 8 (by omega) (by omega)];co_applyP aE rfl;co_applyP aa;co_applyP oy rfl aI;co_applyP oan rfl;change wpE ..;rw[show (m==9)=false by simpa using hm 9 (by omega) (by omega)];co_applyP aE rfl;co_applyP aa;co_applyP oy rfl aI;co_applyP oan rfl;change wpE ..;rw[show (m==10)=false by simpa using hm 10 (by omega) (by omega)];co_applyP aE rfl;co_applyP aa;co_applyP oy rfl aI;co_applyP oan rfl;change wpE ..;rw[show (m==11)=false by simpa using hm 11 (by omega) (by omega)];co_applyP aE rfl;co_applyP aa;co_applyP oy rfl (aA (ht:=dh));co_applyP oan rfl
 co_applyP aK;change∃v,resE .. =some v/\_;exact⟨_,rfl,rfl,rfl,hR⟩
section
variable {S:St}{b:Nat}{x:PS}
theorem jB (h:b∈S.ps.map (·.1)): ∃z,(b,z)∈S.ps:=by
 obtain⟨q,hq,rfl⟩:=List.mem_map.1 h;exact⟨q.2,hq⟩
theorem nE {S:St}{b:Nat}{x:PS}(h:(b,x)∈S.ps):b∈S.ps.map (·.1):=List.mem_map.2 ⟨_,h,rfl⟩
theorem tQ (S:St)(c:Nat)(y:PS)(s:Nat):(S.stop1 c y s).ps.map (·.1)=S.ps.map (·.1):=ba S c _
theorem yG (hb:(b,x)∈S.ps)(hs:x.st=1): ∃z,(b,z)∈(S.waitR b x).2.ps:=by
 unfold St.waitR
 split
 ·simp only
  split
  ·rename_i i hi;obtain⟨q,hq,_,h6⟩:=cU hi;unfold St.take;rw[hq];refine⟨_,ar (y:=x) ?_⟩;show (b,x)∈S.ps.eraseIdx i;obtain⟨j,hj⟩:=List.getElem?_of_mem hb;have hji:j≠i:=fun e=>by
    subst e;rw[hj] at hq;simp at hq;rw[<-hq] at h6;simp only at h6;omega
   rw[List.mem_eraseIdx_iff_getElem?];exact⟨j,hji,hj⟩
  ·exact⟨_,ar hb⟩
 ·exact⟨x,hb⟩
theorem vW (hb:(b,x)∈S.ps): ∃z,(b,z)∈(S.sleep1 b x).ps:=by
 apply jB;unfold St.sleep1
 split
 ·rw[ba];exact nE hb
 ·rw[tQ,ba];exact nE hb
theorem vX (hb:(b,x)∈S.ps): ∃z,(b,z)∈(S.yield1 b x).ps:=⟨_,ar (S:=S) hb⟩
theorem yH (hb:(b,x)∈S.ps)(c:Nat): ∃z,(b,z)∈(S.forkS b x c).ps:=by
 apply jB;unfold St.forkS;rw[ba];show b∈((S.taken c (x.copy.r0 0)).setP c _).ps.map (·.1);rw[ba];show b∈(S.ps++[(c,_)]).map (fun q:Nat×PS=>q.1);rw[List.map_append];exact List.mem_append_left _ (nE hb)
end
theorem AN {A:Lay}{S:St}{K:Nat}{F L:Frag}(hR:Rep K A S F L){i:Nat}(hi:i<S.pn):A.gc.extract (4*i) (4*i+4)= #[.int .u8 (S.pg i 0), .int .u8 (S.pg i 1), .int .u8 (S.pg i 2), .int .u8 (S.pg i 3)]/\4*i+4<=A.gc.size:=by
 have h0:=hR.gv i 0 hi (by omega);have h1:=hR.gv i 1 hi (by omega);have h2:=hR.gv i 2 hi (by omega);have h3:=hR.gv i 3 hi (by omega);obtain⟨l3,e3⟩:=Array.getElem?_eq_some_iff.1 h3;obtain⟨_,e0⟩:=Array.getElem?_eq_some_iff.1 h0;obtain⟨_,e1⟩:=Array.getElem?_eq_some_iff.1 h1;obtain⟨_,e2⟩:=Array.getElem?_eq_some_iff.1 h2;refine⟨?_,by omega⟩;apply Array.ext
 ·simp;omega
 ·intro j h4 h5;simp at h5;simp only[Array.getElem_extract];have:j=0\/j=1\/j=2\/j=3:=by omega
  rcases this with rfl|rfl|rfl|rfl
  ·simpa using e0
  ·simpa using e1
  ·simpa using e2
  ·simpa using e3
theorem AO: ∃n,∀{σ}{F:Fam σ}{Δ:DM F}{main s}(K:Nat)(A:Lay)(S:St)(Fr L:Frag)(eb:Nat->Nat×Nat)(b:Nat)(x:PS)(ch:Value),Rep K A S Fr L->Ers eb Fr->(b,x)∈S.ps->S.pn<=x.at_->
 CallsL Δ Tryz.prog main 85 [ptr K,ptr b,ch].toArray n s L (fun s' v L'=>s=s'/\L=L'/\v=erv eb 0):=by
 apply Exists.intro;intro σ F Δ main s K A S Fr L eb b x ch hR hE hb hp;have hat:At L b 4 (.int .i64 (x.at_:Nat)):=hR.pat hb (i:=4) rfl;have hpg:At L K 4 (.slice (some ⟨A.g,0,none⟩) S.pn A.gcap):=hR.kat rfl;have hg:=(hE.mono hR.fr).g 0 (by decide) (by decide);have e1:decide ((S.pn:Int)<=(x.at_:Int))=true:=by simp;omega
 co_applyP aF 52 Tryz.func85 Tryz.ntmps85;co_applyP aa;co_applyP oan rfl;co_applyP au (n₂:=0);co_applyP au;co_applyP bA a5;co_applyP tr 0 rfl ag pI;co_applyP tr 1 rfl av pI;co_applyP tr 2 rfl (ak (hf:=aM)) pI;co_applyP tr 3 rfl (ak (hf:=bT)) pI;co_applyP tr 4 rfl (aA (ht:=aR)) pI;co_applyP tr 5 rfl ag pI;co_applyP tr 6 rfl av pI;co_applyP tr 7 rfl (ak (hf:=eG)) pI;co_applyP tr 8 rfl (aA (ht:=gZ)) pI;co_applyP tr 9 rfl (bt (hu:=na)) pI;co_applyP tr 10 rfl dt pI;co_applyP td (by kernel_rfl);change wpE ..;rw[e1];co_applyP bv rfl;co_applyP aa;co_applyP oy rfl (aA (ht:=dh));co_applyP oan rfl;co_applyP aK;change∃v,resE .. =some v/\_;exact⟨_,rfl,rfl,rfl,rfl⟩
def PS.next (x:PS):PS:={x with at_:=x.at_+1}
theorem Running.setP {S:St}{b:Nat}{x x':PS}(h:Running S b x)(hs:x'.st=x.st)(hl:x'.lv=x.lv)(hr:x'.r=x.r)(hf:x'.f=x.f)(hm:x'.m=x.m):Running (S.setP b x') b x':=
 ⟨h.i.alike h.m hs hl hr hf hm,ar h.m,hs.trans h.s,h.o,h.n,h.l⟩
theorem AP: ∃n,∀{σ}{F:Fam σ}{Δ:DM F}{main s}(K:Nat)(A:Lay)(S:St)(Fr L:Frag)(eb:Nat->Nat×Nat)(b:Nat)(x:PS)(ch:Value),(∀cs,(Δ s).New (.cells cs 158))->Rep K A S Fr L->Ers eb Fr->Inv S->(b,x)∈S.ps->x.at_<S.pn->S.pn<=256->S.pg x.at_ 0≠9->(∀j,j<4->0<=S.pg x.at_ j/\S.pg x.at_ j<256)->
 CallsL Δ Tryz.prog main 85 [ptr K,ptr b,ch].toArray n s L (fun s' v L'=>s=s'/\match x.do (S.pg x.at_ 0) (S.pg x.at_ 1) (S.pg x.at_ 2) (S.pg x.at_ 3) with
  | .ok x'=>v= .nilIface/\Rep K A (S.setP b x') Fr L'
  | .error e=>v=errv (erv eb 0) (erv eb 1) (erv eb 10) e/\Rep K A S Fr L'):=by
 obtain⟨n0,g0⟩:=DS;apply Exists.intro;intro σ F Δ main s K A S Fr L eb b x ch hN158 hR hE hI hb hp h256 h9 hby;have hat:At L b 4 (.int .i64 (x.at_:Nat)):=hR.pat hb (i:=4) rfl;have hpg:At L K 4 (.slice (some ⟨A.g,0,none⟩) S.pn A.gcap):=hR.kat rfl;have e1:decide ((S.pn:Int)<=(x.at_:Int))=false:=by simp;omega
 obtain⟨hge,hgs⟩:=AN hR hp;have hRm: ∀t∈[kb K (kst A S),pb b x,(A.g,true,Obj.cells A.gc 158)],t∈L:=fun t ht=>by
  simp only[List.mem_cons,List.mem_nil_iff,or_false] at ht;rcases ht with rfl|rfl|rfl
  ·exact hR.k
  ·exact hR.p _ hb
  ·exact hR.g
 have hatR:At [kb K (kst A S),pb b x,(A.g,true,Obj.cells A.gc 158)] b 4 (.int .i64 (x.at_:Nat)):=⟨true,_,_,_,List.mem_cons_of_mem _ List.mem_cons_self,rfl⟩;have hpgR:At [kb K (kst A S),pb b x,(A.g,true,Obj.cells A.gc 158)] K 4 (.slice (some ⟨A.g,0,none⟩) S.pn A.gcap):=⟨true,_,_,_,List.mem_cons_self,rfl⟩;have hgR:(A.g,true,Obj.cells A.gc 158)∈[kb K (kst A S),pb b x,(A.g,true,Obj.cells A.gc 158)]:=List.mem_cons_of_mem _ (List.mem_cons_of_mem _ List.mem_cons_self);have eo:x.at_*4=4*x.at_:=by omega
 have hlt:((x.at_:Nat):Int)<(S.pn:Nat):=by omega
 co_applyP aF 52 Tryz.func85 Tryz.ntmps85;co_applyP aa;co_applyP oan rfl;co_applyP au;co_applyP au;co_applyP bA a5;co_applyP tr 0 rfl ag pI;co_applyP tr 1 rfl av pI;co_applyP tr 2 rfl (ak (hf:=aM)) pI;co_applyP tr 3 rfl (ak (hf:=bT)) pI;co_applyP tr 4 rfl (aA (ht:=aR)) pI;co_applyP tr 5 rfl ag pI;co_applyP tr 6 rfl av pI;co_applyP tr 7 rfl (ak (hf:=eG)) pI;co_applyP tr 8 rfl (aA (ht:=gZ)) pI;co_applyP tr 9 rfl (bt (hu:=na)) pI;co_applyP tr 10 rfl dt pI;co_applyP td (by kernel_rfl);change wpE ..;rw[e1];co_applyP aE rfl;co_applyP aB;co_applyP au;co_applyP br [kb K (kst A S),pb b x,(A.g,true,Obj.cells A.gc 158)] 11 (nf:=0) a5;co_applyP tr 0 rfl ag (aj hRm);co_applyP tr 1 rfl av (aj hRm);co_applyP tr 2 rfl (ak (hf:=eG)) (aj hRm);co_applyP tr 3 rfl (aA (ht:=gZ)) (aj hRm);co_applyP tr 4 rfl ag (aj hRm);co_applyP tr 5 rfl av (aj hRm);co_applyP tr 6 rfl (ak (hf:=aM)) (aj hRm);co_applyP tr 7 rfl (ak (hf:=bT)) (aj hRm);co_applyP tr 8 rfl (aA (ht:=aR)) (aj hRm);co_applyP tr 9 rfl (bw na dg) (aj hRm);co_applyP tr 10 rfl (bF (ht:=hY) (hs:=dg) (hm:=hgR) (hi:=by omega)) (aj hRm);co_applyP m7 (i:=11) rfl (fO (z:=insnv 0 0 0 0) (hN158 _));intro nb L1 hA1;refine⟨aD fun t ht=>hA1.sub _ (hRm t ht), ?_⟩;co_applyP bd;intro hnd1;co_applyP te (i:=12) rfl (j2 (hs:=dg) (vs:=[.int .u8 (S.pg x.at_ 0), .int .u8 (S.pg x.at_ 1), .int .u8 (S.pg x.at_ 2), .int .u8 (S.pg x.at_ 3)]) (hy:=by rw[eo,hge];rfl) (hnd:=hnd1) (hm:=hA1.self) (hi:=Nat.le_refl _));rintro _ _ ⟨rfl,hU2⟩;refine⟨aD fun t ht=>hU2.ne _ (hA1.sub _ (hRm t ht)) (hA1.new _ (hRm t ht)), ?_⟩;rename_i L2;have hR2:=hR.of hU2.fn fun t ht=>hU2.ne _ (hA1.sub _ ht) (hA1.new _ ht);have hn2:(nb,true,Obj.cells #[.int .u8 (S.pg x.at_ 0), .int .u8 (S.pg x.at_ 1), .int .u8 (S.pg x.at_ 2), .int .u8 (S.pg x.at_ 3)] 158)∈L2:=hU2.self;have hn20:At L2 nb 0 (.int .u8 (S.pg x.at_ 0)):=⟨true,_,_,_,hn2,rfl⟩;have hnbb:nb≠b:=fun e=>hA1.new _ (hR.p _ hb) e.symm;have e9:(S.pg x.at_ 0==9)=false:=by simp[h9]
 have hgl: ∀i∈[0,1,10],∃fl cs ty fr,(i,fl,Obj.cells cs ty fr)∈Fr/\cs[0]? =some (errv (erv eb 0) (erv eb 1) (erv eb 10) i):=fun i hi=>by
  simp only[List.mem_cons,List.mem_nil_iff,or_false] at hi;rcases hi with rfl|rfl|rfl
  ·exact hE.g 0 (by decide) (by decide)
  ·exact hE.g 1 (by decide) (by decide)
  ·exact hE.g 10 (by decide) (by decide)
 co_applyP td (by kernel_rfl);co_applyP au;co_applyP aa;co_applyP oy rfl (ak (hf:=iI));co_applyP oy rfl (aA (ht:=eX));co_applyP oy rfl aI;co_applyP ai;change wpE ..;rw[e9];co_applyP aE rfl;co_applyP aB;co_applyP aa;co_applyP om rfl rfl rfl (bF (ht:=hY) (hs:=dg) (hm:=hn2) (hi:=Nat.le_refl _));co_applyP oc rfl rfl rfl (g0 K A S Fr L2 b x (S.pg x.at_ 0) (S.pg x.at_ 1) (S.pg x.at_ 2) (S.pg x.at_ 3) (erv eb 0) (erv eb 1) (erv eb 10) hN158 hR2 hb (hI.wf _ hb) (by omega) (hby 1 (by omega)) (hby 2 (by omega)) (hby 3 (by omega)) hgl ⟨_,_,rfl⟩);rintro _ _ _ ⟨rfl,hpost⟩;co_applyP oan rfl;co_applyP aK;change∃v,resE .. =some v/\_;exact⟨_,rfl,rfl,hpost⟩
def St.wake (S:St):St:=S.wakes (S.ps.map (·.1))
def St.boosts (S:St):Prop:=0<S.now/\((S.now:Nat):Int).tmod S.bo=0
instance (S:St):Decidable S.boosts:=inferInstanceAs (Decidable (_/\_))
def St.boost (S:St):St:=if S.boosts then(S.lifts (S.ps.map (·.1))).raises 2 else S
def St.lead (S:St):St:=S.wake.boost
structure Fix (S S':St):Prop where
 sl:S'.sl=S.sl
 bo:S'.bo=S.bo
 pn:S'.pn=S.pn
 pg:S'.pg=S.pg
 now:S'.now=S.now
theorem Fix.refl (S:St):Fix S S:=⟨rfl,rfl,rfl,rfl,rfl⟩
theorem Fix.trans {S T U:St}(h:Fix S T)(k:Fix T U):Fix S U:=⟨k.sl.trans h.sl,k.bo.trans h.bo,k.pn.trans h.pn,k.pg.trans h.pg,k.now.trans h.now⟩
theorem eB: ∀(bs:List Nat)(S:St),Fix S (S.wakes bs)
 |[],S=>Fix.refl S
 |b::bs,S=>by
  unfold St.wakes;refine Fix.trans ?_ (eB bs _)
  split
  ·split
   ·exact⟨rfl,rfl,rfl,rfl,rfl⟩
   ·exact Fix.refl S
  ·exact Fix.refl S
theorem mr: ∀(bs:List Nat)(S:St),Fix S (S.lifts bs)
 |[],S=>Fix.refl S
 |b::bs,S=>by
  unfold St.lifts;refine Fix.trans ?_ (mr bs _)
  split
  ·split
   ·exact⟨rfl,rfl,rfl,rfl,rfl⟩
   ·exact Fix.refl S
  ·exact Fix.refl S
theorem tR (S:St):Fix S S.boost:=by
 unfold St.boost
 split
 ·exact(mr _ S).trans ⟨rfl,rfl,rfl,rfl,rfl⟩
 ·exact Fix.refl S
theorem bQ (S:St):Fix S S.lead:=(eB _ S).trans (tR _)
def St.doR (S:St)(x:PS):Except Nat PS:=x.do (S.pg x.at_ 0) (S.pg x.at_ 1) (S.pg x.at_ 2) (S.pg x.at_ 3)
def St.runE (S:St)(b:Nat)(x:PS):List Value:=if S.pn<=x.at_ then [evt S.now 4 x.id 65281] else if S.pg x.at_ 0=9 then(S.setP b x.next).grantE b x.next (S.pg x.at_ 1) else match S.doR x with
 | .ok _=>[]
 | .error _=>[evt S.now 4 x.id 65281]
def St.runS (S:St)(b:Nat)(x:PS)(c:Nat):St:=if S.pn<=x.at_ then S.fin b x 65281 else if S.pg x.at_ 0=9 then(match (S.setP b x.next).grantV b x.next (S.pg x.at_ 1) with
 |some i=>((S.setP b x.next).grantS b x.next (S.pg x.at_ 1) c).r0 b (ansOf i)
 |none=>(S.setP b x.next).grantS b x.next (S.pg x.at_ 1) c) else match S.doR x with
 | .ok x'=>S.setP b x'
 | .error _=>S.fin b x 65281
def PS.more (z:PS):PS:={z with used:=z.used+1}
def St.after (S:St)(b:Nat):St:=match S.get b with
 |some z=>if z.st=1 then(S.setP b z.more).turn b z.more else S.setP b z.more
 |none=>S
theorem AQ: ∃n,∀{p:Par}{Sh:Loc->Prop}{E Dn:Nat}{PostB:World->Prop}{Aft:Goroutine->World->Prop}{W:World}{O:Nat}{G0:List (Nat×Obj)}{vs:List Value}(K:Nat)(A:Lay)(S:St)(Fr L:Frag)(eb:Nat->Nat×Nat),(∀s,NewT (domT Tryz.prog p Sh E Dn PostB Aft W O G0 s))->Rep K A S Fr L->Ers eb Fr->Inv S->S.bo≠0->S.lead.first=none->
 CallsL (domT Tryz.prog p Sh E Dn PostB Aft W O G0) Tryz.prog false 63 [ptr K, .chan (some E)].toArray n (evt S.lead.now 2 0 0::vs) L (fun s' v L'=>vs=s'/\v= .tuple #[]/\ ∃A',Rep K A' S.lead Fr L'):=by
 obtain⟨n0,g0⟩:=fS;obtain⟨n1,g1⟩:=r7;obtain⟨n2,g2⟩:=rX;obtain⟨n3,g3⟩:=nD;apply Exists.intro;intro p Sh E Dn PostB Aft W O G0 vs K A S Fr L eb hN hR hE hI hbo hf;co_applyP aF 75 Tryz.func63 Tryz.ntmps63;co_applyP aa;co_applyP oy rfl ag;co_applyP oc rfl rfl rfl (g0 K A S Fr L (hN _).r hR hI.g);rintro _ _ _ ⟨rfl,rfl,hG1,hrel,A1,hl1,hR1⟩;co_applyP ai;change wpE ..;rename_i L1;have hbo':(S.wakes (S.ps.map (·.1))).bo≠0:=by rw[show (S.wakes (S.ps.map (·.1))).bo=S.bo from(eB _ S).bo];exact hbo
 have hn1:At L1 K 16 (.int .i64 ((S.wakes (S.ps.map (·.1))).now:Nat)):=hR1.kat rfl;have hb1:At L1 K 3 (.int .i64 (S.wakes (S.ps.map (·.1))).bo):=hR1.kat rfl;co_applyP cK (fun s'' ε'' L''=>(evt S.lead.now 2 0 0::vs)=s''/\kn ε'' [(0,ptr K),(1, .chan (some E))]/\ ∃A',Rep K A' S.lead Fr L'');co_applyP dB (0<(S.wakes (S.ps.map (·.1))).now);intro h0
 ·have e0:decide ((0:Int)<((S.wakes (S.ps.map (·.1))).now:Nat))=true:=by simp;omega
  co_applyP dB ((((S.wakes (S.ps.map (·.1))).now:Nat):Int).tmod (S.wakes (S.ps.map (·.1))).bo=0);intro hm
  ·have hB:S.lead=((S.wakes (S.ps.map (·.1))).lifts ((S.wakes (S.ps.map (·.1))).ps.map (·.1))).raises 2:=by unfold St.lead St.boost;rw[if_pos (show S.wake.boosts from⟨h0,hm⟩)];rfl
   co_applyP au;co_applyP bA a5;co_applyP tr 0 rfl ag pI;co_applyP tr 1 rfl av pI;co_applyP tr 2 rfl (ak (hf:=cg)) pI;co_applyP tr 3 rfl (aA (ht:=aR)) pI;co_applyP tr 4 rfl cx pI;co_applyP tr 5 rfl ag pI;rw[e0];co_applyP tr 6 rfl (ag) pI;co_applyP tr 7 rfl (av) pI;co_applyP tr 8 rfl ((ak (hf:=cg))) pI;co_applyP tr 9 rfl ((aA (ht:=aR))) pI;co_applyP tr 10 rfl (ag) pI;co_applyP tr 11 rfl (av) pI;co_applyP tr 12 rfl ((ak (hf:=fQ))) pI;co_applyP tr 13 rfl ((ak (hf:=eu))) pI;co_applyP tr 14 rfl ((aA (ht:=aR))) pI;co_applyP tr 15 rfl (eP) pI;co_applyP tr 16 rfl (aI) pI;co_applyP tr 17 rfl aH pI;co_applyP td (by kernel_rfl);change wpE ..;rw[hm];co_applyP bv rfl;co_applyP aq;co_applyP oy rfl ag;co_applyP oc rfl rfl rfl (g1 K A1 _ Fr L1 (hN _).r hR1 (fun l hl=>hG1.r8 hl));rintro _ _ _ ⟨rfl,rfl,A2,hl2,hR2⟩;co_applyP ai;change _=_/\kn _ _/\ ∃A',_;exact⟨rfl,rfl,A2,by rw[hB];exact hR2⟩
  intro hm;have hB:S.lead=S.wakes (S.ps.map (·.1)):=by unfold St.lead St.boost;rw[if_neg (fun h=>hm h.2)];rfl
  have em:((((S.wakes (S.ps.map (·.1))).now:Nat):Int).tmod (S.wakes (S.ps.map (·.1))).bo==0)=false:=by simp[hm]
  co_applyP au;co_applyP bA a5;co_applyP tr 0 rfl ag pI;co_applyP tr 1 rfl av pI;co_applyP tr 2 rfl (ak (hf:=cg)) pI;co_applyP tr 3 rfl (aA (ht:=aR)) pI;co_applyP tr 4 rfl cx pI;co_applyP tr 5 rfl ag pI;rw[e0];co_applyP tr 6 rfl (ag) pI;co_applyP tr 7 rfl (av) pI;co_applyP tr 8 rfl ((ak (hf:=cg))) pI;co_applyP tr 9 rfl ((aA (ht:=aR))) pI;co_applyP tr 10 rfl (ag) pI;co_applyP tr 11 rfl (av) pI;co_applyP tr 12 rfl ((ak (hf:=fQ))) pI;co_applyP tr 13 rfl ((ak (hf:=eu))) pI;co_applyP tr 14 rfl ((aA (ht:=aR))) pI;co_applyP tr 15 rfl (eP) pI;co_applyP tr 16 rfl (aI) pI;co_applyP tr 17 rfl aH pI;co_applyP td (by kernel_rfl);change wpE ..;rw[em];co_applyP aE rfl;co_applyP aB;change _=_/\kn _ _/\ ∃A',_;exact⟨rfl,rfl,A1,by rw[hB];exact hR1⟩
 intro h0;have e0:decide ((0:Int)<((S.wakes (S.ps.map (·.1))).now:Nat))=false:=by simp;omega
 have hB:S.lead=S.wakes (S.ps.map (·.1)):=by unfold St.lead St.boost;rw[if_neg (fun h=>h0 h.1)];rfl
 co_applyP au;co_applyP bA a5;co_applyP tr 0 rfl ag pI;co_applyP tr 1 rfl av pI;co_applyP tr 2 rfl (ak (hf:=cg)) pI;co_applyP tr 3 rfl (aA (ht:=aR)) pI;co_applyP tr 4 rfl cx pI;co_applyP tr 5 rfl ag pI;rw[e0];co_applyP tu 6 rfl pI;co_applyP tu 7 rfl pI;co_applyP tu 8 rfl pI;co_applyP tu 9 rfl pI;co_applyP tu 10 rfl pI;co_applyP tu 11 rfl pI;co_applyP tu 12 rfl pI;co_applyP tu 13 rfl pI;co_applyP tu 14 rfl pI;co_applyP tu 15 rfl pI;co_applyP tu 16 rfl pI;co_applyP tr 17 rfl aH pI;co_applyP td (by kernel_rfl);co_applyP aE rfl;co_applyP aB;change _=_/\kn _ _/\ ∃A',_;exact⟨rfl,rfl,A1,by rw[hB];exact hR1⟩;rintro _ ε2 L2 ⟨rfl,he2,A2,hR2⟩;co_applyP aN he2;co_applyP aa;co_applyP om rfl rfl rfl av;co_applyP oy rfl (ak (hf:=dA));co_applyP oc rfl rfl rfl (g2 K A2 _ Fr L2 hR2);rintro _ _ _ ⟨rfl,rfl,rfl⟩;rw[hf];co_applyP oan rfl;co_applyP au (n₂:=0);co_applyP aa;co_applyP om rfl rfl rfl (fN (hu:=U93));co_applyP ai;co_applyP bv rfl;co_applyP aa;co_applyP om rfl rfl rfl ag;co_applyP oc rfl rfl rfl (g3 K A2 _ Fr L2 2 0 0 hR2);rintro _ _ _ ⟨rfl,rfl,rfl⟩;co_applyP ai;co_applyP aK;change∃v,resE .. =some v/\_;exact⟨_,rfl,rfl,rfl,A2,hR2⟩
theorem mt {S:St}{b:Nat}{x:PS}{m:Int}{i:Nat}(h:S.grantV b x m=some i):(∀c,S.grantS b x m c=S)/\i<11/\i≠2:=by
 unfold St.grantV at h;unfold St.grantS;by_cases h0:m=0
 ·simp[h0] at h
 by_cases h1:m=1
 ·subst h1;simp at h;obtain⟨h8,rfl⟩:=h;simp[h8]
 by_cases h2:m=2
 ·subst h2;simp at h;unfold St.waitR at*
  split at h
  ·simp at h
  ·rename_i hc;simp at h;subst h;simp[hc]
 by_cases h3:m=3
 ·subst h3;simp at h;cases hf:S.find (x.r 0) with
  |none=>rw[hf] at h;simp at h;subst h;simp
  |some q=>
   rw[hf] at h;simp at h;obtain⟨h6,rfl⟩:=h;simp[h6]
 by_cases h4:m=4
 ·simp[h4] at h
 by_cases h5:m=5
 ·simp[h5] at h
 by_cases h6:m=6
 ·simp[h6] at h
 by_cases h7:m=7
 ·subst h7;simp at h;unfold St.pipeR at*
  split at h
  ·rename_i hu;simp at h;subst h;simp[hu]
  ·rename_i hu;simp only[hu,if_false]
   split at h
   ·simp at h
   ·rename_i hf;simp at h;subst h;refine⟨fun c=> ?_,by omega,by omega⟩;simp
 by_cases h8:m=8
 ·subst h8;simp at h;unfold St.closeR at*
  split at h
  ·rename_i hf;simp at h;subst h;simp[hf]
  ·simp at h
 by_cases h9:m=9
 ·subst h9;simp at h;unfold St.askR at*;cases hc:x.checkUse 4 64 with
  |none=>rw[hc] at h;simp at h
  |some j=>
   rw[hc] at h;simp at h;subst h;refine⟨fun c=>by simp, ?_⟩;unfold PS.checkUse at hc
   split at hc
   ·simp at hc;omega
   ·split at hc
    ·simp at hc;omega
    ·split at hc
     ·simp at hc;omega
     ·cases hc
 by_cases h10:m=10
 ·subst h10;simp at h;unfold St.askR at*;cases hc:x.checkUse 5 8 with
  |none=>rw[hc] at h;simp at h
  |some j=>
   rw[hc] at h;simp at h;subst h;refine⟨fun c=>by simp, ?_⟩;unfold PS.checkUse at hc
   split at hc
   ·simp at hc;omega
   ·split at hc
    ·simp at hc;omega
    ·split at hc
     ·simp at hc;omega
     ·cases hc
 by_cases h11:m=11
 ·simp[h11] at h
 ·simp[h0,h1,h2,h3,h4,h5,h6,h7,h8,h9,h10,h11] at h;subst h;simp[h0,h1,h2,h3,h4,h5,h6,h7,h8,h9,h10,h11]
theorem yI (eb:Nat->Nat×Nat)(e:Nat): ∃d,errv (erv eb 0) (erv eb 1) (erv eb 10) e= .iface 255 (ptq d):=by
 unfold errv
 split
 ·exact⟨_,rfl⟩
 ·exact⟨_,rfl⟩
 ·exact⟨_,rfl⟩
def Calm (P:Nat->Prop)(S:St):Prop:= ∀e∈S.wt,∀c∈e.2,∀y,(c,y)∈S.ps->y.st=1->P c
structure XI (N:Nat->Nat)(S:St):Prop where
 un: ∀q∈S.ps,q.2.used<=S.now
 idn: ∀q∈S.ps,∀r∈S.ps,q.2.id=r.2.id->q=r
 idr: ∀q∈S.ps,1<=q.2.id/\q.2.id<=S.last
 p1: ∃q∈S.ps,q.2.id=1
 p0: ∀q∈S.ps,q.2.par=0↔q.2.id=1
 r3: ∀l,3<=l->S.rows l=[]
 nm: ∀q∈S.ps,N q.1=q.2.id
structure MI (P:Nat->Prop)(N:Nat->Nat)(S:St):Prop where
 i:Inv S
 c:Calm P S
 x:XI N S
section
variable {S S':St}{b:Nat}{x x':PS}{k:Nat×Nat}{P:Nat->Prop}{N:Nat->Nat}
theorem XI.congr (h:XI N S)(h1:S'.ps=S.ps)(h2:S'.last=S.last)(h3:S'.now=S.now)(h4: ∀l,3<=l->S'.rows l=S.rows l:=by intro l _;rfl):XI N S':=⟨by rw[h1,h3];exact h.un,by rw[h1];exact h.idn,by rw[h1,h2];exact h.idr,by rw[h1];exact h.p1,by rw[h1];exact h.p0,fun l hl=>(h4 l hl).trans (h.r3 l hl),by rw[h1];exact h.nm⟩
theorem ij {α:Type}{f:Nat->α}{i:Nat}{v:α}(hi:i<3): ∀l,3<=l->put f i v l=f l:=fun l hl=>by unfold put;rw[if_neg (by omega)]
theorem XI.setP (h:XI N S)(hn:(S.ps.map (·.1)).Nodup)(hb:(b,x)∈S.ps)(hid:x'.id=x.id)(hpar:x'.par=0↔x.par=0)(hu:x'.used<=S.now):XI N (S.setP b x'):=by
 refine⟨fun q hq=> ?_,fun q hq r hr e=> ?_,fun q hq=> ?_, ?_,fun q hq=> ?_,h.r3,fun q hq=> ?_⟩
 ·rcases aO hq with rfl|⟨h1,_⟩
  ·exact hu
  ·exact h.un q h1
 ·rcases aO hq with rfl|⟨h1,h1n⟩
  ·rcases aO hr with rfl|⟨h2,h2n⟩
   ·rfl
   ·have:=h.idn _ hb _ h2 (by rw[<-e];exact hid.symm);exact absurd (by rw[<-this]) h2n
  ·rcases aO hr with rfl|⟨h2,h2n⟩
   ·have:=h.idn _ h1 _ hb (by rw[e];exact hid);exact absurd (by rw[this]) h1n
   ·exact h.idn q h1 r h2 e
 ·rcases aO hq with rfl|⟨h1,_⟩
  ·show 1<=x'.id/\x'.id<=S.last;rw[hid];exact h.idr _ hb
  ·exact h.idr q h1
 ·obtain⟨q,hq,h1⟩:=h.p1;by_cases e:q.1=b
  ·refine⟨(b,x'),ar hb, ?_⟩;show x'.id=1;rw[hid];obtain⟨c,y⟩:=q;have e':c=b:=e;subst e';rw[a6 hn hb hq];exact h1
  ·exact⟨q,bK (c:=q.1) (y:=q.2) hq e,h1⟩
 ·rcases aO hq with rfl|⟨h1,_⟩
  ·show x'.par=0↔x'.id=1;rw[hid];exact hpar.trans (h.p0 _ hb)
  ·exact h.p0 q h1
 ·rcases aO hq with rfl|⟨h1,_⟩
  ·show N b=x'.id;rw[hid];exact h.nm _ hb
  ·exact h.nm q h1
theorem XI.erase (h:XI N S){i:Nat}{q:Nat×PS}(hi:S.ps[i]? =some q)(hq:q.2.id≠1):XI N {S.setPs (S.ps.eraseIdx i) with last:=S.last}:=by
 refine⟨fun q hq=>h.un q (List.mem_of_mem_eraseIdx hq),fun q hq r hr e=>h.idn q (List.mem_of_mem_eraseIdx hq) r (List.mem_of_mem_eraseIdx hr) e,fun q hq=>h.idr q (List.mem_of_mem_eraseIdx hq), ?_,fun q hq=>h.p0 q (List.mem_of_mem_eraseIdx hq),h.r3,fun q hq=>h.nm q (List.mem_of_mem_eraseIdx hq)⟩;obtain⟨r,hr,h1⟩:=h.p1;refine⟨r, ?_,h1⟩;show r∈S.ps.eraseIdx i;obtain⟨j,hj⟩:=List.getElem?_of_mem hr;have hji:j≠i:=fun e=>by subst e;rw[hj] at hi;simp at hi;rw[<-hi] at hq;exact hq h1
 rw[List.mem_eraseIdx_iff_getElem?];exact⟨j,hji,hj⟩
theorem XI.taken (h:XI N S){c:Nat}{y:PS}(hc: ∀q∈S.ps,c≠q.1) (hp:y.par≠0) (hu:y.used<=S.now) (hN:N c=S.last+1):XI N (S.taken c y):=by
 have hl:1<=S.last:=by
  obtain⟨q,hq,h1⟩:=h.p1;have:=h.idr q hq;omega
 have cs: ∀q∈(S.taken c y).ps,q∈S.ps\/q=(c,{y with id:=S.last+1}):=fun q hq=>by
  rcases List.mem_append.1 hq with h|h
  ·exact .inl h
  ·exact .inr (by simpa using h)
 refine⟨fun q hq=> ?_,fun q hq r hr e=> ?_,fun q hq=> ?_, ?_,fun q hq=> ?_,h.r3,fun q hq=> ?_⟩
 ·rcases cs q hq with h1|rfl
  ·exact h.un q h1
  ·exact hu
 ·rcases cs q hq with h1|rfl
  ·rcases cs r hr with h2|rfl
   ·exact h.idn q h1 r h2 e
   ·have:=(h.idr q h1).2;simp only at e;omega
  ·rcases cs r hr with h2|rfl
   ·have:=(h.idr r h2).2;simp only at e;omega
   ·rfl
 ·show 1<=q.2.id/\q.2.id<=S.last+1;rcases cs q hq with h1|rfl
  ·have:=h.idr q h1;omega
  ·simp only;omega
 ·obtain⟨q,hq,h1⟩:=h.p1;exact⟨q,List.mem_append_left _ hq,h1⟩
 ·rcases cs q hq with h1|rfl
  ·exact h.p0 q h1
  ·simp only;constructor
   ·intro e;exact absurd e hp
   ·intro e;omega
 ·rcases cs q hq with h1|rfl
  ·exact h.nm q h1
  ·exact hN
theorem Calm.out_mono {Q:Nat->Prop}(h:Calm P S)(hPQ: ∀c,P c->Q c):Calm Q S:=fun e he c hc y hy h1=>hPQ c (h e he c hc y hy h1)
theorem Calm.depart (h:Calm P S):Calm P (S.depart b k):=fun e he c hc y hy h1=>by
 rcases cu he with ⟨h2,_⟩|⟨h2,_,xs,h3,h4⟩
 ·exact h e h2 c hc y hy h1
 ·rw[h4] at hc;exact h _ h3 c (List.mem_filter.1 hc).1 y hy h1
theorem Calm.setP (h:Calm P S)(hb:S.out b\/P b\/x'.st≠1):Calm P (S.setP b x'):=fun e he c hc y hy h1=>by
 rcases aO hy with h2|⟨h2,_⟩
 ·cases h2;rcases hb with hb|hb|hb
  ·exact absurd hc (hb e he)
  ·exact hb
  ·exact absurd h1 hb
 ·exact h e he c hc y h2 h1
theorem Calm.congr (h:Calm P S)(h1:S'.wt=S.wt)(h2:S'.ps=S.ps):Calm P S':=by unfold Calm;rw[h1,h2];exact h
theorem Calm.join (h:Calm P S)(hb:P b)(hn:(S.wt.map (·.1)).Nodup):Calm P (S.joinW b k):=fun e he c hc y hy h1=>by
 by_cases hk: ∀e∈S.wt,e.1≠k
 ·have e1:(S.joinW b k).wt=S.wt++[(k,[b])]:=ii hk;rw[e1] at he;rcases List.mem_append.1 he with h2|h2
  ·exact h e h2 c hc y hy h1
  ·simp at h2;subst h2;simp at hc;subst hc;exact hb
 ·have hk':k∈S.wt.map (·.1):=Decidable.byContradiction fun hn'=>hk fun e he e1=>hn' (List.mem_map.2 ⟨e,he,e1⟩);obtain⟨l1,ys,l2,hl,q1,q2⟩:=gB hn hk';have e1:(S.joinW b k).wt=l1++(k,ys++[b])::l2:=by show rowJoin b k S.wt=_;rw[hl,li q1 q2]
  rw[e1] at he;rcases List.mem_append.1 he with h2|h2
  ·exact h e (by rw[hl];simp[h2]) c hc y hy h1
  ·rcases List.mem_cons.1 h2 with rfl|h2
   ·rcases List.mem_append.1 hc with h3|h3
    ·exact h (k,ys) (by rw[hl];simp) c h3 y hy h1
    ·simp at h3;subst h3;exact hb
   ·exact h e (by rw[hl];simp[h2]) c hc y hy h1
theorem MI.depart (h:MI P N S):MI P N (S.depart b k):=⟨h.i.depart,h.c.depart,h.x.congr rfl rfl rfl⟩
theorem MI.setY (h:MI P N S){i:Nat}{ys:List Int}(h8:ys.length<=8)(hb: ∀v∈ys,0<=v/\v<256):MI P N (S.setY i ys):=⟨h.i.setY h8 hb,h.c.congr rfl rfl,h.x.congr rfl rfl rfl⟩
theorem MI.like (h:MI P N S)(hb:(b,x)∈S.ps)(ho:S.out b)(hs:x'.st=x.st)(hl:x'.lv=x.lv)(hw:WF x')(hf: ∀i,i<6->x'.f i=(0,0)\/okEnd (x'.f i)) (hid:x'.id=x.id) (hpar:x'.par=x.par) (hu:x'.used<=S.now):MI P N (S.setP b x'):=
 ⟨h.i.like hb ho hs hl hw hf,h.c.setP (.inl ho),h.x.setP h.i.g.pn hb hid (by rw[hpar]) hu⟩
theorem MI.r0 (h:MI P N S)(hb:(b,x)∈S.ps)(ho:S.out b){v:Int}(hv:0<=v/\v<65536):MI P N (S.setP b (x.r0 v)):=
 h.like hb ho rfl rfl (fE (h.i.wf _ hb) hv) (h.i.fl (b,x) hb) rfl rfl (h.x.un _ hb)
theorem MI.wake1 (h:MI P N S)(hb:(b,x)∈S.ps)(ho:S.out b)(hs:x.st≠1):MI P N (S.wake1 b x):=
 ⟨h.i.wake1 hb ho hs,(h.c.setP (x':={x with st:=1,used:=0}) (.inl ho)).congr rfl rfl,(h.x.setP (x':={x with st:=1,used:=0}) h.i.g.pn hb rfl Iff.rfl (Nat.zero_le _)).congr rfl rfl rfl (ij (h.i.g.lv _ hb))⟩
theorem MI.stop1 (h:MI P N S)(hb:(b,x)∈S.ps)(ho:S.out b){s:Nat}(hs:s≠1):MI P N (S.stop1 b x s):=
 ⟨h.i.stop1 hb ho hs,(h.c.setP (x':={x with st:=s}) (.inl ho)).congr rfl rfl,(h.x.setP (x':={x with st:=s}) h.i.g.pn hb rfl Iff.rfl (h.x.un _ hb)).congr rfl rfl rfl (ij (h.i.g.lv _ hb))⟩
theorem mu: ∀(vs:List Int)(x:PS)(i:Nat),(x.poke i vs).used=x.used
 |[],_,_=>rfl
 |v::vs,x,i=>mu vs {x with m:=put x.m i v} (i+1)
theorem nF (S:St)(x:PS)(k:Nat×Nat):(S.carried x k).used=x.used:=by
 unfold St.carried
 split
 ·exact mu _ _ _
 ·split<;>rfl
theorem MI.carry (h:MI P N S)(hb:(b,x)∈S.ps)(ho:S.out b)(hk:k.1<5)(ha:x.r 1+x.r 2<=64)(hc:S.canBeDone x k=true):MI P N (S.carry b x k):=by
 obtain⟨ys,e,_⟩:=fV S b x k;obtain⟨l1,l2,l3,l4,l5⟩:=dF S x k;refine⟨h.i.carry hb ho hk ha hc, ?_, ?_⟩
 ·rw[e];exact(h.c.setP (x':=S.carried x k) (.inl ho)).congr rfl rfl
 ·rw[e];exact(h.x.setP (x':=S.carried x k) h.i.g.pn hb l4 (by rw[l5]) (by rw[nF];exact h.x.un _ hb)).congr rfl rfl rfl
theorem MI.serve (h:MI P N S)(hS:S.serve k=some S'):MI P N S':=by
 obtain⟨b,x,hm,_,hb,hc,rfl⟩:=di hS;obtain⟨ha,hk⟩:=h.i.atRow hm hb;have hd:MI P N (S.depart b k):=h.depart;have ho:(S.depart b k).out b:=by have:=h.i.out_depart hb;rw[ha.f] at this;exact this
 have hI:=MI.carry hd (b:=b) (x:=x) (k:=k) hb ho hk.1.2 ha.a hc
 split
 ·exact hI
 ·rename_i h1;refine hI.wake1 ?_ (by intro e he;exact ho e (by rw[iO] at he;exact he)) (by rw[(dF S x k).1];exact h1);rw[dY];exact ar hb
theorem MI.looks (p:Nat): ∀(n:Nat){S:St},MI P N S->MI P N (St.looks n S p)
 |0,_,h=>h
 |n+1,S,h=>by
  unfold St.looks
  split
  ·exact MI.looks p n (h.serve ‹_›)
  ·split
   ·exact MI.looks p n (h.serve ‹_›)
   ·exact h
theorem MI.shut (h:MI P N S)(hb:(b,x)∈S.ps)(ho:S.out b)(n:Nat):MI P N (S.shut b n):=by
 unfold St.shut;rw[bk h.i.g.pn hb];exact MI.looks _ 16 (h.like (x':={x with f:=put x.f n (0,0)}) hb ho rfl rfl ⟨(h.i.wf _ hb).r,(h.i.wf _ hb).m⟩ (lf (h.i.fl _ hb) (.inl rfl)) rfl rfl (h.x.un (b,x) hb))
theorem MI.shuts (f:Nat->Nat×Nat): ∀(ns:List Nat){S:St}{x:PS},MI P N S->(b,x)∈S.ps->S.out b->MI P N (S.shuts b f ns)
 |[],_,_,h,_,_=>h
 |n::ns,S,x,h,hb,ho=>by
  show MI P N ((if f n=(0,0) then S else S.shut b n).shuts b f ns)
  split
  ·exact MI.shuts f ns h hb ho
  ·have hl:=h.i.shut hb ho n;exact MI.shuts f ns (h.shut hb ho n) (hl.m b _ ho (ar hb)) (hl.o b ho)
theorem MI.orphs (id:Nat)(h1:1<=id): ∀(bs:List Nat){S:St},MI P N S->MI P N (S.orphs id bs)
 |[],S,h=>h
 |b::bs,S,h=>by
  unfold St.orphs;cases hg:S.get b with
  |none=>exact MI.orphs id h1 bs h
  |some y=>
   simp only
   split
   ·rename_i hp;have hb:=bh hg;refine MI.orphs id h1 bs ⟨h.i.alike (x':={y with par:=1}) hb rfl rfl rfl rfl rfl,fun e he c hc z hz hz1=> ?_,h.x.setP h.i.g.pn hb rfl ?_ (h.x.un _ hb)⟩
    ·rcases aO hz with h2|⟨h2,_⟩
     ·cases h2;exact h.c e he _ hc y hb hz1
     ·exact h.c e he c hc z h2 hz1
    ·simp only;constructor
     ·intro e;cases e
     ·intro e;omega
   ·exact MI.orphs id h1 bs h
theorem MI.take (h:MI P N S)(hb:(b,x)∈S.ps)(ho:S.out b){i:Nat}(hc:S.childAt x=some i)(h6:x.st≠6):MI P N (S.take b x i)/\(b,x)∈S.ps.eraseIdx i:=by
 obtain⟨q,hq,hp,hq6⟩:=cU hc;have hI:=h.i.erase (ls:=S.last) (c:=q.1) (y:=q.2) hq hq6;have hci:(b,x)∈S.ps.eraseIdx i:=by
  obtain⟨j,hj⟩:=List.getElem?_of_mem hb;have hji:j≠i:=fun e=>by
   subst e;rw[hj] at hq;simp at hq;rw[<-hq] at hq6;exact h6 hq6
  rw[List.mem_eraseIdx_iff_getElem?];exact⟨j,hji,hj⟩
 have hqm:=List.mem_of_getElem? hq;have hq1:q.2.id≠1:=fun e=>by
  have:=(h.x.p0 q hqm).2 e;have:=(h.x.idr _ hb).1;simp only at this;omega
 have hX:=h.x.erase hq hq1;have e:S.take b x i=({S.setPs (S.ps.eraseIdx i) with last:=S.last}:St).setP b (told x q.2):=by unfold St.take;rw[hq]
 rw[e];have hM:MI P N ({S.setPs (S.ps.eraseIdx i) with last:=S.last}:St):=⟨hI,fun e he c hc y hy h1=>h.c e he c hc y (List.mem_of_mem_eraseIdx hy) h1,hX⟩;exact⟨hM.like (x':=told x q.2) hci ho rfl rfl (yx (h.i.wf _ hb) _) (h.i.fl (b,x) hb) rfl rfl (h.x.un (b,x) hb),hci⟩
theorem MI.parent1 (h:MI P N S)(c:Nat):MI P N (S.parent1 c):=by
 unfold St.parent1;cases hg:S.get c with
 |none=>exact h
 |some x=>
  simp only
  split
  ·rename_i h2;cases hc:S.childAt x with
   |none=>exact h
   |some i=>
    obtain⟨q,hq,_,h6⟩:=cU hc;simp only[hq];have hb:=bh hg;have ho:=h.i.out_st hb (by omega) (by omega) (by omega);obtain⟨hT,hci⟩:=h.take hb ho hc (by omega);have e:S.take c x i=({S.setPs (S.ps.eraseIdx i) with last:=S.last}:St).setP c (told x q.2):=by unfold St.take;rw[hq]
    refine hT.wake1 (x:=told x q.2) ?_ ?_ (by show x.st≠1;omega)
    ·rw[e];exact ar hci
    ·rw[e];exact ho
  ·exact h
theorem MI.parents: ∀(bs:List Nat){S:St},MI P N S->MI P N (S.parents bs)
 |[],_,h=>h
 |c::bs,_,h=>MI.parents bs (h.parent1 c)
theorem MI.fin (h:MI P N S)(hb:(b,x)∈S.ps)(status:Int):MI P N (S.fin b x status):=by
 have ho:=h.i.out_depart hb;have h1:MI P N (S.depart b (x.file (x.r 0))):=h.depart;have hb1:(b,x)∈(S.depart b (x.file (x.r 0))).ps:=hb;have h2:=h1.stop1 hb1 ho (s:=6) (by decide);have hb2:(b,{x with st:=6})∈((S.depart b (x.file (x.r 0))).stop1 b x 6).ps:=ar hb1;have h3:=h2.like (x':={x with st:=6,stat:=status}) hb2 ho rfl rfl ⟨(h.i.wf _ hb).r,(h.i.wf _ hb).m⟩ (h.i.fl (b,x) hb) rfl rfl (h.x.un (b,x) hb);have h4:=MI.shuts (b:=b) x.f (List.range' 0 6) h3 (ar hb2) ho;exact MI.parents _ (MI.orphs _ (h.x.idr _ hb).1 _ h4)
end
def St.move (S:St)(b:Nat)(x x':PS):St:=
 let S1:=(S.setRow x.lv ((S.rows x.lv).erase b)).setP b x'
 S1.setRow x'.lv (S1.rows x'.lv++[b])
section
variable {S S':St}{b:Nat}{x x':PS}{k:Nat×Nat}{P:Nat->Prop}{N:Nat->Nat}
theorem Good.move (h:Good S)(hb:(b,x)∈S.ps)(hs:x.st=1)(hs':x'.st=1)(hl:x'.lv<3):Good (S.move b x x'):=by
 have hlv:=h.lv _ hb;have hin:=h.rr _ hb hs;have rows: ∀l,(S.move b x x').rows l=if l=x'.lv then(if x'.lv=x.lv then(S.rows x.lv).erase b else S.rows x'.lv)++[b] else if l=x.lv then(S.rows x.lv).erase b else S.rows l:=fun l=>rfl;have nin: ∀l,l<3->l≠x.lv->b∉S.rows l:=fun l hl hne hm=>by
  obtain⟨y,hy,h1,_⟩:=h.rm l hl b hm;rw[a6 h.pn hb hy] at hne;exact hne h1.symm
 have ner:b∉(S.rows x.lv).erase b:=List.Nodup.not_mem_erase (h.rn _ hlv);have old: ∀l,l<3-> ∀c,c∈S.rows l->c≠b-> ∃y,(c,y)∈(S.move b x x').ps/\y.lv=l/\y.st=1:=fun l hl c hc hne=>by
  obtain⟨y,hy,h1,h2⟩:=h.rm l hl c hc;exact⟨y,bK (S:=S) hy hne,h1,h2⟩
 refine⟨by show (S.setP b x').ps.map (·.1)|>.Nodup;rw[ba];exact h.pn,by show (S.setP b x').ps.length<=8;rw[fj];exact h.p8,fun q hq=> ?_,fun l hl'=> ?_,fun l hl' c hc=> ?_,fun q hq h1=> ?_⟩
 ·rcases aO (S:=S) hq with rfl|⟨h1,_⟩
  ·exact hl
  ·exact h.lv q h1
 ·rw[rows]
  split
  ·split
   ·refine List.nodup_append.2 ⟨(h.rn _ hlv).sublist List.erase_sublist,by simp,fun a ha c hc=> ?_⟩;simp at hc;subst hc;rintro rfl;exact ner ha
   ·rename_i hne;refine List.nodup_append.2 ⟨h.rn _ hl,by simp,fun a ha c hc=> ?_⟩;simp at hc;subst hc;rintro rfl;exact nin _ hl hne ha
  ·split
   ·exact(h.rn _ hlv).sublist List.erase_sublist
   ·exact h.rn l hl'
 ·rw[rows] at hc
  split at hc
  ·rename_i e;subst e;rcases List.mem_append.1 hc with h1|h1
   ·split at h1
    ·rename_i e;have hne:c≠b:=fun e'=>ner (e'▸h1);obtain⟨y,hy,h2,h3⟩:=old _ hlv c (List.mem_of_mem_erase h1) hne;exact⟨y,hy,h2.trans e.symm,h3⟩
    ·rename_i hne;exact old _ hl c h1 fun e'=>nin _ hl hne (e'▸h1)
   ·simp at h1;subst h1;exact⟨x',ar (S:=S) hb,rfl,hs'⟩
  ·split at hc
   ·rename_i e;subst e;exact old _ hlv c (List.mem_of_mem_erase hc) fun e'=>ner (e'▸hc)
   ·rename_i hne;exact old l hl' c hc fun e'=>nin l hl' hne (e'▸hc)
 ·rw[rows];rcases aO (S:=S) hq with rfl|⟨h2,h3⟩
  ·simp
  ·have:=h.rr q h2 h1
   split
   ·rename_i e;apply List.mem_append_left
    split
    ·rename_i e2;rw[e,e2] at this;exact(List.mem_erase_of_ne h3).2 this
    ·rw[e] at this;exact this
   ·split
    ·rename_i e;rw[e] at this;exact(List.mem_erase_of_ne h3).2 this
    ·exact this
theorem MI.move (h:MI P N S)(hb:(b,x)∈S.ps)(ho:S.out b)(hs:x.st=1)(hs':x'.st=1)(hl:x'.lv<3)(hw:WF x')(hf: ∀i,i<6->x'.f i=(0,0)\/okEnd (x'.f i)) (hid:x'.id=x.id) (hpar:x'.par=x.par) (hu:x'.used<=S.now):MI P N (S.move b x x') where
 i:=
  {g:=h.i.g.move hb hs hs' hl
   wf:=fun q hq=>by
    rcases aO (S:=S) hq with rfl|⟨h1,_⟩
    ·exact hw
    ·exact h.i.wf q h1
   fl:=fun q hq=>by
    rcases aO (S:=S) hq with rfl|⟨h1,_⟩
    ·exact hf
    ·exact h.i.fl q h1
   y8:=h.i.y8,yb:=h.i.yb,kn:=h.i.kn,ne:=h.i.ne,nd:=h.i.nd,ke:=h.i.ke
   rm:=fun e he c hc=>by
    obtain⟨y,hy,ha⟩:=h.i.rm e he c hc;exact⟨y,bK (S:=S) hy (by rintro rfl;exact ho e he hc),ha⟩}
 c:=(h.c.setP (x':=x') (.inl ho)).congr rfl rfl
 x:=(h.x.setP (x':=x') h.i.g.pn hb hid (by rw[hpar]) hu).congr rfl rfl rfl fun l hl'=>(ij hl l hl').trans (ij (h.i.g.lv _ hb) l hl')
theorem MI.out (h:MI (fun _=>False) N S)(hb:(b,x)∈S.ps)(hs:x.st=1):S.out b:=fun e he hm=>h.c e he b hm x hb hs
theorem MI.yield1 (h:MI P N S)(hb:(b,x)∈S.ps)(ho:S.out b)(hs:x.st=1):MI P N (S.yield1 b x):=
 h.move (x':=x.r0 0) hb ho hs hs (h.i.g.lv (b,x) hb) (fE (h.i.wf _ hb) (by omega)) (h.i.fl (b,x) hb) rfl rfl (h.x.un (b,x) hb)
theorem MI.sleep1 (h:MI P N S)(hb:(b,x)∈S.ps)(ho:S.out b):MI P N (S.sleep1 b x):=by
 unfold St.sleep1
 split
 ·exact h.r0 hb ho (by omega)
 ·have h1:=h.like (x':={x.r0 0 with til:=(S.now:Int)+x.r 0}) hb ho rfl rfl ⟨(fE (h.i.wf _ hb) (v:=0) (by omega)).r,(h.i.wf _ hb).m⟩ (h.i.fl (b,x) hb) rfl rfl (h.x.un (b,x) hb);exact h1.stop1 (ar hb) ho (by decide)
theorem MI.waitR (h:MI P N S)(hb:(b,x)∈S.ps)(ho:S.out b)(hs:x.st=1):MI P N (S.waitR b x).2:=by
 unfold St.waitR
 split
 ·simp only
  split
  ·exact(h.take hb ho ‹_› (by omega)).1
  ·exact h.stop1 hb ho (by decide)
 ·exact h
theorem MI.r0' (h:MI P N S)(ho: ∀z,(b,z)∈S.ps->S.out b) {v:Int} (hv:0<=v/\v<65536):MI P N (S.r0 b v):=by
 unfold St.r0;cases hg:S.get b with
 |none=>exact h
 |some z=>exact h.r0 (bh hg) (ho z (bh hg)) hv
theorem MI.pipeR (h:MI P N S)(hb:(b,x)∈S.ps)(ho:S.out b):MI P N (S.pipeR b x).2:=by
 unfold St.pipeR
 split
 ·exact h
 ·rename_i hu
  split
  ·rename_i i j l hl;have hlt: ∀i∈x.frees 6,i<6:=fun i hi=>by
    unfold PS.frees at hi;simpa using (List.mem_filter.1 hi).1
   have hi:=hlt i (by rw[hl];simp);have hj:=hlt j (by rw[hl];simp);have hu5:=tM S;have h1:=h.setY (i:=S.unused) (ys:=[]) (by simp) (by simp);refine h1.like (x':=x.piped S.unused i j) hb ho rfl rfl ⟨fun n hn=> ?_,(h.i.wf _ hb).m⟩ ?_ rfl rfl (h.x.un (b,x) hb)
   ·show 0<=put (put x.r 0 (i:Int)) 1 (j:Int) n/\put (put x.r 0 (i:Int)) 1 (j:Int) n<65536;have:=(h.i.wf _ hb).r n hn;unfold put
    split
    ·omega
    ·split
     ·omega
     ·exact this
   ·exact lf (x:={x with f:=put x.f i (S.unused,4)}) (lf (h.i.fl (b,x) hb) (.inr ⟨⟨by simp only;omega,hu5⟩, .inl rfl⟩)) (.inr ⟨⟨by simp only;omega,hu5⟩, .inr rfl⟩)
  ·exact h
theorem MI.closeR (h:MI P N S)(hb:(b,x)∈S.ps)(ho:S.out b):MI P N (S.closeR b x).2:=by
 unfold St.closeR
 split
 ·exact h
 ·exact(h.shut hb ho _).r0' (fun z hz=>(h.i.shut hb ho _).o b ho) (by omega)
theorem MI.taken (h:MI P N S){c:Nat}{y:PS}(hc: ∀q∈S.ps,c≠q.1) (h8:S.ps.length<8) (hs:y.st=0) (hl:y.lv<3) (hw:WF y) (hf: ∀i,i<6->y.f i=(0,0)\/okEnd (y.f i)) (hp:y.par≠0) (hu:y.used<=S.now) (hN:N c=S.last+1):MI P N (S.taken c y)/\(S.taken c y).out c:=by
 have cs: ∀q∈(S.taken c y).ps,q∈S.ps\/q=(c,{y with id:=S.last+1}):=fun q hq=>by
  rcases List.mem_append.1 hq with h|h
  ·exact .inl h
  ·exact .inr (by simpa using h)
 have ho:(S.taken c y).out c:=fun e he hm=>by
  obtain⟨z,hz,_⟩:=h.i.rm e he c hm;exact hc _ hz rfl
 refine⟨⟨{g:= ?_,wf:= ?_,fl:= ?_,y8:=h.i.y8,yb:=h.i.yb,kn:=h.i.kn,ne:=h.i.ne,nd:=h.i.nd,ke:=h.i.ke,rm:= ?_}, ?_,h.x.taken hc hp hu hN⟩,ho⟩
 ·refine⟨?_,by show (S.ps++[_]).length<=8;simp;omega,fun q hq=> ?_,h.i.g.rn,fun l hl c' hc'=> ?_,fun q hq h1=> ?_⟩
  ·show ((S.ps++[(c,_)]).map (fun q:Nat×PS=>q.1)).Nodup;rw[List.map_append];refine List.nodup_append.2 ⟨h.i.g.pn,by simp,fun u hu v hv=> ?_⟩;simp at hv;subst hv;rintro rfl;obtain⟨q,hq,e⟩:=List.mem_map.1 hu;exact hc q hq e.symm
  ·rcases cs q hq with h1|rfl
   ·exact h.i.g.lv q h1
   ·exact hl
  ·obtain⟨z,hz,h1,h2⟩:=h.i.g.rm l hl c' hc';exact⟨z,List.mem_append_left _ hz,h1,h2⟩
  ·rcases cs q hq with h2|rfl
   ·exact h.i.g.rr q h2 h1
   ·simp only at h1;omega
 ·intro q hq;rcases cs q hq with h1|rfl
  ·exact h.i.wf q h1
  ·exact⟨hw.r,hw.m⟩
 ·intro q hq;rcases cs q hq with h1|rfl
  ·exact h.i.fl q h1
  ·exact hf
 ·intro e he c' hc';obtain⟨z,hz,ha⟩:=h.i.rm e he c' hc';exact⟨z,List.mem_append_left _ hz,ha⟩
 ·intro e he c' hc' z hz h1;rcases cs _ hz with h2|h2
  ·exact h.c e he c' hc' z h2 h1
  ·have e2:z={y with id:=S.last+1}:=congrArg Prod.snd h2;rw[e2] at h1;simp only at h1;omega
theorem MI.forkS (h:MI P N S)(hb:(b,x)∈S.ps)(ho:S.out b){c:Nat}(hc: ∀q∈S.ps,c≠q.1) (h8:S.ps.length<8) (hN:N c=S.last+1):MI P N (S.forkS b x c):=by
 have hw:=h.i.wf _ hb;have hid:=(h.x.idr _ hb).1;obtain⟨h1,ho1⟩:=h.taken (y:=x.copy.r0 0) hc h8 rfl (by show 0<3;omega) (fE (x:=x.copy) (v:=0) ⟨hw.r,hw.m⟩ (by omega)) (h.i.fl (b,x) hb) (by show x.id≠0;simp only at hid;omega) (Nat.zero_le _) hN;have hcm:(c,{x.copy.r0 0 with id:=S.last+1})∈(S.taken c (x.copy.r0 0)).ps:=List.mem_append_right _ List.mem_cons_self;have h2:=h1.wake1 hcm ho1 (by show (0:Nat)≠1;omega);have hbc:b≠c:=fun e=>hc _ hb e.symm;have hb2:(b,x)∈(S.adopt c (x.copy.r0 0)).ps:=bK (List.mem_append_left _ hb) hbc;exact h2.r0 hb2 ho (by omega)
def Shr (S S':St):Prop:= ∀e∈S'.wt,∃e'∈S.wt,e'.1=e.1/\ ∀c∈e.2,c∈e'.2
theorem Shr.refl (S:St):Shr S S:=fun e he=>⟨e,he,rfl,fun _ h=>h⟩
theorem Shr.trans {S T U:St}(h:Shr S T)(k:Shr T U):Shr S U:=fun e he=>by
 obtain⟨e1,h1,h2,h3⟩:=k e he;obtain⟨e2,h4,h5,h6⟩:=h e1 h1;exact⟨e2,h4,h5.trans h2,fun c hc=>h6 c (h3 c hc)⟩
theorem mw (hS:S.serve k=some S'):Shr S S':=fun e he=>by
 obtain⟨b,hh,hw⟩:=pE hS;rw[hw] at he;rcases cu he with ⟨h1,_⟩|⟨h2,_,xs,h3,h4⟩
 ·exact⟨e,h1,rfl,fun _ h=>h⟩
 ·exact⟨(k,xs),h3,h2.symm,fun c hc=>by rw[h4] at hc;exact(List.mem_filter.1 hc).1⟩
theorem gC (p:Nat): ∀(n:Nat)(S:St),Shr S (St.looks n S p)
 |0,S=>Shr.refl S
 |n+1,S=>by
  unfold St.looks
  split
  ·exact(mw ‹_›).trans (gC p n _)
  ·split
   ·exact(mw ‹_›).trans (gC p n _)
   ·exact Shr.refl S
theorem vY {e:(Nat×Nat)×List Nat}(hn:(S.wt.map (·.1)).Nodup)(ho:S.out b)(he:e∈(S.joinW b k).wt)(hm:b∈e.2):e.1=k:=by
 by_cases hk: ∀e∈S.wt,e.1≠k
 ·have e1:(S.joinW b k).wt=S.wt++[(k,[b])]:=ii hk;rw[e1] at he;rcases List.mem_append.1 he with h2|h2
  ·exact absurd hm (ho e h2)
  ·simp at h2;rw[h2]
 ·have hk':k∈S.wt.map (·.1):=Decidable.byContradiction fun hn'=>hk fun e he e1=>hn' (List.mem_map.2 ⟨e,he,e1⟩);obtain⟨l1,ys,l2,hl,q1,q2⟩:=gB hn hk';have e1:(S.joinW b k).wt=l1++(k,ys++[b])::l2:=by show rowJoin b k S.wt=_;rw[hl,li q1 q2]
  rw[e1] at he;rcases List.mem_append.1 he with h2|h2
  ·exact absurd hm (ho e (by rw[hl];simp[h2]))
  ·rcases List.mem_cons.1 h2 with rfl|h2
   ·rfl
   ·exact absurd hm (ho e (by rw[hl];simp[h2]))
theorem MI.askR (h:MI (fun _=>False) N S)(hb:(b,x)∈S.ps)(hs:x.st=1){use most:Nat}(hu:use=4\/use=5)(hm:use=5->most<=8):MI (fun _=>False) N (S.askR b x use most).2:=by
 have ho:=h.out hb hs;unfold St.askR;cases hc:x.checkUse use most with
 |some i=>exact h
 |none=>
  obtain⟨c1,c2,c3⟩:=jT hc;have hk:okEnd (x.file (x.r 0)):=(h.i.file_ok hb _).resolve_left fun e=>by rw[e] at c1;simp only at c1;omega
  have hj:MI (· =b) N (S.joinW b (x.file (x.r 0))):=⟨h.i.joinW hb ho ⟨rfl,c3,fun h5=>by rw[h5] at c1;have:=hm c1.symm;omega, .inl hs⟩ hk,(h.c.out_mono fun c hc=>hc.elim).join rfl h.i.kn,h.x.congr rfl rfl rfl⟩;have h2:MI (· =b) N ((S.joinW b (x.file (x.r 0))).look (x.file (x.r 0)).1):=MI.looks _ 16 hj;have hrow: ∀e∈((S.joinW b (x.file (x.r 0))).look (x.file (x.r 0)).1).wt,b∈e.2->e.1=x.file (x.r 0):=fun e he hme=>by
   obtain⟨e',h3,h4,h5⟩:=gC _ _ _ e he;rw[<-h4];exact vY h.i.kn ho h3 (h5 b hme)
  generalize hS2:(S.joinW b (x.file (x.r 0))).look (x.file (x.r 0)).1=S2 at*;generalize hkk:x.file (x.r 0)=k at*;simp only
  split
  ·rename_i hin;have hfst:b∈S2.ps.map (·.1):=by
    obtain⟨xs,q1,q2⟩:=jz hin;obtain⟨y,hy,_⟩:=h2.i.rm _ q1 b (by rw[q2];exact hin);exact nE hy
   obtain⟨z,hz⟩:=jB hfst;rw[bk h2.i.g.pn hz];simp only;have hask:=(h2.i.atRow hin hz).1;refine⟨{g:=h2.i.g.stop1 hz (by omega),wf:= ?_,fl:= ?_,y8:=h2.i.y8,yb:=h2.i.yb,kn:=h2.i.kn,ne:=h2.i.ne,nd:=h2.i.nd,ke:=h2.i.ke,rm:= ?_}, ?_, ?_⟩
   ·intro q hq;rcases aO hq with rfl|⟨h3,_⟩
    ·exact⟨(h2.i.wf _ hz).r,(h2.i.wf _ hz).m⟩
    ·exact h2.i.wf q h3
   ·intro q hq;rcases aO hq with rfl|⟨h3,_⟩
    ·exact h2.i.fl (b,z) hz
    ·exact h2.i.fl q h3
   ·intro e he c hce;obtain⟨y,hy,ha⟩:=h2.i.rm e he c hce;by_cases ecb:c=b
    ·subst ecb;obtain rfl:=a6 h2.i.g.pn hz hy;refine⟨{z with st:=use},ar hz,ha.f,ha.a,ha.w, .inr ?_⟩;show use=e.1.2;rw[hrow e he hce,c1]
    ·exact⟨y,bK hy ecb,ha⟩
   ·intro e he c hce y hy h1;rcases aO hy with h3|⟨h3,h4⟩
    ·have e3:y={z with st:=use}:=congrArg Prod.snd h3;rw[e3] at h1;simp only at h1;omega
    ·exact h4 (h2.c e he c hce y h3 h1)
   ·exact(h2.x.setP (x':={z with st:=use}) h2.i.g.pn hz rfl Iff.rfl (h2.x.un (b,z) hz)).congr rfl rfl rfl (ij (h2.i.g.lv _ hz))
  ·rename_i hnin;refine⟨h2.i,fun e he c hce y hy h1=> ?_,h2.x⟩;have ecb:=h2.c e he c hce y hy h1;subst ecb;have:=hrow e he hce;refine hnin ?_;have e5:(k,e.2)∈S2.wt:=by rw[<-this];exact he
   rw[vL h2.i.kn e5];exact hce
end
structure FixL (S S':St):Prop extends Fix S S' where
 last:S'.last=S.last
theorem FixL.refl (S:St):FixL S S:=⟨Fix.refl S,rfl⟩
theorem FixL.trans {S T U:St}(h:FixL S T)(k:FixL T U):FixL S U:=⟨h.toFix.trans k.toFix,k.last.trans h.last⟩
theorem d9 {S S':St}(h1:S'.sl=S.sl)(h2:S'.bo=S.bo)(h3:S'.pn=S.pn)(h4:S'.pg=S.pg)(h5:S'.now=S.now)(h6:S'.last=S.last):FixL S S':=⟨⟨h1,h2,h3,h4,h5⟩,h6⟩
theorem dR (S:St)(b:Nat)(x:PS):FixL S (S.setP b x):=d9 rfl rfl rfl rfl rfl rfl
theorem pH (S:St)(b:Nat)(x:PS)(s:Nat):FixL S (S.stop1 b x s):=d9 rfl rfl rfl rfl rfl rfl
theorem pJ (S:St)(b:Nat)(x:PS):FixL S (S.wake1 b x):=d9 rfl rfl rfl rfl rfl rfl
theorem pK (S:St)(b:Nat)(v:Int):FixL S (S.r0 b v):=by
 unfold St.r0
 split
 ·exact dR S b _
 ·exact FixL.refl S
theorem vZ (S:St)(b:Nat)(x:PS)(k:Nat×Nat):FixL S (S.carry b x k):=by
 obtain⟨ys,e,_⟩:=fV S b x k;rw[e];exact d9 rfl rfl rfl rfl rfl rfl
theorem pL {S S':St}{k:Nat×Nat}(h:S.serve k=some S'):FixL S S':=by
 obtain⟨b,x,_,_,_,_,rfl⟩:=di h;have h1:FixL S ((S.depart b k).carry b x k):=FixL.trans (T:=S.depart b k) (d9 rfl rfl rfl rfl rfl rfl) (vZ (S.depart b k) b x k)
 split
 ·exact h1
 ·exact h1.trans (pJ _ _ _)
theorem iP (p:Nat): ∀(n:Nat)(S:St),FixL S (St.looks n S p)
 |0,S=>FixL.refl S
 |n+1,S=>by
  unfold St.looks
  split
  ·exact(pL ‹_›).trans (iP p n _)
  ·split
   ·exact(pL ‹_›).trans (iP p n _)
   ·exact FixL.refl S
theorem sf (S:St)(b n:Nat):FixL S (S.shut b n):=by
 unfold St.shut
 split
 ·exact(dR S b _).trans (iP _ 16 _)
 ·exact FixL.refl S
theorem lj (b:Nat)(f:Nat->Nat×Nat): ∀(ns:List Nat)(S:St),FixL S (S.shuts b f ns)
 |[],S=>FixL.refl S
 |n::ns,S=>by
  show FixL S ((if f n=(0,0) then S else S.shut b n).shuts b f ns)
  split
  ·exact lj b f ns S
  ·exact(sf S b n).trans (lj b f ns _)
theorem pM (id:Nat): ∀(bs:List Nat)(S:St),FixL S (S.orphs id bs)
 |[],S=>FixL.refl S
 |b::bs,S=>by
  unfold St.orphs;refine FixL.trans ?_ (pM id bs _)
  split
  ·split
   ·exact dR S b _
   ·exact FixL.refl S
  ·exact FixL.refl S
theorem sg (S:St)(b:Nat)(x:PS)(i:Nat):FixL S (S.take b x i):=by
 unfold St.take
 split
 ·exact d9 rfl rfl rfl rfl rfl rfl
 ·exact FixL.refl S
theorem rg (S:St)(b:Nat):FixL S (S.parent1 b):=by
 unfold St.parent1
 split
 ·split
  ·split
   ·split
    ·exact(sg S b _ _).trans (pJ _ _ _)
    ·exact FixL.refl S
   ·exact FixL.refl S
  ·exact FixL.refl S
 ·exact FixL.refl S
theorem ll: ∀(bs:List Nat)(S:St),FixL S (S.parents bs)
 |[],S=>FixL.refl S
 |b::bs,S=>(rg S b).trans (ll bs _)
theorem jC (S:St)(b:Nat)(x:PS)(status:Int):FixL S (S.fin b x status):=by
 unfold St.fin;refine FixL.trans ?_ (ll _ _);refine FixL.trans ?_ (pM _ _ _);refine FixL.trans ?_ (lj b x.f _ _);exact d9 rfl rfl rfl rfl rfl rfl
theorem mz (S:St)(b:Nat)(x:PS):FixL S (S.sleep1 b x):=by
 unfold St.sleep1
 split<;>exact d9 rfl rfl rfl rfl rfl rfl
theorem pO (S:St)(b:Nat)(x:PS):FixL S (S.waitR b x).2:=by
 unfold St.waitR
 split
 ·simp only
  split
  ·exact sg S b x _
  ·exact pH S b x 2
 ·exact FixL.refl S
theorem pP (S:St)(b:Nat)(x:PS):FixL S (S.pipeR b x).2:=by
 unfold St.pipeR
 split
 ·exact FixL.refl S
 ·split
  ·exact d9 rfl rfl rfl rfl rfl rfl
  ·exact FixL.refl S
theorem mA (S:St)(b:Nat)(x:PS):FixL S (S.closeR b x).2:=by
 unfold St.closeR
 split
 ·exact FixL.refl S
 ·exact(sf S b _).trans (pK _ b 0)
theorem kr (S:St)(b:Nat)(x:PS)(use most:Nat):FixL S (S.askR b x use most).2:=by
 unfold St.askR
 split
 ·exact FixL.refl S
 ·have h1:FixL S ((S.joinW b (x.file (x.r 0))).look (x.file (x.r 0)).1):=FixL.trans (T:=S.joinW b (x.file (x.r 0))) (d9 rfl rfl rfl rfl rfl rfl) (iP _ 16 _);simp only
  split
  ·split
   ·exact h1.trans (pH _ _ _ _)
   ·exact h1
  ·exact h1
theorem iQ (S:St)(b:Nat):FixL S (S.after b):=by
 unfold St.after
 split
 ·split
  ·rename_i z _ _;refine(dR S b z.more).trans ?_;unfold St.turn
   split
   ·exact FixL.refl _
   ·exact d9 rfl rfl rfl rfl rfl rfl
  ·exact dR S b _
 ·exact FixL.refl S
theorem iR (Q:St->Prop){S:St}{b:Nat}{x:PS}{m:Int}{c:Nat}(h0:Q (S.fin b x (x.r 0)))(h1:S.ps.length<8->Q (S.forkS b x c))(h2:Q (S.waitR b x).2)(h3: ∀q,S.find (x.r 0)=some q->q.2.st≠6->Q ((S.fin q.1 q.2 65280).r0 b 0)) (h4:Q (S.sleep1 b x)) (h5:Q (S.yield1 b x)) (h6:Q (S.setP b (x.r0 ((x.id:Int)%65536)))) (h7:Q (S.pipeR b x).2) (h8:Q (S.closeR b x).2) (h9:Q (S.askR b x 4 64).2) (h10:Q (S.askR b x 5 8).2) (h11:Q (S.setP b (x.r0 0))) (hS:Q S):Q (S.grantS b x m c):=by
 unfold St.grantS;by_cases e0:m=0
 ·rw[if_pos e0];exact h0
 rw[if_neg e0];by_cases e1:m=1
 ·rw[if_pos e1];by_cases e:8<=S.ps.length
  ·rw[if_pos e];exact hS
  ·rw[if_neg e];exact h1 (by omega)
 rw[if_neg e1];by_cases e2:m=2
 ·rw[if_pos e2];exact h2
 rw[if_neg e2];by_cases e3:m=3
 ·rw[if_pos e3];cases hf:S.find (x.r 0) with
  |none=>exact hS
  |some q=>
   simp only;by_cases e:q.2.st=6
   ·rw[if_pos e];exact hS
   ·rw[if_neg e];exact h3 q hf e
 rw[if_neg e3];by_cases e4:m=4
 ·rw[if_pos e4];exact h4
 rw[if_neg e4];by_cases e5:m=5
 ·rw[if_pos e5];exact h5
 rw[if_neg e5];by_cases e6:m=6
 ·rw[if_pos e6];exact h6
 rw[if_neg e6];by_cases e7:m=7
 ·rw[if_pos e7];exact h7
 rw[if_neg e7];by_cases e8:m=8
 ·rw[if_pos e8];exact h8
 rw[if_neg e8];by_cases e9:m=9
 ·rw[if_pos e9];exact h9
 rw[if_neg e9];by_cases e10:m=10
 ·rw[if_pos e10];exact h10
 rw[if_neg e10];by_cases e11:m=11
 ·rw[if_pos e11];exact h11
 rw[if_neg e11];exact hS
theorem tS (S:St)(b:Nat)(x:PS)(m:Int)(c:Nat):Fix S (S.grantS b x m c)/\(S.grantS b x m c).last<=S.last+1:=by
 have lift: ∀{T:St},FixL S T->Fix S T/\T.last<=S.last+1:=fun h=>⟨h.toFix,by rw[h.last];omega⟩;exact iR (fun T=>Fix S T/\T.last<=S.last+1) (lift (jC S b x _)) (fun _=>⟨⟨rfl,rfl,rfl,rfl,rfl⟩,Nat.le_refl _⟩) (lift (pO S b x)) (fun q _ _=>lift ((jC S q.1 q.2 _).trans (pK _ b 0))) (lift (mz S b x)) (lift (d9 rfl rfl rfl rfl rfl rfl)) (lift (dR S b _)) (lift (pP S b x)) (lift (mA S b x)) (lift (kr S b x 4 64)) (lift (kr S b x 5 8)) (lift (dR S b _)) (lift (FixL.refl S))
theorem lm (Q:St->Prop){S:St}{b:Nat}{x:PS}{c:Nat}(h0:Q (S.fin b x 65281))(h1: ∀i,(S.setP b x.next).grantV b x.next (S.pg x.at_ 1)=some i->Q (((S.setP b x.next).grantS b x.next (S.pg x.at_ 1) c).r0 b (ansOf i))) (h2:(S.setP b x.next).grantV b x.next (S.pg x.at_ 1)=none->Q ((S.setP b x.next).grantS b x.next (S.pg x.at_ 1) c)) (h3: ∀x',x.at_<S.pn->S.doR x= .ok x'->Q (S.setP b x')):Q (S.runS b x c):=by
 unfold St.runS;by_cases e0:S.pn<=x.at_
 ·rw[if_pos e0];exact h0
 rw[if_neg e0];by_cases e1:S.pg x.at_ 0=9
 ·rw[if_pos e1];cases hV:(S.setP b x.next).grantV b x.next (S.pg x.at_ 1) with
  |none=>exact h2 hV
  |some i=>exact h1 i hV
 rw[if_neg e1];cases hd:S.doR x with
 |ok x'=>exact h3 x' (by omega) hd
 |error e=>exact h0
theorem iS (S:St)(b:Nat)(x:PS)(c:Nat):Fix S (S.runS b x c)/\(S.runS b x c).last<=S.last+1:=by
 have lift: ∀{T:St},FixL S T->Fix S T/\T.last<=S.last+1:=fun h=>⟨h.toFix,by rw[h.last];omega⟩;have hg:=tS (S.setP b x.next) b x.next (S.pg x.at_ 1) c
 refine lm (fun T=>Fix S T/\T.last<=S.last+1) (lift (jC S b x _)) (fun i _=> ?_) (fun _=>⟨(dR S b x.next).toFix.trans hg.1,hg.2⟩) fun x' _ _=>lift (dR S b _);have h:=pK ((S.setP b x.next).grantS b x.next (S.pg x.at_ 1) c) b (ansOf i);exact⟨(dR S b x.next).toFix.trans (hg.1.trans h.toFix),by rw[h.last];exact hg.2⟩
section
variable {S S':St}{b:Nat}{x x':PS}{k:Nat×Nat}{P:Nat->Prop}{N:Nat->Nat}
theorem Shr.out (h:Shr S S')(ho:S.out b):S'.out b:=fun e he hm=>by
 obtain⟨e',h1,_,h3⟩:=h e he;exact ho e' h1 (h3 b hm)
theorem AR:Shr S (S.depart b k):=fun e he=>by
 rcases cu he with ⟨h1,_⟩|⟨h2,_,xs,h3,h4⟩
 ·exact⟨e,h1,rfl,fun _ h=>h⟩
 ·exact⟨(k,xs),h3,h2.symm,fun c hc=>by rw[h4] at hc;exact(List.mem_filter.1 hc).1⟩
theorem nG (h:S'.wt=S.wt):Shr S S':=fun e he=>⟨e,by rw[<-h];exact he,rfl,fun _ h=>h⟩
theorem jD (b:Nat)(f:Nat->Nat×Nat): ∀(ns:List Nat)(S:St),Shr S (S.shuts b f ns)
 |[],S=>Shr.refl S
 |n::ns,S=>by
  show Shr S ((if f n=(0,0) then S else S.shut b n).shuts b f ns)
  split
  ·exact jD b f ns S
  ·refine Shr.trans ?_ (jD b f ns _);unfold St.shut
   split
   ·exact(nG (S':=S.setP b _) rfl).trans (gC _ 16 _)
   ·exact Shr.refl S
theorem pQ (id:Nat): ∀(bs:List Nat)(S:St),(S.orphs id bs).wt=S.wt
 |[],S=>rfl
 |b::bs,S=>by
  unfold St.orphs;rw[pQ id bs]
  split
  ·split<;>rfl
  ·rfl
theorem rh (S:St)(c:Nat):(S.parent1 c).wt=S.wt:=by
 unfold St.parent1
 split
 ·split
  ·split
   ·split
    ·show (S.take c _ _).wt=_;unfold St.take
     split<;>rfl
    ·rfl
   ·rfl
  ·rfl
 ·rfl
theorem ln: ∀(bs:List Nat)(S:St),(S.parents bs).wt=S.wt
 |[],_=>rfl
 |c::bs,S=>by
  show ((S.parent1 c).parents bs).wt=_;rw[ln bs,rh]
theorem yJ (S:St)(b:Nat)(x:PS)(status:Int):Shr S (S.fin b x status):=by
 unfold St.fin;refine Shr.trans ?_ (nG (ln _ _));refine Shr.trans ?_ (nG (pQ _ _ _));refine Shr.trans ?_ (jD b x.f _ _);exact AR.trans (nG rfl)
theorem MI.grantS (h:MI (fun _=>False) N S)(hb:(b,x)∈S.ps)(hs:x.st=1){c:Nat}(hc: ∀q∈S.ps,c≠q.1) (hN:N c=S.last+1) (m:Int):MI (fun _=>False) N (S.grantS b x m c):=by
 have ho:=h.out hb hs;have wx:=(h.i.wf _ hb).r 0 (by omega);exact iR (MI (fun _=>False) N) (h.fin hb _) (fun h8=>h.forkS hb ho hc h8 hN) (h.waitR hb ho hs) (fun q hf _=>(h.fin (b:=q.1) (x:=q.2) (dH hf).1 _).r0' (fun z hz=>(yJ S q.1 q.2 _).out ho) (by omega)) (h.sleep1 hb ho) (h.yield1 hb ho hs) (h.r0 hb ho (by omega)) (h.pipeR hb ho) (h.closeR hb ho) (h.askR hb hs (.inl rfl) (by omega)) (h.askR hb hs (.inr rfl) (by omega)) (h.r0 hb ho (by omega)) h
theorem nH {op a c d:Int}(hw:WF x)(hc:0<=c/\c<256)(hd:0<=d/\d<256)(h:x.do op a c d= .ok x'):x'.st=x.st/\x'.lv=x.lv/\x'.id=x.id/\x'.par=x.par/\x'.used=x.used/\x'.f=x.f/\WF x':=by
 have hr: ∀v:Int,0<=v/\v<65536-> ∀i,WF {x with at_:=x.at_+1,r:=put x.r i v}:=fun v hv i=>⟨fun j hj=>by
  show 0<=put x.r i v j/\put x.r i v j<65536;unfold put;split
  ·exact hv
  ·exact hw.r j hj,hw.m⟩
 have ha8:(a%8).toNat<8:=by omega
 have hc8:(c%8).toNat<8:=by omega
 have wa:=hw.r _ ha8;have wc:=hw.r _ hc8;unfold PS.do at h
 simp only at h;by_cases e1:op=1
 ·rw[if_pos e1] at h;cases h;exact⟨rfl,rfl,rfl,rfl,rfl,rfl,hr _ (by omega) _⟩
 rw[if_neg e1] at h;by_cases e2:op=2
 ·rw[if_pos e2] at h;cases h;exact⟨rfl,rfl,rfl,rfl,rfl,rfl,hr _ wc _⟩
 rw[if_neg e2] at h;by_cases e3:op=3
 ·rw[if_pos e3] at h;cases h;exact⟨rfl,rfl,rfl,rfl,rfl,rfl,hr _ (by omega) _⟩
 rw[if_neg e3] at h;by_cases e4:op=4
 ·rw[if_pos e4] at h;cases h;exact⟨rfl,rfl,rfl,rfl,rfl,rfl,hr _ (by omega) _⟩
 rw[if_neg e4] at h;by_cases e5:op=5
 ·rw[if_pos e5] at h;cases h;exact⟨rfl,rfl,rfl,rfl,rfl,rfl,⟨hw.r,hw.m⟩⟩
 rw[if_neg e5] at h;by_cases e6:op=6
 ·rw[if_pos e6] at h;cases h;exact⟨rfl,rfl,rfl,rfl,rfl,rfl,⟨hw.r,hw.m⟩⟩
 rw[if_neg e6] at h;by_cases e7:op=7
 ·rw[if_pos e7] at h
  split at h
  ·rename_i hlt;have:=hw.m (x.r (c%8).toNat+d).toNat (by omega);cases h;exact⟨rfl,rfl,rfl,rfl,rfl,rfl,hr _ (by omega) _⟩
  ·cases h
 rw[if_neg e7] at h;by_cases e8:op=8
 ·rw[if_pos e8] at h
  split at h
  ·rename_i hlt;cases h;refine⟨rfl,rfl,rfl,rfl,rfl,rfl,hw.r,fun j hj=> ?_⟩;show 0<=put x.m (x.r (c%8).toNat+d).toNat (x.r (a%8).toNat%256) j/\put x.m (x.r (c%8).toNat+d).toNat (x.r (a%8).toNat%256) j<256;unfold put;split
   ·omega
   ·exact hw.m j hj
  ·cases h
 rw[if_neg e8] at h;cases h
def Coded (S:St):Prop:=S.pn<=256/\ ∀i,i<S.pn-> ∀j,j<4->0<=S.pg i j/\S.pg i j<256
theorem MI.runS (h:MI (fun _=>False) N S)(hp:Coded S)(hb:(b,x)∈S.ps)(hs:x.st=1){c:Nat}(hc: ∀q∈S.ps,c≠q.1) (hN:N c=S.last+1):MI (fun _=>False) N (S.runS b x c):=by
 have ho:=h.out hb hs;have h1:MI (fun _=>False) N (S.setP b x.next):=h.like (x':=x.next) hb ho rfl rfl ⟨(h.i.wf _ hb).r,(h.i.wf _ hb).m⟩ (h.i.fl (b,x) hb) rfl rfl (h.x.un (b,x) hb);have hb1:(b,x.next)∈(S.setP b x.next).ps:=ar hb;have hc1: ∀q∈(S.setP b x.next).ps,c≠q.1:=fun q hq=>by
  rcases aO hq with rfl|⟨h2,_⟩
  ·exact hc (b,x) hb
  ·exact hc q h2
 have hg:=h1.grantS hb1 hs hc1 hN (S.pg x.at_ 1);refine lm (MI (fun _=>False) N) (h.fin hb _) (fun i hV=> ?_) (fun _=>hg) fun x' hlt hd=> ?_
 ·obtain⟨hsame,_⟩:=mt hV;rw[hsame];exact h1.r0' (fun _ _=>ho) (vM i)
 ·have hby:=hp.2 _ hlt;obtain⟨l1,l2,l3,l4,l5,l6,l7⟩:=nH (h.i.wf _ hb) (hby 2 (by omega)) (hby 3 (by omega)) hd;exact h.like hb ho l1 l2 l7 (by rw[l6];exact h.i.fl (b,x) hb) l3 l4 (by rw[l5];exact h.x.un (b,x) hb)
end
section
variable {S S':St}{b:Nat}{x x':PS}{P:Nat->Prop}{N:Nat->Nat}
theorem MI.wakes: ∀(bs:List Nat){S:St},MI P N S->MI P N (S.wakes bs)
 |[],_,h=>h
 |b::bs,S,h=>by
  unfold St.wakes;refine MI.wakes bs ?_;cases hg:S.get b with
  |none=>exact h
  |some x=>
   simp only
   split
   ·rename_i h3;have hb:=bh hg;exact h.wake1 hb (h.i.out_st hb (by omega) (by omega) (by omega)) (by omega)
   ·exact h
theorem dQ (S:St): ∀n,(S.raises n).ps=S.ps/\(S.raises n).wt=S.wt/\(S.raises n).by_=S.by_/\(S.raises n).last=S.last/\(S.raises n).now=S.now
 |0=>⟨rfl,rfl,rfl,rfl,rfl⟩
 |n+1=>dQ S n
theorem mB (S:St)(h: ∀l,3<=l->S.rows l=[]): ∀n,n<3-> ∀l,3<=l->(S.raises n).rows l=[]
 |0,_=>h
 |n+1,hn=>fun l hl=>by
  show put (put (S.raises n).rows 0 _) (n+1) [] l=[];rw[ij hn l hl,ij (by omega) l hl];exact mB S h n (by omega) l hl
theorem bV (x:PS):(liftP x).st=x.st/\(liftP x).id=x.id/\(liftP x).par=x.par/\(liftP x).r=x.r/\(liftP x).m=x.m/\(liftP x).f=x.f/\(liftP x).used<=x.used:=by
 unfold liftP
 split
 ·exact⟨rfl,rfl,rfl,rfl,rfl,rfl,Nat.zero_le _⟩
 ·exact⟨rfl,rfl,rfl,rfl,rfl,rfl,Nat.le_refl _⟩
theorem MI.raised (h:MI P N S):MI P N ((S.lifts (S.ps.map (·.1))).raises 2):=by
 have hG:=h.i.g.raise;have e:=mm h.i.g.pn;obtain⟨r1,r2,r3,r4,r5⟩:=dQ (S.lifts (S.ps.map (·.1))) 2;rw[e] at r1 r2 r3 r4 r5;rw[e] at hG⊢;generalize hT:(S.setPs (S.ps.map fun q=>(q.1,liftP q.2))).raises 2=T at*;have cs: ∀q∈T.ps,∃r∈S.ps,q=(r.1,liftP r.2):=fun q hq=>by
  rw[r1] at hq;obtain⟨r,hr,e⟩:=List.mem_map.1 hq;exact⟨r,hr,e.symm⟩
 have to: ∀c y,(c,y)∈S.ps->(c,liftP y)∈T.ps:=fun c y hy=>by rw[r1];exact List.mem_map.2 ⟨(c,y),hy,rfl⟩
 have w:T.wt=S.wt:=r2;refine⟨{g:=hG,wf:= ?_,fl:= ?_,y8:=by rw[r3];exact h.i.y8,yb:=by rw[r3];exact h.i.yb,kn:=by rw[w];exact h.i.kn,ne:=by rw[w];exact h.i.ne,nd:=by rw[w];exact h.i.nd,ke:=by rw[w];exact h.i.ke,rm:= ?_}, ?_,⟨?_, ?_, ?_, ?_, ?_, ?_, ?_⟩⟩
 ·intro q hq;obtain⟨r,hr,rfl⟩:=cs q hq;obtain⟨_,_,_,l4,l5,_,_⟩:=bV r.2;exact⟨by rw[l4];exact(h.i.wf r hr).r,by rw[l5];exact(h.i.wf r hr).m⟩
 ·intro q hq;obtain⟨r,hr,rfl⟩:=cs q hq;obtain⟨_,_,_,_,_,l6,_⟩:=bV r.2;simp only;rw[l6];exact h.i.fl r hr
 ·intro e he c hc;rw[w] at he;obtain⟨y,hy,ha⟩:=h.i.rm e he c hc;obtain⟨l1,_,_,l4,_,l6,_⟩:=bV y;refine⟨liftP y,to c y hy, ?_,by rw[l4];exact ha.a,by rw[l4];exact ha.w,by rw[l1];exact ha.s⟩;have:=ha.f;unfold PS.file at*;rw[l4,l6];exact this
 ·intro e he c hc y hy h1;rw[w] at he;obtain⟨r,hr,e2⟩:=cs _ hy;have e3:c=r.1:=congrArg Prod.fst e2;have e4:y=liftP r.2:=congrArg Prod.snd e2;rw[e4,(bV r.2).1] at h1;exact h.c e he c hc r.2 (by rw[e3];exact hr) h1
 ·intro q hq;obtain⟨r,hr,rfl⟩:=cs q hq;rw[r5];exact Nat.le_trans (bV r.2).2.2.2.2.2.2 (h.x.un r hr)
 ·intro q hq r hr e;obtain⟨q',hq',rfl⟩:=cs q hq;obtain⟨r',hr',rfl⟩:=cs r hr;simp only at e;rw[(bV q'.2).2.1,(bV r'.2).2.1] at e;rw[h.x.idn q' hq' r' hr' e]
 ·intro q hq;obtain⟨r,hr,rfl⟩:=cs q hq;simp only;rw[(bV r.2).2.1,r4];exact h.x.idr r hr
 ·obtain⟨q,hq,h1⟩:=h.x.p1;exact⟨(q.1,liftP q.2),to q.1 q.2 hq,by simp only;rw[(bV q.2).2.1];exact h1⟩
 ·intro q hq;obtain⟨r,hr,rfl⟩:=cs q hq;simp only;rw[(bV r.2).2.1,(bV r.2).2.2.1];exact h.x.p0 r hr
 ·rw[<-hT];exact mB _ h.x.r3 2 (by omega)
 ·intro q hq;obtain⟨r,hr,rfl⟩:=cs q hq;simp only;rw[(bV r.2).2.1];exact h.x.nm r hr
theorem MI.boost (h:MI P N S):MI P N S.boost:=by
 unfold St.boost
 split
 ·exact h.raised
 ·exact h
theorem MI.lead (h:MI P N S):MI P N S.lead:=MI.boost (MI.wakes _ h)
def St.later (S:St):St:={S with now:=S.now+1}
theorem MI.later (h:MI P N S):MI P N S.later where
 i:=⟨⟨h.i.g.pn,h.i.g.p8,h.i.g.lv,h.i.g.rn,h.i.g.rm,h.i.g.rr⟩,h.i.wf,h.i.fl,h.i.y8,h.i.yb,h.i.kn,h.i.ne,h.i.nd,h.i.ke,h.i.rm⟩
 c:=h.c
 x:=⟨fun q hq=>Nat.le_succ_of_le (h.x.un q hq),h.x.idn,h.x.idr,h.x.p1,h.x.p0,h.x.r3,h.x.nm⟩
theorem pR (S:St)(b:Nat):(S.after b).later=S.later.after b:=by
 unfold St.after;have e:S.later.get b=S.get b:=rfl;rw[e];cases S.get b with
 |none=>rfl
 |some z=>
  simp only
  split
  ·show ((S.setP b z.more).turn b z.more).later=(S.later.setP b z.more).turn b z.more;unfold St.turn;have e2:(S.later.setP b z.more).sl=(S.setP b z.more).sl:=rfl;rw[e2]
   split<;>rfl
  ·rfl
theorem MI.after (h:MI (fun _=>False) N S)(b:Nat):MI (fun _=>False) N (S.after b).later:=by
 rw[pR];have h1:=h.later;unfold St.after;cases hg:S.later.get b with
 |none=>exact h1
 |some z=>
  simp only;have hb:=bh hg;have hu:z.more.used<=S.later.now:=Nat.succ_le_succ (h.x.un (b,z) hb);have hst:S.later.out b\/False\/z.more.st≠1:=by
   by_cases e:z.st=1
   ·exact .inl (h1.out hb e)
   ·exact .inr (.inr e)
  have h2:MI (fun _=>False) N (S.later.setP b z.more):=⟨h1.i.alike hb rfl rfl rfl rfl rfl,h1.c.setP hst,h1.x.setP h1.i.g.pn hb rfl Iff.rfl hu⟩
  split
  ·rename_i e1;have hb2:(b,z.more)∈(S.later.setP b z.more).ps:=ar hb;have ho:(S.later.setP b z.more).out b:=h1.out hb e1;unfold St.turn
   split
   ·exact h2
   ·exact h2.move (x':={z.more with lv:=min (z.more.lv+1) 2,used:=0}) hb2 ho e1 e1 (by show min (z.lv+1) 2<3;omega) ⟨(h1.i.wf _ hb).r,(h1.i.wf _ hb).m⟩ (h1.i.fl (b,z) hb) rfl rfl (Nat.zero_le _)
  ·exact h2
structure TI (N:Nat->Nat)(S:St):Prop where
 m:MI (fun _=>False) N S
 p:Coded S
 bo:S.bo≠0
 ls:S.last<=S.now+1
theorem TI.coded_lead (h:TI N S):Coded S.lead:=by
 have hf:=bQ S;unfold Coded;rw[hf.pn,hf.pg];exact h.p
theorem dn (hG:Good S)(hf:S.first=some b): ∃x,(b,x)∈S.ps/\x.st=1:=by
 unfold St.first at hf
 have hm:=List.mem_of_head? hf;rcases List.mem_append.1 hm with h|h
 ·obtain⟨y,hy,_,h2⟩:=hG.rm 0 (by omega) b h;exact⟨y,hy,h2⟩
 ·rcases List.mem_append.1 h with h|h
  ·obtain⟨y,hy,_,h2⟩:=hG.rm 1 (by omega) b h;exact⟨y,hy,h2⟩
  ·obtain⟨y,hy,_,h2⟩:=hG.rm 2 (by omega) b h;exact⟨y,hy,h2⟩
theorem cV (S:St):S.lead.last=S.last:=by
 have h1: ∀(bs:List Nat)(S:St),(S.wakes bs).last=S.last:=by
  intro bs
  induction bs with
  |nil=>intro S;rfl
  |cons b bs ih=>
   intro S;unfold St.wakes;rw[ih]
   split
   ·split<;>rfl
   ·rfl
 have h2: ∀(bs:List Nat)(S:St),(S.lifts bs).last=S.last:=by
  intro bs
  induction bs with
  |nil=>intro S;rfl
  |cons b bs ih=>
   intro S;unfold St.lifts;rw[ih]
   split
   ·split<;>rfl
   ·rfl
 unfold St.lead St.boost
 split
 ·rw[(dQ _ 2).2.2.2.1,h2];exact h1 _ S
 ·exact h1 _ S
theorem TI.running (h:TI N S)(hn:S.now<2305843009213693952)(hf:S.lead.first=some b)(hb:(b,x)∈S.lead.ps):Running S.lead b x:=by
 have hl:=h.m.lead;obtain⟨y,hy,h1⟩:=dn hl.i.g hf;obtain rfl:=a6 hl.i.g.pn hb hy;have hfx:=bQ S;exact⟨hl.i,hb,h1,hl.out hb h1,by rw[hfx.now];omega,by rw[cV];have:=h.ls;omega⟩
theorem TI.idle (h:TI N S):TI N S.lead.later:=by
 have hfx:=bQ S;refine⟨h.m.lead.later,h.coded_lead,by show S.lead.bo≠0;rw[hfx.bo];exact h.bo, ?_⟩;show S.lead.last<=S.lead.now+1+1;rw[cV,hfx.now];have:=h.ls;omega
theorem TI.ran (h:TI N S)(hf:S.lead.first=some b)(hb:(b,x)∈S.lead.ps){c:Nat}(hc: ∀q∈S.lead.ps,c≠q.1) (hN:N c=S.last+1):TI N ((S.lead.runS b x c).after b).later:=by
 have hfx:=bQ S;have hl:=h.m.lead;obtain⟨y,hy,h1⟩:=dn hl.i.g hf;obtain rfl:=a6 hl.i.g.pn hb hy;have hr:=iS S.lead b x c;have ha:=iQ (S.lead.runS b x c) b;refine⟨(hl.runS h.coded_lead hb h1 hc (by rw[cV];exact hN)).after b, ?_, ?_, ?_⟩
 ·show Coded ((S.lead.runS b x c).after b);unfold Coded;rw[ha.pn,ha.pg,hr.1.pn,hr.1.pg];exact h.coded_lead
 ·show ((S.lead.runS b x c).after b).bo≠0;rw[ha.bo,hr.1.bo,hfx.bo];exact h.bo
 ·show ((S.lead.runS b x c).after b).last<=((S.lead.runS b x c).after b).now+1+1;rw[ha.last,ha.now,hr.1.now,hfx.now];have:=hr.2;rw[cV] at this;have:=h.ls;omega
end
abbrev Inj (ρ:Nat->Nat):Prop:= ∀a b,ρ a=ρ b->a=b
def mapW (ρ:Nat->Nat)(l:Wt):Wt:=l.map fun e=>(e.1,e.2.map ρ)
def St.map (ρ:Nat->Nat)(S:St):St:={S with ps:=S.ps.map fun q=>(ρ q.1,q.2),rows:=fun l=>(S.rows l).map ρ,wt:=mapW ρ S.wt}
section
variable {ρ:Nat->Nat}{S S':St}{b:Nat}{x:PS}{k:Nat×Nat}
theorem ks (ρ:Nat->Nat)(S:St):(S.map ρ).ps.map (·.1)=(S.ps.map (·.1)).map ρ:=by
 simp[St.map,List.map_map,Function.comp]
theorem dI (h:Inj ρ)(S:St)(b:Nat):(S.map ρ).get (ρ b)=S.get b:=by
 unfold St.get;show ((S.ps.map fun q=>(ρ q.1,q.2)).find? fun q=>q.1==ρ b).map (·.2)=_;rw[List.find?_map];have e:((fun q:Nat×PS=>q.1==ρ b)∘fun q:Nat×PS=>(ρ q.1,q.2))=fun q=>q.1==b:=by
  funext q
  simp only[Function.comp];rw[Bool.eq_iff_iff];simp only[beq_iff_eq];exact⟨fun e=>h _ _ e,fun e=>by rw[e]⟩
 rw[e,Option.map_map];cases S.ps.find? fun q=>q.1==b<;>rfl
theorem bB (h:Inj ρ)(S:St)(b:Nat)(x:PS):(S.map ρ).setP (ρ b) x=(S.setP b x).map ρ:=by
 unfold St.setP St.map;simp only[List.map_map];congr 1;apply List.map_congr_left;intro q _;simp only[Function.comp];by_cases e:q.1=b
 ·rw[if_pos e,if_pos (by rw[e])]
 ·rw[if_neg e,if_neg (fun e'=>e (h _ _ e'))]
theorem cS (S:St)(l:Nat)(xs:List Nat):(S.map ρ).setRow l (xs.map ρ)=(S.setRow l xs).map ρ:=by
 unfold St.setRow St.map;congr 1
 funext j
 by_cases e:j=l
 ·simp[put,e]
 ·simp[put,e]
theorem wg (T:St)(l b:Nat):(T.map ρ).rows l++[ρ b]=(T.rows l++[b]).map ρ:=by
 rw[List.map_append];rfl
theorem pS (S:St)(i:Nat)(ys:List Int):(S.map ρ).setY i ys=(S.setY i ys).map ρ:=rfl
theorem gD (h:Inj ρ): ∀(xs:List Nat)(b:Nat),(xs.map ρ).erase (ρ b)=(xs.erase b).map ρ
 |[],_=>rfl
 |a::xs,b=>by
  rw[List.map_cons,List.erase_cons,List.erase_cons];by_cases e:a=b
  ·subst e;simp
  ·have e': ¬ρ a=ρ b:=fun e'=>e (h _ _ e');simp only[beq_iff_eq,e,e',if_false,List.map_cons];rw[gD h xs b]
theorem gE (h:Inj ρ)(S:St)(b:Nat)(x:PS):(S.map ρ).wake1 (ρ b) x=(S.wake1 b x).map ρ:=by
 unfold St.wake1;rw[bB h,<-cS];congr 1;show (S.rows x.lv).map ρ++[ρ b]=_;simp
theorem gG (h:Inj ρ)(S:St)(b:Nat)(x:PS)(s:Nat):(S.map ρ).stop1 (ρ b) x s=(S.stop1 b x s).map ρ:=by
 unfold St.stop1;rw[bB h,<-cS];congr 1;exact gD h _ _
theorem pT (h:Inj ρ)(b:Nat)(k:Nat×Nat)(l:Wt):departW (ρ b) k (mapW ρ l)=mapW ρ (departW b k l):=by
 have hf: ∀xs:List Nat,(xs.map ρ).filter (fun c=> !decide (c=ρ b))=(xs.filter fun c=> !decide (c=b)).map ρ:=fun xs=>by
  rw[List.filter_map];congr 1;apply List.filter_congr;intro c _;simp only[Function.comp];by_cases e:c=b
  ·simp[e]
  ·have e': ¬ρ c=ρ b:=fun e'=>e (h _ _ e');simp[e,e']
 unfold departW mapW
 induction l with
 |nil=>rfl
 |cons e l ih=>
  rw[List.map_cons,List.filterMap_cons,List.filterMap_cons];simp only;by_cases hk:e.1=k
  ·simp only[hk,if_true,hf,List.length_map];by_cases h0:(e.2.filter fun c=> !decide (c=b)).length=0
   ·simp only[h0,if_true];exact ih
   ·simp only[h0,if_false,List.map_cons];rw[ih]
  ·simp only[hk,if_false,List.map_cons];rw[ih]
theorem ik (h:Inj ρ)(S:St)(b:Nat)(k:Nat×Nat):(S.map ρ).depart (ρ b) k=(S.depart b k).map ρ:=by
 unfold St.depart;show (S.map ρ).setW (departW (ρ b) k (mapW ρ S.wt))=_;rw[pT h];rfl
theorem eL (S:St)(k:Nat×Nat):(S.map ρ).isOpen k=S.isOpen k:=by
 unfold St.isOpen;show (S.ps.map fun q=>(ρ q.1,q.2)).any (fun q=>q.2.has k)=_;rw[List.any_map];rfl
theorem yK (S:St)(x:PS)(k:Nat×Nat):(S.map ρ).canBeDone x k=S.canBeDone x k:=by
 unfold St.canBeDone;rw[eL];rfl
theorem pU (S:St)(x:PS)(k:Nat×Nat):(S.map ρ).carried x k=S.carried x k:=by
 unfold St.carried;rw[eL];rfl
theorem mC (h:Inj ρ)(S:St)(b:Nat)(x:PS)(k:Nat×Nat):(S.map ρ).carry (ρ b) x k=(S.carry b x k).map ρ:=by
 unfold St.carry;rw[eL]
 split
 ·unfold St.readP;rw[bB h];rfl
 ·split
  ·unfold St.writeP;show ((S.map ρ).setY k.1 _).setP (ρ b) x.gave=_;rw[pS,bB h];rfl
  ·exact bB h S b _
theorem mD (S:St)(k:Nat×Nat):(S.map ρ).rowAt k=(S.rowAt k).map ρ:=by
 unfold St.rowAt;show (((mapW ρ S.wt).find? fun e=>decide (e.1=k)).map (·.2)).getD []=_;unfold mapW;rw[List.find?_map];have e:((fun e:(Nat×Nat)×List Nat=>decide (e.1=k))∘fun e:(Nat×Nat)×List Nat=>(e.1,e.2.map ρ))=fun e=>decide (e.1=k):=rfl;rw[e];cases S.wt.find? fun e=>decide (e.1=k)<;>rfl
theorem tT (h:Inj ρ)(S:St)(k:Nat×Nat):(S.map ρ).serve k=(S.serve k).map (St.map ρ):=by
 unfold St.serve;rw[mD];cases S.rowAt k with
 |nil=>rfl
 |cons b l=>
  simp only[List.map_cons,dI h];cases S.get b with
  |none=>rfl
  |some x=>
   simp only[yK]
   split
   ·simp only[Option.map_some];congr 1
    split
    ·rw[ik h,mC h]
    ·rw[ik h,mC h,pU,gE h]
   ·rfl
theorem jE (h:Inj ρ)(p:Nat): ∀(n:Nat)(S:St),St.looks n (S.map ρ) p=(St.looks n S p).map ρ
 |0,_=>rfl
 |n+1,S=>by
  simp only[St.looks,tT h];cases S.serve (p,5) with
  |some S'=>exact jE h p n S'
  |none=>
   simp only[Option.map_none];cases S.serve (p,4) with
   |some S'=>exact jE h p n S'
   |none=>rfl
theorem pV (h:Inj ρ)(S:St)(p:Nat):(S.map ρ).look p=(S.look p).map ρ:=jE h p 16 S
theorem pW (h:Inj ρ)(S:St)(b n:Nat):(S.map ρ).shut (ρ b) n=(S.shut b n).map ρ:=by
 unfold St.shut;rw[dI h];cases S.get b with
 |none=>rfl
 |some x=>
  simp only;rw[bB h,pV h]
theorem jF (h:Inj ρ)(b:Nat)(f:Nat->Nat×Nat): ∀(ns:List Nat)(S:St),(S.map ρ).shuts (ρ b) f ns=(S.shuts b f ns).map ρ
 |[],_=>rfl
 |n::ns,S=>by
  show (if f n=(0,0) then S.map ρ else(S.map ρ).shut (ρ b) n).shuts (ρ b) f ns=((if f n=(0,0) then S else S.shut b n).shuts b f ns).map ρ
  split
  ·exact jF h b f ns S
  ·rw[pW h];exact jF h b f ns _
theorem gH (h:Inj ρ)(id:Nat): ∀(bs:List Nat)(S:St),(S.map ρ).orphs id (bs.map ρ)=(S.orphs id bs).map ρ
 |[],_=>rfl
 |b::bs,S=>by
  simp only[List.map_cons,St.orphs,dI h];cases S.get b with
  |none=>exact gH h id bs S
  |some y=>
   simp only
   split
   ·rw[bB h];exact gH h id bs _
   ·exact gH h id bs S
theorem jU (S:St)(x:PS):(S.map ρ).childAt x=S.childAt x:=by
 unfold St.childAt;show (S.ps.map fun q=>(ρ q.1,q.2)).findIdx? _=_;rw[List.findIdx?_map];rfl
theorem pX (S:St)(i:Nat):(S.map ρ).ps[i]? =(S.ps[i]?).map fun q=>(ρ q.1,q.2):=List.getElem?_map ..
theorem pY (h:Inj ρ)(S:St)(b:Nat)(x:PS)(i:Nat):(S.map ρ).take (ρ b) x i=(S.take b x i).map ρ:=by
 unfold St.take;rw[pX];cases S.ps[i]? with
 |none=>rfl
 |some q=>
  simp only[Option.map_some];rw[<-bB h];congr 1;have e:(S.map ρ).ps.eraseIdx i=(S.ps.eraseIdx i).map fun q=>(ρ q.1,q.2):=(iL _ _ _).symm;rw[e];rfl
theorem p5 (h:Inj ρ)(S:St)(b:Nat):(S.map ρ).parent1 (ρ b)=(S.parent1 b).map ρ:=by
 unfold St.parent1;rw[dI h];cases S.get b with
 |none=>rfl
 |some x=>
  simp only[jU]
  split
  ·cases S.childAt x with
   |none=>rfl
   |some i=>
    simp only[pX];cases S.ps[i]? with
    |none=>rfl
    |some q=>
     simp only[Option.map_some];rw[pY h,gE h]
  ·rfl
theorem jV (h:Inj ρ): ∀(bs:List Nat)(S:St),(S.map ρ).parents (bs.map ρ)=(S.parents bs).map ρ
 |[],_=>rfl
 |b::bs,S=>by
  show ((S.map ρ).parent1 (ρ b)).parents (bs.map ρ)=_;rw[p5 h];exact jV h bs _
theorem nI (h:Inj ρ)(S:St)(b:Nat)(x:PS)(status:Int):(S.map ρ).fin (ρ b) x status=(S.fin b x status).map ρ:=by
 unfold St.fin;simp only;rw[ik h,gG h,bB h,jF h,ks,gH h,ks,jV h]
theorem iT (S:St)(id:Int):(S.map ρ).find id=(S.find id).map fun q=>(ρ q.1,q.2):=by
 unfold St.find;show (S.ps.map fun q=>(ρ q.1,q.2)).find? _=_;rw[List.find?_map];rfl
theorem ri (h:Inj ρ)(S:St)(b:Nat)(v:Int):(S.map ρ).r0 (ρ b) v=(S.r0 b v).map ρ:=by
 unfold St.r0;rw[dI h];cases S.get b with
 |none=>rfl
 |some z=>exact bB h S b _
theorem nJ (S:St)(x:PS):(S.map ρ).hasChild x=S.hasChild x:=by
 unfold St.hasChild;show (S.ps.map fun q=>(ρ q.1,q.2)).any _=_;rw[List.any_map];rfl
abbrev snd (ρ:Nat->Nat)(p:Option Nat×St):Option Nat×St:=(p.1,p.2.map ρ)
theorem mE (h:Inj ρ)(S:St)(b:Nat)(x:PS):(S.map ρ).waitR (ρ b) x=snd ρ (S.waitR b x):=by
 unfold St.waitR;rw[nJ,jU]
 split
 ·cases S.childAt x with
  |none=>simp only[snd];rw[gG h]
  |some i=>simp only[snd];rw[pY h]
 ·rfl
theorem rj (h:Inj ρ)(S:St)(b:Nat)(x:PS):(S.map ρ).sleep1 (ρ b) x=(S.sleep1 b x).map ρ:=by
 unfold St.sleep1
 split
 ·exact bB h S b _
 ·show ((S.map ρ).setP (ρ b) _).stop1 (ρ b) _ 3=_;rw[bB h,gG h];rfl
theorem rk (h:Inj ρ)(S:St)(b:Nat)(x:PS):(S.map ρ).yield1 (ρ b) x=(S.yield1 b x).map ρ:=by
 unfold St.yield1;simp only;have e1:((S.map ρ).setP (ρ b) (x.r0 0)).setRow x.lv (((S.map ρ).rows x.lv).erase (ρ b))=((S.setP b (x.r0 0)).setRow x.lv ((S.rows x.lv).erase b)).map ρ:=by
  rw[bB h,<-cS];congr 1;exact gD h _ _
 rw[e1,wg,cS]
theorem ro (S:St):(S.map ρ).unused=S.unused:=by
 unfold St.unused;have e:(S.map ρ).shutAt=S.shutAt:=by
  funext p
  unfold St.shutAt;rw[eL,eL]
 rw[e]
theorem mF (h:Inj ρ)(S:St)(b:Nat)(x:PS):(S.map ρ).pipeR (ρ b) x=snd ρ (S.pipeR b x):=by
 unfold St.pipeR;rw[ro]
 split
 ·rfl
 ·split
  ·simp only[snd];rw[pS,bB h]
  ·rfl
theorem lp (h:Inj ρ)(S:St)(b:Nat)(x:PS):(S.map ρ).closeR (ρ b) x=snd ρ (S.closeR b x):=by
 unfold St.closeR
 split
 ·rfl
 ·simp only[snd];rw[pW h,ri h]
theorem tU (S:St)(b:Nat)(k:Nat×Nat):(S.map ρ).joinW (ρ b) k=(S.joinW b k).map ρ:=by
 unfold St.joinW;show (S.map ρ).setW (rowJoin (ρ b) k (mapW ρ S.wt))=_;have e:rowJoin (ρ b) k (mapW ρ S.wt)=mapW ρ (rowJoin b k S.wt):=by
  have e0:(∀e∈mapW ρ S.wt,e.1≠k)↔ ∀e∈S.wt,e.1≠k:=by
   unfold mapW;constructor
   ·intro hh e he;exact hh (e.1,e.2.map ρ) (List.mem_map.2 ⟨e,he,rfl⟩)
   ·intro hh e he;obtain⟨e',he',rfl⟩:=List.mem_map.1 he;exact hh e' he'
  unfold rowJoin;by_cases hk: ∀e∈S.wt,e.1≠k
  ·rw[if_pos hk,if_pos (e0.2 hk)];unfold mapW;simp
  ·rw[if_neg hk,if_neg (fun h=>hk (e0.1 h))];unfold mapW;rw[List.map_map,List.map_map];apply List.map_congr_left;intro e _;simp only[Function.comp]
   split<;>simp
 rw[e];rfl
theorem iU (h:Inj ρ)(S:St)(b:Nat)(x:PS)(use most:Nat):(S.map ρ).askR (ρ b) x use most=snd ρ (S.askR b x use most):=by
 unfold St.askR;cases x.checkUse use most with
 |some i=>rfl
 |none=>
  simp only;rw[tU,pV h,mD,dI h];have e:(ρ b∈(((S.joinW b (x.file (x.r 0))).look (x.file (x.r 0)).1).rowAt (x.file (x.r 0))).map ρ)↔b∈((S.joinW b (x.file (x.r 0))).look (x.file (x.r 0)).1).rowAt (x.file (x.r 0)):=by
   rw[List.mem_map];constructor
   ·rintro⟨c,hc,e⟩;have e':=h _ _ e;rw[e'] at hc;exact hc
   ·intro hb;exact⟨b,hb,rfl⟩
  by_cases hb:b∈((S.joinW b (x.file (x.r 0))).look (x.file (x.r 0)).1).rowAt (x.file (x.r 0))
  ·simp only[if_pos hb,if_pos (e.2 hb)];cases ((S.joinW b (x.file (x.r 0))).look (x.file (x.r 0)).1).get b with
   |none=>rfl
   |some z=>simp only[snd];rw[gG h]
  ·simp only[if_neg hb,if_neg (fun hh=>hb (e.1 hh))]
theorem tV (S:St)(c:Nat)(y:PS):(S.map ρ).taken (ρ c) y=(S.taken c y).map ρ:=by
 unfold St.taken;have e:(S.map ρ).ps++[(ρ c,{y with id:=(S.map ρ).last+1})]=(S.ps++[(c,{y with id:=S.last+1})]).map fun(q:Nat×PS)=>(ρ q.1,q.2):=by
  rw[List.map_append];rfl
 rw[e];rfl
theorem tW (h:Inj ρ)(S:St)(b:Nat)(x:PS)(c:Nat):(S.map ρ).forkS (ρ b) x (ρ c)=(S.forkS b x c).map ρ:=by
 unfold St.forkS St.adopt;rw[tV];show (((S.taken c (x.copy.r0 0)).map ρ).wake1 (ρ c) _).setP (ρ b) _=_;rw[gE h,bB h];rfl
theorem rq (S:St)(b:Nat)(x:PS)(m:Int):(S.map ρ).grantE (ρ b) x m=S.grantE b x m:=by
 unfold St.grantE;rw[iT];cases S.find (x.r 0)<;>rfl
theorem ru (h:Inj ρ)(S:St)(b:Nat)(x:PS)(m:Int):(S.map ρ).grantV (ρ b) x m=S.grantV b x m:=by
 unfold St.grantV;rw[iT,mE h,mF h,lp h,iU h,iU h];have e:(S.map ρ).ps.length=S.ps.length:=by simp[St.map]
 rw[e];cases S.find (x.r 0)<;>rfl
theorem rx (h:Inj ρ)(S:St)(b:Nat)(x:PS)(m:Int)(c:Nat):(S.map ρ).grantS (ρ b) x m (ρ c)=(S.grantS b x m c).map ρ:=by
 have e:(S.map ρ).ps.length=S.ps.length:=by simp[St.map]
 unfold St.grantS;rw[iT,mE h,mF h,lp h,iU h,iU h,e,nI h,tW h,rj h,rk h,bB h,bB h];by_cases e0:m=0
 ·rw[if_pos e0,if_pos e0]
 rw[if_neg e0,if_neg e0];by_cases e1:m=1
 ·rw[if_pos e1,if_pos e1];split<;>rfl
 rw[if_neg e1,if_neg e1];by_cases e2:m=2
 ·rw[if_pos e2,if_pos e2]
 rw[if_neg e2,if_neg e2];by_cases e3:m=3
 ·rw[if_pos e3,if_pos e3];cases S.find (x.r 0) with
  |none=>rfl
  |some q=>
   simp only[Option.map_some]
   split
   ·rfl
   ·rw[nI h,ri h]
 rw[if_neg e3,if_neg e3];by_cases e4:m=4
 ·rw[if_pos e4,if_pos e4]
 rw[if_neg e4,if_neg e4];by_cases e5:m=5
 ·rw[if_pos e5,if_pos e5]
 rw[if_neg e5,if_neg e5];by_cases e6:m=6
 ·rw[if_pos e6,if_pos e6]
 rw[if_neg e6,if_neg e6];by_cases e7:m=7
 ·rw[if_pos e7,if_pos e7]
 rw[if_neg e7,if_neg e7];by_cases e8:m=8
 ·rw[if_pos e8,if_pos e8]
 rw[if_neg e8,if_neg e8];by_cases e9:m=9
 ·rw[if_pos e9,if_pos e9]
 rw[if_neg e9,if_neg e9];by_cases e10:m=10
 ·rw[if_pos e10,if_pos e10]
 rw[if_neg e10,if_neg e10];by_cases e11:m=11
 ·rw[if_pos e11,if_pos e11]
 rw[if_neg e11,if_neg e11]
theorem wh (h:Inj ρ)(S:St)(b:Nat)(x:PS):(S.map ρ).runE (ρ b) x=S.runE b x:=by
 unfold St.runE;rw[bB h,rq];rfl
theorem wi (h:Inj ρ)(S:St)(b:Nat)(x:PS)(c:Nat):(S.map ρ).runS (ρ b) x (ρ c)=(S.runS b x c).map ρ:=by
 unfold St.runS;rw[bB h,nI h]
 show (if S.pn<=x.at_ then _ else if S.pg x.at_ 0=9 then(match ((S.setP b x.next).map ρ).grantV (ρ b) x.next (S.pg x.at_ 1) with
  |some i=>(((S.setP b x.next).map ρ).grantS (ρ b) x.next (S.pg x.at_ 1) (ρ c)).r0 (ρ b) (ansOf i)
  |none=>((S.setP b x.next).map ρ).grantS (ρ b) x.next (S.pg x.at_ 1) (ρ c)) else match S.doR x with
  | .ok x'=>(S.map ρ).setP (ρ b) x'
  | .error _=>(S.fin b x 65281).map ρ)=_
 rw[ru h,rx h]
 split
 ·rfl
 ·split
  ·cases (S.setP b x.next).grantV b x.next (S.pg x.at_ 1) with
   |none=>rfl
   |some i=>simp only;rw[ri h]
  ·cases S.doR x with
   |ok x'=>exact bB h S b _
   |error e=>rfl
theorem wj (h:Inj ρ)(S:St)(b:Nat)(x:PS):(S.map ρ).turn (ρ b) x=(S.turn b x).map ρ:=by
 unfold St.turn;show (if(x.used:Int)<S.sl x.lv then _ else _)=_
 split
 ·rfl
 ·simp only;have e1:((S.map ρ).setRow x.lv (((S.map ρ).rows x.lv).erase (ρ b))).setP (ρ b) {x with lv:=min (x.lv+1) 2,used:=0}=((S.setRow x.lv ((S.rows x.lv).erase b)).setP b {x with lv:=min (x.lv+1) 2,used:=0}).map ρ:=by
   rw[<-bB h,<-cS];congr 2;exact gD h _ _
  rw[e1,<-cS];congr 1;simp[St.map]
theorem tX (h:Inj ρ)(S:St)(b:Nat):(S.map ρ).after (ρ b)=(S.after b).map ρ:=by
 unfold St.after;rw[dI h];cases S.get b with
 |none=>rfl
 |some z=>
  simp only;rw[bB h,wj h]
  split<;>rfl
theorem gI (h:Inj ρ): ∀(bs:List Nat)(S:St),(S.map ρ).wakes (bs.map ρ)=(S.wakes bs).map ρ
 |[],_=>rfl
 |b::bs,S=>by
  simp only[List.map_cons,St.wakes,dI h];cases S.get b with
  |none=>exact gI h bs S
  |some x=>
   simp only;by_cases e:x.st=3/\x.til=S.now
   ·rw[if_pos e,if_pos (show x.st=3/\x.til=(S.map ρ).now from e),gE h];exact gI h bs _
   ·rw[if_neg e,if_neg (show¬(x.st=3/\x.til=(S.map ρ).now) from e)];exact gI h bs S
theorem gJ (h:Inj ρ): ∀(bs:List Nat)(S:St),(S.map ρ).lifts (bs.map ρ)=(S.lifts bs).map ρ
 |[],_=>rfl
 |b::bs,S=>by
  simp only[List.map_cons,St.lifts,dI h];cases S.get b with
  |none=>exact gJ h bs S
  |some x=>
   simp only
   split
   ·rw[bB h];exact gJ h bs _
   ·exact gJ h bs S
theorem lq (S:St): ∀n,(S.map ρ).raises n=(S.raises n).map ρ
 |0=>rfl
 |n+1=>by
  show ((S.map ρ).raises n).raise1 (n+1)=((S.raises n).raise1 (n+1)).map ρ;rw[lq S n];unfold St.raise1;have e1:((S.raises n).map ρ).rows 0++((S.raises n).map ρ).rows (n+1)=((S.raises n).rows 0++(S.raises n).rows (n+1)).map ρ:=by simp[St.map]
  rw[e1,cS,<-cS _ (n+1) []];rfl
theorem tY (h:Inj ρ)(S:St):(S.map ρ).boost=S.boost.map ρ:=by
 unfold St.boost;by_cases e:S.boosts
 ·rw[if_pos e,if_pos (show (S.map ρ).boosts from e),ks,gJ h,lq]
 ·rw[if_neg e,if_neg (show¬(S.map ρ).boosts from e)]
theorem p6 (h:Inj ρ)(S:St):(S.map ρ).lead=S.lead.map ρ:=by
 unfold St.lead St.wake;rw[ks,gI h,tY h]
theorem mG (S:St):(S.map ρ).first=S.first.map ρ:=by
 unfold St.first
 show ((S.rows 0).map ρ++((S.rows 1).map ρ++(S.rows 2).map ρ)).head? =_;rw[<-List.map_append,<-List.map_append,List.head?_map]
end
def St.tickE (S:St):List Value:=match S.lead.first with
 |none=>[evt S.lead.now 2 0 0]
 |some b=>match S.lead.get b with
  |some x=>evt S.lead.now 1 x.id x.at_::S.lead.runE b x
  |none=>[]
def St.tickU (S:St)(c:Nat):St:=match S.lead.first with
 |none=>S.lead
 |some b=>match S.lead.get b with
  |some x=>(S.lead.runS b x c).after b
  |none=>S.lead
def St.next (T:St):St:=(T.tickU (T.last+1)).later
def St.isOver (T:St):Bool:=match T.find 1 with
 |some q=>decide (q.2.st=6)
 |none=>true
def St.evs:Nat->St->List Value
 |0,_=>[]
 |n+1,T=>if T.isOver then [] else T.tickE++St.evs n T.next
def St.runs:Nat->St->St
 |0,T=>T
 |n+1,T=>if T.isOver then T else St.runs n T.next
section
variable {ρ ρ' N:Nat->Nat}{S T:St}{b c:Nat}{x:PS}
theorem tZ (hI:Inv S)(r3: ∀l,3<=l->S.rows l=[]) (e: ∀q∈S.ps,ρ q.1=ρ' q.1):S.map ρ=S.map ρ':=by
 unfold St.map;have e1:(S.ps.map fun q=>(ρ q.1,q.2))=S.ps.map fun q=>(ρ' q.1,q.2):=by
  apply List.map_congr_left;intro q hq;rw[e q hq]
 have e2:(fun l=>(S.rows l).map ρ)=fun l=>(S.rows l).map ρ':=by
  funext l
  by_cases hl:l<3
  ·apply List.map_congr_left;intro c hc;obtain⟨y,hy,_⟩:=hI.g.rm l hl c hc;exact e _ hy
  ·rw[r3 l (by omega)];rfl
 have e3:mapW ρ S.wt=mapW ρ' S.wt:=by
  unfold mapW;apply List.map_congr_left;intro w hw;congr 1;apply List.map_congr_left;intro c hc;obtain⟨y,hy,_⟩:=hI.rm w hw c hc;exact e _ hy
 rw[e1,e2,e3]
def St.nm (S:St)(c:Nat)(b:Nat):Nat:=match S.get b with
 |some x=>x.id
 |none=>if b=c then S.last+1 else b+(S.last+2)
theorem zX (hn:(S.ps.map (·.1)).Nodup): ∀q∈S.ps,S.nm c q.1=q.2.id:=fun q hq=>by
 unfold St.nm;rw[bk (b:=q.1) (x:=q.2) hn hq]
theorem wk (hc: ∀q∈S.ps,c≠q.1):S.nm c c=S.last+1:=by
 unfold St.nm;rw[fU fun q hq=>Ne.symm (hc q hq)];simp
theorem AS (h:XI N S):Inj (S.nm c):=by
 intro a d e;unfold St.nm at e;cases ha:S.get a with
 |some x=>
  rw[ha] at e;have hx:=bh ha;have h1:=(h.idr _ hx).2;simp only at h1 e;cases hd:S.get d with
  |some y=>
   rw[hd] at e;have hy:=bh hd;have:=h.idn _ hx _ hy e;exact congrArg Prod.fst this
  |none=>
   rw[hd] at e;simp only at e
   split at e<;>omega
 |none=>
  rw[ha] at e;simp only at e;cases hd:S.get d with
  |some y=>
   rw[hd] at e;have hy:=bh hd;have h1:=(h.idr _ hy).2;simp only at h1 e
   split at e<;>omega
  |none=>
   rw[hd] at e;simp only at e
   split at e
   ·split at e
    ·omega
    ·omega
   ·split at e
    ·omega
    ·omega
theorem XI.rename (h:XI N S)(hρ: ∀q∈S.ps,ρ q.1=q.2.id):XI ρ S:=⟨h.un,h.idn,h.idr,h.p1,h.p0,h.r3,hρ⟩
theorem TI.rename (h:TI N S)(hρ: ∀q∈S.ps,ρ q.1=q.2.id):TI ρ S:=⟨⟨h.m.i,h.m.c,h.m.x.rename hρ⟩,h.p,h.bo,h.ls⟩
theorem ua (h:Inj ρ)(S:St):(S.map ρ).tickE=S.tickE:=by
 unfold St.tickE;rw[p6 h,mG];cases S.lead.first with
 |none=>rfl
 |some b=>
  simp only[Option.map_some,dI h];cases S.lead.get b with
  |none=>rfl
  |some x=>simp only;rw[wh h];rfl
theorem ub (h:Inj ρ)(S:St)(c:Nat):(S.map ρ).tickU (ρ c)=(S.tickU c).map ρ:=by
 unfold St.tickU;rw[p6 h,mG];cases S.lead.first with
 |none=>rfl
 |some b=>
  simp only[Option.map_some,dI h];cases S.lead.get b with
  |none=>rfl
  |some x=>simp only;rw[wi h,tX h]
theorem lr (S:St):(S.map ρ).isOver=S.isOver:=by
 unfold St.isOver;rw[iT];cases S.find 1<;>rfl
theorem lu (S:St):S.lead.ps.map (·.1)=S.ps.map (·.1):=by
 have h1: ∀(bs:List Nat)(S:St),(S.wakes bs).ps.map (·.1)=S.ps.map (·.1):=by
  intro bs
  induction bs with
  |nil=>intro S;rfl
  |cons b bs ih=>
   intro S;unfold St.wakes;rw[ih]
   split
   ·split
    ·exact ba S b _
    ·rfl
   ·rfl
 have h2: ∀(bs:List Nat)(S:St),(S.lifts bs).ps.map (·.1)=S.ps.map (·.1):=by
  intro bs
  induction bs with
  |nil=>intro S;rfl
  |cons b bs ih=>
   intro S;unfold St.lifts;rw[ih]
   split
   ·split
    ·exact ba S b _
    ·rfl
   ·rfl
 unfold St.lead St.boost
 split
 ·rw[(dQ _ 2).1,h2];exact h1 _ S
 ·exact h1 _ S
theorem TI.tick (h:TI N S)(hc: ∀q∈S.lead.ps,c≠q.1) (hN:N c=S.last+1):TI N (S.tickU c).later:=by
 unfold St.tickU;cases hf:S.lead.first with
 |none=>exact h.idle
 |some b=>
  simp only;obtain⟨x,hx,_⟩:=dn h.m.lead.i.g hf;rw[bk h.m.lead.i.g.pn hx];exact h.ran hf hx hc hN
structure Ab (S T:St):Prop where
 ex: ∃N,TI N S/\T=S.map N
theorem Ab.tick (h:Ab S T)(hc: ∀q∈S.lead.ps,c≠q.1):T.tickE=S.tickE/\T.isOver=S.isOver/\Ab (S.tickU c).later T.next:=by
 obtain⟨N,hN,rfl⟩:=h.ex;have hcs: ∀q∈S.ps,c≠q.1:=fun q hq e=>by
  have:q.1∈S.lead.ps.map (·.1):=by rw[lu];exact List.mem_map.2 ⟨q,hq,rfl⟩
  obtain⟨r,hr,e2⟩:=List.mem_map.1 this;exact hc r hr (by rw[e,<-e2])
 have hid:=zX (c:=c) hN.m.i.g.pn;have hT:=hN.rename hid;have hinj:=AS (c:=c) hN.m.x;have hnew:=wk hcs;have e:S.map N=S.map (S.nm c):=tZ hN.m.i hN.m.x.r3 fun q hq=>by rw[hid q hq,hN.m.x.nm q hq]
 rw[e];refine⟨ua hinj S,lr S,⟨S.nm c,hT.tick hc hnew, ?_⟩⟩;unfold St.next
 show ((S.map (S.nm c)).tickU (S.last+1)).later=_;rw[<-hnew,ub hinj];rfl
theorem Ab.self (h:TI N S):Ab S (S.map N):=⟨N,h,rfl⟩
theorem Ab.find1 (h:Ab S T): ∃b x,S.find 1=some (b,x)/\(T.isOver=true↔x.st=6):=by
 obtain⟨N,hN,rfl⟩:=h.ex;obtain⟨q,hq,h1⟩:=hN.m.x.p1;cases hf:S.find 1 with
 |none=>
  unfold St.find at hf;have:=List.find?_eq_none.1 hf q hq;simp at this;omega
 |some r=>
  refine⟨r.1,r.2,rfl, ?_⟩;rw[lr];unfold St.isOver;rw[hf];simp
end
theorem wp (k:KS)(v:Nat):(kcells k).setIfInBounds 16 (.int .i64 (v:Nat))=kcells {k with now:=(v:Nat)}:=rfl
end Go.Proofs.YtejkelcaljmnoaaGreatDoor
namespace Go.Proofs.YtejkelcaljmnoaaGreatDoor
open Go.Conc Go.RowKit Go.Hx Go.Lo Go.ConcX Go.Conc.Lib Go.ConcX.Gen
def call31 (Wg db kb tb eb:Nat):Deferred:={target:= .fn (.func 31) #[.pointer (some ⟨Wg,0,none⟩), .pointer (some ⟨db,0,none⟩), .pointer (some ⟨kb,0,none⟩), .pointer (some ⟨tb,0,none⟩), .pointer (some ⟨eb,0,none⟩)],args:= #[]}
noncomputable def bot:Frame:={(default:Frame) with fn:=Tryz.prog.funcs.size,defers:=[],mode:= .panicking [goexitEntry]}
theorem uc (Wg db kb tb eb:Nat)(w:World): ∃c,Tryz.f31.body=some c/\stepG Tryz.prog false (born Tryz.prog (call31 Wg db kb tb eb)) w=
 .go (G ((baseD 31).at ⟨#[.pointer (some ⟨Wg,0,none⟩), .pointer (some ⟨db,0,none⟩), .pointer (some ⟨kb,0,none⟩), .pointer (some ⟨tb,0,none⟩), .pointer (some ⟨eb,0,none⟩),undef,undef,undef,undef,undef],[]⟩ [.code c]) [bot]) w #[]:=by
 refine⟨_,rfl, ?_⟩;simp[born,call31,stepG,unwind,callDeferred,invoke,callFunc,Tryz.func31,Tryz.f31,seen,GStep.after,G,Frame.enter,Frame.at,baseD,bot]
theorem ud (T:Array Value):QuitsD Tryz.prog 2 0 (G {(baseD 31).at ⟨T,[]⟩ [] with mode:= .returning} [bot]):=by
 refine QuitsD.ctl (g':=G bot []) rfl (fun w=> ?_) ?_
 ·simp[G,stepG,unwind,doReturn,results,Frame.at,baseD,bot,Tryz.func31,Tryz.f31,seen,GStep.after,goexitEntry]
 refine QuitsD.ctl (g':={G bot [] with status:= .finished}) rfl (fun w=> ?_) ⟨rfl,rfl⟩;simp[G,stepG,unwind,bot,goexitEntry,Frame.catches];rfl
section
variable {p:Par}{Sh:Loc->Prop}{E Dn:Nat}{Wg C Low kb db eb K O:Nat}{W:World}{ticks:Int}{Mine:Loc->Prop} [Shy Wg C]{L:Frag}{QL:Frag->Prop}
abbrev GW (Wg:Nat):List (Nat×Obj):=[(Wg, .cells #[.int .u64 KK, .int .u32 0] 87)]
def PostW (p:Par)(Sh:Loc->Prop)(E Dn:Nat)(W:World)(O:Nat)(Wg C:Nat)(QL:Frag->Prop)(w:World):Prop:=
 ∃L,OwnW p Sh E Dn W O L w/\(∀t∈L,t.1≠C/\t.1≠Wg)/\QL L
theorem AT (hW:Wg<Low)(hC:C<Low)(hCW:C≠Wg)(T:Array Value)(w:World)(h1:WgAt 87 Wg w KK 0)(h2:Full C [.int .i64 ticks] w):
 AfterD Tryz.prog 87 Wg C Low [.int .i64 ticks] Mine (G {(baseD 31).at ⟨T,[dcall 32 #[.pointer (some ⟨Wg,0,none⟩)]]⟩ [] with mode:= .returning} [bot]) w:=by
 refine⟨h1,24,Goes.step rfl fun w₁ h₁=> ?_⟩;rw[stepG_unwind_enter rfl Tryz.func32 (nm_done Tryz.link) rfl];refine⟨dcs_none (by simp), ?_⟩
 walk_nrmf Tryz.f32
 have hA:= @doneD _ Tryz.link Tryz.prog Tryz.wgLib Mine Wg C Low _ [.int .i64 ticks] hW hC hCW;simp only[body_done,doneFn,Option.getD_some] at hA;exact hA rfl (ud _) _ ⟨h₁.k (.inl h1),h2.of_block (h₁.low C hC hCW)⟩
omit [Shy Wg C] in
theorem iV {G:List (Nat×Obj)}{w:World}(hO:(domV p Sh E Dn W O G).Own L w){t:Nat}{fl:Bool}{cs:Array Value}{ty:TypeId}(hm:(t,fl,Obj.cells cs ty)∈L):(∀{i:Nat}{v:Value},cs[i]? =some v->w.cell? ⟨t,i,none⟩=some v)/\ ∀i,EvB p Sh w ⟨.cell ⟨t,i,none⟩,false,false⟩:=by
 have h:=(domV p Sh E Dn W O G).has hO hm;exact⟨fun hv=>by simp[World.cell?,h,hv],(domV p Sh E Dn W O G).evc hO hm⟩
theorem ry (hW:Wg<Low)(hC':C<Low)(hCW:C≠Wg)(hWD:Wg≠Dn)(hCD:C≠Dn)(h0:(kb,false,Obj.cells #[.pointer (some ⟨K,0,none⟩)] 35)∈L)(h1:(C,false,Obj.cells #[.int .i64 ticks] 3)∈L)(h2:(eb,false,Obj.cells #[.chan (some E)] 76)∈L)(h3:(db,false,Obj.cells #[.chan (some Dn)] 77)∈L)
 (k:Nat) (es:List Value) (hpass: ∀w,(domV p Sh E Dn W O (GW Wg)).Own L w->CallsX (tellF Tryz.prog p Sh E Dn (PostW p Sh E Dn W O Wg C QL) (AfterD Tryz.prog 87 Wg C Low [.int .i64 ticks] Mine)) Tryz.prog false 33 #[.pointer (some ⟨K,0,none⟩), .int .i64 ticks, .chan (some E)] k es w fun s' _ w'=>s'=[]/\ ∃L',(domV p Sh E Dn W O (GW Wg)).Own L' w'/\(C,false,Obj.cells #[.int .i64 ticks] 3)∈L'/\QL (L'.filter fun t=> !decide (t.1=C)))
 (w:World) (hS:(domV p Sh E Dn W O (GW Wg)).Own L w):Tells Tryz.prog p Sh E Dn (PostW p Sh E Dn W O Wg C QL) (AfterD Tryz.prog 87 Wg C Low [.int .i64 ticks] Mine) es (born Tryz.prog (call31 Wg db kb C eb)) w:=by
 rw[eY];co_apply Exists.intro;co_apply Goes.step rfl;intro w₁ h₁;replace hS:=(domV p Sh E Dn W O (GW Wg)).rely hS h₁;clear h₁;obtain⟨c,hc,hb⟩:=uc Wg db kb C eb w₁;rw[hb];refine⟨(eC p Sh E Dn).idle _, ?_⟩;simp only[Tryz.f31,Option.some.injEq] at hc;subst hc;clear hb;co_apply bN (eC p Sh E Dn) rfl (fun _=>stepG_seq);co_apply bN (eC p Sh E Dn) rfl (fun _=>stepG_region);simp only[List.size_toArray,List.length_cons,List.length_nil,Nat.reduceAdd,Nat.zero_add,List.range,List.range.loop];co_apply bN (eC p Sh E Dn) rfl (fun _=>stepG_defer rfl rfl (by decide) rfl)
 walk_nrm
 co_apply bN (eC p Sh E Dn) rfl (fun _=>stepG_region_end);co_apply bN (eC p Sh E Dn) rfl (fun _=>stepG_seq);co_apply bN (eC p Sh E Dn) rfl (fun _=>stepG_region);simp only[List.size_toArray,List.length_cons,List.length_nil,Nat.reduceAdd,Nat.zero_add,List.range,List.range.loop];co_apply Goes.step rfl;intro w₁ h₁;replace hS:=(domV p Sh E Dn W O (GW Wg)).rely hS h₁;clear h₁;refine goes_oper_k rfl rfl (by decide) (fun K hK=> ?_);have hr:=iV hS h3;have hc:=hr.1 (i:=0) rfl;go_simp;refine hK _ _ ⟨?_, ?_⟩
 ·refine j6 ?_
  co_evs (exact hr.2 _)
 clear hK K hc hr
 try walk_nrm
 co_apply bN (eC p Sh E Dn) rfl (fun _=>jl rfl rfl (by decide) rfl rfl)
 try walk_nrm
 co_apply bN (eC p Sh E Dn) rfl (fun _=>stepG_region_end);co_apply kE (F:=tellF Tryz.prog p Sh E Dn (PostW p Sh E Dn W O Wg C QL) (AfterD Tryz.prog 87 Wg C Low [.int .i64 ticks] Mine)) (s:=es) (Q:=fun s' e a' w'=>e= .normal/\s'=[]/\(∃T,a'=⟨T,[dclose #[77] 0 Dn,dcall 32 #[.pointer (some ⟨Wg,0,none⟩)]]⟩)/\ ∃L',(domV p Sh E Dn W O (GW Wg)).Own L' w'/\(C,false,Obj.cells #[.int .i64 ticks] 3)∈L'/\QL (L'.filter fun t=> !decide (t.1=C))) (b:=baseD 31) (k:=[]) (cs:=[bot]) (fn:=31) ?_ rfl (by decide) ?_
 ·have hF:=hS;clear hS;co_apply bq;simp only[List.size_toArray,List.length_cons,List.length_nil,Nat.reduceAdd,Nat.zero_add,List.range,List.range.loop];co_apply aJ rfl (by rfl);intro _ hR K hK;replace hF:=(domV p Sh E Dn W O (GW Wg)).rely hF hR;clear hR
  (have hr:=iV hF h0;have hc:=hr.1 (i:=0) rfl)
  go_simp
  try (unfold stored;go_simp)
  refine hK _ _ ⟨?_, ?_⟩
  ·(refine j6 ?_;co_evs (exact hr.2 _))
  clear hK K
  try walk_nrm
  clear hc hr;co_apply aJ rfl (by rfl);intro _ hR K hK;replace hF:=(domV p Sh E Dn W O (GW Wg)).rely hF hR;clear hR
  (have hr:=iV hF h1;have hc:=hr.1 (i:=0) rfl)
  go_simp
  try (unfold stored;go_simp)
  refine hK _ _ ⟨?_, ?_⟩
  ·(refine j6 ?_;co_evs (exact hr.2 _))
  clear hK K
  try walk_nrm
  clear hc hr;co_apply aJ rfl (by rfl);intro _ hR K hK;replace hF:=(domV p Sh E Dn W O (GW Wg)).rely hF hR;clear hR
  (have hr:=iV hF h2;have hc:=hr.1 (i:=0) rfl)
  go_simp
  try (unfold stored;go_simp)
  refine hK _ _ ⟨?_, ?_⟩
  ·(refine j6 ?_;co_evs (exact hr.2 _))
  clear hK K
  try walk_nrm
  clear hc hr;co_apply gj rfl (by rfl) rfl
  ·walk_nrm
   exact hpass _ hF
  intro s' v w' hv;obtain⟨rfl,hS⟩:=hv
  walk_nrm
  co_apply bJ;exact⟨rfl,rfl,⟨_,rfl⟩,hS⟩
 ·rintro s' e a' w' ⟨rfl,rfl,⟨T,rfl⟩,L',hS,hC3,hQ⟩;show Goes Tryz.prog false (RB p E Dn) (DT p Sh E Dn) (AtOver Tryz.prog Dn (PostW p Sh E Dn W O Wg C QL) (AfterD Tryz.prog 87 Wg C Low [.int .i64 ticks] Mine)) _ (G ((baseD 31).at ⟨T,[dclose #[77] 0 Dn,dcall 32 #[.pointer (some ⟨Wg,0,none⟩)]]⟩ []) [bot]) w';co_apply bN (n:=0) (eC p Sh E Dn) rfl (fun _=>stepG_end);refine Goes.stop fun w₁ h₁=> ?_;replace hS:=(domV p Sh E Dn W O (GW Wg)).rely hS h₁;have hwg:=hS.2.h (Wg,_) (List.mem_cons_self);have hcc:=(domV p Sh E Dn W O (GW Wg)).has hS hC3;refine⟨rfl,rfl,⟨L'.filter fun t=> !decide (t.1=C),(domW p Sh E Dn W O).sub hS.1 (fun t ht=>(List.mem_filter.1 ht).1) ?_,fun t ht=>⟨by simpa using (List.mem_filter.1 ht).2,hS.2.l (Wg,_) (List.mem_cons_self) t (List.mem_filter.1 ht).1⟩,hQ⟩,_,rfl,fun hD=>ir rfl hD (by kernel_rfl), ?_⟩
  ·exact((domW p Sh E Dn W O).nd hS.1).sublist (List.Sublist.map _ List.filter_sublist)
  refine AT hW hC' hCW T _ ?_ ?_
  ·unfold WgAt;rw[cv hWD];exact hwg
  ·intro _;rw[cv hCD];exact hcc
end
end Go.Proofs.YtejkelcaljmnoaaGreatDoor
namespace Go.Proofs.YtejkelcaljmnoaaGreatDoor
open Go.Conc Go.RowKit Go.Hx Go.ConcX Go.Conc.Lib Go.ConcX.Gen
theorem d0Z {w w₁:World}{P:Program}{Fin:Value->World->Prop}{s:Nat×List Nat}{es:Array Event}(h: ∀e∈es,EvP (Shs s.2) e):(FZ P Fin).D s w w₁ es:=h
theorem CV (w:World):(Instr.makeChan 76 (.int .i64 0)).run Tryz.prog w= .ok (.chan (some w.heap.size)) (w.alloc (.chan 0 #[] false 0 0 false))/\ ∀es,(Instr.makeChan 76 (.int .i64 0)).events Tryz.prog w es=es:=by
 obtain⟨i,z,h1,_,_,h4,_⟩:=uM;exact⟨by simpa using run_makeChan (P:=Tryz.prog) (w:=w) Tryz.underlying76 h1 .i64 0 (by omega) (by rw[h4];omega),fun es=>by simpa using events_makeChan (P:=Tryz.prog) (w:=w) Tryz.underlying76 h1 .i64 0 (by omega) (by rw[h4];omega) es⟩
theorem CW (w:World):(Instr.makeChan 77 (.int .i64 0)).run Tryz.prog w= .ok (.chan (some w.heap.size)) (w.alloc (.chan 0 #[] false 0 0 false))/\ ∀es,(Instr.makeChan 77 (.int .i64 0)).events Tryz.prog w es=es:=by
 have h:(Tryz.prog.info? 78).map (·.bytes)=some 0:=by kernel_rfl
 obtain⟨i,h1,h4⟩:=Option.map_eq_some_iff.1 h;exact⟨by simpa using run_makeChan (P:=Tryz.prog) (w:=w) Tryz.underlying77 h1 .i64 0 (by omega) (by rw[h4];omega),fun es=>by simpa using events_makeChan (P:=Tryz.prog) (w:=w) Tryz.underlying77 h1 .i64 0 (by omega) (by rw[h4];omega) es⟩
def RanZ (PostB:World->Prop)(N:Nat)(told:Value)(ws:List Wd)(w:World):Prop:=PostB w/\Hx.Told (pZ N) told ws.length (ws.flatMap Wd.c) w
theorem CX: ∃k,∀{Fin:Value->World->Prop}(nn:Nat)(s:List Nat)(K:Nat)(ticks:Int)(ht:0<=ticks/\ticks<=2000)(ws:List Wd)(hws:ws.length<10000)(W:World)(hE:Elder (Shs s) W.heap.size)(PostB:World->Prop)
 (hPb: ∀w w₁,RB (pZ W.heap.size) (W.heap.size+2) (W.heap.size+4) w w₁->PostB w->PostB w₁) (hPc: ∀w w₁,Aside2 (W.heap.size+1) (W.heap.size+6) w w₁->PostB w->PostB w₁) (hPn: ∀w,PostB w->W.heap.size+7<=w.heap.size)
 (hT: ∀[Shy (W.heap.size+6) (W.heap.size+1)](w':World),New W (boxZ W.heap.size K ticks KK) w'->Tells Tryz.prog (pZ W.heap.size) (ShR (Shs s) W.heap.size) (W.heap.size+2) (W.heap.size+4) PostB (AfterD Tryz.prog 87 (W.heap.size+6) (W.heap.size+1) (W.heap.size+7) [.int .i64 ticks] Mine0) (ws.map Wd.v) (born Tryz.prog (started W.heap.size)) w'),
 CallsX (FZ Tryz.prog Fin) Tryz.prog true 19 #[.pointer (some ⟨K,0,none⟩), .int .i64 ticks] k (nn+1,s) W fun s' v w'=>s'=(nn,W.heap.size::s)/\ ∃told,v= .tuple #[told, .int .i64 0]/\RanZ PostB W.heap.size told ws w':=by
 co_apply Exists.intro;intro Fin nn s K ticks ht ws hws W hE PostB hPb hPc hPn hT;have hF:New W [] W:=New.refl W;have c76:=fun w=>(CV w).1;have d76:=fun w=>(CV w).2;have c77:=fun w=>(CW w).1;have d77:=fun w=>(CW w).2;have b1: ¬ticks<0:=by omega
 have b2: ¬2000<ticks:=by omega
 have b3: ¬ticks>2000:=by omega
 co_apply eV Tryz.func19 (by rfl) rfl;simp only[Tryz.ntmps19,List.size_toArray,List.length_cons,List.length_nil,Nat.reduceAdd,Nat.reduceSub,Array.replicate_succ,Array.replicate_zero,List.push_toArray,List.append_toArray,List.nil_append,List.cons_append];co_apply cj;co_apply bq;simp only[List.size_toArray,List.length_cons,List.length_nil,Nat.reduceAdd,Nat.zero_add,List.range,List.range.loop];co_apply aJ rfl (by rfl);intro _ hR K hK;replace hF:=(New.rely) hF hR;clear hR;have hs:=hF.size;go_simp
 try (unfold stored;go_simp)
 refine hK _ _ ⟨?_, ?_⟩
 ·(refine d0Z ?_;intro e he;have hm:=mem_listed he;simp[go_sem, *] at hm)
 clear hK K
 try walk_nrm
 replace hF:=hF.alloc (.cells #[.pointer (some ⟨K,0,none⟩)] 35)
 try simp only[List.length_cons,List.length_nil,Nat.reduceAdd,Nat.add_zero,Nat.zero_add] at hs
 try simp only[List.nil_append,List.cons_append] at hF
 try simp only[hs]
 clear hs;co_apply aJ rfl (by rfl);intro _ hR K hK;replace hF:=(New.rely) hF hR;clear hR;have hs:=hF.size;go_simp
 try (unfold stored;go_simp)
 refine hK _ _ ⟨?_, ?_⟩
 ·(refine d0Z ?_;intro e he;have hm:=mem_listed he;simp[go_sem, *] at hm)
 clear hK K
 try walk_nrm
 replace hF:=hF.alloc (.cells #[.int .i64 ticks] 3)
 try simp only[List.length_cons,List.length_nil,Nat.reduceAdd,Nat.add_zero,Nat.zero_add] at hs
 try simp only[List.nil_append,List.cons_append] at hF
 try simp only[hs]
 clear hs;co_apply aJ rfl (by rfl);intro _ hR K hK;replace hF:=(New.rely) hF hR;clear hR
 skip
 go_simp
 try (unfold stored;go_simp)
 refine hK _ _ ⟨?_, ?_⟩
 ·(rw[listed_nil (by simp[go_sem, *])];exact d0Z (by simp))
 clear hK K
 try walk_nrm
 co_apply aJ rfl (by rfl);intro _ hR K hK;replace hF:=(New.rely) hF hR;clear hR
 skip
 go_simp
 try (unfold stored;go_simp)
 refine hK _ _ ⟨?_, ?_⟩
 ·(rw[listed_nil (by simp[go_sem, *])];exact d0Z (by simp))
 clear hK K
 try walk_nrm
 co_apply bJ
 try simp only[ThenX]
 try co_then
 co_apply cj;co_apply cj;co_apply bq;simp only[List.size_toArray,List.length_cons,List.length_nil,Nat.reduceAdd,Nat.zero_add,List.range,List.range.loop];co_apply aJ rfl (by rfl);intro _ hR K hK;replace hF:=(New.rely) hF hR;clear hR;have hc:=hF.cell (i:=1) rfl (j:=0) rfl;go_simp
 try (unfold stored;go_simp)
 refine hK _ _ ⟨?_, ?_⟩
 ·(refine d0Z ?_;intro e he;have hm:=mem_listed he;simp[go_sem, *] at hm;try (first|(subst hm;exact dU _ _ (hE.not (by omega) _))|(rcases hm with rfl|rfl<;>exact dU _ _ (hE.not (by omega) _))))
 clear hK K
 try walk_nrm
 clear hc;co_apply aJ rfl (by rfl);intro _ hR K hK;replace hF:=(New.rely) hF hR;clear hR
 skip
 go_simp
 try (unfold stored;go_simp)
 refine hK _ _ ⟨?_, ?_⟩
 ·(rw[listed_nil (by simp[go_sem, *])];exact d0Z (by simp))
 clear hK K
 try walk_nrm
 co_apply aJ rfl (by rfl);intro _ hR K hK;replace hF:=(New.rely) hF hR;clear hR
 skip
 go_simp
 try (unfold stored;go_simp)
 refine hK _ _ ⟨?_, ?_⟩
 ·(rw[listed_nil (by simp[go_sem, *])];exact d0Z (by simp))
 clear hK K
 try walk_nrm
 co_apply aJ rfl (by rfl);intro _ hR K hK;replace hF:=(New.rely) hF hR;clear hR;have hc:=hF.cell (i:=1) rfl (j:=0) rfl;go_simp
 try (unfold stored;go_simp)
 refine hK _ _ ⟨?_, ?_⟩
 ·(refine d0Z ?_;intro e he;have hm:=mem_listed he;simp[go_sem, *] at hm;try (first|(subst hm;exact dU _ _ (hE.not (by omega) _))|(rcases hm with rfl|rfl<;>exact dU _ _ (hE.not (by omega) _))))
 clear hK K
 try walk_nrm
 clear hc;co_apply aJ rfl (by rfl);intro _ hR K hK;replace hF:=(New.rely) hF hR;clear hR
 skip
 go_simp
 try (unfold stored;go_simp)
 refine hK _ _ ⟨?_, ?_⟩
 ·(rw[listed_nil (by simp[go_sem, *])];exact d0Z (by simp))
 clear hK K
 try walk_nrm
 co_apply aJ rfl (by rfl);intro _ hR K hK;replace hF:=(New.rely) hF hR;clear hR
 skip
 go_simp
 try (unfold stored;go_simp)
 refine hK _ _ ⟨?_, ?_⟩
 ·(rw[listed_nil (by simp[go_sem, *])];exact d0Z (by simp))
 clear hK K
 try walk_nrm
 co_apply bJ
 try simp only[ThenX]
 try co_then
 co_apply fJ (t:=false)
 focus (exact rfl)
 simp only[if_true,if_false,Bool.false_eq_true,reduceIte];co_apply ji;co_apply wpC_skip (kD (Shs s))
 try simp only[ThenX]
 try co_then
 co_apply cj;co_apply bq;simp only[List.size_toArray,List.length_cons,List.length_nil,Nat.reduceAdd,Nat.zero_add,List.range,List.range.loop];co_apply aJ rfl (by rfl);intro _ hR K hK;replace hF:=(New.rely) hF hR;clear hR;have hs:=hF.size;go_simp
 try (unfold stored;go_simp)
 refine hK _ _ ⟨?_, ?_⟩
 ·(refine d0Z ?_;intro e he;have hm:=mem_listed he;simp[go_sem, *] at hm)
 clear hK K
 try walk_nrm
 replace hF:=hF.alloc (.chan 0 #[] false 0 0 false)
 try simp only[List.length_cons,List.length_nil,Nat.reduceAdd,Nat.add_zero,Nat.zero_add] at hs
 try simp only[List.nil_append,List.cons_append] at hF
 try simp only[hs]
 clear hs;co_apply aJ rfl (by rfl);intro _ hR K hK;replace hF:=(New.rely) hF hR;clear hR;have hs:=hF.size;go_simp
 try (unfold stored;go_simp)
 refine hK _ _ ⟨?_, ?_⟩
 ·(refine d0Z ?_;intro e he;have hm:=mem_listed he;simp[go_sem, *] at hm)
 clear hK K
 try walk_nrm
 replace hF:=hF.alloc (.cells #[.chan none] 76)
 try simp only[List.length_cons,List.length_nil,Nat.reduceAdd,Nat.add_zero,Nat.zero_add] at hs
 try simp only[List.nil_append,List.cons_append] at hF
 try simp only[hs]
 clear hs;co_apply aJ rfl (by rfl);intro _ hR K hK;replace hF:=(New.rely) hF hR;clear hR;have hc:=hF.cell (i:=3) rfl (j:=0) rfl;have hz:=hF.thaw (i:=3) rfl 0;go_simp
 try (unfold stored;go_simp)
 refine hK _ _ ⟨?_, ?_⟩
 ·(refine d0Z ?_;intro e he;have hm:=mem_listed he;simp[go_sem, *] at hm;try (first|(subst hm;exact dU _ _ (hE.not (by omega) _))|(rcases hm with rfl|rfl<;>exact dU _ _ (hE.not (by omega) _))))
 clear hK K
 try walk_nrm
 clear hc hz;replace hF:=hF.set (i:=3) rfl 0 (.chan (some (W.heap.size+2)));simp only[List.set_cons_zero,List.set_cons_succ,List.setIfInBounds_toArray] at hF;co_apply bJ
 try simp only[ThenX]
 try co_then
 co_apply cj;co_apply bq;simp only[List.size_toArray,List.length_cons,List.length_nil,Nat.reduceAdd,Nat.zero_add,List.range,List.range.loop];co_apply aJ rfl (by rfl);intro _ hR K hK;replace hF:=(New.rely) hF hR;clear hR;have hs:=hF.size;go_simp
 try (unfold stored;go_simp)
 refine hK _ _ ⟨?_, ?_⟩
 ·(refine d0Z ?_;intro e he;have hm:=mem_listed he;simp[go_sem, *] at hm)
 clear hK K
 try walk_nrm
 replace hF:=hF.alloc (.chan 0 #[] false 0 0 false)
 try simp only[List.length_cons,List.length_nil,Nat.reduceAdd,Nat.add_zero,Nat.zero_add] at hs
 try simp only[List.nil_append,List.cons_append] at hF
 try simp only[hs]
 clear hs;co_apply aJ rfl (by rfl);intro _ hR K hK;replace hF:=(New.rely) hF hR;clear hR;have hs:=hF.size;go_simp
 try (unfold stored;go_simp)
 refine hK _ _ ⟨?_, ?_⟩
 ·(refine d0Z ?_;intro e he;have hm:=mem_listed he;simp[go_sem, *] at hm)
 clear hK K
 try walk_nrm
 replace hF:=hF.alloc (.cells #[.chan none] 77)
 try simp only[List.length_cons,List.length_nil,Nat.reduceAdd,Nat.add_zero,Nat.zero_add] at hs
 try simp only[List.nil_append,List.cons_append] at hF
 try simp only[hs]
 clear hs;co_apply aJ rfl (by rfl);intro _ hR K hK;replace hF:=(New.rely) hF hR;clear hR;have hc:=hF.cell (i:=5) rfl (j:=0) rfl;have hz:=hF.thaw (i:=5) rfl 0;go_simp
 try (unfold stored;go_simp)
 refine hK _ _ ⟨?_, ?_⟩
 ·(refine d0Z ?_;intro e he;have hm:=mem_listed he;simp[go_sem, *] at hm;try (first|(subst hm;exact dU _ _ (hE.not (by omega) _))|(rcases hm with rfl|rfl<;>exact dU _ _ (hE.not (by omega) _))))
 clear hK K
 try walk_nrm
 clear hc hz;replace hF:=hF.set (i:=5) rfl 0 (.chan (some (W.heap.size+4)));simp only[List.set_cons_zero,List.set_cons_succ,List.setIfInBounds_toArray] at hF;co_apply bJ
 try simp only[ThenX]
 try co_then
 co_apply cj;co_apply bq;simp only[List.size_toArray,List.length_cons,List.length_nil,Nat.reduceAdd,Nat.zero_add,List.range,List.range.loop];co_apply aJ rfl (by rfl);intro _ hR K hK;replace hF:=(New.rely) hF hR;clear hR;have hs:=hF.size;go_simp
 try (unfold stored;go_simp)
 refine hK _ _ ⟨?_, ?_⟩
 ·(refine d0Z ?_;intro e he;have hm:=mem_listed he;simp[go_sem, *] at hm)
 clear hK K
 try walk_nrm
 replace hF:=hF.alloc (.cells #[.int .u64 0, .int .u32 0] 87)
 try simp only[List.length_cons,List.length_nil,Nat.reduceAdd,Nat.add_zero,Nat.zero_add] at hs
 try simp only[List.nil_append,List.cons_append] at hF
 try simp only[hs]
 clear hs;co_apply bJ
 try simp only[ThenX]
 try co_then
 clear b1 b2 b3 c76 d76 c77 d77;have hF':New W (boxZ W.heap.size K ticks 0) _:=hF;clear hF;intro b k cs m hb hk hc;have hAt: ∀w w₁,AtRel w w₁->PostB w->PostB w₁:=fun w w₁ ⟨d,e⟩ h=>by subst e;exact hPc w _ ⟨rfl,rfl,rfl,rfl,fun _ _ _=>rfl⟩ h
 have rely: ∀{told:Value}{w w₁:World},RanZ PostB W.heap.size told ws w->AtRel w w₁->RanZ PostB W.heap.size told ws w₁:=fun{told w w₁} h r=>⟨hAt w w₁ r h.1,by obtain⟨d,rfl⟩:=r;exact h.2⟩;refine(show Goes Tryz.prog true AtRel (D0 (Shs s)) (StopZ Tryz.prog Fin (nn+1) s) (m+15) _ _ from Goes.mono (uS (PostB:=PostB) (ws:=ws) hb hk hE hws hPb hPc hPn hT ?_ _ hF') (by omega))
 ·intro told w' hFJ;have hF:RanZ PostB W.heap.size told ws w':=hFJ;clear hFJ hF' hT;co_apply Exists.intro;co_apply bN (kD (Shs (W.heap.size::s))) rfl (fun _=>stepG_region_end);co_apply kE (F:=FZ Tryz.prog Fin) (s:=(nn,W.heap.size::s)) (m:=m) ?_ hb hk hc;simp only[TR,tl10,tl9,tl8,tl7,tl6,Tryz.f19];co_apply cj;co_apply bq;simp only[List.size_toArray,List.length_cons,List.length_nil,Nat.reduceAdd,Nat.zero_add,List.range,List.range.loop];co_apply aJ rfl (by rfl);intro _ hR K hK;replace hF:=(rely) hF hR;clear hR
  skip
  go_simp
  try (unfold stored;go_simp)
  refine hK _ _ ⟨?_, ?_⟩
  ·(rw[listed_nil (by simp[go_sem, *])];exact d0Z (by simp))
  clear hK K
  try walk_nrm
  co_apply aJ rfl (by rfl);intro _ hR K hK;replace hF:=(rely) hF hR;clear hR
  skip
  go_simp
  try (unfold stored;go_simp)
  refine hK _ _ ⟨?_, ?_⟩
  ·(rw[listed_nil (by simp[go_sem, *])];exact d0Z (by simp))
  clear hK K
  try walk_nrm
  co_apply aJ rfl (by rfl);intro _ hR K hK;replace hF:=(rely) hF hR;clear hR
  skip
  go_simp
  try (unfold stored;go_simp)
  refine hK _ _ ⟨?_, ?_⟩
  ·(rw[listed_nil (by simp[go_sem, *])];exact d0Z (by simp))
  clear hK K
  try walk_nrm
  co_apply bJ
  try simp only[ThenX]
  try co_then
  co_apply ji;co_apply wpC_ret (kD (Shs (W.heap.size::s)));exact⟨rfl,_,resultsC_tmp2 (t:=4) (u:=5) (by rfl) _,rfl,told,rfl,hF⟩
end Go.Proofs.YtejkelcaljmnoaaGreatDoor
namespace Go.Proofs.YtejkelcaljmnoaaGreatDoor
open Go.Conc Go.RowKit Go.Hx Go.Lo Go.ConcX Go.Conc.Lib Go.ConcX.Gen
section
variable {σ:Type}{F:Fam σ}{P:Program}{main:Bool}{f:FuncId}{args:Array Value}{n:Nat}{s:σ}{w:World}{Post Post':σ->Value->World->Prop}
theorem fX (h:CallsX F P main f args n s w Post)(hp: ∀s v w,Post s v w->Post' s v w):CallsX F P main f args n s w Post':=by
 obtain⟨g,c,hf,hname,hbody,hwp⟩:=h;refine⟨g,c,hf,hname,hbody,fun b k cs m hb hk hc=>hwp b k cs m hb hk fun s' e a' w' q=>hc s' e a' w' ?_⟩;cases e with
 |normal=>obtain⟨h1,v,h2,h3⟩:=q;exact⟨h1,v,h2,hp _ _ _ h3⟩
 |ret=>obtain⟨h1,v,h2,h3⟩:=q;exact⟨h1,v,h2,hp _ _ _ h3⟩
 |_=>exact q
end
section
variable {K:Nat}{A:Lay}{S:St}{F L:Frag}
theorem Rep.boxes (h:Rep K A S F L){bx:Frag}(hf:Fun (bx++L))(hn: ∀t∈bx,∀u∈L,u.1≠t.1):Rep K A S (bx++F) (bx++L):=
 {h.of hf (fun t ht=>List.mem_append_right _ ht) with
  fr:=fun t ht=>by
   rcases List.mem_append.1 ht with h1|h1
   ·exact List.mem_append_left _ h1
   ·exact List.mem_append_right _ (h.fr t h1)
  fd:=fun t ht=>by
   rcases List.mem_append.1 ht with h1|h1
   ·exact⟨fun e=>hn t h1 _ h.k e.symm,fun q hq e=>hn t h1 _ (h.p q hq) e.symm,fun i e=>let ⟨_,hx⟩:=h.al i _ e;hn t h1 _ hx rfl,fun i e=>let ⟨_,hx⟩:=h.yl i _ e;hn t h1 _ hx rfl,fun e=>hn t h1 _ h.w e.symm⟩
   ·exact h.fd t h1}
theorem Rep.forget (h:Rep K A S F L){c:Nat}{cs:Array Value}{fl:Bool}(hc:(c,fl,Obj.cells cs 3)∈F){F':Frag}(hF: ∀t∈F',t∈F/\t.1≠c):Rep K A S F' (L.filter fun t=> !decide (t.1=c)):=by
 obtain⟨d1,d2,d3,d4,d5⟩:=h.fd _ hc;have hcL:=h.fr _ hc;have mem: ∀t∈L,t.1≠c->t∈L.filter fun t=> !decide (t.1=c):=fun t ht hne=>List.mem_filter.2 ⟨ht,by simpa using hne⟩;have arr: ∀(a:Sl)(xs:List Value)(e:TypeId),a.b≠some c->slOk a xs e L->slOk a xs e (L.filter fun t=> !decide (t.1=c)):=fun a xs e hn ha=>by
  refine ha.mono fun d hd o ho=>mem _ ho ?_;show d≠c;rintro rfl;exact hn hd
 exact{h with
  fn:=fun b fl fl' o o' h1 h2=>h.fn b fl fl' o o' (List.mem_filter.1 h1).1 (List.mem_filter.1 h2).1
  k:=mem _ h.k (Ne.symm d1)
  g:=mem _ h.g (h.fn.ne h.g hcL (aQ (by decide)))
  p:=fun q hq=>mem _ (h.p q hq) (Ne.symm (d2 q hq))
  pa:=arr _ _ _ (d3 0) h.pa
  rw:=fun l hl=>arr _ _ _ (d3 _) (h.rw l hl)
  ya:=fun i hi=>arr _ _ _ (d4 i) (h.ya i hi)
  w:=mem _ h.w (Ne.symm d5)
  wa:=fun e he=>arr _ _ _ (d3 _) (h.wa e he)
  al:=fun i d hd=>by obtain⟨xs,hx⟩:=h.al i d hd;exact⟨xs,mem _ hx (by rintro rfl;exact d3 i hd)⟩
  yl:=fun i d hd=>by obtain⟨xs,hx⟩:=h.yl i d hd;exact⟨xs,mem _ hx (by rintro rfl;exact d4 i hd)⟩
  fr:=fun t ht=>mem _ (h.fr t (hF t ht).1) (hF t ht).2
  fd:=fun t ht=>h.fd t (hF t ht).1}
end
def Heard (told:Value)(es:List Value)(L:Frag):Prop:=(told= .slice none 0 0/\es=[])\/ ∃g cap cur,told= .slice (some ⟨g,0,none⟩) es.length cap/\(g,true,Obj.cells cur 51)∈L/\es.length<=cap/\cap<=maxLen/\cur.size=cap*4/\cur.toList.take (es.length*4)=es.flatMap fun v=>v.cells.toList
theorem p7 (S:St)(b:Nat)(x:PS)(m:Int): ∃ws:List Wd,S.grantE b x m=ws.map Wd.v/\ws.length<=1:=by
 unfold St.grantE;by_cases e0:m=0
 ·rw[if_pos e0];exact⟨[(_,_,_,_)],rfl,Nat.le_refl _⟩
 rw[if_neg e0];by_cases e3:m=3
 ·rw[if_pos e3];cases S.find (x.r 0) with
  |none=>exact⟨[],rfl,Nat.zero_le _⟩
  |some q=>
   simp only
   split
   ·exact⟨[],rfl,Nat.zero_le _⟩
   ·exact⟨[(_,_,_,_)],rfl,Nat.le_refl _⟩
 rw[if_neg e3]
 split
 ·exact⟨[(_,_,_,_)],rfl,Nat.le_refl _⟩
 ·exact⟨[],rfl,Nat.zero_le _⟩
theorem ue (S:St)(b:Nat)(x:PS): ∃ws:List Wd,S.runE b x=ws.map Wd.v/\ws.length<=1:=by
 unfold St.runE
 split
 ·exact⟨[(_,_,_,_)],rfl,Nat.le_refl _⟩
 ·split
  ·exact p7 _ _ _ _
  ·split
   ·exact⟨[],rfl,Nat.zero_le _⟩
   ·exact⟨[(_,_,_,_)],rfl,Nat.le_refl _⟩
theorem rz (S:St): ∃ws:List Wd,S.tickE=ws.map Wd.v/\ws.length<=2:=by
 unfold St.tickE;cases S.lead.first with
 |none=>exact⟨[(_,_,_,_)],rfl,by simp⟩
 |some b=>
  simp only;cases S.lead.get b with
  |none=>exact⟨[],rfl,by simp⟩
  |some x=>
   obtain⟨ws,h1,h2⟩:=ue S.lead b x;exact⟨(_,_,_,_)::ws,by simp only[h1];rfl,by simp;omega⟩
theorem iW: ∀(m:Nat)(T:St),∃ws:List Wd,St.evs m T=ws.map Wd.v/\ws.length<=2*m
 |0,_=>⟨[],rfl,by simp⟩
 |m+1,T=>by
  unfold St.evs
  split
  ·exact⟨[],rfl,by simp⟩
  ·obtain⟨w1,h1,h2⟩:=rz T;obtain⟨w2,h3,h4⟩:=iW m T.next
   exact⟨w1++w2,by rw[h1,h3];simp,by simp;omega⟩
theorem nK: ∀(s:List Nat)(l:Loc),Shs s l-> ∃b,blk l=some b
 |[],_,h=>h.elim
 |N::s,l,h=>by
  rcases h with h|⟨a,rfl,_⟩
  ·exact nK s l h
  ·exact⟨_,rfl⟩
theorem DV {p:Par}{Sh:Loc->Prop}{E Dn:Nat}{PostB:World->Prop}{Aft:Goroutine->World->Prop}{W:World}{O:Nat}{G:List (Nat×Obj)}(hp:p.ety=51): ∀s,NewT (domT Tryz.prog p Sh E Dn PostB Aft W O G s):=fun s=>by
 have h: ∀(t:TypeId),t≠51-> ∀cs,(domT Tryz.prog p Sh E Dn PostB Aft W O G s).New (.cells cs t):=fun t ht cs=>by
  show isEv p.ety (.cells cs t)=false;rw[hp];simpa [isEv] using ht
 exact{a:=h 180 (by decide),b:=h 182 (by decide),c:=h 196 (by decide),d:=h 210 (by decide),r:=h 93 (by decide),k:=h 96 (by decide),y:=h 5 (by decide),i:=h 158 (by decide),p:=h 99 (by decide),n:=h 3 (by decide)}
abbrev bxs (N K:Nat)(m:Nat):Frag:=[(N+1,false,Obj.cells #[.int .i64 (m:Nat)] 3),(N,false,Obj.cells #[.pointer (some ⟨K,0,none⟩)] 35),(N+3,false,Obj.cells #[.chan (some (N+2))] 76),(N+5,false,Obj.cells #[.chan (some (N+4))] 77)]
section
variable {W:World}{O:Nat}{s:List Nat}{L:Frag}{w w':World}{K m:Nat}
theorem uf (hO:Own0 (Shs s) W O L w)(hn:New w (boxZ w.heap.size K (m:Nat) KK) w'):(domV (pZ w.heap.size) (ShR (Shs s) w.heap.size) (w.heap.size+2) (w.heap.size+4) W O (GW (w.heap.size+6))).Own (bxs w.heap.size K m++L) w':=by
 have hE:Elder (Shs s) w.heap.size:=fun l hl=>by
  obtain⟨b,hb⟩:=nK s l hl;exact⟨b,hb,hO.low l b hl hb⟩
 have lt: ∀t∈L,t.1<w.heap.size:=fun t ht=>hO.lt (fl:=t.2.1) (o:=t.2.2) ht;have hz:=hO.old.z;have bx: ∀t∈bxs w.heap.size K m,w'.heap[t.1]? =some t.2.2/\w.heap.size<=t.1/\t.1<w.heap.size+6/\t.1≠w.heap.size+2/\t.1≠w.heap.size+4/\t.2.1=false:=fun t ht=>by
  simp only[List.mem_cons,List.mem_nil_iff,or_false] at ht;rcases ht with rfl|rfl|rfl|rfl
  ·exact⟨hn.get (i:=1) rfl,by simp only;omega,by simp only;omega,by simp only;omega,by simp only;omega,rfl⟩
  ·exact⟨hn.get (i:=0) rfl,by simp only;omega,by simp only;omega,by simp only;omega,by simp only;omega,rfl⟩
  ·exact⟨hn.get (i:=3) rfl,by simp only;omega,by simp only;omega,by simp only;omega,by simp only;omega,rfl⟩
  ·exact⟨hn.get (i:=5) rfl,by simp only;omega,by simp only;omega,by simp only;omega,by simp only;omega,rfl⟩
 refine⟨(show OwnW _ _ _ _ _ _ _ _ from{has:= ?_,ap:= ?_,own:= ?_,nd:= ?_,sz:= ?_,old:= ?_,sh:=zw hE,hE:= ?_,oo:= ?_}),⟨?_, ?_, ?_⟩⟩
 ·intro t ht;rcases List.mem_append.1 ht with h|h
  ·exact(bx t h).1
  ·rw[hn.old (lt t h)];exact hO.has t h
 ·intro t ht;rcases List.mem_append.1 ht with h|h
  ·obtain⟨_,h1,h2,h3,h4,_⟩:=bx t h;refine⟨h3,h4,fun l hl hs=> ?_,fun _=>by show t.1<w.heap.size+7;omega⟩;rcases hs with hs|⟨a,rfl,ha⟩
   ·have:=hO.low l _ hs hl;omega
   ·simp only[blk,Option.some.injEq] at hl;omega
  ·have:=lt t h;refine⟨by omega,by omega,fun l hl hs=> ?_,fun _=>by show t.1<w.heap.size+7;omega⟩;rcases hs with hs|⟨a,rfl,ha⟩
   ·exact hO.ap t h l hl hs
   ·simp only[blk,Option.some.injEq] at hl;omega
 ·intro t ht hfl;rcases List.mem_append.1 ht with h|h
  ·have:=(bx t h).2.2.2.2.2;rw[hfl] at this;cases this
  ·refine⟨hO.own t h hfl,fun l hl hs=> ?_⟩;obtain⟨a,rfl,ha⟩:=hs;simp only[blk,Option.some.injEq] at hl;have:=lt t h;omega
 ·rw[List.map_append];refine List.nodup_append.2 ⟨by simp,hO.nd,fun a ha c hc=> ?_⟩;obtain⟨t,ht,rfl⟩:=List.mem_map.1 ha;obtain⟨u,hu,rfl⟩:=List.mem_map.1 hc;have:=(bx t ht).2.1;have:=lt u hu;omega
 ·rw[hn.size];exact Nat.le_refl _
 ·exact⟨hn.tape.trans hO.old.t,hn.os'.trans hO.old.o,hn.output.trans hO.old.u,by rw[hn.size];omega,fun x hx=>(hn.old (by omega)).trans (hO.old.b x hx)⟩
 ·exact⟨by show w.heap.size+2<w.heap.size+7;omega,by show w.heap.size+4<w.heap.size+7;omega⟩
 ·refine⟨by omega,by omega, ?_⟩;show O<=w.heap.size+7;omega
 ·intro t ht;simp only[List.mem_cons,List.mem_nil_iff,or_false] at ht;subst ht;exact hn.get (i:=6) rfl
 ·intro t ht u hu;simp only[List.mem_cons,List.mem_nil_iff,or_false] at ht;subst ht;rcases List.mem_append.1 hu with h|h
  ·have:=(bx u h).2.2.1;simp only;omega
  ·have:=lt u h;simp only;omega
 ·intro t ht;simp only[List.mem_cons,List.mem_nil_iff,or_false] at ht;subst ht;refine⟨by simp only;omega,by simp only;omega, ?_⟩;show w.heap.size+6<w.heap.size+7;omega
end
theorem rA (ws:List Wd):(ws.map Wd.v).flatMap (fun v=>v.cells.toList)=ws.flatMap Wd.c:=by
 induction ws with
 |nil=>rfl
 |cons x ws ih=>simp only[List.map_cons,List.flatMap_cons,ih];rfl
end Go.Proofs.YtejkelcaljmnoaaGreatDoor
