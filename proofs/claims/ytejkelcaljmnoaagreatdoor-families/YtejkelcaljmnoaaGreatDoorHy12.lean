/-
  Part 12 of the proof.
  No condition but those that each statement names.
-/
import Derived.Test.YtejkelcaljmnoaaGreatDoorHy11
import Derived.Test.YtejkelcaljmnoaaGreatDoorHy06
import Derived.Test.YtejkelcaljmnoaaGreatDoorHy09
import Derived.Test.YtejkelcaljmnoaaGreatDoorHy07
import Derived.Laws.IdiomArrays
set_option maxRecDepth 100000
set_option maxHeartbeats 4000000
set_option linter.unusedVariables false
set_option linter.unusedSimpArgs false
set_option linter.unusedSectionVars false
namespace Go.Proofs.YtejkelcaljmnoaaGreatDoor
open Go.Conc Go.Hx Go.Lo
theorem TI.runN {N:Nat->Nat}{S:St}{b:Nat}{x:PS}(h:TI N S)(hn:S.now<2305843009213693952)(hf:S.lead.first=some b)(hb:(b,x)∈S.lead.ps)(hnp:NP S)(hp:NoPg S):RunN S.lead b x:=
 ⟨h.running hn hf hb,hnp.lead,fun i hi=>by rw[(bQ S).pn] at hi;rw[(bQ S).pg];exact hp i hi⟩
theorem zl: ∃n,∀{p:Par}{Sh:Loc->Prop}{E Dn:Nat}{PostB:World->Prop}{Aft:Goroutine->World->Prop}{W:World}{O:Nat}{G0:List (Nat×Obj)}{vs:List Value}(K:Nat)(A:Lay)(S:St)(Fr L:Frag)(eb:Nat->Nat×Nat)(b:Nat)(x:PS),(∀s,NewT (domT Tryz.prog p Sh E Dn PostB Aft W O G0 s))->Rep K A S Fr L->Ers eb Fr->Inv S->S.bo≠0->S.lead.first=some b->RunN S.lead b x->S.pn<=256->(∀i,i<S.pn-> ∀j,j<4->0<=S.pg i j/\S.pg i j<256)->(∀c,(∀q∈S.lead.ps,c≠q.1)->Inv (S.lead.runS b x c)/\ ∀z,(b,z)∈(S.lead.runS b x c).ps->z.used<4611686018427387904)->
 CallsL (domT Tryz.prog p Sh E Dn PostB Aft W O G0) Tryz.prog false 63 [ptr K, .chan (some E)].toArray n (evt S.lead.now 1 x.id x.at_::(S.lead.runE b x++vs)) L (fun s' v L'=>vs=s'/\v= .tuple #[]/\ ∃A' c,(∀q∈S.lead.ps,c≠q.1)/\Rep K A' ((S.lead.runS b x c).after b) Fr L'):=by
 obtain⟨n0,g0⟩:=fS;obtain⟨n1,g1⟩:=r7;obtain⟨n2,g2⟩:=rX;obtain⟨n3,g3⟩:=nD;obtain⟨n4,g4⟩:=AO;obtain⟨n5,g5⟩:=xy;obtain⟨n6,g6⟩:=xz;obtain⟨n7,g7⟩:=AP;obtain⟨n8,g8⟩:=vO;obtain⟨n9,g9⟩:=vP;obtain⟨n10,g10⟩:=xu;obtain⟨n11,g11⟩:=Ax;apply Exists.intro;intro p Sh E Dn PostB Aft W O G0 vs K A S Fr L eb b x hN hR hE hI hbo hf hu hpn hby hres;have hfx:=bQ S;co_applyP aF 75 Tryz.func63 Tryz.ntmps63;co_applyP aa;co_applyP oy rfl ag;co_applyP oc rfl rfl rfl (g0 K A S Fr L (hN _).r hR hI.g);rintro _ _ _ ⟨rfl,rfl,hG1,hrel,A1,hl1,hR1⟩;co_applyP ai;change wpE ..;rename_i L1;have hbo':(S.wakes (S.ps.map (·.1))).bo≠0:=by rw[show (S.wakes (S.ps.map (·.1))).bo=S.bo from(eB _ S).bo];exact hbo
 have hn1:At L1 K 16 (.int .i64 ((S.wakes (S.ps.map (·.1))).now:Nat)):=hR1.kat rfl;have hb1:At L1 K 3 (.int .i64 (S.wakes (S.ps.map (·.1))).bo):=hR1.kat rfl;co_applyP cK (fun s'' ε'' L''=>(evt S.lead.now 1 x.id x.at_::(S.lead.runE b x++vs))=s''/\kn ε'' [(0,ptr K),(1, .chan (some E))]/\ ∃A',Rep K A' S.lead Fr L'');co_applyP dB (0<(S.wakes (S.ps.map (·.1))).now);intro h0
 ·have e0:decide ((0:Int)<((S.wakes (S.ps.map (·.1))).now:Nat))=true:=by simp;omega
  co_applyP dB ((((S.wakes (S.ps.map (·.1))).now:Nat):Int).tmod (S.wakes (S.ps.map (·.1))).bo=0);intro hm
  ·have hB:S.lead=((S.wakes (S.ps.map (·.1))).lifts ((S.wakes (S.ps.map (·.1))).ps.map (·.1))).raises 2:=by unfold St.lead St.boost;rw[if_pos (show S.wake.boosts from⟨h0,hm⟩)];rfl
   co_applyP au;co_applyP bA a5;co_applyP tr 0 rfl ag pI;co_applyP tr 1 rfl av pI;co_applyP tr 2 rfl (ak (hf:=cg)) pI;co_applyP tr 3 rfl (aA (ht:=aR)) pI;co_applyP tr 4 rfl cx pI;co_applyP tr 5 rfl ag pI;rw[e0];co_applyP tr 6 rfl (ag) pI;co_applyP tr 7 rfl (av) pI;co_applyP tr 8 rfl ((ak (hf:=cg))) pI;co_applyP tr 9 rfl ((aA (ht:=aR))) pI;co_applyP tr 10 rfl (ag) pI;co_applyP tr 11 rfl (av) pI;co_applyP tr 12 rfl ((ak (hf:=fQ))) pI;co_applyP tr 13 rfl ((ak (hf:=eu))) pI;co_applyP tr 14 rfl ((aA (ht:=aR))) pI;co_applyP tr 15 rfl (eP) pI;co_applyP tr 16 rfl (aI) pI;co_applyP tr 17 rfl aH pI;co_applyP td (by kernel_rfl);change wpE ..;rw[hm];co_applyP bv rfl;co_applyP aq;co_applyP oy rfl ag;co_applyP oc rfl rfl rfl (g1 K A1 _ Fr L1 (hN _).r hR1 (fun l hl=>hG1.r8 hl));rintro _ _ _ ⟨rfl,rfl,A2,hl2,hR2⟩;co_applyP ai;change _=_/\kn _ _/\ ∃A',_;exact⟨rfl,rfl,A2,by rw[hB];exact hR2⟩
  intro hm;have hB:S.lead=S.wakes (S.ps.map (·.1)):=by unfold St.lead St.boost;rw[if_neg (fun h=>hm h.2)];rfl
  have em:((((S.wakes (S.ps.map (·.1))).now:Nat):Int).tmod (S.wakes (S.ps.map (·.1))).bo==0)=false:=by simp[hm]
  co_applyP au;co_applyP bA a5;co_applyP tr 0 rfl ag pI;co_applyP tr 1 rfl av pI;co_applyP tr 2 rfl (ak (hf:=cg)) pI;co_applyP tr 3 rfl (aA (ht:=aR)) pI;co_applyP tr 4 rfl cx pI;co_applyP tr 5 rfl ag pI;rw[e0];co_applyP tr 6 rfl (ag) pI;co_applyP tr 7 rfl (av) pI;co_applyP tr 8 rfl ((ak (hf:=cg))) pI;co_applyP tr 9 rfl ((aA (ht:=aR))) pI;co_applyP tr 10 rfl (ag) pI;co_applyP tr 11 rfl (av) pI;co_applyP tr 12 rfl ((ak (hf:=fQ))) pI;co_applyP tr 13 rfl ((ak (hf:=eu))) pI;co_applyP tr 14 rfl ((aA (ht:=aR))) pI;co_applyP tr 15 rfl (eP) pI;co_applyP tr 16 rfl (aI) pI;co_applyP tr 17 rfl aH pI;co_applyP td (by kernel_rfl);change wpE ..;rw[em];co_applyP aE rfl;co_applyP aB;change _=_/\kn _ _/\ ∃A',_;exact⟨rfl,rfl,A1,by rw[hB];exact hR1⟩
 intro h0;have e0:decide ((0:Int)<((S.wakes (S.ps.map (·.1))).now:Nat))=false:=by simp;omega
 have hB:S.lead=S.wakes (S.ps.map (·.1)):=by unfold St.lead St.boost;rw[if_neg (fun h=>h0 h.1)];rfl
 co_applyP au;co_applyP bA a5;co_applyP tr 0 rfl ag pI;co_applyP tr 1 rfl av pI;co_applyP tr 2 rfl (ak (hf:=cg)) pI;co_applyP tr 3 rfl (aA (ht:=aR)) pI;co_applyP tr 4 rfl cx pI;co_applyP tr 5 rfl ag pI;rw[e0];co_applyP tu 6 rfl pI;co_applyP tu 7 rfl pI;co_applyP tu 8 rfl pI;co_applyP tu 9 rfl pI;co_applyP tu 10 rfl pI;co_applyP tu 11 rfl pI;co_applyP tu 12 rfl pI;co_applyP tu 13 rfl pI;co_applyP tu 14 rfl pI;co_applyP tu 15 rfl pI;co_applyP tu 16 rfl pI;co_applyP tr 17 rfl aH pI;co_applyP td (by kernel_rfl);co_applyP aE rfl;co_applyP aB;change _=_/\kn _ _/\ ∃A',_;exact⟨rfl,rfl,A1,by rw[hB];exact hR1⟩;rintro _ ε2 L2 ⟨rfl,he2,A2,hR2⟩;co_applyP aN he2;have hb:=hu.m;have hid:At L2 b 0 (.int .i64 (x.id:Nat)):=hR2.pat hb (i:=0) rfl;have hat:At L2 b 4 (.int .i64 (x.at_:Nat)):=hR2.pat hb (i:=4) rfl;have hK2: ∀q∈S.lead.ps,K≠q.1:=fun q hq=>hR2.fn.ne hR2.k (hR2.p q hq) (aQ (by decide));have hFb: ∀t∈Fr,t.1≠b:=fun t ht=>(hR2.fd t ht).2.1 _ hb;generalize hT:S.lead=T at*;co_applyP aa;co_applyP om rfl rfl rfl av;co_applyP oy rfl (ak (hf:=dA));co_applyP oc rfl rfl rfl (g2 K A2 _ Fr L2 hR2);rintro _ _ _ ⟨rfl,rfl,rfl⟩;rw[hf];co_applyP oan rfl;co_applyP au;co_applyP aa;co_applyP om rfl rfl rfl (fN (hu:=U93));co_applyP ai;co_applyP aE rfl;co_applyP aB;co_applyP au;co_applyP rf 12 a5;co_applyP lt (i:=0) rfl ag;co_applyP lt (i:=1) rfl ag;co_applyP lt (i:=2) rfl ag;co_applyP lt (i:=3) rfl av;co_applyP lt (i:=4) rfl (ak (hf:=aM));co_applyP lt (i:=5) rfl (ak (hf:=bH));co_applyP lt (i:=6) rfl (aA (ht:=aR));co_applyP lt (i:=7) rfl ag;co_applyP lt (i:=8) rfl av;co_applyP lt (i:=9) rfl (ak (hf:=aM));co_applyP lt (i:=10) rfl (ak (hf:=bT));co_applyP lt (i:=11) rfl (aA (ht:=aR));co_applyP lc (i:=12) rfl rfl rfl (g3 K A2 _ Fr L2 1 x.id x.at_ hR2);rintro _ _ _ ⟨rfl,rfl,rfl⟩;co_applyP cK (fun s'' ε'' L''=>vs=s''/\kn ε'' [(0,ptr K),(1, .chan (some E)),(4,ptr b)]/\ ∃A' G c,(∀q∈T.ps,c≠q.1)/\Stays b (T.runS b x c) G/\Rep K A' (T.runS b x c) (G++Fr) L'');co_applyP dB (T.pn<=x.at_);intro hp
 ·have eE:T.runE b x=[evt T.now 4 x.id 65281]:=by unfold St.runE;rw[if_pos hp]
  have eS: ∀c,T.runS b x c=T.fin b x 65281:=fun c=>by unfold St.runS;rw[if_pos hp]
  rw[eE];co_applyP aq;co_applyP om rfl rfl rfl ag;co_applyP om rfl rfl rfl ag;co_applyP oy rfl ag;co_applyP oc rfl rfl rfl (g4 K A2 T Fr L2 eb b x _ hR2 hE hb hp);rintro _ _ _ ⟨rfl,rfl,rfl⟩;co_applyP oy rfl ag;co_applyP oc rfl rfl rfl (g10 K A2 T Fr L2 eb b x (eb 0) (fun s=>(hN s).toNewK) hR2 hE hu.i hb hu.np);rintro _ _ _ ⟨rfl,rfl,A3,G,hall,hR3⟩;co_applyP ai;change _=_/\kn _ _/\ ∃A' G c,_;exact⟨rfl,rfl,A3,G,K,hK2,by rw[eS];exact hall _ hb,by rw[eS];exact hR3⟩
 intro hp;have hp':x.at_<T.pn:=by omega
 have h256:T.pn<=256:=by rw[hfx.pn];exact hpn
 have hby': ∀j,j<4->0<=T.pg x.at_ j/\T.pg x.at_ j<256:=fun j hj=>by rw[hfx.pg];exact hby _ (by rw[<-hfx.pn];exact hp') j hj
 co_applyP dB (T.pg x.at_ 0=9);intro h9
 ·have eE:T.runE b x=(T.setP b x.next).grantE b x.next (T.pg x.at_ 1):=by unfold St.runE;rw[if_neg hp,if_pos h9]
  rw[eE];co_applyP dB ((T.setP b x.next).grantV b x.next (T.pg x.at_ 1)=none);intro hV
  ·have eS: ∀c,T.runS b x c=(T.setP b x.next).grantS b x.next (T.pg x.at_ 1) c:=fun c=>by unfold St.runS;rw[if_neg hp,if_pos h9,hV]
   co_applyP aq;co_applyP om rfl rfl rfl ag;co_applyP om rfl rfl rfl ag;co_applyP oy rfl ag;co_applyP oc rfl rfl rfl (g5 K A2 T Fr L2 eb b x hN hR2 hE hu hp' h256 h9 hV);rintro _ _ _ ⟨rfl,rfl,A3,G,c,hc,hst,hR3⟩;co_applyP oy rfl ag;rename_i L3;co_applyP oc rfl rfl rfl (g8 L3 K b _);rintro _ _ _ ⟨rfl,rfl,rfl⟩;co_applyP ai;change _=_/\kn _ _/\ ∃A' G c,_;exact⟨rfl,rfl,A3,G,c,hc,by rw[eS];exact hst,by rw[eS];exact hR3⟩
  intro hV;obtain⟨i,hVi⟩: ∃i,(T.setP b x.next).grantV b x.next (T.pg x.at_ 1)=some i:=by
   cases h:(T.setP b x.next).grantV b x.next (T.pg x.at_ 1) with
   |none=>exact absurd h hV
   |some i=>exact⟨i,rfl⟩
  obtain⟨hsame,hi11,hi2⟩:=mt hVi;have hbn:(b,x.next)∈(T.setP b x.next).ps:=ar hb;have eS: ∀c,T.runS b x c=(T.setP b x.next).setP b (x.next.r0 (ansOf i)):=fun c=>by
   unfold St.runS;rw[if_neg hp,if_pos h9,hVi];simp only[hsame];unfold St.r0;rw[bk (by rw[ba];exact hu.i.g.pn) hbn]
  co_applyP aq;co_applyP om rfl rfl rfl ag;co_applyP om rfl rfl rfl ag;co_applyP oy rfl ag;co_applyP oc rfl rfl rfl (g6 K A2 T Fr L2 eb b x i hN hR2 hE hu hp' h256 h9 hVi);rintro _ _ _ ⟨rfl,r,rfl,hr,A3,G,c,hc,hst,hR3⟩;co_applyP oy rfl ag;rename_i L3;rw[hsame] at hR3;co_applyP oc rfl rfl rfl (g9 K A3 _ _ L3 eb b x.next r i _ (hN _).toNewK hR3 (hE.mono fun t ht=>List.mem_append_right _ ht) hbn hr hi11 hi2);rintro _ _ _ ⟨rfl,rfl,hR4⟩;co_applyP ai;change _=_/\kn _ _/\ ∃A' G c,_;exact⟨rfl,rfl,A3,G,c,hc,by rw[eS];exact .inl ⟨_,ar hbn⟩,by rw[eS];exact hR4⟩
 intro h9;co_applyP dB (∃x',T.doR x= .ok x');intro hd
 ·obtain⟨x',hd'⟩:=hd;have eE:T.runE b x=[]:=by unfold St.runE;rw[if_neg hp,if_neg h9,hd']
  have eS: ∀c,T.runS b x c=T.setP b x':=fun c=>by unfold St.runS;rw[if_neg hp,if_neg h9,hd']
  rw[eE];co_applyP aq;co_applyP om rfl rfl rfl ag;co_applyP om rfl rfl rfl ag;co_applyP oy rfl ag;co_applyP oc rfl rfl rfl (g7 K A2 T Fr L2 eb b x _ (hN _).i hR2 hE hu.i hb hp' h256 h9 hby');rintro _ _ _ ⟨rfl,hpost⟩;rename_i v3 L3;rw[show x.do (T.pg x.at_ 0) (T.pg x.at_ 1) (T.pg x.at_ 2) (T.pg x.at_ 3)= .ok x' from hd'] at hpost;obtain⟨rfl,hR3⟩:=hpost;co_applyP oy rfl ag;co_applyP oc rfl rfl rfl (g8 L3 K b _);rintro _ _ _ ⟨rfl,rfl,rfl⟩;co_applyP ai;change _=_/\kn _ _/\ ∃A' G c,_;exact⟨rfl,rfl,A2,[],K,hK2,by rw[eS];exact .inl ⟨_,ar hb⟩,by rw[eS];exact hR3⟩
 intro hd;obtain⟨e,hd'⟩: ∃e,T.doR x= .error e:=by
  cases h:T.doR x with
  |ok x'=>exact absurd ⟨x',h⟩ hd
  |error e=>exact⟨e,rfl⟩
 obtain⟨d,hde⟩:=yI eb e;have eE:T.runE b x=[evt T.now 4 x.id 65281]:=by unfold St.runE;rw[if_neg hp,if_neg h9,hd']
 have eS: ∀c,T.runS b x c=T.fin b x 65281:=fun c=>by unfold St.runS;rw[if_neg hp,if_neg h9,hd']
 rw[eE];co_applyP aq;co_applyP om rfl rfl rfl ag;co_applyP om rfl rfl rfl ag;co_applyP oy rfl ag;co_applyP oc rfl rfl rfl (g7 K A2 T Fr L2 eb b x _ (hN _).i hR2 hE hu.i hb hp' h256 h9 hby');rintro _ _ _ ⟨rfl,hpost⟩;rename_i v3 L3;rw[show x.do (T.pg x.at_ 0) (T.pg x.at_ 1) (T.pg x.at_ 2) (T.pg x.at_ 3)= .error e from hd'] at hpost;obtain⟨rfl,hR3⟩:=hpost;rw[hde];co_applyP oy rfl ag;co_applyP oc rfl rfl rfl (g10 K A2 T Fr L3 eb b x d (fun s=>(hN s).toNewK) hR3 hE hu.i hb hu.np);rintro _ _ _ ⟨rfl,rfl,A4,G,hall,hR4⟩;co_applyP ai;change _=_/\kn _ _/\ ∃A' G c,_;exact⟨rfl,rfl,A4,G,K,hK2,by rw[eS];exact hall _ hb,by rw[eS];exact hR4⟩;rintro _ ε3 L3 ⟨rfl,he3,A3,G,c,hc,hst,hR3⟩;co_applyP aN he3;obtain⟨hIc,huc⟩:=hres c hc;obtain⟨z,hzL,hz⟩:=Stays.at hR3 hst;have hz6:At L3 b 6 (.int .i64 (z.used:Nat)):=⟨true,_,_,_,hzL,rfl⟩;co_applyP aa;co_applyP om rfl rfl rfl av;co_applyP oy rfl (ak (hf:=aM));co_applyP oy rfl (ak (hf:=da));co_applyP oy rfl (aA (ht:=aR));co_applyP oy rfl aS;co_applyP oy rfl av;co_applyP oy rfl (ak (hf:=aM));co_applyP oy rfl (ak (hf:=da));co_applyP osm rfl (hs:=bS) (hm:=hzL) (hi:=by first|decide|(rw[bL];omega)|(rw[bU];omega));intro L4 hU4;have hz2:At L4 b 2 (.int .i64 (z.st:Nat)):=⟨true,_,_,_,hU4.self,by rw[Array.getElem?_setIfInBounds_ne (by decide)];rfl⟩;have hset:(b,z)∈(T.runS b x c).ps->Rep K A3 ((T.runS b x c).setP b z.more) (G++Fr) L4:=fun hz'=>by
  have hw:=huc z hz';have w1:IntKind.i64.wrap ((z.used:Int)+1)=((z.used+1:Nat):Int):=by simp[IntKind.wrap_i64];omega
  rw[w1] at hU4;exact hR3.setP (x':=z.more) hz' (by unfold PS.more;rw[<-tF];exact hU4)
 co_applyP ai;co_applyP aa;co_applyP om rfl rfl rfl av;co_applyP oy rfl (ak (hf:=aM));co_applyP oy rfl (ak (hf:=bM));co_applyP oy rfl (aA (ht:=aR));co_applyP oy rfl aI;co_applyP ai;co_applyP aT rfl;intro h1;co_applyP aq;co_applyP om rfl rfl rfl ag
 ·have h1':z.st=1:=by simp at h1;omega
  have hz':(b,z)∈(T.runS b x c).ps:=hz.elim id fun h=>by omega
  have hR4:=hset hz';have hG4:=hIc.g.like (x':=z.more) hz' rfl rfl;have hb4:(b,z.more)∈((T.runS b x c).setP b z.more).ps:=ar hz';have hlv:=hG4.lv _ hb4;co_applyP oc rfl rfl rfl (g11 K A3 _ _ L4 b z.more (hN _).r hR4 hb4 hlv (fun l hl=>hG4.r8 hl) (hG4.ex hlv) (fun e he l hl=>dC e.1 hl));rintro _ _ _ ⟨rfl,rfl,A5,hl5,hR5⟩;co_applyP ai;change∃v,resE .. =some v/\_;refine⟨_,rfl,rfl,rfl,A5,c,hc, ?_⟩;unfold St.after;rw[bk hIc.g.pn hz'];simp only[h1',if_true];exact hR5.less fun t ht=>List.mem_append_right _ ht
 intro h1;co_applyP aB;change∃v,resE .. =some v/\_;have h1': ¬z.st=1:=by simp at h1;omega
 refine⟨_,rfl,rfl,rfl,A3,c,hc, ?_⟩;unfold St.after;rcases hz with hz'|⟨hz',h6⟩
 ·rw[bk hIc.g.pn hz'];simp only[h1',if_false];exact(hset hz').less fun t ht=>List.mem_append_right _ ht
 ·have hd:=hR3.fd (pb b z) (List.mem_append_left _ hz');rw[fU fun r hr=>Ne.symm (hd.2.1 r hr)];have hR3':=hR3.less (F':=Fr) fun t ht=>List.mem_append_right _ ht;exact hR3'.off (b:=b) (Ne.symm hd.1) (fun q hq=>Ne.symm (hd.2.1 q hq)) hd.2.2.1 hd.2.2.2.1 (Ne.symm hd.2.2.2.2) (hR3.fn.ne hR3.g hzL (aQ (by decide))) hFb hU4
theorem Bx: ∃n,∀{p:Par}{Sh:Loc->Prop}{E Dn:Nat}{PostB:World->Prop}{Aft:Goroutine->World->Prop}{W:World}{O:Nat}{G0:List (Nat×Obj)}{vs:List Value}(K:Nat)(A:Lay)(S:St)(N:Nat->Nat)(Fr L:Frag)(eb:Nat->Nat×Nat),(∀s,NewT (domT Tryz.prog p Sh E Dn PostB Aft W O G0 s))->Rep K A S Fr L->Ers eb Fr->TI N S->S.now<2305843009213693952->NP S->NoPg S->
 CallsL (domT Tryz.prog p Sh E Dn PostB Aft W O G0) Tryz.prog false 63 [ptr K, .chan (some E)].toArray n (S.tickE++vs) L (fun s' v L'=>vs=s'/\v= .tuple #[]/\ ∃A' c,(∀q∈S.lead.ps,c≠q.1)/\Rep K A' (S.tickU c) Fr L'):=by
 obtain⟨n0,g0⟩:=AQ;obtain⟨n1,g1⟩:=zl;refine⟨n0+n1,fun{p Sh E Dn PostB Aft W O G0 vs} K A S N Fr L eb hN hR hE hT hn hnp hpg=>aZ (S.lead.first=none) (fun hf=> ?_) fun hf=> ?_⟩
 ·have e1:S.tickE=[evt S.lead.now 2 0 0]:=by unfold St.tickE;rw[hf]
  have e2: ∀c,S.tickU c=S.lead:=fun c=>by unfold St.tickU;rw[hf]
  rw[e1];refine aU (g0 K A S Fr L eb hN hR hE hT.m.i hT.bo hf) fun s' v L' ⟨h1,h2,A',h3⟩=>⟨h1,h2,A',K,fun q hq=> ?_,by rw[e2];exact h3⟩;exact h3.fn.ne h3.k (h3.p q hq) (aQ (by decide))
 ·obtain⟨b,hb⟩: ∃b,S.lead.first=some b:=by
   cases h:S.lead.first with
   |none=>exact absurd h hf
   |some b=>exact⟨b,rfl⟩
  obtain⟨x,hx,hs⟩:=dn hT.m.lead.i.g hb;have e1:S.tickE=evt S.lead.now 1 x.id x.at_::S.lead.runE b x:=by unfold St.tickE;rw[hb];simp only[bk hT.m.lead.i.g.pn hx]
  have e2: ∀c,S.tickU c=(S.lead.runS b x c).after b:=fun c=>by unfold St.tickU;rw[hb];simp only[bk hT.m.lead.i.g.pn hx]
  rw[e1];have hres: ∀c,(∀q∈S.lead.ps,c≠q.1)->Inv (S.lead.runS b x c)/\ ∀z,(b,z)∈(S.lead.runS b x c).ps->z.used<4611686018427387904:=fun c hc=>by
   have hcs: ∀q∈S.ps,c≠q.1:=fun q hq e=>by
    have:q.1∈S.lead.ps.map (·.1):=by rw[lu];exact List.mem_map.2 ⟨q,hq,rfl⟩
    obtain⟨r,hr,e2⟩:=List.mem_map.1 this;exact hc r hr (by rw[e,<-e2])
   have hT2:=hT.rename (zX (c:=c) hT.m.i.g.pn);have hm:=hT2.m.lead.runS hT2.coded_lead hx hs hc (by rw[cV];exact wk hcs);refine⟨hm.i,fun z hz=> ?_⟩;have:=hm.x.un _ hz;rw[(iS S.lead b x c).1.now,(bQ S).now] at this;simp only at this;omega
  exact aU (g1 K A S Fr L eb b x hN hR hE hT.m.i hT.bo hb (hT.runN hn hb hx hnp hpg) hT.p.1 hT.p.2 hres) fun s' v L' ⟨h1,h2,A',c,h3,h4⟩=>⟨h1,h2,A',c,h3,by rw[e2];exact h4⟩
theorem By: ∃n,∀{p:Par}{Sh:Loc->Prop}{E Dn:Nat}{PostB:World->Prop}{Aft:Goroutine->World->Prop}{W:World}{O:Nat}{G0:List (Nat×Obj)}{vs:List Value}(K:Nat)(A:Lay)(S T:St)(Fr L:Frag)(eb:Nat->Nat×Nat)(m:Nat),(∀s,NewT (domT Tryz.prog p Sh E Dn PostB Aft W O G0 s))->Rep K A S Fr L->Ers eb Fr->Ab S T->m<=2000->S.now<1152921504606846976->NP S->NoPg S->
 CallsL (domT Tryz.prog p Sh E Dn PostB Aft W O G0) Tryz.prog false 33 [ptr K, .int .i64 (m:Nat), .chan (some E)].toArray n (St.evs m T++vs) L (fun s' v L'=>vs=s'/\v= .tuple #[]/\ ∃A' S',Ab S' (St.runs m T)/\Rep K A' S' Fr L'):=by
 obtain⟨n0,g0⟩:=Aw;obtain⟨n1,g1⟩:=Bx;apply Exists.intro;intro p Sh E Dn PostB Aft W O G0 vs K A S T Fr L eb m hN hR hE hA hm hnow hnp hpg;co_applyP aF 22 Tryz.func33 Tryz.ntmps33;co_applyP aa;co_applyP om rfl rfl rfl ag;co_applyP ai;co_applyP aC;co_applyP bg (fun c s' ε' L'=> ∃(i:Nat) (A':Lay) (S' T':St),i<=m/\c+i=2000/\s'=St.evs (m-i) T'++vs/\Ab S' T'/\St.runs (m-i) T'=St.runs m T/\S'.now<=S.now+i/\NP S'/\NoPg S'/\Rep K A' S' Fr L'/\kn ε' [(0,ptr K),(2, .chan (some E)),(6, .int .i64 (m:Nat)),(7, .int .i64 (i:Nat))]) 2000
 ·exact⟨0,A,S,T,by omega,rfl,rfl,hA,rfl,Nat.le_refl _,hnp,hpg,hR,rfl⟩
 rintro c s' ε' L' ⟨i,A',S',T',hi,hc,rfl,hA',hruns,hnw,hnp',hpg',hR',he⟩;co_applyP aN he;have ei:IntKind.i64.wrap ((i:Int)+1)=((i+1:Nat):Int):=by simp[IntKind.wrap_i64];omega
 obtain⟨b1,x1,hf1,hov⟩:=hA'.find1;co_applyP dB (T'.isOver=true);intro ho
 ·skip
  co_applyP aa;co_applyP oy rfl bj;co_applyP ai;co_applyP au;co_applyP aT rfl;intro hlt
  ·have hlt':i<m:=by simp at hlt;omega
   obtain⟨j,hj⟩: ∃j,m-i=j+1:=⟨m-i-1,by omega⟩;have e6:((x1.st:Int)==6)=true:=by simp;have:=hov.1 ho;omega
   have ev0:St.evs (m-i) T'=[]:=by rw[hj];unfold St.evs;rw[if_pos ho]
   have er0:St.runs (m-i) T'=T':=by rw[hj];unfold St.runs;rw[if_pos ho]
   rw[ev0];co_applyP aB;co_applyP au (n₂:=0);co_applyP aC;co_applyP au (n₂:=0);co_applyP aa;co_applyP oy rfl ag;co_applyP oc rfl rfl rfl (g0 K A' S' Fr L' b1 x1 hR' hf1);rintro _ _ _ ⟨rfl,rfl,rfl⟩;co_applyP ai;change wpE ..;rw[e6];co_applyP bv rfl;co_applyP aK;change∃v,resE .. =some v/\_;exact⟨_,rfl,rfl,rfl,A',S',by rw[<-hruns,er0];exact hA',hR'⟩
  intro hlt;co_applyP bf;change∃v,resE .. =some v/\_;have him:i=m:=by simp at hlt;omega
  subst him;simp only[Nat.sub_self] at hruns⊢;exact⟨_,rfl,rfl,rfl,A',S',by rw[<-hruns];exact hA',hR'⟩
 intro ho;co_applyP aa;co_applyP oy rfl bj;co_applyP ai;co_applyP au;co_applyP aT rfl;intro hlt
 ·have hlt':i<m:=by simp at hlt;omega
  obtain⟨j,hj⟩: ∃j,m-i=j+1:=⟨m-i-1,by omega⟩;have e6:((x1.st:Int)==6)=false:=by simp;intro h;exact ho (hov.2 (by omega))
  obtain⟨N,hTI,hTm⟩:=hA'.ex;have etE:T'.tickE=S'.tickE:=(hA'.tick (c:=K) (fun q hq=>by
   have h1:q.1∈S'.ps.map (·.1):=by rw[<-lu];exact List.mem_map.2 ⟨q,hq,rfl⟩
   obtain⟨r,hr,e2⟩:=List.mem_map.1 h1;rw[<-e2];exact hR'.fn.ne hR'.k (hR'.p r hr) (aQ (by decide)))).1
  have ev1:St.evs (m-i) T'=S'.tickE++St.evs (m-(i+1)) T'.next:=by
   rw[hj];show (if T'.isOver then [] else T'.tickE++St.evs j T'.next)=_;rw[if_neg ho,etE,show m-(i+1)=j by omega]
  have er1:St.runs (m-i) T'=St.runs (m-(i+1)) T'.next:=by
   rw[hj];show (if T'.isOver then T' else St.runs j T'.next)=_;rw[if_neg ho,show m-(i+1)=j by omega]
  rw[ev1,List.append_assoc];co_applyP aB;co_applyP au;co_applyP aC;co_applyP au;co_applyP aa;co_applyP oy rfl ag;co_applyP oc rfl rfl rfl (g0 K A' S' Fr L' b1 x1 hR' hf1);rintro _ _ _ ⟨rfl,rfl,rfl⟩;co_applyP ai;change wpE ..;rw[e6];co_applyP aE rfl;co_applyP aB;co_applyP aa;co_applyP om rfl rfl rfl ag;co_applyP oc rfl rfl rfl (g1 K A' S' N Fr L' eb hN hR' hE hTI (by omega) hnp' hpg');rintro _ _ _ ⟨rfl,rfl,A2,cc,hcc,hR2⟩;rename_i L2;have hnx:=(hA'.tick hcc).2.2;have hnow2:(S'.tickU cc).now=S'.now:=by
   unfold St.tickU
   split
   ·exact(bQ S').now
   ·split
    ·rename_i bb _ xx _;rw[(iQ _ _).now,(iS _ _ _ _).1.now];exact(bQ S').now
    ·exact(bQ S').now
  have hn2:At L2 K 16 (.int .i64 ((S'.tickU cc).now:Nat)):=hR2.kat rfl;have wn:IntKind.i64.wrap (((S'.tickU cc).now:Int)+1)=(((S'.tickU cc).now+1:Nat):Int):=by rw[hnow2];simp[IntKind.wrap_i64];omega
  co_applyP ai;co_applyP aq;co_applyP om rfl rfl rfl av;co_applyP oy rfl (ak (hf:=cg));co_applyP oy rfl (aA (ht:=aR));co_applyP oy rfl aS;co_applyP oy rfl av;co_applyP oy rfl (ak (hf:=cg));rw[wn];co_applyP osm rfl (hs:=bS) (hm:=hR2.k) (hi:=by first|decide|(rw[bL];omega)|(rw[bU];omega));intro L3 hU3;rw[wp] at hU3;have hR3:Rep K A2 (S'.tickU cc).later Fr L3:=hR2.setK rfl rfl rfl rfl rfl rfl hU3;co_applyP ai;co_applyP aq;co_applyP oy rfl aS;co_applyP oy rfl ag;co_applyP ai;change∃k',k'<_/\_;refine⟨c-1,by omega,i+1,A2,_,T'.next,by omega,by omega,rfl,hnx,by rw[<-er1];exact hruns, ?_,hnp'.tick hpg' hTI cc,hpg'.tick cc,hR3,by rw[<-ei];rfl⟩;show (S'.tickU cc).now+1<=_;rw[hnow2];omega
 intro hlt;co_applyP bf;change∃v,resE .. =some v/\_;have him:i=m:=by simp at hlt;omega
 subst him;simp only[Nat.sub_self] at hruns⊢;exact⟨_,rfl,rfl,rfl,A',S',by rw[<-hruns];exact hA',hR'⟩
end Go.Proofs.YtejkelcaljmnoaaGreatDoor
namespace Go.Proofs.YtejkelcaljmnoaaGreatDoor
open Go.Conc Go.RowKit Go.Hx Go.Lo Go.ConcX Go.Conc.Lib Go.ConcX.Gen
theorem Dg: ∃k,∀{Fin:Value->World->Prop}{W:World}{O:Nat}(nn:Nat)(s:List Nat)(K:Nat)(A:Lay)(S T:St)(Fr L:Frag)(eb:Nat->Nat×Nat)(m:Nat),Rep K A S Fr L->Ers eb Fr->Ab S T->m<=2000->S.now<1152921504606846976->NP S->NoPg S->
 CallsL (F:=FZ Tryz.prog Fin) (fun s=>dom0 (Shs s.2) W O) Tryz.prog true 19 [ptr K, .int .i64 (m:Nat)].toArray k (nn+1,s) L (fun s' v L'=> ∃N told A' S',s'=(nn,N::s)/\v= .tuple #[told, .int .i64 0]/\Ab S' (St.runs m T)/\Rep K A' S' Fr L'/\Heard told (St.evs m T) L'/\ ∀g n c,told= .slice (some ⟨g,0,none⟩) n c-> ∀t∈L,t.1≠g):=by
 obtain⟨k,hk⟩:=CX;obtain⟨kp,hpass⟩:=By;refine⟨k,fun{Fin W O} nn s K A S T Fr L eb m hR hEr hAb hm hnow hnp hpg w hO=> ?_⟩;obtain⟨ws,hws,hwl⟩:=iW m T;have hO':Own0 (Shs s) W O L w:=hO;have hE:Elder (Shs s) w.heap.size:=fun l hl=>by
  obtain⟨b,hb⟩:=nK s l hl;exact⟨b,hb,hO'.low l b hl hb⟩
 have hz:=hO'.old.z;have lt: ∀t∈L,t.1<w.heap.size:=fun t ht=>hO'.lt (fl:=t.2.1) (o:=t.2.2) ht
 let QL:Frag->Prop:=fun L'=> ∃A' S',Ab S' (St.runs m T)/\Rep K A' S' Fr L'
 let PB:=PostW (pZ w.heap.size) (ShR (Shs s) w.heap.size) (w.heap.size+2) (w.heap.size+4) W O (w.heap.size+6) (w.heap.size+1) QL
 refine fX (hk nn s K (m:Nat) ⟨by omega,by omega⟩ ws (by omega) w hE PB ?_ ?_ ?_ ?_) ?_
 ·rintro x x₁ r ⟨L',h1,h2,h3⟩;exact⟨L',h1.rely r,h2,h3⟩
 ·rintro x x₁ r ⟨L',h1,h2,h3⟩;refine⟨L',{h1 with has:=fun t ht=>(r.block t.1 (h2 t ht).1 (h2 t ht).2).trans (h1.has t ht),sz:=by rw[r.size];exact h1.sz,old:=⟨r.tape.trans h1.old.t,r.os.trans h1.old.o,r.output.trans h1.old.u,by rw[r.size];exact h1.old.z,fun y hy=>(r.block y (by omega) (by omega)).trans (h1.old.b y hy)⟩},h2,h3⟩
 ·rintro x ⟨L',h1,_⟩;exact h1.sz
 ·intro _ w' hn;have hV:=uf hO' hn;have hnd:=(domV (pZ w.heap.size) (ShR (Shs s) w.heap.size) (w.heap.size+2) (w.heap.size+4) W O (GW (w.heap.size+6))).nd hV;have hR1:Rep K A S (bxs w.heap.size K m++Fr) (bxs w.heap.size K m++L):=hR.boxes (bG hnd) fun t ht u hu e=>by
   rw[List.map_append] at hnd;exact(List.nodup_append.1 hnd).2.2 t.1 (List.mem_map.2 ⟨t,ht,rfl⟩) u.1 (List.mem_map.2 ⟨u,hu,rfl⟩) e.symm
  have hP:=hpass (p:=pZ w.heap.size) (Sh:=ShR (Shs s) w.heap.size) (E:=w.heap.size+2) (Dn:=w.heap.size+4) (PostB:=PB) (Aft:=AfterD Tryz.prog 87 (w.heap.size+6) (w.heap.size+1) (w.heap.size+7) [.int .i64 (m:Nat)] Mine0) (W:=W) (O:=O) (G0:=GW (w.heap.size+6)) (vs:=[]) K A S T (bxs w.heap.size K m++Fr) (bxs w.heap.size K m++L) eb m (DV rfl) hR1 (hEr.mono fun t ht=>List.mem_append_right _ ht) hAb hm hnow hnp hpg;rw[List.append_nil,hws] at hP;refine ry (kb:=w.heap.size) (db:=w.heap.size+5) (eb:=w.heap.size+3) (C:=w.heap.size+1) (Wg:=w.heap.size+6) (Low:=w.heap.size+7) (K:=K) (L:=bxs w.heap.size K m++L) (QL:=QL) (by omega) (by omega) (by omega) (by omega) (by omega) (by simp) (by simp) (by simp) (by simp) kp _ (fun x hx=>fX (hP x hx) ?_) w' hV;rintro s' v x' ⟨L',hL',h1,_,A',S',h2,h3⟩;refine⟨h1.symm,L',hL',h3.fr _ (by simp),A',S',h2,h3.forget (c:=w.heap.size+1) (cs:= #[.int .i64 (m:Nat)]) (fl:=false) (by simp) fun t ht=>⟨List.mem_append_right _ ht, ?_⟩⟩;have:=lt t (hR.fr t ht);omega
 ·rintro s' v x' ⟨h1,told,h2,⟨L',hW,hne,A',S',hA',hR'⟩,hT⟩;have hdom:Own0 (Shs (w.heap.size::s)) W O L' x':=⟨hW.has,fun t ht=>(hW.ap t ht).2.2.1,fun t ht hf=>(hW.own t ht hf).1,hW.nd,fun l b hl hb=>by have:=hW.sh.low l b hl hb;have:=hW.sz;omega,hW.old⟩;subst h1;rw[show (St.evs m T)=ws.map Wd.v from hws];obtain⟨hl,hT⟩:=hT;rcases hT with ⟨rfl,h0⟩|⟨g,cap,cur,rfl,hg,hcur,hn,hcm,hcs,htk⟩
  ·refine⟨L',hdom,w.heap.size,_,A',S',rfl,h2,hA',hR', .inl ⟨rfl, ?_⟩,fun _ _ _ e=>by cases e⟩;have:ws=[]:=List.length_eq_zero_iff.1 h0;rw[this];rfl
  ·have hgN:w.heap.size+7<=g:=hg;have hgn: ∀t∈L',t.1≠g:=fun t ht e=>by
    have h3:=hW.has t ht;rw[e,hcur] at h3;have h4:=(hW.ap t ht).2.2.2 (by rw[<-Option.some.inj h3];rfl);have:t.1<w.heap.size+7:=h4;omega
   refine⟨(g,true,Obj.cells cur 51)::L', ?_,w.heap.size,_,A',S',rfl,h2,hA',hR'.of ?_ (fun t ht=>List.mem_cons_of_mem _ ht), .inr ⟨g,cap,cur,by rw[List.length_map],List.mem_cons_self,by rw[List.length_map];exact hn,hcm,hcs, ?_⟩,fun _ _ _ e=>by cases e;exact fun t ht e=>by have:=lt t ht;omega⟩
   ·show Own0 (Shs (w.heap.size::s)) W O _ x';refine⟨fun t ht=> ?_,fun t ht=> ?_,fun t ht hf=> ?_, ?_,hdom.low,hdom.old⟩
    ·rcases List.mem_cons.1 ht with rfl|ht
     ·exact hcur
     ·exact hdom.has t ht
    ·rcases List.mem_cons.1 ht with rfl|ht
     ·intro l hl hs;have:=hW.sh.low l g hs hl;have:g<w.heap.size+7:=this;omega
     ·exact hdom.ap t ht
    ·rcases List.mem_cons.1 ht with rfl|ht
     ·simp only;omega
     ·exact hdom.own t ht hf
    ·simp only[List.map_cons,List.nodup_cons];exact⟨fun hm=>by obtain⟨t,ht,e⟩:=List.mem_map.1 hm;exact hgn t ht e,hdom.nd⟩
   ·refine bG ?_;simp only[List.map_cons,List.nodup_cons];exact⟨fun hm=>by obtain⟨t,ht,e⟩:=List.mem_map.1 hm;exact hgn t ht e,hdom.nd⟩
   ·rw[List.length_map,rA];exact htk
end Go.Proofs.YtejkelcaljmnoaaGreatDoor
namespace Go.Proofs.YtejkelcaljmnoaaGreatDoor
open Go.Conc Go.Hx Go.Lo
def inr (a:Int):Bool:=decide (0<=a/\a<=2000)
theorem jh {a:Int}(h:inr a=true):((a.toNat:Nat):Int)=a/\a.toNat<=2000:=by
 have:0<=a/\a<=2000:=by simpa [inr] using h
 omega
theorem xB {a:Int}(h: ¬inr a=true):a<0\/2000<a:=by
 simp[inr] at h;omega
theorem Ab.np {S T:St}(h:Ab S T)(hT:NP T):NP S:=by
 obtain⟨N,_,rfl⟩:=h.ex;refine⟨?_,fun q hq=>hT.f (N q.1,q.2) (List.mem_map.2 ⟨q,hq,rfl⟩)⟩;have:=hT.w;unfold St.map mapW at this;exact List.map_eq_nil_iff.1 this
theorem Ab.pg {S T:St}(h:Ab S T)(hT:NoPg T):NoPg S:=by
 obtain⟨N,_,rfl⟩:=h.ex;exact hT
theorem Dh: ∃k,∀{Fin:Value->World->Prop}{W0:World}{O:Nat}(nn:Nat)(s:List Nat)(K:Nat)(A:Lay)(S T:St)(G L:Frag)(eb:Nat->Nat×Nat)(a:Int),Rep K A S G L->Ers eb G->Ab S T->S.now<1152921504606846976->NP S->NoPg S->
 CallsL (F:=FZ Tryz.prog Fin) (fun s=>dom0 (Shs s.2) W0 O) Tryz.prog true 19 [ptr K, .int .i64 a].toArray k (nn+(if inr a then 1 else 0),s) L (fun s' v L'=>s'.1=nn/\ ∃(ae:Sl) (ws:List Wd) (A':Lay) (S':St),v= .tuple #[rowv ae 4 ws.length, .int .i64 (if inr a then 0 else 3)]/\ws.map Wd.v=(if inr a then St.evs a.toNat T else [])/\slOk ae (wcs ws) 51 L'/\(∀g,ae.b=some g-> ∀t∈L,t.1≠g)/\Ab S' (if inr a then St.runs a.toNat T else T)/\Rep K A' S' G L'):=by
 obtain⟨k1,h1⟩:=Dg;obtain⟨k2,h2⟩:=AV;refine⟨_,fun{Fin W0 O} nn s K A S T G L eb a hR hE hA hn hnp hpg=>aZ (inr a=true) (n₁:=k1) (n₂:=k2) (fun hi=> ?_) (fun hi=> ?_)⟩
 ·obtain⟨ea,hl⟩:=jh hi;simp only[hi,if_true];have:=h1 (Fin:=Fin) (W:=W0) (O:=O) nn s K A S T G L eb a.toNat hR hE hA hl hn hnp hpg;rw[ea] at this;refine aU this ?_;rintro s' v L' ⟨N,told,A',S',rfl,rfl,hA',hR',hH,hnew⟩;obtain⟨ws,hws,_⟩:=iW a.toNat T;rw[hws] at hH;obtain⟨ae,rfl,hs⟩:=qg hH;exact⟨rfl,ae,ws,A',S',rfl,hws.symm,hs,fun g hg=>hnew g ws.length _ (by unfold rowv;rw[hg]),hA',hR'⟩
 ·simp only[hi,if_false,Bool.false_eq_true];refine aU (h2 L (some ⟨K,0,none⟩) a (fun _ _=>trivial) hR.fn (xB hi)) ?_;rintro s' v L' ⟨rfl,rfl,hX⟩;exact⟨rfl,⟨none,[]⟩,[],A,S,rfl,rfl,⟨rfl,rfl⟩,fun g hg=>(by cases hg),hA,hR.of hX.f hX.s⟩
theorem Di: ∃n,∀{σ}{F:Fam σ}{Δ:DM F}{main s}(R:Nat)(B:RB)(U:St)(X:RX)(L:Frag)(a:Int),(∀s o,(Δ s).New o)->Ref R B U X L->U.now<1152921504606846976->X.now<1152921504606846976->
 CallsL Δ Tryz.prog main 73 [ptr R, .int .i64 a].toArray n s L (fun s' v L'=>s=s'/\ ∃(B':RB) (X':RX) (ae:Sl) (ws:List Wd),v= .tuple #[rowv ae 4 ws.length, .int .i64 (if inr a then 0 else 3)]/\ws.map Wd.v=(if inr a then St.evs a.toNat U else [])/\slOk ae (wcs ws) 51 L'/\Ref R B' (if inr a then St.runs a.toNat U else U) X' L'/\Foot (OwnR R B U) (OwnR R B' (if inr a then St.runs a.toNat U else U)) L L'/\X'.now=X.now+(if inr a then a.toNat else 0)):=by
 obtain⟨k1,h1⟩:=Bo;obtain⟨k2,h2⟩:=Bn;refine⟨_,fun{σ F Δ main s} R B U X L a hN hR hu hx=>aZ (inr a=true) (n₁:=k1) (n₂:=k2) (fun hi=> ?_) (fun hi=> ?_)⟩
 ·obtain⟨ea,hl⟩:=jh hi;simp only[hi,if_true];have:=h1 (Δ:=Δ) (main:=main) (s:=s) R B U X L a.toNat hN hR hl hu hx;rw[ea] at this;refine aU this ?_;rintro s' v L' ⟨rfl,B',X',rfl,hR',hT,hw,hn⟩;exact⟨rfl,B',X',B'.ae,X'.ws,rfl,hw,hR'.r.ev,hR',hT.f,hn⟩
 ·simp only[hi,if_false,Bool.false_eq_true];refine aU (h2 L R a (xB hi)) ?_;rintro s' v L' ⟨rfl,rfl,rfl⟩;exact⟨rfl,B,X,⟨none,[]⟩,[],rfl,rfl,⟨rfl,rfl⟩,hR,Foot.refl _ _,rfl⟩
structure Lev (x:Pl):Prop where
 e:x.T=x.U
 n:x.T.now<=x.t
 xn:x.X.now=x.t
 t:x.t<=6000
def Went (B0:Frag)(ow:Nat->Cl)(W:Wo)(L:Frag)(ts:List Nat)(L':Frag):Prop:= ∃ow' W',WI B0 ow' W' L'/\(∀y∈W'.ps,Lev y)/\W'.w=W.w/\W'.hs.length<=W.hs.length+4/\W'.ps.map (·.t)=ts/\ ∀t∈L,ow t.1=(1,0)->t∈L'/\ow' t.1=(1,0)
def runs? (t:Nat)(a:Int):Bool:=inr a&& !decide (0<a/\6000<(t:Int)+a)
def runt (t:Nat)(a:Int):Nat:=if runs? t a then t+a.toNat else t
theorem Bz (w:Wd)(x y:Operand):evR Tryz.prog (eqGuard .eql 51 x y (.agg (Wd.c w).toArray) (.agg (Wd.c w).toArray)) []=some ((),[]):=by kernel_rfl
theorem zm (base:Option Addr)(n cap:Nat):evR Tryz.prog (Instr.build 143 [(1, .slice base n cap)].toArray) []=some (.agg #[.slice none 0 0, .slice base n cap, .slice none 0 0, .int .i64 0],[]):=by kernel_rfl
theorem mR {a:Sl}{ws:List Wd}{L:Frag}(h:slOk a (wcs ws) 51 L){base:Option Addr}{cap:Nat}(hv:rowv a 4 ws.length= .slice base ws.length cap):WL L base ws:=by
 obtain⟨base',cap',h1,h2⟩:=nO h;rw[hv] at h1;cases h1;exact h2
theorem Dj: ∃n,∀{σ}{F:Fam σ}{Δ:DM F}{main s}(B0:Frag)(ow:Nat->Cl)(W:Wo)(L:Frag)(x:Pl)(a:Int),WI B0 ow W L->x∈W.ps->x.t<=6000->0<a->a<=2000->6000<(x.t:Int)+a->
 CallsL Δ Tryz.prog main 41 [ptr W.w,ptr x.b, .int .i64 a].toArray n s L (fun s' v L'=>s=s'/\v= .bool true/\L=L'):=by
 apply Exists.intro;intro σ F Δ main s B0 ow W L x a hW hx ht h0 h2 h6;have h3:At L x.b 2 (.int .i64 (x.t:Nat)):=⟨true,_,_,_,hW.pb x hx,rfl⟩;have e1:IntKind.i64.wrap ((x.t:Int)+a)=(x.t:Int)+a:=by simp[IntKind.wrap_i64];omega
 co_applyP aF 91 Tryz.func41 Tryz.ntmps41;co_applyP aa;co_applyP oan rfl;co_applyP au (n₂:=0);co_applyP au;co_applyP cO ([(27, .bool true)]);co_applyP aq;co_applyP om rfl rfl rfl cx;co_applyP oy rfl ag
 ·skip
  rw[show decide (a>0)=true by simp[h0]];co_applyP om rfl rfl rfl (av);co_applyP oy rfl ((ak (hf:=iF)));co_applyP oy rfl ((aA (ht:=aR)));co_applyP om rfl rfl rfl (aS);co_applyP oy rfl (cx);co_applyP oy rfl aH;co_applyP oy rfl ag;rw[e1,show decide ((x.t:Int)+a>6000)=true by simp[h6]];co_applyP om rfl rfl rfl (l9);co_applyP oy rfl aH;co_applyP ai;change _=_/\_=_/\kn _ _;refine⟨rfl,rfl, ?_⟩;rw[show decide (a<=2000)=true by simp[h2]];rfl
 co_applyP bv rfl;co_applyP aa;co_applyP oan rfl;co_applyP aK;change∃v,resE .. =some v/\_;exact⟨_,rfl,rfl,rfl,rfl⟩
theorem qt: ∀{ws ws':List Wd},ws.map Wd.v=ws'.map Wd.v->ws=ws'
 |[],[],_=>rfl
 |[],_::_,h=>by simp at h
 |_::_,[],h=>by simp at h
 |w::ws,(a,b,c,d)::ws',h=>by
  simp only[List.map_cons,List.cons.injEq] at h;rw[qt h.2,je (w:=w) (a:=a) (b:=b) (c:=c) (d:=d) h.1.symm]
theorem Ers.of {eb:Nat->Nat×Nat}{B0 G L:Frag}{K:Nat}{A:Lay}{S:St}{F:Frag}(h:Ers eb B0)(hb: ∀t∈B0,t∈L/\t.2.1=false) (hR:Rep K A S F L) (hG: ∀t,t∈G↔t∈L/\ ¬Own K A S t.1):Ers eb G:=h.mono fun t ht=>(hG t).2 ⟨(hb t ht).1,fun ho=>by
 have:=(hR.ownt t (hb t ht).1 ho).1;rw[(hb t ht).2] at this;cases this⟩
theorem Tu.sl {C:Cl->Prop}{ow ow':Nat->Cl}{L L':Frag}{a:Sl}{xs:List Value}{e:TypeId}{c:Cl}(T:Tu C ow L ow' L')(h:slOk a xs e L)(ho: ∀b,a.b=some b->ow b=c) (hc: ¬C c):slOk a xs e L'/\ ∀b,a.b=some b->ow' b=c:=
 ⟨h.mono fun b hb o hm=>(T.s _ hm (by rw[ho b hb];exact hc)).1,fun b hb=>by
  have:=(T.s _ (h.mem hb) (by rw[ho b hb];exact hc)).2;rw[<-ho b hb];exact this⟩
theorem Dk: ∃n,∀{Fin:Value->World->Prop}{W0:World}{O:Nat}(nn:Nat)(s:List Nat)(B0:Frag)(eb:Nat->Nat×Nat)(ow:Nat->Cl)(W:Wo)(L:Frag)(j:Nat)(x:Pl)(a:Int),WI B0 ow W L->(∀y∈W.ps,Lev y)->Ers eb B0->W.ps[j]? =some x->I64 a-> ¬(0<a/\a<=2000/\6000<(x.t:Int)+a)->W.hs.length<=10000000000000->
 CallsL (F:=FZ Tryz.prog Fin) (fun s=>dom0 (Shs s.2) W0 O) Tryz.prog true 41 [ptr W.w,ptr x.b, .int .i64 a].toArray n (nn+(if inr a then 1 else 0),s) L (fun s' v L'=>s'.1=nn/\v= .bool true/\Went B0 ow W L ((W.ps.map (·.t)).set j (if inr a then x.t+a.toNat else x.t)) L'):=by
 obtain⟨n1,gk⟩:=Dh;obtain⟨n2,gr⟩:=Di;obtain⟨n3,gp⟩:=ol;apply Exists.intro;intro Fin W0 O nn s B0 eb ow W L j x a hW hLv hEr hx hI hns hln;obtain⟨hI1,hI2⟩:=hI;have hN: ∀(s:Nat×List Nat)(o:Obj),(dom0 (Shs s.2) W0 O).New o:=fun _ _=>trivial;have hxm:=List.mem_of_getElem? hx;have hjl:=(List.getElem?_eq_some_iff.1 hx).1;have hlv:=hLv x hxm;have hp:=hW.pi j x hx;obtain⟨G,hRG,hG⟩:=hp.k.full;have hat: ∀{L':Frag},(x.b,true,Obj.cells (plc x) 145)∈L'->At L' x.b 0 (ptr x.K)/\At L' x.b 1 (ptr x.R)/\At L' x.b 2 (.int .i64 (x.t:Nat)):=fun hm=>⟨⟨true,_,_,_,hm,rfl⟩,⟨true,_,_,_,hm,rfl⟩,⟨true,_,_,_,hm,rfl⟩⟩;obtain⟨a0,a1,a2⟩:=hat (hW.pb x hxm);have h6:=hlv.t;co_applyP aF 91 Tryz.func41 Tryz.ntmps41;co_applyP aa;co_applyP oan rfl;co_applyP au;co_applyP au;co_applyP cO ([(27, .bool false),(0,ptr W.w),(1,ptr x.b),(2, .int .i64 a)])
 ·skip
  co_applyP aq;co_applyP om rfl rfl rfl cx;co_applyP oy rfl ag;by_cases h0:0<a
  ·rw[show decide (a>0)=true by simp[h0]];co_applyP om rfl rfl rfl (av);co_applyP oy rfl ((ak (hf:=iF)));co_applyP oy rfl ((aA (ht:=aR)));co_applyP om rfl rfl rfl (aS);co_applyP oy rfl (cx);co_applyP oy rfl aH;co_applyP oy rfl ag;by_cases h3:6000<IntKind.i64.wrap ((x.t:Int)+a)
   ·rw[show decide (IntKind.i64.wrap ((x.t:Int)+a)>6000)=true by simp[h3]];co_applyP om rfl rfl rfl (l9);co_applyP oy rfl aH;co_applyP ai;change _=_/\_=_/\kn _ _;refine⟨rfl,rfl, ?_⟩;have: ¬a<=2000:=fun h=>hns ⟨h0,h,by
     have e1:IntKind.i64.wrap ((x.t:Int)+a)=(x.t:Int)+a:=by simp[IntKind.wrap_i64];omega
     omega⟩
    rw[show decide (a<=2000)=false by simp;omega];rfl
   ·rw[show decide (IntKind.i64.wrap ((x.t:Int)+a)>6000)=false by simp;omega];co_applyP ou rfl;co_applyP ou rfl;co_applyP oy rfl aH;co_applyP ai;change _=_/\_=_/\kn _ _;exact⟨rfl,rfl,rfl⟩
  ·rw[show decide (a>0)=false by simp;omega];co_applyP ou rfl;co_applyP ou rfl;co_applyP ou rfl;co_applyP ou rfl;co_applyP ou rfl;co_applyP ou rfl;co_applyP ou rfl;co_applyP oy rfl aH;co_applyP oy rfl ag;co_applyP ou rfl;co_applyP ou rfl;co_applyP oy rfl aH;co_applyP ai;change _=_/\_=_/\kn _ _;exact⟨rfl,rfl,rfl⟩
 co_applyP aE rfl;co_applyP aB;co_applyP aa;co_applyP om rfl rfl rfl av;co_applyP oy rfl (ak (hf:=kW));co_applyP oy rfl (aA (ht:=vi));co_applyP oy rfl ag;co_applyP oc rfl rfl rfl (gk nn s x.K x.A x.S x.T G L eb a hRG (hEr.of hW.b0 hp.k hG) hp.ab (by rw[hp.ab.now];have:=hlv.n;omega) (hp.ab.np (by rw[hlv.e];exact⟨hp.r.r.wt,hp.r.r.nf⟩)) (hp.ab.pg (by rw[hlv.e];exact NoPipe.of hp.r.np hp.r.r.im)));rintro _ _ _ ⟨hs1,ae,ws,A',S',rfl,hws,hsl,hnew,hAb,hR⟩;rename_i s1 L1;obtain⟨ow1,hW1,T1,o1⟩:=hW.ker hx hG hR hAb (fun b=>ae.b=some b) hnew (fun b hb=>hR.notown (hsl.mem hb) (by decide)) (4,W.hs.length+1);have hx1:(W.ps.set j {x with A:=A',S:=S',T:=if inr a then St.runs a.toNat x.T else x.T})[j]? =some {x with A:=A',S:=S',T:=if inr a then St.runs a.toNat x.T else x.T}:=by simp[hjl]
 have hb1:=hW1.pb _ (List.mem_of_getElem? hx1);obtain⟨b0,b1,b2⟩:=hat (show (x.b,true,Obj.cells (plc x) 145)∈L1 from hb1);have hp1:=hW1.pi j _ hx1;co_applyP om rfl rfl rfl co;co_applyP oy rfl co;co_applyP oy rfl bR;co_applyP oan rfl;co_applyP aa;co_applyP om rfl rfl rfl av;co_applyP oy rfl (ak (hf:=fi));co_applyP oy rfl (aA (ht:=jr));co_applyP oy rfl ag;co_applyP oc rfl rfl rfl (gr x.R x.B x.U x.X L1 a hN hp1.r (by have:=hlv.n;rw[<-hlv.e];omega) (by have:=hlv.xn;omega));rintro _ _ _ ⟨rfl,B',X',ae2,ws2,rfl,hws2,hsl2,hF2,hft,hxn⟩;rename_i L2;obtain⟨ow2,hW2,T2⟩:=hW1.ref hx1 hF2 hft;obtain⟨hsl',o2⟩:=T2.sl hsl o1 (by simp);have ews:ws2=ws:=qt (by rw[hws2,hws,hlv.e]);subst ews;obtain⟨base,cap,hv,_⟩:=nO hsl';obtain⟨base2,cap2,hv2,_⟩:=nO hsl2;have hwl:ws2.length<=4000:=by
  have hl:=congrArg List.length hws2;rw[List.length_map] at hl;by_cases hi:inr a=true
  ·rw[if_pos hi] at hl;obtain⟨w3,h3,h4⟩:=iW a.toNat x.U;have:=(jh hi).2;rw[h3,List.length_map] at hl;omega
  ·rw[if_neg hi] at hl;have hl':ws2.length=0:=hl;omega
 rw[hv,hv2];rw[List.set_set] at hW2;have hx2:(W.ps.set j {x with A:=A',S:=S',T:=if inr a then St.runs a.toNat x.T else x.T,B:=B',U:=if inr a then St.runs a.toNat x.U else x.U,X:=X'})[j]? =some {x with A:=A',S:=S',T:=if inr a then St.runs a.toNat x.T else x.T,B:=B',U:=if inr a then St.runs a.toNat x.U else x.U,X:=X'}:=by simp[hjl]
 have hb2:=hW2.pb _ (List.mem_of_getElem? hx2);replace hb2:(x.b,true,Obj.cells (plc x) 145)∈L2:=hb2;obtain⟨c0,c1,c2⟩:=hat hb2;have hT12:=T1.trans T2;co_applyP om rfl rfl rfl co;co_applyP oy rfl co;co_applyP oy rfl bR;co_applyP oan rfl;co_applyP cK (fun s'' ε'' L''=>s1=s''/\(∃ow3,WI B0 ow3 {W with ps:=W.ps.set j {x with A:=A',S:=S',T:=if inr a then St.runs a.toNat x.T else x.T,B:=B',U:=if inr a then St.runs a.toNat x.U else x.U,X:=X',t:=if inr a then x.t+a.toNat else x.t}} L''/\Tu (fun c=>(c=(2,j)\/c=(3,j))\/c=(0,0)) ow L ow3 L''/\slOk ae (wcs ws2) 51 L''/\(∀b,ae.b=some b->ow3 b=(4,W.hs.length+1))/\slOk ae2 (wcs ws2) 51 L'')/\kn ε'' [(7, .slice base ws2.length cap),(8, .int .i64 (if inr a then 0 else 3)),(9, .slice base2 ws2.length cap2),(10, .int .i64 (if inr a then 0 else 3)),(0,ptr W.w)]);co_applyP aa;co_applyP om rfl rfl rfl aI;co_applyP ai;co_applyP aT rfl;intro hf
 ·have hi:inr a=true:=by
   by_cases hi:inr a=true
   ·exact hi
   ·simp[hi] at hf
  obtain⟨ea,hl⟩:=jh hi;have e1:IntKind.i64.wrap ((x.t:Int)+a)=((x.t+a.toNat:Nat):Int):=by simp[IntKind.wrap_i64];omega
  co_applyP aq;co_applyP om rfl rfl rfl ag;co_applyP oy rfl av;co_applyP oy rfl (ak (hf:=iF));co_applyP oy rfl (aA (ht:=aR));co_applyP om rfl rfl rfl aS;co_applyP oy rfl av;co_applyP oy rfl (ak (hf:=iF));rw[e1];co_applyP osm rfl (hs:=bS) (hm:=hb2) (hi:=by show 2<3;decide);intro L3 hU3;obtain⟨hW3,T3⟩:=hW2.tick hx2 (t':=x.t+a.toNat) hU3;rw[List.set_set] at hW3;have nt: ∀e,145≠e->NoT L2 (· =x.b) e:=fun e he=>NoT.one hW2.fn hb2 he;co_applyP ai;change _=_/\(∃ow3,_)/\kn _ _;refine⟨rfl,⟨ow2, ?_,hT12.trans T3,hU3.ch.keepS (nt _ (by decide)) hsl',o2,hU3.ch.keepS (nt _ (by decide)) hsl2⟩,rfl⟩;simp only[hi,if_true] at hW3⊢;exact hW3
 intro hf;have hi: ¬inr a=true:=fun hi=>by simp[hi] at hf
 co_applyP aB;change _=_/\(∃ow3,_)/\kn _ _;refine⟨rfl,⟨ow2, ?_,hT12.mono fun c hc=> .inl hc,hsl',o2,hsl2⟩,rfl⟩;simp only[hi] at hW2⊢;exact hW2;rintro s'' ε'' L3 ⟨rfl,⟨ow3,hW3,T3,hs3,o3,hs3b⟩,he⟩;co_applyP aN he;have wl1:=mR hs3 hv;have wl2:=mR hs3b hv2;co_applyP aa;co_applyP om rfl rfl rfl ag;co_applyP oy rfl aI;co_applyP oy rfl ag;rw[show ((if inr a=true then 0 else 3:Int)==(if inr a=true then 0 else 3))=true from beq_self_eq_true _];co_applyP om rfl rfl rfl ((bt (hu:=U38)));co_applyP om rfl rfl rfl ((bt (hu:=U38)));co_applyP oy rfl (aI);co_applyP oy rfl aH;co_applyP oan rfl;co_applyP au;co_applyP aa;co_applyP oan rfl;co_applyP aC;rw[show ((ws2.length:Int)==(ws2.length:Int))=true from beq_self_eq_true _];co_applyP bg (fun k s' ε' L'=>s1=s'/\L3=L'/\ ∃i:Nat,k+i=4000/\i<=ws2.length/\kn ε' [(12, .int .i64 (i:Nat)),(11, .bool true),(7, .slice base ws2.length cap),(9, .slice base2 ws2.length cap2),(0,ptr W.w)]) 4000
 ·exact⟨rfl,rfl,0,rfl,Nat.zero_le _,rfl⟩
 rintro k s' ε' L' ⟨rfl,rfl,i,hk,hin,he⟩;co_applyP aN he;co_applyP au;co_applyP au;co_applyP cO ([(73, .bool (decide ((i:Int)<(ws2.length:Int)))),(12, .int .i64 (i:Nat)),(11, .bool true),(7, .slice base ws2.length cap),(9, .slice base2 ws2.length cap2),(0,ptr W.w)])
 ·skip
  co_applyP aq;co_applyP om rfl rfl rfl ag;co_applyP oy rfl (bt (hu:=U38));co_applyP oy rfl bj;co_applyP oy rfl ag;by_cases h:i<ws2.length
  ·rw[show decide ((i:Int)<(ws2.length:Int))=true by simp[h]];co_applyP om rfl rfl rfl aH;co_applyP ai;change _=_/\_=_/\kn _ _;exact⟨rfl,rfl,rfl⟩
  ·rw[show decide ((i:Int)<(ws2.length:Int))=false by simp;omega];co_applyP ou rfl;co_applyP oy rfl aH;co_applyP ai;change _=_/\_=_/\kn _ _;exact⟨rfl,rfl,rfl⟩
 co_applyP aT rfl;intro hc
 ·have hi:i<ws2.length:=by simp at hc;omega
  obtain⟨w,hw⟩: ∃w,ws2[i]? =some w:=⟨_,List.getElem?_eq_getElem hi⟩;obtain⟨g1,cs1,rfl,m1,z1,x1⟩:=wl1 i w hw;obtain⟨g2,cs2,rfl,m2,z2,x2⟩:=wl2 i w hw;have e1:IntKind.i64.wrap ((i:Int)+1)=((i+1:Nat):Int):=by simp[IntKind.wrap_i64];omega
  co_applyP aB;co_applyP au;co_applyP aC;co_applyP bA a5;co_applyP tr 0 rfl ag pI;co_applyP tr 1 rfl ag pI;co_applyP tr 2 rfl (bw U38 fF) pI;co_applyP tr 3 rfl (bF (i:=i*4) (ht:=vl) (hs:=fF) (hm:=m1) (hi:=z1)) pI;co_applyP tr 4 rfl ag pI;co_applyP tr 5 rfl ag pI;co_applyP tr 6 rfl (bw U38 fF) pI;rw[x1];co_applyP tr 7 rfl (bF (i:=i*4) (ht:=vl) (hs:=fF) (hm:=m2) (hi:=z2)) pI;rw[x2];co_applyP tr 8 rfl (sF (wL w) (Bz w)) pI;co_applyP tr 9 rfl bR pI;co_applyP td (by kernel_rfl);co_applyP aq;co_applyP om rfl rfl rfl aS;co_applyP oan rfl;change∃k',k'<_/\_;rw[e1];exact⟨k-1,by omega,rfl,rfl,i+1,by omega,by omega,rfl⟩
 intro hc;co_applyP bf;co_applyP aa;co_applyP om rfl rfl rfl ag;co_applyP oy rfl (bi (zm base ws2.length cap));co_applyP b5 rfl (b8 (hN _ _));intro H L4 hA;obtain⟨ow4,hW4,T4,o4⟩:=hW3.add ⟨hA.fn,hA.sub⟩ (· =H) (fun b hb t ht=>by rw[show b=H from hb];exact hA.new t ht) (0,0);obtain⟨hs4,o5⟩:=T4.sl hs3 o3 id;have hH:(H,true,Obj.cells (hcs ⟨.nil,HS.of ae 4 ws2.length, .nil,0⟩) 143)∈L4:=by
  have:=hA.self;unfold hcs;rw[HS.of_v,hv];exact this
 co_applyP oc rfl rfl rfl (gp B0 ow4 _ L4 H ⟨.nil,HS.of ae 4 ws2.length, .nil,0⟩ hN hW4 hH (o4 H rfl) (fun ho=>by obtain⟨_,_,hm,_⟩:=hW3.blk ho;exact hA.new _ hm rfl) rfl (HS.of_any hs4 (iX _) (by decide)) rfl (fun c hc=>hc.elim (fun e=>(absurd (show (none:Option Nat)=some c from e) fun h=>by cases h)) fun hc=>hc.elim (o5 c) fun e=>(absurd (show (none:Option Nat)=some c from e) fun h=>by cases h)) ⟨Nat.zero_le _,by show ws2.length<=_;omega,Nat.zero_le _⟩ hln);rintro _ _ _ ⟨rfl,rfl,ow5,W5,hW5,ew,ep,eh,T5⟩;co_applyP ai;co_applyP aa;co_applyP oy rfl ag;co_applyP oan rfl;co_applyP aK;change∃v,resE .. =some v/\_;refine⟨_,rfl,hs1,rfl,ow5,W5,hW5,fun y hy=> ?_,ew,by rw[eh];exact Nat.le_refl _, ?_,fun t ht ho=> ?_⟩
 ·rw[ep] at hy;rcases jf hy with rfl|⟨i,_,hi⟩
  ·by_cases hi:inr a=true
   ·obtain⟨ea,hl⟩:=jh hi;simp only[hi,if_true] at hxn⊢;refine⟨by rw[hlv.e],Nat.le_trans (sm _ _) (Nat.add_le_add_right hlv.n _),by simp only;rw[hxn,hlv.xn], ?_⟩;show x.t+a.toNat<=6000;by_cases h0:0<a
    ·have: ¬6000<(x.t:Int)+a:=fun h=>hns ⟨h0,by omega,h⟩;omega
    ·have:=hlv.t;omega
   ·simp only[hi] at hxn⊢;exact⟨hlv.e,hlv.n,by simp only;rw[hxn];exact hlv.xn,hlv.t⟩
  ·exact hLv y (List.mem_of_getElem? hi)
 ·rw[ep,List.map_set]
 ·have n1: ¬((ow t.1=(2,j)\/ow t.1=(3,j))\/ow t.1=(0,0)):=by rw[ho];simp
  obtain⟨h3,h3o⟩:=T3.s t ht n1;obtain⟨h4,h4o⟩:=T4.s t h3 id;obtain⟨h5,h5o⟩:=T5.s t h4 (by rw[h4o,h3o,ho];simp);exact⟨h5,by rw[h5o,h4o,h3o,ho]⟩
section
variable {P:Program}{N:Nat}{ε:Env}{L:Frag}{d:Option Tmp}{ty:TypeId}{ps:String}{af:Array Edge}{g:Option (Nat×Bool)}{x y:Operand}{t u:TypeId}
theorem BA {l:List Int}(hx:ev ε x=some (strv l):=by rfl)(hy:ev ε y=some (strv l):=by rfl):EY P N ε L ⟨d, .binOp .eql t x y u,ty,ps,af,g⟩ (.bool true):=fun a ha=>by
 refine cW (fun _=>rfl) fun K hK=> ?_;rw[ha.ev hx,ha.ev hy];have e1:eqGuard .eql t x y (strv l) (strv l)=pure ():=by unfold eqGuard strv;rfl
 show wpQ P (eqGuard .eql t x y (strv l) (strv l)>>=fun _=>binOp .eql t (strv l) (strv l)) K L;rw[e1];show K (.bool _);simpa using hK
theorem Dl {l:List Int}{a:Sl}(h:slOk a (l.map (Value.int .u8)) 5 L)(hx:ev ε x=some (rowv a 1 l.length):=by rfl):EY Tryz.prog N ε L ⟨d, .convert 44 9 x,ty,ps,af,g⟩ (strv l):=by
 cases hb:a.b with
 |none=>
  have h':=h;unfold slOk at h';rw[hb] at h';have e1:l=[]:=by simpa using h'.1
  subst e1;exact AW (hx:=by rw[hx];unfold rowv;rw[hb]) U44 U5 U9
 |some b=>
  have hm:=h.mem hb;refine wF (b:=b) (o:=0) (len:=l.length) (hx:=by rw[hx];unfold rowv;rw[hb]) U44 U5 U9 hm (by simp) ?_;apply Array.ext';simp
end
theorem BB (z:PS)(x y:Operand):evR Tryz.prog (eqGuard .eql 49 x y (.agg (phead z).toArray) (.agg (phead z).toArray)) []=some ((),[]):=by kernel_rfl
theorem uy (x:PS)(e:RE)(h:e.du=0):(rpc x e).extract (0+0) (0+0+15)=(phead x).toArray:=by
 obtain⟨pi,wr,ad,mn,un,du⟩:=e;obtain rfl:du=0:=h;rfl
theorem zn (base:Option Addr)(n cap:Nat):evR Tryz.prog (Instr.build 143 [(2, .slice base n cap)].toArray) []=some (.agg #[.slice none 0 0, .slice none 0 0, .slice base n cap, .int .i64 0],[]):=by kernel_rfl
theorem sI (base:Option Addr)(n cap:Nat):evR Tryz.prog (Instr.build 143 [(0, .slice base n cap)].toArray) []=some (.agg #[.slice base n cap, .slice none 0 0, .slice none 0 0, .int .i64 0],[]):=by kernel_rfl
theorem Lev.ps {x:Pl}(h:Lev x)(ha:Ab x.S x.T): ∃N:Nat->Nat,x.U.ps=x.S.ps.map fun q=>(N q.1,q.2):=by
 obtain⟨N,_,e⟩:=ha.ex;exact⟨N,by rw[<-h.e,e];rfl⟩
theorem Ref.du {R:Nat}{B:RB}{T:St}{X:RX}{L:Frag}(h:Ref R B T X L){q:Nat×PS}(hq:q∈T.ps):(B.e q.1).du=0:=by
 have h1:=h.r.du q hq;have h2:=(h.t.m.x.idr q hq).1;have h3:=h.r.id q hq;rw[if_neg (by omega)] at h1;exact h1
theorem BC: ∃n,∀{σ}{F:Fam σ}{Δ:DM F}{main s}(B0:Frag)(ow:Nat->Cl)(W:Wo)(L:Frag)(j:Nat)(x:Pl),(∀s o,(Δ s).New o)->WI B0 ow W L->(∀y∈W.ps,Lev y)->W.ps[j]? =some x->W.hs.length<=10000000000000->
 CallsL Δ Tryz.prog main 42 [ptr W.w,ptr x.b].toArray n s L (fun s' v L'=>s=s'/\v= .bool true/\Went B0 ow W L (W.ps.map (·.t)) L'):=by
 obtain⟨n1,gk⟩:=yM;obtain⟨n3,gp⟩:=ol;apply Exists.intro;intro σ F Δ main s B0 ow W L j x hN hW hLv hx hln;have hxm:=List.mem_of_getElem? hx;have hp:=hW.pi j x hx;obtain⟨N,hU⟩:=(hLv x hxm).ps hp.ab;have a0:At L x.b 0 (ptr x.K):=⟨true,_,_,_,hW.pb x hxm,rfl⟩;co_applyP aF 57 Tryz.func42 Tryz.ntmps42;co_applyP aa;co_applyP oan rfl;co_applyP aa;co_applyP om rfl rfl rfl av;co_applyP oy rfl (ak (hf:=kW));co_applyP oy rfl (aA (ht:=vi));co_applyP oc rfl rfl rfl (gk x.K x.A x.S [] L hN hp.k);rintro _ _ _ ⟨rfl,a,rfl,hsl,hnew,hE⟩;rename_i L1;obtain⟨ow1,hW1,T1,o1⟩:=hW.add hE (fun b=>a.b=some b) (fun b hb t ht e=>hnew t ht (by rw[hb,<-e])) (4,W.hs.length+1);obtain⟨base,cap,hv,hvb⟩:=HS.view (HS.of_any hsl (fm _) (by decide));rw[HS.of_v] at hv;replace hv:rowv a 15 x.S.ps.length= .slice base x.S.ps.length cap:=hv;have hp1:=hW1.pi j x hx;obtain⟨base2,cap2,hv2,hat⟩:=fG hp1.r.r.pl (n:=x.U.ps.length) (by simp);have hlen:x.U.ps.length=x.S.ps.length:=by rw[hU];simp
 have h8:=hp.k.p8;have b1:At L1 x.b 1 (ptr x.R):=⟨true,_,_,_,hW1.pb x hxm,rfl⟩;have b2:At L1 x.R 5 (.slice base2 x.U.ps.length cap2):=by rw[<-hv2];exact hp1.r.r.kat rfl
 rw[hv];co_applyP oan rfl;co_applyP aa;co_applyP om rfl rfl rfl (bt (hu:=U42));co_applyP om rfl rfl rfl av;co_applyP oy rfl (ak (hf:=fi));co_applyP oy rfl (aA (ht:=jr));co_applyP oy rfl av;co_applyP oy rfl (ak (hf:=bu));co_applyP oy rfl (aA (ht:=ci));co_applyP oy rfl (bt (hu:=cY));co_applyP oy rfl aI;co_applyP oan rfl;co_applyP au;co_applyP aa;co_applyP oan rfl;co_applyP aC;rw[hlen,show ((x.S.ps.length:Int)==(x.S.ps.length:Int))=true from beq_self_eq_true _];co_applyP bg (fun k s' ε' L'=>s=s'/\L1=L'/\ ∃i:Nat,k+i=8/\i<=x.S.ps.length/\kn ε' [(7, .int .i64 (i:Nat)),(6, .bool true),(5, .slice base x.S.ps.length cap),(0,ptr W.w),(1,ptr x.b)]) 8
 ·exact⟨rfl,rfl,0,rfl,Nat.zero_le _,rfl⟩
 rintro k s' ε' L' ⟨rfl,rfl,i,hk,hin,he⟩;co_applyP aN he;co_applyP au;co_applyP au;co_applyP cO ([(30, .bool (decide ((i:Int)<(x.S.ps.length:Int)))),(7, .int .i64 (i:Nat)),(6, .bool true),(5, .slice base x.S.ps.length cap),(0,ptr W.w),(1,ptr x.b)])
 ·skip
  co_applyP aq;co_applyP om rfl rfl rfl ag;co_applyP oy rfl (bt (hu:=U42));co_applyP oy rfl bj;co_applyP oy rfl ag;by_cases h:i<x.S.ps.length
  ·rw[show decide ((i:Int)<(x.S.ps.length:Int))=true by simp[h]];co_applyP om rfl rfl rfl aH;co_applyP ai;change _=_/\_=_/\kn _ _;exact⟨rfl,rfl,rfl⟩
  ·rw[show decide ((i:Int)<(x.S.ps.length:Int))=false by simp;omega];co_applyP ou rfl;co_applyP oy rfl aH;co_applyP ai;change _=_/\_=_/\kn _ _;exact⟨rfl,rfl,rfl⟩
 co_applyP aT rfl;intro hc
 ·have hi:i<x.S.ps.length:=by simp at hc;omega
  obtain⟨q,hq⟩: ∃q,x.S.ps[i]? =some q:=⟨_,List.getElem?_eq_getElem hi⟩;have hq2:x.U.ps[i]? =some (N q.1,q.2):=by rw[hU];simp[hq]
  have hqm:=List.mem_of_getElem? hq2;obtain⟨gb,hgb,rfl⟩:=hvb (by show 0<x.S.ps.length;omega);replace hgb:a.b=some gb:=hgb;obtain⟨rb,hrb,rfl,hbv⟩:=hat i (ptr (x.B.p (N q.1))) (by simp[hq2]);have hm1:=hsl.mem hgb;have hm2:=hp1.r.r.p _ hqm;unfold rpb at hm2;have e1:IntKind.i64.wrap ((i:Int)+1)=((i+1:Nat):Int):=by simp[IntKind.wrap_i64];omega
  co_applyP aB;co_applyP au;co_applyP aC;co_applyP bA a5;co_applyP tr 0 rfl ag pI;co_applyP tr 1 rfl ag pI;co_applyP tr 2 rfl (bw U42 fe) pI;co_applyP tr 3 rfl (bF (i:=i*15) (ht:=pd) (hs:=fe) (hm:=hm1) (hi:=by simp[fm];omega)) pI;co_applyP tr 4 rfl ag pI;co_applyP tr 5 rfl av pI;co_applyP tr 6 rfl (ak (hf:=fi)) pI;co_applyP tr 7 rfl (aA (ht:=jr)) pI;co_applyP tr 8 rfl av pI;co_applyP tr 9 rfl (ak (hf:=bu)) pI;co_applyP tr 10 rfl (aA (ht:=ci)) pI;co_applyP tr 11 rfl ag pI;co_applyP tr 12 rfl (bw cY cq) pI;co_applyP tr 13 rfl (aA (ht:=dZ)) pI;co_applyP tr 14 rfl av pI;co_applyP tr 15 rfl (ak (hf:=aG)) pI;rw[uk hq];co_applyP tr 16 rfl (bF (i:=0+0) (ht:=pd) (hs:=fe) (hm:=hm2) (hi:=by rw[bC];decide)) pI;rw[uy _ _ (hp1.r.du hqm)];co_applyP tr 17 rfl (sF (AZ q.2) (BB q.2)) pI;co_applyP tr 18 rfl bR pI;co_applyP td (by kernel_rfl);co_applyP aq;co_applyP om rfl rfl rfl aS;co_applyP oan rfl;change∃k',k'<_/\_;rw[e1];exact⟨k-1,by omega,rfl,rfl,i+1,by omega,by omega,rfl⟩
 intro hc;co_applyP bf;co_applyP aa;co_applyP om rfl rfl rfl ag;co_applyP oy rfl (bi (zn base x.S.ps.length cap));co_applyP b5 rfl (b8 (hN _ _));intro H L4 hA;obtain⟨ow4,hW4,T4,o4⟩:=hW1.add ⟨hA.fn,hA.sub⟩ (· =H) (fun b hb t ht=>by rw[show b=H from hb];exact hA.new t ht) (0,0);obtain⟨hs4,o5⟩:=T4.sl hsl o1 id;have hH:(H,true,Obj.cells (hcs ⟨.nil, .nil,HS.of a 15 x.S.ps.length,0⟩) 143)∈L4:=by
  have:=hA.self;unfold hcs;rw[HS.of_v,hv];exact this
 co_applyP oc rfl rfl rfl (gp B0 ow4 W L4 H ⟨.nil, .nil,HS.of a 15 x.S.ps.length,0⟩ hN hW4 hH (o4 H rfl) (fun ho=>by obtain⟨_,_,hm,_⟩:=hW1.blk ho;exact hA.new _ hm rfl) rfl rfl (HS.of_any hs4 (fm _) (by decide)) (fun c hc=>hc.elim (fun e=>(absurd (show (none:Option Nat)=some c from e) fun h=>by cases h)) fun hc=>hc.elim (fun e=>(absurd (show (none:Option Nat)=some c from e) fun h=>by cases h)) (o5 c)) ⟨Nat.zero_le _,Nat.zero_le _,by show x.S.ps.length<=_;omega⟩ hln);rintro _ _ _ ⟨rfl,rfl,ow5,W5,hW5,ew,ep,eh,T5⟩;co_applyP ai;co_applyP aa;co_applyP oy rfl ag;co_applyP oan rfl;co_applyP aK;change∃v,resE .. =some v/\_;refine⟨_,rfl,rfl,rfl,ow5,W5,hW5,fun y hy=>hLv y (ep▸hy),ew,by rw[eh];exact Nat.le_refl _,by rw[ep],fun t ht ho=> ?_⟩;obtain⟨h3,h3o⟩:=T1.s t ht id;obtain⟨h4,h4o⟩:=T4.s t h3 id;obtain⟨h5,h5o⟩:=T5.s t h4 (by rw[h4o,h3o,ho];simp);exact⟨h5,by rw[h5o,h4o,h3o,ho]⟩
def memO:Option (Nat×PS)->List Int
 |none=>[]
 |some q=>(List.range 64).map q.2.m
def memE (r:Option (Nat×PS)):Int:=if r.isSome then 0 else 4
theorem uz (x:PS)(e:RE):(rpc x e).extract (0+15) (0+15+64)=(((List.range 64).map x.m).map (Value.int .u8)).toArray:=by kernel_rfl
theorem Dm: ∃n,∀{σ}{F:Fam σ}{Δ:DM F}{main s}(K:Nat)(A:Lay)(S:St)(Fr L:Frag)(id:Int),(∀s o,(Δ s).New o)->Rep K A S Fr L->
 CallsL Δ Tryz.prog main 21 [ptr K, .int .i64 id].toArray n s L (fun s' v L'=>s=s'/\ ∃a:Sl,v= .tuple #[rowv a 1 (memO (S.find id)).length, .int .i64 (memE (S.find id))]/\slOk a ((memO (S.find id)).map (Value.int .u8)) 5 L'/\(∀t∈L,a.b≠some t.1)/\Ext L L'):=by
 obtain⟨k1,h1⟩:=wD;obtain⟨k2,h2⟩:=wE;refine⟨_,fun{σ F Δ main s} K A S Fr L id hN hR=>aZ (S.find id=none) (n₁:=k1) (n₂:=k2) (fun hi=> ?_) (fun hi=> ?_)⟩
 ·refine aU (h1 K A S Fr L id hR hi) ?_;rintro s' v L' ⟨rfl,rfl,rfl⟩;exact⟨rfl,⟨none,[]⟩,by rw[hi];rfl,by rw[hi];exact⟨rfl,rfl⟩,fun t _ e=>(by cases e),hR.fn,fun _ h=>h⟩
 ·cases hf:S.find id with
  |none=>exact absurd hf hi
  |some q=>
   refine aU (h2 K A S Fr L id q.1 q.2 hN hR hf) ?_;rintro s' v L' ⟨rfl,a,rfl,ha,hn,hE⟩;exact⟨rfl,a,by simp[memO,memE],by simp only[memO,List.map_map];exact ha,hn,hE⟩
theorem xC: ∃n,∀{σ}{F:Fam σ}{Δ:DM F}{main s}(B0:Frag)(ow:Nat->Cl)(W:Wo)(L:Frag)(j:Nat)(x:Pl)(id:Int),(∀s o,(Δ s).New o)->WI B0 ow W L->(∀y∈W.ps,Lev y)->W.ps[j]? =some x->W.hs.length<=10000000000000->
 CallsL Δ Tryz.prog main 43 [ptr W.w,ptr x.b, .int .i64 id].toArray n s L (fun s' v L'=>s=s'/\v= .bool true/\Went B0 ow W L (W.ps.map (·.t)) L'):=by
 obtain⟨n1,gk⟩:=Dm;obtain⟨n3,gp⟩:=ol;apply Exists.intro;intro σ F Δ main s B0 ow W L j x id hN hW hLv hx hln;have hxm:=List.mem_of_getElem? hx;have hp:=hW.pi j x hx;obtain⟨N,hU⟩:=(hLv x hxm).ps hp.ab;have a0:At L x.b 0 (ptr x.K):=⟨true,_,_,_,hW.pb x hxm,rfl⟩;co_applyP aF 79 Tryz.func43 Tryz.ntmps43;co_applyP aa;co_applyP oan rfl;co_applyP aa;co_applyP om rfl rfl rfl av;co_applyP oy rfl (ak (hf:=kW));co_applyP oy rfl (aA (ht:=vi));co_applyP oy rfl ag;co_applyP oc rfl rfl rfl (gk x.K x.A x.S [] L id hN hp.k);rintro _ _ _ ⟨rfl,a,rfl,hsl,hnew,hE⟩;rename_i L1;obtain⟨ow1,hW1,T1,o1⟩:=hW.add hE (fun b=>a.b=some b) (fun b hb t ht e=>hnew t ht (by rw[hb,<-e])) (4,W.hs.length+1);obtain⟨base,cap,hv,hvb⟩:=HS.view (HS.of_any (sz:=1) (n:=(memO (x.S.find id)).length) hsl (by simp) (by decide));rw[HS.of_v] at hv;replace hv:rowv a 1 (memO (x.S.find id)).length= .slice base (memO (x.S.find id)).length cap:=hv;have hp1:=hW1.pi j x hx;obtain⟨base2,cap2,hv2,hat⟩:=fG hp1.r.r.pl (n:=x.U.ps.length) (by simp);have h8:x.U.ps.length<=8:=by rw[hU];simp;exact hp.k.p8
 have hfU:x.U.find id=(x.S.find id).map fun q=>(N q.1,q.2):=by
  unfold St.find;rw[hU,List.find?_map];rfl
 have b1:At L1 x.b 1 (ptr x.R):=⟨true,_,_,_,hW1.pb x hxm,rfl⟩;have b2:At L1 x.R 5 (.slice base2 x.U.ps.length cap2):=by rw[<-hv2];exact hp1.r.r.kat rfl
 have hml:(memO (x.S.find id)).length<=64:=by cases x.S.find id<;>simp[memO]
 co_applyP om rfl rfl rfl co;co_applyP oy rfl co;co_applyP oy rfl bR;co_applyP oan rfl;co_applyP aa;co_applyP oan rfl;co_applyP aa;co_applyP oan rfl;co_applyP au;co_applyP aa;co_applyP oan rfl;co_applyP aC;co_applyP bg (fun k s' ε' L'=>s=s'/\L1=L'/\ ∃i:Nat,k+i=8/\i<=x.U.ps.length/\kn ε' [(11, .int .i64 (i:Nat)),(9,strv (memO ((x.U.ps.take i).find? fun q=>(q.2.id:Int)==id))),(10, .int .i64 (memE ((x.U.ps.take i).find? fun q=>(q.2.id:Int)==id))),(7,rowv a 1 (memO (x.S.find id)).length),(8, .int .i64 (memE (x.S.find id))),(0,ptr W.w),(1,ptr x.b),(2, .int .i64 id)]) 8
 ·exact⟨rfl,rfl,0,rfl,Nat.zero_le _,rfl⟩
 rintro k s' ε' L' ⟨rfl,rfl,i,hk,hin,he⟩;co_applyP aN he;co_applyP au;co_applyP aa;co_applyP om rfl rfl rfl ag;co_applyP oy rfl av;co_applyP oy rfl (ak (hf:=fi));co_applyP oy rfl (aA (ht:=jr));co_applyP oy rfl av;co_applyP oy rfl (ak (hf:=bu));co_applyP oy rfl (aA (ht:=ci));co_applyP oy rfl (bt (hu:=cY));co_applyP oy rfl bj;co_applyP ai;co_applyP aT rfl;intro hc
 ·have hi:i<x.U.ps.length:=by simp at hc;omega
  obtain⟨q,hq⟩: ∃q,x.U.ps[i]? =some q:=⟨_,List.getElem?_eq_getElem hi⟩;have hqm:=List.mem_of_getElem? hq;obtain⟨rb,hrb,rfl,hbv⟩:=hat i (ptr (x.B.p q.1)) (by simp[hq]);have hm2:=hp1.r.r.p _ hqm;unfold rpb at hm2;have hid:At L1 (x.B.p q.1) 0 (.int .i64 (q.2.id:Nat)):=⟨true,_,_,_,hm2,rfl⟩;have etk:x.U.ps.take (i+1)=x.U.ps.take i++[q]:=by rw[List.take_add_one,hq];rfl
  have e1:IntKind.i64.wrap ((i:Int)+1)=((i+1:Nat):Int):=by simp[IntKind.wrap_i64];omega
  co_applyP aB;co_applyP cK (fun s'' ε'' L''=>s=s''/\L1=L''/\kn ε'' [(11, .int .i64 (i:Nat)),(9,strv (memO ((x.U.ps.take (i+1)).find? fun q=>(q.2.id:Int)==id))),(10, .int .i64 (memE ((x.U.ps.take (i+1)).find? fun q=>(q.2.id:Int)==id))),(7,rowv a 1 (memO (x.S.find id)).length),(8, .int .i64 (memE (x.S.find id))),(0,ptr W.w),(1,ptr x.b),(2, .int .i64 id)]);co_applyP aC;co_applyP aa;co_applyP om rfl rfl rfl av;co_applyP oy rfl (ak (hf:=fi));co_applyP oy rfl (aA (ht:=jr));co_applyP oy rfl av;co_applyP oy rfl (ak (hf:=bu));co_applyP oy rfl (aA (ht:=ci));co_applyP om rfl rfl rfl (bw cY cq);co_applyP oy rfl (aA (ht:=dZ));co_applyP oy rfl av;co_applyP oy rfl (ak (hf:=aG));co_applyP oy rfl (ak (hf:=bH));co_applyP oy rfl (aA (ht:=aR));co_applyP om rfl rfl rfl aI;co_applyP ai;co_applyP aT rfl;intro hf
  ·have er:(x.U.ps.take (i+1)).find? (fun q=>(q.2.id:Int)==id)=some q:=by
    rw[etk,List.find?_append];cases hr:(x.U.ps.take i).find? fun q=>(q.2.id:Int)==id with
    |none=>simp[hf]
    |some r=>
     have h1:=List.find?_some hr;have h2:=List.mem_of_mem_take (List.mem_of_find?_eq_some hr);have h3:r.2.id=q.2.id:=by
      have g1:(r.2.id:Int)=id:=by simpa using h1
      have g2:(q.2.id:Int)=id:=by simpa using hf
      omega
     rw[hp1.r.t.m.x.idn r h2 q hqm h3];rfl
   rw[er];co_applyP aa;co_applyP om rfl rfl rfl av;co_applyP oy rfl (ak (hf:=fi));co_applyP oy rfl (aA (ht:=jr));co_applyP oy rfl av;co_applyP oy rfl (ak (hf:=bu));co_applyP oy rfl (aA (ht:=ci));co_applyP om rfl rfl rfl (bw cY cq);co_applyP oy rfl (aA (ht:=dZ));co_applyP oy rfl av;co_applyP oy rfl (ak (hf:=iH));co_applyP oy rfl (wz U94 dX);co_applyP oy rfl (wF (l:=(List.range 64).map q.2.m) (b:=x.B.p q.1) (o:=0+15) (len:=64) (cap:=64) (hx:=by rfl) (ht:=U44) (he:=U5) (hu:=U9) (hm:=hm2) (hc:=by rw[bC];decide) (hl:=uz _ _));co_applyP oan rfl;co_applyP aq;co_applyP oan rfl;change _=_/\_=_/\kn _ _;exact⟨rfl,rfl,rfl⟩
  intro hf;have er:(x.U.ps.take (i+1)).find? (fun q=>(q.2.id:Int)==id)=(x.U.ps.take i).find? fun q=>(q.2.id:Int)==id:=by
   rw[etk,List.find?_append];simp[hf]
  rw[er];co_applyP aB;change _=_/\_=_/\kn _ _;exact⟨rfl,rfl,rfl⟩;rintro s'' ε'' L'' ⟨rfl,rfl,he⟩;co_applyP aN he;co_applyP aq;co_applyP om rfl rfl rfl aS;co_applyP oan rfl;change∃k',k'<_/\_;rw[e1];exact⟨k-1,by omega,rfl,rfl,i+1,by omega,by omega,rfl⟩
 intro hc;have hi:i=x.U.ps.length:=by simp at hc;omega
 subst hi;have er:(x.U.ps.take x.U.ps.length).find? (fun q=>(q.2.id:Int)==id)=(x.S.find id).map fun q=>(N q.1,q.2):=by rw[List.take_length];exact hfU
 have er1:memO ((x.S.find id).map fun q=>(N q.1,q.2))=memO (x.S.find id):=by cases x.S.find id<;>rfl
 have er2:memE ((x.S.find id).map fun q=>(N q.1,q.2))=memE (x.S.find id):=by cases x.S.find id<;>rfl
 rw[er,er1,er2];co_applyP bf;co_applyP aa;co_applyP om rfl rfl rfl (Dl hsl);co_applyP om rfl rfl rfl (BA);co_applyP om rfl rfl rfl (ag);co_applyP om rfl rfl rfl (aI);co_applyP oy rfl aH;co_applyP oan rfl;co_applyP aa;co_applyP om rfl rfl rfl ag;rw[show (memE (x.S.find id)==memE (x.S.find id))=true from beq_self_eq_true _];rw[hv];co_applyP oy rfl (bi (sI base (memO (x.S.find id)).length cap));co_applyP b5 rfl (b8 (hN _ _));intro H L4 hA;obtain⟨ow4,hW4,T4,o4⟩:=hW1.add ⟨hA.fn,hA.sub⟩ (· =H) (fun b hb t ht=>by rw[show b=H from hb];exact hA.new t ht) (0,0);obtain⟨hs4,o5⟩:=T4.sl hsl o1 fun h=>h;have hH:(H,true,Obj.cells (hcs ⟨HS.of a 1 (memO (x.S.find id)).length, .nil, .nil,0⟩) 143)∈L4:=by
  have:=hA.self;unfold hcs;rw[HS.of_v,hv];exact this
 co_applyP oc rfl rfl rfl (gp B0 ow4 W L4 H ⟨HS.of a 1 (memO (x.S.find id)).length, .nil, .nil,0⟩ hN hW4 hH (o4 H rfl) (fun ho=>by obtain⟨_,_,hm,_⟩:=hW1.blk ho;exact hA.new _ hm rfl) (HS.of_any hs4 (by simp) (by decide)) rfl rfl (fun c hc=>hc.elim (o5 c) fun hc=>hc.elim (fun e=>(absurd (show (none:Option Nat)=some c from e) fun h=>by cases h)) fun e=>(absurd (show (none:Option Nat)=some c from e) fun h=>by cases h)) ⟨by show (memO (x.S.find id)).length<=_;omega,Nat.zero_le _,Nat.zero_le _⟩ hln);rintro _ _ _ ⟨rfl,rfl,ow5,W5,hW5,ew,ep,eh,T5⟩;co_applyP ai;co_applyP aa;co_applyP oy rfl ag;co_applyP oan rfl;co_applyP aK;change∃v,resE .. =some v/\_;refine⟨_,rfl,rfl,rfl,ow5,W5,hW5,fun y hy=>hLv y (ep▸hy),ew,by rw[eh];exact Nat.le_refl _,by rw[ep],fun t ht ho=> ?_⟩;obtain⟨h3,h3o⟩:=T1.s t ht fun h=>h;obtain⟨h4,h4o⟩:=T4.s t h3 fun h=>h;obtain⟨h5,h5o⟩:=T5.s t h4 (by rw[h4o,h3o,ho];simp);exact⟨h5,by rw[h5o,h4o,h3o,ho]⟩
structure OpM where
 k:Int
 n:Int
 c:Nat->Int
 bo:Int
 s:List Int
 a:Int
abbrev opc (o:OpM):Array Value:= #[.int .i64 o.k, .int .i64 o.n, .int .i64 (o.c 0), .int .i64 (o.c 1), .int .i64 (o.c 2), .int .i64 o.bo,strv o.s, .int .i64 o.a]
def okn (c:Nat->Int)(bo:Int)(l:List Int):Bool:=okc c bo&&oki l.length
def ern (c:Nat->Int)(bo:Int)(l:List Int):Int:=if okn c bo l then 0 else if okc c bo then 2 else 1
theorem sJ (o:OpM):Value.agg ((opc o).extract (0+2) (0+2+4))=cfgv o.c o.bo:=rfl
theorem zo (b:Bool):evR Tryz.prog (binOp .eql 4 (.bool b) (.bool b)) []=some (.bool true,[]):=by cases b<;>kernel_rfl
theorem xD (b:Bool)(x y:Operand):evR Tryz.prog (eqGuard .eql 4 x y (.bool b) (.bool b)) []=some ((),[]):=by cases b<;>kernel_rfl
theorem BD (K R:Nat):evR Tryz.prog (Instr.build 145 [(0,ptr K),(1,ptr R)].toArray) []=some (.agg #[ptr K,ptr R, .int .i64 0],[]):=by kernel_rfl
theorem xE:zeroAt Tryz.prog 102=some (.pointer none):=by kernel_rfl
theorem zp:bytesAt Tryz.prog 102=some 8:=by kernel_rfl
theorem uA (W:Wo)(a':Sl)(x:Pl):(woc W).setIfInBounds 0 (rowv a' 1 (W.ps.length+1))=woc {W with ap:=a',ps:=W.ps++[x]}:=by unfold woc;simp
theorem Do: ∃n,∀{σ}{F:Fam σ}{Δ:DM F}{main s}(L:Frag)(c:Nat->Int)(bo:Int)(ib cap:Nat)(l:List Int),(∀s o,(Δ s).New o)->Fun L->Byt l->(∀i,i<l.length->At L ib (0+i) (.int .u8 (l.getD i 0)))->
 CallsL Δ Tryz.prog main 29 [cfgv c bo, .slice (some ⟨ib,0,none⟩) l.length cap].toArray n s L (fun s' v L'=>s=s'/\Ext L L'/\ ∃K A S,v= .tuple #[.pointer (if okn c bo l then some ⟨K,0,none⟩ else none), .int .i64 (ern c bo l)]/\(okn c bo l=true->Rep K A S L L'/\Ab S (St.fresh c bo l 1))):=by
 obtain⟨k1,h1⟩:=C0;obtain⟨k2,h2⟩:=C1;obtain⟨k3,h3⟩:=C2;refine⟨_,fun{σ F Δ main s} L c bo ib cap l hN hF hB hat=>aZ (okc c bo=true) (n₁:=k2+k3) (n₂:=k1) (fun hc=>aZ (oki l.length=true) (n₁:=k3) (n₂:=k2) (fun hi=> ?_) (fun hi=> ?_)|>.more (by omega)) (fun hc=> ?_)⟩
 ·refine aU (h3 L c bo ib 0 l.length cap (fun i=>l.getD i 0) hN hF hc hi hat) ?_;rintro s' v L' ⟨rfl,K,A,b,rfl,hR⟩;have e:okn c bo l=true:=by unfold okn;rw[hc,hi];rfl
  exact⟨rfl,⟨hR.fn,hR.fr⟩,K,A,_,by unfold ern;rw[e];rfl,fun _=>⟨hR,wI hc hi hB⟩⟩
 ·have hi':oki l.length=false:=by simpa using hi
  refine aU (h2 L c bo (some ⟨ib,0,none⟩) l.length cap hN hF hc hi') ?_;rintro s' v L' ⟨rfl,rfl,hE⟩;have e:okn c bo l=false:=by unfold okn;rw[hc,hi'];rfl
  exact⟨rfl,hE,0,⟨0,0, #[],fun _=>⟨none,[]⟩,fun _=>⟨none,[]⟩,0,[],0⟩,St.fresh c bo l 1,by unfold ern;rw[e,hc];rfl,fun h=>by rw[e] at h;cases h⟩
 ·have hc':okc c bo=false:=by simpa using hc
  refine aU (h1 L c bo _ hN hF hc') ?_;rintro s' v L' ⟨rfl,rfl,hE⟩;have e:okn c bo l=false:=by unfold okn;rw[hc'];rfl
  exact⟨rfl,hE,0,⟨0,0, #[],fun _=>⟨none,[]⟩,fun _=>⟨none,[]⟩,0,[],0⟩,St.fresh c bo l 1,by unfold ern;rw[e,hc'];rfl,fun h=>by rw[e] at h;cases h⟩
theorem Dp: ∃n,∀{σ}{F:Fam σ}{Δ:DM F}{main s}(L:Frag)(c:Nat->Int)(bo:Int)(l:List Int),(∀s o,(Δ s).New o)->Fun L->Byt l->NoPipe l->
 CallsL Δ Tryz.prog main 70 [cfgv c bo,strv l].toArray n s L (fun s' v L'=>s=s'/\Ext L L'/\ ∃R B,v= .tuple #[.pointer (if okn c bo l then some ⟨R,0,none⟩ else none), .int .i64 (ern c bo l)]/\(okn c bo l=true->Ref R B (St.fresh c bo l 1) (RX.new l) L'/\ ∀d,OwnR R B (St.fresh c bo l 1) d-> ∀t∈L,t.1≠d)):=by
 obtain⟨k1,h1⟩:=Bq;refine⟨k1,fun{σ F Δ main s} L c bo l hN hF hB hp=>aU (h1 L c bo l hN hF hB) ?_⟩;rintro s' v L' ⟨rfl,hE,h⟩;by_cases e:okc c bo=true/\oki l.length=true
 ·rw[if_pos e] at h;obtain⟨R,B,rfl,hR,ho⟩:=h;have e':okn c bo l=true:=by unfold okn;rw[e.1,e.2];rfl
  refine⟨rfl,hE,R,B,by unfold ern;rw[e'];rfl,fun _=>⟨⟨hR,(p9 (b:=1) e.1 e.2 hB).rename fun q hq=> ?_, ?_,fun _=>rfl,hp⟩,ho⟩⟩
  ·rw[lx] at hq;obtain rfl:=List.mem_singleton.1 hq;rfl
  ·show false=(St.fresh c bo l 1).isOver;unfold St.isOver St.find;rw[lx];rfl
 ·rw[if_neg e] at h;have e':okn c bo l=false:=by
   unfold okn;cases h1:okc c bo<;>cases h2:oki l.length<;>simp_all
  refine⟨rfl,hE,0,RB.none,by rw[h];unfold ern;rw[e'];rfl,fun h=>by rw[e'] at h;cases h⟩
theorem uB: ∃n,∀{σ}{F:Fam σ}{Δ:DM F}{main s}(B0:Frag)(ow:Nat->Cl)(W:Wo)(L:Frag)(o:OpM),(∀s o,(Δ s).New o)->WI B0 ow W L->(∀y∈W.ps,Lev y)->W.hs.length<=10000000000000->Byt o.s->o.s.length<=140737488351232->NoPipe o.s->
 CallsL Δ Tryz.prog main 39 [ptr W.w, .agg (opc o)].toArray n s L (fun s' v L'=>s=s'/\v= .bool true/\Went B0 ow W L (if okn o.c o.bo o.s=true/\W.ps.length<3 then W.ps.map (·.t)++[0] else W.ps.map (·.t)) L'):=by
 obtain⟨n1,gl⟩:=Bv;obtain⟨n2,gk⟩:=Do;obtain⟨n3,gr⟩:=Dp;obtain⟨n4,gs⟩:=zf 140737488351240;obtain⟨n5,gp⟩:=ol;apply Exists.intro;intro σ F Δ main s B0 ow W L o hN hW hLv hln hB hl hnp;co_applyP aF 81 Tryz.func39 Tryz.ntmps39;co_applyP aa;co_applyP b5 rfl (b8 (hN _ _));intro ob L1 hA1;have hob1:(ob,true,Obj.cells (opc o) 29)∈L1:=hA1.self;have a1:At L1 ob 6 (strv o.s):=⟨true,_,_,_,hob1,rfl⟩;co_applyP oan rfl;co_applyP aa;co_applyP oy rfl (ak (hf:=iE));co_applyP oy rfl (aA (ht:=lM));co_applyP oc rfl rfl rfl (gl L1 o.s hN hB (by omega));rintro _ _ _ ⟨rfl,b,rfl,hA2⟩;rename_i L2;have hob2:=hA2.sub _ hob1;have a2:At L2 ob 6 (strv o.s):=⟨true,_,_,_,hob2,rfl⟩;have hbat: ∀i,i<o.s.length->At L2 b (0+i) (.int .u8 (o.s.getD i 0)):=fun i hi=>by
  refine⟨true,_,_,_,hA2.self, ?_⟩;unfold lentc;rw[Nat.zero_add,List.getElem?_toArray,List.getElem?_append_left (by simpa using hi)];simp[hi,List.getD_eq_getElem?_getD]
 co_applyP oan rfl;co_applyP au;co_applyP br [] 7 a5;co_applyP tr 0 rfl ((ak (hf:=rQ))) pN;co_applyP t0 1 rfl (bF (ht:=jN) (hs:=iC) (hm:=hob2) (hi:=by show 0+2+4<=8;decide)) pN;rw[sJ];co_applyP tr 2 rfl (ag) pN;co_applyP tr 3 rfl ((ak (hf:=iE))) pN;co_applyP t0 4 rfl ((aA (ht:=lM))) pN;co_applyP tr 5 rfl ((dO (hu:=U9))) pN;rw[b9];co_applyP tr 6 rfl ((ve U44 dX)) pN;rw[show (Value.slice (some ⟨b,cutAt 0 0 (o.s.length+8) 1,none⟩) ((o.s.length:Int).toNat-0) (o.s.length+8-0))= .slice (some ⟨b,0,none⟩) o.s.length (o.s.length+8) by simp[cutAt]];co_applyP tc 7 rfl rfl rfl (gk L2 o.c o.bo b (o.s.length+8) o.s hN hA2.fn hB hbat);rintro _ _ _ ⟨rfl,hE3,K,A,S,rfl,hK⟩;refine⟨aD (by simp), ?_⟩;rename_i L3;co_applyP to 8 rfl (ag) (aD (by simp));co_applyP tr 9 rfl (co) (aD (by simp));co_applyP tr 10 rfl (co) (aD (by simp));co_applyP tr 11 rfl (bR) (aD (by simp));co_applyP tr 12 rfl (bR) (aD (by simp));have hob3:=hE3.s _ hob2;have a3:At L3 ob 6 (strv o.s):=⟨true,_,_,_,hob3,rfl⟩;co_applyP td (by kernel_rfl);co_applyP aa;co_applyP oy rfl (ak (hf:=rQ));co_applyP oy rfl (bF (ht:=jN) (hs:=iC) (hm:=hob3) (hi:=by show 0+2+4<=8;decide));co_applyP oy rfl (ak (hf:=iE));co_applyP oy rfl (aA (ht:=lM));rw[sJ];co_applyP oc rfl rfl rfl (gr L3 o.c o.bo o.s hN hE3.f hB hnp);rintro _ _ _ ⟨rfl,hE4,R,B,rfl,hR⟩;rename_i L4;have hob4:=hE4.s _ hob3;have hb4:(b,true,Obj.cells (lentc o.s) 5)∈L4:=hE4.s _ (hE3.s _ hA2.self);have a4:At L4 ob 6 (strv o.s):=⟨true,_,_,_,hob4,rfl⟩;have hEx:Ext L L4:=⟨hE4.f,fun t ht=>hE4.s _ (hE3.s _ (hA2.sub _ (hA1.sub _ ht)))⟩;obtain⟨owa,Ta,oa,_⟩:=(Tu.ext (ow:=ow) hEx).new (· =b) (fun c hc t ht=>by rw[show c=b from hc];exact hA2.new t (hA1.sub t ht)) (4,W.hs.length+1);obtain⟨owb,Tb,obk,obn⟩:=Ta.new (fun c=>okn o.c o.bo o.s=true/\Own K A S c) (fun c hc t ht e=>(hK hc.1).1.frown (hA2.sub _ (hA1.sub _ ht)) (e▸hc.2)) (2,W.ps.length);obtain⟨ow4,T4,ocr,ocn⟩:=Tb.new (fun c=>okn o.c o.bo o.s=true/\OwnR R B (St.fresh o.c o.bo o.s 1) c) (fun c hc t ht=>(hR hc.1).2 c hc.2 t (hE3.s _ (hA2.sub _ (hA1.sub _ ht)))) (3,W.ps.length);have hW4:WI B0 ow4 W L4:=hW.tu0 T4 id (fun _ _=>id) fun _ _=>⟨id,id⟩;have o4b:ow4 b=(4,W.hs.length+1):=by
  rw[ocn b fun h=>(hR h.1).2 b h.2 _ (hE3.s _ hA2.self) rfl,obn b fun h=>(hK h.1).1.frown hA2.self h.2];exact oa b rfl
 have o4k:okn o.c o.bo o.s=true-> ∀c,Own K A S c->ow4 c=(2,W.ps.length):=fun e c hc=>by
  obtain⟨_,hm,_⟩:=(hK e).1.own hc;rw[ocn c fun h=>(hR e).2 c h.2 _ hm rfl];exact obk c ⟨e,hc⟩
 have o4r:okn o.c o.bo o.s=true-> ∀c,OwnR R B (St.fresh o.c o.bo o.s 1) c->ow4 c=(3,W.ps.length):=fun e c hc=>ocr c ⟨e,hc⟩;co_applyP om rfl rfl rfl co;co_applyP oy rfl co;co_applyP oy rfl bR;co_applyP oan rfl;co_applyP aa;co_applyP om rfl rfl rfl (ak (hf:=iE));co_applyP oy rfl (aA (ht:=lM));co_applyP oc rfl rfl rfl (gs L4 o.s b hB (by omega) (by decide) hb4);rintro _ _ _ ⟨rfl,rfl,rfl⟩;co_applyP om rfl rfl rfl (ag);co_applyP om rfl rfl rfl (aI);co_applyP oy rfl aH;co_applyP oy rfl ag;rw[show (ern o.c o.bo o.s==ern o.c o.bo o.s)=true from beq_self_eq_true _];co_applyP om rfl rfl rfl ((vd (hu:=Tryz.underlying35)));co_applyP om rfl rfl rfl ((vd (hu:=Tryz.underlying137)));co_applyP oy rfl (C7 (a:= .bool (okn o.c o.bo o.s)) (b:= .bool (okn o.c o.bo o.s)) (xD _ _ _) (zo _) (hx:=by cases okn o.c o.bo o.s<;>rfl) (hy:=by cases okn o.c o.bo o.s<;>rfl));co_applyP oy rfl aH;co_applyP oan rfl;co_applyP aa;co_applyP om rfl rfl rfl ag;co_applyP oy rfl (bi (sI (some ⟨b,0,none⟩) (o.s.length+8) (o.s.length+8)));co_applyP b5 rfl (b8 (hN _ _));intro H L5 hA5;obtain⟨ow5,hW5,T5,o5⟩:=hW4.add ⟨hA5.fn,hA5.sub⟩ (· =H) (fun b hb t ht=>by rw[show b=H from hb];exact hA5.new t ht) (0,0);have hH:(H,true,Obj.cells (hcs ⟨⟨some b,o.s.length+8,o.s.length+8⟩, .nil, .nil,0⟩) 143)∈L5:=hA5.self;obtain⟨hb5,o5b⟩:=T5.s _ hb4 id;co_applyP oc rfl rfl rfl (gp B0 ow5 W L5 H ⟨⟨some b,o.s.length+8,o.s.length+8⟩, .nil, .nil,0⟩ hN hW5 hH (o5 H rfl) (fun ho=>by obtain⟨_,_,hm,_⟩:=hW4.blk ho;exact hA5.new _ hm rfl) ⟨_,hb5,by unfold lentc;simp,Nat.le_refl _⟩ rfl rfl (fun c hc=>hc.elim (fun e=>by obtain rfl:b=c:=Option.some.inj e;rw[o5b];exact o4b) fun hc=>hc.elim (fun e=>(absurd (show (none:Option Nat)=some c from e) fun h=>by cases h)) (fun e=>(absurd (show (none:Option Nat)=some c from e) fun h=>by cases h))) ⟨by show o.s.length+8<=_;omega,Nat.zero_le _,Nat.zero_le _⟩ hln);rintro _ _ _ ⟨rfl,rfl,ow6,W6,hW6,ew,ep,eh,T6⟩;rename_i L6;have hT:Tu (fun c=>c=(0,0)\/c=(4,W.hs.length+1)) ow L ow6 L6:=((T4.trans T5).trans T6).mono fun c hc=>hc.elim (fun h=>h.elim False.elim False.elim) id;have hfx: ∀t∈L,ow t.1=(1,0)->t∈L6/\ow6 t.1=(1,0):=fun t ht ho=>by
  obtain⟨h1,h2⟩:=hT.s t ht (by rw[ho];simp);exact⟨h1,h2.trans ho⟩
 obtain⟨base,cap,hv,_⟩:=fG hW6.pa (n:=W6.ps.length) (by simp);rw[ep] at hv;have w6:At L6 W.w 0 (.slice base W.ps.length cap):=⟨true,_,_,_,ew▸hW6.w,by rw[<-hv,<-ep];rfl⟩;have ets:W6.ps.map (·.t)=W.ps.map (·.t):=by rw[ep]
 co_applyP ai;co_applyP cK (fun s'' ε'' L''=>s=s''/\Went B0 ow W L (if okn o.c o.bo o.s=true/\W.ps.length<3 then W.ps.map (·.t)++[0] else W.ps.map (·.t)) L''/\kn ε'' [(10, .bool true)]);co_applyP au;co_applyP cO ([(66, .bool (okn o.c o.bo o.s&&decide ((W.ps.length:Int)<3))),(0,ptr W.w),(6, .pointer (if okn o.c o.bo o.s=true then some (⟨K,0,none⟩:Addr) else none)),(8, .pointer (if okn o.c o.bo o.s=true then some (⟨R,0,none⟩:Addr) else none)),(10, .bool true)])
 ·skip
  co_applyP aq;co_applyP om rfl rfl rfl ag;co_applyP om rfl rfl rfl ((vd (hu:=Tryz.underlying137)));co_applyP oy rfl aH;co_applyP oy rfl ag;by_cases hk:okn o.c o.bo o.s=true
  ·rw[show (!((if okn o.c o.bo o.s=true then some (⟨R,0,none⟩:Addr) else none)).isNone)=true by rw[if_pos hk];rfl];co_applyP om rfl rfl rfl (av);co_applyP oy rfl ((ak (hf:=gz)));co_applyP oy rfl ((aA (ht:=pe)));co_applyP oy rfl ((bt (hu:=U68)));co_applyP oy rfl (bj);co_applyP oy rfl aH;co_applyP ai;change _=_/\_=_/\kn _ _;refine⟨rfl,rfl, ?_⟩;rw[show (okn o.c o.bo o.s&&decide ((W.ps.length:Int)<3))=decide ((W.ps.length:Int)<3) by rw[hk];rfl];rfl
  ·rw[show (!((if okn o.c o.bo o.s=true then some (⟨R,0,none⟩:Addr) else none)).isNone)=false by rw[if_neg hk];rfl];co_applyP ou rfl;co_applyP ou rfl;co_applyP ou rfl;co_applyP ou rfl;co_applyP ou rfl;co_applyP ou rfl;co_applyP oy rfl aH;co_applyP ai;change _=_/\_=_/\kn _ _;refine⟨rfl,rfl, ?_⟩;rw[show (okn o.c o.bo o.s&&decide ((W.ps.length:Int)<3))=false by simp[hk]];rfl
 co_applyP aT rfl;intro hc
 ·have hc':okn o.c o.bo o.s=true/\W.ps.length<3:=by
   simp at hc;exact⟨hc.1,by omega⟩
  obtain⟨hk,h3⟩:=hc';obtain⟨hk5,o5k⟩:=((((hK hk).1.less (F':=[]) fun t ht=>(by cases ht)).of hE4.f hE4.s).tu T5 (o4k hk) id);obtain⟨hk6,o6k⟩:=hk5.tu T6 o5k (by simp);obtain⟨hr5,o5r⟩:=(hR hk).1.tu T5 (o4r hk) id;obtain⟨hr6,o6r⟩:=hr5.tu T6 o5r (by simp);rw[if_pos hk,if_pos hk];co_applyP aq;co_applyP om rfl rfl rfl ag;co_applyP oy rfl av;co_applyP oy rfl (ak (hf:=gz));co_applyP oy rfl (aA (ht:=pe));co_applyP om rfl rfl rfl ag;co_applyP oy rfl (bi (BD K R));co_applyP b5 rfl (b8 (hN _ _));intro pb L7 hA7;obtain⟨ow7,hW7,T7,o7⟩:=hW6.add ⟨hA7.fn,hA7.sub⟩ (· =pb) (fun b hb t ht=>by rw[show b=pb from hb];exact hA7.new t ht) (0,0);obtain⟨hk7,o7k⟩:=hk6.tu T7 o6k id;obtain⟨hr7,o7r⟩:=hr6.tu T7 o6r id;co_applyP b5 rfl (oZ (hN _ _) (hu:=U68) (hs:=qR) (hz:=xE));intro nb L8 hA8;have ha8:=hW7.pa.mono fun c hc o ho=>hA8.sub _ ho;co_applyP oeN rfl (fun hnd=>gR (a:=W6.ap) (n:=W.ps.length) (xs:=W6.ps.map fun x=>ptr x.b) (v:=ptr pb) (hx:=by rw[hv];rfl) (hnd:=hnd) (hu:=U68) (hs:=qR) (hb:=zp) (hz:=xE) (hzs:=rfl) (hN:=fun cs=>hN _ _) (ha:=ha8) (hn:=by simp[ep]) (hm:=hA8.self) (hpl:=rfl) (h8:=by omega));rintro _ L9 ⟨a',rfl,hp⟩;have hw9:(W.w,true,Obj.cells (woc W6) 71)∈L9:=hp.ch.keep (NoT.sl hA8.fn ha8 (by decide)) (hA8.sub _ (ew▸hW7.w));co_applyP oy rfl av;co_applyP oy rfl (ak (hf:=gz));co_applyP osm rfl (hs:=Cu) (hm:=hw9) (hi:=by show 0<2;decide) (hp:=bW _ _ _);intro L10 hU10;rw[show W.ps.length+1=W6.ps.length+1 by rw[ep],uA W6 a' ⟨pb,K,A,S,St.fresh o.c o.bo o.s 1,R,B,St.fresh o.c o.bo o.s 1,RX.new o.s,0⟩] at hU10;obtain⟨ow8,hW8,T8⟩:=hW7.pushP (x:=⟨pb,K,A,S,St.fresh o.c o.bo o.s 1,R,B,St.fresh o.c o.bo o.s 1,RX.new o.s,0⟩) ⟨hA8.fn,hA8.sub⟩ hp (by rw[ew];exact hU10) hA7.self (o7 pb rfl) (fun ho=>by obtain⟨_,_,hm,_⟩:=hW6.blk ho;exact hA7.new _ hm rfl) (by rw[ep];exact⟨hk7,(hK hk).2,hr7,o7k,o7r⟩);co_applyP ai;change _=_/\Went _ _ _ _ _ _/\kn _ _;refine⟨rfl,⟨ow8,_,hW8,fun y hy=> ?_,ew,by show W6.hs.length<=_;omega, ?_,fun t ht ho=> ?_⟩,rfl⟩
  ·rcases List.mem_append.1 hy with hy|hy
   ·exact hLv y (ep▸hy)
   ·obtain rfl:=List.mem_singleton.1 hy;exact⟨rfl,by show (St.fresh o.c o.bo o.s 1).now<=0;rw[fZ];exact Nat.le_refl _,rfl,Nat.zero_le _⟩
  ·rw[if_pos ⟨hk,h3⟩,List.map_append,ets];rfl
  ·obtain⟨h1,h2⟩:=hfx t ht ho;obtain⟨h3,h3o⟩:=T7.s t h1 id;obtain⟨h4,h4o⟩:=T8.s t h3 (by rw[h3o,h2];simp);exact⟨h4,by rw[h4o,h3o,h2]⟩
 intro hc;have hc': ¬(okn o.c o.bo o.s=true/\W.ps.length<3):=fun⟨h1,h2⟩=>by
  rw[h1] at hc;simp at hc;omega
 co_applyP aB;change _=_/\Went _ _ _ _ _ _/\kn _ _;exact⟨rfl,⟨ow6,W6,hW6,fun y hy=>hLv y (ep▸hy),ew,by omega,by rw[if_neg hc',ets],hfx⟩,rfl⟩;rintro s'' ε'' L'' ⟨rfl,hw,he⟩;co_applyP aN he;co_applyP aa;co_applyP oy rfl ag;co_applyP oan rfl;co_applyP aK;change∃v,resE .. =some v/\_;exact⟨_,rfl,rfl,rfl,hw⟩
theorem Dq: ∃n,∀{Fin:Value->World->Prop}{W0:World}{O:Nat}(nn:Nat)(s:List Nat)(B0:Frag)(eb:Nat->Nat×Nat)(ow:Nat->Cl)(W:Wo)(L:Frag)(j:Nat)(x:Pl)(a:Int),WI B0 ow W L->(∀y∈W.ps,Lev y)->Ers eb B0->W.ps[j]? =some x->I64 a->W.hs.length<=10000000000000->
 CallsL (F:=FZ Tryz.prog Fin) (fun s=>dom0 (Shs s.2) W0 O) Tryz.prog true 41 [ptr W.w,ptr x.b, .int .i64 a].toArray n (nn+(if runs? x.t a then 1 else 0),s) L (fun s' v L'=>s'.1=nn/\v= .bool true/\Went B0 ow W L ((W.ps.map (·.t)).set j (runt x.t a)) L'):=by
 obtain⟨k1,h1⟩:=Dj;obtain⟨k2,h2⟩:=Dk;refine⟨_,fun{Fin W0 O} nn s B0 eb ow W L j x a hW hLv hEr hx hI hln=>aZ (0<a/\a<=2000/\6000<(x.t:Int)+a) (n₁:=k1) (n₂:=k2) (fun hc=> ?_) (fun hc=> ?_)⟩
 ·have hxm:=List.mem_of_getElem? hx;have e:runs? x.t a=false:=by unfold runs?;simp[hc.1,hc.2.2]
  unfold runt;simp only[e,if_false,Bool.false_eq_true];refine aU (h1 B0 ow W L x a hW hxm (hLv x hxm).t hc.1 hc.2.1 hc.2.2) ?_;rintro s' v L' ⟨rfl,rfl,rfl⟩;refine⟨rfl,rfl,ow,W,hW,hLv,rfl,Nat.le_add_right _ _, ?_,fun t ht ho=>⟨ht,ho⟩⟩;rw[<-List.map_set (f:=fun x:Pl=>x.t) (a:=x)];exact(jg _ hx rfl).symm
 ·have e:runs? x.t a=inr a:=by
   unfold runs? inr;rw[Bool.eq_iff_iff];simp;intro h1 h2;omega
  unfold runt;simp only[e];exact h2 nn s B0 eb ow W L j x a hW hLv hEr hx hI hc hln
def tst (ts:List Nat)(o:OpM):List Nat:=if o.k=1 then(if okn o.c o.bo o.s=true/\ts.length<3 then ts++[0] else ts) else if ts.length=0 then ts else if o.k=2 then ts.set (pickN o.n ts.length) (runt (ts.getD (pickN o.n ts.length) 0) o.a) else ts
def cst (ts:List Nat)(o:OpM):Nat:=if o.k=2/\ts.length≠0 then(if runs? (ts.getD (pickN o.n ts.length) 0) o.a then 1 else 0) else 0
theorem zq (o:OpM):Value.agg ((opc o).extract 0 (0+8))= .agg (opc o):=rfl
theorem Went.pre {B0 L L1 L':Frag}{ow ow1:Nat->Cl}{W:Wo}{ts:List Nat}(h:Went B0 ow1 W L1 ts L')(T:Tu (fun _=>False) ow L ow1 L1):Went B0 ow W L ts L':=by
 obtain⟨ow',W',a,b,c,d,e,f⟩:=h;refine⟨ow',W',a,b,c,d,e,fun t ht ho=> ?_⟩;obtain⟨h1,h2⟩:=T.s t ht id;exact f t h1 (h2.trans ho)
theorem BE: ∃n,∀{Fin:Value->World->Prop}{W0:World}{O:Nat}(nn:Nat)(s:List Nat)(B0:Frag)(eb:Nat->Nat×Nat)(ow:Nat->Cl)(W:Wo)(L:Frag)(o:OpM),WI B0 ow W L->(∀y∈W.ps,Lev y)->Ers eb B0->W.hs.length<=10000000000000->Byt o.s->o.s.length<=140737488351232->NoPipe o.s->I64 o.n->I64 o.a->
 CallsL (F:=FZ Tryz.prog Fin) (fun s=>dom0 (Shs s.2) W0 O) Tryz.prog true 27 [ptr W.w, .agg (opc o)].toArray n (nn+cst (W.ps.map (·.t)) o,s) L (fun s' v L'=>s'.1=nn/\v= .bool true/\Went B0 ow W L (tst (W.ps.map (·.t)) o) L'):=by
 obtain⟨n1,gc⟩:=uB;obtain⟨n2,gr⟩:=Dq;obtain⟨n3,gt⟩:=BC;obtain⟨n4,gm⟩:=xC;obtain⟨n5,gp⟩:=Br;apply Exists.intro;intro Fin W0 O nn s B0 eb ow W L o hW0 hLv hEr hln hB hl hnp hIn hIa;have hN: ∀(s:Nat×List Nat)(o:Obj),(dom0 (Shs s.2) W0 O).New o:=fun _ _=>trivial;co_applyP aF 53 Tryz.func27 Tryz.ntmps27;co_applyP aa;co_applyP b5 rfl (b8 (hN _ _));intro ob L1 hA1;obtain⟨ow1,hW,T1,_⟩:=hW0.add ⟨hA1.fn,hA1.sub⟩ (fun _=>False) (fun _ h=>h.elim) (0,0);have hob:(ob,true,Obj.cells (opc o) 29)∈L1:=hA1.self;have a0:At L1 ob 0 (.int .i64 o.k):=⟨true,_,_,_,hob,rfl⟩;have a1:At L1 ob 1 (.int .i64 o.n):=⟨true,_,_,_,hob,rfl⟩;have a7:At L1 ob 7 (.int .i64 o.a):=⟨true,_,_,_,hob,rfl⟩;obtain⟨base,cap,hv,hat⟩:=fG hW.pa (n:=W.ps.length) (by simp);have hw1:(W.w,true,Obj.cells #[.slice base W.ps.length cap,rowv W.ah 1 W.hs.length] 71)∈L1:=by rw[<-hv];exact hW.w
 have w0:At L1 W.w 0 (.slice base W.ps.length cap):=⟨true,_,_,_,hw1,rfl⟩;have elt:(W.ps.map (·.t)).length=W.ps.length:=by simp
 co_applyP oan rfl;co_applyP au;co_applyP aa;co_applyP oy rfl (ak (hf:=ng));co_applyP oy rfl (aA (ht:=aR));co_applyP oy rfl aI;co_applyP ai;co_applyP aT rfl;intro hk1
 ·have hk:o.k=1:=by simpa using hk1
  have ec:cst (W.ps.map (·.t)) o=0:=by unfold cst;rw[if_neg (by omega)]
  have et:tst (W.ps.map (·.t)) o=if okn o.c o.bo o.s=true/\W.ps.length<3 then W.ps.map (·.t)++[0] else W.ps.map (·.t):=by unfold tst;rw[if_pos hk,elt]
  rw[ec,et];co_applyP aa;co_applyP om rfl rfl rfl (bF (ht:=vh) (hs:=gQ) (hm:=hob) (hi:=by show 0+8<=8;decide));rw[zq];co_applyP oc rfl rfl rfl (gc B0 ow1 W L1 o hN hW hLv hln hB hl hnp);rintro _ _ _ ⟨rfl,rfl,hw⟩;co_applyP oan rfl;co_applyP aK;change∃v,resE .. =some v/\_;exact⟨_,rfl,rfl,rfl,hw.pre T1⟩
 intro hk1;have hk: ¬o.k=1:=by simpa using hk1
 co_applyP aB;co_applyP au;co_applyP aa;co_applyP om rfl rfl rfl av;co_applyP oy rfl (ak (hf:=gz));co_applyP oy rfl (aA (ht:=pe));co_applyP oy rfl (bt (hu:=U68));co_applyP oy rfl aI;co_applyP ai;co_applyP aT rfl;intro h0
 ·have hz:W.ps.length=0:=by have h:=eq_of_beq h0;omega
  have ec:cst (W.ps.map (·.t)) o=0:=by unfold cst;rw[if_neg (by rw[elt];omega)]
  have et:tst (W.ps.map (·.t)) o=W.ps.map (·.t):=by unfold tst;rw[if_neg hk,if_pos (by rw[elt];exact hz)]
  rw[ec,et];co_applyP aa;co_applyP oan rfl;co_applyP aK;change∃v,resE .. =some v/\_;exact⟨_,rfl,rfl,rfl,Went.pre ⟨ow1,W,hW,hLv,rfl,Nat.le_add_right _ _,rfl,fun t ht ho=>⟨ht,ho⟩⟩ T1⟩
 intro h0;have hz:0<W.ps.length:=by have h:=ne_of_beq_false h0;omega
 have hj:pickN o.n W.ps.length<W.ps.length:=wH _ hz;obtain⟨x,hx⟩: ∃x,W.ps[pickN o.n W.ps.length]? =some x:=⟨_,List.getElem?_eq_getElem hj⟩;obtain⟨pb,hpb,rfl,hpv⟩:=hat (pickN o.n W.ps.length) (ptr x.b) (by simp[hx]);have hxt:(W.ps.map (·.t)).getD (pickN o.n (W.ps.map (·.t)).length) 0=x.t:=by rw[elt];simp[List.getD,hx]
 co_applyP aB;co_applyP au;co_applyP br [(W.w,true,Obj.cells #[.slice (some ⟨pb,0,none⟩) W.ps.length cap,rowv W.ah 1 W.hs.length] 71)] 11 a5;co_applyP tr 0 rfl ag (aj (by simpa using hw1));co_applyP tr 1 rfl av (aj (by simpa using hw1));co_applyP tr 2 rfl (ak (hf:=gz)) (aj (by simpa using hw1));co_applyP tr 3 rfl (aA (ht:=pe)) (aj (by simpa using hw1));co_applyP tr 4 rfl (ak (hf:=yf)) (aj (by simpa using hw1));co_applyP t0 5 rfl (aA (ht:=aR)) (aj (by simpa using hw1));co_applyP tr 6 rfl ag (aj (by simpa using hw1));co_applyP tr 7 rfl av (aj (by simpa using hw1));co_applyP tr 8 rfl (ak (hf:=gz)) (aj (by simpa using hw1));co_applyP t0 9 rfl (aA (ht:=pe)) (aj (by simpa using hw1));co_applyP tr 10 rfl (bt (hu:=U68)) (aj (by simpa using hw1));co_applyP tc 11 rfl rfl rfl (gp L1 o.n W.ps.length hIn hz);rintro _ _ _ ⟨rfl,rfl,rfl⟩;refine⟨aD (by simpa using hw1), ?_⟩;co_applyP to 12 rfl ((bw U68 qR)) (aD (by simpa using hw1));co_applyP to 13 rfl ((aA (ht:=Ak))) (aD (by simpa using hw1));co_applyP to 14 rfl (bR) (aD (by simpa using hw1));co_applyP td (by kernel_rfl);co_applyP au;co_applyP aa;co_applyP oy rfl (ak (hf:=ng));co_applyP oy rfl (aA (ht:=aR));co_applyP ai;co_applyP aC;co_applyP aa;co_applyP oy rfl aI;co_applyP oan rfl;co_applyP aT rfl;intro h2
 ·have hk2:o.k=2:=by simpa using h2
  have ec:cst (W.ps.map (·.t)) o=if runs? x.t o.a then 1 else 0:=by unfold cst;rw[if_pos ⟨hk2,by rw[elt];omega⟩,hxt]
  have et:tst (W.ps.map (·.t)) o=(W.ps.map (·.t)).set (pickN o.n W.ps.length) (runt x.t o.a):=by unfold tst;rw[if_neg hk,if_neg (by rw[elt];omega),if_pos hk2,hxt,elt]
  rw[ec,et];co_applyP aa;co_applyP om rfl rfl rfl ag;co_applyP oy rfl (ak (hf:=rR));co_applyP oy rfl (aA (ht:=aR));co_applyP oc rfl rfl rfl (gr nn s B0 eb ow1 W L1 _ x o.a hW hLv hEr hx hIa hln);rintro _ _ _ ⟨hs,rfl,hw⟩;co_applyP oan rfl;co_applyP aK;change∃v,resE .. =some v/\_;exact⟨_,rfl,hs,rfl,hw.pre T1⟩
 intro h2;have hk2: ¬o.k=2:=by simpa using h2
 have ec:cst (W.ps.map (·.t)) o=0:=by unfold cst;rw[if_neg (fun h=>hk2 h.1)]
 have et:tst (W.ps.map (·.t)) o=W.ps.map (·.t):=by unfold tst;rw[if_neg hk,if_neg (by rw[elt];omega),if_neg hk2]
 rw[ec,et];co_applyP aa;co_applyP oy rfl aI;co_applyP oan rfl;co_applyP aT rfl;intro h3;co_applyP aa;co_applyP om rfl rfl rfl ag
 ·skip
  co_applyP oc rfl rfl rfl (gt B0 ow1 W L1 _ x hN hW hLv hx hln);rintro _ _ _ ⟨rfl,rfl,hw⟩;co_applyP oan rfl;co_applyP aK;change∃v,resE .. =some v/\_;exact⟨_,rfl,rfl,rfl,hw.pre T1⟩
 intro h3;co_applyP aa;co_applyP oy rfl aI;co_applyP oan rfl;co_applyP aT rfl;intro h4;co_applyP aa;co_applyP om rfl rfl rfl ag;co_applyP oy rfl (ak (hf:=rR));co_applyP oy rfl (aA (ht:=aR))
 ·skip
  co_applyP oc rfl rfl rfl (gm B0 ow1 W L1 _ x o.a hN hW hLv hx hln);rintro _ _ _ ⟨rfl,rfl,hw⟩;co_applyP oan rfl;co_applyP aK;change∃v,resE .. =some v/\_;exact⟨_,rfl,rfl,rfl,hw.pre T1⟩
 intro h4;co_applyP aB;co_applyP aa;co_applyP oan rfl;co_applyP aK;change∃v,resE .. =some v/\_;exact⟨_,rfl,rfl,rfl,Went.pre ⟨ow1,W,hW,hLv,rfl,Nat.le_add_right _ _,rfl,fun t ht ho=>⟨ht,ho⟩⟩ T1⟩
theorem sK {α:Type}(f:α->List Value){sz:Nat}(hf: ∀a,(f a).length=sz): ∀(l:List α){i:Nat}{a:α},l[i]? =some a-> ∀j,j<sz->(l.flatMap f)[i*sz+j]? =(f a)[j]?
 |[],i,a,h,j,hj=>by simp at h
 |b::l,0,a,h,j,hj=>by
  obtain rfl:b=a:=by simpa using h
  rw[List.flatMap_cons,Nat.zero_mul,Nat.zero_add,List.getElem?_append_left (by rw[hf];exact hj)]
 |b::l,i+1,a,h,j,hj=>by
  rw[List.flatMap_cons,List.getElem?_append_right (by rw[hf,Nat.succ_mul];omega),hf,show (i+1)*sz+j-sz=i*sz+j by rw[Nat.succ_mul];omega];exact sK f hf l (by simpa using h) j hj
theorem fq {α:Type}(f:α->List Value){sz:Nat}(hf: ∀a,(f a).length=sz): ∀(l:List α),(l.flatMap f).length=l.length*sz
 |[]=>by simp
 |b::l=>by rw[List.flatMap_cons,List.length_append,hf,fq f hf l,List.length_cons,Nat.succ_mul,Nat.add_comm]
def opl (o:OpM):List Value:=(opc o).toList
theorem gM (o:OpM):(opl o).length=8:=rfl
theorem xF {os:List OpM}{i:Nat}{o:OpM}(h:os[i]? =some o)(m:List Value){j:Nat}(hj:j<8):(os.flatMap opl++m).toArray[i*8+j]? =(opc o)[j]? :=by
 have hi:=(List.getElem?_eq_some_iff.1 h).1;rw[List.getElem?_toArray,List.getElem?_append_left (by rw[fq opl gM];omega),sK opl gM os h j hj];unfold opl;rw[Array.getElem?_toList]
theorem zr {os:List OpM}{i:Nat}{o:OpM}(h:os[i]? =some o)(m:List Value):(os.flatMap opl++m).toArray.extract (i*8) (i*8+8)=opc o:=by
 have hi:=(List.getElem?_eq_some_iff.1 h).1;have:=og (cs:=(os.flatMap opl++m).toArray) (o:=i*8) (sz:=8) (l:=opl o) rfl (fun j hj=>by rw[xF h m hj];unfold opl;rw[Array.getElem?_toList]) (by rw[List.size_toArray,List.length_append,fq opl gM];omega);rw[this];rfl
structure OkO (o:OpM):Prop where
 b:Byt o.s
 l:o.s.length<=140737488351232
 p:NoPipe o.s
 n:I64 o.n
 a:I64 o.a
def cntW:List Nat->List OpM->Nat
 |_,[]=>0
 |ts,o::os=>if 4<o.k then cntW ts os else cst ts o+cntW (tst ts o) os
theorem Dr:evR Tryz.prog (Instr.build 71 [].toArray) []=some (.agg #[.slice none 0 0, .slice none 0 0],[]):=by kernel_rfl
theorem xG (k:Nat): ∃n,∀{Fin:Value->World->Prop}{W0:World}{O:Nat}(nn:Nat)(s:List Nat)(B0:Frag)(eb:Nat->Nat×Nat)(L:Frag)(a:Sl)(os:List OpM),Ers eb B0->(∀t∈B0,t∈L/\t.2.1=false)->Fun L->slOk a (os.flatMap opl) 29 L->(∀o∈os,OkO o)->os.length<=k->os.length<=2000000000000->
 CallsL (F:=FZ Tryz.prog Fin) (fun s=>dom0 (Shs s.2) W0 O) Tryz.prog true 12 [rowv a 8 os.length, .int .i64 4].toArray n (nn+cntW [] os,s) L (fun s' v L'=>s'.1=nn/\v= .bool true/\Fun L'/\ ∀t∈B0,t∈L'):=by
 obtain⟨n1,gs⟩:=BE;obtain⟨n2,gl⟩:=zh (4*k)
 have gs': ∀{Fin:Value->World->Prop}{W0:World}{O:Nat}(nn:Nat)(s:List Nat)(B0:Frag)(eb:Nat->Nat×Nat)(ow:Nat->Cl)(W:Wo)(L:Frag)(o:OpM)(w:Nat),W.w=w->WI B0 ow W L->(∀y∈W.ps,Lev y)->Ers eb B0->W.hs.length<=10000000000000->OkO o->
  CallsL (F:=FZ Tryz.prog Fin) (fun s=>dom0 (Shs s.2) W0 O) Tryz.prog true 27 [ptr w, .agg (opc o)].toArray n1 (nn+cst (W.ps.map (·.t)) o,s) L (fun s' v L'=>s'.1=nn/\v= .bool true/\Went B0 ow W L (tst (W.ps.map (·.t)) o) L'):=fun nn s B0 eb ow W L o w e h1 h2 h3 h4 h5=>by
  subst e;exact gs nn s B0 eb ow W L o h1 h2 h3 h4 h5.b h5.l h5.p h5.n h5.a
 have gl': ∀{σ}{F:Fam σ}{Δ:DM F}{main s}(B0:Frag)(ow:Nat->Cl)(W:Wo)(L:Frag)(w:Nat),W.w=w->WI B0 ow W L->W.hs.length<=4*k->W.hs.length<=10000000000000->
  CallsL Δ Tryz.prog main 28 [ptr w].toArray n2 s L (fun s' v L'=>s=s'/\v= .bool true/\L=L'):=fun B0 ow W L w e h1 h2 h3=>by
  subst e;exact gl B0 ow W L h1 h2 h3
 apply Exists.intro;intro Fin W0 O nn s B0 eb L a os hEr hB0 hF hsl hok hk hkl;have hN: ∀(s:Nat×List Nat)(o:Obj),(dom0 (Shs s.2) W0 O).New o:=fun _ _=>trivial;obtain⟨base,cap,hv,hvb⟩:=HS.view (HS.of_any (n:=os.length) (sz:=8) hsl (fq opl gM os) (by decide));rw[HS.of_v] at hv;replace hv:rowv a 8 os.length= .slice base os.length cap:=hv;rw[hv];co_applyP aF 38 Tryz.func12 Tryz.ntmps12;co_applyP aa;co_applyP oan rfl;co_applyP aa;co_applyP oy rfl (bi Dr);co_applyP b5 rfl (b8 (hN _ _));intro w L1 hA
 have hWI:WI B0 (fun b=>if b=w then(0,0) else(1,0)) ⟨w,⟨none,[]⟩,⟨none,[]⟩,[],[]⟩ L1:=
  {fn:=hA.fn,w:=hA.self,pa:=⟨rfl,rfl⟩,ha:=⟨rfl,rfl⟩,pb:=fun x hx=>(by cases hx),hb:=fun x hx=>(by cases hx),pi:=fun j x hx=>(by simp at hx),hi:=fun x hx=>(by cases hx),hm:=fun x hx=>(by cases hx),nd:=List.nodup_nil
   b0:=fun t ht=>⟨hA.sub _ (hB0 t ht).1,(hB0 t ht).2⟩
   o:=fun c hc=>by
    rcases hc with (hc|hc|hc|⟨x,hx,_⟩)|⟨x,hx,_⟩
    ·have hc':c=w:=hc;simp[hc']
    ·cases hc
    ·cases hc
    ·cases hx
    ·cases hx}
 co_applyP oan rfl;co_applyP au;co_applyP aa;co_applyP oan rfl;co_applyP aC;co_applyP bg (fun j s' ε' L'=> ∃(i:Nat) (ss:List Nat) (ow':Nat->Cl) (W':Wo),s'=(nn+cntW (W'.ps.map (·.t)) (os.drop i),ss)/\j+i=k/\i<=os.length/\WI B0 ow' W' L'/\(∀y∈W'.ps,Lev y)/\W'.w=w/\W'.hs.length<=4*i/\slOk a (os.flatMap opl) 29 L'/\(∀b,a.b=some b->ow' b=(1,0))/\kn ε' [(6, .int .i64 (i:Nat)),(5,ptr w),(0, .slice base os.length cap),(1, .int .i64 4)]) k
 ·refine⟨0,s,_,_,rfl,rfl,Nat.zero_le _,hWI,fun y hy=>(by cases hy),rfl,Nat.le_refl _,hsl.mono fun b _ o ho=>hA.sub _ ho,fun b hb=> ?_,rfl⟩;exact if_neg fun e=>hA.new _ (hsl.mem hb) e
 rintro j s' ε' L' ⟨i,ss,ow',W',rfl,hj,hin,hW',hLv,ew,ehl,hs',ho',he⟩;co_applyP aN he;co_applyP au;co_applyP aa;co_applyP om rfl rfl rfl ag;co_applyP oy rfl (bt (hu:=U22));co_applyP oy rfl bj;co_applyP ai;co_applyP aT rfl;intro hc
 ·have hi:i<os.length:=by simp at hc;omega
  obtain⟨o,hoi⟩: ∃o,os[i]? =some o:=⟨_,List.getElem?_eq_getElem hi⟩;obtain⟨ab,hab,rfl⟩:=hvb (by show 0<os.length;omega);replace hab:a.b=some ab:=hab;have hm:=hs'.mem hab;have hk0:At L' ab (i*8) (.int .i64 o.k):=⟨true,_,_,_,hm,xF hoi _ (j:=0) (by decide)⟩;have hdr:os.drop i=o::os.drop (i+1):=by
   rw[List.drop_eq_getElem_cons hi];congr 1;have:=List.getElem?_eq_getElem hi;rw[hoi] at this;exact(Option.some.inj this).symm
  have hsz:i*8+8<=(os.flatMap opl++a.junk).toArray.size:=by rw[List.size_toArray,List.length_append,fq opl gM];omega
  have e1:IntKind.i64.wrap ((i:Int)+1)=((i+1:Nat):Int):=by simp[IntKind.wrap_i64];omega
  co_applyP aB;co_applyP cK (fun s'' ε'' L''=>(∃(ss:List Nat) (ow2:Nat->Cl) (W2:Wo),s''=(nn+cntW (W2.ps.map (·.t)) (os.drop (i+1)),ss)/\WI B0 ow2 W2 L''/\(∀y∈W2.ps,Lev y)/\W2.w=w/\W2.hs.length<=4*(i+1)/\slOk a (os.flatMap opl) 29 L''/\(∀b,a.b=some b->ow2 b=(1,0)))/\kn ε'' [(6, .int .i64 (i:Nat)),(5,ptr w),(0, .slice (some ⟨ab,0,none⟩) os.length cap),(1, .int .i64 4)]);co_applyP aC;co_applyP au;co_applyP aa;co_applyP om rfl rfl rfl ag;co_applyP oy rfl (bw U22 gQ);co_applyP oy rfl (ak (hf:=ng));co_applyP oy rfl (aA (ht:=aR));co_applyP om rfl rfl rfl cx;co_applyP ai;co_applyP aT rfl;intro hgt
  ·have hg:4<o.k:=by simpa using hgt
   co_applyP bf;change (∃ss ow2 W2,_)/\kn _ _;exact⟨⟨ss,ow',W',by rw[hdr,cntW,if_pos hg],hW',hLv,ew,by omega,hs',ho'⟩,rfl⟩
  intro hgt;have hg: ¬4<o.k:=by simpa using hgt
  have est:nn+cntW (W'.ps.map (·.t)) (os.drop i)=nn+cntW (tst (W'.ps.map (·.t)) o) (os.drop (i+1))+cst (W'.ps.map (·.t)) o:=by rw[hdr,cntW,if_neg hg];omega
  rw[est];co_applyP aB;co_applyP aa;co_applyP om rfl rfl rfl ag;co_applyP om rfl rfl rfl (bw U22 gQ);co_applyP oy rfl (bF (i:=i*8) (ht:=vh) (hs:=gQ) (hm:=hm) (hi:=hsz));rw[zr hoi];co_applyP oc rfl rfl rfl (gs' (nn+cntW (tst (W'.ps.map (·.t)) o) (os.drop (i+1))) ss B0 eb ow' W' L' o w ew hW' hLv hEr (by omega) (hok o (List.mem_of_getElem? hoi)));rintro _ _ _ ⟨hs1,rfl,ow2,W2,hW2,hLv2,ew2,eh2,et2,hfx⟩;rename_i s2 L2;co_applyP oan rfl;co_applyP aa;co_applyP oy rfl ag;co_applyP oc rfl rfl rfl (gl' B0 ow2 W2 L2 w (ew2.trans ew) hW2 (by omega) (by omega));rintro _ _ _ ⟨rfl,rfl,rfl⟩;co_applyP oan rfl;co_applyP aa;co_applyP om rfl rfl rfl cP;co_applyP om rfl rfl rfl (ag);co_applyP oy rfl (cP);co_applyP oy rfl aH;co_applyP ai;co_applyP aE rfl;co_applyP aB;change (∃ss ow2 W2,_)/\kn _ _;obtain⟨q1,q2⟩:=s2;refine⟨⟨q2,ow2,W2, ?_,hW2,hLv2,ew2.trans ew,by omega,hs'.mono fun b hb o ho=>(hfx _ ho (ho' b hb)).1,fun b hb=>(hfx _ (hs'.mem hb) (ho' b hb)).2⟩,rfl⟩;rw[et2];exact congrArg (·,q2) hs1;rintro s'' ε'' L'' ⟨⟨ss2,ow2,W2,rfl,hW2,hLv2,ew2,eh2,hs2,ho2⟩,he⟩;co_applyP aN he;co_applyP aq;co_applyP om rfl rfl rfl aS;co_applyP oan rfl;change∃k',k'<_/\_;rw[e1];exact⟨j-1,by omega,i+1,ss2,ow2,W2,rfl,by omega,by omega,hW2,hLv2,ew2,eh2,hs2,ho2,rfl⟩
 intro hc;have hi:i=os.length:=by simp at hc;omega
 subst hi;co_applyP bf;co_applyP aa;co_applyP oan rfl;co_applyP aK;change∃v,resE .. =some v/\_;exact⟨_,rfl,by rw[List.drop_length];rfl,rfl,hW'.fn,fun t ht=>(hW'.b0 t ht).1⟩
end Go.Proofs.YtejkelcaljmnoaaGreatDoor
namespace Go.Lo
open Go.Conc Go.Hx
theorem lF (n:Nat): ∀(r c:Nat),c<=n->Builtin.growBy n r c<=n+n/4+512
 |0,c,h=>by unfold Builtin.growBy;omega
 |r+1,c,h=>by
  unfold Builtin.growBy
  split
  ·omega
  ·rename_i hc;by_cases h2:c+(c+768)/4<=n
   ·exact lF n r _ h2
   ·cases r with
    |zero=>unfold Builtin.growBy;omega
    |succ r=>unfold Builtin.growBy;rw[if_pos (by omega)];omega
theorem qu {n c:Nat}(h:c<n):Builtin.nextslicecap n c<=n+n/4+512:=by
 unfold Builtin.nextslicecap
 split
 ·omega
 ·split
  ·omega
  ·exact lF n 4 c (by omega)
section
variable {P:Program}{New:Obj->Prop}{L:Frag}{Q:Next->Frag->Prop}{ρ:Operand->Value}{d:Option Tmp}{ty:TypeId}{ps:String}{af:Array Edge}{g:Option (Nat×Bool)}
theorem ox {x y:Operand}{t u e e2:TypeId}{sz by_ sLen sCap n:Nat}{xb yb:Option Addr}{yc:Nat}{ws vs:Array Value}{z:Value}(hx:ρ x= .slice xb sLen sCap)(hy:ρ y= .slice yb n yc)(hu:P.underlying t=some (.slice e))(hv:P.underlying u=some (.slice e2))(hs:sizeAt P e=some sz)(hb:bytesAt P e=some (by_+1))(hz0:zeroAt P e=some z)
 (hw:Reads P L sz sLen (.slice xb sLen sCap) ws) (hr:Reads P L sz n (.slice yb n yc) vs) (hc:sCap<sLen+n) (hbig:((sLen+n)+(sLen+n)/4+512)*(by_+1)<=281474976710656) (hN: ∀cs,New (.cells cs e))
 (hQ: ∀b cap,(∀t∈L,t.1≠b)->sLen+n<=cap->cap<9223372036854775808->Q (.value (.slice (some ⟨b,0,none⟩) (sLen+n) cap)) ((b,true, .cells (ws++vs++Builtin.zeroCells z.cells (cap-(sLen+n))) e)::L)):wpS P New (execOp ρ ⟨d, .call ⟨.builtin .append, #[x,y], #[t,u]⟩,ty,ps,af,g⟩) Q L:=by
 refine ct (s:=Builtin.append_ #[t,u] ty #[.slice xb sLen sCap, .slice yb n yc]) (fun _=>by simp[builtin,hx,hy]) ?_;unfold Builtin.append_;simp only[List.getElem?_toArray,List.getElem?_cons_zero,List.getElem?_cons_succ];obtain⟨inf,hinf,hby⟩:=Option.map_eq_some_iff.1 hb;rw[ax,aY hu];simp only[];rw[ax,bO hs];rw[ax,aY hv,ax,bz];simp only[Bool.false_eq_true,if_false,Bool.not_false,if_true,Builtin.lenOf];rw[ax,bz];have h1: ¬(sLen+n<=sCap):=by omega
 simp only[h1,if_false];rw[ax,b4 hinf];have h2: ¬(((sLen+n:Nat):Int)>IntKind.i64.max/\(False\/inf.bytes=0)):=by rw[hby];rintro⟨_,h|h⟩<;>simp at h
 simp only[h2,if_false];rw[ax,b4 hinf];have h3: ¬(Builtin.nextslicecap (sLen+n) sCap*inf.bytes>2^48):=by
  rw[hby];have:=Nat.mul_le_mul_right (by_+1) (qu hc);omega
 simp only[h3,if_false];rw[ax];have hlt:sLen+n<9223372036854775808:=by
  have:(sLen+n)+(sLen+n)/4+512<=((sLen+n)+(sLen+n)/4+512)*(by_+1):=Nat.le_mul_of_pos_right _ (by omega);omega
 refine⟨fun h=>by simp[Question.forced] at h,fun _ tp=> ?_⟩;have hcap:sLen+n<=Question.cut (.appendCap (sLen+n) sCap e) tp/\Question.cut (.appendCap (sLen+n) sCap e) tp<9223372036854775808:=by
  simp only[Question.cut];have:=Nat.mod_lt tp (show 2^63-(sLen+n)>0 by omega);omega
 generalize Question.cut (.appendCap (sLen+n) sCap e) tp=cap at hcap⊢;rw[jm,ax,b4 hinf,ax];refine fM ?_;rw[ax];refine hw.r New _ ?_;rw[ax];refine hr.r New _ ?_;rw[ax,b7 hz0];simp only[newRow,ax];exact cf (hN _) fun b hb=>hQ b cap hb hcap.1 hcap.2
end
section
variable {P:Program}{New:Obj->Prop}{N:Nat}{ε:Env}{L:Frag}{d:Option Tmp}{ty:TypeId}{ps:String}{af:Array Edge}{g:Option (Nat×Bool)}{t u e e2:TypeId}{x y:Operand}
theorem BF {sz by_ sLen sCap n:Nat}{xb yb:Option Addr}{yc:Nat}{ws vs:Array Value}{z:Value}(hx:ev ε x=some (.slice xb sLen sCap):=by rfl)(hy:ev ε y=some (.slice yb n yc):=by rfl)(hF:Fun L)(hu:P.underlying t=some (.slice e))(hv:P.underlying u=some (.slice e2))(hs:sizeAt P e=some sz)(hb:bytesAt P e=some (by_+1))(hz0:zeroAt P e=some z)(hw:Reads P L sz sLen (.slice xb sLen sCap) ws)(hr:Reads P L sz n (.slice yb n yc) vs)(hc:sCap<sLen+n)(hbig:((sLen+n)+(sLen+n)/4+512)*(by_+1)<=281474976710656)(hN: ∀cs,New (.cells cs e))
 :
 EO P New N ε L ⟨d, .call ⟨.builtin .append, #[x,y], #[t,u]⟩,ty,ps,af,g⟩ (fun r L'=> ∃b cap,sLen+n<=cap/\cap<9223372036854775808/\r= .slice (some ⟨b,0,none⟩) (sLen+n) cap/\Add L b (.cells (ws++vs++Builtin.zeroCells z.cells (cap-(sLen+n))) e) L'):=by
 intro a ha;exact ox (ha.ev hx) (ha.ev hy) hu hv hs hb hz0 hw hr hc hbig hN fun b cap hb h1 h2=>⟨b,cap,h1,h2,rfl,cQ hF hb⟩
end
end Go.Lo
namespace Go.Proofs.YtejkelcaljmnoaaGreatDoor
open Go.Conc Go.Hx Go.Lo
section
variable {New:Obj->Prop}{N:Nat}{ε:Env}{L:Frag}{d:Option Tmp}{ty:TypeId}{ps:String}{af:Array Edge}{g:Option (Nat×Bool)}{x y:Operand}{P:Program}
theorem Ds {t e:TypeId}{a:Sl}{xs ys:List Value}{n m sz by_:Nat}{z:Value}{yb:Option Addr}{yc:Nat}(hx:ev ε x=some (rowv a sz n):=by rfl)(hy:ev ε y=some (.slice yb m yc):=by rfl)(hnd:(L.map (·.1)).Nodup)(hu:P.underlying t=some (.slice e))(hs:sizeAt P e=some sz)(hb:bytesAt P e=some (by_+1))(hz:zeroAt P e=some z)(hzs:z.cells.size=sz)(hN: ∀cs,New (.cells cs e)) (ha:slOk a xs e L) (hn:xs.length=n*sz) (hr:Reads P L sz m (.slice yb m yc) ys.toArray) (hm:ys.length=m*sz) (hpl:ys.all plainV=true) (h0:0<sz) (h8:((n+m)+(n+m)/4+512)*(by_+1)<=281474976710656):
 EO P New N ε L ⟨d, .call ⟨.builtin .append, #[x,y], #[t,t]⟩,ty,ps,af,g⟩ (fun r L'=> ∃a',r=rowv a' sz (n+m)/\ApN L e a (xs++ys) a' L'):=by
 have hws:=nL (P:=P) ha hn h0
 have grow: ∀(cap0:Nat),(∃base,rowv a sz n= .slice base n cap0)->cap0<n+m->
  EO P New N ε L ⟨d, .call ⟨.builtin .append, #[x,y], #[t,t]⟩,ty,ps,af,g⟩ (fun r L'=> ∃a',r=rowv a' sz (n+m)/\ApN L e a (xs++ys) a' L'):=by
  rintro cap0 ⟨base,hbs⟩ hc;rw[hbs] at hws hx;intro ac hac;refine cr ?_ _ _ (BF (by_:=by_) (New:=New) hx hy (bG hnd) hu hu hs hb hz hws hr hc h8 hN ac hac);intro r L' q;cases r<;>try exact q.elim
  ·obtain⟨b,cap,h1,h2,rfl,hA⟩:=q;have hzl:(Builtin.zeroCells z.cells (cap-(n+m))).toList.length=(cap-(n+m))*sz:=by unfold Builtin.zeroCells;simp[hzs]
   refine⟨⟨some b,(Builtin.zeroCells z.cells (cap-(n+m))).toList⟩, ?_, ?_,hA.fn,fun t ht _=>hA.sub t ht,fun b' hb'=> .inr ?_⟩
   ·unfold rowv;simp only[];rw[hzl,Nat.mul_div_cancel _ h0,show n+m+(cap-(n+m))=cap by omega]
   ·have e5:xs.toArray++ys.toArray++Builtin.zeroCells z.cells (cap-(n+m))=((xs++ys)++(Builtin.zeroCells z.cells (cap-(n+m))).toList).toArray:=by
     apply Array.ext';simp
    rw[e5] at hA;exact hA.self
   ·obtain rfl:b=b':=by simpa using hb'
    exact hA.new
  ·obtain⟨b,cap,_,_,e,_⟩:=q;cases e
 cases hab:a.b with
 |none=>
  have h2:=ha;unfold slOk at h2;rw[hab] at h2;obtain⟨e1,e2⟩:=h2;obtain rfl:xs=[]:=e1;obtain rfl:n=0:=by
   rcases Nat.eq_zero_or_pos n with h|h
   ·exact h
   ·have:=Nat.mul_pos h h0;simp at hn;omega
  have e3:rowv a sz 0= .slice none 0 0:=by unfold rowv;rw[hab]
  by_cases hm0:m=0
  ·subst hm0;obtain rfl:ys=[]:=List.length_eq_zero_iff.1 (by simpa using hm);rw[e3] at hx;intro ac hac;exact mH (hac.ev hx) (hac.ev hy) hu hu hs hr ⟨a,by rw[Nat.add_zero,e3],by simpa using ha,bG hnd,fun t ht _=>ht,fun b hb=> .inl hb⟩
  exact grow 0 ⟨none,e3⟩ (by omega)
 |some b=>
  have hmm:=ha.mem hab;have e3:rowv a sz n= .slice (some ⟨b,0,none⟩) n (n+a.junk.length/sz):=by unfold rowv;rw[hab]
  by_cases hj:m<=a.junk.length/sz
  ·intro ac hac;rw[e3] at hx;have hj':m*sz<=a.junk.length:=(Nat.le_div_iff_mul_le h0).1 hj;refine cr ?_ _ _ (o0 (New:=New) hx hy hnd hu hu hs hr (by omega) hmm (by simp;omega) (by simpa using hpl) ac hac);intro r L' q;cases r<;>try exact q.elim
   ·obtain⟨rfl,hU⟩:=q;have e4:puts (xs++a.junk).toArray (0+n*sz) ys.toArray.toList=((xs++ys)++a.junk.drop (m*sz)).toArray:=by
     rw[cL _ _ _ (by simp;omega)];have e6:(xs++a.junk).drop (0+n*sz+ys.toArray.toList.length)=a.junk.drop (m*sz):=by
      rw[show 0+n*sz+ys.toArray.toList.length=xs.length+m*sz by simp;omega,List.drop_append];simp
     have e7:(xs++a.junk).take (0+n*sz)=xs:=by rw[Nat.zero_add,<-hn,List.take_append_of_le_length (by simp)];exact List.take_of_length_le (by simp)
     rw[e6,e7]
    rw[e4] at hU;refine⟨⟨some b,a.junk.drop (m*sz)⟩, ?_,hU.self,hU.fn,fun t ht hne=>hU.ne t ht fun e=>hne (by rw[hab,e]),fun b' hb'=> .inl (by rw[hab];exact hb')⟩;unfold rowv;simp only[List.length_drop];rw[Nat.mul_comm m sz,Nat.sub_mul_div];rw[show n+m+(a.junk.length/sz-m)=n+a.junk.length/sz by omega]
   ·exact absurd q.1 (by simp[undef])
  ·exact grow (n+a.junk.length/sz) ⟨_,e3⟩ (by omega)
theorem xH {a:Act}(ha:Fits N ε a): ∀(l:List (Nat×Operand))(vs:List (Nat×Value)),(l.map fun p=>(p.1,ev ε p.2))=(vs.map fun p=>(p.1,some p.2))->(l.map fun p=>(p.1,a.eval p.2))=vs
 |[],[],_=>rfl
 |[],_::_,h=>by simp at h
 |_::_,[],h=>by simp at h
 |(i,x)::l,(j,v)::vs,h=>by
  simp only[List.map_cons,List.cons.injEq,Prod.mk.injEq] at h;obtain⟨⟨rfl,h1⟩,h2⟩:=h;rw[List.map_cons,xH ha l vs h2,ha.ev h1]
theorem Dt {t e:TypeId}{n sz:Nat}{xs:List (Nat×Operand)}{vs:List (Nat×Value)}{cs:Array Value}{z:Value}(hN:New (.cells cs e))(hx:(xs.map fun p=>(p.1,ev ε p.2))=(vs.map fun p=>(p.1,some p.2)):=by rfl)(hu:P.underlying t=some (.slice e))(hs:sizeAt P e=some sz)(hz:zeroAt P e=some z)(hf:Instr.fill (fun i=>some (i*sz,sz)) ((Array.range (n*sz)).map (z.cells[· %z.cells.size]!)) vs=some cs)(h0:n*sz≠0)(h24:n*sz<=1000):
 EO P New N ε L ⟨d, .buildSlice t n xs.toArray,ty,ps,af,g⟩ (fun r L''=> ∃b,(∀t∈L,t.1≠b)/\r= .slice (some ⟨b,0,none⟩) n n/\L''=(b,true, .cells cs e)::L):=by
 intro a ha;simp only[execOp,List.map_toArray];rw[xH ha xs vs hx];unfold Instr.buildSlice newRow;rw[ax,ax,aY hu];simp only[];rw[ax,bO hs];rw[if_neg (by omega),if_neg (by omega),ax,b7 hz,ax,bz];simp only[hf,ax];exact cf hN fun b hb=>⟨b,hb,rfl,rfl⟩
end
def opz:OpM:=⟨0,0,fun _=>0,0,[],0⟩
theorem xI:zeroAt Tryz.prog 29=some (.agg (opc opz)):=by kernel_rfl
theorem BG:bytesAt Tryz.prog 29=some 72:=by kernel_rfl
def Scr (L:Frag)(sb:Option Addr)(os:List OpM):Prop:= ∀i o,os[i]? =some o-> ∃(g off:Nat) (fl:Bool) (cs:Array Value) (e:TypeId) (fr:Nat×Nat),sb=some ⟨g,off,none⟩/\(g,fl,Obj.cells cs e fr)∈L/\off+i*8+8<=cs.size/\cs.extract (off+i*8) (off+i*8+8)=opc o
theorem BH {cs:Array Value}{a:Nat}{o:OpM}(h:cs.extract a (a+8)=opc o)(hs:a+8<=cs.size){j:Nat}(hj:j<8):cs[a+j]? =(opc o)[j]? :=by
 rw[<-h,Array.getElem?_extract,if_pos (by omega)]
theorem Du {l:List Int}(h: ∀i,i<l.length->4*i+1<l.length->l.getD (4*i) 0=9->l.getD (4*i+1) 0<7\/10<l.getD (4*i+1) 0):NoPipe l:=fun i v w hv hw e=>by
 have h1:=(List.getElem?_eq_some_iff.1 hw).1;have h2:=h i (by omega) h1;simp only[List.getD,hv,hw,Option.getD_some] at h2;exact h2 e
structure OkB (o:OpM):Prop where
 b:Byt o.s
 l:o.s.length<=140737488351232
 n:I64 o.n
 a:I64 o.a
open Classical in
noncomputable def flt (least:Nat)(os:List OpM):List OpM:=os.filter fun o=>decide (AloneI least o.s)
theorem qv {least:Nat}{os:List OpM}{i:Nat}{o:OpM}(h:os[i]? =some o):(AloneI least o.s->flt least (os.take (i+1))=flt least (os.take i)++[o])/\(¬AloneI least o.s->flt least (os.take (i+1))=flt least (os.take i)):=by
 unfold flt;rw[List.take_add_one,h,List.filter_append];exact⟨fun e=>by simp[e],fun e=>by simp[e]⟩
theorem BJ {least:Nat}{os:List OpM}(h: ∀o∈os,OkB o) (h7:(least:Int)<=7): ∀o∈flt least os,OkO o:=fun o ho=>by
 unfold flt at ho;obtain⟨h1,h2⟩:=List.mem_filter.1 ho;have h3:=h o h1;exact⟨h3.b,h3.l,AloneI.np (by simpa using h2) h7,h3.n,h3.a⟩
theorem xJ (least:Nat)(os:List OpM):(flt least os).length<=os.length:=List.length_filter_le _ _
end Go.Proofs.YtejkelcaljmnoaaGreatDoor
namespace Go.Proofs.YtejkelcaljmnoaaGreatDoor
open Go.ChangeShapes Go.WideShapes Go.WideElems Go.RowKit Go.Conc Go.ConcX Go.Hx Go.Lo
section
variable {H:Type}{enc:TypeId×Value->H}
theorem fu {a:Assume}{C:Checked}{os:Os}{f:FuncId}{fn:Func}{s:ChangeSpec}{conds:List PathCond}{apart fresh handsOn again:Bool}{X:World->Array Value->Prop}
 (hX: ∀(w w':World)(args:Array Value),w.heap=w'.heap->X w args->X w' args)
 (own:ownKnob C.prog.godebug=none) (started:os.Started) (hfn:C.prog.funcs[f]? =some fn)
 (witness: ∃(w:World) (tape:Tape) (i:Input),w.os=os/\(w.forCall tape i).Shaped C.prog/\i.vars=[]/\Input.okWide C.prog (w.forCall tape i) .any w.heap.size f i/\
  ((s.pre enc C.prog fn conds apart (w.forCall tape i).memory i.args/\X (w.forCall tape i).memory i.args)/\sizedMet enc C.prog fn (OpenSpec.ofChange s) apart (w.forCall tape i).memory i.args)/\a.holds C.prog (lone (Frame.enter C.prog f i.args .normal) [] (w.forCall tape i)))
 (runs: ∀(W:World)(base:Nat)(args:Array Value)(ds gs:List (DataW H))(before:List MemPlace),W.ShapedOpen C.prog->
  (∀(j:Nat) t v,fn.params[j]? =some t->args[j]? =some v->Value.okWide C.prog W .any base t v)->
  DataW.Whole enc C.prog fn.params.toList s.vars apart W args.toList ds gs before->X W args->sizedMet enc C.prog fn (OpenSpec.ofChange s) apart W args->
  ∃M last o w' t',runNT C.prog (M+1) (solo (G (Frame.enter C.prog f args .normal) []) W) #[]=(.ended o w',t')/\runN C.prog M (solo (G (Frame.enter C.prog f args .normal) []) W)= .next last/\
   step C.prog last= .ended o w'/\Conc.Good C.prog (fun v W'=>s.post enc C.prog fn apart fresh handsOn again W args v W') last o w' t'):
 ReturnsInLeavingWide a C os f .any (fun w args=>(s.pre enc C.prog fn conds apart w args/\X w args)/\sizedMet enc C.prog fn (OpenSpec.ofChange s) apart w args) (s.post enc C.prog fn apart fresh handsOn again):=by
 refine returnsInLeavingWide_of_good own started witness ?_;intro w tape i _ hso _ hok hpre hholds;obtain⟨_,_,_,fn',hfn',_,_,_,_,hval⟩:=hok;have e:fn'=fn:=Option.some.inj (hfn'.symm.trans hfn);subst e;obtain⟨⟨⟨ds,gs,before,hw,hc⟩,hx⟩,hz⟩:=hpre;have hw':=DataW.Whole.of_heap (w':=w.forCall tape i) (by rfl) hw;obtain⟨hz1,ds2,gs2,b2,hz2,hz3⟩:=hz;obtain⟨M,last,o,w',t',h1,h2,h3,h4⟩:=runs (w.forCall tape i) w.heap.size i.args ds gs before hso hval hw' (hX _ _ _ (by rfl) hx) ⟨hz1,ds2,gs2,b2,DataW.Whole.of_heap (w':=w.forCall tape i) (by rfl) hz2,hz3⟩;exact⟨M,last,o,w',t',h1,h2,h3,h4.mono fun v hp=>ChangeSpec.post_blind hp⟩
variable {w:World}{base n:Nat}{spare:Nat->Bool}{held:Bool}
theorem xK {s:ByteArray}(hs:s.size<=140737488351232): ∃l:List Int,Value.string s=strv l/\Byt l/\l.length<=140737488351232:=by
 refine⟨s.data.toList.map fun u=>(u.toNat:Int), ?_,fun n hn=> ?_, ?_⟩
 ·unfold strv;congr 1;obtain⟨⟨a⟩⟩:=s;congr 2;simp[Function.comp_def]
 ·obtain⟨u,_,rfl⟩:=List.mem_map.1 hn;have:=u.toNat_lt;omega
 ·simpa using hs
def fd (s:String)(t o b:Nat):Field:=⟨s,t,o,false, "", "",b⟩
theorem zt {cs:List Value}{d:DataW H}{ps:List MemPlace}(h:DataW.trod enc Tryz.prog w base spare held n 29 cs=some (d,ps))(hw: ∀z∈d.weights Tryz.prog 29,z<=reachBytes): ∃o:OpM,cs=opl o/\OkB o:=by
 obtain⟨xs,m,_,hx,hl,hxl,hf⟩:=DataW.trod_struct Tryz.underlying29 h;have hl8:cs.length=8:=hl.trans (by kernel_rfl);have c3:Tryz.prog.cellsOf 3=1:=by kernel_rfl
 have c9:Tryz.prog.cellsOf 9=1:=by kernel_rfl
 have c26:Tryz.prog.cellsOf 26=4:=by kernel_rfl
 have c24:Tryz.prog.cellsOf 24=3:=by kernel_rfl
 match cs,hl8 with
 |[v0,v1,v2,v3,v4,v5,v6,v7],_=>
  match xs,hxl with
  |[y0,y1,y2,y3,y4],_=>
   have g0:=hf 0 (fd "Kind" 3 0 0) rfl;have g1:=hf 1 (fd "N" 3 1 8) rfl;have g2:=hf 2 (fd "C" 26 2 16) rfl;have g3:=hf 3 (fd "S" 9 6 48) rfl;have g4:=hf 4 (fd "A" 3 7 64) rfl;simp only[fd,c3,c9,c26,List.drop_zero,List.drop_succ_cons,List.take_succ_cons,List.take_zero,List.getElem?_cons_zero,List.getElem?_cons_succ] at g0 g1 g2 g3 g4;obtain⟨k,e0,_,w0⟩:=DataW.trod_int U3 g0;obtain⟨nn,e1,_,w1⟩:=DataW.trod_int U3 g1;obtain⟨s,e3,x3,_⟩:=DataW.trod_string U9 g3;obtain⟨a,e4,_,w4⟩:=DataW.trod_int U3 g4;obtain⟨zs,m2,_,_,_,hzl,hz⟩:=DataW.trod_struct Tryz.underlying26 g2
   match zs,hzl with
   |[z0,z1],_=>
    have f0:=hz 0 (fd "Slices" 24 0 0) rfl;have f1:=hz 1 (fd "Boost" 3 3 24) rfl;simp only[fd,c3,c24,List.drop_zero,List.drop_succ_cons,List.take_succ_cons,List.take_zero,List.getElem?_cons_zero,List.getElem?_cons_succ] at f0 f1;obtain⟨bo,e5,_,_⟩:=DataW.trod_int U3 f1;obtain⟨u0,u1,u2,m3,_,a0,a1,a2⟩:=trod_array3 Tryz.underlying24 c3 f0;obtain⟨q0,e6,_,_⟩:=DataW.trod_int U3 a0;obtain⟨q1,e7,_,_⟩:=DataW.trod_int U3 a1;obtain⟨q2,e8,_,_⟩:=DataW.trod_int U3 a2;obtain rfl:d= .agg ([y0,y1,y2,y3,y4].map (·.1)):=(Prod.mk.inj hx).1;have hs:s.size<=140737488351232:=by
     refine hw s.size ?_;have e9:y3.1= .lit (.string s.data.toList):=by rw[x3]
     unfold DataW.weights;rw[Tryz.underlying29];simp[DataW.weightsEach,e9,DataW.weights]
    obtain⟨l,el,hb,hll⟩:=xK hs;simp only[List.cons.injEq,and_true] at e0 e1 e3 e4 e5 e6 e7 e8;refine⟨⟨k,nn,fun i=>if i=0 then q0 else if i=1 then q1 else q2,bo,l,a⟩, ?_,hb,hll,wJ w1,wJ w4⟩;rw[e0,e1,e3,e4,e5,e6,e7,e8,el];rfl
theorem j1 {P:Program}{e:TypeId}: ∀{l:List (DataW H)}{d:DataW H},d∈l-> ∀z∈d.weights P e,z∈DataW.weightsAll P e l
 |[],_,h=>by cases h
 |x::l,d,h=>fun z hz=>by
  unfold DataW.weightsAll;rcases List.mem_cons.1 h with rfl|h
  ·exact List.mem_append_left _ hz
  ·exact List.mem_append_right _ (j1 h z hz)
theorem xL {r:Reach}{b0:Nat}{v:Value}{d:DataW H}{ps:List MemPlace}(hval:Value.okWide Tryz.prog w r b0 22 v)(hd:DataW.Trod enc Tryz.prog w base spare held 22 v d ps)(hw: ∀z∈d.weights Tryz.prog 22,z<=reachBytes):
 ∃(b:Option Addr) (cap:Nat) (os:List OpM),v= .slice b os.length cap/\os.length<=1954687338610/\(∀o∈os,OkB o)/\Scr (base0 w) b os:=by
 obtain⟨a,len,cap,rfl⟩:=okWide_slice U22 hval;obtain⟨n,h⟩:=hd;have c29:Tryz.prog.cellsOf 29=8:=by kernel_rfl
 have y29:Tryz.prog.bytesOf 29=72:=by kernel_rfl
 rcases Go.Deep.open_slice U22 h with ⟨e1,_⟩|⟨a',len',cap',m,n',D,Pl,e1,_,h2,h3,h4,hx,h6⟩
 ·obtain⟨rfl,rfl,rfl⟩:a=none/\len=0/\cap=0:=by simpa [Value.cells] using e1
  exact⟨none,0,[],rfl,by simp,fun o ho=>(by cases ho),fun i o hi=>by simp at hi⟩
 ·obtain⟨rfl,rfl,rfl⟩:a=some a'/\len=len'/\cap=cap':=by simpa [Value.cells] using e1
  have hm:len<=m:=by rw[h4];split<;>omega
  obtain rfl:d= .slice ((List.range len).map D) ((List.range (m-len)).map fun j=>D (len+j)):=(Prod.mk.inj hx).1;have ew:DataW.weights Tryz.prog 22 (.slice ((List.range len).map D) ((List.range (m-len)).map fun j=>D (len+j)):DataW H)=(((List.range len).map D).length+((List.range (m-len)).map fun j=>D (len+j)).length)*Tryz.prog.bytesOf 29::(DataW.weightsAll Tryz.prog 29 ((List.range len).map D)++DataW.weightsAll Tryz.prog 29 ((List.range (m-len)).map fun j=>D (len+j))):=by
   rw[DataW.weights,U22]
  rw[ew] at hw;have hlen:=hw _ List.mem_cons_self;rw[y29] at hlen;simp only[List.length_map,List.length_range] at hlen;have hr:reachBytes=140737488351232:=rfl;have hop: ∀i,i<len-> ∃o:OpM,w.cells? base (a'.add (i*8)) 8=some (opl o)/\OkB o:=fun i hi=>by
   obtain⟨cs,g1,g2⟩:=h6 i (by omega);rw[c29] at g1;obtain⟨o,rfl,ho⟩:=zt g2 fun z hz=>hw z (List.mem_cons_of_mem _ (List.mem_append_left _ (j1 (List.mem_map.2 ⟨i,List.mem_range.2 hi,rfl⟩) z hz)));exact⟨o,g1,ho⟩
  have hcell: ∀i o,w.cells? base (a'.add (i*8)) 8=some (opl o)-> ∀j,j<8->w.cell? ((a'.add (i*8)).add j)=(opl o)[j]? :=fun i o hc j hj=>by
   unfold World.cells? at hc
   split at hc
   ·exact mapM_some_get hc j j (by simp[hj])
   ·cases hc
  obtain⟨g,off,sp⟩:=a';have hsp:0<len->sp=none:=fun h0=>by
   obtain⟨o,hc,_⟩:=hop 0 h0;have h1:=hcell 0 o hc 0 (by decide);have e0:((⟨g,off,sp⟩:Addr).add (0*8)).add 0=⟨g,off,sp⟩:=rfl;rw[e0] at h1;unfold World.cell? at h1
   split at h1
   ·split at h1
    ·cases h1
    ·rename_i hs;simpa using hs
   ·cases h1
  classical
  refine⟨some ⟨g,off,sp⟩,cap,(List.range len).map fun i=>if hi:i<len then Classical.choose (hop i hi) else opz,by simp,by simp;omega,fun o ho=> ?_,fun i o hi=> ?_⟩
  ·obtain⟨i,hi,rfl⟩:=List.mem_map.1 ho;have hi':=List.mem_range.1 hi;rw[dif_pos hi'];exact(Classical.choose_spec (hop i hi')).2
  ·have hlt:i<len:=by simpa using (List.getElem?_eq_some_iff.1 hi).1
   have ho:Classical.choose (hop i hlt)=o:=by simpa [hlt] using hi
   have hc:=(Classical.choose_spec (hop i hlt)).1;rw[ho] at hc;obtain rfl:=hsp (by omega);have hcc: ∀j,j<8->w.cell? ⟨g,off+i*8+j,none⟩=(opc o)[j]? :=fun j hj=>by
    have h1:=hcell i o hc j hj;have e2:((⟨g,off,none⟩:Addr).add (i*8)).add j=⟨g,off+i*8+j,none⟩:=by unfold Addr.add;split<;>split<;>simp_all
    rw[e2] at h1;rw[h1];unfold opl;rw[Array.getElem?_toList]
   have h0:=hcc 0 (by decide);unfold World.cell? at h0
   split at h0
   ·rename_i cs e fr hh;have hcj: ∀j,j<8->cs[off+i*8+j]? =(opl o)[j]? :=fun j hj=>by
     have h1:=hcc j hj;unfold World.cell? at h1;simp only[hh] at h1;unfold opl;rw[Array.getElem?_toList];simpa using h1
    have hsz:off+i*8+8<=cs.size:=by
     have h7:cs[off+i*8+7]? =some (.int .i64 o.a):=hcj 7 (by decide);have:=(Array.getElem?_eq_some_iff.1 h7).1;omega
    exact⟨g,off,false,cs,e,fr,rfl,jG hh,hsz,og (l:=opl o) rfl hcj hsz⟩
   ·cases h0
end
end Go.Proofs.YtejkelcaljmnoaaGreatDoor
namespace Go.Proofs.YtejkelcaljmnoaaGreatDoor
open Go.Conc Go.Hx Go.Lo
def opk (k a:Int):OpM:=⟨k,0,fun _=>0,0,[],a⟩
theorem BK (k:Int):evR Tryz.prog (Instr.build 29 [(0, .int .i64 k)].toArray) []=some (.agg (opc (opk k 0)),[]):=by kernel_rfl
theorem zu (k a:Int):evR Tryz.prog (Instr.build 29 [(0, .int .i64 k),(4, .int .i64 a)].toArray) []=some (.agg (opc (opk k a)),[]):=by kernel_rfl
theorem sL {a:Int}(h:0<=a/\a<100):I64 a:=by unfold I64;omega
theorem BL (k:Int){a:Int}(h:I64 a):OkO (opk k a):=⟨fun n hn=>(by cases hn),Nat.zero_le _,fun i v w hv=>(by simp[opk] at hv),sL (a:=0) (by decide),h⟩
def exS:List Int:=[9,1,0,0,5,0,3,0,9,2,0,0,9,0,0,0]
def exN:OpM:=⟨1,0,fun _=>5,50,exS,0⟩
def exO:List OpM:=[exN,opk 3 0,opk 2 4,opk 3 0,opk 2 4,opk 3 0,opk 4 1,opk 4 3]
theorem BM (b:Nat):Value.slice (some ⟨b,0,none⟩) 8 8=rowv ⟨some b,[]⟩ 8 exO.length:=by kernel_rfl
def exV:List (Nat×Value):=[(0, .agg (opc exN)),(1, .agg (opc (opk 3 0))),(2, .agg (opc (opk 2 4))),(3, .agg (opc (opk 3 0))),(4, .agg (opc (opk 2 4))),(5, .agg (opc (opk 3 0))),(6, .agg (opc (opk 4 1))),(7, .agg (opc (opk 4 3)))]
theorem D1:evR Tryz.prog (Instr.build 29 [(0, .int .i64 1),(2,cfgv (fun _=>5) 50),(3, .string {data:= #[9,1,0,0,5,0,3,0,9,2,0,0,9,0,0,0]})].toArray) []=some (.agg (opc exN),[]):=by kernel_rfl
theorem zv:Instr.fill (fun i=>some (i*8,8)) ((Array.range (8*8)).map ((Value.agg (opc opz)).cells[· %(Value.agg (opc opz)).cells.size]!)) exV=some (exO.flatMap opl).toArray:=by kernel_rfl
theorem Dv: ∀o∈exO,OkO o:=by
 have h:OkO exN:=⟨fun n hn=>(by
  have: ∀n∈exS,0<=n/\n<256:=by decide
  exact this n hn),by decide,Du (by decide),sL (a:=0) (by decide),sL (a:=0) (by decide)⟩
 intro o ho;simp only[exO,List.mem_cons,List.mem_nil_iff,or_false] at ho;rcases ho with rfl|rfl|rfl|rfl|rfl|rfl|rfl|rfl
 ·exact h
 all_goals exact BL _ (sL (by decide))
theorem uC: ∃n,∀{Fin:Value->World->Prop}{W0:World}{O:Nat}(nn:Nat)(s:List Nat)(B0:Frag)(eb:Nat->Nat×Nat)(L:Frag),Ers eb B0->(∀t∈B0,t∈L/\t.2.1=false)->Fun L->
 CallsL (F:=FZ Tryz.prog Fin) (fun s=>dom0 (Shs s.2) W0 O) Tryz.prog true 22 [.int .i64 4].toArray n (nn+cntW [] exO,s) L (fun s' v L'=>s'.1=nn/\v= .bool true/\Fun L'/\ ∀t∈B0,t∈L'):=by
 obtain⟨n1,gc⟩:=xm;obtain⟨n2,gu⟩:=xG 8;apply Exists.intro;intro Fin W0 O nn s B0 eb L hEr hB0 hF;have hN: ∀(s:Nat×List Nat)(o:Obj),(dom0 (Shs s.2) W0 O).New o:=fun _ _=>trivial;co_applyP aF 19 Tryz.func22 Tryz.ntmps22;co_applyP aa;co_applyP oan rfl;co_applyP aa;co_applyP oan rfl;co_applyP aa;co_applyP ocm rfl rfl rfl (gc L hN hF);rintro _ _ _ ⟨rfl,rfl,hE⟩;co_applyP om rfl rfl rfl (bi D1);co_applyP oy rfl (bi (BK 3));co_applyP oy rfl (bi (zu 2 4));co_applyP oy rfl (bi (BK 3));co_applyP oy rfl (bi (zu 2 4));co_applyP oy rfl (bi (BK 3));co_applyP oy rfl (bi (zu 4 1));co_applyP oy rfl (bi (zu 4 3));co_applyP oe rfl (Dt (n:=8) (sz:=8) (vs:=exV) (cs:=(exO.flatMap opl).toArray) (hN _ _) (hu:=U22) (hs:=gQ) (hz:=xI) (hf:=zv) (h0:=by decide) (h24:=by decide));rintro _ _ ⟨b,hb,rfl,rfl⟩;co_applyP oan rfl;co_applyP aa;co_applyP om rfl rfl rfl ag;co_applyP kO;intro hF2;rw[BM];co_applyP oc rfl rfl rfl (gu nn s B0 eb _ ⟨some b,[]⟩ exO hEr (fun t ht=>⟨List.mem_cons_of_mem _ (hE.s _ (hB0 t ht).1),(hB0 t ht).2⟩) hF2 (by unfold slOk;simp only[List.append_nil];exact List.mem_cons_self) Dv (by decide) (by decide));rintro _ _ _ ⟨hs,rfl,hF',hB'⟩;co_applyP oan rfl;co_applyP aK;change∃v,resE .. =some v/\_;exact⟨_,rfl,hs,rfl,hF',hB'⟩
theorem Dw (k:Nat): ∃n,∀{Fin:Value->World->Prop}{W0:World}{O:Nat}(B0:Frag)(eb:Nat->Nat×Nat)(sb:Option Addr)(cap:Nat)(os:List OpM),Ers eb B0->(∀t∈B0,t.2.1=false)->Fun B0->Scr B0 sb os->(∀o∈os,OkB o)->os.length<=k->os.length<=1954687338610->
 CallsL (F:=FZ Tryz.prog Fin) (fun s=>dom0 (Shs s.2) W0 O) Tryz.prog true 5 [.slice sb os.length cap].toArray n (cntW [] (flt 7 os)+cntW [] exO,[]) B0 (fun s' v L'=>s'.1=0/\v= .bool true):=by
 obtain⟨n1,ge⟩:=uC;obtain⟨n2,ga⟩:=zg 140737488351232;obtain⟨n3,gu⟩:=xG k;apply Exists.intro;intro Fin W0 O B0 eb sb cap os hEr hB0 hF hS hok hk hl;have hN: ∀(s:Nat×List Nat)(o:Obj),(dom0 (Shs s.2) W0 O).New o:=fun _ _=>trivial;co_applyP aF 33 Tryz.func5 Tryz.ntmps5;co_applyP aa;co_applyP oan rfl;co_applyP aa;co_applyP oc rfl rfl rfl (ge (cntW [] (flt 7 os)) [] B0 eb B0 hEr (fun t ht=>⟨ht,hB0 t ht⟩) hF);rintro _ _ _ ⟨hs,rfl,hF1,hB1⟩;rename_i s1 L1;co_applyP oan rfl;co_applyP aa;co_applyP oan rfl;co_applyP au;co_applyP aa;co_applyP oan rfl;co_applyP aC;co_applyP bg (fun j s' ε' L'=>s1=s'/\ ∃(i:Nat) (a:Sl),j+i=k/\i<=os.length/\(∀t∈B0,t∈L')/\Fun L'/\slOk a ((flt 7 (os.take i)).flatMap opl) 29 L'/\kn ε' [(5, .int .i64 (i:Nat)),(4,rowv a 8 (flt 7 (os.take i)).length),(3, .bool true),(0, .slice sb os.length cap)]) k
 ·exact⟨rfl,0,⟨none,[]⟩,rfl,Nat.zero_le _,hB1,hF1,⟨rfl,rfl⟩,rfl⟩
 rintro j s' ε' L' ⟨rfl,i,a,hj,hin,hB,hF',hsl,he⟩;co_applyP aN he;co_applyP au;co_applyP aa;co_applyP om rfl rfl rfl ag;co_applyP oy rfl (bt (hu:=U22));co_applyP oy rfl bj;co_applyP ai;co_applyP aT rfl;intro hc
 ·have hi:i<os.length:=by simp at hc;omega
  obtain⟨o,hoi⟩: ∃o,os[i]? =some o:=⟨_,List.getElem?_eq_getElem hi⟩;obtain⟨g,off,fl,cs,e,fr,rfl,hm,hsz,hex⟩:=hS i o hoi;have hm':=hB _ hm;have hob:=hok o (List.mem_of_getElem? hoi);have h6:At L' g (off+i*8+6) (strv o.s):=⟨fl,cs,e,fr,hm',BH hex hsz (j:=6) (by decide)⟩;have e1:IntKind.i64.wrap ((i:Int)+1)=((i+1:Nat):Int):=by simp[IntKind.wrap_i64];omega
  have hfl:=xJ 7 (os.take i);have htl:(os.take i).length<=i:=by simp;omega
  co_applyP aB;co_applyP cK (fun s'' ε'' L''=>s1=s''/\(∃a:Sl,(∀t∈B0,t∈L'')/\Fun L''/\slOk a ((flt 7 (os.take (i+1))).flatMap opl) 29 L''/\kn ε'' [(5, .int .i64 (i:Nat)),(4,rowv a 8 (flt 7 (os.take (i+1))).length),(3, .bool true),(0, .slice (some ⟨g,off,none⟩) os.length cap)]));co_applyP aC;co_applyP aa;co_applyP om rfl rfl rfl ag;co_applyP oy rfl (bw U22 gQ);co_applyP oy rfl (ak (hf:=iE));co_applyP oy rfl (aA (ht:=lM));co_applyP oc rfl rfl rfl (ga L' o.s 7 hob.b hob.l (by decide) (by decide));rintro _ _ _ ⟨rfl,rfl,r,rfl,hr⟩;co_applyP oan rfl;co_applyP aa;co_applyP oy rfl ag;co_applyP ai;co_applyP aT rfl;intro hg
  ·have hal:AloneI 7 o.s:=hr.1 hg;have e2:=(qv (least:=7) hoi).1 hal;co_applyP aq;co_applyP om rfl rfl rfl ag;co_applyP om rfl rfl rfl (bw U22 gQ);co_applyP oy rfl (bF (i:=off+i*8) (ht:=vh) (hs:=gQ) (hm:=hm') (hi:=hsz));rw[hex];co_applyP oe rfl (fY (sz:=8) (v:= .agg (opc o)) (z:= .agg (opc opz)) (hN _ _) rfl (hu:=U22) (hs:=gQ) (hz:=xI) (h0:=by decide) (h24:=by decide));rintro _ _ ⟨yb,hyb,rfl,rfl⟩;have hr1:Reads Tryz.prog ((yb,true,Obj.cells (Value.agg (opc o)).cells 29)::L') 8 1 (.slice (some ⟨yb,0,none⟩) 1 1) (opl o).toArray:=cI (sz:=8) (n:=1) (len:=1) (cap:=1) (o:=0) List.mem_cons_self (by show 0+1*8<=8;decide);co_applyP oeN rfl (fun hnd=>Ds (a:=a) (by_:=71) (xs:=(flt 7 (os.take i)).flatMap opl) (ys:=opl o) (n:=(flt 7 (os.take i)).length) (m:=1) (hnd:=hnd) (hu:=U22) (hs:=gQ) (hb:=BG) (hz:=xI) (hzs:=rfl) (hN:=fun cs=>hN _ _) (ha:=hsl.mono fun c hc o ho=>List.mem_cons_of_mem _ ho) (hn:=fq opl gM _) (hr:=hr1) (hm:=rfl) (hpl:=rfl) (h0:=by decide) (h8:=by omega));rintro _ L3 ⟨a3,rfl,hp⟩;co_applyP oan rfl;change _=_/\(∃a,_/\_/\_/\kn _ _);refine⟨rfl,a3,fun t ht=>hp.sub t (List.mem_cons_of_mem _ (hB t ht)) fun e=> ?_,hp.fn, ?_, ?_⟩
   ·have h9:=(hF' _ _ _ _ _ (hsl.mem e) (show (t.1,t.2.1,t.2.2)∈L' from hB t ht)).1;rw[hB0 t ht] at h9;cases h9
   ·rw[e2,List.flatMap_append];simpa using hp.ok
   ·rw[e2,List.length_append];rfl
  intro hg;have hal: ¬AloneI 7 o.s:=fun h=>by rw[hr.2 h] at hg;cases hg
  have e2:=(qv (least:=7) hoi).2 hal;co_applyP aB;change _=_/\(∃a,_/\_/\_/\kn _ _);exact⟨rfl,a,hB,hF',by rw[e2];exact hsl,by rw[e2];rfl⟩;rintro s'' ε'' L'' ⟨rfl,a2,hB2,hF2,hs2,he⟩;co_applyP aN he;co_applyP aq;co_applyP om rfl rfl rfl aS;co_applyP oan rfl;change∃k',k'<_/\_;rw[e1];exact⟨j-1,by omega,rfl,i+1,a2,by omega,by omega,hB2,hF2,hs2,rfl⟩
 intro hc;have hi:i=os.length:=by simp at hc;omega
 subst hi;rw[List.take_length] at hsl⊢;have hfl:=xJ 7 os;obtain⟨q1,q2⟩:=s1;obtain rfl:q1=0+cntW [] (flt 7 os):=by rw[Nat.zero_add];exact hs
 co_applyP bf;co_applyP aa;co_applyP om rfl rfl rfl ag;co_applyP oy rfl (ag);co_applyP oc rfl rfl rfl (gu 0 q2 B0 eb L' a (flt 7 os) hEr (fun t ht=>⟨hB t ht,hB0 t ht⟩) hF' hsl (BJ hok (by decide)) (by omega) (by omega));rintro _ _ _ ⟨hs',rfl,_,_⟩;co_applyP oy rfl aH;co_applyP oan rfl;co_applyP aK;change∃v,resE .. =some v/\_;exact⟨_,rfl,hs',rfl⟩
end Go.Proofs.YtejkelcaljmnoaaGreatDoor
