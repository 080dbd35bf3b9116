/-
  The tied card of All: for all scripts the law answers true.
  No condition but those that each statement names.
-/
import Derived.Test.YtejkelcaljmnoaaGreatDoorHy13
import Derived.Test.YtejkelcaljmnoaaGreatDoorCards
import Derived.Test.YtejkelcaljmnoaaGreatDoorTie
import Derived.SevenTiedAt
set_option maxRecDepth 100000
set_option maxHeartbeats 4000000
set_option linter.all false
namespace Go.Proofs.YtejkelcaljmnoaaGreatDoor
open Go.ChangeShapes Go.WideShapes Go.WideElems Go.RowKit Go.Conc Go.ConcX Go.Hx Go.Lo Go.Proofs.Tryz
attribute [local irreducible] EY KO K6 Kw Kc Ku Kd Program.underlying
theorem iL:Tryz.f7.params= #[22]:=by first|rfl|kernel_rfl
theorem AK:Rows.allRow.laid=Rows.sumsRow.laid:=rfl
theorem tP (os:Os)(started:os.Started)(H:Type)(enc:TypeId×Value->H):
 ReturnsInLeavingWide {} Tryz.checked os 7 .any (λw args=>(Rows.allSpec.pre enc prog Tryz.f7 [] false w args/\laidMetH prog Rows.allRow.laid w)/\sizedMet enc prog Tryz.f7 (OpenSpec.ofChange Rows.allSpec) false w args)
  (Rows.allSpec.post enc prog Tryz.f7 false true false false):=by
 rw[AK]
 refine fN (C:=Tryz.checked) (X:=λw _=>laidMetH prog Rows.sumsRow.laid w) (λ_ _ _ hh h=>h.of_heap hh) Tryz.own started func7
  (ChangeSpec.witness_at (enc:=enc) (C:=Tryz.checked) (os:=os) (X:=λw _=>laidMetH prog Rows.sumsRow.laid w) false (Nf os) #[.slice none 0 0] 8 rfl bD bD bD bD bD (m4 os _)) ?_
 intro W m args ds gs s _ d hW hL hZ;have a: ∀(j:Nat) t v,Tryz.f7.params[j]? =some t->args[j]? =some v->Value.okWide prog W .any m t v:=d;have U:=hW;obtain⟨p,q,R,x,rfl,c',hnd⟩:=hW;have e:DataW.TrodAll enc prog W 0 (λ_=>true) true Tryz.f7.params.toList args.toList ds p:=R;have Z:DataW.TrodVars enc prog W (λ_=>true) [] gs q:=x;obtain⟨args⟩:=args;have y:=e;rw[iL] at e a;obtain⟨v0,s0,d0,e0,p0,q0,u,rfl,rfl,h0,e⟩:=trodAll_cons e;obtain⟨rfl,rfl,rfl⟩:=trodAll_nil e;have L:args=[v0]:=u;subst L;obtain⟨_,T,b',l,F,B⟩:=hZ;obtain⟨p2,q2,S,d',_,_,_⟩:=F;have P:DataW.TrodAll enc prog W 0 (λ_=>true) true [22] [v0] T p2:=S;obtain⟨K,a',d2,e2,p3,q3,N,rfl,rfl,h2,V⟩:=trodAll_cons P;obtain⟨rfl,rfl,rfl⟩:=trodAll_nil V;obtain rfl:v0=K:=(List.cons.inj N).1;have i: ∀z∈d2.weights prog 22,z<=reachBytes:=λz hz=>by
  have Q:=OF.1 B z (nx _ hz);simpa using Q
 obtain⟨cb,cap,cs,rfl,J,hcs,hS⟩:=AJ (a 0 22 v0 rfl rfl) h2 i;obtain⟨rfl,rfl⟩:gs=[]/\q=[]:=by
  cases gs with
  |nil=>exact⟨rfl,Z⟩
  |cons g r=>exact absurd Z (by intro h;cases h)
 obtain⟨eb,G⟩:=wA hL;have D:Rows.allSpec.fn H ([d0]++[])={results:=[.lit (.bool true)],args:=[d0]}:=rfl;have E:=bz (rF W);have hB: ∀t∈Mc W,t.2.1=false:=λt I=>by
  obtain⟨b,_,rfl⟩:=cm.1 I;rfl
 obtain⟨k,A⟩:=H7 cs.length;obtain⟨M,n,o,Y,t',r1,r2,r3,r4⟩:=HC bD (A (Fin:=Ol W) (W0:=W) (O:=W.heap.size) (Mc W) eb cb cap cs G hB E hS hcs (cD _) J);refine⟨M,n,o,Y,t',r1,r2,r3,r4.mono λv E=> ?_⟩;obtain⟨rfl,f⟩:=E;have hb:Below W.heap.size W Y:=⟨f.os,f.tape,f.output,f.size,λk A=>f.block k A bE⟩;refine⟨_,_,_,[],p0++[],[],U, ?_, ?_,by rw[D];rfl,hb.frame _,λh=>by cases h⟩
 ·rw[D];exact trodAll_mk1 (shut_bool underlying4 true)
 ·rw[D];refine nZ bD hb ?_ y;rw[iL];intro t I;have Q:t=22:=by simpa using I
  subst Q;exact⟨bD,of_decide_eq_true bD⟩
theorem wR:Rows.AllSaid:=
 OpenClaim.holds_of_wide_leaving 7 Tryz.f7 rfl rfl rfl rfl rfl rfl rfl ⟨rfl,rfl,rfl,rfl,rfl⟩ rfl rfl rfl rfl rfl bD func7 bD
  (of_decide_eq_true bD) (by unfold Func.isWrapper;first|(rw[if_pos (by decide+kernel)];kernel_rfl)|(rw[if_neg (by decide+kernel)];exact⟨rfl,rfl⟩))
  (λos started H a _=>tP os started H a)
theorem wS (f:FuncId)(fn:Func)(hf:prog.funcNamed Rows.allRow.func=some f)(a:prog.funcs[f]? =some fn):true=prog.looks []/\ ∀(j:Nat) t,fn.params[j]? =some t->prog.wantsStandIn t=false:=by
 obtain rfl:f=7:=gu ((show prog.funcNamed Rows.allRow.func=some 7 by kernel_rfl).symm.trans hf)|>.symm;obtain rfl:fn=Tryz.f7:=(gu (func7.symm.trans a)).symm;refine⟨bD,λj t b=> ?_⟩;have hm:t∈Tryz.f7.params:=Array.mem_of_getElem? b;rw[iL] at hm;have d:t=22:=by simpa using hm
 subst d;exact(show prog.wantsStandIn 22=false by kernel_rfl)
theorem all_card_holds:Rows.AllCardSaid:=
 ⟨Claim7.tied_new_at .later [.handle, .sentinel, .sentinel, .sentinel, .sentinel, .sentinel, .sentinel, .sentinel, .sentinel, .sentinel, .sentinel] true (Claim7.new_of_sixth wR (true, "970ab5c25f0320e171c266797abdef5a6933507ad20a6bbc596f247d4f5ef0e3") true rfl ⟨rfl,rfl⟩ bD rfl wS) bD,
  (λ_ h=>by cases h),all_row_tie,(λh=>by cases h),bD⟩
end Go.Proofs.YtejkelcaljmnoaaGreatDoor
