/-
  The tied card of Families: for all scripts the law answers true.
  No condition but those that each statement names.
-/
import Derived.Test.YtejkelcaljmnoaaGreatDoorHy12
import Derived.Test.YtejkelcaljmnoaaGreatDoorCards
import Derived.Test.YtejkelcaljmnoaaGreatDoorTie
import Derived.SevenTiedAt
set_option maxRecDepth 100000
set_option maxHeartbeats 4000000
set_option linter.unusedVariables false
set_option linter.unusedSimpArgs false
set_option linter.unusedSectionVars false
namespace Go.Proofs.YtejkelcaljmnoaaGreatDoor
open Go.ChangeShapes Go.WideShapes Go.WideElems Go.RowKit Go.Conc Go.ConcX Go.Hx Go.Lo
theorem ef:Tryz.f5.params= #[22]:=by first|rfl|kernel_rfl
theorem lS:Rows.familiesRow.laid=Rows.sumsRow.laid:=rfl
theorem j4 (os:Os)(started:os.Started)(H:Type)(enc:TypeId×Value->H):
 ReturnsInLeavingWide {} Tryz.checked os 5 .any (fun w args=>(Rows.familiesSpec.pre enc Tryz.prog Tryz.f5 [] false w args/\laidMetH Tryz.prog Rows.familiesRow.laid w)/\sizedMet enc Tryz.prog Tryz.f5 (OpenSpec.ofChange Rows.familiesSpec) false w args)
  (Rows.familiesSpec.post enc Tryz.prog Tryz.f5 false true false false):=by
 rw[lS]
 refine fu (C:=Tryz.checked) (X:=fun w _=>laidMetH Tryz.prog Rows.sumsRow.laid w) (fun _ _ _ hh h=>h.of_heap hh) Tryz.own started Tryz.func5
  (ChangeSpec.witness_at (enc:=enc) (C:=Tryz.checked) (os:=os) (X:=fun w _=>laidMetH Tryz.prog Rows.sumsRow.laid w) false (laidWorld os) #[.slice none 0 0] 8 rfl (by kernel_rfl) (by kernel_rfl) (by kernel_rfl) (by kernel_rfl) (by kernel_rfl) (lR os _)) ?_
 intro W base args ds gs before _ hval0 hW hL hZ;have hval: ∀(j:Nat) t v,Tryz.f5.params[j]? =some t->args[j]? =some v->Value.okWide Tryz.prog W .any base t v:=hval0;have hW':=hW;obtain⟨p,q,hA0,hV0,rfl,hfz,hnd⟩:=hW;have hA:DataW.TrodAll enc Tryz.prog W 0 (fun _=>true) true Tryz.f5.params.toList args.toList ds p:=hA0;have hV:DataW.TrodVars enc Tryz.prog W (fun _=>true) [] gs q:=hV0;obtain⟨args⟩:=args;have hA1:=hA;rw[ef] at hA hval;obtain⟨v0,s0,d0,e0,p0,q0,hs0,rfl,rfl,h0,hA⟩:=trodAll_cons hA;obtain⟨rfl,rfl,rfl⟩:=trodAll_nil hA;have hs1:args=[v0]:=hs0;subst hs1;obtain⟨_,ds2,gs2,before2,hW2,hwt⟩:=hZ;obtain⟨p2,q2,hA2,hV2,_,_,_⟩:=hW2;have hA3:DataW.TrodAll enc Tryz.prog W 0 (fun _=>true) true [22] [v0] ds2 p2:=hA2;obtain⟨v0',s0',d2,e2,p3,q3,hs2,rfl,rfl,h2,hA4⟩:=trodAll_cons hA3;obtain⟨rfl,rfl,rfl⟩:=trodAll_nil hA4;obtain rfl:v0=v0':=(List.cons.inj hs2).1;have hwt2: ∀z∈d2.weights Tryz.prog 22,z<=reachBytes:=fun z hz=>by
  have h3:=List.all_eq_true.1 hwt z (List.mem_append_left _ hz);simpa using h3
 obtain⟨cb,cap,cs,rfl,hcl,hcs,hS⟩:=xL (hval 0 22 v0 rfl rfl) h2 hwt2;obtain⟨rfl,rfl⟩:gs=[]/\q=[]:=by
  cases gs with
  |nil=>exact⟨rfl,hV⟩
  |cons g r=>exact absurd hV (by intro h;cases h)
 obtain⟨eb,hEr⟩:=uj hL;have e1:Rows.familiesSpec.fn H ([d0]++[])={results:=[.lit (.bool true)],args:=[d0]}:=rfl;have hF:=bG (qd W);have hB: ∀t∈base0 W,t.2.1=false:=fun t ht=>by
  obtain⟨b,_,rfl⟩:=List.mem_map.1 ht;rfl
 obtain⟨k,hk⟩:=Dw cs.length;obtain⟨M,last,o,w',t',r1,r2,r3,r4⟩:=C6 (by kernel_rfl) (hk (Fin:=FinT W) (W0:=W) (O:=W.heap.size) (base0 W) eb cb cap cs hEr hB hF hS hcs (Nat.le_refl _) hcl);refine⟨M,last,o,w',t',r1,r2,r3,r4.mono fun v hF=> ?_⟩;obtain⟨rfl,hg⟩:=hF;have hb:Below W.heap.size W w':=⟨hg.os,hg.tape,hg.output,hg.size,fun k hk=>hg.block k hk (by simp)⟩;refine⟨_,_,_,[],p0++[],[],hW', ?_, ?_,by rw[e1];rfl,hb.frame _,fun h=>by cases h⟩
 ·rw[e1];exact trodAll_mk1 (shut_bool Tryz.underlying4 true)
 ·rw[e1];refine mK (by kernel_rfl) hb ?_ hA1;rw[ef];intro t ht;have h3:t=22:=by simpa using ht
  subst h3;exact⟨by kernel_rfl,of_decide_eq_true (by kernel_rfl)⟩
theorem lG:Rows.FamiliesSaid:=
 OpenClaim.holds_of_wide_leaving 5 Tryz.f5 rfl rfl rfl rfl rfl rfl rfl ⟨rfl,rfl,rfl,rfl,rfl⟩ rfl rfl rfl rfl rfl (by kernel_rfl) Tryz.func5 (by kernel_rfl)
  (of_decide_eq_true (by kernel_rfl)) (by unfold Func.isWrapper;first|(rw[if_pos (by decide+kernel)];kernel_rfl)|(rw[if_neg (by decide+kernel)];exact⟨rfl,rfl⟩))
  (fun os started H enc _=>j4 os started H enc)
theorem lH (f:FuncId)(fn:Func)(hf:Tryz.prog.funcNamed Rows.familiesRow.func=some f)(hfn:Tryz.prog.funcs[f]? =some fn):true=Tryz.prog.looks []/\ ∀(j:Nat) t,fn.params[j]? =some t->Tryz.prog.wantsStandIn t=false:=by
 obtain rfl:f=5:=Option.some.inj ((show Tryz.prog.funcNamed Rows.familiesRow.func=some 5 by kernel_rfl).symm.trans hf)|>.symm;obtain rfl:fn=Tryz.f5:=(Option.some.inj (Tryz.func5.symm.trans hfn)).symm;refine⟨by kernel_rfl,fun j t ht=> ?_⟩;have hm:t∈Tryz.f5.params:=Array.mem_of_getElem? ht;rw[ef] at hm;have h3:t=22:=by simpa using hm
 subst h3;exact(show Tryz.prog.wantsStandIn 22=false by kernel_rfl)
theorem families_card_holds:Rows.FamiliesCardSaid:=
 ⟨Claim7.tied_new_at .later [.handle, .sentinel, .sentinel, .sentinel, .sentinel, .sentinel, .sentinel, .sentinel, .sentinel, .sentinel, .sentinel] true (Claim7.new_of_sixth lG (true, "970ab5c25f0320e171c266797abdef5a6933507ad20a6bbc596f247d4f5ef0e3") true rfl ⟨rfl,rfl⟩ (by kernel_rfl) rfl lH) (by kernel_rfl),
  (fun _ h=>by cases h),families_row_tie,(fun h=>by cases h),(by kernel_rfl)⟩
end Go.Proofs.YtejkelcaljmnoaaGreatDoor
