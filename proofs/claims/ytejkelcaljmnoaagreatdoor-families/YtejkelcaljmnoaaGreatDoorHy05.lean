/-
  Part 5 of the proof.
  No condition but those that each statement names.
-/
import Derived.Test.YtejkelcaljmnoaaGreatDoorHy04
import Derived.Test.YtejkelcaljmnoaaGreatDoorHy02
import Derived.Test.YtejkelcaljmnoaaGreatDoorHy03
set_option maxRecDepth 100000
set_option maxHeartbeats 4000000
set_option linter.unusedVariables false
set_option linter.unusedSimpArgs false
set_option linter.unusedSectionVars false
namespace Go.Proofs.YtejkelcaljmnoaaGreatDoor
open Go.Conc Go.Hx Go.Lo
theorem cU {S:St}{x:PS}{i:Nat}(h:S.childAt x=some i): ∃q,S.ps[i]? =some q/\q.2.par=x.id/\q.2.st=6:=by
 obtain⟨hil,hti,_⟩:=List.findIdx?_eq_some_iff_getElem.1 h;refine⟨S.ps[i],List.getElem?_eq_getElem hil, ?_⟩;simpa [isChildEnded] using hti
theorem fU {S:St}{b:Nat}(h: ∀q∈S.ps,q.1≠b):S.get b=none:=by
 unfold St.get;rw[List.find?_eq_none.2 fun q hq=>by simpa using h q hq];rfl
theorem j3: ∃n,∀{σ}{F:Fam σ}{Δ:DM F}{main s}(K:Nat)(A:Lay)(S:St)(Fr L:Frag),(∀cs,(Δ s).New (.cells cs 93))->Rep K A S Fr L->Good S->S.ps≠[]->
 CallsL Δ Tryz.prog main 110 [ptr K].toArray n s L (fun s' v L'=>s=s'/\v= .tuple #[]/\Good (S.parents (S.ps.map (·.1)))/\ ∃A' G,(∀q∈S.ps,(∃z,(q.1,z)∈(S.parents (S.ps.map (·.1))).ps)\/ ∃z,pb q.1 z∈G/\z.st=6)/\Rep K A' (S.parents (S.ps.map (·.1))) (G++Fr) L'):=by
 obtain⟨n1,g1⟩:=jy;obtain⟨n2,g2⟩:=qY;obtain⟨n3,g3⟩:=yv;apply Exists.intro;intro σ F Δ main s K A S Fr L hN hR hG hne;obtain⟨Q,hQ⟩: ∃Q,(A.a 0).b=some Q:=by
  cases h:(A.a 0).b with
  |some Q=>exact⟨Q,rfl⟩
  |none=>
   have:=hR.pa;unfold slOk at this;rw[h] at this;simp at this;exact absurd this.1 hne
 have hpa:=hR.pa.mem hQ;have h8:=hR.p8;have hpos:0<S.ps.length:=List.length_pos_iff.2 hne;have h5:At L K 5 (.slice (some ⟨Q,0,none⟩) (S.ps.map fun q=>ptr q.1).length ((S.ps.map fun q=>ptr q.1).length+(A.a 0).junk.length)):=by
  have e:slv (A.a 0) S.ps.length= .slice (some ⟨Q,0,none⟩) (S.ps.map fun q=>ptr q.1).length ((S.ps.map fun q=>ptr q.1).length+(A.a 0).junk.length):=by unfold slv;rw[hQ];simp
  rw[<-e];exact hR.kat rfl
 co_applyP aF 29 Tryz.func110 Tryz.ntmps110;co_applyP aa;co_applyP om rfl rfl rfl av;co_applyP oy rfl (ak (hf:=bX));co_applyP oy rfl (aA (ht:=dz));co_applyP oc rfl rfl rfl (g3 L Q (S.ps.map fun q=>ptr q.1) (A.a 0).junk hN hpa (by simpa using hpos) (by simpa using h8));rintro _ _ _ ⟨rfl,cb,cap,jk,rfl,hE,hfr,hcb⟩;co_applyP oy rfl (bt (hu:=U91));co_applyP oy rfl ag;co_applyP ai;co_applyP aC;rename_i L1;have hR1:=hR.fresh hE hfr hcb;co_applyP bg (fun k s' ε' L'=>s'=s/\ ∃l1 l2 A' G,S.ps=l1++l2/\Rep K A' (S.parents (l1.map (·.1))) (G++(cb,true,Obj.cells ((S.ps.map fun q=>ptr q.1)++jk).toArray 93)::Fr) L'/\Good (S.parents (l1.map (·.1)))/\(∀q∈S.ps,(∃z,(q.1,z)∈(S.parents (l1.map (·.1))).ps)\/ ∃z,pb q.1 z∈G/\z.st=6)/\k+l1.length=8/\kn ε' [(10, .int .i64 l1.length),(9, .int .i64 (S.ps.map fun q=>ptr q.1).length),(8, .slice (some ⟨cb,0,none⟩) (S.ps.map fun q=>ptr q.1).length cap),(0,ptr K)]) 8
 ·exact⟨rfl,[],S.ps,A,[],rfl,hR1,hG,fun q hq=> .inl ⟨q.2,hq⟩,rfl,rfl⟩
 rintro k s' ε' L' ⟨rfl,l1,l2,A',G,hl,hR',hG',hall,hk,he⟩;co_applyP aN he;have hlen:=congrArg List.length hl;simp only[List.length_append] at hlen;have hcb':=hR'.fr _ (List.mem_append_right G List.mem_cons_self);co_applyP aa;co_applyP oy rfl bj;co_applyP ai;co_applyP au;co_applyP aT rfl;intro hlt
 ·cases l2 with
  |nil=>simp at hlt hlen;omega
  |cons q l2=>
   simp at hlen;have hav:At L' cb l1.length (ptr q.1):=⟨true,_,_,_,hcb',by rw[List.getElem?_toArray,List.getElem?_append_left (by simp;omega),hl];simp⟩;have hlt':(l1.length:Int)<(S.ps.map fun q=>ptr q.1).length:=by simpa using hlt
   have elen:IntKind.i64.wrap ((l1.length:Int)+1)=((l1++[q]).length:Int):=by simp[IntKind.wrap_i64];omega
   have hq:q∈S.ps:=by rw[hl];simp
   have hnext:S.parents ((l1++[q]).map (·.1))=(S.parents (l1.map (·.1))).parent1 q.1:=by rw[List.map_append,dE];rfl
   generalize hS':S.parents (l1.map (·.1))=S' at*;obtain⟨z,hzm,hzc⟩: ∃z,pb q.1 z∈L'/\((q.1,z)∈S'.ps\/(z.st=6/\ ∀r∈S'.ps,r.1≠q.1)):=by
    rcases hall q hq with ⟨z,hz⟩|⟨z,hz,h6⟩
    ·exact⟨z,hR'.p _ hz, .inl hz⟩
    ·have hm:pb q.1 z∈G++(cb,true,Obj.cells ((S.ps.map fun q=>ptr q.1)++jk).toArray 93)::Fr:=List.mem_append_left _ hz;exact⟨z,hR'.fr _ hm, .inr ⟨h6,fun r hr=>Ne.symm ((hR'.fd _ hm).2.1 r hr)⟩⟩
   have hz2:At L' q.1 2 (.int .i64 (z.st:Nat)):=⟨true,_,_,_,hzm,rfl⟩;co_applyP aB;co_applyP au;co_applyP aC;co_applyP aa;co_applyP oy rfl (bw U91 cM);co_applyP oy rfl (aA (ht:=ff));co_applyP oan rfl;co_applyP cK (fun s'' ε'' L''=>s'=s''/\ ∃(t:Bool) (A2:Lay) (G2:Frag) (S2:St),Rep K A2 S2 (G2++(cb,true,Obj.cells ((S.ps.map fun q=>ptr q.1)++jk).toArray 93)::Fr) L''/\kn ε'' [(24, .bool t),(3,ptr q.1),(10, .int .i64 l1.length),(9, .int .i64 (S.ps.map fun q=>ptr q.1).length),(8, .slice (some ⟨cb,0,none⟩) (S.ps.map fun q=>ptr q.1).length cap),(0,ptr K)]/\((t=true/\z.st=2/\(q.1,z)∈S'.ps/\ ∃i c y,S'.childAt z=some i/\S'.ps[i]? =some (c,y)/\y.st=6/\S2=({S'.setPs (S'.ps.eraseIdx i) with last:=S'.last}:St).setP q.1 (told z y)/\G2=pb c y::G)\/(t=false/\S2=S'/\G2=G/\S'.parent1 q.1=S')));co_applyP dB (z.st=2);intro h2
   ·have hz:(q.1,z)∈S'.ps:=by
     rcases hzc with h|⟨h,_⟩
     ·exact h
     ·omega
    have hget:=bk hG'.pn hz;have e2:((z.st:Int)==2)=true:=by simp;omega
    co_applyP aq;co_applyP om rfl rfl rfl av;co_applyP oy rfl (ak (hf:=aM));co_applyP oy rfl (ak (hf:=bM));co_applyP oy rfl (aA (ht:=aR));co_applyP oy rfl aI;co_applyP oy rfl ag;rw[e2];co_applyP om rfl rfl rfl (ag);co_applyP oc rfl rfl rfl (g1 K A' S' _ L' q.1 z hN hR' hz (by omega));rintro _ _ _ ⟨rfl,hpost⟩;co_applyP rV (S'.childAt z=none);intro hca
    ·rw[hca] at hpost;obtain⟨rfl,hR2⟩:=hpost;co_applyP oy rfl aH;co_applyP ai;change _=_/\ ∃(t:Bool) (A2:Lay) (G2:Frag) (S2:St),_;have hn2:S'.parent1 q.1=S':=by unfold St.parent1;rw[hget];simp only[h2,if_true,hca]
     exact⟨rfl,false,A',G,S',hR2,rfl, .inr ⟨rfl,rfl,rfl,hn2⟩⟩
    intro hca;obtain⟨i,hi⟩: ∃i,S'.childAt z=some i:=by
     cases h:S'.childAt z with
     |none=>exact absurd h hca
     |some i=>exact⟨i,rfl⟩
    rw[hi] at hpost;obtain⟨rfl,c,y,a',hcy,hR2⟩:=hpost;obtain⟨qc,hqc,_,hq6⟩:=cU hi;rw[hcy] at hqc;obtain rfl:(c,y)=qc:=by simpa using hqc
    co_applyP oy rfl aH;co_applyP ai;change _=_/\ ∃(t:Bool) (A2:Lay) (G2:Frag) (S2:St),_;exact⟨rfl,true,_,pb c y::G,_,hR2,rfl, .inl ⟨rfl,h2,hz,i,c,y,hi,hcy,hq6,rfl,rfl⟩⟩
   intro h2;have e2:((z.st:Int)==2)=false:=by simp;omega
   have hn2:S'.parent1 q.1=S':=by
    rcases hzc with hz|⟨_,hno⟩
    ·unfold St.parent1;rw[bk hG'.pn hz];simp only[h2,if_false]
    ·unfold St.parent1;rw[fU hno]
   co_applyP aq;co_applyP om rfl rfl rfl av;co_applyP oy rfl (ak (hf:=aM));co_applyP oy rfl (ak (hf:=bM));co_applyP oy rfl (aA (ht:=aR));co_applyP oy rfl aI;co_applyP oy rfl ag;rw[e2];co_applyP ou rfl;co_applyP ou rfl;co_applyP ou rfl;co_applyP oy rfl aH;co_applyP ai;change _=_/\ ∃(t:Bool) (A2:Lay) (G2:Frag) (S2:St),_;exact⟨rfl,false,A',G,S',hR',rfl, .inr ⟨rfl,rfl,rfl,hn2⟩⟩;rintro s'' ε'' L'' ⟨rfl,t,A2,G2,S2,hR2,he2,hcase⟩;co_applyP aN he2;co_applyP aT rfl;intro ht;co_applyP aq;co_applyP om rfl rfl rfl ag
   ·have ht':t=true:=by simpa using ht
    obtain⟨h2,hz,i,c,y,hi,hcy,hy6,rfl,rfl⟩:z.st=2/\(q.1,z)∈S'.ps/\ ∃i c y,S'.childAt z=some i/\S'.ps[i]? =some (c,y)/\y.st=6/\S2=({S'.setPs (S'.ps.eraseIdx i) with last:=S'.last}:St).setP q.1 (told z y)/\G2=pb c y::G:=by
     rcases hcase with h|h
     ·exact h.2
     ·rw[ht'] at h;exact absurd h.1 (by simp)
    have hget:=bk hG'.pn hz;have hG2:Good {S'.setPs (S'.ps.eraseIdx i) with last:=S'.last}:=hG'.erase hcy (by omega);have hzi:(q.1,z)∈S'.ps.eraseIdx i:=by
     obtain⟨j,hj⟩:=List.getElem?_of_mem hz;have hji:j≠i:=fun e=>by subst e;rw[hj] at hcy;simp at hcy;have:=hcy.2;subst this;omega
     rw[List.mem_eraseIdx_iff_getElem?];exact⟨j,hji,hj⟩
    have hG3:Good (({S'.setPs (S'.ps.eraseIdx i) with last:=S'.last}:St).setP q.1 (told z y)):=hG2.like hzi rfl rfl;have hz3:(q.1,told z y)∈(({S'.setPs (S'.ps.eraseIdx i) with last:=S'.last}:St).setP q.1 (told z y)).ps:=ar hzi;have hn2:S'.parent1 q.1=(({S'.setPs (S'.ps.eraseIdx i) with last:=S'.last}:St).setP q.1 (told z y)).wake1 q.1 (told z y):=by
     unfold St.parent1;rw[hget];simp only[h2,if_true,hi,hcy,St.take]
    rw[hn2] at hnext;co_applyP oc rfl rfl rfl (g2 K _ _ _ _ q.1 (told z y) hN hR2 hz3 (hG3.lv _ hz3) (hG3.r8 (hG3.lv _ hz3)) (fun e _=>dC _ (hG3.lv _ hz3)));rintro _ _ _ ⟨rfl,rfl,A3,hr2,hR3⟩;co_applyP ai;co_applyP aq;co_applyP oy rfl aS;co_applyP oy rfl ag;co_applyP ai;change∃k',k'<_/\_;refine⟨k-1,by omega,rfl,l1++[q],l2,A3,pb c y::G,by simp[hl], ?_, ?_, ?_,by simp;omega, ?_⟩
    ·rw[hnext];exact hR3
    ·rw[hnext];exact hG3.wake1 hz3 (by show z.st≠1;omega)
    ·intro r hr;rcases hall r hr with ⟨w,hw⟩|⟨w,hw,h6⟩
     ·by_cases erc:r.1=c
      ·exact .inr ⟨y,by rw[erc];exact List.mem_cons_self,hy6⟩
      ·left;have hwi:(r.1,w)∈S'.ps.eraseIdx i:=by
        obtain⟨j,hj⟩:=List.getElem?_of_mem hw;have hji:j≠i:=fun e=>by subst e;rw[hj] at hcy;simp at hcy;exact erc hcy.1
        rw[List.mem_eraseIdx_iff_getElem?];exact⟨j,hji,hj⟩
       have:r.1∈(S.parents ((l1++[q]).map (·.1))).ps.map (·.1):=by
        rw[hnext];show r.1∈((({S'.setPs (S'.ps.eraseIdx i) with last:=S'.last}:St).setP q.1 (told z y)).setP q.1 _).ps.map (·.1);rw[ba,ba];exact List.mem_map.2 ⟨_,hwi,rfl⟩
       obtain⟨u,hu,he⟩:=List.mem_map.1 this;exact⟨u.2,by rw[<-he];exact hu⟩
     ·exact .inr ⟨w,List.mem_cons_of_mem _ hw,h6⟩
    ·rw[<-elen];rfl
   intro ht;co_applyP aB;co_applyP aq;co_applyP oy rfl aS;co_applyP oy rfl ag;co_applyP ai;change∃k',k'<_/\_;have ht':t=false:=by simpa using ht
   obtain⟨rfl,rfl,hn2⟩:S2=S'/\G2=G/\S'.parent1 q.1=S':=by
    rcases hcase with h|h
    ·rw[ht'] at h;exact absurd h.1 (by simp)
    ·exact h.2
   rw[hn2] at hnext;refine⟨k-1,by omega,rfl,l1++[q],l2,A2,G2,by simp[hl], ?_, ?_, ?_,by simp;omega, ?_⟩
   ·rw[hnext];exact hR2
   ·rw[hnext];exact hG'
   ·rw[hnext];exact hall
   ·rw[<-elen];rfl
 intro hlt;co_applyP bf;change∃v,resE .. =some v/\_;cases l2 with
 |nil=>
  have e:l1=S.ps:=by rw[hl];simp
  subst e;exact⟨_,rfl,rfl,rfl,hG',A',G,hall,hR'.less fun t ht=>(List.mem_append.1 ht).elim (fun h=>List.mem_append_left _ h) fun h=>List.mem_append_right _ (List.mem_cons_of_mem _ h)⟩
 |cons q l2=>simp at hlt hlen;omega
theorem vJ: ∃n,∀{σ}{F:Fam σ}{Δ:DM F}{main s}(L:Frag)(k:Nat×Nat),(∀cs,(Δ s).New (.cells cs 96))->
 CallsL Δ Tryz.prog main 126 [keyv k].toArray n s L (fun s' v L'=>s=s'/\v= .bool (decide (k=(0,0)))/\Ext L L'):=by
 apply Exists.intro;intro σ F Δ main s L k hN;co_applyP aF 6 Tryz.func126 Tryz.ntmps126;co_applyP aa;co_applyP b5 rfl (b8 (hN _));intro xk L1 hA;co_applyP oan rfl;co_applyP aa;co_applyP oy rfl (bF (ht:=kT) (hs:=fP) (hm:=hA.self) (hi:=Nat.le_refl _));co_applyP oy rfl (bi zQ);co_applyP oy rfl (CO (k:=k) (k':=(0,0)) vF (CP k (0,0)));co_applyP oan rfl;co_applyP aK;change∃v,resE .. =some v/\_;exact⟨_,rfl,rfl,rfl,hA.fn,hA.sub⟩
section
variable {P:Program}{New:Obj->Prop}{N:Nat}{ε:Env}{L:Frag}{d:Option Tmp}{ty t u e e2:TypeId}{ps:String}{af:Array Edge}{g:Option (Nat×Bool)}{x y:Operand}
theorem AD {sz:Nat}{yb:Option Addr}{yc:Nat}{vs:Array Value}(hx:ev ε x=some (.slice none 0 0):=by rfl)(hy:ev ε y=some (.slice yb 0 yc):=by rfl)(hu:P.underlying t=some (.slice e))(hv:P.underlying u=some (.slice e2))(hs:sizeAt P e=some sz)(hr:Reads P L sz 0 (.slice yb 0 yc) vs):
 EO P New N ε L ⟨d, .call ⟨.builtin .append, #[x,y], #[t,u]⟩,ty,ps,af,g⟩ (fun r L'=>r= .slice none 0 0/\L=L'):=by
 intro a ha;refine ct (s:=Builtin.append_ #[t,u] ty #[.slice none 0 0, .slice yb 0 yc]) (fun _=>by simp[builtin,ha.ev hx,ha.ev hy]) ?_;unfold Builtin.append_;simp only[List.getElem?_toArray,List.getElem?_cons_zero,List.getElem?_cons_succ];rw[ax,aY hu];simp only[];rw[ax,bO hs];rw[ax,aY hv,ax,bz];simp only[Bool.false_eq_true,if_false,Bool.not_false,if_true,Builtin.lenOf];rw[ax,bz];simp only[Nat.add_zero,Nat.le_refl,if_true];rw[ax];refine hr.r New _ ?_;exact⟨rfl,rfl⟩
end
structure ApR (L:Frag)(a:Sl)(zs:List Nat)(a':Sl)(L':Frag):Prop where
 ok:slOk a' (zs.map ptr) 93 L'
 fn:Fun L'
 sub: ∀t∈L,a.b≠some t.1->t∈L'
 d: ∀b,a'.b=some b->a.b=some b\/ ∀t∈L,t.1≠b
section
variable {New:Obj->Prop}{N:Nat}{ε:Env}{L:Frag}{d:Option Tmp}{ty:TypeId}{ps:String}{af:Array Edge}{g:Option (Nat×Bool)}{x y:Operand}
theorem ml {a:Sl}{xs:List Nat}(ha:slOk a (xs.map ptr) 93 L):Reads Tryz.prog L 1 xs.length (slv a xs.length) (xs.map ptr).toArray:=by
 cases hab:a.b with
 |none=>
  unfold slOk at ha;rw[hab] at ha;obtain rfl:xs=[]:=by simpa using ha.1
  have e3:slv a 0= .slice none 0 0:=by unfold slv;rw[hab]
  show Reads Tryz.prog L 1 0 (slv a 0) #[];rw[e3];exact gY
 |some b=>
  have hm:=ha.mem hab;have e3:slv a xs.length= .slice (some ⟨b,0,none⟩) xs.length (xs.length+a.junk.length):=by unfold slv;rw[hab]
  rw[e3];have:=cI (P:=Tryz.prog) (sz:=1) (n:=xs.length) (len:=xs.length) (cap:=xs.length+a.junk.length) (o:=0) hm (by simp);have e7:(xs.map ptr++a.junk).take xs.length=xs.map ptr:=by rw[List.take_append_of_le_length (by simp)];exact List.take_of_length_le (by simp)
  simpa [e7] using this
theorem CQ {a a2:Sl}{xs ys:List Nat}(hx:ev ε x=some (slv a xs.length):=by rfl)(hy:ev ε y=some (slv a2 ys.length):=by rfl)(hnd:(L.map (·.1)).Nodup)(hN: ∀cs,New (.cells cs 93)) (ha:slOk a (xs.map ptr) 93 L) (ha2:slOk a2 (ys.map ptr) 93 L) (h8:xs.length<=1000) (h8':ys.length<=1000):
 EO Tryz.prog New N ε L ⟨d, .call ⟨.builtin .append, #[x,y], #[91,91]⟩,ty,ps,af,g⟩ (fun r L'=> ∃a',r=slv a' (xs++ys).length/\ApR L a (xs++ys) a' L'):=by
 have hws:=ml ha;have hr:=ml ha2;obtain⟨yb,yc,hyb⟩: ∃yb yc,slv a2 ys.length= .slice yb ys.length yc:=by
  unfold slv;cases hb:a2.b with
  |none=>
   unfold slOk at ha2;rw[hb] at ha2;obtain rfl:ys=[]:=by simpa using ha2.1
   exact⟨none,0,rfl⟩
  |some b=>exact⟨_,_,rfl⟩
 rw[hyb] at hy hr
 have grow: ∀(cap0:Nat),(∃base,slv a xs.length= .slice base xs.length cap0)->cap0<xs.length+ys.length->
  EO Tryz.prog New N ε L ⟨d, .call ⟨.builtin .append, #[x,y], #[91,91]⟩,ty,ps,af,g⟩ (fun r L'=> ∃a',r=slv a' (xs++ys).length/\ApR L a (xs++ys) a' L'):=by
  rintro cap0 ⟨base,hb⟩ hc;rw[hb] at hws hx;intro ac hac;refine cr ?_ _ _ (rO (by_:=7) (New:=New) hx hy (bG hnd) U91 U91 cM qW mg hws hr hc (by omega) hN ac hac);intro r L' q;cases r<;>try exact q.elim
  ·obtain⟨b,cap,h1,h2,rfl,hA⟩:=q;rw[ig rfl] at hA;refine⟨⟨some b,List.replicate (cap-(xs.length+ys.length)) (.pointer none)⟩, ?_, ?_,hA.fn,fun t ht _=>hA.sub t ht,fun b' hb'=> .inr ?_⟩
   ·unfold slv;simp;omega
   ·have e5:(xs.map ptr).toArray++(ys.map ptr).toArray++(List.replicate (cap-(xs.length+ys.length)) (Value.pointer none)).toArray=((xs++ys).map ptr++List.replicate (cap-(xs.length+ys.length)) (Value.pointer none)).toArray:=by
     apply Array.ext';simp
    rw[e5] at hA;exact hA.self
   ·obtain rfl:b=b':=by simpa using hb'
    exact hA.new
  ·obtain⟨b,cap,_,_,e,_⟩:=q;cases e
 cases hab:a.b with
 |none=>
  have h2:=ha;unfold slOk at h2;rw[hab] at h2;obtain⟨e1,e2⟩:=h2;obtain rfl:xs=[]:=by simpa using e1
  have e3:slv a 0= .slice none 0 0:=by unfold slv;rw[hab]
  by_cases h0:0<ys.length
  ·exact grow 0 ⟨none,e3⟩ (by simpa using h0)
  ·obtain rfl:ys=[]:=List.length_eq_zero_iff.1 (by omega);intro ac hac;rw[List.length_nil,e3] at hx;refine cr ?_ _ _ (AD (New:=New) hx hy U91 U91 cM hr ac hac);intro r L' q;cases r<;>try exact q.elim
   ·obtain⟨rfl,rfl⟩:=q;exact⟨a,e3.symm,ha,bG hnd,fun t ht _=>ht,fun b hb=>by rw[hab] at hb;cases hb⟩
   ·exact absurd q.1 (by simp[undef])
 |some b=>
  have hm:=ha.mem hab;have e3:slv a xs.length= .slice (some ⟨b,0,none⟩) xs.length (xs.length+a.junk.length):=by unfold slv;rw[hab]
  by_cases hj:ys.length<=a.junk.length
  ·intro ac hac;rw[e3] at hx;refine cr ?_ _ _ (o0 (New:=New) hx hy hnd U91 U91 cM hr (by omega) hm (by simp;omega) (by simp[plainV]) ac hac);intro r L' q;cases r<;>try exact q.elim
   ·obtain⟨rfl,hU⟩:=q;have e4:puts (xs.map ptr++a.junk).toArray (0+xs.length*1) (ys.map ptr).toArray.toList=((xs++ys).map ptr++a.junk.drop ys.length).toArray:=by
     rw[cL _ _ _ (by simp;omega)];have e6:(xs.map ptr++a.junk).drop (xs.length+ys.length)=a.junk.drop ys.length:=by
      rw[List.drop_append];simp
     have e7:(xs.map ptr++a.junk).take xs.length=xs.map ptr:=by rw[List.take_append_of_le_length (by simp)];exact List.take_of_length_le (by simp)
     simp[e6,e7]
    rw[e4] at hU;refine⟨⟨some b,a.junk.drop ys.length⟩, ?_,hU.self,hU.fn,fun t ht hne=>hU.ne t ht fun e=>hne (by rw[hab,e]),fun b' hb'=> .inl (by rw[hab];exact hb')⟩;unfold slv;simp;omega
   ·exact absurd q.1 (by simp[undef])
  ·exact grow (xs.length+a.junk.length) ⟨_,e3⟩ (by omega)
end
def St.raise1 (S:St)(l:Nat):St:=(S.setRow 0 (S.rows 0++S.rows l)).setRow l []
def St.raises (S:St):Nat->St
 |0=>S
 |n+1=>(S.raises n).raise1 (n+1)
theorem la (S:St){n j:Nat}(h:n<j):(S.raises n).rows j=S.rows j:=by
 induction n with
 |zero=>rfl
 |succ n ih=>
  show put (put (S.raises n).rows 0 _) (n+1) [] j=_;unfold put;rw[if_neg (by omega),if_neg (by omega)];exact ih (by omega)
theorem lb (S:St)(h: ∀l,l<3->(S.rows l).length<=8): ∀n,n<3->((S.raises n).rows 0).length<=8*(n+1)
 |0,_=>h 0 (by omega)
 |n+1,hn=>by
  have h1:=lb S h n (by omega);have h2:((S.raises n).rows (n+1)).length<=8:=by rw[la S (by omega)];exact h _ hn
  have e:(S.raises (n+1)).rows 0=(S.raises n).rows 0++(S.raises n).rows (n+1):=by
   simp[St.raises,St.raise1,St.setRow,put]
  rw[e,List.length_append];omega
theorem pC: ∃n,∀{σ}{F:Fam σ}{Δ:DM F}{main s}(K:Nat)(A:Lay)(S:St)(Fr L:Frag),(∀cs,(Δ s).New (.cells cs 93))->Rep K A S Fr L->(∀l,l<3->(S.rows l).length<=8)->
 CallsL Δ Tryz.prog main 92 [.pointer (some ⟨K,7,none⟩)].toArray n s L (fun s' v L'=>s=s'/\v= .tuple #[]/\ ∃A',LRel A A'/\Rep K A' (S.raises 2) Fr L'):=by
 apply Exists.intro;intro σ F Δ main s K A S Fr L hN hR h8;co_applyP aF 24 Tryz.func92 Tryz.ntmps92;co_applyP aa;co_applyP oan rfl;co_applyP aC;co_applyP bg (fun k s' ε' L'=>s'=s/\ ∃n A',n<=2/\k+n=2/\LRel A A'/\Rep K A' (S.raises n) Fr L'/\kn ε' [(2, .int .i64 ((n+1:Nat):Int)),(0, .pointer (some ⟨K,7,none⟩))]) 2
 ·exact⟨rfl,0,A,by omega,rfl,LRel.refl A,hR,rfl⟩
 rintro k s' ε' L' ⟨rfl,n,A',hn,hk,hr,hR',he⟩;co_applyP aN he;co_applyP au;co_applyP aa;co_applyP om rfl rfl rfl bj;co_applyP ai;co_applyP aT rfl;intro hlt
 ·have hn2:n<2:=by
   have:((n+1:Nat):Int)<3:=by simpa using hlt
   omega
  have h0:At L' K 7 (slv (A'.a (0+1)) ((S.raises n).rows 0).length):=hR'.kat (kZ (kst A' (S.raises n)) (l:=0) (by omega));have h1:At L' K (7+(n+1)) (slv (A'.a (n+1+1)) ((S.raises n).rows (n+1)).length):=hR'.kat (kZ (kst A' (S.raises n)) (l:=n+1) (by omega));have hl0:=lb S h8 n (by omega);have hl1:((S.raises n).rows (n+1)).length<=8:=by rw[la S (by omega)];exact h8 _ (by omega)
  have elen:IntKind.i64.wrap (((n+1:Nat):Int)+1)=((n+1+1:Nat):Int):=by simp[IntKind.wrap_i64];omega
  have hix:((n+1:Nat):Int)<3:=by omega
  have hkne:(A'.a (0+1)).b≠some K:=hR'.row_ne (l:=0) (by omega) hR'.k (fk (by decide));co_applyP aB;co_applyP au;co_applyP aC;co_applyP au;co_applyP br [] 10 (nf:=0) a5;co_applyP tr 0 rfl ag pN;co_applyP tr 1 rfl ag pN;co_applyP tr 2 rfl av pN;co_applyP tr 3 rfl (aX nc eF) pN;co_applyP t0 4 rfl (aA (ht:=dz)) pN;co_applyP tr 5 rfl ag pN;co_applyP tr 6 rfl ag pN;co_applyP tr 7 rfl av pN;co_applyP tr 8 rfl (aX nc eF) pN;co_applyP t0 9 rfl (aA (ht:=dz)) pN;co_applyP tr 11 rfl av pN;co_applyP bd;intro hnd;co_applyP te (i:=10) rfl (CQ (a:=A'.a (0+1)) (a2:=A'.a (n+1+1)) (hnd:=hnd) (hN:=hN) (ha:=hR'.rw 0 (by omega)) (ha2:=hR'.rw (n+1) (by omega)) (h8:=by omega) (h8':=by omega));rintro _ _ ⟨a',rfl,hp⟩;refine⟨aD (by simp), ?_⟩;rename_i L2;co_applyP to 12 rfl ((aX nc eF)) (aD (by simp));co_applyP bd;intro hnd';co_applyP te (i:=13) rfl (dv (hnd:=hnd') (hm:=hp.sub _ hR'.k hkne) (hi:=by rw[bU];omega) (hp:=jt _ _) (hs:=eF));rintro _ _ ⟨rfl,hU⟩;refine⟨aD (by simp), ?_⟩;rename_i L3;have e7:(kcells (kst A' (S.raises n))).setIfInBounds (7+0) (slv a' ((S.raises n).rows 0++(S.raises n).rows (n+1)).length)=kcells (kst (A'.setA (0+1) a') ((S.raises n).setRow 0 ((S.raises n).rows 0++(S.raises n).rows (n+1)))):=by
   rw[iJ _ (by omega),kj _ _ _ _ _ (by omega)]
  have hR3:Rep K (A'.setA (0+1) a') ((S.raises n).setRow 0 ((S.raises n).rows 0++(S.raises n).rows (n+1))) Fr L3:=by
   refine hR'.setRow (l:=0) (by omega) hU.fn ?_ (fun t ht h1 h2=>hU.ne _ (hp.sub _ ht h2) h1) ?_ (fun b hb=> ?_) (fun e _=>dC _ (by omega))
   ·show (K,true,Obj.cells (kcells _) 115)∈L3;rw[<-e7];exact hU.self
   ·refine hp.ok.mono fun c hc o ho=>hU.ne _ ho fun e=> ?_;rcases hp.d c hc with h|h
    ·exact hkne (by rw[h];exact congrArg some e)
    ·exact h _ hR'.k e.symm
   ·rcases hp.d b hb with h|h
    ·exact .inl h
    ·exact .inr ⟨fun i hi=>by obtain⟨xs,hx⟩:=hR'.al i b hi;exact h _ hx rfl,fun t ht=>h _ (hR'.fr t ht)⟩
  co_applyP td (by kernel_rfl);co_applyP aq;co_applyP om rfl rfl rfl ag;co_applyP oy rfl av;co_applyP oy rfl (aX nc eF);co_applyP oeN rfl (fun hnd=>dv (hs:=eF) (hnd:=hnd) (hm:=hR3.k) (hi:=by rw[bU];omega));rintro _ L4 ⟨rfl,hU4⟩;co_applyP ai;co_applyP aq;co_applyP om rfl rfl rfl aS;co_applyP oan rfl;change∃k',k'<_/\_;have e8:(kcells (kst (A'.setA (0+1) a') ((S.raises n).setRow 0 ((S.raises n).rows 0++(S.raises n).rows (n+1))))).setIfInBounds (7+(n+1)) (slv ⟨none,[]⟩ ([]:List Nat).length)=kcells (kst ((A'.setA (0+1) a').setA (n+1+1) ⟨none,[]⟩) (S.raises (n+1))):=by
   rw[iJ _ (by omega)];exact(congrArg kcells (kj (A'.setA (0+1) a') ((S.raises n).setRow 0 ((S.raises n).rows 0++(S.raises n).rows (n+1))) (n+1) ⟨none,[]⟩ [] (by omega))).symm
  have hR4:Rep K ((A'.setA (0+1) a').setA (n+1+1) ⟨none,[]⟩) (S.raises (n+1)) Fr L4:=by
   refine hR3.setRow (l:=n+1) (xs:=[]) (by omega) hU4.fn ?_ (fun t ht h1 _=>hU4.ne _ ht h1) ⟨rfl,rfl⟩ (fun b hb=>by cases hb) (fun e _=>dC _ (by omega));exact Eq.mp (congrArg (fun c=>(K,true,Obj.cells c 115)∈L4) e8) hU4.self
  refine⟨k-1,by omega,rfl,n+1,_,by omega,by omega,(hr.trans (LRel.set A' (l:=0) (by omega) a')).trans (LRel.set _ (l:=n+1) (by omega) _),hR4, ?_⟩;rw[<-elen];rfl
 intro hlt;co_applyP bf;change∃v,resE .. =some v/\_;have hn2:n=2:=by
  have: ¬((n+1:Nat):Int)<3:=by simpa using hlt
  omega
 subst hn2;exact⟨_,rfl,rfl,rfl,A',hr,hR'⟩
def St.lifts (S:St):List Nat->St
 |[]=>S
 |b::bs=>St.lifts (match S.get b with
  |some x=>if x.st≠6/\0<x.lv then S.setP b {x with lv:=0,used:=0} else S
  |none=>S) bs
theorem iN (S:St)(l m:List Nat):S.lifts (l++m)=(S.lifts l).lifts m:=by
 induction l generalizing S with
 |nil=>rfl
 |cons b l ih=>simp only[List.cons_append,St.lifts];exact ih _
structure LfRel (S S':St):Prop where
 f:S'.ps.map (·.1)=S.ps.map (·.1)
 r:S'.rows=S.rows/\S'.by_=S.by_/\S'.wt=S.wt/\S'.now=S.now/\S'.last=S.last
theorem r7: ∃n,∀{σ}{F:Fam σ}{Δ:DM F}{main s}(K:Nat)(A:Lay)(S:St)(Fr L:Frag),(∀cs,(Δ s).New (.cells cs 93))->Rep K A S Fr L->(∀l,l<3->(S.rows l).length<=8)->
 CallsL Δ Tryz.prog main 81 [ptr K].toArray n s L (fun s' v L'=>s=s'/\v= .tuple #[]/\ ∃A',LRel A A'/\Rep K A' ((S.lifts (S.ps.map (·.1))).raises 2) Fr L'):=by
 obtain⟨n1,g1⟩:=pC;apply Exists.intro;intro σ F Δ main s K A S Fr L hN hR hr8;obtain⟨base,cap,hv,hat0⟩:=bY hR.pa;simp only[List.length_map] at hv;have h5:At L K 5 (.slice base S.ps.length cap):=by rw[<-hv];exact hR.kat rfl
 co_applyP aF 40 Tryz.func81 Tryz.ntmps81;co_applyP au;co_applyP aa;co_applyP om rfl rfl rfl av;co_applyP oy rfl (ak (hf:=bX));co_applyP oy rfl (aA (ht:=dz));co_applyP oy rfl (bt (hu:=U91));co_applyP oy rfl ag;co_applyP ai;co_applyP aC;co_applyP bg (fun k s' ε' L'=>s'=s/\ ∃l1 l2,S.ps=l1++l2/\Rep K A (S.lifts (l1.map (·.1))) Fr L'/\LfRel S (S.lifts (l1.map (·.1)))/\k+l1.length=8/\kn ε' [(9, .int .i64 l1.length),(8, .int .i64 S.ps.length),(7, .slice base S.ps.length cap),(0,ptr K)]) 8
 ·exact⟨rfl,[],S.ps,rfl,hR,⟨rfl,rfl,rfl,rfl,rfl,rfl⟩,rfl,rfl⟩
 rintro k s' ε' L' ⟨rfl,l1,l2,hl,hR',hW',hk,he⟩;co_applyP aN he;have hlen:=congrArg List.length hl;simp only[List.length_append] at hlen;have h8:=hR.p8;co_applyP aa;co_applyP oy rfl bj;co_applyP ai;co_applyP au;co_applyP aT rfl;intro hlt
 ·cases l2 with
  |nil=>simp at hlt hlen;omega
  |cons q l2=>
   have hat: ∃ab,base=some ⟨ab,0,none⟩/\At L' ab l1.length (ptr q.1):=by
    obtain⟨ab,hb1,hb2,_⟩:=hat0 l1.length (ptr q.1) (by rw[hl];simp);obtain⟨base',cap',_,hat'⟩:=bY hR'.pa;have e1:(S.lifts (l1.map (·.1))).ps.map (fun q=>ptr q.1)=S.ps.map fun q=>ptr q.1:=by
     have:=congrArg (List.map ptr) hW'.f;rw[List.map_map,List.map_map] at this;exact this
    obtain⟨b',hb1',_,hv'⟩:=hat' l1.length (ptr q.1) (by rw[e1,hl];simp);rw[hb1] at hb1';obtain rfl:ab=b':=by simpa using hb1'
    exact⟨ab,hb2,hv'⟩
   obtain⟨ab,rfl,hav⟩:=hat;simp at hlen;generalize hS':S.lifts (l1.map (·.1))=S' at*;have hmem:q.1∈S'.ps.map (·.1):=by rw[hW'.f,hl];simp
   obtain⟨⟨b,x⟩,hbx,hbq⟩:=List.mem_map.1 hmem;have hbq':b=q.1:=hbq;subst hbq';have hx2:At L' q.1 2 (.int .i64 (x.st:Int)):=hR'.pat hbx (i:=2) rfl;have hx5:At L' q.1 5 (.int .i64 (x.lv:Int)):=hR'.pat hbx (i:=5) rfl;have hget:=bk hR'.pn hbx;have elen:IntKind.i64.wrap ((l1.length:Int)+1)=((l1++[q]).length:Int):=by simp[IntKind.wrap_i64];omega
   have hnext:S.lifts ((l1++[q]).map (·.1))=if x.st≠6/\0<x.lv then S'.setP q.1 {x with lv:=0,used:=0} else S':=by
    rw[List.map_append,iN,hS'];show St.lifts (match S'.get q.1 with|some x=>_|none=>_) []=_;rw[hget];rfl
   co_applyP aB;co_applyP au;co_applyP aC;co_applyP aa;co_applyP oy rfl (bw U91 cM);co_applyP oy rfl (aA (ht:=ff));co_applyP oan rfl;co_applyP au;co_applyP cO ([(26, .bool (decide (x.st≠6/\0<x.lv))),(3,ptr q.1),(9, .int .i64 l1.length),(8, .int .i64 S.ps.length),(7, .slice (some ⟨ab,0,none⟩) S.ps.length cap),(0,ptr K)]);co_applyP aq;co_applyP om rfl rfl rfl av;co_applyP oy rfl (ak (hf:=aM));co_applyP oy rfl (ak (hf:=bM));co_applyP oy rfl (aA (ht:=aR));co_applyP oy rfl dK;co_applyP oy rfl ag
   ·by_cases h3:x.st=6
    ·have e3:((x.st:Int) !=6)=false:=by simp[h3]
     rw[e3];co_applyP ou rfl;co_applyP ou rfl;co_applyP ou rfl;co_applyP ou rfl;co_applyP ou rfl;co_applyP ou rfl;co_applyP oy rfl aH;co_applyP ai;change _=_/\_=_/\kn _ _;refine⟨rfl,rfl, ?_⟩;have e4:false=decide (x.st≠6/\0<x.lv):=by simp[h3]
     rw[<-e4];rfl
    ·have e3:((x.st:Int) !=6)=true:=by simp;omega
     rw[e3];co_applyP om rfl rfl rfl (av);co_applyP oy rfl ((ak (hf:=aM)));co_applyP oy rfl ((ak (hf:=cn)));co_applyP oy rfl ((aA (ht:=aR)));co_applyP oy rfl (cx);co_applyP oy rfl aH;co_applyP ai;change _=_/\_=_/\kn _ _;refine⟨rfl,rfl, ?_⟩;have e4:decide ((0:Int)<(x.lv:Int))=decide (x.st≠6/\0<x.lv):=by simp[h3]
     rw[<-e4];rfl
   co_applyP aT rfl;intro hw;co_applyP aq;co_applyP om rfl rfl rfl ag;co_applyP oy rfl av;co_applyP oy rfl (ak (hf:=aM));co_applyP oy rfl (ak (hf:=cn))
   ·have hw':x.st≠6/\0<x.lv:=by simpa using hw
    rw[if_pos hw'] at hnext;co_applyP osm rfl (hs:=bS) (hm:=hR'.p _ hbx) (hi:=by first|decide|(rw[bL];omega)|(rw[bU];omega));intro L2 hU;have hR2:=hR'.setP hbx (x':={x with lv:=0}) hU;have hb2:(q.1,{x with lv:=0})∈(S'.setP q.1 {x with lv:=0}).ps:=ar hbx;co_applyP oy rfl av;co_applyP oy rfl (ak (hf:=aM));co_applyP oy rfl (ak (hf:=da));co_applyP osm rfl (hs:=bS) (hm:=hR2.p _ hb2) (hi:=by first|decide|(rw[bL];omega)|(rw[bU];omega));intro L3 hU3;have hR3:=hR2.setP hb2 (x':={x with lv:=0,used:=0}) hU3;have e6:(S'.setP q.1 {x with lv:=0}).setP q.1 {x with lv:=0,used:=0}=S'.setP q.1 {x with lv:=0,used:=0}:=by
     unfold St.setP;simp only[List.map_map];congr 1;apply List.map_congr_left;intro r _;simp only[Function.comp]
     split
     ·simp
     ·rename_i h;simp[h]
    rw[e6] at hR3;co_applyP ai;co_applyP aq;co_applyP oy rfl aS;co_applyP oy rfl ag;co_applyP ai;change∃k',k'<_/\_;refine⟨k-1,by omega,rfl,l1++[q],l2,by simp[hl],by rw[hnext];exact hR3,by rw[hnext];exact⟨by rw[ba];exact hW'.f,hW'.r⟩,by simp;omega,by rw[<-elen];rfl⟩
   intro hw;co_applyP aB;co_applyP aq;co_applyP oy rfl aS;co_applyP oy rfl ag;co_applyP ai;change∃k',k'<_/\_;have hw': ¬(x.st≠6/\0<x.lv):=by simpa using hw
   rw[if_neg hw'] at hnext;refine⟨k-1,by omega,rfl,l1++[q],l2,by simp[hl],by rw[hnext];exact hR',by rw[hnext];exact hW',by simp;omega,by rw[<-elen];rfl⟩
 intro hlt;co_applyP bf;co_applyP aq;co_applyP om rfl rfl rfl av;co_applyP oy rfl (ak (hf:=dA));cases l2 with
 |cons q l2=>simp at hlt hlen;omega
 |nil=>
 have e:l1=S.ps:=by rw[hl];simp
 subst e;co_applyP oc rfl rfl rfl (g1 K A _ Fr L' hN hR' (fun l hl=>by rw[hW'.r.1];exact hr8 l hl));rintro _ _ _ ⟨rfl,rfl,A2,hr2,hR2⟩;co_applyP ai;change∃v,resE .. =some v/\_;exact⟨_,rfl,rfl,rfl,A2,hr2,hR2⟩
def liftP (x:PS):PS:=if x.st≠6/\0<x.lv then{x with lv:=0,used:=0} else x
theorem tI {S:St}(hn:(S.ps.map (·.1)).Nodup)(b:Nat):(match S.get b with
 |some x=>if x.st≠6/\0<x.lv then S.setP b {x with lv:=0,used:=0} else S
 |none=>S)=S.setPs (S.ps.map fun q=>if q.1=b then(b,liftP q.2) else q):=by
 cases hg:S.get b with
 |none=>
  have: ∀q∈S.ps,q.1≠b:=fun q hq e=>by
   have:=bk hn (b:=q.1) (x:=q.2) hq;rw[e,hg] at this;cases this
  have e:(S.ps.map fun q=>if q.1=b then(b,liftP q.2) else q)=S.ps:=by
   conv=>rhs;rw[<-List.map_id S.ps]
   exact List.map_congr_left fun q hq=>by simp[this q hq]
  show S=S.setPs _;rw[e];rfl
 |some x=>
  have hx:=bh hg;simp only;have key: ∀y,liftP x=y->S.setP b y=S.setPs (S.ps.map fun q=>if q.1=b then(b,liftP q.2) else q):=fun y hy=>by
   unfold St.setP St.setPs;congr 1;refine List.map_congr_left fun q hq=> ?_;obtain⟨c,z⟩:=q;by_cases e:c=b
   ·subst e;rw[a6 hn hq hx];simp[hy]
   ·simp[e]
  split
  ·rename_i h;exact key _ (by simp[liftP,h])
  ·rename_i h;have:=key x (by simp only[liftP];rw[if_neg h]);rw[<-this,mi hn hx]
theorem pD: ∀(bs:List Nat)(S:St),(S.ps.map (·.1)).Nodup->bs.Nodup->S.lifts bs=S.setPs (S.ps.map fun q=>if q.1∈bs then(q.1,liftP q.2) else q)
 |[],S,_,_=>by simp[St.lifts,St.setPs]
 |b::bs,S,hn,hb=>by
  have hfst:((S.setPs (S.ps.map fun q=>if q.1=b then(b,liftP q.2) else q)).ps.map (·.1))=S.ps.map (·.1):=by
   show ((S.ps.map fun q=>if q.1=b then(b,liftP q.2) else q).map (·.1))=_;rw[List.map_map];refine List.map_congr_left fun q _=> ?_;simp only[Function.comp]
   split
   ·rename_i e;exact e.symm
   ·rfl
  show St.lifts (match S.get b with|some x=>_|none=>_) bs=_;rw[tI hn,pD bs _ (by rw[hfst];exact hn) (List.nodup_cons.1 hb).2];unfold St.setPs;simp only[List.map_map];congr 1;refine List.map_congr_left fun q _=> ?_;obtain⟨c,z⟩:=q;simp only[Function.comp,List.mem_cons];by_cases e:c=b
  ·subst e;simp[(List.nodup_cons.1 hb).1]
  ·simp[e]
theorem mm {S:St}(hn:(S.ps.map (·.1)).Nodup):S.lifts (S.ps.map (·.1))=S.setPs (S.ps.map fun q=>(q.1,liftP q.2)):=by
 rw[pD _ _ hn hn];unfold St.setPs;congr 1;exact List.map_congr_left fun q hq=>by simp[List.mem_map.2 ⟨q,hq,rfl⟩]
theorem Good.raise {S:St}(h:Good S):Good ((S.lifts (S.ps.map (·.1))).raises 2):=by
 rw[mm h.pn];have r0:((S.setPs (S.ps.map fun q=>(q.1,liftP q.2))).raises 2).rows 0=S.rows 0++S.rows 1++S.rows 2:=by simp[St.raises,St.raise1,St.setRow,put,St.setPs]
 have r1: ∀l,0<l->l<3->((S.setPs (S.ps.map fun q=>(q.1,liftP q.2))).raises 2).rows l=[]:=fun l h1 h2=>by
  have:l=1\/l=2:=by omega
  rcases this with rfl|rfl<;>simp[St.raises,St.raise1,St.setRow,put,St.setPs]
 have hps:((S.setPs (S.ps.map fun q=>(q.1,liftP q.2))).raises 2).ps=S.ps.map fun q=>(q.1,liftP q.2):=rfl;have hst: ∀x:PS,(liftP x).st=x.st:=fun x=>by unfold liftP;split<;>rfl
 have hlv: ∀x:PS,x.st=1->(liftP x).lv=0:=fun x h1=>by
  unfold liftP
  split
  ·rfl
  ·rename_i hh;have: ¬0<x.lv:=fun h0=>hh ⟨by omega,h0⟩;omega
 have hin: ∀l,l<3-> ∀c∈S.rows l,∃y,(c,y)∈((S.setPs (S.ps.map fun q=>(q.1,liftP q.2))).raises 2).ps/\y.lv=0/\y.st=1:=fun l hl c hc=>by
  obtain⟨y,hy,h1,h2⟩:=h.rm l hl c hc;exact⟨liftP y,by rw[hps];exact List.mem_map.2 ⟨_,hy,rfl⟩,hlv y h2,by rw[hst];exact h2⟩
 have dis: ∀l m,l<3->m<3->l≠m-> ∀a∈S.rows l,∀b∈S.rows m,a≠b:=fun l m hl hm hne a ha b hb e=>by
  subst e;obtain⟨y,hy,h1,_⟩:=h.rm l hl a ha;obtain⟨z,hz,h2,_⟩:=h.rm m hm a hb;rw[a6 h.pn hy hz] at h1;omega
 refine⟨?_, ?_,fun q hq=> ?_,fun l hl=> ?_,fun l hl c hc=> ?_,fun q hq h1=> ?_⟩
 ·rw[hps,List.map_map];exact h.pn
 ·rw[hps];simpa using h.p8
 ·rw[hps] at hq;obtain⟨r,hr,rfl⟩:=List.mem_map.1 hq;have:=h.lv r hr;show (liftP r.2).lv<3;unfold liftP
  split
  ·show 0<3;omega
  ·exact this
 ·by_cases e:l=0
  ·subst e;rw[r0];refine List.nodup_append.2 ⟨List.nodup_append.2 ⟨h.rn 0 (by omega),h.rn 1 (by omega),dis 0 1 (by omega) (by omega) (by omega)⟩,h.rn 2 (by omega),fun a ha b hb=> ?_⟩;rcases List.mem_append.1 ha with h1|h1
   ·exact dis 0 2 (by omega) (by omega) (by omega) a h1 b hb
   ·exact dis 1 2 (by omega) (by omega) (by omega) a h1 b hb
  ·rw[r1 l (by omega) hl];exact List.nodup_nil
 ·by_cases e:l=0
  ·subst e;rw[r0] at hc;rcases List.mem_append.1 hc with h1|h1
   ·rcases List.mem_append.1 h1 with h1|h1
    ·exact hin 0 (by omega) c h1
    ·exact hin 1 (by omega) c h1
   ·exact hin 2 (by omega) c h1
  ·rw[r1 l (by omega) hl] at hc;simp at hc
 ·rw[hps] at hq;obtain⟨r,hr,rfl⟩:=List.mem_map.1 hq;have h1':r.2.st=1:=by rw[<-hst];exact h1
  have h0:=hlv r.2 h1';have hm:=h.rr r hr h1';show r.1∈_;rw[show ((r.1,liftP r.2):Nat×PS).2.lv=0 from h0,r0];have hl:=h.lv r hr;have hcase:r.2.lv=0\/r.2.lv=1\/r.2.lv=2:=by omega
  rcases hcase with e|e|e
  ·rw[e] at hm;exact List.mem_append_left _ (List.mem_append_left _ hm)
  ·rw[e] at hm;exact List.mem_append_left _ (List.mem_append_right _ hm)
  ·rw[e] at hm;exact List.mem_append_right _ hm
theorem yw:zeroAt Tryz.prog 5=some (.int .u8 0):=by kernel_rfl
end Go.Proofs.YtejkelcaljmnoaaGreatDoor
namespace Go.Lo
open Go.Conc Go.Hx
end Go.Lo
namespace Go.Proofs.YtejkelcaljmnoaaGreatDoor
open Go.Conc Go.Hx Go.Lo
theorem vK:bytesAt Tryz.prog 5=some 1:=by kernel_rfl
def St.setY (S:St)(i:Nat)(ys:List Int):St:={S with by_:=put S.by_ i ys}
def PS.poke (x:PS)(i:Nat):List Int->PS
 |[]=>x
 |v::vs=>PS.poke {x with m:=put x.m i v} (i+1) vs
def PS.peek (x:PS)(i n:Nat):List Int:=(List.range n).map fun j=>x.m (i+j)
theorem CR (x:PS){i n:Nat}(h:i+n<=64):(pcells x).extract (15+i) (15+i+n)=((x.peek i n).map fun v=>Value.int .u8 v).toArray:=by
 apply Array.ext
 ·simp[PS.peek,bL];omega
 ·intro j h1 h2;have hj:j<n:=by simpa [PS.peek] using h2
  have:=vC x (i:=i+j) (by omega);rw[show 15+(i+j)=15+i+j by omega] at this;obtain⟨_,he⟩:=Array.getElem?_eq_some_iff.1 this;simp only[Array.getElem_extract,he];simp[PS.peek]
def PS.got (x:PS)(bs:List Int):PS:=
 let y:=x.poke (x.r 1).toNat (bs.take (Nat.min bs.length (x.r 2).toNat))
 {y with r:=put y.r 0 (Nat.min bs.length (x.r 2).toNat:Nat)}
def St.readP (S:St)(b:Nat)(x:PS)(k:Nat×Nat):St:=(S.setP b (x.got (S.by_ k.1))).setY k.1 ((S.by_ k.1).drop (Nat.min (S.by_ k.1).length (x.r 2).toNat))
def okEnd (k:Nat×Nat):Prop:=(0<k.1/\k.1<5)/\(k.2=4\/k.2=5)
structure Asks (y:PS)(k:Nat×Nat):Prop where
 f:y.file (y.r 0)=k
 a:y.r 1+y.r 2<=64
 w:k.2=5->y.r 2<=8
 s:y.st=1\/y.st=k.2
structure Inv (S:St):Prop where
 g:Good S
 wf: ∀q∈S.ps,WF q.2
 fl: ∀q∈S.ps,∀i,i<6->q.2.f i=(0,0)\/okEnd (q.2.f i)
 y8: ∀i,i<5->(S.by_ i).length<=8
 yb: ∀i,i<5-> ∀v∈S.by_ i,0<=v/\v<256
 kn:(S.wt.map (·.1)).Nodup
 ne: ∀e∈S.wt,e.2≠[]
 nd: ∀e∈S.wt,e.2.Nodup
 ke: ∀e∈S.wt,okEnd e.1
 rm: ∀e∈S.wt,∀c∈e.2,∃y,(c,y)∈S.ps/\Asks y e.1
def St.out (S:St)(b:Nat):Prop:= ∀e∈S.wt,b∉e.2
theorem okEnd.key {k:Nat×Nat}(h:okEnd k):okKey k:=by
 obtain⟨_,h|h⟩:=h<;>(unfold okKey;omega)
section
variable {S:St}{b:Nat}{x x':PS}{k:Nat×Nat}
theorem Inv.w (h:Inv S):WGood S where
 kn:=h.kn
 kk:=fun e he=>(h.ke e he).key
 rl:=fun e he=>by
  have:=ju (m:=S.ps.map (·.1)) (h.nd e he) fun c hc=>by
   obtain⟨y,hy,_⟩:=h.rm e he c hc;exact List.mem_map.2 ⟨_,hy,rfl⟩
  have h8:=h.g.p8;simp at this;omega
 ne:=h.ne
 rm:=fun e he c hc=>by
  obtain⟨y,hy,_⟩:=h.rm e he c hc;exact⟨y,hy⟩
theorem cu {e:(Nat×Nat)×List Nat}: ∀{l:Wt},e∈departW b k l->(e∈l/\e.1≠k)\/(e.1=k/\e.2≠[]/\ ∃xs,(k,xs)∈l/\e.2=xs.filter fun c=> !decide (c=b)):=by
 intro l h;unfold departW at h;obtain⟨e',he',h2⟩:=List.mem_filterMap.1 h
 split at h2
 ·rename_i hk
  split at h2
  ·cases h2
  ·rename_i hne;simp at h2;subst h2;obtain⟨k',xs⟩:=e';simp only at hk hne he';subst hk;refine .inr ⟨rfl, ?_,xs,he',rfl⟩;intro e0;have e0':(xs.filter fun c=> !decide (c=b))=[]:=e0;exact hne (by rw[e0'];rfl)
 ·rename_i hk;simp at h2;subst h2;exact .inl ⟨he',hk⟩
theorem ny {l:Wt}:((departW b k l).map (·.1)).Sublist (l.map (·.1)):=by
 induction l with
 |nil=>exact List.Sublist.slnil
 |cons e l ih=>
  unfold departW at*;rw[List.filterMap_cons]
  split
  ·exact ih.cons _
  ·rename_i e' he;have:e'.1=e.1:=by
    split at he
    ·rename_i hk
     split at he
     ·cases he
     ·simp at he;rw[<-he];exact hk.symm
    ·simp at he;rw[he]
   rw[List.map_cons,List.map_cons,this];exact ih.cons_cons _
theorem Inv.depart (h:Inv S):Inv (S.depart b k) where
 g:=⟨h.g.pn,h.g.p8,h.g.lv,h.g.rn,h.g.rm,h.g.rr⟩
 wf:=h.wf
 fl:=h.fl
 y8:=h.y8
 yb:=h.yb
 kn:=h.kn.sublist ny
 ne:=fun e he=>by
  rcases cu he with ⟨h1,_⟩|⟨_,h2,_⟩
  ·exact h.ne e h1
  ·exact h2
 nd:=fun e he=>by
  rcases cu he with ⟨h1,_⟩|⟨_,_,xs,h3,h4⟩
  ·exact h.nd e h1
  ·rw[h4];exact(h.nd _ h3).sublist List.filter_sublist
 ke:=fun e he=>by
  rcases cu he with ⟨h1,_⟩|⟨h2,_,xs,h3,h4⟩
  ·exact h.ke e h1
  ·rw[h2];exact h.ke _ h3
 rm:=fun e he c hc=>by
  rcases cu he with ⟨h1,_⟩|⟨h2,_,xs,h3,h4⟩
  ·exact h.rm e h1 c hc
  ·rw[h2];rw[h4] at hc;exact h.rm _ h3 c (List.mem_filter.1 hc).1
theorem Inv.row (h:Inv S)(hb:(b,x)∈S.ps){e:(Nat×Nat)×List Nat}(he:e∈S.wt)(hm:b∈e.2):Asks x e.1:=by
 obtain⟨y,hy,ha⟩:=h.rm e he b hm;rw[a6 h.g.pn hb hy];exact ha
theorem Inv.out_depart (h:Inv S)(hb:(b,x)∈S.ps):(S.depart b (x.file (x.r 0))).out b:=by
 intro e he hm;rcases cu he with ⟨h1,h2⟩|⟨h2,_,xs,h3,h4⟩
 ·exact h2 (h.row hb h1 hm).f.symm
 ·rw[h4] at hm;have:=(List.mem_filter.1 hm).2;simp at this
theorem nz {c:Nat}(h:S.out c):(S.depart b k).out c:=by
 intro e he hm;rcases cu he with ⟨h1,h2⟩|⟨h2,_,xs,h3,h4⟩
 ·exact h e h1 hm
 ·rw[h4] at hm;exact h _ h3 (List.mem_filter.1 hm).1
theorem Inv.out_st (h:Inv S)(hb:(b,x)∈S.ps)(h1:x.st≠1)(h4:x.st≠4)(h5:x.st≠5):S.out b:=fun e he hm=>by
 have:=(h.row hb he hm).s;rcases(h.ke e he).2 with h|h<;>omega
theorem Inv.setP (h:Inv S)(hb:(b,x)∈S.ps)(ho:S.out b)(hg:Good (S.setP b x'))(hw:WF x')(hf: ∀i,i<6->x'.f i=(0,0)\/okEnd (x'.f i)):Inv (S.setP b x') where
 g:=hg
 wf:=fun q hq=>by
  rcases aO hq with rfl|⟨h1,_⟩
  ·exact hw
  ·exact h.wf q h1
 fl:=fun q hq=>by
  rcases aO hq with rfl|⟨h1,_⟩
  ·exact hf
  ·exact h.fl q h1
 y8:=h.y8
 yb:=h.yb
 kn:=h.kn
 ne:=h.ne
 nd:=h.nd
 ke:=h.ke
 rm:=fun e he c hc=>by
  obtain⟨y,hy,ha⟩:=h.rm e he c hc;refine⟨y, ?_,ha⟩;simp only[St.setP,List.mem_map];refine⟨(c,y),hy, ?_⟩;rw[if_neg];rintro rfl;exact ho e he hc
theorem Inv.like (h:Inv S)(hb:(b,x)∈S.ps)(ho:S.out b)(hs:x'.st=x.st)(hl:x'.lv=x.lv)(hw:WF x')(hf: ∀i,i<6->x'.f i=(0,0)\/okEnd (x'.f i)):Inv (S.setP b x'):=h.setP hb ho (h.g.like hb hs hl) hw hf
theorem Inv.wake1 (h:Inv S)(hb:(b,x)∈S.ps)(ho:S.out b)(hs:x.st≠1):Inv (S.wake1 b x) where
 g:=h.g.wake1 hb hs
 wf:=fun q hq=>by
  rcases aO hq with rfl|⟨h1,_⟩
  ·exact⟨(h.wf _ hb).r,(h.wf _ hb).m⟩
  ·exact h.wf q h1
 fl:=fun q hq=>by
  rcases aO hq with rfl|⟨h1,_⟩
  ·exact h.fl (b,x) hb
  ·exact h.fl q h1
 y8:=h.y8
 yb:=h.yb
 kn:=h.kn
 ne:=h.ne
 nd:=h.nd
 ke:=h.ke
 rm:=fun e he c hc=>by
  obtain⟨y,hy,ha⟩:=h.rm e he c hc;refine⟨y, ?_,ha⟩;show (c,y)∈(S.setP b _).ps;simp only[St.setP,List.mem_map];refine⟨(c,y),hy, ?_⟩;rw[if_neg];rintro rfl;exact ho e he hc
theorem Inv.setY (h:Inv S){i:Nat}{ys:List Int}(h8:ys.length<=8)(hb: ∀v∈ys,0<=v/\v<256):Inv (S.setY i ys) where
 g:=⟨h.g.pn,h.g.p8,h.g.lv,h.g.rn,h.g.rm,h.g.rr⟩
 wf:=h.wf
 fl:=h.fl
 y8:=fun j hj=>by
  show (put S.by_ i ys j).length<=8;unfold put;split
  ·exact h8
  ·exact h.y8 j hj
 yb:=fun j hj v hv=>by
  have hv':v∈put S.by_ i ys j:=hv;unfold put at hv'
  split at hv'
  ·exact hb v hv'
  ·exact h.yb j hj v hv'
 kn:=h.kn
 ne:=h.ne
 nd:=h.nd
 ke:=h.ke
 rm:=h.rm
end
def PS.gave (x:PS):PS:={x with r:=put x.r 0 (x.r 2)}
def St.writeP (S:St)(b:Nat)(x:PS)(k:Nat×Nat):St:=(S.setY k.1 (S.by_ k.1++x.peek (x.r 1).toNat (x.r 2).toNat)).setP b x.gave
def St.carried (S:St)(x:PS)(k:Nat×Nat):PS:=if k.2=4 then x.got (S.by_ k.1) else if S.isOpen (otherE k) then x.gave else{x with r:=put x.r 0 (ansOf 7)}
def St.carry (S:St)(b:Nat)(x:PS)(k:Nat×Nat):St:=if k.2=4 then S.readP b x k else if S.isOpen (otherE k) then S.writeP b x k else S.setP b {x with r:=put x.r 0 (ansOf 7)}
def St.rowAt (S:St)(k:Nat×Nat):List Nat:=((S.wt.find? fun e=>decide (e.1=k)).map (·.2)).getD []
def St.serve (S:St)(k:Nat×Nat):Option St:=match S.rowAt k with
 |[]=>none
 |b::_=>match S.get b with
  |none=>none
  |some x=>if S.canBeDone x k then some (if x.st=1 then(S.depart b k).carry b x k else((S.depart b k).carry b x k).wake1 b (S.carried x k)) else none
def St.looks:Nat->St->Nat->St
 |0,S,_=>S
 |n+1,S,p=>match S.serve (p,5) with
  |some S'=>St.looks n S' p
  |none=>match S.serve (p,4) with
   |some S'=>St.looks n S' p
   |none=>S
def St.look (S:St)(p:Nat):St:=St.looks 16 S p
def St.shut (S:St)(b n:Nat):St:=match S.get b with
 |some x=>(S.setP b {x with f:=put x.f n (0,0)}).look (x.f n).1
 |none=>S
def St.shuts (S:St)(b:Nat)(f:Nat->Nat×Nat):List Nat->St
 |[]=>S
 |n::ns=>(if f n=(0,0) then S else S.shut b n).shuts b f ns
section
variable {S S':St}{b:Nat}{x x':PS}{k:Nat×Nat}
theorem jz {c:Nat}(h:c∈S.rowAt k): ∃xs,(k,xs)∈S.wt/\xs=S.rowAt k:=by
 unfold St.rowAt at*;cases hf:S.wt.find? fun e=>decide (e.1=k) with
 |none=>rw[hf] at h;simp at h
 |some e=>
  have h1:=List.mem_of_find?_eq_some hf;have h2:=List.find?_some hf;simp only[decide_eq_true_eq] at h2;subst h2;exact⟨e.2,h1,rfl⟩
theorem vL (h:(S.wt.map (·.1)).Nodup){xs:List Nat}(hm:(k,xs)∈S.wt):S.rowAt k=xs:=by
 obtain⟨l1,ys,l2,hl,h1,h2⟩:=gB h (List.mem_map.2 ⟨_,hm,rfl⟩);have e1:S.rowAt k=ys:=by
  unfold St.rowAt;rw[hl,List.find?_append,List.find?_eq_none.2 fun e he=>by simpa using h1 e he];simp
 rw[hl] at hm;rcases List.mem_append.1 hm with h3|h3
 ·exact absurd rfl (h1 _ h3)
 ·rcases List.mem_cons.1 h3 with h4|h4
  ·rw[e1];cases h4;rfl
  ·exact absurd rfl (h2 _ h4)
theorem r9: ∀(vs:List Int)(x:PS)(i:Nat),(x.poke i vs).st=x.st/\(x.poke i vs).lv=x.lv/\(x.poke i vs).f=x.f/\(x.poke i vs).id=x.id/\(x.poke i vs).par=x.par
 |[],_,_=>⟨rfl,rfl,rfl,rfl,rfl⟩
 |v::vs,x,i=>r9 vs {x with m:=put x.m i v} (i+1)
theorem sc: ∀(vs:List Int)(x:PS)(i:Nat),WF x->(∀v∈vs,0<=v/\v<256)->WF (x.poke i vs)
 |[],_,_,h,_=>h
 |v::vs,x,i,h,hv=>sc vs {x with m:=put x.m i v} (i+1) ⟨h.r,fun j hj=>by
  show 0<=put x.m i v j/\put x.m i v j<256;unfold put;split
  ·exact hv v (by simp)
  ·exact h.m j hj⟩ fun w hw=>hv w (by simp[hw])
theorem fE (h:WF x){v:Int}(hv:0<=v/\v<65536):WF {x with r:=put x.r 0 v}:=⟨fun j hj=>by
 show 0<=put x.r 0 v j/\put x.r 0 v j<65536;unfold put;split
 ·exact hv
 ·exact h.r j hj,h.m⟩
theorem vM (i:Nat):0<=ansOf i/\ansOf i<65536:=by
 unfold ansOf
 repeat' split
 all_goals omega
theorem dF (S:St)(x:PS)(k:Nat×Nat):(S.carried x k).st=x.st/\(S.carried x k).lv=x.lv/\(S.carried x k).f=x.f/\(S.carried x k).id=x.id/\(S.carried x k).par=x.par:=by
 unfold St.carried
 split
 ·exact r9 _ _ _
 ·split<;>exact⟨rfl,rfl,rfl,rfl,rfl⟩
theorem q9 (h:Inv S)(hk:k.1<5)(hx:WF x)(ha:x.r 1+x.r 2<=64):WF (S.carried x k):=by
 unfold St.carried
 split
 ·refine fE (sc _ _ _ hx fun v hv=>h.yb _ hk v (List.mem_of_mem_take hv)) ⟨by omega, ?_⟩;have:=h.y8 _ hk;have:(Nat.min (S.by_ k.1).length (x.r 2).toNat:Nat)<=(S.by_ k.1).length:=Nat.min_le_left _ _;omega
 ·split
  ·exact fE hx (hx.r 2 (by omega))
  ·exact fE hx (vM 7)
theorem fV (S:St)(b:Nat)(x:PS)(k:Nat×Nat): ∃ys,S.carry b x k=(S.setP b (S.carried x k)).setY k.1 ys/\(k.2=4->ys=(S.by_ k.1).drop (Nat.min (S.by_ k.1).length (x.r 2).toNat))/\(k.2≠4->ys=if S.isOpen (otherE k) then S.by_ k.1++x.peek (x.r 1).toNat (x.r 2).toNat else S.by_ k.1):=by
 unfold St.carry St.carried
 split
 ·rename_i h;exact⟨_,rfl,fun _=>rfl,fun hn=>absurd h hn⟩
 ·rename_i h
  split
  ·exact⟨_,rfl,fun h'=>absurd h' h,fun _=>rfl⟩
  ·refine⟨S.by_ k.1, ?_,fun h'=>absurd h' h,fun _=>rfl⟩;have:put S.by_ k.1 (S.by_ k.1)=S.by_:=by funext j;unfold put;split<;>simp_all
   show _={S.setP b _ with by_:=put S.by_ k.1 (S.by_ k.1)};rw[this];rfl
theorem Inv.carry (h:Inv S)(hb:(b,x)∈S.ps)(ho:S.out b)(hk:k.1<5)(ha:x.r 1+x.r 2<=64)(hc:S.canBeDone x k=true):Inv (S.carry b x k):=by
 obtain⟨ys,e,h4,h5⟩:=fV S b x k;obtain⟨l1,l2,l3,_,_⟩:=dF S x k;have hI:=h.like hb ho l1 l2 (q9 h hk (h.wf _ hb) ha) (by rw[l3];exact h.fl _ hb);rw[e];have hy8:=h.y8 _ hk;have hyb:=h.yb _ hk;have w2:0<=x.r 2/\x.r 2<65536:=(h.wf _ hb).r 2 (by omega);have w1:0<=x.r 1/\x.r 1<65536:=(h.wf _ hb).r 1 (by omega);refine hI.setY ?_ ?_
 ·by_cases h44:k.2=4
  ·rw[h4 h44,List.length_drop];omega
  ·rw[h5 h44]
   split
   ·rename_i ho;unfold St.canBeDone at hc;rw[if_pos ho,if_neg h44] at hc;simp only[decide_eq_true_eq] at hc;simp[PS.peek];omega
   ·exact hy8
 ·by_cases h44:k.2=4
  ·rw[h4 h44];exact fun v hv=>hyb v (List.mem_of_mem_drop hv)
  ·rw[h5 h44]
   split
   ·intro v hv;rcases List.mem_append.1 hv with h1|h1
    ·exact hyb v h1
    ·unfold PS.peek at h1;obtain⟨j,hj,rfl⟩:=List.mem_map.1 h1;simp at hj;exact(h.wf _ hb).m _ (by omega)
   ·exact hyb
theorem iO (S:St)(b:Nat)(x:PS)(k:Nat×Nat):(S.carry b x k).wt=S.wt:=by
 obtain⟨ys,e,_⟩:=fV S b x k;rw[e];rfl
theorem dY (S:St)(b:Nat)(x:PS)(k:Nat×Nat):(S.carry b x k).ps=(S.setP b (S.carried x k)).ps:=by
 obtain⟨ys,e,_⟩:=fV S b x k;rw[e];rfl
theorem di (hS:S.serve k=some S'): ∃b x,b∈S.rowAt k/\(S.rowAt k).head? =some b/\(b,x)∈S.ps/\S.canBeDone x k=true/\S'=if x.st=1 then(S.depart b k).carry b x k else((S.depart b k).carry b x k).wake1 b (S.carried x k):=by
 unfold St.serve at hS
 split at hS
 ·cases hS
 ·rename_i b l hr
  split at hS
  ·cases hS
  ·rename_i x hx
   split at hS
   ·rename_i hc;refine⟨b,x,by rw[hr];simp,by rw[hr];rfl,bh hx,hc, ?_⟩;exact(Option.some.inj hS).symm
   ·cases hS
theorem Inv.atRow (h:Inv S){c:Nat}(hc:c∈S.rowAt k)(hb:(c,x)∈S.ps):Asks x k/\okEnd k:=by
 obtain⟨xs,h1,h2⟩:=jz hc;exact⟨h.row hb h1 (by rw[h2];exact hc),h.ke _ h1⟩
theorem Inv.serve (h:Inv S)(hS:S.serve k=some S'):Inv S':=by
 obtain⟨b,x,hm,_,hb,hc,rfl⟩:=di hS;obtain⟨ha,hk⟩:=h.atRow hm hb;have hd:Inv (S.depart b k):=h.depart;have ho:(S.depart b k).out b:=by have:=h.out_depart hb;rw[ha.f] at this;exact this
 have hI:=Inv.carry hd (b:=b) (x:=x) (k:=k) hb ho hk.1.2 ha.a hc
 split
 ·exact hI
 ·rename_i h1;refine hI.wake1 ?_ (by intro e he;exact ho e (by rw[iO] at he;exact he)) (by rw[(dF S x k).1];exact h1);rw[dY];exact ar hb
theorem pE (hS:S.serve k=some S'): ∃b,(S.rowAt k).head? =some b/\S'.wt=(S.depart b k).wt:=by
 obtain⟨b,x,hm,hh,hb,hc,rfl⟩:=di hS;refine⟨b,hh, ?_⟩
 split
 ·exact iO _ _ _ _
 ·show ((S.depart b k).carry b x k).wt=_;exact iO _ _ _ _
theorem mq {c:Nat}(h:S.out c)(hS:S.serve k=some S'):S'.out c:=by
 obtain⟨b,hh,hw⟩:=pE hS;intro e he;rw[hw] at he;exact nz h e he
theorem tJ {c:Nat}{y:PS}(h:Inv S)(ho:S.out c)(hc:(c,y)∈S.ps)(hS:S.serve k=some S'):(c,y)∈S'.ps:=by
 obtain⟨b,x,hm,hh,hb,hd,rfl⟩:=di hS;have hne:c≠b:=by
  rintro rfl;obtain⟨xs,h1,h2⟩:=jz hm;exact ho _ h1 (by rw[h2];exact hm)
 have stay: ∀(T:St)(z:PS),(c,y)∈T.ps->(c,y)∈(T.setP b z).ps:=fun T z hT=>by
  simp only[St.setP,List.mem_map];exact⟨(c,y),hT,by rw[if_neg hne]⟩
 split
 ·rw[dY];exact stay _ _ hc
 ·show (c,y)∈(((S.depart b k).carry b x k).setP b _).ps;apply stay;rw[dY];exact stay _ _ hc
theorem tK (hS:S.serve k=some S'):S'.ps.map (·.1)=S.ps.map (·.1):=by
 obtain⟨b,x,hm,hh,hb,hd,rfl⟩:=di hS;have e1:((S.depart b k).carry b x k).ps.map (·.1)=S.ps.map (·.1):=by rw[dY,ba];rfl
 split
 ·exact e1
 ·show (((S.depart b k).carry b x k).setP b _).ps.map (·.1)=_;rw[ba,e1]
structure Looked (S S':St):Prop where
 i:Inv S'
 f:S'.ps.map (·.1)=S.ps.map (·.1)
 o: ∀c,S.out c->S'.out c
 m: ∀c y,S.out c->(c,y)∈S.ps->(c,y)∈S'.ps
theorem Inv.looks (p:Nat): ∀(n:Nat){S:St},Inv S->Looked S (St.looks n S p)
 |0,S,h=>⟨h,rfl,fun _ h=>h,fun _ _ _ h=>h⟩
 |n+1,S,h=>by
  have go: ∀{u:Nat}{S':St},S.serve (p,u)=some S'->Looked S (St.looks n S' p):=fun{u S'} hS=>by
   have ih:=Inv.looks p n (h.serve hS);exact⟨ih.i,ih.f.trans (tK hS),fun c hc=>ih.o c (mq hc hS),fun c y hc hy=>ih.m c y (mq hc hS) (tJ h hc hy hS)⟩
  unfold St.looks
  split
  ·exact go ‹_›
  ·split
   ·exact go ‹_›
   ·exact⟨h,rfl,fun _ h=>h,fun _ _ _ h=>h⟩
theorem Inv.look (h:Inv S)(p:Nat):Looked S (S.look p):=Inv.looks p 16 h
theorem lf (h: ∀i,i<6->x.f i=(0,0)\/okEnd (x.f i)) {n:Nat} {e:Nat×Nat} (he:e=(0,0)\/okEnd e): ∀i,i<6->put x.f n e i=(0,0)\/okEnd (put x.f n e i):=fun i hi=>by
 unfold put;split
 ·exact he
 ·exact h i hi
theorem Inv.shut (h:Inv S)(hb:(b,x)∈S.ps)(ho:S.out b)(n:Nat):Looked (S.setP b {x with f:=put x.f n (0,0)}) (S.shut b n):=by
 unfold St.shut;rw[bk h.g.pn hb];exact Inv.look (h.like (x':={x with f:=put x.f n (0,0)}) hb ho rfl rfl ⟨(h.wf _ hb).r,(h.wf _ hb).m⟩ (lf (h.fl _ hb) (.inl rfl))) _
end
structure NewK {R:World->World->Prop}{D:World->World->Array Event->Prop}(Δ:Dom R D):Prop extends NewE Δ where
 r: ∀cs,Δ.New (.cells cs 93)
 k: ∀cs,Δ.New (.cells cs 96)
 y: ∀cs,Δ.New (.cells cs 5)
 i: ∀cs,Δ.New (.cells cs 158)
 p: ∀cs,Δ.New (.cells cs 99)
def filesv (f:Nat->Nat×Nat):Value:= .agg #[.int .i64 (f 0).1, .int .i64 (f 0).2, .int .i64 (f 1).1, .int .i64 (f 1).2, .int .i64 (f 2).1, .int .i64 (f 2).2, .int .i64 (f 3).1, .int .i64 (f 3).2, .int .i64 (f 4).1, .int .i64 (f 4).2, .int .i64 (f 5).1, .int .i64 (f 5).2]
theorem lg (x:PS):Value.agg ((pcells x).extract 79 91)=filesv x.f:=by rfl
theorem CS (f:Nat->Nat×Nat){i:Nat}(hi:i<6):evR Tryz.prog (Instr.index 97 (filesv f) (.int .i64 (i:Nat))) []=some (keyv (f i),[]):=by
 have:i=0\/i=1\/i=2\/i=3\/i=4\/i=5:=by omega
 rcases this with rfl|rfl|rfl|rfl|rfl|rfl
 ·show evR Tryz.prog (Instr.index 97 (filesv f) (.int .i64 ((0:Nat):Int))) []=some (keyv (f 0),[]);kernel_rfl
 ·show evR Tryz.prog (Instr.index 97 (filesv f) (.int .i64 ((1:Nat):Int))) []=some (keyv (f 1),[]);kernel_rfl
 ·show evR Tryz.prog (Instr.index 97 (filesv f) (.int .i64 ((2:Nat):Int))) []=some (keyv (f 2),[]);kernel_rfl
 ·show evR Tryz.prog (Instr.index 97 (filesv f) (.int .i64 ((3:Nat):Int))) []=some (keyv (f 3),[]);kernel_rfl
 ·show evR Tryz.prog (Instr.index 97 (filesv f) (.int .i64 ((4:Nat):Int))) []=some (keyv (f 4),[]);kernel_rfl
 ·show evR Tryz.prog (Instr.index 97 (filesv f) (.int .i64 ((5:Nat):Int))) []=some (keyv (f 5),[]);kernel_rfl
theorem zU {N:Nat}{ε:Env}{L:Frag}{d:Option Tmp}{ty:TypeId}{ps:String}{af:Array Edge}{g:Option (Nat×Bool)}{x ix:Operand}{t:TypeId}{w j v:Value}(hv:evR Tryz.prog (Instr.index t w j) []=some (v,[]))(hx:ev ε x=some w:=by rfl)(hy:ev ε ix=some j:=by rfl):EY Tryz.prog N ε L ⟨d, .index t x ix,ty,ps,af,g⟩ v:=fun a ha=>by
 refine cW (fun _=>rfl) fun K hK=> ?_;rw[ha.ev hx,ha.ev hy];exact bm hv hK
structure Shutting (b:Nat)(x:PS)(S S':St):Prop where
 i:Inv S'
 f:S'.ps.map (·.1)=S.ps.map (·.1)
 o:S'.out b
 m: ∃f',(b,{x with f:=f'})∈S'.ps
theorem Shutting.step {b:Nat}{x:PS}{S S':St}(h:Shutting b x S S')(n:Nat):Shutting b x S (S'.shut b n):=by
 obtain⟨f',hm⟩:=h.m;have hl:=h.i.shut hm h.o n;exact⟨hl.i,by rw[hl.f,ba];exact h.f,hl.o b h.o,put f' n (0,0),hl.m b _ h.o (ar hm)⟩
theorem Shutting.all {b:Nat}{x:PS}{S:St}(f:Nat->Nat×Nat): ∀(ns:List Nat){S':St},Shutting b x S S'->Shutting b x S (S'.shuts b f ns)
 |[],_,h=>h
 |n::ns,S',h=>by
  show Shutting b x S ((if f n=(0,0) then S' else S'.shut b n).shuts b f ns)
  split
  ·exact Shutting.all f ns h
  ·exact Shutting.all f ns (h.step n)
end Go.Proofs.YtejkelcaljmnoaaGreatDoor
namespace Go.Lo
open Go.Conc Go.Hx
structure OldW (W:World)(O:Nat)(w:World):Prop where
 t:w.tape=W.tape
 o:w.os=W.os
 u:w.output=W.output
 z:O<=w.heap.size
 b: ∀x,x<O->w.heap[x]? =W.heap[x]?
theorem eR {w:World}{b x:Nat}{o:Obj}(h:x≠b):(upd w b o).heap[x]? =w.heap[x]? :=by simp[upd,Array.getElem?_setIfInBounds,Ne.symm h]
theorem upd_self {w:World}{b:Nat}{o:Obj}(h:b<w.heap.size):(upd w b o).heap[b]? =some o:=by simp[upd,h]
theorem dG {w:World}{x:Nat}{o:Obj}(h:x≠w.heap.size):(more w o).heap[x]? =w.heap[x]? :=by
 show (w.heap.push o)[x]? =w.heap[x]?;rw[Array.getElem?_push,if_neg h]
theorem jA {w:World}{o:Obj}:(more w o).heap[w.heap.size]? =some o:=by
 show (w.heap.push o)[w.heap.size]? =some o;simp
theorem OldW.upd {W:World}{O:Nat}{w:World}(h:OldW W O w){b:Nat}(hb:O<=b)(o:Obj):OldW W O (upd w b o):=
 ⟨h.t,h.o,h.u,by simpa [Lo.upd] using h.z,fun x hx=>by rw[<-h.b x hx];simp[Lo.upd,Array.getElem?_setIfInBounds,show b≠x by omega]⟩
theorem OldW.more {W:World}{O:Nat}{w:World}(h:OldW W O w)(o:Obj):OldW W O (more w o):=
 ⟨h.t,h.o,h.u,by have:=h.z;simp[Lo.more];omega,fun x hx=>by rw[<-h.b x hx];have:=h.z;exact dG (by omega)⟩
theorem OldW.drew {W:World}{O:Nat}{w:World}(h:OldW W O w):OldW W O (drew w):=⟨h.t,h.o,h.u,h.z,h.b⟩
theorem sd {o o':Obj}{ety:TypeId}(h:fits o o'=true):isEv ety o'=isEv ety o:=by
 cases o<;>cases o'<;>simp_all [fits,isEv,thing]
theorem jS {L:Frag}{n b:Nat}{fl:Bool}{o o':Obj}(hn:L[n]? =some (b,fl,o)):(L.set n (b,fl,o')).map (·.1)=L.map (·.1):=by
 apply List.ext_getElem?;intro i;simp only[List.getElem?_map,List.getElem?_set]
 split
 ·rename_i e;subst e;obtain⟨hlt,he⟩:=List.getElem?_eq_some_iff.1 hn;simp[hlt,he]
 ·rfl
theorem cw {L:Frag}{n b:Nat}{fl:Bool}{o o':Obj}(hd:(L.map (·.1)).Nodup)(hn:L[n]? =some (b,fl,o)){t:Nat×Bool×Obj}(ht:t∈L.set n (b,fl,o')):t=(b,fl,o')\/(t∈L/\t.1≠b):=by
 obtain⟨i,hi⟩:=List.getElem?_of_mem ht;rw[List.getElem?_set] at hi
 split at hi
 ·split at hi
  ·left;simpa using hi.symm
  ·cases hi
 ·rename_i hne;right;refine⟨List.mem_of_getElem? hi,fun e=>hne ?_⟩;have h1:(L.map (·.1))[i]? =some t.1:=by simp[hi]
  have h2:(L.map (·.1))[n]? =some b:=by simp[hn]
  obtain⟨hl1,he1⟩:=List.getElem?_eq_some_iff.1 h1;obtain⟨hl2,he2⟩:=List.getElem?_eq_some_iff.1 h2;rcases Nat.lt_trichotomy n i with g|g|g
  ·exact absurd (he2.trans (e.symm.trans he1.symm)) (List.pairwise_iff_getElem.1 hd n i hl2 hl1 g)
  ·exact g
  ·exact absurd (he1.trans (e.trans he2.symm)) (List.pairwise_iff_getElem.1 hd i n hl1 hl2 g)
theorem lh {m:Mark}(hm:okMark m=true):(MemAct.ofEvent ⟨.mark m,false,true⟩).touch? =none/\m≠ .disable/\m≠ .enable:=by
 cases m with
 |noRoom=>exact⟨rfl,nofun,nofun⟩
 |extern f=>exact⟨rfl,nofun,nofun⟩
 |_=>cases hm
structure OwnW (p:Par)(Sh:Loc->Prop)(E Dn:Nat)(W:World)(O:Nat)(L:Frag)(w:World):Prop where
 has: ∀t∈L,w.heap[t.1]? =some t.2.2
 ap: ∀t∈L,t.1≠E/\t.1≠Dn/\(∀l,blk l=some t.1-> ¬Sh l)/\(isEv p.ety t.2.2=true->t.1<p.N0)
 own: ∀t∈L,t.2.1=true->O<=t.1/\ ∀l,blk l=some t.1-> ¬p.Still l
 nd:(L.map (·.1)).Nodup
 sz:p.N0<=w.heap.size
 old:OldW W O w
 sh:ShOk p Sh
 hE:E<p.N0/\Dn<p.N0
 oo:O<=E/\O<=Dn/\O<=p.N0
section
variable {p:Par}{Sh:Loc->Prop}{E Dn:Nat}{W:World}{O:Nat}{L:Frag}{w w₁:World}
theorem OwnW.notFA (h:OwnW p Sh E Dn W O L w){b:Nat}{fl:Bool}{o:Obj}(hm:(b,fl,o)∈L): ¬FA p w b:=by
 rintro⟨h1,o',ho',hi⟩;have:=h.has _ hm;have h2:=(h.ap _ hm).2.2.2;simp only at this h2;rw[this] at ho';cases ho';exact absurd (h2 hi) (by omega)
theorem OwnW.lt (h:OwnW p Sh E Dn W O L w){b:Nat}{fl:Bool}{o:Obj}(hm:(b,fl,o)∈L):b<w.heap.size:=(Array.getElem?_eq_some_iff.1 (h.has _ hm)).1
theorem OwnW.rely (h:OwnW p Sh E Dn W O L w)(r:RB p E Dn w w₁):OwnW p Sh E Dn W O L w₁:=
 {h with
  has:=fun t ht=>(r.block t.1 (h.lt (fl:=t.2.1) (o:=t.2.2) ht) (h.notFA (fl:=t.2.1) (o:=t.2.2) ht) (h.ap t ht).1 (h.ap t ht).2.1).trans (h.has t ht)
  sz:=Nat.le_trans h.sz r.kept.size
  old:=⟨r.tape.trans h.old.t,r.os.trans h.old.o,r.output.trans h.old.u,Nat.le_trans h.old.z r.kept.size,fun x hx=>by
   have h1:=h.oo;have h2:=h.sz;exact(r.block x (by omega) (fun f=>by have:=f.1;omega) (by omega) (by omega)).trans (h.old.b x hx)⟩}
theorem re {b:Nat}{o o':Obj}(hb:w.heap[b]? =some o)(hf:fits o o'=true)(x:Nat):FA p (upd w b o') x↔FA p w x:=by
 by_cases e:x=b
 ·subst e;have hlt:=(Array.getElem?_eq_some_iff.1 hb).1;unfold FA;rw[upd_self hlt,hb];simp[sd (ety:=p.ety) hf]
 ·unfold FA;rw[eR e]
theorem se {o:Obj}(ho:isEv p.ety o=false)(x:Nat):FA p (more w o) x↔FA p w x:=by
 by_cases e:x=w.heap.size
 ·subst e;unfold FA;rw[jA];simp[ho]
 ·unfold FA;rw[dG e]
theorem OwnW.set (h:OwnW p Sh E Dn W O L w){n b:Nat}{o o':Obj}(hn:L[n]? =some (b,true,o))(hf:fits o o'=true):
 OwnW p Sh E Dn W O (L.set n (b,true,o')) (upd w b o')/\(RA p w (upd w b o')/\(upd w b o').heap[E]? =w.heap[E]? /\(upd w b o').heap[Dn]? =w.heap[Dn]?)/\(∀i,EvB p Sh (upd w b o') ⟨.cell ⟨b,i,none⟩,true,false⟩)/\EvB p Sh (upd w b o') ⟨.obj b,true,false⟩:=by
 have hm:=List.mem_of_getElem? hn;have hb:w.heap[b]? =some o:=h.has _ hm;have hlt:=h.lt hm;obtain⟨a1,a2,a3,a4⟩:=h.ap _ hm;obtain⟨o1,o2⟩:=h.own _ hm rfl
 have hO:OwnW p Sh E Dn W O (L.set n (b,true,o')) (upd w b o'):=
  {h with
   has:=fun t ht=>by
    rcases cw h.nd hn ht with rfl|⟨h1,h2⟩
    ·exact upd_self hlt
    ·rw[eR h2];exact h.has t h1
   ap:=fun t ht=>by
    rcases cw h.nd hn ht with rfl|⟨h1,h2⟩
    ·exact⟨a1,a2,a3,fun e=>a4 (by rw[sd hf] at e;exact e)⟩
    ·exact h.ap t h1
   own:=fun t ht hfl=>by
    rcases cw h.nd hn ht with rfl|⟨h1,h2⟩
    ·exact⟨o1,o2⟩
    ·exact h.own t h1 hfl
   nd:=by rw[jS hn];exact h.nd
   sz:=by simpa [upd] using h.sz
   old:=h.old.upd o1 o'}
 have hnf: ¬FA p (upd w b o') b:=fun f=>h.notFA hm ((re hb hf b).1 f);refine⟨hO,⟨⟨rfl,rfl,rfl,⟨by simp[upd],fun x f=>(re hb hf x).2 f,fun x _ nf f=>nf ((re hb hf x).1 f)⟩,fun x f=>eR fun e=>h.notFA hm (e▸f),fun x cs ty fl hs hx=>(eR fun e=> ?_).trans hx⟩,eR (Ne.symm a1),eR (Ne.symm a2)⟩,fun i=> ?_, ?_⟩
 ·obtain⟨j,hj⟩:=hs;exact o2 _ (by rw[<-e];rfl) hj
 ·refine⟨fun x hx _=> ?_,by simp,by simp⟩;simp only[MemAct.ofEvent,MemAct.touch?,Option.some.injEq] at hx;subst hx;exact⟨⟨b,rfl,by simpa [upd] using hlt,hnf⟩,fun s=>absurd s (a3 _ rfl),fun s=>absurd s (o2 _ rfl)⟩
 ·refine⟨fun x hx _=> ?_,by simp,by simp⟩;simp only[MemAct.ofEvent,MemAct.touch?,Option.some.injEq] at hx;subst hx;exact⟨⟨b,rfl,by simpa [upd] using hlt,hnf⟩,fun s=>absurd s (a3 _ rfl),fun s=>absurd s (o2 _ rfl)⟩
theorem OwnW.new (h:OwnW p Sh E Dn W O L w){o:Obj}(ho:isEv p.ety o=false):
 (∀t∈L,t.1≠w.heap.size)/\OwnW p Sh E Dn W O ((w.heap.size,true,o)::L) (more w o)/\(RA p w (more w o)/\(more w o).heap[E]? =w.heap[E]? /\(more w o).heap[Dn]? =w.heap[Dn]?):=by
 have hne: ∀t∈L,t.1≠w.heap.size:=fun t ht=>Nat.ne_of_lt (h.lt (fl:=t.2.1) (o:=t.2.2) ht);have h1:=h.sz;have h2:=h.hE;have h3:=h.oo
 refine⟨hne,{h with
  has:=fun t ht=>by
   rcases List.mem_cons.1 ht with rfl|ht
   ·exact jA
   ·rw[dG (hne t ht)];exact h.has t ht
  ap:=fun t ht=>by
   rcases List.mem_cons.1 ht with rfl|ht
   ·exact⟨by show w.heap.size≠E;omega,by show w.heap.size≠Dn;omega,fun l hl s=>by have:=h.sh.low l _ s hl;simp only at this;omega,fun e=>by simp only[ho] at e;cases e⟩
   ·exact h.ap t ht
  own:=fun t ht hfl=>by
   rcases List.mem_cons.1 ht with rfl|ht
   ·exact⟨by show O<=w.heap.size;omega,fun l hl s=>by have:=h.sh.st l _ s hl;simp only at this;omega⟩
   ·exact h.own t ht hfl
  nd:=by
   simp only[List.map_cons,List.nodup_cons];exact⟨fun hm=>by obtain⟨t,ht,e⟩:=List.mem_map.1 hm;exact hne t ht e,h.nd⟩
  sz:=by simp[more];omega
  old:=h.old.more o},⟨⟨rfl,rfl,rfl,⟨by simp[more],fun x f=>(se ho x).2 f,fun x _ nf f=>nf ((se ho x).1 f)⟩,fun x f=>dG (Nat.ne_of_lt f.lt),fun x cs ty fl _ hx=>(dG (Nat.ne_of_lt (Array.getElem?_eq_some_iff.1 hx).1)).trans hx⟩,dG (by omega),dG (by omega)⟩⟩
theorem OwnW.draw (h:OwnW p Sh E Dn W O L w):OwnW p Sh E Dn W O L (drew w):={h with old:=h.old.drew}
def domW (p:Par)(Sh:Loc->Prop)(E Dn:Nat)(W:World)(O:Nat):Dom (RB p E Dn) (DT p Sh E Dn) where
 New o:=isEv p.ety o=false
 Own:=OwnW p Sh E Dn W O
 Gu w w':=RA p w w'/\w'.heap[E]? =w.heap[E]? /\w'.heap[Dn]? =w.heap[Dn]?
 Ev:=EvB p Sh
 gr w:=⟨RA.refl p w,rfl,rfl⟩
 gt h k:=⟨RA.trans _ _ _ h.1 k.1,k.2.1.trans h.2.1,k.2.2.trans h.2.2⟩
 em h k:=⟨fun x hx hm=>⟨(k.1 x hx hm).1.kept h.1.kept,(k.1 x hx hm).2⟩,k.2⟩
 dd h k:=⟨h.1,h.2.1,h.2.2,k⟩
 rely h r:=h.rely r
 has h hm:=h.has _ hm
 evc h hm i:=by
  refine⟨fun x hx _=> ?_,by simp,by simp⟩;simp only[MemAct.ofEvent,MemAct.touch?,Option.some.injEq] at hx;subst hx;exact⟨⟨_,rfl,h.lt hm,h.notFA hm⟩,fun s=>absurd s ((h.ap _ hm).2.2.1 _ rfl),fun _=>rfl⟩
 evo h hm:=by
  refine⟨fun x hx _=> ?_,by simp,by simp⟩;simp only[MemAct.ofEvent,MemAct.touch?,Option.some.injEq] at hx;subst hx;exact⟨⟨_,rfl,h.lt hm,h.notFA hm⟩,fun s=>absurd s ((h.ap _ hm).2.2.1 _ rfl),fun _=>rfl⟩
 set h hn hf:=h.set hn hf
 new h ho:=h.new ho
 draw h:=⟨h.draw,⟨RA.at p _ _,rfl,rfl⟩⟩
 nor w m hm:=by
  obtain⟨h1,h2,h3⟩:=lh hm;exact⟨fun x hx=>(by rw[h1] at hx;cases hx),by simpa using h2,by simpa using h3⟩
 sub h hs hn:={h with has:=fun t ht=>h.has t (hs t ht),ap:=fun t ht=>h.ap t (hs t ht),own:=fun t ht=>h.own t (hs t ht),nd:=hn}
 nd h:=h.nd
 ld w:=⟨RA.at p w (w.drawn+1),rfl,rfl,by simp⟩
end
structure Own0 (Sh:Loc->Prop)(W:World)(O:Nat)(L:Frag)(w:World):Prop where
 has: ∀t∈L,w.heap[t.1]? =some t.2.2
 ap: ∀t∈L,∀l,blk l=some t.1-> ¬Sh l
 own: ∀t∈L,t.2.1=true->O<=t.1
 nd:(L.map (·.1)).Nodup
 low: ∀l b,Sh l->blk l=some b->b<w.heap.size
 old:OldW W O w
section
variable {Sh:Loc->Prop}{W:World}{O:Nat}{L:Frag}{w w₁:World}
theorem Own0.lt (h:Own0 Sh W O L w){b:Nat}{fl:Bool}{o:Obj}(hm:(b,fl,o)∈L):b<w.heap.size:=(Array.getElem?_eq_some_iff.1 (h.has _ hm)).1
theorem nC {e:Event}{b:Nat}(hl:blk e.loc=some b)(h: ∀l,blk l=some b-> ¬Sh l) (hs:e.sync=false):EvP Sh e:=by
 obtain⟨l,wr,sy⟩:=e;obtain rfl:sy=false:=hs;cases l<;>simp only[blk] at hl<;>try cases hl
 ·refine⟨fun x hx s=> ?_,by simp,by simp⟩;simp only[MemAct.ofEvent,MemAct.touch?,Option.some.injEq] at hx;subst hx;exact absurd s (h _ rfl)
 ·refine⟨fun x hx s=> ?_,by simp,by simp⟩;cases wr<;>(simp only[MemAct.ofEvent,MemAct.touch?,Option.some.injEq] at hx;subst hx;exact absurd s (h _ rfl))
theorem Own0.set (h:Own0 Sh W O L w){n b:Nat}{o o':Obj}(hn:L[n]? =some (b,true,o)):Own0 Sh W O (L.set n (b,true,o')) (upd w b o'):=by
 have hm:=List.mem_of_getElem? hn;have hlt:=h.lt hm
 exact{h with
  has:=fun t ht=>by
   rcases cw h.nd hn ht with rfl|⟨h1,h2⟩
   ·exact upd_self hlt
   ·rw[eR h2];exact h.has t h1
  ap:=fun t ht=>by
   rcases cw h.nd hn ht with rfl|⟨h1,h2⟩
   ·exact h.ap (b,true,o) hm
   ·exact h.ap t h1
  own:=fun t ht hfl=>by
   rcases cw h.nd hn ht with rfl|⟨h1,h2⟩
   ·exact h.own (b,true,o) hm rfl
   ·exact h.own t h1 hfl
  nd:=by rw[jS hn];exact h.nd
  low:=fun l b s hb=>by simpa [upd] using h.low l b s hb
  old:=h.old.upd (h.own _ hm rfl) o'}
theorem Own0.new (h:Own0 Sh W O L w){o:Obj}:(∀t∈L,t.1≠w.heap.size)/\Own0 Sh W O ((w.heap.size,true,o)::L) (more w o):=by
 have hne: ∀t∈L,t.1≠w.heap.size:=fun t ht=>Nat.ne_of_lt (h.lt (fl:=t.2.1) (o:=t.2.2) ht);have hz:=h.old.z
 refine⟨hne,{h with
  has:=fun t ht=>by
   rcases List.mem_cons.1 ht with rfl|ht
   ·exact jA
   ·rw[dG (hne t ht)];exact h.has t ht
  ap:=fun t ht=>by
   rcases List.mem_cons.1 ht with rfl|ht
   ·exact fun l hl s=>by have:=h.low l _ s hl;simp only at this;omega
   ·exact h.ap t ht
  own:=fun t ht hfl=>by
   rcases List.mem_cons.1 ht with rfl|ht
   ·exact hz
   ·exact h.own t ht hfl
  nd:=by
   simp only[List.map_cons,List.nodup_cons];exact⟨fun hm=>by obtain⟨t,ht,e⟩:=List.mem_map.1 hm;exact hne t ht e,h.nd⟩
  low:=fun l b s hb=>by have:=h.low l b s hb;simp[more];omega
  old:=h.old.more o}⟩
def dom0 (Sh:Loc->Prop)(W:World)(O:Nat):Dom AtRel (D0 Sh) where
 New _:=True
 Own:=Own0 Sh W O
 Gu _ _:=True
 Ev _ e:=EvP Sh e
 gr _:=trivial
 gt _ _:=trivial
 em _ k:=k
 dd _ k:=k
 rely h r:=by obtain⟨d,rfl⟩:=r;exact{h with old:=⟨h.old.t,h.old.o,h.old.u,h.old.z,h.old.b⟩}
 has h hm:=h.has _ hm
 evc h hm _:=nC rfl (h.ap _ hm) rfl
 evo h hm:=nC rfl (h.ap _ hm) rfl
 set h hn _:=⟨h.set hn,trivial,fun _=>nC rfl (h.ap _ (List.mem_of_getElem? hn)) rfl,nC rfl (h.ap _ (List.mem_of_getElem? hn)) rfl⟩
 new h _:=⟨(h.new (o:=default)).1,h.new.2,trivial⟩
 draw h:=⟨{h with old:=h.old.drew},trivial⟩
 nor _ m hm:=by
  obtain⟨h1,h2,h3⟩:=lh hm;exact⟨fun x hx=>(by rw[h1] at hx;cases hx),by simpa using h2,by simpa using h3⟩
 sub h hs hn:={h with has:=fun t ht=>h.has t (hs t ht),ap:=fun t ht=>h.ap t (hs t ht),own:=fun t ht=>h.own t (hs t ht),nd:=hn}
 nd h:=h.nd
 ld w:=by simp[Hx.D0]
end
section
variable {p:Par}{Sh:Loc->Prop}{E Dn:Nat}{W:World}{O:Nat}{L:Frag}{w w₁:World}
structure Beside (p:Par)(E Dn:Nat)(G:List (Nat×Obj))(L:Frag)(w:World):Prop where
 h: ∀t∈G,w.heap[t.1]? =some t.2
 l: ∀t∈G,∀u∈L,u.1≠t.1
 a: ∀t∈G,t.1≠E/\t.1≠Dn/\t.1<p.N0
theorem Beside.rely {G:List (Nat×Obj)}(h:Beside p E Dn G L w)(hz:p.N0<=w.heap.size)(r:RB p E Dn w w₁):Beside p E Dn G L w₁:=
 ⟨fun t ht=>(r.block t.1 (by have:=(h.a t ht).2.2;omega) (fun f=>by have:=f.1;have:=(h.a t ht).2.2;omega) (h.a t ht).1 (h.a t ht).2.1).trans (h.h t ht),h.l,h.a⟩
def domV (p:Par)(Sh:Loc->Prop)(E Dn:Nat)(W:World)(O:Nat)(G:List (Nat×Obj)):Dom (RB p E Dn) (DT p Sh E Dn) where
 New:=(domW p Sh E Dn W O).New
 Own L w:=(domW p Sh E Dn W O).Own L w/\Beside p E Dn G L w
 Gu:=(domW p Sh E Dn W O).Gu
 Ev:=(domW p Sh E Dn W O).Ev
 gr:=(domW p Sh E Dn W O).gr
 gt:=(domW p Sh E Dn W O).gt
 em:=(domW p Sh E Dn W O).em
 dd:=(domW p Sh E Dn W O).dd
 rely h r:=⟨(domW p Sh E Dn W O).rely h.1 r,h.2.rely (show OwnW p Sh E Dn W O _ _ from h.1).sz r⟩
 has h:=(domW p Sh E Dn W O).has h.1
 evc h:=(domW p Sh E Dn W O).evc h.1
 evo h:=(domW p Sh E Dn W O).evo h.1
 set h hn hf:=by
  obtain⟨h1,h2,h3,h4⟩:=(domW p Sh E Dn W O).set h.1 hn hf;refine⟨⟨h1,fun t ht=> ?_,fun t ht u hu=> ?_,h.2.a⟩,h2,h3,h4⟩
  ·rw[eR (Ne.symm (h.2.l t ht _ (List.mem_of_getElem? hn)))];exact h.2.h t ht
  ·rcases cw ((domW p Sh E Dn W O).nd h.1) hn hu with rfl|⟨h5,_⟩
   ·have:=h.2.l t ht _ (List.mem_of_getElem? hn);exact this
   ·exact h.2.l t ht u h5
 new h ho:=by
  obtain⟨h1,h2,h3⟩:=(domW p Sh E Dn W O).new h.1 ho;have hz:=(show OwnW p Sh E Dn W O _ _ from h.1).sz;refine⟨h1,⟨h2,fun t ht=> ?_,fun t ht u hu=> ?_,h.2.a⟩,h3⟩
  ·rw[dG (by have:=(h.2.a t ht).2.2;omega)];exact h.2.h t ht
  ·rcases List.mem_cons.1 hu with rfl|hu
   ·have:=(h.2.a t ht).2.2;simp only;omega
   ·exact h.2.l t ht u hu
 draw h:=by
  obtain⟨h1,h2⟩:=(domW p Sh E Dn W O).draw h.1;exact⟨⟨h1,h.2.h,h.2.l,h.2.a⟩,h2⟩
 nor:=(domW p Sh E Dn W O).nor
 sub h hs hn:=⟨(domW p Sh E Dn W O).sub h.1 hs hn,h.2.h,fun t ht u hu=>h.2.l t ht u (hs u hu),h.2.a⟩
 nd h:=(domW p Sh E Dn W O).nd h.1
 ld:=(domW p Sh E Dn W O).ld
end
section
variable {P:Program}{p:Par}{Sh:Loc->Prop}{E Dn:Nat}{PostB:World->Prop}{Aft:Goroutine->World->Prop}{W:World}{O:Nat}{G:List (Nat×Obj)}{fn:FuncId}{N:Nat}{Q:List Value->Exit->Env->Frag->Prop}{ε:Env}{L:Frag}
abbrev domT (P:Program)(p:Par)(Sh:Loc->Prop)(E Dn:Nat)(PostB:World->Prop)(Aft:Goroutine->World->Prop)(W:World)(O:Nat)(G:List (Nat×Obj)): ∀s,Dom ((tellF P p Sh E Dn PostB Aft).R s) ((tellF P p Sh E Dn PostB Aft).D s):=fun _=>domV p Sh E Dn W O G
theorem AE {ops:Array Oper}{i:Nat}{rest:List Nat}{d:Option Tmp}{x y:Operand}{ot:TypeId}{ps:String}{af:Array Edge}{g:Option (Nat×Bool)}{n:Nat}{v:Value}{vs:List Value}(ho:ops[i]? =some ⟨d, .send x y,ot,ps,af,g⟩)
 (hx:ev ε x=some (.chan (some E)):=by rfl) (hy:ev ε y=some v:=by rfl) (hw:wantedE ops N ε g=some true:=by rfl) (hd:dstOk N d=true:=by rfl)
 (h:OpsE (domT P p Sh E Dn PostB Aft W O G) P false fn N ops rest n vs Q (putE d undef ε) L):
 OpsE (domT P p Sh E Dn PostB Aft W O G) P false fn N ops (i::rest) 0 (v::vs) Q ε L:=by
 intro a ha w hO;refine s3 (z':= .tuple #[]) ho (ha.wanted hw) (fun w₁ h₁=>⟨?_, ?_⟩) fun w₂ h₂=>h _ (ha.put hd undef) w₂ ((domV p Sh E Dn W O G).rely hO h₂)
 ·simp only[execOp,ha.ev hx,ha.ev hy];rfl
 ·intro e he;have hm:=mem_listed he;simp[execOp,go_sem] at hm
end
end Go.Lo
namespace Go.Proofs.YtejkelcaljmnoaaGreatDoor
open Go.Conc Go.Hx Go.Lo
def evt (now kind id x:Int):Value:= .agg #[.int .i64 now, .int .i64 kind, .int .i64 id, .int .i64 x]
theorem zV (a b c d:Int):evR Tryz.prog (Instr.build 51 [(0, .int .i64 a),(1, .int .i64 b),(2, .int .i64 c),(3, .int .i64 d)].toArray) []=some (evt a b c d,[]):=by kernel_rfl
section
variable {p:Par}{Sh:Loc->Prop}{E Dn:Nat}{PostB:World->Prop}{Aft:Goroutine->World->Prop}{W:World}{O:Nat}{G0:List (Nat×Obj)}
theorem nD: ∃n,∀{p:Par}{Sh:Loc->Prop}{E Dn:Nat}{PostB:World->Prop}{Aft:Goroutine->World->Prop}{W:World}{O:Nat}{G0:List (Nat×Obj)}{vs:List Value}(K:Nat)(A:Lay)(S:St)(Fr L:Frag)(kind id a:Int),Rep K A S Fr L->
 CallsL (domT Tryz.prog p Sh E Dn PostB Aft W O G0) Tryz.prog false 83 [ptr K, .chan (some E), .int .i64 kind, .int .i64 id, .int .i64 a].toArray n (evt S.now kind id a::vs) L (fun s' v L'=>vs=s'/\L=L'/\v= .tuple #[]):=by
 apply Exists.intro;intro p Sh E Dn PostB Aft W O G0 vs K A S Fr L kind id a hR;have hn:At L K 16 (.int .i64 (S.now:Nat)):=hR.kat rfl;co_applyP aF 19 Tryz.func83 Tryz.ntmps83;co_applyP aq;co_applyP om rfl rfl rfl ag;co_applyP oy rfl av;co_applyP oy rfl (ak (hf:=cg));co_applyP oy rfl (aA (ht:=aR));co_applyP om rfl rfl rfl ag;co_applyP om rfl rfl rfl (bi (zV _ _ _ _));co_applyP AE rfl;co_applyP ai;change∃v,resE .. =some v/\_;exact⟨_,rfl,rfl,rfl,rfl⟩
end
def St.stop1 (S:St)(b:Nat)(x:PS)(s:Nat):St:=(S.setP b {x with st:=s}).setRow x.lv ((S.rows x.lv).erase b)
section
variable {S S':St}{b:Nat}{x x':PS}{k:Nat×Nat}
theorem bK {c:Nat}{y:PS}(h:(c,y)∈S.ps)(hne:c≠b):(c,y)∈(S.setP b x').ps:=by
 simp only[St.setP,List.mem_map];exact⟨(c,y),h,by rw[if_neg hne]⟩
theorem Good.stop1 (h:Good S)(hb:(b,x)∈S.ps){s:Nat}(hs:s≠1):Good (S.stop1 b x s):=by
 have hlv:=h.lv _ hb;have rows: ∀l,(S.stop1 b x s).rows l=if l=x.lv then(S.rows x.lv).erase b else S.rows l:=fun l=>rfl;refine⟨by unfold St.stop1 St.setRow;rw[ba];exact h.pn,by unfold St.stop1 St.setRow;rw[fj];exact h.p8,fun q hq=> ?_,fun l hl=> ?_,fun l hl c hc=> ?_,fun q hq h1=> ?_⟩
 ·rcases aO hq with rfl|⟨h1,_⟩
  ·exact hlv
  ·exact h.lv q h1
 ·rw[rows]
  split
  ·exact(h.rn _ hlv).sublist List.erase_sublist
  ·exact h.rn l hl
 ·rw[rows] at hc;have old:c≠b->c∈S.rows l-> ∃y,(c,y)∈(S.stop1 b x s).ps/\y.lv=l/\y.st=1:=fun hne hc'=>by
   obtain⟨y,hy,h1,h2⟩:=h.rm l hl c hc';exact⟨y,bK hy hne,h1,h2⟩
  split at hc
  ·rename_i e;subst e;refine old (fun e=> ?_) (List.mem_of_mem_erase hc);rw[e] at hc;exact(List.Nodup.not_mem_erase (h.rn _ hlv)) hc
  ·rename_i e;refine old (fun e'=> ?_) hc;obtain⟨y,hy,h1,h2⟩:=h.rm l hl c hc;rw[e'] at hy;rw[a6 h.pn hb hy] at e;exact e h1.symm
 ·rw[rows];rcases aO hq with rfl|⟨h2,h3⟩
  ·exact absurd h1 hs
  ·have:=h.rr q h2 h1
   split
   ·rename_i e;rw[e] at this;exact(List.mem_erase_of_ne h3).2 this
   ·exact this
theorem Inv.stop1 (h:Inv S)(hb:(b,x)∈S.ps)(ho:S.out b){s:Nat}(hs:s≠1):Inv (S.stop1 b x s) where
 g:=h.g.stop1 hb hs
 wf:=fun q hq=>by
  rcases aO hq with rfl|⟨h1,_⟩
  ·exact⟨(h.wf _ hb).r,(h.wf _ hb).m⟩
  ·exact h.wf q h1
 fl:=fun q hq=>by
  rcases aO hq with rfl|⟨h1,_⟩
  ·exact h.fl (b,x) hb
  ·exact h.fl q h1
 y8:=h.y8
 yb:=h.yb
 kn:=h.kn
 ne:=h.ne
 nd:=h.nd
 ke:=h.ke
 rm:=fun e he c hc=>by
  obtain⟨y,hy,ha⟩:=h.rm e he c hc;exact⟨y,bK hy (by rintro rfl;exact ho e he hc),ha⟩
theorem Inv.alike (h:Inv S)(hb:(b,x)∈S.ps)(hs:x'.st=x.st)(hl:x'.lv=x.lv)(hr:x'.r=x.r)(hf:x'.f=x.f)(hm:x'.m=x.m):Inv (S.setP b x') where
 g:=h.g.like hb hs hl
 wf:=fun q hq=>by
  rcases aO hq with rfl|⟨h1,_⟩
  ·exact⟨by rw[hr];exact(h.wf _ hb).r,by rw[hm];exact(h.wf _ hb).m⟩
  ·exact h.wf q h1
 fl:=fun q hq=>by
  rcases aO hq with rfl|⟨h1,_⟩
  ·rw[hf];exact h.fl (b,x) hb
  ·exact h.fl q h1
 y8:=h.y8
 yb:=h.yb
 kn:=h.kn
 ne:=h.ne
 nd:=h.nd
 ke:=h.ke
 rm:=fun e he c hc=>by
  obtain⟨y,hy,ha⟩:=h.rm e he c hc;by_cases ecb:c=b
  ·subst ecb;obtain rfl:=a6 h.g.pn hb hy;refine⟨x',ar hb, ?_,by rw[hr];exact ha.a,by rw[hr];exact ha.w,by rw[hs];exact ha.s⟩;have:=ha.f;unfold PS.file at*;rw[hr,hf];exact this
  ·exact⟨y,bK hy ecb,ha⟩
theorem Inv.orphs (id:Nat): ∀(bs:List Nat){S:St},Inv S->Inv (S.orphs id bs)/\(S.orphs id bs).ps.map (·.1)=S.ps.map (·.1)
 |[],S,h=>⟨h,rfl⟩
 |b::bs,S,h=>by
  unfold St.orphs;cases hg:S.get b with
  |none=>exact Inv.orphs id bs h
  |some y=>
   simp only
   split
   ·have hb:=bh hg;have:=Inv.orphs id bs (h.alike (x':={y with par:=1}) hb rfl rfl rfl rfl rfl);exact⟨this.1,by rw[this.2,ba]⟩
   ·exact Inv.orphs id bs h
theorem Inv.erase (h:Inv S){i c:Nat}{y:PS}(hi:S.ps[i]? =some (c,y))(hy:y.st=6){ls:Nat}:Inv {S.setPs (S.ps.eraseIdx i) with last:=ls} where
 g:=h.g.erase hi (by omega)
 wf:=fun q hq=>h.wf q (List.mem_of_mem_eraseIdx hq)
 fl:=fun q hq=>h.fl q (List.mem_of_mem_eraseIdx hq)
 y8:=h.y8
 yb:=h.yb
 kn:=h.kn
 ne:=h.ne
 nd:=h.nd
 ke:=h.ke
 rm:=fun e he c' hc=>by
  obtain⟨z,hz,ha⟩:=h.rm e he c' hc;refine⟨z, ?_,ha⟩;show (c',z)∈S.ps.eraseIdx i;obtain⟨j,hj⟩:=List.getElem?_of_mem hz;have hji:j≠i:=fun e'=>by
   subst e';rw[hj] at hi;simp at hi;have h1:=ha.s;rw[hi.2] at h1;rcases(h.ke e he).2 with h2|h2<;>omega
  rw[List.mem_eraseIdx_iff_getElem?];exact⟨j,hji,hj⟩
theorem yx (h:WF x)(y:PS):WF (told x y):=⟨fun i hi=>by
 show 0<=put (put x.r 0 ((y.id:Int)%65536)) 1 (y.stat%65536) i/\put (put x.r 0 ((y.id:Int)%65536)) 1 (y.stat%65536) i<65536;unfold put;have:=h.r i hi
 split
 ·omega
 ·split
  ·omega
  ·exact this,h.m⟩
end
def St.fin (S:St)(b:Nat)(x:PS)(status:Int):St:=
 let S2:=((S.depart b (x.file (x.r 0))).stop1 b x 6).setP b {x with st:=6,stat:=status}
 let S3:=S2.shuts b x.f (List.range' 0 6)
 let S4:=S3.orphs x.id (S3.ps.map (·.1))
 S4.parents (S4.ps.map (·.1))
def PS.r0 (x:PS)(v:Int):PS:={x with r:=put x.r 0 v}
theorem eU (x:PS)(v:Int):(pcells x).setIfInBounds (7+0) (.int .u16 v)=pcells (x.r0 v):=fD x (by omega) v
theorem vN (x:PS)(v:Int):(pcells x).setIfInBounds 91 (.int .i64 v)=pcells {x with til:=v}:=by rfl
def St.sleep1 (S:St)(b:Nat)(x:PS):St:=if x.r 0=0 then S.setP b (x.r0 0) else(S.setP b {x.r0 0 with til:=(S.now:Int)+x.r 0}).stop1 b {x.r0 0 with til:=(S.now:Int)+x.r 0} 3
def St.yield1 (S:St)(b:Nat)(x:PS):St:=
 let S2:=(S.setP b (x.r0 0)).setRow x.lv ((S.rows x.lv).erase b)
 S2.setRow x.lv (S2.rows x.lv++[b])
theorem yy: ∃n,∀{σ}{F:Fam σ}{Δ:DM F}{main s}(K:Nat)(A:Lay)(S:St)(Fr L:Frag)(b:Nat)(x:PS),Rep K A S Fr L->Inv S->(b,x)∈S.ps->S.now<4611686018427387904->x.r 0=0->
 CallsL Δ Tryz.prog main 134 [ptr K,ptr b].toArray n s L (fun s' v L'=>s=s'/\v= .tuple #[]/\ ∃A',Rep K A' (S.sleep1 b x) Fr L'):=by
 obtain⟨n1,g1⟩:=nj;apply Exists.intro;intro σ F Δ main s K A S Fr L b x hR hI hb hnow h0;have hlv:=hI.g.lv _ hb;have wx0:0<=x.r 0/\x.r 0<65536:=(hI.wf _ hb).r 0 (by omega);have w0:IntKind.i64.wrap (x.r 0)=x.r 0:=by simp[IntKind.wrap_i64];omega
 have w1:IntKind.i64.wrap ((S.now:Int)+x.r 0)=(S.now:Int)+x.r 0:=by simp[IntKind.wrap_i64];omega
 have hx0:At L b 7 (.int .u16 (x.r 0)):=hR.pat hb (cC x (i:=0) (by omega));co_applyP aF 31 Tryz.func134 Tryz.ntmps134;co_applyP aa;co_applyP om rfl rfl rfl av;co_applyP oy rfl (ak (hf:=aM));co_applyP oy rfl (ak (hf:=aW));co_applyP oy rfl (aX U47 aV);co_applyP oy rfl (aA (ht:=dw));co_applyP oy rfl (cF (hs:=U32) (ht:=U3));co_applyP oan rfl;co_applyP aa;co_applyP om rfl rfl rfl av;co_applyP oy rfl (ak (hf:=aM));co_applyP oy rfl (ak (hf:=aW));co_applyP oy rfl (aX U47 aV);simp only[w0];co_applyP osm rfl (hs:=aV) (hm:=hR.p _ hb) (hi:=by first|decide|(rw[bL];omega)|(rw[bU];omega));intro L1 hU1;have hR1:=hR.setP (x':=x.r0 0) hb (by rw[<-eU];exact hU1);have hb1:(b,x.r0 0)∈(S.setP b (x.r0 0)).ps:=ar hb;have hn1:At L1 K 16 (.int .i64 (S.now:Nat)):=hR1.kat rfl;have e0:(x.r 0==0)=true:=by simp[h0]
 co_applyP ai;co_applyP au (n₂:=0);co_applyP aa;co_applyP om rfl rfl rfl aI;co_applyP ai;change wpE ..;rw[e0];co_applyP bv rfl;co_applyP aK;change∃v,resE .. =some v/\_;exact⟨_,rfl,rfl,rfl,A,by unfold St.sleep1;rw[if_pos h0];exact hR1⟩
theorem yz: ∃n,∀{σ}{F:Fam σ}{Δ:DM F}{main s}(K:Nat)(A:Lay)(S:St)(Fr L:Frag)(b:Nat)(x:PS),Rep K A S Fr L->Inv S->(b,x)∈S.ps->S.now<4611686018427387904->x.r 0≠0->
 CallsL Δ Tryz.prog main 134 [ptr K,ptr b].toArray n s L (fun s' v L'=>s=s'/\v= .tuple #[]/\ ∃A',Rep K A' (S.sleep1 b x) Fr L'):=by
 obtain⟨n1,g1⟩:=nj;apply Exists.intro;intro σ F Δ main s K A S Fr L b x hR hI hb hnow h0;have hlv:=hI.g.lv _ hb;have wx0:0<=x.r 0/\x.r 0<65536:=(hI.wf _ hb).r 0 (by omega);have w0:IntKind.i64.wrap (x.r 0)=x.r 0:=by simp[IntKind.wrap_i64];omega
 have w1:IntKind.i64.wrap ((S.now:Int)+x.r 0)=(S.now:Int)+x.r 0:=by simp[IntKind.wrap_i64];omega
 have hx0:At L b 7 (.int .u16 (x.r 0)):=hR.pat hb (cC x (i:=0) (by omega));co_applyP aF 31 Tryz.func134 Tryz.ntmps134;co_applyP aa;co_applyP om rfl rfl rfl av;co_applyP oy rfl (ak (hf:=aM));co_applyP oy rfl (ak (hf:=aW));co_applyP oy rfl (aX U47 aV);co_applyP oy rfl (aA (ht:=dw));co_applyP oy rfl (cF (hs:=U32) (ht:=U3));co_applyP oan rfl;co_applyP aa;co_applyP om rfl rfl rfl av;co_applyP oy rfl (ak (hf:=aM));co_applyP oy rfl (ak (hf:=aW));co_applyP oy rfl (aX U47 aV);simp only[w0];co_applyP osm rfl (hs:=aV) (hm:=hR.p _ hb) (hi:=by first|decide|(rw[bL];omega)|(rw[bU];omega));intro L1 hU1;have hR1:=hR.setP (x':=x.r0 0) hb (by rw[<-eU];exact hU1);have hb1:(b,x.r0 0)∈(S.setP b (x.r0 0)).ps:=ar hb;have hn1:At L1 K 16 (.int .i64 (S.now:Nat)):=hR1.kat rfl;have e0:(x.r 0==0)=false:=by simp[h0]
 co_applyP ai;co_applyP au;co_applyP aa;co_applyP om rfl rfl rfl aI;co_applyP ai;change wpE ..;rw[e0];co_applyP aE rfl;co_applyP aB;co_applyP aa;co_applyP om rfl rfl rfl ag;co_applyP oy rfl av;co_applyP oy rfl (ak (hf:=cg));co_applyP oy rfl (aA (ht:=aR));co_applyP om rfl rfl rfl aS;co_applyP oy rfl av;co_applyP oy rfl (ak (hf:=rS));simp only[w1];co_applyP osm rfl (hs:=bS) (hm:=hR1.p _ hb1) (hi:=by first|decide|(rw[bL];omega)|(rw[bU];omega));intro L2 hU2;have hR2:=hR1.setP (x':={x.r0 0 with til:=(S.now:Int)+x.r 0}) hb1 (by rw[<-vN];exact hU2);rw[bI] at hR2;co_applyP ai;co_applyP aq;co_applyP om rfl rfl rfl ag;co_applyP oc rfl rfl rfl (g1 K A _ Fr L2 b _ 3 hR2 (ar hb) hlv (hI.g.r8 hlv) (fun c hc=>jQ (hI.g.ex hlv c hc)) (fun e he=>dC e.1 hlv));rintro _ _ _ ⟨rfl,rfl,A3,hw3,hR3⟩;co_applyP ai;change∃v,resE .. =some v/\_;exact⟨_,rfl,rfl,rfl,A3,by unfold St.sleep1;rw[if_neg h0];exact hR3⟩
theorem yA: ∃n,∀{σ}{F:Fam σ}{Δ:DM F}{main s}(K:Nat)(A:Lay)(S:St)(Fr L:Frag)(b:Nat)(x:PS),Rep K A S Fr L->Inv S->(b,x)∈S.ps->S.now<4611686018427387904->
 CallsL Δ Tryz.prog main 134 [ptr K,ptr b].toArray n s L (fun s' v L'=>s=s'/\v= .tuple #[]/\ ∃A',Rep K A' (S.sleep1 b x) Fr L'):=by
 obtain⟨n0,g0⟩:=yy;obtain⟨n1,g1⟩:=yz;exact⟨n0+n1,fun{σ F Δ main s} K A S Fr L b x hR hI hb hnow=>aZ (x.r 0=0) (fun h=>g0 K A S Fr L b x hR hI hb hnow h) fun h=>g1 K A S Fr L b x hR hI hb hnow h⟩
theorem yB: ∃n,∀{σ}{F:Fam σ}{Δ:DM F}{main s}(K:Nat)(A:Lay)(S:St)(Fr L:Frag)(b:Nat)(x:PS),(∀cs,(Δ s).New (.cells cs 93))->Rep K A S Fr L->Inv S->(b,x)∈S.ps->
 CallsL Δ Tryz.prog main 135 [ptr K,ptr b].toArray n s L (fun s' v L'=>s=s'/\v= .tuple #[]/\ ∃A',Rep K A' (S.yield1 b x) Fr L'):=by
 obtain⟨n1,g1⟩:=ni;obtain⟨n2,g2⟩:=qX;apply Exists.intro;intro σ F Δ main s K A S Fr L b x hN hR hI hb;have hlv:=hI.g.lv _ hb;co_applyP aF 19 Tryz.func135 Tryz.ntmps135;co_applyP aa;co_applyP om rfl rfl rfl av;co_applyP oy rfl (ak (hf:=aM));co_applyP oy rfl (ak (hf:=aW));co_applyP oy rfl (aX U47 aV);co_applyP osm rfl (hs:=aV) (hm:=hR.p _ hb) (hi:=by first|decide|(rw[bL];omega)|(rw[bU];omega));intro L1 hU1;have hR1:=hR.setP (x':=x.r0 0) hb (by rw[<-eU];exact hU1);have hb1:(b,x.r0 0)∈(S.setP b (x.r0 0)).ps:=ar hb;co_applyP ai;co_applyP aa;co_applyP om rfl rfl rfl av;co_applyP oy rfl (ak (hf:=dA));co_applyP oy rfl ag;co_applyP oc rfl rfl rfl (g1 K A _ Fr L1 b _ hR1 hb1 hlv (hI.g.r8 hlv) (fun c hc=>jQ (hI.g.ex hlv c hc)) (fun e he=>dC e.1 hlv));rintro _ _ _ ⟨rfl,rfl,A2,hw2,hR2⟩;co_applyP ai;co_applyP aq;co_applyP om rfl rfl rfl av;co_applyP oy rfl (ak (hf:=dA));co_applyP oy rfl ag;rename_i L2;have h8:(((S.setP b (x.r0 0)).setRow x.lv ((S.rows x.lv).erase b)).rows x.lv).length<=8:=by
  have e:((S.setP b (x.r0 0)).setRow x.lv ((S.rows x.lv).erase b)).rows x.lv=(S.rows x.lv).erase b:=by simp[St.setRow,put]
  rw[e];exact Nat.le_trans List.length_erase_le (hI.g.r8 hlv)
 co_applyP oc rfl rfl rfl (g2 K A2 _ Fr L2 b (x.r0 0) hN hR2 hb1 hlv h8 (fun e he=>dC e.1 hlv));rintro _ _ _ ⟨rfl,rfl,A3,hw3,hR3⟩;co_applyP ai;change∃v,resE .. =some v/\_;exact⟨_,rfl,rfl,rfl,A3,hR3⟩
theorem vO: ∃n,∀{σ}{F:Fam σ}{Δ:DM F}{main s}(L:Frag)(K b:Nat)(ch:Value),
 CallsL Δ Tryz.prog main 84 [ptr K,ptr b, .nilIface,ch].toArray n s L (fun s' v L'=>s=s'/\L=L'/\v= .tuple #[]):=by
 apply Exists.intro;intro σ F Δ main s L K b ch;co_applyP aF 20 Tryz.func84 Tryz.ntmps84;co_applyP aa;co_applyP om rfl rfl rfl (eQ (v:= .nilIface) (c:=true) (hv:= .inl ⟨rfl,rfl⟩) (hu:=Tryz.underlying168));co_applyP oy rfl ag;co_applyP ou rfl;co_applyP ou rfl;co_applyP ou rfl;co_applyP ou rfl;co_applyP oy rfl aH;co_applyP ai;co_applyP aE rfl;co_applyP aB;change∃v,resE .. =some v/\_;exact⟨_,rfl,rfl,rfl,rfl⟩
theorem vP: ∃n,∀{σ}{F:Fam σ}{Δ:DM F}{main s}(K:Nat)(A:Lay)(S:St)(Fr L:Frag)(eb:Nat->Nat×Nat)(b:Nat)(x:PS)(r i:Nat)(ch:Value),NewK (Δ s)->Rep K A S Fr L->Ers eb Fr->(b,x)∈S.ps->At L r 1 (erv eb i)->i<11->i≠2->
 CallsL Δ Tryz.prog main 84 [ptr K,ptr b, .iface 180 (ptr r),ch].toArray n s L (fun s' v L'=>s=s'/\v= .tuple #[]/\Rep K A (S.setP b (x.r0 (ansOf i))) Fr L'):=by
 obtain⟨n1,g1⟩:=q5;apply Exists.intro;intro σ F Δ main s K A S Fr L eb b x r i ch hN hR hE hb hr hi hi2;co_applyP aF 20 Tryz.func84 Tryz.ntmps84;co_applyP aa;co_applyP om rfl rfl rfl (eQ (v:= .iface 180 (ptr r)) (c:=false) (hv:= .inr ⟨_,_,rfl,rfl⟩) (hu:=Tryz.underlying168));co_applyP om rfl rfl rfl (ag);co_applyP oy rfl (ag);co_applyP oc rfl rfl rfl (g1 K A S Fr L eb b x r i hN.toNewE hR hE hb hr hi hi2);rintro _ _ _ ⟨rfl,rfl,hR1⟩;co_applyP oy rfl (cP);co_applyP oy rfl aH;co_applyP ai;co_applyP aE rfl;co_applyP aB;change∃v,resE .. =some v/\_;exact⟨_,rfl,rfl,rfl,hR1⟩
def erV (eb:Nat->Nat×Nat):Option Nat->Value
 |none=> .nilIface
 |some i=>erv eb i
def Stays (b:Nat)(S:St)(G:Frag):Prop:=(∃z,(b,z)∈S.ps)\/ ∃z,pb b z∈G/\z.st=6
def St.hasChild (S:St)(x:PS):Bool:=S.ps.any fun q=>decide (q.2.par=x.id)
def St.waitR (S:St)(b:Nat)(x:PS):Option Nat×St:=if S.hasChild x then(none,match S.childAt x with
 |some i=>S.take b x i
 |none=>S.stop1 b x 2) else(some 5,S)
theorem AF: ∃n,∀{σ}{F:Fam σ}{Δ:DM F}{main s}(K:Nat)(A:Lay)(S:St)(Fr L:Frag)(eb:Nat->Nat×Nat)(b:Nat)(x:PS),Rep K A S Fr L->Ers eb Fr->(b,x)∈S.ps->S.hasChild x=false->
 CallsL Δ Tryz.prog main 132 [ptr K,ptr b].toArray n s L (fun s' v L'=>s=s'/\v=erv eb 5/\Rep K A S Fr L'):=by
 obtain⟨n0,g0⟩:=dD;obtain⟨n1,g1⟩:=eK n0;apply Exists.intro;intro σ F Δ main s K A S Fr L eb b x hR hE hb hch;obtain⟨base,cap,hv,hat0⟩:=bY hR.pa;simp only[List.length_map] at hv;have h5:At L K 5 (.slice base (S.ps.map (·.1)).length cap):=by rw[List.length_map,<-hv];exact hR.kat rfl
 have hcl: ∀c∈S.ps.map (·.1),∀L',Ext L L'->CallsL Δ Tryz.prog main 128 ([ptr b]++[ptr c]++[]).toArray n0 s L' (fun s' v L''=>s=s'/\v= .bool (S.testB (fun y=>decide (y.par=x.id)) c)/\Ext L' L''):=by
  intro c hc L' hE';obtain⟨q,hq,rfl⟩:=List.mem_map.1 hc;have e:S.testB (fun y=>decide (y.par=x.id)) q.1=decide (q.2.par=x.id):=by simp[St.testB,bk hR.pn (b:=q.1) (x:=q.2) hq]
  rw[e];refine aU (g0 L' b q.1 x q.2 (hE'.s _ (hR.p _ hb)) (hE'.s _ (hR.p _ hq))) fun s' v L'' ⟨h1,h2,h3⟩=>⟨h1,h3, ?_⟩;subst h2;exact⟨hE'.f,fun _ h=>h⟩
 co_applyP aF 21 Tryz.func132 Tryz.ntmps132;co_applyP aa;co_applyP oan rfl;co_applyP au (n₂:=0);co_applyP aa;co_applyP om rfl rfl rfl av;co_applyP oy rfl (ak (hf:=bX));co_applyP oy rfl (aA (ht:=dz));co_applyP om rfl rfl rfl qP;co_applyP oc rfl rfl rfl (g1 L 128 _ [ptr b] [] (S.ps.map (·.1)) (S.testB fun y=>decide (y.par=x.id)) base cap (fun i v hv=>by obtain⟨b,_,h2,h3⟩:=hat0 i v (by simpa using hv);exact⟨b,h2,h3⟩) (by simpa using hR.p8) Tryz.func128 rfl rfl hcl);rintro _ _ _ ⟨rfl,rfl,hE1⟩;co_applyP oy rfl cP;co_applyP ai;change wpE ..;rename_i L1;have e1:(S.ps.map (·.1)).any (S.testB fun y=>decide (y.par=x.id))=false:=by rw[jw hR.pn];exact hch
 have hR1:=hR.ext hE1;have hg:=(hE.mono hR1.fr).g 5 (by decide) (by decide);rw[e1];co_applyP bv rfl;co_applyP aa;co_applyP oy rfl (aA (ht:=dh));co_applyP oan rfl;co_applyP aK;change∃v,resE .. =some v/\_;exact⟨_,rfl,rfl,rfl,hR1⟩
theorem AG: ∃n,∀{σ}{F:Fam σ}{Δ:DM F}{main s}(K:Nat)(A:Lay)(S:St)(Fr L:Frag)(b:Nat)(x:PS),(∀cs,(Δ s).New (.cells cs 93))->Rep K A S Fr L->Inv S->(b,x)∈S.ps->x.st≠6->S.hasChild x=true->S.childAt x=none->
 CallsL Δ Tryz.prog main 132 [ptr K,ptr b].toArray n s L (fun s' v L'=>s=s'/\v= .nilIface/\ ∃A',Rep K A' (S.stop1 b x 2) Fr L'):=by
 obtain⟨n0,g0⟩:=dD;obtain⟨n1,g1⟩:=eK n0;obtain⟨n2,g2⟩:=jy;obtain⟨n3,g3⟩:=nj;apply Exists.intro;intro σ F Δ main s K A S Fr L b x hN hR hI hb hx6 hch hca;have hlv:=hI.g.lv _ hb;obtain⟨base,cap,hv,hat0⟩:=bY hR.pa;simp only[List.length_map] at hv;have h5:At L K 5 (.slice base (S.ps.map (·.1)).length cap):=by rw[List.length_map,<-hv];exact hR.kat rfl
 have hcl: ∀c∈S.ps.map (·.1),∀L',Ext L L'->CallsL Δ Tryz.prog main 128 ([ptr b]++[ptr c]++[]).toArray n0 s L' (fun s' v L''=>s=s'/\v= .bool (S.testB (fun y=>decide (y.par=x.id)) c)/\Ext L' L''):=by
  intro c hc L' hE';obtain⟨q,hq,rfl⟩:=List.mem_map.1 hc;have e:S.testB (fun y=>decide (y.par=x.id)) q.1=decide (q.2.par=x.id):=by simp[St.testB,bk hR.pn (b:=q.1) (x:=q.2) hq]
  rw[e];refine aU (g0 L' b q.1 x q.2 (hE'.s _ (hR.p _ hb)) (hE'.s _ (hR.p _ hq))) fun s' v L'' ⟨h1,h2,h3⟩=>⟨h1,h3, ?_⟩;subst h2;exact⟨hE'.f,fun _ h=>h⟩
 co_applyP aF 21 Tryz.func132 Tryz.ntmps132;co_applyP aa;co_applyP oan rfl;co_applyP au;co_applyP aa;co_applyP om rfl rfl rfl av;co_applyP oy rfl (ak (hf:=bX));co_applyP oy rfl (aA (ht:=dz));co_applyP om rfl rfl rfl qP;co_applyP oc rfl rfl rfl (g1 L 128 _ [ptr b] [] (S.ps.map (·.1)) (S.testB fun y=>decide (y.par=x.id)) base cap (fun i v hv=>by obtain⟨b,_,h2,h3⟩:=hat0 i v (by simpa using hv);exact⟨b,h2,h3⟩) (by simpa using hR.p8) Tryz.func128 rfl rfl hcl);rintro _ _ _ ⟨rfl,rfl,hE1⟩;co_applyP oy rfl cP;co_applyP ai;change wpE ..;rename_i L1;have e1:(S.ps.map (·.1)).any (S.testB fun y=>decide (y.par=x.id))=true:=by rw[jw hR.pn];exact hch
 have hR1:=hR.ext hE1;rw[e1];co_applyP aE rfl;co_applyP aB;co_applyP au;co_applyP aa;co_applyP om rfl rfl rfl ag;co_applyP oc rfl rfl rfl (g2 K A S Fr L1 b x hN hR1 hb hx6);rintro _ _ _ ⟨rfl,hpost⟩;rename_i v2 L2;rw[hca] at hpost;obtain⟨rfl,hR2⟩:=hpost;co_applyP oy rfl cP;co_applyP ai;co_applyP bv rfl;co_applyP aq;co_applyP om rfl rfl rfl ag;co_applyP oc rfl rfl rfl (g3 K A S Fr L2 b x 2 hR2 hb hlv (hI.g.r8 hlv) (hI.g.ex hlv) (fun e he=>dC e.1 hlv));rintro _ _ _ ⟨rfl,rfl,A3,hw3,hR3⟩;co_applyP ai;co_applyP aa;co_applyP oan rfl;co_applyP aK;change∃v,resE .. =some v/\_;exact⟨_,rfl,rfl,rfl,A3,hR3⟩
theorem AH: ∃n,∀{σ}{F:Fam σ}{Δ:DM F}{main s}(K:Nat)(A:Lay)(S:St)(Fr L:Frag)(b:Nat)(x:PS)(i:Nat),(∀cs,(Δ s).New (.cells cs 93))->Rep K A S Fr L->Inv S->(b,x)∈S.ps->x.st≠6->S.hasChild x=true->S.childAt x=some i->
 CallsL Δ Tryz.prog main 132 [ptr K,ptr b].toArray n s L (fun s' v L'=>s=s'/\v= .nilIface/\ ∃A',Rep K A' (S.take b x i) Fr L'):=by
 obtain⟨n0,g0⟩:=dD;obtain⟨n1,g1⟩:=eK n0;obtain⟨n2,g2⟩:=jy;apply Exists.intro;intro σ F Δ main s K A S Fr L b x i hN hR hI hb hx6 hch hca;obtain⟨base,cap,hv,hat0⟩:=bY hR.pa;simp only[List.length_map] at hv;have h5:At L K 5 (.slice base (S.ps.map (·.1)).length cap):=by rw[List.length_map,<-hv];exact hR.kat rfl
 have hcl: ∀c∈S.ps.map (·.1),∀L',Ext L L'->CallsL Δ Tryz.prog main 128 ([ptr b]++[ptr c]++[]).toArray n0 s L' (fun s' v L''=>s=s'/\v= .bool (S.testB (fun y=>decide (y.par=x.id)) c)/\Ext L' L''):=by
  intro c hc L' hE';obtain⟨q,hq,rfl⟩:=List.mem_map.1 hc;have e:S.testB (fun y=>decide (y.par=x.id)) q.1=decide (q.2.par=x.id):=by simp[St.testB,bk hR.pn (b:=q.1) (x:=q.2) hq]
  rw[e];refine aU (g0 L' b q.1 x q.2 (hE'.s _ (hR.p _ hb)) (hE'.s _ (hR.p _ hq))) fun s' v L'' ⟨h1,h2,h3⟩=>⟨h1,h3, ?_⟩;subst h2;exact⟨hE'.f,fun _ h=>h⟩
 co_applyP aF 21 Tryz.func132 Tryz.ntmps132;co_applyP aa;co_applyP oan rfl;co_applyP au;co_applyP aa;co_applyP om rfl rfl rfl av;co_applyP oy rfl (ak (hf:=bX));co_applyP oy rfl (aA (ht:=dz));co_applyP om rfl rfl rfl qP;co_applyP oc rfl rfl rfl (g1 L 128 _ [ptr b] [] (S.ps.map (·.1)) (S.testB fun y=>decide (y.par=x.id)) base cap (fun i v hv=>by obtain⟨b,_,h2,h3⟩:=hat0 i v (by simpa using hv);exact⟨b,h2,h3⟩) (by simpa using hR.p8) Tryz.func128 rfl rfl hcl);rintro _ _ _ ⟨rfl,rfl,hE1⟩;co_applyP oy rfl cP;co_applyP ai;change wpE ..;rename_i L1;have e1:(S.ps.map (·.1)).any (S.testB fun y=>decide (y.par=x.id))=true:=by rw[jw hR.pn];exact hch
 have hR1:=hR.ext hE1;rw[e1];co_applyP aE rfl;co_applyP aB;co_applyP au;co_applyP aa;co_applyP om rfl rfl rfl ag;co_applyP oc rfl rfl rfl (g2 K A S Fr L1 b x hN hR1 hb hx6);rintro _ _ _ ⟨rfl,hpost⟩;rename_i v2 L2;rw[hca] at hpost;obtain⟨rfl,c,y,a',hcy,hR2⟩:=hpost;co_applyP oy rfl cP;co_applyP ai;co_applyP aE rfl;co_applyP aB;co_applyP aa;co_applyP oan rfl;co_applyP aK;change∃v,resE .. =some v/\_;refine⟨_,rfl,rfl,rfl,A.setA 0 a', ?_⟩;unfold St.take;rw[hcy];exact hR2.less fun t ht=>List.mem_cons_of_mem _ ht
theorem AI: ∃n,∀{σ}{F:Fam σ}{Δ:DM F}{main s}(K:Nat)(A:Lay)(S:St)(Fr L:Frag)(eb:Nat->Nat×Nat)(b:Nat)(x:PS),(∀cs,(Δ s).New (.cells cs 93))->Rep K A S Fr L->Ers eb Fr->Inv S->(b,x)∈S.ps->x.st≠6->
 CallsL Δ Tryz.prog main 132 [ptr K,ptr b].toArray n s L (fun s' v L'=>s=s'/\v=erV eb (S.waitR b x).1/\ ∃A',Rep K A' (S.waitR b x).2 Fr L'):=by
 obtain⟨n0,g0⟩:=AF;obtain⟨n1,g1⟩:=AG;obtain⟨n2,g2⟩:=AH;refine⟨n0+(n1+n2),fun{σ F Δ main s} K A S Fr L eb b x hN hR hE hI hb h6=>aZ (S.hasChild x=false) (fun h=> ?_) fun h=>aZ (S.childAt x=none) (fun hc=> ?_) fun hc=> ?_⟩
 ·have e:S.waitR b x=(some 5,S):=by unfold St.waitR;rw[if_neg (by rw[h];simp)]
  rw[e];exact aU (g0 K A S Fr L eb b x hR hE hb h) fun s' v L' ⟨h1,h2,h3⟩=>⟨h1,h2,A,h3⟩
 ·have h':S.hasChild x=true:=by simpa using h
  have e:S.waitR b x=(none,S.stop1 b x 2):=by unfold St.waitR;rw[if_pos h',hc]
  rw[e];exact g1 K A S Fr L b x hN hR hI hb h6 h' hc
 ·have h':S.hasChild x=true:=by simpa using h
  obtain⟨i,hi⟩: ∃i,S.childAt x=some i:=by
   cases hh:S.childAt x with
   |none=>exact absurd hh hc
   |some i=>exact⟨i,rfl⟩
  have e:S.waitR b x=(none,S.take b x i):=by unfold St.waitR;rw[if_pos h',hi]
  rw[e];exact g2 K A S Fr L b x i hN hR hI hb h6 h' hi
section
variable {K:Nat}{A:Lay}{S:St}{F G L L':Frag}
theorem Rep.off (h:Rep K A S F L){b:Nat}{o:Obj}(hk:K≠b)(hp: ∀q∈S.ps,q.1≠b) (ha: ∀i,(A.a i).b≠some b) (hy: ∀i,(A.y i).b≠some b) (hw:A.wt≠b) (hg:A.g≠b) (hF: ∀t∈F,t.1≠b) (u:Upd L b o L'):Rep K A S F L':=by
 have arr: ∀(a:Sl)(xs:List Value)(e:TypeId),a.b≠some b->slOk a xs e L->slOk a xs e L':=fun a xs e hn ha=>by
  refine ha.mono fun c hc o ho=>u.ne _ ho ?_;show c≠b;rintro rfl;exact hn hc
 exact{h with
  fn:=u.fn
  k:=u.ne _ h.k hk
  g:=u.ne _ h.g hg
  p:=fun q hq=>u.ne _ (h.p q hq) (hp q hq)
  pa:=arr _ _ _ (ha 0) h.pa
  rw:=fun l hl=>arr _ _ _ (ha _) (h.rw l hl)
  ya:=fun i hi=>arr _ _ _ (hy i) (h.ya i hi)
  w:=u.ne _ h.w hw
  wa:=fun e he=>arr _ _ _ (ha _) (h.wa e he)
  al:=fun i c hc=>by obtain⟨xs,hx⟩:=h.al i c hc;exact⟨xs,u.ne _ hx (by rintro rfl;exact ha i hc)⟩
  yl:=fun i c hc=>by obtain⟨xs,hx⟩:=h.yl i c hc;exact⟨xs,u.ne _ hx (by rintro rfl;exact hy i hc)⟩
  fr:=fun t ht=>u.ne _ (h.fr t ht) (hF t ht)}
theorem Rep.aside (h:Rep K A S (G++F) L){b:Nat}{z z':PS}(hm:pb b z∈G)(hF: ∀t∈F,t.1≠b) (u:Upd L b (.cells (pcells z') 99) L'):Rep K A S ((pb b z'::G.filter fun t=> !decide (t.1=b))++F) L':=by
 have hd:=h.fd (pb b z) (List.mem_append_left _ hm);have hbL:=h.fr (pb b z) (List.mem_append_left _ hm);have h1:Rep K A S ((G.filter fun t=> !decide (t.1=b))++F) L:=h.less fun t ht=>by
  rcases List.mem_append.1 ht with h|h
  ·exact List.mem_append_left _ (List.mem_filter.1 h).1
  ·exact List.mem_append_right _ h
 have h2:=h1.off (b:=b) (Ne.symm hd.1) (fun q hq=>Ne.symm (hd.2.1 q hq)) hd.2.2.1 hd.2.2.2.1 (Ne.symm hd.2.2.2.2) (h.fn.ne h.g hbL (aQ (by decide))) (fun t ht=>by
  rcases List.mem_append.1 ht with h|h
  ·have:=(List.mem_filter.1 h).2;simpa using this
  ·exact hF t h) u
 exact h2.beside u.self hd.2.1
end
def St.r0 (S:St)(b:Nat)(v:Int):St:=match S.get b with
 |some z=>S.setP b (z.r0 v)
 |none=>S
theorem dH {S:St}{id:Int}{q:Nat×PS}(h:S.find id=some q):q∈S.ps/\(q.2.id:Int)=id:=by
 unfold St.find at h;exact⟨List.mem_of_find?_eq_some h,by simpa using List.find?_some h⟩
theorem Rep.r0 {K:Nat}{A:Lay}{S:St}{F G L L':Frag}(h:Rep K A S (G++F) L){b:Nat}{z:PS}{v:Int}(hz:(b,z)∈S.ps\/(pb b z∈G/\z.st=6))(hF: ∀t∈F,t.1≠b) (u:Upd L b (.cells (pcells (z.r0 v)) 99) L'): ∃G',Stays b (S.r0 b v) G'/\Rep K A (S.r0 b v) (G'++F) L':=by
 rcases hz with hz|⟨hz,h6⟩
 ·have e:S.r0 b v=S.setP b (z.r0 v):=by unfold St.r0;rw[bk h.pn hz]
  rw[e];exact⟨G, .inl ⟨_,ar hz⟩,h.setP hz u⟩
 ·have hd:=h.fd (pb b z) (List.mem_append_left _ hz);have e:S.r0 b v=S:=by unfold St.r0;rw[fU fun r hr=>Ne.symm (hd.2.1 r hr)]
  rw[e];exact⟨_, .inr ⟨z.r0 v,List.mem_cons_self,h6⟩,h.aside hz hF u⟩
theorem Stays.at {K:Nat}{A:Lay}{S:St}{F G L:Frag}(h:Rep K A S (G++F) L){b:Nat}(hs:Stays b S G): ∃z,pb b z∈L/\((b,z)∈S.ps\/(pb b z∈G/\z.st=6)):=by
 rcases hs with ⟨z,hz⟩|⟨z,hz,h6⟩
 ·exact⟨z,h.p _ hz, .inl hz⟩
 ·exact⟨z,h.fr _ (List.mem_append_left _ hz), .inr ⟨hz,h6⟩⟩
theorem AJ: ∃n,∀{σ}{F:Fam σ}{Δ:DM F}{main s}(K:Nat)(A:Lay)(S:St)(Fr L:Frag)(eb:Nat->Nat×Nat)(b:Nat)(x:PS)(ch:Value),Rep K A S Fr L->Ers eb Fr->Inv S->(b,x)∈S.ps->S.find (x.r 0)=none->
 CallsL Δ Tryz.prog main 133 [ptr K,ptr b,ch].toArray n s L (fun s' v L'=>s=s'/\L=L'/\v=erv eb 6):=by
 obtain⟨n1,g1⟩:=js;apply Exists.intro;intro σ F Δ main s K A S Fr L eb b x ch hR hE hI hb hf;have wx0:0<=x.r 0/\x.r 0<65536:=(hI.wf _ hb).r 0 (by omega);have w0:IntKind.i64.wrap (x.r 0)=x.r 0:=by simp[IntKind.wrap_i64];omega
 have hx0:At L b 7 (.int .u16 (x.r 0)):=hR.pat hb (cC x (i:=0) (by omega));have hg:=(hE.mono hR.fr).g 6 (by decide) (by decide);co_applyP aF 37 Tryz.func133 Tryz.ntmps133;co_applyP aa;co_applyP oan rfl;co_applyP aa;co_applyP om rfl rfl rfl ag;co_applyP oy rfl av;co_applyP oy rfl (ak (hf:=aM));co_applyP oy rfl (ak (hf:=aW));co_applyP oy rfl (aX U47 aV);co_applyP oy rfl (aA (ht:=dw));co_applyP oy rfl (cF (hs:=U32) (ht:=U3));simp only[w0];co_applyP oc rfl rfl rfl (g1 K A S Fr L (x.r 0) hR);rintro _ _ _ ⟨rfl,rfl,rfl⟩;rw[hf];co_applyP oan rfl;co_applyP au (n₂:=0);co_applyP aa;co_applyP om rfl rfl rfl (fN (hu:=U93));co_applyP oy rfl ag;co_applyP ou rfl;co_applyP ou rfl;co_applyP ou rfl;co_applyP ou rfl;co_applyP ou rfl;co_applyP ou rfl;co_applyP oy rfl aH;co_applyP ai;co_applyP bv rfl;co_applyP aa;co_applyP oy rfl (aA (ht:=dh));co_applyP oan rfl;co_applyP aK;change∃v,resE .. =some v/\_;exact⟨_,rfl,rfl,rfl,rfl⟩
theorem AK: ∃n,∀{σ}{F:Fam σ}{Δ:DM F}{main s}(K:Nat)(A:Lay)(S:St)(Fr L:Frag)(eb:Nat->Nat×Nat)(b:Nat)(x:PS)(ch:Value)(c:Nat)(y:PS),Rep K A S Fr L->Ers eb Fr->Inv S->(b,x)∈S.ps->S.find (x.r 0)=some (c,y)->y.st=6->
 CallsL Δ Tryz.prog main 133 [ptr K,ptr b,ch].toArray n s L (fun s' v L'=>s=s'/\L=L'/\v=erv eb 6):=by
 obtain⟨n1,g1⟩:=js;apply Exists.intro;intro σ F Δ main s K A S Fr L eb b x ch c y hR hE hI hb hf h6;have wx0:0<=x.r 0/\x.r 0<65536:=(hI.wf _ hb).r 0 (by omega);have w0:IntKind.i64.wrap (x.r 0)=x.r 0:=by simp[IntKind.wrap_i64];omega
 have hx0:At L b 7 (.int .u16 (x.r 0)):=hR.pat hb (cC x (i:=0) (by omega));have hg:=(hE.mono hR.fr).g 6 (by decide) (by decide);have hc:=(dH hf).1;have hy2:At L c 2 (.int .i64 (y.st:Nat)):=hR.pat hc (i:=2) rfl;co_applyP aF 37 Tryz.func133 Tryz.ntmps133;co_applyP aa;co_applyP oan rfl;co_applyP aa;co_applyP om rfl rfl rfl ag;co_applyP oy rfl av;co_applyP oy rfl (ak (hf:=aM));co_applyP oy rfl (ak (hf:=aW));co_applyP oy rfl (aX U47 aV);co_applyP oy rfl (aA (ht:=dw));co_applyP oy rfl (cF (hs:=U32) (ht:=U3));simp only[w0];co_applyP oc rfl rfl rfl (g1 K A S Fr L (x.r 0) hR);rintro _ _ _ ⟨rfl,rfl,rfl⟩;rw[hf];co_applyP oan rfl;co_applyP au (n₂:=0);co_applyP aa;co_applyP om rfl rfl rfl (fN (hu:=U93));co_applyP om rfl rfl rfl (ag);co_applyP oy rfl (av);co_applyP oy rfl ((ak (hf:=aM)));co_applyP oy rfl ((ak (hf:=bM)));co_applyP oy rfl ((aA (ht:=aR)));co_applyP oy rfl (aI);co_applyP oy rfl aH;co_applyP ai;change wpE ..;rw[h6];co_applyP bv rfl;co_applyP aa;co_applyP oy rfl (aA (ht:=dh));co_applyP oan rfl;co_applyP aK;change∃v,resE .. =some v/\_;exact⟨_,rfl,rfl,rfl,rfl⟩
def St.closeR (S:St)(b:Nat)(x:PS):Option Nat×St:=if x.file (x.r 0)=(0,0) then(some 3,S) else(none,(S.shut b (x.r 0).toNat).r0 b 0)
def PS.checkUse (x:PS)(use most:Nat):Option Nat:=if(x.file (x.r 0)).2≠use then some 3 else if x.r 2=0\/(most:Int)<x.r 2 then some 9 else if 64<x.r 1+x.r 2 then some 8 else none
end Go.Proofs.YtejkelcaljmnoaaGreatDoor
namespace Go.Lo
open Go.Conc Go.Hx
end Go.Lo
namespace Go.Proofs.YtejkelcaljmnoaaGreatDoor
open Go.Conc Go.Hx Go.Lo
def rowJoin (b:Nat)(k:Nat×Nat)(l:Wt):Wt:=if∀e∈l,e.1≠k then l++[(k,[b])] else l.map fun e=>if e.1=k then(k,e.2++[b]) else e
def St.joinW (S:St)(b:Nat)(k:Nat×Nat):St:=S.setW (rowJoin b k S.wt)
def St.askR (S:St)(b:Nat)(x:PS)(use most:Nat):Option Nat×St:=match x.checkUse use most with
 |some i=>(some i,S)
 |none=>
  let S2:=(S.joinW b (x.file (x.r 0))).look (x.file (x.r 0)).1
  (none,if b∈S2.rowAt (x.file (x.r 0)) then(match S2.get b with
   |some z=>S2.stop1 b z use
   |none=>S2) else S2)
theorem li {b:Nat}{k:Nat×Nat}{l1 l2:Wt}{xs:List Nat}(h1: ∀e∈l1,e.1≠k) (h2: ∀e∈l2,e.1≠k):rowJoin b k (l1++(k,xs)::l2)=l1++(k,xs++[b])::l2:=by
 unfold rowJoin;rw[if_neg (fun h=>h (k,xs) (by simp) rfl)];rw[List.map_append,List.map_cons,if_pos rfl];have e: ∀l:Wt,(∀e∈l,e.1≠k)->l.map (fun e=>if e.1=k then(k,e.2++[b]) else e)=l:=fun l h=>by
  conv=>rhs;rw[<-List.map_id l]
  apply List.map_congr_left;intro e he;rw[if_neg (h e he)];rfl
 rw[e l1 h1,e l2 h2]
theorem ii {b:Nat}{k:Nat×Nat}{l:Wt}(h: ∀e∈l,e.1≠k):rowJoin b k l=l++[(k,[b])]:=by unfold rowJoin;rw[if_pos h]
theorem Inv.joinW {S:St}{b:Nat}{x:PS}{k:Nat×Nat}(h:Inv S)(hb:(b,x)∈S.ps)(ho:S.out b)(ha:Asks x k)(hk:okEnd k):Inv (S.joinW b k):=by
 by_cases hn: ∀e∈S.wt,e.1≠k
 ·have e:(S.joinW b k).wt=S.wt++[(k,[b])]:=ii hn;have cs: ∀e'∈(S.joinW b k).wt,e'∈S.wt\/e'=(k,[b]):=fun e' he=>by rw[e] at he;simpa using he
  exact{
   g:=⟨h.g.pn,h.g.p8,h.g.lv,h.g.rn,h.g.rm,h.g.rr⟩
   wf:=h.wf,fl:=h.fl,y8:=h.y8,yb:=h.yb
   kn:=by
    rw[e,List.map_append];refine List.nodup_append.2 ⟨h.kn,by simp,fun a ha' c hc=> ?_⟩;simp at hc;subst hc;rintro rfl;obtain⟨e',he',e2⟩:=List.mem_map.1 ha';exact hn e' he' e2
   ne:=fun e' he=>(cs e' he).elim (h.ne e') fun e=>by subst e;simp
   nd:=fun e' he=>(cs e' he).elim (h.nd e') fun e=>by subst e;simp
   ke:=fun e' he=>(cs e' he).elim (h.ke e') fun e=>by subst e;exact hk
   rm:=fun e' he c hc=>(cs e' he).elim (fun h'=>h.rm e' h' c hc) fun e=>by subst e;simp at hc;subst hc;exact⟨x,hb,ha⟩}
 ·have hk':k∈S.wt.map (·.1):=Decidable.byContradiction fun hn'=>hn fun e he e1=>hn' (List.mem_map.2 ⟨e,he,e1⟩);obtain⟨l1,ys,l2,hl,h1,h2⟩:=gB h.kn hk';have e:(S.joinW b k).wt=l1++(k,ys++[b])::l2:=by show rowJoin b k S.wt=_;rw[hl,li h1 h2]
  have hin:(k,ys)∈S.wt:=by rw[hl];simp
  have cs: ∀e'∈(S.joinW b k).wt,e'∈S.wt\/e'=(k,ys++[b]):=fun e' he=>by
   rw[e] at he;rcases List.mem_append.1 he with h'|h'
   ·exact .inl (by rw[hl];simp[h'])
   ·rcases List.mem_cons.1 h' with h'|h'
    ·exact .inr h'
    ·exact .inl (by rw[hl];simp[h'])
  exact{
   g:=⟨h.g.pn,h.g.p8,h.g.lv,h.g.rn,h.g.rm,h.g.rr⟩
   wf:=h.wf,fl:=h.fl,y8:=h.y8,yb:=h.yb
   kn:=by
    have:=h.kn;rw[hl] at this;rw[e];simpa using this
   ne:=fun e' he=>(cs e' he).elim (h.ne e') fun e=>by subst e;simp
   nd:=fun e' he=>(cs e' he).elim (h.nd e') fun e=>by
    subst e;refine List.nodup_append.2 ⟨h.nd _ hin,by simp,fun a ha' c hc=> ?_⟩;simp at hc;subst hc;rintro rfl;exact ho _ hin ha'
   ke:=fun e' he=>(cs e' he).elim (h.ke e') fun e=>by subst e;exact hk
   rm:=fun e' he c hc=>(cs e' he).elim (fun h'=>h.rm e' h' c hc) fun e=>by
    subst e;rcases List.mem_append.1 hc with h'|h'
    ·exact h.rm _ hin c h'
    ·simp at h';subst h';exact⟨x,hb,ha⟩}
theorem jT {x:PS}{use most:Nat}(h:x.checkUse use most=none):(x.file (x.r 0)).2=use/\x.r 2<=most/\x.r 1+x.r 2<=64:=by
 unfold PS.checkUse at h
 split at h
 ·cases h
 ·rename_i h1
  split at h
  ·cases h
  ·rename_i h2
   split at h
   ·cases h
   ·rename_i h3;exact⟨by omega,by omega,by omega⟩
theorem Inv.file_ok {S:St}{b:Nat}{x:PS}(h:Inv S)(hb:(b,x)∈S.ps)(n:Int):x.file n=(0,0)\/okEnd (x.file n):=by
 unfold PS.file
 split
 ·by_cases h0:n<0
  ·have:n.toNat=0:=by omega
   rw[this];exact h.fl _ hb 0 (by omega)
  ·exact h.fl _ hb _ (by omega)
 ·exact .inl rfl
theorem tL:zeroAt Tryz.prog 3=some (.int .i64 0):=by kernel_rfl
theorem pF:bytesAt Tryz.prog 3=some 8:=by kernel_rfl
def St.shutAt (S:St)(p:Nat):Bool:= !S.isOpen (p,4)&& !S.isOpen (p,5)
def St.unused (S:St):Nat:=match (List.range' 1 4).find? S.shutAt with
 |some p=>p
 |none=>0
theorem tM (S:St):S.unused<5:=by
 unfold St.unused
 split
 ·rename_i p h;have:=List.mem_of_find?_eq_some h;simp[List.mem_range'] at this;omega
 ·omega
structure NewT {R:World->World->Prop}{D:World->World->Array Event->Prop}(Δ:Dom R D):Prop extends NewK Δ where
 n: ∀cs,Δ.New (.cells cs 3)
def PS.frees (x:PS)(n:Nat):List Nat:=(List.range n).filter fun i=>decide (x.f i=(0,0))
def PS.piped (x:PS)(u i j:Nat):PS:={x with f:=put (put x.f i (u,4)) j (u,5),r:=put (put x.r 0 i) 1 j}
def St.pipeR (S:St)(b:Nat)(x:PS):Option Nat×St:=if S.unused=0 then(some 4,S) else match x.frees 6 with
 |i::j::_=>(none,(S.setY S.unused []).setP b (x.piped S.unused i j))
 |_=>(some 4,S)
def St.taken (S:St)(c:Nat)(y:PS):St:={S.setPs (S.ps++[(c,{y with id:=S.last+1})]) with last:=S.last+1}
def St.adopt (S:St)(c:Nat)(y:PS):St:=(S.taken c y).wake1 c {y with id:=S.last+1}
theorem tN (k:KS)(v:Nat):(kcells k).setIfInBounds 6 (.int .i64 (v:Nat))=kcells {k with last:=v}:=rfl
theorem tO (A:Lay)(S:St)(a':Sl)(ps':List (Nat×PS))(ls:Nat):kcells (kst (A.setA 0 a') {S.setPs ps' with last:=ls})=kcells {kst A S with procs:=slv a' ps'.length,last:=ls}:=by
 unfold kcells kst Lay.setA put St.setPs;simp
theorem zW: ∃n,∀{σ}{F:Fam σ}{Δ:DM F}{main s}(K:Nat)(A:Lay)(S:St)(Fr L:Frag)(c:Nat)(y:PS),(∀cs,(Δ s).New (.cells cs 93))->Rep K A S (pb c y::Fr) L->(∀t∈Fr,t.1≠c)->S.ps.length<8->S.last<4611686018427387904->y.lv<3->(S.rows y.lv).length<=8->
 CallsL Δ Tryz.prog main 48 [ptr K,ptr c].toArray n s L (fun s' v L'=>s=s'/\v= .tuple #[]/\ ∃A',Rep K A' (S.adopt c y) Fr L'):=by
 obtain⟨n1,g1⟩:=qY;apply Exists.intro;intro σ F Δ main s K A S Fr L c y hN hR hF h8 hl hlv hr8;have w1:IntKind.i64.wrap ((S.last:Int)+1)=((S.last+1:Nat):Int):=by simp[IntKind.wrap_i64];omega
 have hlast:At L K 6 (.int .i64 (S.last:Nat)):=hR.kat rfl;have hcp: ∀q∈S.ps,c≠q.1:=(hR.fd _ List.mem_cons_self).2.1;co_applyP aF 32 Tryz.func48 Tryz.ntmps48;co_applyP aa;co_applyP om rfl rfl rfl av;co_applyP oy rfl (ak (hf:=kV));co_applyP oy rfl (aA (ht:=aR));co_applyP oy rfl aS;co_applyP oy rfl av;co_applyP oy rfl (ak (hf:=kV));rw[w1];co_applyP osm rfl (hs:=bS) (hm:=hR.k) (hi:=by first|decide|(rw[bL];omega)|(rw[bU];omega));intro L1 hU1;rw[tN] at hU1;have hR1:Rep K A {S with last:=S.last+1} (pb c y::Fr) L1:=hR.setK rfl rfl rfl rfl rfl rfl hU1;have hlast1:At L1 K 6 (.int .i64 ((S.last+1:Nat):Nat)):=hR1.kat rfl;co_applyP ai;co_applyP aa;co_applyP om rfl rfl rfl ag;co_applyP oy rfl av;co_applyP oy rfl (ak (hf:=kV));co_applyP oy rfl (aA (ht:=aR));co_applyP oy rfl av;co_applyP oy rfl (ak (hf:=aM));co_applyP oy rfl (ak (hf:=bH));co_applyP osm rfl (hs:=bS) (hm:=hR1.fr _ List.mem_cons_self) (hi:=by first|decide|(rw[bL];omega)|(rw[bU];omega));intro L2 hU2;have hU2':Upd L1 c (.cells (pcells {y with id:=S.last+1}) 99) L2:=by rw[<-ym];exact hU2
 have hR2:Rep K A {S with last:=S.last+1} ((pb c {y with id:=S.last+1}::([pb c y].filter fun t=> !decide (t.1=c)))++Fr) L2:=Rep.aside (G:=[pb c y]) (F:=Fr) hR1 List.mem_cons_self hF hU2';have hc2:pb c {y with id:=S.last+1}∈L2:=hU2'.self;have hR2':Rep K A {S with last:=S.last+1} Fr L2:=hR2.less fun t ht=>by simp[ht]
 have h5:At L2 K 5 (slv (A.a 0) (S.ps.map (·.1)).length):=by rw[List.length_map];exact hR2'.kat rfl
 co_applyP ai;co_applyP aa;co_applyP om rfl rfl rfl ag;co_applyP oy rfl av;co_applyP oy rfl (ak (hf:=bX));co_applyP oy rfl (aA (ht:=dz));co_applyP oy rfl ag;co_applyP b5 rfl (oZ (hN _) (hx:=rfl) (hu:=U91) (hs:=cM) (hz:=mg));intro nb L3 hA3;have hR3:=hR2'.add hA3;have epa:(S.ps.map fun q=>ptr q.1)=(S.ps.map (·.1)).map ptr:=by rw[List.map_map];rfl
 have hpa:slOk (A.a 0) ((S.ps.map (·.1)).map ptr) 93 L3:=by rw[<-epa];exact hR3.pa
 co_applyP oeN rfl (fun hnd=>zP (a:=A.a 0) (xs:=S.ps.map (·.1)) (c:=c) (hnd:=hnd) (hN:=hN) (ha:=hpa) (h8:=by simp;omega) (hnb:=hA3.self));rintro _ L4 ⟨a',rfl,hp⟩;co_applyP oy rfl av;co_applyP oy rfl (ak (hf:=bX));have hal: ∀{b:Nat}{fl:Bool}{o:Obj},(b,fl,o)∈L3->(∀c',o≠Obj.cells c' 93)->(A.a 0).b≠some b:=fun hm ho hc=>by
  obtain⟨ys,hy⟩:=hR3.al _ _ hc;exact ho _ (hR3.fn _ _ _ _ _ hm hy).2
 have hKa:=hal hR3.k fun c=>aQ (by decide);have hca:=hal (hA3.sub _ hc2) fun c=>aQ (by decide);co_applyP oeN rfl (fun hnd=>dv (hs:=eF) (hnd:=hnd) (hm:=hp.sub _ hR3.k hKa) (hi:=by rw[bU];omega) (hp:=jt _ _));rintro _ L5 ⟨rfl,hU5⟩;co_applyP ai;co_applyP aq;co_applyP om rfl rfl rfl ag;have hKc:c≠K:=hR2'.fn.ne hc2 hR2'.k (aQ (by decide));have hc5:=hU5.ne _ (hp.sub _ (hA3.sub _ hc2) hca) hKc;have hR5:Rep K (A.setA 0 a') (S.taken c y) Fr L5:=by
  refine Rep.setPs (S:={S with last:=S.last+1}) hR3 (ps':=S.ps++[(c,{y with id:=S.last+1})]) (ls:=S.last+1) hU5.fn ?_ (fun t ht h1 h2=>hU5.ne _ (hp.sub _ ht h2) h1) ?_ ?_ ?_ (by simp;omega) ?_ ?_
  ·show (K,true,Obj.cells (kcells _) 115)∈L5;have:=hU5.self;rw[k9] at this;rw[tO];have el:(S.ps++[(c,{y with id:=S.last+1})]).length=(S.ps.map (·.1)).length+1:=by simp
   rw[el];exact this
  ·have e2:((S.ps++[(c,{y with id:=S.last+1})]).map fun(q:Nat×PS)=>ptr q.1)=((S.ps.map (·.1))++[c]).map ptr:=by simp
   rw[e2];refine hp.ok.mono fun d hd o ho=>hU5.ne _ ho fun e=> ?_;have h1:=hp.ok.mem hd;have e':d=K:=e;rw[e'] at h1;exact aQ (by decide) (hp.fn _ _ _ _ _ h1 (hp.sub _ hR3.k hKa)).2
  ·intro q hq;rcases List.mem_append.1 hq with h|h
   ·exact hU5.ne _ (hp.sub _ (hR3.p q h) (hal (hR3.p q h) fun c=>aQ (by decide))) (hR3.fn.ne (hR3.p q h) hR3.k (aQ (by decide)))
   ·simp at h;subst h;exact hc5
  ·rw[List.map_append];refine List.nodup_append.2 ⟨hR3.pn,by simp,fun u hu v hv=> ?_⟩;simp at hv;subst hv;rintro rfl;obtain⟨q,hq,e⟩:=List.mem_map.1 hu;exact hcp q hq e.symm
  ·intro t ht q hq;rcases List.mem_append.1 hq with h|h
   ·exact(hR3.fd t ht).2.1 q h
   ·simp at h;subst h;exact hF t ht
  ·intro d hd;rcases hp.d d hd with h|h
   ·exact .inl h
   ·refine .inr ⟨fun i hi=> ?_,fun t ht=>h t (hR3.fr t ht)⟩;obtain⟨ys,hy⟩:=hR3.al i d hi;exact h _ hy rfl
 have hb5:(c,{y with id:=S.last+1})∈(S.taken c y).ps:=List.mem_append_right _ List.mem_cons_self;co_applyP oc rfl rfl rfl (g1 K _ _ Fr L5 c {y with id:=S.last+1} hN hR5 hb5 hlv hr8 (fun e he=>dC e.1 hlv));rintro _ _ _ ⟨rfl,rfl,A6,hw6,hR6⟩;co_applyP ai;change∃v,resE .. =some v/\_;exact⟨_,rfl,rfl,rfl,A6,hR6⟩
def PS.copy (x:PS):PS:=⟨0,x.id,0,0,x.at_,0,0,x.r,x.m,x.f,0⟩
def regv (r:Nat->Int):Value:= .agg #[.int .u16 (r 0), .int .u16 (r 1), .int .u16 (r 2), .int .u16 (r 3), .int .u16 (r 4), .int .u16 (r 5), .int .u16 (r 6), .int .u16 (r 7)]
def memv (m:Nat->Int):Value:= .agg ((List.range 64).map fun i=>Value.int .u8 (m i)).toArray
def headv (par at_:Int)(r:Nat->Int):Value:= .agg #[.int .i64 0, .int .i64 par, .int .i64 0, .int .i64 0, .int .i64 at_, .int .i64 0, .int .i64 0, .int .u16 (r 0), .int .u16 (r 1), .int .u16 (r 2), .int .u16 (r 3), .int .u16 (r 4), .int .u16 (r 5), .int .u16 (r 6), .int .u16 (r 7)]
theorem tP (x:PS):Value.agg ((pcells x).extract 7 15)=regv x.r:=by rfl
theorem pG (x:PS):Value.agg ((pcells x).extract 15 79)=memv x.m:=by
 have h:=CR x (i:=0) (n:=64) (by omega);have h':(pcells x).extract 15 79=((x.peek 0 64).map fun v=>Value.int .u8 v).toArray:=h;rw[h'];unfold memv PS.peek;rw[List.map_map];congr 2
theorem CT (par at_:Int)(r:Nat->Int):evR Tryz.prog (Instr.build 49 [(1, .int .i64 par),(4, .int .i64 at_),(7,regv r)].toArray) []=some (headv par at_ r,[]):=by kernel_rfl
theorem CU (x:PS):evR Tryz.prog (Instr.build 99 [(0,headv (x.id:Nat) (x.at_:Nat) x.r),(1,memv x.m),(2,filesv x.f)].toArray) []=some (.agg (pcells x.copy),[]):=by kernel_rfl
def St.forkS (S:St)(b:Nat)(x:PS)(c:Nat):St:=(S.adopt c (x.copy.r0 0)).setP b (x.r0 (((S.last+1:Nat):Int)%65536))
theorem AL: ∃n,∀{σ}{F:Fam σ}{Δ:DM F}{main s}(K:Nat)(A:Lay)(S:St)(Fr L:Frag)(eb:Nat->Nat×Nat)(b:Nat),Rep K A S Fr L->Ers eb Fr->8<=S.ps.length->
 CallsL Δ Tryz.prog main 131 [ptr K,ptr b].toArray n s L (fun s' v L'=>s=s'/\L=L'/\v=erv eb 4):=by
 apply Exists.intro;intro σ F Δ main s K A S Fr L eb b hR hE h8;obtain⟨base,cap,hv,hat0⟩:=bY hR.pa;simp only[List.length_map] at hv;have h5:At L K 5 (.slice base S.ps.length cap):=by rw[<-hv];exact hR.kat rfl
 have hg:=(hE.mono hR.fr).g 4 (by decide) (by decide);have e8:decide ((8:Int)<=(S.ps.length:Nat))=true:=by simp;omega
 co_applyP aF 58 Tryz.func131 Tryz.ntmps131;co_applyP aa;co_applyP oan rfl;co_applyP au (n₂:=0);co_applyP aa;co_applyP om rfl rfl rfl av;co_applyP oy rfl (ak (hf:=bX));co_applyP oy rfl (aA (ht:=dz));co_applyP oy rfl (bt (hu:=U91));co_applyP oy rfl dt;co_applyP ai;change wpE ..;rw[e8];co_applyP bv rfl;co_applyP aa;co_applyP oy rfl (aA (ht:=dh));co_applyP oan rfl;co_applyP aK;change∃v,resE .. =some v/\_;exact⟨_,rfl,rfl,rfl,rfl⟩
theorem AM: ∃n,∀{σ}{F:Fam σ}{Δ:DM F}{main s}(K:Nat)(A:Lay)(S:St)(Fr L:Frag)(b:Nat)(x:PS),(∀cs,(Δ s).New (.cells cs 93))->(∀cs,(Δ s).New (.cells cs 99))->Rep K A S Fr L->Inv S->(b,x)∈S.ps->S.ps.length<8->S.last<4611686018427387904->
 CallsL Δ Tryz.prog main 131 [ptr K,ptr b].toArray n s L (fun s' v L'=>s=s'/\v= .nilIface/\ ∃A' c,(∀q∈S.ps,c≠q.1)/\Rep K A' (S.forkS b x c) Fr L'):=by
 obtain⟨n1,g1⟩:=zW;apply Exists.intro;intro σ F Δ main s K A S Fr L b x hN hN9 hR hI hb h8 hls;obtain⟨base,cap,hv,hat0⟩:=bY hR.pa;simp only[List.length_map] at hv;have h5:At L K 5 (.slice base S.ps.length cap):=by rw[<-hv];exact hR.kat rfl
 have e8:decide ((8:Int)<=(S.ps.length:Nat))=false:=by simp;omega
 have hid:At L b 0 (.int .i64 (x.id:Nat)):=hR.pat hb (i:=0) rfl;have hat:At L b 4 (.int .i64 (x.at_:Nat)):=hR.pat hb (i:=4) rfl;co_applyP aF 58 Tryz.func131 Tryz.ntmps131;co_applyP aa;co_applyP oan rfl;co_applyP au;co_applyP aa;co_applyP om rfl rfl rfl av;co_applyP oy rfl (ak (hf:=bX));co_applyP oy rfl (aA (ht:=dz));co_applyP oy rfl (bt (hu:=U91));co_applyP oy rfl dt;co_applyP ai;change wpE ..;rw[e8];co_applyP aE rfl;co_applyP aB;co_applyP au;co_applyP br [] 25 (nf:=0) a5;co_applyP tr 0 rfl ag pN;co_applyP tr 1 rfl av pN;co_applyP tr 2 rfl (ak (hf:=aM)) pN;co_applyP tr 3 rfl (ak (hf:=bH)) pN;co_applyP t0 4 rfl (aA (ht:=aR)) pN;co_applyP tr 5 rfl ag pN;co_applyP tr 6 rfl av pN;co_applyP tr 7 rfl (ak (hf:=aM)) pN;co_applyP tr 8 rfl (ak (hf:=bT)) pN;co_applyP t0 9 rfl (aA (ht:=aR)) pN;co_applyP tr 10 rfl ag pN;co_applyP tr 11 rfl av pN;co_applyP tr 12 rfl (ak (hf:=aM)) pN;co_applyP tr 13 rfl (ak (hf:=aW)) pN;co_applyP tr 16 rfl ag pN;co_applyP tr 17 rfl av pN;co_applyP tr 18 rfl (ak (hf:=kg)) pN;co_applyP tr 20 rfl ag pN;co_applyP tr 21 rfl av pN;co_applyP tr 22 rfl (ak (hf:=nh)) pN;co_applyP t0 14 rfl (bF (ht:=zA) (hs:=vk) (hm:=hR.p _ hb) (hi:=by rw[bL];omega)) pN;co_applyP t0 19 rfl (bF (ht:=zF) (hs:=zC) (hm:=hR.p _ hb) (hi:=by rw[bL];omega)) pN;co_applyP t0 23 rfl (bF (ht:=zH) (hs:=zG) (hm:=hR.p _ hb) (hi:=by rw[bL];omega)) pN;rw[show (0+0+7+8:Nat)=15 from rfl,show (0+0+7:Nat)=7 from rfl,tP,show (0+15+64:Nat)=79 from rfl,pG,show (0+79+12:Nat)=91 from rfl,lg];co_applyP tr 15 rfl (bi (CT _ _ _)) pN;co_applyP tr 24 rfl (bi (CU x)) pN;co_applyP m7 (i:=25) rfl (b8 (hN9 _));intro c L1 hA1;refine⟨aD (by simp), ?_⟩;co_applyP to 26 rfl (bR) (aD (by simp));have hA1':Add L c (.cells (pcells x.copy) 99) L1:=hA1;have hR1:Rep K A S (pb c x.copy::Fr) L1:=hR.fresh ⟨hA1'.fn,hA1'.sub⟩ hA1'.new hA1'.self;have hcp: ∀q∈S.ps,c≠q.1:=(hR1.fd _ List.mem_cons_self).2.1;have hcF: ∀t∈Fr,t.1≠c:=fun t ht=>hA1'.new t (hR.fr t ht)
 co_applyP td (by kernel_rfl);co_applyP aa;co_applyP om rfl rfl rfl av;co_applyP oy rfl (ak (hf:=aM));co_applyP oy rfl (ak (hf:=aW));co_applyP oy rfl (aX U47 aV);co_applyP osm rfl (hs:=aV) (hm:=hR1.fr _ List.mem_cons_self) (hi:=by first|decide|(rw[bL];omega)|(rw[bU];omega));intro L2 hU2;rw[eU] at hU2;have hR2:Rep K A S ((pb c (x.copy.r0 0)::([pb c x.copy].filter fun t=> !decide (t.1=c)))++Fr) L2:=Rep.aside (G:=[pb c x.copy]) (F:=Fr) hR1 List.mem_cons_self hcF hU2;have hR2':Rep K A S (pb c (x.copy.r0 0)::Fr) L2:=hR2.less fun t ht=>by
  rcases List.mem_cons.1 ht with rfl|h
  ·simp
  ·simp[h]
 co_applyP ai;co_applyP aa;co_applyP om rfl rfl rfl ag;co_applyP oc rfl rfl rfl (g1 K A S Fr L2 c (x.copy.r0 0) hN hR2' hcF h8 hls (by show 0<3;omega) (hI.g.r8 (l:=0) (by omega)));rintro _ _ _ ⟨rfl,rfl,A3,hR3⟩;co_applyP ai;co_applyP au;rename_i L3;have hbc:b≠c:=fun e=>hcp _ hb e.symm;have hb3:(b,x)∈(S.adopt c (x.copy.r0 0)).ps:=bK (List.mem_append_left _ hb) hbc;have hc3:(c,{x.copy.r0 0 with id:=S.last+1,st:=1,used:=0})∈(S.adopt c (x.copy.r0 0)).ps:=ar (List.mem_append_right _ List.mem_cons_self);have hid3:At L3 c 0 (.int .i64 ((S.last+1:Nat):Nat)):=hR3.pat hc3 (i:=0) rfl;have wl:IntKind.u16.wrap (((S.last+1:Nat):Nat):Int)=((S.last+1:Nat):Int)%65536:=bZ _;co_applyP br [] 11 (nf:=0) a5;co_applyP tr 0 rfl ag pN;co_applyP tr 1 rfl ag pN;co_applyP tr 2 rfl av pN;co_applyP tr 3 rfl (ak (hf:=aM)) pN;co_applyP tr 4 rfl (ak (hf:=bH)) pN;co_applyP t0 5 rfl (aA (ht:=aR)) pN;co_applyP tr 6 rfl (cF (hs:=U3) (ht:=U32)) pN;co_applyP tr 7 rfl av pN;co_applyP tr 8 rfl (ak (hf:=aM)) pN;co_applyP tr 9 rfl (ak (hf:=aW)) pN;co_applyP tr 10 rfl (aX U47 aV) pN;rw[wl];co_applyP bd;intro hnd3;co_applyP te (i:=11) rfl (dv (hnd:=hnd3) (hm:=hR3.p _ hb3) (hi:=by rw[bL];omega) (hs:=aV));rintro _ _ ⟨rfl,hU4⟩;refine⟨aD (by simp), ?_⟩;rename_i L4;have hU4':Upd L3 b (.cells (pcells (x.r0 (((S.last+1:Nat):Int)%65536))) 99) L4:=by rw[<-eU];exact hU4
 have hR4:=hR3.setP hb3 hU4';co_applyP td (by kernel_rfl);co_applyP aa;co_applyP oan rfl;co_applyP aK;change∃v,resE .. =some v/\_;exact⟨_,rfl,rfl,rfl,A3,c,hcp,hR4⟩
end Go.Proofs.YtejkelcaljmnoaaGreatDoor
namespace Go.Lo
open Go.Conc Go.Hx
section
variable {σ:Type}{F:Fam σ}(Δ: ∀s,Dom (F.R s) (F.D s)) (P:Program) (main:Bool) (fn:FuncId) (N:Nat)
def LastE (ops:Array Oper)(Q:σ->Exit->Env->Frag->Prop)(nf:Nat)(L0:Frag)(e:Nat)(fuel:Nat)(ls:Array Bool)(s:σ)(ε:Env)(L:Frag):Prop:=
 ∀a,Fits N ε a->Down ops ls-> ∀w,(Δ s).Own L w->AnyY F P main fn ops (fun ls s w=> ∃L,(Δ s).Own L w/\(ls.getD e true=false-> ∀t∈L0,t∈L)) (up Δ (upE N Q)) nf fuel ls s a w
end
section
variable {σ:Type}{F:Fam σ}{Δ: ∀s,Dom (F.R s) (F.D s)} {P:Program} {main:Bool} {fn:FuncId} {N:Nat} {Q:σ->Exit->Env->Frag->Prop} {s:σ} {ε:Env} {L:Frag} {ops:Array Oper} {nf:Nat} {e:Nat} {fuel:Nat} {ls:Array Bool}
theorem rf {id:Nat}(e:Nat){nf:Nat}(hm:P.follows .mixedOrders=true:=by first|rfl|kernel_rfl)(h:LastE Δ P main fn N ops Q nf L e ops.size (Array.replicate ops.size false) s ε L):wpE Δ P main fn N (.region id ops true) (ops.size*(nf+3)+1+1) s Q ε L:=by
 intro a ha w hO;exact kL (S:=fun ls s' w=> ∃L',(Δ s').Own L' w/\(ls.getD e true=false-> ∀t∈L,t∈L')) (Δ s).ld hm fun w₁ h₁=>h a ha kK _ ((Δ s).draw ((Δ s).rely hO h₁)).1
theorem lt {i:Nat}{d:Option Tmp}{k:Op}{ot:TypeId}{ps:String}{af:Array Edge}{g:Option (Nat×Bool)}{v:Value}(ho:ops[i]? =some ⟨d,k,ot,ps,af,g⟩)(hy:EY P N ε L ⟨d,k,ot,ps,af,g⟩ v)
 (hs:Region.noSelect ops=true:=by kernel_rfl) (hf:Region.free .any ops ls i=true:=by kernel_rfl) (hr:(Region.ready .any ops ls).contains i=true:=by kernel_rfl) (hie:i≠e:=by decide) (hh:hangs ops ops.size e i=true:=by kernel_rfl) (hw:wantedE ops N ε g=some true:=by rfl) (hd:dstOk N d=true:=by rfl)
 (h:LastE Δ P main fn N ops Q nf L e fuel (ls.setIfInBounds i true) s (putE d v ε) L):LastE Δ P main fn N ops Q nf L e (fuel+1) ls s ε L:=by
 intro a ha hD w hO;have hrm:i∈Region.ready .any ops ls:=by simpa using hr
 refine jo (fun _ s _ _ ⟨L,h1,h2⟩ r=>⟨L,(Δ s).rely h1 r,h2⟩) kM ho hs hf hr hD (fun ls s w=> ?_) (fun ls' hD' hun s'=> .inl ⟨ha.wanted hw,fun w' ⟨L',hO',h3⟩=> ?_⟩) ⟨L,hO,fun _ t ht=>ht⟩ (h _ (ha.put hd v) (hD.step hrm) w hO)
 ·refine exists_congr fun L'=>and_congr_right fun _=> ?_;rw[getD_set_ne true hie]
 ·have hsub: ∀t∈L,t∈L':=by
   refine h3 ?_;cases he:ls'.getD e true with
   |false=>rfl
   |true=>
    have:=hD'.hangs _ _ _ hh he;rw[m6 this] at hun;cases hun
  obtain⟨q1,q2⟩:=m0 (Δ s') hO' ((hy a ha).mono hsub);exact⟨q1,(Δ s').dd ((Δ s').gr w') fun e he=>q2 e (mem_listed he)⟩
theorem lc {i:Nat}{d:Option Tmp}{k:Op}{ot:TypeId}{ps:String}{af:Array Edge}{g:Option (Nat×Bool)}{f:FuncId}{args:Array Operand}{ats:Array TypeId}{vs:List Value}{Post:σ->Value->Frag->Prop}{L0:Frag}(ho:ops[i]? =some ⟨d,k,ot,ps,af,g⟩)(hop:k= .call {callee:= .value (.func f),args,argTypes:=ats})(ha:args.toList.map (ev ε)=vs.map some)(hcall:CallsL Δ P main f vs.toArray nf s L Post)
 (hr:Region.ready .any ops ls=[i]:=by kernel_rfl) (hr':Region.ready .any ops (ls.setIfInBounds i true)=[]:=by kernel_rfl) (hle:(ls.setIfInBounds i true).getD e true=true:=by first|rfl|decide) (hw:wantedE ops N ε g=some true:=by rfl) (hd:dstOk N d=true:=by rfl)
 (h: ∀s' v L',Post s' v L'->Q s' .normal (putE d v ε) L'):LastE Δ P main fn N ops Q nf L0 e (fuel+1) ls s ε L:=by
 intro a hf hD w hO;have e':args.map a.eval=vs.toArray:=by
  apply Array.ext';simp only[Array.toList_map];have: ∀(l:List Operand)(vs:List Value),l.map (ev ε)=vs.map some->l.map a.eval=vs:=by
   intro l
   induction l with
   |nil=>intro vs h;cases vs<;>simp_all
   |cons x l ih=>
    intro vs h;cases vs with
    |nil=>simp at h
    |cons v vs=>
     simp only[List.map_cons,List.cons.injEq] at h⊢;exact⟨hf.ev h.1,ih vs h.2⟩
  exact this _ _ ha
 refine iw hr (by simp) fun j hj=> ?_;obtain rfl:j=i:=by simpa using hj
 have hc:=hcall w hO;rw[<-e'] at hc;refine .inr ⟨_,f,args,ats,_,ho,hf.wanted hw,hop,hc,fun s' v w' ⟨L',hL,hp⟩=>⟨⟨L',hL,fun h'=> ?_⟩,lZ hr' ⟨L',hL,_,hf.put hd v,h s' v L' hp⟩ _⟩⟩;rw[hle] at h';cases h'
end
end Go.Lo
