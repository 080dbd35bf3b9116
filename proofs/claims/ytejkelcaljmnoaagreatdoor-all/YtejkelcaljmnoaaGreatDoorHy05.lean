/- Part 5 of the proof. -/
import Derived.Test.YtejkelcaljmnoaaGreatDoorHy04
set_option maxRecDepth 100000
set_option maxHeartbeats 4000000
set_option linter.all false
namespace Go.Proofs.YtejkelcaljmnoaaGreatDoor
open Go.Conc Go.Hx Go.Lo Tryz
attribute [local irreducible] EY KO K6 Kw Kc Ku Kd Program.underlying
theorem di {S:St}{x:PS}{i:Nat}(h:S.II x=some i): ∃q,S.ps[i]? =some q/\q.2.par=x.id/\q.2.st=6:=by
 obtain⟨a,b,_⟩:=OG.1 h;refine⟨S.ps[i],sy a, ?_⟩;simpa [Kl] using b
theorem gD {S:St}{b:Nat}(h: ∀q∈S.ps,q.1≠b):S.get b=none:=by
 unfold St.get;rw[sS.2 λq a=>by simpa using h q a];rfl
theorem kJ: ∃n,∀{σ}{F:Kn σ}{Δ:DM F}{W s}(K:Nat)(A:Kq)(S:St)(Fr L:Ka),(∀cs,(Δ s).New (.cells cs 93))->Ke K A S Fr L->Good S->S.ps≠[]->
 Kb Δ prog W 110 [ptr K].toArray n s L (λs' v L'=>s=s'/\v= .tuple #[]/\Good (S.parents (S.ps.map (·.1)))/\ ∃X G,(∀q∈S.ps,(∃z,(q.1,z)∈(S.parents (S.ps.map (·.1))).ps)\/ ∃z,pb q.1 z∈G/\z.st=6)/\Ke K X (S.parents (S.ps.map (·.1))) (G++Fr) L'):=by
 obtain⟨n1,g1⟩:=j0;obtain⟨n2,g2⟩:=lO;obtain⟨n3,g3⟩:=BJ;constructor;intro σ F Δ W s K A S Fr L hN hR hG i';obtain⟨Q,hQ⟩: ∃Q,(A.a 0).b=some Q:=by
  cases h:(A.a 0).b with
  |some Q=>exact⟨Q,rfl⟩
  |none=>
   have:=hR.pa;unfold Kf at this;rw[h] at this;simp at this;exact absurd this.1 i'
 have u':=hR.pa.mem hQ;have h8:=hR.p8;have h':0<S.ps.length:=List.length_pos_iff.2 i';have h5:At L K 5 (.slice (some ⟨Q,0,none⟩) (S.ps.map λq=>ptr q.1).length ((S.ps.map λq=>ptr q.1).length+(A.a 0).junk.length)):=by
  have e:Ky (A.a 0) S.ps.length= .slice (some ⟨Q,0,none⟩) (S.ps.map λq=>ptr q.1).length ((S.ps.map λq=>ptr q.1).length+(A.a 0).junk.length):=by unfold Ky;rw[hQ];simp
  rw[<-e];exact hR.kat rfl
 co_applyP ar 29 func110 ntmps110;co_applyP(au);co_applyP oc rfl rfl rfl (g3 L Q (S.ps.map λq=>ptr q.1) (A.a 0).junk hN u' (by simpa using h') (by simpa using h8));rintro _ _ _ ⟨rfl,cb,cap,jk,rfl,hE,w',v'⟩;co_applyP(av);rename_i L1;have n':=hR.fresh hE w' v';co_applyP aU (λk s' b' L'=>s'=s/\ ∃g V X G,S.ps=g++V/\Ke K X (S.parents (g.map (·.1))) (G++(cb,true,Obj.cells ((S.ps.map λq=>ptr q.1)++jk).toArray 93)::Fr) L'/\Good (S.parents (g.map (·.1)))/\(∀q∈S.ps,(∃z,(q.1,z)∈(S.parents (g.map (·.1))).ps)\/ ∃z,pb q.1 z∈G/\z.st=6)/\k+g.length=8/\kn b' [(10, .int .i64 g.length),(9, .int .i64 (S.ps.map λq=>ptr q.1).length),(8, .slice (some ⟨cb,0,none⟩) (S.ps.map λq=>ptr q.1).length cap),(0,ptr K)]) 8
 ·exact⟨rfl,[],S.ps,A,[],rfl,n',hG,λq hq=> .inl ⟨q.2,hq⟩,rfl,rfl⟩
 rintro k s' b' L' ⟨rfl,g,V,X,G,hl,o,E,x,hk,he⟩;co_applyP aA he;have B:=congrArg List.length hl;simp only[mb] at B;have f':=o.fr _ (rv G eT);co_applyP(ax);co_applyP aK;co_applyP aI rfl;intro R
 ·cases V with
  |nil=>simp at R B;omega
  |cons q V=>
   simp at B;have D':At L' cb g.length (ptr q.1):=⟨true,_,_,_,f',by rw[nw,rD ao,hl];simp⟩;have B':(g.length:Int)<(S.ps.map λq=>ptr q.1).length:=by simpa using R
   have T:IntKind.i64.wrap ((g.length:Int)+1)=((g++[q]).length:Int):=ag
   have hq:q∈S.ps:=by rw[hl];simp
   have d:S.parents ((g++[q]).map (·.1))=(S.parents (g.map (·.1))).IJ q.1:=by rw[l3,dI];rfl
   generalize E':S.parents (g.map (·.1))=S' at*;obtain⟨z,x',c'⟩: ∃z,pb q.1 z∈L'/\((q.1,z)∈S'.ps\/(z.st=6/\ ∀r∈S'.ps,r.1≠q.1)):=by
    rcases x q hq with ⟨z,C⟩|⟨z,C,h6⟩
    ·exact⟨z,o.p _ C, .inl C⟩
    ·have hm:pb q.1 z∈G++(cb,true,Obj.cells ((S.ps.map λq=>ptr q.1)++jk).toArray 93)::Fr:=nx _ C;exact⟨z,o.fr _ hm, .inr ⟨h6,λr hr=>ft ((o.fd _ hm).2.1 r hr)⟩⟩
   have C':At L' q.1 2 (.int .i64 (z.st:Nat)):=⟨true,_,_,_,x',rfl⟩;co_applyP(aO);co_applyP bL (λl' U d'=>s'=l'/\ ∃(t:Bool) (A2:Kq) (N:Ka) (P:St),Ke K A2 P (N++(cb,true,Obj.cells ((S.ps.map λq=>ptr q.1)++jk).toArray 93)::Fr) d'/\kn U [(24, .bool t),(3,ptr q.1),(10, .int .i64 g.length),(9, .int .i64 (S.ps.map λq=>ptr q.1).length),(8, .slice (some ⟨cb,0,none⟩) (S.ps.map λq=>ptr q.1).length cap),(0,ptr K)]/\((t=true/\z.st=2/\(q.1,z)∈S'.ps/\ ∃i c y,S'.II z=some i/\S'.ps[i]? =some (c,y)/\y.st=6/\P=({S'.IP (S'.ps.eraseIdx i) with last:=S'.last}:St).ID q.1 (told z y)/\N=pb c y::G)\/(t=false/\P=S'/\N=G/\S'.IJ q.1=S')));co_applyP cr (z.st=2);intro h2
   ·have C:(q.1,z)∈S'.ps:=by
     rcases c' with h|⟨h,_⟩
     ·exact h
     ·omega
    have H:=aY E.pn C;have e2:((z.st:Int)==2)=true:=ao
    co_applyP(aO);rw[e2];co_applyP(ay);co_applyP oc rfl rfl rfl (g1 K X S' _ L' q.1 z hN o C bl);rintro _ _ _ ⟨rfl,l⟩;co_applyP tZ (S'.II z=none);intro O
    ·rw[O] at l;obtain⟨rfl,D⟩:=l;co_applyP(ay);change _=_/\ ∃(t:Bool) (A2:Kq) (N:Ka) (P:St),_;have m:S'.IJ q.1=S':=by unfold St.IJ;rw[H];simp only[h2,if_true,O]
     exact⟨rfl,false,X,G,S',D,rfl, .inr ⟨rfl,rfl,rfl,m⟩⟩
    intro O;obtain⟨i,hi⟩: ∃i,S'.II z=some i:=by
     cases h:S'.II z with
     |none=>exact absurd h O
     |some i=>exact⟨i,rfl⟩
    rw[hi] at l;obtain⟨rfl,c,y,a',f,D⟩:=l;obtain⟨qc,j',_,m'⟩:=di hi;rw[f] at j';obtain rfl:(c,y)=qc:=by simpa using j'
    co_applyP(ay);change _=_/\ ∃(t:Bool) (A2:Kq) (N:Ka) (P:St),_;exact⟨rfl,true,_,pb c y::G,_,D,rfl, .inl ⟨rfl,h2,C,i,c,y,hi,f,m',rfl,rfl⟩⟩
   intro h2;have e2:((z.st:Int)==2)=false:=ao
   have m:S'.IJ q.1=S':=by
    rcases c' with C|⟨_,t'⟩
    ·unfold St.IJ;rw[aY E.pn C];simp only[h2,if_false]
    ·unfold St.IJ;rw[gD t']
   co_applyP(aO);rw[e2];co_applyP(au);change _=_/\ ∃(t:Bool) (A2:Kq) (N:Ka) (P:St),_;exact⟨rfl,false,X,G,S',o,rfl, .inr ⟨rfl,rfl,rfl,m⟩⟩;rintro l' U d' ⟨rfl,t,A2,N,P,D,y',I⟩;co_applyP aA y';co_applyP aI rfl;intro ht;co_applyP(ax)
   ·have Z:t=true:=by simpa using ht
    obtain⟨h2,C,i,c,y,hi,f,r',rfl,rfl⟩:z.st=2/\(q.1,z)∈S'.ps/\ ∃i c y,S'.II z=some i/\S'.ps[i]? =some (c,y)/\y.st=6/\P=({S'.IP (S'.ps.eraseIdx i) with last:=S'.last}:St).ID q.1 (told z y)/\N=pb c y::G:=by
     rcases I with h|h
     ·exact h.2
     ·rw[Z] at h;exact absurd h.1 bE
    have H:=aY E.pn C;have p':Good {S'.IP (S'.ps.eraseIdx i) with last:=S'.last}:=E.erase f bl;have e':(q.1,z)∈S'.ps.eraseIdx i:=by
     obtain⟨j,hj⟩:=mx C;have Y:j≠i:=λe=>by subst e;rw[hj] at f;simp at f;have:=f.2;subst this;omega
     rw[G2];exact⟨j,Y,hj⟩
    have M:Good (({S'.IP (S'.ps.eraseIdx i) with last:=S'.last}:St).ID q.1 (told z y)):=p'.Jq e' rfl rfl;have J:(q.1,told z y)∈(({S'.IP (S'.ps.eraseIdx i) with last:=S'.last}:St).ID q.1 (told z y)).ps:=ai e';have m:S'.IJ q.1=(({S'.IP (S'.ps.eraseIdx i) with last:=S'.last}:St).ID q.1 (told z y)).IV q.1 (told z y):=by
     unfold St.IJ;rw[H];simp only[h2,if_true,hi,f,St.take]
    rw[m] at d;co_applyP oc rfl rfl rfl (g2 K _ _ _ _ q.1 (told z y) hN D J (M.lv _ J) (M.r8 (M.lv _ J)) (λe _=>cU _ (M.lv _ J)));rintro _ _ _ ⟨rfl,rfl,A3,F',q'⟩;co_applyP(au);change∃k',k'<_/\_;refine⟨k-1,bl,rfl,g++[q],V,A3,pb c y::G,by simp[hl], ?_, ?_, ?_,by simp;omega, ?_⟩
    ·rw[d];exact q'
    ·rw[d];exact M.IV J (by show z.st≠1;omega)
    ·intro r hr;rcases x r hr with ⟨w,hw⟩|⟨w,hw,h6⟩
     ·by_cases g':r.1=c
      ·exact .inr ⟨y,by rw[g'];exact eT,r'⟩
      ·left;have z':(r.1,w)∈S'.ps.eraseIdx i:=by
        obtain⟨j,hj⟩:=mx hw;have Y:j≠i:=λe=>by subst e;rw[hj] at f;simp at f;exact g' f.1
        rw[G2];exact⟨j,Y,hj⟩
       have:r.1∈(S.parents ((g++[q]).map (·.1))).ps.map (·.1):=by
        rw[d];show r.1∈((({S'.IP (S'.ps.eraseIdx i) with last:=S'.last}:St).ID q.1 (told z y)).ID q.1 _).ps.map (·.1);rw[aV,aV];exact cm.2 ⟨_,z',rfl⟩
       obtain⟨u,hu,he⟩:=cm.1 this;exact⟨u.2,by rw[<-he];exact hu⟩
     ·exact .inr ⟨w,dc _ hw,h6⟩
    ·rw[<-T];rfl
   intro ht;co_applyP(au);change∃k',k'<_/\_;have Z:t=false:=by simpa using ht
   obtain⟨rfl,rfl,m⟩:P=S'/\N=G/\S'.IJ q.1=S':=by
    rcases I with h|h
    ·rw[Z] at h;exact absurd h.1 bE
    ·exact h.2
   rw[m] at d;refine⟨k-1,bl,rfl,g++[q],V,A2,N,by simp[hl], ?_, ?_, ?_,by simp;omega, ?_⟩
   ·rw[d];exact D
   ·rw[d];exact E
   ·rw[d];exact x
   ·rw[<-T];rfl
 intro R;co_applyP(zo);change∃v,Ko .. =some v/\_;cases V with
 |nil=>
  have e:g=S.ps:=by rw[hl];simp
  subst e;exact⟨_,rfl,rfl,rfl,E,X,G,x,o.less λt ht=>(cE.1 ht).elim (λh=>nx _ h) λh=>rv _ (dc _ h)⟩
 |cons q V=>simp at R B;omega
theorem jm: ∃n,∀{e}{F:Kn e}{d:DM F}{a s}(L:Ka)(k:Nat×Nat),(∀cs,(d s).New (.cells cs 96))->
 Kb d prog a 126 [KE k].toArray n s L (λs' v L'=>s=s'/\v= .bool (decide (k=(0,0)))/\Ext L L'):=by
 constructor;intro e F d a s L k f;co_applyP ar 6 func126 ntmps126;co_applyP(zo);co_applyP bB rfl (bA (f _));intro g i b;co_applyP(ax);co_applyP oy rfl (aW (ht:=bV) (hs:=bw) (hm:=b.self) (hi:=cD _));co_applyP oy rfl (aQ yJ);co_applyP oy rfl (DL (k:=k) (k':=(0,0)) eR (DN k (0,0)));co_applyP(ax);exact xI _ ⟨rfl,rfl,rfl,b.fn,b.sub⟩
section
variable {P:Program}{New:Obj->Prop}{N:Nat}{ε:Env}{L:Ka}{d:Option Tmp}{ty t u e e2:TypeId}{ps:String}{af:Array Edge}{g:Option (Nat×Bool)}{x y:Operand}
theorem sX {sz:Nat}{yb:Option Addr}{b:Nat}{vs:Array Value}(hx:ev ε x=some (.slice none 0 0):=by rfl)(hy:ev ε y=some (.slice yb 0 b):=by rfl)(hu:P.underlying t=some (.slice e))(hv:P.underlying u=some (.slice e2))(hs:Kd P e=some sz)(hr:Reads P L sz 0 (.slice yb 0 b) vs):
 EO P New N ε L ⟨d, .call ⟨.builtin .append, #[x,y], #[t,u]⟩,ty,ps,af,g⟩ (λr L'=>r= .slice none 0 0/\L=L'):=by
 intro a f;refine cw (s:=Builtin.append_ #[t,u] ty #[.slice none 0 0, .slice yb 0 b]) (λ_=>by simp[builtin,f.ev hx,f.ev hy]) ?_;unfold Builtin.append_;simp only[nw,u9,OE];rw[ak,aT hu];simp only[];rw[ak,bO hs];rw[ak,aT hv,ak,bg];simp only[pS,if_false,Bool.not_false,if_true,Builtin.lenOf];rw[ak,bg];simp only[K2,cD,if_true];rw[ak];refine hr.r New _ ?_;exact⟨rfl,rfl⟩
end
structure ApR (L:Ka)(a:Sl)(zs:List Nat)(a':Sl)(L':Ka):Prop where
 ok:Kf a' (zs.map ptr) 93 L'
 fn:K5 L'
 sub: ∀t∈L,a.b≠some t.1->t∈L'
 d: ∀b,a'.b=some b->a.b=some b\/ ∀t∈L,t.1≠b
section
variable {New:Obj->Prop}{N:Nat}{ε:Env}{L:Ka}{d:Option Tmp}{ty:TypeId}{ps:String}{af:Array Edge}{g:Option (Nat×Bool)}{x y:Operand}
theorem nF {a:Sl}{xs:List Nat}(ha:Kf a (xs.map ptr) 93 L):Reads prog L 1 xs.length (Ky a xs.length) (xs.map ptr).toArray:=by
 cases d:a.b with
 |none=>
  unfold Kf at ha;rw[d] at ha;obtain rfl:xs=[]:=by simpa using ha.1
  have e:Ky a 0= .slice none 0 0:=by unfold Ky;rw[d]
  show Reads prog L 1 0 (Ky a 0) #[];rw[e];exact dx
 |some b=>
  have hm:=ha.mem d;have e:Ky a xs.length= .slice (some ⟨b,0,none⟩) xs.length (xs.length+a.junk.length):=by unfold Ky;rw[d]
  rw[e];have:=bR (P:=prog) (sz:=1) (n:=xs.length) (len:=xs.length) (cap:=xs.length+a.junk.length) (o:=0) hm bE;have f:(xs.map ptr++a.junk).take xs.length=xs.map ptr:=by rw[sA bE];exact sD bE
  simpa [f] using this
theorem Hc {a a2:Sl}{xs ys:List Nat}(hx:ev ε x=some (Ky a xs.length):=by rfl)(hy:ev ε y=some (Ky a2 ys.length):=by rfl)(hnd:(L.map (·.1)).Nodup)(hN: ∀cs,New (.cells cs 93)) (ha:Kf a (xs.map ptr) 93 L) (ha2:Kf a2 (ys.map ptr) 93 L) (h8:xs.length<=1000) (h8':ys.length<=1000):
 EO prog New N ε L ⟨d, .call ⟨.builtin .append, #[x,y], #[91,91]⟩,ty,ps,af,g⟩ (λr L'=> ∃s,r=Ky s (xs++ys).length/\ApR L a (xs++ys) s L'):=by
 have o:=nF ha;have A:=nF ha2;obtain⟨F,E,C⟩: ∃F E,Ky a2 ys.length= .slice F ys.length E:=by
  unfold Ky;cases hb:a2.b with
  |none=>
   unfold Kf at ha2;rw[hb] at ha2;obtain rfl:ys=[]:=by simpa using ha2.1
   exact⟨none,0,rfl⟩
  |some b=>exact⟨_,_,rfl⟩
 rw[C] at hy A
 have grow: ∀(i:Nat),(∃k,Ky a xs.length= .slice k xs.length i)->i<xs.length+ys.length->
  EO prog New N ε L ⟨d, .call ⟨.builtin .append, #[x,y], #[91,91]⟩,ty,ps,af,g⟩ (λr L'=> ∃s,r=Ky s (xs++ys).length/\ApR L a (xs++ys) s L'):=by
  rintro i ⟨k,hb⟩ hc;rw[hb] at o hx;intro ac j;refine bS ?_ _ _ (nv (by_:=7) (New:=New) hx hy (bz hnd) U91 U91 dA sP jd o A hc bl hN ac j);intro r L' q;cases r<;>try exact q.elim
  ·obtain⟨b,cap,P,z,rfl,m⟩:=q;rw[eP rfl] at m;refine⟨⟨some b,List.replicate (cap-(xs.length+ys.length)) (.pointer none)⟩, ?_, ?_,m.fn,λt p _=>m.sub t p,λD l=> .inr ?_⟩
   ·unfold Ky;simp;omega
   ·have J:(xs.map ptr).toArray++(ys.map ptr).toArray++(List.replicate (cap-(xs.length+ys.length)) (Value.pointer none)).toArray=((xs++ys).map ptr++List.replicate (cap-(xs.length+ys.length)) (Value.pointer none)).toArray:=by
     apply gm;simp
    rw[J] at m;exact m.self
   ·obtain rfl:b=D:=by simpa using l
    exact m.new
  ·obtain⟨b,cap,_,_,e,_⟩:=q;cases e
 cases f:a.b with
 |none=>
  have z:=ha;unfold Kf at z;rw[f] at z;obtain⟨I,O⟩:=z;obtain rfl:xs=[]:=by simpa using I
  have n:Ky a 0= .slice none 0 0:=by unfold Ky;rw[f]
  by_cases h0:0<ys.length
  ·exact grow 0 ⟨none,n⟩ (by simpa using h0)
  ·obtain rfl:ys=[]:=OI.1 bl;intro ac j;rw[km,n] at hx;refine bS ?_ _ _ (sX (New:=New) hx hy U91 U91 dA A ac j);intro r L' q;cases r<;>try exact q.elim
   ·obtain⟨rfl,rfl⟩:=q;exact⟨a,n.symm,ha,bz hnd,λt p _=>p,λb hb=>by rw[f] at hb;cases hb⟩
   ·exact absurd q.1 (by simp[undef])
 |some b=>
  have hm:=ha.mem f;have n:Ky a xs.length= .slice (some ⟨b,0,none⟩) xs.length (xs.length+a.junk.length):=by unfold Ky;rw[f]
  by_cases M:ys.length<=a.junk.length
  ·intro ac j;rw[n] at hx;refine bS ?_ _ _ (lE (New:=New) hx hy hnd U91 U91 dA A bl hm ao (by simp[Km]) ac j);intro r L' q;cases r<;>try exact q.elim
   ·obtain⟨rfl,u⟩:=q;have G:KP (xs.map ptr++a.junk).toArray (0+xs.length*1) (ys.map ptr).toArray.toList=((xs++ys).map ptr++a.junk.drop ys.length).toArray:=by
     rw[bY _ _ _ ao];have K:(xs.map ptr++a.junk).drop (xs.length+ys.length)=a.junk.drop ys.length:=by
      rw[O1];simp
     have H:(xs.map ptr++a.junk).take xs.length=xs.map ptr:=by rw[sA bE];exact sD bE
     simp[K,H]
    rw[G] at u;refine⟨⟨some b,a.junk.drop ys.length⟩, ?_,u.self,u.fn,λt p B=>u.ne t p λe=>B (by rw[f,e]),λD l=> .inl (by rw[f];exact l)⟩;unfold Ky;simp;omega
   ·exact absurd q.1 (by simp[undef])
  ·exact grow (xs.length+a.junk.length) ⟨_,n⟩ bl
end
def St.JA (S:St)(l:Nat):St:=(S.setRow 0 (S.rows 0++S.rows l)).setRow l []
def St.IG (S:St):Nat->St
 |0=>S
 |n+1=>(S.IG n).JA (n+1)
theorem l0 (S:St){n j:Nat}(h:n<j):(S.IG n).rows j=S.rows j:=by
 induction n with
 |zero=>rfl
 |succ n ih=>
  show put (put (S.IG n).rows 0 _) (n+1) [] j=_;unfold put;rw[if_neg bl,if_neg bl];exact ih bl
theorem l8 (S:St)(h: ∀l,l<3->(S.rows l).length<=8): ∀n,n<3->((S.IG n).rows 0).length<=8*(n+1)
 |0,_=>h 0 bl
 |n+1,hn=>by
  have a:=l8 S h n bl;have b:((S.IG n).rows (n+1)).length<=8:=by rw[l0 S bl];exact h _ hn
  have e:(S.IG (n+1)).rows 0=(S.IG n).rows 0++(S.IG n).rows (n+1):=by
   simp[St.IG,St.JA,St.setRow,put]
  rw[e,mb];omega
theorem qR: ∃n,∀{T}{F:Kn T}{N:DM F}{p s}(K:Nat)(A:Kq)(S:St)(Fr L:Ka),(∀cs,(N s).New (.cells cs 93))->Ke K A S Fr L->(∀l,l<3->(S.rows l).length<=8)->
 Kb N prog p 92 [.pointer (some ⟨K,7,none⟩)].toArray n s L (λs' v L'=>s=s'/\v= .tuple #[]/\ ∃g,Lk A g/\Ke K g (S.IG 2) Fr L'):=by
 constructor;intro T F N p s K A S Fr L R hR M;co_applyP ar 24 func92 ntmps92;co_applyP(av);co_applyP aU (λk s' z L'=>s'=s/\ ∃n g,n<=2/\k+n=2/\Lk A g/\Ke K g (S.IG n) Fr L'/\kn z [(2, .int .i64 ((n+1:Nat):Int)),(0, .pointer (some ⟨K,7,none⟩))]) 2
 ·exact⟨rfl,0,A,bl,rfl,Lk.refl A,hR,rfl⟩
 rintro k s' z L' ⟨rfl,n,g,hn,hk,Q,f,he⟩;co_applyP aA he;co_applyP(au);co_applyP aI rfl;intro r
 ·have B:n<2:=by
   have:((n+1:Nat):Int)<3:=by simpa using r
   omega
  have h0:At L' K 7 (Ky (g.a (0+1)) ((S.IG n).rows 0).length):=f.kat (lN (Lj g (S.IG n)) (l:=0) bl);have H:At L' K (7+(n+1)) (Ky (g.a (n+1+1)) ((S.IG n).rows (n+1)).length):=f.kat (lN (Lj g (S.IG n)) (l:=n+1) bl);have Z:=l8 S M n bl;have b':((S.IG n).rows (n+1)).length<=8:=by rw[l0 S bl];exact M _ bl
  have y:IntKind.i64.wrap (((n+1:Nat):Int)+1)=((n+1+1:Nat):Int):=ag
  have W:((n+1:Nat):Int)<3:=bl
  have j:(g.a (0+1)).b≠some K:=f.JH (l:=0) bl f.k (fE bx);co_applyP(av);co_applyP aM [] 10 (nf:=0) mixed;co_applyP(aP);co_applyP tr 11 rfl bI pN;co_applyP aF;intro hnd;co_applyP te (i:=10) rfl (Hc (a:=g.a (0+1)) (a2:=g.a (n+1+1)) (hnd:=hnd) (hN:=R) (ha:=f.rw 0 bl) (ha2:=f.rw (n+1) bl) (h8:=bl) (h8':=bl));rintro _ _ ⟨m,rfl,x⟩;refine⟨aj bE, ?_⟩;rename_i L2;co_applyP to 12 rfl ((cW underlying112 gx)) (aj bE);co_applyP aF;intro E;co_applyP te (i:=13) rfl (bX (hnd:=E) (hm:=x.sub _ f.k j) (hi:=by rw[bP];omega) (hp:=fD _ _) (hs:=gx));rintro _ _ ⟨rfl,G⟩;refine⟨aj bE, ?_⟩;rename_i P;have e7:(Ks (Lj g (S.IG n))).setIfInBounds (7+0) (Ky m ((S.IG n).rows 0++(S.IG n).rows (n+1)).length)=Ks (Lj (g.I6 (0+1) m) ((S.IG n).setRow 0 ((S.IG n).rows 0++(S.IG n).rows (n+1)))):=by
   rw[je _ bl,kR _ _ _ _ _ bl]
  have D:Ke K (g.I6 (0+1) m) ((S.IG n).setRow 0 ((S.IG n).rows 0++(S.IG n).rows (n+1))) Fr P:=by
   refine f.setRow (l:=0) bl G.fn ?_ (λt C H X=>G.ne _ (x.sub _ C X) H) ?_ (λb hb=> ?_) (λe _=>cU _ bl)
   ·show (K,true,Obj.cells (Ks _) 115)∈P;rw[<-e7];exact G.self
   ·refine x.ok.mono λc hc o U=>G.ne _ U λe=> ?_;rcases x.d c hc with h|h
    ·exact j (by rw[h];exact congrArg some e)
    ·exact h _ f.k e.symm
   ·rcases x.d b hb with h|h
    ·exact .inl h
    ·exact .inr ⟨λi J=>by obtain⟨xs,Y⟩:=f.al i b J;exact h _ Y rfl,λt C=>h _ (f.fr t C)⟩
  co_applyP(aC);co_applyP oeN rfl (λhnd=>bX (hs:=gx) (hnd:=hnd) (hm:=D.k) (hi:=by rw[bP];omega));rintro _ O ⟨rfl,u⟩;co_applyP(aC);change∃k',k'<_/\_;have V:(Ks (Lj (g.I6 (0+1) m) ((S.IG n).setRow 0 ((S.IG n).rows 0++(S.IG n).rows (n+1))))).setIfInBounds (7+(n+1)) (Ky ⟨none,[]⟩ ([]:List Nat).length)=Ks (Lj ((g.I6 (0+1) m).I6 (n+1+1) ⟨none,[]⟩) (S.IG (n+1))):=by
   rw[je _ bl];exact(congrArg Ks (kR (g.I6 (0+1) m) ((S.IG n).setRow 0 ((S.IG n).rows 0++(S.IG n).rows (n+1))) (n+1) ⟨none,[]⟩ [] bl)).symm
  have I:Ke K ((g.I6 (0+1) m).I6 (n+1+1) ⟨none,[]⟩) (S.IG (n+1)) Fr O:=by
   refine D.setRow (l:=n+1) (xs:=[]) bl u.fn ?_ (λt C H _=>u.ne _ C H) ⟨rfl,rfl⟩ (λb hb=>by cases hb) (λe _=>cU _ bl);exact Eq.mp (congrArg (λc=>(K,true,Obj.cells c 115)∈O) V) u.self
  refine⟨k-1,bl,rfl,n+1,_,bl,bl,(Q.trans (Lk.set g (l:=0) bl m)).trans (Lk.set _ (l:=n+1) bl _),I, ?_⟩;rw[<-y];rfl
 intro r;co_applyP(zo);change∃v,Ko .. =some v/\_;have B:n=2:=by
  have: ¬((n+1:Nat):Int)<3:=by simpa using r
  omega
 subst B;exact⟨_,rfl,rfl,rfl,g,Q,f⟩
def St.IU (S:St):List Nat->St
 |[]=>S
 |b::bs=>St.IU (match S.get b with
  |some x=>if x.st≠6/\0<x.lv then S.ID b {x with lv:=0,used:=0} else S
  |none=>S) bs
theorem jo (S:St)(l m:List Nat):S.IU (l++m)=(S.IU l).IU m:=by
 induction l generalizing S with
 |nil=>rfl
 |cons b l ih=>simp only[sc,St.IU];exact ih _
structure LfRel (S S':St):Prop where
 f:S'.ps.map (·.1)=S.ps.map (·.1)
 r:S'.rows=S.rows/\S'.by_=S.by_/\S'.wt=S.wt/\S'.now=S.now/\S'.last=S.last
theorem uf: ∃n,∀{σ}{F:Kn σ}{Δ:DM F}{G s}(K:Nat)(A:Kq)(S:St)(Fr L:Ka),(∀cs,(Δ s).New (.cells cs 93))->Ke K A S Fr L->(∀l,l<3->(S.rows l).length<=8)->
 Kb Δ prog G 81 [ptr K].toArray n s L (λs' v L'=>s=s'/\v= .tuple #[]/\ ∃A',Lk A A'/\Ke K A' ((S.IU (S.ps.map (·.1))).IG 2) Fr L'):=by
 obtain⟨n1,g1⟩:=qR;constructor;intro σ F Δ G s K A S Fr L hN U Z;obtain⟨u,cap,hv,T⟩:=bH U.pa;simp only[ia] at hv;have h5:At L K 5 (.slice u S.ps.length cap):=by rw[<-hv];exact U.kat rfl
 co_applyP ar 40 func81 ntmps81;co_applyP(aP);co_applyP aU (λk s' M L'=>s'=s/\ ∃d D,S.ps=d++D/\Ke K A (S.IU (d.map (·.1))) Fr L'/\LfRel S (S.IU (d.map (·.1)))/\k+d.length=8/\kn M [(9, .int .i64 d.length),(8, .int .i64 S.ps.length),(7, .slice u S.ps.length cap),(0,ptr K)]) 8
 ·exact⟨rfl,[],S.ps,rfl,U,⟨rfl,rfl,rfl,rfl,rfl,rfl⟩,rfl,rfl⟩
 rintro k s' M L' ⟨rfl,d,D,B,g,m,hk,he⟩;co_applyP aA he;have j:=congrArg List.length B;simp only[mb] at j;have h8:=U.p8;co_applyP(ax);co_applyP aK;co_applyP aI rfl;intro J
 ·cases D with
  |nil=>simp at J j;omega
  |cons q D=>
   have c': ∃I,u=some ⟨I,0,none⟩/\At L' I d.length (ptr q.1):=by
    obtain⟨I,X,y,_⟩:=T d.length (ptr q.1) (by rw[B];simp);obtain⟨f',g',_,R⟩:=bH g.pa;have e1:(S.IU (d.map (·.1))).ps.map (λq=>ptr q.1)=S.ps.map λq=>ptr q.1:=by
     have:=congrArg (List.map ptr) m.f;rw[kt,kt] at this;exact this
    obtain⟨b',E,_,a'⟩:=R d.length (ptr q.1) (by rw[e1,B];simp);rw[X] at E;obtain rfl:I=b':=by simpa using E
    exact⟨I,y,a'⟩
   obtain⟨I,rfl,j'⟩:=c';simp at j;generalize d':S.IU (d.map (·.1))=S' at*;have Q:q.1∈S'.ps.map (·.1):=by rw[m.f,B];simp
   obtain⟨⟨b,x⟩,o,Y⟩:=cm.1 Q;have N:b=q.1:=Y;subst N;have h':At L' q.1 2 (.int .i64 (x.st:Int)):=g.pat o (i:=2) rfl;have i':At L' q.1 5 (.int .i64 (x.lv:Int)):=g.pat o (i:=5) rfl;have O:=aY g.pn o;have C:IntKind.i64.wrap ((d.length:Int)+1)=((d++[q]).length:Int):=ag
   have a:S.IU ((d++[q]).map (·.1))=if x.st≠6/\0<x.lv then S'.ID q.1 {x with lv:=0,used:=0} else S':=by
    rw[l3,jo,d'];show St.IU (match S'.get q.1 with|some x=>_|none=>_) []=_;rw[O];rfl
   co_applyP(aO);co_applyP aK;co_applyP ct ([(26, .bool (decide (x.st≠6/\0<x.lv))),(3,ptr q.1),(9, .int .i64 d.length),(8, .int .i64 S.ps.length),(7, .slice (some ⟨I,0,none⟩) S.ps.length cap),(0,ptr K)]);co_applyP(aO)
   ·by_cases h3:x.st=6
    ·have e3:((x.st:Int) !=6)=false:=by simp[h3]
     rw[e3];co_applyP(aO);change _=_/\_=_/\kn _ _;refine⟨rfl,rfl, ?_⟩;have V:false=decide (x.st≠6/\0<x.lv):=by simp[h3]
     rw[<-V];rfl
    ·have e3:((x.st:Int) !=6)=true:=ao
     rw[e3];co_applyP(aO);change _=_/\_=_/\kn _ _;refine⟨rfl,rfl, ?_⟩;have V:decide ((0:Int)<(x.lv:Int))=decide (x.st≠6/\0<x.lv):=by simp[h3]
     rw[<-V];rfl
   co_applyP aI rfl;intro hw;co_applyP(aC)
   ·have H:x.st≠6/\0<x.lv:=by simpa using hw
    rw[if_pos H] at a;co_applyP osm rfl (hs:=bJ) (hm:=g.p _ o) (hi:=by first|decide|(rw[bq];omega)|(rw[bP];omega));intro L2 hU;have z:=g.ID o (x':={x with lv:=0}) hU;have y:(q.1,{x with lv:=0})∈(S'.ID q.1 {x with lv:=0}).ps:=ai o;co_applyP(ax);co_applyP osm rfl (hs:=bJ) (hm:=z.p _ y) (hi:=by first|decide|(rw[bq];omega)|(rw[bP];omega));intro L3 W;have P:=z.ID y (x':={x with lv:=0,used:=0}) W;have e6:(S'.ID q.1 {x with lv:=0}).ID q.1 {x with lv:=0,used:=0}=S'.ID q.1 {x with lv:=0,used:=0}:=by
     unfold St.ID;simp only[kt];congr 1;apply k0;intro r _;simp only[Function.comp]
     split
     ·simp
     ·rename_i h;simp[h]
    rw[e6] at P;co_applyP(au);change∃k',k'<_/\_;refine⟨k-1,bl,rfl,d++[q],D,by simp[B],by rw[a];exact P,by rw[a];exact⟨by rw[aV];exact m.f,m.r⟩,by simp;omega,by rw[<-C];rfl⟩
   intro hw;co_applyP(au);change∃k',k'<_/\_;have H: ¬(x.st≠6/\0<x.lv):=by simpa using hw
   rw[if_neg H] at a;refine⟨k-1,bl,rfl,d++[q],D,by simp[B],by rw[a];exact g,by rw[a];exact m,by simp;omega,by rw[<-C];rfl⟩
 intro J;co_applyP(au);cases D with
 |cons q D=>simp at J j;omega
 |nil=>
 have e:d=S.ps:=by rw[B];simp
 subst e;co_applyP oc rfl rfl rfl (g1 K A _ Fr L' hN g (λl B=>by rw[m.r.1];exact Z l B));rintro _ _ _ ⟨rfl,rfl,A2,e',z⟩;co_applyP(zo);exact xI _ ⟨rfl,rfl,rfl,A2,e',z⟩
def KD (x:PS):PS:=if x.st≠6/\0<x.lv then{x with lv:=0,used:=0} else x
theorem vB {S:St}(hn:(S.ps.map (·.1)).Nodup)(b:Nat):(match S.get b with
 |some x=>if x.st≠6/\0<x.lv then S.ID b {x with lv:=0,used:=0} else S
 |none=>S)=S.IP (S.ps.map λq=>if q.1=b then(b,KD q.2) else q):=by
 cases f:S.get b with
 |none=>
  have: ∀q∈S.ps,q.1≠b:=λq a e=>by
   have:=aY hn (b:=q.1) (x:=q.2) a;rw[e,f] at this;cases this
  have e:(S.ps.map λq=>if q.1=b then(b,KD q.2) else q)=S.ps:=by
   conv=>rhs;rw[<-List.map_id S.ps]
   exact k0 λq a=>by simp[this q a]
  show S=S.IP _;rw[e];rfl
 |some x=>
  have d:=ba f;simp only;have key: ∀y,KD x=y->S.ID b y=S.IP (S.ps.map λq=>if q.1=b then(b,KD q.2) else q):=λy g=>by
   unfold St.ID St.IP;congr 1;refine k0 λq a=> ?_;obtain⟨c,z⟩:=q;by_cases e:c=b
   ·subst e;rw[aS hn a d];simp[g]
   ·simp[e]
  split
  ·rename_i h;exact key _ (by simp[KD,h])
  ·rename_i h;have:=key x (by simp only[KD];rw[if_neg h]);rw[<-this,eJ hn d]
theorem qS: ∀(bs:List Nat)(S:St),(S.ps.map (·.1)).Nodup->bs.Nodup->S.IU bs=S.IP (S.ps.map λq=>if q.1∈bs then(q.1,KD q.2) else q)
 |[],S,_,_=>by simp[St.IU,St.IP]
 |b::bs,S,hn,hb=>by
  have a:((S.IP (S.ps.map λq=>if q.1=b then(b,KD q.2) else q)).ps.map (·.1))=S.ps.map (·.1):=by
   show ((S.ps.map λq=>if q.1=b then(b,KD q.2) else q).map (·.1))=_;rw[kt];refine k0 λq _=> ?_;simp only[Function.comp]
   split
   ·rename_i e;exact e.symm
   ·rfl
  show St.IU (match S.get b with|some x=>_|none=>_) bs=_;rw[vB hn,qS bs _ (by rw[a];exact hn) (x8.1 hb).2];unfold St.IP;simp only[kt];congr 1;refine k0 λq _=> ?_;obtain⟨c,z⟩:=q;simp only[Function.comp,gn];by_cases e:c=b
  ·subst e;simp[(x8.1 hb).1]
  ·simp[e]
theorem nG {S:St}(hn:(S.ps.map (·.1)).Nodup):S.IU (S.ps.map (·.1))=S.IP (S.ps.map λq=>(q.1,KD q.2)):=by
 rw[qS _ _ hn hn];unfold St.IP;congr 1;exact k0 λq a=>by simp[cm.2 ⟨q,a,rfl⟩]
theorem Good.raise {S:St}(h:Good S):Good ((S.IU (S.ps.map (·.1))).IG 2):=by
 rw[nG h.pn];have r0:((S.IP (S.ps.map λq=>(q.1,KD q.2))).IG 2).rows 0=S.rows 0++S.rows 1++S.rows 2:=by simp[St.IG,St.JA,St.setRow,put,St.IP]
 have D: ∀l,0<l->l<3->((S.IP (S.ps.map λq=>(q.1,KD q.2))).IG 2).rows l=[]:=λl d u=>by
  have:l=1\/l=2:=bl
  rcases this with rfl|rfl<;>simp[St.IG,St.JA,St.setRow,put,St.IP]
 have f:((S.IP (S.ps.map λq=>(q.1,KD q.2))).IG 2).ps=S.ps.map λq=>(q.1,KD q.2):=rfl;have s: ∀x:PS,(KD x).st=x.st:=λx=>by unfold KD;split<;>rfl
 have n: ∀x:PS,x.st=1->(KD x).lv=0:=λx d=>by
  unfold KD
  split
  ·rfl
  ·rename_i G;have: ¬0<x.lv:=λh0=>G ⟨bl,h0⟩;omega
 have j: ∀l,l<3-> ∀c∈S.rows l,∃y,(c,y)∈((S.IP (S.ps.map λq=>(q.1,KD q.2))).IG 2).ps/\y.lv=0/\y.st=1:=λl g c hc=>by
  obtain⟨y,B,d,u⟩:=h.rm l g c hc;exact⟨KD y,by rw[f];exact cm.2 ⟨_,B,rfl⟩,n y u,by rw[s];exact u⟩
 have k: ∀l m,l<3->m<3->l≠m-> ∀a∈S.rows l,∀b∈S.rows m,a≠b:=λl m g hm F a C b hb e=>by
  subst e;obtain⟨y,B,d,_⟩:=h.rm l g a C;obtain⟨z,E,u,_⟩:=h.rm m hm a hb;rw[aS h.pn B E] at d;omega
 refine⟨?_, ?_,λq p=> ?_,λl g=> ?_,λl g c hc=> ?_,λq p d=> ?_⟩
 ·rw[f,kt];exact h.pn
 ·rw[f];simpa using h.p8
 ·rw[f] at p;obtain⟨r,A,rfl⟩:=cm.1 p;have:=h.lv r A;show (KD r.2).lv<3;unfold KD
  split
  ·show 0<3;omega
  ·exact this
 ·by_cases e:l=0
  ·subst e;rw[r0];refine ss.2 ⟨ss.2 ⟨h.rn 0 bl,h.rn 1 bl,k 0 1 bl bl bl⟩,h.rn 2 bl,λa C b hb=> ?_⟩;rcases cE.1 C with d|d
   ·exact k 0 2 bl bl bl a d b hb
   ·exact k 1 2 bl bl bl a d b hb
  ·rw[D l bl g];exact List.nodup_nil
 ·by_cases e:l=0
  ·subst e;rw[r0] at hc;rcases cE.1 hc with d|d
   ·rcases cE.1 d with d|d
    ·exact j 0 bl c d
    ·exact j 1 bl c d
   ·exact j 2 bl c d
  ·rw[D l bl g] at hc;simp at hc
 ·rw[f] at p;obtain⟨r,A,rfl⟩:=cm.1 p;have o:r.2.st=1:=by rw[<-s];exact d
  have h0:=n r.2 o;have hm:=h.rr r A o;show r.1∈_;rw[show ((r.1,KD r.2):Nat×PS).2.lv=0 from h0,r0];have g:=h.lv r A;have i:r.2.lv=0\/r.2.lv=1\/r.2.lv=2:=bl
  rcases i with e|e|e
  ·rw[e] at hm;exact nx _ (nx _ hm)
  ·rw[e] at hm;exact nx _ (rv _ hm)
  ·rw[e] at hm;exact rv _ hm
theorem qT:zeroAt prog 5=some (.int .u8 0):=bD
theorem yR {xs junk:List Value}{n:Nat}(hn:n<=xs.length):KP (xs++junk).toArray 0 (xs.drop n)=(xs.drop n++(xs++junk).drop (xs.length-n)).toArray:=by
 rw[bY _ _ _ ao];simp
theorem vC {xs junk:List Value}{n:Nat}{z:Value}(hn:n<=xs.length):KP (xs.drop n++(xs++junk).drop (xs.length-n)).toArray (xs.length-n) (List.replicate n z)=(xs.drop n++(List.replicate n z++junk)).toArray:=by
 rw[bY _ _ _ ao];have b:(xs.drop n++(xs++junk).drop (xs.length-n)).take (xs.length-n)=xs.drop n:=by
  rw[sA bE];exact sD bE
 have d:(xs.drop n++(xs++junk).drop (xs.length-n)).drop (xs.length-n+(List.replicate n z).length)=junk:=by
  have a:(xs++junk).drop (xs.length-n)=xs.drop (xs.length-n)++junk:=OS bl;rw[a,<-r5,List.drop_left' ao]
 rw[b,d,r5]
theorem vD: ∃n,∀{z}{F:Kn z}{y:DM F}{d s}(L:Ka)(b:Nat)(xs junk:List Value)(m:Nat),0<m->m<=xs.length->xs.length<1000000->xs.all Km=true->(b,true,Obj.cells (xs++junk).toArray 5)∈L->
 Kb y prog d 172 [.slice (some ⟨b,0,none⟩) xs.length (xs.length+junk.length), .int .i64 0, .int .i64 m].toArray n s L (λs' v L'=>s=s'/\v= .slice (some ⟨b,0,none⟩) (xs.length-m) (xs.length+junk.length)/\K4 L b (.cells (xs.drop m++(List.replicate m (Value.int .u8 0)++junk)).toArray 5) L'):=by
 constructor;intro z F y d s L b xs junk m D hm u e hb;have p:(xs++junk).toArray.size=xs.length+junk.length:=bE
 have g:cutAt 0 (m:Int).toNat (xs.length+junk.length) 1+(xs.length-(m:Int).toNat)*1<=(xs++junk).toArray.size:=by unfold cutAt;rw[p];split<;>omega
 co_applyP ar 33 func172 ntmps172;co_applyP(bm);co_applyP oy rfl (xE U44 cP);co_applyP(aR);change Kw ..;have C:((0:Int)==(m:Int))=false:=ao
 rw[C];co_applyP(aO);co_applyP aM [] 6 (nf:=0) mixed;co_applyP(ay);co_applyP tr 2 rfl (qx U44 cP) pN;co_applyP(ay);co_applyP tr 5 rfl (qz U44 cP) pN;co_applyP aF;intro hnd;have k:cutAt 0 0 (xs.length+junk.length) 1=0:=by unfold cutAt;split<;>omega
 have f:((xs++junk).toArray.extract (cutAt 0 (m:Int).toNat (xs.length+junk.length) 1) (cutAt 0 (m:Int).toNat (xs.length+junk.length) 1+(xs.length-(m:Int).toNat)*1)).toList=xs.drop m:=by
  unfold cutAt
  split
  ·have:xs.length=m:=bl
   simp[this]
  ·have H:0+(m:Int).toNat*1+(xs.length-(m:Int).toNat)*1-(0+(m:Int).toNat*1)=xs.length-m:=bl
   have G:0+(m:Int).toNat*1=m:=bl
   simp only[OC,u7];rw[H,G,OS bl,sA bE];rw[sD bE]
 co_applyP te (i:=6) rfl (lE (hnd:=hnd) (hu:=U44) (hv:=U44) (hs:=cP) (hr:=bR hb g) (hc:=bl) (hm:=hb) (ho:=by simp;unfold cutAt;split<;>split<;>omega) (hp:=by rw[f];rw[OF] at e⊢;exactλv r=>e v (List.mem_of_mem_drop r)));rintro _ _ ⟨rfl,o⟩;refine⟨aj bE, ?_⟩;co_applyP to 7 rfl (fX) (aj bE);have el:(0:Int).toNat-0+(xs.length-(m:Int).toNat)=xs.length-m:=bE
 have E:xs.length+junk.length-0=xs.length+junk.length:=rfl;have A:0+((0:Int).toNat-0)*1=0:=bE
 rw[k,A,f,yR hm] at o;rw[k,el,E];co_applyP(aC);co_applyP oy rfl (xD U44 cP);have l:cutAt 0 (((xs.length-m:Nat):Int)).toNat (xs.length+junk.length) 1=xs.length-m:=by unfold cutAt;split<;>omega
 have x:(xs.length:Int).toNat-((xs.length-m:Nat):Int).toNat=m:=bl
 co_applyP oeN rfl (λhnd=>xF (hnd:=hnd) (hu:=U44) (hz0:=qT) (hzp:=rfl) (hm:=o.self) (ho:=by rw[l,x];simp;omega));rintro _ I ⟨rfl,a⟩;co_applyP(aC);change∃v,Ko .. =some v/\_;rw[l,x,vC hm] at a;exact⟨_,rfl,rfl,rfl,a.self,λt B j=>a.ne t (o.ne t B j) j,a.fn⟩
end Go.Proofs.YtejkelcaljmnoaaGreatDoor
namespace Go.Lo
open Go.Conc Go.Hx
section
variable {P:Program}{New:Obj->Prop}{N:Nat}{ε:Env}{L:Ka}{d:Option Tmp}{ty t u e:TypeId}{ps:String}{af:Array Edge}{g:Option (Nat×Bool)}{x y:Operand}
theorem Iw {sz b o dl k n i:Nat}{yb:Option Addr}{vs cs:Array Value}{e':TypeId}(hx:ev ε x=some (.slice (some ⟨b,o,none⟩) dl k):=by rfl)(hy:ev ε y=some (.slice yb n i):=by rfl)(hnd:(L.map (·.1)).Nodup)(hu:P.underlying t=some (.slice e))(hs:Kd P e=some sz)(hr:Reads P L sz (Nat.min n dl) (.slice yb n i) vs)(hm:(b,true, .cells cs e')∈L)(ho:o+vs.size<=cs.size)(hp:vs.toList.all Km=true):
 EO P New N ε L ⟨d, .call ⟨.builtin .copy, #[x,y], #[t,u]⟩,ty,ps,af,g⟩ (λr L'=>r= .int .i64 (Nat.min n dl:Nat)/\K4 L b (.cells (KP cs o vs.toList) e') L'):=by
 intro a j;obtain⟨m,f⟩:=mx hm;refine cw (s:=Builtin.copy_ #[t,u] ty #[.slice (some ⟨b,o,none⟩) dl k, .slice yb n i]) (λ_=>by simp[builtin,j.ev hx,j.ev hy]) ?_;unfold Builtin.copy_;simp only[nw,u9,OE];rw[ak,aT hu];simp only[Builtin.lenOf];rw[ak,bg,ak,bO hs,ak];refine hr.r New _ ?_;rw[ak];exact cg f (by simpa using ho) hp ⟨rfl,cO hnd f⟩
end
section
variable {P:Program}{N:Nat}{ε:Env}{L:Ka}{d:Option Tmp}{ty:TypeId}{ps:String}{af:Array Edge}{g:Option (Nat×Bool)}{t e:TypeId}{x y z:Operand}{b o sz len:Nat}{k1 k2:IntKind}{l h:Int}
theorem ug (hu:P.underlying t=some (.array len e))(hs:Kd P e=some sz)(hx:ev ε x=some (.pointer (some ⟨b,o,none⟩)):=by rfl)(hy:ev ε y=some (.int k1 l):=by rfl)(hz:ev ε z=some (.int k2 h):=by rfl)(h0:0<=l:=by first|decide|omega)(h1:l<=h:=by first|decide|omega)(h2:h<=len:=by first|decide|omega):
 EY P N ε L ⟨d, .slice t x (some y) (some z) none,ty,ps,af,g⟩ (.slice (some ⟨b,cutAt o l.toNat len sz,none⟩) (h.toNat-l.toNat) (len-l.toNat)):=λ_ a=>by
 refine cN (λ_=>rfl) λK f=> ?_;simp only[qs,OM,a.ev hx,a.ev hy,a.ev hz];unfold Instr.sliceAt;rw[aq,aE hu];simp only;rw[aq,de];simp only[Instr.sliceBounds];simp only[aq,bM];refine dh bl h2 ?_;refine dh h0 bl ?_;rw[cG hs];have i:(if len=l.toNat then(⟨b,o,none⟩:Addr) else(⟨b,o,none⟩:Addr).add (l.toNat*sz))=⟨b,cutAt o l.toNat len sz,none⟩:=by
  unfold cutAt
  split
  ·rfl
  ·simp[dn]
 rw[i];exact f
end
end Go.Lo
namespace Go.Proofs.YtejkelcaljmnoaaGreatDoor
open Go.Conc Go.Hx Go.Lo Tryz
attribute [local irreducible] EY KO K6 Kw Kc Ku Kd Program.underlying
theorem nH:KJ prog 5=some 1:=bD
structure ApB (L:Ka)(a:Sl)(zs:List Value)(a':Sl)(L':Ka):Prop where
 ok:Kf a' zs 5 L'
 fn:K5 L'
 sub: ∀t∈L,a.b≠some t.1->t∈L'
 d: ∀b,a'.b=some b->a.b=some b\/ ∀t∈L,t.1≠b
section
variable {New:Obj->Prop}{N:Nat}{ε:Env}{L:Ka}{d:Option Tmp}{ty:TypeId}{ps:String}{af:Array Edge}{g:Option (Nat×Bool)}{x y:Operand}
theorem BK {a:Sl}{xs:List Value}(ha:Kf a xs 5 L):Reads prog L 1 xs.length (Ky a xs.length) xs.toArray:=by
 cases d:a.b with
 |none=>
  unfold Kf at ha;rw[d] at ha;obtain rfl:xs=[]:=ha.1;have e:Ky a 0= .slice none 0 0:=by unfold Ky;rw[d]
  show Reads prog L 1 0 (Ky a 0) #[];rw[e];exact dx
 |some b=>
  have hm:=ha.mem d;have e:Ky a xs.length= .slice (some ⟨b,0,none⟩) xs.length (xs.length+a.junk.length):=by unfold Ky;rw[d]
  rw[e];have:=bR (P:=prog) (sz:=1) (n:=xs.length) (len:=xs.length) (cap:=xs.length+a.junk.length) (o:=0) hm bE;have f:(xs++a.junk).take xs.length=xs:=by rw[sA bE];exact sD bE
  simpa [f] using this
theorem He {a:Sl}{xs ys:List Value}{yb:Option Addr}{C:Nat}(hx:ev ε x=some (Ky a xs.length):=by rfl)(hy:ev ε y=some (.slice yb ys.length C):=by rfl)(hnd:(L.map (·.1)).Nodup)(hN: ∀cs,New (.cells cs 5)) (ha:Kf a xs 5 L) (hr:Reads prog L 1 ys.length (.slice yb ys.length C) ys.toArray) (hpl:ys.all Km=true) (h8:xs.length<=1000) (h8':ys.length<=1000):
 EO prog New N ε L ⟨d, .call ⟨.builtin .append, #[x,y], #[44,44]⟩,ty,ps,af,g⟩ (λr L'=> ∃s,r=Ky s (xs++ys).length/\ApB L a (xs++ys) s L'):=by
 have o:=BK ha
 have grow: ∀(i:Nat),(∃k,Ky a xs.length= .slice k xs.length i)->i<xs.length+ys.length->
  EO prog New N ε L ⟨d, .call ⟨.builtin .append, #[x,y], #[44,44]⟩,ty,ps,af,g⟩ (λr L'=> ∃s,r=Ky s (xs++ys).length/\ApB L a (xs++ys) s L'):=by
  rintro i ⟨k,hb⟩ hc;rw[hb] at o hx;intro ac j;refine bS ?_ _ _ (nv (by_:=0) (New:=New) hx hy (bz hnd) U44 U44 cP nH qT o hr hc bl hN ac j);intro r L' q;cases r<;>try exact q.elim
  ·obtain⟨b,cap,K,z,rfl,m⟩:=q;rw[eP rfl] at m;refine⟨⟨some b,List.replicate (cap-(xs.length+ys.length)) (.int .u8 0)⟩, ?_, ?_,m.fn,λt p _=>m.sub t p,λB l=> .inr ?_⟩
   ·unfold Ky;simp;omega
   ·have G:xs.toArray++ys.toArray++(List.replicate (cap-(xs.length+ys.length)) (Value.int .u8 0)).toArray=((xs++ys)++List.replicate (cap-(xs.length+ys.length)) (Value.int .u8 0)).toArray:=by
     apply gm;simp
    rw[G] at m;exact m.self
   ·obtain rfl:b=B:=by simpa using l
    exact m.new
  ·obtain⟨b,cap,_,_,e,_⟩:=q;cases e
 cases f:a.b with
 |none=>
  have z:=ha;unfold Kf at z;rw[f] at z;obtain⟨F,J⟩:=z;obtain rfl:xs=[]:=F;have n:Ky a 0= .slice none 0 0:=by unfold Ky;rw[f]
  by_cases h0:0<ys.length
  ·exact grow 0 ⟨none,n⟩ (by simpa using h0)
  ·obtain rfl:ys=[]:=OI.1 bl;intro ac j;rw[km,n] at hx;refine bS ?_ _ _ (sX (New:=New) hx hy U44 U44 cP hr ac j);intro r L' q;cases r<;>try exact q.elim
   ·obtain⟨rfl,rfl⟩:=q;exact⟨a,n.symm,ha,bz hnd,λt p _=>p,λb hb=>by rw[f] at hb;cases hb⟩
   ·exact absurd q.1 (by simp[undef])
 |some b=>
  have hm:=ha.mem f;have n:Ky a xs.length= .slice (some ⟨b,0,none⟩) xs.length (xs.length+a.junk.length):=by unfold Ky;rw[f]
  by_cases I:ys.length<=a.junk.length
  ·intro ac j;rw[n] at hx;refine bS ?_ _ _ (lE (New:=New) hx hy hnd U44 U44 cP hr bl hm ao (by simpa using hpl) ac j);intro r L' q;cases r<;>try exact q.elim
   ·obtain⟨rfl,u⟩:=q;have D:KP (xs++a.junk).toArray (0+xs.length*1) ys.toArray.toList=((xs++ys)++a.junk.drop ys.length).toArray:=by
     rw[bY _ _ _ ao];have H:(xs++a.junk).drop (xs.length+ys.length)=a.junk.drop ys.length:=by
      rw[O1];simp
     have E:(xs++a.junk).take xs.length=xs:=by rw[sA bE];exact sD bE
     simp[H,E]
    rw[D] at u;refine⟨⟨some b,a.junk.drop ys.length⟩, ?_,u.self,u.fn,λt p A=>u.ne t p λe=>A (by rw[f,e]),λB l=> .inl (by rw[f];exact l)⟩;unfold Ky;simp;omega
   ·exact absurd q.1 (by simp[undef])
  ·exact grow (xs.length+a.junk.length) ⟨_,n⟩ bl
end
def Kq.IY (A:Kq)(i:Nat)(a:Sl):Kq:={A with y:=put A.y i a}
def St.IY (S:St)(i:Nat)(ys:List Int):St:={S with by_:=put S.by_ i ys}
section
variable {K:Nat}{A:Kq}{S:St}{F L L':Ka}
theorem Ke.setBytes (h:Ke K A S F L){i:Nat}(hi:i<5){r:Sl}{ys:List Int}(hf:K5 L')(M:kb K (Lj (A.IY i r) (S.IY i ys))∈L')(hs: ∀t∈L,t.1≠K->(A.y i).b≠some t.1->t∈L') (ha:Kf r (ys.map λv=> .int .u8 v) 5 L')
 (hd: ∀b,r.b=some b->(A.y i).b=some b\/((∀j,(A.y j).b≠some b)/\ ∀t∈F,t.1≠b)):Ke K (A.IY i r) (S.IY i ys) F L':=by
 have ty: ∀{b:Nat}{fl:Bool}{o:Obj},(b,fl,o)∈L->(∀c,o≠Obj.cells c 5)->(A.y i).b≠some b:=λhm D hb=>by
  obtain⟨xs,s⟩:=h.yl _ _ hb;exact D _ (h.fn _ _ _ _ _ hm s).2
 have arr: ∀(a:Sl)(xs:List Value)(e:TypeId),e≠115->(∀b,a.b=some b->(A.y i).b≠some b)->Kf a xs e L->Kf a xs e L':=λa xs e he E ha=>by
  refine ha.mono λc hc o D=>hs _ D ?_ (E c hc);exact h.fn.ne (ha.mem hc) h.k (aB he)
 have C: ∀j,j≠i-> ∀b,(A.y j).b=some b->(A.y i).b≠some b:=λj d b hb e=>h.dy j i d (by rw[hb];simp) (by rw[hb,e]);have z: ∀j,j≠i->(A.IY i r).y j=A.y j:=λj d=>by simp[Kq.IY,put,d]
 have B:(A.IY i r).y i=r:=by simp[Kq.IY,put]
 have J:(S.IY i ys).by_ i=ys:=by simp[St.IY,put]
 have I: ∀j,j≠i->(S.IY i ys).by_ j=S.by_ j:=λj d=>by simp[St.IY,put,d]
 exact{h with
  fn:=hf
  k:=M
  g:=hs _ h.g (h.fn.ne h.g h.k (aB bx)) (ty h.g λc=>aB bx)
  p:=λq G=>hs _ (h.p q G) (h.fn.ne (h.p q G) h.k (aB bx)) (ty (h.p q G) λc=>aB bx)
  pa:=arr _ _ _ bx (λb hb=>ty (h.pa.mem hb) λc=>aB bx) h.pa
  rw:=λl H=>arr _ _ _ bx (λb hb=>ty ((h.rw l H).mem hb) λc=>aB bx) (h.rw l H)
  ya:=λj d=>by
   by_cases e:j=i
   ·subst e;rw[B,J];exact ha
   ·rw[z j e,I j e];exact arr _ _ _ bx (C j e) (h.ya j d)
  w:=hs _ h.w (h.fn.ne h.w h.k (by simp[Le])) (ty h.w λc=>by simp[Le])
  wa:=λe he=>arr _ _ _ bx (λb hb=>ty ((h.wa e he).mem hb) λc=>aB bx) (h.wa e he)
  al:=λj c hc=>by
   obtain⟨xs,s⟩:=h.al j c hc;exact⟨xs,hs _ s (h.fn.ne s h.k (aB bx)) (ty s λc=>aB bx)⟩
  yl:=λj c hc=>by
   by_cases e:j=i
   ·subst e;rw[B] at hc;exact⟨_,ha.mem hc⟩
   ·rw[z j e] at hc;obtain⟨xs,s⟩:=h.yl j c hc;exact⟨xs,hs _ s (h.fn.ne s h.k (aB bx)) (C j e c hc)⟩
  dy:=λj m u d=>by
   by_cases x:j=i
   ·subst x;rw[z m (ft u),B];rw[B] at d;intro e;cases hb:r.b with
    |none=>exact d hb
    |some b=>
     rcases hd b hb with f|f
     ·exact h.dy j m u (by rw[f];simp) (by rw[f,<-e,hb])
     ·exact f.1 m (by rw[<-e,hb])
   ·rw[z j x];rw[z j x] at d;by_cases em:m=i
    ·subst em;rw[B];intro e;cases hb:r.b with
     |none=>rw[hb] at e;exact d e
     |some b=>
      rcases hd b hb with f|f
      ·exact h.dy j m x d (by rw[f,e,hb])
      ·exact f.1 j (by rw[e,hb])
    ·rw[z m em];exact h.dy j m u d
  fr:=λt n=>hs _ (h.fr t n) (h.fd t n).1 ((h.fd t n).2.2.2.1 _)
  fd:=λt n=>by
   refine⟨(h.fd t n).1,(h.fd t n).2.1,(h.fd t n).2.2.1,λj=> ?_,(h.fd t n).2.2.2.2⟩;by_cases x:j=i
   ·subst x;rw[B];intro e;rcases hd _ e with f|f
    ·exact(h.fd t n).2.2.2.1 _ f
    ·exact f.2 t n rfl
   ·rw[z j x];exact(h.fd t n).2.2.2.1 j}
theorem oZ (k:KS){i:Nat}(hi:i<5)(v:Value):(Ks k).setIfInBounds (10+i) v=Ks {k with by_:=put k.by_ i v}:=by
 rcases i with _|_|_|_|_|i
 ·rfl
 ·rfl
 ·rfl
 ·rfl
 ·rfl
 ·omega
theorem sY (A:Kq)(S:St)(i:Nat)(a:Sl)(ys:List Int):Lj (A.IY i a) (S.IY i ys)={Lj A S with by_:=put (Lj A S).by_ i (Ky a ys.length)}:=by
 unfold Lj Kq.IY St.IY;simp only[KS.mk.injEq,true_and];refine⟨?_,trivial⟩
 funext j
 unfold put;by_cases e:j=i
 ·subst e;simp
 ·simp[e]
end
def PS.Je (x:PS)(i:Nat):List Int->PS
 |[]=>x
 |v::vs=>PS.Je {x with m:=put x.m i v} (i+1) vs
theorem yS: ∀(vs:List Int)(x:PS)(i:Nat),i+vs.length<=64->KP (Kg x) (15+i) (vs.map λv=>Value.int .u8 v)=Kg (x.Je i vs)
 |[],_,_,_=>rfl
 |v::vs,x,i,h=>by
  simp only[gf] at h;show KP ((Kg x).setIfInBounds (15+i) (.int .u8 v)) (15+i+1) (vs.map λv=>Value.int .u8 v)=_;rw[yH x bl,show 15+i+1=15+(i+1) by omega];exact yS vs _ (i+1) bl
def PS.Jn (x:PS)(i n:Nat):List Int:=(List.range n).map λj=>x.m (i+j)
theorem DU (x:PS){i n:Nat}(h:i+n<=64):(Kg x).extract (15+i) (15+i+n)=((x.Jn i n).map λv=>Value.int .u8 v).toArray:=by
 apply Array.ext
 ·simp[PS.Jn,bq];omega
 ·intro j d a;have b:j<n:=by simpa [PS.Jn] using a
  have:=yG x (i:=i+j) bl;rw[show 15+(i+j)=15+i+j by omega] at this;obtain⟨_,he⟩:=ib.1 this;simp only[Array.getElem_extract,he];simp[PS.Jn]
section
variable {P:Program}{N:Nat}{ε:Env}{L:Ka}{d:Option Tmp}{ty:TypeId}{ps:String}{af:Array Edge}{g:Option (Nat×Bool)}
theorem Hf {t:TypeId}{x y z u:Operand}{w l h m v:Value}(hv:KF P (Instr.sliceAt t w (some l) (some h) (some m)) []=some (v,[]))(hx:ev ε x=some w:=by rfl)(hy:ev ε y=some l:=by rfl)(hz:ev ε z=some h:=by rfl)(hu:ev ε u=some m:=by rfl):EY P N ε L ⟨d, .slice t x (some y) (some z) (some u),ty,ps,af,g⟩ v:=by
 unfold EY;intro a b
 refine cN (λ_=>rfl) λK e=> ?_;simp only[qs,b.ev hx,b.ev hy,b.ev hz,b.ev hu];exact aZ hv e
end
theorem Hg:KF prog (Instr.sliceAt 44 (.slice none 0 0) (some (.int .i64 0)) (some (.int .i64 0)) (some (.int .i64 0))) []=some (.slice none 0 0,[]):=bD
theorem vE: ∃n,∀{d}{F:Kn d}{b:DM F}{a s}(L:Ka),
 Kb b prog a 172 [.slice none 0 0, .int .i64 0, .int .i64 0].toArray n s L (λs' v L'=>s=s'/\L=L'/\v= .slice none 0 0):=by
 constructor;intro d F b a s L;co_applyP ar 33 func172 ntmps172;co_applyP(bm);co_applyP oy rfl (Hf Hg);co_applyP(zo);co_applyP aK (n₂:=0);co_applyP(bf);exact xI _ ⟨rfl,rfl,rfl,rfl⟩
theorem vF: ∃n,∀{e}{F:Kn e}{d:DM F}{a s}(L:Ka)(b len cap:Nat),len<=cap->
 Kb d prog a 172 [.slice (some ⟨b,0,none⟩) len cap, .int .i64 0, .int .i64 0].toArray n s L (λs' v L'=>s=s'/\L=L'/\v= .slice (some ⟨b,0,none⟩) len cap):=by
 constructor;intro e F d a s L b len cap hc;co_applyP ar 33 func172 ntmps172;co_applyP(bm);co_applyP oy rfl (xE U44 cP);co_applyP(zo);co_applyP aK (n₂:=0);co_applyP(bf);exact xI _ ⟨rfl,rfl,rfl,rfl⟩
theorem BL: ∃n,∀{y}{F:Kn y}{Δ:DM F}{main s}(L:Ka)(a:Sl)(xs:List Value)(m:Nat),K5 L->m<=xs.length->xs.length<1000000->xs.all Km=true->Kf a xs 5 L->
 Kb Δ prog main 172 [Ky a xs.length, .int .i64 0, .int .i64 m].toArray n s L (λs' v L'=>s=s'/\ ∃u,v=Ky u (xs.length-m)/\ApB L a (xs.drop m) u L'/\u.b=a.b):=by
 obtain⟨C,g0⟩:=vE;obtain⟨B,D⟩:=vF;obtain⟨A,z⟩:=vD;refine⟨C+(B+A),λ{y F Δ main s} L a xs m x hm j o l=>aG (a.b=none) (λh=> ?_) λh=>aG (m=0) (λh0=> ?_) λh0=> ?_⟩
 ·have d:=l;unfold Kf at d;rw[h] at d;obtain rfl:xs=[]:=d.1;obtain rfl:m=0:=by simpa using hm
  have e:Ky a ([]:List Value).length= .slice none 0 0:=by unfold Ky;rw[h]
  rw[e];refine aJ (g0 L) λs' v L' ⟨k,i,f⟩=> ?_;subst i;exact⟨k,a,by rw[f];exact e.symm,⟨l,x,λt g _=>g,λb hb=> .inl hb⟩,rfl⟩
 ·obtain⟨b,hb⟩: ∃b,a.b=some b:=by
   cases hb:a.b with
   |none=>exact absurd hb h
   |some b=>exact⟨b,rfl⟩
  subst h0;have e:Ky a xs.length= .slice (some ⟨b,0,none⟩) xs.length (xs.length+a.junk.length):=by unfold Ky;rw[hb]
  rw[e];refine aJ (D L b xs.length (xs.length+a.junk.length) bl) λs' v L' ⟨k,i,f⟩=> ?_;subst i;exact⟨k,a,by rw[f,Nat.sub_zero];exact e.symm,⟨l,x,λt g _=>g,λb hb=> .inl hb⟩,rfl⟩
 ·obtain⟨b,hb⟩: ∃b,a.b=some b:=by
   cases hb:a.b with
   |none=>exact absurd hb h
   |some b=>exact⟨b,rfl⟩
  have e:Ky a xs.length= .slice (some ⟨b,0,none⟩) xs.length (xs.length+a.junk.length):=by unfold Ky;rw[hb]
  rw[e];refine aJ (z L b xs a.junk m bl hm j o (l.mem hb)) λs' v L' ⟨k,i,f⟩=> ?_;refine⟨k,⟨some b,List.replicate m (Value.int .u8 0)++a.junk⟩, ?_,⟨f.self,f.fn,λt g r=>f.ne _ g λe=>r (by rw[hb,e]),λE p=> .inl (by rw[hb];exact p)⟩,hb.symm⟩;rw[i];unfold Ky;simp;omega
theorem yT {L:Ka}{a:Sl}{xs:List Value}{n:Nat}(ha:Kf a xs 5 L)(hn:n<=xs.length):Reads prog L 1 n (Ky a xs.length) (xs.take n).toArray:=by
 cases d:a.b with
 |none=>
  unfold Kf at ha;rw[d] at ha;obtain rfl:xs=[]:=ha.1;obtain rfl:n=0:=by simpa using hn
  have e:Ky a 0= .slice none 0 0:=by unfold Ky;rw[d]
  show Reads prog L 1 0 (Ky a 0) #[];rw[e];exact dx
 |some b=>
  have hm:=ha.mem d;have e:Ky a xs.length= .slice (some ⟨b,0,none⟩) xs.length (xs.length+a.junk.length):=by unfold Ky;rw[d]
  rw[e];have:=bR (P:=prog) (sz:=1) (n:=n) (len:=xs.length) (cap:=xs.length+a.junk.length) (o:=0) hm ao;have f:(xs++a.junk).take n=xs.take n:=sA hn;simpa [f] using this
def PS.got (x:PS)(bs:List Int):PS:=
 let y:=x.Je (x.r 1).toNat (bs.take (Nat.min bs.length (x.r 2).toNat))
 {y with r:=put y.r 0 (Nat.min bs.length (x.r 2).toNat:Nat)}
def St.JN (S:St)(b:Nat)(x:PS)(k:Nat×Nat):St:=(S.ID b (x.got (S.by_ k.1))).IY k.1 ((S.by_ k.1).drop (Nat.min (S.by_ k.1).length (x.r 2).toNat))
structure YLay (A A':Kq):Prop where
 a:A'.a=A.a
 w:A'.wt=A.wt/\A'.born=A.born/\A'.clock=A.clock
 g:A'.g=A.g/\A'.gcap=A.gcap/\A'.gc=A.gc
theorem BM: ∃n,∀{σ}{F:Kn σ}{Δ:DM F}{main s}(K:Nat)(A:Kq)(S:St)(Fr L:Ka)(b:Nat)(x:PS)(k:Nat×Nat),(∀cs,(Δ s).New (.cells cs 96))->Ke K A S Fr L->(b,x)∈S.ps->WF x->k.1<5->k.2=4->x.r 1+x.r 2<=64->(S.by_ k.1).length<=8->
 Kb Δ prog main 166 [ptr K,ptr b,KE k].toArray n s L (λs' v L'=>s=s'/\v= .nilIface/\ ∃A',YLay A A'/\Ke K A' (S.JN b x k) Fr L'):=by
 obtain⟨n2,g2⟩:=BL;constructor;intro σ F Δ main s K A S Fr L b x k hN hR hb hx u v' u' h8;have m':=hx.r 1 bl;have p':=hx.r 2 bl;obtain⟨g,cap,E,_⟩: ∃g cap,Ky (A.y k.1) (S.by_ k.1).length= .slice g (S.by_ k.1).length cap/\True:=by
  obtain⟨g,cap,h,_⟩:=bH (hR.ya k.1 u);simp only[ia] at h;exact⟨g,cap,h,trivial⟩
 have w1:IntKind.i64.wrap (x.r 1)=x.r 1:=ag
 have w2:IntKind.i64.wrap (x.r 2)=x.r 2:=ag
 have w3:IntKind.i64.wrap (x.r 1+x.r 2)=x.r 1+x.r 2:=ag
 co_applyP ar 100 func166 ntmps166;co_applyP(zo);co_applyP bB rfl (bA (hN _));intro D M m;have z:=hR.add m;have h0:At M D 0 (.int .i64 (k.1:Nat)):=⟨true,_,_,_,m.self,rfl⟩;have h1:At M D 1 (.int .i64 (k.2:Nat)):=⟨true,_,_,_,m.self,rfl⟩;have q':At M b 8 (.int .u16 (x.r 1)):=z.pat hb (bu x (i:=1) bl);have n':At M b 9 (.int .u16 (x.r 2)):=z.pat hb (bu x (i:=2) bl);have t':At M K (10+k.1) (.slice g (S.by_ k.1).length cap):=by rw[<-E];exact z.kat (ue _ u)
 have e4:((k.2:Int)==4)=true:=ao
 have i':(x.r 1+x.r 2).toNat-(x.r 1).toNat=(x.r 2).toNat:=bl
 obtain⟨f,j⟩: ∃f,f=Nat.min (S.by_ k.1).length (x.r 2).toNat:=⟨_,rfl⟩;have O:f<=(S.by_ k.1).length:=by rw[j];exact Nat.min_le_left _ _
 have r':f<=(x.r 2).toNat:=by rw[j];exact Nat.min_le_right _ _
 co_applyP(aH);co_applyP(dE);simp only[w1,w2,w3];co_applyP oy rfl (ug U94 cP);co_applyP(ay);co_applyP aK (n₂:=0);co_applyP(au);change Kw ..;rw[e4,i'];co_applyP(zo);co_applyP aK;have k':=z.ya k.1 u;have V:Reads prog M 1 f (.slice g (S.by_ k.1).length cap) (((S.by_ k.1).take f).map λv=>Value.int .u8 v).toArray:=by
  have:=yT k' (n:=f) (by simpa using O);rw[ia,E] at this;rw[List.map_take];exact this
 have Z:cutAt (0+15) (x.r 1).toNat 64 1=if 64=(x.r 1).toNat then 15 else 15+(x.r 1).toNat:=by unfold cutAt;split<;>omega
 rw[j] at V;co_applyP aM [] 8 (nf:=0) mixed;co_applyP(aO);co_applyP aF;intro hnd;co_applyP te (i:=8) rfl (Iw (hnd:=hnd) (hu:=U44) (hs:=cP) (hr:=V) (hm:=z.p _ hb) (ho:=by rw[bq,Z];simp only[l7,ia,List.length_take];rw[<-j];split<;>omega) (hp:=by rw[OF];intro v E;obtain⟨w,_,rfl⟩:=cm.1 E;rfl));rintro _ _ ⟨rfl,C⟩;refine⟨aj bE, ?_⟩;rename_i T;rw[<-j] at C;co_applyP to 9 rfl (fX) (aj bE);rw[<-j];have j':KP (Kg x) (cutAt (0+15) (x.r 1).toNat 64 1) (((S.by_ k.1).take f).map λv=>Value.int .u8 v).toArray.toList=Kg (x.Je (x.r 1).toNat ((S.by_ k.1).take f)):=by
  rw[Z]
  split
  ·have:f=0:=bl
   subst this;rfl
  ·exact yS _ x _ ao
 rw[j'] at C;have l:=z.ID hb (x':=x.Je (x.r 1).toNat ((S.by_ k.1).take f)) C;have h':(b,x.Je (x.r 1).toNat ((S.by_ k.1).take f))∈(S.ID b (x.Je (x.r 1).toNat ((S.by_ k.1).take f))).ps:=ai hb;have b':D≠b:=λe=>m.new _ (hR.p _ hb) e.symm;have w':At T D 0 (.int .i64 (k.1:Nat)):=⟨true,_,_,_,C.ne _ m.self b',rfl⟩;have l':At T K (10+k.1) (.slice g (S.by_ k.1).length cap):=by rw[<-E];exact l.kat (ue _ u)
 co_applyP(zo);co_applyP aK;have d':((S.by_ k.1).map λv=>Value.int .u8 v).all Km=true:=by rw[OF];intro v E;obtain⟨w,_,rfl⟩:=cm.1 E;rfl
 have P:=g2 (Δ:=Δ) (main:=main) (s:=s) T (A.y k.1) ((S.by_ k.1).map λv=>Value.int .u8 v) f l.fn (by simpa using O) ao d' (l.ya k.1 u);rw[ia,E] at P;co_applyP aM [(D,true,Obj.cells (KE k).cells 96)] 11 mixed;have a:(D,true,Obj.cells (KE k).cells 96)∈T:=C.ne _ m.self b';have d: ∀(L:Ka),(D,true,Obj.cells (KE k).cells 96)∈L-> ∀t∈[(D,true,Obj.cells (KE k).cells 96)],t∈L:=λL h t J=>by simp only[wx] at J;rw[J];exact h
 have Q: ∀{c:Nat}{fl:Bool}{o:Obj},(c,fl,o)∈T->(∀c',o≠Obj.cells c' 5)->(A.y k.1).b≠some c:=λhm ho hc=>by
  obtain⟨xs,g'⟩:=l.yl _ _ hc;exact ho _ (l.fn _ _ _ _ _ hm g').2
 have H:=Q a λc=>aB bx;have Y:=Q l.k λc=>aB bx;co_applyP tr 0 rfl bk (aa (d _ a));co_applyP tr 1 rfl (br (hf:=ja)) (aa (d _ a));co_applyP tr 2 rfl (bT (ht:=dq)) (aa (d _ a));co_applyP tr 3 rfl bk (aa (d _ a));co_applyP tr 4 rfl (br (hf:=ja)) (aa (d _ a));co_applyP t0 5 rfl (bT (ht:=dq)) (aa (d _ a));co_applyP tr 6 rfl bI (aa (d _ a));co_applyP tr 7 rfl (br (hf:=gz)) (aa (d _ a));co_applyP tr 8 rfl (cW underlying113 gj) (aa (d _ a));co_applyP t0 9 rfl (bT (ht:=ny)) (aa (d _ a));co_applyP tr 10 rfl bk (aa (d _ a));co_applyP tr 12 rfl bI (aa (d _ a));co_applyP tr 13 rfl (br (hf:=gz)) (aa (d _ a));co_applyP tc 11 rfl rfl rfl (P);rintro _ _ _ ⟨rfl,a',rfl,G,R⟩;refine⟨aj (d _ (G.sub _ a H)), ?_⟩;rename_i L3;co_applyP to 14 rfl ((cW underlying113 gj)) (aj (d _ (G.sub _ a H)));co_applyP aF;intro W;have e':=G.sub _ l.k Y;have I:D≠K:=λe=>m.new _ hR.k e.symm;co_applyP te (i:=15) rfl (bX (hnd:=W) (hm:=e') (hi:=by rw[bP];omega) (hp:=fD _ _) (hs:=gj));rintro _ _ ⟨rfl,B⟩;refine⟨aj (d _ (B.ne _ (G.sub _ a H) I)), ?_⟩;rename_i L4;co_applyP(bm);have N:Ke K (A.IY k.1 a') ((S.ID b (x.Je (x.r 1).toNat ((S.by_ k.1).take f))).IY k.1 ((S.by_ k.1).drop f)) Fr L4:=by
  refine l.setBytes u B.fn ?_ (λt J h1 h2=>B.ne _ (G.sub _ J h2) h1) ?_ (λc hc=> .inl (by rw[<-R];exact hc))
  ·show (K,true,Obj.cells (Ks _) 115)∈L4;have:=B.self;rw[oZ _ u] at this;rw[sY,OO];exact this
  ·rw[List.map_drop];refine G.ok.mono λc hc o ho=>B.ne _ ho λe=> ?_;rw[R] at hc;exact Y (by rw[hc];exact congrArg some e)
 have X:(b,x.Je (x.r 1).toNat ((S.by_ k.1).take f))∈((S.ID b (x.Je (x.r 1).toNat ((S.by_ k.1).take f))).IY k.1 ((S.by_ k.1).drop f)).ps:=h';have wn:IntKind.u16.wrap ((f:Nat):Int)=((f:Nat):Int):=by rw[bC];omega
 rw[wn];co_applyP osm rfl (hs:=bh) (hm:=N.p _ X) (hi:=by first|decide|(rw[bq];omega)|(rw[bP];omega));intro L5 f';have h7:(Kg (x.Je (x.r 1).toNat ((S.by_ k.1).take f))).setIfInBounds (7+0) (.int .u16 ((f:Nat):Int))=Kg (x.got (S.by_ k.1)):=by rw[dR _ bl];unfold PS.got;simp only[<-j]
 have U:=N.ID X (x':=x.got (S.by_ k.1)) (h7▸f');co_applyP(au);refine xI _ ⟨rfl,rfl,rfl,A.IY k.1 a',⟨rfl,⟨rfl,rfl,rfl⟩,⟨rfl,rfl,rfl⟩⟩, ?_⟩;have e6:((S.ID b (x.Je (x.r 1).toNat ((S.by_ k.1).take f))).IY k.1 ((S.by_ k.1).drop f)).ID b (x.got (S.by_ k.1))=S.JN b x k:=by
  unfold St.JN St.ID St.IY;rw[<-j];simp only[kt];congr 1;apply k0;intro q _;simp only[Function.comp]
  split
  ·simp
  ·rename_i h;simp[h]
 rw[e6] at U;exact U
def KX (k:Nat×Nat):Prop:=(0<k.1/\k.1<5)/\(k.2=4\/k.2=5)
structure NQ (y:PS)(k:Nat×Nat):Prop where
 f:y.file (y.r 0)=k
 a:y.r 1+y.r 2<=64
 w:k.2=5->y.r 2<=8
 s:y.st=1\/y.st=k.2
structure Inv (S:St):Prop where
 g:Good S
 wf: ∀q∈S.ps,WF q.2
 fl: ∀q∈S.ps,∀i,i<6->q.2.f i=(0,0)\/KX (q.2.f i)
 y8: ∀i,i<5->(S.by_ i).length<=8
 yb: ∀i,i<5-> ∀v∈S.by_ i,0<=v/\v<256
 kn:(S.wt.map (·.1)).Nodup
 ne: ∀e∈S.wt,e.2≠[]
 nd: ∀e∈S.wt,e.2.Nodup
 ke: ∀e∈S.wt,KX e.1
 rm: ∀e∈S.wt,∀c∈e.2,∃y,(c,y)∈S.ps/\NQ y e.1
def St.out (S:St)(b:Nat):Prop:= ∀e∈S.wt,b∉e.2
theorem KX.key {k:Nat×Nat}(h:KX k):MH k:=by
 obtain⟨_,h|h⟩:=h<;>(unfold MH;omega)
section
variable {S:St}{b:Nat}{x x':PS}{k:Nat×Nat}
theorem Inv.w (h:Inv S):Oj S where
 kn:=h.kn
 kk:=λe he=>(h.ke e he).key
 rl:=λe he=>by
  have:=fF (m:=S.ps.map (·.1)) (h.nd e he) λc hc=>by
   obtain⟨y,a,_⟩:=h.rm e he c hc;exact cm.2 ⟨_,a,rfl⟩
  have b:=h.g.p8;simp at this;omega
 ne:=h.ne
 rm:=λe he c hc=>by
  obtain⟨y,a,_⟩:=h.rm e he c hc;exact⟨y,a⟩
theorem bW {e:(Nat×Nat)×List Nat}: ∀{l:Wt},e∈KR b k l->(e∈l/\e.1≠k)\/(e.1=k/\e.2≠[]/\ ∃xs,(k,xs)∈l/\e.2=xs.filter λc=> !decide (c=b)):=by
 intro l h;unfold KR at h;obtain⟨m,a,d⟩:=List.mem_filterMap.1 h
 split at d
 ·rename_i g
  split at d
  ·cases d
  ·rename_i f;simp at d;subst d;obtain⟨n,xs⟩:=m;simp only at g f a;subst g;refine .inr ⟨rfl, ?_,xs,a,rfl⟩;intro j;have i:(xs.filter λc=> !decide (c=b))=[]:=j;exact f (by rw[i];rfl)
 ·rename_i g;simp at d;subst d;exact .inl ⟨a,g⟩
theorem o0 {l:Wt}:((KR b k l).map (·.1)).Sublist (l.map (·.1)):=by
 induction l with
 |nil=>exact List.Sublist.slnil
 |cons e l ih=>
  unfold KR at*;rw[O9]
  split
  ·exact ih.cons _
  ·rename_i d he;have:d.1=e.1:=by
    split at he
    ·rename_i a
     split at he
     ·cases he
     ·simp at he;rw[<-he];exact a.symm
    ·simp at he;rw[he]
   rw[ix,ix,this];exact ih.cons_cons _
theorem Inv.IE (h:Inv S):Inv (S.IE b k) where
 g:=⟨h.g.pn,h.g.p8,h.g.lv,h.g.rn,h.g.rm,h.g.rr⟩
 wf:=h.wf
 fl:=h.fl
 y8:=h.y8
 yb:=h.yb
 kn:=h.kn.sublist o0
 ne:=λe he=>by
  rcases bW he with ⟨a,_⟩|⟨_,d,_⟩
  ·exact h.ne e a
  ·exact d
 nd:=λe he=>by
  rcases bW he with ⟨a,_⟩|⟨_,_,xs,f,i⟩
  ·exact h.nd e a
  ·rw[i];exact(h.nd _ f).sublist List.filter_sublist
 ke:=λe he=>by
  rcases bW he with ⟨a,_⟩|⟨d,_,xs,f,i⟩
  ·exact h.ke e a
  ·rw[d];exact h.ke _ f
 rm:=λe he c hc=>by
  rcases bW he with ⟨a,_⟩|⟨d,_,xs,f,i⟩
  ·exact h.rm e a c hc
  ·rw[d];rw[i] at hc;exact h.rm _ f c (l4.1 hc).1
theorem Inv.row (h:Inv S)(hb:(b,x)∈S.ps){e:(Nat×Nat)×List Nat}(he:e∈S.wt)(hm:b∈e.2):NQ x e.1:=by
 obtain⟨y,a,d⟩:=h.rm e he b hm;rw[aS h.g.pn hb a];exact d
theorem Inv.I3 (h:Inv S)(hb:(b,x)∈S.ps):(S.IE b (x.file (x.r 0))).out b:=by
 intro e he hm;rcases bW he with ⟨g,a⟩|⟨a,_,xs,i,d⟩
 ·exact a (h.row hb g hm).f.symm
 ·rw[d] at hm;have:=(l4.1 hm).2;simp at this
theorem jq {c:Nat}(h:S.out c):(S.IE b k).out c:=by
 intro e he hm;rcases bW he with ⟨d,f⟩|⟨f,_,xs,g,a⟩
 ·exact h e d hm
 ·rw[a] at hm;exact h _ g (l4.1 hm).1
theorem Inv.JI (h:Inv S)(hb:(b,x)∈S.ps)(h1:x.st≠1)(a:x.st≠4)(d:x.st≠5):S.out b:=λe he hm=>by
 have:=(h.row hb he hm).s;rcases(h.ke e he).2 with h|h<;>omega
theorem Inv.ID (h:Inv S)(hb:(b,x)∈S.ps)(ho:S.out b)(l:Good (S.ID b x'))(hw:WF x')(hf: ∀i,i<6->x'.f i=(0,0)\/KX (x'.f i)):Inv (S.ID b x') where
 g:=l
 wf:=λq a=>by
  rcases aN a with rfl|⟨d,_⟩
  ·exact hw
  ·exact h.wf q d
 fl:=λq a=>by
  rcases aN a with rfl|⟨d,_⟩
  ·exact hf
  ·exact h.fl q d
 y8:=h.y8
 yb:=h.yb
 kn:=h.kn
 ne:=h.ne
 nd:=h.nd
 ke:=h.ke
 rm:=λe he c hc=>by
  obtain⟨y,j,k⟩:=h.rm e he c hc;refine⟨y, ?_,k⟩;simp only[St.ID,cm];refine⟨(c,y),j, ?_⟩;rw[if_neg];rintro rfl;exact ho e he hc
theorem Inv.Jq (h:Inv S)(hb:(b,x)∈S.ps)(ho:S.out b)(hs:x'.st=x.st)(hl:x'.lv=x.lv)(hw:WF x')(hf: ∀i,i<6->x'.f i=(0,0)\/KX (x'.f i)):Inv (S.ID b x'):=h.ID hb ho (h.g.Jq hb hs hl) hw hf
theorem Inv.IV (h:Inv S)(hb:(b,x)∈S.ps)(ho:S.out b)(hs:x.st≠1):Inv (S.IV b x) where
 g:=h.g.IV hb hs
 wf:=λq a=>by
  rcases aN a with rfl|⟨d,_⟩
  ·exact⟨(h.wf _ hb).r,(h.wf _ hb).m⟩
  ·exact h.wf q d
 fl:=λq a=>by
  rcases aN a with rfl|⟨d,_⟩
  ·exact h.fl (b,x) hb
  ·exact h.fl q d
 y8:=h.y8
 yb:=h.yb
 kn:=h.kn
 ne:=h.ne
 nd:=h.nd
 ke:=h.ke
 rm:=λe he c hc=>by
  obtain⟨y,f,i⟩:=h.rm e he c hc;refine⟨y, ?_,i⟩;show (c,y)∈(S.ID b _).ps;simp only[St.ID,cm];refine⟨(c,y),f, ?_⟩;rw[if_neg];rintro rfl;exact ho e he hc
theorem Inv.IY (h:Inv S){i:Nat}{ys:List Int}(h8:ys.length<=8)(hb: ∀v∈ys,0<=v/\v<256):Inv (S.IY i ys) where
 g:=⟨h.g.pn,h.g.p8,h.g.lv,h.g.rn,h.g.rm,h.g.rr⟩
 wf:=h.wf
 fl:=h.fl
 y8:=λj b=>by
  show (put S.by_ i ys j).length<=8;unfold put;split
  ·exact h8
  ·exact h.y8 j b
 yb:=λj b v d=>by
  have a:v∈put S.by_ i ys j:=d;unfold put at a
  split at a
  ·exact hb v a
  ·exact h.yb j b v a
 kn:=h.kn
 ne:=h.ne
 nd:=h.nd
 ke:=h.ke
 rm:=h.rm
end
def PS.JQ (x:PS):PS:={x with r:=put x.r 0 (x.r 2)}
def St.JO (S:St)(b:Nat)(x:PS)(k:Nat×Nat):St:=(S.IY k.1 (S.by_ k.1++x.Jn (x.r 1).toNat (x.r 2).toNat)).ID b x.JQ
def St.carried (S:St)(x:PS)(k:Nat×Nat):PS:=if k.2=4 then x.got (S.by_ k.1) else if S.IM (KH k) then x.JQ else{x with r:=put x.r 0 (KB 7)}
def St.carry (S:St)(b:Nat)(x:PS)(k:Nat×Nat):St:=if k.2=4 then S.JN b x k else if S.IM (KH k) then S.JO b x k else S.ID b {x with r:=put x.r 0 (KB 7)}
def St.rowAt (S:St)(k:Nat×Nat):List Nat:=((S.wt.find? λe=>decide (e.1=k)).map (·.2)).getD []
def St.serve (S:St)(k:Nat×Nat):Option St:=match S.rowAt k with
 |[]=>none
 |b::_=>match S.get b with
  |none=>none
  |some x=>if S.IL x k then some (if x.st=1 then(S.IE b k).carry b x k else((S.IE b k).carry b x k).IV b (S.carried x k)) else none
def St.looks:Nat->St->Nat->St
 |0,S,_=>S
 |n+1,S,p=>match S.serve (p,5) with
  |some S'=>St.looks n S' p
  |none=>match S.serve (p,4) with
   |some S'=>St.looks n S' p
   |none=>S
def St.look (S:St)(p:Nat):St:=St.looks 16 S p
def St.meas (S:St)(p:Nat):Nat:=(S.rowAt (p,5)).length+(S.rowAt (p,4)).length
def St.shut (S:St)(b n:Nat):St:=match S.get b with
 |some x=>(S.ID b {x with f:=put x.f n (0,0)}).look (x.f n).1
 |none=>S
def St.I1 (S:St)(b:Nat)(f:Nat->Nat×Nat):List Nat->St
 |[]=>S
 |n::ns=>(if f n=(0,0) then S else S.shut b n).I1 b f ns
section
variable {S S':St}{b:Nat}{x x':PS}{k:Nat×Nat}
theorem cK {c:Nat}(h:c∈S.rowAt k): ∃xs,(k,xs)∈S.wt/\xs=S.rowAt k:=by
 unfold St.rowAt at*;cases a:S.wt.find? λe=>decide (e.1=k) with
 |none=>rw[a] at h;simp at h
 |some e=>
  have d:=Ox a;have b:=OU a;simp only[decide_eq_true_eq] at b;subst b;exact⟨e.2,d,rfl⟩
theorem dr (h:(S.wt.map (·.1)).Nodup){xs:List Nat}(hm:(k,xs)∈S.wt):S.rowAt k=xs:=by
 obtain⟨m,g,l,d,f,j⟩:=cu h (cm.2 ⟨_,hm,rfl⟩);have i:S.rowAt k=g:=by
  unfold St.rowAt;rw[d,tz,sS.2 λe he=>by simpa using f e he];simp
 rw[d] at hm;rcases cE.1 hm with b|b
 ·exact absurd rfl (f _ b)
 ·rcases gn.1 b with a|a
  ·rw[i];cases a;rfl
  ·exact absurd rfl (j _ a)
theorem iE (h: ∀e∈S.wt,e.1≠k):S.rowAt k=[]:=by
 unfold St.rowAt;rw[sS.2 λe he=>by simpa using h e he];rfl
theorem jr (h:(S.wt.map (·.1)).Nodup)(k':Nat×Nat):(S.IE b k).rowAt k'=if k'=k then(S.rowAt k).filter (λc=> !decide (c=b)) else S.rowAt k':=by
 by_cases n:k∈S.wt.map (·.1)
 ·obtain⟨p,i,f,j,o,l⟩:=cu h n;have s:S.rowAt k=i:=dr h (by rw[j];simp);have a:(S.IE b k).wt=p++((if(i.filter λc=> !decide (c=b)).length=0 then [] else [(k,i.filter λc=> !decide (c=b))])++f):=by
   show KR b k S.wt=_;rw[j,lW o l]
  have f1:p.find? (λe=>decide (e.1=k))=none:=sS.2 λe he=>by simpa using o e he
  have f2:f.find? (λe=>decide (e.1=k))=none:=sS.2 λe he=>by simpa using l e he
  split
  ·rename_i e;subst e;rw[s];unfold St.rowAt;rw[a,tz,f1,tz]
   split
   ·rename_i r;have g:=OI.1 r;rw[f2,g];rfl
   ·simp
  ·rename_i d;unfold St.rowAt;rw[a,j,tz,tz,tz];have u: ∀m,((k,m)::f).find? (λe=>decide (e.1=k'))=f.find? (λe=>decide (e.1=k')):=λm=>by
    rw[ON];simp[ft d]
   rw[u]
   split
   ·rfl
   ·simp[ft d]
 ·have h0: ∀e∈S.wt,e.1≠k:=λe he a=>n (cm.2 ⟨e,he,a⟩);have a:S.IE b k=S:=by unfold St.IE;rw[eF h0];rfl
  rw[a]
  split
  ·rename_i e;rw[e,iE h0];rfl
  ·rfl
theorem uh: ∀(vs:List Int)(x:PS)(i:Nat),(x.Je i vs).st=x.st/\(x.Je i vs).lv=x.lv/\(x.Je i vs).f=x.f/\(x.Je i vs).id=x.id/\(x.Je i vs).par=x.par
 |[],_,_=>⟨rfl,rfl,rfl,rfl,rfl⟩
 |v::vs,x,i=>uh vs {x with m:=put x.m i v} (i+1)
theorem ui: ∀(vs:List Int)(x:PS)(i:Nat),WF x->(∀v∈vs,0<=v/\v<256)->WF (x.Je i vs)
 |[],_,_,h,_=>h
 |v::vs,x,i,h,hv=>ui vs {x with m:=put x.m i v} (i+1) ⟨h.r,λj a=>by
  show 0<=put x.m i v j/\put x.m i v j<256;unfold put;split
  ·exact hv v bE
  ·exact h.m j a⟩ λw hw=>hv w (by simp[hw])
theorem fT (h:WF x){v:Int}(hv:0<=v/\v<65536):WF {x with r:=put x.r 0 v}:=⟨λj a=>by
 show 0<=put x.r 0 v j/\put x.r 0 v j<65536;unfold put;split
 ·exact hv
 ·exact h.r j a,h.m⟩
theorem yU (i:Nat):0<=KB i/\KB i<65536:=by
 unfold KB
 repeat' split
 all_goals omega
theorem b9 (S:St)(x:PS)(k:Nat×Nat):(S.carried x k).st=x.st/\(S.carried x k).lv=x.lv/\(S.carried x k).f=x.f/\(S.carried x k).id=x.id/\(S.carried x k).par=x.par:=by
 unfold St.carried
 split
 ·exact uh _ _ _
 ·split<;>exact⟨rfl,rfl,rfl,rfl,rfl⟩
theorem sZ (h:Inv S)(a:k.1<5)(hx:WF x)(ha:x.r 1+x.r 2<=64):WF (S.carried x k):=by
 unfold St.carried
 split
 ·refine fT (ui _ _ _ hx λv b=>h.yb _ a v (List.mem_of_mem_take b)) ⟨bl, ?_⟩;have:=h.y8 _ a;have:(Nat.min (S.by_ k.1).length (x.r 2).toNat:Nat)<=(S.by_ k.1).length:=Nat.min_le_left _ _;omega
 ·split
  ·exact fT hx (hx.r 2 bl)
  ·exact fT hx (yU 7)
theorem gE (S:St)(b:Nat)(x:PS)(k:Nat×Nat): ∃ys,S.carry b x k=(S.ID b (S.carried x k)).IY k.1 ys/\(k.2=4->ys=(S.by_ k.1).drop (Nat.min (S.by_ k.1).length (x.r 2).toNat))/\(k.2≠4->ys=if S.IM (KH k) then S.by_ k.1++x.Jn (x.r 1).toNat (x.r 2).toNat else S.by_ k.1):=by
 unfold St.carry St.carried
 split
 ·rename_i h;exact⟨_,rfl,λ_=>rfl,λd=>absurd h d⟩
 ·rename_i h
  split
  ·exact⟨_,rfl,λa=>absurd a h,λ_=>rfl⟩
  ·refine⟨S.by_ k.1, ?_,λa=>absurd a h,λ_=>rfl⟩;have:put S.by_ k.1 (S.by_ k.1)=S.by_:=by funext j;unfold put;split<;>simp_all
   show _={S.ID b _ with by_:=put S.by_ k.1 (S.by_ k.1)};rw[this];rfl
theorem Inv.carry (h:Inv S)(hb:(b,x)∈S.ps)(ho:S.out b)(l:k.1<5)(ha:x.r 1+x.r 2<=64)(hc:S.IL x k=true):Inv (S.carry b x k):=by
 obtain⟨A,e,o,n⟩:=gE S b x k;obtain⟨y,u,p,_,_⟩:=b9 S x k;have z:=h.Jq hb ho y u (sZ h l (h.wf _ hb) ha) (by rw[p];exact h.fl _ hb);rw[e];have i:=h.y8 _ l;have d:=h.yb _ l;have w2:0<=x.r 2/\x.r 2<65536:=(h.wf _ hb).r 2 bl;have w1:0<=x.r 1/\x.r 1<65536:=(h.wf _ hb).r 1 bl;refine z.IY ?_ ?_
 ·by_cases a:k.2=4
  ·rw[o a,OO];omega
  ·rw[n a]
   split
   ·rename_i ho;unfold St.IL at hc;rw[if_pos ho,if_neg a] at hc;simp only[decide_eq_true_eq] at hc;simp[PS.Jn];omega
   ·exact i
 ·by_cases a:k.2=4
  ·rw[o a];exactλv g=>d v (List.mem_of_mem_drop g)
  ·rw[n a]
   split
   ·intro v g;rcases cE.1 g with f|f
    ·exact d v f
    ·unfold PS.Jn at f;obtain⟨j,s,rfl⟩:=cm.1 f;simp at s;exact(h.wf _ hb).m _ bl
   ·exact d
theorem js (S:St)(b:Nat)(x:PS)(k:Nat×Nat):(S.carry b x k).wt=S.wt:=by
 obtain⟨a,e,_⟩:=gE S b x k;rw[e];rfl
theorem cL (S:St)(b:Nat)(x:PS)(k:Nat×Nat):(S.carry b x k).ps=(S.ID b (S.carried x k)).ps:=by
 obtain⟨a,e,_⟩:=gE S b x k;rw[e];rfl
theorem cR (a:S.serve k=some S'): ∃b x,b∈S.rowAt k/\(S.rowAt k).head? =some b/\(b,x)∈S.ps/\S.IL x k=true/\S'=if x.st=1 then(S.IE b k).carry b x k else((S.IE b k).carry b x k).IV b (S.carried x k):=by
 unfold St.serve at a
 split at a
 ·cases a
 ·rename_i b l d
  split at a
  ·cases a
  ·rename_i x e
   split at a
   ·rename_i hc;refine⟨b,x,by rw[d];simp,by rw[d];rfl,ba e,hc, ?_⟩;exact(gu a).symm
   ·cases a
theorem Inv.JE (h:Inv S){c:Nat}(hc:c∈S.rowAt k)(hb:(c,x)∈S.ps):NQ x k/\KX k:=by
 obtain⟨xs,a,b⟩:=cK hc;exact⟨h.row hb a (by rw[b];exact hc),h.ke _ a⟩
theorem Inv.serve (h:Inv S)(n:S.serve k=some S'):Inv S':=by
 obtain⟨b,x,hm,_,hb,hc,rfl⟩:=cR n;obtain⟨g,j⟩:=h.JE hm hb;have l:Inv (S.IE b k):=h.IE;have d:(S.IE b k).out b:=by have:=h.I3 hb;rw[g.f] at this;exact this
 have i:=Inv.carry l (b:=b) (x:=x) (k:=k) hb d j.1.2 g.a hc
 split
 ·exact i
 ·rename_i m;refine i.IV ?_ (by intro e he;exact d e (by rw[js] at he;exact he)) (by rw[(b9 S x k).1];exact m);rw[cL];exact ai hb
theorem ju (d:S.serve k=some S'): ∃b,(S.rowAt k).head? =some b/\S'.wt=(S.IE b k).wt:=by
 obtain⟨b,x,hm,a,hb,hc,rfl⟩:=cR d;refine⟨b,a, ?_⟩
 split
 ·exact js _ _ _ _
 ·show ((S.IE b k).carry b x k).wt=_;exact js _ _ _ _
theorem l9 {S S':St}(h:S'.wt=S.wt)(k:Nat×Nat):S'.rowAt k=S.rowAt k:=by unfold St.rowAt;rw[h]
theorem fU (h:Inv S){p u:Nat}(hu:u=4\/u=5)(g:S.serve (p,u)=some S'):S'.meas p<S.meas p:=by
 obtain⟨b,e,hw⟩:=ju g;have d:=l9 hw (p,4);have a:=l9 hw (p,5);rw[jr h.kn] at d a;have f:((S.rowAt (p,u)).filter λc=> !decide (c=b)).length<(S.rowAt (p,u)).length:=by
  rw[List.length_filter_lt_length_iff_exists];refine⟨b,List.mem_of_head? e,bE⟩
 unfold St.meas;rw[d,a];rcases hu with rfl|rfl
 ·rw[if_pos rfl,if_neg bE];omega
 ·rw[if_pos rfl,if_neg bE];omega
theorem gU {c:Nat}(h:S.out c)(a:S.serve k=some S'):S'.out c:=by
 obtain⟨b,d,hw⟩:=ju a;intro e he;rw[hw] at he;exact jq h e he
theorem vG {c:Nat}{y:PS}(h:Inv S)(ho:S.out c)(hc:(c,y)∈S.ps)(g:S.serve k=some S'):(c,y)∈S'.ps:=by
 obtain⟨b,x,hm,i,hb,j,rfl⟩:=cR g;have a:c≠b:=by
  rintro rfl;obtain⟨xs,e,f⟩:=cK hm;exact ho _ e (by rw[f];exact hm)
 have stay: ∀(T:St)(z:PS),(c,y)∈T.ps->(c,y)∈(T.ID b z).ps:=λT z d=>by
  simp only[St.ID,cm];exact⟨(c,y),d,by rw[if_neg a]⟩
 split
 ·rw[cL];exact stay _ _ hc
 ·show (c,y)∈(((S.IE b k).carry b x k).ID b _).ps;apply stay;rw[cL];exact stay _ _ hc
theorem vH (d:S.serve k=some S'):S'.ps.map (·.1)=S.ps.map (·.1):=by
 obtain⟨b,x,hm,e,hb,f,rfl⟩:=cR d;have a:((S.IE b k).carry b x k).ps.map (·.1)=S.ps.map (·.1):=by rw[cL,aV];rfl
 split
 ·exact a
 ·show (((S.IE b k).carry b x k).ID b _).ps.map (·.1)=_;rw[aV,a]
theorem kW (h:Inv S)(p:Nat):S.meas p<=16:=by
 have aux: ∀k,(S.rowAt k).length<=8:=λk=>by
  cases d:S.rowAt k with
  |nil=>simp
  |cons c l=>
   obtain⟨xs,a,b⟩:=cK (S:=S) (k:=k) (c:=c) (by rw[d];simp);have:=h.w.rl _ a;simp only at this;rw[b,d] at this;exact this
 have a:=aux (p,5);have b:=aux (p,4);unfold St.meas;omega
theorem ma {p:Nat}(b:S.serve (p,5)=none)(a:S.serve (p,4)=none): ∀n,St.looks n S p=S
 |0=>rfl
 |n+1=>by simp only[St.looks,b,a]
structure Np (S S':St):Prop where
 i:Inv S'
 f:S'.ps.map (·.1)=S.ps.map (·.1)
 o: ∀c,S.out c->S'.out c
 m: ∀c y,S.out c->(c,y)∈S.ps->(c,y)∈S'.ps
theorem Inv.looks (p:Nat): ∀(n:Nat){S:St},Inv S->Np S (St.looks n S p)
 |0,S,h=>⟨h,rfl,λ_ h=>h,λ_ _ _ h=>h⟩
 |n+1,S,h=>by
  have go: ∀{u:Nat}{d:St},S.serve (p,u)=some d->Np S (St.looks n d p):=λ{u d} a=>by
   have b:=Inv.looks p n (h.serve a);exact⟨b.i,b.f.trans (vH a),λc hc=>b.o c (gU hc a),λc y hc e=>b.m c y (gU hc a) (vG h hc e a)⟩
  unfold St.looks
  split
  ·exact go ‹_›
  ·split
   ·exact go ‹_›
   ·exact⟨h,rfl,λ_ h=>h,λ_ _ _ h=>h⟩
theorem Inv.look (h:Inv S)(p:Nat):Np S (S.look p):=Inv.looks p 16 h
theorem iF (h: ∀i,i<6->x.f i=(0,0)\/KX (x.f i)) {n:Nat} {e:Nat×Nat} (he:e=(0,0)\/KX e): ∀i,i<6->put x.f n e i=(0,0)\/KX (put x.f n e i):=λi a=>by
 unfold put;split
 ·exact he
 ·exact h i a
theorem Inv.shut (h:Inv S)(hb:(b,x)∈S.ps)(ho:S.out b)(n:Nat):Np (S.ID b {x with f:=put x.f n (0,0)}) (S.shut b n):=by
 unfold St.shut;rw[aY h.g.pn hb];exact Inv.look (h.Jq (x':={x with f:=put x.f n (0,0)}) hb ho rfl rfl ⟨(h.wf _ hb).r,(h.wf _ hb).m⟩ (iF (h.fl _ hb) (.inl rfl))) _
end
theorem BN: ∃n,∀{C}{F:Kn C}{o:DM F}{d s}(K:Nat)(A:Kq)(S:St)(Fr L:Ka)(eb:Nat->Nat×Nat)(b:Nat)(x:PS)(k:Nat×Nat),(∀cs,(o s).New (.cells cs 96))->(∀cs,(o s).New (.cells cs 210))->Ke K A S Fr L->KZ eb Fr->(b,x)∈S.ps->WF x->k.2≠4->x.r 1+x.r 2<=64->S.IM (KH k)=false->
 Kb o prog d 166 [ptr K,ptr b,KE k].toArray n s L (λs' v L'=>s=s'/\ ∃r,v= .iface 180 (ptr r)/\At L' r 1 (LZ eb 7)/\Ke K A S Fr L'):=by
 obtain⟨Y,g0⟩:=oY;obtain⟨X,Q⟩:=jj;obtain⟨W,H⟩:=qO;constructor;intro C F o d s K A S Fr L eb b x k u y R O hb B M U p;have E:=B.r 1 bl;have G:=B.r 2 bl;have w1:IntKind.i64.wrap (x.r 1)=x.r 1:=ag
 have w2:IntKind.i64.wrap (x.r 2)=x.r 2:=ag
 have w3:IntKind.i64.wrap (x.r 1+x.r 2)=x.r 1+x.r 2:=ag
 co_applyP ar 100 func166 ntmps166;co_applyP(zo);co_applyP bB rfl (bA (u _));intro N m e;have a:=R.add e;have Z:At m N 1 (.int .i64 (k.2:Nat)):=⟨true,_,_,_,e.self,rfl⟩;have I:At m b 8 (.int .u16 (x.r 1)):=a.pat hb (bu x (i:=1) bl);have T:At m b 9 (.int .u16 (x.r 2)):=a.pat hb (bu x (i:=2) bl);have J:((k.2:Int)==4)=false:=ao
 co_applyP(aH);co_applyP(dE);simp only[w1,w2,w3];co_applyP oy rfl (ug U94 cP);co_applyP(aO);change Kw ..;rw[J];co_applyP(ay);co_applyP aK (n₂:=0);co_applyP(ay);co_applyP oy rfl (aW (ht:=bV) (hs:=bw) (hm:=e.self) (hi:=cD _));co_applyP ocm rfl rfl rfl (g0 m k u);rintro _ _ _ ⟨rfl,rfl,f⟩;rename_i D;co_applyP oc rfl rfl rfl (Q K A S Fr D (KH k) u (a.ext f));rintro _ _ _ ⟨rfl,rfl,z⟩;co_applyP(ay);change Kw ..;rename_i P;have j:=(a.ext f).ext z;have V:=(O.mono j.fr).g 7 bx bx;rw[p];co_applyP(ax);co_applyP oc rfl rfl rfl (H P 10 (eb 7) y);rintro _ _ _ ⟨rfl,r,rfl,l⟩;co_applyP(ax);exact xI _ ⟨rfl,rfl,r,rfl,⟨true,_,_,_,l.self,rfl⟩,j.add l⟩
theorem BO: ∃n,∀{σ}{F:Kn σ}{Δ:DM F}{I s}(K:Nat)(A:Kq)(S:St)(Fr L:Ka)(b:Nat)(x:PS)(k:Nat×Nat),(∀cs,(Δ s).New (.cells cs 96))->(∀cs,(Δ s).New (.cells cs 5))->Ke K A S Fr L->(b,x)∈S.ps->WF x->k.1<5->k.2≠4->x.r 1+x.r 2<=64->(S.by_ k.1).length<=8->S.IM (KH k)=true->
 Kb Δ prog I 166 [ptr K,ptr b,KE k].toArray n s L (λs' v L'=>s=s'/\v= .nilIface/\ ∃A',YLay A A'/\Ke K A' (S.JO b x k) Fr L'):=by
 obtain⟨n0,g0⟩:=oY;obtain⟨n1,g1⟩:=jj;constructor;intro σ F Δ I s K A S Fr L b x k hN j' hR hb hx D u' t' h8 f';have m':=hx.r 1 bl;have p':=hx.r 2 bl;have w1:IntKind.i64.wrap (x.r 1)=x.r 1:=ag
 have w2:IntKind.i64.wrap (x.r 2)=x.r 2:=ag
 have w3:IntKind.i64.wrap (x.r 1+x.r 2)=x.r 1+x.r 2:=ag
 obtain⟨m,cap,hv,_⟩: ∃m cap,Ky (A.y k.1) (S.by_ k.1).length= .slice m (S.by_ k.1).length cap/\True:=by
  obtain⟨m,cap,h,_⟩:=bH (hR.ya k.1 D);simp only[ia] at h;exact⟨m,cap,h,trivial⟩
 co_applyP ar 100 func166 ntmps166;co_applyP(zo);co_applyP bB rfl (bA (hN _));intro T L1 C;have G:=hR.add C;have h1:At L1 T 1 (.int .i64 (k.2:Nat)):=⟨true,_,_,_,C.self,rfl⟩;have q':At L1 b 8 (.int .u16 (x.r 1)):=G.pat hb (bu x (i:=1) bl);have n':At L1 b 9 (.int .u16 (x.r 2)):=G.pat hb (bu x (i:=2) bl);have e4:((k.2:Int)==4)=false:=ao
 have h':(x.r 1+x.r 2).toNat-(x.r 1).toNat=(x.r 2).toNat:=bl
 co_applyP(aH);co_applyP(dE);simp only[w1,w2,w3];co_applyP oy rfl (ug U94 cP);co_applyP(aO);change Kw ..;rw[e4,h'];co_applyP(au);co_applyP oy rfl (aW (ht:=bV) (hs:=bw) (hm:=C.self) (hi:=cD _));co_applyP ocm rfl rfl rfl (g0 L1 k hN);rintro _ _ _ ⟨rfl,rfl,Q⟩;rename_i L2;co_applyP oc rfl rfl rfl (g1 K A S Fr L2 (KH k) hN (G.ext Q));rintro _ _ _ ⟨rfl,rfl,d'⟩;co_applyP(ay);change Kw ..;rename_i L3;have l:=(G.ext Q).ext d';have f:=d'.s _ (Q.s _ C.self);have r':At L3 T 0 (.int .i64 (k.1:Nat)):=⟨true,_,_,_,f,rfl⟩;have l':At L3 K (10+k.1) (.slice m (S.by_ k.1).length cap):=by rw[<-hv];exact l.kat (ue _ D)
 rw[f'];co_applyP(ay);co_applyP aK;obtain⟨u,z⟩: ∃u,u=(x.Jn (x.r 1).toNat (x.r 2).toNat).map λv=>Value.int .u8 v:=⟨_,rfl⟩;have Z:u.length=(x.r 2).toNat:=by rw[z];simp[PS.Jn]
 have Y:cutAt (0+15) (x.r 1).toNat 64 1=if 64=(x.r 1).toNat then 15 else 15+(x.r 1).toNat:=by unfold cutAt;split<;>omega
 have g':Reads prog L3 1 u.length (.slice (some ⟨b,cutAt (0+15) (x.r 1).toNat 64 1,none⟩) u.length (64-(x.r 1).toNat)) u.toArray:=by
  have h:=bR (P:=prog) (sz:=1) (n:=u.length) (len:=u.length) (cap:=64-(x.r 1).toNat) (o:=cutAt (0+15) (x.r 1).toNat 64 1) (l.p _ hb) (by rw[bq,Y];split<;>omega);have e:(Kg x).extract (cutAt (0+15) (x.r 1).toNat 64 1) (cutAt (0+15) (x.r 1).toNat 64 1+u.length*1)=u.toArray:=by
   rw[Y]
   split
   ·have h0:(x.r 2).toNat=0:=bl
    have:u=[]:=OI.1 bl;rw[this];simp;omega
   ·rw[w9,Z,DU x bl,z]
  rw[e] at h;exact h
 have V:u.all Km=true:=by rw[z,OF];intro v hv;obtain⟨w,_,rfl⟩:=cm.1 hv;rfl
 have g: ∀(L:Ka),(T,true,Obj.cells (KE k).cells 96)∈L-> ∀t∈[(T,true,Obj.cells (KE k).cells 96)],t∈L:=λL h t E=>by simp only[wx] at E;rw[E];exact h
 have U: ∀{c:Nat}{fl:Bool}{o:Obj},(c,fl,o)∈L3->(∀c',o≠Obj.cells c' 5)->(A.y k.1).b≠some c:=λhm ho hc=>by
  obtain⟨xs,J⟩:=l.yl _ _ hc;exact ho _ (l.fn _ _ _ _ _ hm J).2
 have M:=U f λc=>aB bx;have X:=U l.k λc=>aB bx;co_applyP aM [(T,true,Obj.cells (KE k).cells 96)] 11 (nf:=0) mixed;co_applyP tr 0 rfl bk (aa (g _ f));co_applyP tr 1 rfl (br (hf:=ja)) (aa (g _ f));co_applyP tr 2 rfl (bT (ht:=dq)) (aa (g _ f));co_applyP tr 3 rfl bk (aa (g _ f));co_applyP tr 4 rfl (br (hf:=ja)) (aa (g _ f));co_applyP t0 5 rfl (bT (ht:=dq)) (aa (g _ f));co_applyP tr 6 rfl bI (aa (g _ f));co_applyP tr 7 rfl (br (hf:=gz)) (aa (g _ f));co_applyP tr 8 rfl (cW underlying113 gj) (aa (g _ f));co_applyP t0 9 rfl (bT (ht:=ny)) (aa (g _ f));co_applyP tr 10 rfl bk (aa (g _ f));co_applyP tr 12 rfl bI (aa (g _ f));co_applyP tr 13 rfl (br (hf:=gz)) (aa (g _ f));co_applyP aF;intro hnd;co_applyP te (i:=11) rfl (He (a:=A.y k.1) (xs:=(S.by_ k.1).map λv=>Value.int .u8 v) (ys:=u) (hx:=by rw[ia,hv];rfl) (hy:=by rw[Z];rfl) (hnd:=hnd) (hN:=j') (ha:=l.ya k.1 D) (hr:=g') (hpl:=V) (h8:=ao) (h8':=bl));rintro _ _ ⟨a',rfl,H⟩;refine⟨aj (g _ (H.sub _ f M)), ?_⟩;rename_i L4;co_applyP to 14 rfl ((cW underlying113 gj)) (aj (g _ (H.sub _ f M)));co_applyP aF;intro W;have i':=H.sub _ l.k X;have N:T≠K:=λe=>C.new _ hR.k e.symm;co_applyP te (i:=15) rfl (bX (hnd:=W) (hm:=i') (hi:=by rw[bP];omega) (hp:=fD _ _) (hs:=gj));rintro _ _ ⟨rfl,B⟩;refine⟨aj (g _ (B.ne _ (H.sub _ f M) N)), ?_⟩;rename_i L5;co_applyP(zo);co_applyP aK;have O:Ke K (A.IY k.1 a') (S.IY k.1 (S.by_ k.1++x.Jn (x.r 1).toNat (x.r 2).toNat)) Fr L5:=by
  refine l.setBytes D B.fn ?_ (λt E h1 h2=>B.ne _ (H.sub _ E h2) h1) ?_ (λc hc=> ?_)
  ·show (K,true,Obj.cells (Ks _) 115)∈L5;have:=B.self;rw[oZ _ D] at this;rw[sY];have el:(S.by_ k.1++x.Jn (x.r 1).toNat (x.r 2).toNat).length=((S.by_ k.1).map (λv=>Value.int .u8 v)++u).length:=by rw[z];simp
   rw[el];exact this
  ·rw[l3,<-z];refine H.ok.mono λc hc o ho=>B.ne _ ho λe=> ?_;rcases H.d c hc with h|h
   ·exact X (by rw[h];exact congrArg some e)
   ·exact h _ l.k e.symm
  ·rcases H.d c hc with h|h
   ·exact .inl h
   ·refine .inr ⟨λj hj=> ?_,λt E e=>h _ (l.fr t E) e⟩;obtain⟨xs,J⟩:=l.yl j c hj;exact h _ J rfl
 have R:(b,x)∈(S.IY k.1 (S.by_ k.1++x.Jn (x.r 1).toNat (x.r 2).toNat)).ps:=hb;have k':At L5 b 9 (.int .u16 (x.r 2)):=O.pat R (bu x (i:=2) bl);co_applyP aM [] 11 (nf:=0) mixed;co_applyP(bf);co_applyP aF;intro b';co_applyP te (i:=11) rfl (bX (hnd:=b') (hm:=O.p _ R) (hi:=by rw[bq];omega) (hs:=bh));rintro _ _ ⟨rfl,e'⟩;refine⟨aj bE, ?_⟩;co_applyP(au);change∃v,Ko .. =some v/\_;have h7:(Kg x).setIfInBounds (7+0) (.int .u16 (x.r 2))=Kg x.JQ:=by rw[dR _ bl];rfl
 refine⟨_,rfl,rfl,rfl,A.IY k.1 a',⟨rfl,⟨rfl,rfl,rfl⟩,⟨rfl,rfl,rfl⟩⟩, ?_⟩;exact O.ID R (x':=x.JQ) (h7▸e')
theorem yV: ∃n,∀{B}{F:Kn B}{i:DM F}{a s}(K:Nat)(A:Kq)(S:St)(Fr L:Ka)(b:Nat)(x:PS)(k:Nat×Nat),(∀cs,(i s).New (.cells cs 96))->(∀cs,(i s).New (.cells cs 5))->Ke K A S Fr L->(b,x)∈S.ps->WF x->k.1<5->x.r 1+x.r 2<=64->(S.by_ k.1).length<=8->k.2=4\/S.IM (KH k)=true->
 Kb i prog a 166 [ptr K,ptr b,KE k].toArray n s L (λs' v L'=>s=s'/\v= .nilIface/\ ∃g,Ke K g (S.carry b x k) Fr L'):=by
 obtain⟨H,g0⟩:=BM;obtain⟨G,E⟩:=BO;refine⟨H+G,λ{B F i a s} K A S Fr L b x k y o z hb p d f u C=>aG (k.2=4) (λh=> ?_) λh=> ?_⟩
 ·refine aJ (g0 K A S Fr L b x k y z hb p d h f u) λs' v L' ⟨l,j,g,D,m⟩=>⟨l,j,g, ?_⟩;unfold St.carry;rw[if_pos h];exact m
 ·have e:S.IM (KH k)=true:=C.resolve_left h;refine aJ (E K A S Fr L b x k y o z hb p d h f u e) λs' v L' ⟨l,j,g,D,m⟩=>⟨l,j,g, ?_⟩;unfold St.carry;rw[if_neg h,if_pos e];exact m
structure NewK {R:World->World->Prop}{D:World->World->Array Event->Prop}(Δ:Ma R D):Prop extends NewE Δ where
 r: ∀cs,Δ.New (.cells cs 93)
 k: ∀cs,Δ.New (.cells cs 96)
 y: ∀cs,Δ.New (.cells cs 5)
 i: ∀cs,Δ.New (.cells cs 158)
 p: ∀cs,Δ.New (.cells cs 99)
theorem BP: ∃n,∀{j}{F:Kn j}{i:DM F}{a s}(K:Nat)(A:Kq)(S:St)(Fr L:Ka)(k:Nat×Nat),(∀cs,(i s).New (.cells cs 96))->Ke K A S Fr L->(∀e∈S.wt,e.1≠k)->
 Kb i prog a 160 [ptr K,KE k].toArray n s L (λs' v L'=>s=s'/\v= .bool false/\Ke K A S Fr L'):=by
 constructor;intro j F i a s K A S Fr L k o p m;co_applyP ar 51 func160 ntmps160;co_applyP(zo);co_applyP bB rfl (bA (o _));intro u r g;have b:=p.add g;have l:At r K 15 (.map (some A.wt)):=b.kat rfl;have f:=b.w;rw[cJ] at f;have d:=dT (A:=A) (bs:=A.born) m;co_applyP(aO);co_applyP tr 4 rfl (aW (ht:=bV) (hs:=bw) (hm:=g.self) (hi:=cD _)) pI;co_applyP tr 5 rfl (qP (k:=k) eR underlying110 ji f) pI;co_applyP(ay);co_applyP aK (n₂:=0);co_applyP aK;rw[jh d];co_applyP(aH);co_applyP(av);exact xI _ ⟨rfl,rfl,rfl,b⟩
theorem mf {K:Nat}{A:Kq}{S:St}{F L:Ka}(e:Ke K A S F L){k:Nat×Nat}{b:Nat}{xs:List Nat}(d:(k,b::xs)∈S.wt): ∃Q,(A.a (slot k)).b=some Q/\Ky (A.a (slot k)) (b::xs).length= .slice (some ⟨Q,0,none⟩) (b::xs).length ((b::xs).length+(A.a (slot k)).junk.length)/\At L Q 0 (ptr b):=by
 cases h:(A.a (slot k)).b with
 |some Q=>
  refine⟨Q,rfl,by unfold Ky;rw[h],true,_,_,_,(e.wa _ d).mem h,bE⟩
 |none=>
  have:=e.wa _ d;unfold Kf at this;rw[h] at this;simp at this
theorem mg {A:Kq}{S:St}{k:Nat×Nat}{l1 l2:Wt}{xs:List Nat}(l:A.born.length=S.wt.length)(hwt:S.wt=l1++(k,xs)::l2)(m: ∀e∈l1,e.1≠k):lk k (Kk A S.wt A.born) 0=some (l1.length,Ky (A.a (slot k)) xs.length):=by
 obtain⟨g,j,i,b,f⟩: ∃g j i,A.born=g++j::i/\l1.length=g.length:=by
  have n:=l;rw[hwt] at n;simp at n;refine⟨A.born.take l1.length,A.born[l1.length]'bl,A.born.drop (l1.length+1),bE,ao⟩
 have d:Kk A S.wt A.born=Kk A l1 g++(k,Ky (A.a (slot k)) xs.length,j)::Kk A l2 i:=by
  rw[hwt,b,cH A f];rfl
 rw[d,kV (dT m),dS A f];simp[lk]
theorem BQ: ∃n,∀{D}{F:Kn D}{y:DM F}{e s}(K:Nat)(A:Kq)(S:St)(Fr L:Ka)(k:Nat×Nat)(b:Nat)(x:PS)(xs:List Nat),(∀cs,(y s).New (.cells cs 96))->Ke K A S Fr L->Inv S->(k,b::xs)∈S.wt->(b,x)∈S.ps->S.IL x k=false->
 Kb y prog e 160 [ptr K,KE k].toArray n s L (λs' v L'=>s=s'/\v= .bool false/\Ke K A S Fr L'):=by
 obtain⟨U,N⟩:=gC;constructor;intro D F y e s K A S Fr L k b x xs B O g d hb p;obtain⟨W,z,V,o,u,P⟩:=cu g.kn (cm.2 ⟨_,d,rfl⟩);have i:=g.ke _ d;co_applyP ar 51 func160 ntmps160;co_applyP(zo);co_applyP bB rfl (bA (B _));intro T C f;have a:=O.add f;have G:At C K 15 (.map (some A.wt)):=a.kat rfl;have j:=a.w;rw[cJ] at j;have m:z=b::xs:=by
  have M:=dr g.kn d;have H:=dr g.kn (S:=S) (k:=k) (xs:=z) (by rw[o];simp);rw[<-H,M]
 subst m;obtain⟨Q,R,r,J⟩:=mf a d;have l:=mg a.wl o u;rw[r] at l;co_applyP(aO);co_applyP tr 4 rfl (aW (ht:=bV) (hs:=bw) (hm:=f.self) (hi:=cD _)) pI;co_applyP tr 5 rfl (qP (k:=k) eR underlying110 ji j) pI;co_applyP(ay);co_applyP aK (n₂:=0);co_applyP aK;rw[l];have E:(((b::xs).length:Int)==0)=false:=ao
 co_applyP aM [] 9 mixed;co_applyP(av);rw[E];co_applyP(av);co_applyP t0 8 rfl (aW (ht:=bV) (hs:=bw) (hm:=f.self) (hi:=cD _)) pN;co_applyP tc 9 rfl rfl rfl (N K A S Fr C b x k B a hb (g.wf _ hb) i.1.2 (g.y8 _ i.1.2));rintro _ _ _ ⟨rfl,rfl,I⟩;refine⟨aj bE, ?_⟩;rw[p];co_applyP to 10 rfl (tT) (aj bE);co_applyP to 11 rfl (lA) (aj bE);co_applyP(aC);exact xI _ ⟨rfl,rfl,rfl,a.ext I⟩
theorem BR: ∃n,∀{σ}{F:Kn σ}{Δ:DM F}{B s}(K:Nat)(A:Kq)(S:St)(Fr L:Ka)(eb:Nat->Nat×Nat)(k:Nat×Nat)(b:Nat)(x:PS)(xs:List Nat),NewK (Δ s)->Ke K A S Fr L->KZ eb Fr->Inv S->(k,b::xs)∈S.wt->(b,x)∈S.ps->S.IL x k=true->k.2=4\/S.IM (KH k)=true->
 Kb Δ prog B 160 [ptr K,KE k].toArray n s L (λs' v L'=>s=s'/\v= .bool true/\ ∃A',Ke K A' (if x.st=1 then(S.IE b k).carry b x k else((S.IE b k).carry b x k).IV b (S.carried x k)) Fr L'):=by
 obtain⟨n1,g1⟩:=gC;obtain⟨n2,g2⟩:=lY;obtain⟨n3,g3⟩:=yV;obtain⟨n4,g4⟩:=lO;constructor;intro σ F Δ B s K A S Fr L eb k b x xs I hR i' l m hb M a';obtain⟨l1,ys,l2,J,c',j'⟩:=cu l.kn (cm.2 ⟨_,m,rfl⟩);have p:=l.ke _ m;have o:=l.row hb m bE;co_applyP ar 51 func160 ntmps160;co_applyP(zo);co_applyP bB rfl (bA (I.k _));intro xk L1 d;have j:=hR.fresh ⟨d.fn,d.sub⟩ d.new d.self;have h':At L1 K 15 (.map (some A.wt)):=j.kat rfl;have N:=j.w;rw[cJ] at N;have P:ys=b::xs:=by
  have V:=dr l.kn m;have h2:=dr l.kn (S:=S) (k:=k) (xs:=ys) (by rw[J];simp);rw[<-h2,V]
 subst P;obtain⟨Q,hQ,Z,d'⟩:=mf j m;have W:=mg j.wl J c';rw[Z] at W;co_applyP(aO);co_applyP tr 4 rfl (aW (ht:=bV) (hs:=bw) (hm:=d.self) (hi:=cD _)) pI;co_applyP tr 5 rfl (qP (k:=k) eR underlying110 ji N) pI;co_applyP(ax);co_applyP aK;rw[W];have hz:(((b::xs).length:Int)==0)=false:=ao
 co_applyP aM [] 9 mixed;co_applyP(av);rw[hz];co_applyP(av);co_applyP t0 8 rfl (aW (ht:=bV) (hs:=bw) (hm:=d.self) (hi:=cD _)) pN;co_applyP tc 9 rfl rfl rfl (g1 K A S _ L1 b x k I.k j hb (l.wf _ hb) p.1.2 (l.y8 _ p.1.2));rintro _ _ _ ⟨rfl,rfl,hE⟩;refine⟨aj bE, ?_⟩;rename_i L2;rw[M];co_applyP to 10 rfl (tT) (aj bE);co_applyP to 11 rfl (lA) (aj bE);have R:=j.ext hE;have f':=hE.at d';co_applyP(bZ);co_applyP oy rfl (aW (ht:=bV) (hs:=bw) (hm:=R.fr _ eT) (hi:=cD _));co_applyP oc rfl rfl rfl (g2 K A S _ L2 b x k I.r I.k R l.w hb);rintro _ _ _ ⟨rfl,rfl,A3,e',O⟩;co_applyP(au);rename_i L3;have C:(b,x)∈(S.IE b k).ps:=hb;co_applyP oy rfl (aW (ht:=bV) (hs:=bw) (hm:=O.fr _ eT) (hi:=cD _));co_applyP oc rfl rfl rfl (g3 K A3 _ _ L3 b x k I.k I.y O C (l.wf _ hb) p.1.2 o.a (l.y8 _ p.1.2) a');rintro _ _ _ ⟨rfl,rfl,A5,E⟩;co_applyP(av);rename_i L5;have u:(b,S.carried x k)∈((S.IE b k).carry b x k).ps:=by rw[cL];exact ai C
 have hd:Inv (S.IE b k):=l.IE;have ho:(S.IE b k).out b:=by have:=l.I3 hb;rw[o.f] at this;exact this
 have z:=Inv.carry hd (b:=b) (x:=x) (k:=k) C ho p.1.2 o.a M;have U:(S.carried x k).st=x.st:=(b9 S x k).1;have k':At L5 b 2 (.int .i64 ((S.carried x k).st:Nat)):=E.pat u (i:=2) rfl;co_applyP oy rfl (dN (v:= .nilIface) (c:=true) (hv:= .inl ⟨rfl,rfl⟩) (hu:=underlying168));co_applyP(ax);co_applyP bL (λb' T X=>s=b'/\kn T []/\ ∃H,Ke K H (if x.st=1 then(S.IE b k).carry b x k else((S.IE b k).carry b x k).IV b (S.carried x k)) Fr X);co_applyP(aO);co_applyP aI rfl;intro hc;co_applyP(ax)
 ·have V: ¬x.st=1:=by rw[U] at hc;simp at hc;omega
  co_applyP oc rfl rfl rfl (g4 K A5 _ _ L5 b (S.carried x k) I.r E u (z.g.lv _ u) (z.g.r8 (z.g.lv _ u)) (λe he=>cU e.1 (z.g.lv _ u)));rintro _ _ _ ⟨rfl,rfl,H,_,G⟩;co_applyP(zo);change _=_/\kn _ _/\ ∃H,_;exact⟨rfl,rfl,H,by rw[if_neg V];exact G.less λt D=>dc _ D⟩
 intro hc;co_applyP(zo);change _=_/\kn _ _/\ ∃H,_;have V:x.st=1:=by rw[U] at hc;simp at hc;omega
 exact⟨rfl,rfl,A5,by rw[if_pos V];exact E.less λt D=>dc _ D⟩;rintro _ g' L6 ⟨rfl,Y,H,G⟩;co_applyP aA Y;co_applyP(av);exact xI _ ⟨rfl,rfl,rfl,H,G⟩
theorem BS: ∃n,∀{σ}{F:Kn σ}{Δ:DM F}{E s}(K:Nat)(A:Kq)(S:St)(Fr L:Ka)(eb:Nat->Nat×Nat)(k:Nat×Nat)(b:Nat)(x:PS)(xs:List Nat),NewK (Δ s)->Ke K A S Fr L->KZ eb Fr->Inv S->(k,b::xs)∈S.wt->(b,x)∈S.ps->S.IL x k=true->k.2≠4/\S.IM (KH k)=false->
 Kb Δ prog E 160 [ptr K,KE k].toArray n s L (λs' v L'=>s=s'/\v= .bool true/\ ∃A',Ke K A' (if x.st=1 then(S.IE b k).carry b x k else((S.IE b k).carry b x k).IV b (S.carried x k)) Fr L'):=by
 obtain⟨n1,g1⟩:=gC;obtain⟨n2,g2⟩:=lY;obtain⟨n3,g3⟩:=BN;obtain⟨n4,g4⟩:=lO;obtain⟨n5,g5⟩:=lS;constructor;intro σ F Δ E s K A S Fr L eb k b x xs D hR R y m hb P C;obtain⟨l1,ys,l2,M,i',p'⟩:=cu y.kn (cm.2 ⟨_,m,rfl⟩);have I:=y.ke _ m;have p:=y.row hb m bE;co_applyP ar 51 func160 ntmps160;co_applyP(zo);co_applyP bB rfl (bA (D.k _));intro xk L1 j;have l:=hR.fresh ⟨j.fn,j.sub⟩ j.new j.self;have n':At L1 K 15 (.map (some A.wt)):=l.kat rfl;have T:=l.w;rw[cJ] at T;have V:ys=b::xs:=by
  have Z:=dr y.kn m;have h2:=dr y.kn (S:=S) (k:=k) (xs:=ys) (by rw[M];simp);rw[<-h2,Z]
 subst V;obtain⟨Q,hQ,g',j'⟩:=mf l m;have a':=mg l.wl M i';rw[g'] at a';co_applyP(aO);co_applyP tr 4 rfl (aW (ht:=bV) (hs:=bw) (hm:=j.self) (hi:=cD _)) pI;co_applyP tr 5 rfl (qP (k:=k) eR underlying110 ji T) pI;co_applyP(ax);co_applyP aK;rw[a'];have hz:(((b::xs).length:Int)==0)=false:=ao
 co_applyP aM [] 9 mixed;co_applyP(av);rw[hz];co_applyP(av);co_applyP t0 8 rfl (aW (ht:=bV) (hs:=bw) (hm:=j.self) (hi:=cD _)) pN;co_applyP tc 9 rfl rfl rfl (g1 K A S _ L1 b x k D.k l hb (y.wf _ hb) I.1.2 (y.y8 _ I.1.2));rintro _ _ _ ⟨rfl,rfl,hE⟩;refine⟨aj bE, ?_⟩;rename_i L2;rw[P];co_applyP to 10 rfl (tT) (aj bE);co_applyP to 11 rfl (lA) (aj bE);have W:=l.ext hE;have l':=hE.at j';co_applyP(bZ);co_applyP oy rfl (aW (ht:=bV) (hs:=bw) (hm:=W.fr _ eT) (hi:=cD _));co_applyP oc rfl rfl rfl (g2 K A S _ L2 b x k D.r D.k W y.w hb);rintro _ _ _ ⟨rfl,rfl,A3,k',U⟩;co_applyP(au);rename_i L3;have z:(b,x)∈(S.IE b k).ps:=hb;co_applyP oy rfl (aW (ht:=bV) (hs:=bw) (hm:=U.fr _ eT) (hi:=cD _));co_applyP oc rfl rfl rfl (g3 K A3 _ _ L3 eb b x k D.k D.d U (R.mono λt o=>dc _ o) z (y.wf _ hb) C.1 p.a C.2);rintro _ _ _ ⟨rfl,r,rfl,c',b'⟩;co_applyP(av);rename_i L4;co_applyP oy rfl (dN (v:= .iface 180 (ptr r)) (c:=false) (hv:= .inr ⟨_,_,rfl,rfl⟩) (hu:=underlying168));co_applyP(au);co_applyP oc rfl rfl rfl (g5 K A3 _ _ L4 eb b x r 7 D.toNewE b' (R.mono λt o=>dc _ o) z c' bx bx);rintro _ _ _ ⟨rfl,rfl,O⟩;co_applyP(zo);change Kw ..;rename_i L5;obtain⟨N,d'⟩: ∃N,N=A3:=⟨_,rfl⟩;have G:Ke K N ((S.IE b k).carry b x k) ((xk,true,Obj.cells (KE k).cells 96)::Fr) L5:=by rw[d'];unfold St.carry;rw[if_neg C.1,if_neg (by rw[show (S.IE b k).IM (KH k)=S.IM (KH k) from rfl,C.2];simp)];exact O
 have u:(b,S.carried x k)∈((S.IE b k).carry b x k).ps:=by rw[cL];exact ai z
 have hd:Inv (S.IE b k):=y.IE;have ho:(S.IE b k).out b:=by have:=y.I3 hb;rw[p.f] at this;exact this
 have B:=Inv.carry hd (b:=b) (x:=x) (k:=k) z ho I.1.2 p.a P;have Y:(S.carried x k).st=x.st:=(b9 S x k).1;have q':At L5 b 2 (.int .i64 ((S.carried x k).st:Nat)):=G.pat u (i:=2) rfl;co_applyP bL (λh' X e'=>s=h'/\kn X []/\ ∃J,Ke K J (if x.st=1 then(S.IE b k).carry b x k else((S.IE b k).carry b x k).IV b (S.carried x k)) Fr e');co_applyP(aO);co_applyP aI rfl;intro hc;co_applyP(ax)
 ·have Z: ¬x.st=1:=by rw[Y] at hc;simp at hc;omega
  co_applyP oc rfl rfl rfl (g4 K N _ _ L5 b (S.carried x k) D.r G u (B.g.lv _ u) (B.g.r8 (B.g.lv _ u)) (λe he=>cU e.1 (B.g.lv _ u)));rintro _ _ _ ⟨rfl,rfl,J,_,H⟩;co_applyP(zo);change _=_/\kn _ _/\ ∃J,_;exact⟨rfl,rfl,J,by rw[if_neg Z];exact H.less λt o=>dc _ o⟩
 intro hc;co_applyP(zo);change _=_/\kn _ _/\ ∃J,_;have Z:x.st=1:=by rw[Y] at hc;simp at hc;omega
 exact⟨rfl,rfl,N,by rw[if_pos Z];exact G.less λt o=>dc _ o⟩;rintro _ m' L6 ⟨rfl,f',J,H⟩;co_applyP aA f';co_applyP(av);exact xI _ ⟨rfl,rfl,rfl,J,H⟩
theorem BT: ∃n,∀{B}{F:Kn B}{y:DM F}{i s}(K:Nat)(A:Kq)(S:St)(Fr L:Ka)(eb:Nat->Nat×Nat)(k:Nat×Nat),NewK (y s)->Ke K A S Fr L->KZ eb Fr->Inv S->
 Kb y prog i 160 [ptr K,KE k].toArray n s L (λs' v L'=>s=s'/\v= .bool (S.serve k).isSome/\ ∃R,Ke K R ((S.serve k).getD S) Fr L'):=by
 obtain⟨N,g0⟩:=BP;obtain⟨J,P⟩:=BQ;obtain⟨D,C⟩:=BR;obtain⟨H,G⟩:=BS;refine⟨N+(J+(D+H)),λ{B F y i s} K A S Fr L eb k l m z f=>aG (∀e∈S.wt,e.1≠k) (λh=> ?_) λh=> ?_⟩
 ·have e:S.serve k=none:=by unfold St.serve;rw[iE h]
  rw[e];exact aJ (g0 K A S Fr L k l.k m h) λs' v L' ⟨u,p,o⟩=>⟨u,p,A,o⟩
 ·have I:k∈S.wt.map (·.1):=by
   refine ti λM=>h λe he O=>M (cm.2 ⟨e,he,O⟩)
  obtain⟨⟨a,E⟩,d,rfl⟩:=cm.1 I;cases E with
  |nil=>exact absurd rfl (f.ne _ d)
  |cons b xs=>
   obtain⟨x,hb,_⟩:=f.rm _ d b bE;have r:=dr f.kn d;refine aG (S.IL x a=false) (λh=> ?_) λh=>aG (a.2=4\/S.IM (KH a)=true) (λj=> ?_) λj=> ?_
   ·have e:S.serve a=none:=by unfold St.serve;rw[r];simp only[aY f.g.pn hb,h];rfl
    rw[e];exact aJ (P K A S Fr L a b x xs l.k m f d hb h) λs' v L' ⟨u,p,o⟩=>⟨u,p,A,o⟩
   ·have hc:S.IL x a=true:=by simpa using h
    have e:S.serve a=some (if x.st=1 then(S.IE b a).carry b x a else((S.IE b a).carry b x a).IV b (S.carried x a)):=by unfold St.serve;rw[r];simp only[aY f.g.pn hb,hc];rfl
    rw[e];exact C K A S Fr L eb a b x xs l m z f d hb hc j
   ·have hc:S.IL x a=true:=by simpa using h
    have e:S.serve a=some (if x.st=1 then(S.IE b a).carry b x a else((S.IE b a).carry b x a).IV b (S.carried x a)):=by unfold St.serve;rw[r];simp only[aY f.g.pn hb,hc];rfl
    rw[e]
    exact G K A S Fr L eb a b x xs l m z f d hb hc ⟨λh=>j (.inl h),by cases Q:S.IM (KH a) with
     |false=>rfl
     |true=>exact absurd (.inr Q) j⟩
theorem mh {S S':St}{p m:Nat}(h:S.serve (p,5)=some S')(hm:S'.meas p<m): ∃a,S'.meas p<=a/\St.looks m S p=St.looks a S' p:=by
 cases m with
 |zero=>omega
 |succ m=>exact⟨m,bl,by simp only[St.looks,h]⟩
theorem mi {S S':St}{p m:Nat}(b:S.serve (p,5)=none)(h:S.serve (p,4)=some S')(hm:S'.meas p<m): ∃a,S'.meas p<=a/\St.looks m S p=St.looks a S' p:=by
 cases m with
 |zero=>omega
 |succ m=>exact⟨m,bl,by simp only[St.looks,b,h]⟩
theorem yW: ∃n,∀{O}{F:Kn O}{N:DM F}{i s}(K:Nat)(A:Kq)(S:St)(Fr L:Ka)(eb:Nat->Nat×Nat)(p:Nat),(∀s,NewK (N s))->Ke K A S Fr L->KZ eb Fr->Inv S->
 Kb N prog i 147 [ptr K, .int .i64 (p:Nat)].toArray n s L (λs' v L'=>s=s'/\v= .tuple #[]/\ ∃o,Ke K o (S.look p) Fr L'):=by
 obtain⟨Q,y⟩:=BT;constructor;intro O F N i s K A S Fr L eb p z P u M;co_applyP ar 14 func147 ntmps147;co_applyP(zo);co_applyP aU (λc s' r L'=>s'=s/\ ∃o e m,Ke K o e Fr L'/\Inv e/\e.meas p<=c/\e.meas p<=m/\St.looks m e p=S.look p/\kn r [(0,ptr K),(1, .int .i64 (p:Nat))]) 16
 ·exact⟨rfl,A,S,16,P,M,kW M p,kW M p,rfl,rfl⟩
 rintro c s' r L' ⟨rfl,o,e,m,j,a,hc,hm,k,he⟩;co_applyP aA he;co_applyP cr ((e.serve (p,5)).isSome=true);intro E
 ·obtain⟨C,b⟩:=Option.isSome_iff_exists.1 E;have D:=fU a (.inr rfl) b;co_applyP(av);co_applyP oy rfl (aQ (dG _ _));co_applyP oc rfl rfl rfl (y K o e Fr L' eb (p,5) (z _) j u a);rintro _ _ _ ⟨rfl,rfl,x,d⟩;co_applyP(zo);rw[b] at d⊢;co_applyP(aP);change∃k',k'<_/\_;obtain⟨I,l,H⟩:=mh b (show C.meas p<m by omega);exact⟨C.meas p,bl,rfl,x,C,I,d,a.serve b,cD _,l,by rw[<-H];exact k,rfl⟩
 intro E;have b:e.serve (p,5)=none:=by simpa using E
 co_applyP cr ((e.serve (p,4)).isSome=true);intro J
 ·obtain⟨G,f⟩:=Option.isSome_iff_exists.1 J;have D:=fU a (.inl rfl) f;co_applyP(av);co_applyP oy rfl (aQ (dG _ _));co_applyP oc rfl rfl rfl (y K o e Fr L' eb (p,5) (z _) j u a);rintro _ _ _ ⟨rfl,rfl,x,d⟩;co_applyP(zo);rw[b] at d⊢;co_applyP(ay);co_applyP oy rfl (aQ (dG _ _));co_applyP oc rfl rfl rfl (y K x e Fr _ eb (p,4) (z _) d u a);rintro _ _ _ ⟨rfl,rfl,B,g⟩;co_applyP(ay);change Kw ..;rw[f] at g⊢;co_applyP(av);change∃k',k'<_/\_;obtain⟨I,l,H⟩:=mi b f (show G.meas p<m by omega);exact⟨G.meas p,bl,rfl,B,G,I,g,a.serve f,cD _,l,by rw[<-H];exact k,rfl⟩
 intro J;have f:e.serve (p,4)=none:=by simpa using J
 co_applyP aK (n₂:=0);co_applyP(ax);co_applyP oy rfl (aQ (dG _ _));co_applyP oc rfl rfl rfl (y K o e Fr L' eb (p,5) (z _) j u a);rintro _ _ _ ⟨rfl,rfl,x,d⟩;co_applyP(zo);rw[b] at d⊢;co_applyP(ay);co_applyP oy rfl (aQ (dG _ _));co_applyP oc rfl rfl rfl (y K x e Fr _ eb (p,4) (z _) d u a);rintro _ _ _ ⟨rfl,rfl,B,g⟩;co_applyP(ay);change Kw ..;rw[f] at g⊢;co_applyP(ay);refine xI _ ⟨rfl,rfl,rfl,B, ?_⟩;rw[<-k,ma b f];exact g
theorem yX: ∃n,∀{J}{F:Kn J}{C:DM F}{d s}(K:Nat)(A:Kq)(S:St)(Fr L:Ka)(eb:Nat->Nat×Nat)(b:Nat)(x:PS)(j:Nat),(∀s,NewK (C s))->Ke K A S Fr L->KZ eb Fr->Inv S->(b,x)∈S.ps->S.out b->j<6->
 Kb C prog d 127 [ptr K,ptr b, .int .i64 (j:Nat)].toArray n s L (λs' v L'=>s=s'/\v= .tuple #[]/\ ∃U,Ke K U (S.shut b j) Fr L'):=by
 obtain⟨V,T⟩:=yW;constructor;intro J F C d s K A S Fr L eb b x j H I Q y hb M G;have R:=y.Jq (x':={x with f:=put x.f j (0,0)}) hb M rfl rfl ⟨(y.wf _ hb).r,(y.wf _ hb).m⟩ (iF (y.fl _ hb) (.inl rfl));have D:79+j*2=79+2*j:=bl
 co_applyP ar 23 func127 ntmps127;co_applyP(aC);co_applyP oy rfl (aW (ht:=bV) (hs:=bw) (hm:=I.p _ hb) (hi:=by rw[bq];omega));co_applyP bB rfl (eN (z:=KE (0,0)) ((H _).k _));intro O W a;co_applyP oeN rfl (λhnd=>fA (hs:=bw) (vs:=[.int .i64 (x.f j).1, .int .i64 (x.f j).2]) (hy:=by rw[D,sU x G];rfl) (hnd:=hnd) (hm:=a.self) (hi:=cD _));rintro _ N ⟨rfl,e⟩;co_applyP(av);have l:=I.fresh (L':=N) ⟨e.fn,λt i=>e.ne _ (a.sub _ i) (a.new _ i)⟩ a.new e.self;co_applyP oy rfl (aQ yJ);co_applyP(ax);co_applyP oeN rfl (λhnd=>fA (hs:=bw) (vs:=[.int .i64 (0:Nat), .int .i64 (0:Nat)]) (hnd:=hnd) (hm:=l.p _ hb) (hi:=by rw[bq];simp;omega));rintro _ E ⟨rfl,o⟩;rw[D,sV x G (0,0)] at o;have u:=l.ID hb (x':={x with f:=put x.f j (0,0)}) o;have h0:At E O 0 (.int .i64 ((x.f j).1:Nat)):=⟨true,_,_,_,u.fr _ eT,rfl⟩;co_applyP(au);co_applyP oc rfl rfl rfl (T K A _ _ E eb (x.f j).1 H u (Q.mono λt i=>dc _ i) R);rintro _ _ _ ⟨rfl,rfl,P,B⟩;co_applyP(zo);refine xI _ ⟨rfl,rfl,rfl,P, ?_⟩;unfold St.shut;rw[aY y.g.pn hb];exact B.less λt i=>dc _ i
def Lm (f:Nat->Nat×Nat):Value:= .agg #[.int .i64 (f 0).1, .int .i64 (f 0).2, .int .i64 (f 1).1, .int .i64 (f 1).2, .int .i64 (f 2).1, .int .i64 (f 2).2, .int .i64 (f 3).1, .int .i64 (f 3).2, .int .i64 (f 4).1, .int .i64 (f 4).2, .int .i64 (f 5).1, .int .i64 (f 5).2]
theorem iG (x:PS):Value.agg ((Kg x).extract 79 91)=Lm x.f:=by rfl
theorem DV (f:Nat->Nat×Nat){i:Nat}(hi:i<6):KF prog (Instr.index 97 (Lm f) (.int .i64 (i:Nat))) []=some (KE (f i),[]):=by
 have:i=0\/i=1\/i=2\/i=3\/i=4\/i=5:=bl
 rcases this with rfl|rfl|rfl|rfl|rfl|rfl
 ·show KF prog (Instr.index 97 (Lm f) (.int .i64 ((0:Nat):Int))) []=some (KE (f 0),[]);kernel_rfl
 ·show KF prog (Instr.index 97 (Lm f) (.int .i64 ((1:Nat):Int))) []=some (KE (f 1),[]);kernel_rfl
 ·show KF prog (Instr.index 97 (Lm f) (.int .i64 ((2:Nat):Int))) []=some (KE (f 2),[]);kernel_rfl
 ·show KF prog (Instr.index 97 (Lm f) (.int .i64 ((3:Nat):Int))) []=some (KE (f 3),[]);kernel_rfl
 ·show KF prog (Instr.index 97 (Lm f) (.int .i64 ((4:Nat):Int))) []=some (KE (f 4),[]);kernel_rfl
 ·show KF prog (Instr.index 97 (Lm f) (.int .i64 ((5:Nat):Int))) []=some (KE (f 5),[]);kernel_rfl
theorem yY {N:Nat}{b:Env}{L:Ka}{d:Option Tmp}{ty:TypeId}{ps:String}{af:Array Edge}{g:Option (Nat×Bool)}{x f:Operand}{t:TypeId}{w j v:Value}(hv:KF prog (Instr.index t w j) []=some (v,[]))(hx:ev b x=some w:=by rfl)(hy:ev b f=some j:=by rfl):EY prog N b L ⟨d, .index t x f,ty,ps,af,g⟩ v:=by
 unfold EY;intro a e
 refine cN (λ_=>rfl) λK i=> ?_;rw[e.ev hx,e.ev hy];exact aZ hv i
structure K0 (b:Nat)(x:PS)(S S':St):Prop where
 i:Inv S'
 f:S'.ps.map (·.1)=S.ps.map (·.1)
 o:S'.out b
 m: ∃f',(b,{x with f:=f'})∈S'.ps
theorem K0.step {b:Nat}{x:PS}{S S':St}(h:K0 b x S S')(n:Nat):K0 b x S (S'.shut b n):=by
 obtain⟨d,hm⟩:=h.m;have a:=h.i.shut hm h.o n;exact⟨a.i,by rw[a.f,aV];exact h.f,a.o b h.o,put d n (0,0),a.m b _ h.o (ai hm)⟩
theorem K0.all {b:Nat}{x:PS}{S:St}(f:Nat->Nat×Nat): ∀(a:List Nat){S':St},K0 b x S S'->K0 b x S (S'.I1 b f a)
 |[],_,h=>h
 |n::a,S',h=>by
  show K0 b x S ((if f n=(0,0) then S' else S'.shut b n).I1 b f a)
  split
  ·exact K0.all f a h
  ·exact K0.all f a (h.step n)
theorem vI: ∃n,∀{U}{F:Kn U}{Q:DM F}{j s}(K:Nat)(A:Kq)(S:St)(Fr L:Ka)(eb:Nat->Nat×Nat)(b:Nat)(x:PS),(∀s,NewK (Q s))->Ke K A S Fr L->KZ eb Fr->Inv S->(b,x)∈S.ps->S.out b->
 Kb Q prog j 108 [ptr K,ptr b].toArray n s L (λs' v L'=>s=s'/\v= .tuple #[]/\ ∃B,Ke K B (S.I1 b x.f (List.range' 0 6)) Fr L'):=by
 obtain⟨n1,g1⟩:=jm;obtain⟨n2,X⟩:=yX;constructor;intro U F Q j s K A S Fr L eb b x O T Z hI hb V;co_applyP ar 22 func108 ntmps108;co_applyP(av);co_applyP oy rfl (aW (ht:=xR) (hs:=xQ) (hm:=T.p _ hb) (hi:=by rw[bq];omega));co_applyP(ax);rw[show (0+79:Nat)=79 from rfl,show (79+12:Nat)=91 from rfl,iG];co_applyP aU (λc s' C L'=>s'=s/\ ∃B d i,i<=6/\c+i=6/\Ke K B d Fr L'/\K0 b x S d/\d.I1 b x.f (List.range' i (6-i))=S.I1 b x.f (List.range' 0 6)/\kn C [(0,ptr K),(1,ptr b),(9,Lm x.f),(10, .int .i64 (i:Nat))]) 6
 ·exact⟨rfl,A,S,0,bl,rfl,T,⟨hI,rfl,V,x.f,hb⟩,rfl,rfl⟩
 rintro c s' C L' ⟨rfl,B,d,i,I,hc,D,a,g,he⟩;co_applyP aA he;have R:IntKind.i64.wrap ((i:Int)+1)=((i+1:Nat):Int):=by simp[IntKind.wrap_i64];omega
 co_applyP(ax);co_applyP aK;co_applyP aI rfl;intro u
 ·have e:i<6:=by simp at u;omega
  have e6:List.range' i (6-i)=i::List.range' (i+1) (6-(i+1)):=by
   rw[show 6-i=(6-(i+1))+1 by omega,List.range'_succ]
  rw[e6] at g;co_applyP(au);co_applyP oy rfl (yY (DV x.f e));co_applyP bB rfl (eN (z:=KE (0,0)) ((O _).k _));intro nb L1 y;co_applyP(zo);co_applyP oeN rfl (λhnd=>fA (hs:=bw) (vs:=[.int .i64 (x.f i).1, .int .i64 (x.f i).2]) (hnd:=hnd) (hm:=y.self) (hi:=cD _));rintro _ W ⟨rfl,l⟩;co_applyP(ay);have J:=D.of l.fn (λt G=>l.ne _ (y.sub _ G) (y.new _ G));co_applyP oy rfl (aW (ht:=bV) (hs:=bw) (hm:=l.self) (hi:=cD _));co_applyP oc rfl rfl rfl (g1 W (x.f i) (O _).k);rintro _ _ _ ⟨rfl,rfl,P⟩;co_applyP(ay);change Kw ..;have E:=J.ext P;co_applyP aI rfl;intro M;co_applyP(av)
  ·have r: ¬x.f i=(0,0):=by simpa using M
   obtain⟨f',N⟩:=a.m;co_applyP oc rfl rfl rfl (X K B d Fr _ eb b _ i O E Z a.i N a.o e);rintro _ _ _ ⟨rfl,rfl,Y,H⟩;co_applyP(au);change∃k',k'<_/\_;refine⟨c-1,bl,rfl,Y,_,i+1,bl,bl,H,a.step i, ?_,by rw[<-R];rfl⟩;rw[<-g];show _=(if x.f i=(0,0) then d else d.shut b i).I1 b x.f _;rw[if_neg r]
  intro M;co_applyP(au);change∃k',k'<_/\_;have r:x.f i=(0,0):=by simpa using M
  refine⟨c-1,bl,rfl,B,d,i+1,bl,bl,E,a, ?_,by rw[<-R];rfl⟩;rw[<-g];show _=(if x.f i=(0,0) then d else d.shut b i).I1 b x.f _;rw[if_pos r]
 intro u;co_applyP(zo);change∃v,Ko .. =some v/\_;have e:i=6:=by simp at u;omega
 subst e;refine⟨_,rfl,rfl,rfl,B, ?_⟩;rw[<-g];exact D
end Go.Proofs.YtejkelcaljmnoaaGreatDoor
namespace Go.Lo
open Go.Conc Go.Hx
structure ML (W:World)(O:Nat)(w:World):Prop where
 t:w.tape=W.tape
 o:w.os=W.os
 u:w.output=W.output
 z:O<=w.heap.size
 b: ∀x,x<O->w.heap[x]? =W.heap[x]?
theorem fg {w:World}{b x:Nat}{o:Obj}(h:x≠b):(upd w b o).heap[x]? =w.heap[x]? :=by simp[upd,O7,ft h]
theorem upd_self {w:World}{b:Nat}{o:Obj}(h:b<w.heap.size):(upd w b o).heap[b]? =some o:=by simp[upd,h]
theorem dJ {w:World}{x:Nat}{o:Obj}(h:x≠w.heap.size):(more w o).heap[x]? =w.heap[x]? :=by
 show (w.heap.push o)[x]? =w.heap[x]?;rw[Array.getElem?_push,if_neg h]
theorem j1 {w:World}{o:Obj}:(more w o).heap[w.heap.size]? =some o:=by
 show (w.heap.push o)[w.heap.size]? =some o;simp
theorem ML.upd {W:World}{O:Nat}{w:World}(h:ML W O w){b:Nat}(hb:O<=b)(o:Obj):ML W O (upd w b o):=
 ⟨h.t,h.o,h.u,by simpa [Lo.upd] using h.z,λx a=>by rw[<-h.b x a];simp[Lo.upd,O7,show b≠x by omega]⟩
theorem ML.more {W:World}{O:Nat}{w:World}(h:ML W O w)(o:Obj):ML W O (more w o):=
 ⟨h.t,h.o,h.u,by have:=h.z;simp[Lo.more];omega,λx a=>by rw[<-h.b x a];have:=h.z;exact dJ bl⟩
theorem ML.drew {W:World}{O:Nat}{w:World}(h:ML W O w):ML W O (drew w):=⟨h.t,h.o,h.u,h.z,h.b⟩
theorem uj {o o':Obj}{ety:TypeId}(h:fits o o'=true):Mx ety o'=Mx ety o:=by
 cases o<;>cases o'<;>simp_all [fits,Mx,Lb]
theorem kx {L:Ka}{n b:Nat}{fl:Bool}{o o':Obj}(hn:L[n]? =some (b,fl,o)):(L.set n (b,fl,o')).map (·.1)=L.map (·.1):=by
 apply xt;intro i;simp only[sE,OK]
 split
 ·rename_i e;subst e;obtain⟨a,he⟩:=mo.1 hn;simp[a,he]
 ·rfl
theorem cI {L:Ka}{n b:Nat}{fl:Bool}{o o':Obj}(hd:(L.map (·.1)).Nodup)(hn:L[n]? =some (b,fl,o)){t:Nat×Bool×Obj}(ht:t∈L.set n (b,fl,o')):t=(b,fl,o')\/(t∈L/\t.1≠b):=by
 obtain⟨i,a⟩:=mx ht;rw[OK] at a
 split at a
 ·split at a
  ·left;simpa using a.symm
  ·cases a
 ·rename_i l;right;refine⟨l5 a,λe=>l ?_⟩;have m:(L.map (·.1))[i]? =some t.1:=by simp[a]
  have p:(L.map (·.1))[n]? =some b:=by simp[hn]
  obtain⟨k,d⟩:=mo.1 m;obtain⟨j,f⟩:=mo.1 p;rcases Nat.lt_trichotomy n i with g|g|g
  ·exact absurd (f.trans (e.symm.trans d.symm)) (Ow.1 hd n i j k g)
  ·exact g
  ·exact absurd (d.trans (e.trans f.symm)) (Ow.1 hd i n k j g)
theorem mj {m:Mark}(hm:MS m=true):(MemAct.ofEvent ⟨.mark m,false,true⟩).touch? =none/\m≠ .disable/\m≠ .enable:=by
 cases m with
 |noRoom=>exact⟨rfl,nofun,nofun⟩
 |extern f=>exact⟨rfl,nofun,nofun⟩
 |_=>cases hm
structure Lw (p:KC)(Sh:Loc->Prop)(E Dn:Nat)(W:World)(O:Nat)(L:Ka)(w:World):Prop where
 has: ∀t∈L,w.heap[t.1]? =some t.2.2
 ap: ∀t∈L,t.1≠E/\t.1≠Dn/\(∀l,blk l=some t.1-> ¬Sh l)/\(Mx p.ety t.2.2=true->t.1<p.N0)
 own: ∀t∈L,t.2.1=true->O<=t.1/\ ∀l,blk l=some t.1-> ¬p.Still l
 nd:(L.map (·.1)).Nodup
 sz:p.N0<=w.heap.size
 old:ML W O w
 sh:Mf p Sh
 hE:E<p.N0/\Dn<p.N0
 oo:O<=E/\O<=Dn/\O<=p.N0
section
variable {p:KC}{Sh:Loc->Prop}{E Dn:Nat}{W:World}{O:Nat}{L:Ka}{w w₁:World}
theorem Lw.JS (h:Lw p Sh E Dn W O L w){b:Nat}{fl:Bool}{o:Obj}(hm:(b,fl,o)∈L): ¬FA p w b:=by
 rintro⟨f,o',a,e⟩;have:=h.has _ hm;have d:=(h.ap _ hm).2.2.2;simp only at this d;rw[this] at a;cases a;exact absurd (d e) bl
theorem Lw.lt (h:Lw p Sh E Dn W O L w){b:Nat}{fl:Bool}{o:Obj}(hm:(b,fl,o)∈L):b<w.heap.size:=(ib.1 (h.has _ hm)).1
theorem Lw.rely (h:Lw p Sh E Dn W O L w)(r:RB p E Dn w w₁):Lw p Sh E Dn W O L w₁:=
 {h with
  has:=λt a=>(r.block t.1 (h.lt (fl:=t.2.1) (o:=t.2.2) a) (h.JS (fl:=t.2.1) (o:=t.2.2) a) (h.ap t a).1 (h.ap t a).2.1).trans (h.has t a)
  sz:=l6 h.sz r.kept.size
  old:=⟨r.tape.trans h.old.t,r.os.trans h.old.o,r.output.trans h.old.u,l6 h.old.z r.kept.size,λx d=>by
   have e:=h.oo;have g:=h.sz;exact(r.block x bl (λf=>by have:=f.1;omega) bl bl).trans (h.old.b x d)⟩}
theorem s3 {b:Nat}{o o':Obj}(hb:w.heap[b]? =some o)(hf:fits o o'=true)(x:Nat):FA p (upd w b o') x↔FA p w x:=by
 by_cases e:x=b
 ·subst e;have a:=(ib.1 hb).1;unfold FA;rw[upd_self a,hb];simp[uj (ety:=p.ety) hf]
 ·unfold FA;rw[fg e]
theorem uk {o:Obj}(ho:Mx p.ety o=false)(x:Nat):FA p (more w o) x↔FA p w x:=by
 by_cases e:x=w.heap.size
 ·subst e;unfold FA;rw[j1];simp[ho]
 ·unfold FA;rw[dJ e]
theorem Lw.set (h:Lw p Sh E Dn W O L w){n b:Nat}{o o':Obj}(hn:L[n]? =some (b,true,o))(hf:fits o o'=true):
 Lw p Sh E Dn W O (L.set n (b,true,o')) (upd w b o')/\(RA p w (upd w b o')/\(upd w b o').heap[E]? =w.heap[E]? /\(upd w b o').heap[Dn]? =w.heap[Dn]?)/\(∀i,EvB p Sh (upd w b o') ⟨.cell ⟨b,i,none⟩,true,false⟩)/\EvB p Sh (upd w b o') ⟨.obj b,true,false⟩:=by
 have hm:=l5 hn;have hb:w.heap[b]? =some o:=h.has _ hm;have a:=h.lt hm;obtain⟨B,z,r,C⟩:=h.ap _ hm;obtain⟨A,m⟩:=h.own _ hm rfl
 have H:Lw p Sh E Dn W O (L.set n (b,true,o')) (upd w b o'):=
  {h with
   has:=λt g=>by
    rcases cI h.nd hn g with rfl|⟨k,y⟩
    ·exact upd_self a
    ·rw[fg y];exact h.has t k
   ap:=λt g=>by
    rcases cI h.nd hn g with rfl|⟨k,y⟩
    ·exact⟨B,z,r,λe=>C (by rw[uj hf] at e;exact e)⟩
    ·exact h.ap t k
   own:=λt g u=>by
    rcases cI h.nd hn g with rfl|⟨k,y⟩
    ·exact⟨A,m⟩
    ·exact h.own t k u
   nd:=by rw[kx hn];exact h.nd
   sz:=by simpa [upd] using h.sz
   old:=h.old.upd A o'}
 have l: ¬FA p (upd w b o') b:=λf=>h.JS hm ((s3 hb hf b).1 f);refine⟨H,⟨⟨rfl,rfl,rfl,⟨by simp[upd],λx f=>(s3 hb hf x).2 f,λx _ F f=>F ((s3 hb hf x).1 f)⟩,λx f=>fg λe=>h.JS hm (e▸f),λx cs ty I D d=>(fg λe=> ?_).trans d⟩,fg (ft B),fg (ft z)⟩,λi=> ?_, ?_⟩
 ·obtain⟨j,G⟩:=D;exact m _ (by rw[<-e];rfl) G
 ·refine⟨λx d _=> ?_,bE,bE⟩;simp only[MemAct.ofEvent,MemAct.touch?,Option.some.injEq] at d;subst d;exact⟨⟨b,rfl,by simpa [upd] using a,l⟩,λs=>absurd s (r _ rfl),λs=>absurd s (m _ rfl)⟩
 ·refine⟨λx d _=> ?_,bE,bE⟩;simp only[MemAct.ofEvent,MemAct.touch?,Option.some.injEq] at d;subst d;exact⟨⟨b,rfl,by simpa [upd] using a,l⟩,λs=>absurd s (r _ rfl),λs=>absurd s (m _ rfl)⟩
theorem Lw.new (h:Lw p Sh E Dn W O L w){o:Obj}(ho:Mx p.ety o=false):
 (∀t∈L,t.1≠w.heap.size)/\Lw p Sh E Dn W O ((w.heap.size,true,o)::L) (more w o)/\(RA p w (more w o)/\(more w o).heap[E]? =w.heap[E]? /\(more w o).heap[Dn]? =w.heap[Dn]?):=by
 have b: ∀t∈L,t.1≠w.heap.size:=λt a=>OA (h.lt (fl:=t.2.1) (o:=t.2.2) a);have r:=h.sz;have n:=h.hE;have m:=h.oo
 refine⟨b,{h with
  has:=λt a=>by
   rcases gn.1 a with rfl|a
   ·exact j1
   ·rw[dJ (b t a)];exact h.has t a
  ap:=λt a=>by
   rcases gn.1 a with rfl|a
   ·exact⟨by show w.heap.size≠E;omega,by show w.heap.size≠Dn;omega,λl g s=>by have:=h.sh.low l _ s g;simp only at this;omega,λe=>by simp only[ho] at e;cases e⟩
   ·exact h.ap t a
  own:=λt a d=>by
   rcases gn.1 a with rfl|a
   ·exact⟨by show O<=w.heap.size;omega,λl g s=>by have:=h.sh.st l _ s g;simp only at this;omega⟩
   ·exact h.own t a d
  nd:=by
   simp only[ix,x8];exact⟨λhm=>by obtain⟨t,a,e⟩:=cm.1 hm;exact b t a e,h.nd⟩
  sz:=by simp[more];omega
  old:=h.old.more o},⟨⟨rfl,rfl,rfl,⟨by simp[more],λx f=>(uk ho x).2 f,λx _ k f=>k ((uk ho x).1 f)⟩,λx f=>dJ (OA f.lt),λx cs ty j _ i=>(dJ (OA (ib.1 i).1)).trans i⟩,dJ bl,dJ bl⟩⟩
theorem Lw.draw (h:Lw p Sh E Dn W O L w):Lw p Sh E Dn W O L (drew w):={h with old:=h.old.drew}
def Lx (p:KC)(Sh:Loc->Prop)(E Dn:Nat)(W:World)(O:Nat):Ma (RB p E Dn) (DT p Sh E Dn) where
 New o:=Mx p.ety o=false
 Own:=Lw p Sh E Dn W O
 Gu w w':=RA p w w'/\w'.heap[E]? =w.heap[E]? /\w'.heap[Dn]? =w.heap[Dn]?
 Ev:=EvB p Sh
 gr w:=⟨RA.refl p w,rfl,rfl⟩
 gt h k:=⟨RA.trans _ _ _ h.1 k.1,k.2.1.trans h.2.1,k.2.2.trans h.2.2⟩
 em h k:=⟨λx hx hm=>⟨(k.1 x hx hm).1.kept h.1.kept,(k.1 x hx hm).2⟩,k.2⟩
 dd h k:=⟨h.1,h.2.1,h.2.2,k⟩
 rely h r:=h.rely r
 has h hm:=h.has _ hm
 evc h hm i:=by
  refine⟨λx hx _=> ?_,by simp,by simp⟩;simp only[MemAct.ofEvent,MemAct.touch?,Option.some.injEq] at hx;subst hx;exact⟨⟨_,rfl,h.lt hm,h.JS hm⟩,λs=>absurd s ((h.ap _ hm).2.2.1 _ rfl),λ_=>rfl⟩
 evo h hm:=by
  refine⟨λx hx _=> ?_,by simp,by simp⟩;simp only[MemAct.ofEvent,MemAct.touch?,Option.some.injEq] at hx;subst hx;exact⟨⟨_,rfl,h.lt hm,h.JS hm⟩,λs=>absurd s ((h.ap _ hm).2.2.1 _ rfl),λ_=>rfl⟩
 set h hn hf:=h.set hn hf
 new h ho:=h.new ho
 draw h:=⟨h.draw,⟨RA.at p _ _,rfl,rfl⟩⟩
 nor w m hm:=by
  obtain⟨h1,h2,h3⟩:=mj hm;exact⟨λx hx=>(by rw[h1] at hx;cases hx),by simpa using h2,by simpa using h3⟩
 sub h hs hn:={h with has:=λt ht=>h.has t (hs t ht),ap:=λt ht=>h.ap t (hs t ht),own:=λt ht=>h.own t (hs t ht),nd:=hn}
 nd h:=h.nd
 ld w:=⟨RA.at p w (w.drawn+1),rfl,rfl,by simp⟩
end
structure Mi (Sh:Loc->Prop)(W:World)(O:Nat)(L:Ka)(w:World):Prop where
 has: ∀t∈L,w.heap[t.1]? =some t.2.2
 ap: ∀t∈L,∀l,blk l=some t.1-> ¬Sh l
 own: ∀t∈L,t.2.1=true->O<=t.1
 nd:(L.map (·.1)).Nodup
 low: ∀l b,Sh l->blk l=some b->b<w.heap.size
 old:ML W O w
section
variable {Sh:Loc->Prop}{W:World}{O:Nat}{L:Ka}{w w₁:World}
theorem Mi.lt (h:Mi Sh W O L w){b:Nat}{fl:Bool}{o:Obj}(hm:(b,fl,o)∈L):b<w.heap.size:=(ib.1 (h.has _ hm)).1
theorem o6 {e:Event}{b:Nat}(hl:blk e.loc=some b)(h: ∀l,blk l=some b-> ¬Sh l) (hs:e.sync=false):Nu Sh e:=by
 obtain⟨l,wr,d⟩:=e;obtain rfl:d=false:=hs;cases l<;>simp only[blk] at hl<;>try cases hl
 ·refine⟨λx a s=> ?_,bE,bE⟩;simp only[MemAct.ofEvent,MemAct.touch?,Option.some.injEq] at a;subst a;exact absurd s (h _ rfl)
 ·refine⟨λx a s=> ?_,bE,bE⟩;cases wr<;>(simp only[MemAct.ofEvent,MemAct.touch?,Option.some.injEq] at a;subst a;exact absurd s (h _ rfl))
theorem Mi.set (h:Mi Sh W O L w){n b:Nat}{o o':Obj}(hn:L[n]? =some (b,true,o)):Mi Sh W O (L.set n (b,true,o')) (upd w b o'):=by
 have hm:=l5 hn;have e:=h.lt hm
 exact{h with
  has:=λt a=>by
   rcases cI h.nd hn a with rfl|⟨d,f⟩
   ·exact upd_self e
   ·rw[fg f];exact h.has t d
  ap:=λt a=>by
   rcases cI h.nd hn a with rfl|⟨d,f⟩
   ·exact h.ap (b,true,o) hm
   ·exact h.ap t d
  own:=λt a g=>by
   rcases cI h.nd hn a with rfl|⟨d,f⟩
   ·exact h.own (b,true,o) hm rfl
   ·exact h.own t d g
  nd:=by rw[kx hn];exact h.nd
  low:=λl b s hb=>by simpa [upd] using h.low l b s hb
  old:=h.old.upd (h.own _ hm rfl) o'}
theorem Mi.new (h:Mi Sh W O L w){o:Obj}:(∀t∈L,t.1≠w.heap.size)/\Mi Sh W O ((w.heap.size,true,o)::L) (more w o):=by
 have d: ∀t∈L,t.1≠w.heap.size:=λt a=>OA (h.lt (fl:=t.2.1) (o:=t.2.2) a);have i:=h.old.z
 refine⟨d,{h with
  has:=λt a=>by
   rcases gn.1 a with rfl|a
   ·exact j1
   ·rw[dJ (d t a)];exact h.has t a
  ap:=λt a=>by
   rcases gn.1 a with rfl|a
   ·exactλl g s=>by have:=h.low l _ s g;simp only at this;omega
   ·exact h.ap t a
  own:=λt a f=>by
   rcases gn.1 a with rfl|a
   ·exact i
   ·exact h.own t a f
  nd:=by
   simp only[ix,x8];exact⟨λhm=>by obtain⟨t,a,e⟩:=cm.1 hm;exact d t a e,h.nd⟩
  low:=λl b s hb=>by have:=h.low l b s hb;simp[more];omega
  old:=h.old.more o}⟩
def Mq (Sh:Loc->Prop)(W:World)(O:Nat):Ma AtRel (D0 Sh) where
 New _:=True
 Own:=Mi Sh W O
 Gu _ _:=True
 Ev _ e:=Nu Sh e
 gr _:=trivial
 gt _ _:=trivial
 em _ k:=k
 dd _ k:=k
 rely h r:=by obtain⟨d,rfl⟩:=r;exact{h with old:=⟨h.old.t,h.old.o,h.old.u,h.old.z,h.old.b⟩}
 has h hm:=h.has _ hm
 evc h hm _:=o6 rfl (h.ap _ hm) rfl
 evo h hm:=o6 rfl (h.ap _ hm) rfl
 set h hn _:=⟨h.set hn,trivial,λ_=>o6 rfl (h.ap _ (List.mem_of_getElem? hn)) rfl,o6 rfl (h.ap _ (List.mem_of_getElem? hn)) rfl⟩
 new h _:=⟨(h.new (o:=default)).1,h.new.2,trivial⟩
 draw h:=⟨{h with old:=h.old.drew},trivial⟩
 nor _ m hm:=by
  obtain⟨h1,h2,h3⟩:=mj hm;exact⟨λx hx=>(by rw[h1] at hx;cases hx),by simpa using h2,by simpa using h3⟩
 sub h hs hn:={h with has:=λt ht=>h.has t (hs t ht),ap:=λt ht=>h.ap t (hs t ht),own:=λt ht=>h.own t (hs t ht),nd:=hn}
 nd h:=h.nd
 ld w:=by simp[Hx.D0]
end
section
variable {p:KC}{Sh:Loc->Prop}{E Dn:Nat}{W:World}{O:Nat}{L:Ka}{w w₁:World}
structure Nq (p:KC)(E Dn:Nat)(G:List (Nat×Obj))(L:Ka)(w:World):Prop where
 h: ∀t∈G,w.heap[t.1]? =some t.2
 l: ∀t∈G,∀u∈L,u.1≠t.1
 a: ∀t∈G,t.1≠E/\t.1≠Dn/\t.1<p.N0
theorem Nq.rely {G:List (Nat×Obj)}(h:Nq p E Dn G L w)(hz:p.N0<=w.heap.size)(r:RB p E Dn w w₁):Nq p E Dn G L w₁:=
 ⟨λt b=>(r.block t.1 (by have:=(h.a t b).2.2;omega) (λf=>by have:=f.1;have:=(h.a t b).2.2;omega) (h.a t b).1 (h.a t b).2.1).trans (h.h t b),h.l,h.a⟩
def LO (p:KC)(Sh:Loc->Prop)(E Dn:Nat)(W:World)(O:Nat)(G:List (Nat×Obj)):Ma (RB p E Dn) (DT p Sh E Dn) where
 New:=(Lx p Sh E Dn W O).New
 Own L w:=(Lx p Sh E Dn W O).Own L w/\Nq p E Dn G L w
 Gu:=(Lx p Sh E Dn W O).Gu
 Ev:=(Lx p Sh E Dn W O).Ev
 gr:=(Lx p Sh E Dn W O).gr
 gt:=(Lx p Sh E Dn W O).gt
 em:=(Lx p Sh E Dn W O).em
 dd:=(Lx p Sh E Dn W O).dd
 rely h r:=⟨(Lx p Sh E Dn W O).rely h.1 r,h.2.rely (show Lw p Sh E Dn W O _ _ from h.1).sz r⟩
 has h:=(Lx p Sh E Dn W O).has h.1
 evc h:=(Lx p Sh E Dn W O).evc h.1
 evo h:=(Lx p Sh E Dn W O).evo h.1
 set h hn hf:=by
  obtain⟨h1,h2,h3,h4⟩:=(Lx p Sh E Dn W O).set h.1 hn hf;refine⟨⟨h1,λt ht=> ?_,λt ht u hu=> ?_,h.2.a⟩,h2,h3,h4⟩
  ·rw[fg (Ne.symm (h.2.l t ht _ (List.mem_of_getElem? hn)))];exact h.2.h t ht
  ·rcases cI ((Lx p Sh E Dn W O).nd h.1) hn hu with rfl|⟨h5,_⟩
   ·have:=h.2.l t ht _ (List.mem_of_getElem? hn);exact this
   ·exact h.2.l t ht u h5
 new h ho:=by
  obtain⟨h1,h2,h3⟩:=(Lx p Sh E Dn W O).new h.1 ho;have hz:=(show Lw p Sh E Dn W O _ _ from h.1).sz;refine⟨h1,⟨h2,λt ht=> ?_,λt ht u hu=> ?_,h.2.a⟩,h3⟩
  ·rw[dJ (by have:=(h.2.a t ht).2.2;omega)];exact h.2.h t ht
  ·rcases List.mem_cons.1 hu with rfl|hu
   ·have:=(h.2.a t ht).2.2;simp only;omega
   ·exact h.2.l t ht u hu
 draw h:=by
  obtain⟨h1,h2⟩:=(Lx p Sh E Dn W O).draw h.1;exact⟨⟨h1,h.2.h,h.2.l,h.2.a⟩,h2⟩
 nor:=(Lx p Sh E Dn W O).nor
 sub h hs hn:=⟨(Lx p Sh E Dn W O).sub h.1 hs hn,h.2.h,λt ht u hu=>h.2.l t ht u (hs u hu),h.2.a⟩
 nd h:=(Lx p Sh E Dn W O).nd h.1
 ld:=(Lx p Sh E Dn W O).ld
end
section
variable {P:Program}{p:KC}{Sh:Loc->Prop}{E Dn:Nat}{PostB:World->Prop}{Aft:Goroutine->World->Prop}{W:World}{O:Nat}{G:List (Nat×Obj)}{fn:FuncId}{N:Nat}{Q:List Value->Exit->Env->Ka->Prop}{ε:Env}{L:Ka}
abbrev Kx (P:Program)(p:KC)(Sh:Loc->Prop)(E Dn:Nat)(PostB:World->Prop)(Aft:Goroutine->World->Prop)(W:World)(O:Nat)(G:List (Nat×Obj)): ∀s,Ma ((M9 P p Sh E Dn PostB Aft).R s) ((M9 P p Sh E Dn PostB Aft).D s):=λ_=>LO p Sh E Dn W O G
theorem ES {ops:Array Oper}{i:Nat}{rest:List Nat}{d:Option Tmp}{x y:Operand}{o:TypeId}{ps:String}{af:Array Edge}{g:Option (Nat×Bool)}{n:Nat}{v:Value}{vs:List Value}(ho:ops[i]? =some ⟨d, .send x y,o,ps,af,g⟩)
 (hx:ev ε x=some (.chan (some E)):=by rfl) (hy:ev ε y=some v:=by rfl) (hw:Kr ops N ε g=some true:=by rfl) (hd:KG N d=true:=by rfl)
 (h:KO (Kx P p Sh E Dn PostB Aft W O G) P false fn N ops rest n vs Q (KY d undef ε) L):
 KO (Kx P p Sh E Dn PostB Aft W O G) P false fn N ops (i::rest) 0 (v::vs) Q ε L:=by
 intro a j w m;refine u5 (z':= .tuple #[]) ho (j.wanted hw) (λl k=>⟨?_, ?_⟩) λf b=>h _ (j.put hd undef) f ((LO p Sh E Dn W O G).rely m b)
 ·simp only[execOp,j.ev hx,j.ev hy];rfl
 ·intro e he;have hm:=mem_listed he;simp[execOp,go_sem] at hm
end
end Go.Lo
namespace Go.Proofs.YtejkelcaljmnoaaGreatDoor
open Go.Conc Go.Hx Go.Lo Tryz
attribute [local irreducible] EY KO K6 Kw Kc Ku Kd Program.underlying
def LK (now kind id x:Int):Value:= .agg #[.int .i64 now, .int .i64 kind, .int .i64 id, .int .i64 x]
theorem DW (a b c d:Int):KF prog (Instr.build 51 [(0, .int .i64 a),(1, .int .i64 b),(2, .int .i64 c),(3, .int .i64 d)].toArray) []=some (LK a b c d,[]):=bD
section
variable {p:KC}{Sh:Loc->Prop}{E Dn:Nat}{PostB:World->Prop}{Aft:Goroutine->World->Prop}{W:World}{O:Nat}{G0:List (Nat×Obj)}
theorem o8: ∃n,∀{p:KC}{Sh:Loc->Prop}{E Dn:Nat}{PostB:World->Prop}{Aft:Goroutine->World->Prop}{W:World}{O:Nat}{G0:List (Nat×Obj)}{vs:List Value}(K:Nat)(A:Kq)(S:St)(Fr L:Ka)(b id a:Int),Ke K A S Fr L->
 Kb (Kx prog p Sh E Dn PostB Aft W O G0) prog false 83 [ptr K, .chan (some E), .int .i64 b, .int .i64 id, .int .i64 a].toArray n (LK S.now b id a::vs) L (λs' v L'=>vs=s'/\L=L'/\v= .tuple #[]):=by
 constructor;intro p Sh E Dn PostB Aft W O G0 vs K A S Fr L b id a d;have e:At L K 16 (.int .i64 (S.now:Nat)):=d.kat rfl;co_applyP ar 19 func83 ntmps83;co_applyP(bm);co_applyP oy rfl (aQ (DW _ _ _ _));co_applyP ES rfl;co_applyP(zo);exact xI _ ⟨rfl,rfl,rfl,rfl⟩
end
def St.IT (S:St)(b:Nat)(x:PS)(s:Nat):St:=(S.ID b {x with st:=s}).setRow x.lv ((S.rows x.lv).erase b)
section
variable {S S':St}{b:Nat}{x x':PS}{k:Nat×Nat}
theorem bK {c:Nat}{y:PS}(h:(c,y)∈S.ps)(a:c≠b):(c,y)∈(S.ID b x').ps:=by
 simp only[St.ID,cm];exact⟨(c,y),h,by rw[if_neg a]⟩
theorem Good.IT (h:Good S)(hb:(b,x)∈S.ps){s:Nat}(hs:s≠1):Good (S.IT b x s):=by
 have f:=h.lv _ hb;have a: ∀l,(S.IT b x s).rows l=if l=x.lv then(S.rows x.lv).erase b else S.rows l:=λl=>rfl;refine⟨by unfold St.IT St.setRow;rw[aV];exact h.pn,by unfold St.IT St.setRow;rw[fC];exact h.p8,λq n=> ?_,λl i=> ?_,λl i c hc=> ?_,λq n d=> ?_⟩
 ·rcases aN n with rfl|⟨d,_⟩
  ·exact f
  ·exact h.lv q d
 ·rw[a]
  split
  ·exact(h.rn _ f).sublist List.erase_sublist
  ·exact h.rn l i
 ·rw[a] at hc;have old:c≠b->c∈S.rows l-> ∃y,(c,y)∈(S.IT b x s).ps/\y.lv=l/\y.st=1:=λm k=>by
   obtain⟨y,g,d,j⟩:=h.rm l i c k;exact⟨y,bK g m,d,j⟩
  split at hc
  ·rename_i e;subst e;refine old (λe=> ?_) (List.mem_of_mem_erase hc);rw[e] at hc;exact(List.Nodup.not_mem_erase (h.rn _ f)) hc
  ·rename_i e;refine old (λo=> ?_) hc;obtain⟨y,g,d,j⟩:=h.rm l i c hc;rw[o] at g;rw[aS h.pn hb g] at e;exact e d.symm
 ·rw[a];rcases aN n with rfl|⟨j,p⟩
  ·exact absurd d hs
  ·have:=h.rr q j d
   split
   ·rename_i e;rw[e] at this;exact(List.mem_erase_of_ne p).2 this
   ·exact this
theorem Inv.IT (h:Inv S)(hb:(b,x)∈S.ps)(ho:S.out b){s:Nat}(hs:s≠1):Inv (S.IT b x s) where
 g:=h.g.IT hb hs
 wf:=λq a=>by
  rcases aN a with rfl|⟨d,_⟩
  ·exact⟨(h.wf _ hb).r,(h.wf _ hb).m⟩
  ·exact h.wf q d
 fl:=λq a=>by
  rcases aN a with rfl|⟨d,_⟩
  ·exact h.fl (b,x) hb
  ·exact h.fl q d
 y8:=h.y8
 yb:=h.yb
 kn:=h.kn
 ne:=h.ne
 nd:=h.nd
 ke:=h.ke
 rm:=λe he c hc=>by
  obtain⟨y,f,i⟩:=h.rm e he c hc;exact⟨y,bK f (by rintro rfl;exact ho e he hc),i⟩
theorem Inv.alike (h:Inv S)(hb:(b,x)∈S.ps)(hs:x'.st=x.st)(hl:x'.lv=x.lv)(hr:x'.r=x.r)(hf:x'.f=x.f)(hm:x'.m=x.m):Inv (S.ID b x') where
 g:=h.g.Jq hb hs hl
 wf:=λq j=>by
  rcases aN j with rfl|⟨k,_⟩
  ·exact⟨by rw[hr];exact(h.wf _ hb).r,by rw[hm];exact(h.wf _ hb).m⟩
  ·exact h.wf q k
 fl:=λq j=>by
  rcases aN j with rfl|⟨k,_⟩
  ·rw[hf];exact h.fl (b,x) hb
  ·exact h.fl q k
 y8:=h.y8
 yb:=h.yb
 kn:=h.kn
 ne:=h.ne
 nd:=h.nd
 ke:=h.ke
 rm:=λe he c hc=>by
  obtain⟨y,l,d⟩:=h.rm e he c hc;by_cases i:c=b
  ·subst i;obtain rfl:=aS h.g.pn hb l;refine⟨x',ai hb, ?_,by rw[hr];exact d.a,by rw[hr];exact d.w,by rw[hs];exact d.s⟩;have:=d.f;unfold PS.file at*;rw[hr,hf];exact this
  ·exact⟨y,bK l i,d⟩
theorem Inv.IH (id:Nat): ∀(bs:List Nat){S:St},Inv S->Inv (S.IH id bs)/\(S.IH id bs).ps.map (·.1)=S.ps.map (·.1)
 |[],S,h=>⟨h,rfl⟩
 |b::bs,S,h=>by
  unfold St.IH;cases a:S.get b with
  |none=>exact Inv.IH id bs h
  |some y=>
   simp only
   split
   ·have hb:=ba a;have:=Inv.IH id bs (h.alike (x':={y with par:=1}) hb rfl rfl rfl rfl rfl);exact⟨this.1,by rw[this.2,aV]⟩
   ·exact Inv.IH id bs h
theorem Inv.erase (h:Inv S){i c:Nat}{y:PS}(hi:S.ps[i]? =some (c,y))(hy:y.st=6){ls:Nat}:Inv {S.IP (S.ps.eraseIdx i) with last:=ls} where
 g:=h.g.erase hi bl
 wf:=λq b=>h.wf q (tD b)
 fl:=λq b=>h.fl q (tD b)
 y8:=h.y8
 yb:=h.yb
 kn:=h.kn
 ne:=h.ne
 nd:=h.nd
 ke:=h.ke
 rm:=λe he k hc=>by
  obtain⟨z,o,f⟩:=h.rm e he k hc;refine⟨z, ?_,f⟩;show (k,z)∈S.ps.eraseIdx i;obtain⟨j,d⟩:=mx o;have a:j≠i:=λm=>by
   subst m;rw[d] at hi;simp at hi;have n:=f.s;rw[hi.2] at n;rcases(h.ke e he).2 with l|l<;>omega
  rw[G2];exact⟨j,a,d⟩
theorem BU (h:WF x)(y:PS):WF (told x y):=⟨λi a=>by
 show 0<=put (put x.r 0 ((y.id:Int)%65536)) 1 (y.stat%65536) i/\put (put x.r 0 ((y.id:Int)%65536)) 1 (y.stat%65536) i<65536;unfold put;have:=h.r i a
 split
 ·omega
 ·split
  ·omega
  ·exact this,h.m⟩
end
def St.fin (S:St)(b:Nat)(x:PS)(status:Int):St:=
 let S2:=((S.IE b (x.file (x.r 0))).IT b x 6).ID b {x with st:=6,stat:=status}
 let S3:=S2.I1 b x.f (List.range' 0 6)
 let S4:=S3.IH x.id (S3.ps.map (·.1))
 S4.parents (S4.ps.map (·.1))
theorem yZ: ∃n,∀{p:KC}{Sh:Loc->Prop}{E Dn:Nat}{PostB:World->Prop}{Aft:Goroutine->World->Prop}{W:World}{O:Nat}{G0:List (Nat×Obj)}{vs:List Value}(K:Nat)(A:Kq)(S:St)(Fr L:Ka)(eb:Nat->Nat×Nat)(b:Nat)(x:PS)(status:Int),(∀s,NewK (Kx prog p Sh E Dn PostB Aft W O G0 s))->Ke K A S Fr L->KZ eb Fr->Inv S->(b,x)∈S.ps->
 Kb (Kx prog p Sh E Dn PostB Aft W O G0) prog false 94 [ptr K,ptr b, .int .i64 status, .chan (some E)].toArray n (LK S.now 4 x.id status::vs) L (λs' v L'=>vs=s'/\v= .tuple #[]/\ ∃A' G,(∀q∈S.ps,(∃z,(q.1,z)∈(S.fin b x status).ps)\/ ∃z,pb q.1 z∈G/\z.st=6)/\Ke K A' (S.fin b x status) (G++Fr) L'):=by
 obtain⟨n1,g1⟩:=lT;obtain⟨n2,g2⟩:=lY;obtain⟨n3,g3⟩:=lP;obtain⟨n4,g4⟩:=o8;obtain⟨n5,g5⟩:=vI;obtain⟨n6,g6⟩:=yQ;obtain⟨n7,g7⟩:=kJ;constructor;intro p Sh E Dn PostB Aft W O G0 vs K A S Fr L eb b x status F I hE H hb;have i':At L b 7 (.int .u16 (x.r 0)):=I.pat hb (bu x (i:=0) bl);have M:=H.I3 hb;have u:Inv (S.IE b (x.file (x.r 0))):=H.IE;have y:(b,x)∈(S.IE b (x.file (x.r 0))).ps:=hb;have j:=H.g.lv _ hb;have b':=u.IT y M (s:=6) bx;have d:(b,{x with st:=6})∈((S.IE b (x.file (x.r 0))).IT b x 6).ps:=ai y;have B:=b'.alike (x':={x with st:=6,stat:=status}) d rfl rfl rfl rfl rfl;have o:(b,{x with st:=6,stat:=status})∈(((S.IE b (x.file (x.r 0))).IT b x 6).ID b {x with st:=6,stat:=status}).ps:=ai d;have Q:=K0.all (b:=b) (x:={x with st:=6,stat:=status}) x.f (List.range' 0 6) ⟨B,rfl,M,x.f,o⟩;obtain⟨f',T⟩:=Q.m;have h5:=Inv.IH x.id ((St.I1 (((S.IE b (x.file (x.r 0))).IT b x 6).ID b {x with st:=6,stat:=status}) b x.f (List.range' 0 6)).ps.map (·.1)) Q.i;have a:(St.IH (St.I1 (((S.IE b (x.file (x.r 0))).IT b x 6).ID b {x with st:=6,stat:=status}) b x.f (List.range' 0 6)) x.id ((St.I1 (((S.IE b (x.file (x.r 0))).IT b x 6).ID b {x with st:=6,stat:=status}) b x.f (List.range' 0 6)).ps.map (·.1))).ps.map (·.1)=S.ps.map (·.1):=by
  rw[h5.2,Q.f,aV];show ((S.IE b (x.file (x.r 0))).ID b _).ps.map (·.1)=_;rw[aV];rfl
 have X:(St.IH (St.I1 (((S.IE b (x.file (x.r 0))).IT b x 6).ID b {x with st:=6,stat:=status}) b x.f (List.range' 0 6)) x.id ((St.I1 (((S.IE b (x.file (x.r 0))).IT b x 6).ID b {x with st:=6,stat:=status}) b x.f (List.range' 0 6)).ps.map (·.1))).ps≠[]:=by
  intro e;rw[e] at a;have:b∈S.ps.map (·.1):=cm.2 ⟨(b,x),hb,rfl⟩;rw[<-a] at this;simp at this
 co_applyP ar 44 func94 ntmps94;co_applyP(aP);co_applyP ocm rfl rfl rfl (g1 K A S Fr L b x (x.r 0) (F _).k I hb ((H.wf _ hb).r 0 bl));rintro _ _ _ ⟨rfl,rfl,V,a'⟩;rename_i L1;have J:=I.of V a';co_applyP oc rfl rfl rfl (g2 K A S Fr L1 b x (x.file (x.r 0)) (F _).r (F _).k J H.w hb);rintro _ _ _ ⟨rfl,rfl,A2,j',U⟩;co_applyP(av);rename_i L2;co_applyP oc rfl rfl rfl (g3 K A2 _ Fr L2 b x 6 U y j (u.g.r8 j) (u.g.ex j) (λe he=>cU e.1 j));rintro _ _ _ ⟨rfl,rfl,A3,g',C⟩;co_applyP(aR);rename_i L3;have e':=d;co_applyP osm rfl (hs:=bJ) (hm:=C.p _ d) (hi:=by first|decide|(rw[bq];omega)|(rw[bP];omega));intro N R;have l:=C.ID (x':={x with st:=6,stat:=status}) d R;have h':At N b 0 (.int .i64 (x.id:Nat)):=l.pat o (i:=0) rfl;co_applyP(aP);co_applyP oc rfl rfl rfl (g4 K A3 _ Fr N 4 x.id status l);rintro _ _ _ ⟨rfl,rfl,rfl⟩;co_applyP(av);co_applyP oc rfl rfl rfl (g5 K A3 _ Fr N eb b _ F l hE B o M);rintro _ _ _ ⟨rfl,rfl,A5,P⟩;co_applyP(av);rename_i L5;co_applyP oc rfl rfl rfl (g6 K A5 _ Fr L5 b _ P T);rintro _ _ _ ⟨rfl,rfl,d',Y⟩;co_applyP(ax);rename_i L6;co_applyP oc rfl rfl rfl (g7 K A5 _ Fr L6 (F _).r Y h5.1.g X);rintro _ _ _ ⟨rfl,rfl,hG,A7,G,D,Z⟩;co_applyP(zo);refine xI _ ⟨rfl,rfl,rfl,A7,G,λq hq=> ?_,Z⟩;have hm:q.1∈S.ps.map (·.1):=cm.2 ⟨q,hq,rfl⟩;rw[<-a] at hm;obtain⟨q',c',e⟩:=cm.1 hm;have:=D q' c';rw[e] at this;exact this
def PS.r0 (x:PS)(v:Int):PS:={x with r:=put x.r 0 v}
theorem eG (x:PS)(v:Int):(Kg x).setIfInBounds (7+0) (.int .u16 v)=Kg (x.r0 v):=dR x bl v
theorem y6 (x:PS)(v:Int):(Kg x).setIfInBounds 91 (.int .i64 v)=Kg {x with til:=v}:=by rfl
def St.I7 (S:St)(b:Nat)(x:PS):St:=if x.r 0=0 then S.ID b (x.r0 0) else(S.ID b {x.r0 0 with til:=(S.now:Int)+x.r 0}).IT b {x.r0 0 with til:=(S.now:Int)+x.r 0} 3
def St.Jo (S:St)(b:Nat)(x:PS):St:=
 let S2:=(S.ID b (x.r0 0)).setRow x.lv ((S.rows x.lv).erase b)
 S2.setRow x.lv (S2.rows x.lv++[b])
theorem BV: ∃n,∀{m}{F:Kn m}{l:DM F}{a s}(K:Nat)(A:Kq)(S:St)(Fr L:Ka)(b:Nat)(x:PS),Ke K A S Fr L->Inv S->(b,x)∈S.ps->S.now<4611686018427387904->x.r 0=0->
 Kb l prog a 134 [ptr K,ptr b].toArray n s L (λs' v L'=>s=s'/\v= .tuple #[]/\ ∃G,Ke K G (S.I7 b x) Fr L'):=by
 obtain⟨H,I⟩:=lP;constructor;intro m F l a s K A S Fr L b x f k hb j h0;have u:=k.g.lv _ hb;have o:0<=x.r 0/\x.r 0<65536:=(k.wf _ hb).r 0 bl;have B:IntKind.i64.wrap (x.r 0)=x.r 0:=ag
 have w1:IntKind.i64.wrap ((S.now:Int)+x.r 0)=(S.now:Int)+x.r 0:=ag
 have C:At L b 7 (.int .u16 (x.r 0)):=f.pat hb (bu x (i:=0) bl);co_applyP ar 31 func134 ntmps134;co_applyP(aH);co_applyP(zo);simp only[B];co_applyP osm rfl (hs:=bh) (hm:=f.p _ hb) (hi:=by first|decide|(rw[bq];omega)|(rw[bP];omega));intro E e;have d:=f.ID (x':=x.r0 0) hb (by rw[<-eG];exact e);have D:(b,x.r0 0)∈(S.ID b (x.r0 0)).ps:=ai hb;have y:At E K 16 (.int .i64 (S.now:Nat)):=d.kat rfl;have z:(x.r 0==0)=true:=by simp[h0]
 co_applyP(zo);co_applyP aK (n₂:=0);co_applyP(av);change Kw ..;rw[z];co_applyP(ay);exact xI _ ⟨rfl,rfl,rfl,A,by unfold St.I7;rw[if_pos h0];exact d⟩
theorem BW: ∃n,∀{C}{F:Kn C}{B:DM F}{d s}(K:Nat)(A:Kq)(S:St)(Fr L:Ka)(b:Nat)(x:PS),Ke K A S Fr L->Inv S->(b,x)∈S.ps->S.now<4611686018427387904->x.r 0≠0->
 Kb B prog d 134 [ptr K,ptr b].toArray n s L (λs' v L'=>s=s'/\v= .tuple #[]/\ ∃Q,Ke K Q (S.I7 b x) Fr L'):=by
 obtain⟨R,O⟩:=lP;constructor;intro C F B d s K A S Fr L b x y l hb z h0;have a:=l.g.lv _ hb;have D:0<=x.r 0/\x.r 0<65536:=(l.wf _ hb).r 0 bl;have M:IntKind.i64.wrap (x.r 0)=x.r 0:=ag
 have w1:IntKind.i64.wrap ((S.now:Int)+x.r 0)=(S.now:Int)+x.r 0:=ag
 have N:At L b 7 (.int .u16 (x.r 0)):=y.pat hb (bu x (i:=0) bl);co_applyP ar 31 func134 ntmps134;co_applyP(aH);co_applyP(zo);simp only[M];co_applyP osm rfl (hs:=bh) (hm:=y.p _ hb) (hi:=by first|decide|(rw[bq];omega)|(rw[bP];omega));intro P o;have f:=y.ID (x':=x.r0 0) hb (by rw[<-eG];exact o);have k:(b,x.r0 0)∈(S.ID b (x.r0 0)).ps:=ai hb;have H:At P K 16 (.int .i64 (S.now:Nat)):=f.kat rfl;have J:(x.r 0==0)=false:=by simp[h0]
 co_applyP(aC);change Kw ..;rw[J];co_applyP(bZ);simp only[w1];co_applyP osm rfl (hs:=bJ) (hm:=f.p _ k) (hi:=by first|decide|(rw[bq];omega)|(rw[bP];omega));intro E m;have j:=f.ID (x':={x.r0 0 with til:=(S.now:Int)+x.r 0}) k (by rw[<-y6];exact m);rw[bd] at j;co_applyP(av);co_applyP oc rfl rfl rfl (O K A _ Fr E b _ 3 j (ai hb) a (l.g.r8 a) (λc hc=>ku (l.g.ex a c hc)) (λe he=>cU e.1 a));rintro _ _ _ ⟨rfl,rfl,G,I,u⟩;co_applyP(zo);exact xI _ ⟨rfl,rfl,rfl,G,by unfold St.I7;rw[if_neg h0];exact u⟩
theorem BX: ∃n,∀{i}{F:Kn i}{g:DM F}{d s}(K:Nat)(A:Kq)(S:St)(Fr L:Ka)(b:Nat)(x:PS),Ke K A S Fr L->Inv S->(b,x)∈S.ps->S.now<4611686018427387904->
 Kb g prog d 134 [ptr K,ptr b].toArray n s L (λs' v L'=>s=s'/\v= .tuple #[]/\ ∃m,Ke K m (S.I7 b x) Fr L'):=by
 obtain⟨k,g0⟩:=BV;obtain⟨j,l⟩:=BW;exact⟨k+j,λ{i F g d s} K A S Fr L b x e f hb a=>aG (x.r 0=0) (λh=>g0 K A S Fr L b x e f hb a h) λh=>l K A S Fr L b x e f hb a h⟩
theorem BY: ∃n,∀{u}{F:Kn u}{o:DM F}{d s}(K:Nat)(A:Kq)(S:St)(Fr L:Ka)(b:Nat)(x:PS),(∀cs,(o s).New (.cells cs 93))->Ke K A S Fr L->Inv S->(b,x)∈S.ps->
 Kb o prog d 135 [ptr K,ptr b].toArray n s L (λs' v L'=>s=s'/\v= .tuple #[]/\ ∃M,Ke K M (S.Jo b x) Fr L'):=by
 obtain⟨O,G⟩:=oS;obtain⟨N,C⟩:=sQ;constructor;intro u F o d s K A S Fr L b x H r i hb;have a:=i.g.lv _ hb;co_applyP ar 19 func135 ntmps135;co_applyP(aC);co_applyP osm rfl (hs:=bh) (hm:=r.p _ hb) (hi:=by first|decide|(rw[bq];omega)|(rw[bP];omega));intro J k;have m:=r.ID (x':=x.r0 0) hb (by rw[<-eG];exact k);have f:(b,x.r0 0)∈(S.ID b (x.r0 0)).ps:=ai hb;co_applyP(aC);co_applyP oc rfl rfl rfl (G K A _ Fr J b _ m f a (i.g.r8 a) (λc hc=>ku (i.g.ex a c hc)) (λe he=>cU e.1 a));rintro _ _ _ ⟨rfl,rfl,D,I,j⟩;co_applyP(aC);rename_i y;have E:(((S.ID b (x.r0 0)).setRow x.lv ((S.rows x.lv).erase b)).rows x.lv).length<=8:=by
  have e:((S.ID b (x.r0 0)).setRow x.lv ((S.rows x.lv).erase b)).rows x.lv=(S.rows x.lv).erase b:=by simp[St.setRow,put]
  rw[e];exact l6 List.length_erase_le (i.g.r8 a)
 co_applyP oc rfl rfl rfl (C K D _ Fr y b (x.r0 0) H j f a E (λe he=>cU e.1 a));rintro _ _ _ ⟨rfl,rfl,z,B,l⟩;co_applyP(zo);exact xI _ ⟨rfl,rfl,rfl,z,l⟩
theorem y7: ∃n,∀{e}{F:Kn e}{d:DM F}{a s}(L:Ka)(K b:Nat)(ch:Value),
 Kb d prog a 84 [ptr K,ptr b, .nilIface,ch].toArray n s L (λs' v L'=>s=s'/\L=L'/\v= .tuple #[]):=by
 constructor;intro e F d a s L K b ch;co_applyP ar 20 func84 ntmps84;co_applyP(ay);co_applyP oy rfl (dN (v:= .nilIface) (c:=true) (hv:= .inl ⟨rfl,rfl⟩) (hu:=underlying168));co_applyP(bm);exact xI _ ⟨rfl,rfl,rfl,rfl⟩
theorem y9: ∃n,∀{g}{F:Kn g}{f:DM F}{a s}(K:Nat)(A:Kq)(S:St)(Fr L:Ka)(eb:Nat->Nat×Nat)(b:Nat)(x:PS)(r i:Nat)(ch:Value),NewK (f s)->Ke K A S Fr L->KZ eb Fr->(b,x)∈S.ps->At L r 1 (LZ eb i)->i<11->i≠2->
 Kb f prog a 84 [ptr K,ptr b, .iface 180 (ptr r),ch].toArray n s L (λs' v L'=>s=s'/\v= .tuple #[]/\Ke K A (S.ID b (x.r0 (KB i))) Fr L'):=by
 obtain⟨u,m⟩:=lS;constructor;intro g F f a s K A S Fr L eb b x r i ch o p k hb l j d;co_applyP ar 20 func84 ntmps84;co_applyP(ay);co_applyP oy rfl (dN (v:= .iface 180 (ptr r)) (c:=false) (hv:= .inr ⟨_,_,rfl,rfl⟩) (hu:=underlying168));co_applyP(ax);co_applyP oc rfl rfl rfl (m K A S Fr L eb b x r i o.toNewE p k hb l j d);rintro _ _ _ ⟨rfl,rfl,e⟩;co_applyP(au);exact xI _ ⟨rfl,rfl,rfl,e⟩
theorem za: ∃n,∀{p:KC}{Sh:Loc->Prop}{E Dn:Nat}{PostB:World->Prop}{Aft:Goroutine->World->Prop}{W:World}{O:Nat}{G0:List (Nat×Obj)}{vs:List Value}(K:Nat)(A:Kq)(S:St)(Fr L:Ka)(eb:Nat->Nat×Nat)(b:Nat)(x:PS)(e:Nat×Nat),(∀s,NewK (Kx prog p Sh E Dn PostB Aft W O G0 s))->Ke K A S Fr L->KZ eb Fr->Inv S->(b,x)∈S.ps->
 Kb (Kx prog p Sh E Dn PostB Aft W O G0) prog false 84 [ptr K,ptr b, .iface 255 (Mm e), .chan (some E)].toArray n (LK S.now 4 x.id 65281::vs) L (λs' v L'=>vs=s'/\v= .tuple #[]/\ ∃B G,(∀q∈S.ps,(∃z,(q.1,z)∈(S.fin b x 65281).ps)\/ ∃z,pb q.1 z∈G/\z.st=6)/\Ke K B (S.fin b x 65281) (G++Fr) L'):=by
 obtain⟨D,r⟩:=sR;obtain⟨C,m⟩:=yZ;constructor;intro p Sh E Dn PostB Aft W O G0 vs K A S Fr L eb b x e k l j u hb;co_applyP ar 20 func84 ntmps84;co_applyP(ay);co_applyP oy rfl (dN (v:= .iface 255 (Mm e)) (c:=false) (hv:= .inr ⟨_,_,rfl,rfl⟩) (hu:=underlying168));co_applyP(ax);co_applyP oc rfl rfl rfl (r L eb b e (k _).toNewE (j.mono l.fr));rintro _ _ _ ⟨rfl,rfl,f,g⟩;rename_i y;have i:=l.of f g;co_applyP(aO);co_applyP oc rfl rfl rfl (m K A S Fr y eb b x 65281 k i j u hb);rintro _ _ _ ⟨rfl,rfl,o,G,a,d⟩;co_applyP(zo);exact xI _ ⟨rfl,rfl,rfl,o,G,a,d⟩
def Ok (eb:Nat->Nat×Nat):Option Nat->Value
 |none=> .nilIface
 |some i=>LZ eb i
def Lv (b:Nat)(S:St)(G:Ka):Prop:=(∃z,(b,z)∈S.ps)\/ ∃z,pb b z∈G/\z.st=6
def St.Ja (S:St)(x:PS):Bool:=S.ps.any λq=>decide (q.2.par=x.id)
def St.Jd (S:St)(b:Nat)(x:PS):Option Nat×St:=if S.Ja x then(none,match S.II x with
 |some i=>S.take b x i
 |none=>S.IT b x 2) else(some 5,S)
theorem ET: ∃n,∀{I}{F:Kn I}{E:DM F}{a s}(K:Nat)(A:Kq)(S:St)(Fr L:Ka)(eb:Nat->Nat×Nat)(b:Nat)(x:PS),Ke K A S Fr L->KZ eb Fr->(b,x)∈S.ps->S.Ja x=false->
 Kb E prog a 132 [ptr K,ptr b].toArray n s L (λs' v L'=>s=s'/\v=LZ eb 5/\Ke K A S Fr L'):=by
 obtain⟨H,g0⟩:=dH;obtain⟨R,O⟩:=dF H;constructor;intro I F E a s K A S Fr L eb b x j J hb u;obtain⟨d,cap,r,m⟩:=bH j.pa;simp only[ia] at r;have Q:At L K 5 (.slice d (S.ps.map (·.1)).length cap):=by rw[ia,<-r];exact j.kat rfl
 have D: ∀c∈S.ps.map (·.1),∀L',Ext L L'->Kb E prog a 128 ([ptr b]++[ptr c]++[]).toArray H s L' (λs' v l=>s=s'/\v= .bool (S.Jc (λy=>decide (y.par=x.id)) c)/\Ext L' l):=by
  intro c hc L' k;obtain⟨q,G,rfl⟩:=cm.1 hc;have e:S.Jc (λy=>decide (y.par=x.id)) q.1=decide (q.2.par=x.id):=by simp[St.Jc,aY j.pn (b:=q.1) (x:=q.2) G]
  rw[e];refine aJ (g0 L' b q.1 x q.2 (k.s _ (j.p _ hb)) (k.s _ (j.p _ G))) λs' v l ⟨M,C,B⟩=>⟨M,B, ?_⟩;subst C;exact⟨k.f,λ_ h=>h⟩
 co_applyP ar 21 func132 ntmps132;co_applyP(ax);co_applyP aK (n₂:=0);co_applyP(aR);co_applyP oc rfl rfl rfl (O L 128 _ [ptr b] [] (S.ps.map (·.1)) (S.Jc λy=>decide (y.par=x.id)) d cap (λi v r=>by obtain⟨b,_,C,B⟩:=m i v (by simpa using r);exact⟨b,C,B⟩) (by simpa using j.p8) func128 rfl rfl D);rintro _ _ _ ⟨rfl,rfl,z⟩;co_applyP(ay);change Kw ..;rename_i T;have N:(S.ps.map (·.1)).any (S.Jc λy=>decide (y.par=x.id))=false:=by rw[gT j.pn];exact u
 have o:=j.ext z;have P:=(J.mono o.fr).g 5 bx bx;rw[N];co_applyP(aC);exact xI _ ⟨rfl,rfl,rfl,o⟩
theorem EU: ∃n,∀{R}{F:Kn R}{z:DM F}{d s}(K:Nat)(A:Kq)(S:St)(Fr L:Ka)(b:Nat)(x:PS),(∀cs,(z s).New (.cells cs 93))->Ke K A S Fr L->Inv S->(b,x)∈S.ps->x.st≠6->S.Ja x=true->S.II x=none->
 Kb z prog d 132 [ptr K,ptr b].toArray n s L (λs' v L'=>s=s'/\v= .nilIface/\ ∃A',Ke K A' (S.IT b x 2) Fr L'):=by
 obtain⟨Q,g0⟩:=dH;obtain⟨n1,g1⟩:=dF Q;obtain⟨n2,W⟩:=j0;obtain⟨n3,X⟩:=lP;constructor;intro R F z d s K A S Fr L b x hN l N hb H D B;have j:=N.g.lv _ hb;obtain⟨k,cap,u,r⟩:=bH l.pa;simp only[ia] at u;have h5:At L K 5 (.slice k (S.ps.map (·.1)).length cap):=by rw[ia,<-u];exact l.kat rfl
 have M: ∀c∈S.ps.map (·.1),∀L',Ext L L'->Kb z prog d 128 ([ptr b]++[ptr c]++[]).toArray Q s L' (λs' v o=>s=s'/\v= .bool (S.Jc (λy=>decide (y.par=x.id)) c)/\Ext L' o):=by
  intro c hc L' m;obtain⟨q,P,rfl⟩:=cm.1 hc;have e:S.Jc (λy=>decide (y.par=x.id)) q.1=decide (q.2.par=x.id):=by simp[St.Jc,aY l.pn (b:=q.1) (x:=q.2) P]
  rw[e];refine aJ (g0 L' b q.1 x q.2 (m.s _ (l.p _ hb)) (m.s _ (l.p _ P))) λs' v o ⟨Y,J,G⟩=>⟨Y,G, ?_⟩;subst J;exact⟨m.f,λ_ h=>h⟩
 co_applyP ar 21 func132 ntmps132;co_applyP(bf);co_applyP oc rfl rfl rfl (g1 L 128 _ [ptr b] [] (S.ps.map (·.1)) (S.Jc λy=>decide (y.par=x.id)) k cap (λi v u=>by obtain⟨b,_,J,G⟩:=r i v (by simpa using u);exact⟨b,J,G⟩) (by simpa using l.p8) func128 rfl rfl M);rintro _ _ _ ⟨rfl,rfl,E⟩;co_applyP(ay);change Kw ..;rename_i L1;have Z:(S.ps.map (·.1)).any (S.Jc λy=>decide (y.par=x.id))=true:=by rw[gT l.pn];exact D
 have O:=l.ext E;rw[Z];co_applyP(aC);co_applyP oc rfl rfl rfl (W K A S Fr L1 b x hN O hb H);rintro _ _ _ ⟨rfl,a⟩;rename_i v2 T;rw[B] at a;obtain⟨rfl,C⟩:=a;co_applyP(aC);co_applyP oc rfl rfl rfl (X K A S Fr T b x 2 C hb j (N.g.r8 j) (N.g.ex j) (λe he=>cU e.1 j));rintro _ _ _ ⟨rfl,rfl,U,V,I⟩;co_applyP(au);exact xI _ ⟨rfl,rfl,rfl,U,I⟩
theorem EV: ∃n,∀{O}{F:Kn O}{r:DM F}{d s}(K:Nat)(A:Kq)(S:St)(Fr L:Ka)(b:Nat)(x:PS)(i:Nat),(∀cs,(r s).New (.cells cs 93))->Ke K A S Fr L->Inv S->(b,x)∈S.ps->x.st≠6->S.Ja x=true->S.II x=some i->
 Kb r prog d 132 [ptr K,ptr b].toArray n s L (λs' v L'=>s=s'/\v= .nilIface/\ ∃Y,Ke K Y (S.take b x i) Fr L'):=by
 obtain⟨N,g0⟩:=dH;obtain⟨n1,U⟩:=dF N;obtain⟨n2,P⟩:=j0;constructor;intro O F r d s K A S Fr L b x i V j hI hb E B u;obtain⟨g,cap,o,m⟩:=bH j.pa;simp only[ia] at o;have h5:At L K 5 (.slice g (S.ps.map (·.1)).length cap):=by rw[ia,<-o];exact j.kat rfl
 have H: ∀c∈S.ps.map (·.1),∀L',Ext L L'->Kb r prog d 128 ([ptr b]++[ptr c]++[]).toArray N s L' (λs' v l=>s=s'/\v= .bool (S.Jc (λy=>decide (y.par=x.id)) c)/\Ext L' l):=by
  intro c hc L' k;obtain⟨q,M,rfl⟩:=cm.1 hc;have e:S.Jc (λy=>decide (y.par=x.id)) q.1=decide (q.2.par=x.id):=by simp[St.Jc,aY j.pn (b:=q.1) (x:=q.2) M]
  rw[e];refine aJ (g0 L' b q.1 x q.2 (k.s _ (j.p _ hb)) (k.s _ (j.p _ M))) λs' v l ⟨R,G,D⟩=>⟨R,D, ?_⟩;subst G;exact⟨k.f,λ_ h=>h⟩
 co_applyP ar 21 func132 ntmps132;co_applyP(bf);co_applyP oc rfl rfl rfl (U L 128 _ [ptr b] [] (S.ps.map (·.1)) (S.Jc λy=>decide (y.par=x.id)) g cap (λi v o=>by obtain⟨b,_,G,D⟩:=m i v (by simpa using o);exact⟨b,G,D⟩) (by simpa using j.p8) func128 rfl rfl H);rintro _ _ _ ⟨rfl,rfl,C⟩;co_applyP(ay);change Kw ..;rename_i W;have T:(S.ps.map (·.1)).any (S.Jc λy=>decide (y.par=x.id))=true:=by rw[gT j.pn];exact B
 have J:=j.ext C;rw[T];co_applyP(aC);co_applyP oc rfl rfl rfl (P K A S Fr W b x V J hb E);rintro _ _ _ ⟨rfl,a⟩;rename_i v2 Z;rw[u] at a;obtain⟨rfl,c,y,X,I,z⟩:=a;co_applyP(aO);refine xI _ ⟨rfl,rfl,rfl,A.I6 0 X, ?_⟩;unfold St.take;rw[I];exact z.less λt Q=>dc _ Q
theorem EW: ∃n,∀{o}{F:Kn o}{g:DM F}{a s}(K:Nat)(A:Kq)(S:St)(Fr L:Ka)(eb:Nat->Nat×Nat)(b:Nat)(x:PS),(∀cs,(g s).New (.cells cs 93))->Ke K A S Fr L->KZ eb Fr->Inv S->(b,x)∈S.ps->x.st≠6->
 Kb g prog a 132 [ptr K,ptr b].toArray n s L (λs' v L'=>s=s'/\v=Ok eb (S.Jd b x).1/\ ∃H,Ke K H (S.Jd b x).2 Fr L'):=by
 obtain⟨C,g0⟩:=ET;obtain⟨B,E⟩:=EU;obtain⟨u,r⟩:=EV;refine⟨C+(B+u),λ{o F g a s} K A S Fr L eb b x l f z m hb k=>aG (S.Ja x=false) (λh=> ?_) λh=>aG (S.II x=none) (λhc=> ?_) λhc=> ?_⟩
 ·have e:S.Jd b x=(some 5,S):=by unfold St.Jd;rw[if_neg (by rw[h];simp)]
  rw[e];exact aJ (g0 K A S Fr L eb b x f z hb h) λs' v L' ⟨D,y,p⟩=>⟨D,y,A,p⟩
 ·have d:S.Ja x=true:=by simpa using h
  have e:S.Jd b x=(none,S.IT b x 2):=by unfold St.Jd;rw[if_pos d,hc]
  rw[e];exact E K A S Fr L b x l f m hb k d hc
 ·have d:S.Ja x=true:=by simpa using h
  obtain⟨i,j⟩: ∃i,S.II x=some i:=by
   cases G:S.II x with
   |none=>exact absurd G hc
   |some i=>exact⟨i,rfl⟩
  have e:S.Jd b x=(none,S.take b x i):=by unfold St.Jd;rw[if_pos d,j]
  rw[e];exact r K A S Fr L b x i l f m hb k d j
end Go.Proofs.YtejkelcaljmnoaaGreatDoor
