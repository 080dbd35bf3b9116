/- Part 4 of the proof. -/
import Derived.Test.YtejkelcaljmnoaaGreatDoorHy03
import Derived.Laws.StructEq
set_option maxRecDepth 100000
set_option maxHeartbeats 4000000
set_option linter.all false
namespace Go.Proofs.YtejkelcaljmnoaaGreatDoor
open Go.Conc Go.Hx Go.Lo Tryz
attribute [local irreducible] EY KO K6 Kw Kc Ku Kd Program.underlying
section
variable {K:Nat}{A:Kq}{S:St}{Fr L:Ka}
theorem Ke.kat (h:Ke K A S Fr L){i:Nat}{v:Value}(hv:(Ks (Lj A S))[i]? =some v):At L K i v:=⟨true,_,_,_,h.k,hv⟩
theorem Ke.pat (h:Ke K A S Fr L){b:Nat}{x:PS}(hb:(b,x)∈S.ps){i:Nat}{v:Value}(hv:(Kg x)[i]? =some v):At L b i v:=⟨true,_,_,_,h.p _ hb,hv⟩
end
theorem DJ: ∃n,∀{e}{F:Kn e}{d:DM F}{b s}(K:Nat)(A:Kq)(S:St)(Fr L:Ka),Ke K A S Fr L->
 Kb d prog b 36 [ptr K].toArray n s L (λs' v L'=>s=s'/\L=L'/\v=Ky (A.a 0) S.ps.length):=by
 constructor;intro e F d b s K A S Fr L f;have g:At L K 5 _:=f.kat rfl;co_applyP ar 9 func36 ntmps36;co_applyP(aH);co_applyP(ax);exact xI _ ⟨rfl,rfl,rfl,rfl⟩
def St.find (S:St)(id:Int):Option (Nat×PS):=S.ps.find? λq=>(q.2.id:Int)==id
def MB:Option Nat->Value
 |none=> .pointer none
 |some b=>ptr b
theorem ua {S:St}{id:Int}{l1 l2:List (Nat×PS)}{q:Nat×PS}(hl:S.ps=l1++q::l2)(hn: ∀q∈l1,((q.2.id:Int)==id)=false) (hq:((q.2.id:Int)==id)=true):S.find id=some q:=by
 unfold St.find;rw[hl,tz,ON,hq];have:l1.find? (λq=>(q.2.id:Int)==id)=none:=sS.2 λr a=>by simp[hn r a]
 rw[this];rfl
theorem nC {S:St}{id:Int}(hn: ∀q∈S.ps,((q.2.id:Int)==id)=false):S.find id=none:=sS.2 λr a=>by simp[hn r a]
theorem jY: ∃n,∀{D}{F:Kn D}{C:DM F}{f s}(K:Nat)(A:Kq)(S:St)(Fr L:Ka)(id:Int),Ke K A S Fr L->
 Kb C prog f 37 [ptr K, .int .i64 id].toArray n s L (λs' v L'=>s=s'/\L=L'/\v=MB ((S.find id).map (·.1))):=by
 obtain⟨M,G⟩:=DJ;constructor;intro D F C f s K A S Fr L id p;obtain⟨o,cap,B,z⟩:=bH p.pa;simp only[ia] at B;co_applyP ar 23 func37 ntmps37;co_applyP(aC);co_applyP oc rfl rfl rfl (G K A S Fr L p);rintro _ _ _ ⟨rfl,rfl,rfl⟩;rw[B];co_applyP(av);co_applyP aU (λk s' m L'=>s'=s/\L'=L/\ ∃d j,S.ps=d++j/\(∀q∈d,((q.2.id:Int)==id)=false)/\k+d.length=8/\kn m [(10, .int .i64 d.length),(9, .int .i64 S.ps.length),(8, .slice o S.ps.length cap),(1, .int .i64 id),(0,ptr K)]) 8
 ·exact⟨rfl,rfl,[],S.ps,rfl,bE,rfl,rfl⟩
 rintro k s' m L' ⟨rfl,rfl,d,j,l,y,J,he⟩;co_applyP aA he;have a:=congrArg List.length l;simp only[mb] at a;have N:=p.p8;co_applyP(ax);co_applyP aK;co_applyP aI rfl;intro hc
 ·cases j with
  |nil=>simp at hc a;omega
  |cons q j=>
   obtain⟨b,hb,u,H⟩:=z d.length (ptr q.1) (by rw[l];simp);subst u;have I:=p.pat (b:=q.1) (x:=q.2) (by rw[l];simp) (i:=0) rfl;simp at a;co_applyP(aH);co_applyP(ay);co_applyP aI rfl;intro g;co_applyP(au);exact xI _ ⟨rfl,rfl,rfl,by rw[ua l y g];rfl⟩;intro g;co_applyP(au);change∃k',k'<_/\_;refine⟨k-1,bl,rfl,rfl,d++[q],j,by simp[l], ?_,by simp;omega, ?_⟩
   ·intro r E;rcases cE.1 E with h|h
    ·exact y r h
    ·simp at h;rw[h];exact g
   ·have e:IntKind.i64.wrap ((d.length:Int)+1)=((d++[q]).length:Int):=ag
    rw[<-e];rfl
 intro hc;co_applyP(au);change∃v,Ko .. =some v/\_;cases j with
 |nil=>exact⟨_,rfl,rfl,rfl,by rw[nC (by rw[l];simpa using y)];rfl⟩
 |cons q j=>simp at hc a;omega
theorem EJ: ∃n,∀{g}{F:Kn g}{f:DM F}{a s}(K:Nat)(A:Kq)(S:St)(Fr L:Ka)(b:Nat)(x:PS),Ke K A S Fr L->S.find 1=some (b,x)->
 Kb f prog a 62 [ptr K].toArray n s L (λs' v L'=>s=s'/\L=L'/\v= .bool ((x.st:Int)==6)):=by
 obtain⟨l,j⟩:=jY;constructor;intro g F f a s K A S Fr L b x d e;have hb:(b,x)∈S.ps:=Ox e;have k:=d.pat hb (i:=2) rfl;co_applyP ar 16 func62 ntmps62;co_applyP(au);co_applyP oc rfl rfl rfl (j K A S Fr L 1 d);rintro _ _ _ ⟨rfl,rfl,rfl⟩;rw[e];co_applyP(aH);co_applyP(zo);exact xI _ ⟨rfl,rfl,rfl,rfl⟩
theorem lN (k:KS){l:Nat}(hl:l<3):(Ks k)[7+l]? =some (k.row l):=by
 rcases l with _|_|_|l
 ·rfl
 ·rfl
 ·rfl
 ·omega
def St.first (S:St):Option Nat:=(S.rows 0++(S.rows 1++S.rows 2)).head?
theorem ub: ∃n,∀{B}{F:Kn B}{z:DM F}{d s}(K:Nat)(A:Kq)(S:St)(Fr L:Ka),Ke K A S Fr L->
 Kb z prog d 82 [.pointer (some ⟨K,7,none⟩)].toArray n s L (λs' v L'=>s=s'/\L=L'/\v=MB S.first):=by
 constructor;intro B F z d s K A S Fr L y;co_applyP ar 19 func82 ntmps82;co_applyP(aP);co_applyP aU (λk s' g L'=>s'=s/\L'=L/\ ∃i:Nat,k+i=3/\(∀j,j<i->S.rows j=[])/\kn g [(7, .int .i64 i),(5, .pointer (some ⟨K,7,none⟩)),(0, .pointer (some ⟨K,7,none⟩))]) 3
 ·exact⟨rfl,rfl,0,rfl,bE,rfl⟩
 rintro k s' g L' ⟨rfl,rfl,i,I,f,he⟩;co_applyP aA he;co_applyP(ax);co_applyP aK;co_applyP aI rfl;intro hc
 ·have r:i<3:=by simp at hc;omega
  obtain⟨l,cap,u,p⟩:=bH (y.rw i r);simp only[ia] at u;have x:At L' K (7+i) (.slice l (S.rows i).length cap):=by
   rw[<-u];exact y.kat (lN _ r)
  co_applyP(dE);co_applyP aI rfl;intro m;cases a:S.rows i with
  |nil=>rw[a] at m;simp at m
  |cons b bs=>
   obtain⟨c,D,o,C⟩:=p 0 (ptr b) (by rw[a];rfl);subst o;have G:0<((S.rows i).length:Int):=by rw[a];simp
   co_applyP(aR);refine xI _ ⟨rfl,rfl,rfl, ?_⟩;have:S.first=some b:=by
    unfold St.first
    rcases i with _|_|_|i
    ·rw[a];rfl
    ·rw[f 0 bl,a];rfl
    ·rw[f 0 bl,f 1 bl,a];rfl
    ·omega
   rw[this];rfl
  intro m;co_applyP(au);change∃k',k'<_/\_;refine⟨k-1,bl,rfl,rfl,i+1,bl,λj E=> ?_, ?_⟩
  ·rcases Nat.lt_succ_iff_lt_or_eq.1 E with h|rfl
   ·exact f j h
   ·simpa using m
  ·have e:IntKind.i64.wrap ((i:Int)+1)=((i+1:Nat):Int):=ag
   rw[<-e];rfl
 intro hc;co_applyP(au);change∃v,Ko .. =some v/\_;have H:3<=i:=by simp at hc;omega
 refine⟨_,rfl,rfl,rfl, ?_⟩;have:S.first=none:=by unfold St.first;rw[f 0 bl,f 1 bl,f 2 bl];rfl
 rw[this];rfl
def idx (xs:List Nat)(b:Nat):Int:=match xs.findIdx? (· ==b) with
 |some i=>i
 |none=> -1
theorem sN {xs l1 l2:List Nat}{q b:Nat}(hl:xs=l1++q::l2)(hn: ∀c∈l1,c≠b) (hq:q=b):idx xs b=l1.length:=by
 have:xs.findIdx? (· ==b)=some l1.length:=by
  rw[hl,List.findIdx?_append,O0];have a:l1.findIdx? (· ==b)=none:=wb.2 λc hc=>by simpa using hn c hc
  simp[a,hq]
 unfold idx;rw[this]
theorem qL {xs:List Nat}{b:Nat}(hn: ∀c∈xs,c≠b):idx xs b= -1:=by
 have:xs.findIdx? (· ==b)=none:=wb.2 λc hc=>by simpa using hn c hc
 unfold idx;rw[this]
theorem uc: ∃n,∀{E}{F:Kn E}{D:DM F}{g s}(L:Ka)(a:Sl)(xs:List Nat)(b:Nat),xs.length<=8->Kf a (xs.map ptr) 93 L->(∀c∈xs,∃x,pb c x∈L)->(∃x,pb b x∈L)->
 Kb D prog g 115 [Ky a xs.length,ptr b].toArray n s L (λs' v L'=>s=s'/\L=L'/\v= .int .i64 (idx xs b)):=by
 constructor;intro E F D g s L a xs b N I B hb;obtain⟨o,cap,C,A⟩:=bH I;simp only[ia] at C;rw[C];obtain⟨K,y⟩:=hb;co_applyP ar 19 func115 ntmps115;co_applyP(aP);co_applyP aU (λk s' l L'=>s'=s/\L'=L/\ ∃f i,xs=f++i/\(∀c∈f,c≠b)/\k+f.length=8/\kn l [(8, .int .i64 f.length),(7, .int .i64 xs.length),(1,ptr b),(0, .slice o xs.length cap)]) 8
 ·exact⟨rfl,rfl,[],xs,rfl,bE,rfl,rfl⟩
 rintro k s' l L' ⟨rfl,rfl,f,i,j,z,M,he⟩;co_applyP aA he;have d:=congrArg List.length j;simp only[mb] at d;co_applyP(ax);co_applyP aK;co_applyP aI rfl;intro hc
 ·cases i with
  |nil=>simp at hc d;omega
  |cons q i=>
   obtain⟨c,H,u,G⟩:=A f.length (ptr q) (by rw[j];simp);subst u;simp at d;obtain⟨O,p⟩:=B q (by rw[j];simp);co_applyP(bQ);co_applyP oy rfl (Dj y p (hu:=underlying93) (hs:=Dx));co_applyP(zo);co_applyP aI rfl;intro m;co_applyP(au);change∃v,Ko .. =some v/\_
   ·refine⟨_,rfl,rfl,rfl, ?_⟩;have:q=b:=by simp at m;exact m.symm
    rw[sN j z this]
   intro m;co_applyP(au);change∃k',k'<_/\_;refine⟨k-1,bl,rfl,rfl,f++[q],i,by simp[j], ?_,by simp;omega, ?_⟩
   ·intro r J;rcases cE.1 J with h|h
    ·exact z r h
    ·simp at h m;rw[h];exactλe=>m e.symm
   ·have e:IntKind.i64.wrap ((f.length:Int)+1)=((f++[q]).length:Int):=ag
    rw[<-e];rfl
 intro hc;co_applyP(au);change∃v,Ko .. =some v/\_;cases i with
 |nil=>exact⟨_,rfl,rfl,rfl,by rw[qL (by rw[j];simpa using z)]⟩
 |cons q i=>simp at hc d;omega
theorem jd:zeroAt prog 93=some (.pointer none):=bD
theorem yE {xs junk:List Value}{i:Nat}(hi:i<xs.length):((xs++junk).toArray.extract (cutAt 0 ((i:Int)+1).toNat (xs.length+junk.length) 1) (cutAt 0 ((i:Int)+1).toNat (xs.length+junk.length) 1+(xs.length-((i:Int)+1).toNat)*1)).toList=xs.drop (i+1):=by
 have a:((i:Int)+1).toNat=i+1:=bl
 rw[a];simp only[OC,u7];unfold cutAt
 split
 ·rename_i e;have:xs.length=i+1:=bl
  simp[this]
 ·have b:0+(i+1)*1+(xs.length-(i+1))*1-(0+(i+1)*1)=xs.length-(i+1):=bl
  have d:0+(i+1)*1=i+1:=bl
  rw[b,d,OS bl,sA bE];rw[sD bE]
theorem vz {xs junk:List Value}{i:Nat}(hi:i<xs.length):
 KP (xs++junk).toArray (0+((i:Int).toNat-0)*1) ((xs++junk).toArray.extract (cutAt 0 ((i:Int)+1).toNat (xs.length+junk.length) 1) (cutAt 0 ((i:Int)+1).toNat (xs.length+junk.length) 1+(xs.length-((i:Int)+1).toNat)*1)).toList=(xs.eraseIdx i++(xs.drop (xs.length-1)++junk)).toArray:=by
 have a:0+((i:Int).toNat-0)*1=i:=bl
 rw[a,yE hi,bY _ _ _ ao];congr 1;rw[sA bl,OO,show i+(xs.length-(i+1))=xs.length-1 by omega,OS bl,OT]
theorem sO {xs junk:List Value}{i:Nat}(hi:i<xs.length):KP (xs.eraseIdx i++(xs.drop (xs.length-1)++junk)).toArray (xs.length-1) (List.replicate 1 (.pointer none))=(xs.eraseIdx i++ .pointer none::junk).toArray:=by
 have a:(xs.eraseIdx i).length=xs.length-1:=by rw[List.length_eraseIdx];simp[hi]
 rw[bY _ _ _ (by simp[a];omega)];congr 1;rw[sA bl,sD bl];have:(xs.eraseIdx i++(xs.drop (xs.length-1)++junk)).drop (xs.length-1+(List.replicate 1 (Value.pointer none)).length)=junk:=by
  rw[<-r5,OS (by simp[a];omega),List.drop_of_length_le (by simp[a];omega)];rfl
 rw[this];simp
theorem qM: ∃n,∀{p}{F:Kn p}{Δ:DM F}{main s}(L:Ka)(b:Nat)(xs junk:List Value)(i:Nat),i<xs.length->xs.length<1000000->xs.all Km=true->(b,true,Obj.cells (xs++junk).toArray 93)∈L->
 Kb Δ prog main 116 [.slice (some ⟨b,0,none⟩) xs.length (xs.length+junk.length), .int .i64 i, .int .i64 ((i:Int)+1)].toArray n s L (λs' v L'=>s=s'/\v= .slice (some ⟨b,0,none⟩) (xs.length-1) (xs.length+junk.length)/\K4 L b (.cells (xs.eraseIdx i++ .pointer none::junk).toArray 93) L'):=by
 constructor;intro p F Δ main s L b xs junk i j A d hb;co_applyP ar 33 func116 ntmps116;co_applyP(bm);co_applyP oy rfl (xE U91 dA);co_applyP(aR);change Kw ..;have y:((i:Int)==(i:Int)+1)=false:=ao
 rw[y];co_applyP(aR);co_applyP aK;have l:(xs++junk).toArray.size=xs.length+junk.length:=bE
 have e:cutAt 0 ((i:Int)+1).toNat (xs.length+junk.length) 1+(xs.length-((i:Int)+1).toNat)*1<=(xs++junk).toArray.size:=by unfold cutAt;rw[l];split<;>omega
 co_applyP aM [] 6 (nf:=0) mixed;co_applyP(ay);co_applyP tr 2 rfl (qx U91 dA) pN;co_applyP(ay);co_applyP tr 5 rfl (qz U91 dA) pN;co_applyP aF;intro hnd;co_applyP te (i:=6) rfl (lE (hnd:=hnd) (hu:=U91) (hv:=U91) (hs:=dA) (hr:=bR hb e) (hc:=bl) (hm:=hb) (ho:=by simp;unfold cutAt;split<;>split<;>omega) (hp:=by rw[yE j];rw[OF] at d⊢;exactλv m=>d v (List.mem_of_mem_drop m)));rintro _ _ ⟨rfl,k⟩;refine⟨aj bE, ?_⟩;co_applyP to 7 rfl (fX) (aj bE);have o:cutAt 0 0 (xs.length+junk.length) 1=0:=by unfold cutAt;split<;>omega
 have el:(i:Int).toNat-0+(xs.length-((i:Int)+1).toNat)=xs.length-1:=bl
 have z:xs.length+junk.length-0=xs.length+junk.length:=rfl;rw[o,vz j] at k;rw[o,el,z];co_applyP(aC);co_applyP oy rfl (xD U91 dA);co_applyP kN;intro g;co_applyP oe rfl (xF (hnd:=g) (hu:=U91) (hz0:=jd) (hzp:=rfl) (hm:=k.self) (ho:=by have B:(xs.eraseIdx i).length=xs.length-1:=(by rw[List.length_eraseIdx];simp[j]);simp[B];unfold cutAt;split<;>omega));rintro _ _ ⟨rfl,a⟩;co_applyP(aC);change∃v,Ko .. =some v/\_;have r:cutAt 0 (((xs.length-1:Nat):Int)).toNat (xs.length+junk.length) 1=xs.length-1:=by unfold cutAt;split<;>omega
 have u:(xs.length:Int).toNat-((xs.length-1:Nat):Int).toNat=1:=bl
 rw[r,u,sO j] at a;exact⟨_,rfl,rfl,rfl,a.self,λt x f=>a.ne t (k.ne t x f) f,a.fn⟩
theorem sP:KJ prog 93=some 8:=bD
theorem fD (a:Sl)(n:Nat):Km (Ky a n)=true:=by unfold Ky;split<;>rfl
theorem eP {z:Value}(h:Km z=true)(n:Nat):Builtin.zeroCells z.cells n=(List.replicate n z).toArray:=by
 rw[ee h];unfold Builtin.zeroCells;apply gm;apply List.ext_getElem
 ·simp
 ·intro i a b;simp[Nat.mod_one]
structure Ap1 (L:Ka)(a:Sl)(xs:List Nat)(c:Nat)(a':Sl)(L':Ka):Prop where
 ok:Kf a' ((xs++[c]).map ptr) 93 L'
 fn:K5 L'
 sub: ∀t∈L,a.b≠some t.1->t∈L'
 d: ∀b,a'.b=some b->a.b=some b\/ ∀t∈L,t.1≠b
section
variable {New:Obj->Prop}{N:Nat}{ε:Env}{L:Ka}{d:Option Tmp}{ty:TypeId}{ps:String}{af:Array Edge}{g:Option (Nat×Bool)}{x y:Operand}
theorem ud {a:Sl}{xs:List Nat}{c nb:Nat}(hx:ev ε x=some (Ky a xs.length):=by rfl)(hy:ev ε y=some (.slice (some ⟨nb,0,none⟩) 1 1):=by rfl)(hnd:(L.map (·.1)).Nodup)(hN: ∀cs,New (.cells cs 93)) (ha:Kf a (xs.map ptr) 93 L) (h8:xs.length<=1000) (hnb:(nb,true, .cells #[ptr c] 93)∈L):
 EO prog New N ε L ⟨d, .call ⟨.builtin .append, #[x,y], #[91,91]⟩,ty,ps,af,g⟩ (λr L'=> ∃z,r=Ky z (xs.length+1)/\Ap1 L a xs c z L'):=by
 have G:Reads prog L 1 1 (.slice (some ⟨nb,0,none⟩) 1 1) #[ptr c]:=by
  have:=bR (P:=prog) (sz:=1) (n:=1) (len:=1) (cap:=1) (o:=0) hnb bE;simpa using this
 have grow: ∀(ws:Array Value)(i:Nat),Reads prog L 1 xs.length (Ky a xs.length) ws->ws=(xs.map ptr).toArray->(∃k,Ky a xs.length= .slice k xs.length i)->i<xs.length+1->
  EO prog New N ε L ⟨d, .call ⟨.builtin .append, #[x,y], #[91,91]⟩,ty,ps,af,g⟩ (λr L'=> ∃z,r=Ky z (xs.length+1)/\Ap1 L a xs c z L'):=by
  rintro ws i s rfl ⟨k,hb⟩ hc;rw[hb] at s hx;intro ac m;refine bS ?_ _ _ (nv (by_:=7) (New:=New) hx hy (bz hnd) U91 U91 dA sP jd s G hc bl hN ac m);intro r L' q;cases r<;>try exact q.elim
  ·obtain⟨b,cap,Q,B,rfl,p⟩:=q;rw[eP rfl] at p;refine⟨⟨some b,List.replicate (cap-(xs.length+1)) (.pointer none)⟩, ?_, ?_,p.fn,λt D _=>p.sub t D,λE l=> .inr ?_⟩
   ·unfold Ky;simp;omega
   ·have K:(xs.map ptr).toArray++ #[ptr c]++(List.replicate (cap-(xs.length+1)) (Value.pointer none)).toArray=((xs++[c]).map ptr++List.replicate (cap-(xs.length+1)) (Value.pointer none)).toArray:=by
     apply gm;simp
    rw[K] at p;exact p.self
   ·obtain rfl:b=E:=by simpa using l
    exact p.new
  ·obtain⟨b,cap,_,_,e,_⟩:=q;cases e
 cases f:a.b with
 |none=>
  have B:=ha;unfold Kf at B;rw[f] at B;obtain⟨J,O⟩:=B;obtain rfl:xs=[]:=by simpa using J
  have j:Ky a 0= .slice none 0 0:=by unfold Ky;rw[f]
  exact grow #[] 0 (by rw[km,j];exact dx) rfl ⟨none,j⟩ bE
 |some b=>
  have hm:=ha.mem f;have j:Ky a xs.length= .slice (some ⟨b,0,none⟩) xs.length (xs.length+a.junk.length):=by unfold Ky;rw[f]
  cases F:a.junk with
  |nil=>
   rw[F] at j hm;refine grow _ xs.length ?_ rfl ⟨_,j⟩ bl;rw[j];have:=bR (P:=prog) (sz:=1) (n:=xs.length) (len:=xs.length) (cap:=xs.length+([]:List Value).length) (o:=0) hm bE;have I:(xs.map ptr).take xs.length=xs.map ptr:=sD bE;simpa [I] using this
  |cons u junk=>
   rw[F] at j hm;intro ac m;rw[j] at hx;refine bS ?_ _ _ (lE (New:=New) hx hy hnd U91 U91 dA G bE hm bE (by simp[Km]) ac m);intro r L' q;cases r<;>try exact q.elim
   ·obtain⟨rfl,A⟩:=q;have H:KP (xs.map ptr++u::junk).toArray (0+xs.length*1) #[ptr c].toList=((xs++[c]).map ptr++junk).toArray:=by
     rw[bY _ _ _ bE];have M:(xs.map ptr++u::junk).drop (xs.length+1)=junk:=by
      rw[O1];simp
     simp[M]
    rw[H] at A;refine⟨⟨some b,junk⟩, ?_,A.self,A.fn,λt D C=>A.ne t D λe=>C (by rw[f,e]),λE l=> .inl (by rw[f];exact l)⟩;unfold Ky;simp;omega
   ·exact absurd q.1 (by simp[undef])
end
theorem Ke.JH {K:Nat}{A:Kq}{S:St}{Fr L:Ka}(h:Ke K A S Fr L){l:Nat}(hl:l<3){t:Nat×Bool×Obj}(ht:t∈L)(ho: ∀c,t.2.2≠ .cells c 93):(A.a (l+1)).b≠some t.1:=λe=>
 ho _ (h.fn _ _ _ _ _ ht ((h.rw l hl).mem e)).2
theorem fE {c:Array Value}{t:TypeId}(h:t≠93): ∀a,Obj.cells c t≠ .cells a 93:=λ_=>aB h
theorem je (k:KS){l:Nat}(hl:l<3)(v:Value):(Ks k).setIfInBounds (7+l) v=Ks {k with row:=put k.row l v}:=by
 rcases l with _|_|_|l
 ·rfl
 ·rfl
 ·rfl
 ·omega
theorem kR (A:Kq)(S:St)(l:Nat)(a:Sl)(xs:List Nat)(h0:l+1≠0):Lj (A.I6 (l+1) a) (S.setRow l xs)={Lj A S with row:=put (Lj A S).row l (Ky a xs.length)}:=by
 unfold Lj Kq.I6 St.setRow;simp only[KS.mk.injEq,true_and];refine⟨by simp[put], ?_, ?_⟩
 ·funext l'
  unfold put;by_cases e:l'=l
  ·subst e;simp
  ·simp[e]
 ·simp
theorem sQ: ∃n,∀{Q}{F:Kn Q}{H:DM F}{z s}(K:Nat)(A:Kq)(S:St)(Fr L:Ka)(b:Nat)(x:PS),(∀cs,(H s).New (.cells cs 93))->Ke K A S Fr L->(b,x)∈S.ps->x.lv<3->(S.rows x.lv).length<=8->(∀e∈S.wt,slot e.1≠x.lv+1)->
 Kb H prog z 91 [.pointer (some ⟨K,7,none⟩),ptr b].toArray n s L (λs' v L'=>s=s'/\v= .tuple #[]/\ ∃P,Lk A P/\Ke K P (S.setRow x.lv (S.rows x.lv++[b])) Fr L'):=by
 constructor;intro Q F H z s K A S Fr L b x G g hb j W hw;have D:=g.pat hb (i:=5) rfl;have M:At L b 5 (.int .i64 (x.lv:Int)):=D;have N:At L K (7+x.lv) (Ky (A.a (x.lv+1)) (S.rows x.lv).length):=g.kat (lN _ j);clear D;co_applyP ar 24 func91 ntmps91;co_applyP aM [pb b x] 17 (nf:=0) mixed;co_applyP tr 0 rfl bk (aa (by simpa using g.p _ hb));co_applyP tr 1 rfl bk (aa (by simpa using g.p _ hb));co_applyP tr 2 rfl bI (aa (by simpa using g.p _ hb));co_applyP tr 3 rfl (br (hf:=cQ)) (aa (by simpa using g.p _ hb));co_applyP tr 4 rfl (br (hf:=fe)) (aa (by simpa using g.p _ hb));co_applyP tr 5 rfl (bT (ht:=dq)) (aa (by simpa using g.p _ hb));co_applyP tr 6 rfl bk (aa (by simpa using g.p _ hb));co_applyP tr 7 rfl bk (aa (by simpa using g.p _ hb));co_applyP tr 8 rfl bI (aa (by simpa using g.p _ hb));co_applyP tr 9 rfl (br (hf:=cQ)) (aa (by simpa using g.p _ hb));co_applyP tr 10 rfl (br (hf:=fe)) (aa (by simpa using g.p _ hb));co_applyP t0 11 rfl (bT (ht:=dq)) (aa (by simpa using g.p _ hb));co_applyP tr 12 rfl bI (aa (by simpa using g.p _ hb));co_applyP tr 13 rfl (cW underlying112 gx) (aa (by simpa using g.p _ hb));co_applyP t0 14 rfl (bT (ht:=Du)) (aa (by simpa using g.p _ hb));co_applyP tr 15 rfl bk (aa (by simpa using g.p _ hb));co_applyP tr 18 rfl bI (aa (by simpa using g.p _ hb));co_applyP te (i:=16) rfl (kl (G _) (hx:=rfl) (hu:=U91) (hs:=dA) (hz:=jd));rintro _ _ ⟨X,C,rfl,rfl⟩;refine⟨cx (by simpa using g.p _ hb) (λt u=>dc _ u), ?_⟩;co_applyP aF;intro hnd;have I:=cT (o:= .cells #[ptr b] 93) g.fn C;have f:=g.add I;have m:(A.a (x.lv+1)).b≠some b:=f.JH j (f.p _ hb) (fE bx);have y:(A.a (x.lv+1)).b≠some K:=f.JH j f.k (fE bx);co_applyP te (i:=17) rfl (ud (c:=b) (hnd:=hnd) (hN:=G) (ha:=f.rw _ j) (h8:=bl) (hnb:=I.self));rintro _ _ ⟨O,rfl,l⟩;refine⟨aj (by simpa using l.sub _ (f.p _ hb) m), ?_⟩;co_applyP to 19 rfl ((cW underlying112 gx)) (aj (by simpa using l.sub _ (f.p _ hb) m));co_applyP aF;intro E;co_applyP te (i:=20) rfl (bX (hnd:=E) (hm:=l.sub _ f.k y) (hi:=by rw[bP];omega) (hp:=fD _ _) (hs:=gx));rintro _ _ ⟨rfl,B⟩;refine⟨aj (by simpa using B.ne _ (l.sub _ (f.p _ hb) m) (f.fn.ne (f.p _ hb) f.k (aB bx))), ?_⟩;co_applyP(zo);refine xI _ ⟨rfl,rfl,rfl,A.I6 (x.lv+1) O,Lk.set A j O, ?_⟩;refine f.setRow j B.fn ?_ (λt u r U=>B.ne t (l.sub t u U) r) ?_ ?_ hw
 ·rw[kR _ _ _ _ _ bl];have:=B.self;rw[je _ j] at this;simpa using this
 ·exact l.ok.mono λc hc o R=>B.ne _ R λe=>by
   have r:=l.ok.mem hc;have V:c=K:=e;rw[V] at r;exact aB bx (l.fn _ _ _ _ _ r (l.sub _ f.k y)).2
 ·intro c hc;rcases l.d c hc with r|r
  ·exact .inl r
  ·refine .inr ⟨λi J=> ?_,λt u=>r t (f.fr t u)⟩;obtain⟨Y,T⟩:=f.al i c J;exact r _ T rfl
theorem qN (S:St)(l:Nat):S.setRow l (S.rows l)=S:=by
 have:put S.rows l (S.rows l)=S.rows:=by funext j;unfold put;split<;>simp_all
 unfold St.setRow;rw[this]
theorem yF {l1 l2:List Nat}{b:Nat}(hn: ∀c∈l1,c≠b):(l1++b::l2).erase b=l1++l2:=by
 rw[List.erase_append_right _ (λh=>hn b h rfl)];simp
theorem jf {a:Type}{l1 l2:List a}{b:a}:(l1++b::l2).eraseIdx l1.length=l1++l2:=by rw[List.eraseIdx_append_of_length_le (cD _)];simp
theorem jg {a b:Type}(f:a->b)(l:List a)(i:Nat):(l.eraseIdx i).map f=(l.map f).eraseIdx i:=by
 rw[OT,OT];simp
theorem oS: ∃n,∀{W}{F:Kn W}{U:DM F}{m s}(K:Nat)(A:Kq)(S:St)(Fr L:Ka)(b:Nat)(x:PS),Ke K A S Fr L->(b,x)∈S.ps->x.lv<3->(S.rows x.lv).length<=8->(∀c∈S.rows x.lv,∃y,(c,y)∈S.ps)->(∀e∈S.wt,slot e.1≠x.lv+1)->
 Kb U prog m 97 [.pointer (some ⟨K,7,none⟩),ptr b].toArray n s L (λs' v L'=>s=s'/\v= .tuple #[]/\ ∃V,Lk A V/\Ke K V (S.setRow x.lv ((S.rows x.lv).erase b)) Fr L'):=by
 obtain⟨n1,g1⟩:=uc;obtain⟨n2,Y⟩:=qM;constructor;intro W F U m s K A S Fr L b x d hb f h8 hm hw;have a':At L b 5 (.int .i64 (x.lv:Int)):=d.pat hb (i:=5) rfl;have T:At L K (7+x.lv) (Ky (A.a (x.lv+1)) (S.rows x.lv).length):=d.kat (lN _ f);co_applyP ar 33 func97 ntmps97;co_applyP(aH);co_applyP(zo);co_applyP oc rfl rfl rfl (g1 L (A.a (x.lv+1)) (S.rows x.lv) b h8 (d.rw _ f) (λc hc=>by obtain⟨y,X⟩:=hm c hc;exact⟨y,d.p _ X⟩) ⟨x,d.p _ hb⟩);rintro _ _ _ ⟨rfl,rfl,rfl⟩;co_applyP(aC);co_applyP aI rfl;intro z
 ·by_cases l:b∈S.rows x.lv
  ·obtain⟨j,l2,C,N⟩:=List.eq_append_cons_of_mem l;have G: ∀c∈j,c≠b:=λc hc e=>N (e▸hc);have J:idx (S.rows x.lv) b=(j.length:Int):=sN C G rfl;have E:j.length<(S.rows x.lv).length:=by rw[C];simp
   have P:IntKind.i64.wrap ((j.length:Int)+1)=(j.length:Int)+1:=ag
   cases o:(A.a (x.lv+1)).b with
   |none=>
    have:=d.rw _ f;unfold Kf at this;rw[o] at this;rw[C] at this;simp at this
   |some Q=>
    have H:=(d.rw _ f).mem o;have O:Ky (A.a (x.lv+1)) (S.rows x.lv).length= .slice (some ⟨Q,0,none⟩) ((S.rows x.lv).map ptr).length (((S.rows x.lv).map ptr).length+(A.a (x.lv+1)).junk.length):=by unfold Ky;rw[o];simp
    have u:b≠Q:=λe=>d.JH f (d.p _ hb) (fE bx) (by rw[o,e]);have D:K≠Q:=λe=>d.JH f d.k (fE bx) (by rw[o,e]);rw[J,O];co_applyP aM [pb b x] 10 mixed;co_applyP tr 0 rfl bk (aa (by simpa using d.p _ hb));co_applyP tr 1 rfl bk (aa (by simpa using d.p _ hb));co_applyP tr 2 rfl bI (aa (by simpa using d.p _ hb));co_applyP tr 3 rfl (br (hf:=cQ)) (aa (by simpa using d.p _ hb));co_applyP tr 4 rfl (br (hf:=fe)) (aa (by simpa using d.p _ hb));co_applyP tr 5 rfl (bT (ht:=dq)) (aa (by simpa using d.p _ hb));co_applyP tr 6 rfl bk (aa (by simpa using d.p _ hb));co_applyP tr 7 rfl bk (aa (by simpa using d.p _ hb));co_applyP tr 8 rfl bk (aa (by simpa using d.p _ hb));co_applyP tr 9 rfl Dh (aa (by simpa using d.p _ hb));co_applyP tr 11 rfl bI (aa (by simpa using d.p _ hb));rw[P];co_applyP tc 10 rfl rfl rfl (Y L Q ((S.rows x.lv).map ptr) (A.a (x.lv+1)).junk j.length (by simpa using E) ao (by simp[Km]) H);rintro _ _ _ ⟨rfl,rfl,B⟩;refine⟨aj (by simpa using B.ne _ (d.p _ hb) u), ?_⟩;co_applyP to 12 rfl ((cW underlying112 gx)) (aj (by simpa using B.ne _ (d.p _ hb) u));co_applyP aF;intro hnd;co_applyP te (i:=13) rfl (bX (hnd:=hnd) (hm:=B.ne _ d.k D) (hi:=by rw[bP];omega) (hs:=gx));rintro _ _ ⟨rfl,g⟩;refine⟨aj (by simpa using g.ne _ (B.ne _ (d.p _ hb) u) (d.fn.ne (d.p _ hb) d.k (aB bx))), ?_⟩;co_applyP(zo);change∃v,Ko .. =some v/\_;have I:(S.rows x.lv).erase b=(S.rows x.lv).eraseIdx j.length:=by rw[C,yF G,jf]
    have r:((S.rows x.lv).eraseIdx j.length).length=(S.rows x.lv).length-1:=by rw[List.length_eraseIdx];simp[E]
    refine⟨_,rfl,rfl,rfl,A.I6 (x.lv+1) ⟨some Q, .pointer none::(A.a (x.lv+1)).junk⟩,Lk.set A f _, ?_⟩;rw[I];refine d.setRow f g.fn ?_ (λt R h1 h2=>g.ne t (B.ne t R λe=>h2 (by rw[o,e])) h1) ?_ (λc hc=> .inl (by rw[o];exact hc)) hw
    ·rw[kR _ _ _ _ _ bl];have:=g.self;rw[je _ f] at this;have Z:Ky ⟨some Q, .pointer none::(A.a (x.lv+1)).junk⟩ ((S.rows x.lv).eraseIdx j.length).length= .slice (some ⟨Q,0,none⟩) (((S.rows x.lv).map ptr).length-1) (((S.rows x.lv).map ptr).length+(A.a (x.lv+1)).junk.length):=by
      unfold Ky;simp[r];omega
     rw[Z];exact this
    ·have:=g.ne _ B.self (ft D);show (Q,true,_)∈_;rw[jg];exact this
  ·rw[qL (λc hc e=>l (by rw[<-e];exact hc))] at z;simp at z
 intro z;co_applyP(zo);refine xI _ ⟨rfl,rfl,rfl,A,Lk.refl A, ?_⟩;have M:b∉S.rows x.lv:=λl=>by
  obtain⟨j,l2,C,N⟩:=List.eq_append_cons_of_mem l;rw[sN C (λc hc e=>N (by rw[<-e];exact hc)) rfl] at z;simp at z
 rw[List.erase_of_not_mem M,qN];exact d
theorem bd (S:St)(b:Nat)(x y:PS):(S.ID b x).ID b y=S.ID b y:=by
 unfold St.ID;simp only[kt];congr 1;apply k0;intro q _;simp only[Function.comp]
 split<;>simp_all
theorem ku {S:St}{b c:Nat}{x:PS}(h: ∃y,(c,y)∈S.ps): ∃y,(c,y)∈(S.ID b x).ps:=by
 obtain⟨y,a⟩:=h;simp only[St.ID,cm];by_cases e:c=b
 ·exact⟨x,(c,y),a,by simp[e]⟩
 ·exact⟨y,(c,y),a,by simp[e]⟩
theorem lO: ∃n,∀{o}{F:Kn o}{l:DM F}{a s}(K:Nat)(A:Kq)(S:St)(Fr L:Ka)(b:Nat)(x:PS),(∀cs,(l s).New (.cells cs 93))->Ke K A S Fr L->(b,x)∈S.ps->x.lv<3->(S.rows x.lv).length<=8->(∀e∈S.wt,slot e.1≠x.lv+1)->
 Kb l prog a 75 [ptr K,ptr b].toArray n s L (λs' v L'=>s=s'/\v= .tuple #[]/\ ∃g,Lk A g/\Ke K g ((S.ID b {x with st:=1,used:=0}).setRow x.lv (S.rows x.lv++[b])) Fr L'):=by
 obtain⟨D,B⟩:=sQ;constructor;intro o F l a s K A S Fr L b x C m hb i y hw;co_applyP ar 17 func75 ntmps75;co_applyP(au);co_applyP osm rfl (hs:=bJ) (hm:=m.p _ hb) (hi:=by first|decide|(rw[bq];omega)|(rw[bP];omega));intro E u;have f:=m.ID (x':={x with st:=1}) hb u;co_applyP(aC);co_applyP osm rfl (hs:=bJ) (hm:=f.p _ (ai hb)) (hi:=by first|decide|(rw[bq];omega)|(rw[bP];omega));intro r j;have d:=f.ID (x':={x with st:=1,used:=0}) (ai hb) j;rw[bd] at d;co_applyP(aC);co_applyP oc rfl rfl rfl (B K A _ Fr r b _ C d (ai hb) i y hw);rintro _ _ _ ⟨rfl,rfl,g,z,k⟩;co_applyP(zo);exact xI _ ⟨rfl,rfl,rfl,g,z,k⟩
theorem lP: ∃n,∀{l}{F:Kn l}{k:DM F}{a s}(K:Nat)(A:Kq)(S:St)(Fr L:Ka)(b:Nat)(x:PS)(st:Nat),Ke K A S Fr L->(b,x)∈S.ps->x.lv<3->(S.rows x.lv).length<=8->(∀c∈S.rows x.lv,∃y,(c,y)∈S.ps)->(∀e∈S.wt,slot e.1≠x.lv+1)->
 Kb k prog a 107 [ptr K,ptr b, .int .i64 st].toArray n s L (λs' v L'=>s=s'/\v= .tuple #[]/\ ∃f,Lk A f/\Ke K f ((S.ID b {x with st:=st}).setRow x.lv ((S.rows x.lv).erase b)) Fr L'):=by
 obtain⟨B,r⟩:=oS;constructor;intro l F k a s K A S Fr L b x st u hb g m hm hw;co_applyP ar 16 func107 ntmps107;co_applyP(au);co_applyP oc rfl rfl rfl (r K A S Fr L b x u hb g m hm hw);rintro _ _ _ ⟨rfl,rfl,f,o,d⟩;co_applyP(aR);co_applyP osm rfl (hs:=bJ) (hm:=d.p _ hb) (hi:=by first|decide|(rw[bq];omega)|(rw[bP];omega));intro z i;have j:=d.ID (x':={x with st:=st}) hb i;co_applyP(zo);exact xI _ ⟨rfl,rfl,rfl,f,o,j⟩
def St.JD (S:St)(b:Nat)(x:PS):St:=
 if(x.used:Int)<S.sl x.lv then S
 else
  let lv:=min (x.lv+1) 2
  let S1:=(S.setRow x.lv ((S.rows x.lv).erase b)).ID b {x with lv:=lv,used:=0}
  S1.setRow lv (S1.rows lv++[b])
theorem Ha (k:KS){l:Nat}(hl:l<3):(Ks k)[l]? =some (.int .i64 (k.sl l)):=by
 rcases l with _|_|_|l
 ·rfl
 ·rfl
 ·rfl
 ·omega
theorem EK: ∃n,∀{O}{F:Kn O}{M:DM F}{g s}(K:Nat)(A:Kq)(S:St)(Fr L:Ka)(b:Nat)(x:PS),(∀cs,(M s).New (.cells cs 93))->Ke K A S Fr L->(b,x)∈S.ps->x.lv<3->(∀l,l<3->(S.rows l).length<=8)->(∀c∈S.rows x.lv,∃y,(c,y)∈S.ps)->(∀e∈S.wt,∀l,l<3->slot e.1≠l+1)->
 Kb M prog g 86 [ptr K,ptr b].toArray n s L (λs' v L'=>s=s'/\v= .tuple #[]/\ ∃N,Lk A N/\Ke K N (S.JD b x) Fr L'):=by
 obtain⟨Y,V⟩:=oS;obtain⟨X,U⟩:=sQ;constructor;intro O F M g s K A S Fr L b x W o hb a G hm hw;have J:At L b 5 (.int .i64 (x.lv:Int)):=o.pat hb (i:=5) rfl;have C:At L b 6 (.int .i64 (x.used:Int)):=o.pat hb (i:=6) rfl;have B:At L K x.lv (.int .i64 (S.sl x.lv)):=o.kat (Ha _ a);co_applyP ar 46 func86 ntmps86;co_applyP(aH);co_applyP(aC);co_applyP aI rfl;intro hc;co_applyP(zo);change∃v,Ko .. =some v/\_
 ·refine⟨_,rfl,rfl,rfl,A,Lk.refl A, ?_⟩;have:(x.used:Int)<S.sl x.lv:=by simpa using hc
  unfold St.JD;rw[if_pos this];exact o
 intro hc;have E: ¬(x.used:Int)<S.sl x.lv:=by simpa using hc
 have r:(if(2:Int)<IntKind.i64.wrap ((x.lv:Int)+1) then(2:Int) else IntKind.i64.wrap ((x.lv:Int)+1))=((min (x.lv+1) 2:Nat):Int):=by
  have:IntKind.i64.wrap ((x.lv:Int)+1)=(x.lv:Int)+1:=ag
  rw[this];split<;>omega
 co_applyP(aC);co_applyP oc rfl rfl rfl (V K A S Fr L b x o hb a (G _ a) hm (λe he=>hw e he _ a));rintro _ _ _ ⟨rfl,rfl,R,D,j⟩;have f:=j.pat hb (i:=5) rfl;have H:At _ b 5 (.int .i64 (x.lv:Int)):=f;clear f J C B;co_applyP(bQ);rw[r];co_applyP osm rfl (hs:=bJ) (hm:=j.p _ hb) (hi:=by first|decide|(rw[bq];omega)|(rw[bP];omega));intro Z T;have k:=j.ID (x':={x with lv:=min (x.lv+1) 2}) hb T;co_applyP(aC);co_applyP osm rfl (hs:=bJ) (hm:=k.p _ (ai hb)) (hi:=by first|decide|(rw[bq];omega)|(rw[bP];omega));intro P z;have m:=k.ID (x':={x with lv:=min (x.lv+1) 2,used:=0}) (ai hb) z;rw[bd] at m;have d:min (x.lv+1) 2<3:=bl
 co_applyP(aC);co_applyP oc rfl rfl rfl (U K R _ Fr P b _ W m (ai hb) d (by show (put S.rows x.lv ((S.rows x.lv).erase b) (min (x.lv+1) 2)).length<=8;unfold put;split;exact l6 (List.length_erase_le) (G _ a);exact G _ d) (λe he=>hw e he _ d));rintro _ _ _ ⟨rfl,rfl,Q,I,u⟩;co_applyP(zo);refine xI _ ⟨rfl,rfl,rfl,Q,D.trans I, ?_⟩;unfold St.JD;rw[if_neg E];exact u
theorem fF: ∀{l m:List Nat},l.Nodup->(∀x∈l,x∈m)->l.length<=m.length
 |[],_,_,_=>by simp
 |x::l,m,hn,hs=>by
  have a:=hs x eT;have d:=fF (l:=l) (m:=m.erase x) (x8.1 hn).2 λy b=>(List.mem_erase_of_ne λe=>(x8.1 hn).1 (by rw[<-e];exact b)).2 (hs y (dc _ b));have f:=List.length_erase_of_mem a;have g:=List.length_pos_of_mem a;simp only[gf];omega
def St.get (S:St)(b:Nat):Option PS:=(S.ps.find? λq=>q.1==b).map (·.2)
structure Good (S:St):Prop where
 pn:(S.ps.map (·.1)).Nodup
 p8:S.ps.length<=8
 lv: ∀q∈S.ps,q.2.lv<3
 rn: ∀l,l<3->(S.rows l).Nodup
 rm: ∀l,l<3-> ∀c∈S.rows l,∃y,(c,y)∈S.ps/\y.lv=l/\y.st=1
 rr: ∀q∈S.ps,q.2.st=1->q.1∈S.rows q.2.lv
section
variable {S:St}
theorem aY {b:Nat}{x:PS}(hn:(S.ps.map (·.1)).Nodup)(h:(b,x)∈S.ps):S.get b=some x:=by
 unfold St.get;cases a:S.ps.find? λq=>q.1==b with
 |none=>
  have:=sS.1 a (b,x) h;simp at this
 |some q=>
  have d:=Ox a;have f:=OU a;obtain⟨c,y⟩:=q;have e:c=b:=by simpa using f
  subst e;simp[aS hn d h]
theorem ba {b:Nat}{x:PS}(h:S.get b=some x):(b,x)∈S.ps:=by
 unfold St.get at h;obtain⟨q,a,rfl⟩:=pA.1 h;have d:=OU a;have e:q.1=b:=by simpa using d
 subst e;exact Ox a
theorem Good.r8 (h:Good S){l:Nat}(hl:l<3):(S.rows l).length<=8:=by
 have:=fF (m:=S.ps.map (·.1)) (h.rn l hl) λc hc=>by
  obtain⟨y,a,_⟩:=h.rm l hl c hc;exact cm.2 ⟨_,a,rfl⟩
 have b:=h.p8;simp at this;omega
theorem Good.ex (h:Good S){l:Nat}(hl:l<3): ∀c∈S.rows l,∃y,(c,y)∈S.ps:=λc hc=>by
 obtain⟨y,a,_⟩:=h.rm l hl c hc;exact⟨y,a⟩
theorem cU (k:Nat×Nat){l:Nat}(hl:l<3):slot k≠l+1:=by unfold slot;omega
def St.IV (S:St)(b:Nat)(x:PS):St:=(S.ID b {x with st:=1,used:=0}).setRow x.lv (S.rows x.lv++[b])
theorem Good.IV (h:Good S){b:Nat}{x:PS}(hb:(b,x)∈S.ps)(hs:x.st≠1):Good (S.IV b x):=by
 have g:=h.lv _ hb;have m: ∀l,l<3->b∉S.rows l:=λl j hm=>by
  obtain⟨y,o,_,d⟩:=h.rm l j b hm;rw[aS h.pn hb o] at hs;exact hs d
 have f: ∀l,(S.IV b x).rows l=if l=x.lv then S.rows x.lv++[b] else S.rows l:=λl=>rfl;refine⟨by unfold St.IV St.setRow;rw[aV];exact h.pn,by unfold St.IV St.setRow;rw[fC];exact h.p8,λq p=> ?_,λl j=> ?_,λl j c hc=> ?_,λq p d=> ?_⟩
 ·rcases aN p with rfl|⟨d,_⟩
  ·exact g
  ·exact h.lv q d
 ·rw[f]
  split
  ·rename_i e;refine ss.2 ⟨h.rn _ g,bE,λa s c hc=> ?_⟩;simp at hc;subst hc;exactλe=>m _ g (e▸s)
  ·exact h.rn l j
 ·rw[f] at hc;have old: ∀i,i<3->c∈S.rows i-> ∃y,(c,y)∈(S.ID b {x with st:=1,used:=0}).ps/\y.lv=i/\y.st=1:=λi n k=>by
   obtain⟨y,o,d,r⟩:=h.rm i n c k;refine⟨y, ?_,d,r⟩;simp only[St.ID,cm];refine⟨(c,y),o, ?_⟩;rw[if_neg];rintro rfl;exact m i n k
  split at hc
  ·rename_i e;subst e;rcases cE.1 hc with d|d
   ·exact old _ j d
   ·simp at d;subst d;exact⟨_,ai hb,rfl,rfl⟩
  ·exact old l j hc
 ·rw[f];rcases aN p with rfl|⟨r,u⟩
  ·simp
  ·have:=h.rr q r d
   split
   ·rename_i e;rw[e] at this;exact nx _ this
   ·exact this
end
def St.IF (S:St):List Nat->St
 |[]=>S
 |b::bs=>St.IF (match S.get b with
  |some x=>if x.st=3/\x.til=S.now then S.IV b x else S
  |none=>S) bs
theorem oT (S:St)(l m:List Nat):S.IF (l++m)=(S.IF l).IF m:=by
 induction l generalizing S with
 |nil=>rfl
 |cons b l ih=>simp only[sc,St.IF];exact ih _
structure N5 (S S':St):Prop where
 f:S'.ps.map (·.1)=S.ps.map (·.1)
 now:S'.now=S.now
theorem N5.refl (S:St):N5 S S:=⟨rfl,rfl⟩
theorem nD (S:St)(b:Nat)(x:PS):N5 S (S.IV b x):=⟨aV S b _,rfl⟩
theorem gB: ∃n,∀{σ}{F:Kn σ}{Δ:DM F}{C s}(K:Nat)(A:Kq)(S:St)(Fr L:Ka),(∀cs,(Δ s).New (.cells cs 93))->Ke K A S Fr L->Good S->
 Kb Δ prog C 80 [ptr K].toArray n s L (λs' v L'=>s=s'/\v= .tuple #[]/\Good (S.IF (S.ps.map (·.1)))/\N5 S (S.IF (S.ps.map (·.1)))/\ ∃u,Lk A u/\Ke K u (S.IF (S.ps.map (·.1))) Fr L'):=by
 obtain⟨n1,g1⟩:=lO;constructor;intro σ F Δ C s K A S Fr L hN P hG;obtain⟨r,cap,hv,J⟩:=bH P.pa;simp only[ia] at hv;have h5:At L K 5 (.slice r S.ps.length cap):=by rw[<-hv];exact P.kat rfl
 co_applyP ar 34 func80 ntmps80;co_applyP(bm);co_applyP aU (λk s' H L'=>s'=s/\ ∃g B u,S.ps=g++B/\Lk A u/\Ke K u (S.IF (g.map (·.1))) Fr L'/\Good (S.IF (g.map (·.1)))/\N5 S (S.IF (g.map (·.1)))/\k+g.length=8/\kn H [(9, .int .i64 g.length),(8, .int .i64 S.ps.length),(7, .slice r S.ps.length cap),(0,ptr K)]) 8
 ·exact⟨rfl,[],S.ps,A,rfl,Lk.refl A,P,hG,N5.refl S,rfl,rfl⟩
 rintro k s' H L' ⟨rfl,g,B,u,E,O,m,j,p,hk,he⟩;co_applyP aA he;have o:=congrArg List.length E;simp only[mb] at o;have h8:=P.p8;co_applyP(ax);co_applyP aK;co_applyP aI rfl;intro hc
 ·cases B with
  |nil=>simp at hc o;omega
  |cons q B=>
   have a': ∃b,r=some ⟨b,0,none⟩/\At L' b g.length (ptr q.1):=by
    obtain⟨b,d',X,_⟩:=J g.length (ptr q.1) (by rw[E];simp);have c':=m.pa;obtain⟨Y,e',_,G⟩:=bH c';have e1:(S.IF (g.map (·.1))).ps.map (λq=>ptr q.1)=S.ps.map λq=>ptr q.1:=by
     have:=congrArg (List.map ptr) p.f;rw[kt,kt] at this;exact this
    obtain⟨b',z,_,Z⟩:=G g.length (ptr q.1) (by rw[e1,E];simp);rw[O.a 0 (.inl rfl),d'] at z;obtain rfl:b=b':=by simpa using z
    exact⟨b,X,Z⟩
   obtain⟨ab,rfl,h'⟩:=a';simp at o;have M:q.1∈(S.IF (g.map (·.1))).ps.map (·.1):=by rw[p.f,E];simp
   obtain⟨⟨b,x⟩,l,V⟩:=cm.1 M;have N:b=q.1:=V;subst N;have i':At L' q.1 2 (.int .i64 (x.st:Int)):=m.pat l (i:=2) rfl;have g':At L' q.1 91 (.int .i64 x.til):=m.pat l (i:=91) rfl;have f':At L' K 16 (.int .i64 ((S.IF (g.map (·.1))).now:Int)):=m.kat rfl;have I:=aY j.pn l;co_applyP(aO);co_applyP aK;co_applyP ct ([(29, .bool (decide (x.st=3/\x.til=(S.IF (g.map (·.1))).now))),(3,ptr q.1),(9, .int .i64 g.length),(8, .int .i64 S.ps.length),(7, .slice (some ⟨ab,0,none⟩) S.ps.length cap),(0,ptr K)]);co_applyP(aO)
   ·by_cases T:x.st=3
    ·have Q:((x.st:Int)==3)=true:=by simp[T]
     rw[Q];co_applyP tr 7 rfl (bk) pI;co_applyP(aP);change _=_/\_=_/\kn _ _;refine⟨rfl,rfl, ?_⟩;have U:(x.til==((S.IF (g.map (·.1))).now:Int))=decide (x.st=3/\x.til=(S.IF (g.map (·.1))).now):=by rw[OR];simp[T]
     rw[<-U];rfl
    ·have Q:((x.st:Int)==3)=false:=ao
     rw[Q];co_applyP tu 7 rfl pI;co_applyP(aP);change _=_/\_=_/\kn _ _;refine⟨rfl,rfl, ?_⟩;have U:false=decide (x.st=3/\x.til=(S.IF (g.map (·.1))).now):=by simp[T]
     rw[<-U];rfl
   have d:S.IF ((g++[q]).map (·.1))=if x.st=3/\x.til=(S.IF (g.map (·.1))).now then(S.IF (g.map (·.1))).IV q.1 x else S.IF (g.map (·.1)):=by
    rw[l3,oT];show St.IF (match (S.IF (g.map (·.1))).get q.1 with|some x=>_|none=>_) []=_;rw[I];rfl
   have y:IntKind.i64.wrap ((g.length:Int)+1)=((g++[q]).length:Int):=ag
   co_applyP aI rfl;intro hw;co_applyP(ax);co_applyP oc rfl rfl rfl (g1 K u _ Fr L' q.1 x hN m l (j.lv _ l) (j.r8 (j.lv _ l)) (λe _=>cU _ (j.lv _ l)));rintro _ _ _ ⟨rfl,rfl,A2,W,R⟩;co_applyP(au);change∃k',k'<_/\_;have D:x.st=3/\x.til=(S.IF (g.map (·.1))).now:=by simpa using hw
   rw[if_pos D] at d;refine⟨k-1,bl,rfl,g++[q],B,A2,by simp[E],O.trans W, ?_, ?_, ?_,by simp;omega, ?_⟩
   ·rw[d];exact R
   ·rw[d];exact j.IV l bl
   ·rw[d];exact⟨(nD _ _ _).f.trans p.f,(nD _ _ _).now.trans p.now⟩
   ·rw[<-y];rfl
   intro hw;co_applyP(au);change∃k',k'<_/\_;have D: ¬(x.st=3/\x.til=(S.IF (g.map (·.1))).now):=by simpa using hw
   rw[if_neg D] at d;refine⟨k-1,bl,rfl,g++[q],B,u,by simp[E],O, ?_, ?_, ?_,by simp;omega, ?_⟩
   ·rw[d];exact m
   ·rw[d];exact j
   ·rw[d];exact p
   ·rw[<-y];rfl
 intro hc;co_applyP(zo);change∃v,Ko .. =some v/\_;cases B with
 |nil=>
  have e:g=S.ps:=by rw[E];simp
  subst e;exact⟨_,rfl,rfl,rfl,j,p,u,O,m⟩
 |cons q B=>simp at hc o;omega
theorem kS {a:Type}(A:List a)(n:Nat)(f:Nat->a)(C:List a){i:Nat}(hi:i<n)(v:a):(A++((List.range n).map f++C)).set (A.length+i) v=A++((List.range n).map (put f i v)++C):=by
 rw[List.set_append_right _ _ (Ot _ _),O8,List.set_append_left _ _ (by simpa using hi)];congr 2;apply List.ext_getElem
 ·simp
 ·intro j b d;simp only[List.getElem_set,List.getElem_map,List.getElem_range,put]
  split
  ·rename_i e;simp[e]
  ·rename_i e;simp[ft e]
theorem kT {a:Type}(A:List a)(n:Nat)(f:Nat->a)(C:List a){i:Nat}(hi:i<n):(A++((List.range n).map f++C))[A.length+i]? =some (f i):=by
 rw[Oy (Ot _ _),O8,rD (by simpa using hi)];simp[hi]
section
variable (x:PS)
def Nd:List Value:=[.int .i64 x.id, .int .i64 x.par, .int .i64 x.st, .int .i64 x.stat, .int .i64 x.at_, .int .i64 x.lv, .int .i64 x.used]
def Nm:List Value:=(List.range 6).flatMap (λi=>[.int .i64 (x.f i).1, .int .i64 (x.f i).2])++[.int .i64 x.til]
theorem lQ:Kg x=(Nd x++((List.range 8).map (λi=>Value.int .u16 (x.r i))++((List.range 64).map (λi=>Value.int .u8 (x.m i))++Nm x))).toArray:=rfl
theorem lR:Kg x=((Nd x++(List.range 8).map (λi=>Value.int .u16 (x.r i)))++((List.range 64).map (λi=>Value.int .u8 (x.m i))++Nm x)).toArray:=by rw[lQ,r5]
theorem bu {i:Nat}(hi:i<8):(Kg x)[7+i]? =some (.int .u16 (x.r i)):=by
 rw[lQ,nw];exact kT (Nd x) 8 _ _ hi
theorem yG {i:Nat}(hi:i<64):(Kg x)[15+i]? =some (.int .u8 (x.m i)):=by
 rw[lR,nw];exact kT (Nd x++(List.range 8).map (λi=>Value.int .u16 (x.r i))) 64 _ _ hi
theorem dR {i:Nat}(hi:i<8)(v:Int):(Kg x).setIfInBounds (7+i) (.int .u16 v)=Kg {x with r:=put x.r i v}:=by
 rw[lQ,OB];have h:=kS (Nd x) 8 (λi=>Value.int .u16 (x.r i)) ((List.range 64).map (λi=>Value.int .u8 (x.m i))++Nm x) hi (.int .u16 v);have e:put (λi=>Value.int .u16 (x.r i)) i (.int .u16 v)=λj=>Value.int .u16 (put x.r i v j):=by funext j;unfold put;split<;>rfl
 rw[e] at h;exact congrArg List.toArray h
theorem yH {i:Nat}(hi:i<64)(v:Int):(Kg x).setIfInBounds (15+i) (.int .u8 v)=Kg {x with m:=put x.m i v}:=by
 rw[lR,OB];have h:=kS (Nd x++(List.range 8).map (λi=>Value.int .u16 (x.r i))) 64 (λi=>Value.int .u8 (x.m i)) (Nm x) hi (.int .u8 v);have e:put (λi=>Value.int .u8 (x.m i)) i (.int .u8 v)=λj=>Value.int .u8 (put x.m i v j):=by funext j;unfold put;split<;>rfl
 rw[e] at h;rw[lR];exact congrArg List.toArray h
end
structure WF (x:PS):Prop where
 r: ∀i,i<8->0<=x.r i/\x.r i<65536
 m: ∀i,i<64->0<=x.m i/\x.m i<256
theorem bC (n:Int):IntKind.u16.wrap n=n%65536:=by simp[IntKind.wrap,IntKind.bits,IntKind.signed]
theorem kU (n:Int):IntKind.u8.wrap n=n%256:=by simp[IntKind.wrap,IntKind.bits,IntKind.signed]
def PS.do (x:PS)(op a b c:Int):Except Nat PS:=
 let ra:=(a%8).toNat
 let rb:=(b%8).toNat
 let k:=(b+256*c)%65536
 let y:={x with at_:=x.at_+1}
 if op=1 then .ok {y with r:=put x.r ra k}
 else if op=2 then .ok {y with r:=put x.r ra (x.r rb)}
 else if op=3 then .ok {y with r:=put x.r ra ((x.r ra+x.r rb)%65536)}
 else if op=4 then .ok {y with r:=put x.r ra ((x.r ra-x.r rb)%65536)}
 else if op=5 then .ok {y with at_:=if x.r ra=0 then k.toNat else x.at_+1}
 else if op=6 then .ok {y with at_:=k.toNat}
 else if op=7 then if x.r rb+c<64 then .ok {y with r:=put x.r ra (x.m (x.r rb+c).toNat)} else .error 10
 else if op=8 then if x.r rb+c<64 then .ok {y with m:=put x.m (x.r rb+c).toNat (x.r ra%256)} else .error 10
 else .error 1
abbrev NC (op a b c:Int):Value:= .agg #[.int .u8 op, .int .u8 a, .int .u8 b, .int .u8 c]
theorem k_s: ∃n,∀{i}{F:Kn i}{f:DM F}{d s}(L:Ka)(op a b c:Int),(∀cs,(f s).New (.cells cs 158))->0<=b/\b<256->0<=c/\c<256->
 Kb f prog d 113 [NC op a b c].toArray n s L (λs' v L'=>s=s'/\v= .int .u16 ((b+256*c)%65536)/\K5 L'/\ ∀t∈L,t∈L'):=by
 constructor;intro i F f d s L op a b c j hb hc;co_applyP ar 11 func113 ntmps113;co_applyP iV;intro k;co_applyP(zo);co_applyP oe rfl (bA (j _));rintro _ _ ⟨l,e,rfl,rfl⟩;co_applyP(dE);change∃v,Ko .. =some v/\_;have g:=cT (o:= .cells #[.int .u8 op, .int .u8 a, .int .u8 b, .int .u8 c] 158) k e;refine⟨_,rfl,rfl, ?_,g.fn,g.sub⟩;simp only[bC];congr 1;omega
theorem BG: ∃n,∀{f}{F:Kn f}{e:DM F}{a s}(L:Ka)(p:Value)(b c:Int)(d:Value),0<=b/\b<65536->0<=c/\c<256->At L 10 0 d->
 Kb e prog a 114 [p, .int .u16 b, .int .u8 c].toArray n s L (λs' v L'=>s=s'/\L=L'/\v= .tuple #[.int .i64 (if b+c<64 then b+c else 0),if b+c<64 then .nilIface else d]):=by
 constructor;intro f F e a s L p b c d hb hc g;have w1:IntKind.i64.wrap b=b:=ag
 have w2:IntKind.i64.wrap c=c:=ag
 have w3:IntKind.i64.wrap (b+c)=b+c:=ag
 co_applyP ar 18 func114 ntmps114;co_applyP(aH);co_applyP(ay);change Kw ..;simp only[w1,w2,w3];co_applyP aI rfl;intro hc;co_applyP(aR);change∃v,Ko .. =some v/\_
 ·refine⟨_,rfl,rfl,rfl, ?_⟩;have: ¬b+c<64:=by simp at hc;omega
  rw[if_neg this,if_neg this]
 intro hc;co_applyP(aR);refine xI _ ⟨rfl,rfl,rfl, ?_⟩;have:b+c<64:=by simp at hc;omega
 rw[if_pos this,if_pos this]
theorem eJ {S:St}{b:Nat}{x:PS}(hn:(S.ps.map (·.1)).Nodup)(h:(b,x)∈S.ps):S.ID b x=S:=by
 have:(S.ps.map λq=>if q.1=b then(b,x) else q)=S.ps:=by
  conv=>rhs;rw[<-List.map_id S.ps]
  apply k0;rintro⟨c,y⟩ a;by_cases e:c=b
  ·subst e;simp[aS hn h a]
  ·simp[e]
 unfold St.ID;rw[this]
def NO (e0 e1 e10:Value):Nat->Value
 |0=>e0
 |1=>e1
 |_=>e10
theorem It: ∃n,∀{σ}{F:Kn σ}{Δ:DM F}{U s}(K:Nat)(A:Kq)(S:St)(Fr L:Ka)(b:Nat)(x:PS)(op C k d:Int)(e0 e1 o:Value),(∀cs,(Δ s).New (.cells cs 158))->Ke K A S Fr L->(b,x)∈S.ps->WF x->x.at_<256->0<=C/\C<256->0<=k/\k<256->0<=d/\d<256->(∀i∈[0,1,10],∃fl cs ty fr,(i,fl,Obj.cells cs ty fr)∈Fr/\cs[0]? =some (NO e0 e1 o i))->(∃t w,o= .iface t w)->
 Kb Δ prog U 96 [ptr b,NC op C k d].toArray n s L (λs' v L'=>s=s'/\match x.do op C k d with
  | .ok x'=>v= .nilIface/\Ke K A (S.ID b x') Fr L'
  | .error e=>v=NO e0 e1 o e/\Ke K A S Fr L'):=by
 obtain⟨n1,g1⟩:=k_s;obtain⟨n2,g2⟩:=BG;constructor;intro σ F Δ U s K A S Fr L b x op C k d e0 e1 o hN hR hb hx m' ha Y M hg R;have gl: ∀(L:Ka),Ke K A S Fr L-> ∀i∈[0,1,10],At L i 0 (NO e0 e1 o i):=λL h i O=>by
  obtain⟨fl,cs,ty,fr,h1,h2⟩:=hg i O;exact⟨fl,cs,ty,fr,h.fr _ h1,h2⟩
 obtain⟨u,l⟩: ∃u,u=(C%8).toNat:=⟨_,rfl⟩;obtain⟨f,j⟩: ∃f,f=(k%8).toNat:=⟨_,rfl⟩;have B:u<8:=bl
 have T:f<8:=bl
 have ea:(IntKind.i64.wrap C).tmod 8=(u:Int):=by
  have:IntKind.i64.wrap C=C:=ag
  rw[this,OP bl];omega
 have eb:(IntKind.i64.wrap k).tmod 8=(f:Int):=by
  have:IntKind.i64.wrap k=k:=ag
  rw[this,OP bl];omega
 have en:IntKind.i64.wrap ((x.at_:Int)+1)=((x.at_+1:Nat):Int):=ag
 have j':=hx.r u B;have b':=hx.r f T;co_applyP ar 130 func96 ntmps96;co_applyP(zo);co_applyP bB rfl (bA (hN _));intro nb H hA;have a:=hR.add hA;have Q:=hA.self;have P: ∀i v,(#[Value.int .u8 op, .int .u8 C, .int .u8 k, .int .u8 d])[i]? =some v->At H nb i v:=λi v h=>⟨true,_,_,_,Q,h⟩;have h':=P 0 _ rfl;have q':=P 1 _ rfl;have g':=P 2 _ rfl;have p':=P 3 _ rfl;have e':At H b (7+((IntKind.i64.wrap k).tmod 8).toNat) (.int .u16 (x.r f)):=by
  rw[eb];exact a.pat hb (bu x T)
 have f':At H b 4 (.int .i64 (x.at_:Int)):=a.pat hb (i:=4) rfl;co_applyP(aH);co_applyP(aH);co_applyP(aO);co_applyP aA (ε':=[(0,ptr b),(3,ptr nb),(5, .pointer (some ⟨b,7+u,none⟩)),(6, .int .u16 (x.r f)),(7, .int .i64 ((x.at_+1:Nat):Int))]) (by rw[<-en];unfold kn;simp only[ea,eb,O2];rfl);clear e' f';have k':At H b (7+u) (.int .u16 (x.r u)):=a.pat hb (bu x B);have ek:IntKind.i64.wrap ((k+256*d)%65536)=((((k+256*d)%65536).toNat:Nat):Int):=by simp[IntKind.wrap_i64];omega
 have E:S.ID b x=S:=eJ hR.pn hb;co_applyP bL (λs' V L'=>s=s'/\ ∃(y:PS) (G:Nat),Ke K A (S.ID b y) Fr L'/\kn V [(0,ptr b),(7, .int .i64 (G:Int))]/\x.do op C k d= .ok {y with at_:=G});co_applyP(bm);co_applyP aI rfl;intro c1;co_applyP(ay)
 ·have h1:op=1:=by simpa using c1
  co_applyP oy rfl (aW (ht:=iC) (hs:=dz) (hm:=Q) (hi:=cD _));co_applyP oc rfl rfl rfl (g1 H op C k d hN Y M);rintro _ _ _ ⟨rfl,rfl,J,N⟩;have I:=a.of J N;co_applyP(zo);co_applyP osm rfl (hs:=bh) (hm:=I.p _ hb) (hi:=by first|decide|(rw[bq];omega)|(rw[bP];omega));intro L2 g;rw[dR x B] at g;have z:=I.ID (x':={x with r:=put x.r u ((k+256*d)%65536)}) hb g;co_applyP(zo);change _=_/\ ∃(y:PS) (G:Nat),_;exact⟨rfl,{x with r:=put x.r u ((k+256*d)%65536)},x.at_+1,z,rfl,by unfold PS.do;simp[h1,l,j]⟩
 intro c1;co_applyP(av);change Kw ..;have n1: ¬op=1:=by simpa using c1
 co_applyP aI rfl;intro c2;co_applyP(av)
 ·have h2:op=2:=by simpa using c2
  co_applyP osm rfl (hs:=bh) (hm:=a.p _ hb) (hi:=by first|decide|(rw[bq];omega)|(rw[bP];omega));intro L2 g;rw[dR x B] at g;have z:=a.ID (x':={x with r:=put x.r u (x.r f)}) hb g;co_applyP(zo);change _=_/\ ∃(y:PS) (G:Nat),_;exact⟨rfl,{x with r:=put x.r u (x.r f)},x.at_+1,z,rfl,by unfold PS.do;simp[h2,l,j]⟩
 intro c2;co_applyP(av);change Kw ..;have n2: ¬op=2:=by simpa using c2
 co_applyP aI rfl;intro c3;co_applyP(aR)
 ·have h3:op=3:=by simpa using c3
  co_applyP osm rfl (hs:=bh) (hm:=a.p _ hb) (hi:=by first|decide|(rw[bq];omega)|(rw[bP];omega));intro L2 g;rw[bC,dR x B] at g;have z:=a.ID (x':={x with r:=put x.r u ((x.r u+x.r f)%65536)}) hb g;co_applyP(zo);change _=_/\ ∃(y:PS) (G:Nat),_;exact⟨rfl,{x with r:=put x.r u ((x.r u+x.r f)%65536)},x.at_+1,z,rfl,by unfold PS.do;simp[h3,l,j]⟩
 intro c3;co_applyP(av);change Kw ..;have n3: ¬op=3:=by simpa using c3
 co_applyP aI rfl;intro c4;co_applyP(aR)
 ·have h4:op=4:=by simpa using c4
  co_applyP osm rfl (hs:=bh) (hm:=a.p _ hb) (hi:=by first|decide|(rw[bq];omega)|(rw[bP];omega));intro L2 g;rw[bC,dR x B] at g;have z:=a.ID (x':={x with r:=put x.r u ((x.r u-x.r f)%65536)}) hb g;co_applyP(zo);change _=_/\ ∃(y:PS) (G:Nat),_;exact⟨rfl,{x with r:=put x.r u ((x.r u-x.r f)%65536)},x.at_+1,z,rfl,by unfold PS.do;simp[h4,l,j]⟩
 intro c4;co_applyP(av);change Kw ..;have n4: ¬op=4:=by simpa using c4
 co_applyP aI rfl;intro c5;co_applyP(aC);change Kw ..
 ·have h5:op=5:=by simpa using c5
  co_applyP aI rfl;intro cz;co_applyP(zo);co_applyP oy rfl (aW (ht:=iC) (hs:=dz) (hm:=Q) (hi:=cD _));co_applyP oc rfl rfl rfl (g1 H op C k d hN Y M);rintro _ _ _ ⟨rfl,rfl,J,N⟩;have I:=a.of J N;co_applyP(ax);change _=_/\ ∃(y:PS) (G:Nat),_;rw[ek];exact⟨rfl,x,((k+256*d)%65536).toNat,by rw[E];exact I,rfl,by unfold PS.do;simp[h5,l,j,show x.r (C%8).toNat=0 from by rw[<-l];simpa using cz]⟩;intro cz;co_applyP(zo);change _=_/\ ∃(y:PS) (G:Nat),_;exact⟨rfl,x,x.at_+1,by rw[E];exact a,rfl,by unfold PS.do;simp[h5,l,j,show¬x.r (C%8).toNat=0 from by rw[<-l];simpa using cz]⟩
 intro c5;co_applyP(av);change Kw ..;have n5: ¬op=5:=by simpa using c5
 co_applyP aI rfl;intro c6;co_applyP(zo)
 ·have h6:op=6:=by simpa using c6
  co_applyP oy rfl (aW (ht:=iC) (hs:=dz) (hm:=Q) (hi:=cD _));co_applyP oc rfl rfl rfl (g1 H op C k d hN Y M);rintro _ _ _ ⟨rfl,rfl,J,N⟩;have I:=a.of J N;co_applyP(ax);change _=_/\ ∃(y:PS) (G:Nat),_;rw[ek];exact⟨rfl,x,((k+256*d)%65536).toNat,by rw[E];exact I,rfl,by unfold PS.do;simp[h6,l,j]⟩
 intro c6;co_applyP(av);change Kw ..;have n6: ¬op=6:=by simpa using c6
 co_applyP aI rfl;intro c7;co_applyP(au)
 ·have h7:op=7:=by simpa using c7
  co_applyP oc rfl rfl rfl (g2 H (ptr b) (x.r f) d o b' M (gl H a 10 bE));rintro _ _ _ ⟨rfl,rfl,rfl⟩;co_applyP(bm);co_applyP oy rfl (dN (v:=if x.r f+d<64 then .nilIface else o) (c:=decide (x.r f+d<64)) (hv:=by by_cases hm:x.r f+d<64;exact .inl ⟨by rw[if_pos hm],by simp[hm]⟩;obtain⟨t,w,e⟩:=R;exact .inr ⟨t,w,by rw[if_neg hm,e],by simp[hm]⟩) (hu:=underlying168));co_applyP(zo);co_applyP aI rfl;intro W;co_applyP(au);change∃v,Ko .. =some v/\_;have hm: ¬x.r f+d<64:=by simpa using W
  refine⟨_,rfl,rfl, ?_⟩;have D:x.do op C k d= .error 10:=by unfold PS.do;simp[h7,l,j,show¬x.r (k%8).toNat+d<64 from by rw[<-j];exact hm]
  rw[D];refine⟨?_,a⟩;show (if x.r f+d<64 then Value.nilIface else o)=o;rw[if_neg hm];intro W;have hm:x.r f+d<64:=by simpa using W
  have X:x.r (k%8).toNat+d<64:=by rw[<-j];exact hm
  simp only[if_pos hm];have n':At H b (15+(x.r f+d).toNat) (.int .u8 (x.m (x.r f+d).toNat)):=a.pat hb (yG x bl);have i':=hx.m (x.r f+d).toNat bl;have d':IntKind.u16.wrap (x.m (x.r f+d).toNat)=x.m (x.r f+d).toNat:=by rw[bC];omega
  co_applyP(bf);rw[d'];co_applyP osm rfl (hs:=bh) (hm:=a.p _ hb) (hi:=by first|decide|(rw[bq];omega)|(rw[bP];omega));intro L2 g;rw[dR x B] at g;have z:=a.ID (x':={x with r:=put x.r u (x.m (x.r f+d).toNat)}) hb g;co_applyP(zo);change _=_/\ ∃(y:PS) (G:Nat),_;exact⟨rfl,{x with r:=put x.r u (x.m (x.r f+d).toNat)},x.at_+1,z,rfl,by unfold PS.do;simp[h7,l,j,X]⟩
 intro c7;co_applyP(av);change Kw ..;have n7: ¬op=7:=by simpa using c7
 co_applyP aI rfl;intro c8;co_applyP(au)
 ·have h8:op=8:=by simpa using c8
  co_applyP oc rfl rfl rfl (g2 H (ptr b) (x.r f) d o b' M (gl H a 10 bE));rintro _ _ _ ⟨rfl,rfl,rfl⟩;co_applyP(bm);co_applyP oy rfl (dN (v:=if x.r f+d<64 then .nilIface else o) (c:=decide (x.r f+d<64)) (hv:=by by_cases hm:x.r f+d<64;exact .inl ⟨by rw[if_pos hm],by simp[hm]⟩;obtain⟨t,w,e⟩:=R;exact .inr ⟨t,w,by rw[if_neg hm,e],by simp[hm]⟩) (hu:=underlying168));co_applyP(zo);co_applyP aI rfl;intro W;co_applyP(au);change∃v,Ko .. =some v/\_;have hm: ¬x.r f+d<64:=by simpa using W
  refine⟨_,rfl,rfl, ?_⟩;have D:x.do op C k d= .error 10:=by unfold PS.do;simp[h8,l,j,show¬x.r (k%8).toNat+d<64 from by rw[<-j];exact hm]
  rw[D];refine⟨?_,a⟩;show (if x.r f+d<64 then Value.nilIface else o)=o;rw[if_neg hm];intro W;have hm:x.r f+d<64:=by simpa using W
  have X:x.r (k%8).toNat+d<64:=by rw[<-j];exact hm
  simp only[if_pos hm];co_applyP(zo);co_applyP aM [] 9 (nf:=0) mixed;co_applyP(bm);co_applyP aF;intro hnd;co_applyP te (i:=9) rfl (bX (hnd:=hnd) (hm:=a.p _ hb) (hi:=by rw[bq];omega) (hs:=cP));rintro _ _ ⟨rfl,g⟩;refine⟨aj bE, ?_⟩;rw[kU,yH x bl] at g;have z:=a.ID (x':={x with m:=put x.m (x.r f+d).toNat (x.r u%256)}) hb g;co_applyP(zo);change _=_/\ ∃(y:PS) (G:Nat),_;exact⟨rfl,{x with m:=put x.m (x.r f+d).toNat (x.r u%256)},x.at_+1,z,rfl,by unfold PS.do;simp[h8,l,j,X]⟩
 intro c8;have n8: ¬op=8:=by simpa using c8
 have l':=gl H a 1 bE;co_applyP(au);refine xI _ ⟨rfl,rfl, ?_⟩;have D:x.do op C k d= .error 1:=by unfold PS.do;simp[n1,n2,n3,n4,n5,n6,n7,n8]
 rw[D];exact⟨rfl,a⟩;rintro s' V L' ⟨rfl,y,G,a',hk,D⟩;co_applyP aA hk;co_applyP(aC);co_applyP osm rfl (hs:=bJ) (hm:=a'.p _ (ai hb)) (hi:=by first|decide|(rw[bq];omega)|(rw[bP];omega));intro L3 c';have Z:=a'.ID (x':={y with at_:=G}) (ai hb) c';rw[bd] at Z;co_applyP(au);refine xI _ ⟨rfl,rfl, ?_⟩;rw[D];exact⟨rfl,Z⟩
theorem EL (k:Int)(e:Nat×Nat):KF prog (Instr.build 210 [(0, .int .i64 k),(1, .iface 255 (Mm e))].toArray) []=some (.agg #[.int .i64 k, .iface 255 (Mm e)],[]):=bD
abbrev LZ (eb:Nat->Nat×Nat)(i:Nat):Value:= .iface 255 (Mm (eb i))
structure NewE {R:World->World->Prop}{D:World->World->Array Event->Prop}(Δ:Ma R D):Prop where
 a: ∀cs,Δ.New (.cells cs 180)
 b: ∀cs,Δ.New (.cells cs 182)
 c: ∀cs,Δ.New (.cells cs 196)
 d: ∀cs,Δ.New (.cells cs 210)
theorem sR: ∃n,∀{k}{F:Kn k}{i:DM F}{d s}(L:Ka)(eb:Nat->Nat×Nat)(b:Nat)(e:Nat×Nat),NewE (i s)->KZ eb L->
 Kb i prog d 93 [ptr b, .iface 255 (Mm e)].toArray n s L (λs' v L'=>s=s'/\v= .bool false/\K5 L'/\ ∀t∈L,t∈L'):=by
 obtain⟨y,p⟩:=Ip;constructor;intro k F i d s L eb b e g o;have f: ∀ms:Array (String×TypeId),TypeDesc.pointer 180≠ .interface ms:=λ_=>by simp
 co_applyP ar 17 func93 ntmps93;co_applyP(av);co_applyP bB rfl (eN (z:= .pointer none) (g.a _));intro t u j;co_applyP(zo);co_applyP aK (n₂:=0);co_applyP(ay);co_applyP oy rfl (iU f (ht:=underlying182));co_applyP oc rfl rfl rfl (p u e t g.c g.b (o.mono j.sub).t);rintro _ _ _ ⟨rfl,rfl,r,l⟩;co_applyP(aR);exact xI _ ⟨rfl,rfl,rfl,r,λx m=>l _ (j.sub _ m)⟩
theorem lS: ∃n,∀{J}{F:Kn J}{C:DM F}{d s}(K:Nat)(A:Kq)(S:St)(Fr L:Ka)(eb:Nat->Nat×Nat)(b:Nat)(x:PS)(r i:Nat),NewE (C s)->Ke K A S Fr L->KZ eb Fr->(b,x)∈S.ps->At L r 1 (LZ eb i)->i<11->i≠2->
 Kb C prog d 93 [ptr b, .iface 180 (ptr r)].toArray n s L (λs' v L'=>s=s'/\v= .bool true/\Ke K A (S.ID b {x with r:=put x.r 0 (KB i)}) Fr L'):=by
 obtain⟨V,Q⟩:=Iq;obtain⟨U,M⟩:=yD;constructor;intro J F C d s K A S Fr L eb b x r i k I H hb P D l;have e: ∀ms:Array (String×TypeId),TypeDesc.pointer 180≠ .interface ms:=λ_=>by simp
 co_applyP ar 17 func93 ntmps93;co_applyP(av);co_applyP bB rfl (eN (z:= .pointer none) (k.a _));intro t R j;co_applyP(av);co_applyP oy rfl (iU e (ht:=underlying182));co_applyP oc rfl rfl rfl (Q R r t (.pointer none) k.c k.b ((H.mono I.fr).mono j.sub).t k.a j.self);rintro _ _ _ ⟨rfl,rfl,T,W,E,m⟩;co_applyP(ay);change Kw ..;rename_i o;have g: ∀x∈L,x∈o:=λx G=>m.ne _ (E _ (j.sub _ G)) (j.new _ G);have f:=I.of m.fn g;have B:=H.mono f.fr;have u:=kQ P g;have N:At o t 0 (ptr r):=⟨true,_,_,_,m.self,rfl⟩;co_applyP(ax);co_applyP aM [] 2 mixed;co_applyP(ay);co_applyP tr 3 rfl bI pN;co_applyP(ay);co_applyP tc 2 rfl rfl rfl (M o eb r i B D l u);rintro _ _ _ ⟨rfl,rfl,rfl⟩;refine⟨aj bE, ?_⟩;co_applyP to 6 rfl ((cW U47 bh)) (aj bE);co_applyP aF;intro hnd;co_applyP te (i:=7) rfl (bX (hnd:=hnd) (hm:=f.p _ hb) (hi:=by rw[bq];omega) (hs:=bh));rintro _ _ ⟨rfl,y⟩;refine⟨aj bE, ?_⟩;co_applyP(au);refine xI _ ⟨rfl,rfl,rfl, ?_⟩;have O:(Kg x).setIfInBounds (7+0) (.int .u16 (KB i))=Kg {x with r:=put x.r 0 (KB i)}:=dR x bl _;exact f.ID hb (x':={x with r:=put x.r 0 (KB i)}) (O▸y)
theorem yI: ∃n,∀{d}{F:Kn d}{b:DM F}{a s}(L:Ka)(k:Int),
 Kb b prog a 111 [.int .i64 k, .nilIface].toArray n s L (λs' v L'=>s=s'/\L=L'/\v= .nilIface):=by
 constructor;intro d F b a s L k;co_applyP ar 12 func111 ntmps111;co_applyP(ax);co_applyP aK (n₂:=0);co_applyP(ay);co_applyP oy rfl (dN (v:= .nilIface) (c:=true) (hv:= .inl ⟨rfl,rfl⟩) (hu:=underlying168));co_applyP(aC);exact xI _ ⟨rfl,rfl,rfl,rfl⟩
theorem qO: ∃n,∀{f}{F:Kn f}{d:DM F}{a s}(L:Ka)(k:Int)(e:Nat×Nat),(∀cs,(d s).New (.cells cs 210))->
 Kb d prog a 111 [.int .i64 k, .iface 255 (Mm e)].toArray n s L (λs' v L'=>s=s'/\ ∃r,v= .iface 180 (ptr r)/\Add L r (.cells #[.int .i64 k, .iface 255 (Mm e)] 210) L'):=by
 constructor;intro f F d a s L k e g;have b: ∀ms:Array (String×TypeId),TypeDesc.pointer 210≠ .interface ms:=λ_=>by simp
 co_applyP ar 12 func111 ntmps111;co_applyP(aC);co_applyP oy rfl (dN (v:= .iface 255 (Mm e)) (c:=false) (hv:= .inr ⟨_,_,rfl,rfl⟩) (hu:=underlying168));co_applyP(aC);co_applyP oy rfl (aQ (EL k e));co_applyP bB rfl (bA (g _));intro r j i;co_applyP oy rfl (iU b (ht:=sH));co_applyP(ax);exact xI _ ⟨rfl,rfl,r,rfl,i⟩
end Go.Proofs.YtejkelcaljmnoaaGreatDoor
namespace Go.Hx
open Go.Conc
theorem oU {P:Program}{main:Bool}{b:Frame}{a:Act}{cs:List Frame}{w:World}{fn:Func}{todo:List Item}{c:Frame}{v:Value}(hn:b.kind= .normal)(hd:a.defers=[])(hf:P.funcs[b.fn]? =some fn)
 (hr:(results fn a.tmps).run P w= .ok v w): ∃es,stepG P main (G {b.at a todo with mode:= .returning} (c::cs)) w= .go (G (c.finish v) cs) w es/\ ∀e∈es,e∈(results fn a.tmps).events P w #[]:=
 ⟨_,by simp[G,stepG,unwind,doReturn,Frame.at,hn,hd,hf,hr,GStep.after];rfl,λ_ he=>mem_seen he⟩
end Go.Hx
namespace Go.Lo
open Go.Conc Go.Hx
def bodyLM {σ:Type}(P:Program)(g:Func)(Post:σ->Value->Ka->Prop):σ->Exit->Act->Ka->Prop
 |s, .normal,a,L|s, .ret,a,L=>a.defers=[]/\ ∃v,Kz P (results g a.tmps) (· =v) L/\Post s v L
 |_,_,_,_=>False
def MC {σ:Type}{F:Kn σ}(Δ: ∀s,Ma (F.R s) (F.D s)) (P:Program) (main:Bool) (f:FuncId) (args:Array Value) (n:Nat) (s:σ) (L:Ka) (Post:σ->Value->Ka->Prop):Prop:=
 ∃g c,P.funcs[f]? =some g/\(g.name== "runtime.NumGoroutine")=false/\g.body=some c/\Mz Δ P main f c n s (bodyLM P g Post) {tmps:=args++Array.replicate (g.ntmps-args.size) undef,defers:=[]} L
section
variable {σ:Type}{F:Kn σ}{Δ: ∀s,Ma (F.R s) (F.D s)} {P:Program} {main:Bool} {fn:FuncId} {s:σ} {a:Act} {L:Ka}
theorem sT {Q:σ->Exit->Act->Ka->Prop}{ops:Array Oper}{i:Nat}{rest:List Nat}{o:Oper}{f:FuncId}{args:Array Operand}{J:Array TypeId}{nf n:Nat}{Post:σ->Value->Ka->Prop}
 (ho:ops[i]? =some o) (hw:Region.wanted o (yielded ops a.tmps)=true) (K:o.op= .call {callee:= .value (.func f),args,argTypes:=J}) (hcall:MC Δ P main f (args.map a.eval) nf s L Post) (B: ∀s' v L',Post s' v L'->LN Δ P main fn ops rest n s' Q (a.put o.dst v) L'):LN Δ P main fn ops (i::rest) (n+nf+3) s Q a L:=by
 intro w W b k cs m hb N hc;obtain⟨g,c,M,x,y,I⟩:=hcall;have C: ∀v,(b.at a (.inRegion ops (i::rest)::k)).finish v=b.at (a.put o.dst v) (.inRegion ops rest::k):=λv=>by rw[Frame.finish_at,ho];rfl
 have p: ∀(s':σ)(A:Act)(z:World)(d:List Item),(∃L',(Δ s').Own L' z/\A.defers=[]/\ ∃v,Kz P (results g A.tmps) (· =v) L'/\Post s' v L')->
  Goes P main (F.R s') (F.D s') (F.Stop s') (m+n+1) (G {(base f).at A d with mode:= .returning} (b.at a (.inRegion ops (i::rest)::k)::cs)) z:=by
  rintro s' A z d ⟨L',E,U,v,V,O⟩;refine Goes.step rfl λr j=> ?_;obtain⟨T,S⟩:=oK (Δ s') ((Δ s').rely E j) V;obtain⟨es,H,hm⟩:=oU (main:=main) (cs:=cs) (todo:=d) (c:=b.at a (.inRegion ops (i::rest)::k)) (b:=base f) rfl U M T;rw[H,C];exact⟨(Δ s').dd ((Δ s').gr r) λe he=>S e (hm e he),(B s' v L' O z E b k cs m hb N hc).rely (F.terms s').trans j⟩
 have u:Goes P main (F.R s) (F.D s) (F.Stop s) (m+n+2+nf) (G ((base f).at {tmps:=args.map a.eval++Array.replicate (g.ntmps-(args.map a.eval).size) undef,defers:=[]} [.code c]) (b.at a (.inRegion ops (i::rest)::k)::cs)) w:=by
  refine I w W (base f) [] _ (m+n+2) rfl (by simp[base]) λs' e A z q=> ?_;obtain⟨L',E,q⟩:=q;cases e with
  |normal=>exact Goes.step rfl λr j=>by rw[stepG_end];exact⟨(F.terms s').idle _,(p s' A z [] ⟨L',E,q⟩).rely (F.terms s').trans j⟩
  |ret=>exactλd=>(p s' A z d ⟨L',E,q⟩).more
  |exit id=>exact q.elim
  |goto l=>exact q.elim
  |panic ch=>exact q.elim
  |outgrown=>exact q.elim
 have e:m+(n+nf+3)=(m+n+2+nf)+1:=bl
 rw[e];exact Goes.step rfl λr j=>goes_call ho hw N K M x y ⟨(F.terms s).idle _,u.rely (F.terms s).trans j⟩
end
def NP (P:Program)(g:Func)(ε:Env)(L:Ka)(v:Value):Prop:= ∃t ty b i n fl cs e,g.results.toList=[.cell t ty]/\look ε t=some (.pointer (some ⟨b,i,none⟩))/\Ku P ty=some true/\Kd P ty=some n/\(b,fl,Obj.cells cs e)∈L/\i+n<=cs.size/\v= .agg (cs.extract i (i+n))
def bodyM {σ:Type}(P:Program)(g:Func)(Post:σ->Value->Ka->Prop):σ->Exit->Env->Ka->Prop
 |s, .normal,ε,L|s, .ret,ε,L=> ∃v,NP P g ε L v/\Post s v L
 |_,_,_,_=>False
section
variable {σ:Type}{F:Kn σ}{Δ: ∀s,Ma (F.R s) (F.D s)} {P:Program} {main:Bool} {fn:FuncId} {N:Nat} {Q:σ->Exit->Env->Ka->Prop} {s:σ} {ε:Env} {L:Ka}
theorem BH {g:Func}{a:Act}{v:Value}(hf:Fits N ε a)(h:NP P g ε L v):Kz P (results g a.tmps) (· =v) L:=by
 obtain⟨t,ty,b,i,n,s,cs,e,p,o,j,l,f,k,rfl⟩:=h;have d:g.results= #[.cell t ty]:=gm p;have r:=(hf.at_ _ _ o).2;have m:results g a.tmps=(asAddr (a.tmps.getD t undef)>>=λx=>loadVar ty x):=by simp[results,d]
 rw[m,r,aq];show Kz P (loadVar ty ⟨b,i,none⟩) _ L;unfold loadVar;rw[aq,gQ j];simp only[if_true];rw[aq,cG l,aq];exact fo f k rfl
theorem oV (N:Nat){f:FuncId}{g:Func}{c:Code}{vs:List Value}{n:Nat}{Post:σ->Value->Ka->Prop}(hf:P.funcs[f]? =some g)(hN:g.ntmps=N)(hname:(g.name== "runtime.NumGoroutine")=false:=by rfl)(hb:g.body=some c:=by rfl)(hl:Nat.ble vs.length N=true:=by rfl)(h:Kw Δ P main f N c n s (bodyM P g Post) (args vs) L):MC Δ P main f vs.toArray n s L Post:=by
 have hl:=Nat.le_of_ble_eq_true hl;subst hN;refine⟨g,c,hf,hname,hb,dZ (h _ ⟨by simp;omega,rfl,λt v i=> ?_⟩) λl e k j ⟨d,hf,q⟩=> ?_⟩
 ·obtain⟨_,b⟩:=jX vs 0 t v i;have a:=(mo.1 b).1;simp only[Nat.sub_zero] at b a;refine⟨bl, ?_⟩;simp only[vp,Array.getElem?_append,l7,a,if_true,nw,b,OZ]
 ·cases e<;>first|exact⟨hf.df,q.choose,BH hf q.choose_spec.1,q.choose_spec.2⟩|exact q
theorem ocm {ops:Array Oper}{i:Nat}{rest:List Nat}{d:Option Tmp}{k:Op}{o:TypeId}{ps:String}{af:Array Edge}{g:Option (Nat×Bool)}{f:FuncId}{args:Array Operand}{e:Array TypeId}{vs:List Value}{nf n:Nat}{Post:σ->Value->Ka->Prop}
 (ho:ops[i]? =some ⟨d,k,o,ps,af,g⟩) (j:k= .call {callee:= .value (.func f),args,argTypes:=e}) (ha:args.toList.map (ev ε)=vs.map some) (hcall:MC Δ P main f vs.toArray nf s L Post)
  (hw:Kr ops N ε g=some true:=by rfl) (hd:KG N d=true:=by rfl) (h: ∀s' v L',Post s' v L'->KO Δ P main fn N ops rest n s' Q (KY d v ε) L'):KO Δ P main fn N ops (i::rest) (n+nf+3) s Q ε L:=by
 intro a b;have m:args.map a.eval=vs.toArray:=by apply gm;simpa using eI b _ _ ha
 subst j;exact sT ho (b.wanted hw) rfl (by rw[m];exact hcall) λs' v L' l=>h s' v L' l _ (b.put hd v)
end
end Go.Lo
namespace Go.Proofs.YtejkelcaljmnoaaGreatDoor
open Go.Conc Go.Hx Go.Lo Tryz
attribute [local irreducible] EY KO K6 Kw Kc Ku Kd Program.underlying
theorem sU (x:PS){i:Nat}(hi:i<6):(Kg x).extract (79+2*i) (79+2*i+2)= #[.int .i64 (x.f i).1, .int .i64 (x.f i).2]:=by
 have:i=0\/i=1\/i=2\/i=3\/i=4\/i=5:=bl
 rcases this with rfl|rfl|rfl|rfl|rfl|rfl<;>rfl
theorem sV (x:PS){i:Nat}(hi:i<6)(k:Nat×Nat):KP (Kg x) (79+2*i) [.int .i64 k.1, .int .i64 k.2]=Kg {x with f:=put x.f i k}:=by
 have:i=0\/i=1\/i=2\/i=3\/i=4\/i=5:=bl
 rcases this with rfl|rfl|rfl|rfl|rfl|rfl<;>rfl
def PS.file (x:PS)(n:Int):Nat×Nat:=if n<6 then x.f n.toNat else(0,0)
theorem yJ:KF prog (Instr.build 96 ([]:List (Nat×Value)).toArray) []=some (KE (0,0),[]):=bD
theorem lT: ∃n,∀{o}{F:Kn o}{l:DM F}{a s}(K:Nat)(A:Kq)(S:St)(Fr L:Ka)(b:Nat)(x:PS)(k:Int),(∀cs,(l s).New (.cells cs 96))->Ke K A S Fr L->(b,x)∈S.ps->0<=k/\k<65536->
 MC l prog a 106 [ptr b, .int .u16 k].toArray n s L (λs' v L'=>s=s'/\v=KE (x.file k)/\K5 L'/\ ∀t∈L,t∈L'):=by
 constructor;intro o F l a s K A S Fr L b x k u y hb B;have hw:IntKind.i64.wrap k=k:=ag
 co_applyP oV 15 func106 ntmps106;co_applyP(zo);co_applyP bB rfl (eN (z:=KE (0,0)) (u _));intro m C d;have j:=y.add d;co_applyP(aR);change Kw ..;simp only[hw];co_applyP aI rfl;intro hc;co_applyP(zo)
 ·have i: ¬k<6:=by simpa using hc
  co_applyP oy rfl (aQ yJ);co_applyP oeN rfl (λhnd=>fA (hs:=bw) (vs:=[.int .i64 (0:Nat), .int .i64 (0:Nat)]) (hnd:=hnd) (hm:=d.self) (hi:=cD _));rintro _ r ⟨rfl,e⟩;co_applyP(ay);change∃v,NP _ _ _ _ v/\_;refine⟨_,⟨_,_,m,0,2,true,_,_,rfl,rfl,bV,bw,e.self,cD _,rfl⟩,rfl,by simp[PS.file,i];rfl,e.fn,λt g=>e.ne _ (d.sub _ g) (d.new _ g)⟩
 intro hc;have i:k<6:=by simpa using hc
 co_applyP(aR);co_applyP oy rfl (aW (ht:=bV) (hs:=bw) (hm:=j.p _ hb) (hi:=by rw[bq];omega));co_applyP oeN rfl (λhnd=>fA (hs:=bw) (vs:=[.int .i64 (x.f k.toNat).1, .int .i64 (x.f k.toNat).2]) (hy:=by rw[show 0+79+k.toNat*2=79+2*k.toNat by omega,sU x bl];rfl) (hnd:=hnd) (hm:=d.self) (hi:=cD _));rintro _ r ⟨rfl,e⟩;co_applyP(ay);change∃v,NP _ _ _ _ v/\_;refine⟨_,⟨_,_,m,0,2,true,_,_,rfl,rfl,bV,bw,e.self,cD _,rfl⟩,rfl,by simp[PS.file,i];rfl,e.fn,λt g=>e.ne _ (d.sub _ g) (d.new _ g)⟩
end Go.Proofs.YtejkelcaljmnoaaGreatDoor
namespace Go.Lo
open Go.Conc Go.Hx
section
variable {P:Program}{New:Obj->Prop}{L:Ka}
theorem eQ {d:Nat}{t:TypeId}{xs ys:Array Value}{g:Array Field}{K:Bool->Prop}(ht:P.underlying t=some (.struct g))(hp:P.stoodInHeld t=false)(h:Kz P (Op.eqFields d xs ys g.toList) K L):Kz P (Op.equalIn (d+1) t (.agg xs) (.agg ys)) K L:=by
 rw[Op.equalIn.eq_def];rw[aq,aE ht];simp only;rw[aq];show Kz P (if P.stoodInHeld t=true then _ else _) K L;rw[hp];simp only[pS,if_false];rw[<-Array.forIn_toList];generalize g.toList=l at h⊢;clear ht
 induction l with
 |nil=>exact h
 |cons f l ih=>
  simp only[Op.eqFields] at h;simp only[List.forIn_cons,aq]
  split
  ·rename_i e;rw[if_pos e] at h;simp only[aq] at h⊢;refine dp ?_ (λ_ h=>h) _ h;intro a h;refine dp ?_ (λ_ h=>h) _ h;intro b h;refine dp ?_ (λ_ h=>h) _ h;intro r h;cases r with
   |false=>exact h
   |true=>
    have:=ih h;simpa [aq,bM] using this
  ·rename_i e;rw[if_neg e] at h;have:=ih h;simpa [aq,bM] using this
theorem eB {d:Nat}{t:TypeId}{k k':IntKind}{a b:Int}{K:Bool->Prop}(h:P.underlying t=some (.int k'))(e:K (a==b)):Kz P (Op.equalIn (d+1) t (.int k a) (.int k b)) K L:=by
 rw[Op.equalIn.eq_def,aq,aE h];simpa [bM] using e
abbrev kv (k:Nat×Nat):Value:= .agg #[.int .i64 k.1, .int .i64 k.2]
structure FldAt (P:Program)(f:Field)(off:Nat):Prop where
 n:f.name≠ "_"
 o:f.offset=off
 a:Ku P f.type=some false
 u: ∃k,P.underlying f.type=some (.int k)
structure M5 (P:Program)(t:TypeId):Prop where
 ex: ∃f0 f1,P.underlying t=some (.struct #[f0,f1])/\FldAt P f0 0/\FldAt P f1 1
 hp:P.stoodInHeld t=false
 ck: ∀e a b,KF P (Instr.checkKey e 10000 t (.agg #[.int .i64 a, .int .i64 b])) []=some ((),[])
theorem nE {t:TypeId}(H:M5 P t){k k':Nat×Nat}{K:Bool->Prop}(i:K (decide (k=k'))):Kz P (Op.equal t (kv k) (kv k')) K L:=by
 obtain⟨f0,f1,hu,h0,b⟩:=H.ex;obtain⟨p,l⟩:=h0.u;obtain⟨k1,m⟩:=b.u;rw[dg];refine eQ hu H.hp ?_;simp only[Op.eqFields,if_pos h0.n,if_pos b.n,aq];refine fy h0.a (v:= .int .i64 k.1) (by rw[h0.o];rfl) ?_;refine fy h0.a (v:= .int .i64 k'.1) (by rw[h0.o];rfl) ?_;refine eB (d:=9998) l ?_;by_cases f:k.1=k'.1
 ·simp only[f,beq_self_eq_true,Bool.not_true,pS,if_false,aq];refine fy b.a (v:= .int .i64 k.2) (by rw[b.o];rfl) ?_;refine fy b.a (v:= .int .i64 k'.2) (by rw[b.o];rfl) ?_;refine eB (d:=9998) m ?_;by_cases j:k.2=k'.2
  ·have e:k=k':=Prod.ext f j;simpa [e,bM] using i
  ·have e: ¬k=k':=λe=>j (by rw[e]);have g:((k.2:Int)==(k'.2:Int))=false:=ao
   rw[g];simpa [e,bM] using i
 ·have e: ¬k=k':=λe=>f (by rw[e]);have g:((k.1:Int)==(k'.1:Int))=false:=ao
  rw[g];simpa [e,bM] using i
abbrev LW:=List ((Nat×Nat)×Value×Nat)
def Mn (e:(Nat×Nat)×Value×Nat):MapEntry:=⟨kv e.1,e.2.1,e.2.2⟩
def K8 (l:LW)(clock:Nat):Obj:= .map (l.map Mn).toArray clock
def lk (k:Nat×Nat):LW->Nat->Option (Nat×Value)
 |[],_=>none
 |e::l,i=>if k=e.1 then some (i,e.2.1) else lk k l (i+1)
theorem lU {t:TypeId}(H:M5 P t){k:Nat×Nat}{K:Option (Nat×Value)->Prop}: ∀(l:LW)(i:Nat),K (lk k l i)->Kz P (Instr.findAsking t (kv k) (l.map Mn) i) K L:=by
 intro l
 induction l with
 |nil=>exactλi h=>h
 |cons e l ih=>
  intro i h;simp only[ix,Instr.findAsking,aq];refine nE H ?_;simp only[lk] at h;by_cases a:k=e.1
  ·rw[if_pos a] at h;simp only[decide_eq_true a,if_true];exact h
  ·rw[if_neg a] at h;simp only[decide_eq_false a,pS,if_false];exact ih _ h
theorem eg {t:TypeId}(H:M5 P t){k:Nat×Nat}{K:Option (Nat×Value)->Prop}(l:LW)(h:K (lk k l 0)):Kz P (Instr.findKey t (kv k) (l.map Mn)) K L:=by
 obtain⟨f0,f1,hu,h0,a⟩:=H.ex;unfold Instr.findKey;rw[aq,aE hu];cases l with
 |nil=>exact h
 |cons e l=>exact lU H (e::l) 0 h
def upk (k:Nat×Nat)(v:Value)(l:LW)(clock:Nat):Obj:=match lk k l 0 with
 |some (i,_)=>K8 (l.modify i λe=>(k,v,e.2.2)) clock
 |none=>K8 (l++[(k,v,clock)]) (clock+1)
def dlk (k:Nat×Nat)(l:LW):LW:=match lk k l 0 with
 |some (i,_)=>l.eraseIdx i
 |none=>l
theorem yK {k:Nat×Nat}: ∀{l:LW}{j i:Nat}{v:Value},lk k l j=some (i,v)-> ∃e,j<=i/\l[i-j]? =some e/\e.1=k/\e.2.1=v
 |[],_,_,_,h=>by cases h
 |e::l,j,i,v,h=>by
  simp only[lk] at h
  split at h
  ·rename_i b;simp only[Option.some.injEq,Prod.mk.injEq] at h;obtain⟨rfl,rfl⟩:=h;exact⟨e,cD _,bE,b.symm,rfl⟩
  ·obtain⟨a,g,d,f⟩:=yK h;refine⟨a,bl, ?_,f⟩;rw[show i-j=(i-(j+1))+1 by omega];simpa using d
end
section
variable {P:Program}{New:Obj->Prop}{N:Nat}{ε:Env}{L:Ka}{d:Option Tmp}{ty:TypeId}{ps:String}{af:Array Edge}{g:Option (Nat×Bool)}
theorem qP {x j:Operand}{t i et:TypeId}{r clock:Nat}{k:Nat×Nat}{l:LW}{z:Value}{fl:Bool}(H:M5 P i)(hu:P.underlying t=some (.map i et))(hz:zeroAt P et=some z)(hm:(r,fl,K8 l clock)∈L)(hx:ev ε x=some (.map (some r)):=by rfl)(hi:ev ε j=some (kv k):=by rfl):
 EY P N ε L ⟨d, .lookup t x j false,ty,ps,af,g⟩ (match lk k l 0 with|some (_,v)=>v|none=>z):=λa e=>by
 refine cN (λ_=>rfl) λK b=> ?_;rw[e.ev hx,e.ev hi];unfold Instr.lookup;rw[aq,aE hu];simp only[aq];refine sm hm rfl ?_;simp only[K8];rw[aq,bM,aq];refine aZ (H.ck _ _ _) ?_;rw[aq];refine eg H l ?_;cases f:lk k l 0 with
 |some p=>
  rw[f] at b;exact b
 |none=>
  rw[f] at b;simp only[aq,iq hz];exact b
theorem Iu {x s y:Operand}{t A et:TypeId}{r clock:Nat}{k:Nat×Nat}{v:Value}{l:LW}(hnd:(L.map (·.1)).Nodup)(H:M5 P A)(hu:P.underlying t=some (.map A et))(hm:(r,true,K8 l clock)∈L)(hx:ev ε x=some (.map (some r)):=by rfl)(hi:ev ε s=some (kv k):=by rfl)(hy:ev ε y=some v:=by rfl):
 EO P New N ε L ⟨d, .mapUpdate t x s y,ty,ps,af,g⟩ (λr' u=>r'=undef/\K4 L r (upk k v l clock) u):=by
 intro a m;obtain⟨n,f⟩:=mx hm;show KI P New (Instr.mapUpdate t (a.eval x) (a.eval s) (a.eval y)>>=λ_=>pure Next.skip) _ L;rw[m.ev hx,m.ev hi,m.ev hy,ak];unfold Instr.mapUpdate;rw[ak,aT hu];simp only[ak];refine eM hm rfl ?_;simp only[K8,ak];refine bU (K:=(· =())) (λ_ _=> ?_) _ (aZ (H.ck _ _ _) rfl);refine bU (K:=(· =lk k l 0)) (λ_ e=> ?_) _ (eg H l rfl);subst e;cases o:lk k l 0 with
 |some p=>
  obtain⟨i,w⟩:=p;obtain⟨e,_,z,C,_⟩:=yK o;simp only[Nat.sub_zero] at z;have b:((((l.map Mn).toArray[i]?).map (·.key)).getD (kv k))=kv k:=by simp[z,Mn,C]
  simp only[ak,b];have B:Instr.keyThatStays (kv k) (kv k)=pure (kv k):=by
   unfold Instr.keyThatStays;have:Instr.sameBits 10000 (kv k) (kv k)=true:=by simp[Instr.sameBits]
   rw[this];rfl
  rw[B,bg];refine dw f rfl rfl ⟨trivial, ?_⟩;have he:(l.map Mn).toArray.modify i (λe=>{e with key:=kv k,val:=v})=((l.modify i λe=>(k,v,e.2.2)).map Mn).toArray:=by
   apply gm;simp only[Array.toList_modify];apply xt;intro j;simp only[List.getElem?_modify,sE];cases l[j]? with
   |none=>rfl
   |some e=>simp only[qs];split<;>rfl
  rw[he];have hu:upk k v l clock=K8 (l.modify i λe=>(k,v,e.2.2)) clock:=by unfold upk;rw[o]
  rw[hu];exact cO hnd f
 |none=>
  refine dw f rfl rfl ⟨trivial, ?_⟩;have he:(l.map Mn).toArray.push ⟨kv k,v,clock⟩=((l++[(k,v,clock)]).map Mn).toArray:=by apply gm;simp[Mn]
  rw[he];have hu:upk k v l clock=K8 (l++[(k,v,clock)]) (clock+1):=by unfold upk;rw[o]
  rw[hu];exact cO hnd f
theorem DK {x B:Operand}{b:Array TypeId}{t A et:TypeId}{r clock:Nat}{k:Nat×Nat}{l:LW}(hnd:(L.map (·.1)).Nodup)(H:M5 P A)(hu:P.underlying t=some (.map A et))(hm:(r,true,K8 l clock)∈L)(hx:ev ε x=some (.map (some r)):=by rfl)(hi:ev ε B=some (kv k):=by rfl)(o:b[0]? =some t:=by rfl):
 EO P New N ε L ⟨d, .call ⟨.builtin .delete, #[x,B],b⟩,ty,ps,af,g⟩ (λr' u=>r'= .tuple #[]/\K4 L r (K8 (dlk k l) clock) u):=by
 intro a y;obtain⟨n,f⟩:=mx hm;refine cw (s:=Builtin.delete_ b ty #[.map (some r),kv k]) (λ_=>by simp[builtin,y.ev hx,y.ev hi]) ?_;unfold Builtin.delete_;simp only[o,nw,u9,OE];rw[ak,aT hu];simp only[ak];refine eM hm rfl ?_;simp only[K8,ak];refine bU (K:=(· =())) (λ_ _=> ?_) _ (aZ (H.ck _ _ _) rfl);refine bU (K:=(· =lk k l 0)) (λ_ e=> ?_) _ (eg H l rfl);subst e;cases m:lk k l 0 with
 |some p=>
  obtain⟨i,w⟩:=p;obtain⟨e,_,z,C,_⟩:=yK m;simp only[Nat.sub_zero] at z;simp only[ak];refine dw f rfl rfl ?_;refine⟨by first|rfl|trivial, ?_⟩;have j:=(mo.1 z).1;have he:(l.map Mn).toArray.eraseIdxIfInBounds i=((dlk k l).map Mn).toArray:=by
   unfold dlk;rw[m];apply gm;simp[Array.eraseIdxIfInBounds,j,OT]
  rw[he];exact cO hnd f
 |none=>
  simp only[ak];refine dw f rfl rfl ?_;refine⟨by first|rfl|trivial, ?_⟩;have he:dlk k l=l:=by unfold dlk;rw[m]
  rw[he];exact cO hnd f
end
end Go.Lo
namespace Go.Proofs.YtejkelcaljmnoaaGreatDoor
open Go.Conc Go.Hx Go.Lo Tryz
attribute [local irreducible] EY KO K6 Kw Kc Ku Kd Program.underlying
structure Ext (L L':Ka):Prop where
 f:K5 L'
 s: ∀t∈L,t∈L'
theorem Ext.trans {L L' a:Ka}(h:Ext L L')(k:Ext L' a):Ext L a:=⟨k.f,λt b=>k.s t (h.s t b)⟩
theorem Ext.at {L L':Ka}(h:Ext L L'){b i:Nat}{v:Value}(ha:At L b i v):At L' b i v:=kQ ha h.s
theorem Ke.ext {K:Nat}{A:Kq}{S:St}{F L L':Ka}(h:Ke K A S F L)(e:Ext L L'):Ke K A S F L':=h.of e.f e.s
def Mh (test:Nat->Bool)(xs:List Nat):Int:=match xs.findIdx? test with
 |some i=>i
 |none=> -1
theorem ff (nf:Nat): ∃n,∀{M}{F:Kn M}{Δ:DM F}{main s}(L0:Ka)(f:FuncId)(A:Func)(c1 c2:List Value)(xs:List Nat)(a:Nat->Bool)(base:Option Addr)(cap:Nat),
 (∀i v,(xs.map ptr)[i]? =some v-> ∃b,base=some ⟨b,0,none⟩/\At L0 b i v)->xs.length<=8->prog.funcs[f]? =some A->(A.name== "runtime.NumGoroutine")=false->A.body.isNone=false->
 (∀c∈xs,∀L,Ext L0 L->Kb Δ prog main f (c1++[ptr c]++c2).toArray nf s L (λs' v L'=>s=s'/\v= .bool (a c)/\Ext L L'))->
 Kb Δ prog main 146 [.slice base xs.length cap, .func (.func f) c1.toArray c2.toArray].toArray n s L0 (λs' v L'=>s=s'/\v= .int .i64 (Mh a xs)/\Ext L0 L'):=by
 constructor;intro M F Δ main s L0 f A c1 c2 xs a base cap G O K j hb hc;co_applyP ar 19 func146 ntmps146;co_applyP iV;intro B;co_applyP(aP);co_applyP aU (λk s' r L'=>s'=s/\Ext L0 L'/\ ∃g m,xs=g++m/\(∀q∈g,a q=false)/\k+g.length=8/\kn r [(8, .int .i64 g.length),(7, .int .i64 xs.length),(0, .slice base xs.length cap),(1, .func (.func f) c1.toArray c2.toArray)]) 8
 ·exact⟨rfl,⟨B,λ_ h=>h⟩,[],xs,rfl,bE,rfl,rfl⟩
 rintro k s' r L' ⟨rfl,z,g,m,o,E,N,he⟩;co_applyP aA he;have d:=congrArg List.length o;simp only[mb] at d;co_applyP(ax);co_applyP aK;co_applyP aI rfl;intro l
 ·cases m with
  |nil=>simp at l d;omega
  |cons q m=>
   simp at d;obtain⟨b,rfl,H⟩:=G g.length (ptr q) (by rw[o];simp);have J:=z.at H;co_applyP(bQ);co_applyP ov rfl (vs:=[ptr q]) (hf:=K) (hname:=j) (hb:=hb) (hcall:=hc q (by rw[o];simp) L' z);rintro _ _ _ ⟨rfl,rfl,u⟩;co_applyP(zo);co_applyP aI rfl;intro C;co_applyP(au);change∃v,Ko .. =some v/\_
   ·have I:Mh a xs=g.length:=by
     unfold Mh;have:xs.findIdx? a=some g.length:=by
      rw[o,List.findIdx?_append,wb.2 (λx y=>by simpa using E x y)];have D:a q=true:=by simpa using C
      simp[O0,D]
     rw[this]
    refine⟨_,rfl,rfl,by rw[I],z.trans u⟩
   intro C;co_applyP(au);change∃k',k'<_/\_;have p:IntKind.i64.wrap ((g.length:Int)+1)=((g++[q]).length:Int):=by simp[IntKind.wrap_i64];omega
   refine⟨k-1,bl,rfl,z.trans u,g++[q],m,by simp[o], ?_,by simp;omega, ?_⟩
   ·intro x y;rcases cE.1 y with h|h
    ·exact E x h
    ·simp at h;subst h;simpa using C
   ·rw[<-p];rfl
 intro l;co_applyP(au);change∃v,Ko .. =some v/\_;cases m with
 |nil=>
  have e:g=xs:=by rw[o];simp
  subst e;have I:Mh a g= -1:=by
   unfold Mh;rw[wb.2 (λx y=>by simpa using E x y)]
  exact⟨_,rfl,rfl,by rw[I],z⟩
 |cons q m=>simp at l d;omega
structure Nn (Q:Nat)(L L':Ka):Prop where
 f:K5 L'
 s: ∀t∈L,t.1≠Q->t∈L'
theorem Ext.q {Q:Nat}{L L':Ka}(h:Ext L L'):Nn Q L L':=⟨h.f,λt a _=>h.s t a⟩
theorem Nn.trans {Q:Nat}{L L' a:Ka}(h:Nn Q L L')(k:Nn Q L' a):Nn Q L a:=⟨k.f,λt d b=>k.s t (h.s t d b) b⟩
theorem _root_.Go.Lo.K4.q {Q:Nat}{L L':Ka}{o:Obj}(h:K4 L Q o L'):Nn Q L L':=⟨h.fn,λt a b=>h.ne t a b⟩
theorem EM (A M B C:List Value)(q:Value):(A++M++q::B++C).toArray[A.length+M.length]? =some q:=by
 rw[nw];have:A++M++q::B++C=(A++M)++(q::(B++C)):=bE
 rw[this,Oy bE];simp
theorem EN (A M B C:List Value)(m q:Value):(A++(m::M)++q::B++C).toArray.setIfInBounds A.length q=((A++[q])++(M++[q])++B++C).toArray:=by
 rw[OB];have:A++(m::M)++q::B++C=A++(m::(M++q::(B++C))):=bE
 rw[this,List.set_append_right _ _ (cD _)];simp
theorem EP (A M C:List Value)(z:Value):KP (A++M++([]:List Value)++C).toArray A.length (List.replicate M.length z)=(A++(List.replicate M.length z++C)).toArray:=by
 rw[bY _ _ _ bE];congr 1;simp[sA,O1]
theorem oW (nf:Nat): ∃n,∀{σ}{F:Kn σ}{Δ:DM F}{y s}(L0:Ka)(f:FuncId)(Y:Func)(c1 c2:List Value)(xs:List Nat)(a:Nat->Bool)(Q:Nat)(junk:List Value),
 (Q,true,Obj.cells (xs.map ptr++junk).toArray 93)∈L0->xs.length<=8->prog.funcs[f]? =some Y->(Y.name== "runtime.NumGoroutine")=false->Y.body.isNone=false->
 (∀c∈xs,∀L,Nn Q L0 L->Kb Δ prog y f (c1++[ptr c]++c2).toArray nf s L (λs' v L'=>s=s'/\v= .bool (a c)/\Ext L L'))->
 Kb Δ prog y 124 [.slice (some ⟨Q,0,none⟩) xs.length (xs.length+junk.length), .func (.func f) c1.toArray c2.toArray].toArray n s L0 (λs' v L'=>s=s'/\ ∃jk,v= .slice (some ⟨Q,0,none⟩) (xs.filter λc=> !a c).length (xs.length+junk.length)/\Nn Q L0 L'/\(Q,true,Obj.cells ((xs.filter λc=> !a c).map ptr++jk).toArray 93)∈L'/\(xs.filter λc=> !a c).length+jk.length=xs.length+junk.length):=by
 obtain⟨n1,g1⟩:=ff nf;constructor;intro σ F Δ y s L0 f Y c1 c2 xs a Q junk hQ h8 hf g hb hc;co_applyP ar 42 func124 ntmps124;co_applyP(aC);co_applyP oc rfl rfl rfl (g1 L0 f Y c1 c2 xs a (some ⟨Q,0,none⟩) (xs.length+junk.length) (λi v hv=>⟨Q,rfl,true,_,_,_,hQ,by rw[nw,rD (mo.1 hv).1];exact hv⟩) h8 hf g hb (λc r L O=>hc c r L O.q));rintro _ _ _ ⟨rfl,rfl,z⟩;rename_i L1;co_applyP(aR);co_applyP aI rfl;intro B
 ·have G:xs.findIdx? a=none:=by
   cases h:xs.findIdx? a with
   |none=>rfl
   |some i=>unfold Mh at B;rw[h] at B;simp at B
  have W:=wb.1 G;have C:(xs.filter λc=> !a c)=xs:=List.filter_eq_self.2 λc r=>by simpa using W c r
  co_applyP(au);exact xI _ ⟨rfl,rfl,junk,by rw[C],z.q,by rw[C];exact z.s _ hQ,by rw[C]⟩
 intro B;obtain⟨i,x⟩: ∃i,xs.findIdx? a=some i:=by
  cases h:xs.findIdx? a with
  |none=>unfold Mh at B;rw[h] at B;simp at B
  |some i=>exact⟨i,rfl⟩
 have T:Mh a xs=i:=by unfold Mh;rw[x]
 obtain⟨c',a',X⟩:=OG.1 x;have ei:IntKind.i64.wrap ((i:Int)+1)=((i+1:Nat):Int):=ag
 rw[T];co_applyP(aO);rw[ei];have J:((xs.take (i+1)).filter λc=> !a c)=xs.take i:=by
  rw[List.take_add_one,O3];have h1:((xs.take i).filter λc=> !a c)=xs.take i:=List.filter_eq_self.2 λc r=>by
   obtain⟨j,Z⟩:=mx r;rw[List.getElem?_take] at Z
   split at Z
   ·rename_i u;obtain⟨P,he⟩:=mo.1 Z;have:=X j u;rw[he] at this;simpa using this
   ·cases Z
  rw[h1];have h2:xs[i]?.toList.filter (λc=> !a c)=[]:=by simp[c',a']
  rw[h2];simp
 co_applyP aU (λk s' R L'=>s'=s/\Nn Q L0 L'/\ ∃b o d,xs=b++o/\d.length+(b.filter λc=> !a c).length=b.length/\0<d.length/\o.length<=k/\(Q,true,Obj.cells ((b.filter λc=> !a c).map ptr++d++o.map ptr++junk).toArray 93)∈L'/\kn R [(6, .int .i64 b.length),(5, .int .i64 (b.filter λc=> !a c).length),(0, .slice (some ⟨Q,0,none⟩) xs.length (xs.length+junk.length)),(1, .func (.func f) c1.toArray c2.toArray)]) 8
 ·refine⟨rfl,z.q,xs.take (i+1),xs.drop (i+1),[ptr xs[i]],bE,by rw[J];simp;omega,bE,by simp;omega, ?_, ?_⟩
  ·rw[J];have e0:(xs.take i).map ptr++[ptr xs[i]]++(xs.drop (i+1)).map ptr=xs.map ptr:=by
    rw[<-List.map_singleton (f:=ptr),<-l3,<-l3];congr 1;simp
   rw[e0];exact z.s _ hQ
  ·have D:(xs.take (i+1)).length=i+1:=ao
   have e2:(xs.take i).length=i:=ao
   rw[J,D,e2];rfl
 rintro k s' R L' ⟨rfl,O,b,o,d,P,hm,b',hk,H,he⟩;co_applyP aA he;have p:=congrArg List.length P;simp only[mb] at p;co_applyP(aR);co_applyP aI rfl;intro u
 ·cases o with
  |nil=>simp at u p;omega
  |cons q o=>
   simp at p hk;obtain⟨m,M,rfl⟩: ∃m M,d=m::M:=by
    cases d with
    |nil=>simp at b'
    |cons m M=>exact⟨m,M,rfl⟩
   simp only[gf] at hm;have d':At L' Q b.length (ptr q):=by
    refine⟨true,_,_,_,H, ?_⟩;have:=EM ((b.filter λc=> !a c).map ptr) (m::M) (o.map ptr) junk (ptr q);rw[show ((b.filter λc=> !a c).map ptr).length+(m::M).length=b.length by rw[ia,gf];omega] at this;exact this
   have A:IntKind.i64.wrap ((b.length:Int)+1)=((b++[q]).length:Int):=ag
   co_applyP(bQ);co_applyP ov rfl (vs:=[ptr q]) (hf:=hf) (hname:=g) (hb:=hb) (hcall:=hc q (by rw[P];simp) L' O);rintro _ _ _ ⟨rfl,rfl,I⟩;co_applyP(ay);change Kw ..;have U:=I.s _ H;co_applyP aI rfl;intro ht;co_applyP(au)
   ·have K:a q=false:=by simpa using ht
    co_applyP oeN rfl (λhnd=>bX (hs:=dA) (hnd:=hnd) (hm:=U) (hi:=bE));rintro _ L3 ⟨rfl,S⟩;co_applyP(bf);change∃k',k'<_/\_;have l:((b++[q]).filter λc=> !a c)=(b.filter λc=> !a c)++[q]:=by simp[K]
    have N:IntKind.i64.wrap (((b.filter λc=> !a c).length:Int)+1)=(((b++[q]).filter λc=> !a c).length:Int):=by rw[l];simp[IntKind.wrap_i64];omega
    refine⟨k-1,bl,rfl,(O.trans I.q).trans S.q,b++[q],o,M++[ptr q],by simp[P],by rw[l];simp;omega,bE,bl, ?_, ?_⟩
    ·have D:=EN ((b.filter λc=> !a c).map ptr) M (o.map ptr) junk m (ptr q);rw[ia] at D;have:=S.self;rw[l,l3];exact(D▸this)
    ·rw[<-A,<-N];rfl
   intro ht;co_applyP(aC);change∃k',k'<_/\_;have K:a q=true:=by simpa using ht
   have l:((b++[q]).filter λc=> !a c)=(b.filter λc=> !a c):=by simp[K]
   refine⟨k-1,bl,rfl,O.trans I.q,b++[q],o,(m::M)++[ptr q],by simp[P],by rw[l];simp;omega,bE,bl, ?_, ?_⟩
   ·rw[l];have e0:(b.filter λc=> !a c).map ptr++((m::M)++[ptr q])++o.map ptr++junk=(b.filter λc=> !a c).map ptr++(m::M)++(q::o).map ptr++junk:=bE
    rw[e0];exact U
   ·rw[<-A,l];rfl
 intro u;cases o with
 |cons q o=>simp at u p;omega
 |nil=>
 have e:b=xs:=by rw[P];simp
 subst e;co_applyP(av);co_applyP oy rfl (qz U91 dA);have V:cutAt 0 (((b.filter λc=> !a c).length:Nat):Int).toNat (b.length+junk.length) 1=(b.filter λc=> !a c).length:=by unfold cutAt;split<;>omega
 have E:cutAt 0 0 (b.length+junk.length) 1=0:=by unfold cutAt;split<;>omega
 have en:b.length-(((b.filter λc=> !a c).length:Nat):Int).toNat=d.length:=bl
 rw[V,en];co_applyP oeN rfl (λhnd=>xF (hnd:=hnd) (hu:=U91) (hz0:=jd) (hzp:=rfl) (hm:=H) (ho:=bE));rintro _ L3 ⟨rfl,S⟩;co_applyP(av);co_applyP oy rfl (qx U91 dA);co_applyP(ax);change∃v,Ko .. =some v/\_;have D:=EP ((b.filter λc=> !a c).map ptr) d junk (.pointer none);rw[ia] at D;refine⟨_,rfl,rfl,List.replicate d.length (.pointer none)++junk,by rw[E];rfl,O.trans S.q, ?_,ao⟩;have:=S.self;exact(D▸this)
abbrev Wt:=List ((Nat×Nat)×List Nat)
def Kk (A:Kq)(l:Wt)(bs:List Nat):LW:=(l.zip bs).map λe=>(e.1.1,Ky (A.a (slot e.1.1)) e.1.2.length,e.2)
theorem cJ (A:Kq)(S:St):Le A S=K8 (Kk A S.wt A.born) A.clock:=by
 unfold Le K8 Kk;rw[kt];rfl
theorem cH (A:Kq){l1 l2:Wt}{a b:List Nat}(h:l1.length=a.length):Kk A (l1++l2) (a++b)=Kk A l1 a++Kk A l2 b:=by
 unfold Kk;rw[List.zip_append h,l3]
theorem dS (A:Kq){l:Wt}{b:List Nat}(h:l.length=b.length):(Kk A l b).length=l.length:=by
 unfold Kk;simp[h]
theorem kV {k:Nat×Nat}: ∀{l m:LW}{i:Nat},(∀e∈l,e.1≠k)->lk k (l++m) i=lk k m (i+l.length)
 |[],m,i,_=>rfl
 |e::l,m,i,h=>by
  have a:=h e eT;simp only[sc,lk,if_neg (ft a),gf];rw[kV λe he=>h e (dc _ he)];congr 1;omega
theorem jh {k:Nat×Nat}{l:LW}{i:Nat}(h: ∀e∈l,e.1≠k):lk k l i=none:=by
 have:=kV (m:=[]) (i:=i) h;rw[wc] at this;rw[this];rfl
theorem dT {A:Kq}{l:Wt}{bs:List Nat}{k:Nat×Nat}(h: ∀e∈l,e.1≠k): ∀e∈Kk A l bs,e.1≠k:=by
 intro e he;unfold Kk at he;obtain⟨p,a,rfl⟩:=cm.1 he;exact h _ (List.of_mem_zip a).1
theorem eD {A b:Kq}{l:Wt}{bs:List Nat}(h: ∀e∈l,b.a (slot e.1)=A.a (slot e.1)):Kk b l bs=Kk A l bs:=by
 unfold Kk;apply k0;intro e he;rw[h _ (List.of_mem_zip he).1]
def MH (k:Nat×Nat):Prop:=k.2<10
theorem lV {k k':Nat×Nat}(h:MH k)(a:MH k')(e:slot k=slot k'):k=k':=by
 unfold slot at e;unfold MH at h a;exact Prod.ext bl bl
def Kq.I8 (A:Kq)(k:Nat×Nat)(a':Sl)(born:List Nat)(clock:Nat):Kq:={A with a:=put A.a (slot k) a',born:=born,clock:=clock}
def St.I8 (S:St)(wt:Wt):St:={S with wt:=wt}
structure No (A A':Kq):Prop where
 a: ∀i,i<100->A'.a i=A.a i
 y:A'.y=A.y
 w:A'.wt=A.wt
 g:A'.g=A.g/\A'.gcap=A.gcap/\A'.gc=A.gc
theorem No.refl (A:Kq):No A A:=⟨λ_ _=>rfl,rfl,rfl,⟨rfl,rfl,rfl⟩⟩
theorem No.set (A:Kq)(k:Nat×Nat)(a:Sl)(born:List Nat)(clock:Nat):No A (A.I8 k a born clock):=⟨λi b=>by simp[Kq.I8,put];intro e;unfold slot at e;omega,rfl,rfl,⟨rfl,rfl,rfl⟩⟩
section
variable {K:Nat}{A:Kq}{S:St}{F L L':Ka}
theorem Ke.JF (h:Ke K A S F L){k:Nat×Nat}{z:Sl}{y:Wt}{m:List Nat}{f:Nat}(hf:K5 L')(hs: ∀t∈L,t.1≠A.wt->(A.a (slot k)).b≠some t.1->t∈L') (hw:(A.wt,true,K8 (Kk (A.I8 k z m f) y m) f)∈L') (hl:m.length=y.length) (P:m.Nodup) (O: ∀x∈m,x<f)
 (ha: ∀e∈y,(e.1=k/\Kf z (e.2.map ptr) 93 L')\/(e∈S.wt/\slot e.1≠slot k)) (N: ∀b,z.b=some b-> ∃xs,(b,true,Obj.cells xs 93)∈L')
 (hd: ∀b,z.b=some b->(A.a (slot k)).b=some b\/((∀i,(A.a i).b≠some b)/\ ∀t∈F,t.1≠b)):Ke K (A.I8 k z m f) (S.I8 y) F L':=by
 have ty: ∀{b:Nat}{fl:Bool}{o:Obj},(b,fl,o)∈L->(∀c,o≠Obj.cells c 93)->(A.a (slot k)).b≠some b:=λhm I hb=>by
  obtain⟨xs,D⟩:=h.al _ _ hb;exact I _ (h.fn _ _ _ _ _ hm D).2
 have arr: ∀(a:Sl)(xs:List Value)(e:TypeId),(∀b,a.b=some b->(A.a (slot k)).b≠some b)->Kf a xs e L->Kf a xs e L':=λa xs e J ha=>by
  refine ha.mono λc hc o I=>hs _ I ?_ (J c hc);exact h.fn.ne (ha.mem hc) h.w (by simp[Le])
 have C: ∀i,i≠slot k-> ∀b,(A.a i).b=some b->(A.a (slot k)).b≠some b:=λi r b hb e=>h.d i (slot k) r (by rw[hb];simp) (by rw[hb,e]);have s: ∀i,i≠slot k->(A.I8 k z m f).a i=A.a i:=λi r=>by simp[Kq.I8,put,r]
 have G:(A.I8 k z m f).a (slot k)=z:=by simp[Kq.I8,put]
 have low: ∀i,i<100->i≠slot k:=λi r e=>by unfold slot at e;omega
 have R:Ks (Lj (A.I8 k z m f) (S.I8 y))=Ks (Lj A S):=by
  unfold Ks Lj;simp only[s 0 (low 0 bl),s (0+1) (low _ bl),s (1+1) (low _ bl),s (2+1) (low _ bl)];rfl
 exact{h with
  fn:=hf
  k:=by unfold kb;rw[R];exact hs _ h.k (h.fn.ne h.k h.w (by simp[Le])) (ty h.k λc=>aB bx)
  g:=hs _ h.g (h.fn.ne h.g h.w (by simp[Le])) (ty h.g λc=>aB bx)
  p:=λq M=>hs _ (h.p q M) (h.fn.ne (h.p q M) h.w (by simp[Le])) (ty (h.p q M) λc=>aB bx)
  pa:=by rw[s 0 (low 0 bl)];exact arr _ _ _ (C 0 (low 0 bl)) h.pa
  rw:=λl hl=>by rw[s _ (low _ bl)];exact arr _ _ _ (C _ (low _ bl)) (h.rw l hl)
  ya:=λi r=>arr _ _ _ (λb hb=>ty ((h.ya i r).mem hb) λc=>aB bx) (h.ya i r)
  w:=by rw[cJ];exact hw
  wl:=hl
  bn:=P
  bc:=O
  wa:=λe he=>by
   rcases ha e he with ⟨n,H⟩|⟨n,H⟩
   ·rw[n,G];exact H
   ·rw[s _ H];exact arr _ _ _ (C _ H) (h.wa e n)
  al:=λi c hc=>by
   by_cases u:i=slot k
   ·subst u;rw[G] at hc;exact N c hc
   ·rw[s i u] at hc;obtain⟨xs,D⟩:=h.al i c hc;exact⟨xs,hs _ D (h.fn.ne D h.w (by simp[Le])) (C i u c hc)⟩
  yl:=λi c hc=>by
   obtain⟨xs,D⟩:=h.yl i c hc;exact⟨xs,hs _ D (h.fn.ne D h.w (by simp[Le])) (ty D λc=>aB bx)⟩
  d:=λi j E r=>by
   by_cases u:i=slot k
   ·subst u;rw[s j (ft E),G];rw[G] at r;intro e;cases hb:z.b with
    |none=>exact r hb
    |some b=>
     rcases hd b hb with n|n
     ·exact h.d (slot k) j E (by rw[n];simp) (by rw[n,<-e,hb])
     ·exact n.1 j (by rw[<-e,hb])
   ·rw[s i u];rw[s i u] at r;by_cases Q:j=slot k
    ·subst Q;rw[G];intro e;cases hb:z.b with
     |none=>rw[hb] at e;exact r e
     |some b=>
      rcases hd b hb with n|n
      ·exact h.d i (slot k) u r (by rw[n,e,hb])
      ·exact n.1 i (by rw[e,hb])
    ·rw[s j Q];exact h.d i j E r
  fr:=λt B=>hs _ (h.fr t B) (h.fd t B).2.2.2.2 ((h.fd t B).2.2.1 _)
  fd:=λt B=>by
   refine⟨(h.fd t B).1,(h.fd t B).2.1,λi=> ?_,(h.fd t B).2.2.2⟩;by_cases u:i=slot k
   ·subst u;rw[G];intro e;rcases hd _ e with n|n
    ·exact(h.fd t B).2.2.1 _ n
    ·exact n.2 t B rfl
   ·rw[s i u];exact(h.fd t B).2.2.1 i}
end
structure Oj (S:St):Prop where
 kn:(S.wt.map (·.1)).Nodup
 kk: ∀e∈S.wt,MH e.1
 rl: ∀e∈S.wt,e.2.length<=8
 ne: ∀e∈S.wt,e.2≠[]
 rm: ∀e∈S.wt,∀c∈e.2,∃y,(c,y)∈S.ps
def KR (b:Nat)(k:Nat×Nat)(l:Wt):Wt:=l.filterMap λe=>if e.1=k then(if(e.2.filter λc=> !decide (c=b)).length=0 then none else some (k,e.2.filter λc=> !decide (c=b))) else some e
def St.IE (S:St)(b:Nat)(k:Nat×Nat):St:=S.I8 (KR b k S.wt)
theorem eF {b:Nat}{k:Nat×Nat}{l:Wt}(h: ∀e∈l,e.1≠k):KR b k l=l:=by
 unfold KR
 induction l with
 |nil=>rfl
 |cons e l ih=>
  rw[List.filterMap_cons_some (by rw[if_neg (h e eT)])];rw[ih λe he=>h e (dc _ he)]
theorem lW {b:Nat}{k:Nat×Nat}{l1 l2:Wt}{xs:List Nat}(h1: ∀e∈l1,e.1≠k) (h2: ∀e∈l2,e.1≠k):KR b k (l1++(k,xs)::l2)=l1++((if(xs.filter λc=> !decide (c=b)).length=0 then [] else [(k,xs.filter λc=> !decide (c=b))])++l2):=by
 have d:=eF (b:=b) h1;have a:=eF (b:=b) h2;unfold KR at*;rw[List.filterMap_append,d,O9,if_pos rfl]
 split
 ·rename_i h;split at h
  ·rw[if_pos ‹_›,a];rfl
  ·cases h
 ·rename_i h;split at h
  ·cases h
  ·rw[if_neg ‹_›,a];simp at h;rw[<-h];rfl
theorem cu {l:Wt}{k:Nat×Nat}(hn:(l.map (·.1)).Nodup)(h:k∈l.map (·.1)): ∃l1 xs l2,l=l1++(k,xs)::l2/\(∀e∈l1,e.1≠k)/\ ∀e∈l2,e.1≠k:=by
 obtain⟨⟨b,xs⟩,he,rfl⟩:=cm.1 h;obtain⟨l1,l2,rfl⟩:=List.append_of_mem he;rw[l3,ix] at hn;obtain⟨g,d,f⟩:=ss.1 hn;refine⟨l1,xs,l2,rfl,λe he a=> ?_,λe he a=> ?_⟩
 ·exact f e.1 (cm.2 ⟨e,he,rfl⟩) b bE a
 ·exact(x8.1 d).1 (cm.2 ⟨e,he,a⟩)
theorem lX {a:Type}(f:a->a)(e:a)(Y:List a): ∀(X:List a),(X++e::Y).modify X.length f=X++f e::Y
 |[]=>by simp
 |x::X=>by simp[lX f e Y X]
theorem eR:M5 prog 96:=by
 refine⟨⟨_,_,underlying96,⟨bx,rfl,dq,_,U3⟩,⟨bx,rfl,dq,_,U3⟩⟩,bD,λe a b=>bD⟩
theorem ji:zeroAt prog 91=some (.slice none 0 0):=bD
theorem upd_same {L L':Ka}{b:Nat}{o:Obj}(hF:K5 L)(h:(b,true,o)∈L)(u:K4 L b o L'):Ext L L':=⟨u.fn,λt a=>by
 by_cases e:t.1=b
 ·obtain⟨d,g,o'⟩:=t;have f:d=b:=e;subst f;obtain⟨rfl,rfl⟩:=hF _ _ _ _ _ a h;exact u.self
 ·exact u.ne t a e⟩
theorem kI: ∃n,∀{g}{F:Kn g}{f:DM F}{a s}(L:Ka)(c b x:Nat)(cs d:Array Value)(ty e:TypeId),At L x 0 (ptr b)->(c,true,Obj.cells cs ty)∈L->(b,true,Obj.cells d e)∈L->
 Kb f prog a 125 [ptr c,ptr x].toArray n s L (λs' v L'=>s=s'/\v= .bool (decide (c=b))/\Ext L L'):=by
 constructor;intro g F f a s L c b x cs d ty e j hc hb;co_applyP ar 7 func125 ntmps125;co_applyP iV;intro i;co_applyP(aC);co_applyP oy rfl (Dj hc hb (hu:=underlying93) (hs:=Dx));co_applyP(ax);exact xI _ ⟨rfl,rfl,bE,i,λ_ h=>h⟩
theorem oX: ∃n,∀{k}{F:Kn k}{j:DM F}{a s}(L0:Ka)(f:FuncId)(d:Func)(c1 c2:List Value),prog.funcs[f]? =some d->(d.name== "runtime.NumGoroutine")=false->d.body.isNone=false->
 Kb j prog a 124 [.slice none 0 0, .func (.func f) c1.toArray c2.toArray].toArray n s L0 (λs' v L'=>s=s'/\v= .slice none 0 0/\Ext L0 L'):=by
 obtain⟨p,o⟩:=ff 0;constructor;intro k F j a s L0 f d c1 c2 l b hb;co_applyP ar 42 func124 ntmps124;co_applyP(aC);co_applyP oc rfl rfl rfl (o L0 f d c1 c2 [] (λ_=>false) none 0 (λi v m=>by simp at m) bE l b hb (λc g=>by simp at g));rintro _ _ _ ⟨rfl,rfl,e⟩;co_applyP(ay);co_applyP aK (n₂:=0);co_applyP(aP);exact xI _ ⟨rfl,rfl,rfl,e⟩
theorem yL: ∃n,∀{D}{F:Kn D}{p:DM F}{d s}(K:Nat)(A:Kq)(S:St)(Fr L:Ka)(b:Nat)(k:Nat×Nat),(∀cs,(p s).New (.cells cs 93))->(∀cs,(p s).New (.cells cs 96))->Ke K A S Fr L->(∀e∈S.wt,e.1≠k)->
 Kb p prog d 105 [ptr K,ptr b,KE k].toArray n s L (λs' v L'=>s=s'/\v= .tuple #[]/\Ke K A S Fr L'):=by
 obtain⟨P,I⟩:=oX;constructor;intro D F p d s K A S Fr L b k J y M G;co_applyP ar 29 func105 ntmps105;co_applyP(zo);co_applyP bB rfl (bA (J _));intro E Q x;co_applyP bB rfl (bA (y _));intro N z g;have f:=(M.add x).add g;have r:At z K 15 (.map (some A.wt)):=f.kat rfl;have j:=f.w;rw[cJ] at j;have a:=dT (A:=A) (bs:=A.born) G;co_applyP(ay);co_applyP aM [] 7 mixed;co_applyP(av);co_applyP tr 6 rfl sF pN;co_applyP t0 4 rfl (aW (ht:=bV) (hs:=bw) (hm:=g.self) (hi:=cD _)) pN;co_applyP t0 5 rfl (qP (k:=k) eR underlying110 ji j) pN;rw[jh a];co_applyP tc 7 rfl rfl rfl (I z 125 _ [] [ptr E] func125 rfl rfl);rintro _ _ _ ⟨rfl,rfl,o⟩;refine⟨aj bE, ?_⟩;rename_i O;have m:=f.ext o;have C:=o.at r;have l:=o.s _ j;have u:=o.s _ g.self;co_applyP to 8 rfl (fX) (aj bE);co_applyP(zo);co_applyP aK (n₂:=0);co_applyP(aR);co_applyP aM [] 5 (nf:=0) mixed;co_applyP(av);co_applyP t0 4 rfl (aW (ht:=bV) (hs:=bw) (hm:=u) (hi:=cD _)) pN;co_applyP aF;intro hnd;co_applyP te (i:=5) rfl (DK (k:=k) hnd eR underlying110 l);rintro _ _ ⟨rfl,B⟩;refine⟨aj bE, ?_⟩;co_applyP(ay);change∃v,Ko .. =some v/\_;have H:dlk k (Kk A S.wt A.born)=Kk A S.wt A.born:=by unfold dlk;rw[jh a]
 rw[H] at B;exact⟨_,rfl,rfl,rfl,m.ext (upd_same m.fn l B)⟩
theorem yM: ∃n,∀{σ}{F:Kn σ}{Δ:DM F}{P s}(K:Nat)(A:Kq)(S:St)(Fr L:Ka)(b:Nat)(x:PS)(k:Nat×Nat)(l1 l2:Wt)(xs:List Nat),(∀cs,(Δ s).New (.cells cs 93))->(∀cs,(Δ s).New (.cells cs 96))->Ke K A S Fr L->Oj S->(b,x)∈S.ps->S.wt=l1++(k,xs)::l2->(∀e∈l1,e.1≠k)->(∀e∈l2,e.1≠k)->
 Kb Δ prog P 105 [ptr K,ptr b,KE k].toArray n s L (λs' v L'=>s=s'/\v= .tuple #[]/\ ∃A',No A A'/\Ke K A' (S.IE b k) Fr L'):=by
 obtain⟨n0,g0⟩:=kI;obtain⟨n1,g1⟩:=oW n0;constructor;intro σ F Δ P s K A S Fr L b x k l1 l2 xs hN r' C hW hb j W f';have m:(k,xs)∈S.wt:=by rw[j];simp
 have p':MH k:=hW.kk _ m;have f: ∀e∈S.wt,e.1≠k->slot e.1≠slot k:=λe he m' h=>m' (lV (hW.kk e he) p' h);obtain⟨G,T,D,g,r⟩: ∃G T D,A.born=G++T::D/\l1.length=G.length:=by
  have hl:=C.wl;rw[j] at hl;simp at hl;refine⟨A.born.take l1.length,A.born[l1.length]'bl,A.born.drop (l1.length+1),bE,ao⟩
 have t':l2.length=D.length:=by
  have hl:=C.wl;rw[j,g] at hl;simp at hl;omega
 have o:Kk A S.wt A.born=Kk A l1 G++(k,Ky (A.a (slot k)) xs.length,T)::Kk A l2 D:=by
  rw[j,g,cH A r];rfl
 have N:lk k (Kk A S.wt A.born) 0=some (l1.length,Ky (A.a (slot k)) xs.length):=by
  rw[o,kV (dT W),dS A r];simp[lk]
 obtain⟨Q,R⟩: ∃Q,(A.a (slot k)).b=some Q:=by
  cases h:(A.a (slot k)).b with
  |some Q=>exact⟨Q,rfl⟩
  |none=>
   have:=C.wa _ m;unfold Kf at this;rw[h] at this;have h2:=hW.ne _ m;simp at this;exact absurd this.1 h2
 have h':Ky (A.a (slot k)) xs.length= .slice (some ⟨Q,0,none⟩) xs.length (xs.length+(A.a (slot k)).junk.length):=by unfold Ky;rw[R]
 rw[h'] at N;co_applyP ar 29 func105 ntmps105;co_applyP(zo);co_applyP bB rfl (bA (hN _));intro xb L1 H;co_applyP bB rfl (bA (r' _));intro xk L2 E;have d:=(C.add H).add E;have v':At L2 K 15 (.map (some A.wt)):=d.kat rfl;have J:=d.w;rw[cJ] at J;have I:=(d.wa _ m).mem R;have q':(xb,true,Obj.cells #[ptr b] 93)∈L2:=E.sub _ H.self;have k':(Q,true,Obj.cells (xs.map ptr++(A.a (slot k)).junk).toArray 93)∈L1:=((C.add H).wa _ m).mem R;have j':xb≠Q:=λe=>H.new _ ((C.wa _ m).mem R) e.symm;have n':xk≠Q:=λe=>E.new _ k' e.symm;have b': ∀c y,(c,y)∈S.ps->c≠Q:=λc y hc=>d.fn.ne (d.p _ hc) I (aB bx);have l':K≠Q:=d.fn.ne d.k I (aB bx);have V:A.wt≠Q:=d.fn.ne J I (by simp[K8]);co_applyP(ay);co_applyP aM [] 7 mixed;co_applyP(av);co_applyP tr 6 rfl sF pN;co_applyP t0 4 rfl (aW (ht:=bV) (hs:=bw) (hm:=E.self) (hi:=cD _)) pN;co_applyP t0 5 rfl (qP (k:=k) eR underlying110 ji J) pN;rw[N];co_applyP tc 7 rfl rfl rfl (g1 L2 125 _ [] [ptr xb] xs (λc=>decide (c=b)) Q (A.a (slot k)).junk I (hW.rl _ m) func125 rfl rfl (λc hc L M=>by obtain⟨y,hy⟩:=hW.rm _ m c hc;exact g0 L c b xb _ _ _ _ ⟨true,_,_,_,M.s _ q' j',rfl⟩ (M.s _ (d.p _ hy) (b' _ _ hy)) (M.s _ (d.p _ hb) (b' _ _ hb))));rintro _ _ _ ⟨rfl,Y,rfl,M,g',i'⟩;refine⟨aj bE, ?_⟩;rename_i L3;have c':=M.s _ E.self n';have Z:=M.s _ J V;have u':At L3 K 15 (.map (some A.wt)):=⟨true,_,_,_,M.s _ d.k l',rfl⟩;have O:S.IE b k=S.I8 (l1++((if(xs.filter λc=> !decide (c=b)).length=0 then [] else [(k,xs.filter λc=> !decide (c=b))])++l2)):=by unfold St.IE;rw[j,lW W f']
 have U: ∀(a':Sl)(bo:List Nat)(cl:Nat)(l:Wt)(bs:List Nat),(∀e∈l,e∈S.wt/\e.1≠k)->Kk (A.I8 k a' bo cl) l bs=Kk A l bs:=λa' bo cl l bs h=>eD λe he=>by
  have:=f e (h e he).1 (h e he).2;simp[Kq.I8,put,this]
 have z: ∀e∈l1,e∈S.wt/\e.1≠k:=λe he=>⟨by rw[j];simp[he],W e he⟩;have u: ∀e∈l2,e∈S.wt/\e.1≠k:=λe he=>⟨by rw[j];simp[he],f' e he⟩;co_applyP to 8 rfl (fX) (aj bE);co_applyP(aR);co_applyP aI rfl;intro hc;co_applyP aK
 ·have hz:(xs.filter λc=> !decide (c=b)).length=0:=by simpa using hc
  co_applyP aM [] 5 (nf:=0) mixed;co_applyP(av);co_applyP t0 4 rfl (aW (ht:=bV) (hs:=bw) (hm:=c') (hi:=cD _)) pN;co_applyP aF;intro hnd;co_applyP te (i:=5) rfl (DK (k:=k) hnd eR underlying110 Z);rintro _ _ ⟨rfl,B⟩;refine⟨aj bE, ?_⟩;co_applyP(ay);change∃v,Ko .. =some v/\_;have hd:dlk k (Kk A S.wt A.born)=Kk A (l1++l2) (G++D):=by
   unfold dlk;rw[N,o,cH A r];simp only;rw[List.eraseIdx_append_of_length_le (by rw[dS A r];omega),dS A r];simp
  rw[hd] at B;refine⟨_,rfl,rfl,rfl,A.I8 k ⟨none,[]⟩ (G++D) A.clock,No.set A k _ _ _, ?_⟩;rw[O,if_pos hz,u6];have d':(G++D).Sublist A.born:=by rw[g];exact List.Sublist.append (List.Sublist.refl _) (List.sublist_cons_self _ _)
  refine d.JF B.fn (λt X h1 h2=>B.ne _ (M.s _ X (λe=>h2 (by rw[R,e]))) h1) ?_ ao (C.bn.sublist d') (λx hx=>C.bc x (d'.subset hx)) ?_ (λb hb=>by cases hb) (λb hb=>by cases hb)
  ·rw[U _ _ _ _ _ (λe he=>(cE.1 he).elim (z e) (u e))];exact B.self
  ·intro e he;have:=(cE.1 he).elim (z e) (u e);exact .inr ⟨this.1,f e this.1 this.2⟩
 intro hc;co_applyP(zo);change Kw ..;have hz: ¬(xs.filter λc=> !decide (c=b)).length=0:=by simpa using hc
 co_applyP aM [] 6 (nf:=0) mixed;co_applyP(av);co_applyP tr 5 rfl bk pN;co_applyP t0 4 rfl (aW (ht:=bV) (hs:=bw) (hm:=c') (hi:=cD _)) pN;co_applyP aF;intro hnd;co_applyP te (i:=6) rfl (Iu (k:=k) hnd eR underlying110 Z);rintro _ _ ⟨rfl,B⟩;refine⟨aj bE, ?_⟩;co_applyP(zo);change∃v,Ko .. =some v/\_;have e':upk k (.slice (some ⟨Q,0,none⟩) (xs.filter λc=> !decide (c=b)).length (xs.length+(A.a (slot k)).junk.length)) (Kk A S.wt A.born) A.clock=K8 (Kk (A.I8 k ⟨some Q,Y⟩ A.born A.clock) (l1++(k,xs.filter λc=> !decide (c=b))::l2) A.born) A.clock:=by
  unfold upk;rw[N,o,g,cH _ r];simp only;congr 1;rw[<-dS A r,lX,U _ _ _ _ _ z];congr 1;show _=(k,Ky ((A.I8 k ⟨some Q,Y⟩ (G++T::D) A.clock).a (slot k)) _,T)::Kk (A.I8 k ⟨some Q,Y⟩ (G++T::D) A.clock) l2 D;rw[U _ _ _ _ _ u];have e1:(A.I8 k ⟨some Q,Y⟩ (G++T::D) A.clock).a (slot k)=⟨some Q,Y⟩:=by simp[Kq.I8,put]
  rw[e1];unfold Ky;simp only;rw[i']
 rw[e'] at B;refine⟨_,rfl,rfl,rfl,A.I8 k ⟨some Q,Y⟩ A.born A.clock,No.set A k _ _ _, ?_⟩;rw[O,if_neg hz,List.singleton_append];refine d.JF B.fn (λt X h1 h2=>B.ne _ (M.s _ X (λe=>h2 (by rw[R,e]))) h1) B.self (by rw[C.wl,j];simp) C.bn C.bc ?_ (λb hb=> ?_) (λb hb=> .inl (by rw[R];exact hb))
 ·intro e he;rcases cE.1 he with h|h
  ·exact .inr ⟨(z e h).1,f e (z e h).1 (z e h).2⟩
  ·rcases gn.1 h with rfl|h
   ·exact .inl ⟨rfl,B.ne _ g' (ft V)⟩
   ·exact .inr ⟨(u e h).1,f e (u e h).1 (u e h).2⟩
 ·obtain rfl:Q=b:=by simpa using hb
  exact⟨_,B.ne _ g' (ft V)⟩
end Go.Proofs.YtejkelcaljmnoaaGreatDoor
namespace Go.Lo
open Go.Conc Go.Hx
section
variable {P:Program}{New:Obj->Prop}{N:Nat}{ε:Env}{L:Ka}{d:Option Tmp}{ty:TypeId}{ps:String}{af:Array Edge}{g:Option (Nat×Bool)}
theorem Hb {t:TypeId}{x:Operand}{w v:Value}(hv:KF P (Instr.sliceAt t w none none none) []=some (v,[]))(hx:ev ε x=some w:=by rfl):EY P N ε L ⟨d, .slice t x none none none,ty,ps,af,g⟩ v:=λa b=>by
 refine cN (λ_=>rfl) λK e=> ?_;show Kz P (Instr.sliceAt t (a.eval x) none none none) K L;rw[b.ev hx];exact aZ hv e
theorem DL {t u:TypeId}{x y:Operand}{k k':Nat×Nat}(H:M5 P t)(f: ∀x y,KF P (eqGuard .eql t x y (kv k) (kv k')) []=some ((),[])) (hx:ev ε x=some (kv k):=by rfl) (hy:ev ε y=some (kv k'):=by rfl):EY P N ε L ⟨d, .binOp .eql t x y u,ty,ps,af,g⟩ (.bool (decide (k=k'))):=λa b=>by
 refine cN (λ_=>rfl) λK e=> ?_;rw[b.ev hx,b.ev hy,aq];refine aZ (f _ _) ?_;show Kz P (do pure (.bool (<-Op.equal t (kv k) (kv k')))) K L;rw[aq];exact nE H e
end
end Go.Lo
namespace Go.Proofs.YtejkelcaljmnoaaGreatDoor
open Go.Conc Go.Hx Go.Lo Tryz
attribute [local irreducible] EY KO K6 Kw Kc Ku Kd Program.underlying
theorem DN (k k':Nat×Nat)(x y:Operand):KF prog (eqGuard .eql 96 x y (kv k) (kv k')) []=some ((),[]):=bD
theorem Iv (b:Nat):KF prog (Instr.sliceAt 97 (.pointer (some ⟨b,79,none⟩)) none none none) []=some (.slice (some ⟨b,79,none⟩) 6 6,[]):=bD
def PS.JY (x:PS)(k:Nat×Nat):Int:=match (List.range 6).findIdx? λi=>decide (k=x.f i) with
 |some i=>i
 |none=> -1
def PS.has (x:PS)(k:Nat×Nat):Bool:=(List.range 6).any λi=>decide (k=x.f i)
theorem yN (x:PS)(k:Nat×Nat):decide (0<=x.JY k)=x.has k:=by
 unfold PS.JY PS.has;cases h:(List.range 6).findIdx? λi=>decide (k=x.f i) with
 |none=>
  have:=wb.1 h;rw[List.any_eq_false.2 λi a=>by simpa using this i a];rfl
 |some i=>
  obtain⟨b,d,_⟩:=OG.1 h;rw[OH.2 ⟨_,List.getElem_mem b,d⟩];simp
theorem yO: ∃n,∀{C}{F:Kn C}{A:DM F}{d s}(L:Ka)(b:Nat)(x:PS)(k:Nat×Nat),(∀cs,(A s).New (.cells cs 96))->pb b x∈L->
 Kb A prog d 173 [.slice (some ⟨b,79,none⟩) 6 6,KE k].toArray n s L (λs' v L'=>s=s'/\v= .int .i64 (x.JY k)/\Ext L L'):=by
 constructor;intro C F A d s L b x k H hb;co_applyP ar 19 func173 ntmps173;co_applyP(zo);co_applyP bB rfl (bA (H _));intro G I m;have z:=m.sub _ hb;co_applyP(bm);co_applyP aU (λc s' o L'=>s'=s/\L'=I/\ ∃i,i<=6/\(∀j,j<i->k≠x.f j)/\c+i=6/\kn o [(8, .int .i64 (i:Nat)),(7, .int .i64 6),(0, .slice (some ⟨b,79,none⟩) 6 6),(3,ptr G)]) 6
 ·exact⟨rfl,rfl,0,bl,λj r=>bl,rfl,rfl⟩
 rintro c s' o L' ⟨rfl,rfl,i,B,u,hc,he⟩;co_applyP aA he;co_applyP(ax);co_applyP aK;co_applyP aI rfl;intro g
 ·have a:i<6:=by simp at g;omega
  have D:IntKind.i64.wrap ((i:Int)+1)=((i+1:Nat):Int):=ag
  have E:79+i*2=79+2*i:=bl
  co_applyP(bm);co_applyP tr 0 rfl (aW (ht:=bV) (hs:=bw) (hm:=m.self) (hi:=cD _)) pI;co_applyP(ax);co_applyP tr 4 rfl (aW (ht:=bV) (hs:=bw) (hm:=z) (hi:=by rw[bq];omega)) pI;rw[E,sU x a];co_applyP tr 5 rfl (DL (k:=k) (k':=x.f i) eR (DN k (x.f i))) pI;co_applyP(zo);co_applyP aI rfl;intro p;co_applyP(au);change∃v,Ko .. =some v/\_
  ·have l:k=x.f i:=by simpa using p
   have y:x.JY k=i:=by
    unfold PS.JY;have:((List.range 6).findIdx? λi=>decide (k=x.f i))=some i:=by
     rw[OG];refine⟨by simpa using a,by simpa using l,λj r=>by simpa using u j r⟩
    rw[this]
   exact⟨_,rfl,rfl,by rw[y],m.fn,m.sub⟩
  intro p;co_applyP(au);change∃k',k'<_/\_;have l: ¬k=x.f i:=by simpa using p
  refine⟨c-1,bl,rfl,rfl,i+1,bl,λj r=> ?_,bl,by rw[<-D];rfl⟩;by_cases e:j=i
  ·rw[e];exact l
  ·exact u j bl
 intro g;co_applyP(au);change∃v,Ko .. =some v/\_;have a:i=6:=by simp at g;omega
 subst a;have y:x.JY k= -1:=by
  unfold PS.JY;rw[wb.2 λj r=>by simpa using u j (by simpa using r)]
 exact⟨_,rfl,rfl,by rw[y],m.fn,m.sub⟩
theorem qQ: ∃n,∀{g}{F:Kn g}{e:DM F}{a s}(L:Ka)(b:Nat)(x:PS)(k:Nat×Nat),(∀cs,(e s).New (.cells cs 96))->pb b x∈L->
 Kb e prog a 168 [.slice (some ⟨b,79,none⟩) 6 6,KE k].toArray n s L (λs' v L'=>s=s'/\v= .bool (x.has k)/\Ext L L'):=by
 obtain⟨o,l⟩:=yO;constructor;intro g F e a s L b x k f hb;co_applyP ar 9 func168 ntmps168;co_applyP(zo);co_applyP bB rfl (bA (f _));intro m j d;co_applyP(av);co_applyP oy rfl (aW (ht:=bV) (hs:=bw) (hm:=d.self) (hi:=cD _));co_applyP oc rfl rfl rfl (l j b x k f (d.sub _ hb));rintro _ _ _ ⟨rfl,rfl,i⟩;co_applyP(av);exact xI _ ⟨rfl,rfl,by rw[<-yN],Ext.trans ⟨d.fn,d.sub⟩ i⟩
theorem mZ: ∃n,∀{f}{F:Kn f}{d:DM F}{a s}(L:Ka)(b e:Nat)(x:PS)(k:Nat×Nat),(∀cs,(d s).New (.cells cs 96))->pb b x∈L->(e,true,Obj.cells (KE k).cells 96)∈L->
 Kb d prog a 167 [ptr b,ptr e].toArray n s L (λs' v L'=>s=s'/\v= .bool (x.has k)/\Ext L L'):=by
 obtain⟨m,l⟩:=qQ;constructor;intro f F d a s L b e x k g hb j;co_applyP ar 10 func167 ntmps167;co_applyP(av);co_applyP aM [] 5 mixed;co_applyP(ax);co_applyP tr 3 rfl (Hb (Iv b)) pN;co_applyP t0 4 rfl (aW (ht:=bV) (hs:=bw) (hm:=j) (hi:=cD _)) pN;co_applyP tc 5 rfl rfl rfl (l L b x k g hb);rintro _ _ _ ⟨rfl,rfl,i⟩;refine⟨aj bE, ?_⟩;co_applyP to 6 rfl (fX) (aj bE);co_applyP(ay);exact xI _ ⟨rfl,rfl,rfl,i⟩
theorem yP (a:Nat->Bool)(xs:List Nat):decide (0<=Mh a xs)=xs.any a:=by
 unfold Mh;cases h:xs.findIdx? a with
 |none=>
  have:=wb.1 h;rw[List.any_eq_false.2 λi b=>by simpa using this i b];rfl
 |some i=>
  obtain⟨d,e,_⟩:=OG.1 h;rw[OH.2 ⟨_,List.getElem_mem d,e⟩];simp
theorem dF (nf:Nat): ∃n,∀{l}{F:Kn l}{k:DM F}{d s}(L0:Ka)(f:FuncId)(g:Func)(c1 c2:List Value)(xs:List Nat)(a:Nat->Bool)(base:Option Addr)(cap:Nat),
 (∀i v,(xs.map ptr)[i]? =some v-> ∃b,base=some ⟨b,0,none⟩/\At L0 b i v)->xs.length<=8->prog.funcs[f]? =some g->(g.name== "runtime.NumGoroutine")=false->g.body.isNone=false->
 (∀c∈xs,∀L,Ext L0 L->Kb k prog d f (c1++[ptr c]++c2).toArray nf s L (λs' v L'=>s=s'/\v= .bool (a c)/\Ext L L'))->
 Kb k prog d 149 [.slice base xs.length cap, .func (.func f) c1.toArray c2.toArray].toArray n s L0 (λs' v L'=>s=s'/\v= .bool (xs.any a)/\Ext L0 L'):=by
 obtain⟨u,r⟩:=ff nf;constructor;intro l F k d s L0 f g c1 c2 xs a base cap j p m e hb hc;co_applyP ar 9 func149 ntmps149;co_applyP(aC);co_applyP oc rfl rfl rfl (r L0 f g c1 c2 xs a base cap j p m e hb hc);rintro _ _ _ ⟨rfl,rfl,o⟩;co_applyP(av);exact xI _ ⟨rfl,rfl,by rw[<-yP],o⟩
def St.IM (S:St)(k:Nat×Nat):Bool:=S.ps.any λq=>q.2.has k
def St.Jc (S:St)(p:PS->Bool)(c:Nat):Bool:=match S.get c with
 |some y=>p y
 |none=>false
theorem gT {S:St}(hn:(S.ps.map (·.1)).Nodup)(p:PS->Bool):(S.ps.map (·.1)).any (S.Jc p)=S.ps.any λq=>p q.2:=by
 rw[List.any_map];rw[OR,OH,OH];constructor
 ·rintro⟨q,a,h⟩;refine⟨q,a, ?_⟩;simpa [Function.comp,St.Jc,aY hn (b:=q.1) (x:=q.2) a] using h
 ·rintro⟨q,a,h⟩;refine⟨q,a, ?_⟩;simpa [Function.comp,St.Jc,aY hn (b:=q.1) (x:=q.2) a] using h
theorem jj: ∃n,∀{E}{F:Kn E}{o:DM F}{d s}(K:Nat)(A:Kq)(S:St)(Fr L:Ka)(k:Nat×Nat),(∀cs,(o s).New (.cells cs 96))->Ke K A S Fr L->
 Kb o prog d 161 [ptr K,KE k].toArray n s L (λs' v L'=>s=s'/\v= .bool (S.IM k)/\Ext L L'):=by
 obtain⟨C,g0⟩:=mZ;obtain⟨N,I⟩:=dF C;constructor;intro E F o d s K A S Fr L k D J;co_applyP ar 11 func161 ntmps161;co_applyP(zo);co_applyP bB rfl (bA (D _));intro r z j;have a:=J.add j;obtain⟨f,cap,l,g⟩:=bH a.pa;simp only[ia] at l;have M:At z K 5 (.slice f (S.ps.map (·.1)).length cap):=by rw[ia,<-l];exact a.kat rfl
 co_applyP(aO);have u: ∀c∈S.ps.map (·.1),∀L,Ext z L->Kb o prog d 167 ([]++[ptr c]++[ptr r]).toArray C s L (λs' v L'=>s=s'/\v= .bool (S.Jc (λy=>y.has k) c)/\Ext L L'):=by
  intro c hc L m;obtain⟨q,B,rfl⟩:=cm.1 hc;have e:S.Jc (λy=>y.has k) q.1=q.2.has k:=by simp[St.Jc,aY a.pn (b:=q.1) (x:=q.2) B]
  rw[e];exact g0 L q.1 r q.2 k D (m.s _ (a.p _ B)) (m.s _ j.self)
 co_applyP oc rfl rfl rfl (I z 167 _ [] [ptr r] (S.ps.map (·.1)) (S.Jc λy=>y.has k) f cap (λi v l=>by obtain⟨b,_,H,G⟩:=g i v (by simpa using l);exact⟨b,H,G⟩) (by simpa using a.p8) func167 rfl rfl u);rintro _ _ _ ⟨rfl,rfl,m⟩;co_applyP(ax);exact xI _ ⟨rfl,rfl,by rw[gT a.pn];rfl,Ext.trans ⟨j.fn,j.sub⟩ m⟩
theorem lY: ∃n,∀{r}{F:Kn r}{f:DM F}{a s}(K:Nat)(A:Kq)(S:St)(Fr L:Ka)(b:Nat)(x:PS)(k:Nat×Nat),(∀cs,(f s).New (.cells cs 93))->(∀cs,(f s).New (.cells cs 96))->Ke K A S Fr L->Oj S->(b,x)∈S.ps->
 Kb f prog a 105 [ptr K,ptr b,KE k].toArray n s L (λs' v L'=>s=s'/\v= .tuple #[]/\ ∃p,No A p/\Ke K p (S.IE b k) Fr L'):=by
 obtain⟨B,g0⟩:=yL;obtain⟨y,E⟩:=yM;refine⟨B+y,λ{r F f a s} K A S Fr L b x k m d o l hb=>aG (∀e∈S.wt,e.1≠k) (λh=> ?_) λh=> ?_⟩
 ·refine aJ (g0 K A S Fr L b k m d o h) λs' v L' ⟨j,i,g⟩=>⟨j,i,A,No.refl A, ?_⟩;have e:S.IE b k=S:=by unfold St.IE;rw[eF h];rfl
  rw[e];exact g
 ·have u:k∈S.wt.map (·.1):=by
   refine ti λz=>h λe he D=>z (cm.2 ⟨e,he,D⟩)
  obtain⟨G,xs,C,j,i,g⟩:=cu l.kn u;exact E K A S Fr L b x k G C xs m d o l hb j i g
theorem dG (a b:Int):KF prog (Instr.build 96 [(0, .int .i64 a),(1, .int .i64 b)].toArray) []=some (.agg #[.int .i64 a, .int .i64 b],[]):=bD
def KH (k:Nat×Nat):Nat×Nat:=if k.2=4 then(k.1,5) else(k.1,4)
theorem oY: ∃n,∀{r}{F:Kn r}{j:DM F}{d s}(L:Ka)(k:Nat×Nat),(∀cs,(j s).New (.cells cs 96))->
 MC j prog d 171 [KE k].toArray n s L (λs' v L'=>s=s'/\v=KE (KH k)/\Ext L L'):=by
 constructor;intro r F j d s L k p;co_applyP oV 12 func171 ntmps171;co_applyP(zo);co_applyP bB rfl (bA (p _));intro m y b;co_applyP bB rfl (eN (z:=KE (0,0)) (p _));intro o l a;have f:=a.sub _ b.self;have h0:At l m 0 (.int .i64 (k.1:Nat)):=⟨true,_,_,_,f,rfl⟩;have x:At l m 1 (.int .i64 (k.2:Nat)):=⟨true,_,_,_,f,rfl⟩;co_applyP(aR);co_applyP aI rfl;intro hc;co_applyP(ax)
 ·have i:k.2=4:=by have:(k.2:Int)=4:=(by simpa using hc);omega
  co_applyP oy rfl (aQ (dG _ _));co_applyP oeN rfl (λhnd=>fA (hs:=bw) (vs:=[.int .i64 (k.1:Nat), .int .i64 5]) (hnd:=hnd) (hm:=a.self) (hi:=cD _));rintro _ u ⟨rfl,e⟩;co_applyP(ay);change∃v,NP _ _ _ _ v/\_;refine⟨_,⟨_,_,o,0,2,true,_,_,rfl,rfl,bV,bw,e.self,cD _,rfl⟩,rfl,by simp[KH,i];rfl,e.fn,λt g=>e.ne _ (a.sub _ (b.sub _ g)) (a.new _ (b.sub _ g))⟩
 intro hc;co_applyP(av)
 have i: ¬k.2=4:=by have: ¬(k.2:Int)=4:=(by simpa using hc);omega
 co_applyP oy rfl (aQ (dG _ _));co_applyP oeN rfl (λhnd=>fA (hs:=bw) (vs:=[.int .i64 (k.1:Nat), .int .i64 4]) (hnd:=hnd) (hm:=a.self) (hi:=cD _));rintro _ u ⟨rfl,e⟩;co_applyP(ay);change∃v,NP _ _ _ _ v/\_;refine⟨_,⟨_,_,o,0,2,true,_,_,rfl,rfl,bV,bw,e.self,cD _,rfl⟩,rfl,by simp[KH,i];rfl,e.fn,λt g=>e.ne _ (a.sub _ (b.sub _ g)) (a.new _ (b.sub _ g))⟩
def St.IL (S:St)(x:PS)(k:Nat×Nat):Bool:=if S.IM (KH k) then(if k.2=4 then decide (0<(S.by_ k.1).length) else decide (((S.by_ k.1).length:Int)+x.r 2<=8)) else true
theorem ue (k:KS){i:Nat}(hi:i<5):(Ks k)[10+i]? =some (k.by_ i):=by
 rcases i with _|_|_|_|_|i
 ·rfl
 ·rfl
 ·rfl
 ·rfl
 ·rfl
 ·omega
theorem gC: ∃n,∀{I}{F:Kn I}{D:DM F}{j s}(K:Nat)(A:Kq)(S:St)(Fr L:Ka)(b:Nat)(x:PS)(k:Nat×Nat),(∀cs,(D s).New (.cells cs 96))->Ke K A S Fr L->(b,x)∈S.ps->WF x->k.1<5->(S.by_ k.1).length<=8->
 Kb D prog j 165 [ptr K,ptr b,KE k].toArray n s L (λs' v L'=>s=s'/\v= .bool (S.IL x k)/\Ext L L'):=by
 obtain⟨U,g0⟩:=oY;obtain⟨T,P⟩:=jj;constructor;intro I F D j s K A S Fr L b x k B H hb O o W;obtain⟨a,cap,M,_⟩: ∃a cap,Ky (A.y k.1) (S.by_ k.1).length= .slice a (S.by_ k.1).length cap/\True:=by
  obtain⟨a,cap,h,_⟩:=bH (H.ya k.1 o);simp only[ia] at h;exact⟨a,cap,h,trivial⟩
 have Q:=O.r 2 bl;co_applyP ar 38 func165 ntmps165;co_applyP(zo);co_applyP bB rfl (bA (B _));intro E p e;have m:=H.add e;have h0:At p E 0 (.int .i64 (k.1:Nat)):=⟨true,_,_,_,e.self,rfl⟩;have N:At p K (10+k.1) (.slice a (S.by_ k.1).length cap):=by rw[<-M];exact m.kat (ue _ o)
 have l:Ext L p:=⟨e.fn,e.sub⟩;co_applyP(aH);co_applyP(ay);co_applyP oy rfl (aW (ht:=bV) (hs:=bw) (hm:=e.self) (hi:=cD _));co_applyP ocm rfl rfl rfl (g0 p k B);rintro _ _ _ ⟨rfl,rfl,d⟩;rename_i J;co_applyP oc rfl rfl rfl (P K A S Fr J (KH k) B (m.ext d));rintro _ _ _ ⟨rfl,rfl,f⟩;co_applyP(ax);change Kw ..;rename_i G;have z:=(m.ext d).ext f;have V:At G E 1 (.int .i64 (k.2:Nat)):=⟨true,_,_,_,f.s _ (d.s _ e.self),rfl⟩;have R:At G b 9 (.int .u16 (x.r 2)):=z.pat hb (bu x (i:=2) bl);have w2:IntKind.i64.wrap (x.r 2)=x.r 2:=by simp[IntKind.wrap_i64];omega
 have w3:IntKind.i64.wrap (((S.by_ k.1).length:Int)+x.r 2)=((S.by_ k.1).length:Int)+x.r 2:=ag
 co_applyP aI rfl;intro u;co_applyP(av);change∃v,Ko .. =some v/\_
 ·have g:S.IM (KH k)=false:=by simpa using u
  exact⟨_,rfl,rfl,by simp[St.IL,g],l.trans (d.trans f)⟩
 intro u;co_applyP(aC);change Kw ..;have g:S.IM (KH k)=true:=by simpa using u
 co_applyP aI rfl;intro hc;co_applyP(aC);change∃v,Ko .. =some v/\_
 ·have C:k.2=4:=by have:(k.2:Int)=4:=(by simpa using hc);omega
  exact⟨_,rfl,rfl,by simp[St.IL,g,C],l.trans (d.trans f)⟩
 intro hc;co_applyP(dE);change∃v,Ko .. =some v/\_
 have C: ¬k.2=4:=by have: ¬(k.2:Int)=4:=(by simpa using hc);omega
 exact⟨_,rfl,rfl,by rw[w2,w3];simp[St.IL,g,C],l.trans (d.trans f)⟩
theorem ER (a b:Nat):((a:Int)==(b:Int))=decide (a=b):=by rw[OR];simp;omega
theorem dH: ∃n,∀{d}{F:Kn d}{b:DM F}{a s}(L:Ka)(p c:Nat)(x y:PS),pb p x∈L->pb c y∈L->
 Kb b prog a 128 [ptr p,ptr c].toArray n s L (λs' v L'=>s=s'/\L=L'/\v= .bool (decide (y.par=x.id))):=by
 constructor;intro d F b a s L p c x y e hc;have f:At L c 1 (.int .i64 y.par):=⟨true,_,_,_,hc,rfl⟩;have g:At L p 0 (.int .i64 x.id):=⟨true,_,_,_,e,rfl⟩;co_applyP ar 16 func128 ntmps128;co_applyP(aH);co_applyP(av);exact xI _ ⟨rfl,rfl,rfl,by rw[ER]⟩
theorem jZ: ∃n,∀{f}{F:Kn f}{Δ:DM F}{main s}(L:Ka)(p c b:Nat)(x y:PS),pb p x∈L->pb c y∈L->At L b 0 (ptr p)->
 Kb Δ prog main 148 [ptr c,ptr b].toArray n s L (λs' v L'=>s=s'/\v= .bool (decide (y.par=x.id/\y.st=6))/\Ext L L'):=by
 obtain⟨j,i⟩:=dH;constructor;intro f F Δ main s L p c b x y g hc hb;have k:At L c 2 (.int .i64 y.st):=⟨true,_,_,_,hc,rfl⟩;co_applyP ar 15 func148 ntmps148;co_applyP iV;intro d;co_applyP(aC);co_applyP oc rfl rfl rfl (i L p c x y g hc);rintro _ _ _ ⟨rfl,rfl,rfl⟩;co_applyP(zo);co_applyP tZ (y.par=x.id);intro a
 ·rw[decide_eq_true a];co_applyP(aP);refine xI _ ⟨rfl,rfl, ?_,d,λ_ h=>h⟩;have e:((y.st:Int)==6)=decide (y.par=x.id/\y.st=6):=by rw[OR];simp[a];omega
  rw[<-e];rfl
 intro a;rw[decide_eq_false a];co_applyP(aP);refine xI _ ⟨rfl,rfl, ?_,d,λ_ h=>h⟩;have e:false=decide (y.par=x.id/\y.st=6):=by simp[a]
 rw[<-e];rfl
def St.IH (S:St)(id:Nat):List Nat->St
 |[]=>S
 |b::bs=>St.IH (match S.get b with
  |some y=>if y.par=id then S.ID b {y with par:=1} else S
  |none=>S) id bs
theorem jl (S:St)(id:Nat)(l m:List Nat):S.IH id (l++m)=(S.IH id l).IH id m:=by
 induction l generalizing S with
 |nil=>rfl
 |cons b l ih=>simp only[sc,St.IH];exact ih _
structure ND (S S':St):Prop where
 f:S'.ps.map (·.1)=S.ps.map (·.1)
 v: ∀b y,(b,y)∈S.ps-> ∃z,(b,z)∈S'.ps/\{z with par:=y.par}=y
 r:S'.rows=S.rows/\S'.by_=S.by_/\S'.wt=S.wt/\S'.now=S.now/\S'.last=S.last
theorem ND.refl (S:St):ND S S:=⟨rfl,λb y h=>⟨y,h,rfl⟩,rfl,rfl,rfl,rfl,rfl⟩
theorem ND.step {S S':St}(h:ND S S')(hn:(S'.ps.map (·.1)).Nodup){b:Nat}{y:PS}(hb:(b,y)∈S'.ps):ND S (S'.ID b {y with par:=1}):=by
 refine⟨by rw[aV];exact h.f,λc w hc=> ?_,h.r⟩;obtain⟨z,a,he⟩:=h.v c w hc;by_cases e:c=b
 ·subst e;obtain rfl:=aS hn hb a;exact⟨_,ai a,by simpa using he⟩
 ·exact⟨z,by simp only[St.ID,cm];exact⟨(c,z),a,by simp[e]⟩,he⟩
theorem yQ: ∃n,∀{σ}{F:Kn σ}{Z:DM F}{u s}(K:Nat)(A:Kq)(S:St)(Fr L:Ka)(b:Nat)(x:PS),Ke K A S Fr L->(b,x)∈S.ps->
 Kb Z prog u 109 [ptr K,ptr b].toArray n s L (λs' v L'=>s=s'/\v= .tuple #[]/\ND S (S.IH x.id (S.ps.map (·.1)))/\Ke K A (S.IH x.id (S.ps.map (·.1))) Fr L'):=by
 obtain⟨n1,g1⟩:=dH;constructor;intro σ F Z u s K A S Fr L b x N hb;obtain⟨j,cap,Y,M⟩:=bH N.pa;simp only[ia] at Y;have h5:At L K 5 (.slice j S.ps.length cap):=by rw[<-Y];exact N.kat rfl
 co_applyP ar 23 func109 ntmps109;co_applyP(bm);co_applyP aU (λk s' H L'=>s'=s/\ ∃g r,S.ps=g++r/\Ke K A (S.IH x.id (g.map (·.1))) Fr L'/\ND S (S.IH x.id (g.map (·.1)))/\k+g.length=8/\kn H [(11, .int .i64 g.length),(10, .int .i64 S.ps.length),(9, .slice j S.ps.length cap),(1,ptr b),(0,ptr K)]) 8
 ·exact⟨rfl,[],S.ps,rfl,N,ND.refl S,rfl,rfl⟩
 rintro k s' H L' ⟨rfl,g,r,C,d,E,hk,he⟩;co_applyP aA he;have i:=congrArg List.length C;simp only[mb] at i;have h8:=N.p8;co_applyP(ax);co_applyP aK;co_applyP aI rfl;intro B
 ·cases r with
  |nil=>simp at B i;omega
  |cons q r=>
   have V: ∃D,j=some ⟨D,0,none⟩/\At L' D g.length (ptr q.1):=by
    obtain⟨D,W,R,_⟩:=M g.length (ptr q.1) (by rw[C];simp);obtain⟨T,X,_,G⟩:=bH d.pa;have e1:(S.IH x.id (g.map (·.1))).ps.map (λq=>ptr q.1)=S.ps.map λq=>ptr q.1:=by
     have:=congrArg (List.map ptr) E.f;rw[kt,kt] at this;exact this
    obtain⟨b',m,_,U⟩:=G g.length (ptr q.1) (by rw[e1,C];simp);rw[W] at m;obtain rfl:D=b':=by simpa using m
    exact⟨D,R,U⟩
   obtain⟨D,rfl,a'⟩:=V;simp at i;obtain⟨z,I,c'⟩:=E.v q.1 q.2 (by rw[C];simp);obtain⟨w,hw,Q⟩:=E.v b x hb;have o:w.id=x.id:=by have:=congrArg PS.id Q;exact this
   have J:=aY d.pn I;have l:IntKind.i64.wrap ((g.length:Int)+1)=((g++[q]).length:Int):=ag
   have a:S.IH x.id ((g++[q]).map (·.1))=if z.par=x.id then(S.IH x.id (g.map (·.1))).ID q.1 {z with par:=1} else S.IH x.id (g.map (·.1)):=by
    rw[l3,jl];show St.IH (match (S.IH x.id (g.map (·.1))).get q.1 with|some y=>_|none=>_) x.id []=_;rw[J];rfl
   co_applyP(bf);co_applyP oc rfl rfl rfl (g1 L' b q.1 w z (d.p _ hw) (d.p _ I));rintro _ _ _ ⟨rfl,rfl,rfl⟩;co_applyP(zo);co_applyP aI rfl;intro hc;co_applyP(au)
   ·have O:z.par=x.id:=by rw[<-o];simpa using hc
    co_applyP osm rfl (hs:=bJ) (hm:=d.p _ I) (hi:=by first|decide|(rw[bq];omega)|(rw[bP];omega));intro L2 hU;have P:=d.ID I (x':={z with par:=1}) hU;co_applyP(au);change∃k',k'<_/\_;rw[if_pos O] at a;exact⟨k-1,bl,rfl,g++[q],r,by simp[C],by rw[a];exact P,by rw[a];exact E.step d.pn I,by simp;omega,by rw[<-l];rfl⟩
   intro hc;co_applyP(au);change∃k',k'<_/\_;have O: ¬z.par=x.id:=by rw[<-o];simpa using hc
   rw[if_neg O] at a;exact⟨k-1,bl,rfl,g++[q],r,by simp[C],by rw[a];exact d,by rw[a];exact E,by simp;omega,by rw[<-l];rfl⟩
 intro B;co_applyP(zo);change∃v,Ko .. =some v/\_;cases r with
 |nil=>
  have e:g=S.ps:=by rw[C];simp
  subst e;exact⟨_,rfl,rfl,rfl,E,d⟩
 |cons q r=>simp at B i;omega
def St.IP (S:St)(ps:List (Nat×PS)):St:={S with ps:=ps}
section
variable {K:Nat}{A:Kq}{S:St}{F L L':Ka}
theorem Ke.IP (h:Ke K A S F L){r:Sl}{ps':List (Nat×PS)}{ls:Nat}(hf:K5 L')(M:kb K (Lj (A.I6 0 r) {S.IP ps' with last:=ls})∈L')(hs: ∀t∈L,t.1≠K->(A.a 0).b≠some t.1->t∈L') (ha:Kf r (ps'.map λq=>ptr q.1) 93 L')
 (hp: ∀q∈ps',pb q.1 q.2∈L') (hpn:(ps'.map (·.1)).Nodup) (G:ps'.length<=8) (H: ∀t∈F,∀q∈ps',t.1≠q.1)
 (hd: ∀b,r.b=some b->(A.a 0).b=some b\/((∀i,(A.a i).b≠some b)/\ ∀t∈F,t.1≠b)):Ke K (A.I6 0 r) {S.IP ps' with last:=ls} F L':=by
 have D: ∀b,(A.a 0).b=some b->(b,true,Obj.cells ((S.ps.map λq=>ptr q.1)++(A.a 0).junk).toArray 93)∈L:=λb hb=>h.pa.mem hb;have ty: ∀{b:Nat}{fl:Bool}{o:Obj},(b,fl,o)∈L->(∀c,o≠Obj.cells c 93)->(A.a 0).b≠some b:=λhm C hb=>C _ (h.fn _ _ _ _ _ hm (D _ hb)).2;have arr: ∀(a:Sl)(xs:List Value)(e:TypeId),e≠115->(∀b,a.b=some b->(A.a 0).b≠some b)->Kf a xs e L->Kf a xs e L':=λa xs e he E ha=>by
  refine ha.mono λc hc o C=>hs _ C ?_ (E c hc);exact h.fn.ne (ha.mem hc) h.k (aB he)
 have y: ∀i,i≠0-> ∀b,(A.a i).b=some b->(A.a 0).b≠some b:=λi f b hb e=>h.d i 0 f (by rw[hb];simp) (by rw[hb,e]);have u: ∀i,i≠0->(A.I6 0 r).a i=A.a i:=λi f=>by simp[Kq.I6,put,f]
 have z:(A.I6 0 r).a 0=r:=by simp[Kq.I6,put]
 exact{h with
  fn:=hf
  k:=M
  g:=hs _ h.g (h.fn.ne h.g h.k (aB bx)) (ty h.g λc=>aB bx)
  p:=hp
  pn:=hpn
  p8:=G
  pa:=by rw[z];exact ha
  rw:=λl J=>by rw[u _ bl];exact arr _ _ _ bx (y _ bl) (h.rw l J)
  ya:=λi f=>arr _ _ _ bx (λb hb=>ty ((h.ya i f).mem hb) λc=>aB bx) (h.ya i f)
  w:=by
   have:Le (A.I6 0 r) {S.IP ps' with last:=ls}=Le A S:=by
    rw[cJ,cJ];show K8 (Kk (A.I6 0 r) S.wt A.born) A.clock=_;rw[eD λe _=>u _ (by unfold slot;omega)]
   rw[this];exact hs _ h.w (h.fn.ne h.w h.k (by simp[Le])) (ty h.w λc=>by simp[Le])
  wa:=λe he=>by rw[u _ (by unfold slot;omega)];exact arr _ _ _ bx (y _ (by unfold slot;omega)) (h.wa e he)
  al:=λi c hc=>by
   by_cases n:i=0
   ·subst n;rw[z] at hc;exact⟨_,ha.mem hc⟩
   ·rw[u i n] at hc;obtain⟨xs,B⟩:=h.al i c hc;exact⟨xs,hs _ B (h.fn.ne B h.k (aB bx)) (y i n c hc)⟩
  yl:=λi c hc=>by
   obtain⟨xs,B⟩:=h.yl i c hc;exact⟨xs,hs _ B (h.fn.ne B h.k (aB bx)) (ty B λc=>aB bx)⟩
  d:=λi j x f=>by
   by_cases n:i=0
   ·subst n;rw[u j (ft x),z];rw[z] at f;intro e;cases hb:r.b with
    |none=>exact f hb
    |some b=>
     rcases hd b hb with m|m
     ·exact h.d 0 j x (by rw[m];simp) (by rw[m,<-e,hb])
     ·exact m.1 j (by rw[<-e,hb])
   ·rw[u i n];rw[u i n] at f;by_cases I:j=0
    ·subst I;rw[z];intro e;cases hb:r.b with
     |none=>rw[hb] at e;exact f e
     |some b=>
      rcases hd b hb with m|m
      ·exact h.d i 0 n f (by rw[m,e,hb])
      ·exact m.1 i (by rw[e,hb])
    ·rw[u j I];exact h.d i j x f
  fr:=λt s=>hs _ (h.fr t s) (h.fd t s).1 ((h.fd t s).2.2.1 _)
  fd:=λt s=>by
   refine⟨(h.fd t s).1,H t s,λi=> ?_,(h.fd t s).2.2.2⟩;by_cases n:i=0
   ·subst n;rw[z];intro e;rcases hd _ e with m|m
    ·exact(h.fd t s).2.2.1 _ m
    ·exact m.2 t s rfl
   ·rw[u i n];exact(h.fd t s).2.2.1 i}
theorem Ke.beside (h:Ke K A S F L){c:Nat}{y:PS}(hm:pb c y∈L)(hp: ∀q∈S.ps,c≠q.1):Ke K A S (pb c y::F) L:=
 {h with
  fr:=λt a=>by
   rcases gn.1 a with rfl|a
   ·exact hm
   ·exact h.fr t a
  fd:=λt a=>by
   rcases gn.1 a with rfl|a
   ·refine⟨h.fn.ne hm h.k (aB bx),hp,λi e=> ?_,λi e=> ?_,h.fn.ne hm h.w (by simp[Le])⟩
    ·obtain⟨xs,b⟩:=h.al i _ e;exact aB bx (h.fn _ _ _ _ _ hm b).2
    ·obtain⟨xs,b⟩:=h.yl i _ e;exact aB bx (h.fn _ _ _ _ _ hm b).2
   ·exact h.fd t a}
theorem lZ (k:KS)(v:Value):(Ks k).setIfInBounds 5 v=Ks {k with procs:=v}:=rfl
theorem vA (A:Kq)(S:St)(a:Sl)(ps':List (Nat×PS)):Ks (Lj (A.I6 0 a) {S.IP ps' with last:=S.last})=Ks {Lj A S with procs:=Ky a ps'.length}:=by
 unfold Ks Lj Kq.I6 put St.IP;simp
end
def Kl (x:PS)(y:PS):Bool:=decide (y.par=x.id/\y.st=6)
def St.II (S:St)(x:PS):Option Nat:=S.ps.findIdx? λq=>Kl x q.2
def told (x y:PS):PS:={x with r:=put (put x.r 0 ((y.id:Int)%65536)) 1 (y.stat%65536)}
theorem sW {S:St}(hn:(S.ps.map (·.1)).Nodup)(p:PS->Bool):(S.ps.map (·.1)).findIdx? (S.Jc p)=S.ps.findIdx? λq=>p q.2:=by
 rw[List.findIdx?_map];have: ∀q∈S.ps,(S.Jc p∘(·.1)) q=p q.2:=λq a=>by simp[St.Jc,aY hn (b:=q.1) (x:=q.2) a]
 generalize S.ps=l at this⊢
 induction l with
 |nil=>rfl
 |cons q l ih=>
  rw[O0,O0,this q eT,ih λq a=>this q (dc _ a)]
theorem j0: ∃n,∀{σ}{F:Kn σ}{Δ:DM F}{main s}(K:Nat)(A:Kq)(S:St)(Fr L:Ka)(b:Nat)(x:PS),(∀cs,(Δ s).New (.cells cs 93))->Ke K A S Fr L->(b,x)∈S.ps->x.st≠6->
 Kb Δ prog main 130 [ptr K,ptr b].toArray n s L (λs' v L'=>s=s'/\match S.II x with
  |none=>v= .bool false/\Ke K A S Fr L'
  |some i=>v= .bool true/\ ∃c y a',S.ps[i]? =some (c,y)/\Ke K (A.I6 0 a') ({S.IP (S.ps.eraseIdx i) with last:=S.last}.ID b (told x y)) (pb c y::Fr) L'):=by
 obtain⟨n0,g0⟩:=jZ;obtain⟨n1,g1⟩:=ff n0;obtain⟨n2,g2⟩:=qM;constructor;intro σ F Δ main s K A S Fr L b x hN P hb F';co_applyP ar 55 func130 ntmps130;co_applyP(zo);co_applyP bB rfl (bA (hN _));intro G L1 E;have C:=P.add E;have O':At L1 G 0 (ptr b):=⟨true,_,_,_,E.self,rfl⟩;obtain⟨X,cap,V,Y⟩:=bH C.pa;simp only[ia] at V;have h5:At L1 K 5 (.slice X (S.ps.map (·.1)).length cap):=by rw[ia,<-V];exact C.kat rfl
 have H': ∀c∈S.ps.map (·.1),∀L,Ext L1 L->Kb Δ prog main 148 ([]++[ptr c]++[ptr G]).toArray n0 s L (λs' v L'=>s=s'/\v= .bool (S.Jc (Kl x) c)/\Ext L L'):=by
  intro c hc L Z;obtain⟨q,B,rfl⟩:=cm.1 hc;have e:S.Jc (Kl x) q.1=decide (q.2.par=x.id/\q.2.st=6):=by simp[St.Jc,aY C.pn (b:=q.1) (x:=q.2) B,Kl]
  rw[e];exact g0 L b q.1 G x q.2 (Z.s _ (C.p _ hb)) (Z.s _ (C.p _ B)) (Z.at O')
 co_applyP(aO);co_applyP oc rfl rfl rfl (g1 L1 148 _ [] [ptr G] (S.ps.map (·.1)) (S.Jc (Kl x)) X cap (λi v V=>by obtain⟨b,_,h2,h3⟩:=Y i v (by simpa using V);exact⟨b,h2,h3⟩) (by simpa using C.p8) func148 rfl rfl H');rintro _ _ _ ⟨rfl,rfl,Z⟩;co_applyP(aR);change Kw ..;rename_i L2;have l:=C.ext Z;have I:=sW P.pn (Kl x);co_applyP aI rfl;intro hc
 ·have g':S.II x=none:=by
   cases h:S.II x with
   |none=>rfl
   |some i=>unfold St.II at h;unfold Mh at hc;rw[I,h] at hc;simp at hc;omega
  co_applyP(av);change∃v,Ko .. =some v/\_;rw[g'];exact⟨_,rfl,rfl,rfl,l⟩
 intro hc;obtain⟨i,o⟩: ∃i,S.II x=some i:=by
  cases h:S.II x with
  |none=>unfold St.II at h;unfold Mh at hc;rw[I,h] at hc;simp at hc
  |some i=>exact⟨i,rfl⟩
 have hi:Mh (S.Jc (Kl x)) (S.ps.map (·.1))=i:=by unfold Mh;unfold St.II at o;rw[I,o]
 obtain⟨l',n',_⟩:=OG.1 o;rw[hi,o];generalize D':S.ps[i]=cy at n';obtain⟨c,y⟩:=cy;have m:S.ps[i]? =some (c,y):=by rw[sy l',D']
 have T:(c,y)∈S.ps:=l5 m;obtain⟨Q,M,j',J'⟩:=Y i (ptr c) (by simp[m]);subst j';have P':=Z.at J';have N':=Z.at h5;rw[ia] at N';have h8:=P.p8;have ei:IntKind.i64.wrap ((i:Int)+1)=(i:Int)+1:=ag
 have A':cap=S.ps.length+(A.a 0).junk.length:=by
  unfold Ky at V;rw[M] at V;simp only[Value.slice.injEq,true_and] at V;exact V.symm
 subst A';have J:=l.pa.mem M;have U:K≠Q:=l.fn.ne l.k J (aB bx);have z': ∀q∈S.ps,q.1≠Q:=λq B=>l.fn.ne (l.p _ B) J (aB bx);have r':G≠Q:=λe=>E.new _ (P.pa.mem M) e.symm;have I': ∀q∈S.ps,q.1≠G:=λq B=>E.new _ (P.p _ B);have E':K≠G:=E.new _ P.k;have q':=g2 (Δ:=Δ) (main:=main) (s:=s) L2 Q (S.ps.map λq=>ptr q.1) (A.a 0).junk i (by simpa using l') ao (by simp[Km]) J;rw[ia] at q';co_applyP(aH);co_applyP(au);rw[ei];co_applyP oc rfl rfl rfl (q');rintro _ _ _ ⟨rfl,rfl,c'⟩;co_applyP(ay);rename_i L3;have C':=c'.ne _ l.k U;co_applyP oeN rfl (λhnd=>bX (hs:=gx) (hnd:=hnd) (hm:=C') (hi:=by rw[bP];omega));rintro _ L4 ⟨rfl,R⟩;co_applyP(zo);co_applyP aK;have i':(S.ps.eraseIdx i).length=S.ps.length-1:=by rw[List.length_eraseIdx];simp[l']
 have d':(S.ps.eraseIdx i).map (λq=>ptr q.1)=(S.ps.map λq=>ptr q.1).eraseIdx i:=by simp[OT]
 have u: ∀q∈S.ps.eraseIdx i,q∈S.ps:=λq B=>tD B;have z: ∀t∈L2,t.1≠K->t.1≠Q->t∈L4:=λt D h1 h2=>R.ne _ (c'.ne _ D h2) h1;have N:Ke K (A.I6 0 ⟨some Q, .pointer none::(A.a 0).junk⟩) {S.IP (S.ps.eraseIdx i) with last:=S.last} Fr L4:=by
  refine l.IP R.fn ?_ (λt D h1 h2=>z t D h1 λe=>h2 (by rw[M,e])) ?_ (λq B=>z _ (l.p _ (u q B)) (l.fn.ne (l.p _ (u q B)) l.k (aB bx)) (z' _ (u q B))) ?_ bl (λt D q B=>(l.fd t D).2.1 q (u q B)) (λb hb=> .inl (by rw[M];exact hb))
  ·have:=R.self;rw[lZ] at this;unfold kb;rw[vA];have e1:Ky ⟨some Q, .pointer none::(A.a 0).junk⟩ (S.ps.eraseIdx i).length= .slice (some ⟨Q,0,none⟩) (S.ps.length-1) (S.ps.length+(A.a 0).junk.length):=by
    unfold Ky;simp only[i',gf];congr 1;omega
   rw[e1];exact this
  ·rw[d'];exact R.ne _ c'.self (ft U)
  ·rw[show (S.ps.eraseIdx i).map (·.1)=(S.ps.map (·.1)).eraseIdx i by simp[OT]];exact l.pn.sublist (List.eraseIdx_sublist _ _)
 have K':c≠b:=λe=>by
  subst e;obtain rfl:=aS P.pn T hb;have:Kl y y=true:=n';simp[Kl] at this;exact F' this.2
 have h':(b,x)∈S.ps.eraseIdx i:=by
  obtain⟨j,hj⟩:=mx hb;have f':j≠i:=λe=>by subst e;rw[hj] at m;simp at m;exact K' m.1.symm
  rw[G2];exact⟨j,f',hj⟩
 have H:pb c y∈L4:=z _ (l.p _ T) (l.fn.ne (l.p _ T) l.k (aB bx)) (z' _ T);have G': ∀q∈S.ps.eraseIdx i,c≠q.1:=λq B e=>by
  obtain⟨j,f',hj⟩:=G2.1 B;have T':=l5 hj;obtain⟨qc,qy⟩:=q;have e':c=qc:=e;subst e';have e1:(S.ps.map (·.1))[j]? =some c:=by simp[hj]
  have e2:(S.ps.map (·.1))[i]? =some c:=by simp[m]
  obtain⟨y',w'⟩:=mo.1 e1;obtain⟨p',m'⟩:=mo.1 e2;rcases Nat.lt_or_gt_of_ne f' with g|g
  ·exact absurd (w'.trans m'.symm) (Ow.1 P.pn j i y' p' g)
  ·exact absurd (m'.trans w'.symm) (Ow.1 P.pn i j p' y' g)
 replace N:=N.beside H G';have f:(G,true,Obj.cells #[ptr b] 93)∈L4:=z _ (Z.s _ E.self) (ft E') r';have S':At L4 G 0 (ptr b):=⟨true,_,_,_,f,rfl⟩;have Q':At L4 c 0 (.int .i64 (y.id:Nat)):=⟨true,_,_,_,H,rfl⟩;have R':At L4 c 3 (.int .i64 y.stat):=⟨true,_,_,_,H,rfl⟩;have d: ∀(L:Ka),(G,true,Obj.cells #[ptr b] 93)∈L-> ∀t∈[(G,true,Obj.cells #[ptr b] 93)],t∈L:=λL h t D=>by simp at D;rw[D];exact h
 have k':b≠G:=I' _ hb;co_applyP aM [(G,true,Obj.cells #[ptr b] 93)] 18 (nf:=0) mixed;co_applyP t0 0 rfl (bT (ht:=xP)) (aa (d _ f));co_applyP tr 1 rfl (bT (ht:=xP)) (aa (d _ f));co_applyP tr 2 rfl bk (aa (d _ f));co_applyP tr 3 rfl bI (aa (d _ f));co_applyP tr 4 rfl (br (hf:=cQ)) (aa (d _ f));co_applyP tr 5 rfl (br (hf:=fR)) (aa (d _ f));co_applyP t0 6 rfl (bT (ht:=dq)) (aa (d _ f));co_applyP tr 7 rfl (xB (hs:=U3) (ht:=U32)) (aa (d _ f));co_applyP tr 8 rfl bk (aa (d _ f));co_applyP tr 9 rfl bI (aa (d _ f));co_applyP tr 10 rfl (br (hf:=cQ)) (aa (d _ f));co_applyP tr 11 rfl (br (hf:=tW)) (aa (d _ f));co_applyP t0 12 rfl (bT (ht:=dq)) (aa (d _ f));co_applyP tr 13 rfl (xB (hs:=U3) (ht:=U32)) (aa (d _ f));co_applyP tr 14 rfl bI (aa (d _ f));co_applyP tr 15 rfl (br (hf:=cQ)) (aa (d _ f));co_applyP tr 16 rfl (br (hf:=kO)) (aa (d _ f));co_applyP tr 17 rfl (cW U47 bh) (aa (d _ f));co_applyP tr 19 rfl bI (aa (d _ f));co_applyP tr 20 rfl (br (hf:=cQ)) (aa (d _ f));co_applyP tr 21 rfl (br (hf:=kO)) (aa (d _ f));co_applyP aF;intro hnd;co_applyP te (i:=18) rfl (bX (hnd:=hnd) (hm:=N.p _ h') (hi:=by rw[bq];omega) (hs:=bh));rintro _ _ ⟨rfl,O⟩;refine⟨aj (d _ (O.ne _ f (ft k'))), ?_⟩;rename_i L5;rw[bC] at O;have h7:(Kg x).setIfInBounds (7+0) (.int .u16 ((y.id:Int)%65536))=Kg {x with r:=put x.r 0 ((y.id:Int)%65536)}:=dR x bl _;have t':=N.ID h' (x':={x with r:=put x.r 0 ((y.id:Int)%65536)}) (h7▸O);have B':(b,{x with r:=put x.r 0 ((y.id:Int)%65536)})∈({S.IP (S.ps.eraseIdx i) with last:=S.last}.ID b {x with r:=put x.r 0 ((y.id:Int)%65536)}).ps:=ai h';have W:=O.ne _ f (ft k');co_applyP to 22 rfl ((cW U47 bh)) (aj (d _ W));co_applyP aF;intro u';co_applyP te (i:=23) rfl (bX (hnd:=u') (hm:=t'.p _ B') (hi:=by rw[bq];omega) (hs:=bh));rintro _ _ ⟨rfl,b'⟩;refine⟨aj (d _ (b'.ne _ W (ft k'))), ?_⟩;rw[bC] at b';co_applyP(au);change∃v,Ko .. =some v/\_;have M':(Kg {x with r:=put x.r 0 ((y.id:Int)%65536)}).setIfInBounds (7+1) (.int .u16 (y.stat%65536))=Kg (told x y):=dR _ bl _
 have v':=t'.ID B' (x':=told x y) (M'▸b');refine⟨_,rfl,rfl,rfl,c,y,⟨some Q, .pointer none::(A.a 0).junk⟩,m, ?_⟩;have e6:({S.IP (S.ps.eraseIdx i) with last:=S.last}.ID b {x with r:=put x.r 0 ((y.id:Int)%65536)}).ID b (told x y)=({S.IP (S.ps.eraseIdx i) with last:=S.last}:St).ID b (told x y):=by
  unfold St.ID;simp only[kt];congr 1;apply k0;intro q _;simp only[Function.comp]
  split
  ·simp
  ·rename_i h;simp[h]
 rw[e6] at v';exact v'
end Go.Proofs.YtejkelcaljmnoaaGreatDoor
namespace Go.Lo
open Go.Conc Go.Hx
section
variable {P:Program}{New:Obj->Prop}{N:Nat}{ε:Env}{L:Ka}{d:Option Tmp}{ty:TypeId}{ps:String}{af:Array Edge}{g:Option (Nat×Bool)}
theorem DO {t u e:TypeId}{x y:Operand}{base:Option Addr}{len cap:Nat}(hu:P.underlying t=some (.slice e))(hx:ev ε x=some (.slice base len cap):=by rfl)(hy:ev ε y=some (.slice none 0 0):=by rfl):EY P N ε L ⟨d, .binOp .eql t x y u,ty,ps,af,g⟩ (.bool base.isNone):=λa b=>by
 refine cN (λ_=>rfl) λK f=> ?_;rw[b.ev hx,b.ev hy];show Kz P (do pure (.bool (<-Op.equal t (.slice base len cap) (.slice none 0 0)))) K L;rw[aq,dg,Op.equalIn.eq_def,aq,aE hu];cases base<;>exact f
theorem DR {t e:TypeId}{sz:Nat}(hN:New (.cells #[] e))(hu:P.underlying t=some (.slice e))(hs:Kd P e=some sz):
 EO P New N ε L ⟨d, .buildSlice t 0 #[],ty,ps,af,g⟩ (λr f=> ∃b,(∀t∈L,t.1≠b)/\r= .slice (some ⟨b,0,none⟩) 0 0/\f=(b,true, .cells #[] e)::L):=by
 intro a k;simp only[execOp,OL,OD];rw[ak];unfold Instr.buildSlice newRow;rw[ak,aT hu];simp only[ak,bO hs,Nat.zero_mul];have j:Array.map (λx=>(#[]:Array Value)[x%(#[]:Array Value).size]!) (Array.range 0)= #[]:=bE
 simp only[gt_iff_lt,Nat.not_lt_zero,if_false,if_true,bg,ak,j];have h0:Instr.fill (λi=>some (i*sz,sz)) (#[]:Array Value) []=some #[]:=by simp[Instr.fill]
 simp only[h0,ak];exact cF hN λb hb=>⟨b,hb,rfl,rfl⟩
end
end Go.Lo
namespace Go.Proofs.YtejkelcaljmnoaaGreatDoor
open Go.Conc Go.Hx Go.Lo Tryz
attribute [local irreducible] EY KO K6 Kw Kc Ku Kd Program.underlying
theorem BJ: ∃n,∀{m}{F:Kn m}{j:DM F}{d s}(L:Ka)(Q:Nat)(xs junk:List Value),(∀cs,(j s).New (.cells cs 93))->(Q,true,Obj.cells (xs++junk).toArray 93)∈L->0<xs.length->xs.length<=8->
 Kb j prog d 129 [.slice (some ⟨Q,0,none⟩) xs.length (xs.length+junk.length)].toArray n s L (λs' v L'=>s=s'/\ ∃b cap y,v= .slice (some ⟨b,0,none⟩) xs.length cap/\Ext L L'/\(∀t∈L,t.1≠b)/\(b,true,Obj.cells (xs++y).toArray 93)∈L'):=by
 constructor;intro m F j d s L Q xs junk i p h0 C;co_applyP ar 8 func129 ntmps129;co_applyP iV;intro x;co_applyP(aC);co_applyP oy rfl (DO U91);co_applyP(av);co_applyP bB rfl (DR (i _) U91 dA);intro r l e;co_applyP(zo);have g:=e.sub _ p;have hw:Reads prog l 1 0 (.slice (some ⟨r,0,none⟩) 0 0) #[]:=by
  have:=bR (P:=prog) (sz:=1) (n:=0) (len:=0) (cap:=0) (o:=0) e.self bE;simpa using this
 have k:Reads prog l 1 xs.length (.slice (some ⟨Q,0,none⟩) xs.length (xs.length+junk.length)) xs.toArray:=by
  have:=bR (P:=prog) (sz:=1) (n:=xs.length) (len:=xs.length) (cap:=xs.length+junk.length) (o:=0) g bE;simpa using this
 co_applyP oeN rfl (λhnd=>nv (by_:=7) (hF:=e.fn) (hu:=U91) (hv:=U91) (hs:=dA) (hb:=sP) (hz0:=jd) (hw:=hw) (hr:=k) (hc:=bl) (hbig:=bl) (hN:=i));rintro _ z ⟨b,cap,B,A,rfl,a⟩;co_applyP(ax);change∃v,Ko .. =some v/\_;have u: #[]++xs.toArray++Builtin.zeroCells (Value.pointer none).cells (cap-(0+xs.length))=(xs++List.replicate (cap-(0+xs.length)) (Value.pointer none)).toArray:=by
  rw[eP rfl];apply gm;simp
 rw[u] at a;exact⟨_,rfl,rfl,b,cap,_,bE,⟨a.fn,λt f=>a.sub _ (e.sub _ f)⟩,λt f=>a.new _ (e.sub _ f),a.self⟩
section
variable {S:St}
theorem Good.Jq (h:Good S){b:Nat}{x x':PS}(hb:(b,x)∈S.ps)(hs:x'.st=x.st)(hl:x'.lv=x.lv):Good (S.ID b x'):=by
 refine⟨by rw[aV];exact h.pn,by rw[fC];exact h.p8,λq g=> ?_,h.rn,λl f c hc=> ?_,λq g a=> ?_⟩
 ·rcases aN g with rfl|⟨a,_⟩
  ·rw[hl];exact h.lv _ hb
  ·exact h.lv q a
 ·obtain⟨y,i,a,d⟩:=h.rm l f c hc;by_cases e:c=b
  ·subst e;obtain rfl:=aS h.pn hb i;exact⟨x',ai hb,by rw[hl];exact a,by rw[hs];exact d⟩
  ·exact⟨y,by simp only[St.ID,cm];exact⟨(c,y),i,by simp[e]⟩,a,d⟩
 ·rcases aN g with rfl|⟨d,_⟩
  ·have:=h.rr _ hb (by rw[<-hs];exact a);show b∈S.rows x'.lv;rw[hl];exact this
  ·exact h.rr q d a
theorem Good.erase (h:Good S){i c:Nat}{y:PS}(hi:S.ps[i]? =some (c,y))(hy:y.st≠1){ls:Nat}:Good {S.IP (S.ps.eraseIdx i) with last:=ls}:=by
 refine⟨?_, ?_,λq b=>h.lv q (tD b),h.rn,λl n g hc=> ?_,λq b d=>h.rr q (tD b) d⟩
 ·show ((S.ps.eraseIdx i).map (·.1)).Nodup;rw[show (S.ps.eraseIdx i).map (·.1)=(S.ps.map (·.1)).eraseIdx i by simp[OT]];exact h.pn.sublist (List.eraseIdx_sublist _ _)
 ·show (S.ps.eraseIdx i).length<=8;have:=List.length_eraseIdx_le S.ps i;have:=h.p8;omega
 ·obtain⟨z,m,d,k⟩:=h.rm l n g hc;refine⟨z, ?_,d,k⟩;show (g,z)∈S.ps.eraseIdx i;obtain⟨j,f⟩:=mx m;have a:j≠i:=λe=>by subst e;rw[f] at hi;simp at hi;exact hy (by rw[<-hi.2];exact k)
  rw[G2];exact⟨j,a,f⟩
end
def St.take (S:St)(b:Nat)(x:PS)(i:Nat):St:=match S.ps[i]? with
 |some q=>({S.IP (S.ps.eraseIdx i) with last:=S.last}:St).ID b (told x q.2)
 |none=>S
def St.IJ (S:St)(b:Nat):St:=match S.get b with
 |some x=>if x.st=2 then(match S.II x with
  |some i=>match S.ps[i]? with
   |some q=>(S.take b x i).IV b (told x q.2)
   |none=>S
  |none=>S) else S
 |none=>S
def St.parents (S:St):List Nat->St
 |[]=>S
 |b::bs=>(S.IJ b).parents bs
theorem dI (S:St)(l m:List Nat):S.parents (l++m)=(S.parents l).parents m:=by
 induction l generalizing S with
 |nil=>rfl
 |cons b l ih=>simp only[sc,St.parents];exact ih _
theorem Ke.fresh {K:Nat}{A:Kq}{S:St}{F L L':Ka}(h:Ke K A S F L)(e:Ext L L'){b:Nat}{o:Obj}(hn: ∀t∈L,t.1≠b) (hm:(b,true,o)∈L'):Ke K A S ((b,true,o)::F) L':=
 {h.ext e with
  fr:=λt a=>by
   rcases gn.1 a with rfl|a
   ·exact hm
   ·exact e.s _ (h.fr t a)
  fd:=λt a=>by
   rcases gn.1 a with rfl|a
   ·exact⟨λe=>hn _ h.k e.symm,λq d e=>hn _ (h.p q d) e.symm,λi e=>let ⟨_,hx⟩:=h.al i _ e;hn _ hx rfl,λi e=>let ⟨_,hx⟩:=h.yl i _ e;hn _ hx rfl,λe=>hn _ h.w e.symm⟩
   ·exact h.fd t a}
end Go.Proofs.YtejkelcaljmnoaaGreatDoor
