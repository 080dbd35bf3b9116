/- Part 12 of the proof. -/
import Derived.Test.YtejkelcaljmnoaaGreatDoorHy11
set_option maxRecDepth 100000
set_option maxHeartbeats 4000000
set_option linter.all false
namespace Go.Proofs.YtejkelcaljmnoaaGreatDoor
open Go.Conc Go.Hx Go.Lo Go.Proofs.Tryz
attribute [local irreducible] EY KO K6 Kw Kc Ku Kd Program.underlying
section
variable {o R:Nat}{B B1:RB}{S T T1:St}{X X1:RX}{L L1 L2:Ka}{b c:Nat}{x y z:PS}
theorem upd_self {o:Obj}(hF:K5 L)(h:(b,true,o)∈L):K4 L b o L:=⟨h,λ_ a _=>a,hF⟩
theorem Ki.o' (h:Ki o R B T X L){o':Nat}(ho: ∀q∈T.ps,(q.1=o↔q.1=o')):Ki o' R B T X L:={h with du:=λq a=>by rw[h.du q a];simp only[ho q a]}
theorem To.more (h:To b R B T L B1 T1 X1 L1)(hb:(b,z)∈T1.ps)(h0: ∀q∈T1.ps,q.1≠0): ∃i,To 0 R B T L i (T1.ID b z.more) X1 L1:=by
 have d:=h.r.du _ hb;rw[if_pos rfl] at d;have e:KV z (B1.e b)=KV z.more {B1.e b with du:=0}:=by
  unfold KV Md;rw[d];rfl
 have g:=upd_self h.r.fn (h.r.p _ hb);exact⟨_,h.trans (To.of (h.r.ID hb g z.more {B1.e b with du:=0} 0 e (hun:=h.r.un _ hb) (hdu:=by rw[if_neg (h0 _ hb)]) (ho:=λq f a=>⟨λe=>absurd e a,λe=>absurd e (h0 q f)⟩) (hsz:=h.r.sz _ hb)))⟩
theorem fM (h:T.Jg x=false):T.I2 b x (T.last+1)=T.Jb b x:=by
 unfold St.I2 St.Jb;by_cases d:T.pn<=x.at_
 ·rw[if_pos d,if_pos d]
 ·rw[if_neg d,if_neg d];by_cases a:T.pg x.at_ 0=9
  ·rw[if_pos a,if_pos a];have f: ¬T.pg x.at_ 1=5:=λe=>by
    unfold St.Jg at h;rw[a,e] at h;simp at h;omega
   unfold St.Ji;rw[if_neg f];rfl
  ·rw[if_neg a,if_neg a];rfl
theorem pF (l:Nat)(xs ys:List Nat):(S.setRow l xs).setRow l ys=S.setRow l ys:=by
 unfold St.setRow put;congr 1
 funext j
 by_cases e:j=l
 ·simp[e]
 ·simp[e]
theorem gM (l:Nat)(xs:List Nat):(S.setRow l xs).rows l=xs:=by simp[St.setRow,put]
theorem tI {l:List Nat}(hn:l.Nodup):(l.erase b++[b]).erase b=l.erase b:=by
 rw[List.erase_append_right _ (by rw[hn.mem_erase_iff];simp)];simp
theorem eX (h:T.Jg x=true):T.Jb b x=T.ID b (x.next.r0 0)/\T.I2 b x (T.last+1)=(T.ID b (x.next.r0 0)).setRow x.lv ((T.rows x.lv).erase b++[b]):=by
 unfold St.Jg at h;simp at h;obtain⟨⟨e,a⟩,d⟩:=h;constructor
 ·unfold St.Jb;rw[if_neg bl,if_pos a,d];unfold St.Ji;rw[if_pos rfl,bd]
 ·unfold St.I2;rw[if_neg bl,if_pos a,d];show (T.ID b x.next).Jo b x.next=_
  unfold St.Jo;simp only[bd,pF,gM];rfl
def PS.past (z:PS)(sl:Int):PS:=if(z.used:Int)+1<sl then z.more else{z with used:=0,lv:=min (z.lv+1) 2}
theorem An (f:Good T)(r3: ∀l,3<=l->T.rows l=[]) (hz:(b,z)∈T.ps) (hs:z.st=1) (a:Bool):
 (if a then T.setRow z.lv ((T.rows z.lv).erase b++[b]) else T).after b=(if a|| !decide ((z.used:Int)+1<T.sl z.lv) then((T.ID b (z.past (T.sl z.lv))).gone b).setRow (z.past (T.sl z.lv)).lv (((T.ID b (z.past (T.sl z.lv))).gone b).rows (z.past (T.sl z.lv)).lv++[b]) else T.ID b (z.past (T.sl z.lv))):=by
 have hgo: ∀g,(T.ID b g).gone b=(T.setRow z.lv ((T.rows z.lv).erase b)).ID b g:=λg=>by
  show (T.gone b).ID b g=_;rw[jF f r3 hz]
 have e:(if a then T.setRow z.lv ((T.rows z.lv).erase b++[b]) else T).get b=some z:=by
  cases a
  ·exact aY f.pn hz
  ·exact aY (S:=T.setRow z.lv _) f.pn hz
 unfold St.after;rw[e];simp only[if_pos hs];unfold St.JD PS.past;have k:((if a then T.setRow z.lv ((T.rows z.lv).erase b++[b]) else T).ID b z.more).sl=T.sl:=by cases a<;>rfl
 have j:z.more.lv=z.lv:=rfl;have i:((z.more.used:Nat):Int)=(z.used:Int)+1:=by show ((z.used+1:Nat):Int)=_;omega
 rw[k,j,i];by_cases d:(z.used:Int)+1<T.sl z.lv
 ·rw[if_pos d];simp only[if_pos d,d,decide_true,Bool.not_true,Bool.or_false];cases a
  ·rfl
  ·simp only[if_true];rw[hgo];show _=((T.setRow z.lv ((T.rows z.lv).erase b)).ID b z.more).setRow z.lv ((T.setRow z.lv ((T.rows z.lv).erase b)).rows z.lv++[b]);rw[gM,<-cZ,pF]
 ·rw[if_neg d];simp only[if_neg d,d,decide_false,Bool.not_false,Bool.or_true,if_true];rw[hgo];have m:((((if a then T.setRow z.lv ((T.rows z.lv).erase b++[b]) else T).ID b z.more).setRow z.lv ((((if a then T.setRow z.lv ((T.rows z.lv).erase b++[b]) else T).ID b z.more).rows z.lv).erase b)).ID b {z.more with lv:=min (z.lv+1) 2,used:=0})=(T.setRow z.lv ((T.rows z.lv).erase b)).ID b {z with used:=0,lv:=min (z.lv+1) 2}:=by
   cases a
   ·simp only[pS,if_false];rw[<-cZ,bd];rfl
   ·simp only[if_true];have n:((T.setRow z.lv ((T.rows z.lv).erase b++[b])).ID b z.more).rows z.lv=(T.rows z.lv).erase b++[b]:=gM _ _;rw[n,tI (f.rn _ (f.lv _ hz)),<-cZ,bd,pF];rfl
  rw[m];simp only[if_false]
theorem MI.Jb {N:Nat->Nat}(h:MI (λ_=>False) N T)(hp:Ms T)(hb:(b,x)∈T.ps)(hs:x.st=1)(hc: ∀q∈T.ps,T.last+1≠q.1) (hN:N (T.last+1)=T.last+1):MI (λ_=>False) N (T.Jb b x):=by
 cases a:T.Jg x with
 |false=>rw[<-fM a];exact h.I2 hp hb hs hc hN
 |true=>
  rw[(eX a).1];exact h.Jq hb (h.out hb hs) rfl rfl (fT (x:=x.next) ⟨(h.i.wf _ hb).r,(h.i.wf _ hb).m⟩ bx) (h.i.fl (b,x) hb) rfl rfl (h.x.un (b,x) hb)
theorem HN (B:RB)(T:St)(X:RX){l:Nat}(hl:l<3):(ME B T X)[l]? =some (.int .i64 (T.sl l)):=by
 rcases l with _|_|_|l
 ·rfl
 ·rfl
 ·rfl
 ·omega
end
theorem FL: ∃n,∀{σ}{F:Kn σ}{Δ:DM F}{j' s}(R:Nat)(B:RB)(T:St)(X:RX)(L:Ka)(b:Nat)(x:PS),(∀s o,(Δ s).New o)->Ki 0 R B T X L->MI (λ_=>False) (λb=>b) T->X.ask=0->X.op=X.no->X.no<=10000->(b,x)∈T.ps->x.st=1->X.ws.length<=9999->X.now=T.now->T.now<2305843009213693952->T.last<4611686018427387904->Ms T->
 Kb Δ prog j' 101 [ptr R,ptr (B.p b)].toArray n s L (λs' v L'=>s=s'/\v= .tuple #[]/\ ∃B',To 0 R B T L B' ((T.I2 b x (T.last+1)).after b) (stepX T (tellX X 1 b x.at_) b x) L'):=by
 obtain⟨n1,g1⟩:=pv;obtain⟨n2,g2⟩:=FK;obtain⟨n3,g3⟩:=jH;constructor;intro σ F Δ j' s R B T X L b x hN N hM F' w' P' hb r' hw z' hnl Q' x';have hn:=hM.i.g.pn;have h0: ∀q∈T.ps,q.1≠0:=λq D e=>by have:=(hM.x.idr q D).1;rw[N.id q D] at this;omega
 have X':At L (B.p b) 0 (.int .i64 (b:Nat)):=N.to.num N hb;have hx4:At L (B.p b) 4 (.int .i64 (x.at_:Nat)):=N.pat hb (i:=4) rfl;have k':x.used<=T.now:=hM.x.un _ hb;have M': ∀q∈T.ps,T.last+1≠q.1:=λq D e=>by have:=N.le q D;omega
 co_applyP ar 96 func101 ntmps101;co_applyP aK;co_applyP s7 11 mixed;co_applyP lt (i:=0) rfl bk;co_applyP lt (i:=1) rfl bk;co_applyP lt (i:=2) rfl bI;co_applyP lt (i:=3) rfl (br (hf:=dD));co_applyP lt (i:=4) rfl (br (hf:=fR));co_applyP lt (i:=5) rfl (bT (ht:=dq));co_applyP lt (i:=6) rfl bk;co_applyP lt (i:=7) rfl bI;co_applyP lt (i:=8) rfl (br (hf:=dD));co_applyP lt (i:=9) rfl (br (hf:=gS));co_applyP lt (i:=10) rfl (bT (ht:=dq));co_applyP lc (i:=11) rfl rfl rfl (g1 0 R B T X L 1 b (x.at_:Nat) hN N bl);rintro _ _ _ ⟨rfl,rfl,B1,C⟩;change Kw ..;rename_i L1;have u':=C.q N hb;have hx6:At L1 (B.p b) 6 (.int .i64 (x.used:Nat)):=by
  have:At L1 (B1.p b) 6 (.int .i64 ((x.used+(B1.e b).du:Nat):Int)):=C.r.pat hb (i:=6) rfl;rw[C.r.du _ hb,if_neg (h0 _ hb),u'] at this;exact this
 have w1:IntKind.i64.wrap ((x.used:Int)+1)=((x.used+1:Nat):Int):=ag
 co_applyP(aP);rw[w1,<-u'];co_applyP osm rfl (hs:=bJ) (hm:=C.r.p _ hb) (hi:=by rw[aX];decide);intro L2 R';have Z:=C.trans (To.of (C.r.ID hb R' x {B1.e b with du:=1} b rfl (hun:=C.r.un _ hb) (hdu:=by rw[if_pos rfl]) (ho:=λq D A=>⟨λe=>absurd e (h0 q D),λe=>absurd e A⟩) (hsz:=C.r.sz _ hb)));rw[eJ hn hb] at Z;have C':=Z.q N hb;rw[u',<-C'];co_applyP(av);co_applyP oc rfl rfl rfl (g2 R _ T _ L2 b x hN Z.r hM F' w' P' hb r' ao z' bl Q' x'.1);rintro _ _ _ ⟨rfl,rfl,B3,f⟩;rename_i L3;have K:MI (λ_=>False) (λb=>b) (T.Jb b x):=hM.Jb x' hb r' M' rfl;replace f:=Z.trans f;rw[C'];have b':T.Jg x=true-> ∀z,(b,z)∈(T.Jb b x).ps->z.st=1/\z.lv=x.lv/\(T.Jb b x).rows=T.rows:=λy z j=>by
  rw[(eX y).1] at j⊢;rcases aN j with e|⟨_,h⟩
  ·cases e;exact⟨r',rfl,rfl⟩
  ·exact absurd rfl h
 have J: ∀q∈(T.Jb b x).ps,q.1≠0:=λq D e=>by have:=(K.x.idr q D).1;rw[f.r.id q D] at this;omega
 have M:=f.q N hb;have key: ∃st:Nat,At L3 (B.p b) 2 (.int .i64 (st:Nat))/\(st=1-> ∃z,(b,z)∈(T.Jb b x).ps/\z.st=1)/\(st≠1-> ∃B',To 0 R B T L B' ((T.I2 b x (T.last+1)).after b) (stepX T (tellX X 1 b x.at_) b x) L3):=by
  rcases f.i _ hb with Y|⟨cs,h1,h2,h3⟩
  ·obtain⟨z,j⟩:=dM Y;have O:(b,z)∈(T.Jb b x).ps:=j;refine⟨z.st, ?_,λh=>⟨z,O,h⟩,λh=> ?_⟩
   ·rw[<-M];exact f.r.pat O (i:=2) rfl
   ·have y:T.Jg x=false:=by
     cases y:T.Jg x with
     |false=>rfl
     |true=>exact absurd (b' y z O).1 h
    obtain⟨B',hB⟩:=f.more O J;refine⟨B', ?_⟩;rw[fM y];unfold St.after;rw[aY K.i.g.pn O];simp only[if_neg h];exact hB
  ·by_cases Y:b∈(T.Jb b x).ps.map (·.1)
   ·obtain⟨z,j⟩:=dM Y;refine⟨z.st, ?_,λh=>⟨z,j,h⟩,λh=> ?_⟩
    ·rw[<-M];exact f.r.pat j (i:=2) rfl
    ·have y:T.Jg x=false:=by
      cases y:T.Jg x with
      |false=>rfl
      |true=>exact absurd (b' y z j).1 h
     obtain⟨B',hB⟩:=f.more j J;refine⟨B', ?_⟩;rw[fM y];unfold St.after;rw[aY K.i.g.pn j];simp only[if_neg h];exact hB
   ·have A: ∀q∈(T.Jb b x).ps,q.1≠b:=λq D e=>Y (cm.2 ⟨q,D,e⟩);refine⟨6,⟨true,_,_,_,h1,h3⟩,λh=>absurd h bx,λ_=>⟨B3, ?_⟩⟩;have y:T.Jg x=false:=by
     cases y:T.Jg x with
     |false=>rfl
     |true=>
      rw[(eX y).1] at A;exact absurd rfl (A _ (ai hb))
    rw[fM y];unfold St.after;rw[gD A];exact{f with r:=f.r.o' λq D=>⟨λe=>absurd e (A q D),λe=>absurd e (J q D)⟩}
 obtain⟨st,T',c',e'⟩:=key;co_applyP(bf);co_applyP aI rfl;intro hs;co_applyP(zo);change∃v,Ko .. =some v/\_
 ·have m':st≠1:=by simp at hs;omega
  obtain⟨B',hB⟩:=e' m';exact⟨_,rfl,rfl,rfl,B',hB⟩
 intro hs;have m':st=1:=by simp at hs;omega
 obtain⟨z,j,K'⟩:=c' m';clear c' e';have t':=K.i.g;have i':T.I2 b x (T.last+1)=if T.Jg x then(T.Jb b x).setRow z.lv (((T.Jb b x).rows z.lv).erase b++[b]) else T.Jb b x:=by
  cases y:T.Jg x with
  |false=>exact fM y
  |true=>
   obtain⟨_,h2,h3⟩:=b' y z j;rw[h2,h3,(eX y).2,(eX y).1];rfl
 have H:=An t' K.x.r3 j K' (T.Jg x);rw[<-i'] at H;have G':z.lv<3:=t'.lv _ j;have g':=f.r.du _ j;rw[if_pos rfl] at g';have hz5:At L3 (B.p b) 5 (.int .i64 (z.lv:Nat)):=by rw[<-M];exact f.r.pat j (i:=5) rfl
 have hz6:At L3 (B.p b) 6 (.int .i64 ((z.used+1:Nat):Int)):=by
  have:At L3 (B3.p b) 6 (.int .i64 ((z.used+(B3.e b).du:Nat):Int)):=f.r.pat j (i:=6) rfl;rw[g',M] at this;exact this
 have hsl:At L3 R z.lv (.int .i64 ((T.Jb b x).sl z.lv)):=f.r.kat (HN _ _ _ G');generalize T.Jg x=yi at H;generalize V':T.Jb b x=T3 at*;generalize stepX T (tellX X 1 b x.at_) b x=X3 at*;rw[H];clear i' b' H;co_applyP(bm);co_applyP aA (by rfl:kn _ [(5, .int .i64 (z.lv:Nat)),(4, .bool yi),(1,ptr (B.p b)),(0,ptr R)]);co_applyP bL ((λq' U l'=>s=q'/\kn U [(4, .bool (yi|| !decide ((z.used:Int)+1<T3.sl z.lv))),(1,ptr (B.p b)),(0,ptr R)]/\ ∃G,To 0 R B T L G (T3.ID b (z.past (T3.sl z.lv))) X3 l'));co_applyP(aH);co_applyP(zo);co_applyP aI rfl;intro ho;co_applyP(au)
 ·have Q: ¬(z.used:Int)+1<T3.sl z.lv:=by simp at ho;omega
  have n':z.past (T3.sl z.lv)={z with used:=0,lv:=min (z.lv+1) 2}:=by unfold PS.past;rw[if_neg Q]
  rw[<-M,n'];co_applyP osm rfl (hs:=bJ) (hm:=f.r.p _ j) (hi:=by rw[aX];decide);intro L4 O';have E:=f.trans (To.of (f.r.ID j O' {z with used:=0} {B3.e b with du:=0} 0 rfl (hun:=f.r.un _ j) (hdu:=by rw[if_neg (J _ j)]) (ho:=λq D A=>⟨λe=>absurd e A,λe=>absurd e (J q D)⟩) (hsz:=f.r.sz _ j)));have S:=ai (x:={z with used:=0}) j;have S':(yi|| !decide ((z.used:Int)+1<T3.sl z.lv))=true:=by simp[Q]
  rw[S'];co_applyP(zo);co_applyP bL ((λq' U l'=>s=q'/\kn U [(1,ptr (B3.p b)),(0,ptr R)]/\ ∃G,To 0 R B T L G (T3.ID b {z with used:=0,lv:=min (z.lv+1) 2}) X3 l'));co_applyP(av);co_applyP aI rfl;intro hl;co_applyP(aR)
  ·have N':z.lv<2:=by simp at hl;omega
   have wl:IntKind.i64.wrap ((z.lv:Int)+1)=((z.lv+1:Nat):Int):=ag
   rw[wl];co_applyP osm rfl (hs:=bJ) (hm:=E.r.p _ S) (hi:=by rw[aX];decide);intro L5 I';have m:=E.trans (To.of (E.r.ID S I' {z with used:=0,lv:=z.lv+1} (put B3.e b {B3.e b with du:=0} b) 0 rfl (hun:=E.r.un _ S) (hdu:=E.r.du _ S) (ho:=λ_ _ _=>fz) (hsz:=E.r.sz _ S)));rw[bd] at m;co_applyP(zo);change _=_/\kn _ _/\ ∃G,_;exact⟨rfl,rfl,_,by rw[show min (z.lv+1) 2=z.lv+1 by omega];exact m⟩
  intro hl;co_applyP(zo);change _=_/\kn _ _/\ ∃G,_;have N': ¬z.lv<2:=by simp at hl;omega
  exact⟨rfl,rfl,_,by rw[show min (z.lv+1) 2=z.lv by omega];exact E⟩;rintro _ J' L5 ⟨rfl,p',G,m⟩;co_applyP aA p';co_applyP(ax);change _=_/\kn _ _/\ ∃G,_;exact⟨rfl,by rw[M];rfl,G,m⟩
 intro ho;co_applyP(zo);change _=_/\kn _ _/\ ∃G,_;have Q:(z.used:Int)+1<T3.sl z.lv:=by simp at ho;omega
 have n':z.past (T3.sl z.lv)=z.more:=by unfold PS.past;rw[if_pos Q]
 obtain⟨G,m⟩:=f.more j J;exact⟨rfl,by rw[show (yi|| !decide ((z.used:Int)+1<T3.sl z.lv))=yi by simp[Q]];rfl,G,by rw[n'];exact m⟩;rintro _ J' L5 ⟨rfl,p',G,m⟩;co_applyP aA p';have u:(z.past (T3.sl z.lv)).lv<3:=by
  unfold PS.past
  split
  ·exact G'
  ·show min (z.lv+1) 2<3;omega
 generalize z.past (T3.sl z.lv)=z4 at*;have d':=ai (x:=z4) j;have D': ∀l,l<3->((T3.ID b z4).rows l).length<=8:=λl hl=>t'.r8 hl;co_applyP(ax);co_applyP aI rfl;intro y;co_applyP(ax)
 ·rw[if_pos y];have v':=m.q N hb;rw[<-v'];co_applyP oc rfl rfl rfl (g3 0 R G _ X3 L5 b z4 hN m.r d' D' K.x.r3);rintro _ _ _ ⟨rfl,rfl,B6,I⟩;co_applyP(zo);change Kw ..;rename_i L6;replace I:=m.trans I;have f':(b,z4)∈((T3.ID b z4).gone b).ps:=d';have Z':(((T3.ID b z4).gone b).rows z4.lv).length<=8:=l6 (O5 _ _) (D' _ u);generalize (T3.ID b z4).gone b=T6 at*;have y':=I.q N hb;rw[v'];have V:=I.r;have Y':At L6 (B.p b) 5 (.int .i64 (z4.lv:Nat)):=by rw[<-y'];exact V.pat f' (i:=5) rfl
  have W':At L6 (B.p b) 0 (.int .i64 (b:Nat)):=I.num N hb;have U':At L6 R (7+z4.lv) (Kj (B6.a z4.lv) 1 (T6.rows z4.lv).length):=V.kat (mJ _ _ _ u);have d:(B.p b,true,Obj.cells (KV z4 (B6.e b)) 154)∈L6:=by rw[<-y'];exact V.p _ f'
  co_applyP aM [(B.p b,true,Obj.cells (KV z4 (B6.e b)) 154)] 22 (nf:=0) mixed;co_applyP tr 0 rfl bk (aa (by simpa using d));co_applyP tr 1 rfl bk (aa (by simpa using d));co_applyP tr 2 rfl bI (aa (by simpa using d));co_applyP tr 3 rfl (br (hf:=dD)) (aa (by simpa using d));co_applyP tr 4 rfl (br (hf:=fe)) (aa (by simpa using d));co_applyP tr 5 rfl (bT (ht:=dq)) (aa (by simpa using d));co_applyP tr 6 rfl bk (aa (by simpa using d));co_applyP tr 7 rfl bk (aa (by simpa using d));co_applyP tr 8 rfl bI (aa (by simpa using d));co_applyP tr 9 rfl (br (hf:=dD)) (aa (by simpa using d));co_applyP tr 10 rfl (br (hf:=fe)) (aa (by simpa using d));co_applyP t0 11 rfl (bT (ht:=dq)) (aa (by simpa using d));co_applyP tr 12 rfl bI (aa (by simpa using d));co_applyP tr 13 rfl (br (hf:=gA)) (aa (by simpa using d));co_applyP tr 14 rfl (cW sG dC) (aa (by simpa using d));co_applyP t0 15 rfl (bT (ht:=xN)) (aa (by simpa using d));co_applyP tr 16 rfl bk (aa (by simpa using d));co_applyP tr 17 rfl bI (aa (by simpa using d));co_applyP tr 18 rfl (br (hf:=dD)) (aa (by simpa using d));co_applyP tr 19 rfl (br (hf:=fR)) (aa (by simpa using d));co_applyP t0 20 rfl (bT (ht:=dq)) (aa (by simpa using d));co_applyP tr 23 rfl bI (aa (by simpa using d));co_applyP tr 24 rfl (br (hf:=gA)) (aa (by simpa using d));co_applyP te (i:=21) rfl (mI (hN _ _));rintro _ _ ⟨nb,H',rfl,rfl⟩;refine⟨cx (by simpa using d) (λt ht=>dc _ ht), ?_⟩;co_applyP aF;intro hnd;have hA:=cT (o:= .cells #[.int .i64 (b:Nat)] 3) V.fn H';have hE:Ext L6 _:=⟨hA.fn,hA.sub⟩;have W:=V.ext hE;have P:=hA.sub _ d;have k7: ∀{e:TypeId},3≠e->Lg _ (λc=>(B6.a z4.lv).b=some c) e:=λhe=>Lg.sl W.fn (W.rw _ u) he;co_applyP te (i:=22) rfl (fh (e:=3) (hnd:=hnd) (hu:=U54) (hs:=bJ) (hb:=jv) (hz:=mm) (hzs:=rfl) (hN:=λcs=>hN _ _) (ha:=W.rw _ u) (hn:=by rw[ia]) (v:= .int .i64 (b:Nat)) (hm:=hA.self) (hpl:=rfl) (h8:=bl));rintro _ _ ⟨a',rfl,hp⟩;refine⟨aj (by simpa using hp.ch.keep (k7 bx) P), ?_⟩;co_applyP to 25 rfl (cW sG dC (h1:=Int.ofNat_lt.2 u)) (aj (by simpa using hp.ch.keep (k7 bx) P));co_applyP aF;intro E';have hk:=hp.ch.keep (k7 bx) W.k;have h':=hp.ch.keep (k7 bx) P;co_applyP te (i:=26) rfl (bX (hnd:=E') (hm:=hk) (hi:=by show _<16;omega) (hp:=bj _ _ _) (hs:=dC))
  rintro _ _ ⟨rfl,A'⟩;refine⟨aj (by simpa using A'.ne _ h' λe=>absurd (cY hp.fn h' (e▸hk)) bx), ?_⟩;co_applyP(zo);change∃v,Ko .. =some v/\_;rw[show KM (T6.rows z4.lv)++[.int .i64 (b:Nat)]=KM (T6.rows z4.lv++[b]) by simp[KM]] at hp;exact⟨_,rfl,rfl,rfl,_,I.trans (To.pre hE (To.of (W.J2 u hp A' (by rw[<-j7 _ _ _ u];simp))))⟩
 intro y;co_applyP(zo);exact xI _ ⟨rfl,rfl,rfl,G,by rw[y];exact m⟩
section
variable {T:St}{j:Nat}
theorem oz: ∀(bs:List Nat)(S:St),(S.IU bs).ps.map (·.1)=S.ps.map (·.1)
 |[],S=>rfl
 |b::bs,S=>by
  unfold St.IU;rw[oz bs]
  split
  ·split
   ·exact eA _ _ _
   ·rfl
  ·rfl
theorem mM: ∀(bs:List Nat)(S:St),(S.IU bs).rows=S.rows
 |[],S=>rfl
 |b::bs,S=>by
  unfold St.IU;rw[mM bs]
  split
  ·split<;>rfl
  ·rfl
def St.Jl (T:St)(j:Nat):St:={T with rows:=λl=>if l<j then [] else T.rows l}
def St.Jp (T:St)(j:Nat):List Nat:=(List.range j).flatMap T.rows
theorem wF:T.Jl 0=T:=by unfold St.Jl;simp
theorem wG:(T.Jl j).setRow j []=T.Jl (j+1):=by
 unfold St.Jl St.setRow put;congr 1
 funext l
 by_cases h:l=j
 ·subst h;simp
 ·simp only[if_neg h];by_cases a:l<j
  ·rw[if_pos a,if_pos bl]
  ·rw[if_neg a,if_neg bl]
theorem ij:T.Jp (j+1)=T.Jp j++T.rows j:=by unfold St.Jp;rw[O4,List.flatMap_append];simp
theorem wH:(T.Jl 3).setRow 0 (T.Jp 3)=T.IG 2:=by
 have e:T.Jp 3=T.rows 0++T.rows 1++T.rows 2:=by rw[ij,ij,ij];rfl
 rw[e];unfold St.Jl St.IG St.IG St.IG St.JA St.setRow put;congr 1
 funext l
 rcases l with _|_|_|l
 ·simp
 ·simp
 ·simp
 ·simp;intro h;omega
theorem oA (h: ∀l,l<3->(T.rows l).length<=8): ∀j,j<=3->(T.Jp j).length<=8*j
 |0,_=>by simp[St.Jp]
 |j+1,hj=>by
  rw[ij,mb];have:=oA h j bl;have:=h j bl;omega
end
theorem CP: ∃n,∀{σ}{F:Kn σ}{Δ:DM F}{Y s}(R:Nat)(B:RB)(T:St)(X:RX)(L:Ka),(∀s o,(Δ s).New o)->Ki 0 R B T X L->MI (λ_=>False) (λb=>b) T->
 Kb Δ prog Y 99 [ptr R].toArray n s L (λs' v L'=>s=s'/\v= .tuple #[]/\ ∃E,To 0 R B T L E ((T.IU (T.ps.map (·.1))).IG 2) X L'):=by
 constructor;intro σ F Δ Y s R B T X L hN hR hM;have hg:=hM.i.g;have h0: ∀q∈T.ps,q.1≠0:=λq hq e=>by have:=(hM.x.idr q hq).1;rw[hR.id q hq] at this;omega
 have hnd:=hg.pn;generalize b':T.ps.map (·.1)=ns at hnd;have R':ns.length<=8:=by rw[<-b'];simpa using hg.p8
 co_applyP ar 66 func99 ntmps99;co_applyP(au);co_applyP aU (λk s' J L'=>s=s'/\ ∃A W E,ns=A++W/\k+A.length=8/\To 0 R B T L E (T.IU A) X L'/\kn J [(2, .int .i64 A.length),(0,ptr R)]) 8
 ·exact⟨rfl,[],ns,B,rfl,rfl,hR.to,rfl⟩
 rintro k s' J L' ⟨rfl,A,W,E,V,hk,hT,he⟩;co_applyP aA he;have I:=congrArg List.length V;simp only[mb] at I;have C:=hT.r;have U:(T.IU A).ps.map (·.1)=ns:=by rw[oz,b']
 have N:(T.IU A).ps.length=ns.length:=by rw[<-U];simp
 obtain⟨H,cap,hv,d'⟩:=dm C.pl (n:=ns.length) (by simp[N]);have h5:At L' R 5 (.slice H ns.length cap):=by rw[<-hv,<-N];exact C.kat rfl
 co_applyP(aP);co_applyP aI rfl;intro hc
 ·cases W with
  |nil=>simp at hc I;omega
  |cons c W=>
   obtain⟨y,Q⟩:=dM (c:=c) (S:=T.IU A) (by rw[U,V];simp);have H':((T.IU A).ps.map λq=>ptr (E.p q.1))[A.length]? =some (ptr (E.p c)):=by
    have:((T.IU A).ps.map (·.1))[A.length]? =some c:=by rw[U,V];simp
    rw[sE] at this⊢;cases h:(T.IU A).ps[A.length]? with
    |none=>rw[h] at this;cases this
    |some q=>rw[h] at this;simp at this;simp[this]
   obtain⟨g,P',x',N'⟩:=d' A.length _ H';subst x';simp at I;have t':c≠0:=by
    obtain⟨w,hw⟩:=dM (c:=c) (S:=T) (by rw[b',V];simp);exact h0 _ hw
   have e1:IntKind.i64.wrap ((A.length:Int)+1)=((A++[c]).length:Int):=ag
   have Q':At L' (E.p c) 2 (.int .i64 (y.st:Nat)):=C.pat Q (i:=2) rfl;have J':At L' (E.p c) 5 (.int .i64 (y.lv:Nat)):=C.pat Q (i:=5) rfl;have O:T.IU (A++[c])=if y.st≠6/\0<y.lv then(T.IU A).ID c {y with lv:=0,used:=0} else T.IU A:=by
    rw[jo];show St.IU (match (T.IU A).get c with|some x=>_|none=>_) []=_;rw[aY C.pn Q];rfl
   co_applyP(zo);co_applyP bL ((λE' m' w'=>s=E'/\ ∃E,To 0 R B T L E (T.IU (A++[c])) X w'/\kn m' [(2, .int .i64 A.length),(0,ptr R)]));co_applyP(bf);co_applyP aK;co_applyP ct ([(35, .bool (decide (y.st≠6/\0<y.lv))),(3,ptr (E.p c)),(2, .int .i64 A.length),(0,ptr R)]);co_applyP(aO)
   ·by_cases h6:y.st=6
    ·rw[show ((y.st:Int) !=6)=false by simp[h6]];co_applyP(aO);change _=_/\_=_/\kn _ _;refine⟨rfl,rfl, ?_⟩;rw[show decide (y.st≠6/\0<y.lv)=false by simp[h6]];rfl
    ·rw[show ((y.st:Int) !=6)=true by simp;omega];co_applyP(aO);change _=_/\_=_/\kn _ _;refine⟨rfl,rfl, ?_⟩;have e4:decide (y.st≠6/\0<y.lv)=((y.lv:Int) !=0):=by
      by_cases h:y.lv=0
      ·simp[h]
      ·rw[show decide (y.st≠6/\0<y.lv)=true from decide_eq_true ⟨h6,bl⟩,show ((y.lv:Int) !=0)=true by simp;omega]
     rw[e4];rfl
   co_applyP aI rfl;intro hw;co_applyP(au)
   ·have Z:y.st≠6/\0<y.lv:=by simpa using hw
    rw[if_pos Z] at O;co_applyP osm rfl (hs:=bJ) (hm:=C.p _ Q) (hi:=by rw[aX];decide);intro L2 G';have u:=hT.trans (To.of (C.ID Q G' {y with lv:=0} (E.e c) 0 rfl (hun:=C.un _ Q) (hdu:=C.du _ Q) (ho:=λ_ _ _=>fz) (hsz:=C.sz _ Q)));have G:=ai (x:={y with lv:=0}) Q;co_applyP(aC);co_applyP osm rfl (hs:=bJ) (hm:=u.r.p _ G) (hi:=by rw[aX];decide);intro L3 u';have z:=u.trans (To.of (u.r.ID G u' {y with lv:=0,used:=0} {put E.e c (E.e c) c with du:=0} 0 rfl (hun:=u.r.un _ G) (hdu:=by rw[if_neg t']) (ho:=λ_ _ _=>fz) (hsz:=u.r.sz _ G)));rw[bd,<-O] at z;co_applyP(zo);change _=_/\ ∃E,_;exact⟨rfl,_,z,rfl⟩
   intro hw;co_applyP(zo);change _=_/\ ∃E,_;have Z: ¬(y.st≠6/\0<y.lv):=by simpa using hw
   rw[if_neg Z] at O;exact⟨rfl,E,by rw[O];exact hT,rfl⟩;rintro _ M' L8 ⟨rfl,B8,y',C'⟩;co_applyP aA C';co_applyP(au);change∃k',k'<_/\_;rw[e1];exact⟨k-1,bl,rfl,A++[c],W,B8,by simp[V],by simp;omega,y',rfl⟩
 intro hc;co_applyP(bm);have A':W=[]:=by
  cases W with
  |nil=>rfl
  |cons c W=>simp at hc I;omega
 subst A';simp only[wc] at V;subst V;have c': ∀l,l<3->((T.IU ns).rows l).length<=8:=λl V=>by rw[mM];exact hg.r8 V
 generalize T.IU ns=T1 at hT c';clear d' hv h5 C U N;co_applyP aU (λk s' J L'=>s=s'/\ ∃(j:Nat) (E:RB) (M:Sl),k+j=3/\To 0 R B T L E (T1.Jl j) X L'/\Kf M (KM (T1.Jp j)) 3 L'/\(∀c,M.b=some c-> ¬Kv R E (T1.Jl j) c/\ ∀t∈L,¬Kv R B T t.1->t.1≠c)/\kn J [(5, .int .i64 j),(4,Kj M 1 (T1.Jp j).length),(0,ptr R)]) 3
 ·exact⟨rfl,0,E,⟨none,[]⟩,rfl,by rw[wF];exact hT,⟨rfl,rfl⟩,bE,rfl⟩
 rintro k s' J L' ⟨rfl,j,B2,M,hk,u,ha,g',he⟩;co_applyP aA he;co_applyP(au);co_applyP aI rfl;intro hc
 ·have hj:j<3:=by simp at hc;omega
  have er:(T1.Jl j).rows j=T1.rows j:=if_neg (Nat.lt_irrefl j);have i':Kf (B2.a j) (KM (T1.rows j)) 3 L':=by rw[<-er];exact u.r.rw j hj
  obtain⟨H,cap,hv,d'⟩:=dm i' (n:=(T1.rows j).length) bE;have I':At L' R (7+j) (.slice H (T1.rows j).length cap):=by rw[<-hv,<-er];exact u.r.kat (mJ _ _ _ hj)
  have z':Reads prog L' 1 (T1.rows j).length (.slice H (T1.rows j).length cap) (KM (T1.rows j)).toArray:=by rw[<-hv];exact uv i' bE bx
  have e:IntKind.i64.wrap ((j:Int)+1)=((j+1:Nat):Int):=ag
  have K':=oA c' j bl;have O':=c' j hj;co_applyP(bf);co_applyP oeN rfl (λhnd=>iu (a:=M) (xs:=KM (T1.Jp j)) (ys:=KM (T1.rows j)) (n:=(T1.Jp j).length) (m:=(T1.rows j).length) (by_:=7) (hnd:=hnd) (hu:=U54) (hs:=bJ) (hb:=jv) (hz:=mm) (hzs:=rfl) (hN:=λcs=>hN _ _) (ha:=ha) (hn:=bE) (hr:=z') (hm:=bE) (hpl:=by simp[Km]) (h0:=bx) (h8:=bl));rintro _ L3 ⟨a3,rfl,e'⟩;have z:=u.other e'.ch (λd hd=>g' d hd) (.sl u.r.fn ha bx);have n':MM L3 3 (B2.a j) (KM []) ⟨none,[]⟩ L3:=⟨⟨rfl,rfl⟩,z.r.fn,λt P _=>P,λc hc=>by cases hc⟩;co_applyP(aO);co_applyP osm rfl (hs:=dC) (hm:=z.r.k) (hi:=by show _<16;omega);intro L4 l';have K:=z.r.J2 hj n' l' (j7 _ _ _ hj ⟨none,[]⟩ []);rw[wG] at K;have D':=z.trans (To.of K);have j':Kf a3 (KM (T1.Jp (j+1))) 3 L3:=by rw[ij];simpa [KM] using e'.ok
  have v':Kf a3 (KM (T1.Jp (j+1))) 3 L4:=l'.ch.Jr (.one z.r.fn z.r.k bx) j';have q':(T1.Jp j).length+(T1.rows j).length=(T1.Jp (j+1)).length:=by rw[ij,mb]
  have p': ∀c,a3.b=some c-> ¬Kv R B2 (T1.Jl j) c/\ ∀t∈L,¬Kv R B T t.1->t.1≠c:=λc hc=>by
   rcases e'.d c hc with h|h
   ·exact g' c h
   ·exact⟨u.r.J6 h,λt P hn e=>h t (u.f.s t P hn) e⟩
  co_applyP(aC);change∃k',k'<_/\_;rw[e,q'];exact⟨k-1,bl,rfl,j+1,_,a3,bl,D',v',λc hc=>⟨(K.2.free (j'.mem hc) (p' c hc).1).2,(p' c hc).2⟩,rfl⟩
 intro hc;have hj:j=3:=by simp at hc;omega
 subst hj;have z:=u.other (L2:=L'.filter λt=>decide (M.b≠some t.1)) (D:=λc=>M.b=some c) ⟨λb f f' o o' h1 h2=>u.r.fn b f f' o o' (l4.1 h1).1 (l4.1 h2).1,λt P hn=>l4.2 ⟨P,by simpa using hn⟩⟩ (λd hd=>g' d hd) (.sl u.r.fn ha bx);have F':MM (L'.filter λt=>decide (M.b≠some t.1)) 3 (B2.a 0) (KM (T1.Jp 3)) M L':=⟨ha,u.r.fn,λt P _=>(l4.1 P).1,λc hc=> .inr λt P e=>by
  have:=(l4.1 P).2;simp at this;exact this (e▸hc)⟩
 co_applyP(aR);co_applyP osm rfl (hs:=dC) (hm:=u.r.k) (hi:=by show 7<16;decide) (hp:=bj _ _ _);intro L5 r';have h':=z.trans (To.of (z.r.J2 (n:=0) bx F' r' (j7 _ _ _ (l:=0) bx M (T1.Jp 3))));rw[wH] at h';co_applyP(zo);exact xI _ ⟨rfl,rfl,rfl,_,h'⟩
def MK (T:St)(X:RX):RX:=match T.lead.first with
 |none=>tellX X 2 0 0
 |some b=>match T.lead.get b with
  |some x=>stepX T.lead (tellX X 1 b x.at_) b x
  |none=>X
theorem CQ (x:PS)(e:RE):(KV x e)[93]? =some (.int .i64 e.un):=bD
theorem oB: ∀(bs:List Nat)(S:St),(S.IF bs).ps.map (·.1)=S.ps.map (·.1)
 |[],S=>rfl
 |b::bs,S=>by
  unfold St.IF;rw[oB bs]
  split
  ·split
   ·exact eA _ _ _
   ·rfl
  ·rfl
theorem wI (S:St)(l m:List Nat):S.IF (l++m)=(S.IF l).IF m:=by
 induction l generalizing S with
 |nil=>rfl
 |cons b l ih=>simp only[sc,St.IF];exact ih _
theorem FM: ∃n,∀{σ}{F:Kn σ}{Δ:DM F}{V s}(R:Nat)(B:RB)(T:St)(X:RX)(L:Ka),(∀s o,(Δ s).New o)->Ki 0 R B T X L->TI (λb=>b) T->X.ask=0->X.op=X.no->X.no<=10000->X.ws.length<=9999->X.now=T.now->T.now<2305843009213693952->
 Kb Δ prog V 90 [ptr R].toArray n s L (λs' v L'=>s=s'/\v= .tuple #[]/\ ∃d,To 0 R B T L d (T.I5 (T.last+1)) (MK T X) L'):=by
 obtain⟨n1,g1⟩:=k8;obtain⟨n2,g2⟩:=CP;obtain⟨n3,g3⟩:=pw;obtain⟨n4,g4⟩:=FL;obtain⟨n5,g5⟩:=pv;constructor;intro σ F Δ V s R B T X L hN hR O l' i' w' hw P r';have hM:=O.m;have hg:=hM.i.g;have h0: ∀q∈T.ps,q.1≠0:=λq hq e=>by have:=(hM.x.idr q hq).1;rw[hR.id q hq] at this;omega
 have j':T.Js=T.IF (T.ps.map (·.1)):=rfl;generalize d':T.ps.map (·.1)=ns at j';have O':ns.length<=8:=by rw[<-d'];simpa using hg.p8
 co_applyP ar 89 func90 ntmps90;co_applyP(au);co_applyP aU (λk s' D L'=>s=s'/\ ∃a Q d,ns=a++Q/\k+a.length=8/\To 0 R B T L d (T.IF a) X L'/\kn D [(2, .int .i64 a.length),(0,ptr R)]) 8
 ·exact⟨rfl,[],ns,B,rfl,rfl,hR.to,rfl⟩
 rintro k s' D L' ⟨rfl,a,Q,d,hl,hk,U,he⟩;co_applyP aA he;have u:=congrArg List.length hl;simp only[mb] at u;have f:=U.r;have M:(T.IF a).ps.map (·.1)=ns:=by rw[oB,d']
 have W:(T.IF a).ps.length=ns.length:=by rw[<-M];simp
 obtain⟨G,cap,hv,K⟩:=dm f.pl (n:=ns.length) (by simp[W]);have h5:At L' R 5 (.slice G ns.length cap):=by rw[<-hv,<-W];exact f.kat rfl
 have D':At L' R 13 (.int .i64 (T.now:Nat)):=by rw[<-P];exact f.kat rfl
 co_applyP(aP);co_applyP aI rfl;intro hc
 ·cases Q with
  |nil=>simp at hc u;omega
  |cons c Q=>
   obtain⟨y,hy⟩:=dM (c:=c) (S:=T.IF a) (by rw[M,hl];simp);have A':((T.IF a).ps.map λq=>ptr (d.p q.1))[a.length]? =some (ptr (d.p c)):=by
    have:((T.IF a).ps.map (·.1))[a.length]? =some c:=by rw[M,hl];simp
    rw[sE] at this⊢;cases h:(T.IF a).ps[a.length]? with
    |none=>rw[h] at this;cases this
    |some q=>rw[h] at this;simp at this;simp[this]
   obtain⟨g,I',J,G'⟩:=K a.length _ A';subst J;simp at u;have n':c≠0:=by
    obtain⟨w,hw⟩:=dM (c:=c) (S:=T) (by rw[d',hl];simp);exact h0 _ hw
   have e1:IntKind.i64.wrap ((a.length:Int)+1)=((a++[c]).length:Int):=ag
   have K':At L' (d.p c) 2 (.int .i64 (y.st:Nat)):=f.pat hy (i:=2) rfl;have J':At L' (d.p c) 93 (.int .i64 (d.e c).un):=f.pat hy (CQ _ _);have v':y.st=3->(d.e c).un=y.til:=f.un _ hy;have H:T.IF (a++[c])=if y.st=3/\y.til=(T.now:Int) then(T.IF a).IV c y else T.IF a:=by
    rw[wI];show St.IF (match (T.IF a).get c with|some x=>_|none=>_) []=_;rw[aY f.pn hy,(eK a T).now];rfl
   have C:=MI.IF a hM;co_applyP(zo);co_applyP bL ((λf' E b'=>s=f'/\ ∃d,To 0 R B T L d (T.IF (a++[c])) X b'/\kn E [(2, .int .i64 a.length),(0,ptr R)]));co_applyP(bf);co_applyP aK;co_applyP ct ([(38, .bool (decide (y.st=3/\y.til=(T.now:Int)))),(3,ptr (d.p c)),(2, .int .i64 a.length),(0,ptr R)]);co_applyP(aO)
   ·by_cases h3:y.st=3
    ·rw[show ((y.st:Int)==3)=true by simp[h3]];co_applyP tr 7 rfl (bk) pI;co_applyP(aP);change _=_/\_=_/\kn _ _;refine⟨rfl,rfl, ?_⟩;rw[v' h3,show decide (y.st=3/\y.til=(T.now:Int))=(y.til==(T.now:Int)) by simp[h3];rfl];rfl
    ·rw[show ((y.st:Int)==3)=false by simp;omega];co_applyP tu 7 rfl pI;co_applyP(aP);change _=_/\_=_/\kn _ _;refine⟨rfl,rfl, ?_⟩;rw[show decide (y.st=3/\y.til=(T.now:Int))=false by simp[h3]];rfl
   co_applyP aI rfl;intro c';co_applyP(ax)
   ·have Y:y.st=3/\y.til=(T.now:Int):=by simpa using c'
    rw[if_pos Y] at H;co_applyP oc rfl rfl rfl (g1 0 R d _ X L' c y hN f hy (C.i.g.lv _ hy) (l6 (C.i.g.r8 (C.i.g.lv _ hy)) bx) n' bl);rintro _ _ _ ⟨rfl,rfl,B3,Z⟩;co_applyP(zo);change _=_/\ ∃d,_;exact⟨rfl,B3,by rw[H];exact U.trans Z,rfl⟩
   intro c';co_applyP(zo);change _=_/\ ∃d,_;have Y: ¬(y.st=3/\y.til=(T.now:Int)):=by simpa using c'
   rw[if_neg Y] at H;exact⟨rfl,d,by rw[H];exact U,rfl⟩;rintro _ F' L8 ⟨rfl,B8,t',x'⟩;co_applyP aA x';co_applyP(au);change∃k',k'<_/\_;rw[e1];exact⟨k-1,bl,rfl,a++[c],Q,B8,by simp[hl],by simp;omega,t',rfl⟩
 intro hc;have u':Q=[]:=by
  cases Q with
  |nil=>rfl
  |cons c Q=>simp at hc u;omega
 subst u';simp only[wc] at hl;subst hl;rw[<-j'] at U;have C:MI (λ_=>False) (λb=>b) T.Js:=MI.IF _ hM;have g':Fix T T.Js:=eK _ T;have N':At L' R 3 (.int .i64 T.bo):=by rw[<-g'.bo];exact U.r.kat rfl
 have P':=O.bo;have h':T.lead=if T.Js.Jk then(T.Js.IU (T.Js.ps.map (·.1))).IG 2 else T.Js:=rfl;have J:T.Js.Jk↔0<T.now/\((T.now:Nat):Int).tmod T.bo=0:=by unfold St.Jk;rw[g'.now,g'.bo]
 clear K hv h5 f M W;co_applyP(zo);co_applyP bL ((λf' E b'=>s=f'/\ ∃d,To 0 R B T L d T.lead X b'/\kn E [(0,ptr R)]));co_applyP aK;co_applyP ct ([(59, .bool (decide T.Js.Jk)),(0,ptr R)]);co_applyP(aR)
 ·by_cases h3:0<T.now
  ·rw[show decide ((0:Int)<(T.now:Nat))=true by simp;omega];co_applyP tr 6 rfl (bk) pI;co_applyP(bZ);change _=_/\_=_/\kn _ _;refine⟨rfl,rfl, ?_⟩;rw[show decide T.Js.Jk=(((T.now:Nat):Int).tmod T.bo==0) by simp only[J];simp[h3];rfl];rfl
  ·rw[show decide ((0:Int)<(T.now:Nat))=false by simp;omega];co_applyP tu 6 rfl pI;co_applyP(bZ);change _=_/\_=_/\kn _ _;refine⟨rfl,rfl, ?_⟩;rw[show decide T.Js.Jk=false by simp only[J];simp[h3]];rfl
 co_applyP aI rfl;intro hb;co_applyP(ay)
 ·have a':T.Js.Jk:=by simpa using hb
  co_applyP oc rfl rfl rfl (g2 R d T.Js X L' hN U.r C);rintro _ _ _ ⟨rfl,rfl,B3,Z⟩;co_applyP(zo);change _=_/\ ∃d,_;exact⟨rfl,B3,by rw[h',if_pos a'];exact U.trans Z,rfl⟩
 intro hb;co_applyP(zo);change _=_/\ ∃d,_;have a': ¬T.Js.Jk:=by simpa using hb
 exact⟨rfl,d,by rw[h',if_neg a'];exact U,rfl⟩;rintro _ E' L4 ⟨rfl,B4,e',y'⟩;co_applyP aA y';have N:=hM.lead;have z:=e'.r;have m':=cj T;co_applyP(au);co_applyP aU (λk s' D L'=>s=s'/\L4=L'/\ ∃i:Nat,k+i=3/\(∀j,j<i->T.lead.rows j=[])/\kn D [(4, .int .i64 i),(0,ptr R)]) 3
 ·exact⟨rfl,rfl,0,rfl,bE,rfl⟩
 rintro k s' D L' ⟨rfl,rfl,i,hk,hn,he⟩;co_applyP aA he;co_applyP(au);co_applyP aI rfl;intro hc
 ·have hi:i<3:=by simp at hc;omega
  have e1:IntKind.i64.wrap ((i:Int)+1)=((i+1:Nat):Int):=ag
  obtain⟨G,cap,hv,K⟩:=dm (z.rw i hi) (n:=(T.lead.rows i).length) bE;have C':At L4 R (7+i) (.slice G (T.lead.rows i).length cap):=by rw[<-hv];exact z.kat (mJ _ _ _ hi)
  co_applyP(bQ);co_applyP aI rfl;intro hz;cases A:T.lead.rows i with
  |nil=>rw[A] at hz;simp at hz
  |cons b bs=>
   obtain⟨g,M',z',Q'⟩:=K 0 (.int .i64 (b:Nat)) (by rw[A];rfl);subst z';have H':0<((T.lead.rows i).length:Int):=by rw[A];simp
   have l:T.lead.first=some b:=by
    unfold St.first
    rcases i with _|_|_|i
    ·rw[A];rfl
    ·rw[hn 0 bl,A];rfl
    ·rw[hn 0 bl,hn 1 bl,A];rfl
    ·omega
   obtain⟨x,hx,q'⟩:=dV N.i.g l;co_applyP(aP);co_applyP oc rfl rfl rfl (g3 0 R B4 T.lead X L4 b z N.i.g.p8);rintro _ _ _ ⟨rfl,rfl,rfl⟩;co_applyP(au);rw[px z hx];co_applyP oc rfl rfl rfl (g4 R B4 T.lead X L4 b x hN z N l' i' w' hx q' hw (P.trans m'.now.symm) (by rw[m'.now];exact r') (by rw[dk];have:=O.ls;omega) O.Jj);rintro _ _ _ ⟨rfl,rfl,B5,I⟩;co_applyP(ay);refine xI _ ⟨rfl,rfl,rfl,B5, ?_⟩;rw[dk] at I;unfold St.I5 MK;rw[l];simp only[aY N.i.g.pn hx];exact e'.trans I
  intro hz;co_applyP(aC);change∃k',k'<_/\_;have p':T.lead.rows i=[]:=by
   cases h:T.lead.rows i with
   |nil=>rfl
   |cons b bs=>rw[h] at hz;simp at hz
  rw[e1];refine⟨k-1,bl,rfl,rfl,i+1,bl,λj hj=> ?_,rfl⟩;by_cases e:j=i
  ·rw[e];exact p'
  ·exact hn j bl
 intro hc;co_applyP(ax);have hi:i=3:=by simp at hc;omega
 have l:T.lead.first=none:=by
  unfold St.first
  rw[hn 0 bl,hn 1 bl,hn 2 bl];rfl
 co_applyP oc rfl rfl rfl (g5 0 R B4 T.lead X L4 2 0 0 hN z bl);rintro _ _ _ ⟨rfl,rfl,B5,I⟩;co_applyP(zo);refine xI _ ⟨rfl,rfl,rfl,B5, ?_⟩;unfold St.I5 MK;rw[l];exact e'.trans I
abbrev Key:=Nat×Nat×Bool
def key (q:Nat×PS):Key:=(q.2.id,q.2.par,decide (q.2.st=6))
def St.sk (S:St):List Key:=S.ps.map key
def mark (id:Nat)(e:Key):Key:=if e.1=id then(e.1,e.2.1,true) else e
def MN (id:Nat)(e:Key):Key:=if e.2.1=id then(e.1,1,e.2.2) else e
def MF (l m:List Key):Prop:=m.Sublist l/\ ∀e∈l,e∈m\/(e.2.2=true/\e.2.1≠0)
theorem MF.refl (l:List Key):MF l l:=⟨List.Sublist.refl _,λe h=> .inl h⟩
theorem MF.trans {l m n:List Key}(h:MF l m)(k:MF m n):MF l n:=⟨k.1.trans h.1,λe he=>by
 rcases h.2 e he with a|a
 ·exact k.2 e a
 ·exact .inr a⟩
theorem MF.of {l m:List Key}(h:m=l):MF l m:=h▸MF.refl _
section
variable {S S':St}{b:Nat}{x x':PS}{k:Nat×Nat}{P:Nat->Prop}{N:Nat->Nat}
theorem cf (hn:(S.ps.map (·.1)).Nodup)(hb:(b,x)∈S.ps)(hid:x'.id=x.id)(a:x'.par=x.par)(hs:x'.st=6↔x.st=6):(S.ID b x').sk=S.sk:=by
 unfold St.sk St.ID;simp only[kt];apply k0;intro q d;simp only[Function.comp]
 split
 ·rename_i e;obtain⟨c,y⟩:=q;obtain rfl:c=b:=e;obtain rfl:=aS hn d hb;simp[key,hid,a,hs]
 ·rfl
theorem jJ (hn:(S.ps.map (·.1)).Nodup)(hb:(b,x)∈S.ps)(a:x.st≠6):(S.IV b x).sk=S.sk:=
 cf (x':={x with st:=1,used:=0}) hn hb rfl rfl ⟨λe=>by simp at e,λe=>absurd e a⟩
theorem mN (hn:(S.ps.map (·.1)).Nodup)(hb:(b,x)∈S.ps)(a:x.st≠6){s:Nat}(hs:s≠6):(S.IT b x s).sk=S.sk:=
 cf (x':={x with st:=s}) hn hb rfl rfl ⟨λe=>absurd e hs,λe=>absurd e a⟩
theorem rW (h:Inv S)(m:S.serve k=some S'):S'.sk=S.sk:=by
 obtain⟨b,x,hm,_,hb,hc,rfl⟩:=cR m;obtain⟨j,f⟩:=h.JE hm hb;obtain⟨a,p,n,l,d⟩:=b9 S x k;have i:x.st≠6:=by
  have o:=j.s;have r:=f.2;omega
 have e:((S.IE b k).carry b x k).sk=S.sk:=by
  unfold St.sk;rw[cL];exact cf (S:=S.IE b k) (x':=S.carried x k) h.g.pn hb l d (by rw[a])
 split
 ·exact e
 ·refine(jJ (x:=S.carried x k) ?_ ?_ ?_).trans e
  ·rw[cL,aV];exact h.g.pn
  ·rw[cL];exact ai (S:=S.IE b k) hb
  ·rw[a];exact i
theorem jK (p:Nat): ∀(n:Nat){S:St},Inv S->(St.looks n S p).sk=S.sk
 |0,_,_=>rfl
 |n+1,S,h=>by
  unfold St.looks
  split
  ·rename_i b a;exact(jK p n (h.serve a)).trans (rW h a)
  ·split
   ·rename_i b a;exact(jK p n (h.serve a)).trans (rW h a)
   ·rfl
theorem uE (h:MI P N S)(hb:(b,x)∈S.ps)(ho:S.out b)(n:Nat):(S.shut b n).sk=S.sk:=by
 unfold St.shut;rw[aY h.i.g.pn hb];have a:=h.Jq (x':={x with f:=put x.f n (0,0)}) hb ho rfl rfl ⟨(h.i.wf _ hb).r,(h.i.wf _ hb).m⟩ (iF (h.i.fl _ hb) (.inl rfl)) rfl rfl (h.x.un (b,x) hb);exact(jK _ 16 a.i).trans (cf (x':={x with f:=put x.f n (0,0)}) h.i.g.pn hb rfl rfl fz)
theorem mO (f:Nat->Nat×Nat): ∀(a:List Nat){S:St}{x:PS},MI P N S->(b,x)∈S.ps->S.out b->(S.I1 b f a).sk=S.sk
 |[],_,_,_,_,_=>rfl
 |n::a,S,x,h,hb,ho=>by
  show ((if f n=(0,0) then S else S.shut b n).I1 b f a).sk=_
  split
  ·exact mO f a h hb ho
  ·have d:=h.i.shut hb ho n;exact(mO f a (h.shut hb ho n) (d.m b _ ho (ai hb)) (d.o b ho)).trans (uE h hb ho n)
def LF (id:Nat)(bs:List Nat)(q:Nat×PS):Nat×PS:=if q.1∈bs/\q.2.par=id then(q.1,{q.2 with par:=1}) else q
theorem rX (id:Nat): ∀(bs:List Nat){S:St},(S.ps.map (·.1)).Nodup->(S.IH id bs).ps=S.ps.map (LF id bs)
 |[],S,_=>by
  show S.ps=_;have: ∀q∈S.ps,LF id [] q=q:=λq _=>by simp[LF]
  rw[k0 this];simp
 |b::bs,S,hn=>by
  unfold St.IH;have step: ∀d:St,d.ps=S.ps.map (LF id [b])->(d.IH id bs).ps=S.ps.map (LF id (b::bs)):=λd j=>by
   have k:d.ps.map (·.1)=S.ps.map (·.1):=by
    rw[j,kt];apply k0;intro q _;simp only[Function.comp,LF]
    split<;>rfl
   rw[rX id bs (by rw[k];exact hn),j,kt];apply k0;intro q _;simp only[Function.comp,LF];by_cases m:q.1=b<;>by_cases g:q.2.par=id<;>by_cases l:q.1∈bs<;>simp[m,g,l]
  cases i:S.get b with
  |none=>
   refine step S ?_;have: ∀q∈S.ps,LF id [b] q=q:=λq a=>by
    unfold LF;rw[if_neg];rintro⟨e,_⟩;have e:q.1=b:=by simpa using e
    have:=aY hn (b:=q.1) (x:=q.2) a;rw[e,i] at this;cases this
   rw[k0 this];simp
  |some y=>
   simp only;have hb:=ba i
   split
   ·rename_i f;refine step _ ?_;show S.ps.map _=_;apply k0;rintro⟨c,z⟩ a;unfold LF;by_cases e:c=b
    ·subst e;obtain rfl:=aS hn a hb;simp[f]
    ·simp[e]
   ·rename_i f;refine step S ?_;have: ∀q∈S.ps,LF id [b] q=q:=λq a=>by
     unfold LF;rw[if_neg];rintro⟨e,g⟩;obtain⟨c,z⟩:=q;obtain rfl:c=b:=by simpa using e
     obtain rfl:=aS hn a hb;exact f g
    rw[k0 this];simp
theorem Ao (id:Nat)(hn:(S.ps.map (·.1)).Nodup):(S.IH id (S.ps.map (·.1))).sk=S.sk.map (MN id):=by
 unfold St.sk;rw[rX id _ hn,kt,kt];apply k0;intro q a;have hm:q.1∈S.ps.map (·.1):=cm.2 ⟨q,a,rfl⟩;simp only[Function.comp,LF,MN,key];by_cases e:q.2.par=id<;>simp only[hm,e,true_and,and_true,if_true,if_false,and_false]
theorem uF (h:MI P N S)(hb:(b,x)∈S.ps)(ho:S.out b){i:Nat}(hc:S.II x=some i)(o:x.st≠6):MF S.sk (S.take b x i).sk:=by
 obtain⟨q,k,p,f⟩:=di hc;have d:=(h.take hb ho hc o).2;have e:S.take b x i=({S.IP (S.ps.eraseIdx i) with last:=S.last}:St).ID b (told x q.2):=by unfold St.take;rw[k]
 have m:((S.ps.eraseIdx i).map (·.1)).Nodup:=List.Nodup.sublist ((List.eraseIdx_sublist S.ps i).map _) h.i.g.pn;rw[e,cf (S:=({S.IP (S.ps.eraseIdx i) with last:=S.last}:St)) (x:=x) (x':=told x q.2) m d rfl rfl fz];refine⟨(List.eraseIdx_sublist S.ps i).map _,λe he=> ?_⟩;obtain⟨r,n,rfl⟩:=cm.1 he;obtain⟨j,l⟩:=mx n;by_cases a:j=i
 ·subst a;rw[l] at k;obtain rfl:r=q:=by simpa using k
  refine .inr ⟨by simp[key,f], ?_⟩;show r.2.par≠0;have:=(h.x.idr _ hb).1;simp only at this;omega
 ·exact .inl (cm.2 ⟨r,G2.2 ⟨j,a,l⟩,rfl⟩)
theorem tJ (h:MI P N S)(c:Nat):MF S.sk (S.IJ c).sk:=by
 unfold St.IJ;cases j:S.get c with
 |none=>exact MF.refl _
 |some x=>
  simp only
  split
  ·rename_i l;cases hc:S.II x with
   |none=>exact MF.refl _
   |some i=>
    obtain⟨q,d,_,k⟩:=di hc;simp only[d];have hb:=ba j;have b:=h.i.JI hb bl bl bl;obtain⟨f,a⟩:=h.take hb b hc bl;have e:S.take c x i=({S.IP (S.ps.eraseIdx i) with last:=S.last}:St).ID c (told x q.2):=by unfold St.take;rw[d]
    refine(uF h hb b hc bl).trans (MF.of (jJ (x:=told x q.2) f.i.g.pn ?_ (by show x.st≠6;omega)));rw[e];exact ai a
  ·exact MF.refl _
theorem mP: ∀(bs:List Nat){S:St},MI P N S->MF S.sk (S.parents bs).sk
 |[],_,_=>MF.refl _
 |c::bs,_,h=>(tJ h c).trans (mP bs (h.IJ c))
theorem CR (h:MI P N S)(hb:(b,x)∈S.ps)(hid:x'.id=x.id)(a:x'.par=x.par)(hs:x'.st=6):(S.ID b x').sk=S.sk.map (mark x.id):=by
 unfold St.sk St.ID;simp only[kt];apply k0;intro q d;simp only[Function.comp]
 split
 ·rename_i e;obtain⟨c,y⟩:=q;obtain rfl:c=b:=e;obtain rfl:=aS h.i.g.pn d hb;simp[key,mark,hid,a,hs]
 ·rename_i e;unfold mark;rw[if_neg];intro f;exact e (by rw[h.x.idn q d _ hb f])
theorem tK (h:MI P N S)(hb:(b,x)∈S.ps)(status:Int):MF ((S.sk.map (mark x.id)).map (MN x.id)) (S.fin b x status).sk:=by
 have e:=h.i.I3 hb;have u:MI P N (S.IE b (x.file (x.r 0))):=h.IE;have d:(b,x)∈(S.IE b (x.file (x.r 0))).ps:=hb;have l:=u.IT d e (s:=6) bx;have a:(b,{x with st:=6})∈((S.IE b (x.file (x.r 0))).IT b x 6).ps:=ai d;have n:=l.Jq (x':={x with st:=6,stat:=status}) a e rfl rfl ⟨(h.i.wf _ hb).r,(h.i.wf _ hb).m⟩ (h.i.fl (b,x) hb) rfl rfl (h.x.un (b,x) hb);have k:=MI.I1 (b:=b) x.f (List.range' 0 6) n (ai a) e;have y:((S.IE b (x.file (x.r 0))).IT b x 6).sk=S.sk.map (mark x.id):=CR (S:=S) (x':={x with st:=6}) h hb rfl rfl rfl;have p:=cf (x':={x with st:=6,stat:=status}) l.i.g.pn a rfl rfl fz;have o:=mO (b:=b) x.f (List.range' 0 6) n (ai a) e;have j:=Ao x.id k.i.g.pn;rw[o,p,y] at j;rw[<-j];exact mP _ (MI.IH _ (h.x.idr _ hb).1 _ k)
theorem Ap (hn:(S.ps.map (·.1)).Nodup)(v:Int):(S.r0 b v).sk=S.sk:=by
 unfold St.r0;cases a:S.get b with
 |none=>rfl
 |some z=>exact cf (x':=z.r0 v) hn (ba a) rfl rfl fz
theorem uG (h:MI (λ_=>False) N S)(hb:(b,x)∈S.ps)(hs:x.st=1){use a:Nat}(hu:use=4\/use=5)(hm:use=5->a<=8):(S.Jf b x use a).2.sk=S.sk:=by
 have o:=h.out hb hs;unfold St.Jf;cases hc:x.IQ use a with
 |some i=>rfl
 |none=>
  obtain⟨d,c2,c3⟩:=ey hc;have l:KX (x.file (x.r 0)):=(h.i.Ju hb _).resolve_left λe=>by rw[e] at d;simp only at d;omega
  have m:Inv (S.IN b (x.file (x.r 0))):=h.i.IN hb o ⟨rfl,c3,λp=>by rw[p] at d;have:=hm d.symm;omega, .inl hs⟩ l;have n:=(m.look (x.file (x.r 0)).1).i;have e:=jK (x.file (x.r 0)).1 16 m;simp only
  split
  ·rename_i f;cases u:((S.IN b (x.file (x.r 0))).look (x.file (x.r 0)).1).get b with
   |none=>exact e
   |some z=>
    have k:=ba u;have j:=(n.JE f k).1.s;have:=l.2;exact(mN n.g.pn k bl bl).trans e
  ·exact e
inductive N9 (l:List Key)(n t id:Nat):List Value->List Key->Nat->Prop
 |calm {l'}:MF l l'->N9 l n t id [] l' n
 |said {l'} (v:Int):0<=v/\v<256->MF l l'->N9 l n t id [LK t 3 id v] l' n
 |fork:N9 l n t id [] (l++[(n+1,id,false)]) (n+1)
 |gone {l'} (d p:Nat) (v:Int):(d,p,false)∈l->MF ((l.map (mark d)).map (MN d)) l'->N9 l n t id [LK t 4 d v] l' n
theorem Aq (h:MI (λ_=>False) N S)(hb:(b,x)∈S.ps)(hs:x.st=1){c:Nat}(hc: ∀q∈S.ps,c≠q.1) (hN:N c=S.last+1) (m:Int):N9 S.sk S.last S.now x.id (S.I9 b x m) (S.IK b x m c).sk (S.IK b x m c).last:=by
 have B:=h.out hb hs;have d:=h.i.g.pn;have p:x.st≠6:=bl
 have a: ∀{S':St},S'.sk=S.sk->S'.last=S.last->N9 S.sk S.last S.now x.id [] S'.sk S'.last:=λz E=>by rw[z,E];exact .calm (MF.refl _)
 have M: ∀{q:Nat×PS},q∈S.ps->q.2.st≠6->(q.2.id,q.2.par,false)∈S.sk:=λ{q} n h=>cm.2 ⟨q,n,by simp[key,h]⟩;unfold St.I9 St.IK;by_cases s:m=0
 ·rw[if_pos s,if_pos s];rw[(j2 S b x (x.r 0)).last];exact .gone x.id x.par _ (M hb p) (tK h hb _)
 rw[if_neg s,if_neg s];by_cases A:m=1
 ·rw[if_neg bl,if_neg bl,if_pos A]
  split
  ·exact a rfl rfl
  ·rename_i R;have C:b≠c:=λe=>hc _ hb e.symm;have hw:=h.i.wf _ hb;have D:=(h.x.idr _ hb).1;obtain⟨z,G⟩:=h.taken (y:=x.copy.r0 0) hc bl rfl (by show 0<3;omega) (fT (x:=x.copy) (v:=0) ⟨hw.r,hw.m⟩ bl) (h.i.fl (b,x) hb) (by show x.id≠0;simp only at D;omega) (hX _) hN;have o:(c,{x.copy.r0 0 with id:=S.last+1})∈(S.taken c (x.copy.r0 0)).ps:=rv _ eT;have E:=z.IV o G (by show (0:Nat)≠1;omega);have F:(b,x)∈(S.Jw c (x.copy.r0 0)).ps:=bK (nx _ hb) C;have A:=cf (x':=x.r0 (((S.last+1:Nat):Int)%65536)) E.i.g.pn F rfl rfl fz;have u:=jJ z.i.g.pn o (by show (0:Nat)≠6;omega);have k:(S.Jt b x c).sk=S.sk++[(S.last+1,x.id,false)]:=by
    refine A.trans (u.trans ?_);show (S.ps++[(c,{x.copy.r0 0 with id:=S.last+1})]).map key=_;rw[l3];rfl
   rw[k];exact .fork
 rw[if_neg A];by_cases u:m=2
 ·rw[if_neg bl,if_neg bl,if_pos u];rw[(q6 S b x).last];refine .calm ?_;unfold St.Jd
  split
  ·simp only
   split
   ·exact uF h hb B ‹_› p
   ·exact MF.of (mN d hb p bx)
  ·exact MF.refl _
 rw[if_neg u];by_cases k:m=3
 ·rw[if_pos k,if_pos k];cases P:S.find (x.r 0) with
  |none=>exact a rfl rfl
  |some q=>
   simp only
   split
   ·exact a rfl rfl
   ·rename_i Q;obtain⟨n,_⟩:=dK P;rw[Ap (MI.fin (b:=q.1) (x:=q.2) h n _).i.g.pn 0,(qY _ b 0).last,(j2 S q.1 q.2 65280).last];exact .gone q.2.id q.2.par _ (M n Q) (tK (b:=q.1) (x:=q.2) h n _)
 rw[if_neg k,if_neg k];by_cases f:m=11
 ·subst f;simp only[if_pos];exact .said _ bl (MF.of (cf (x':=x.r0 0) d hb rfl rfl fz))
 rw[if_neg f];by_cases I:m=4
 ·rw[if_pos I];refine a ?_ (nP _ _ _).last;unfold St.I7
  split
  ·exact cf (x':=x.r0 0) d hb rfl rfl fz
  ·refine(mN (x:={x.r0 0 with til:=(S.now:Int)+x.r 0}) (by rw[aV];exact d) (ai hb) p bx).trans ?_;exact cf (x':={x.r0 0 with til:=(S.now:Int)+x.r 0}) d hb rfl rfl fz
 rw[if_neg I];by_cases L:m=5
 ·rw[if_pos L];exact a (cf (x':=x.r0 0) d hb rfl rfl fz) rfl
 rw[if_neg L];by_cases O:m=6
 ·rw[if_pos O];exact a (cf (x':=x.r0 ((x.id:Int)%65536)) d hb rfl rfl fz) rfl
 rw[if_neg O];by_cases K:m=7
 ·rw[if_pos K];refine a ?_ (q7 _ _ _).last;unfold St.I4
  split
  ·rfl
  ·split
   ·rename_i i j _ _;exact cf (S:=S.IY S.unused []) (x':=x.piped S.unused i j) d hb rfl rfl fz
   ·rfl
 rw[if_neg K];by_cases J:m=8
 ·rw[if_pos J];refine a ?_ (nQ _ _ _).last;unfold St.IZ
  split
  ·rfl
  ·exact(Ap (h.shut hb B _).i.g.pn 0).trans (uE h hb B _)
 rw[if_neg J];by_cases H:m=9
 ·rw[if_pos H];exact a (uG h hb hs (.inl rfl) bl) (kX _ _ _ _ _).last
 rw[if_neg H];by_cases l:m=10
 ·rw[if_pos l];exact a (uG h hb hs (.inr rfl) bl) (kX _ _ _ _ _).last
 rw[if_neg l,if_neg f];exact a rfl rfl
theorem FN (h:MI (λ_=>False) N S)(hp:Ms S)(hb:(b,x)∈S.ps)(hs:x.st=1){c:Nat}(hc: ∀q∈S.ps,c≠q.1) (hN:N c=S.last+1):N9 S.sk S.last S.now x.id (S.Jv b x) (S.I2 b x c).sk (S.I2 b x c).last:=by
 have s:=h.out hb hs;have o:=h.i.g.pn;have u:x.st≠6:=bl
 have B:(x.id,x.par,false)∈S.sk:=cm.2 ⟨(b,x),hb,by simp[key,u]⟩;have a: ∀v:Int,N9 S.sk S.last S.now x.id [LK S.now 4 x.id v] (S.fin b x v).sk (S.fin b x v).last:=λv=>by
  rw[(j2 S b x v).last];exact .gone x.id x.par _ B (tK h hb _)
 unfold St.Jv St.I2;by_cases l:S.pn<=x.at_
 ·rw[if_pos l,if_pos l];exact a _
 rw[if_neg l,if_neg l];by_cases d:S.pg x.at_ 0=9
 ·rw[if_pos d,if_pos d];have p:MI (λ_=>False) N (S.ID b x.next):=h.Jq (x':=x.next) hb s rfl rfl ⟨(h.i.wf _ hb).r,(h.i.wf _ hb).m⟩ (h.i.fl (b,x) hb) rfl rfl (h.x.un (b,x) hb);have k:(b,x.next)∈(S.ID b x.next).ps:=ai hb;have j: ∀q∈(S.ID b x.next).ps,c≠q.1:=λq y e=>by
   have:q.1∈S.ps.map (·.1):=by rw[<-aV S b x.next];exact cm.2 ⟨q,y,rfl⟩
   obtain⟨r,A,d⟩:=cm.1 this;exact hc r A (by rw[e,<-d])
  have n:=Aq p k hs j hN (S.pg x.at_ 1);rw[cf (x':=x.next) o hb rfl rfl fz] at n
  split
  ·rw[Ap (p.IK k hs j hN _).i.g.pn,(qY _ b _).last];exact n
  ·exact n
 rw[if_neg d,if_neg d];cases z:S.doR x with
 |error i=>exact a _
 |ok x'=>
  have f:=hp.2 x.at_ bl;obtain⟨d1,d2,d3,d4,d5,d6,d7⟩:=uu (h.i.wf _ hb) (f 2 bl) (f 3 bl) z;show N9 S.sk S.last S.now x.id [] (S.ID b x').sk S.last;rw[cf (x':=x') o hb d3 d4 (by rw[d1])];exact .calm (MF.refl _)
theorem Ar (hn:(S.ps.map (·.1)).Nodup)(b:Nat):(S.after b).sk=S.sk:=by
 unfold St.after;cases d:S.get b with
 |none=>rfl
 |some z=>
  have hb:=ba d;have a:=cf (x':=z.more) hn hb rfl rfl fz;simp only
  split
  ·unfold St.JD
   split
   ·exact a
   ·simp only;exact(cf (S:=(S.ID b z.more).setRow z.more.lv (((S.ID b z.more).rows z.more.lv).erase b)) (x':={z.more with lv:=min (z.more.lv+1) 2,used:=0}) (by show ((S.ID b z.more).ps.map (·.1)).Nodup;rw[aV];exact hn) (ai hb) rfl rfl fz).trans a
  ·exact a
theorem jL: ∀(bs:List Nat){S:St},(S.ps.map (·.1)).Nodup->(S.IF bs).sk=S.sk/\((S.IF bs).ps.map (·.1))=S.ps.map (·.1)
 |[],_,_=>⟨rfl,rfl⟩
 |b::bs,S,hn=>by
  unfold St.IF;cases d:S.get b with
  |none=>exact jL bs hn
  |some x=>
   simp only
   split
   ·rename_i h;have hb:=ba d;have e:(S.IV b x).ps.map (·.1)=S.ps.map (·.1):=aV S b _;obtain⟨a,f⟩:=jL bs (S:=S.IV b x) (by rw[e];exact hn);exact⟨a.trans (jJ hn hb bl),f.trans e⟩
   ·exact jL bs hn
theorem jM: ∀(bs:List Nat){S:St},(S.ps.map (·.1)).Nodup->(S.IU bs).sk=S.sk
 |[],_,_=>rfl
 |b::bs,S,hn=>by
  unfold St.IU;cases a:S.get b with
  |none=>exact jM bs hn
  |some x=>
   simp only
   split
   ·have hb:=ba a;exact(jM bs (by rw[aV];exact hn)).trans (cf (x':={x with lv:=0,used:=0}) hn hb rfl rfl fz)
   ·exact jM bs hn
theorem CS (hn:(S.ps.map (·.1)).Nodup):S.lead.sk=S.sk:=by
 obtain⟨a,b⟩:=jL (S.ps.map (·.1)) hn;unfold St.lead St.Jm
 split
 ·have d:((S.Js.IU (S.Js.ps.map (·.1))).IG 2).sk=(S.Js.IU (S.Js.ps.map (·.1))).sk:=by unfold St.sk;rw[(fH _ 2).1]
  exact d.trans ((jM _ (S:=S.Js) (by unfold St.Js;rw[b];exact hn)).trans a)
 ·exact a
theorem CU {c:Nat}(h:TI N S)(hc: ∀q∈S.lead.ps,c≠q.1) (hN:N c=S.last+1):
 (S.Jh=[LK S.now 2 0 0]/\(S.I5 c).later.sk=S.sk/\(S.I5 c).later.last=S.last)\/
 ∃id par at_ es,(id,par,false)∈S.sk/\S.Jh=LK S.now 1 (id:Nat) (at_:Nat)::es/\N9 S.sk S.last S.now id es (S.I5 c).later.sk (S.I5 c).later.last:=by
 have d:=CS h.m.i.g.pn;have a:S.lead.now=S.now:=(cj S).now;have f:=dk S;unfold St.Jh St.I5;cases l:S.lead.first with
 |none=>exact .inl ⟨by rw[a],d,f⟩
 |some b=>
  obtain⟨x,e,j⟩:=dV h.m.lead.i.g l;simp only[aY h.m.lead.i.g.pn e];have k:=FN h.m.lead h.Jj e j hc (by rw[f];exact hN);rw[d,f,a] at k;refine .inr ⟨x.id,x.par,x.at_,_, ?_,by rw[a], ?_⟩
  ·rw[<-d];exact cm.2 ⟨(b,x),e,by simp[key,j]⟩
  ·show N9 _ _ _ _ _ ((S.lead.I2 b x c).after b).sk ((S.lead.I2 b x c).after b).last;rw[Ar (h.m.lead.I2 h.Jj e j hc (by rw[f];exact hN)).i.g.pn,(jx _ b).last];exact k
end
def Lc (ws:List Wd):Bool:=ws.any λw=>w.2.1==4&&w.2.2.1==1
structure XE (X X':RX)(ws:List Wd):Prop where
 w:X'.ws=X.ws++ws
 o:X'.over=(X.over||Lc ws)
 n:X'.now=X.now
 i:X'.img=X.img
section
variable {X X1 X2:RX}{S T T':St}{b:Nat}{x:PS}{l l':List Key}{n t id n':Nat}{es:List Value}{ws ws':List Wd}
theorem XE.refl (X:RX):XE X X []:=⟨bE,by simp[Lc],rfl,rfl⟩
theorem XE.trans (h:XE X X1 ws)(k:XE X1 X2 ws'):XE X X2 (ws++ws'):=⟨by rw[k.w,h.w,r5],by rw[k.o,h.o];simp[Lc,Bool.or_assoc],k.n.trans h.n,k.i.trans h.i⟩
theorem pG (X:RX)(b:Nat)(st:Int):XE X (MZ X b st) [((X.now:Int),4,(b:Int),st)]:=⟨rfl,by
 show (X.over||decide (b=1))=_;unfold Lc;simp;by_cases h:b=1
 ·simp[h]
 ·have: ¬(b:Int)=1:=bl
  simp[h,this],rfl,rfl⟩
theorem pH (X:RX)(k id a:Int)(b:k≠4):XE X (tellX X k id a) [((X.now:Int),k,id,a)]:=⟨rfl,by simp[Lc,b],rfl,rfl⟩
theorem CV (T:St)(X:RX)(b:Nat)(x:PS):XE X (MY T X b x) []:=by
 unfold MY
 split
 ·exact XE.refl X
 ·exact⟨bE,by simp[Lc],rfl,rfl⟩
structure XN (X X':RX):Prop where
 a:X'.ask=X.ask
 o:X.op=X.no->X'.op=X'.no
 n:X'.no<=X.no+1
theorem XN.refl (X:RX):XN X X:=⟨rfl,id,xq _⟩
theorem CW (T:St)(X:RX)(b:Nat)(x:PS)(m:Int):XN X (Ly T X b x m):=by
 unfold Ly MY
 split
 ·exact⟨rfl,id,xq _⟩
 ·split
  ·split
   ·split
    ·exact XN.refl X
    ·exact⟨rfl,id,xq _⟩
   ·exact XN.refl X
  ·split
   ·split
    ·exact XN.refl X
    ·exact⟨rfl,λ_=>rfl,cD _⟩
   ·split
    ·exact⟨rfl,id,xq _⟩
    ·exact XN.refl X
theorem CX (T:St)(X:RX)(b:Nat)(x:PS):XN X (stepX T X b x):=by
 unfold stepX
 split
 ·exact⟨rfl,id,xq _⟩
 ·split
  ·exact CW _ X b _ _
  ·split
   ·exact XN.refl X
   ·exact⟨rfl,id,xq _⟩
theorem CY (T:St)(X:RX):XN X (MK T X):=by
 unfold MK
 split
 ·exact⟨rfl,id,xq _⟩
 ·split
  ·have h:=CX T.lead (tellX X 1 ‹Nat› (PS.at_ ‹PS›)) ‹Nat› ‹PS›;exact⟨h.a,h.o,h.n⟩
  ·exact XN.refl X
theorem CZ (hn:X.now=T.now)(hid: ∀q∈T.ps,q.2.id=q.1) (hb:(b,x)∈T.ps) (m:Int): ∃ws,XE X (Ly T X b x m) ws/\T.I9 b x m=ws.map Wd.v/\ws.length<=1:=by
 unfold Ly St.I9;have d:x.id=b:=hid _ hb;by_cases h0:m=0
 ·rw[if_pos h0,if_pos h0];exact⟨_,pG X b _,by rw[hn,d];rfl,cD _⟩
 rw[if_neg h0,if_neg h0];by_cases e:m=3
 ·rw[if_pos e,if_pos e];cases g:T.find (x.r 0) with
  |none=>exact⟨[],XE.refl X,rfl,hX _⟩
  |some q=>
   simp only
   split
   ·exact⟨[],XE.refl X,rfl,hX _⟩
   ·exact⟨_,pG X q.1 _,by rw[hn,hid q (dK g).1];rfl,cD _⟩
 rw[if_neg e,if_neg e];by_cases f:m=7
 ·rw[if_pos f,if_neg bl];exact⟨[],CV T X b x,rfl,hX _⟩
 rw[if_neg f];by_cases a:m=11
 ·rw[if_pos a,if_pos a];exact⟨_,pH X 3 b _ bx,by rw[hn,d];rfl,cD _⟩
 ·rw[if_neg a,if_neg a];exact⟨[],XE.refl X,rfl,hX _⟩
theorem C0 (hn:X.now=T.now)(hid: ∀q∈T.ps,q.2.id=q.1) (hb:(b,x)∈T.ps): ∃ws,XE X (stepX T X b x) ws/\T.Jv b x=ws.map Wd.v/\ws.length<=1:=by
 unfold stepX St.Jv;have a:x.id=b:=hid _ hb;by_cases d:T.pn<=x.at_
 ·rw[if_pos d,if_pos d];exact⟨_,pG X b _,by rw[hn,a];rfl,cD _⟩
 rw[if_neg d,if_neg d];by_cases f:T.pg x.at_ 0=9
 ·rw[if_pos f,if_pos f];refine CZ (T:=T.ID b x.next) hn (λq g=> ?_) (ai hb) _;rcases aN g with rfl|⟨i,_⟩
  ·exact a
  ·exact hid q i
 rw[if_neg f,if_neg f];cases T.doR x with
 |ok x'=>exact⟨[],XE.refl X,rfl,hX _⟩
 |error e=>exact⟨_,pG X b _,by rw[hn,a];rfl,cD _⟩
theorem C1 (hn:X.now=T.now)(hid: ∀q∈T.lead.ps,q.2.id=q.1) (e:Good T.lead): ∃ws,XE X (MK T X) ws/\T.Jh=ws.map Wd.v/\ws.length<=2:=by
 have a:T.lead.now=T.now:=(cj T).now;unfold MK St.Jh;cases f:T.lead.first with
 |none=>exact⟨_,pH X 2 0 0 bx,by rw[a,hn];rfl,bE⟩
 |some b=>
  obtain⟨x,d,_⟩:=dV e f;simp only[aY e.pn d];have i:=pH X 1 b x.at_ bx;obtain⟨ws,g,j,k⟩:=C0 (X:=tellX X 1 b x.at_) (T:=T.lead) (hn.trans a.symm) hid d;refine⟨_,i.trans g, ?_,ao⟩;rw[j,a,hid _ d,hn];rfl
def Ng (l:List Key):Bool:=l.any λe=>decide (e.1=1)&&e.2.2
theorem jN:Ng l=true↔ ∃e∈l,e.1=1/\e.2.2=true:=by unfold Ng;simp[OH]
theorem uH {N:Nat->Nat}(h:TI N T):T.IX=Ng T.sk:=by
 obtain⟨q,f,l⟩:=h.m.x.p1;unfold St.IX;cases d:T.find 1 with
 |none=>
  unfold St.find at d;have:=sS.1 d q f;simp at this;omega
 |some r=>
  obtain⟨i,n⟩:=dK d;have e:Ng T.sk=true↔r.2.st=6:=by
   rw[jN];constructor
   ·rintro⟨e,he,k,g⟩;obtain⟨q,f,rfl⟩:=cm.1 he;have j:q.2.id=r.2.id:=by have:q.2.id=1:=k;omega
    rw[h.m.x.idn q f r i j] at g;simpa [key] using g
   ·intro b;exact⟨key r,cm.2 ⟨r,i,rfl⟩,by show r.2.id=1;omega,by simp[key,b]⟩
  simp only;cases a:Ng T.sk with
  |true=>simp[e.1 a]
  |false=>simp;intro b;rw[e.2 b] at a;cases a
theorem pJ (d:MF l l')(h: ∀e∈l,e.1=1->e.2.1=0):Ng l'=Ng l:=by
 have:Ng l'=true↔Ng l=true:=by
  rw[jN,jN];constructor
  ·rintro⟨e,he,a,b⟩;exact⟨e,d.1.subset he,a,b⟩
  ·rintro⟨e,he,a,b⟩;rcases d.2 e he with f|⟨_,f⟩
   ·exact⟨e,f,a,b⟩
   ·exact absurd (h e he a) f
 cases a:Ng l'<;>cases b:Ng l<;>simp_all
theorem jO {w:Wd}{a b c d:Int}(h:LK a b c d=w.v):w=(a,b,c,d):=by
 unfold LK at h;have e:=Value.agg.inj h;obtain⟨w1,w2,w3,w4⟩:=w;simp[wd] at e;obtain⟨rfl,rfl,rfl,rfl⟩:=e;rfl
theorem As (hs:N9 l n t id (ws.map Wd.v) l' n')(h: ∀e∈l,e.1=1->e.2.1=0) (h1: ∀e∈l,1<=e.1):Ng l'=(Ng l||Lc ws):=by
 generalize he:ws.map Wd.v=es at hs;cases hs with
 |calm d=>
  have:ws=[]:=List.map_eq_nil_iff.1 he;rw[pJ d h,this];simp[Lc]
 |said v hv d=>
  obtain⟨w,hw,e⟩: ∃w,ws=[w]/\w.v=LK t 3 id v:=by
   cases ws with
   |nil=>cases he
   |cons w ws=>cases ws with
    |nil=>exact⟨w,rfl,by simpa using he⟩
    |cons w' ws=>simp at he
  rw[pJ d h,hw,jO e.symm];simp[Lc]
 |fork=>
  have:ws=[]:=List.map_eq_nil_iff.1 he;rw[this];simp[Ng,Lc]
 |gone d p v hd dl=>
  obtain⟨w,hw,e⟩: ∃w,ws=[w]/\w.v=LK t 4 d v:=by
   cases ws with
   |nil=>cases he
   |cons w ws=>cases ws with
    |nil=>exact⟨w,rfl,by simpa using he⟩
    |cons w' ws=>simp at he
  have s:=h1 _ hd;have u:1<=d:=s;have a: ∀e,(MN d (mark d e)).1=e.1:=λe=>by unfold MN mark;split<;>split<;>rfl
  have f: ∀e,(MN d (mark d e)).2.2=(if e.1=d then true else e.2.2):=λe=>by unfold MN mark;split<;>split<;>simp_all
  have r: ∀e,e.2.1=0->(MN d (mark d e)).2.1=0:=λe h=>by
   unfold MN mark;by_cases m:e.1=d
   ·rw[if_pos m,if_neg (show¬(e.1,e.2.1,true).2.1=d by show¬e.2.1=d;omega)];exact h
   ·rw[if_neg m,if_neg (show¬e.2.1=d by omega)];exact h
  rw[pJ dl (λe he b=>by
   obtain⟨m,g,rfl⟩:=cm.1 he;obtain⟨k,i,rfl⟩:=cm.1 g;rw[a] at b;exact r k (h k i b)),hw,jO e.symm]
  have:Ng ((l.map (mark d)).map (MN d))=true↔(Ng l||Lc [((t:Int),4,(d:Int),v)])=true:=by
   rw[Bool.or_eq_true,jN,jN];have o:Lc [((t:Int),4,(d:Int),v)]=true↔d=1:=by unfold Lc;simp;omega
   rw[o];constructor
   ·rintro⟨e,he,b,j⟩;obtain⟨m,g,rfl⟩:=cm.1 he;obtain⟨k,i,rfl⟩:=cm.1 g;rw[a] at b;rw[f] at j
    split at j
    ·rename_i x;exact .inr (x.symm.trans b)
    ·exact .inl ⟨k,i,b,j⟩
   ·rintro(⟨e,he,b,j⟩|rfl)
    ·exact⟨_,cm.2 ⟨_,cm.2 ⟨e,he,rfl⟩,rfl⟩,by rw[a];exact b,by rw[f,j];simp⟩
    ·exact⟨_,cm.2 ⟨_,cm.2 ⟨_,hd,rfl⟩,rfl⟩,by rw[a],by rw[f];simp⟩
  cases h1:Ng ((l.map (mark d)).map (MN d))<;>cases b:(Ng l||Lc [((t:Int),4,(d:Int),v)])<;>simp_all
theorem wJ (h:TI (λb=>b) T)(hc: ∀q∈T.lead.ps,T.last+1≠q.1) (j:TI (λb=>b) T.next) (hw:T.Jh=ws.map Wd.v):T.next.IX=(T.IX||Lc ws):=by
 rw[uH h,uH j];have k: ∀e∈T.sk,e.1=1->e.2.1=0:=λe he d=>by
  obtain⟨q,g,rfl⟩:=cm.1 he;exact(h.m.x.p0 q g).2 d
 have d: ∀e∈T.sk,1<=e.1:=λe he=>by
  obtain⟨q,g,rfl⟩:=cm.1 he;exact(h.m.x.idr q g).1
 rcases CU h hc rfl with ⟨i,a,_⟩|⟨id,par,at_,es,_,i,a⟩
 ·have:T.next.sk=T.sk:=a
  rw[this];rw[i] at hw;obtain⟨w,f,e⟩: ∃w,ws=[w]/\w.v=LK T.now 2 0 0:=by
   cases ws with
   |nil=>cases hw
   |cons w ws=>cases ws with
    |nil=>exact⟨w,rfl,by simpa using hw.symm⟩
    |cons w' ws=>simp at hw
  rw[f,jO e.symm];simp[Lc]
 ·rw[i] at hw;cases ws with
  |nil=>cases hw
  |cons w ws=>
   simp only[ix,List.cons.injEq] at hw;rw[hw.2] at a;have:=As a k d;have l:Ng T.next.sk=(Ng T.sk||Lc ws):=this
   rw[l,jO hw.1];simp[Lc]
end
theorem mQ {T:St}(h:TI (λb=>b) T): ∀q∈T.lead.ps,T.last+1≠q.1:=λq a e=>by
 have d:=(h.m.lead.x.idr q a).2;have f:q.1=q.2.id:=h.m.lead.x.nm q a;rw[dk] at d;omega
structure Ref (R:Nat)(B:RB)(T:St)(X:RX)(L:Ka):Prop where
 r:Ki 0 R B T X L
 t:TI (λb=>b) T
 o:X.over=T.IX
 n:X.over=false->X.now=T.now
 a:X.ask=0
 p:X.op=X.no
 l:X.no<=X.now
theorem FO: ∃n,∀{a}{F:Kn a}{Δ:DM F}{main s}(L:Ka)(R:Nat)(m:Int),(m<0\/2000<m)->
 Kb Δ prog main 73 [ptr R, .int .i64 m].toArray n s L (λs' v L'=>s=s'/\v= .tuple #[.slice none 0 0, .int .i64 3]/\L=L'):=by
 constructor;intro a F Δ main s L R m hm;co_applyP ar 39 func73 ntmps73;co_applyP(av);co_applyP aK (n₂:=0);co_applyP aK;co_applyP ct ([(12, .bool true)]);co_applyP(av)
 ·by_cases h:m<0
  ·rw[show decide (m<0)=true by simp[h]];co_applyP(av);change _=_/\_=_/\kn _ _;exact⟨rfl,rfl,rfl⟩
  ·rw[show decide (m<0)=false by simp[h]];co_applyP(av);change _=_/\_=_/\kn _ _;refine⟨rfl,rfl, ?_⟩;rw[show decide (2000<m)=true by simp;omega];rfl
 co_applyP(aC);exact xI _ ⟨rfl,rfl,rfl,rfl⟩
theorem FP: ∃n,∀{σ}{F:Kn σ}{Δ:DM F}{main s}(R:Nat)(B:RB)(T:St)(X:RX)(L:Ka)(m:Nat),(∀s o,(Δ s).New o)->Ref R B T X L->m<=2000->T.now<1152921504606846976->X.now<=8000->
 Kb Δ prog main 73 [ptr R, .int .i64 (m:Nat)].toArray n s L (λs' v L'=>s=s'/\ ∃B' y,v= .tuple #[Kj B'.ae 4 y.ws.length, .int .i64 0]/\Ref R B' (St.runs m T) y L'/\To 0 R B T L B' (St.runs m T) y L'/\y.ws.map Wd.v=St.evs m T/\y.now=X.now+m):=by
 obtain⟨n1,g1⟩:=FM;constructor;intro σ F Δ main s R B T X L m hN P hm R' r';have hR:=P.r;co_applyP ar 39 func73 ntmps73;co_applyP(au);co_applyP aK;co_applyP ct ([(12, .bool false),(1, .int .i64 (m:Nat)),(0,ptr R)]);co_applyP(av)
 ·rw[show decide ((m:Int)<0)=false by simp];co_applyP(av);change _=_/\_=_/\kn _ _;refine⟨rfl,rfl, ?_⟩;rw[show decide ((2000:Int)<(m:Int))=false by simp;omega];rfl
 co_applyP(aC);co_applyP osm rfl (hs:=xK) (hm:=hR.k) (hi:=by show 15<16;decide);intro L1 A';have i':MM L 51 B.ae (MD []) ⟨none,[]⟩ L:=⟨⟨rfl,rfl⟩,hR.fn,λt ht _=>ht,λc hc=>by cases hc⟩;have H':To 0 R B T L _ T {X with ws:=[]} L1:=To.of (hR.setE i' A' rfl);co_applyP(aC);co_applyP aU (λk s' a' L'=>s=s'/\ ∃(i:Nat) (B':RB) (y:RX),k+i=2000/\i<=m/\To 0 R B T L B' (St.runs i T) y L'/\TI (λb=>b) (St.runs i T)/\y.over=(St.runs i T).IX/\(y.over=false->y.now=(St.runs i T).now)/\y.img=X.img/\y.ws.map Wd.v=St.evs i T/\y.ws.length<=2*i/\y.now=X.now+i/\(St.runs i T).now<=T.now+i/\y.ask=0/\y.op=y.no/\y.no<=X.no+i/\kn a' [(6, .int .i64 i),(1, .int .i64 (m:Nat)),(0,ptr R)]) 2000
 ·exact⟨rfl,0,_,_,rfl,hX _,H',P.t,P.o,P.n,rfl,rfl,cD _,rfl,cD _,P.a,P.p,cD _,rfl⟩
 rintro k s' a' L' ⟨rfl,i,B2,E,hk,S',J,j,C,V,Q,Z,P',H,U',M,K,r',he⟩;co_applyP aA he;have N:=J.r;co_applyP(aC);co_applyP aI rfl;intro hc
 ·have hi:i<m:=by simp at hc;omega
  have e1:IntKind.i64.wrap ((i:Int)+1)=((i+1:Nat):Int):=ag
  have Q':At L' R 14 (.bool E.over):=N.kat rfl;have f:St.runs (i+1) T=if(St.runs i T).IX then St.runs i T else(St.runs i T).next:=by rw[rG i 1];rfl
  have z:St.evs (i+1) T=St.evs i T++(if(St.runs i T).IX then [] else(St.runs i T).Jh):=by
   rw[uz i 1];congr 1;show (if _ then _ else _++[])=_
   split
   ·rfl
   ·rw[wc]
  co_applyP(zo);co_applyP bL ((λY D S=>s=Y/\kn D [(6, .int .i64 i),(1, .int .i64 (m:Nat)),(0,ptr R)]/\ ∃G d,To 0 R B T L G (St.runs (i+1) T) d S/\TI (λb=>b) (St.runs (i+1) T)/\d.over=(St.runs (i+1) T).IX/\(d.over=false->d.now=(St.runs (i+1) T).now)/\d.img=X.img/\d.ws.map Wd.v=St.evs (i+1) T/\d.ws.length<=2*(i+1)/\d.now=X.now+(i+1)/\(St.runs (i+1) T).now<=T.now+(i+1)/\d.ask=0/\d.op=d.no/\d.no<=X.no+(i+1)));co_applyP(zo);co_applyP bL ((λY D S=>s=Y/\kn D [(6, .int .i64 i),(1, .int .i64 (m:Nat)),(0,ptr R)]/\ ∃G d,To 0 R B T L G (if(St.runs i T).IX then St.runs i T else(St.runs i T).I5 ((St.runs i T).last+1)) d S/\d.over=(St.runs (i+1) T).IX/\d.now=E.now/\d.img=X.img/\d.ws.map Wd.v=St.evs (i+1) T/\d.ws.length<=2*(i+1)/\d.ask=0/\d.op=d.no/\d.no<=X.no+(i+1)));co_applyP(aR);co_applyP aI rfl;intro hv;co_applyP(ay)
  ·have O:E.over=false:=by simpa using hv
   have u:(St.runs i T).IX=false:=by rw[<-C];exact O
   rw[u] at f z;simp only[pS,if_false] at f z;have d':=V O;co_applyP oc rfl rfl rfl (g1 R B2 (St.runs i T) E L' hN N j M K (by have:=P.l;omega) bl d' bl);rintro _ _ _ ⟨rfl,rfl,G,e⟩;co_applyP(zo);change _=_/\kn _ _/\ ∃G d,_;have c':=j.m.lead;obtain⟨ws,hx,e',J'⟩:=C1 (X:=E) (T:=St.runs i T) d' (λq hq=>(c'.x.nm q hq).symm) c'.i.g;have W:=CY (St.runs i T) E;have U:TI (λb=>b) (St.runs i T).next:=j.tick (mQ j) rfl
   have f':=wJ j (mQ j) U e';refine⟨rfl,rfl,G,MK (St.runs i T) E,by rw[u];exact J.trans e, ?_,hx.n,hx.i.trans Q, ?_, ?_,W.a.trans M,W.o K,by have:=W.n;omega⟩
   ·rw[hx.o,f,f',C]
   ·rw[hx.w,l3,Z,z,e']
   ·rw[hx.w,mb];omega
  intro hv;co_applyP(zo);change _=_/\kn _ _/\ ∃G d,_;have O:E.over=true:=by simpa using hv
  have u:(St.runs i T).IX=true:=by rw[<-C];exact O
  rw[u] at f z;simp only[if_true,wc] at f z;exact⟨rfl,rfl,B2,E,by rw[u];exact J,by rw[f];exact C,rfl,Q,by rw[z];exact Z,bl,M,K,bl⟩;rintro _ K' L5 ⟨rfl,y',G,d,e,l',T',C',m',v',w',D',E'⟩;co_applyP aA y';have O':At L5 R 13 (.int .i64 (d.now:Nat)):=e.r.kat rfl;have wn:IntKind.i64.wrap ((d.now:Int)+1)=((d.now+1:Nat):Int):=by simp[IntKind.wrap_i64];omega
  co_applyP(aO);rw[wn];co_applyP osm rfl (hs:=bJ) (hm:=e.r.k) (hi:=by show 13<16;decide);intro L6 A;co_applyP(zo);change _=_/\kn _ _/\ ∃G d,_;have I:To 0 R B T L G (St.runs (i+1) T) {d with now:=d.now+1} L6/\TI (λb=>b) (St.runs (i+1) T)/\((St.runs (i+1) T).IX=false->(St.runs (i+1) T).now=(St.runs i T).now+1/\(St.runs i T).IX=false)/\(St.runs (i+1) T).now<=(St.runs i T).now+1:=by
   cases u:(St.runs i T).IX with
   |true=>
    rw[u] at f e A;simp only[if_true] at f e A;rw[f];exact⟨e.trans (To.of (e.r.JM A (St.runs i T) {d with now:=d.now+1} rfl)),j,λh=>absurd (u.symm.trans h) bx,xq _⟩
   |false=>
    rw[u] at f e A;simp only[pS,if_false] at f e A;rw[f];have H:(St.runs i T).next.now=(St.runs i T).now+1:=by show ((St.runs i T).I5 _).now+1=_;rw[nY]
    exact⟨e.trans (To.of (e.r.JM A (St.runs i T).next {d with now:=d.now+1} rfl)),j.tick (mQ j) rfl,λ_=>⟨H,rfl⟩,Nat.le_of_eq H⟩
  exact⟨rfl,rfl,G,_,I.1,I.2.1,l',λh=>by
   have h':d.over=false:=h;obtain⟨q1,q2⟩:=I.2.2.1 (l'.symm.trans h');have:=V (C.trans q2);show d.now+1=_;omega,C',m',v',by show d.now+1=_;omega,by have:=I.2.2.2;omega,w',D',E'⟩
  rintro _ N' L7 ⟨rfl,n',B7,X7,u',g',I',G',z',q',t',b',j',F',x',p'⟩;co_applyP aA n';co_applyP(au);change∃k',k'<_/\_;rw[e1];exact⟨k-1,bl,rfl,i+1,B7,X7,bl,bl,u',g',I',G',z',q',t',b',j',F',x',p',rfl⟩
 intro hc;have hi:i=m:=by simp at hc;omega
 subst hi;have M':At L' R 15 (Kj B2.ae 4 E.ws.length):=N.kat rfl;co_applyP(aP);exact xI _ ⟨rfl,rfl,B2,E,rfl,⟨N,j,C,V,M,K,by have:=P.l;omega⟩,J,Z,H⟩
def RB.none:RB:=⟨λ_=>0,λ_=>⟨λ_=>0,λ_=>false,0,0,0,0⟩,⟨.none,[]⟩,λ_=>⟨.none,[]⟩,⟨.none,[]⟩,⟨.none,[]⟩,λ_=>0,λ_=>⟨.none,[]⟩,λ_=>[],λ_=>[],0⟩
def RX.new (l:List Int):RX:=⟨l,0,false,[],0,0,0,λ_=>0⟩
def St.void (c:Nat->Int)(bo:Int)(l:List Int):St:=⟨c,bo,l.length/4,λi j=>l.getD (4*i+j) 0,[],1,λ_=>[],λ_=>[],[],0⟩
theorem FQ (c:Nat->Int)(bo:Int)(l:List Int):KF prog (Instr.build 150 [(0,Ln c bo),(1,KU l),(5, .int .i64 1)].toArray) []=some (.agg (ME RB.none (St.void c bo l) (RX.new l)),[]):=bD
theorem C2:KF prog (Instr.build 154 [].toArray) []=some (.agg (KV PS.zero (RB.none.e 0)),[]):=bD
theorem Au {c:Nat->Int}{bo:Int}{l:List Int}{R:Nat}{L:Ka}(hF:K5 L)(hm:(R,true,Obj.cells (ME RB.none (St.void c bo l) (RX.new l)) 150)∈L)(s:l.length%4=0)(o:NS l):Ki 0 R RB.none (St.void c bo l) (RX.new l) L where
 fn:=hF
 k:=hm
 p:=λq a=>by cases a
 pl:=⟨rfl,rfl⟩
 rs:=λl=>by
  unfold M6
  split<;>exact⟨rfl,rfl⟩
 ev:=⟨rfl,rfl⟩
 al:=⟨rfl,rfl⟩
 q:=λn m=>by have:n<=0:=m.2;omega
 y:=λn=>⟨rfl,rfl⟩
 dj:=λl d _ b hb=>by cases hb
 dy:=λl d _ b hb=>by cases hb
 im:=⟨by show l.length=4*(l.length/4);omega,λi j f r=>by
  have g:i<l.length/4:=f;show l[4*i+j]? =some (l.getD (4*i+j) 0);have:4*i+j<l.length:=bl
  simp[List.getD,this],o⟩
 id:=λq a=>by cases a
 le:=λq a=>by cases a
 pn:=List.nodup_nil
 un:=λq a=>by cases a
 du:=λq a=>by cases a
 sz:=λq a=>by cases a
 ab:=λq a=>by cases a
 no:=rfl
 pp:=⟨rfl,λ_=>cD _,λ_ _ _ h=>absurd rfl h,λ_ _=>rfl,λq a=>(by cases a),λ_ h=>absurd rfl h,λ_ _=>⟨rfl,rfl⟩,λe he=>(by cases he)⟩
theorem FR: ∃n,∀{σ}{F:Kn σ}{Δ:DM F}{M s}(L:Ka)(c:Nat->Int)(bo:Int)(l:List Int),(∀s o,(Δ s).New o)->K5 L->NS l->
 Kb Δ prog M 70 [Ln c bo,KU l].toArray n s L (λs' v L'=>s=s'/\Ext L L'/\if Mv c bo=true/\Mw l.length=true then∃R B,v= .tuple #[ptr R, .int .i64 0]/\Ki 0 R B (St.fresh c bo l 1) (RX.new l) L'/\ ∀d,Kv R B (St.fresh c bo l 1) d-> ∀t∈L,t.1≠d else v= .tuple #[.pointer none, .int .i64 (if Mv c bo then 2 else 1)]):=by
 constructor;intro σ F Δ M s L c bo l C hF hB;co_applyP ar 83 func70 ntmps70;co_applyP(zo);co_applyP bB rfl (bA (C _ _));intro W L1 p;have hE:Ext L L1:=⟨p.fn,p.sub⟩;have H':At L1 W 3 (.int .i64 bo):=⟨true,_,_,_,p.self,rfl⟩;have y': ∀i,i<3->At L1 W i (.int .i64 (c i)):=λi A=>by
  rcases i with _|_|_|i
  ·exact⟨true,_,_,_,p.self,rfl⟩
  ·exact⟨true,_,_,_,p.self,rfl⟩
  ·exact⟨true,_,_,_,p.self,rfl⟩
  ·omega
 co_applyP(aO);co_applyP aU (λk s' Y L'=>s=s'/\L1=L'/\ ∃i:Nat,k+i=3/\(∀j,j<i->1<=c j/\c j<=10)/\kn Y [(6, .int .i64 (i:Nat)),(2,ptr W),(1,KU l)]) 3
 ·exact⟨rfl,rfl,0,rfl,bl,rfl⟩
 rintro k s' Y L' ⟨rfl,rfl,i,hk,D,he⟩;co_applyP aA he;have ei:IntKind.i64.wrap ((i:Int)+1)=((i+1:Nat):Int):=by simp[IntKind.wrap_i64];omega
 co_applyP(au);co_applyP aI rfl;intro T
 ·have U:i<3:=by simp at T;omega
  have E':=y' i U;co_applyP(ax);co_applyP aK;co_applyP ct ([(24, .bool (decide (c i<1\/10<c i))),(6, .int .i64 (i:Nat)),(2,ptr W),(1,KU l)]);co_applyP(aR)
  ·by_cases I:c i<1
   ·rw[show decide (c i<1)=true by simp[I]];co_applyP(aR);change _=_/\_=_/\kn _ _;refine⟨rfl,rfl, ?_⟩;rw[show decide (c i<1\/10<c i)=true by simp[I]];rfl
   ·rw[show decide (c i<1)=false by simp;omega];co_applyP(aR);change _=_/\_=_/\kn _ _;refine⟨rfl,rfl, ?_⟩;rw[show decide (c i<1\/10<c i)=decide (10<c i) by simp[I]];rfl
  co_applyP aI rfl;intro hw;co_applyP(au);change∃v,Ko .. =some v/\_
  ·have N:c i<1\/10<c i:=by simpa using hw
   have e5:Mv c bo=false:=by
    unfold Mv;simp only[decide_eq_false_iff_not];rintro⟨h1,_⟩;have:i=0\/i=1\/i=2:=bl
    rcases this with rfl|rfl|rfl<;>omega
   exact⟨_,rfl,rfl,hE,by rw[e5];rfl⟩
  intro hw;co_applyP(aC);change∃k',k'<_/\_;have N: ¬(c i<1\/10<c i):=by simpa using hw
  refine⟨k-1,bl,rfl,rfl,i+1,bl,λj hj=> ?_,by rw[<-ei];rfl⟩;by_cases n':j=i
  ·subst n';omega
  ·exact D j bl
 intro T;co_applyP(ay);co_applyP aK;have U:i=3:=by simp at T;omega
 subst U;have G':=D 0 bl;have I':=D 1 bl;have F':=D 2 bl;co_applyP ct ([(32, .bool (decide (bo<1\/1000<bo))),(2,ptr W),(1,KU l)]);co_applyP(au)
 ·by_cases I:bo<1
  ·rw[show decide (bo<1)=true by simp[I]];co_applyP(au);change _=_/\_=_/\kn _ _;refine⟨rfl,rfl, ?_⟩;rw[show decide (bo<1\/1000<bo)=true by simp[I]];rfl
  ·rw[show decide (bo<1)=false by simp;omega];co_applyP(au);change _=_/\_=_/\kn _ _;refine⟨rfl,rfl, ?_⟩;rw[show decide (bo<1\/1000<bo)=decide (1000<bo) by simp[I]];rfl
 co_applyP aI rfl;intro hw;co_applyP(au);change∃v,Ko .. =some v/\_
 ·have N:bo<1\/1000<bo:=by simpa using hw
  have e5:Mv c bo=false:=by unfold Mv;simp only[decide_eq_false_iff_not];omega
  exact⟨_,rfl,rfl,hE,by rw[e5];rfl⟩
 intro hw;co_applyP(ay);co_applyP aK;have N: ¬(bo<1\/1000<bo):=by simpa using hw
 have j':Mv c bo=true:=by unfold Mv;simp only[decide_eq_true_eq];omega
 co_applyP ct ([(46, .bool (!Mw l.length)),(2,ptr W),(1,KU l)])
 ·skip
  co_applyP(au);rw[cv];by_cases I:l.length=0
  ·rw[show ((l.length:Int)==0)=true by rw[I];rfl];co_applyP(bf);change _=_/\_=_/\kn _ _;refine⟨rfl,rfl, ?_⟩;rw[show Mw l.length=false from decide_eq_false λh=>bl];rfl
  rw[show ((l.length:Int)==0)=false from beq_false_of_ne bl];have tm:(l.length:Int).tmod 4=(l.length:Int)%4:=OP bl;by_cases h4:l.length%4=0
  ·skip
   co_applyP(ay);rw[cv];co_applyP(av);rw[tm,show ((l.length:Int)%4 !=0)=false by simp;omega];co_applyP(ay);rw[cv];co_applyP(ax);change _=_/\_=_/\kn _ _;refine⟨rfl,rfl, ?_⟩;rw[show (!Mw l.length)=decide ((1024:Int)<l.length) by
    unfold Mw;by_cases h:1024<l.length
    ·rw[show decide ((1024:Int)<l.length)=true by simp;omega];simp;omega
    ·rw[show decide ((1024:Int)<l.length)=false by simp;omega];simp;omega];rfl
  ·skip
   co_applyP(ay);rw[cv];co_applyP(av);rw[tm,show ((l.length:Int)%4 !=0)=true by simp;omega];co_applyP(au);change _=_/\_=_/\kn _ _;refine⟨rfl,rfl, ?_⟩;rw[show Mw l.length=false from decide_eq_false λh=>bl];rfl
 co_applyP aI rfl;intro A;co_applyP(au);change∃v,Ko .. =some v/\_
 ·have G:Mw l.length=false:=by simpa using A
  exact⟨_,rfl,rfl,hE,by rw[j',G];rfl⟩
 intro A;co_applyP(ay);have G:Mw l.length=true:=by simpa using A
 have q':0<l.length/\l.length%4=0/\l.length<=1024:=by simpa [Mw] using G
 co_applyP oy rfl (aW (i:=0) (ht:=kq) (hs:=iY) (hm:=p.self) (hi:=by show 0+4<=4;decide));co_applyP(zo);rw[show Value.agg ((Ln c bo).cells.extract 0 (0+4))=Ln c bo from rfl];co_applyP oy rfl (aQ (FQ c bo l));co_applyP bB rfl (bA (C _ _));intro R L2 g;co_applyP(ax);replace g:Add L1 R (.cells (ME RB.none (St.void c bo l) (RX.new l)) 150) L2:=g;have E:=Au g.fn g.self q'.2.1 hB;co_applyP oy rfl (aQ C2);co_applyP bB rfl (bA (C _ _));intro H L3 b;replace b:Add L2 H (.cells (KV PS.zero (RB.none.e 0)) 154) L3:=b;have w': ¬Kv R RB.none (St.void c bo l) H:=E.J6 b.new;have hD: ∀d,d=H-> ¬Kv R RB.none (St.void c bo l) d/\ ∀t∈L2,t.1≠d:=λd hd=>hd▸⟨w',b.new⟩;have l':=E.to.ext (L2:=L3) ⟨b.fn,b.sub⟩;co_applyP(aR);co_applyP osm rfl (hs:=bJ) (hm:=b.self) (hi:=by rw[aX];decide);intro L4 f';have x':=l'.fresh E f'.ch hD;co_applyP(aC);co_applyP osm rfl (hs:=bJ) (hm:=f'.self) (hi:=by rw[tE,aX];decide);intro L5 Z;have O:=x'.fresh E Z.ch hD;have v':(H,true,Obj.cells (KV PS.one (RB.none.e 0)) 154)∈L5:=Z.self;have c':=O.r;have C':At L5 R 5 (Kj RB.none.ap 1 0):=c'.kat rfl;co_applyP(aO);co_applyP bB rfl (gI (v:=ptr H) (sz:=1) (hN:=C _ _) (hv:=rfl) (hu:=kH) (hs:=eO) (hz:=gL) (h0:=bx) (h24:=bx));intro nl L6 y;have z:=c'.ext (L':=L6) ⟨y.fn,y.sub⟩;co_applyP oeN rfl (λhnd=>fh (e:=155) (n:=0) (xs:=[]) (v:=ptr H) (hnd:=hnd) (hu:=kH) (hs:=eO) (hb:=jG) (hz:=gL) (hzs:=rfl) (hN:=λcs=>C _ _) (ha:=z.pl) (hn:=rfl) (hm:=y.self) (hpl:=rfl) (h8:=bl));rintro _ L7 ⟨a7,rfl,d'⟩;have u':=d'.ch.keep (Lg.sl z.fn z.pl bx) z.k;co_applyP(ay);co_applyP osm rfl (hs:=sK) (hm:=u') (hi:=by show 5<16;decide) (hp:=bj _ _ _);intro L8 t';have one: ∀{P:Nat×PS->Prop},P (1,PS.one)-> ∀q∈[(1,PS.one)],P q:=λh q X=>by simp at X;rw[X];exact h
 have K:=z.setL (p':=λ_=>H) (e':=λ_=>RB.none.e 0) (T':={(St.void c bo l).IP [(1,PS.one)] with last:=1}) d' t' rfl
  (hb:=one (y.sub _ v')) (hid:=one rfl) (hle:=one (cD _)) (hpn:=by show [1].Nodup;simp) (hfi:=one λi A=>⟨rfl,rfl,λh=>absurd rfl h⟩) (hwa:=λe he=>by cases he) (hun:=one λh=>nomatch h) (hdu:=one rfl) (hsz:=one λ_=>rfl) (hab:=one bx)
  (L0:=L5.filter λt=> !decide (t.1=H)) (he:=λt m=>y.sub _ (l4.1 m).1) (hnew:=one (.inr λt m e=>by
   have:=(l4.1 m).2;simp[e] at this))
 have A':K1 (Kv R RB.none (St.void c bo l)) (Kv R RB.none (St.void c bo l)) L2 (L5.filter λt=> !decide (t.1=H)):=⟨λt m Q=>l4.2 ⟨O.f.s t m Q,by simp[b.new t m]⟩,O.f.n⟩;have r':=A'.trans K.2;have S:=K.1;have B':At L8 R 7 (Kj RB.none.ap 1 0):=S.kat rfl;co_applyP(ay);co_applyP aM [] 7 (nf:=0) mixed;co_applyP(aC);co_applyP tr 8 rfl bI pN;co_applyP(zo);co_applyP te (i:=6) rfl (mI (C _ _));rintro _ _ ⟨D',m',rfl,rfl⟩;refine⟨cx bE (λt m=>dc _ m), ?_⟩;co_applyP aF;intro hnd;have V:=cT (o:= .cells #[.int .i64 1] 3) S.fn m';have b':Ext L8 _:=⟨V.fn,V.sub⟩;have h':=S.ext b';co_applyP te (i:=7) rfl (fh (e:=3) (n:=0) (a:=⟨.none,[]⟩) (xs:=[]) (hnd:=hnd) (hu:=U54) (hs:=bJ) (hb:=jv) (hz:=mm) (hzs:=rfl) (hN:=λcs=>C _ _) (ha:=⟨rfl,rfl⟩) (hn:=rfl) (v:= .int .i64 1) (hm:=V.self) (hpl:=rfl) (h8:=bl));rintro _ _ ⟨a',rfl,hp⟩;refine⟨aj bE, ?_⟩;co_applyP to 10 rfl ((cW sG dC)) (aj bE);co_applyP aF;intro g';have hk:=hp.sub _ h'.k bE;co_applyP te (i:=11) rfl (bX (hnd:=g') (hm:=hk) (hi:=by show 7<16;decide) (hp:=bj _ _ _) (hs:=dC));rintro _ _ ⟨rfl,i'⟩;refine⟨aj bE, ?_⟩;co_applyP(aR);change∃v,Ko .. =some v/\_;have x:=h'.J2 (n:=0) bx (zs:=[1]) hp i' (j7 _ _ _ (l:=0) bx a' [1]);have J:=(r'.trans (K1.ext b')).trans x.2;refine⟨_,rfl,rfl,⟨x.1.fn,λt m=>J.s t (g.sub _ (p.sub t m)) ?_⟩, ?_⟩
 ·rintro(e|⟨q,X,_⟩|e|⟨_,e⟩|e|e|⟨n,Q,_⟩|⟨_,e⟩)
  ·exact g.new t (p.sub t m) e
  ·cases X
  ·cases e
  ·cases e
  ·cases e
  ·cases e
  ·have:n<=0:=Q.2;omega
  ·cases e
 ·rw[if_pos ⟨j',G⟩];have z':St.fresh c bo l 1=({(St.void c bo l).IP [(1,PS.one)] with last:=1}:St).setRow 0 [1]:=by rw[gJ];rfl
  rw[z'];refine⟨R,_,rfl,x.1,λd hd t m e=> ?_⟩;rcases J.n d hd with (u|⟨q,X,_⟩|u|⟨_,u⟩|u|u|⟨n,Q,_⟩|⟨_,u⟩)|h
  ·exact g.new t (p.sub t m) (e.trans u)
  ·cases X
  ·cases u
  ·cases u
  ·cases u
  ·cases u
  ·have:n<=0:=Q.2;omega
  ·cases u
  ·exact h t (g.sub _ (p.sub t m)) e
def Om (m i:Nat):Int:=((m+i*(1+m/256):Nat):Int)%256
theorem rY (x:Int):(IntKind.i64.wrap x)%256=x%256:=by simp[IntKind.wrap_i64];omega
theorem tL: ∃n,∀{d}{F:Kn d}{b:DM F}{a s}(L:Ka)(m i:Nat),m<4611686018427387904->
 Kb b prog a 74 [.int .i64 (m:Nat), .int .i64 (i:Nat)].toArray n s L (λs' v L'=>s=s'/\L=L'/\v= .int .u8 (Om m i)):=by
 constructor;intro d F b a s L m i hm;have e:(m:Int).tdiv 256=((m/256:Nat):Int):=rfl;have w1:IntKind.i64.wrap ((m/256:Nat):Int)=((m/256:Nat):Int):=ag
 have w2:IntKind.i64.wrap (1+((m/256:Nat):Int))=((1+m/256:Nat):Int):=ag
 co_applyP ar 13 func74 ntmps74;co_applyP(aH);refine xI _ ⟨rfl,rfl,rfl, ?_⟩;rw[e,w1,w2,kU,rY,<-Int.natCast_mul];unfold Om;generalize i*(1+m/256)=z;have:=rY ((z:Nat):Int);congr 1;omega
theorem FT: ∃n,∀{j}{F:Kn j}{i:DM F}{b s}(L:Ka)(c:Int)(k:Nat),N8 c->0<k->
 Kb i prog b 40 [.int .i64 c, .int .i64 (k:Nat)].toArray n s L (λs' v L'=>s=s'/\v= .int .i64 (pickN c k:Nat)/\L=L'):=by
 constructor;intro j F i b s L c k hc o;obtain⟨m,l⟩:=hc;co_applyP ar 13 func40 ntmps40;co_applyP(ax);co_applyP bL (λf a e=>s=f/\L=e/\kn a [(0, .int .i64 (if c<0 then-(c+1) else c)),(1, .int .i64 (k:Nat))]);co_applyP(av);co_applyP aI rfl;intro g;co_applyP(aC);change _=_/\_=_/\kn _ _
 ·have d:c<0:=by simpa using g
  have w1:IntKind.i64.wrap (c+1)=c+1:=ag
  have w2:IntKind.i64.wrap (0-(c+1))= -(c+1):=ag
  rw[w1,w2,if_pos d];exact⟨rfl,rfl,rfl⟩
 intro g;co_applyP(zo);change _=_/\_=_/\kn _ _;have d: ¬c<0:=by simpa using g
 rw[if_neg d];exact⟨rfl,rfl,rfl⟩;rintro f a e ⟨rfl,rfl,he⟩;co_applyP aA he;co_applyP(aR);refine xI _ ⟨rfl,rfl, ?_,rfl⟩;unfold pickN;rw[zN (by split<;>omega)]
structure HS where
 b:Option Nat
 n:Nat
 cap:Nat
def HS.v (h:HS):Value:=match h.b with
 |none=> .slice none 0 0
 |some b=> .slice (some ⟨b,0,none⟩) h.n h.cap
def HS.ok (h:HS)(e:TypeId)(sz:Nat)(p:Nat->Nat->Value)(L:Ka):Prop:=match h.b with
 |none=>h.n=0
 |some b=> ∃cs,(b,true,Obj.cells cs e)∈L/\cs.size/sz=h.cap/\h.n<=h.cap/\ ∀i,i<h.n-> ∀j,j<sz->cs[i*sz+j]? =some (p i j)
def HS.any (h:HS)(e:TypeId)(sz:Nat)(L:Ka):Prop:=match h.b with
 |none=>h.n=0
 |some b=> ∃cs,(b,true,Obj.cells cs e)∈L/\cs.size/sz=h.cap/\h.n<=h.cap
def NI (m i _:Nat):Value:= .int .u8 (Om m i)
def Ns (m _ j:Nat):Value:=if j=0 then .int .i64 (-(m:Int)) else .int .i64 0
def Nt (m _ j:Nat):Value:=if j=0 then .int .i64 (-(m:Int)) else if j<7 then .int .i64 0 else .int .u16 0
structure Hd where
 bs:HS
 es:HS
 ps:HS
 m:Nat
def hcs (h:Hd):Array Value:= #[h.bs.v,h.es.v,h.ps.v, .int .i64 (h.m:Nat)]
theorem HS.fit {cs:Array Value}{sz cap i:Nat}(h:cs.size/sz=cap)(hi:i<cap):i*sz+sz<=cs.size:=by
 have a:=Nat.div_mul_le_self cs.size sz;rw[h] at a;have b:(i+1)*sz<=cap*sz:=Ov _ hi;rw[Ou] at b;omega
section
variable {h:HS}{e:TypeId}{sz:Nat}{p:Nat->Nat->Value}{L L':Ka}{D:Nat->Prop}
theorem HS.ok.any (hh:h.ok e sz p L):h.any e sz L:=by
 unfold HS.ok at hh;unfold HS.any
 split
 ·rename_i hb;rw[hb] at hh;exact hh
 ·rename_i b hb;rw[hb] at hh;obtain⟨cs,a,d,f,_⟩:=hh;exact⟨cs,a,d,f⟩
theorem HS.view (hh:h.any e sz L): ∃base cap,h.v= .slice base h.n cap/\(0<h.n-> ∃b,h.b=some b/\base=some ⟨b,0,none⟩):=by
 unfold HS.any at hh;unfold HS.v;cases hb:h.b with
 |none=>rw[hb] at hh;simp only at hh;rw[hh];exact⟨none,0,rfl,λh=>absurd h bx⟩
 |some b=>exact⟨_,_,rfl,λ_=>⟨b,rfl,rfl⟩⟩
theorem HS.ok.ch (hh:h.ok e sz p L)(c:Ch D L L')(f: ∀b,h.b=some b-> ¬D b):h.ok e sz p L':=by
 unfold HS.ok at*
 split
 ·rename_i hb;rw[hb] at hh;exact hh
 ·rename_i b hb;rw[hb] at hh;obtain⟨cs,a,d⟩:=hh;exact⟨cs,c.s _ a (f b hb),d⟩
theorem HS.any.no (hF:K5 L)(hh:h.any e sz L){e':TypeId}(he:e≠e'):Lg L (λc=>h.b=some c) e':=λc cs hm a=>by
 unfold HS.any at hh;rw[a] at hh;obtain⟨f,d,_⟩:=hh;exact he (cY hF d hm)
end
theorem wK (vs:List Value)(cs:Array Value)(o x:Nat)(hs:o+vs.length<=cs.size):(KP cs o vs)[x]? =if o<=x/\x<o+vs.length then vs[x-o]? else cs[x]? :=by
 obtain⟨l⟩:=cs;have a:o+vs.length<=l.length:=by simpa using hs
 rw[bY _ _ _ a];simp only[nw];by_cases b:x<o
 ·rw[if_neg bl,r5,rD ao,Pa b]
 ·by_cases d:x<o+vs.length
  ·rw[if_pos ⟨bl,d⟩,r5,Oy ao,rD ao];congr 1;simp;omega
  ·rw[if_neg bl,Oy ao,List.getElem?_drop];congr 1;simp;omega
def LL (m:Nat):List Value:=[.int .i64 (-(m:Int)), .int .i64 0, .int .i64 0, .int .i64 0]
def LX (m:Nat):List Value:=[.int .i64 (-(m:Int)), .int .i64 0, .int .i64 0, .int .i64 0, .int .i64 0, .int .i64 0, .int .i64 0, .int .u16 0, .int .u16 0, .int .u16 0, .int .u16 0, .int .u16 0, .int .u16 0, .int .u16 0, .int .u16 0]
theorem pK (m i:Nat){j:Nat}(h:j<4):(LL m)[j]? =some (Ns m i j):=by
 rcases j with _|_|_|_|j
 ·rfl
 ·rfl
 ·rfl
 ·rfl
 ·omega
theorem pL (m i:Nat){j:Nat}(h:j<15):(LX m)[j]? =some (Nt m i j):=by
 rcases j with _|_|_|_|_|_|_|_|_|_|_|_|_|_|_|j
 all_goals first|rfl|omega
theorem FU (m:Nat):KF prog (Instr.build 51 [(0, .int .i64 (-(m:Int)))].toArray) []=some (.agg (LL m).toArray,[]):=bD
theorem FV (m:Nat):KF prog (Instr.build 49 [(0, .int .i64 (-(m:Int)))].toArray) []=some (.agg (LX m).toArray,[]):=bD
section
variable {h:HS}{e:TypeId}{sz i b:Nat}{p:Nat->Nat->Value}{L L':Ka}{cs:Array Value}{vs:List Value}
theorem HS.put (hb:h.b=some b)(hm:(b,true,Obj.cells cs e)∈L)(hc:cs.size/sz=h.cap)(hi:i<h.cap)(ho: ∀i',i'<i-> ∀j,j<sz->cs[i'*sz+j]? =some (p i' j)) (hv:vs.length=sz) (hp: ∀j,j<sz->vs[j]? =some (p i j)) (g:K4 L b (.cells (KP cs (i*sz) vs) e) L'):({h with n:=i+1}:HS).ok e sz p L':=by
 have hle:i*sz+sz<=cs.size:=HS.fit hc hi;unfold HS.ok;simp only[hb];refine⟨_,g.self,by rw[Go.Lo.vi];exact hc,hi,λi' d j a=> ?_⟩;rw[wK _ _ _ _ bl];by_cases f:i'=i
 ·subst f;rw[if_pos ⟨bl,bl⟩,O8];exact hp j a
 ·have k:i'*sz+sz<=i*sz:=by rw[<-Ou];exact Ov _ bl
  rw[if_neg bl];exact ho i' bl j a
theorem HS.any.chT {D:Nat->Prop}(hh:h.any e sz L)(c:Ch D L L')(hn:Lg L D e):h.any e sz L':=by
 unfold HS.any at*
 split
 ·rename_i hb;rw[hb] at hh;exact hh
 ·rename_i b hb;rw[hb] at hh;obtain⟨cs,a,d⟩:=hh;exact⟨cs,c.s _ a (hn _ _ a),d⟩
theorem HS.ok.chT {D:Nat->Prop}(hh:h.ok e sz p L)(c:Ch D L L')(hn:Lg L D e):h.ok e sz p L':=by
 unfold HS.ok at*
 split
 ·rename_i hb;rw[hb] at hh;exact hh
 ·rename_i b hb;rw[hb] at hh;obtain⟨cs,a,d⟩:=hh;exact⟨cs,c.s _ a (hn _ _ a),d⟩
theorem Av (cs:Array Value)(i:Nat)(v:Value):cs.setIfInBounds i v=KP cs i [v]:=rfl
end
theorem C3 (K:Nat): ∃n,∀{σ}{F:Kn σ}{Δ:DM F}{P s}(L:Ka)(H:Nat)(h:Hd),K5 L->(H,true,Obj.cells (hcs h) 143)∈L->h.bs.any 5 1 L->h.es.any 51 4 L->h.ps.any 49 15 L->h.bs.n<=K->h.es.n<=K->h.ps.n<=K->K<4611686018427387904->h.m<4611686018427387904->
 Kb Δ prog P 88 [ptr H].toArray n s L (λs' v L'=>s=s'/\v= .tuple #[]/\Ch (λc=>h.bs.b=some c\/h.es.b=some c\/h.ps.b=some c) L L'/\h.bs.ok 5 1 (NI h.m) L'/\h.es.ok 51 4 (Ns h.m) L'/\h.ps.ok 49 15 (Nt h.m) L'):=by
 obtain⟨n1,g1⟩:=tL;constructor;intro σ F Δ P s L H h hF hH g D I q' v' n' hK hm;have nm:IntKind.i64.wrap (0-(h.m:Int))= -(h.m:Int):=ag
 obtain⟨d',cap,hv,i'⟩:=HS.view g;obtain⟨Q,a',h',X⟩:=HS.view D;obtain⟨S,b',e',Y⟩:=HS.view I;have R: ∀{L':Ka},(H,true,Obj.cells (hcs h) 143)∈L'->At L' H 0 (.slice d' h.bs.n cap)/\At L' H 1 (.slice Q h.es.n a')/\At L' H 2 (.slice S h.ps.n b')/\At L' H 3 (.int .i64 (h.m:Nat)):=λhm=>⟨⟨true,_,_,_,hm,by rw[<-hv];rfl⟩,⟨true,_,_,_,hm,by rw[<-h'];rfl⟩,⟨true,_,_,_,hm,by rw[<-e'];rfl⟩,⟨true,_,_,_,hm,rfl⟩⟩;co_applyP ar 68 func88 ntmps88;co_applyP(au);co_applyP aU (λk s' l L'=>s=s'/\ ∃i:Nat,k+i=K/\i<=h.bs.n/\Ch (λc=>h.bs.b=some c) L L'/\({h.bs with n:=i}:HS).ok 5 1 (NI h.m) L'/\kn l [(2, .int .i64 (i:Nat)),(0,ptr H)]) K
 ·refine⟨rfl,0,rfl,hX _,⟨hF,λt p _=>p⟩, ?_,rfl⟩;unfold HS.any at g;unfold HS.ok
  split
  ·rfl
  ·rename_i b hb;have E:h.bs.b=some b:=hb;rw[E] at g;obtain⟨cs,r,u,h3⟩:=g;exact⟨cs,r,u,hX _,λi o=>absurd o (Nat.not_lt_zero _)⟩
 rintro k s' l L' ⟨rfl,i,hk,p',N,d,he⟩;co_applyP aA he;have a:=N.keep (g.no hF bx) hH;obtain⟨a0,a1,a2,a3⟩:=R a;co_applyP(aP);co_applyP aI rfl;intro hc
 ·have o:i<h.bs.n:=by simp at hc;omega
  obtain⟨b,hb,f⟩:=i' bl;subst f;unfold HS.ok at d;simp only[hb] at d;obtain⟨cs,r,u,h3,h4⟩:=d;have c':h.bs.n<=h.bs.cap:=by
   unfold HS.any at g;rw[hb] at g;obtain⟨_,_,_,h⟩:=g;exact h
  have W:IntKind.i64.wrap ((i:Int)+1)=((i+1:Nat):Int):=ag
  replace a:(H,true,Obj.cells #[.slice (some ⟨b,0,none⟩) h.bs.n cap,h.es.v,h.ps.v, .int .i64 (h.m:Nat)] 143)∈L':=by rw[<-hv];exact a
  co_applyP(ax);co_applyP aM [(H,true,Obj.cells #[.slice (some ⟨b,0,none⟩) h.bs.n cap,h.es.v,h.ps.v, .int .i64 (h.m:Nat)] 143)] 10 mixed;co_applyP tr 0 rfl bk (aa (by simpa using a));co_applyP tr 1 rfl bI (aa (by simpa using a));co_applyP tr 2 rfl (br (hf:=jc)) (aa (by simpa using a));co_applyP tr 3 rfl (bT (ht:=ny)) (aa (by simpa using a));co_applyP tr 4 rfl bk (aa (by simpa using a));co_applyP tr 5 rfl bk (aa (by simpa using a));co_applyP tr 6 rfl bI (aa (by simpa using a));co_applyP tr 7 rfl (br (hf:=fB)) (aa (by simpa using a));co_applyP t0 8 rfl (bT (ht:=dq)) (aa (by simpa using a));co_applyP tr 9 rfl bk (aa (by simpa using a));co_applyP tc 10 rfl rfl rfl (g1 L' h.m i hm);rintro _ _ _ ⟨rfl,rfl,rfl⟩;refine⟨aj (by simpa using a), ?_⟩;co_applyP to 11 rfl ((gi U44 cP)) (aj (by simpa using a));co_applyP aF;intro hnd;have j':H≠b:=λe=>absurd (cY N.fn a (e▸r)) bx;co_applyP te (i:=12) rfl (bX (hnd:=hnd) (hm:=r) (hi:=by have:=HS.fit u (show i<h.bs.cap by omega);omega) (hs:=cP));rintro _ _ ⟨rfl,B⟩;refine⟨aj (by simpa using B.ne _ a j'), ?_⟩;co_applyP(aC);change∃k',k'<_/\_;rw[W];refine⟨k-1,bl,rfl,i+1,bl,bl,⟨B.fn,λt p C=>B.ne t (N.s t p C) λe=>C (e▸hb)⟩, ?_,rfl⟩;refine HS.put (h:=h.bs) (i:=i) hb r u bl h4 (vs:=[.int .u8 (Om h.m i)]) rfl (λj hj=> ?_) (by rw[w9,<-Av];exact B);obtain rfl:j=0:=bl
  rfl
 intro hc;have o:i=h.bs.n:=by simp at hc;omega
 subst o;replace d:h.bs.ok 5 1 (NI h.m) L':=d;replace N:Ch (λc=>h.bs.b=some c) L L':=N;have x:=D.chT N (g.no hF bx);have V:=I.chT N (g.no hF bx);have M:=N.fn;have f':=a;have t':=d.any;clear a0 a1 a2 a3 a;have Z:=d;clear d;co_applyP(aC);co_applyP aU (λk s' l G=>s=s'/\ ∃i:Nat,k+i=K/\i<=h.es.n/\Ch (λc=>h.es.b=some c) L' G/\({h.es with n:=i}:HS).ok 51 4 (Ns h.m) G/\kn l [(3, .int .i64 (i:Nat)),(0,ptr H)]) K
 ·refine⟨rfl,0,rfl,hX _,⟨M,λt p _=>p⟩, ?_,rfl⟩;have U:=x;unfold HS.any at U;unfold HS.ok
  split
  ·rfl
  ·rename_i b hb;have E:h.es.b=some b:=hb;rw[E] at U;obtain⟨cs,r,u,h3⟩:=U;exact⟨cs,r,u,hX _,λi o=>absurd o (Nat.not_lt_zero _)⟩
 rintro k2 s' l L2 ⟨rfl,i,u',m',A,d,he⟩;co_applyP aA he;have a:=A.keep (x.no M bx) f';obtain⟨a0,a1,a2,a3⟩:=R a;co_applyP(aP);co_applyP aI rfl;intro hc
 ·have o:i<h.es.n:=by simp at hc;omega
  obtain⟨b,hb,f⟩:=X bl;subst f;unfold HS.ok at d;simp only[hb] at d;obtain⟨cs,r,u,h3,h4⟩:=d;have c':h.es.n<=h.es.cap:=by
   unfold HS.any at D;rw[hb] at D;obtain⟨_,_,_,h⟩:=D;exact h
  have W:IntKind.i64.wrap ((i:Int)+1)=((i+1:Nat):Int):=ag
  co_applyP(ax);co_applyP aM [] 12 (nf:=0) mixed;co_applyP(aP);rw[nm];co_applyP tr 10 rfl (aQ (FU h.m)) pN;co_applyP(zo);co_applyP aF;intro hnd;co_applyP te (i:=12) rfl (fA (vs:=LL h.m) (hs:=iZ) (hnd:=hnd) (hm:=r) (hi:=HS.fit u (show i<h.es.cap by omega)));rintro _ _ ⟨rfl,B⟩;refine⟨aj bE, ?_⟩;co_applyP(aC);change∃k',k'<_/\_;rw[W];exact⟨k2-1,bl,rfl,i+1,bl,bl,⟨B.fn,λt p C=>B.ne t (A.s t p C) λe=>C (e▸hb)⟩,HS.put (h:=h.es) (i:=i) hb r u bl h4 (vs:=LL h.m) rfl (λj hj=>pK _ _ hj) B,rfl⟩
 intro hc;have o:i=h.es.n:=by simp at hc;omega
 subst o;replace d:h.es.ok 51 4 (Ns h.m) L2:=d;have O:=d;clear d a0 a1 a2 a3;have y:=V.chT A (x.no M bx);have T:=Z.chT A (x.no M bx);have J:=A.fn;have g':=a;clear a;have w':=O.any;co_applyP(au);co_applyP aU (λk s' l G=>s=s'/\ ∃i:Nat,k+i=K/\i<=h.ps.n/\Ch (λc=>h.ps.b=some c) L2 G/\({h.ps with n:=i}:HS).ok 49 15 (Nt h.m) G/\kn l [(4, .int .i64 (i:Nat)),(0,ptr H)]) K
 ·refine⟨rfl,0,rfl,hX _,⟨J,λt p _=>p⟩, ?_,rfl⟩;have U:=y;unfold HS.any at U;unfold HS.ok
  split
  ·rfl
  ·rename_i b hb;have E:h.ps.b=some b:=hb;rw[E] at U;obtain⟨cs,r,u,h3⟩:=U;exact⟨cs,r,u,hX _,λi o=>absurd o (Nat.not_lt_zero _)⟩
 rintro k3 s' l L3 ⟨rfl,i,r',l',z,d,he⟩;co_applyP aA he;have a:=z.keep (y.no J bx) g';obtain⟨a0,a1,a2,a3⟩:=R a;co_applyP(aP);co_applyP aI rfl;intro hc
 ·have o:i<h.ps.n:=by simp at hc;omega
  obtain⟨b,hb,f⟩:=Y bl;subst f;unfold HS.ok at d;simp only[hb] at d;obtain⟨cs,r,u,h3,h4⟩:=d;have c':h.ps.n<=h.ps.cap:=by
   unfold HS.any at I;rw[hb] at I;obtain⟨_,_,_,h⟩:=I;exact h
  have W:IntKind.i64.wrap ((i:Int)+1)=((i+1:Nat):Int):=ag
  co_applyP(ax);co_applyP aM [] 12 (nf:=0) mixed;co_applyP(aP);rw[nm];co_applyP tr 10 rfl (aQ (FV h.m)) pN;co_applyP(zo);co_applyP aF;intro hnd;co_applyP te (i:=12) rfl (fA (vs:=LX h.m) (hs:=gq) (hnd:=hnd) (hm:=r) (hi:=HS.fit u (show i<h.ps.cap by omega)));rintro _ _ ⟨rfl,B⟩;refine⟨aj bE, ?_⟩;co_applyP(aC);change∃k',k'<_/\_;rw[W];exact⟨k3-1,bl,rfl,i+1,bl,bl,⟨B.fn,λt p C=>B.ne t (z.s t p C) λe=>C (e▸hb)⟩,HS.put (h:=h.ps) (i:=i) hb r u bl h4 (vs:=LX h.m) rfl (λj hj=>pL _ _ hj) B,rfl⟩
 intro hc;have o:i=h.ps.n:=by simp at hc;omega
 subst o;replace d:h.ps.ok 49 15 (Nt h.m) L3:=d;co_applyP(zo);refine xI _ ⟨rfl,rfl,rfl,⟨z.fn,λt p C=>z.s t (A.s t (N.s t p λe=>C (.inl e)) λe=>C (.inr (.inl e))) λe=>C (.inr (.inr e))⟩, ?_, ?_,d⟩
 ·exact T.chT z (y.no J bx)
 ·exact O.chT z (y.no J bx)
section
variable {P:Program}{N:Nat}{ε:Env}{L:Ka}{d:Option Tmp}{ty:TypeId}{ps:String}{af:Array Edge}{g:Option (Nat×Bool)}{x y:Operand}{t u:TypeId}
theorem uI {xs:Array Value}(H:Mj P 10000 t (.agg xs))(f: ∀x y,KF P (eqGuard .eql t x y (.agg xs) (.agg xs)) []=some ((),[])) (hx:ev ε x=some (.agg xs):=by rfl) (hy:ev ε y=some (.agg xs):=by rfl):EY P N ε L ⟨d, .binOp .eql t x y u,ty,ps,af,g⟩ (.bool true):=by
 unfold EY;intro a b
 refine cN (λ_=>rfl) λK e=> ?_;rw[b.ev hx,b.ev hy,aq];refine aZ (f _ _) ?_;show Kz P (do pure (.bool (<-Op.equal t (.agg xs) (.agg xs)))) K L;rw[aq,dg];exact H e
end
theorem HO (m:Nat):Mj prog 10000 49 (.agg (LX m).toArray):=by
 refine gK (d:=9999) underlying49 bD ?_;have k: ∀a:Int,Mj prog 9999 3 (.int .i64 a):=λa=>jE (d:=9998) U3;refine rE.2 ⟨⟨.int .i64 (-(m:Int)),bD,k _⟩,rE.2 ⟨⟨.int .i64 0,bD,k _⟩,rE.2 ⟨⟨.int .i64 0,bD,k _⟩,rE.2 ⟨⟨.int .i64 0,bD,k _⟩, ?_⟩⟩⟩⟩;refine rE.2 ⟨⟨.int .i64 0,bD,k _⟩,rE.2 ⟨⟨.int .i64 0,bD,k _⟩,rE.2 ⟨⟨.int .i64 0,bD,k _⟩,rE.2 ⟨⟨_,bD,zT λ_=>0⟩, ?_⟩⟩⟩⟩;intro f b;cases b
theorem C4 (m:Nat):LL m=Wd.c (-(m:Int),0,0,0):=rfl
theorem HP (m:Nat):Mj prog 10000 51 (.agg (LL m).toArray):=by
 rw[C4];exact zS _
theorem IA (m:Nat)(x y:Operand):KF prog (eqGuard .eql 51 x y (.agg (LL m).toArray) (.agg (LL m).toArray)) []=some ((),[]):=bD
theorem IB (m:Nat)(x y:Operand):KF prog (eqGuard .eql 49 x y (.agg (LX m).toArray) (.agg (LX m).toArray)) []=some ((),[]):=bD
theorem tM {cs:Array Value}{o sz:Nat}{l:List Value}(hl:l.length=sz)(h: ∀j,j<sz->cs[o+j]? =l[j]?) (hs:o+sz<=cs.size):cs.extract o (o+sz)=l.toArray:=by
 apply gm;apply xt;intro j;by_cases a:j<sz
 ·have:=h j a;rw[OC,u7,Pa bl,List.getElem?_drop,Array.getElem?_toList,this]
 ·rw[O6 ao,O6 ao]
theorem Aw (K:Nat): ∃n,∀{σ}{F:Kn σ}{Δ:DM F}{u s}(L:Ka)(H:Nat)(h:Hd),(H,true,Obj.cells (hcs h) 143)∈L->h.bs.ok 5 1 (NI h.m) L->h.es.ok 51 4 (Ns h.m) L->h.ps.ok 49 15 (Nt h.m) L->h.bs.n<=K->h.es.n<=K->h.ps.n<=K->K<4611686018427387904->h.m<4611686018427387904->
 Kb Δ prog u 44 [ptr H].toArray n s L (λs' v L'=>s=s'/\v= .bool true/\L=L'):=by
 obtain⟨n1,g1⟩:=tL;constructor;intro σ F Δ u s L H h P p f r d' c' f' hK hm;have nm:IntKind.i64.wrap (0-(h.m:Int))= -(h.m:Int):=ag
 obtain⟨I,cap,V,Y⟩:=HS.view p.any;obtain⟨A,Q,W,R⟩:=HS.view f.any;obtain⟨z,T,U,C⟩:=HS.view r.any;have a0:At L H 0 (.slice I h.bs.n cap):=⟨true,_,_,_,P,by rw[<-V];rfl⟩;have a1:At L H 1 (.slice A h.es.n Q):=⟨true,_,_,_,P,by rw[<-W];rfl⟩;have a2:At L H 2 (.slice z h.ps.n T):=⟨true,_,_,_,P,by rw[<-U];rfl⟩;have a3:At L H 3 (.int .i64 (h.m:Nat)):=⟨true,_,_,_,P,rfl⟩;co_applyP ar 86 func44 ntmps44;co_applyP(bf);co_applyP aU (λk s' e L'=>s=s'/\L=L'/\ ∃i:Nat,k+i=K/\i<=h.bs.n/\kn e [(4, .int .i64 (i:Nat)),(3, .bool true),(0,ptr H)]) K
 ·exact⟨rfl,rfl,0,rfl,hX _,rfl⟩
 rintro k s' e L' ⟨rfl,rfl,i,hk,h',he⟩;co_applyP aA he;co_applyP(aP);co_applyP aI rfl;intro hc
 ·have y:i<h.bs.n:=by simp at hc;omega
  obtain⟨b,hb,a⟩:=Y bl;subst a;unfold HS.ok at p;rw[hb] at p;obtain⟨cs,M,B,Z,S⟩:=p;have D:=S i y 0 bl;rw[w9,K2] at D;have N:cs[i]? =some (.int .u8 (Om h.m i)):=D;have O:IntKind.i64.wrap ((i:Int)+1)=((i+1:Nat):Int):=ag
  have X:(H,true,Obj.cells #[.slice (some ⟨b,0,none⟩) h.bs.n cap,h.es.v,h.ps.v, .int .i64 (h.m:Nat)] 143)∈L:=by rw[<-V];exact P
  have d: ∀t∈[(H,true,Obj.cells #[.slice (some ⟨b,0,none⟩) h.bs.n cap,h.es.v,h.ps.v, .int .i64 (h.m:Nat)] 143),(b,true,Obj.cells cs 5)],t∈L:=λt g=>by
   rcases gn.1 g with rfl|g
   ·exact X
   ·simp at g;rw[g];exact M
  co_applyP(ax);co_applyP aM [(H,true,Obj.cells #[.slice (some ⟨b,0,none⟩) h.bs.n cap,h.es.v,h.ps.v, .int .i64 (h.m:Nat)] 143),(b,true,Obj.cells cs 5)] 14 mixed;co_applyP tr 0 rfl bk (aa d);co_applyP tr 1 rfl bk (aa d);co_applyP tr 2 rfl (bk) (aa d);co_applyP tr 3 rfl (bI) (aa d);co_applyP tr 4 rfl ((br (hf:=jc))) (aa d);co_applyP tr 5 rfl ((bT (ht:=ny))) (aa d);co_applyP tr 6 rfl (bk) (aa d);co_applyP tr 7 rfl ((gi U44 cP)) (aa d);co_applyP tr 8 rfl (bT (ht:=vu) (hv:=⟨true,cs,5,(0,0),bE,by simpa using N⟩)) (aa d);co_applyP tr 9 rfl (bk) (aa d);co_applyP tr 10 rfl (bI) (aa d);co_applyP tr 11 rfl ((br (hf:=fB))) (aa d);co_applyP tr 12 rfl ((bT (ht:=dq))) (aa d);co_applyP tr 13 rfl (bk) (aa d);co_applyP tc 14 rfl rfl rfl (g1 L h.m i hm);rintro _ _ _ ⟨rfl,rfl,rfl⟩;refine⟨aj d, ?_⟩;co_applyP to 15 rfl (Di) (aj d);co_applyP to 16 rfl (lA) (aj d);co_applyP to 17 rfl (fX) (aj d);co_applyP(aC);change∃k',k'<_/\_;rw[O,show (Om h.m i==Om h.m i)=true from beq_self_eq_true _];exact⟨k-1,bl,rfl,rfl,i+1,bl,bl,rfl⟩
 intro hc;co_applyP(aC);co_applyP aU (λk s' e L'=>s=s'/\L=L'/\ ∃i:Nat,k+i=K/\i<=h.es.n/\kn e [(5, .int .i64 (i:Nat)),(3, .bool true),(0,ptr H)]) K
 ·exact⟨rfl,rfl,0,rfl,hX _,rfl⟩
 rintro k2 s' e L' ⟨rfl,rfl,i2,e',b',he⟩;co_applyP aA he;co_applyP(aP);co_applyP aI rfl;intro E
 ·have y:i2<h.es.n:=by simp at E;omega
  obtain⟨b,hb,a⟩:=R bl;subst a;unfold HS.ok at f;rw[hb] at f;obtain⟨cs,M,B,Z,S⟩:=f;have O:IntKind.i64.wrap ((i2:Int)+1)=((i2+1:Nat):Int):=ag
  have x:=tM (cs:=cs) (o:=i2*4) (sz:=4) (l:=LL h.m) rfl (λj J=>by rw[S i2 y j J,pK _ i2 J]) (HS.fit B bl);co_applyP(bZ);co_applyP tr 8 rfl (aW (i:=i2*4) (ht:=xM) (hs:=iZ) (hm:=M) (hi:=HS.fit B bl)) pI;rw[x];co_applyP(au);rw[nm];co_applyP tr 14 rfl (aQ (FU h.m)) pI;co_applyP tr 15 rfl (uI (HP h.m) (IA h.m)) pI;co_applyP(aO);change∃k',k'<_/\_;rw[O];exact⟨k2-1,bl,rfl,rfl,i2+1,bl,bl,rfl⟩
 intro E;co_applyP(aC);co_applyP aU (λk s' e L'=>s=s'/\L=L'/\ ∃i:Nat,k+i=K/\i<=h.ps.n/\kn e [(6, .int .i64 (i:Nat)),(3, .bool true),(0,ptr H)]) K
 ·exact⟨rfl,rfl,0,rfl,hX _,rfl⟩
 rintro k3 s' e L' ⟨rfl,rfl,i3,g',a',he⟩;co_applyP aA he;co_applyP(aP);co_applyP aI rfl;intro G
 ·have y:i3<h.ps.n:=by simp at G;omega
  obtain⟨b,hb,a⟩:=C bl;subst a;unfold HS.ok at r;rw[hb] at r;obtain⟨cs,M,B,Z,S⟩:=r;have O:IntKind.i64.wrap ((i3:Int)+1)=((i3+1:Nat):Int):=ag
  have x:=tM (cs:=cs) (o:=i3*15) (sz:=15) (l:=LX h.m) rfl (λj J=>by rw[S i3 y j J,pL _ i3 J]) (HS.fit B bl);co_applyP(bZ);co_applyP tr 8 rfl (aW (i:=i3*15) (ht:=qD) (hs:=gq) (hm:=M) (hi:=HS.fit B bl)) pI;rw[x];co_applyP(au);rw[nm];co_applyP tr 14 rfl (aQ (FV h.m)) pI;co_applyP tr 15 rfl (uI (HO h.m) (IB h.m)) pI;co_applyP(aO);change∃k',k'<_/\_;rw[O];exact⟨k3-1,bl,rfl,rfl,i3+1,bl,bl,rfl⟩
 intro G;co_applyP(aC);exact xI _ ⟨rfl,rfl,rfl,rfl⟩
def Bl (L L':Ka):Prop:= ∀t∈L,∃u∈L',u.1=t.1
structure LG (h g:HS)(e:TypeId)(sz:Nat)(p:Nat->Nat->Value)(L L':Ka):Prop where
 ok:g.ok e sz p L'
 n:g.n=h.n+1
 d: ∀b,g.b=some b->h.b=some b\/ ∀t∈L,t.1≠b
 k: ∀h2:HS,h2.b=h.b->h2.n<=h.n->h2.ok e sz p L->h2.ok e sz p L'
theorem Bl.trans {L a L2:Ka}(h:Bl L a)(k:Bl a L2):Bl L L2:=λt d=>by
 obtain⟨u,hu,e⟩:=h t d;obtain⟨v,b,f⟩:=k u hu;exact⟨v,b,f.trans e⟩
theorem Bl.sub {L L':Ka}(h: ∀t∈L,t∈L'):Bl L L':=λt a=>⟨t,h t a,rfl⟩
theorem Bl.upd {L L':Ka}{b:Nat}{o:Obj}(h:K4 L b o L'):Bl L L':=λt a=>by
 by_cases e:t.1=b
 ·exact⟨_,h.self,e.symm⟩
 ·exact⟨t,h.ne t a e,rfl⟩
theorem HS.ok.ofT {h:HS}{e:TypeId}{sz:Nat}{p:Nat->Nat->Value}{L L':Ka}(hh:h.ok e sz p L)(hs: ∀b cs,(b,true,Obj.cells cs e)∈L->(b,true,Obj.cells cs e)∈L'):h.ok e sz p L':=by
 unfold HS.ok at*
 split
 ·rename_i hb;rw[hb] at hh;exact hh
 ·rename_i b hb;rw[hb] at hh;obtain⟨cs,a,d⟩:=hh;exact⟨cs,hs b _ a,d⟩
theorem LG.lift {h g:HS}{e:TypeId}{sz:Nat}{p:Nat->Nat->Value}{L0 a L2 f:Ka}(q:LG h g e sz p a L2)(t1: ∀b cs,(b,true,Obj.cells cs e)∈L0->(b,true,Obj.cells cs e)∈a) (x:Bl L0 a) (t2: ∀b cs,(b,true,Obj.cells cs e)∈L2->(b,true,Obj.cells cs e)∈f):LG h g e sz p L0 f:=
 ⟨q.ok.ofT t2,q.n,λb hb=>(q.d b hb).imp id λi t j e=>by
  obtain⟨u,hu,o⟩:=x t j;exact i u hu (o.trans e),λm s r l=>(q.k m s r (l.ofT t1)).ofT t2⟩
section
variable {New:Obj->Prop}{N:Nat}{ε:Env}{L:Ka}{d:Option Tmp}{ty:TypeId}{ps:String}{af:Array Edge}{g:Option (Nat×Bool)}{x y:Operand}{P:Program}
theorem Ax {t e:TypeId}{h:HS}{sz by_ yb:Nat}{z:Value}{ys:List Value}{p:Nat->Nat->Value}{fl:Bool}(hx:ev ε x=some h.v:=by rfl)(hy:ev ε y=some (.slice (some ⟨yb,0,none⟩) 1 1):=by rfl)(hym:(yb,fl,Obj.cells ys.toArray e)∈L)(hnd:(L.map (·.1)).Nodup)(hu:P.underlying t=some (.slice e))(hs:Kd P e=some sz)(hb:KJ P e=some (by_+1))(hz:zeroAt P e=some z)(hzs:z.cells.size=sz)(hN: ∀cs,New (.cells cs e)) (hh:h.ok e sz p L) (hyl:ys.length=sz) (hyp: ∀j,j<sz->ys[j]? =some (p h.n j)) (hpl:ys.all Km=true) (h0:0<sz) (h8:(2*(h.n+1)+192)*(by_+1)<=281474976710656):
 EO P New N ε L ⟨d, .call ⟨.builtin .append, #[x,y], #[t,t]⟩,ty,ps,af,g⟩ (λr L'=> ∃g:HS,r=g.v/\LG h g e sz p L L'/\Ch (λc=>h.b=some c) L L'/\Bl L L'):=by
 have hF:=bz hnd;obtain⟨a,xs,hv,Y,V,l,b',H⟩: ∃(a:Sl) (xs:List Value),h.v=Kj a sz h.n/\Kf a xs e L/\xs.length=h.n*sz/\a.b=h.b/\(∀b,h.b=some b->(xs.length+a.junk.length)/sz=h.cap)/\ ∀i,i<h.n-> ∀j,j<sz->xs[i*sz+j]? =some (p i j):=by
  unfold HS.ok at hh;cases f:h.b with
  |none=>
   rw[f] at hh;have T:h.n=0:=hh;refine⟨⟨none,[]⟩,[],by unfold HS.v Kj;rw[f],⟨rfl,rfl⟩,by rw[T];simp,rfl,λb e=>(by cases e),λi A=>bl⟩
  |some b=>
   rw[f] at hh;obtain⟨cs,I,O,s,Q⟩:=hh;have hle:h.n*sz<=cs.size:=by
    have:=Nat.div_mul_le_self cs.size sz;rw[O] at this;exact l6 (Ov _ s) this
   have u:(cs.toList.take (h.n*sz)).length=h.n*sz:=ao
   refine⟨⟨some b,cs.toList.drop (h.n*sz)⟩,cs.toList.take (h.n*sz), ?_, ?_,u,rfl,λ_ _=> ?_,λi A j D=> ?_⟩
   ·unfold HS.v Kj;rw[f];simp only[OO,Array.length_toList];rw[Nat.mul_comm h.n sz,Nat.sub_mul_div,O,show h.n+(h.cap-h.n)=h.cap by omega]
   ·show (b,true,Obj.cells (cs.toList.take (h.n*sz)++cs.toList.drop (h.n*sz)).toArray e)∈L;simpa using I
   ·rw[u,OO,Array.length_toList,<-O];congr 1;omega
   ·have K:i*sz+sz<=h.n*sz:=by rw[<-Ou];exact Ov _ A
    rw[Pa bl,Array.getElem?_toList];exact Q i A j D
 have hr:Reads P L sz 1 (.slice (some ⟨yb,0,none⟩) 1 1) ys.toArray:=by
  have:=bR (P:=P) (sz:=sz) (n:=1) (len:=1) (cap:=1) (o:=0) hym ao;have e7:ys.take sz=ys:=sD bl;simpa [e7] using this
 intro ac B;refine bS ?_ _ _ (D1 (by_:=by_) (a:=a) (n:=h.n) (m:=1) (ys:=ys) (hv▸hx) hy hnd hu hs hb hz hzs hN Y V hr bl hpl h0 h8 ac B);intro r L' q;cases r<;>try exact q.elim
 ·obtain⟨W,rfl,C,X⟩:=q;cases f:W.b with
  |none=>
   have I:=C.ok;unfold Kf at I;rw[f] at I;have:(xs++ys).length=0:=by rw[I.1];rfl
   rw[mb] at this;omega
  |some b=>
   have hm:=C.ok.mem f;have hl:(xs++ys).length=(h.n+1)*sz:=by rw[mb,V,hyl,Ou]
   refine⟨⟨some b,h.n+1,h.n+1+W.junk.length/sz⟩,by unfold HS.v Kj;rw[f],⟨⟨_,hm, ?_,Ot _ _,λi A j D=> ?_⟩,rfl,λc hc=> ?_,λO Z e2 F=> ?_⟩,⟨C.fn,λt M R=>C.sub t M (by rw[l];exact R)⟩,λt M=> ?_⟩
   ·rw[l7,mb,hl,Nat.add_comm,Nat.add_mul_div_right _ _ h0,Nat.add_comm]
   ·have U:i<h.n+1:=A;have K:i*sz+sz<=(h.n+1)*sz:=by rw[<-Ou];exact Ov _ U
    rw[nw,rD bl];by_cases J:i=h.n
    ·subst J;rw[Oy bl,V,O8];exact hyp j D
    ·have k:i*sz+sz<=h.n*sz:=by rw[<-Ou];exact Ov _ bl
     rw[rD bl];exact H i bl j D
   ·have E:b=c:=by simpa using hc
    rcases C.d b f with s|s
    ·exact .inl (by rw[<-l,s,E])
    ·exact .inr (E▸s)
   ·unfold HS.ok at F⊢;cases hc:h.b with
    |none=>
     rw[Z,hc] at F⊢;exact F
    |some c=>
     rw[Z,hc] at F⊢;obtain⟨cs,s,Q,K,J⟩:=F;have B:=Y.mem (l.trans hc);have G:cs=(xs++a.junk).toArray:=by
      have:=(hF _ _ _ _ _ s B).2;cases this;rfl
     rcases X with ⟨k,h8⟩|k
     ·have S:b=c:=by rw[f,l,hc] at k;exact gu k
      refine⟨_,S▸hm, ?_,K,λi A j D=> ?_⟩
      ·rw[<-Q,G];congr 1;simp;omega
      ·rw[<-J i A j D,G];have h9:i*sz+sz<=h.n*sz:=by rw[<-Ou];exact Ov _ bl
       rw[nw,nw,r5,rD bl,rD bl]
     ·exact⟨cs,k _ s,Q,K,J⟩
   ·rcases X with ⟨k,h8⟩|k
    ·by_cases e:a.b=some t.1
     ·exact⟨_,hm,by rw[f,e] at k;exact gu k⟩
     ·exact⟨t,C.sub t M e,rfl⟩
    ·exact⟨t,k t M,rfl⟩
 ·obtain⟨W,e,_⟩:=q;unfold Kj at e
  split at e<;>cases e
end
abbrev Cl:=Nat×Nat
structure Tu (C:Cl->Prop)(ow:Nat->Cl)(L:Ka)(ow':Nat->Cl)(L':Ka):Prop where
 fn:K5 L'
 s: ∀t∈L,¬C (ow t.1)->t∈L'/\ow' t.1=ow t.1
 g: ∀b cs,(b,true,Obj.cells cs 158)∈L->(b,true,Obj.cells cs 158)∈L'
 f: ∀t∈L,t.2.1=false->t∈L'
section
variable {C C':Cl->Prop}{ow ow1 ow':Nat->Cl}{L L1 L':Ka}{K:Nat}{A:Kq}{S T:St}{F:Ka}{R:Nat}{B:RB}{X:RX}{c:Cl}{D ov ov':Nat->Prop}
theorem Tu.trans (h:Tu C ow L ow1 L1)(k:Tu C' ow1 L1 ow' L'):Tu (λc=>C c\/C' c) ow L ow' L':=
 ⟨k.fn,λt a i=>by
  obtain⟨d,j⟩:=h.s t a λe=>i (.inl e);obtain⟨l,m⟩:=k.s t d λe=>i (.inr (j▸e));exact⟨l,m.trans j⟩,λb cs d=>k.g b cs (h.g b cs d),λt a e=>k.f t (h.f t a e) e⟩
theorem Tu.mono (h:Tu C ow L ow' L')(hc: ∀c,C c->C' c):Tu C' ow L ow' L':=⟨h.fn,λt a b=>h.s t a λe=>b (hc _ e),h.g,h.f⟩
theorem Tu.ext (e:Ext L L'):Tu (λ_=>False) ow L ow L':=⟨e.f,λt a _=>⟨e.s t a,rfl⟩,λb cs h=>e.s _ h,λt a _=>e.s t a⟩
theorem Tu.of (hF:K5 L')(h:K1 ov ov' L L')(ho: ∀b,ov b->C (ow b)) (ht: ∀t∈L,ov t.1->t.2.1=true/\ ∀cs,t.2.2≠ .cells cs 158) (c:Cl): ∃ow',Tu C ow L ow' L'/\ ∀b,ov' b\/ow b=c->ow' b=c:=by
 classical
 refine⟨λb=>if ov' b then c else ow b,⟨hF,λt a f=> ?_,λb cs a=>h.s _ a λe=>(ht _ a e).2 cs rfl,λt a e=>h.s t a λg=>by rw[(ht t a g).1] at e;cases e⟩,λb hb=> ?_⟩
 ·have d: ¬ov t.1:=λe=>f (ho _ e);refine⟨h.s t a d, ?_⟩;show (if ov' t.1 then c else ow t.1)=_;rw[if_neg λe=>(h.n _ e).elim d λe=>e t a rfl]
 ·show (if ov' b then c else ow b)=c
  split
  ·rfl
  ·exact hb.elim (λe=>absurd e ‹_›) id
theorem Ch.tu (h:Ch D L L')(hF:K5 L)(g: ∀b,D b->C (ow b)/\ ∃cs e,(b,true,Obj.cells cs e)∈L/\e≠158):Tu C ow L ow L':=
 ⟨h.fn,λt a j=>⟨h.s t a λe=>j (g _ e).1,rfl⟩,λb cs hm=>h.s _ hm λe=>by
  obtain⟨_,d,l,f,i⟩:=g _ e;exact i (cY hF f hm),λt a e=>h.s t a λk=>by
  obtain⟨_,d,l,f,i⟩:=g _ k;have:=(hF _ _ _ _ _ f (show (t.1,t.2.1,t.2.2)∈L from a)).1;rw[e] at this;cases this⟩
theorem Ke.tu (h:Ke K A S [] L)(t:Tu C ow L ow' L')(ho: ∀b,Own K A S b->ow b=c) (hc: ¬C c):Ke K A S [] L'/\ ∀b,Own K A S b->ow' b=c:=
 ⟨h.move t.fn (λu hu a=>(t.s u hu (by rw[ho _ a];exact hc)).1) (t.g _ _ h.g) (λ_ h=>by cases h),λb hb=>by
  obtain⟨o,hm,_⟩:=h.own hb;have:=(t.s _ hm (by rw[ho b hb];exact hc)).2;rw[<-ho b hb];exact this⟩
theorem Ke.full (h:Ke K A S F L): ∃G,Ke K A S G L/\ ∀t,t∈G↔t∈L/\ ¬Own K A S t.1:=by
 classical
 have b: ∀t,t∈L.filter (λt=>decide (¬Own K A S t.1))↔t∈L/\ ¬Own K A S t.1:=λt=>by simp
 exact⟨_,{h with fr:=λt a=>((b t).1 a).1,fd:=λt a=>Ft ((b t).1 a).2},b⟩
theorem Ke.foot {G:Ka}{d:Kq}{S':St}(f: ∀t,t∈G↔t∈L/\ ¬Own K A S t.1) (h:Ke K d S' G L'):K1 (Own K A S) (Own K d S') L L':=
 ⟨λt a g=>h.fr t ((f t).2 ⟨a,g⟩),λb hb=>by
  classical
  by_cases e:Own K A S b
  ·exact .inl e
  ·refine .inr λt a i=> ?_;subst i;exact h.J4 ((f t).2 ⟨a,e⟩) hb⟩
theorem Ke.ownt (h:Ke K A S F L): ∀t∈L,Own K A S t.1->t.2.1=true/\ ∀cs,t.2.2≠ .cells cs 158:=λt g f=>by
 obtain⟨o,j,l⟩:=h.own f;obtain⟨k,b⟩:=h.fn _ _ _ _ _ j (show (t.1,t.2.1,t.2.2)∈L from g);refine⟨k.symm,λcs e=> ?_⟩;rw[e] at b;subst b;rcases l with ⟨m,c,a⟩|⟨d,n,a,i⟩
 ·cases a
 ·cases a
  revert i
  decide
theorem Ki.own {o:Nat}(h:Ki o R B T X L){b:Nat}(hb:Kv R B T b): ∃cs e,(b,true,Obj.cells cs e)∈L/\e≠158:=by
 obtain⟨cs,e,a,d⟩:=h.toRM.own hb;refine⟨cs,e,a, ?_⟩;rintro rfl;simp at d
theorem Ki.ownt {o:Nat}(h:Ki o R B T X L): ∀t∈L,Kv R B T t.1->t.2.1=true/\ ∀cs,t.2.2≠ .cells cs 158:=λt f b=>by
 obtain⟨cs,e,i,k⟩:=h.own b;obtain⟨j,a⟩:=h.fn _ _ _ _ _ i (show (t.1,t.2.1,t.2.2)∈L from f);refine⟨j.symm,λd g=> ?_⟩;rw[g] at a;cases a;exact k rfl
theorem Ki.tu {o:Nat}(h:Ki o R B T X L)(t:Tu C ow L ow' L')(ho: ∀b,Kv R B T b->ow b=c) (hc: ¬C c):Ki o R B T X L'/\ ∀b,Kv R B T b->ow' b=c:=by
 have mv: ∀u∈L,Kv R B T u.1->u∈L':=λu hu a=>(t.s u hu (by rw[ho _ a];exact hc)).1;refine⟨h.mv t.fn mv,λb hb=> ?_⟩;obtain⟨cs,e,hm,_⟩:=h.own hb;have:=(t.s _ hm (by rw[ho b hb];exact hc)).2;rw[<-ho b hb];exact this
theorem Ref.tu (h:Ref R B T X L)(t:Tu C ow L ow' L')(ho: ∀b,Kv R B T b->ow b=c) (hc: ¬C c):Ref R B T X L'/\ ∀b,Kv R B T b->ow' b=c:=
 let ⟨h1,h2⟩:=h.r.tu t ho hc
 ⟨⟨h1,h.t,h.o,h.n,h.a,h.p,h.l⟩,h2⟩
theorem HS.ok.of {h:HS}{e:TypeId}{sz:Nat}{p:Nat->Nat->Value}(hh:h.ok e sz p L)(hs: ∀b,h.b=some b-> ∀o,(b,true,o)∈L->(b,true,o)∈L'):h.ok e sz p L':=by
 unfold HS.ok at*
 split
 ·rename_i hb;rw[hb] at hh;exact hh
 ·rename_i b hb;rw[hb] at hh;obtain⟨cs,a,d⟩:=hh;exact⟨cs,hs b hb _ a,d⟩
theorem HS.ok.blk {h:HS}{e:TypeId}{sz:Nat}{p:Nat->Nat->Value}(hh:h.ok e sz p L){b:Nat}(hb:h.b=some b): ∃cs,(b,true,Obj.cells cs e)∈L:=by
 unfold HS.ok at hh;rw[hb] at hh;obtain⟨cs,a,_⟩:=hh;exact⟨cs,a⟩
end
structure Pl where
 b:Nat
 K:Nat
 A:Kq
 S:St
 T:St
 R:Nat
 B:RB
 U:St
 X:RX
 t:Nat
structure NU (ow:Nat->Cl)(j:Nat)(x:Pl)(L:Ka):Prop where
 k:Ke x.K x.A x.S [] L
 ab:Ab x.S x.T
 r:Ref x.R x.B x.U x.X L
 ok: ∀b,Own x.K x.A x.S b->ow b=(2,j)
 or: ∀b,Kv x.R x.B x.U b->ow b=(3,j)
structure NJ (ow:Nat->Cl)(h:Hd)(L:Ka):Prop where
 b:h.bs.ok 5 1 (NI h.m) L
 e:h.es.ok 51 4 (Ns h.m) L
 p:h.ps.ok 49 15 (Nt h.m) L
 o: ∀c,h.bs.b=some c\/h.es.b=some c\/h.ps.b=some c->ow c=(4,h.m)
structure Wo where
 w:Nat
 ap:Sl
 ah:Sl
 ps:List Pl
 hs:List (Nat×Hd)
def Wo.own1 (W:Wo)(c:Nat):Prop:=c=W.w\/W.ap.b=some c\/W.ah.b=some c\/ ∃h∈W.hs,c=h.1
def Wo.own (W:Wo)(c:Nat):Prop:=W.own1 c\/ ∃x∈W.ps,c=x.b
def plc (x:Pl):Array Value:= #[ptr x.K,ptr x.R, .int .i64 (x.t:Nat)]
def NL (W:Wo):Array Value:= #[Kj W.ap 1 W.ps.length,Kj W.ah 1 W.hs.length]
def Hd.le (h:Hd)(k:Nat):Prop:=h.bs.n<=140737488351240+k/\h.es.n<=4000+k/\h.ps.n<=8+k
structure WI (B0:Ka)(ow:Nat->Cl)(W:Wo)(L:Ka):Prop where
 fn:K5 L
 w:(W.w,true,Obj.cells (NL W) 71)∈L
 pa:Kf W.ap (W.ps.map λx=>ptr x.b) 102 L
 ha:Kf W.ah (W.hs.map λh=>ptr h.1) 105 L
 pb: ∀x∈W.ps,(x.b,true,Obj.cells (plc x) 145)∈L
 hb: ∀h∈W.hs,(h.1,true,Obj.cells (hcs h.2) 143)∈L
 pi: ∀j x,W.ps[j]? =some x->NU ow j x L
 hi: ∀h∈W.hs,NJ ow h.2 L
 hm: ∀h∈W.hs,h.2.m<=W.hs.length/\h.2.le 3
 nd:(W.ps.map (·.b)).Nodup
 b0: ∀t∈B0,t∈L/\t.2.1=false
 o: ∀c,W.own c->ow c=(0,0)
section
variable {C C':Cl->Prop}{ow ow1 ow':Nat->Cl}{L L1 L' B0:Ka}{W:Wo}
theorem NU.tu {j:Nat}{x:Pl}(h:NU ow j x L)(t:Tu C ow L ow' L')(h2: ¬C (2,j))(e: ¬C (3,j)):NU ow' j x L':=
 let ⟨a,b⟩:=h.k.tu t h.ok h2
 let ⟨c,d⟩:=h.r.tu t h.or e
 ⟨a,h.ab,c,b,d⟩
theorem NJ.tu {x:Hd}(h:NJ ow x L)(t:Tu C ow L ow' L')(i: ¬C (4,x.m)):NJ ow' x L':=by
 have mv: ∀c,x.bs.b=some c\/x.es.b=some c\/x.ps.b=some c-> ∀o,(c,true,o)∈L->(c,true,o)∈L'/\ow' c=(4,x.m):=λc hc o a=>by
  obtain⟨f,g⟩:=t.s _ a (by rw[h.o c hc];exact i);exact⟨f,g.trans (h.o c hc)⟩
 refine⟨h.b.of λc hc o a=>(mv c (.inl hc) o a).1,h.e.of λc hc o a=>(mv c (.inr (.inl hc)) o a).1,h.p.of λc hc o a=>(mv c (.inr (.inr hc)) o a).1,λc hc=> ?_⟩;rcases id hc with d|d|d
 ·exact let ⟨_,h8⟩:=h.b.blk d;(mv c hc _ h8).2
 ·exact let ⟨_,h8⟩:=h.e.blk d;(mv c hc _ h8).2
 ·exact let ⟨_,h8⟩:=h.p.blk d;(mv c hc _ h8).2
theorem WI.blk (h:WI B0 ow W L){c:Nat}(hc:W.own c): ∃cs e,(c,true,Obj.cells cs e)∈L/\e≠158:=by
 rcases hc with (rfl|hc|hc|⟨x,a,rfl⟩)|⟨x,a,rfl⟩
 ·exact⟨_,_,h.w,bx⟩
 ·exact⟨_,_,h.pa.mem hc,bx⟩
 ·exact⟨_,_,h.ha.mem hc,bx⟩
 ·exact⟨_,_,h.hb x a,bx⟩
 ·exact⟨_,_,h.pb x a,bx⟩
theorem WI.blkt (h:WI B0 ow W L): ∀t∈L,W.own t.1->t.2.1=true/\ ∀cs,t.2.2≠ .cells cs 158:=λt f b=>by
 obtain⟨cs,e,i,k⟩:=h.blk b;obtain⟨j,a⟩:=h.fn _ _ _ _ _ i (show (t.1,t.2.1,t.2.2)∈L from f);refine⟨j.symm,λd g=> ?_⟩;rw[g] at a;cases a;exact k rfl
theorem WI.mv (h:WI B0 ow W L)(t:Tu C ow L ow' L')(hw: ∀b o,W.own1 b->(b,true,o)∈L->(b,true,o)∈L') (ho: ∀c,W.own c->ow' c=(0,0)) (hi: ∀x∈W.hs,NJ ow' x.2 L') {ps':List Pl} (e:ps'.map (·.b)=W.ps.map (·.b)) (d: ∀x∈ps',(x.b,true,Obj.cells (plc x) 145)∈L') (hp: ∀j x,ps'[j]? =some x->NU ow' j x L'):WI B0 ow' {W with ps:=ps'} L':=by
 have el:ps'.length=W.ps.length:=by simpa using congrArg List.length e
 have k:ps'.map (λx=>ptr x.b)=W.ps.map λx=>ptr x.b:=by
  have:=congrArg (List.map ptr) e;simpa [Function.comp_def] using this
 exact{
  fn:=t.fn
  w:=by have:=hw _ _ (.inl rfl) h.w;unfold NL at*;simp only[el];exact this
  pa:=by simp only[k];exact h.pa.mono λb hb o=>hw b o (.inr (.inl hb))
  ha:=h.ha.mono λb hb o=>hw b o (.inr (.inr (.inl hb)))
  pb:=d
  hb:=λx a=>hw _ _ (.inr (.inr (.inr ⟨x,a,rfl⟩))) (h.hb x a)
  pi:=hp
  hi:=hi
  hm:=h.hm
  nd:=by simp only[e];exact h.nd
  b0:=λu hu=>⟨t.f u (h.b0 u hu).1 (h.b0 u hu).2,(h.b0 u hu).2⟩
  o:=λc hc=>by
   rcases hc with hc|⟨x,a,rfl⟩
   ·exact ho c (.inl hc)
   ·have:x.b∈W.ps.map (·.b):=by rw[<-e];exact cm.2 ⟨x,a,rfl⟩
    obtain⟨y,g,i⟩:=cm.1 this;exact ho _ (.inr ⟨y,g,i.symm⟩)}
theorem WI.mvo (h:WI B0 ow W L)(t:Tu C ow L ow' L')(h0: ¬C (0,0)):(∀b o,W.own b->(b,true,o)∈L->(b,true,o)∈L')/\ ∀c,W.own c->ow' c=(0,0):=
 ⟨λc o hc a=>(t.s _ a (by rw[h.o c hc];exact h0)).1,λc hc=>by
  obtain⟨cs,e,d,_⟩:=h.blk hc;have:=(t.s _ d (by rw[h.o c hc];exact h0)).2;rw[<-h.o c hc];exact this⟩
theorem WI.tu (h:WI B0 ow W L)(t:Tu C ow L ow' L')(h0: ¬C (0,0))(hm: ∀m,m<=W.hs.length-> ¬C (4,m)) {ps':List Pl} (e:ps'.map (·.b)=W.ps.map (·.b)) (i: ∀x∈ps',∃y∈W.ps,x.b=y.b/\plc x=plc y) (hp: ∀j x,ps'[j]? =some x->NU ow' j x L'):WI B0 ow' {W with ps:=ps'} L':=
 let ⟨mv,ho⟩:=h.mvo t h0
 h.mv t (λb o hb=>mv b o (.inl hb)) ho (λx a=>(h.hi x a).tu t (hm _ (h.hm x a).1)) e (λx a=>by
  obtain⟨y,d,g,f⟩:=i x a;rw[g,f];exact mv _ _ (.inr ⟨y,d,rfl⟩) (h.pb y d)) hp
theorem WI.tu0 (h:WI B0 ow W L)(t:Tu C ow L ow' L')(h0: ¬C (0,0))(hm: ∀m,m<=W.hs.length-> ¬C (4,m)) (b: ∀j,j<W.ps.length-> ¬C (2,j)/\ ¬C (3,j)):WI B0 ow' W L':=
 h.tu t h0 hm (ps':=W.ps) rfl (λx a=>⟨x,a,rfl,rfl⟩) λj x a=>by
  have:=(mo.1 a).1;exact(h.pi j x a).tu t (b j this).1 (b j this).2
end
def HS.nil:HS:=⟨none,0,0⟩
theorem kg (h:HS):Km h.v=true:=by unfold HS.v;split<;>rfl
theorem FW (m:Nat):KF prog (Instr.build 143 [(3, .int .i64 (m:Nat))].toArray) []=some (.agg (hcs ⟨.nil, .nil, .nil,m⟩),[]):=bD
structure LGs (h g:Hd)(G:Nat)(L L':Ka):Prop where
 m:g.m=h.m
 b:LG h.bs g.bs 5 1 (NI h.m) L L'
 e:LG h.es g.es 51 4 (Ns h.m) L L'
 p:LG h.ps g.ps 49 15 (Nt h.m) L L'
 c:Ch (λc=>h.bs.b=some c\/h.es.b=some c\/h.ps.b=some c) L L'
 g:(G,true,Obj.cells (hcs g) 143)∈L'
 n: ∀t∈L,t.1≠G
theorem Ay: ∃n,∀{σ}{F:Kn σ}{Δ:DM F}{N s}(L:Ka)(H:Nat)(h:Hd),(∀s o,(Δ s).New o)->K5 L->(H,true,Obj.cells (hcs h) 143)∈L->h.bs.ok 5 1 (NI h.m) L->h.es.ok 51 4 (Ns h.m) L->h.ps.ok 49 15 (Nt h.m) L->h.le 3->h.m<4611686018427387904->
 Kb Δ prog N 89 [ptr H].toArray n s L (λs' v L'=>s=s'/\ ∃G g,v=ptr G/\LGs h g G L L'):=by
 obtain⟨n1,g1⟩:=tL;constructor;rintro σ F Δ N s L H h E hF U P d' g' ⟨n',q',k'⟩ hm;have nm:IntKind.i64.wrap (0-(h.m:Int))= -(h.m:Int):=ag
 obtain⟨k,cap,hv,_⟩:=HS.view P.any;replace U:(H,true,Obj.cells #[.slice k h.bs.n cap,h.es.v,h.ps.v, .int .i64 (h.m:Nat)] 143)∈L:=by rw[<-hv];exact U
 have J: ∀{L':Ka},(H,true,Obj.cells #[.slice k h.bs.n cap,h.es.v,h.ps.v, .int .i64 (h.m:Nat)] 143)∈L'->At L' H 0 (.slice k h.bs.n cap)/\At L' H 1 h.es.v/\At L' H 2 h.ps.v/\At L' H 3 (.int .i64 (h.m:Nat)):=λhm=>⟨⟨true,_,_,_,hm,rfl⟩,⟨true,_,_,_,hm,rfl⟩,⟨true,_,_,_,hm,rfl⟩,⟨true,_,_,_,hm,rfl⟩⟩;obtain⟨a0,a1,a2,a3⟩:=J U;co_applyP ar 62 func89 ntmps89;co_applyP(aO);co_applyP oy rfl (aQ (FW h.m));co_applyP bB rfl (bA (E _ _));intro G W T;have f:=T.sub _ U;have O:=T.new;obtain⟨b0,b1,b2,b3⟩:=J f;have r':Ext L W:=⟨T.fn,T.sub⟩;replace f':(G,true,Obj.cells (hcs ⟨.nil, .nil, .nil,h.m⟩) 143)∈W:=T.self;have M:G≠H:=λe=>O _ U e.symm;co_applyP(ax);co_applyP aM [(H,true,Obj.cells #[.slice k h.bs.n cap,h.es.v,h.ps.v, .int .i64 (h.m:Nat)] 143)] 9 mixed;co_applyP tr 0 rfl bk (aa (by simpa using f));co_applyP tr 1 rfl bI (aa (by simpa using f));co_applyP tr 2 rfl (br (hf:=fB)) (aa (by simpa using f));co_applyP t0 3 rfl (bT (ht:=dq)) (aa (by simpa using f));co_applyP tr 4 rfl bk (aa (by simpa using f));co_applyP tr 5 rfl bI (aa (by simpa using f));co_applyP tr 6 rfl (br (hf:=jc)) (aa (by simpa using f));co_applyP t0 7 rfl (bT (ht:=ny)) (aa (by simpa using f));co_applyP tr 8 rfl (eZ (hu:=U44)) (aa (by simpa using f));co_applyP tc 9 rfl rfl rfl (g1 W h.m h.bs.n hm);rintro _ _ _ ⟨rfl,rfl,rfl⟩;refine⟨aj (by simpa using f), ?_⟩;co_applyP to 10 rfl (fX) (aj (by simpa using f));co_applyP(aO);co_applyP oe rfl (gI (sz:=1) (v:= .int .u8 (Om h.m h.bs.n)) (z:= .int .u8 0) (E _ _) rfl (hu:=U44) (hs:=cP) (hz:=qT) (h0:=bx) (h24:=bx));rintro _ _ ⟨yb,p',rfl,rfl⟩;co_applyP lC;intro e';have A: ∀t∈L,t∈(yb,true,Obj.cells (Value.int .u8 (Om h.m h.bs.n)).cells 5)::W:=λt r=>dc _ (T.sub t r);co_applyP oeN rfl (λhnd=>Ax (h:=h.bs) (p:=NI h.m) (ys:=[.int .u8 (Om h.m h.bs.n)]) (by_:=0) (hym:=eT) (hnd:=hnd) (hu:=U44) (hs:=cP) (hb:=nH) (hz:=qT) (hzs:=rfl) (hN:=λcs=>E _ _) (hyl:=rfl) (hpl:=rfl) (h0:=bx) (h8:=bl) (hx:=by rw[hv];rfl) (hh:=P.of λ_ _ _=>A _) (hyp:=λj hj=>by obtain rfl:j=0:=bl;rfl))
 rintro _ L3 ⟨gb,rfl,qb,cb,bb⟩;have Z: ∀e,5≠e-> ∀b cs,(b,true,Obj.cells cs e)∈(yb,true,Obj.cells (Value.int .u8 (Om h.m h.bs.n)).cells 5)::W->(b,true,Obj.cells cs e)∈L3:=λe he b cs hm=>cb.keep ((P.of λ_ _ _=>A _).any.no e' he) hm;have b':=Z 143 bx _ _ (dc _ f');have j':=Z 143 bx _ _ (A _ U);co_applyP(ay);co_applyP osm rfl (hs:=gj) (hm:=b') (hi:=by show 0<4;decide) (hp:=kg _);intro Y u;have k4: ∀e,143≠e-> ∀b cs,(b,true,Obj.cells cs e)∈L3->(b,true,Obj.cells cs e)∈Y:=λe he b cs hm=>u.ch.keep (Lg.one cb.fn b' he) hm;have i':(G,true,Obj.cells (hcs ⟨gb, .nil, .nil,h.m⟩) 143)∈Y:=u.self;have d:=u.ne _ j' M.symm;obtain⟨c0,c1,c2,c3⟩:=J d;have t4: ∀b cs,(b,true,Obj.cells cs 51)∈L->(b,true,Obj.cells cs 51)∈Y:=λb cs hm=>k4 _ bx b cs (Z _ bx b cs (A _ hm));co_applyP(ay);co_applyP aM [(H,true,Obj.cells #[.slice k h.bs.n cap,h.es.v,h.ps.v, .int .i64 (h.m:Nat)] 143)] 11 (nf:=0) mixed;co_applyP tr 0 rfl bk (aa (by simpa using d));co_applyP tr 1 rfl bk (aa (by simpa using d));co_applyP tr 2 rfl bI (aa (by simpa using d));co_applyP tr 3 rfl (br (hf:=lJ)) (aa (by simpa using d));co_applyP tr 4 rfl (bT (ht:=Dq)) (aa (by simpa using d));co_applyP tr 5 rfl bk (aa (by simpa using d));co_applyP tr 6 rfl bI (aa (by simpa using d));co_applyP tr 7 rfl (br (hf:=fB)) (aa (by simpa using d));co_applyP t0 8 rfl (bT (ht:=dq)) (aa (by simpa using d));co_applyP tr 9 rfl xC (aa (by simpa using d));rw[nm];co_applyP tr 10 rfl (aQ (FU h.m)) (aa (by simpa using d));co_applyP te (i:=11) rfl (gI (sz:=4) (v:= .agg (LL h.m).toArray) (z:=LK 0 0 0 0) (E _ _) rfl (hu:=U38) (hs:=iZ) (hz:=uA) (h0:=bx) (h24:=bx));rintro _ _ ⟨yc,l',rfl,rfl⟩;refine⟨aj (by simpa using d), ?_⟩;co_applyP aF;intro hnd;have B: ∀t∈Y,t∈(yc,true,Obj.cells (Value.agg (LL h.m).toArray).cells 51)::Y:=λt r=>dc _ r;have y:=d'.ofT λb cs hm=>B _ (t4 b cs hm);co_applyP te (i:=12) rfl (Ax (h:=h.es) (p:=Ns h.m) (ys:=LL h.m) (by_:=31) (hym:=eT) (hnd:=hnd) (hu:=U38) (hs:=iZ) (hb:=zR) (hz:=uA) (hzs:=rfl) (hN:=λcs=>E _ _) (hyl:=rfl) (hpl:=rfl) (h0:=bx) (h8:=bl) (hh:=y) (hyp:=λj hj=>pK _ _ hj));rintro _ _ ⟨ge,rfl,qe,ce,be⟩;refine⟨aj (by simpa using ce.keep (y.any.no (bz hnd) bx) (B _ d)), ?_⟩;rename_i L6;have ne:=λe (he:51≠e) b cs (hm:(b,true,Obj.cells cs e)∈_)=>ce.keep (y.any.no (bz hnd) he) hm
 have K:=ne 143 bx _ _ (B _ d);have V:=ne 143 bx _ _ (B _ i');co_applyP to 13 rfl (bI) (aj (by simpa using K));co_applyP to 14 rfl ((br (hf:=lJ))) (aj (by simpa using K));co_applyP aF;intro a';co_applyP te (i:=15) rfl (bX (hnd:=a') (hm:=V) (hi:=by show 1<4;decide) (hp:=kg _) (hs:=xK));rintro _ _ ⟨rfl,x⟩;refine⟨aj (by simpa using x.ne _ K M.symm), ?_⟩;rename_i L7;have k7:=λe (he:143≠e) b cs (hm:(b,true,Obj.cells cs e)∈_)=>x.ch.keep (Lg.one ce.fn V he) hm;have h':(G,true,Obj.cells (hcs ⟨gb,ge, .nil,h.m⟩) 143)∈_:=x.self;have a:=x.ne _ K M.symm;obtain⟨d0,d1,d2,d3⟩:=J a;co_applyP(ay);co_applyP aM [(H,true,Obj.cells #[.slice k h.bs.n cap,h.es.v,h.ps.v, .int .i64 (h.m:Nat)] 143)] 11 (nf:=0) mixed;co_applyP tr 0 rfl bk (aa (by simpa using a));co_applyP tr 1 rfl bk (aa (by simpa using a));co_applyP tr 2 rfl bI (aa (by simpa using a));co_applyP tr 3 rfl (br (hf:=lK)) (aa (by simpa using a));co_applyP tr 4 rfl (bT (ht:=Dr)) (aa (by simpa using a));co_applyP tr 5 rfl bk (aa (by simpa using a));co_applyP tr 6 rfl bI (aa (by simpa using a));co_applyP tr 7 rfl (br (hf:=fB)) (aa (by simpa using a));co_applyP t0 8 rfl (bT (ht:=dq)) (aa (by simpa using a));co_applyP tr 9 rfl xC (aa (by simpa using a));rw[nm];co_applyP tr 10 rfl (aQ (FV h.m)) (aa (by simpa using a));co_applyP te (i:=11) rfl (gI (sz:=15) (v:= .agg (LX h.m).toArray) (z:= .agg (Ll PS.zero).toArray) (E _ _) rfl (hu:=U42) (hs:=gq) (hz:=ux) (h0:=bx) (h24:=bx));rintro _ _ ⟨yd,m',rfl,rfl⟩;refine⟨aj (by simpa using a), ?_⟩;co_applyP aF;intro D;have I: ∀t∈L7,t∈(yd,true,Obj.cells (Value.agg (LX h.m).toArray).cells 49)::L7:=λt r=>dc _ r;have C:=g'.ofT λb cs hm=>I _ (k7 _ bx b cs (ne _ bx b cs (B _ (k4 _ bx b cs (Z _ bx b cs (A _ hm))))));co_applyP te (i:=12) rfl (Ax (h:=h.ps) (p:=Nt h.m) (ys:=LX h.m) (by_:=71) (hym:=eT) (hnd:=D) (hu:=U42) (hs:=gq) (hb:=zH) (hz:=ux) (hzs:=rfl) (hN:=λcs=>E _ _) (hyl:=rfl) (hpl:=rfl) (h0:=bx) (h8:=bl) (hh:=C) (hyp:=λj hj=>pL _ _ hj));rintro _ _ ⟨gp,rfl,qp,cp,bp⟩;refine⟨aj (by simpa using cp.keep (C.any.no (bz D) bx) (I _ a)), ?_⟩;have np:=λe (he:49≠e) b cs (hm:(b,true,Obj.cells cs e)∈_)=>cp.keep (C.any.no (bz D) he) hm;have Q:=np 143 bx _ _ (I _ a);have X:=np 143 bx _ _ (I _ h')
 co_applyP to 13 rfl (bI) (aj (by simpa using Q));co_applyP to 14 rfl ((br (hf:=lK))) (aj (by simpa using Q));co_applyP aF;intro c';co_applyP te (i:=15) rfl (bX (hnd:=c') (hm:=X) (hi:=by show 2<4;decide) (hp:=kg _) (hs:=GQ));rintro _ _ ⟨rfl,l⟩;refine⟨aj (by simpa using l.ne _ Q M.symm), ?_⟩;have R:=λe (he:143≠e) b cs (hm:(b,true,Obj.cells cs e)∈_)=>l.ch.keep (Lg.one cp.fn X he) hm;co_applyP(aC);refine xI _ ⟨rfl,rfl,G,⟨gb,ge,gp,h.m⟩,rfl,rfl,qb.lift (λb cs hm=>A _ hm) (Bl.sub A) λb cs hm=>R _ bx b cs (np _ bx b cs (I _ (k7 _ bx b cs (ne _ bx b cs (B _ (k4 _ bx b cs hm)))))), ?_, ?_,⟨l.fn,λt r hn=> ?_⟩,l.self,O⟩
 ·exact qe.lift (λb cs hm=>B _ (t4 b cs hm)) ((((Bl.sub A).trans bb).trans (Bl.upd u)).trans (Bl.sub B)) λb cs hm=>R _ bx b cs (np _ bx b cs (I _ (k7 _ bx b cs hm)))
 ·exact qp.lift (λb cs hm=>I _ (k7 _ bx b cs (ne _ bx b cs (B _ (k4 _ bx b cs (Z _ bx b cs (A _ hm))))))) (((((((Bl.sub A).trans bb).trans (Bl.upd u)).trans (Bl.sub B)).trans be).trans (Bl.upd x)).trans (Bl.sub I)) (R _ bx)
 ·have S:=O t r;exact l.ne _ (cp.s _ (I _ (x.ne _ (ce.s _ (B _ (u.ne _ (cb.s _ (A t r) λe=>hn (.inl e)) S)) λe=>hn (.inr (.inl e))) S)) λe=>hn (.inr (.inr e))) S
end Go.Proofs.YtejkelcaljmnoaaGreatDoor
namespace Go.Lo
open Go.Conc Go.Hx
section
variable {P:Program}{N:Nat}{ε:Env}{L:Ka}{d:Option Tmp}{ty:TypeId}{ps:String}{af:Array Edge}{g:Option (Nat×Bool)}{x y:Operand}{t:TypeId}{l:List Int}{k:IntKind}{h:Int}
theorem Az (l:List Int)(a b:Nat)(hb:b<=l.length):(⟨(l.map λn=>UInt8.ofNat n.toNat).toArray⟩:ByteArray).extract a b=⟨(((l.take b).drop a).map λn=>UInt8.ofNat n.toNat).toArray⟩:=by
 apply ByteArray.ext;rw[ByteArray.data_extract];apply gm;simp only[OC,u7,List.map_drop,List.map_take];rw[List.drop_take]
end
section
variable {P:Program}{New:Obj->Prop}{N:Nat}{ε:Env}{L:Ka}{d:Option Tmp}{ty t u e:TypeId}{ps:String}{af:Array Edge}{g:Option (Nat×Bool)}{x y:Operand}
theorem tN {l:List Int}(hl:NS l):(Array.map (λb:UInt8=>Value.int .u8 (b.toNat:Nat)) (l.map λn=>UInt8.ofNat n.toNat).toArray)=(l.map (Value.int .u8)).toArray:=by
 apply gm;simp only[OL,kt];refine k0 λn a=> ?_;have:=hl n a;simp only[Function.comp,UInt8.toNat_ofNat'];congr 1;omega
theorem HQ {n:Nat}{z:Value}(hN: ∀cs,New (.cells cs e)) (hx:ev ε x=some (.int .i64 (n:Nat)):=by rfl) (hu:P.underlying t=some (.slice e)) (hs:Kd P e=some 1) (hb:KJ P e=some 1) (hz:zeroAt P e=some z) (hzp:Km z=true) (hn:n<=281474976710656) (h0:0<n):
 EO P New N ε L ⟨d, .makeSlice t x x,ty,ps,af,g⟩ (λr j=> ∃b,(∀t∈L,t.1≠b)/\r= .slice (some ⟨b,0,none⟩) n n/\j=(b,true, .cells (List.replicate n z).toArray e)::L):=by
 intro a l;simp only[execOp];unfold Instr.makeSlice newRow;have w:IntKind.i64.wrap ((n:Nat):Int)=(n:Int):=ag
 rw[ak,ak,aT hu,l.ev hx];simp only[asInt,asIntOf];rw[ak,ak,bg,bg,ak,ak,bg,bg];obtain⟨i,k,f⟩: ∃i,P.info? e=some i/\i.bytes=1:=by
  unfold KJ at hb;cases h:P.info? e with
  |none=>rw[h] at hb;cases hb
  |some i=>rw[h] at hb;exact⟨i,rfl,by simpa using hb⟩
 rw[ak,da k];simp only[w,f];rw[if_neg ao,ak];refine kj ?_;rw[ak,bO hs];simp only[w9,O2];rw[if_neg bl,ak,cC hz,ak,bg];have m:(Array.range n).map (z.cells[· %z.cells.size]!)=(List.replicate n z).toArray:=by
  have hc:z.cells= #[z]:=by cases z<;>first|rfl|(simp[Km] at hzp)
  rw[hc];apply gm;simp only[Array.toList_map,Array.toList_range];rw[show (λx:Nat=>(#[z]:Array Value)[x%(#[z]:Array Value).size]!)=λ_=>z from funext λx=>by simp[Nat.mod_one],List.map_const'];simp
 rw[m,ak,ak];exact cF (hN _) λb hb=>⟨b,hb,rfl,rfl⟩
theorem HR {l:List Int}{b dl o:Nat}{cs:Array Value}{e':TypeId}(hl:NS l)(hx:ev ε x=some (.slice (some ⟨b,0,none⟩) dl o):=by rfl)(hy:ev ε y=some (KU l):=by rfl)(hnd:(L.map (·.1)).Nodup)(hu:P.underlying t=some (.slice e))(hs:Kd P e=some 1)(hd:l.length<=dl)(hm:(b,true, .cells cs e')∈L)(ho:l.length<=cs.size):
 EO P New N ε L ⟨d, .call ⟨.builtin .copy, #[x,y], #[t,u]⟩,ty,ps,af,g⟩ (λr L'=>r= .int .i64 (l.length:Nat)/\K4 L b (.cells (KP cs 0 (l.map (Value.int .u8))) e') L'):=by
 intro a k;obtain⟨m,i⟩:=mx hm;have j:(⟨(l.map λn=>UInt8.ofNat n.toNat).toArray⟩:ByteArray).size=l.length:=by simp[ByteArray.size]
 have f:Nat.min l.length dl=l.length:=Nat.min_eq_left hd;refine cw (s:=Builtin.copy_ #[t,u] ty #[.slice (some ⟨b,0,none⟩) dl o,KU l]) (λ_=>by simp[builtin,k.ev hx,k.ev hy]) ?_;unfold Builtin.copy_;simp only[nw,u9,OE];rw[ak,aT hu];simp only[Builtin.lenOf,KU];rw[ak,bg,ak,bO hs,ak];simp only[Builtin.firstCells,j,f];rw[Az l 0 l.length (cD _),bg];simp only[List.take_length,List.drop_zero];rw[tN hl,ak];exact cg i (by simpa using ho) (by simp[Km]) ⟨rfl,cO hnd i⟩
end
end Go.Lo
namespace Go.Proofs.YtejkelcaljmnoaaGreatDoor
open Go.Conc Go.Hx Go.Lo Go.Proofs.Tryz
attribute [local irreducible] EY KO K6 Kw Kc Ku Kd Program.underlying
def M0 (l:List Int):Array Value:=(l.map (Value.int .u8)++List.replicate 8 (Value.int .u8 201)).toArray
def Mt (l:List Int)(i:Nat):Array Value:=(l.map (Value.int .u8)++(List.replicate i (Value.int .u8 201)++List.replicate (8-i) (Value.int .u8 0))).toArray
theorem wL (l:List Int){i:Nat}(hi:i<8):(Mt l i).setIfInBounds (l.length+i) (.int .u8 201)=Mt l (i+1):=by
 unfold Mt;obtain⟨j,a⟩: ∃j,8-i=j+1:=⟨7-i,bl⟩;rw[a,show 8-(i+1)=j by omega,List.replicate_succ,List.replicate_succ'];simp[List.set_append]
theorem tO (l:List Int){i:Nat}(hi:i<=8):(Mt l i).size=l.length+8:=by unfold Mt;simp;omega
theorem FX: ∃n,∀{u}{F:Kn u}{p:DM F}{d s}(L:Ka)(l:List Int),(∀s o,(p s).New o)->NS l->l.length<=140737488351232->
 Kb p prog d 69 [KU l].toArray n s L (λs' v L'=>s=s'/\ ∃b,v= .slice (some ⟨b,0,none⟩) (l.length+8) (l.length+8)/\Add L b (.cells (M0 l) 5) L'):=by
 constructor;intro u F p d s L l r B H;have y:IntKind.i64.wrap ((l.length:Int)+8)=((l.length+8:Nat):Int):=ag
 co_applyP ar 24 func69 ntmps69;co_applyP(aR);rw[cv,y];co_applyP oe rfl (HQ (n:=l.length+8) (z:= .int .u8 0) (hN:=λcs=>r _ _) (hu:=U44) (hs:=cP) (hb:=nH) (hz:=qT) (hzp:=rfl) (hn:=bl) (h0:=bl));rintro _ _ ⟨b,hb,rfl,rfl⟩;co_applyP(au);co_applyP oeN rfl (λhnd=>HR (l:=l) (cs:=(List.replicate (l.length+8) (Value.int .u8 0)).toArray) B (hnd:=hnd) (hu:=U44) (hs:=cP) (hd:=bl) (hm:=eT) (ho:=bE));rintro _ E ⟨rfl,m⟩;have x:KP (List.replicate (l.length+8) (Value.int .u8 0)).toArray 0 (l.map (Value.int .u8))=Mt l 0:=by
  rw[bY _ _ _ bE];unfold Mt;simp
 rw[x] at m;co_applyP(aO);rw[cv];co_applyP aU (λk s' e L'=>s=s'/\ ∃i:Nat,k+i=8/\(∀t∈L,t∈L')/\K5 L'/\(b,true,Obj.cells (Mt l i) 5)∈L'/\kn e [(4, .int .i64 ((l.length+i:Nat):Int)),(3, .slice (some ⟨b,0,none⟩) (l.length+8) (l.length+8))]) 8
 ·exact⟨rfl,0,rfl,λt g=>m.ne _ (dc _ g) (hb t g),m.fn,m.self,rfl⟩
 rintro k s' e L' ⟨rfl,i,G,f,D,hm,he⟩;co_applyP aA he;co_applyP(aR);co_applyP aI rfl;intro hc
 ·have j:i<8:=by simp at hc;omega
  have C:IntKind.i64.wrap (((l.length+i:Nat):Int)+1)=((l.length+(i+1):Nat):Int):=ag
  co_applyP(aR);co_applyP osm rfl (hs:=cP) (hm:=hm) (hi:=by rw[tO l bl];omega);intro A a;replace a:K4 L' b (.cells ((Mt l i).setIfInBounds (l.length+i) (.int .u8 201)) 5) A:=a;rw[wL l j] at a;co_applyP(aC);change∃k',k'<_/\_;rw[C];exact⟨k-1,bl,rfl,i+1,bl,λt g=>a.ne _ (f t g) (hb t g),a.fn,a.self,rfl⟩
 intro hc;co_applyP(aC);change∃v,Ko .. =some v/\_;have j:i=8:=by simp at hc;omega
 subst j;exact⟨_,rfl,rfl,b,rfl,hm,f,hb,D⟩
theorem C5 (K:Nat): ∃n,∀{o}{F:Kn o}{m:DM F}{a s}(L:Ka)(l:List Int)(b:Nat),NS l->l.length+8<=K->K<=4611686018427387904->(b,true,Obj.cells (M0 l) 5)∈L->
 Kb m prog a 71 [.slice (some ⟨b,0,none⟩) (l.length+8) (l.length+8),KU l].toArray n s L (λs' v L'=>s=s'/\v= .bool true/\L=L'):=by
 constructor;intro o F m a s L l b p z x hm;co_applyP ar 39 func71 ntmps71;co_applyP(aO);co_applyP aU (λk s' d L'=>s=s'/\L=L'/\ ∃i:Nat,k+i=K/\i<=l.length+8/\kn d [(5, .int .i64 (i:Nat)),(0, .slice (some ⟨b,0,none⟩) (l.length+8) (l.length+8)),(1,KU l)]) K
 ·exact⟨rfl,rfl,0,rfl,hX _,rfl⟩
 rintro k s' d L' ⟨rfl,rfl,i,y,r,he⟩;co_applyP aA he;co_applyP(aR);co_applyP aI rfl;intro hc
 ·have u:i<l.length+8:=by simp at hc;omega
  have j:IntKind.i64.wrap ((i:Int)+1)=((i+1:Nat):Int):=ag
  co_applyP(ax);co_applyP aK;by_cases h:i<l.length
  ·obtain⟨v,e⟩: ∃v,l[i]? =some v:=⟨_,sy h⟩;have f:At L b i (.int .u8 v):=⟨true,_,_,_,hm,by unfold M0;rw[nw,rD (by simpa using h)];simp[e]⟩;have g:=p v (l5 e);co_applyP(aC);rw[cv,show decide ((i:Int)<(l.length:Int))=true by simp[h]];co_applyP(aC);co_applyP tr 11 rfl (rU (l:=l) (v:=v) (hu:=U9) (h0:=bl) (hv:=by simpa using e) (hb:=g)) pI;co_applyP(ax);rw[show (v !=v)=false by simp];co_applyP(av);rw[cv,show decide ((i:Int)≥(l.length:Int))=false by simp;omega];co_applyP(aH);co_applyP(zo);change∃k',k'<_/\_;rw[j];exact⟨k-1,bl,rfl,rfl,i+1,bl,bl,rfl⟩
  ·have f:At L b i (.int .u8 201):=⟨true,_,_,_,hm,by unfold M0;rw[nw,Oy ao,List.getElem?_replicate,if_pos ao]⟩;co_applyP(aC);rw[cv,show decide ((i:Int)<(l.length:Int))=false by simp;omega];co_applyP(dE);rw[cv,show decide ((i:Int)≥(l.length:Int))=true by simp;omega];co_applyP(aH);co_applyP(zo);change∃k',k'<_/\_;rw[j];exact⟨k-1,bl,rfl,rfl,i+1,bl,bl,rfl⟩
 intro hc;co_applyP(au);exact xI _ ⟨rfl,rfl,rfl,rfl⟩
theorem AA: ∃n,∀{g}{F:Kn g}{e:DM F}{a s}(L:Ka),(∀s o,(e s).New o)->K5 L->
 MC e prog a 13 [].toArray n s L (λs' v L'=>s=s'/\v=Ln (λ_=>5) 50/\Ext L L'):=by
 constructor;intro g F e a s L i k;co_applyP oV 3 func13 ntmps13;co_applyP(zo);co_applyP bB rfl (eN (z:=Ln (λ_=>0) 0) (i _ _));intro j m b;co_applyP(ay);co_applyP oy rfl (aQ (Hz _ _ _));co_applyP oy rfl (aQ (HA _ _ _ _));co_applyP oeN rfl (λhnd=>fA (hs:=iY) (vs:=[.int .i64 5, .int .i64 5, .int .i64 5, .int .i64 50]) (hnd:=hnd) (hm:=b.self) (hi:=cD _));rintro _ l ⟨rfl,d⟩;co_applyP(ay);change∃v,NP _ _ _ _ v/\_;exact⟨_,⟨_,_,j,0,4,true,_,_,rfl,rfl,kq,iY,d.self,cD _,rfl⟩,rfl,rfl,d.fn,λt f=>d.ne _ (b.sub _ f) (b.new _ f)⟩
section
variable {C C':Cl->Prop}{ow ow1 ow':Nat->Cl}{L L1 L2 L3 L' B0:Ka}{W:Wo}{H G:Nat}{h g:Hd}{a':Sl}
theorem WI.push (h:WI B0 ow W L)(hx:Ext L L1)(p:MM L1 105 W.ah ((W.hs.map λh=>ptr h.1)++[ptr H]) a' L2)(u:K4 L2 W.w (.cells (NL {W with ah:=a',hs:=W.hs++[(H,g)]}) 71) L3)(G:(H,true,Obj.cells (hcs g) 143)∈L)(A:ow H=(0,0))(F:NJ ow g L)(D:g.m<=W.hs.length+1)(B:g.le 3): ∃ow',WI B0 ow' {W with ah:=a',hs:=W.hs++[(H,g)]} L3/\Tu (· =(0,0)) ow L ow' L3:=by
 have E:K1 (λb=>W.ah.b=some b\/b=W.w) (λb=>a'.b=some b\/b=W.w) L L3:=⟨λt i n=>u.ne t (p.sub t (hx.s t i) λe=>n (.inl e)) λe=>n (.inr e),λb hb=>by
  rcases hb with hb|hb
  ·exact(p.d b hb).imp .inl λn t i=>n t (hx.s t i)
  ·exact .inl (.inr hb)⟩
 have k: ∀b,W.ah.b=some b\/b=W.w->W.own b:=λb hb=> .inl (hb.elim (λe=> .inr (.inr (.inl e))) .inl);obtain⟨ow',T,a⟩:=Tu.of (ow:=ow) (C:=(· =(0,0))) u.fn E (λb hb=>h.o b (k b hb)) (λt i hb=>h.blkt t i (k _ hb)) (0,0);have l: ∀e,105≠e->71≠e-> ∀b cs,(b,true,Obj.cells cs e)∈L->(b,true,Obj.cells cs e)∈L3:=λe z y b cs hm=>E.s _ hm λhb=>by
  rcases hb with hb|hb
  ·exact z (cY h.fn (h.ha.mem hb) hm)
  ·exact y (cY h.fn (hb▸h.w) hm)
 refine⟨ow', ?_,T⟩
 exact{
  fn:=u.fn
  w:=u.self
  pa:=h.pa.mono λb hb o a=>by
   have e:=(h.fn _ _ _ _ _ a (h.pa.mem hb)).2;rw[e] at a⊢;exact l 102 bx bx _ _ a
  ha:=by
   have z:=p.ok;have y:(W.w,true,Obj.cells (NL W) 71)∈L2:=p.sub _ (hx.s _ h.w) λe=>absurd (cY h.fn (h.ha.mem e) h.w) bx;rw[l3];exact u.ch.Jr (Lg.one p.fn y bx) z
  pb:=λx hx=>l _ bx bx _ _ (h.pb x hx)
  hb:=λx hx=>by
   rcases cE.1 hx with hx|hx
   ·exact l _ bx bx _ _ (h.hb x hx)
   ·obtain rfl:x=(H,g):=by simpa using hx
    exact l _ bx bx _ _ G
  pi:=λj x hx=>(h.pi j x hx).tu T bE bE
  hi:=λx hx=>by
   rcases cE.1 hx with hx|hx
   ·exact(h.hi x hx).tu T bE
   ·obtain rfl:x=(H,g):=by simpa using hx
    exact F.tu T bE
  hm:=λx hx=>by
   have el:(W.hs++[(H,g)]).length=W.hs.length+1:=bE
   rcases cE.1 hx with hx|hx
   ·have:=h.hm x hx;exact⟨by simp only[el];omega,this.2⟩
   ·obtain rfl:x=(H,g):=by simpa using hx
    exact⟨by simp only[el];exact D,B⟩
  nd:=h.nd
  b0:=λv r=>⟨T.f v (h.b0 v r).1 (h.b0 v r).2,(h.b0 v r).2⟩
  o:=λc hc=>by
   rcases hc with (hc|hc|hc|⟨x,hx,rfl⟩)|hc
   ·exact a c (.inl (.inr hc))
   ·exact a c (.inr (h.o c (.inl (.inr (.inl hc)))))
   ·exact a c (.inl (.inl hc))
   ·rcases cE.1 hx with hx|hx
    ·exact a _ (.inr (h.o _ (.inl (.inr (.inr (.inr ⟨x,hx,rfl⟩))))))
    ·obtain rfl:x=(H,g):=by simpa using hx
     exact a _ (.inr A)
   ·exact a c (.inr (h.o c (.inr hc)))}
def Top (W:Wo)(g:Hd):Prop:= ∀x∈W.hs,x.2.m=g.m->(x.2.bs.b=g.bs.b->x.2.bs.n<=g.bs.n)/\(x.2.es.b=g.es.b->x.2.es.n<=g.es.n)/\(x.2.ps.b=g.ps.b->x.2.ps.n<=g.ps.n)
theorem LG.keep {D:Nat->Prop}{h g x:HS}{e:TypeId}{sz:Nat}{p:Nat->Nat->Value}(q:LG h g e sz p L L')(c:Ch D L L')(f: ∀c,(∃cs,(c,true,Obj.cells cs e)∈L)->D c->h.b=some c) (hx:x.ok e sz p L) (hn:x.b=h.b->x.n<=h.n):x.ok e sz p L':=by
 by_cases a:x.b=h.b
 ·exact q.k x a (hn a) hx
 ·exact hx.ch c λb hb d=>a (by rw[hb,f b (hx.blk hb) d])
theorem WI.grow (h:WI B0 ow W L){k:Hd}(S:(H,k)∈W.hs)(ht:Top W k)(q:LGs k g G L L'): ∃ow',WI B0 ow' W L'/\NJ ow' g L'/\ow' G=(0,0)/\Tu (· =(4,k.m)) ow L ow' L':=by
 have l:=h.hi _ S;have ty: ∀c cs e,(c,true,Obj.cells cs e)∈L->(k.bs.b=some c->e=5)/\(k.es.b=some c->e=51)/\(k.ps.b=some c->e=49):=λc cs e hm=>⟨λhb=>let ⟨_,a⟩:=l.b.blk hb;cY h.fn hm a,λhb=>let ⟨_,a⟩:=l.e.blk hb;cY h.fn hm a,λhb=>let ⟨_,a⟩:=l.p.blk hb;cY h.fn hm a⟩;have M: ∀c,k.bs.b=some c\/k.es.b=some c\/k.ps.b=some c-> ∃cs e,(c,true,Obj.cells cs e)∈L/\e≠158:=λc hc=>by
  rcases hc with hc|hc|hc
  ·exact let ⟨cs,a⟩:=l.b.blk hc;⟨cs,5,a,bx⟩
  ·exact let ⟨cs,a⟩:=l.e.blk hc;⟨cs,51,a,bx⟩
  ·exact let ⟨cs,a⟩:=l.p.blk hc;⟨cs,49,a,bx⟩
 obtain⟨F,T,I⟩:=Tu.of (ow:=ow) (C:=(· =(4,k.m))) (ov:=λc=>k.bs.b=some c\/k.es.b=some c\/k.ps.b=some c) (ov':=λc=>g.bs.b=some c\/g.es.b=some c\/g.ps.b=some c) q.c.fn ⟨q.c.s,λb hb=>by
  rcases hb with hb|hb|hb
  ·exact(q.b.d b hb).imp .inl id
  ·exact(q.e.d b hb).imp (λe=> .inr (.inl e)) id
  ·exact(q.p.d b hb).imp (λe=> .inr (.inr e)) id⟩ (λb hb=>l.o b hb) (λt ht hb=>by
  obtain⟨cs,e,a,z⟩:=M _ hb;obtain⟨P,K⟩:=h.fn _ _ _ _ _ a (show (t.1,t.2.1,t.2.2)∈L from ht);refine⟨P.symm,λQ B=> ?_⟩;rw[B] at K;cases K;exact z rfl) (4,k.m)
 have N: ∀c o f,(c,f,o)∈L->c≠G:=λc o f hm=>q.n _ hm;have A:Tu (· =(4,k.m)) ow L (λb=>if b=G then(0,0) else F b) L':=⟨T.fn,λt ht J=>⟨(T.s t ht J).1,(if_neg (q.n t ht)).trans (T.s t ht J).2⟩,T.g,T.f⟩;have y: ∀c e,(∃cs,(c,true,Obj.cells cs e)∈L')->e≠143->c≠G:=λc e ⟨cs,hm⟩ he B=>he (cY q.c.fn hm (B▸q.g));obtain⟨mv,R⟩:=h.mvo A bE;refine⟨_,h.mv A (λb o hb=>mv b o (.inl hb)) R (λx u=> ?_) rfl (λx u=>mv _ _ (.inr ⟨x,u,rfl⟩) (h.pb x u)) (λj x u=>(h.pi j x u).tu A bE bE),⟨by rw[q.m];exact q.b.ok,by rw[q.m];exact q.e.ok,by rw[q.m];exact q.p.ok,λc hc=> ?_⟩,bE,A⟩
 ·by_cases e:x.2.m=k.m
  ·have r:=h.hi x u;obtain⟨t1,t2,t3⟩:=ht x u e;refine⟨?_, ?_, ?_,λc hc=> ?_⟩
   ·rw[e];exact q.b.keep q.c (λc ⟨cs,hm⟩ i=>by
     obtain⟨a,z,D⟩:=ty c cs _ hm;rcases i with i|i|i
     ·exact i
     ·exact absurd (z i) bx
     ·exact absurd (D i) bx) (e▸r.b) t1
   ·rw[e];exact q.e.keep q.c (λc ⟨cs,hm⟩ i=>by
     obtain⟨a,z,D⟩:=ty c cs _ hm;rcases i with i|i|i
     ·exact absurd (a i) bx
     ·exact i
     ·exact absurd (D i) bx) (e▸r.e) t2
   ·rw[e];exact q.p.keep q.c (λc ⟨cs,hm⟩ i=>by
     obtain⟨a,z,D⟩:=ty c cs _ hm;rcases i with i|i|i
     ·exact absurd (a i) bx
     ·exact absurd (z i) bx
     ·exact i) (e▸r.p) t3
   ·have E: ∃cs e,(c,true,Obj.cells cs e)∈L:=by
     rcases hc with hc|hc|hc
     ·exact let ⟨cs,a⟩:=r.b.blk hc;⟨cs,5,a⟩
     ·exact let ⟨cs,a⟩:=r.e.blk hc;⟨cs,51,a⟩
     ·exact let ⟨cs,a⟩:=r.p.blk hc;⟨cs,49,a⟩
    obtain⟨cs,U,O⟩:=E;rw[if_neg (N _ _ _ O),e];exact I c (.inr (by rw[<-e];exact r.o c hc))
  ·exact(h.hi x u).tu A λB=>e (by simpa using B)
 ·have:c≠G:=by
   rcases hc with hc|hc|hc
   ·exact y c 5 (q.b.ok.blk hc) bx
   ·exact y c 51 (q.e.ok.blk hc) bx
   ·exact y c 49 (q.p.ok.blk hc) bx
  rw[if_neg this,q.m];exact I c (.inl hc)
theorem Top.next (h:WI B0 ow W L){k:Hd}(ht:Top W k)(q:LGs k g G L L'){a':Sl}:Top {W with ah:=a',hs:=W.hs++[(G,g)]} g:=λx i hm=>by
 rcases cE.1 i with i|i
 ·have f:=h.hi x i;obtain⟨t1,t2,t3⟩:=ht x i (hm.trans q.m);have go: ∀(y a b:HS)(e:TypeId)(o:Nat)(p s:Nat->Nat->Value),y.ok e o p L->LG a b e o s L L'->(y.b=a.b->y.n<=a.n)->y.b=b.b->y.n<=b.n:=λy a b e o p s j u B l=>by
   cases hb:b.b with
   |none=>
    unfold HS.ok at j;rw[l,hb] at j;have z:y.n=0:=j;omega
   |some c=>
    rw[hb] at l;rcases u.d c hb with r|r
    ·have:=B (l.trans r.symm);have:=u.n;omega
    ·obtain⟨cs,A⟩:=j.blk l;exact absurd rfl (r _ A)
  exact⟨go _ _ _ _ _ _ _ f.b q.b t1,go _ _ _ _ _ _ _ f.e q.e t2,go _ _ _ _ _ _ _ f.p q.p t3⟩
 ·obtain rfl:x=(G,g):=by simpa using i
  exact⟨λ_=>cD _,λ_=>cD _,λ_=>cD _⟩
end
end Go.Proofs.YtejkelcaljmnoaaGreatDoor
