import Derived.Test.YtjfmmnhcddckaaaGreatPk07
namespace Go.Proofs.YtjfmmnhcddckaaaGreat
open List (append_assoc append_inj' append_nil cons_append filter_append filter_cons_of_neg filter_cons_of_pos filter_map getElem?_eq_none getElem_mem length_append length_cons length_map length_set length_singleton length_take map_cons map_map mem_append mem_cons mem_cons_of_mem mem_cons_self mem_flatMap mem_singleton ne_nil_of_mem nil_append nodup_append nodup_cons nodup_nil take_length)
open Nat (le_refl zero_add)
open Bool (and_eq_true or_eq_true)
def lB(g:List Int)(u t:Int):Prop:=∃a b,g=a++t::b/\u∈a
structure Expl0(s0:St)(N:List Ev->Prop)(G:List Ev->List Int)(Z:List Ev->Int->Prop):Prop where
 root:N []
 calm:∀t,¬Z [] t
 rows:∀l,N l->∃z,Ex s0 l z
 par:∀l e,N (l++[e])->N l/\e.thread∈G l
 kid:∀l t z,N l->t∈G l->Ex s0 l z->z.may t=true/\¬Z l t/\∀e,z.next t=some e->N (l++[e])
 wake:∀l e z u,N (l++[e])->Ex s0 l z->(Z (l++[e]) u↔u≠e.thread/\(Z l u∨lB (G l) u e.thread)/\∃f,z.next u=some f/\dj f e=false)
 once:∀l,N l->(G l).Nodup
structure Expl(s0:St)(N:List Ev->Prop)(G:List Ev->List Int)(Z:List Ev->Int->Prop):Prop extends Expl0 s0 N G Z where
 any:∀l t z,N l->Ex s0 l z->z.may t=true->¬Z l t->G l≠[]
 mark:∀l e v z u f,N (l++e::v)->Ex s0 (l++e::v) z->z.next u=some f->u≠e.thread->dj e f=true ->
  (∀j,j<(l++e::v).length->(dd (l++e::v) j).thread=u->hb (l++e::v) l.length j=false)->∀t y,Ex s0 l y->y.may t=true->t∈G l∨Z l t
theorem nE{s:St}{t:Int}(h:s.may t=true):∃e,s.next t=some e:=by
 unfold St.may at h
 split at h
 ·cases h
 ·rename_i i a
  exact⟨_,by unfold St.next;rw[a];rfl⟩
theorem Dx(p:Ev)(w:List Ev):(∀x∈w,dj p x=false)∨∃a e b,w=a++e::b/\(∀x∈a,dj p x=false)/\dj p e=true:=by
 induction w with
 |nil=>exact .inl (by simp)
 |cons x w f=>
  cases d:dj p x
  ·rcases f with h|⟨a,e,b,rfl,g,i⟩
   ·refine .inl (fun y c=>?_)
    rcases List.mem_cons.1 c with rfl|c
    ·exact d
    ·exact h y c
   ·refine .inr ⟨x::a,e,b,rfl,fun y c=>?_,i⟩
    rcases List.mem_cons.1 c with rfl|c
    ·exact d
    ·exact g y c
  ·exact .inr ⟨[],x,w,rfl,by simp,d⟩
theorem K4{P:Int->Prop}{g:List Int}(h:∃t∈g,P t):∃b t c,g=b++t::c/\P t/\∀u∈b,¬P u:=by
 induction g with
 |nil=>obtain⟨t,a,_⟩:=h;cases a
 |cons x g i=>
  by_cases hx:P x
  ·exact⟨[],x,g,rfl,hx,by simp⟩
  ·obtain⟨t,a,f⟩:=h
   have e:t∈g:=by
    rcases List.mem_cons.1 a with rfl|a
    ·exact absurd f hx
    ·exact a
   obtain⟨b,j,c,rfl,k,l⟩:=i ⟨t,e,f⟩;refine⟨x::b,j,c,rfl,k,fun u d=>?_⟩;rcases List.mem_cons.1 d with rfl|d
   ·exact hx
   ·exact l u d
def cu(u:Int)(l:List Ev):Nat:=(l.filter fun e=>decide (e.thread=u)).length
theorem Av(u:Int)(a b:List Ev):cu u (a++b)=cu u a+cu u b:=by unfold cu;rw[filter_append,length_append]
theorem pK(u:Int)(e:Ev)(b:List Ev):cu u (e::b)=(if e.thread=u then 1 else 0)+cu u b:=by
 unfold cu
 by_cases h:e.thread=u
 ·simp[h];omega
 ·simp[h]
theorem Au{u:Int}{l:List Ev}(h:cu u l=0):∀x∈l,x.thread≠u:=by
 unfold cu at h;have:=List.eq_nil_of_length_eq_zero h;rw[List.filter_eq_nil_iff]at this;intro x hx;simpa using this x hx
theorem we(u:Int)(v:List Ev):∀k,k<cu u v->∃a f b,v=a++f::b/\f.thread=u/\cu u a=k:=by
 induction v with
 |nil=>intro k h;simp[cu]at h
 |cons x v e=>
  intro k h;rw[pK]at h
  by_cases hx:x.thread=u
  ·rcases k with _|k
   ·exact⟨[],x,v,rfl,hx,rfl⟩
   ·rw[if_pos hx]at h
    obtain⟨a,f,b,rfl,c,d⟩:=e k (by omega);exact⟨x::a,f,b,rfl,c,by rw[pK,if_pos hx,d];omega⟩
  ·rw[if_neg hx,zero_add]at h
   obtain⟨a,f,b,rfl,c,d⟩:=e k h;exact⟨x::a,f,b,rfl,c,by rw[pK,if_neg hx,d];omega⟩
theorem FT(l:List Ev):(eC l).map Prod.fst=l:=by
 unfold eC;rw[map_map];apply List.ext_getElem?;intro i;rw[List.getElem?_map]
 by_cases h:i<l.length
 ·rw[List.getElem?_range h,List.getElem?_eq_getElem h]
  simp[gt h]
 ·rw[getElem?_eq_none (by simpa using h),getElem?_eq_none (by omega)]
  rfl
theorem sU(l:List Ev)(u:Int):(gK l u).map Prod.fst=l.filter fun e=>decide (e.thread=u):=by
 conv=>rhs;rw[<-FT l,filter_map]
 rfl
theorem ww{a b:List Ev}(h:eh a b)(u:Int):(a.filter fun e=>decide (e.thread=u))=b.filter fun e=>decide (e.thread=u):=by rw[<-sU,<-sU,h]
theorem DP{a b:List Ev}(h:eh a b)(u:Int):cu u a=cu u b:=by unfold cu;rw[ww h]
theorem Lc{u:Int}{a b c d:List Ev}{f g:Ev}(h:((a++f::b).filter fun e=>decide (e.thread=u))=(c++g::d).filter fun e=>decide (e.thread=u))(i:f.thread=u)(j:g.thread=u)(k:cu u a=cu u c):f=g:=by
 rw[filter_append,filter_append,filter_cons_of_pos (by simpa using i),filter_cons_of_pos (by simpa using j)]at h;have:=(List.append_inj h k).2;injection this
theorem tn{g1 g2 h1 h2:List Int}{t:Int}(a:(g1++t::g2).Nodup)(h:g1++t::g2=h1++t::h2):g1=h1:=by
 induction g1 generalizing h1 with
 |nil=>
  rcases h1 with _|⟨x,h1⟩
  ·rfl
  ·exfalso
   rw[nil_append,cons_append]at h;injection h with e1 e2;rw[nil_append,nodup_cons]at a;exact a.1 (by rw[e2];simp)
 |cons x g1 b=>
  rcases h1 with _|⟨y,h1⟩
  ·exfalso
   rw[nil_append,cons_append]at h;injection h with e1 e2;rw[cons_append,nodup_cons]at a;exact a.1 (by rw[e1];simp)
  ·rw[cons_append,cons_append]at h
   injection h with e1 e2;rw[cons_append,nodup_cons]at a;rw[e1,b a.2 e2]
theorem Ax{u:Int}(a b:List Ev):cnt (dq (a++b) u) a.length=cu u a:=by
 have:cnt (dq (a++b) u) a.length=cnt (dq a u) a.length:=mM _ fun i c=>by unfold dq;rw[jw c]
 rw[this,<-jG];unfold cu;rw[<-sU,length_map]
theorem Expl0.below{s0:St}{N:List Ev->Prop}{G:List Ev->List Int}{Z:List Ev->Int->Prop}(E:Expl0 s0 N G Z)(y:List Ev):∀{l:List Ev},N (l++y)->N l:=by
 induction y with
 |nil=>intro l h;rw[append_nil]at h;exact h
 |cons e y a=>
  intro l h;rw[show l++e::y=(l++[e])++y by simp]at h;exact(E.par l e (a h)).1
theorem Expl.cover{F:Nat}{s0:St}(ar:s0.Ok F){N:List Ev->Prop}{G:List Ev->List Int}{Z:List Ev->Int->Prop}(E:Expl s0 N G Z)(n:Nat):∀(l:List Ev) (z:St),N l->Ex s0 l z->z.fuel<=n->∀(w:List Ev) (z1:St),Ex z w z1 ->
  (∀t,od t w->¬Z l t)->∃v y,N (l++v)/\eh v (w++y):=by
 induction n with
 |zero=>
  intro l z hN _ hf w z1 hw _;rcases w with _|⟨x,w⟩
  ·exact⟨[],[],by rw[append_nil];exact hN,eh.refl _⟩
  ·obtain⟨s1,h1,_⟩:=hw
   have:=nl h1;omega
 |succ n ih=>
  intro l z hN hz hf w z1 hw hI;rcases w with _|⟨x,w'⟩
  ·exact⟨[],[],by rw[append_nil];exact hN,eh.refl _⟩
  generalize aC:x::w'=w at *;have M:=hz.ok ar
  obtain⟨t0,ak,X⟩:∃t0,z.may t0=true/\od t0 w:=by
   subst aC;obtain⟨s1,h1,_⟩:=hw;exact⟨x.thread,(hY h1).2.1,[],x,w',rfl,rfl,by simp⟩
  have hG:=E.any l t0 z hN hz ak (hI t0 X);clear aC
  by_cases hA:∃t∈G l,od t w
  ·obtain⟨g1,t,g2,hg,⟨a,p,b,ab,aV,aW⟩,aj⟩:=K4 hA
   subst aV;have aX:p.thread∈G l:=by rw[hg];simp
   have hs:=wv (b:=b) aW;rw[<-ab]at hs;obtain⟨R,r,au⟩:=(rl M hs).1 hw;obtain⟨B,bm,_⟩:=hY r;obtain⟨_,_,Y⟩:=E.kid l p.thread z hN aX hz;have O:=Y p B;have C:Ex s0 (l++[p]) R:=ii.2 ⟨z,hz,R,r,rfl⟩;have aY:=nl r;have ac:R.Ok F:=C.ok ar
   obtain⟨v,y,D,hv⟩:=ih (l++[p]) R O C (by omega) (a++b) z1 au (fun u hu hZ=>by
    obtain⟨aD,H,f,aE,av⟩:=(E.wake l p z u O hz).1 hZ
    have ad:od u w:=by
     obtain⟨a',f',b',J,e2,e3⟩:=hu
     have aZ:f'=f:=by
      rw[J]at au;obtain⟨z3,aw,z4,aF,_⟩:=ii.1 au;have h5:=rp ac aw (u:=u) (fun x hx=>by rw[<-e2];exact Ne.symm (pI (e3 x hx)))
      have h6:=(M.next_step p.thread (u:=u) aD)
      rw[r]at h6;rw[e2]at aF;have h7:=(hY aF).1;rw[h5,h6,aE]at h7;injection h7 with h7;exact h7.symm
     subst aZ;rcases List.append_eq_append_iff.1 J with ⟨c,hc,P⟩|⟨c,hc,P⟩
     ·-- a'=a++c,b=c++f'::b'
      refine⟨a++p::c,f',b',by rw[ab,P];simp,e2,fun x hx=>?_⟩;rcases List.mem_append.1 hx with hx|hx
      ·exact e3 x (by rw[hc];simp[hx])
      ·rcases List.mem_cons.1 hx with rfl|hx
       ·exact av
       ·exact e3 x (by rw[hc];simp[hx])
     ·-- a=a'++c,f'::b'=c++b
      rcases c with _|⟨c0,c⟩
      ·rw[append_nil]at hc
       rw[nil_append]at P;refine⟨a++[p],f',b',by rw[ab,<-P];simp,e2,fun x hx=>?_⟩;rcases List.mem_append.1 hx with hx|hx
       ·exact e3 x (by rw[<-hc];exact hx)
       ·rw[List.mem_singleton.1 hx]
        exact av
      ·rw[cons_append]at P
       injection P with aG hc1';subst aG;exact⟨a',f',c++p::b,by rw[ab,hc];simp,e2,e3⟩
    rcases H with H|⟨a0,a1,T,ae⟩
    ·exact hI u ad H
    ·have U:=E.once l hN
     have:u∈g1:=by
      rw[hg]at U T;have s:=tn U T;rw[s];exact ae
     exact aj u this ad)
   refine⟨p::v,y,by rw[show l++p::v=l++[p]++v by simp];exact D,?_⟩;refine(sz p hv).trans ?_;have:=wu hs.symm y;exact this
  ·-- nobody who is gone into could begin: then all are
   obtain⟨q,g,aH⟩:=List.exists_cons_of_ne_nil hG;have aI:q∈G l:=by rw[aH];simp
   obtain⟨af,_,Y⟩:=E.kid l q z hN aI hz;obtain⟨p,B⟩:=nE af;have a2:=oU B;subst a2;have O:=Y p B;obtain⟨R,r⟩:=next_step B af;have C:Ex s0 (l++[p]) R:=ii.2 ⟨z,hz,R,r,rfl⟩;have aY:=nl r;have ac:R.Ok F:=C.ok ar
   have al:∀a b,w=a++b->∀u,od u a->¬Z (l++[p]) u:=by
    intro a b a3 u hu hZ;obtain⟨aD,H,f,aE,av⟩:=(E.wake l p z u O hz).1 hZ
    have ad:od u w:=by
     obtain⟨a',f',b',J,e2,e3⟩:=hu;exact⟨a',f',b'++b,by rw[a3,J];simp,e2,e3⟩
    rcases H with H|⟨a0,a1,T,ae⟩
    ·exact hI u ad H
    ·have U:=E.once l hN
     rw[aH]at U T;have s:=tn (g1:=[]) (g2:=g) (by simpa using U) T;rw[<-s]at ae
     cases ae
   rcases Dx p w with am|⟨A,e,w2,ax,L,aP⟩
   ·obtain⟨_,_,z',ay,aJ⟩:=Aa M B af hw am
    obtain⟨s1,o,V⟩:=ay;rw[r]at o;injection o with _ o;injection o with _ o;subst o;obtain⟨v,y,D,hv⟩:=ih (l++[p]) R O C (by omega) w z' V (al w [] (by simp));refine⟨p::v,p::y,by rw[show l++p::v=l++[p]++v by simp];exact D,?_⟩;exact(sz p hv).trans (wv (b:=y) am).symm
   ·exfalso
    have an:=hw;rw[ax]at an;obtain⟨zq,ag,z3,aw,_⟩:=ii.1 an;obtain⟨aK,bn,_⟩:=hY aw
    have Q:e.thread≠p.thread:=by
     intro he;have h1:=rp M ag (u:=p.thread) (fun x hx=>Ne.symm (pI (L x hx)));rw[<-he,aK,he,B]at h1;injection h1 with h1;subst h1;exact hA ⟨_,aI,A,_,w2,ax,rfl,L⟩
    obtain⟨n1,m1,aL,ay,aJ⟩:=Aa M B af ag L;obtain⟨s1,o,V⟩:=ay;rw[r]at o;injection o with _ o;injection o with _ o;subst o;have a4:=ag.ok M
    have aa:aL.next e.thread=some e:=by
     obtain⟨bo,aQ,z5,a5,aR⟩:=ii.1 aJ;obtain rfl:=ig ag aQ;have h6:=a4.next_step p.thread (u:=e.thread) Q;rw[a5]at h6;rw[aR,h6];exact aK
    obtain⟨v,y,D,hv⟩:=ih (l++[p]) R O C (by omega) A aL V (al A (e::w2) ax);obtain⟨zr,a6⟩:=E.rows _ D;obtain⟨bp,aS,ah⟩:=ii.1 a6;obtain rfl:=ig C aS;have a7:=(rl ac hv).1 ah;obtain⟨bl,aB,hy⟩:=ii.1 a7;obtain rfl:=ig V aB;have ao:=V.ok ac
    have a8:∃d S z0,v=d++S/\Ex R d z0/\z0.next e.thread=some e/\cu e.thread d=cu e.thread A:=by
     have a9:=DP hv e.thread;rw[Av]at a9
     by_cases hk:cu e.thread y=0
     ·refine⟨v,[],zr,by simp,ah,?_,by omega⟩
      rw[rp ao hy (Au hk),aa]
     ·obtain⟨d,f,S,J,e2,e3⟩:=we e.thread v (cu e.thread A) (by omega)
      obtain⟨y0,g',y1,e4,e5,e6⟩:=we e.thread y 0 (by omega);rw[J]at ah;obtain⟨z0,az,z6,aM,_⟩:=ii.1 ah;rw[e4]at hy;obtain⟨z7,ba,z8,aN,_⟩:=ii.1 hy;have h9:=rp ao ba (Au e6);rw[e5]at aN;have W:=(hY aN).1;rw[h9,aa]at W;injection W with W
      have bb:f=g':=by
       have aA:=ww hv e.thread;rw[J,e4,show A++(y0++g'::y1)=(A++y0)++g'::y1 by simp]at aA;exact Lc aA e2 e5 (by rw[Av,e6,e3];omega)
      rw[e2]at aM;have ai:=(hY aM).1;rw[bb,<-W]at ai;exact⟨d,f::S,z0,J,az,ai,e3⟩
    obtain⟨d,S,z0,J,az,bc,aG⟩:=a8
    have bd:N (l++p::d):=by
     rw[J]at D;rw[show l++[p]++(d++S)=(l++p::d)++S by simp]at D;exact E.below S D
    have bf:Ex s0 (l++p::d) z0:=by
     rw[show l++p::d=(l++[p])++d by simp];exact ii.2 ⟨R,C,az⟩
    have bg:∀j,j<(l++p::d).length->(dd (l++p::d) j).thread=e.thread->hb (l++p::d) l.length j=false:=by
     intro j hj I
     cases hh:hb (l++p::d) l.length j
     ·rfl
     ·exfalso
      have bq:=qY hh
      obtain⟨m,rfl⟩:∃m,j=l.length+m:=⟨j-l.length,by omega⟩
      have h1:=(ug l (p::d) (i:=0) (j:=m)).1 hh;rw[kH]at I;rcases m with _|m
      ·exact Q I.symm
      ·have hm:m<d.length:=by simp at hj;omega
       have h2:hb (p::v) 0 (m+1)=true:=by
        rw[J,show p::(d++S)=(p::d)++S by simp];rw[uh]
        ·exact h1
        ·simp;omega
       have bh:m+1<(p::v).length:=by rw[J];simp;omega
       have bi:dd (p::v) (m+1)=dd (p::d) (m+1):=by
        rw[J,show p::(d++S)=(p::d)++S by simp];exact jw (by simp;omega)
       rw[<-bi]at I;have aT:eh (p::v) (p::(A++y)):=sz p hv
       have ap:0<clk (p::v) (m+1) p.thread:=by
        have h3:=lS.1 h2;have h4:=oT (p::v) 0;have h5:(dd (p::v) 0)=p:=rfl;rw[h5]at h3;omega
       obtain⟨k,hk,aO,bj⟩:=aT.at bh;rw[I]at hk
       have br:k<A.length+1:=by
        apply Classical.byContradiction;intro hn;have h6:=lp (dq (p::(A++y)) e.thread) (show A.length+1<=k by omega)
        have h7:cnt (dq (p::(A++y)) e.thread) (A.length+1)=cu e.thread A:=by
         have h:=Ax (u:=e.thread) (p::A) y;rw[pK,if_neg (Ne.symm Q),zero_add,length_cons,cons_append]at h;exact h
        have h8:cnt (dq (p::v) e.thread) (m+1)<cu e.thread d:=by
         have h9:=l3 (dq (p::v) e.thread) (show m+1<d.length+1 by omega) (j5.2 I)
         have W:cnt (dq (p::v) e.thread) (d.length+1)=cu e.thread d:=by
          have h:=Ax (u:=e.thread) (p::d) S;rw[pK,if_neg (Ne.symm Q),zero_add,length_cons,cons_append]at h;rw[J];exact h
         omega
        have aA:=hk.2.2;omega
       rcases k with _|k
       ·have:dd (p::(A++y)) 0=p:=rfl
        rw[this]at aO;rw[<-aO]at I;exact Q I.symm
       ·rw[<-bj]at ap
        obtain⟨k0,bk,aq⟩:=(uI hk.1).1 ap
        have aU:k0=0:=by
         have ai:At (p::(A++y)) p.thread 0 0:=⟨by simp,j5.2 rfl,rfl⟩
         exact bk.uniq ai
        subst aU;rw[Kq L (by omega)]at aq
        cases aq
    rcases E.mark l p d z0 e.thread e bd bf bc Q aP bg t0 z hz ak with h|h
    ·exact hA ⟨t0,h,X⟩
    ·exact hI t0 X h
theorem pM(s a:List Ev)(u:Int)(k:Nat):cnt (dq (s++a) u) (s.length+k)=cnt (dq s u) s.length+cnt (dq a u) k:=by
 induction k with
 |zero=>exact mM _ fun i b=>by unfold dq;rw[jw b]
 |succ k c=>
  rw[<-Nat.add_assoc,gY,gY,c];have:dq (s++a) u (s.length+k)=dq a u k:=by unfold dq;rw[kH]
  rw[this];omega
theorem A9{s a:List Ev}{u:Int}{m k:Nat}(h:At a u m k):At (s++a) u (cnt (dq s u) s.length+m) (s.length+k):=by
 refine⟨by rw[length_append];have:=h.1;omega,?_,by rw[pM,h.2.2]⟩;have:=h.2.1;unfold dq at this ⊢;rw[kH];exact this
theorem A8{s a:List Ev}{u:Int}{m k:Nat}(h:At (s++a) u (cnt (dq s u) s.length+m) k):∃j,k=s.length+j/\At a u m j:=by
 have c:s.length<=k:=by
  apply Classical.byContradiction;intro d;have e:=l3 (dq (s++a) u) (show k<s.length by omega) h.2.1;have b:=pM s a u 0;rw[Nat.add_zero,rC,Nat.add_zero]at b;have:=h.2.2;omega
 obtain⟨j,rfl⟩:∃j,k=s.length+j:=⟨k-s.length,by omega⟩
 refine⟨j,rfl,by have:=h.1;rw[length_append]at this;omega,?_,?_⟩
 ·have:=h.2.1
  unfold dq at this ⊢;rw[kH]at this;exact this
 ·have:=h.2.2
  rw[pM]at this;omega
theorem Az{s a:List Ev}{i:Nat}(f:i<a.length)(u:Int):clk a i u=clk (s++a) (s.length+i) u-cnt (dq s u) s.length:=by
 have b:∀m,m<clk a i u↔m<clk (s++a) (s.length+i) u-cnt (dq s u) s.length:=by
  intro m;rw[show(m<clk (s++a) (s.length+i) u-cnt (dq s u) s.length)↔(cnt (dq s u) s.length+m<clk (s++a) (s.length+i) u) by omega];rw[uI f,uI (show s.length+i<(s++a).length by rw[length_append];omega)]
  constructor
  ·rintro⟨k,c,d⟩
   exact⟨s.length+k,A9 c,(ug s a).2 d⟩
  ·rintro⟨k,c,d⟩
   obtain⟨j,rfl,g⟩:=A8 c;exact⟨j,g,(ug s a).1 d⟩
 apply Nat.le_antisymm
 ·apply Nat.le_of_not_lt
  intro e;have:=(b _).1 e;omega
 ·apply Nat.le_of_not_lt
  intro e;have:=(b _).2 e;omega
theorem DQ{s a b:List Ev}(h:eh (s++a) (s++b)):eh a b:=by
 intro t
 have q:cnt (dq a t) a.length=cnt (dq b t) b.length:=by
  have r:=h.cnt t;rw[length_append,length_append,pM,pM]at r;omega
 apply List.ext_getElem?;intro j
 by_cases v:j<cnt (dq a t) a.length
 ·obtain⟨i,c⟩:=A' v
  have e:=A9 (s:=s) c;have n:=nw e.1 e.2.1;rw[e.2.2,h]at n;obtain⟨w,f,g,l,m⟩:=oP n;obtain⟨k,rfl,d⟩:=A8 (show At (s++b) t (cnt (dq s t) s.length+j) w from⟨f,g,l⟩);injection m with hk5 hk6;rw[kH,kH]at hk5;have o:=nw c.1 c.2.1;have p:=nw d.1 d.2.1;rw[c.2.2]at o;rw[d.2.2]at p;rw[o,p,hk5];have:clk a i=clk b k:=funext fun u=>by rw[Az (s:=s) c.1,Az (s:=s) d.1,hk6]
  rw[this]
 ·rw[getElem?_eq_none (by rw[jG];omega),getElem?_eq_none (by rw[jG];omega)]
theorem DO{x w:List Ev}{e:Ev}(h:eh (e::x) w):∃a b,w=a++e::b/\∀y∈a,dj e y=false:=by
 have n:=nw (l:=e::x) (t:=e.thread) (i:=0) (by simp) (j5.2 rfl);rw[h,rC]at n;obtain⟨k,p,A,B,c⟩:=oP n;injection c with c hkl;have f:dd w k=e:=c.symm;refine⟨w.take k,w.drop (k+1),by rw[<-f];exact wh p,fun y q=>?_⟩
 cases r:dj e y
 ·rfl
 ·exfalso
  obtain⟨i,s,g⟩:=List.mem_iff_getElem.1 q;rw[length_take]at s;have j:i<w.length:=by omega
  have d:dd w i=y:=by rw[gt j,<-g,List.getElem_take]
  have m:hb w i k=true:=qZ (by omega) (by rw[d,f,lo];exact r);have u:=lS.1 m;rw[d,<-hkl,oT]at u
  by_cases o:y.thread=e.thread
  ·have v:=l3 (dq w e.thread) (show i<k by omega) (j5.2 (by rw[d];exact o))
   omega
  ·have v:clk (e::x) 0 y.thread=0:=by
    unfold clk;rw[gY,rC,if_neg];rw[and_eq_true,j5];rintro⟨_,z⟩;exact o z.symm
   omega
theorem Nq{g:List Int}{a b:Int}(j:a∈g)(hb:b∈g)(i:a≠b):lB g a b∨lB g b a:=by
 induction g with
 |nil=>cases j
 |cons x g k=>
  rcases List.mem_cons.1 j with f|f
  ·rcases List.mem_cons.1 hb with c|c
   ·exact absurd (f.trans c.symm) i
   ·subst f
    obtain⟨d,e,rfl⟩:=List.append_of_mem c;exact .inl ⟨a::d,e,rfl,by simp⟩
  ·rcases List.mem_cons.1 hb with c|c
   ·subst c
    obtain⟨d,e,rfl⟩:=List.append_of_mem f;exact .inr ⟨b::d,e,rfl,by simp⟩
   ·rcases k f c with ⟨d,e,rfl,h⟩|⟨d,e,rfl,h⟩
    ·exact .inl ⟨x::d,e,rfl,by simp[h]⟩
    ·exact .inr ⟨x::d,e,rfl,by simp[h]⟩
theorem K5:∀{v w:List Ev},v.length=w.length->v≠w->∃s e f x y,v=s++e::x/\w=s++f::y/\e≠f:=by
 intro v
 induction v with
 |nil=>
  intro w b a;obtain rfl:=List.eq_nil_of_length_eq_zero b.symm;exact absurd rfl a
 |cons e v d=>
  intro w b a;rcases w with _|⟨f,w⟩
  ·simp at b
  ·by_cases c:e=f
   ·subst c
    obtain⟨s,g,i,x,y,rfl,rfl,h⟩:=d (by simpa using b) (fun h=>a (by rw[h]));exact⟨e::s,g,i,x,y,rfl,rfl,h⟩
   ·exact⟨[],e,f,v,w,rfl,rfl,c⟩
section
variable{F:Nat}{s0:St}{N:List Ev->Prop}{G:List Ev->List Int}{Z:List Ev->Int->Prop}
theorem Expl0.step(E:Expl0 s0 N G Z){l:List Ev}{e:Ev}(h:N (l++[e])):∃z a,Ex s0 l z/\z.step e.thread=(0,e,a)/\Ex s0 (l++[e]) a:=by
 obtain⟨a,b⟩:=E.rows _ h;obtain⟨z,c,d,f,g⟩:=ii.1 b;obtain rfl:a=d:=g;exact⟨z,a,c,f,b⟩
theorem Expl0.head(E:Expl0 s0 N G Z){l y:List Ev}{e:Ev}(h:N (l++e::y)):N (l++[e]):=by
 rw[show l++e::y=(l++[e])++y by simp]at h;exact E.below y h
theorem Expl0.stays(j:s0.Ok F)(E:Expl0 s0 N G Z){e:Ev}{b:List Ev}(r:List Ev):∀{l:List Ev} {z:St},N (l++(r++e::b))->Ex s0 l z->z.next e.thread=some e->Z l e.thread->(∀y∈r,dj e y=false)->False:=by
 induction r with
 |nil=>
  intro l z a c _ i _;have h:=E.head a;obtain⟨t,v⟩:=E.par l e h;exact(E.kid l e.thread z t v c).2.1 i
 |cons g r w=>
  intro l z a c p i q;rw[cons_append]at a;have h:=E.head a;obtain⟨B,x,k,m,n⟩:=E.step h;obtain rfl:=ig c k;have d:=q g (by simp);have f:e.thread≠g.thread:=pI d
  have o:x.next e.thread=some e:=by
   have s:=(c.ok j).next_step g.thread (u:=e.thread) f;rw[m]at s;rw[s];exact p
  rw[show l++g::(r++e::b)=(l++[g])++(r++e::b) by simp]at a;exact w a n o ((E.wake l g z e.thread h c).2 ⟨f,.inl i,e,p,d⟩) (fun y A=>q y (by simp[A]))
theorem Expl0.not_two(g:s0.Ok F)(E:Expl0 s0 N G Z){s:List Ev}{e f:Ev}{x y:List Ev}(h1:N (s++e::x))(h2:N (s++f::y))(t:eh (e::x) (f::y))(c:e.thread≠f.thread)(v:lB (G s) e.thread f.thread):False:=by
 obtain⟨a,b,d,o⟩:=DO t;rcases a with _|⟨C,a⟩
 ·rw[nil_append]at d
  injection d with d _;exact c (by rw[d])
 ·rw[cons_append]at d
  injection d with hw1 hw2;subst hw1 hw2;have w:=E.head h1;have p:=E.head h2;obtain⟨z,D,i,j,_⟩:=E.step w;obtain⟨H,A,k,h,l⟩:=E.step p;obtain rfl:=ig i k;have q:=(hY j).1;have m:=o f (by simp)
  have n:A.next e.thread=some e:=by
   have r:=(i.ok g).next_step f.thread (u:=e.thread) c;rw[h]at r;rw[r];exact q
  rw[show s++f::(a++e::b)=(s++[f])++(a++e::b) by simp]at h2;exact E.stays g a h2 l n ((E.wake s f z e.thread p i).2 ⟨c,.inr v,e,q,m⟩) (fun y B=>o y (by simp[B]))
theorem Expl0.only(c:s0.Ok F)(E:Expl0 s0 N G Z){v w:List Ev}(g:N v)(i:N w)(h:eh v w):v=w:=by
 apply Classical.byContradiction;intro k;obtain⟨s,e,f,x,y,rfl,rfl,l⟩:=K5 (DM h) k;have n:=DQ h;have o:=E.head g;have p:=E.head i;obtain⟨z,r,q,a,_⟩:=E.step o;obtain⟨t,u,m,d,_⟩:=E.step p;obtain rfl:=ig q m
 have b:e.thread≠f.thread:=by
  intro b;rw[b,d]at a;injection a with _ a;injection a with a _;exact l a.symm
 rcases Nq (E.par s e o).2 (E.par s f p).2 b with j|j
 ·exact E.not_two c g i n b j
 ·exact E.not_two c i g n.symm (Ne.symm b) j
def Bm(s0:St)(w:List Ev):Prop:=∃z,Ex s0 w z/\∀t,z.may t=false
theorem Expl.ends(a:s0.Ok F)(E:Expl s0 N G Z){w:List Ev}(h:Bm s0 w):∃v,N v/\Bm s0 v/\eh v w/\∀f,N f->eh f w->f=v:=by
 obtain⟨z,i,b⟩:=h;obtain⟨v,y,g,c⟩:=E.cover a s0.fuel [] s0 E.root rfl (le_refl _) w z i (fun t _=>E.calm t);rw[nil_append]at g;obtain⟨q,j⟩:=E.rows v g;obtain⟨r,k,o⟩:=ii.1 ((rl a c).1 j);obtain rfl:=ig i k
 have d:y=[]:=by
  rcases y with _|⟨e,y⟩
  ·rfl
  ·exfalso
   obtain⟨s,p,_⟩:=o;have:=(hY p).2.1;rw[b]at this
   cases this
 subst d;rw[append_nil]at c;have l:=(rl a c).2 i;exact⟨v,g,⟨z,l,b⟩,c,fun f m n=>E.only a m g (n.trans c.symm)⟩
end
structure Nd where
 row:List Ev
 z:Int->Bool
 g:List Int
structure TreeOk(s0:St)(T:List Nd):Prop where
 nodup:(T.map Nd.row).Nodup
 root:∃n∈T,n.row=[]/\∀t,n.z t=false
 rows:∀n∈T,∃z,Ex s0 n.row z
 par:∀n∈T,∀l e,n.row=l++[e]->∃a∈T,a.row=l/\e.thread∈a.g
 kid:∀n∈T,∀t∈n.g,∃z e z1,Ex s0 n.row z/\z.step t=(0,e,z1)/\n.z t=false/\∃b∈T,b.row=n.row++[e]
 wake:∀n∈T,∀b∈T,∀e z,b.row=n.row++[e]->Ex s0 n.row z->∀u,(b.z u=true↔u≠e.thread/\(n.z u=true∨lB n.g u e.thread)/\∃f,z.next u=some f/\dj f e=false)
 once:∀n∈T,n.g.Nodup
theorem G8{T:List Nd}(h:(T.map Nd.row).Nodup){a b:Nd}(f:a∈T)(hb:b∈T)(e:a.row=b.row):a=b:=by
 induction T with
 |nil=>cases f
 |cons x T g=>
  rw[map_cons,nodup_cons]at h;rcases List.mem_cons.1 f with rfl|d
  ·rcases List.mem_cons.1 hb with rfl|c
   ·rfl
   ·exact absurd (List.mem_map.2 ⟨b,c,e.symm⟩) h.1
  ·rcases List.mem_cons.1 hb with rfl|c
   ·exact absurd (List.mem_map.2 ⟨a,d,e⟩) h.1
   ·exact g h.2 d c
theorem TreeOk.uniq{s0:St}{T:List Nd}(h:TreeOk s0 T){a b:Nd}(c:a∈T)(hb:b∈T)(e:a.row=b.row):a=b:=G8 h.nodup c hb e
theorem vD(s0:St):TreeOk s0 [⟨[],fun _=>false,[]⟩]:=by
 refine⟨by simp,⟨_,List.mem_singleton.2 rfl,rfl,fun _=>rfl⟩,fun n a=>?_,fun n a l e h=>?_,fun n a t c=>?_,fun n a b hb e z h=>?_,fun n a=>?_⟩
 ·obtain rfl:=List.mem_singleton.1 a
  exact⟨s0,rfl⟩
 ·obtain rfl:=List.mem_singleton.1 a
  simp at h
 ·obtain rfl:=List.mem_singleton.1 a
  cases c
 ·obtain rfl:=List.mem_singleton.1 hb
  simp at h
 ·obtain rfl:=List.mem_singleton.1 a
  exact nodup_nil
def fE(r:List Ev)(t:Int)(a:Nd):Nd:=if a.row=r then { a with g:=a.g++[t] }else a
theorem fp(r:List Ev)(t:Int)(a:Nd):(fE r t a).row=a.row:=by unfold fE;split <;> rfl
theorem jD(r:List Ev)(t:Int)(a:Nd):(fE r t a).z=a.z:=by unfold fE;split <;> rfl
theorem kS(r:List Ev)(t:Int)(a:Nd):(fE r t a).g=if a.row=r then a.g++[t]else a.g:=by unfold fE;split <;> rfl
def gE(T:List Nd)(r:List Ev)(t:Int)(x:Nd):List Nd:=T.map (fE r t)++[x]
theorem fS{T:List Nd}{r:List Ev}{t:Int}{x b:Nd}:b∈gE T r t x↔(∃a∈T,b=fE r t a)∨b=x:=by
 unfold gE;rw[mem_append,mem_singleton,List.mem_map]
 constructor
 ·rintro (⟨a,c,rfl⟩|h)
  ·exact .inl ⟨a,c,rfl⟩
  ·exact .inr h
 ·rintro (⟨a,c,rfl⟩|h)
  ·exact .inl ⟨a,c,rfl⟩
  ·exact .inr h
theorem Np{g:List Int}{t u v:Int}(k:(g++[t]).Nodup)(l:v∈g):lB (g++[t]) u v↔lB g u v:=by
 have h:v≠t:=by
  intro e;subst e;have:=(List.nodup_append.1 k).2.2 v l v (by simp);exact this rfl
 constructor
 ·rintro⟨a,b,i,c⟩
  rcases List.eq_nil_or_concat b with rfl|⟨j,w,rfl⟩
  ·have d:g++[t]=a++[v]:=i
   have:=append_inj' d rfl;have f:=this.2;injection f with f;exact absurd f.symm h
  ·have d:g++[t]=(a++v::j)++[w]:=by rw[i];simp
   have:=(append_inj' d rfl).1;exact⟨a,j,this,c⟩
 ·rintro⟨a,b,rfl,c⟩
  exact⟨a,b++[t],by simp,c⟩
theorem Nr{g:List Int}{t u:Int}(a:(g++[t]).Nodup):lB (g++[t]) u t↔u∈g:=by
 constructor
 ·rintro⟨g1,g2,h1,h2⟩
  have:=tn (g1:=g) (g2:=[]) (h1:=g1) (h2:=g2) (t:=t) a h1;rw[this];exact h2
 ·intro h
  exact⟨g,[],rfl,h⟩
theorem TreeOk.grow{s0:St}{T:List Nd}(h:TreeOk s0 T){n:Nd}(s:n∈T){t:Int}(S:t∉n.g)(V:n.z t=false){z z1:St}{e:Ev}(hx:Ex s0 n.row z)(J:z.step t=(0,e,z1)){x:Nd}(G:x.row=n.row++[e])(U:x.g=[])
  (W:∀u,x.z u=true↔u≠t/\(n.z u=true∨u∈n.g)/\∃f,z.next u=some f/\dj f e=false):TreeOk s0 (gE T n.row t x):=by
 have w:e.thread=t:=(hY J).2.2
 have m:∀b∈T,b.row≠n.row++[e]:=by
  intro b hb d;obtain⟨a,j,i,H⟩:=h.par b hb _ _ d;obtain rfl:=h.uniq j s i;rw[w]at H;exact S H
 have C:(n.g++[t]).Nodup:=by
  rw[nodup_append];refine⟨h.once n s,by simp,?_⟩;intro a j b hb e;rw[mem_singleton]at hb;subst hb e;exact S j
 have q:∀a∈T,a.row=n.row->(fE n.row t a).g=n.g++[t]:=fun a j i=>by
  obtain rfl:=h.uniq j s i;rw[kS,if_pos rfl]
 have D:∀a∈T,a.row≠n.row->(fE n.row t a).g=a.g:=fun a _ i=>by rw[kS,if_neg i]
 have N:∀a∈T,∀v∈a.g,v∈(fE n.row t a).g:=fun a j v o=>by
  rw[kS]
  split
  ·exact List.mem_append.2 (.inl o)
  ·exact o
 refine⟨?_,?_,?_,?_,?_,?_,?_⟩
 ·unfold gE
  rw[List.map_append,map_map];have X:(Nd.row ∘ fE n.row t)=Nd.row:=by funext a;exact fp _ _ _
  rw[X,nodup_append];refine⟨h.nodup,by simp,?_⟩;intro a j b hb Y;simp at hb;subst hb Y;obtain⟨c,p,k⟩:=List.mem_map.1 j;exact m c p (k.trans G)
 ·obtain⟨r,O,P,Q⟩:=h.root
  exact⟨_,fS.2 (.inl ⟨r,O,rfl⟩),by rw[fp];exact P,fun t=>by rw[jD];exact Q t⟩
 ·intro b hb
  rcases fS.1 hb with ⟨a,j,rfl⟩|rfl
  ·rw[fp];exact h.rows a j
  ·rw[G]
   exact⟨z1,ii.2 ⟨z,hx,z1,by rw[w];exact J,rfl⟩⟩
 ·intro b hb l L d
  rcases fS.1 hb with ⟨a,j,rfl⟩|rfl
  ·rw[fp]at d
   obtain⟨c,p,k,E⟩:=h.par a j l L d;exact⟨_,fS.2 (.inl ⟨c,p,rfl⟩),by rw[fp];exact k,N c p _ E⟩
  ·rw[G]at d
   have:=append_inj' d rfl;obtain⟨M,B⟩:=this;injection B with B;subst M B;exact⟨_,fS.2 (.inl ⟨n,s,rfl⟩),fp _ _ _,by rw[q n s rfl,w];simp⟩
 ·intro b hb v o
  rcases fS.1 hb with ⟨a,j,rfl⟩|rfl
  ·rw[fp,jD]
   have A:v∈a.g->∃z e z1,Ex s0 a.row z/\z.step v=(0,e,z1)/\a.z v=false/\∃b∈gE T n.row t x,b.row=a.row++[e]:=fun o=>by
    obtain⟨y,f,Z,g1,g2,g3,c,p,g4⟩:=h.kid a j v o;exact⟨y,f,Z,g1,g2,g3,_,fS.2 (.inl ⟨c,p,rfl⟩),by rw[fp];exact g4⟩
   by_cases i:a.row=n.row
   ·rw[q a j i,mem_append,mem_singleton]at o
    obtain rfl:=h.uniq j s i;rcases o with o|rfl
    ·exact A o
    ·exact⟨z,e,z1,hx,J,V,x,fS.2 (.inr rfl),G⟩
   ·rw[D a j i]at o
    exact A o
  ·rw[U]at o
   cases o
 ·intro a' R b' I L y d F u
  rcases fS.1 R with ⟨a,j,rfl⟩|rfl
  ·rw[fp]at d F
   rw[jD];rcases fS.1 I with ⟨b,hb,rfl⟩|rfl
   ·rw[fp]at d
    rw[jD,h.wake a j b hb L y d F u]
    by_cases i:a.row=n.row
    ·obtain⟨c,p,k,E⟩:=h.par b hb _ _ d
     obtain rfl:=h.uniq p j k;rw[q c p i];obtain rfl:=h.uniq p s i;rw[Np C E]
    ·rw[D a j i]
   ·rw[G]at d
    obtain⟨M,B⟩:=append_inj' d rfl;injection B with B;obtain rfl:=h.uniq s j M;subst B;obtain rfl:=ig hx F;rw[q n s rfl,W u,w,Nr C]
  ·rcases fS.1 I with ⟨b,hb,rfl⟩|rfl
   ·rw[fp]at d
    obtain⟨c,p,k,_⟩:=h.par b hb _ _ d;exact absurd (k.trans G) (m c p)
   ·exact absurd (congrArg List.length d) (by simp)
 ·intro b hb
  rcases fS.1 hb with ⟨a,j,rfl⟩|rfl
  ·by_cases i:a.row=n.row
   ·rw[q a j i];exact C
   ·rw[D a j i];exact h.once a j
  ·rw[U];exact nodup_nil
def TN(T:List Nd)(l:List Ev):Prop:=∃n∈T,n.row=l
def TG(T:List Nd)(l:List Ev):List Int:=match T.find? fun n=>decide (n.row=l)with
 |none=>[]
 |some n=>n.g
def TZ(T:List Nd)(l:List Ev)(t:Int):Prop:=∃n∈T,n.row=l/\n.z t=true
theorem TreeOk.tg{s0:St}{T:List Nd}(h:TreeOk s0 T){n:Nd}(b:n∈T):TG T n.row=n.g:=by
 unfold TG
 cases a:T.find? fun m=>decide (m.row=n.row)with
 |none=>
  have:=List.find?_eq_none.1 a n b;simp at this
 |some m=>
  have c:=List.find?_some a;have d:=List.mem_of_find?_eq_some a;rw[decide_eq_true_eq]at c;rw[h.uniq d b c]
theorem TreeOk.tz{s0:St}{T:List Nd}(h:TreeOk s0 T){n:Nd}(b:n∈T)(t:Int):TZ T n.row t↔n.z t=true:=by
 constructor
 ·rintro⟨m,c,d,a⟩
  rw[<-h.uniq c b d];exact a
 ·intro a
  exact⟨n,b,rfl,a⟩
structure TreeDone(s0:St)(T:List Nd):Prop where
 any:∀n∈T,∀z t,Ex s0 n.row z->z.may t=true->n.z t=false->n.g≠[]
 mark:∀b∈T,∀n∈T,∀e v z u f,b.row=n.row++e::v->Ex s0 b.row z->z.next u=some f->u≠e.thread->dj e f=true ->
  (∀j,j<b.row.length->(dd b.row j).thread=u->hb b.row n.row.length j=false)->∀t y,Ex s0 n.row y->y.may t=true->t∈n.g∨n.z t=true
theorem TreeOk.expl0{s0:St}{T:List Nd}(h:TreeOk s0 T):Expl0 s0 (TN T) (TG T) (TZ T):=by
 refine⟨?_,?_,?_,?_,?_,?_,?_⟩
 ·obtain⟨n,c,j,_⟩:=h.root
  exact⟨n,c,j⟩
 ·rintro t⟨n,c,j,k⟩
  obtain⟨m,v,o,p⟩:=h.root;obtain rfl:=h.uniq c v (j.trans o.symm);rw[p t]at k
  cases k
 ·rintro l⟨n,c,rfl⟩
  exact h.rows n c
 ·rintro l e⟨n,c,j⟩
  obtain⟨a,i,d,q⟩:=h.par n c l e j;exact⟨⟨a,i,d⟩,by rw[<-d,h.tg i];exact q⟩
 ·rintro l t z⟨n,c,rfl⟩ r hx
  rw[h.tg c]at r;obtain⟨y,e,C,w,s,x,b,hb,A⟩:=h.kid n c t r;obtain rfl:=ig w hx;refine⟨(hY s).2.1,fun k=>?_,fun D f=>?_⟩
  ·rw[h.tz c,x]at k
   cases k
  ·rw[(hY s).1]at f
   injection f with f;subst f;exact⟨b,hb,A⟩
 ·rintro l e z u⟨b,hb,g⟩ hx
  obtain⟨a,i,d,_⟩:=h.par b hb l e g;subst d;have B:=h.wake a i b hb e z g hx u;rw[<-g,h.tz hb,B,h.tz i,h.tg i]
 ·rintro l⟨n,c,rfl⟩
  rw[h.tg c];exact h.once n c
theorem TreeOk.expl{s0:St}{T:List Nd}(h:TreeOk s0 T)(B:TreeDone s0 T):Expl s0 (TN T) (TG T) (TZ T):=by
 refine⟨h.expl0,?_,?_⟩
 ·rintro l t z⟨n,d,rfl⟩ hx p C
  rw[h.tg d];refine B.any n d z t hx p ?_;rw[h.tz d]at C;simpa using C
 ·rintro l e v z u f D hx q E r m t y F p
  obtain⟨b,hb,g⟩:=D
  have s:∀w:List Ev,∀k,(∃c∈T,c.row=k++w)->∃c∈T,c.row=k:=by
   intro w
   induction w with
   |nil=>intro k o;rw[append_nil]at o;exact o
   |cons e w G=>
    rintro k o
    have x:∃c∈T,c.row=(k++[e])++w:=by
     obtain⟨c,i,j⟩:=o;exact⟨c,i,by rw[j];simp⟩
    obtain⟨c,i,j⟩:=G _ x;obtain⟨a,H,A,_⟩:=h.par c i _ _ j;exact⟨a,H,A⟩
  obtain⟨n,d,rfl⟩:=s (e::v) l ⟨b,hb,g⟩;rw[h.tg d,h.tz d];rw[<-g]at hx m;exact B.mark b hb n d e v z u f g hx q E r m t y F p
theorem x8{A:Type}[DecidableEq A]:∀{a b:List A},a.Nodup->(∀x∈a,x∈b)->a.length<=b.length:=by
 intro a
 induction a with
 |nil=>intro b _ _;exact Nat.zero_le _
 |cons x a d=>
  intro b f h;obtain⟨g,i⟩:=List.nodup_cons.1 f;have hx:=h x mem_cons_self;have j:=d (b:=b.erase x) i fun y c=>(List.mem_erase_of_ne (fun e=>g (by rw[<-e];exact c))).2 (h y (mem_cons_of_mem _ c))
  rw[List.length_erase_of_mem hx]at j;have:=List.length_pos_of_mem hx;rw[length_cons];omega

theorem qN{s:St}{t:Int}{e:Ev}{s1:St}(h:s.step t=(0,e,s1)):t∈s.all:=by
 obtain⟨i,a,b,_,_⟩:=St.step_ok0 h;have c:=(St.ins_has a).1;unfold St.has at c;unfold St.all;refine List.mem_filter.2 ⟨List.mem_map.2 ⟨t.toNat,List.mem_range.2 (by omega),?_⟩,b⟩;show((t.toNat:Nat):Int)=t;omega
theorem Ic{n:Nat}:∀{l:List Ev} {s z:St} (a:List Ev),Ex s l z->z.all=[]->s.fuel<=n->(z,a++l)∈s.runs n a:=by
 induction n with
 |zero=>
  intro l s z a h c g
  cases l with
  |nil=>obtain rfl:=h;rw[append_nil,(oG 0 z a c).1];exact List.mem_singleton.2 rfl
  |cons e l=>
   obtain⟨i,b,_⟩:=h;have:=nl b;omega
 |succ n j=>
  intro l s z a h c g
  cases l with
  |nil=>obtain rfl:=h;rw[append_nil,(oG (n+1) z a c).1];exact List.mem_singleton.2 rfl
  |cons e l=>
   obtain⟨i,b,k⟩:=h;have m:=nl b;have f:=qN b;have d:s.all≠[]:=ne_nil_of_mem f;show _∈(if s.all=[]then _ else _:List (St × List Ev));rw[if_neg d,mem_flatMap];refine⟨e.thread,f,?_⟩;rw[b];have:=j (a++[e]) k c (by omega)
   rwa [append_assoc]at this
theorem Ll{s z z1:St}{l:List Ev}{e:Ev}{t:Int}(h:Ex s l z)(h1:z.step t=(0,e,z1)):Ex s (l++[e]) z1:=by
 have a:=(hY h1).2.2;exact ii.2 ⟨z,h,z1,by rw[a];exact h1,rfl⟩
theorem K6{p:Pg}{fuel:Int}{z:St}{row:List Ev}{F:Nat}(b:(s0 p fuel).Ok F)(h:Ex (s0 p fuel) row z)(c:z.all=[]):eE row∈dG (eD (ek p fuel)):=by
 have d:=mE b;have a:=Ic (n:=33) [] h c (by omega);rw[nil_append]at a;exact yn.2 (List.mem_map.2 ⟨_,a,rfl⟩)
theorem pB{l:List Ev}:∀{s z:St},Ex s l z->l.length+z.fuel=s.fuel:=by
 induction l with
 |nil=>intro s z h;rw[h];simp
 |cons e l a=>
  rintro s z⟨d,b,c⟩;have:=a c;have:=nl b;rw[length_cons];omega
def jl(s:St):Bool:=(List.range s.ts.length).any fun t=>(s.next t).isSome
def lC(s:St)(k:Nat):Bool:=(List.range k).any fun t=>(s.next t).isSome
theorem B5(s:St)(k:Nat):lC s (k+1)=(lC s k||(s.next k).isSome):=by
 unfold lC;rw[List.range_succ,List.any_append];simp
def iN(l:rS):Nat:=(l.filter fun x=>jl x.1).length

theorem wC(n:Nat):∀(s:St) (a:List Ev) (x:St × List Ev),x∈s.runs n a->∃l,x.2=a++l/\Ex s l x.1:=by
 induction n with
 |zero=>
  intro s a x hx;obtain rfl:=List.mem_singleton.1 hx;exact⟨[],(append_nil _).symm,rfl⟩
 |succ n i=>
  intro s a x hx
  by_cases h:s.all=[]
  ·rw[(oG (n+1) s a h).1]at hx
   obtain rfl:=List.mem_singleton.1 hx;exact⟨[],(append_nil _).symm,rfl⟩
  ·have b:x∈(if s.all=[]then [(s,a)]else s.all.flatMap fun t=>St.runs n (s.step t).2.2 (a++[(s.step t).2.1])):=hx
   rw[if_neg h,mem_flatMap]at b;obtain⟨t,d,c⟩:=b;obtain⟨e,g,f,m⟩:=rL d;rw[f]at c;obtain⟨l,j,k⟩:=i g _ x c;have d:=(hY f).2.2;exact⟨e::l,by rw[j,append_assoc];rfl,g,by rw[d];exact f,k⟩
theorem rm{F:Nat}{l:List Ev}:∀{s z:St},s.Ok F->Ex s l z->dJ l=true:=by
 induction l with
 |nil=>intro s z _ _;rfl
 |cons e l d=>
  rintro s z b⟨g,c,f⟩;have a:=b.step_ok e.thread;rw[c]at a;rw[wI,List.all_cons,and_eq_true];exact⟨Ac b c,d a f⟩
theorem DZ{F:Nat}{s:St}(a:s.Ok F){n:Nat}{x:St × List Ev}(h:x∈s.runs n []):dJ x.2=true/\x.2.length<=200:=by
 obtain⟨l,b,c⟩:=wC n s [] x h;rw[nil_append]at b;rw[b];have:=pB c;have:=mE a;exact⟨rm a c,by omega⟩
theorem yX{a b:List Ev}(d:dJ a=true)(hb:dJ b=true)(e:a.length<=200)(c:b.length<=200):eE a=eE b↔eh a b:=by
 unfold eE;rw[Jz d e c];exact⟨fun h=>h.2.2,fun h=>⟨d,hb,h⟩⟩
theorem De(s:St)(t:Int):(s.step t).2.2.p=s.p:=by
 rcases s.step_cases t with ⟨i,_,_,e⟩|⟨e,_,a⟩
 ·rw[e];rfl
 ·rw[a]
theorem D0(n:Nat):∀(s:St) (a:List Ev) (x:St × List Ev),x∈s.runs n a->s.fuel<=n->x.1.all=[]/\x.1.p=s.p:=by
 induction n with
 |zero=>
  intro s a x hx g;obtain rfl:=List.mem_singleton.1 hx;exact⟨Bd (s:=s) (by omega),rfl⟩
 |succ n i=>
  intro s a x hx g
  by_cases h:s.all=[]
  ·rw[(oG (n+1) s a h).1]at hx
   obtain rfl:=List.mem_singleton.1 hx;exact⟨h,rfl⟩
  ·have b:x∈(if s.all=[]then [(s,a)]else s.all.flatMap fun t=>St.runs n (s.step t).2.2 (a++[(s.step t).2.1])):=hx
   rw[if_neg h,mem_flatMap]at b;obtain⟨t,j,c⟩:=b;obtain⟨e,k,d,o⟩:=rL j;rw[d]at c;have f:=De s t;rw[d]at f;obtain⟨l,m⟩:=i k _ x c (by omega);exact⟨l,m.trans f⟩
def fe(s:St)(row:List Ev):St:=row.foldl (fun s e=>(s.step e.thread).2.2) s
theorem pC{row:List Ev}:∀{s z:St},Ex s row z->z=fe s row:=by
 induction row with
 |nil=>intro s z h;exact h
 |cons e row a=>
  rintro s z⟨d,b,c⟩;have:=a c;rw[this];show _=fe (s.step e.thread).2.2 row;rw[b]
theorem Be{s:St}:s.all=[]↔∀t,s.may t=false:=by
 constructor
 ·intro h t
  rw[Bool.eq_false_iff];intro a;obtain⟨e,c⟩:=nE a;obtain⟨f,d⟩:=next_step c a;have:=qN d;rw[h]at this
  cases this
 ·intro h
  rw[List.eq_nil_iff_forall_not_mem];intro t b;unfold St.all at b;have:=(List.mem_filter.1 b).2;rw[h]at this
  cases this
def je(s0:St)(T:List Nd):List Nd:=T.filter fun n=>decide ((fe s0 n.row).all=[])
def gi(s0:St)(T:List Nd):List dk:=(je s0 T).map fun n=>eE n.row
section
variable{p:Pg}{fuel:Int}{F:Nat}{T:List Nd}
theorem sD{s0:St}(a:s0.Ok F)(h:TreeOk s0 T){n:Nd}(c:n∈T):dJ n.row=true/\n.row.length<=200:=by
 obtain⟨z,b⟩:=h.rows n c;have:=pB b;have:=mE a;exact⟨rm a b,by omega⟩
theorem G'{A B:Type}{f:A->B}{l:List A}(c:l.Nodup)(h:∀x∈l,∀y∈l,f x=f y->x=y):(l.map f).Nodup:=by
 induction l with
 |nil=>exact nodup_nil
 |cons a l d=>
  obtain⟨g,i⟩:=List.nodup_cons.1 c;rw[map_cons,nodup_cons];refine⟨fun j=>?_,d i fun x hx y k=>h x (mem_cons_of_mem _ hx) y (mem_cons_of_mem _ k)⟩;obtain⟨b,hb,e⟩:=List.mem_map.1 j;obtain rfl:=h b (mem_cons_of_mem _ hb) a mem_cons_self e;exact g hb
theorem G9{A B:Type}{f:A->B}{l:List A}(h:(l.map f).Nodup):l.Nodup:=by
 induction l with
 |nil=>exact nodup_nil
 |cons a l b=>
  rw[map_cons,nodup_cons]at h;exact List.nodup_cons.2 ⟨fun c=>h.1 (List.mem_map.2 ⟨a,c,rfl⟩),b h.2⟩
theorem tU{s0:St}(c:s0.Ok F)(h:TreeOk s0 T):(gi s0 T).Nodup:=by
 unfold gi;refine G' ((G9 h.nodup).filter _) fun x hx y d e=>?_
 have a:=(List.mem_filter.1 hx).1;have b:=(List.mem_filter.1 d).1;obtain⟨f,g⟩:=sD c h a;obtain⟨i,j⟩:=sD c h b;have k:=(yX f i g j).1 e;exact h.uniq a b (h.expl0.only c ⟨x,a,rfl⟩ ⟨y,b,rfl⟩ k)
theorem tT(g:(s0 p fuel).Ok F)(h:TreeOk (s0 p fuel) T){k:dk}(e:k∈gi (s0 p fuel) T):k∈eD (ek p fuel):=by
 unfold gi at e;obtain⟨n,i,rfl⟩:=List.mem_map.1 e;obtain⟨c,b⟩:=List.mem_filter.1 i;rw[decide_eq_true_eq]at b;obtain⟨z,f⟩:=h.rows n c;have d:=pC f;rw[<-d]at b;exact yn.1 (K6 g f b)
theorem Jt(c:(s0 p fuel).Ok F)(h:TreeOk (s0 p fuel) T)(o:TreeDone (s0 p fuel) T){k:dk}(g:k∈eD (ek p fuel)):k∈gi (s0 p fuel) T:=by
 unfold eD at g;obtain⟨x,hx,rfl⟩:=List.mem_map.1 g;have t:=mE c;obtain⟨d,_⟩:=D0 33 (s0 p fuel) [] x hx (by omega);obtain⟨l,a,e⟩:=wC 33 (s0 p fuel) [] x hx;rw[nil_append]at a;obtain⟨v,⟨n,i,rfl⟩,⟨z,q,f⟩,b,_⟩:=(h.expl o).ends c ⟨x.1,e,Be.1 d⟩;obtain⟨r,s⟩:=sD c h i;obtain⟨j,m⟩:=DZ c hx;rw[a]at j m ⊢;rw[(yX j r m s).2 b.symm];unfold gi;refine List.mem_map.2 ⟨n,List.mem_filter.2 ⟨i,?_⟩,rfl⟩;rw[decide_eq_true_eq,<-pC q];exact Be.2 f
theorem Aq{l:List dk}(h:l.Nodup):jN l=l:=by
 induction l with
 |nil=>rfl
 |cons x l a=>
  obtain⟨b,c⟩:=List.nodup_cons.1 h;rw[jN,if_neg b,a c]
theorem su{l:List dk}(h:l.Nodup):(dG l).length=l.length:=by rw[DG,Aq h]
theorem wm{a b:List dk}(h:∀x,x∈a↔x∈b):dG a=dG b:=by
 have c:=List.perm_ext_iff_of_nodup (nB a) (nB b);unfold dG;exact(DF (ks:=b) (nB a) (fun x=>by rw[nD];exact h x)).trans rfl
theorem yT(c:(s0 p fuel).Ok F)(h:TreeOk (s0 p fuel) T)(d:TreeDone (s0 p fuel) T):dG (gi (s0 p fuel) T)=dG (eD (ek p fuel))/\(gi (s0 p fuel) T).length=(dG (eD (ek p fuel))).length:=by
 have e:=wm (a:=gi (s0 p fuel) T) (b:=eD (ek p fuel)) fun x=>⟨tT c h,Jt c h d⟩
 exact⟨e,by rw[<-e,su (tU c h)]⟩
def qC:Nat->St->List Ev->List (List Ev)
 |0,_,a=>[a]
 |n+1,s,a=>a::s.all.flatMap fun t=>qC n (s.step t).2.2 (a++[(s.step t).2.1])
theorem FX(n:Nat):∀(s:St) (a:List Ev),(qC n s a).length=s.pre n:=by
 induction n with
 |zero=>intro s a;rfl
 |succ n b=>
  intro s a;show(a::_).length=1+_;rw[length_cons,List.length_flatMap,Nat.add_comm]
  congr 2
  apply List.map_congr_left;intro t _;exact b _ _
theorem Ih{n:Nat}:∀{l:List Ev} {s z:St} (a:List Ev),Ex s l z->l.length<=n->a++l∈qC n s a:=by
 induction n with
 |zero=>
  intro l s z a _ b;obtain rfl:l=[]:=List.length_eq_zero_iff.1 (by omega);rw[append_nil];exact List.mem_singleton.2 rfl
 |succ n d=>
  intro l s z a h b
  cases l with
  |nil=>rw[append_nil];exact mem_cons_self
  |cons e l=>
   obtain⟨g,c,f⟩:=h;refine mem_cons_of_mem _ (List.mem_flatMap.2 ⟨e.thread,qN c,?_⟩);rw[c];have:=d (a++[e]) f (by rw[length_cons]at b;omega)
   rwa [append_assoc]at this
theorem ne(c:(s0 p fuel).Ok F)(h:TreeOk (s0 p fuel) T):T.length<=dM p fuel:=by
 have a:(T.map Nd.row).length<=(qC 33 (s0 p fuel) []).length:=x8 h.nodup fun x hx=>by
  obtain⟨n,d,rfl⟩:=List.mem_map.1 hx;obtain⟨z,b⟩:=h.rows n d;have:=Ih (n:=33) [] b (by have:=pB b;have:=mE c;omega)
  rwa [nil_append]at this
 rw[length_map,FX]at a;exact a
theorem zD(T:List Nd)(r:List Ev)(t:Int)(x:Nd):(gE T r t x).length=T.length+1:=by
 unfold gE;rw[length_append,length_map,length_singleton]
end
structure MarkOk(s0:St)(T:List Nd)(M:List Ev->Int->Prop):Prop where
 race:∀b∈T,∀z u f i,Ex s0 b.row z->z.next u=some f->i∈gR b.row f->∀t y,Ex s0 (b.row.take i) y->y.may t=true->M (b.row.take i) t
 any:∀n∈T,∀z t,Ex s0 n.row z->z.may t=true->n.z t=false->∃t',z.may t'=true/\n.z t'=false/\M n.row t'
theorem Jm{l:List Ev}{t:Int}{i:Nat}(h:∀j,j<l.length->(dd l j).thread=t->hb l i j=false):pf l t i=false:=by
 unfold pf
 cases a:jK l t l.length with
 |none=>rfl
 |some j=>
  obtain⟨b,c⟩:=yQ a;exact h j b c
theorem MarkOk.done{s0:St}{T:List Nd}{M:List Ev->Int->Prop}(h:MarkOk s0 T M)(r:∀n∈T,∀t,M n.row t->t∈n.g∨n.z t=true):TreeDone s0 T:=by
 refine⟨?_,?_⟩
 ·intro n m z t hx o s k
  obtain⟨w,F,x,A⟩:=h.any n m z t hx o s;rcases r n m w A with c|c
  ·rw[k]at c
   cases c
  ·rw[x]at c
   cases c
 ·intro b hb n m e v z u f a hx d B C p t y D o
  have i:=oU d;have l:n.row.length<b.row.length:=by rw[a];simp
  have q:dd b.row n.row.length=e:=by
   rw[a];unfold dd;rw[dV _ (by simp)];simp
  have j:b.row.take n.row.length=n.row:=by rw[a];simp
  have E:n.row.length∈gR b.row f:=by
   rw[tE,q];refine⟨l,fun h=>B (by rw[<-i];exact h.symm),C,?_⟩;rw[i];exact Jm p
  have:=h.race b hb z u f n.row.length hx d E t y (by rw[j];exact D) o;rw[j]at this;exact r n m t this
theorem MarkOk.more{s0:St}{T:List Nd}{M e:List Ev->Int->Prop}(h:MarkOk s0 T M)(g:∀l t,M l t->e l t):MarkOk s0 T e:=
 ⟨fun b hb z u f i a c d t y j k=>g _ _ (h.race b hb z u f i a c d t y j k),fun n m z t a c d=>by
  obtain⟨o,p,q,r⟩:=h.any n m z t a c d
  exact⟨o,p,q,g _ _ r⟩⟩
theorem Lm{l:List Ev}:∀{s z:St},Ex s l z->z.p=s.p/\z.ts.length=s.ts.length:=by
 induction l with
 |nil=>intro s z h;rw[show z=s from h];exact⟨rfl,rfl⟩
 |cons e l b=>
  rintro s z⟨j,c,d⟩;obtain⟨i,_,_,_,a⟩:=St.step_ok0 c;obtain⟨f,g⟩:=b d;exact⟨by rw[f,a];rfl,by rw[g,a];exact length_set⟩
section
variable{s0:St}{T:List Nd}
end
structure From(p:Pg)(e:Ev):Prop where
 thr:0<=e.thread/\e.thread<p.threads.length
 rd:e.kind=2->∃i∈p.threads.getD e.thread.toNat [],i.kind=1/\i.x=e.obj
 wr:e.kind=3->∃i∈p.threads.getD e.thread.toNat [],i.kind=2/\i.x=e.obj
 mu:e.kind=4∨e.kind=5->∃i∈p.threads.getD e.thread.toNat [],i.kind=5/\i.x=e.obj
def Bt(s0:St)(T:List Nd)(M C:List Ev->Int->Prop):Prop:=
 ∀n∈T,∀t,M n.row t->C n.row t∨∃b∈T,∃z u f i,Ex s0 b.row z/\z.next u=some f/\i∈gR b.row f/\b.row.take i=n.row
theorem jg{s:St}{t:Int}:t∈s.all↔s.may t=true:=by
 constructor
 ·intro h
  unfold St.all at h;exact(List.mem_filter.1 h).2
 ·intro h
  obtain⟨e,a⟩:=nE h;obtain⟨c,b⟩:=next_step a h;exact qN b
theorem ya{F:Nat}{s:St}(b:s.Ok F){t:Int}{e:Ev}(h:s.next t=some e):0<=t/\t<s.ts.length/\s.ts.length<=4:=by
 unfold St.next at h;obtain⟨i,c,_⟩:=Option.map_eq_some_iff.1 h;obtain⟨a,_,_⟩:=St.ins_has c;unfold St.has at a;exact⟨a.1,a.2,b.len4⟩
theorem nN{l:List Int}{t:Int}(h:0<=t/\t<8):dp (dn l) t=true↔t∈l:=by
 obtain⟨i,rfl⟩:∃i:Nat,t=i:=⟨t.toNat,by omega⟩
 have a:i<8:=by omega
 rw[gX _ a,kX _ a,decide_eq_true_eq]
theorem lh{n:Nat}{t:Int}(h:dp n t=true):0<=t/\t<8:=by
 unfold dp at h;rw[and_eq_true,decide_eq_true_eq]at h;exact h.1
theorem zy{n:Nat}{t u:Int}(h:0<=t/\t<8):dp (wt n t) u=true↔dp n u=true∨u=t:=by
 by_cases a:0<=u/\u<8
 ·obtain⟨i,rfl⟩:∃i:Nat,u=i:=⟨u.toNat,by omega⟩
  have b:i<8:=by omega
  rw[gX _ b,gX _ b,sh b,or_eq_true,decide_eq_true_eq];exact⟨fun h=>h.imp_right Eq.symm,fun h=>h.imp_right Eq.symm⟩
 ·constructor
  ·intro h;exact absurd (lh h) a
  ·rintro (h|h)
   ·exact absurd (lh h) a
   ·rw[h]at a;exact absurd ‹_› a
theorem zz{s:St}{a g:Nat}{t:Int}{e:Ev}(l:s.next t=some e)(u:Int):dp (gj s.next a g t) u=true↔u≠t/\(dp a u=true∨dp g u=true)/\∃f,s.next u=some f/\dj f e=false:=by
 by_cases m:0<=u/\u<8
 ·obtain⟨i,rfl⟩:∃i:Nat,u=i:=⟨u.toNat,by omega⟩
  have b:i<8:=by omega
  rw[gX _ b,gX _ b,gX _ b,CR _ _ _ _ b];have:=MA (s:=s) (asl:=a) (ear:=g) (t:=t) (u:=i);unfold uM at this;rw[this]
  constructor
  ·rintro⟨o,x,c,d,j,n,k⟩
   rw[l]at c;injection c with c;subst c;exact⟨j,by rwa [or_eq_true]at n,x,d,k⟩
  ·rintro⟨j,n,x,d,k⟩
   exact⟨e,x,l,d,j,by rwa [or_eq_true],k⟩
 ·constructor
  ·intro h;exact absurd (lh h) m
  ·rintro⟨_,h|h,_⟩ <;> exact absurd (lh h) m
theorem qL{n:PN}{t:Int}:t∈n.left↔dp n.go t=true/\dp n.gone t=false/\dp n.z t=false:=by
 unfold PN.left;rw[List.mem_filter];have a:t∈ex (dW n.go)↔dp n.go t=true:=by rw[<-yr,decide_eq_true_eq]
 rw[a];simp
theorem tH{n:PN}{t:Int}:t∈n.awake↔n.st.may t=true/\dp n.z t=false:=by
 unfold PN.awake;rw[List.mem_filter,jg];simp
theorem ta(o:List Int)(c:Nat){l:List Int}(h:l≠[]):pick o c l∈l:=by
 have a:0<l.length:=List.length_pos_iff.2 h;unfold pick
 split
 ·rw[dV _ a];exact getElem_mem _
 ·have:(if c<o.length then (o.getD c 0).toNat%l.length else 0)<l.length:=by
   split
   ·exact Nat.mod_lt _ a
   ·exact a
  rw[dV _ this];exact getElem_mem _
def yj(n:PN):PN:={ n with go:=dn n.st.all }
theorem yz(rs:List (Nat × Int)):∀(a:List PN) (i:Nat),i<a.length->(∀r∈rs,r.1<a.length)->(fU a rs).getD i dX=if i∈rs.map Prod.fst then yj (a.getD i dX)else a.getD i dX:=by
 induction rs with
 |nil=>intro a i _ _;rfl
 |cons r rs f=>
  intro a i g d;have c:=d r (by simp);show(fU (kC a r.1) rs).getD i dX=_;rw[f (kC a r.1) i (by rw[tJ];exact g) (fun j k=>by rw[tJ];exact d j (mem_cons_of_mem _ k))]
  have l:(kC a r.1).getD i dX=if i=r.1 then yj (a.getD i dX)else a.getD i dX:=by
   unfold kC;rw[gr _ _ _ _ _ c]
   split
   ·rename_i e;subst e;rfl
   ·rfl
  rw[l,map_cons]
  by_cases e:i=r.1
  ·rw[if_pos e,if_pos (show i∈r.1::rs.map Prod.fst by rw[e];simp)]
   split <;> rfl
  ·rw[if_neg e]
   by_cases b:i∈rs.map Prod.fst
   ·rw[if_pos b,if_pos (mem_cons_of_mem _ b)]
   ·rw[if_neg b,if_neg (by rw[mem_cons];exact fun h=>h.elim e b)]
theorem nt{x:Xp}{s:St}:∀r∈eu x s,r.1<x.row.length:=by
 intro r a;unfold eu at a;obtain⟨k,_,_,f,_,b⟩:=oX.1 (show(r.1,r.2)∈_ from a);exact(tE.1 b).1
def kf(s0:St)(T:List Nd):List Nd:=T.filter fun n=>decide ((fe s0 n.row).all≠[])&&(fe s0 n.row).all.all n.z
theorem Ah(s0:St)(T:List Nd)(r:List Ev)(t:Int)(x:Nd):je s0 (gE T r t x)=(je s0 T).map (fE r t)++(if (fe s0 x.row).all=[]then [x]else []):=by
 unfold je gE;rw[filter_append,filter_map]
 have h:((fun n:Nd=>decide ((fe s0 n.row).all=[])) ∘ fE r t)=fun n:Nd=>decide ((fe s0 n.row).all=[]):=by
  funext n
  show decide ((fe s0 (fE r t n).row).all=[])=_;rw[fp]
 rw[h]
 congr 1
 by_cases h:(fe s0 x.row).all=[]
 ·rw[if_pos h,filter_cons_of_pos (by simpa using h)];rfl
 ·rw[if_neg h,filter_cons_of_neg (by simpa using h)];rfl
theorem yS(s0:St)(T:List Nd)(r:List Ev)(t:Int)(x:Nd):gi s0 (gE T r t x)=gi s0 T++(if (fe s0 x.row).all=[]then [eE x.row]else []):=by
 unfold gi;rw[Ah,List.map_append,map_map]
 have h:((fun n:Nd=>eE n.row) ∘ fE r t)=fun n:Nd=>eE n.row:=by
  funext n
  show eE (fE r t n).row=_;rw[fp]
 rw[h]
 congr 1
 split <;> rfl
theorem AS(s0:St)(T:List Nd)(r:List Ev)(t:Int)(x:Nd):(kf s0 (gE T r t x)).length=(kf s0 T).length+(if (fe s0 x.row).all≠[]/\(fe s0 x.row).all.all x.z=true then 1 else 0):=by
 unfold kf gE;rw[filter_append,filter_map,length_append,length_map]
 have h:((fun n:Nd=>decide ((fe s0 n.row).all≠[])&&(fe s0 n.row).all.all n.z) ∘ fE r t)=fun n:Nd=>decide ((fe s0 n.row).all≠[])&&(fe s0 n.row).all.all n.z:=by
  funext n
  show(decide ((fe s0 (fE r t n).row).all≠[])&&(fe s0 (fE r t n).row).all.all (fE r t n).z)=_;rw[fp,jD]
 rw[h]
 congr 1
 by_cases h:(fe s0 x.row).all≠[]/\(fe s0 x.row).all.all x.z=true
 ·rw[if_pos h,filter_cons_of_pos (by rw[and_eq_true,decide_eq_true_eq];exact h)];rfl
 ·rw[if_neg h,filter_cons_of_neg (by rw[and_eq_true,decide_eq_true_eq];exact h)];rfl
def oj(s0:St)(T:List Nd)(M:List Ev->Int->Prop)(r:List Ev)(n:PN):Prop:=
 ∃m∈T,m.row=r/\Ex s0 r n.st/\n.z<256/\n.go<256/\n.gone<256/\(∀t,m.z t=dp n.z t)/\(∀t,t∈m.g↔dp n.gone t=true)/\∀t,M r t↔dp n.go t=true
structure InvX(s0:St)(x:Xp)(T:List Nd)(M C:List Ev->Int->Prop):Prop where
 ok:TreeOk s0 T
 marks:MarkOk s0 T M
 by_:Bt s0 T M C
 one:∀r t t',C r t->C r t'->t=t'
 cT:∀r t,C r t->∃n∈T,n.row=r
 mT:∀r t,M r t->∃n∈T,n.row=r
 plen:x.path.length=x.row.length+1
 at_:∀i,i<x.path.length->oj s0 T M (x.row.take i) (x.path.getD i dX)
 off:∀n∈T,(∀i,i<=x.row.length->n.row≠x.row.take i)->∀t,M n.row t->t∈n.g∨n.z t=true
 gm:∀n∈T,∀t∈n.g,M n.row t
 may:∀n∈T,∀z t,Ex s0 n.row z->M n.row t->z.may t=true
 nodes:x.nodes=T.length
 runs:x.runs=(je s0 T).length
 keys:x.keys=gi s0 T
 blk:x.blocked=(kf s0 T).length
structure PreX(s0:St)(x:Xp)(s:St)(z:Nat)(T:List Nd)(M C:List Ev->Int->Prop):Prop where
 ok:TreeOk s0 T
 new:∃n∈T,n.row=x.row/\n.g=[]/\(∀t,n.z t=dp z t)
 st:Ex s0 x.row s
 z8:z<256
 race:∀b∈T,b.row≠x.row->∀z u f i,Ex s0 b.row z->z.next u=some f->i∈gR b.row f->∀t y,Ex s0 (b.row.take i) y->y.may t=true->M (b.row.take i) t
 any:∀n∈T,n.row≠x.row->∀z t,Ex s0 n.row z->z.may t=true->n.z t=false->∃t',z.may t'=true/\n.z t'=false/\M n.row t'
 by_:∀n∈T,∀t,M n.row t->C n.row t∨∃b∈T,∃z u f i,Ex s0 b.row z/\z.next u=some f/\i∈gR b.row f/\b.row.take i=n.row
 one:∀r t t',C r t->C r t'->t=t'
 cT:∀r t,C r t->r≠x.row/\∃n∈T,n.row=r
 mT:∀r t,M r t->r≠x.row/\∃n∈T,n.row=r
 plen:x.path.length=x.row.length
 at_:∀i,i<x.path.length->oj s0 T M (x.row.take i) (x.path.getD i dX)
 off:∀n∈T,(∀i,i<=x.row.length->n.row≠x.row.take i)->∀t,M n.row t->t∈n.g∨n.z t=true
 gm:∀n∈T,∀t∈n.g,M n.row t
 may:∀n∈T,∀z t,Ex s0 n.row z->M n.row t->z.may t=true
 nodes:x.nodes+1=T.length
 runs:x.runs+(if s.all=[]then 1 else 0)=(je s0 T).length
 keys:x.keys++(if s.all=[]then [eE x.row]else [])=gi s0 T
 blk:x.blocked+(if s.all≠[]/\s.all.all (dp z)=true then 1 else 0)=(kf s0 T).length
theorem CW{r:List Ev}{i j:Nat}(a:i<=r.length)(b:j<=r.length)(h:r.take i=r.take j):i=j:=by
 have:=congrArg List.length h;rw[length_take,length_take]at this;omega
section
variable{F:Nat}{s0:St}{x:Xp}{T:List Nd}{M C:List Ev->Int->Prop}
theorem PreX.make(ak:s0.Ok F){s:St}{z:Nat}(h:PreX s0 x s z T M C):∃N C',InvX s0 (fY x s z) T N C':=by
 obtain⟨nd,P,j,ap,R⟩:=h.new;have al:s.Ok F:=h.st.ok ak
 let A:List Int:=(PN.awake ⟨s,z,0,0⟩)
 let p:Int:=pick x.order x.choices A
 let C':List Ev->Int->Prop:=fun r t=>C r t∨(r=x.row/\A≠[]/\t=p)
 let N:List Ev->Int->Prop:=fun r t=>M r t∨(∃q∈eu x s,r=x.row.take q.1/\∃y,Ex s0 r y/\y.may t=true)∨(r=x.row/\A≠[]/\t=p)
 have X:A≠[]->s.may p=true/\dp z p=false:=fun v=>tH.1 (ta x.order x.choices v)
 have o:∀n∈T,∀y t,Ex s0 n.row y->N n.row t->y.may t=true:=by
  rintro n B y t L (c|⟨q,_,_,w,hw,D⟩|⟨H,v,rfl⟩)
  ·exact h.may n B y t L c
  ·rw[ig L hw];exact D
  ·rw[H]at L
   rw[ig L h.st];exact(X v).1
 have aq:∀q∈eu x s,∃m∈T,m.row=x.row.take q.1:=by
  intro q G;have hl:=nt q G;obtain⟨m,D,I,_⟩:=h.at_ q.1 (by rw[h.plen];exact hl);exact⟨m,D,I⟩
 have ab:MarkOk s0 T N:=by
  refine⟨?_,?_⟩
  ·intro b hb y u f i L B O t w hw D
   by_cases am:b.row=x.row
   ·rw[am]at L O hw ⊢
    rw[ig L h.st]at B;obtain⟨u0,u1,u2⟩:=ya al B;refine .inr (.inl ⟨(i,u),?_,rfl,w,hw,D⟩);exact oX.2 ⟨u.toNat,by omega,by omega,f,B,O⟩
   ·exact .inl (h.race b hb am y u f i L B O t w hw D)
  ·intro n B y t L D hz
   by_cases ac:n.row=x.row
   ·have e:=h.ok.uniq B P (ac.trans j.symm)
    subst e;rw[ac]at L ⊢;rw[ig L h.st]at D ⊢;have v:A≠[]:=ne_nil_of_mem (tH.2 ⟨D,by rw[<-R];exact hz⟩);exact⟨p,(X v).1,by rw[R];exact(X v).2,.inr (.inr ⟨rfl,v,rfl⟩)⟩
   ·obtain⟨t',c,d,W⟩:=h.any n B ac y t L D hz
    exact⟨t',c,d,.inl W⟩
 have ad:Bt s0 T N C':=by
  rintro n B t (c|⟨q,G,H,w,hw,D⟩|c)
  ·rcases h.by_ n B t c with d|d
   ·exact .inl (.inl d)
   ·exact .inr d
  ·obtain⟨k,hk,hu,f,hf,O⟩:=oX.1 (show(q.1,q.2)∈_ from G)
   exact .inr ⟨nd,P,s,q.2,f,q.1,by rw[j];exact h.st,hf,by rw[j];exact O,by rw[j,H]⟩
  ·exact .inl (.inr c)
 have S:∀r t t',C' r t->C' r t'->t=t':=by
  rintro r t t' (c|⟨c,_,rfl⟩) (d|⟨d,_,rfl⟩)
  ·exact h.one r t t' c d
  ·exact absurd d (h.cT r t c).1
  ·exact absurd c (h.cT r t' d).1
  ·rfl
 have ae:∀r t,C' r t->∃n∈T,n.row=r:=by
  rintro r t (c|⟨c,_,_⟩)
  ·exact(h.cT r t c).2
  ·exact⟨nd,P,j.trans c.symm⟩
 have af:∀r t,N r t->∃n∈T,n.row=r:=by
  rintro r t (c|⟨q,G,H,_⟩|⟨c,_,_⟩)
  ·exact(h.mT r t c).2
  ·rw[H];exact aq q G
  ·exact⟨nd,P,j.trans c.symm⟩
 have U:∀n∈T,(∀i,i<=x.row.length->n.row≠x.row.take i)->∀t,N n.row t->t∈n.g∨n.z t=true:=by
  rintro n B O t (c|⟨q,G,H,_⟩|⟨c,_,_⟩)
  ·exact h.off n B O t c
  ·exact absurd H (O q.1 (Nat.le_of_lt (nt q G)))
  ·exact absurd (c.trans (take_length (l:=x.row)).symm) (O _ (le_refl _))
 have ag:∀n∈T,∀t∈n.g,N n.row t:=fun n B t ht=>.inl (h.gm n B t ht)
 have ah:∀g:Nat,g<256->(∀t,dp g t=true↔A≠[]/\t=p)->∀i,i<(fU x.path (eu x s)++[(⟨s,z,g,0⟩:PN)]).length->oj s0 T N (x.row.take i) ((fU x.path (eu x s)++[(⟨s,z,g,0⟩:PN)]).getD i dX):=by
  intro g hg J i O;rw[length_append,mB,length_singleton]at O
  by_cases Y:i<x.path.length
  ·have aA:i<x.row.length:=by rw[<-h.plen];exact Y
   have e1:(fU x.path (eu x s)++[(⟨s,z,g,0⟩:PN)]).getD i dX=(fU x.path (eu x s)).getD i dX:=by
    rw[List.getD_eq_getElem?_getD,List.getD_eq_getElem?_getD,List.getElem?_append_left (by rw[mB];exact Y)]
   rw[e1,yz _ _ _ Y (fun r H=>by rw[h.plen];exact nt r H)];obtain⟨m,D,I,Q,b1,b2,b3,an,ao,ar⟩:=h.at_ i Y
   have au:x.row.take i≠x.row:=by
    intro e;have:=congrArg List.length e;rw[length_take]at this;omega
   have av:(x.path.getD i dX).st.Ok F:=Q.ok ak
   split
   ·rename_i V
    refine⟨m,D,I,Q,b1,i7 _,b3,an,ao,fun t=>?_⟩;show N _ t↔dp (dn (x.path.getD i dX).st.all) t=true;obtain⟨q,G,aw⟩:=List.mem_map.1 V
    constructor
    ·intro hM
     have ax:=o m D _ t (by rw[I];exact Q) (by rw[I];exact hM);have:=jg.2 ax;exact(nN (mR av t this)).2 this
    ·intro hB
     have:=(nN (lh hB)).1 hB;exact .inr (.inl ⟨q,G,by rw[aw],_,Q,jg.1 this⟩)
   ·rename_i V
    refine⟨m,D,I,Q,b1,b2,b3,an,ao,fun t=>?_⟩;rw[<-ar t]
    constructor
    ·rintro (c|⟨q,G,H,_⟩|⟨c,_,_⟩)
     ·exact c
     ·exfalso
      have:=CW (by omega) (Nat.le_of_lt (nt q G)) H;exact V (List.mem_map.2 ⟨q,G,this.symm⟩)
     ·exact absurd c au
    ·exact .inl
  ·have e0:i=x.path.length:=by omega
   subst e0
   have e1:(fU x.path (eu x s)++[(⟨s,z,g,0⟩:PN)]).getD x.path.length dX=⟨s,z,g,0⟩:=by
    rw[List.getD_eq_getElem?_getD,List.getElem?_append_right (by rw[mB];exact le_refl _),mB,Nat.sub_self];rfl
   rw[e1,h.plen,take_length];refine⟨nd,P,j,h.st,h.z8,hg,by show 0<256;omega,R,fun t=>?_,fun t=>?_⟩
   ·rw[ap]
    constructor
    ·intro h;cases h
    ·intro h
     exfalso
     have d:=lh h
     obtain⟨k,rfl⟩:∃k:Nat,t=k:=⟨t.toNat,by omega⟩
     rw[gX _ (by omega)]at h;rw[Nat.zero_testBit]at h
     cases h
   ·rw[J t]
    constructor
    ·rintro (c|⟨q,G,H,_⟩|⟨_,c,d⟩)
     ·exact absurd rfl (h.mT _ t c).1
     ·exfalso
      have c:=congrArg List.length H;have:=nt q G;rw[length_take]at c;omega
     ·exact⟨c,d⟩
    ·rintro⟨c,d⟩
     exact .inr (.inr ⟨rfl,c,d⟩)
 have ai:∀t,dp 0 t=false:=by
  intro t;unfold dp;rw[Nat.zero_testBit,Bool.and_false]
 have E:∀n:PN,(fU x.path (eu x s)++[n]).length=x.row.length+1:=fun n=>by rw[length_append,mB,h.plen,length_singleton]
 refine⟨N,C',?_⟩
 by_cases v:A=[]
 ·have J:∀t,dp 0 t=true↔A≠[]/\t=p:=fun t=>by rw[ai];exact⟨fun h=>absurd h Bool.false_ne_true,fun h=>absurd v h.1⟩
  have aa:s.all.all (dp z)=true:=by
   rw[List.all_eq_true];intro t ht
   cases hz:dp z t
   ·have:t∈A:=tH.2 ⟨jg.1 ht,hz⟩
    rw[v]at this
    cases this
   ·rfl
  by_cases Z:s.all=[]
  ·have hb:gG s.all z=false:=by unfold gG;rw[Z];rfl
   have e:fY x s z={ x with nodes:=x.nodes+1,path:=fU x.path (eu x s)++[⟨s,z,0,0⟩],runs:=x.runs+1,keys:=x.keys++[eE x.row] }:=by
    unfold fY;dsimp only;rw[if_neg (by simpa using v),if_neg (by rw[hb];exact Bool.false_ne_true)]
   have c:=h.runs;have d:=h.keys;have W:=h.blk;rw[if_pos Z]at c d;rw[if_neg (fun hh=>hh.1 Z)]at W;rw[e];exact⟨h.ok,ab,ad,S,ae,af,E _,ah 0 (by omega) J,U,ag,o,h.nodes,c,d,W⟩
  ·have hb:gG s.all z=true:=by
    unfold gG;rw[aa,Bool.and_true]
    cases ay:s.all with
    |nil=>exact absurd ay Z
    |cons a l=>rfl
   have e:fY x s z={ x with nodes:=x.nodes+1,path:=fU x.path (eu x s)++[⟨s,z,0,0⟩],blocked:=x.blocked+1 }:=by
    unfold fY;dsimp only;rw[if_neg (by simpa using v),if_pos hb]
   have c:=h.runs;have d:=h.keys;have W:=h.blk;rw[if_neg Z]at c d;rw[if_pos ⟨Z,aa⟩]at W;rw[append_nil]at d;rw[e];exact⟨h.ok,ab,ad,S,ae,af,E _,ah 0 (by omega) J,U,ag,o,h.nodes,c,d,W⟩
 ·have hp:=X v
  have az:=mR al p (jg.2 hp.1)
  have J:∀t,dp (dn [p]) t=true↔A≠[]/\t=p:=fun t=>by
   constructor
   ·intro h
    exact⟨v,List.mem_singleton.1 ((nN (lh h)).1 h)⟩
   ·rintro⟨_,rfl⟩
    exact(nN az).2 (by simp)
  have e:fY x s z={ x with nodes:=x.nodes+1,path:=fU x.path (eu x s)++[⟨s,z,dn [p],0⟩],choices:=fH x.choices A }:=by
   unfold fY;dsimp only;rw[if_pos (show(PN.awake ⟨s,z,0,0⟩)≠[]from v)]
  have Z:s.all≠[]:=ne_nil_of_mem (jg.2 hp.1)
  have aj:¬(s.all.all (dp z)=true):=by
   rw[List.all_eq_true];intro hh;have:=hh p (jg.2 hp.1);rw[hp.2]at this
   cases this
  have c:=h.runs;have d:=h.keys;have W:=h.blk;rw[if_neg Z]at c d;rw[if_neg (fun hh=>aj hh.2)]at W;rw[append_nil]at d;rw[e];exact⟨h.ok,ab,ad,S,ae,af,E _,ah _ (i7 _) J,U,ag,o,h.nodes,c,d,W⟩
theorem InvX.cut(h:InvX s0 x T M C){k:Nat}(D:k<x.path.length)(y:∀i,k<i->i<x.path.length->(x.path.getD i dX).left=[]):InvX s0 { x with path:=x.path.take (k+1),row:=x.row.take k } T M C:=by
 have A:=h.plen;refine⟨h.ok,h.marks,h.by_,h.one,h.cT,h.mT,?_,?_,?_,h.gm,h.may,h.nodes,h.runs,h.keys,h.blk⟩
 ·show(x.path.take (k+1)).length=(x.row.take k).length+1
  rw[length_take,length_take];omega
 ·intro i f
  have l:i<k+1:=by
   have:i<(x.path.take (k+1)).length:=f;rw[length_take]at this;omega
  show oj s0 T M ((x.row.take k).take i) ((x.path.take (k+1)).getD i dX);rw[List.take_take,Nat.min_eq_left (by omega),pz _ l];exact h.at_ i (by omega)
 ·intro n w o t g
  by_cases d:∃j,j<=x.row.length/\n.row=x.row.take j
  ·obtain⟨j,E,b⟩:=d
   have p:k<j:=by
    apply Classical.byContradiction;intro B;have:n.row≠(x.row.take k).take j:=o j (by show j<=(x.row.take k).length;rw[length_take];omega);rw[List.take_take,Nat.min_eq_left (by omega)]at this;exact this b
   obtain⟨m,z,q,_,_,_,_,r,s,u⟩:=h.at_ j (by omega);obtain rfl:=h.ok.uniq w z (b.trans q.symm);rw[b,u]at g;have v:=y j p (by omega);rw[s,r];apply Classical.byContradiction;intro c;rw[not_or]at c;have:t∈(x.path.getD j dX).left:=qL.2 ⟨g,by simpa using c.1,by simpa using c.2⟩;rw[v]at this
   cases this
  ·exact h.off n w (fun i f e=>d ⟨i,f,e⟩) t g
theorem InvX.back(h:InvX s0 x T M C):InvX s0 (dH x) T M C:=by
 unfold dH
 cases b:fI x.path x.path.length with
 |some k=>
  obtain⟨a,_,c⟩:=tR b;exact h.cut a c
 |none=>
  have a:=tQ b;exact h.cut (k:=0) (by rw[h.plen];omega) fun i _ d=>a i d
theorem pQ(a:eF x=true):(eV (dH x)).left≠[]:=by
 unfold eF at a;obtain⟨k,b⟩:=Option.isSome_iff_exists.1 a;obtain⟨d,c,_⟩:=tR b;have e:dH x={ x with path:=x.path.take (k+1),row:=x.row.take k }:=by unfold dH;rw[b]
 rw[e];unfold eV;show((x.path.take (k+1)).getD ((x.path.take (k+1)).length-1) dX).left≠[];rw[length_take,Nat.min_eq_left (by omega),Nat.add_sub_cancel,pz _ (by omega)];exact c
theorem InvX.closed(h:InvX s0 x T M C)(q:eF x=false):∀n∈T,∀t,M n.row t->t∈n.g∨n.z t=true:=by
 unfold eF at q;have s:=tQ (Option.isNone_iff_eq_none.1 (by simpa using q));intro n r t d
 by_cases b:∃j,j<=x.row.length/\n.row=x.row.take j
 ·obtain⟨j,y,c⟩:=b
  have w:=h.plen;obtain⟨m,u,f,_,_,_,_,k,l,o⟩:=h.at_ j (by omega);obtain rfl:=h.ok.uniq r u (c.trans f.symm);rw[c,o]at d;have p:=s j (by omega);rw[l,k];apply Classical.byContradiction;intro a;rw[not_or]at a;have:t∈(x.path.getD j dX).left:=qL.2 ⟨d,by simpa using a.1,by simpa using a.2⟩;rw[p]at this
  cases this
 ·exact h.off n r (fun i v e=>b ⟨i,v,e⟩) t d
theorem InvX.done(h:InvX s0 x T M C)(a:eF x=false):TreeDone s0 T:=h.marks.done (h.closed a)
theorem InvX.last(h:InvX s0 x T M C):oj s0 T M x.row (eV x):=by
 have a:=h.plen;have:=h.at_ (x.path.length-1) (by omega);rw[show x.path.length-1=x.row.length by omega,take_length]at this;unfold eV;rw[show x.path.length-1=x.row.length by omega];exact this
theorem InvX.go(P:s0.Ok F)(h:InvX s0 x T M C)(hl:(eV x).left≠[]):∃T' Z C',InvX s0 (gO x) T' Z C':=by
 have aa:=h.plen;have ab:x.path.length-1=x.row.length:=by omega
 obtain⟨m,W,l,q,b1,b2,b3,H,I,J⟩:=h.last;generalize hn:eV x=n at *;have ht:=ta x.order x.choices hl;generalize hp:pick x.order x.choices n.left=t at *;obtain⟨t1,t2,t3⟩:=qL.1 ht;have ai:n.st.Ok F:=q.ok P;have D:n.st.may t=true:=h.may m W n.st t (by rw[l];exact q) (by rw[l];exact(J t).2 t1);obtain⟨e,he⟩:=nE D;obtain⟨X,Y⟩:=next_step he D;have Q:e.thread=t:=(hY Y).2.2;have ac:=lh t1;have R:t∉m.g:=by rw[I,t2];exact Bool.false_ne_true
 have B:=zz (s:=n.st) (a:=n.z) (g:=n.gone) he
 let G:Nd:=⟨x.row++[e],dp (gj n.st.next n.z n.gone t),[]⟩
 have O:TreeOk s0 (gE T x.row t G):=by
  have:=h.ok.grow W R (by rw[H,t3]) (z:=n.st) (z1:=X) (e:=e) (by rw[l];exact q) Y (x:=G) (by rw[l]) rfl fun u=>by
   show dp (gj n.st.next n.z n.gone t) u=true↔_;rw[B u,H,I]
  rwa [l]at this
 have o:∀b∈T,b.row≠x.row++[e]:=by
  intro b hb L;obtain⟨a,j,d,A⟩:=h.ok.par b hb _ _ L;obtain rfl:=h.ok.uniq W j (l.trans d.symm);rw[Q]at A;exact R A
 have S:Ex s0 (x.row++[e]) X:=ii.2 ⟨n.st,q,X,by rw[Q];exact Y,rfl⟩;have N:fe s0 (x.row++[e])=X:=(pC S).symm
 have v:∀b∈gE T x.row t G,b.row≠x.row++[e]->∃a∈T,b=fE x.row t a:=by
  intro b hb k;rcases fS.1 hb with h1|rfl
  ·exact h1
  ·exact absurd rfl k
 have U:PreX s0 { x with choices:=fH x.choices n.left,path:=x.path.set (x.path.length-1) { n with gone:=wt n.gone t },row:=x.row++[(n.st.step t).2.1] } (n.st.step t).2.2 (gj n.st.next n.z n.gone t) (gE T x.row t G) M C:=by
  rw[Y];dsimp only;refine⟨O,⟨G,fS.2 (.inr rfl),rfl,rfl,fun _=>rfl⟩,S,uL _ _ _ _,?_,?_,?_,h.one,?_,?_,?_,?_,?_,?_,?_,?_,?_,?_,?_⟩
  ·intro b hb k
   obtain⟨a,j,rfl⟩:=v b hb k;rw[fp];exact h.marks.race a j
  ·intro b hb k
   obtain⟨a,j,rfl⟩:=v b hb k;rw[fp,jD];exact h.marks.any a j
  ·intro b hb u p
   have V:∃a∈T,a.row=b.row:=h.mT _ _ p;obtain⟨a,j,d⟩:=V;rw[<-d]at p ⊢;rcases h.by_ a j u p with h1|⟨c,hc,z,u',f,i,g1,g2,g3,g4⟩
   ·exact .inl h1
   ·exact .inr ⟨_,fS.2 (.inl ⟨c,hc,rfl⟩),z,u',f,i,by rw[fp];exact g1,g2,by rw[fp];exact g3,by rw[fp];exact g4⟩
  ·intro r u hC
   obtain⟨a,j,d⟩:=h.cT r u hC;exact⟨by rw[<-d];exact o a j,_,fS.2 (.inl ⟨a,j,rfl⟩),by rw[fp];exact d⟩
  ·intro r u p
   obtain⟨a,j,d⟩:=h.mT r u p;exact⟨by rw[<-d];exact o a j,_,fS.2 (.inl ⟨a,j,rfl⟩),by rw[fp];exact d⟩
  ·show(x.path.set _ _).length=(x.row++[e]).length
   rw[length_set,length_append,length_singleton,aa]
  ·intro i hi
   have ad:i<x.path.length:=by
    have:i<(x.path.set (x.path.length-1) { n with gone:=wt n.gone t }).length:=hi
    rwa [length_set]at this
   show oj s0 (gE T x.row t G) M ((x.row++[e]).take i) ((x.path.set (x.path.length-1) { n with gone:=wt n.gone t }).getD i dX);rw[gr _ _ _ _ _ (by omega),List.take_append_of_le_length (by omega)];obtain⟨a,j,d,ae,c1,c2,c3,af,A,ag⟩:=h.at_ i ad
   split
   ·rename_i e0
    have ah:x.row.take i=x.row:=by rw[e0,ab,take_length]
    rw[ah];refine⟨fE x.row t m,fS.2 (.inl ⟨m,W,rfl⟩),by rw[fp];exact l,q,b1,b2,p5 b3 t,fun u=>by rw[jD];exact H u,fun u=>?_,J⟩;show u∈_↔dp (wt n.gone t) u=true;rw[kS,if_pos l,mem_append,mem_singleton,zy ac,I]
   ·rename_i e0
    refine⟨fE x.row t a,fS.2 (.inl ⟨a,j,rfl⟩),by rw[fp];exact d,ae,c1,c2,c3,fun u=>by rw[jD];exact af u,fun u=>?_,ag⟩
    rw[kS,if_neg (by
     rw[d];intro e1;have:=congrArg List.length e1;rw[length_take]at this
     omega)]
    exact A u
  ·intro b hb k u p
   have L:b.row≠x.row++[e]:=by
    have:=k (x.row++[e]).length (le_refl _)
    rwa [take_length]at this
   obtain⟨a,j,rfl⟩:=v b hb L;rw[fp]at p k
   have E:∀i,i<=x.row.length->a.row≠x.row.take i:=by
    intro i hi;have:=k i (by show i<=(x.row++[e]).length;rw[length_append];omega)
    rwa [List.take_append_of_le_length hi]at this
   have d:a.row≠x.row:=by
    have:=E x.row.length (le_refl _)
    rwa [take_length]at this
   rw[jD,kS,if_neg d];exact h.off a j E u p
  ·intro b hb u w
   rcases fS.1 hb with ⟨a,j,rfl⟩|rfl
   ·rw[fp]
    rw[kS]at w
    split at w
    ·rename_i d
     rcases List.mem_append.1 w with w|w
     ·exact h.gm a j u w
     ·rw[List.mem_singleton.1 w,d]
      exact(J t).2 t1
    ·exact h.gm a j u w
   ·cases w
  ·intro b hb y u hy p
   obtain⟨a,j,d⟩:=h.mT _ _ p;rw[<-d]at hy p;exact h.may a j y u hy p
  ·show x.nodes+1=_
   rw[zD,h.nodes]
  ·show x.runs+_=_
   rw[Ah,N,h.runs,length_append,length_map]
   split <;> rfl
  ·show x.keys++_=_
   rw[yS,N,h.keys]
  ·show x.blocked+_=_
   rw[AS,N,h.blk]
 obtain⟨Z,C',hI⟩:=U.make P;refine⟨gE T x.row t G,Z,C',?_⟩
 have e:gO x=fY { x with choices:=fH x.choices n.left,path:=x.path.set (x.path.length-1) { n with gone:=wt n.gone t },row:=x.row++[(n.st.step t).2.1] } (n.st.step t).2.2 (gj n.st.next n.z n.gone t):=by
  unfold gO;rw[hn];dsimp only;rw[hp]
 rw[e];exact hI
theorem zU(j:s0.Ok F)(order:List Int):∃T M C,InvX s0 (lT s0 order) T M C:=by
 have d:=vD s0;have c:fe s0 []=s0:=rfl
 have f:∀t,dp 0 t=false:=by
  intro t;unfold dp;rw[Nat.zero_testBit,Bool.and_false]
 have g:PreX s0 ⟨[],[],order,0,[],0,0,0⟩ s0 0 [⟨[],fun _=>false,[]⟩] (fun _ _=>False) (fun _ _=>False):=by
  refine⟨d,⟨_,List.mem_singleton.2 rfl,rfl,rfl,fun t=>(f t).symm⟩,rfl,by omega,?_,?_,?_,?_,?_,?_,rfl,?_,?_,?_,?_,rfl,?_,?_,?_⟩
  ·intro b hb a
   rw[List.mem_singleton.1 hb]at a;exact absurd rfl a
  ·intro b hb a
   rw[List.mem_singleton.1 hb]at a;exact absurd rfl a
  ·intro _ _ _ h;exact h.elim
  ·intro _ _ _ h;exact h.elim
  ·intro _ _ h;exact h.elim
  ·intro _ _ h;exact h.elim
  ·intro i k;cases k
  ·intro _ _ _ _ h;exact h.elim
  ·intro b hb t e
   rw[List.mem_singleton.1 hb]at e
   cases e
  ·intro _ _ _ _ _ h;exact h.elim
  ·show 0+_=_
   unfold je
   by_cases h:s0.all=[]
   ·rw[if_pos h,filter_cons_of_pos (by simpa [c]using h)];rfl
   ·rw[if_neg h,filter_cons_of_neg (by simpa [c]using h)];rfl
  ·show []++_=_
   unfold gi je
   by_cases h:s0.all=[]
   ·rw[if_pos h,filter_cons_of_pos (by simpa [c]using h)];rfl
   ·rw[if_neg h,filter_cons_of_neg (by simpa [c]using h)];rfl
  ·show 0+_=_
   unfold kf
   by_cases h:s0.all≠[]/\s0.all.all (dp 0)=true
   ·exfalso
    obtain⟨t,e⟩:=List.exists_mem_of_ne_nil _ h.1;have:=List.all_eq_true.1 h.2 t e;rw[f]at this
    cases this
   ·rw[if_neg h,filter_cons_of_neg (by
     rw[and_eq_true,decide_eq_true_eq];rintro⟨l,m⟩;obtain⟨t,e⟩:=List.exists_mem_of_ne_nil _ l;have:=List.all_eq_true.1 m t e
     cases this)]
    rfl
 obtain⟨n,o,h⟩:=g.make j;exact⟨_,n,o,h⟩
theorem JJ(a:s0.Ok F)(n:Nat):∀{x:Xp} {T:List Nd} {M C:List Ev->Int->Prop},InvX s0 x T M C->∃b c d,InvX s0 (jc n x) b c d:=by
 induction n with
 |zero=>intro x T M C h;exact⟨T,M,C,h.back⟩
 |succ n e=>
  intro x T M C h;unfold jc
  split
  ·rename_i f
   obtain⟨i,j,k,g⟩:=h.back.go a (pQ f);exact e g
  ·exact⟨T,M,C,h.back⟩
theorem LD(b:s0.Ok F)(order:List Int)(a:Int):∃T M C,InvX s0 (dx s0 order a) T M C:=by
 obtain⟨T,M,C,h⟩:=zU b order;exact JJ b _ h
end
structure Ltr where
 q:dl
 set:Nat
structure Mac where
 l:List TNd
 cl:Nat
 box:Nat->List Ltr
 wk:Nat->List df
 keys:Nat->List dk
 blk:Nat
 over:Bool
def ir(p:Pg)(fuel:Int)(k:dl):St:=match dQ p fuel (dB k)with
 |(_,_,some s)=>s
 |(_,_,none)=>s0 p fuel
def mJ(p:Pg)(fuel:Int)(k:dl):List Ev:=(dQ p fuel (dB k)).2.1
def gp(W:Nat)(m:Mac)(k:dl):Bool:=(List.range W).any fun w=>decide (k∈m.wk w)
def ey(W w:Nat)(k:dl)(m:Mac):Mac:=if gp W m k then m else { m with wk:=db m.wk w (eU (m.wk w) k) }
def fT(W w:Nat)(k:dl)(set:Nat)(m:Mac):Mac:=
 if dt (dw m.l k set).2 k≠0 then ey W w k { m with l:=(dw m.l k set).2 }else { m with l:=(dw m.l k set).2 }
def kY(v:Nat)(x:Ltr)(m:Mac):Mac:={ m with box:=db m.box v (m.box v++[x]) }
def fb(p:Pg)(fuel:Int)(W w:Nat)(k:dl)(m:Mac)(i:Nat):Mac:=
 if gL m.l (k.take i)=w then fT W w (k.take i) (dn (ir p fuel (k.take i)).all) m
 else kY (gL m.l (k.take i)).toNat ⟨k.take i,dn (ir p fuel (k.take i)).all⟩ m
def gS(p:Pg)(fuel:Int)(k:dl):List Nat:=(iu (ir p fuel k).next (mJ p fuel k) (ir p fuel k).ts.length).map Prod.fst
def fu(s:St)(asl:Nat):List Int:=s.all.filter fun t=>!dp asl t
def gu(p:Pg)(fuel:Int)(W w:Nat)(k:dl)(asl:Nat)(d:Int)(m:Mac):Mac:=
 if (ir p fuel k).all=[]then { m with keys:=db m.keys w (m.keys w++[eE (mJ p fuel k)]) }
 else if fu (ir p fuel k) asl=[]then { m with blk:=m.blk+1 }
 else fT W w k (dn [(fu (ir p fuel k) asl).getD (dD d (fu (ir p fuel k) asl).length) 0]) m
def jr(p:Pg)(fuel:Int)(W w:Nat)(k:dl)(asl:Nat)(d:Int)(m:Mac):Mac:=
 gu p fuel W w k asl d ((gS p fuel k).foldl (fb p fuel W w k) { m with l:=(d' p fuel m.l k asl w).2 })
def ic:Mac:=⟨[],0,fun _=>[],fun _=>[],fun _=>[],0,false⟩
def gM(p:Pg)(fuel:Int)(W:Nat):Mac:=jr p fuel W 0 [] 0 0 ic
def lW(W:Nat)(m:Mac):Bool:=(List.range W).all fun w=>(m.box w).isEmpty&&(m.wk w).isEmpty
def el(W:Nat)(m:Mac):Bool:=m.over||lW W m
def gd(W w:Nat)(x:Ltr)(r:List Ltr)(m:Mac):Mac:=
 if dt (dw m.l x.q x.set).2 x.q≠0/\gp W m x.q=false then ey W w x.q { m with box:=db m.box w r,l:=(eO (dw m.l x.q x.set).2 x.q w).2 }
 else { m with box:=db m.box w r,l:=(dw m.l x.q x.set).2 }
def iW(w v:Nat)(m:Mac):Mac:=
 { m with wk:=db (db m.wk v (m.wk v).dropLast) w (eU (m.wk w) ((m.wk v).getLast?.getD [])),l:=(eO m.l ((m.wk v).getLast?.getD []) w).2 }
def gD(p:Pg)(fuel:Int)(W w:Nat)(q:dl)(d:Int)(m:Mac):Mac:=
 let c:=fK p fuel m.l q d
 let m1:Mac:={ m with l:=c.2.2.2,cl:=m.cl+1 }
 jr p fuel W w (q++[UInt8.ofNat c.2.1.toNat]) c.2.2.1 d (if dt c.2.2.2 q≠0 then ey W w q m1 else m1)
def ej(p:Pg)(fuel:Int)(W B:Nat)(w:Nat)(d:Int)(m:Mac):Nat × Mac:=
 if W<=w∨el W m=true then (0,m)else
 match m.box w with
 |x::r=>(1,gd W w x r m)
 | []=>match m.wk w with
  | []=>if dD d W=w∨m.wk (dD d W)=[]then (0,m)else (2,iW w (dD d W) m)
  |q::r=>
   let m1:Mac:={ m with wk:=db m.wk w r }
   if dt m.l q=0 then (4,m1)else if m.l.length=B then (5,{ m1 with over:=true })else (3,gD p fuel W w q d m1)
theorem D7{b:List Ev}:∀{s z:St},Ex s b z->s.run (b.map Ev.thread)=(0,b,z):=by
 induction b with
 |nil=>intro s z h;have c:z=s:=h;rw[c];rfl
 |cons e b d=>
  rintro s z⟨j,f,g⟩;have i:=d g;rw[map_cons,St.run,f];dsimp only;rw[if_pos rfl,i];rfl
theorem Ln(row:List Int):∀{s:St},(s.run row).1=0->Ex s (s.run row).2.1 (s.run row).2.2/\(s.run row).2.1.map Ev.thread=row:=by
 induction row with
 |nil=>intro s _;exact⟨rfl,rfl⟩
 |cons t row e=>
  intro s h
  by_cases a:(s.step t).1=0
  ·rw[St.run,if_pos a]at h ⊢
   by_cases b:((s.step t).2.2.run row).1=0
   ·rw[if_pos b]
    obtain⟨f,g⟩:=e b;have c:s.step t=(0,(s.step t).2.1,(s.step t).2.2):=by rw[<-a]
    have d:(s.step t).2.1.thread=t:=(hY c).2.2;dsimp only;exact⟨⟨(s.step t).2.2,by rw[d];exact c,f⟩,by rw[map_cons,g,d]⟩
   ·rw[if_neg b]at h;exact absurd h b
  ·rw[St.run,if_neg a]at h;exact absurd h a
section
variable{p:Pg}{fuel:Int}
theorem sK(b:dF p fuel=true){a:List Ev}{z:St}(h:Ex (s0 p fuel) a z):dQ p fuel (a.map Ev.thread)=(0,a,some z):=by
 unfold dQ;rw[if_pos b];have:=D7 h;unfold s0 at this;rw[this];rfl
theorem rn{row:List Int}{e:Int}{a:List Ev}{s:St}(h:dQ p fuel row=(e,a,some s)):Ex (s0 p fuel) a s/\a.map Ev.thread=row:=by
 obtain⟨_,f,c,g⟩:=qx h;obtain⟨b,d⟩:=Ln row c
 have i:((St.new p fuel.toNat).run row).2.2=s:=by
  unfold dQ iz at h;rw[if_pos f,if_pos c]at h;simp at h;exact h.2.2
 rw[g]at b d;rw[i]at b;exact⟨b,d⟩
theorem pA{a b:List Ev}:∀{s z d:St},Ex s a z->Ex s b d->a.map Ev.thread=b.map Ev.thread->a=b:=by
 induction a generalizing b with
 |nil=>intro s z d _ _ e;cases b with
  |nil=>rfl
  |cons=>cases e
 |cons x a f=>
  rintro s z d⟨j,c,g⟩ hb e
  cases b with
  |nil=>cases e
  |cons y b=>
   obtain⟨k,h,i⟩:=hb;injection e with e1 e2;rw[e1,h]at c;injection c with _ c;injection c with h5 h6;subst h5 h6;rw[f g i e2]
theorem wG{a b:dl}(h:dB a=dB b):a=b:=by
 induction a generalizing b with
 |nil=>cases b with
  |nil=>rfl
  |cons=>cases h
 |cons x a c=>
  cases b with
  |nil=>cases h
  |cons y b=>
   injection h with h1 h2;rw[c h2,UInt8.toNat_inj.1 (Int.ofNat_inj.1 h1)]
structure NodeR(b:Nd)(n:TNd):Prop where
 row:b.row.map Ev.thread=dB n.pre
 z:∀u,b.z u=dp n.asl u
 g:∀u,u∈b.g↔dp n.gone u=true
structure TreeR(p:Pg)(fuel:Int)(W:Nat)(l:List TNd)(T:List Nd):Prop where
 ok:TreeOk (s0 p fuel) T
 tr:TrOk p fuel l
 len:T.length=l.length
 fwd:∀n∈l,∃b∈T,NodeR b n
 bwd:∀b∈T,∃n∈l,NodeR b n
 own:∀n∈l,0<=n.own/\n.own<W
section
variable{W:Nat}{l:List TNd}{T:List Nd}
theorem TrOk.at(h:TrOk p fuel l){n:TNd}(b:n∈l):∃i,∃a:i<l.length,l[i]=n/\ee l n.pre=some i:=by
 obtain⟨i,a,rfl⟩:=List.getElem_of_mem b;exact⟨i,a,rfl,nL h.nodup a⟩
theorem nP{i:Nat}(a:i<l.length):l.getD i ⟨[],0,0,0,0,0⟩=l[i]:=by simp[List.getD,a]
theorem jJ{k:dl}{i:Nat}(h:ee l k=some i)(a:i<l.length):dt l k=l[i].left:=by
 unfold dt;rw[h];simp[List.getD,a]
theorem xH{k:dl}{i:Nat}(h:ee l k=some i)(a:i<l.length):gL l k=l[i].own:=by
 unfold gL;rw[h];simp[List.getD,a]
theorem mA(f:(l.map TNd.pre).Nodup){i:Nat}(d:i<l.length){n x:TNd}:x∈l.set i n↔x=n∨(x∈l/\x.pre≠l[i].pre):=by
 constructor
 ·intro h
  obtain⟨j,a,rfl⟩:=List.getElem_of_mem h;rw[length_set]at a;rw[List.getElem_set]
  split
  ·exact .inl rfl
  ·rename_i e
   refine .inr ⟨getElem_mem a,fun g=>e ?_⟩;have k:(l.map TNd.pre)[i]'(by simpa using d)=(l.map TNd.pre)[j]'(by simpa using a):=by simp[g]
   exact(List.getElem_inj f).1 k
 ·rintro (rfl|⟨h,b⟩)
  ·exact List.mem_set d _
  ·obtain⟨j,a,rfl⟩:=List.getElem_of_mem h
   have c:i≠j:=fun e=>b (by subst e;rfl)
   have:(l.set i n)[j]'(by simpa using a)=l[j]:=List.getElem_set_ne c _;rw[<-this];exact getElem_mem _
theorem mC{i:Nat}(g:(l.map TNd.pre).Nodup)(d:i<l.length){n:TNd}(e:n.pre=l[i].pre)(k:dl):dt (l.set i n) k=if k=l[i].pre then n.left else dt l k:=by
 have a:=ue d e k
 by_cases c:k=l[i].pre
 ·rw[if_pos c]
  subst c;rw[nL g d]at a;rw[jJ a (by simpa using d)];simp
 ·rw[if_neg c]
  cases b:ee l k with
  |none=>rw[b]at a;unfold dt;rw[a,b]
  |some j=>
   rw[b]at a;obtain⟨f,h⟩:=iQ b;rw[jJ a (by simpa using f),jJ b f,List.getElem_set];rw[if_neg];intro m;subst m;exact c h.symm
theorem TreeR.set(h:TreeR p fuel W l T){i:Nat}(c:i<l.length){n:TNd}(e:n.pre=l[i].pre)(q:n.may=l[i].may)(k:n.asl=l[i].asl)(m:n.gone=l[i].gone)(t:n.todo<256)(v:∀j,n.todo.testBit j=true->n.may.testBit j=true)(w:0<=n.own/\n.own<W):TreeR p fuel W (l.set i n) T:=by
 have a:l[i]∈l:=getElem_mem c;have d:=h.tr.ok _ a;refine⟨h.ok,h.tr.set c e q ⟨by rw[q];exact d.may,by rw[k];exact d.asl,t,by rw[m];exact d.gone⟩ v,by rw[length_set];exact h.len,fun x hx=>?_,fun b hb=>?_,fun x hx=>?_⟩
 ·rcases (mA h.tr.nodup c).1 hx with rfl|⟨hx,_⟩
  ·obtain⟨b,hb,r⟩:=h.fwd _ a
   exact⟨b,hb,by rw[e];exact r.row,fun u=>by rw[k];exact r.z u,fun u=>by rw[m];exact r.g u⟩
  ·exact h.fwd x hx
 ·obtain⟨x,hx,r⟩:=h.bwd b hb
  by_cases s:x.pre=l[i].pre
  ·have o:x=l[i]:=by
    obtain⟨j,y,rfl,f⟩:=h.tr.at hx;rw[s,nL h.tr.nodup c]at f;injection f with f;subst f;rfl
   subst o;exact⟨n,List.mem_set c _,by rw[e];exact r.row,fun u=>by rw[k];exact r.z u,fun u=>by rw[m];exact r.g u⟩
  ·exact⟨x,(mA h.tr.nodup c).2 (.inr ⟨hx,s⟩),r⟩
 ·rcases (mA h.tr.nodup c).1 hx with rfl|⟨hx,_⟩
  ·exact w
  ·exact h.own x hx
theorem TreeR.mark(h:TreeR p fuel W l T){n:TNd}(b:n∈l){set:Nat}(_:set<256):∃i,∃c:i<l.length,l[i]=n/\(dw l n.pre set).2=l.set i { n with todo:=n.todo|||(set&&&n.may) }/\TreeR p fuel W (dw l n.pre set).2 T:=by
 obtain⟨i,c,rfl,hx⟩:=h.tr.at b
 have e:(dw l l[i].pre set).2=l.set i { l[i]with todo:=l[i].todo|||(set&&&l[i].may) }:=by
  unfold dw;rw[hx];dsimp only;rw[nP c]
 refine⟨i,c,rfl,e,?_⟩;rw[e];refine h.set c rfl rfl rfl rfl ?_ ?_ (by exact h.own l[i] b)
 ·exact lM (h.tr.ok _ b).todo (Nat.lt_of_le_of_lt Nat.and_le_right (h.tr.ok _ b).may)
 ·intro j a
  dsimp only at a;rw[Nat.testBit_or,or_eq_true,Nat.testBit_and,and_eq_true]at a;rcases a with a|a
  ·exact h.tr.todo _ b j a
  ·exact a.2
theorem TreeR.hand(h:TreeR p fuel W l T){n:TNd}(b:n∈l){w:Nat}(c:w<W):∃i,∃a:i<l.length,l[i]=n/\(eO l n.pre w).2=l.set i { n with own:=w }/\TreeR p fuel W (eO l n.pre w).2 T:=by
 obtain⟨i,a,rfl,hx⟩:=h.tr.at b
 have e:(eO l l[i].pre w).2=l.set i { l[i]with own:=w }:=by
  unfold eO;rw[hx];dsimp only;rw[nP a]
 refine⟨i,a,rfl,e,?_⟩;rw[e];exact h.set a rfl rfl rfl rfl (h.tr.ok l[i] b).todo (by exact h.tr.todo l[i] b) ⟨by show(0:Int)<=w;omega,by show(w:Int)<W;omega⟩
end
end
structure WorkR(W:Nat)(l:List TNd)(wk:Nat->List df):Prop where
 iff:∀q,(∃w,w<W/\q∈wk w)↔dt l q≠0
 nd:∀w,w<W->(wk w).Nodup
 ap:∀v w,v<W->w<W->v≠w->∀q∈wk v,q∉wk w
structure WorkX(W:Nat)(l:List TNd)(wk:Nat->List df)(q0:df):Prop where
 iff:∀q,q≠q0->((∃w,w<W/\q∈wk w)↔dt l q≠0)
 no:∀w,w<W->q0∉wk w
 nd:∀w,w<W->(wk w).Nodup
 ap:∀v w,v<W->w<W->v≠w->∀q∈wk v,q∉wk w
section
variable{W:Nat}{l l':List TNd}{wk:Nat->List df}{q0:df}
theorem Ie{l:List df}{s q:df}:q∈eU l s↔q=s∨q∈l:=by
 rw[(lK l s).mem_iff,mem_cons]
theorem FJ{l:List df}{s:df}(h:l.Nodup)(a:s∉l):(eU l s).Nodup:=(lK l s).nodup_iff.2 (List.nodup_cons.2 ⟨a,h⟩)
theorem pw{m:Mac}{k:dl}:gp W m k=true↔∃w,w<W/\k∈m.wk w:=by
 unfold gp;rw[List.any_eq_true]
 constructor
 ·rintro⟨w,a,b⟩
  exact⟨w,List.mem_range.1 a,by simpa using b⟩
 ·rintro⟨w,a,b⟩
  exact⟨w,List.mem_range.2 a,by simpa using b⟩
theorem WorkX.push(h:WorkX W l wk q0){w:Nat}(j:w<W)(k:dt l q0≠0):WorkR W l (db wk w (eU (wk w) q0)):=by
 have g:∀v q,q∈db wk w (eU (wk w) q0) v↔(v=w/\q=q0)∨q∈wk v:=by
  intro v q
  by_cases e:v=w
  ·subst e;rw[dg,Ie];exact⟨fun h=>h.imp_left fun h=>⟨rfl,h⟩,fun h=>h.imp_left And.right⟩
  ·rw[dh _ _ e];exact⟨.inr,fun h=>h.elim (fun h=>absurd h.1 e) id⟩
 refine⟨fun q=>?_,fun v b=>?_,fun u v i b f q c=>?_⟩
 ·by_cases e:q=q0
  ·subst e
   exact⟨fun _=>k,fun _=>⟨w,j,(g w q).2 (.inl ⟨rfl,rfl⟩)⟩⟩
  ·rw[<-h.iff q e]
   constructor
   ·rintro⟨v,b,c⟩
    rcases (g v q).1 c with a|a
    ·exact absurd a.2 e
    ·exact⟨v,b,a⟩
   ·rintro⟨v,b,c⟩
    exact⟨v,b,(g v q).2 (.inr c)⟩
 ·by_cases e:v=w
  ·subst e;rw[dg];exact FJ (h.nd v b) (h.no v b)
  ·rw[dh _ _ e];exact h.nd v b
 ·rw[g]at c ⊢
  rintro (d|d)
  ·rcases c with a|a
   ·exact f (a.1.trans d.1.symm)
   ·rw[d.2]at a;exact h.no u i a
  ·rcases c with a|a
   ·rw[a.2]at d;exact h.no v b d
   ·exact h.ap u v i b f q a d
theorem WorkX.none(h:WorkX W l wk q0)(a:dt l q0=0):WorkR W l wk:=by
 refine⟨fun q=>?_,h.nd,h.ap⟩
 by_cases e:q=q0
 ·subst e
  exact⟨fun⟨w,b,c⟩=>absurd c (h.no w b),fun d=>absurd a d⟩
 ·exact h.iff q e
theorem WorkR.off(h:WorkR W l wk)(b:dt l q0=0)(h1:∀q,q≠q0->dt l' q=dt l q):WorkX W l' wk q0:=
 ⟨fun q a=>by rw[h1 q a];exact h.iff q,fun w c a=>(h.iff q0).1 ⟨w,c,a⟩ b,h.nd,h.ap⟩
theorem WorkR.same(h:WorkR W l wk)(h1:∀q,dt l' q≠0↔dt l q≠0):WorkR W l' wk:=⟨fun q=>by rw[h1 q];exact h.iff q,h.nd,h.ap⟩
theorem WorkX.more(h:WorkX W l wk q0)(h1:∀q,q≠q0->dt l' q=dt l q):WorkX W l' wk q0:=⟨fun q a=>by rw[h1 q a];exact h.iff q a,h.no,h.nd,h.ap⟩
theorem WorkR.pop(h:WorkR W l wk){w:Nat}(j:w<W){q:df}{r:List df}(e:wk w=q::r):WorkX W l (db wk w r) q:=by
 have c:=h.nd w j;rw[e,nodup_cons]at c
 have k:∀v x,x≠q->(x∈db wk w r v↔x∈wk v):=by
  intro v x hx
  by_cases a:v=w
  ·subst a;rw[dg,e,mem_cons];exact⟨.inr,fun h=>h.elim (fun h=>absurd h hx) id⟩
  ·rw[dh _ _ a]
 refine⟨fun x hx=>?_,fun v b=>?_,fun v b=>?_,fun u v m b i x hx=>?_⟩
 ·rw[<-h.iff x]
  exact⟨fun⟨v,b,f⟩=>⟨v,b,(k v x hx).1 f⟩,fun⟨v,b,f⟩=>⟨v,b,(k v x hx).2 f⟩⟩
 ·by_cases a:v=w
  ·subst a;rw[dg];exact c.1
  ·rw[dh _ _ a]
   exact h.ap w v j b (Ne.symm a) q (by rw[e];exact mem_cons_self)
 ·by_cases a:v=w
  ·subst a;rw[dg];exact c.2
  ·rw[dh _ _ a];exact h.nd v b
 ·have d:∀y v,v<W->y∈db wk w r v->y∈wk v:=by
   intro y v _ g
   by_cases a:v=w
   ·subst a;rw[dg]at g;rw[e];exact mem_cons_of_mem _ g
   ·rwa [dh _ _ a]at g
  exact fun n=>h.ap u v m b i x (d x u m hx) (d x v b n)
theorem WorkR.steal(h:WorkR W l wk){w v:Nat}(s:w<W)(i:v<W)(m:v≠w){q:df}{r:List df}(e:wk v=r++[q]):WorkR W l (db (db wk v r) w (eU (wk w) q)):=by
 have f:=h.nd v i;rw[e,nodup_append]at f;have n:q∉r:=fun t=>f.2.2 q t q (by simp) rfl
 have z:WorkX W l (db wk v r) q:=by
  have p:∀u x,x≠q->(x∈db wk v r u↔x∈wk u):=by
   intro u x hx
   by_cases c:u=v
   ·subst c;rw[dg,e,mem_append,mem_singleton];exact⟨.inl,fun h=>h.elim id fun h=>absurd h hx⟩
   ·rw[dh _ _ c]
  have g:∀y u,y∈db wk v r u->y∈wk u:=by
   intro y u j
   by_cases c:u=v
   ·subst c;rw[dg]at j;rw[e];exact List.mem_append_left _ j
   ·rwa [dh _ _ c]at j
  refine⟨fun x hx=>?_,fun u d=>?_,fun u d=>?_,fun a b A hb o x hx=>fun B=>h.ap a b A hb o x (g x a hx) (g x b B)⟩
  ·rw[<-h.iff x]
   exact⟨fun⟨u,d,k⟩=>⟨u,d,(p u x hx).1 k⟩,fun⟨u,d,k⟩=>⟨u,d,(p u x hx).2 k⟩⟩
  ·by_cases c:u=v
   ·subst c;rw[dg];exact n
   ·rw[dh _ _ c]
    exact h.ap v u i d (Ne.symm c) q (by rw[e];simp)
  ·by_cases c:u=v
   ·subst c;rw[dg];exact f.1
   ·rw[dh _ _ c];exact h.nd u d
 have C:dt l q≠0:=(h.iff q).1 ⟨v,i,by rw[e];simp⟩;have:=z.push s C
 rwa [dh _ _ (Ne.symm m)]at this
end
end Go.Proofs.YtjfmmnhcddckaaaGreat
