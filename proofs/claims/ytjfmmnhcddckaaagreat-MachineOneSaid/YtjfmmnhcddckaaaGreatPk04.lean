import Derived.Laws.OwnMore
import Derived.Maps.AppendAt
import Derived.Deep.RegionHeld
import Derived.OrdersHeld
import Derived.Test.YtjfmmnhcddckaaaGreatPk03b
set_option maxRecDepth 100000
set_option maxHeartbeats 1000000
namespace Go.Proofs.YtjfmmnhcddckaaaGreat
section
open Go.RowKit
open Nat (add_mul one_mul)
section
variable{T:Type}{f:T->List Value}{n:Nat}
def dA(f:T->List Value)(l:List T):List Value:=l.flatMap f
theorem gF(a:∀x,(f x).length=n)(l:List T):(dA f l).length=l.length*n:=by
 induction l with
 |nil=>simp[dA]
 |cons x l b=>
  unfold dA at *;rw[List.flatMap_cons,List.length_append,b,a,List.length_cons,add_mul,one_mul];omega
theorem pN(f:T->List Value)(a b:List T):dA f (a++b)=dA f a++dA f b:=by simp[dA]
theorem ik(a:∀x,(f x).length=n)(l:List T)(i j:Nat)(h:i<l.length)(b:j<n):(dA f l)[i*n+j]?=(f l[i])[j]?:=by
 induction l generalizing i with
 |nil=>simp at h
 |cons x l c=>
  cases i with
  |zero=>
   simp only[dA,List.flatMap_cons,Nat.zero_mul,Nat.zero_add,List.getElem_cons_zero];rw[List.getElem?_append_left (by rw[a];exact b)]
  |succ i=>
   have:=c i (by simpa using h);have e:(i+1)*n+j-(f x).length=i*n+j:=by rw[a,add_mul];omega
   simp only[dA,List.flatMap_cons,List.getElem_cons_succ]at *;rw[List.getElem?_append_right (by rw[a,add_mul];omega),e,this]
theorem MD(h1:∀x,∀v∈f x,v.oneCell'=true)(l:List T):∀v∈dA f l,v.oneCell'=true:=by
 intro v a;simp only[dA,List.mem_flatMap]at a;obtain⟨x,_,a⟩:=a;exact h1 x v a
theorem uN(f:T->List Value)(x:T):dA f [x]=f x:=by simp[dA]
theorem nX(b:∀x,(f x).length=n)(g:0<n){l:List T}{xs:List Value}(m:xs.length=l.length*n)(h:∀i (h:i<l.length),∀j,j<n->xs[i*n+j]?=(f l[i])[j]?):xs=dA f l:=by
 apply List.ext_getElem?;intro p
 by_cases k:p<l.length*n
 ·have c:p/n<l.length:=Nat.div_lt_of_lt_mul (by rw[Nat.mul_comm];exact k)
  have d:p%n<n:=Nat.mod_lt _ g;have e:p=p/n*n+p%n:=by rw[Nat.mul_comm];exact(Nat.div_add_mod p n).symm
  rw[e,h _ c _ d,ik b _ _ _ c d]
 ·rw[List.getElem?_eq_none (by omega),List.getElem?_eq_none (by rw[gF b];omega)]
def en(w:World)(a:Option Addr)(n:Nat)(f:T->List Value)(l:List T):Prop:=
 l.length<=maxLen/\(l≠[]->∃b o,a=some ⟨b,o,none⟩/\∀i (h:i<l.length) j u,(f l[i])[j]?=some u->w.cell? ⟨b,o+i*n+j,none⟩=some u)
theorem en.later{w w':World}{a:Option Addr}{l:List T}(h:en w a n f l)(hb:Below w.heap.size w w'):en w' a n f l:=by
 refine⟨h.1,fun c=>?_⟩;obtain⟨b,o,rfl,d⟩:=h.2 c;exact⟨b,o,rfl,fun i e j u g=>de hb (d i e j u g)⟩
theorem oI(w:World)(a:Option Addr)(n:Nat)(f:T->List Value):en w a n f []:=⟨by simp[maxLen],fun h=>absurd rfl h⟩
def dc(w:World)(B:Nat)(t:TypeId)(n:Nat)(f:T->List Value)(v:Value)(l:List T):Prop:=w.ownsRow B t n v l.length (dA f l)
theorem dc.alloc{w:World}{B:Nat}{t:TypeId}{v:Value}{l:List T}(h:dc w B t n f v l)(o:Obj):dc (w.alloc o) B t n f v l:=World.ownsRow.alloc h o
theorem iF(w:World)(B:Nat)(t:TypeId)(n:Nat)(f:T->List Value):dc w B t n f (.slice none 0 0) []:=World.ownsRow_nil w B _ _
theorem dc.later{w w':World}{B:Nat}{t:TypeId}{v:Value}{l:List T}(h:dc w B t n f v l)(hb:Below w.heap.size w w'):dc w' B t n f v l:=nz h hb
theorem dc.only{w w':World}{B g:Nat}{t:TypeId}{v:Value}{l:List T}(h:dc w B t n f v l)(a:Only g w w')(b:g<B):dc w' B t n f v l:=xF h a b
theorem dc.form{w:World}{B:Nat}{t:TypeId}{v:Value}{l:List T}(h:dc w B t n f v l)(o:∀x,(f x).length=n)(z:l.length<=1000000):∃a b,v=.slice a l.length b/\en w a n f l/\(a=none->b=0):=by
 obtain⟨A,⟨d,p⟩|⟨g,b,y,d,p,r,C,D,E,s⟩⟩:=h
 ·have e:l=[]:=List.eq_nil_of_length_eq_zero p
  subst e;exact⟨none,0,d,oI _ _ _ _,fun _=>rfl⟩
 ·refine⟨some ⟨g,0,none⟩,b,d,⟨by unfold maxLen;omega,fun _=>⟨g,0,rfl,fun i q j u c=>?_⟩⟩,by simp⟩
  have k:j<n:=by rw[<-o l[i]];exact(List.getElem?_eq_some_iff.1 c).1
  rw[<-ik o l i j q k,<-s]at c
  have m:i*n+j<l.length*n:=by
   have:(i+1)*n<=l.length*n:=Nat.mul_le_mul_right n q;rw[add_mul,one_mul]at this;omega
  rw[List.getElem?_take_of_lt m]at c;simp[World.cell?,r];simpa using c
theorem dc.block{w:World}{B:Nat}{t:TypeId}{v:Value}{l:List T}(h:dc w B t n f v l)(e:l≠[]):∃g b,v=.slice (some ⟨g,0,none⟩) l.length b/\B<=g/\g<w.heap.size:=by
 obtain⟨k,⟨d,c⟩|⟨g,b,j,d,c,i,m,o,p,q⟩⟩:=h
 ·exact absurd (List.eq_nil_of_length_eq_zero c) e
 ·exact⟨g,b,d,c,(Array.getElem?_eq_some_iff.1 i).1⟩
theorem gw(w:World)(a:List Value)(t:TypeId)(g:Nat)(b:g=w.heap.size):∀j u,a[j]?=some u->(w.alloc (.cells a.toArray t)).cell? (Addr.add ⟨g,0,none⟩ j)=some u:=by
 subst b;intro j u c;have e:Addr.add ⟨w.heap.size,0,none⟩ j=⟨w.heap.size,j,none⟩:=by rw[jP,Nat.zero_add]
 rw[e,World.cell?_alloc_new];simpa using c
theorem iU{P:Program}{w:World}{p:Array Oper}{rest:List Oper}{o:Oper}{a:Act}{Q:Exit->Act->World->Prop}(st m:TypeId)(bytes:Nat)(z:Value)(I:P.underlying st=some (.slice m))
  (c:(P.info? m).map (fun i=>(i.zero,i.size,i.bytes))=some (some z,n,bytes)) (J:z.cells.size=n) (L:0<n) (C:bytes<=1000) (M:∀x,(f x).length=n)
  (D:o.guard=none) (s x:Operand) (N:o.op=.call { callee:=.builtin .append,args:=#[s,x],argTypes:=#[st,st] }) (B:Nat) (v:Value) (l:List T) (O:a.eval s=v) (b:dc w B m n f v l)
  (A:Addr) (hx:a.eval x=.slice (some A) 1 1) (e:T) (h1:∀v∈f e,v.oneCell'=true) (d:∀j u,(f e)[j]?=some u->w.cell? (A.add j)=some u) (H:l.length<=1000000) (F:B<=w.heap.size)
  (h:∀y g,dc g B m n f y (l++[e])->Below B w g->w.grownBy g v.ownBlock->wpList P p Q rest (a.put o.dst y) g):wpList P p Q (o::rest) a w:=by
 obtain⟨i,R,q⟩:=Option.map_eq_some_iff.1 c;simp only[Prod.mk.injEq]at q;obtain⟨E,r,t⟩:=q
 refine wpList_append_own w D s x st N B m i z n bytes I R E r t J L v l.length (dA f l) O b A 1 1 (f e) hx (by rw[M,one_mul]) d
  h1 (by unfold maxLen;omega) ?_ F ?_
 ·have:(l.length+1)*bytes<=1000001*1000:=Nat.mul_le_mul (by omega) C
  omega
 intro y g S G _;refine h y g ?_ ((Below.refl B w).grown G F (fun k U=>(World.ownsRow.lt b k U).1)) G;unfold dc;rw[List.length_append,pN,uN];exact S
theorem BI{P:Program}{w:World}{o:Oper}{a:Act}{K:Act->World->Prop}{Q:Exit->Act->World->Prop}(st p:TypeId)(bytes:Nat)(z:Value)(I:P.underlying st=some (.slice p))
  (c:(P.info? p).map (fun i=>(i.zero,i.size,i.bytes))=some (some z,n,bytes)) (J:z.cells.size=n) (L:0<n) (C:bytes<=1000) (M:∀x,(f x).length=n)
  (s x:Operand) (N:o.op=.call { callee:=.builtin .append,args:=#[s,x],argTypes:=#[st,st] }) (B:Nat) (v:Value) (l:List T) (O:a.eval s=v) (b:dc w B p n f v l)
  (A:Addr) (hx:a.eval x=.slice (some A) 1 1) (e:T) (h1:∀v∈f e,v.oneCell'=true) (d:∀j u,(f e)[j]?=some u->w.cell? (A.add j)=some u) (H:l.length<=1000000) (F:B<=w.heap.size)
  (h:∀g m,dc m B p n f g (l++[e])->Below B w m->w.grownBy m v.ownBlock->(g.ownBlock=v.ownBlock∨g.ownBlock=some w.heap.size)->K (a.put o.dst g) m):Oper.wp P o a w K Q:=by
 obtain⟨i,R,q⟩:=Option.map_eq_some_iff.1 c;simp only[Prod.mk.injEq]at q;obtain⟨D,r,t⟩:=q
 have E:(l.length+1)*bytes<=140737488355328:=by
  have:(l.length+1)*bytes<=1000001*1000:=Nat.mul_le_mul (by omega) C;omega
 obtain⟨g,m,y,S,G,_,U⟩:=run_append_own_at (P:=P) w B st o.type p i z n bytes I R D r t J L v l.length (dA f l) b A 1 1 (f e) (by rw[M,one_mul]) d h1 (by unfold maxLen;omega) E F;have hK:=h g m (by unfold dc;rw[List.length_append,pN,uN];exact S) ((Below.refl B w).grown G F (fun k V=>(World.ownsRow.lt b k V).1)) G U;unfold Oper.wp;simp[execOp,N,resolve,invoke,builtin,O,hx,y,Result.andThen];exact hK
theorem lG{P:Program}{w:World}{g:Array Oper}{o:Oper}{a:Act}{K:Act->World->Prop}{Q:Exit->Act->World->Prop}{E:Prop}(st d:TypeId)(bytes:Nat)(z:Value)(A:P.underlying st=some (.slice d))
  (b:(P.info? d).map (fun i=>(i.zero,i.size,i.bytes))=some (some z,n,bytes)) (C:z.cells.size=n) (D:0<n) (t:bytes<=1000) (F:∀x,(f x).length=n) (y:o.guard=none)
  (s x:Operand) (G:o.op=.call { callee:=.builtin .append,args:=#[s,x],argTypes:=#[st,st] }) (B:Nat) (v:Value) (l:List T) (H:a.eval s=v) (k:dc w B d n f v l)
  (r:Addr) (hx:a.eval x=.slice (some r) 1 1) (e:T) (h1:∀v∈f e,v.oneCell'=true) (c:∀j u,(f e)[j]?=some u->w.cell? (r.add j)=some u) (m:l.length<=1000000) (I:B<=w.heap.size)
  (h:∀p q,dc q B d n f p (l++[e])->Below B w q->w.grownBy q v.ownBlock->(p.ownBlock=v.ownBlock∨p.ownBlock=some w.heap.size)->K (a.put o.dst p) q):if Region.wanted o (yielded g a.tmps)=true then Oper.wp P o a w K Q else E:=by
 have J:Region.wanted o (yielded g a.tmps)=true:=by simp[Region.wanted,y]
 rw[if_pos J];exact BI st d bytes z A b C D t F s x G B v l H k r hx e h1 c m I h
def fR(c:Nat->Int):List Value:=[.int .i64 (c 0),.int .i64 (c 1),.int .i64 (c 2),.int .i64 (c 3)]
theorem xY{c d:Nat->Int}(h:∀t,t<4->c t=d t):fR c=fR d:=by
 unfold fR;rw[h 0 (by omega),h 1 (by omega),h 2 (by omega),h 3 (by omega)]
theorem kz(c:Nat->Int){t:Nat}(h:t<4):(fR c)[t]?=some (.int .i64 (c t)):=by
 rcases (by omega:t=0∨t=1∨t=2∨t=3)with rfl|rfl|rfl|rfl <;> rfl
theorem GU(c:Nat->Int)(v:Int){t:Nat}(h:t<4):(fR c).set t (.int .i64 v)=fR (fun j=>if j=t then v else c j):=by
 rcases (by omega:t=0∨t=1∨t=2∨t=3)with rfl|rfl|rfl|rfl <;> rfl
theorem D9{P:Program}(w:World){t elem:TypeId}{d:TypeDesc}(c:Nat->Int)(q:Nat)(a:P.underlying t=some (.array 4 elem))(b:P.underlying elem=some d)
  (e:(match d with | .struct _ | .array _ _=>true|_=>false)=false) (f:(P.info? elem).map (·.size)=some 1) (g:q<4):(Instr.index t (.agg #[.int .i64 (c 0),.int .i64 (c 1),.int .i64 (c 2),.int .i64 (c 3)]) (.int .i64 (q:Int))).run P w=.ok (.int .i64 (c q)) w:=
 oH w q a b e f g (by rcases (by omega:q=0∨q=1∨q=2∨q=3)with rfl|rfl|rfl|rfl <;> rfl)
end
theorem dc.kindQ{T:Type}{f:T->List Value}{n:Nat}{w:World}{B:Nat}{t:TypeId}{v:Value}{l:List T}(h:dc w B t n f v l){g:Nat}(a:v.ownBlock=some g):B<=g/\∃c,w.heap[g]?=some (.cells c t (0,0)):=by
 obtain⟨j,⟨rfl,_⟩|⟨k,i,b,rfl,d,e,m⟩⟩:=h
 ·simp[Value.ownBlock]at a
 ·simp[Value.ownBlock]at a
  subst a;exact⟨d,b,e⟩
theorem dc.keepQ{T:Type}{f:T->List Value}{n:Nat}{w w':World}{B:Nat}{t:TypeId}{v:Value}{l:List T}(h:dc w B t n f v l)(e:∀g,v.ownBlock=some g->w'.heap[g]?=w.heap[g]?):dc w' B t n f v l:=by
 obtain⟨d,a|⟨g,b,c,a,i,j,k⟩⟩:=h
 ·exact⟨d,.inl a⟩
 ·exact⟨d,.inr ⟨g,b,c,a,i,(e g (by rw[a];rfl)).trans j,k⟩⟩
def jx(n:Nat)(cx:Nat->Value):Array Value:=((List.range n).map cx).toArray
theorem pJ{n i:Nat}(cx:Nat->Value)(h:i<n):(jx n cx)[i]?=some (cx i):=by simp[jx,h]
theorem LU{n i:Nat}(cx:Nat->Value)(v:Value):(jx n cx).setIfInBounds i v=jx n (db cx i v):=by
 apply Array.ext_getElem?;intro j
 by_cases a:j<n
 ·by_cases e:i=j
  ·subst e
   rw[pJ _ a,dg];simp[jx,a]
  ·rw[pJ _ a,dh _ _ (Ne.symm e),Array.getElem?_setIfInBounds_ne e,pJ _ a]
 ·rw[Array.getElem?_eq_none (by simp[jx];omega),Array.getElem?_eq_none (by simp[jx];omega)]
theorem LV{n:Nat}(z:Array Value)(cx:Nat->Value)(b:z.size=n)(h:∀i,i<n->z[i]?=some (cx i)):z=jx n cx:=by
 apply Array.ext_getElem?;intro j
 by_cases a:j<n
 ·rw[pJ _ a,h j a]
 ·rw[Array.getElem?_eq_none (by omega),Array.getElem?_eq_none (by simp[jx];omega)]
theorem dc.onlyS{T:Type}{f:T->List Value}{n:Nat}{S:Nat->Prop}{w w':World}{B:Nat}{t:TypeId}{v:Value}{l:List T}(h:dc w B t n f v l)(i:OnlyS S w w')(j:∀g,v.ownBlock=some g->¬S g):dc w' B t n f v l:=by
 obtain⟨d,a|⟨g,b,c,a,k,e,m⟩⟩:=h
 ·exact⟨d,.inl a⟩
 ·refine⟨d,.inr ⟨g,b,c,a,k,(i.block g (Array.getElem?_eq_some_iff.1 e).1 (j g (by rw[a];rfl))).trans e,m⟩⟩
theorem dc.kind{T:Type}{f:T->List Value}{n:Nat}{w:World}{B:Nat}{t:TypeId}{v:Value}{l:List T}(h:dc w B t n f v l){g:Nat}(b:v.ownBlock=some g):B<=g/\∃c,w.heap[g]?=some (.cells c t (0,0)):=by
 obtain⟨k,⟨rfl,_⟩|⟨m,j,d,rfl,e,i,o⟩⟩:=h
 ·simp[Value.ownBlock]at b
 ·simp[Value.ownBlock]at b
  subst b;exact⟨e,d,i⟩
section
variable{h:TrH}{w:World}{gs:List Nat}{l:List TNd}{cl:Int}
theorem TrAt.kinds(t:TrAt h w gs l cl){x:Nat}(hx:eS h gs x):(∃c b,w.heap[x]?=some (.cells c b (0,0))/\(b=121∨b=189))∨(x=h.mb/\∃d c,w.heap[x]?=some (.map d c)):=by
 rcases hx with rfl|rfl|hx
 ·exact .inl ⟨_,_,t.box,.inl rfl⟩
 ·obtain⟨D,⟨d,c,e,_⟩,_⟩:=t.map
  exact .inr ⟨rfl,d,c,e⟩
 ·obtain⟨i,f,rfl⟩:=List.getElem_of_mem hx
  exact .inl ⟨_,_,t.nodes i (by have:=t.len;omega) f,.inr rfl⟩
theorem TrAt.not_row(t:TrAt h w gs l cl){g:Nat}{c:Array Value}{a:TypeId}(b:w.heap[g]?=some (.cells c a (0,0)))(h1:a≠121)(h2:a≠189):¬eS h gs g:=fun hx=>by
 rcases t.kinds hx with ⟨d,i,e,f⟩|⟨_,j,d,e⟩
 ·rw[b]at e
  injection e with e;injection e with _ e;rcases f with rfl|rfl
  ·exact h1 e
  ·exact h2 e
 ·rw[b]at e;cases e
end
end
section
section
variable{P:Program}{ops:Array Oper}{Q:Exit->Act->World->Prop}{md:Region.Mode}{S:World->Prop}{k:Nat}
def jA(P:Program)(md:Region.Mode)(ops:Array Oper)(Q:Exit->Act->World->Prop)(S:World->Prop)(k:Nat):Nat->Array Bool->Act->World->Prop
 |0,b,a,w=>Region.ready md ops b=[]/\Q .normal a w
 |fuel+1,b,a,w=>
  (Region.ready md ops b=[]->Q .normal a w) /\
  ∀i∈Region.ready md ops b,wpOp P ops Q i (fun d c=>(i≠k->S c)/\jA P md ops Q S k fuel (b.setIfInBounds i true) d c) a w
theorem vk:∀(b:Nat) (c:Array Bool) (a:Act) (w:World),jA P md ops Q S k b c a w->wpAny P md ops Q b c a w
 |0,_,_,_,h=>h
 |b+1,_,_,_,h=>⟨h.1,fun i d=>wpOp_mono (fun e f g=>vk b _ e f g.2) (h.2 i d)⟩
theorem BO{i:Nat}{B:Oper}{v:Value}{l:List Nat}(V:ops[i]?=some B)(y:∀(j:Nat) (o:Oper) E b,ops[j]?=some o->o.op≠.select E b)
  (hQ:∀c a w,Q (.panic c) (a.put B.dst v) w->Q (.panic c) a w) (hk:k∈l) (J:∀b∈l,∀Z,ops[b]?=some Z->∃e∈Z.after,Region.binds md e=true/\(e.on=i∨e.on∈l)):
  ∀(g:Nat) (d:Array Bool) (a:Act) (w:World),
   (∀j x,ops[j]?=some x->j≠i->d.getD j true=false->(∀e∈x.after,Region.binds md e=true->e.on≠i)->B.apart ops x=true) ->
   (∀b∈l,d.getD b true=false)->i∈Region.ready md ops d->YieldsIf P ops S B v a->S w ->
   jA P md ops Q S k g (d.setIfInBounds i true) (a.put B.dst v) w->jA P md ops Q S k (g+1) d a w:=by
 intro g
 induction g with
 |zero=>
  intro d a w _ _ C O F H;refine⟨fun h=>(by rw[h]at C;cases C),fun j R=>?_⟩
  by_cases f:j=i
  ·subst f;exact O.wpOp V F ⟨fun _=>F,H⟩
  ·have:=ready_mono R f
   rw[H.1]at this
   cases this
 |succ g ih=>
  intro d a w q n C O F H;refine⟨fun h=>(by rw[h]at C;cases C),fun j R=>?_⟩
  by_cases f:j=i
  ·subst f;exact O.wpOp V F ⟨fun _=>F,H⟩
  ·have D:=H.2 j (ready_mono R f)
   obtain⟨z,x,r,L⟩:=mem_ready.1 R
   have s:∀m,d.getD m true=false->∀e∈x.after,Region.binds md e=true->e.on≠m:=fun m h0 e T hb p=>by
    have D:=L e T hb;rw[p]at D;rcases Nat.lt_or_ge m d.size with W|W
    ·simp[W]at h0 D;rw[h0]at D;cases D
    ·simp[Array.getElem?_eq_none W]at D
   have A:=s i (mem_ready.1 C).1
   have t:j∉l:=fun t=>by
    obtain⟨e,T,hb,p|p⟩:=J j t x r
    ·exact A e T hb p
    ·exact s e.on (n _ p) e T hb rfl
   have X:j≠k:=fun e=>t (e▸hk)
   have h2:=wpOp_putIf r (q j x r f z A) (fun E b=>y i B E b V) (fun E b=>y j x E b r) hQ O D
   have u:∀m G,ops[m]?=some G->m≠i->(d.setIfInBounds j true).getD m true=false ->
     (∀e∈G.after,Region.binds md e=true->e.on≠i)->B.apart ops G=true:=fun m G hm Y n s=>by
    refine q m G hm Y ?_ s
    by_cases I:j=m
    ·subst I;exact z
    ·rw[getD_set_ne true I]at n;exact n
   have M:∀b∈l,(d.setIfInBounds j true).getD b true=false:=fun b hb=>by
    have N:j≠b:=fun e=>t (by rw[e];exact hb)
    rw[getD_set_ne true N];exact n b hb
   refine wpOp_mono (fun a' w' U=>⟨U.2.1,ih (d.setIfInBounds j true) a' w' u M (ready_mono C (Ne.symm f)) U.1 (U.2.1 X) ?_⟩) h2;rw[Array.setIfInBounds_comm _ _ f];exact U.2.2
def qa(md:Region.Mode)(ops:Array Oper)(a:Array Bool)(c:List Nat)(i:Nat):Bool:=c.all fun b=>!a.getD b true&&match ops[b]? with
 |none=>true
 |some d=>d.after.any fun e=>Region.binds md e&&(decide (e.on=i)||c.contains e.on)
theorem vq{a:Array Bool}{c:List Nat}{i:Nat}(h:qa md ops a c i=true):(∀b∈c,a.getD b true=false)/\∀b∈c,∀g,ops[b]?=some g->∃e∈g.after,Region.binds md e=true/\(e.on=i∨e.on∈c):=by
 unfold qa at h;rw[List.all_eq_true]at h;refine⟨fun b hb=>?_,fun b hb g j=>?_⟩
 ·have f:=h b hb
  rw[Bool.and_eq_true,Bool.not_eq_true']at f;exact f.1
 ·have f:=h b hb
  rw[Bool.and_eq_true,j]at f;have d:=f.2;dsimp only at d;rw[Array.any_eq_true']at d;obtain⟨e,k,d⟩:=d;rw[Bool.and_eq_true,Bool.or_eq_true,decide_eq_true_eq]at d;exact⟨e,k,d.1,d.2.imp id fun h=>by simpa using h⟩
theorem BN{i:Nat}{e:Oper}{v:Value}{fuel:Nat}{b:Array Bool}{a:Act}{w:World}(d:List Nat)(f:ops[i]?=some e)
  (j:Region.noSelect ops=true) (l:Region.free md ops b i=true) (m:(Region.ready md ops b).contains i=true) (n:d.contains k=true) (g:qa md ops b d i=true)
  (o:∀c a w,Q (.panic c) (a.put e.dst v) w->Q (.panic c) a w) (p:YieldsIf P ops S e v a) (q:S w)
  (h:jA P md ops Q S k fuel (b.setIfInBounds i true) (a.put e.dst v) w):jA P md ops Q S k (fuel+1) b a w:=
 BO f (Region.noSelect_spec j) o (by simpa using n) (vq g).2 fuel b a w (Region.free_spec f l) (vq g).1 (by simpa using m) p q h
theorem dK(i:Nat){f:Oper}{v:Value}{fuel:Nat}{b:Array Bool}{a:Act}{w:World}(d:List Nat)(g:ops[i]?=some f)
  (e:(Region.noSelect ops&&Region.free md ops b i&&(Region.ready md ops b).contains i&&d.contains k&&qa md ops b d i)=true)
  (j:Region.wanted f (yielded ops a.tmps)=true) (l:∀c a w,Q (.panic c) (a.put f.dst v) w->Q (.panic c) a w) (m:S w) (n:∀w,S w->(execOp a.eval f).run P w=.ok (.value v) w)
  (h:jA P md ops Q S k fuel (b.setIfInBounds i true) (a.put f.dst v) w):jA P md ops Q S k (fuel+1) b a w:=by
 simp only[Bool.and_eq_true]at e;exact BN d g e.1.1.1.1 e.1.1.1.2 e.1.1.2 e.1.2 e.2 l (Or.inl ⟨j,n⟩) m h
theorem fg{i:Nat}{o:Oper}{fuel:Nat}{b:Array Bool}{a:Act}{w:World}(d:Region.ready md ops b=[i])(g:ops[i]?=some o)
  (h:∀c:Act->World->Prop,Shut (∀a w,(i≠k->S w)->jA P md ops Q S k fuel (b.setIfInBounds i true) a w->c a w)->if Region.wanted o (yielded ops a.tmps)=true then Oper.wp P o a w c Q else c (a.put o.dst undef) w):jA P md ops Q S k (fuel+1) b a w:=by
 refine⟨fun e=>(by rw[d]at e;cases e),fun j f=>?_⟩;rw[d]at f;obtain rfl:=List.mem_singleton.1 f;exact wpOp_step g fun c hK=>h c fun a w l m=>hK a w ⟨l,m⟩
theorem m9{b:Array Bool}{a:Act}{w:World}(d:Region.ready md ops b=[])(h:Q .normal a w):∀c,jA P md ops Q S k c b a w
 |0=>⟨d,h⟩
 |_+1=>⟨fun _=>h,by rw[d];simp⟩
theorem m7{id:Nat}{a:Act}{w:World}(b:P.follows .mixedOrders=true)
  (h:jA P .any ops Q S k ops.size (Array.replicate ops.size false) a w.drew):(Code.region id ops true).wp P Q a w:=
 wp_region_any b (vk _ _ _ _ h)
end
end
section
open Go.Lib (hid)
open Go.Proofs.Tryz Go.RowKit
open List (getElem_mem setIfInBounds_toArray set_cons_succ set_cons_zero)
section
variable{h:TrH}{w:World}{gs:List Nat}{l:List TNd}{cl:Int}
theorem vp(l:List TNd)(k:dl)(c:UInt8):jS l (k++[c])=match ee l k with
 |some i=>dp (l.getD i qI).gone (c.toNat:Int)
 |none=>false:=by
 unfold jS;rw[List.dropLast_concat]
 cases ee l k with
 |none=>rfl
 |some i=>simp[qI]
theorem B4(t:TrAt h w gs l cl)(k:dl)(c:UInt8)(z:k.length<=900):Calls prog 101 #[.pointer (some ⟨h.b,0,none⟩),.string ⟨(k++[c]).toArray⟩] w fun r f=>r=.returned (.bool (jS l (k++[c])))/\Below w.heap.size w f:=by
 have v:(⟨(k++[c]).toArray⟩:ByteArray).size=k.length+1:=by simp[ByteArray.size]
 have x:(⟨(k++[c]).toArray⟩:ByteArray).extract 0 k.length=⟨k.toArray⟩:=by rw[rB];simp
 have y:∀o:k.length<(⟨(k++[c]).toArray⟩:ByteArray).size,(⟨(k++[c]).toArray⟩:ByteArray)[k.length]=c:=fun o=>by
  have e:(⟨(k++[c]).toArray⟩:ByteArray)[k.length]=(k++[c])[k.length]'(by simp):=rfl;rw[e];simp
 have A:=UInt8.toNat_lt c;have B:IntKind.i64.wrap (c.toNat:Int)=c.toNat:=IntWalk.i64_in _ (by omega)
 cases a:ee l k with
 |none=>
  have j:Hid (jS l (k++[c])=false):=by show _=_;rw[vp,a]
  have m:=hid (nS t (by omega) a);have C:((6:Int)==0)=false:=rfl;clear t a;generalize k++[c]=q at *;go_enter func101,ntmps101;go_wp2_with fail;refine m.out.mono ?_;rintro r f⟨rfl,rfl⟩;go_wp2
  go_quiet (fail)
  go_wp2;go_ret;exact⟨by rw[j.out];rfl,(Below.refl _ _).drewN⟩
 |some i=>
  obtain⟨d,_⟩:=iQ a;have j:Hid (jS l (k++[c])=dp l[i].gone (c.toNat:Int)):=by show _=_;rw[vp,a];simp[List.getD,d]
  have n:=(t.ok.ok l[i] (getElem_mem d)).gone;obtain⟨p,_,_,_,_,D⟩:=t.node d;have m:=hid (nR t (by omega) a p);clear t a;generalize l[i].gone=G at *;generalize gs[i]=g at *;generalize k++[c]=q at *;go_enter func101,ntmps101;go_wp2_with fail;refine m.out.mono ?_;rintro r f⟨rfl,rfl⟩;go_wp2
  go_quiet ((go_at_call 70;exact Calls.quiet_of_same ((nO n (c.toNat:Int) _).mono fun _ _ ⟨s,u⟩=>⟨s,u.symm⟩)))
  go_wp2;go_ret;exact⟨by rw[j.out];rfl,(Below.refl _ _).drewN⟩
theorem Ir(t:TrAt h w gs l cl){k:dl}(C:k.length<=1000){set:Nat}(D:set<256):Calls prog 71 #[.pointer (some ⟨h.b,0,none⟩),.string ⟨k.toArray⟩,.int .u8 (set:Nat)] w fun r m=>r=.returned (.int .i64 (dw l k set).1)/\TrAt h m gs (dw l k set).2 cl/\OnlyS (eS h gs) w m:=by
 cases n:ee l k with
 |none=>
  have u:Hid (dw l k set=(6,l)):=by show _=_;unfold dw;rw[n]
  have y:=hid (nS t C n);have z:=hid t;clear t n;go_enter func71,ntmps71;go_wp2_with fail;refine y.out.mono ?_;rintro r m⟨rfl,rfl⟩;go_wp2;go_ret;rw[u.out];exact⟨rfl,z.out,OnlyS.refl _ _⟩
 |some i=>
  obtain⟨e,_⟩:=iQ n;have u:Hid (dw l k set=(0,l.set i { l[i]with todo:=l[i].todo|||(set&&&l[i].may) })):=by show _=_;unfold dw;rw[n];simp[List.getD,e]
  have c:=t.ok.ok l[i] (getElem_mem e);have q:=t.ok.todo l[i] (getElem_mem e);obtain⟨s,_,G,_,E,_⟩:=t.node e;have d:=t.nodes i e s;have f3:w.frozen? ⟨gs[i],3,none⟩=false:=by simp[World.frozen?,d]
  have y:=hid (nR t C n s);have f:set&&&l[i].may<256:=Nat.lt_of_le_of_lt Nat.and_le_left D;have F:Hid (OnlyS (fun x=>x=gs[i]) w (w.setCell ⟨gs[i],3,none⟩ (.int .u8 ((l[i].todo|||(set&&&l[i].may):Nat):Int)))):=OnlyS.setCell (S:=fun x=>x=gs[i]) (OnlyS.refl _ w) (p:=⟨gs[i],3,none⟩) rfl _
  have z:Hid (TrAt h (w.setCell ⟨gs[i],3,none⟩ (.int .u8 ((l[i].todo|||(set&&&l[i].may):Nat):Int))) gs (l.set i { l[i]with todo:=l[i].todo|||(set&&&l[i].may) }) cl):=t.put e s rfl rfl ⟨c.may,c.asl,lM c.todo f,c.gone⟩ (fun j o=>by
   rw[Nat.testBit_or,Bool.or_eq_true,Nat.testBit_and,Bool.and_eq_true]at o;rcases o with o|o
   ·exact q j o
   ·exact o.2) F.out (by rw[heap_setCell_same w gs[i] 3 _ _ _ d];rfl)
  have H:Hid (∀x,x=gs[i]->eS h gs x):=fun x hx=>.inr (.inr (hx▸getElem_mem s))
  have I:Hid (∀W,Calls prog 116 #[.int .u8 (l[i].todo:Nat),.int .u8 (bits .and .u8 (set:Int) (l[i].may:Int))] W fun r m=>r=.returned (.int .u8 ((l[i].todo|||(set&&&l[i].may):Nat):Int))/\W=m):=fun W=>by
   rw[AV _ _ D c.may];exact vy c.todo f W
  clear t n c q d f;generalize l[i].todo|||(set&&&l[i].may)=U at *;generalize l[i].todo=T at *;generalize l[i].may=M at *;generalize gs[i]=g at *;go_enter func71,ntmps71;go_wp2_with fail;refine y.out.mono ?_;rintro r m⟨rfl,rfl⟩;go_wp2
  have a:w.drew.cell? ⟨g,1,none⟩=some (.int .u8 (M:Nat))/\w.drew.cell? ⟨g,3,none⟩=some (.int .u8 (T:Nat)):=⟨G,E⟩
  have A:w.drew.frozen? ⟨g,3,none⟩=false:=f3;have B:w.drew.cell? ⟨g,3,none⟩=some (.int .u8 (T:Nat)):=E;refine m7 (S:=fun W=>W.cell? ⟨g,1,none⟩=some (.int .u8 (M:Nat))/\W.cell? ⟨g,3,none⟩=some (.int .u8 (T:Nat))) (k:=14) (by kernel_rfl) ?_;refine dK 0 (v:=?_) [14] rfl (by kernel_rfl) (by kernel_rfl) (fun _ _ _ h=>h) a ?_ ?_
  rotate_left
  ·intro w hSw
   try dsimp only at hSw
   go_simp
   with_reducible rfl
  try simp only[Act.put,setIfInBounds_toArray]
  refine dK 1 (v:=?_) [14] rfl (by kernel_rfl) (by kernel_rfl) (fun _ _ _ h=>h) a ?_ ?_
  rotate_left
  ·intro w hSw
   try dsimp only at hSw
   go_simp
   with_reducible rfl
  try simp only[Act.put]
  refine dK 2 (v:=?_) [14] rfl (by kernel_rfl) (by kernel_rfl) (fun _ _ _ h=>h) a ?_ ?_
  rotate_left
  ·intro w hSw
   try dsimp only at hSw
   go_simp
   with_reducible rfl
  try simp only[Act.put]
  refine dK 3 (v:=?_) [14] rfl (by kernel_rfl) (by kernel_rfl) (fun _ _ _ h=>h) a ?_ ?_
  rotate_left
  ·intro w hSw
   try dsimp only at hSw
   go_simp
   with_reducible rfl
  try simp only[Act.put]
  refine dK 4 (v:=?_) [14] rfl (by kernel_rfl) (by kernel_rfl) (fun _ _ _ h=>h) a ?_ ?_
  rotate_left
  ·intro w hSw
   try dsimp only at hSw
   go_simp
   with_reducible rfl
  try simp only[Act.put]
  refine dK 5 (v:=?_) [14] rfl (by kernel_rfl) (by kernel_rfl) (fun _ _ _ h=>h) a ?_ ?_
  rotate_left
  ·intro w hSw
   try dsimp only at hSw
   go_simp
   with_reducible rfl
  try simp only[Act.put]
  refine dK 6 (v:=?_) [14] rfl (by kernel_rfl) (by kernel_rfl) (fun _ _ _ h=>h) a ?_ ?_
  rotate_left
  ·intro w hSw
   try dsimp only at hSw
   go_simp
   with_reducible rfl
  try simp only[Act.put]
  refine dK 7 (v:=?_) [14] rfl (by kernel_rfl) (by kernel_rfl) (fun _ _ _ h=>h) a ?_ ?_
  rotate_left
  ·intro w hSw
   try dsimp only at hSw
   go_simp
   with_reducible rfl
  try simp only[Act.put]
  refine dK 8 (v:=?_) [14] rfl (by kernel_rfl) (by kernel_rfl) (fun _ _ _ h=>h) a ?_ ?_
  rotate_left
  ·intro w hSw
   try dsimp only at hSw
   go_simp
   with_reducible rfl
  try simp only[Act.put]
  refine dK 9 (v:=?_) [14] rfl (by kernel_rfl) (by kernel_rfl) (fun _ _ _ h=>h) a ?_ ?_
  rotate_left
  ·intro w hSw
   try dsimp only at hSw
   go_simp
   with_reducible rfl
  try simp only[Act.put]
  refine dK 10 (v:=?_) [14] rfl (by kernel_rfl) (by kernel_rfl) (fun _ _ _ h=>h) a ?_ ?_
  rotate_left
  ·intro w hSw
   try dsimp only at hSw
   go_simp
   with_reducible rfl
  try simp only[Act.put]
  refine fg (i:=11) (by kernel_rfl) rfl (fun K hK=>?_)
  go_simp
  refine(I.out w.drew).mono ?_;rintro r m⟨rfl,rfl⟩;refine hK.out _ _ (fun _=>a) ?_;clear hK K
  try simp only[Act.put,setIfInBounds_toArray,set_cons_zero,set_cons_succ]
  refine fg (i:=12) (by kernel_rfl) rfl (fun K hK=>?_)
  go_simp
  refine hK.out _ _ (fun _=>a) ?_;clear hK K
  try simp only[Act.put,setIfInBounds_toArray,set_cons_zero,set_cons_succ]
  refine fg (i:=13) (by kernel_rfl) rfl (fun K hK=>?_)
  go_simp
  refine hK.out _ _ (fun _=>a) ?_;clear hK K
  try simp only[Act.put,setIfInBounds_toArray,set_cons_zero,set_cons_succ]
  refine fg (i:=14) (by kernel_rfl) rfl (fun K hK=>?_)
  go_simp
  refine hK.out _ _ (fun h=>absurd rfl h) ?_;clear hK K
  try simp only[Act.put,setIfInBounds_toArray,set_cons_zero,set_cons_succ]
  refine m9 (by kernel_rfl) ?_ _;clear a A B;go_wp2;go_ret;rw[u.out];exact⟨rfl,z.out.drew,(F.out.mono fun x _ hx=>H.out x hx).drew⟩
end
theorem LL{F:Nat}{s:St}{b:Nat}{w:World}(h:di w b s)(l:s.Ok F)(t:Int):
  Calls prog 113 #[.pointer (some ⟨b,0,none⟩),.int .i64 t] w fun r o=>r=.returned (.bool (s.may t))/\Below w.heap.size w o:=by
 have H:=hid h;have g:=hid l;clear h l
 cases c:s.next t with
 |none=>
  have m:s.may t=false:=by rw[St.may_eq g.out,c]
  rw[m];have i:=hid c;clear c m;go_enter func113,ntmps113;go_wp2_with fail;refine(oV H.out g.out t).mono ?_;rw[i.out,mI];rintro r n⟨rfl,a⟩;have j:=a.size;go_wp2;go_ret;exact⟨rfl,a.alloc j _⟩
 |some e=>
  have i:=hid c;clear c;go_enter func113,ntmps113;go_wp2_with fail;refine(oV H.out g.out t).mono ?_;rw[i.out,ll];rintro r n⟨rfl,a⟩;have j:=a.size;have p:=hid ((H.out.later a).later (da n (.cells #[.int .i64 e.thread,.int .i64 e.kind,.int .i64 e.obj,.bool e.fail] 112)));have d:=a.alloc j (.cells #[.int .i64 e.thread,.int .i64 e.kind,.int .i64 e.obj,.bool e.fail] 112);clear a;go_wp2_with fail;refine(tI p.out g.out i.out).mono ?_;rintro r q⟨rfl,f⟩;have k:=d.trans (f.mono (by simp;omega));clear d f;go_wp2;go_ret;exact⟨rfl,k⟩
def St.allTo(s:St)(k:Nat):List Int:=((List.range k).map Int.ofNat).filter s.may
theorem St.allTo_succ(s:St)(k:Nat):s.allTo (k+1)=s.allTo k++if s.may k=true then [(k:Int)]else []:=by
 unfold St.allTo;rw[List.range_succ,List.map_append,List.filter_append]
 congr 1
 have e:Int.ofNat k=(k:Int):=rfl
 by_cases h:s.may k=true
 ·simp[h]
 ·simp[h]
theorem St.allTo_le(s:St)(k:Nat):(s.allTo k).length<=k:=by
 unfold St.allTo;exact Nat.le_trans (List.length_filter_le _ _) (by simp)
theorem lu{F:Nat}{s:St}{b:Nat}{w:World}(h:di w b s)(j:s.Ok F):
  Calls prog 69 #[.pointer (some ⟨b,0,none⟩)] w fun r m=>∃v,r=.returned v/\dC m w.heap.size v s.all/\Below w.heap.size w m:=by
 have A:=j.len4;have H:=hid h;have u:=hid j;clear h j;go_enter func69,ntmps69
 go_wp2_with (go_at_call 107;refine(nj H.out).mono ?_;rintro r m ⟨rfl,rfl⟩)
 go_loopw [3,7] (fun l i wr=>∃k:Nat,k<=s.ts.length/\i=.int .i64 k/\dC wr w.heap.size l (s.allTo k)/\Below w.heap.size w wr) (fun _ i _=>s.ts.length-(intOf i).toNat)
 case atStart=>exact⟨0,Nat.zero_le _,rfl,oR _ _,Below.refl _ _⟩
 case round=>
  obtain⟨k,B,rfl,a,hb⟩:=hrel
  by_cases y:k<s.ts.length
  ·have z:=s.allTo_le k
   have q:=hid (s.allTo_succ k);go_wp2_with fail;refine(LL (H.out.later hb) u.out k).mono ?_;rintro r t⟨rfl,d⟩;have e:=hb.trans (d.mono hb.size);have c:=a.later d;have x:=e.size;clear a hb d
   cases g:s.may k
   ·have n:Hid (s.allTo (k+1)=s.allTo k):=by
     show _=_;rw[q.out,g];simp
    clear g;go_wp2
    go_roundw
    case rel=>exact⟨k+1,by omega,by go_num,by rw[n.out];exact c,e⟩
    case measure=>simp[intOf];omega
   ·have n:Hid (s.allTo (k+1)=s.allTo k++[(k:Int)]):=by
     show _=_;rw[q.out,g];simp
    clear g
    go_wp2_with (at_builtin;refine p6 rfl (.tmp 13) (.tmp 15) rfl w.heap.size _ (s.allTo k) rfl (c.alloc _) ⟨t.heap.size,0,none⟩ 1 1 rfl [(k:Int)] rfl (qG t [(k:Int)] _ _ rfl) (by simp;omega) (by simp;omega) ?_;intro C D f o _)
    have p:=(e.alloc x _).trans o
    go_roundw
    case rel=>exact⟨k+1,by omega,by go_num,by rw[n.out];exact f,p⟩
    case measure=>simp[intOf];omega
  ·obtain rfl:k=s.ts.length:=by omega
   go_wp2;go_ret;exact⟨_,rfl,a,hb⟩
end
end Go.Proofs.YtjfmmnhcddckaaaGreat
