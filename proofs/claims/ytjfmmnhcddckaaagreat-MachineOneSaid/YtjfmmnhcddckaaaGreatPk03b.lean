import Derived.Laws.Shifts
import Derived.Test.YtjfmmnhcddckaaaGreatPk03
set_option maxRecDepth 100000
set_option maxHeartbeats 1000000
namespace Go.Proofs.YtjfmmnhcddckaaaGreat
section
open Go.RowKit
theorem wD{P:Program}(w:World)(u E F elem:TypeId)(k g n f:Nat)(p:Option Addr)(h:Nat)(a:Array Value)(t:TypeId)(b:List Value)
  (y:P.underlying u=some (.slice elem)) (z:(P.info? elem).map (·.size)=some k)
  (A:w.heap[g]?=some (.cells a t (0,0))) (d:b.length=n*k) (D:a.size=n*k)
  (l:b≠[]->∃m,p=some m/\∀j v,b[j]?=some v->w.cell? (m.add j)=some v) (h1:∀v∈b,v.oneCell'=true):
  (Builtin.copy_ #[u,E] F #[.slice (some ⟨g,0,none⟩) n f,.slice p n h]).run P w=.ok (goInt n) (w.setRow g b.toArray):=by
 cases o:P.info? elem with
 |none=>simp[o]at z
 |some i=>
  have B:i.size=k:=by simpa [o]using z
  by_cases C:b=[]
  ·subst C
   have r:n*k=0:=by simpa using d.symm
   have G:a=#[]:=Array.eq_empty_of_size_eq_zero (by omega);subst G;have q:∀(x:Addr),(loadCells x 0).run P w=.ok #[] w:=fun x=>by simpa using run_loadCells_list (P:=P) w x [] (by simp)
   have s:w.setRow g #[]=w:=setRow_self w g #[] t (0,0) A
   cases p <;> simp[Builtin.copy_,run_underlying y,Builtin.lenOf,Builtin.firstCells,sizeOf,typeInfo,o,B,r,storeCells,q,s]
  ·obtain⟨m,rfl,c⟩:=l C
   have q:=run_loadCells_list (P:=P) w m b c;have e:=run_storeCells_at P g 0 t b 0 a w A (by omega) h1;have H:List.drop b.length a.toList=[]:=by rw[List.drop_eq_nil_iff];simp;omega
   simp[H]at e;simp[Builtin.copy_,run_underlying y,Builtin.lenOf,Builtin.firstCells,sizeOf,typeInfo,o,B,<-d,q,e]
theorem Hy{α:Type}(xs:Array α)(x:α)(f:α->α):(xs.push x).modify xs.size f=xs.push (f x):=by
 apply Array.ext_getElem?;intro i;rw[Array.getElem?_modify,Array.getElem?_push,Array.getElem?_push]
 by_cases h:xs.size=i
 ·rw[if_pos h,if_pos h.symm,if_pos h.symm];rfl
 ·rw[if_neg h,if_neg (fun e=>h e.symm),if_neg (fun e=>h e.symm)]
theorem uW(w:World)(c a:Array Value)(t:TypeId):(w.alloc (.cells c t)).setRow w.heap.size a=w.alloc (.cells a t):=by
 show({ w with heap:=(w.heap.push (.cells c t)).modify w.heap.size _ }:World)={ w with heap:=w.heap.push (.cells a t) };rw[Hy]
end
section
open Go.Lib (hid)
open Go.Proofs.Tryz Go.RowKit
theorem L7(w:World):
  Calls prog 100 #[.slice none 0 0] w fun r a=>r=.returned (.slice none 0 0)/\w=a:=by
 have b:=fun w=>Lib.run_eql_slice_nil (P:=prog) w 64 63 none 0 0 0 0 underlying64
 go_enter func100,ntmps100;go_wp2;go_ret;exact⟨rfl,rfl⟩
theorem L8(b:Addr)(cap:Nat)(l:List Ins)(w:World)(a:∀j v,(gn l)[j]?=some v->w.cell? (b.add j)=some v)(h:l.length<=1000000):
  Calls prog 100 #[.slice (some b) l.length cap] w fun r c=>r=.returned (.slice (some ⟨w.heap.size,0,none⟩) l.length l.length)/\w.alloc (.cells (gn l).toArray 63)=c:=by
 have i:=fun w=>Lib.run_eql_slice_nil (P:=prog) w 64 63 (some b) l.length cap 0 0 underlying64
 have d:=hid a;clear a;have f:=lJ (P:=prog) 64 63 (.agg #[.int .i64 0,.int .i64 0,.int .i64 0,.int .i64 0]) 4 32 underlying64 (by kernel_rfl) l.length (by omega) (by omega)
 have g:(Builtin.copy_ #[64,64] 3 #[.slice (some ⟨w.heap.size,0,none⟩) l.length l.length,.slice (some b) l.length cap]).run prog
   (w.alloc (.cells (madeCells #[.int .i64 0,.int .i64 0,.int .i64 0,.int .i64 0] (l.length*4)) 63))=.ok (.int .i64 l.length) (w.alloc (.cells (gn l).toArray 63)):=by
  have:=wD (P:=prog) (w.alloc (.cells (madeCells #[.int .i64 0,.int .i64 0,.int .i64 0,.int .i64 0] (l.length*4)) 63)) 64 64 3 63 4 w.heap.size l.length l.length
   (some b) cap (madeCells #[.int .i64 0,.int .i64 0,.int .i64 0,.int .i64 0] (l.length*4)) 63 (gn l) underlying64 (by kernel_rfl) (MapKept.heap_alloc w _).1 (pq l) (size_madeCells _ _)
   (fun _=>⟨_,rfl,fun j v e=>de (da w _) (d.out j v e)⟩) (zk l)
  rw[uW]at this;exact this
 go_enter func100,ntmps100;go_wp2;go_ret;exact⟨rfl,rfl⟩
def jW(c:Option Addr × Nat × Nat):Value:=.slice c.1 c.2.1 c.2.2
theorem L5(w:World):
  Calls prog 99 #[.slice none 0 0] w fun r a=>r=.returned (.slice none 0 0)/\w=a:=by
 have b:=fun w=>Lib.run_eql_slice_nil (P:=prog) w 22 64 none 0 0 0 0 underlying22
 go_enter func99,ntmps99;go_wp2;go_ret;exact⟨rfl,rfl⟩
theorem L6(b:Addr)(cap:Nat)(a:List (Option Addr × Nat × Nat))(w:World)(f:∀j v,(a.map jW)[j]?=some v->w.cell? (b.add j)=some v)(l:a.length<=1000000):
  Calls prog 99 #[.slice (some b) a.length cap] w fun r h=>r=.returned (.slice (some ⟨w.heap.size,0,none⟩) a.length a.length)/\w.alloc (.cells (a.map jW).toArray 64)=h:=by
 have m:=fun w=>Lib.run_eql_slice_nil (P:=prog) w 22 64 (some b) a.length cap 0 0 underlying22
 have k:=lJ (P:=prog) 22 64 (.slice none 0 0) 1 24 underlying22 (by kernel_rfl) a.length (by omega) (by omega)
 have e:(Builtin.copy_ #[22,22] 3 #[.slice (some ⟨w.heap.size,0,none⟩) a.length a.length,.slice (some b) a.length cap]).run prog
   (w.alloc (.cells (madeCells #[.slice none 0 0] a.length) 64))=.ok (.int .i64 a.length) (w.alloc (.cells (a.map jW).toArray 64)):=by
  have:=wD (P:=prog) (w.alloc (.cells (madeCells #[.slice none 0 0] a.length) 64)) 22 22 3 64 1 w.heap.size a.length a.length
   (some b) cap (madeCells #[.slice none 0 0] a.length) 64 (a.map jW) underlying22 (by kernel_rfl) (MapKept.heap_alloc w _).1 (by simp) (by simp[size_madeCells])
   (fun _=>⟨_,rfl,fun j v d=>de (da w _) (f j v d)⟩) (by intro v d;obtain⟨x,_,rfl⟩:=List.mem_map.1 d;rfl)
  rw[uW]at this;exact this
 clear f
 have i:∃g,g=(a.map jW).toArray:=⟨_,rfl⟩
 obtain⟨g,c⟩:=i;rw[<-c]at e ⊢;have n:=hid c;clear c;go_enter func99,ntmps99;go_wp2;go_ret;exact⟨rfl,rfl⟩
def mW(w:World)(B a:Nat)(c:Option Addr)(l:List Ins):Prop:=
 l≠[]->∃g,c=some ⟨g,0,none⟩/\B<=g/\g≠a/\w.heap[g]?=some (.cells (gn l).toArray 63 (0,0))
def im(w:World)(B:Nat)(a:Option Addr)(ts:List (List Ins)):Prop:=
 ts≠[]->∃g d,a=some ⟨g,0,none⟩/\B<=g/\w.heap[g]?=some (.cells (List.toArray d) 64 (0,0))/\d.length=ts.length /\
  ∀i (h:i<ts.length),∃c b,d[i]?=some (.slice c ts[i].length b)/\(c=none->b=0)/\mW w B g c ts[i]
theorem im.at{w:World}{B:Nat}{a:Option Addr}{ts:List (List Ins)}(h:im w B a ts)(j:ts.length<=maxLen)(b:∀l∈ts,l.length<=maxLen):dI w a ts:=by
 refine⟨j,fun k=>?_⟩;obtain⟨g,s,rfl,_,m,t,n⟩:=h k;refine⟨g,0,rfl,fun i o=>?_⟩;obtain⟨c,e,p,q,r⟩:=n i o;refine⟨c,e,?_,⟨b _ (List.getElem_mem _),fun d=>?_⟩,q⟩
 ·simp[World.cell?,m,p]
 ·obtain⟨u,rfl,_,_,f⟩:=r d
  exact(Mf (b _ (List.getElem_mem _)) f).2 d
def vf(p:Pg)(w:World)(r:Ending)(w':World):Prop:=
 ∃c b,r=.returned (kw p c b)/\(c=none->b=0)/\Below w.heap.size w w'/\im w' w.heap.size c p.threads/\b=p.threads.length
theorem Cq{w:World}{b o:Nat}{ts:List (List Ins)}(l:∀i (h:i<ts.length),∃c a,w.cell? ⟨b,o+i,none⟩=some (.slice c ts[i].length a)/\ip w c ts[i]/\(c=none->a=0)):
  ∃d:List (Option Addr × Nat × Nat),d.length=ts.length/\∀i (h:i<ts.length),∃c a,d[i]?=some (c,ts[i].length,a)/\w.cell? ⟨b,o+i,none⟩=some (.slice c ts[i].length a)/\ip w c ts[i]/\(c=none->a=0):=by
 obtain⟨d,m,hx⟩:=rk ts.length (fun i (x:Option Addr × Nat × Nat)=>∃h:i<ts.length,x.2.1=ts[i].length/\w.cell? ⟨b,o+i,none⟩=some (.slice x.1 x.2.1 x.2.2)/\ip w x.1 ts[i]/\(x.1=none->x.2.2=0))
  (fun i f=>by obtain⟨c,a,g,j,k⟩:=l i f;exact⟨(c,ts[i].length,a),f,rfl,g,j,k⟩)
 refine⟨d,m,fun i f=>?_⟩;obtain⟨_,e,g,j,k⟩:=hx i (d[i]'(by omega)) (List.getElem?_eq_getElem _);refine⟨(d[i]'(by omega)).1,(d[i]'(by omega)).2.2,?_,?_,j,k⟩
 ·rw[List.getElem?_eq_getElem (by omega),<-e]
 ·rw[g,e]
theorem im.mono{w:World}{B B':Nat}{a:Option Addr}{ts:List (List Ins)}(h:im w B a ts)(x:B'<=B):im w B' a ts:=by
 intro k;obtain⟨g,l,e,y,m,n,o⟩:=h k;refine⟨g,l,e,by omega,m,n,fun i p=>?_⟩;obtain⟨c,b,q,r,s⟩:=o i p;refine⟨c,b,q,r,fun d=>?_⟩;obtain⟨t,u,v,f,j⟩:=s d;exact⟨t,u,by omega,f,j⟩
theorem im.keep{w w':World}{B:Nat}{a:Option Addr}{ts:List (List Ins)}(h:im w B a ts)(l:∀g,B<=g->g<w.heap.size->w'.heap[g]?=w.heap[g]?):im w' B a ts:=by
 intro r;have m:∀{g:Nat} {o:Obj},w.heap[g]?=some o->g<w.heap.size:=fun e=>(Array.getElem?_eq_some_iff.1 e).1
 obtain⟨g,s,e,n,p,t,u⟩:=h r;refine⟨g,s,e,n,(l g n (m p)).trans p,t,fun i v=>?_⟩;obtain⟨c,f,x,y,z⟩:=u i v;refine⟨c,f,x,y,fun j=>?_⟩;obtain⟨q,A,b,k,d⟩:=z j;exact⟨q,A,b,k,(l q b (m d)).trans d⟩
theorem En{w:World}{g k:Nat}{a:List Value}{t:TypeId}{b:Nat × Nat}(h:w.heap[g]?=some (.cells a.toArray t b))(v:Value):
  (w.setCell ⟨g,k,none⟩ v).heap[g]?=some (.cells (a.set k v).toArray t b):=by
 simp[World.setCell,Array.getElem?_modify,h]
def oh(w e:World)(f:List (Option Addr × Nat × Nat))(ts:List (List Ins))(k:Nat)(wr:World):Prop:=
 Below (w.heap.size+1+1) e wr/\∃d:List Value,wr.heap[w.heap.size+1+1]?=some (.cells d.toArray 64 (0,0))/\d.length=ts.length/\(∀i,k<=i->d[i]?=(f.map jW)[i]?) /\
  ∀i (h:i<ts.length),i<k->∃c b,d[i]?=some (.slice c ts[i].length b)/\(c=none->b=0)/\mW wr (w.heap.size+1+1) (w.heap.size+1+1) c ts[i]
theorem oh.step{w s wr f:World}{t:List (Option Addr × Nat × Nat)}{ts:List (List Ins)}{k:Nat}(h:oh w s t ts k wr)(H:k<ts.length)
  (c:Option Addr) (cap:Nat) (y:c=none->cap=0) (q:Below wr.heap.size wr f) (z:mW f (w.heap.size+1+1) (w.heap.size+1+1) c ts[k]) (n:Nat) (A:n=ts[k].length):
  oh w s t ts (k+1) (f.setCell ⟨w.heap.size+1+1,k,none⟩ (.slice c n cap)):=by
 subst A;obtain⟨hb,B,u,C,D,E⟩:=h;have r:w.heap.size+1+1<wr.heap.size:=(Array.getElem?_eq_some_iff.1 u).1
 have a:∀{c l},mW f (w.heap.size+1+1) (w.heap.size+1+1) c l->∀v,mW (f.setCell ⟨w.heap.size+1+1,k,none⟩ v) (w.heap.size+1+1) (w.heap.size+1+1) c l:=by
  intro c l h v b;obtain⟨g,e,o,j,m⟩:=h b;exact⟨g,e,o,j,(Below.heap_setCell _ _ _ _ j).trans m⟩
 have d:∀{c l},mW wr (w.heap.size+1+1) (w.heap.size+1+1) c l->mW f (w.heap.size+1+1) (w.heap.size+1+1) c l:=by
  intro c l h b;obtain⟨g,e,o,j,m⟩:=h b;exact⟨g,e,o,j,(q.block g ((Array.getElem?_eq_some_iff.1 m).1)).trans m⟩
 refine⟨(hb.trans (q.mono (by omega))).setCell (by simp) _,B.set k _,En ((q.block _ r).trans u) _,by simp[C],fun i x=>?_,fun i x G=>?_⟩
 ·rw[List.getElem?_set_ne (by omega)];exact D i (by omega)
 ·by_cases e:i=k
  ·subst e
   exact⟨c,cap,by rw[List.getElem?_set_self (by omega)],y,a z _⟩
  ·obtain⟨F,p,o,j,m⟩:=E i x (by omega)
   exact⟨F,p,by rw[List.getElem?_set_ne (by omega)];exact o,j,a (d m) _⟩
theorem oh.own{w b wr:World}{c:List (Option Addr × Nat × Nat)}{ts:List (List Ins)}(h:oh w b c ts ts.length wr):im wr (w.heap.size+1+1) (some ⟨w.heap.size+1+1,0,none⟩) ts:=by
 obtain⟨hb,d,e,f,j,g⟩:=h
 exact fun _=>⟨_,d,rfl,Nat.le_refl _,e,f,fun i a=>g i a a⟩
theorem Aw(V M:Int)(ts:List (List Ins))(b:Addr)(cap:Nat)(w:World)(d:List (Option Addr × Nat × Nat))(s:d.length=ts.length)
  (B:∀j v,(d.map jW)[j]?=some v->w.cell? (b.add j)=some v)
  (C:∀i (h:i<ts.length),∃c f,d[i]?=some (c,ts[i].length,f)/\ip w c ts[i]/\(c=none->f=0)) (hm:ts.length<=1000000) (D:∀l∈ts,l.length<=1000000):
  Calls prog 62 #[.agg #[.int .i64 V,.int .i64 M,.slice (some b) ts.length cap]] w (vf ⟨V,M,ts⟩ w):=by
 have N:=hid B;have O:=hid C;have P:=hid D;have o:=hid s;have Q:d.length<=1000000:=by omega
 clear B C D;rw[<-s];clear s;go_enter func62,ntmps62;go_wp2_with fail;refine(L6 b cap d _ ?hx Q).mono ?_
 case hx=>
  intro j v z;exact de (eH w _ _) (N.out j v z)
 rintro r X⟨rfl,rfl⟩;go_wp2_with fail
 go_loopw [11] (fun i wr=>∃k:Nat,k<=d.length/\i=.int .i64 k/\oh w ((w.alloc (.cells #[.int .i64 V,.int .i64 M,.slice (some b) d.length cap] 24)).alloc (.cells #[.int .i64 0,.int .i64 0,.slice none 0 0] 24)) d ts k wr) (fun i _=>d.length-(intOf i).toNat)
 case atStart=>
  refine⟨0,Nat.zero_le _,rfl,(Below.refl _ _).alloc (by simp) _,d.map jW,?_,by rw[<-o.out];simp,fun i _=>rfl,fun i _ h=>absurd h (by omega)⟩;have:=(MapKept.heap_alloc ((w.alloc (.cells #[.int .i64 V,.int .i64 M,.slice (some b) d.length cap] 24)).alloc (.cells #[.int .i64 0,.int .i64 0,.slice none 0 0] 24)) (.cells (d.map jW).toArray 64)).1;simpa using this
 case round=>
  obtain⟨k,hk,rfl,A⟩:=hrel;have hb:=A.1;have p0:wr.cell? ⟨w.heap.size,0,none⟩=some (.int .i64 V):=by rw[hb.cell (p:=⟨w.heap.size,0,none⟩) (by simp;omega)];simp
  have p1:wr.cell? ⟨w.heap.size,1,none⟩=some (.int .i64 M):=by rw[hb.cell (p:=⟨w.heap.size,1,none⟩) (by simp;omega)];simp
  have hz:w.heap.size+1+1<=wr.heap.size:=by have:=hb.size;simp at this;omega
  have E:Below w.heap.size w wr:=(eH w _ _).trans (hb.mono (by omega))
  by_cases aa:k<d.length
  ·have t:k<ts.length:=by have:=o.out;omega
   obtain⟨c,f,Y,F,u⟩:=O.out k t;obtain⟨_,vs,J,v2,Z,v4⟩:=id A
   have q:wr.cell? ⟨w.heap.size+1+1,k,none⟩=some (.slice c ts[k].length f):=by
    have:=Z k (Nat.le_refl _);rw[List.getElem?_map,Y]at this;simp[World.cell?,J,this,jW]
   have ab:wr.frozen? ⟨w.heap.size+1+1,k,none⟩=false:=by simp[World.frozen?,J]
   have R:w.heap.size+1+1<wr.heap.size:=(Array.getElem?_eq_some_iff.1 J).1;have HR:=hid A;have G:ts[k].length<=1000000:=P.out _ (List.getElem_mem _);have x:=hid (F.later E);clear J v2 Z v4 A Y F
   obtain⟨l,L⟩:∃l,l=ts[k]:=⟨_,rfl⟩
   rw[<-L]at q G;have m:=hid L;clear L
   cases c with
   |none=>
    obtain rfl:f=0:=u rfl
    have S:l=[]:=by
     rw[m.out]
     by_cases e:ts[k]=[]
     ·exact e
     ·obtain⟨_,_,h,_⟩:=x.out.2 e;cases h
    subst S;clear u;dsimp only[List.length_nil]at q;go_wp2_with fail;refine(L7 _).mono ?_;rintro r X⟨rfl,rfl⟩;have n:=HR.out.step t none 0 (fun _=>rfl) (Below.refl _ _) (by intro T;exact absurd m.out.symm T) 0 (by rw[<-m.out];rfl);have y:=hid n;clear n;go_wp2
    go_roundw
    case rel=>exact⟨k+1,by omega,by go_num,y.out⟩
    case measure=>simp[intOf];omega
   |some a=>
    clear u
    have H:∀j v,(gn l)[j]?=some v->wr.cell? (a.add j)=some v:=by
     intro j v z;rw[m.out]at z
     by_cases e:ts[k]=[]
     ·rw[e]at z;simp[gn]at z
     ·obtain⟨b',o',h,_⟩:=x.out.2 e
      obtain rfl:a=⟨b',o',none⟩:=by simpa using h
      exact ip.cells x.out j v z
    have U:=hid H;clear H;go_wp2_with fail;refine(L8 a f l _ U.out G).mono ?_;rintro r X⟨rfl,rfl⟩
    have n:=HR.out.step t (some ⟨wr.heap.size,0,none⟩) l.length (by simp) (da wr (.cells (gn l).toArray 63)) (by
     intro _
     exact⟨wr.heap.size,rfl,by omega,by omega,by rw[<-m.out];exact(MapKept.heap_alloc wr _).1⟩) l.length (by rw[<-m.out])
    rw[World.setCell_alloc_past _ _ _ _ R]at n;have y:=hid n;clear n;go_wp2
    go_roundw
    case rel=>exact⟨k+1,by omega,by go_num,y.out⟩
    case measure=>simp[intOf];omega
  ·obtain rfl:k=d.length:=by omega
   have z0:(wr.cell? ⟨w.heap.size+1,0,none⟩)=some (.int .i64 0):=by rw[hb.cell (p:=⟨w.heap.size+1,0,none⟩) (by simp)];simp
   have z1:(wr.cell? ⟨w.heap.size+1,1,none⟩)=some (.int .i64 0):=by rw[hb.cell (p:=⟨w.heap.size+1,1,none⟩) (by simp)];simp
   have z2:(wr.cell? ⟨w.heap.size+1,2,none⟩)=some (.slice none 0 0):=by rw[hb.cell (p:=⟨w.heap.size+1,2,none⟩) (by simp)];simp
   have f0:∀j,(wr.frozen? ⟨w.heap.size+1,j,none⟩)=false:=fun j=>by rw[hb.frozen (p:=⟨w.heap.size+1,j,none⟩) (by simp)];simp
   go_wp2
   have I:im (((wr.setCell ⟨w.heap.size+1,0,none⟩ (.int .i64 V)).setCell ⟨w.heap.size+1,1,none⟩ (.int .i64 M)).setCell ⟨w.heap.size+1,2,none⟩ (.slice (some ⟨w.heap.size+1+1,0,none⟩) d.length d.length)) w.heap.size (some ⟨w.heap.size+1+1,0,none⟩) ts:=by
    have h:=A;rw[o.out]at h
    refine(h.own.keep (fun g hg _=>?_)).mono (by omega)
    rw[Below.heap_setCell _ _ _ _ (by simp;omega),Below.heap_setCell _ _ _ _ (by simp;omega),Below.heap_setCell _ _ _ _ (by simp;omega)]
   have W:=((E.setCell (p:=⟨w.heap.size+1,0,none⟩) (by simp) (.int .i64 V)).setCell (p:=⟨w.heap.size+1,1,none⟩) (by simp) (.int .i64 M)).setCell (p:=⟨w.heap.size+1,2,none⟩) (by simp) (.slice (some ⟨w.heap.size+1+1,0,none⟩) d.length d.length)
   exact bodyPost_ret (v:=.agg #[.int .i64 V,.int .i64 M,.slice (some ⟨w.heap.size+1+1,0,none⟩) d.length d.length]) (by simp[results,results62,go_sem,z0,z1,z2]) rfl
    ⟨some ⟨w.heap.size+1+1,0,none⟩,d.length,by rw[o.out];rfl,by simp,W,I,o.out⟩
theorem L3(V M:Int)(w:World):
  Calls prog 62 #[.agg #[.int .i64 V,.int .i64 M,.slice none 0 0]] w (vf ⟨V,M,[]⟩ w):=by
 go_enter func62,ntmps62;go_wp2_with fail;refine(L5 _).mono ?_;rintro r b⟨rfl,rfl⟩;go_wp2_with fail;refine wp_loop_rounds 1 ?_;rw[rounds_succ];go_wp2;have a:=eH w (.cells #[.int .i64 V,.int .i64 M,.slice none 0 0] 24) (.cells #[.int .i64 V,.int .i64 M,.slice none 0 0] 24)
 exact bodyPost_ret (v:=.agg #[.int .i64 V,.int .i64 M,.slice none 0 0]) (by simp[results,results62,go_sem]) rfl
       ⟨none,0,rfl,by simp,a,fun h=>absurd rfl h,rfl⟩
theorem L4(p:Pg)(a:Option Addr)(cap:Nat)(w:World)(r:dI w a p.threads)(s:a=none->cap=0)(t:p.threads.length<=1000000)(o:∀l∈p.threads,l.length<=1000000):
  Calls prog 62 #[kw p a cap] w (vf p w):=by
 obtain⟨V,M,f⟩:=p;dsimp only at *
 cases a with
 |none=>
  obtain rfl:=s rfl
  have e:f=[]:=by
   by_cases e:f=[]
   ·exact e
   ·obtain⟨_,_,h,_⟩:=r.2 e;cases h
  subst e;exact L3 V M w
 |some b=>
  by_cases e:f=[]
  ·subst e
   exact Aw V M [] b cap w [] rfl (by simp) (by simp) (by simp) (by simp)
  ·obtain⟨g,k,h,u⟩:=r.2 e
   obtain rfl:b=⟨g,k,none⟩:=by simpa using h
   obtain⟨x,y,hx⟩:=Cq u;refine Aw V M f ⟨g,k,none⟩ cap w x y ?_ ?_ t o
   ·intro j v m
    have z:j<f.length:=by
     have:=(List.getElem?_eq_some_iff.1 m).1;simp at this;omega
    obtain⟨c,d,n,A,_⟩:=hx j z;rw[List.getElem?_map,n]at m;have q:Value.slice c f[j].length d=v:=by simpa [jW]using m
    subst q
    have:Addr.add ⟨g,k,none⟩ j=⟨g,k+j,none⟩:=by
     unfold Addr.add
     split
     ·rename_i B;subst B;rfl
     ·rfl
    rw[this];exact A
   ·intro i C
    obtain⟨c,d,n,_,D,E⟩:=hx i C;exact⟨c,d,n,D,E⟩
theorem Nk:∀k:Fin 8,(2:Int)^k.val%256=((ga (k.val:Int):Nat):Int):=by decide +kernel
theorem uV(t:Int)(w:World):Calls prog 114 #[.int .i64 t] w fun r b=>r=.returned (.int .u8 (ga t:Nat))/\w=b:=by
 by_cases d:t<0
 ·have a:Hid (ga t=0):=by show _=_;unfold ga;rw[if_neg (by omega)]
  go_enter func114,ntmps114;go_wp2;go_ret;exact⟨by rw[a.out];rfl,rfl⟩
 ·by_cases e:t<8
  ·obtain⟨k,rfl⟩:∃k:Nat,t=k:=⟨t.toNat,by omega⟩
   have a:=hid (Nk ⟨k,by omega⟩);have c:¬((k:Int)>=8):=by omega
   go_enter func114,ntmps114;go_wp2;go_ret;exact⟨by rw[<-a.out];rfl,rfl⟩
  ·have a:Hid (ga t=0):=by show _=_;unfold ga;rw[if_neg (by omega)]
   have c:t>=8:=by omega
   go_enter func114,ntmps114;go_wp2;go_ret;exact⟨by rw[a.out];rfl,rfl⟩
theorem nO{n:Nat}(b:n<256)(t:Int)(w:World):Calls prog 70 #[.int .u8 n,.int .i64 t] w fun r a=>r=.returned (.bool (dp n t))/\w=a:=by
 have c:Hid (bits .and .u8 (n:Int) (ga t:Int)=((n&&&ga t:Nat):Int)):=AV n (ga t) b (pR t)
 have d:Hid ((((n&&&ga t:Nat):Int) != 0)=dp n t):=by
  show _=_;have:=Nj n t
  cases hb:dp n t
  ·rw[this.2 hb];rfl
  ·rw[bne_iff_ne]
   intro e;rw[this.1 (by omega)]at hb
   cases hb
 go_enter func70,ntmps70;go_wp2_with fail;refine(uV t w).mono ?_;rintro r a⟨rfl,rfl⟩;go_wp2;go_ret;exact⟨by rw[c.out,d.out];rfl,rfl⟩
theorem p9{n:Nat}(b:n<256)(t:Int)(w:World):Calls prog 76 #[.int .u8 n,.int .i64 t] w fun r a=>r=.returned (.int .u8 (wt n t:Nat))/\w=a:=by
 have c:Hid (bits .or .u8 (n:Int) (ga t:Int)=((wt n t:Nat):Int)):=AU n (ga t) b (pR t);go_enter func76,ntmps76;go_wp2_with fail;refine(uV t w).mono ?_;rintro r a⟨rfl,rfl⟩;go_wp2;go_ret;exact⟨by rw[c.out];rfl,rfl⟩
theorem BW{n:Nat}(b:n<256)(t:Int)(w:World):Calls prog 134 #[.int .u8 n,.int .i64 t] w fun r a=>r=.returned (.int .u8 (wl n t:Nat))/\w=a:=by
 have c:Hid (bits .andNot .u8 (n:Int) (ga t:Int)=((wl n t:Nat):Int)):=rH n (ga t) b (pR t);go_enter func134,ntmps134;go_wp2_with fail;refine(uV t w).mono ?_;rintro r a⟨rfl,rfl⟩;go_wp2;go_ret;exact⟨by rw[c.out];rfl,rfl⟩
theorem vy{n m:Nat}(a:n<256)(b:m<256)(w:World):Calls prog 116 #[.int .u8 n,.int .u8 m] w fun r c=>r=.returned (.int .u8 (n|||m:Nat))/\w=c:=by
 have d:=hid (AU n m a b);go_enter func116,ntmps116;go_wp2;go_ret;exact⟨by rw[d.out];rfl,rfl⟩
theorem ky(a:Option Addr)(cap:Nat)(l:List Int)(w:World)(d:iB w a l)(n:l.length<=1000):
  Calls prog 37 #[.slice a l.length cap] w fun r f=>r=.returned (.int .u8 (dn l:Nat))/\w=f:=by
 have g:=hid d;clear d;go_enter func37,ntmps37;go_wp2
 go_loopw [3,8] (fun z i wr=>∃k:Nat,k<=l.length/\i=.int .i64 k/\z=.int .u8 (dn (l.take k):Nat)/\wr=w) (fun _ i _=>l.length-(intOf i).toNat)
 case atStart=>exact⟨0,Nat.zero_le _,rfl,rfl,rfl⟩
 case round=>
  obtain⟨k,p,rfl,rfl,rfl⟩:=hrel
  by_cases c:k<l.length
  ·obtain⟨b,o,rfl,h⟩:=g.out.2 (by intro e;simp[e]at c)
   have m:=h k c
   have j:Hid (dn (l.take (k+1))=wt (dn (l.take k)) l[k]):=by
    show _=_;rw[List.take_succ_eq_append_getElem c,xW]
   go_wp2_with fail
   refine(p9 (i7 _) _ _).mono ?_;rintro r f⟨rfl,rfl⟩;go_wp2
   go_roundw
   case rel=>exact⟨k+1,by omega,by go_num,by rw[j.out],by trivial⟩
   case measure=>simp[intOf];omega
  ·obtain rfl:k=l.length:=by omega
   go_wp2;go_ret;exact⟨by rw[List.take_length];rfl,rfl⟩
theorem oF{n:Nat}(m:n<256)(w:World):
  Calls prog 130 #[.int .u8 n] w fun r d=>∃v,r=.returned v/\dC d w.heap.size v (ex (dW n))/\Below w.heap.size w d:=by
 go_enter func130,ntmps130;go_wp2
 go_loopw [3,5] (fun l i wr=>∃k:Nat,k<=8/\i=.int .i64 k/\dC wr w.heap.size l (ex (jO n k))/\Below w.heap.size w wr) (fun _ i _=>8-(intOf i).toNat)
 case atStart=>exact⟨0,Nat.zero_le _,rfl,oR _ _,Below.refl _ _⟩
 case round=>
  obtain⟨k,t,rfl,a,hb⟩:=hrel
  by_cases f:k<8
  ·have g:=AX n k
   rw[<-j6]at g;have o:=hb.size;have p:=hid (gX n f);have q:=hid (MO (n:=n) (k:=k));have s:=hid (MQ (n:=n) (k:=k));go_wp2_with fail;refine(nO m (k:Int) wr).mono ?_;rintro r d⟨rfl,rfl⟩;rw[p.out]
   cases c:n.testBit k
   ·have e:=hid (s.out c)
    clear c;go_wp2
    go_roundw
    case rel=>exact⟨k+1,by omega,by go_num,by rw[e.out];exact a,hb⟩
    case measure=>simp[intOf];omega
   ·have e:Hid (ex (jO n (k+1))=ex (jO n k)++[(k:Int)]):=by
     show _=_;rw[q.out c,y9];rfl
    clear c
    go_wp2_with (at_builtin;refine p6 rfl (.tmp 11) (.tmp 13) rfl w.heap.size _ (ex (jO n k)) rfl (a.alloc _) ⟨wr.heap.size,0,none⟩ 1 1 rfl [(k:Int)] rfl (qG wr [(k:Int)] _ _ rfl) (by simp;omega) (by simp;omega) ?_;intro u x b h _)
    have j:=(hb.alloc o _).trans h
    go_roundw
    case rel=>exact⟨k+1,by omega,by go_num,by rw[e.out];exact b,j⟩
    case measure=>simp[intOf];omega
  ·obtain rfl:k=8:=by omega
   go_wp2;go_ret;exact⟨_,rfl,a,hb⟩
end
section
open Go.Lib (hid)
open Go.Proofs.Tryz Go.RowKit Go.Maps
theorem ul{p:Pg}{fuel:Int}:dF p fuel=true↔dL p=true/\0<=fuel/\fuel<=8:=by
 unfold dF;rw[Bool.and_eq_true,decide_eq_true_eq]
theorem wH{p:Pg}(h:dL p=true):p.threads.length<=4/\∀l∈p.threads,l.length<=8:=by
 unfold dL at h;rw[Bool.and_eq_true,decide_eq_true_eq]at h;refine⟨by omega,fun l a=>?_⟩;have:=List.all_eq_true.1 h.2 l a;unfold gz at this;rw[Bool.and_eq_true,decide_eq_true_eq]at this;exact this.1
theorem Cs{p:Pg}{fuel:Int}(c:dF p fuel=true){b:World}{a:Option Addr}{cap:Nat}(d:dI b a p.threads)(o:Obj)(e:o=.cells #[.int .i64 p.vars,.int .i64 p.mutexes,.slice a p.threads.length cap,.int .i64 fuel,.map (some b.heap.size),.int .i64 0] 121):
  TrAt ⟨b.heap.size+1,b.heap.size,a,cap,b,p,fuel⟩ ((b.alloc (.map #[] 0)).alloc o) [] [] 0:=by
 subst e;refine⟨d,eH _ _ _,?_,?_,⟨.map [],(World.ownsMap_made _ _ _ _).alloc _,fun k=>?_,rfl⟩,rfl,List.nodup_nil,(fun i h=>absurd h (Nat.not_lt_zero _)),vE _ _,c⟩
 ·rintro x (rfl|rfl|hx)
  ·exact Nat.le_succ _
  ·exact Nat.le_refl _
  ·cases hx
 ·have:=heap_alloc_new (b.alloc (.map #[] 0)) (.cells #[.int .i64 p.vars,.int .i64 p.mutexes,.slice a p.threads.length cap,.int .i64 fuel,.map (some b.heap.size),.int .i64 0] 121)
  rw[World.size_alloc]at this;exact this
 ·exact⟨rfl,rfl⟩
section
variable{h:TrH}{w:World}{gs:List Nat}{l:List TNd}{cl:Int}
theorem Jc(t:TrAt h w gs l cl):Calls prog 41 #[.pointer (some ⟨h.b,0,none⟩)] w fun r d=>r=.returned (.int .i64 (l.length:Nat))/\w=d:=by
 obtain⟨_,_,_,_,f,_⟩:=t.cells;obtain⟨D,a,_,c⟩:=t.map;have e:=a.len underlying119;rw[c]at e;clear t c a;go_enter func41,ntmps41;go_wp2;go_ret;exact⟨rfl,rfl⟩
theorem Mq(t:TrAt h w gs l cl):Calls prog 42 #[.pointer (some ⟨h.b,0,none⟩)] w fun r a=>r=.returned (.int .i64 cl)/\w=a:=by
 obtain⟨_,_,_,_,_,c⟩:=t.cells;clear t;go_enter func42,ntmps42;go_wp2;go_ret;exact⟨rfl,rfl⟩
theorem Gs(t:TrAt h w gs l cl){k:dl}(j:k.length<=1000):Calls prog 110 #[.pointer (some ⟨h.b,0,none⟩),.string ⟨k.toArray⟩] w fun r d=>r=.returned (.int .i64 (gL l k))/\w=d:=by
 cases a:ee l k with
 |none=>
  have e:Hid (gL l k=-1):=by show _=_;unfold gL;rw[a]
  have f:=hid (nS t j a);clear t a;go_enter func110,ntmps110;go_wp2_with fail;refine f.out.mono ?_;rintro r d⟨rfl,rfl⟩;go_wp2;go_ret;exact⟨by rw[e.out];rfl,rfl⟩
 |some i=>
  obtain⟨c,_⟩:=iQ a;have e:Hid (gL l k=l[i].own):=by show _=_;unfold gL;rw[a];simp[List.getD,c]
  obtain⟨m,n,_⟩:=t.node c;have f:=hid (nR t j a m);clear t a;generalize l[i].own=O at *;generalize gs[i]=g at *;go_enter func110,ntmps110;go_wp2_with fail;refine f.out.mono ?_;rintro r d⟨rfl,rfl⟩;go_wp2;go_ret;exact⟨by rw[e.out];rfl,rfl⟩
theorem AY:dW 0=[]:=by decide
theorem Jg(t:TrAt h w gs l cl){k:dl}(u:k.length<=1000):Calls prog 128 #[.pointer (some ⟨h.b,0,none⟩),.string ⟨k.toArray⟩] w fun r m=>∃v,r=.returned v/\dC m w.heap.size v (ex (dW (dt l k)))/\Below w.heap.size w m:=by
 cases d:ee l k with
 |none=>
  have n:Hid (ex (dW (dt l k))=[]):=by show _=_;unfold dt;rw[d,AY];rfl
  have o:=hid (nS t u d);clear t d;go_enter func128,ntmps128;go_wp2_with fail;refine o.out.mono ?_;rintro r m⟨rfl,rfl⟩;go_wp2;go_ret;exact⟨_,rfl,by rw[n.out];exact oR _ _,Below.refl _ _⟩
 |some i=>
  obtain⟨e,_⟩:=iQ d;have n:Hid (dt l k=l[i].left):=by show _=_;unfold dt;rw[d];simp[List.getD,e]
  have f:=t.ok.ok l[i] (List.getElem_mem e);obtain⟨B,_,_,x,y,z⟩:=t.node e;have o:=hid (nR t u d B);have C:=hid (yO f x y z);have p:=f.left;clear t d x y z f;generalize l[i].left=O at *;generalize gs[i]=g at *;go_enter func128,ntmps128;go_wp2_with fail;refine o.out.mono ?_;rintro r m⟨rfl,rfl⟩;go_wp2_with fail;refine C.out.mono ?_;rintro r D⟨rfl,j⟩;go_wp2_with fail;refine(oF p D).mono ?_;rintro r F⟨v,rfl,c,q⟩;have A:=j.size;have s:=j.trans (q.mono A);obtain⟨a,E,rfl,_⟩:=dC.form c (by rw[j6];have:=mP O;omega);go_wp2;go_ret;exact⟨_,rfl,by rw[n.out];exact qE c A,s⟩
theorem Kx(t:TrAt h w gs l cl){k:dl}(u:k.length<=1000)(o:Int):Calls prog 79 #[.pointer (some ⟨h.b,0,none⟩),.string ⟨k.toArray⟩,.int .i64 o] w fun r j=>r=.returned (.int .i64 (eO l k o).1)/\TrAt h j gs (eO l k o).2 cl/\OnlyS (eS h gs) w j:=by
 cases e:ee l k with
 |none=>
  have n:Hid (eO l k o=(6,l)):=by show _=_;unfold eO;rw[e]
  have q:=hid (nS t u e);have s:=hid t;clear t e;go_enter func79,ntmps79;go_wp2_with fail;refine q.out.mono ?_;rintro r j⟨rfl,rfl⟩;go_wp2;go_ret;rw[n.out];exact⟨rfl,s.out,OnlyS.refl _ _⟩
 |some i=>
  obtain⟨c,_⟩:=iQ e;have n:Hid (eO l k o=(0,l.set i { l[i]with own:=o })):=by show _=_;unfold eO;rw[e];simp[List.getD,c]
  have d:=t.ok.ok l[i] (List.getElem_mem c);have f:=t.ok.todo l[i] (List.getElem_mem c);obtain⟨m,z,_⟩:=t.node c;have a:=t.nodes i c m;have f0:w.frozen? ⟨gs[i],0,none⟩=false:=by simp[World.frozen?,a]
  have q:=hid (nR t u e m);have v:Hid (OnlyS (fun x=>x=gs[i]) w (w.setCell ⟨gs[i],0,none⟩ (.int .i64 o))):=OnlyS.setCell (S:=fun x=>x=gs[i]) (OnlyS.refl _ w) (p:=⟨gs[i],0,none⟩) rfl _;have s:Hid (TrAt h (w.setCell ⟨gs[i],0,none⟩ (.int .i64 o)) gs (l.set i { l[i]with own:=o }) cl):=t.put c m rfl rfl ⟨d.may,d.asl,d.todo,d.gone⟩ f v.out (by rw[heap_setCell_same w gs[i] 0 _ _ _ a];rfl);have y:Hid (∀x,x=gs[i]->eS h gs x):=fun x hx=>.inr (.inr (hx▸List.getElem_mem m))
  clear t e d f a;generalize gs[i]=g at *;go_enter func79,ntmps79;go_wp2_with fail;refine q.out.mono ?_;rintro r j⟨rfl,rfl⟩;go_wp2;go_ret;rw[n.out];exact⟨rfl,s.out,v.out.mono fun x _ hx=>y.out x hx⟩
end
def pX(p:Pg)(fuel:Int)(w:World)(r:Ending)(w':World):Prop:=
 if dF p fuel=true then ∃h:TrH,r=.returned (.tuple #[.pointer (some ⟨h.b,0,none⟩),.int .i64 0])/\h.p=p/\h.fuel=fuel/\w.heap.size<=h.wc.heap.size/\TrAt h w' [] [] 0/\Below w.heap.size w w'/\im h.wc w.heap.size h.a p.threads
 else r=.returned (.tuple #[.pointer none,.int .i64 1])/\Below w.heap.size w w'
theorem yf(p:Pg)(a:Option Addr)(cap:Nat)(fuel:Int)(w:World)(y:dI w a p.threads)(z:a=none->cap=0):
  Calls prog 33 #[.agg #[.int .i64 p.vars,.int .i64 p.mutexes,.slice a p.threads.length cap],.int .i64 fuel] w (pX p fuel w):=by
 have A:=hid y;have E:=hid z
 have m:Hid (∀W,Below (w.alloc (.cells #[.int .i64 p.vars,.int .i64 p.mutexes,.slice a p.threads.length cap] 24)).heap.size (w.alloc (.cells #[.int .i64 p.vars,.int .i64 p.mutexes,.slice a p.threads.length cap] 24)) W->W.cell? ⟨w.heap.size,0,none⟩=some (.int .i64 p.vars)/\W.cell? ⟨w.heap.size,1,none⟩=some (.int .i64 p.mutexes)/\W.cell? ⟨w.heap.size,2,none⟩=some (.slice a p.threads.length cap)):=fun W hb=>⟨de hb (by simp),de hb (by simp),de hb (by simp)⟩
 have c:Below w.heap.size w (w.alloc (.cells #[.int .i64 p.vars,.int .i64 p.mutexes,.slice a p.threads.length cap] 24)):=da w _;have u:=@run_makeMap prog;clear y z;go_enter func33,ntmps33;go_wp2_with fail;generalize w.alloc (.cells #[.int .i64 p.vars,.int .i64 p.mutexes,.slice a p.threads.length cap] 24)=F at *;refine(tt p a cap fuel F (A.out.later c)).mono ?_;rintro r B k;unfold mY at k
 by_cases i:dL p=true/\0<=fuel/\fuel<=8
 case neg=>
  rw[if_neg i]at k;obtain⟨rfl,d⟩:=k;have q:Hid (¬dF p fuel=true):=fun h=>i (ul.1 h)
  have b:=c.trans (d.mono c.size);clear d i u;go_wp2;go_ret2;unfold pX;rw[if_neg q.out];exact⟨rfl,b⟩
 rw[if_pos i]at k;obtain⟨g,rfl,_,_,d⟩:=k;obtain⟨G,H,I⟩:=m.out B d;have q:Hid (dF p fuel=true):=ul.2 i;have f:=hid (wH i.1);have b:=c.trans (d.mono c.size);have n:=hid (L4 p a cap B (A.out.later b) E.out (by have:=f.out.1;omega) (fun l t=>by have:=f.out.2 l t;omega));clear d i m;go_wp2_with fail;refine n.out.mono ?_;rintro r s⟨C,D,rfl,_,o,e,rfl⟩;have j:=hid (b.trans (o.mono b.size));have v:Hid (dI s C p.threads):=im.at e (by have:=f.out.1;unfold maxLen;omega) (fun l t=>by have:=f.out.2 l t;unfold maxLen;omega);unfold kw;have x:=hid (e.mono b.size);clear o e G H I b c n;go_wp2;go_ret2;unfold pX;rw[if_pos q.out];exact⟨⟨s.heap.size+1,s.heap.size,C,p.threads.length,s,p,fuel⟩,rfl,rfl,rfl,j.out.size,Cs q.out v.out _ rfl,j.out.trans ((eH _ _ _).mono j.out.size),x.out⟩
end
end Go.Proofs.YtjfmmnhcddckaaaGreat
