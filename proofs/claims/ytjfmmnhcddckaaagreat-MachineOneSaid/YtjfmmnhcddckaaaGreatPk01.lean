import Derived.WalkKit
import Derived.BigQuiet
import Derived.Deep.QuietTactic
import Derived.WalkLawsBesides
import Derived.Lib.Hide
import Derived.Laws.Rows
import Derived.Laws.Tables
import Derived.StillTailTactics
import Derived.Laws.StructEq
import Derived.ProofKit
import Derived.Lib.SmallJoins
import Derived.Deep.Slices
import Derived.Deep.Fields
import Derived.OpenShut
import Derived.Lib.Tables
import Derived.Test.YtjfmmnhcddckaaaGreatRows
set_option maxRecDepth 100000
set_option maxHeartbeats 1000000
namespace Go.Proofs.YtjfmmnhcddckaaaGreat
theorem fs{w:World}{a:Addr}{v:Value}(h:w.cell? a=some v):a.block<w.heap.size:=by
 unfold World.cell? at h;rcases Nat.lt_or_ge a.block w.heap.size with b|b
 ·exact b
 ·rw[Array.getElem?_eq_none b]at h;cases h
theorem de{w w':World}(hb:Go.RowKit.Below w.heap.size w w'){a:Addr}{v:Value}(h:w.cell? a=some v):w'.cell? a=some v:=by
 rw[hb.cell (fs h)];exact h
theorem rk{α:Type}(n:Nat)(P:Nat->α->Prop)(h:∀i,i<n->∃x,P i x):∃b:List α,b.length=n/\∀i x,b[i]?=some x->P i x:=by
 induction n with
 |zero=>exact⟨[],rfl,by simp⟩
 |succ n d=>
  obtain⟨b,e,hx⟩:=d (fun i f=>h i (by omega));obtain⟨x,g⟩:=h n (by omega);refine⟨b++[x],by simp[e],fun i y a=>?_⟩
  by_cases f:i<n
  ·rw[List.getElem?_append_left (by omega)]at a;exact hx i y a
  ·rw[List.getElem?_append_right (by omega)]at a
   have:i-b.length=0:=by
    have:=(List.getElem?_eq_some_iff.1 a).1;simp at this;omega
   rw[this]at a;have c:i=n:=by omega
   subst c;simp at a;subst a;exact g
def iP(n:Int):Prop:=-9223372036854775808<=n/\n<=9223372036854775807
theorem Kf(n:Int):iP (IntKind.i64.wrap n):=by
 unfold iP IntKind.wrap;simp[IntKind.signed,IntKind.bits]
 split <;> omega
theorem dV{T:Type}{l:List T}{k:Nat}(d:T)(h:k<l.length):l.getD k d=l[k]:=by
 simp[List.getD,h]
theorem gr{T:Type}(l:List T)(j k:Nat)(d y:T)(a:j<l.length):(l.set j y).getD k d=if k=j then y else l.getD k d:=by
 simp only[List.getD]
 by_cases h:k=j
 ·subst h;simp[a]
 ·rw[List.getElem?_set_ne (Ne.symm h),if_neg h]
theorem C3(l:List Nat)(k y:Nat)(h:k<l.length):(l.set k y).sum+l[k]=l.sum+y:=by
 induction l generalizing k with
 |nil=>simp at h
 |cons a l b=>
  cases k with
  |zero=>simp;omega
  |succ k=>simp at h ⊢;have:=b k h;omega
abbrev df:=List UInt8
def db{α:Type}(f:Nat->α)(s:Nat)(x:α):Nat->α:=fun k=>if k=s then x else f k
theorem dg{α:Type}(f:Nat->α)(s:Nat)(x:α):db f s x s=x:=by simp[db]
theorem dh{α:Type}(f:Nat->α){s k:Nat}(x:α)(h:k≠s):db f s x k=f k:=by simp[db,h]
theorem ou{α:Type}(f:Nat->α)(s:Nat)(x y:α):db (db f s x) s y=db f s y:=by
 funext k;unfold db;by_cases h:k=s <;> simp[h]
theorem qc{α:Type}(f:Nat->α)(s:Nat):db f s (f s)=f:=by
 funext k;unfold db;by_cases h:k=s <;> simp[h]
theorem nQ{l:List Nat}{k:Nat}(h:k<l.length):l.getD k 0∈l:=by simp[List.getD,h]
theorem yt{l:List Nat}{x:Nat}(h:x∈l):∃k,k<l.length/\l.getD k 0=x:=by
 obtain⟨k,a,rfl⟩:=List.getElem_of_mem h;exact⟨k,a,by simp[List.getD,a]⟩
end Go.Proofs.YtjfmmnhcddckaaaGreat
namespace Go.RowKit
theorem Below.drewN{B:Nat}{a w:World}(h:Below B a w){n:Nat}:Below B a (w.drewN n):=⟨h.os,h.tape,h.output,h.size,h.block⟩
end Go.RowKit
namespace Go.Proofs.YtjfmmnhcddckaaaGreat
open Go.RowKit
theorem dE{a b:Bool}(h:a=b):Ending.returned (.bool a)=.returned (.bool b):=by rw[h]
theorem da(w:World)(o:Obj):Below w.heap.size w (w.alloc o):=(Below.refl _ _).alloc (Nat.le_refl _) _
theorem eH(w:World)(o a:Obj):Below w.heap.size w ((w.alloc o).alloc a):=((Below.refl _ _).alloc (Nat.le_refl _) _).alloc (by simp) _
structure Only(b:Nat)(w w':World):Prop where
 os:w'.os=w.os
 tape:w'.tape=w.tape
 output:w'.output=w.output
 size:w.heap.size<=w'.heap.size
 block:∀k,k<w.heap.size->k≠b->w'.heap[k]?=w.heap[k]?
theorem Only.refl(b:Nat)(w:World):Only b w w:=⟨rfl,rfl,rfl,Nat.le_refl _,fun _ _ _=>rfl⟩
theorem Only.trans{b:Nat}{u v w:World}(h:Only b u v)(k:Only b v w):Only b u w:=
 ⟨k.os.trans h.os,k.tape.trans h.tape,k.output.trans h.output,Nat.le_trans h.size k.size,fun i a hb=>(k.block i (Nat.lt_of_lt_of_le a h.size) hb).trans (h.block i a hb)⟩
theorem Only.of_below{b:Nat}{w w':World}(h:Below w.heap.size w w'):Only b w w':=⟨h.os,h.tape,h.output,h.size,fun k a _=>h.block k a⟩
theorem Only.drew{b:Nat}{w w':World}(h:Only b w w'):Only b w w'.drew:=⟨h.os,h.tape,h.output,h.size,h.block⟩
theorem Only.alloc{b:Nat}{w w':World}(h:Only b w w')(o:Obj):Only b w (w'.alloc o):=h.trans (.of_below ((Below.refl _ _).alloc (Nat.le_refl _) _))
theorem Only.setCell{b:Nat}{w w':World}(h:Only b w w')(o:Nat)(v:Value):Only b w (w'.setCell ⟨b,o,none⟩ v):=
 h.trans ⟨rfl,rfl,rfl,by simp[World.setCell],fun k _ hb=>Below.heap_setCell _ _ _ _ hb⟩
theorem Only.below{b B:Nat}{w w':World}(h:Only b w w')(a:B<=b)(c:B<=w.heap.size):Below B w w':=
 ⟨h.os,h.tape,h.output,h.size,fun k d=>h.block k (by omega) (by omega)⟩
theorem nz{w w':World}{base:Nat}{e:TypeId}{size:Nat}{v:Value}{n:Nat}{xs:List Value}(h:w.ownsRow base e size v n xs)(hb:Below w.heap.size w w'):w'.ownsRow base e size v n xs:=by
 obtain⟨d,a|⟨g,b,c,a,i,f,j⟩⟩:=h
 ·exact⟨d,.inl a⟩
 ·exact⟨d,.inr ⟨g,b,c,a,i,(hb.block g (Array.getElem?_eq_some_iff.1 f).1).trans f,j⟩⟩
theorem qo{P:Program}(w:World){t:TypeId}{d:TypeDesc}{xs:Array Value}{o:Nat}{v:Value}(b:P.underlying t=some d)(c:(match d with | .struct _ | .array _ _=>true|_=>false)=false)(hx:xs[o]?=some v):(part t xs o).run P w=.ok v w:=by
 have a:(isAgg t).run P w=.ok false w:=by
  unfold isAgg;rw[Sem.run_bind,run_underlying b w]
  cases d <;> simp_all
 simp[part,a,hx]
theorem sB{P:Program}(w:World)(d:Nat)(xs c:Array Value)(f:Field)(g:List Field)(k i:IntKind)(a b:Int)(j:f.name≠ "_")(e:P.underlying f.type=some (.int i))
  (hx:xs[f.offset]?=some (.int k a)) (l:c[f.offset]?=some (.int k b)):
  (Op.eqFields (d+1) xs c (f::g)).run P w=if a==b then (Op.eqFields (d+1) xs c g).run P w else .ok false w:=by
 rw[Op.eqFields,if_pos j];simp only[Sem.run_bind,qo w e rfl hx,qo w e rfl l,Result.andThen_ok,run_equalIn_int w d f.type k i a b e]
 cases h:(a==b) <;> simp
theorem Ea{P:Program}(w:World)(d:Nat)(xs c:Array Value)(f:Field)(g:List Field)(a b:Bool)(i:f.name≠ "_")(e:P.underlying f.type=some .bool)
  (hx:xs[f.offset]?=some (.bool a)) (j:c[f.offset]?=some (.bool b)):
  (Op.eqFields (d+1) xs c (f::g)).run P w=if a==b then (Op.eqFields (d+1) xs c g).run P w else .ok false w:=by
 rw[Op.eqFields,if_pos i];simp only[Sem.run_bind,qo w e rfl hx,qo w e rfl j,Result.andThen_ok,run_equalIn_bool w d f.type a b e]
 cases h:(a==b) <;> simp
theorem xF{w w':World}{g base:Nat}{e:TypeId}{size:Nat}{v:Value}{n:Nat}{xs:List Value}(h:w.ownsRow base e size v n xs)(j:Only g w w')(m:g<base):w'.ownsRow base e size v n xs:=by
 obtain⟨f,a|⟨b,c,d,a,k,i,l⟩⟩:=h
 ·exact⟨f,.inl a⟩
 ·exact⟨f,.inr ⟨b,c,d,a,k,(j.block b (Array.getElem?_eq_some_iff.1 i).1 (by omega)).trans i,l⟩⟩
theorem jP(b o k:Nat):Addr.add ⟨b,o,none⟩ k=⟨b,o+k,none⟩:=by
 unfold Addr.add
 split
 ·rename_i h;subst h;rfl
 ·rfl
theorem oH{P:Program}(w:World){t elem:TypeId}{n:Nat}{c:Array Value}{d:TypeDesc}(i:Nat){v:Value}(f:P.underlying t=some (.array n elem))(g:P.underlying elem=some d)
  (k:(match d with | .struct _ | .array _ _=>true|_=>false)=false) (e:(P.info? elem).map (·.size)=some 1) (h:i<n) (j:c[i]?=some v):(Instr.index t (.agg c) (.int .i64 i)).run P w=.ok v w:=by
 cases b:P.info? elem with
 |none=>simp[b]at e
 |some x=>
  have hx:x.size=1:=by simpa [b]using e
  have a:(isAgg elem).run P w=.ok false w:=by
   unfold isAgg;rw[Sem.run_bind,run_underlying g w]
   cases d <;> simp_all
  simp[Instr.index,asIntOf,run_underlying f,h,sizeOf,typeInfo,b,hx,part,a,j]
structure OnlyS(S:Nat->Prop)(w w':World):Prop where
 os:w'.os=w.os
 tape:w'.tape=w.tape
 output:w'.output=w.output
 size:w.heap.size<=w'.heap.size
 block:∀k,k<w.heap.size->¬S k->w'.heap[k]?=w.heap[k]?
theorem OnlyS.refl(S:Nat->Prop)(w:World):OnlyS S w w:=⟨rfl,rfl,rfl,Nat.le_refl _,fun _ _ _=>rfl⟩
theorem OnlyS.trans{S:Nat->Prop}{u v w:World}(h:OnlyS S u v)(k:OnlyS S v w):OnlyS S u w:=
 ⟨k.os.trans h.os,k.tape.trans h.tape,k.output.trans h.output,Nat.le_trans h.size k.size,fun i a b=>(k.block i (Nat.lt_of_lt_of_le a h.size) b).trans (h.block i a b)⟩
theorem OnlyS.of_below{S:Nat->Prop}{w w':World}(h:Below w.heap.size w w'):OnlyS S w w':=⟨h.os,h.tape,h.output,h.size,fun k a _=>h.block k a⟩
theorem OnlyS.of_only{S:Nat->Prop}{b:Nat}{w w':World}(h:Only b w w')(hb:S b):OnlyS S w w':=⟨h.os,h.tape,h.output,h.size,fun k a c=>h.block k a (fun e=>c (by rw[e];exact hb))⟩
theorem OnlyS.drew{S:Nat->Prop}{w w':World}(h:OnlyS S w w'):OnlyS S w w'.drew:=⟨h.os,h.tape,h.output,h.size,h.block⟩
theorem OnlyS.setCell{S:Nat->Prop}{w w':World}(h:OnlyS S w w'){p:Addr}(a:S p.block)(v:Value):OnlyS S w (w'.setCell p v):=
 h.trans ⟨rfl,rfl,rfl,by simp[World.setCell],fun k _ b=>Below.heap_setCell _ _ _ _ (fun e=>b (by rw[e];exact a))⟩
theorem OnlyS.mono{S T:Nat->Prop}{w w':World}(h:OnlyS S w w')(a:∀k,k<w.heap.size->S k->T k):OnlyS T w w':=⟨h.os,h.tape,h.output,h.size,fun k b c=>h.block k b (fun d=>c (a k b d))⟩
theorem OnlyS.below{S:Nat->Prop}{w w':World}{B:Nat}(h:OnlyS S w w')(c:B<=w.heap.size)(a:∀k,S k->B<=k):Below B w w':=⟨h.os,h.tape,h.output,h.size,fun k d=>h.block k (by omega) (fun b=>by have:=a k b;omega)⟩
theorem OnlyS.after{S:Nat->Prop}{u v w:World}(h:Below u.heap.size u v)(k:OnlyS S v w):OnlyS S u w:=(OnlyS.of_below h).trans k
theorem OnlyS.cell{S:Nat->Prop}{w w':World}(h:OnlyS S w w'){a:Addr}{v:Value}(b:w.cell? a=some v)(c:¬S a.block):w'.cell? a=some v:=by
 rw[World.cell?_of_block (w:=w) (h.block a.block (fs b) c)];exact b
theorem OnlyS.thenS{S T:Nat->Prop}{u v w:World}(h:OnlyS S u v)(k:OnlyS T v w)(b:∀x,x<u.heap.size->T x->S x):OnlyS S u w:=
 ⟨k.os.trans h.os,k.tape.trans h.tape,k.output.trans h.output,Nat.le_trans h.size k.size,fun i a c=>(k.block i (Nat.lt_of_lt_of_le a h.size) fun d=>c (b i a d)).trans (h.block i a c)⟩
theorem OnlyS.row{S:Nat->Prop}{w w':World}(o:OnlyS S w w'){g:Nat}{x:Obj}(h:w.heap[g]?=some x)(a:¬S g):w'.heap[g]?=some x:=(o.block g (Array.getElem?_eq_some_iff.1 h).1 a).trans h
theorem qn(w:World)(g i:Nat){c:Array Value}{t:TypeId}(v:Value)(h:w.heap[g]?=some (.cells c t (0,0)))(a:i<c.size):(w.setCell ⟨g,i,none⟩ v).cell? ⟨g,i,none⟩=some v:=by
 rw[cell_of_row _ g i _ _ _ (heap_setCell_same w g i _ _ v h)];simp[a]
theorem wA(w:World)(g i j:Nat){c:Array Value}{t:TypeId}(v:Value)(h:w.heap[g]?=some (.cells c t (0,0)))(a:j≠i):(w.setCell ⟨g,i,none⟩ v).cell? ⟨g,j,none⟩=w.cell? ⟨g,j,none⟩:=by
 rw[cell_of_row _ g j _ _ _ (heap_setCell_same w g i _ _ v h),cell_of_row _ g j _ _ _ h];simp[Ne.symm a]
theorem kJ(w:World){g x:Nat}(h:g≠x)(i j:Nat)(v:Value):(w.setCell ⟨x,i,none⟩ v).cell? ⟨g,j,none⟩=w.cell? ⟨g,j,none⟩:=World.cell?_of_block (w:=w) (a:=⟨g,j,none⟩) (Below.heap_setCell _ _ _ _ h)
end Go.Proofs.YtjfmmnhcddckaaaGreat
namespace Go.Proofs.YtjfmmnhcddckaaaGreat
section
open List (getElem_mem mem_or_eq_of_mem_set)
structure Ins where
 kind:Int
 r:Int
 x:Int
 n:Int
structure Pg where
 vars:Int
 mutexes:Int
 threads:List (List Ins)
instance:DecidableEq Ins:=fun a b=>
 decidable_of_iff (a.kind=b.kind/\a.r=b.r/\a.x=b.x/\a.n=b.n) (by cases a;cases b;simp)
instance:DecidableEq Pg:=fun a b=>
 decidable_of_iff (a.vars=b.vars/\a.mutexes=b.mutexes/\a.threads=b.threads) (by cases a;cases b;simp)
def gy(V M n:Int)(i:Ins):Bool:=
 if i.kind=1∨i.kind=2 then decide (0<=i.r/\i.r<2/\0<=i.x/\i.x<V/\i.n=0)
 else if i.kind=3∨i.kind=4 then decide (0<=i.r/\i.r<2/\i.x=0/\-128<=i.n/\i.n<=127)
 else if i.kind=5∨i.kind=6 then decide (i.r=0/\0<=i.x/\i.x<M/\i.n=0)
 else if i.kind=7 then decide (0<=i.r/\i.r<2/\0<=i.x/\i.x<n+1/\i.n=0)
 else if i.kind=8 then decide (0<=i.r/\i.r<2/\i.x=0/\i.n=0)
 else false
def gz(V M:Int)(l:List Ins):Bool:=decide (l.length<=8)&&l.all (gy V M l.length)
def dL(p:Pg):Bool:=
 decide (0<=p.vars/\p.vars<=4/\0<=p.mutexes/\p.mutexes<=2/\1<=p.threads.length/\p.threads.length<=4)&&p.threads.all (gz p.vars p.mutexes)
def eK(n e:Int):Bool:=decide (0<=n/\n<e)
def mD(i:Ins):Value:=.agg #[.int .i64 i.kind,.int .i64 i.r,.int .i64 i.x,.int .i64 i.n]
def ip(w:World)(a:Option Addr)(l:List Ins):Prop:=
 l.length<=maxLen/\(l≠[]->∃b o,a=some ⟨b,o,none⟩/\∀i (h:i<l.length),
  w.cell? ⟨b,o+i*4,none⟩=some (.int .i64 l[i].kind)/\w.cell? ⟨b,o+i*4+1,none⟩=some (.int .i64 l[i].r) /\
  w.cell? ⟨b,o+i*4+2,none⟩=some (.int .i64 l[i].x)/\w.cell? ⟨b,o+i*4+3,none⟩=some (.int .i64 l[i].n))
theorem ip.later{w w':World}{a:Option Addr}{l:List Ins}(h:ip w a l)(hb:Go.RowKit.Below w.heap.size w w'):ip w' a l:=by
 refine⟨h.1,fun c=>?_⟩;obtain⟨b,o,rfl,d⟩:=h.2 c;refine⟨b,o,rfl,fun i e=>?_⟩;obtain⟨f,g,j,k⟩:=d i e;exact⟨de hb f,de hb g,de hb j,de hb k⟩
def dI(w:World)(a:Option Addr)(ts:List (List Ins)):Prop:=
 ts.length<=maxLen/\(ts≠[]->∃b o,a=some ⟨b,o,none⟩/\∀i (h:i<ts.length),
  ∃c d,w.cell? ⟨b,o+i,none⟩=some (.slice c ts[i].length d)/\ip w c ts[i]/\(c=none->d=0))
theorem dI.later{w w':World}{a:Option Addr}{ts:List (List Ins)}(h:dI w a ts)(hb:Go.RowKit.Below w.heap.size w w'):dI w' a ts:=by
 refine⟨h.1,fun e=>?_⟩;obtain⟨b,o,rfl,f⟩:=h.2 e;refine⟨b,o,rfl,fun i g=>?_⟩;obtain⟨c,d,j,k,l⟩:=f i g;exact⟨c,d,de hb j,k.later hb,l⟩
def kw(p:Pg)(a:Option Addr)(cap:Nat):Value:=.agg #[.int .i64 p.vars,.int .i64 p.mutexes,.slice a p.threads.length cap]
theorem sG{p:Pg}(h:dL p=true){k:Nat}(b:k<p.threads.length):p.threads[k].length<=8/\∀j (a:j<p.threads[k].length),gy p.vars p.mutexes p.threads[k].length p.threads[k][j]=true:=by
 unfold dL at h;rw[Bool.and_eq_true,List.all_eq_true]at h;have:=h.2 _ (getElem_mem b);unfold gz at this;rw[Bool.and_eq_true,List.all_eq_true]at this;exact⟨by simpa using this.1,fun j a=>this.2 _ (getElem_mem a)⟩
structure Ev where
 thread:Int
 kind:Int
 obj:Int
 fail:Bool
instance:DecidableEq Ev:=fun a b=>
 decidable_of_iff (a.thread=b.thread/\a.kind=b.kind/\a.obj=b.obj/\a.fail=b.fail) (by cases a;cases b;simp)
def iR:Ev:=⟨0,0,0,false⟩
structure Thr where
 at_:Nat
 fuel:Nat
 r:List Int
def qi:Thr:=⟨0,0,[0,0]⟩
structure St where
 p:Pg
 ts:List Thr
 v:List Int
 m:List Int
def St.code(s:St)(t:Nat):List Ins:=s.p.threads.getD t []
def St.th(s:St)(t:Nat):Thr:=s.ts.getD t qi
def St.reg(s:St)(t:Int)(i:Ins):Int:=(s.th t.toNat).r.getD i.r.toNat 0
def St.who(s:St)(x:Int):Int:=s.m.getD x.toNat (-1)
def St.var(s:St)(x:Int):Int:=s.v.getD x.toNat 0
def St.put(s:St)(t:Int)(y:Thr):St:={ s with ts:=s.ts.set t.toNat y }
def St.has(s:St)(t:Int):Prop:=0<=t/\t<s.ts.length
instance (s:St) (t:Int):Decidable (s.has t):=inferInstanceAs (Decidable (_/\_))
def St.ins(s:St)(t:Int):Option Ins:=
 if s.has t/\(s.th t.toNat).fuel≠0 then (s.code t.toNat)[(s.th t.toNat).at_]? else none
def St.ev(s:St)(t:Int)(i:Ins):Ev:=
 if i.kind=1 then ⟨t,2,i.x,false⟩
 else if i.kind=2 then ⟨t,3,i.x,false⟩
 else if i.kind=5 then ⟨t,4,i.x,false⟩
 else if i.kind=6 then (if s.who i.x=t then ⟨t,5,i.x,false⟩else ⟨t,1,0,true⟩)
 else if i.kind=8 then ⟨t,1,0,decide (s.reg t i=0)⟩
 else ⟨t,1,0,false⟩
def St.next(s:St)(t:Int):Option Ev:=(s.ins t).map (s.ev t)
def St.may(s:St)(t:Int):Bool:=
 match s.ins t with
 |none=>false
 |some i=>decide (i.kind=5->s.who i.x<0)
def St.thr(s:St)(t:Int)(i:Ins):Thr:=
 let x:=s.th t.toNat
 {at_:=if i.kind=7/\s.reg t i≠0 then i.x.toNat else x.at_+1
  fuel:=x.fuel-1
  r:=if i.kind=1 then x.r.set i.r.toNat (s.var i.x)else if i.kind=3 then x.r.set i.r.toNat i.n else if i.kind=4 then x.r.set i.r.toNat (IntKind.i64.wrap (s.reg t i+i.n))else x.r }
def St.do_(s:St)(t:Int)(i:Ins):St:=
 {p:=s.p
  ts:=s.ts.set t.toNat (s.thr t i)
  v:=if i.kind=2 then s.v.set i.x.toNat (s.reg t i)else s.v
  m:=if i.kind=5 then s.m.set i.x.toNat t else if i.kind=6/\s.who i.x=t then s.m.set i.x.toNat (-1)else s.m }
def St.step(s:St)(t:Int):Int × Ev × St:=
 if s.has t then
  match s.ins t with
  |none=>(6,iR,s)
  |some i=>if s.may t=true then (0,s.ev t i,s.do_ t i)else (9,iR,s)
 else (2,iR,s)
def St.all(s:St):List Int:=((List.range s.ts.length).map Int.ofNat).filter s.may
def St.new(p:Pg)(fuel:Nat):St:=⟨p,p.threads.map fun _=>⟨0,fuel,[0,0]⟩,[0,0,0,0],[-1,-1]⟩
structure St.Ok(F:Nat)(s:St):Prop where
 f8:F<=8
 right:dL s.p=true
 len:s.ts.length=s.p.threads.length
 vl:s.v.length=4
 ml:s.m.length=2
 thr:∀x∈s.ts,x.r.length=2/\(∀n∈x.r,iP n)/\x.fuel<=F
 place:∀k,k<s.ts.length->(s.th k).at_<=(s.code k).length
 vv:∀n∈s.v,iP n
 mm:∀n∈s.m,-1<=n/\n<s.ts.length
 free:∀k:Nat,s.p.mutexes<=k->s.m.getD k (-1)=-1
theorem lN{p:Pg}(h:dL p=true)(F:Nat)(hF:F<=8):St.Ok F (St.new p F):=by
 refine⟨hF,h,by simp[St.new],rfl,rfl,fun x hx=>?_,fun k a=>?_,?_,?_,fun k _=>?_⟩
 ·simp[St.new]at hx
  obtain⟨_,_,rfl⟩:=hx;exact⟨rfl,by simp[iP],Nat.le_refl _⟩
 ·simp[St.new]at a
  simp[St.th,St.new,a]
 ·simp[St.new,iP]
 ·simp[St.new]
  omega
 ·match k with
  |0=>rfl
  |1=>rfl
  |k+2=>rfl
theorem St.ins_has{s:St}{t:Int}{i:Ins}(h:s.ins t=some i):s.has t/\(s.th t.toNat).fuel≠0/\(s.code t.toNat)[(s.th t.toNat).at_]?=some i:=by
 unfold St.ins at h
 split at h
 ·rename_i a;exact⟨a.1,a.2,h⟩
 ·cases h
theorem St.th_mem{s:St}{k:Nat}(h:k<s.ts.length):s.th k∈s.ts:=by
 unfold St.th;rw[dV _ h];exact getElem_mem h
theorem St.Ok.ins_right{F:Nat}{s:St}(h:s.Ok F){t:Int}{i:Ins}(d:s.ins t=some i):gy s.p.vars s.p.mutexes (s.code t.toNat).length i=true/\(s.code t.toNat).length<=8:=by
 obtain⟨e,_,f⟩:=St.ins_has d;have b:t.toNat<s.p.threads.length:=by have:=h.len;unfold St.has at e;omega
 have a:s.code t.toNat=s.p.threads[t.toNat]:=by unfold St.code;rw[dV _ b]
 obtain⟨c,g⟩:=sG h.right b;obtain⟨j,rfl⟩:=List.getElem?_eq_some_iff.1 f;rw[<-a]at c;refine⟨?_,c⟩;have:=g (s.th t.toNat).at_ (by rw[<-a];exact j);simpa [a]using this
theorem St.step_cases(s:St)(t:Int):(∃i,s.ins t=some i/\s.may t=true/\s.step t=(0,s.ev t i,s.do_ t i))∨∃e,(e=2∨e=6∨e=9)/\s.step t=(e,iR,s):=by
 unfold St.step
 split
 ·split
  ·exact .inr ⟨6,by simp,rfl⟩
  ·rename_i i a
   split
   ·rename_i b;exact .inl ⟨i,a,b,rfl⟩
   ·exact .inr ⟨9,by simp,rfl⟩
 ·exact .inr ⟨2,by simp,rfl⟩
theorem St.may_free{s:St}{t:Int}{i:Ins}(b:s.ins t=some i)(a:s.may t=true)(c:i.kind=5):s.who i.x<0:=by
 unfold St.may at a;rw[b]at a;simpa [c]using a
theorem St.th_do(s:St)(t:Int)(i:Ins)(a:s.has t)(k:Nat):(s.do_ t i).th k=if k=t.toNat then s.thr t i else s.th k:=by
 unfold St.th St.do_;dsimp only;exact gr _ _ _ _ _ (by unfold St.has at a;omega)
theorem St.Ok.obj{F:Nat}{s:St}(h:s.Ok F){t:Int}{i:Ins}(b:s.ins t=some i):(i.kind=1∨i.kind=2->0<=i.x/\i.x<4)/\(i.kind=5∨i.kind=6->0<=i.x/\i.x<2)/\(i.kind=7->0<=i.x/\i.x<=(s.code t.toNat).length)/\0<=i.r/\i.r<2/\iP i.n:=by
 have a:=(h.ins_right b).1
 have c:s.p.vars<=4/\s.p.mutexes<=2:=by
  have:=h.right;unfold dL at this;rw[Bool.and_eq_true,decide_eq_true_eq]at this;omega
 unfold gy at a;unfold iP
 split at a
 ·simp only[decide_eq_true_eq]at a;omega
 split at a
 ·simp only[decide_eq_true_eq]at a;omega
 split at a
 ·simp only[decide_eq_true_eq]at a;omega
 split at a
 ·simp only[decide_eq_true_eq]at a;omega
 split at a
 ·simp only[decide_eq_true_eq]at a;omega
 ·cases a
theorem St.Ok.objM{F:Nat}{s:St}(h:s.Ok F){t:Int}{i:Ins}(b:s.ins t=some i):i.kind=5∨i.kind=6->0<=i.x/\i.x<s.p.mutexes:=by
 intro c;have a:=(h.ins_right b).1;unfold gy at a;rw[if_neg (by omega),if_neg (by omega),if_pos c]at a;simp only[decide_eq_true_eq]at a;omega
theorem St.Ok.reg64{F:Nat}{s:St}(h:s.Ok F){t:Int}(b:s.has t)(i:Ins):iP (s.reg t i):=by
 have hx:=(h.thr _ (St.th_mem (s:=s) (k:=t.toNat) (by unfold St.has at b;omega))).2.1;unfold St.reg
 by_cases a:i.r.toNat<(s.th t.toNat).r.length
 ·rw[dV _ a];exact hx _ (getElem_mem a)
 ·simp[List.getD,List.getElem?_eq_none (Nat.le_of_not_lt a),iP]
theorem St.Ok.var64{F:Nat}{s:St}(h:s.Ok F)(x:Int):iP (s.var x):=by
 unfold St.var
 by_cases a:x.toNat<s.v.length
 ·rw[dV _ a];exact h.vv _ (getElem_mem a)
 ·simp[List.getD,List.getElem?_eq_none (Nat.le_of_not_lt a),iP]
theorem St.Ok.do_ok{F:Nat}{s:St}(h:s.Ok F){t:Int}{i:Ins}(f:s.ins t=some i):(s.do_ t i).Ok F:=by
 obtain⟨c,A,r⟩:=St.ins_has f;obtain⟨B,m,u,C,D,v⟩:=h.obj f;have j:t.toNat<s.ts.length:=by unfold St.has at c;omega
 obtain⟨w,d,E⟩:=h.thr _ (St.th_mem j);refine⟨h.f8,h.right,by simpa [St.do_]using h.len,?_,?_,fun x hx=>?_,fun k g=>?_,fun n a=>?_,fun n a=>?_,fun k g=>?_⟩
 ·unfold St.do_;dsimp only;split <;> simp[h.vl]
 ·unfold St.do_;dsimp only;repeat' split
  all_goals simp[h.ml]
 ·rcases mem_or_eq_of_mem_set hx with hx|rfl
  ·exact h.thr x hx
  ·unfold St.thr
   dsimp only;refine⟨?_,?_,by omega⟩
   ·repeat' split
    all_goals simp[w]
   ·intro n a
    split at a
    ·rcases mem_or_eq_of_mem_set a with a|rfl
     ·exact d n a
     ·exact h.var64 _
    split at a
    ·rcases mem_or_eq_of_mem_set a with a|rfl
     ·exact d n a
     ·exact v
    split at a
    ·rcases mem_or_eq_of_mem_set a with a|rfl
     ·exact d n a
     ·exact Kf _
    ·exact d n a
 ·rw[St.th_do s t i c]
  have b:k<s.ts.length:=by simpa [St.do_]using g
  have l:(s.do_ t i).code k=s.code k:=rfl;rw[l]
  split
  ·rename_i e
   subst e;unfold St.thr;dsimp only
   split
   ·rename_i y;have:=u y.1;omega
   ·exact(List.getElem?_eq_some_iff.1 r).1
  ·exact h.place k b
 ·unfold St.do_ at a
  dsimp only at a
  split at a
  ·rcases mem_or_eq_of_mem_set a with a|rfl
   ·exact h.vv n a
   ·exact h.reg64 c i
  ·exact h.vv n a
 ·have z:(s.do_ t i).ts.length=s.ts.length:=by simp[St.do_]
  rw[z];unfold St.do_ at a;dsimp only at a;unfold St.has at c
  split at a
  ·rcases mem_or_eq_of_mem_set a with a|rfl
   ·exact h.mm n a
   ·omega
  split at a
  ·rcases mem_or_eq_of_mem_set a with a|rfl
   ·exact h.mm n a
   ·omega
  ·exact h.mm n a
 ·have b:s.p.mutexes<=k:=g
  have hx:=h.objM f;unfold St.do_;dsimp only
  split
  ·rename_i o
   have:=hx (.inl o);rw[gr _ _ _ _ _ (by have:=m (.inl o);have:=h.ml;omega),if_neg (by omega)];exact h.free k b
  split
  ·rename_i q
   have:=hx (.inr q.1);rw[gr _ _ _ _ _ (by have:=m (.inr q.1);have:=h.ml;omega),if_neg (by omega)];exact h.free k b
  ·exact h.free k b
theorem St.Ok.step_ok{F:Nat}{s:St}(h:s.Ok F)(t:Int):(s.step t).2.2.Ok F:=by
 rcases s.step_cases t with ⟨i,a,_,e⟩|⟨e,_,b⟩
 ·rw[e];exact h.do_ok a
 ·rw[b];exact h
theorem St.Ok.who_do{F:Nat}{s:St}(h:s.Ok F){t:Int}{i:Ins}(g:s.ins t=some i)(x:Int):(s.do_ t i).who x =
  if i.kind=5/\x.toNat=i.x.toNat then t else if i.kind=6/\s.who i.x=t/\x.toNat=i.x.toNat then -1 else s.who x:=by
 obtain⟨l,f,n,o,p,q⟩:=h.obj g;have k:=h.ml;have j:(s.do_ t i).who x=(if i.kind=5 then s.m.set i.x.toNat t else if i.kind=6/\s.who i.x=t then s.m.set i.x.toNat (-1)else s.m).getD x.toNat (-1):=rfl;rw[j]
 by_cases b:i.kind=5
 ·have:=f (.inl b)
  rw[if_pos b,gr _ _ _ _ _ (by omega)];simp[b,St.who]
 ·rw[if_neg b]
  by_cases d:i.kind=6/\s.who i.x=t
  ·have:=f (.inr d.1)
   rw[if_pos d,gr _ _ _ _ _ (by omega)];rw[if_neg (c:=i.kind=5/\x.toNat=i.x.toNat) (fun e=>b e.1)]
   by_cases hx:x.toNat=i.x.toNat
   ·rw[if_pos hx,if_pos ⟨d.1,d.2,hx⟩]
   ·rw[if_neg hx,if_neg (fun e=>hx e.2.2)]
    rfl
  ·rw[if_neg d,if_neg (by simp[b]),if_neg (by intro h;exact d ⟨h.1,h.2.1⟩)]
   rfl
theorem St.who_eq{s:St}{x y:Int}(h:x.toNat=y.toNat):s.who x=s.who y:=by
 unfold St.who;rw[h]
theorem St.Ok.next_do{F:Nat}{s:St}(h:s.Ok F){t:Int}{i:Ins}(g:s.ins t=some i)(o:s.may t=true){u:Int}(q:u≠t):(s.do_ t i).next u=s.next u:=by
 obtain⟨k,_,_⟩:=St.ins_has g;have p:(s.do_ t i).ts.length=s.ts.length:=by simp[St.do_]
 have l:(s.do_ t i).has u↔s.has u:=by unfold St.has;rw[p]
 by_cases a:s.has u
 ·have b:(s.do_ t i).th u.toNat=s.th u.toNat:=by
   rw[St.th_do s t i k,if_neg];unfold St.has at k a;omega
  have c:(s.do_ t i).ins u=s.ins u:=by
   unfold St.ins;rw[b];simp only[l];rfl
  unfold St.next;rw[c]
  cases r:s.ins u with
  |none=>rfl
  |some j=>
   simp only[Option.map_some]
   have d:((s.do_ t i).who j.x=u)↔(s.who j.x=u):=by
    rw[h.who_do g];unfold St.has at a k
    split
    ·rename_i m
     have:=St.may_free g o m.1;rw[St.who_eq m.2]
     constructor <;> intro e <;> omega
    split
    ·rename_i n
     rw[St.who_eq n.2.2];have:=n.2.1
     constructor <;> intro e <;> omega
    ·rfl
   have f:(s.do_ t i).reg u j=s.reg u j:=by unfold St.reg;rw[b]
   unfold St.ev;simp only[d,f]
 ·unfold St.next St.ins
  rw[if_neg (by rw[l];exact fun e=>a e.1),if_neg (fun e=>a e.1)];rfl
theorem St.Ok.next_step{F:Nat}{s:St}(h:s.Ok F)(t:Int){u:Int}(a:u≠t):(s.step t).2.2.next u=s.next u:=by
 rcases s.step_cases t with ⟨i,b,c,e⟩|⟨e,_,d⟩
 ·rw[e];exact h.next_do b c a
 ·rw[d]
theorem St.Ok.var_do{F:Nat}{s:St}(h:s.Ok F){t:Int}{i:Ins}(c:s.ins t=some i)(x:Int):(s.do_ t i).var x=if i.kind=2/\x.toNat=i.x.toNat then s.reg t i else s.var x:=by
 obtain⟨d,j,k,l,m,n⟩:=h.obj c;have g:=h.vl;have f:(s.do_ t i).var x=(if i.kind=2 then s.v.set i.x.toNat (s.reg t i)else s.v).getD x.toNat 0:=rfl;rw[f]
 by_cases b:i.kind=2
 ·have:=d (.inr b)
  rw[if_pos b,gr _ _ _ _ _ (by omega)];simp only[b,true_and];rfl
 ·rw[if_neg b,if_neg (fun e=>b e.1)]
  rfl
def St.fuel(s:St):Nat:=(s.ts.map Thr.fuel).sum
theorem St.fuel_do{s:St}{t:Int}{i:Ins}(b:s.ins t=some i):(s.do_ t i).fuel+1=s.fuel:=by
 obtain⟨c,g,_⟩:=St.ins_has b;have a:t.toNat<s.ts.length:=by unfold St.has at c;omega
 have d:(s.do_ t i).fuel=((s.ts.map Thr.fuel).set t.toNat ((s.th t.toNat).fuel-1)).sum:=by
  unfold St.fuel St.do_ St.thr;dsimp only;rw[List.map_set]
 have e:=C3 (s.ts.map Thr.fuel) t.toNat ((s.th t.toNat).fuel-1) (by simpa using a)
 have f:(s.ts.map Thr.fuel)[t.toNat]'(by simpa using a)=(s.th t.toNat).fuel:=by
  unfold St.th;rw[dV _ a];simp
 rw[f]at e;rw[d];unfold St.fuel;omega
end
section
open Go.Proofs.Tryz Go.RowKit
def jv(e:Ev):Value:=.agg #[.int .i64 e.thread,.int .i64 e.kind,.int .i64 e.obj,.bool e.fail]
theorem kg{B g:Nat}{a w:World}(h:Below B a w)(b:B<=g)(v0 v1 v2 c:Value):Below B a ((((w.setCell ⟨g,0,none⟩ v0).setCell ⟨g,1,none⟩ v1).setCell ⟨g,2,none⟩ v2).setCell ⟨g,3,none⟩ c):=
 (((h.setCell (p:=⟨g,0,none⟩) b _).setCell (p:=⟨g,1,none⟩) b _).setCell (p:=⟨g,2,none⟩) b _).setCell (p:=⟨g,3,none⟩) b _
theorem mH(t k o:Int)(f:Bool):jv ⟨t,k,o,f⟩=.agg #[.int .i64 t,.int .i64 k,.int .i64 o,.bool f]:=rfl
def dC(w:World)(B:Nat)(v:Value)(ns:List Int):Prop:=w.ownsRow B 3 1 v ns.length (ns.map (Value.int .i64))
theorem dC.alloc{w:World}{B:Nat}{v:Value}{l:List Int}(h:dC w B v l)(o:Obj):dC (w.alloc o) B v l:=World.ownsRow.alloc h o
theorem oR(w:World)(B:Nat):dC w B (.slice none 0 0) []:=World.ownsRow_nil w B _ _
theorem dC.later{w w':World}{B:Nat}{v:Value}{l:List Int}(h:dC w B v l)(hb:Below w.heap.size w w'):dC w' B v l:=nz h hb
theorem qG(w:World)(ms:List Int)(t:TypeId)(g:Nat)(a:g=w.heap.size):∀j u,(ms.map (Value.int .i64))[j]?=some u->(w.alloc (.cells (ms.map (Value.int .i64)).toArray t)).cell? (Addr.add ⟨g,0,none⟩ j)=some u:=by
 subst a;intro j u b
 have e:Addr.add ⟨w.heap.size,0,none⟩ j=⟨w.heap.size,j,none⟩:=by
  unfold Addr.add
  split
  ·rename_i c;subst c;rfl
  ·simp
 rw[e,World.cell?_alloc_new];simpa using b
theorem p6{w:World}{g:Array Oper}{rest:List Oper}{o:Oper}{a:Act}{Q:Exit->Act->World->Prop}(q:o.guard=none)(s x:Operand)
  (E:o.op=.call { callee:=.builtin .append,args:=#[s,x],argTypes:=#[108,108] }) (B:Nat) (v:Value) (ns:List Int) (F:a.eval s=v) (b:dC w B v ns)
  (p:Addr) (m c:Nat) (hx:a.eval x=.slice (some p) m c) (ms:List Int) (z:ms.length=m) (d:∀j u,(ms.map (Value.int .i64))[j]?=some u->w.cell? (p.add j)=some u)
  (D:ns.length+m<=1000000000) (A:B<=w.heap.size)
  (h:∀n f,dC f B n (ns++ms)->Below B w f->w.grownBy f v.ownBlock->wpList prog g Q rest (a.put o.dst n) f):wpList prog g Q (o::rest) a w:=by
 have e:(prog.info? 3).map (fun i=>(i.zero,i.size,i.bytes))=some (some (.int .i64 0),1,8):=by kernel_rfl
 obtain⟨i,G,l⟩:=Option.map_eq_some_iff.1 e;simp only[Prod.mk.injEq]at l;obtain⟨H,r,t⟩:=l
 refine wpList_append_own w q s x 108 E B 3 i (.int .i64 0) 1 8 underlying108 G H r t rfl (by decide) v ns.length (ns.map (Value.int .i64)) F b p m c (ms.map (Value.int .i64)) hx (by simp[z]) d
  (by intro u I;obtain⟨y,_,rfl⟩:=List.mem_map.1 I;rfl) (by unfold maxLen;omega) (by omega) A ?_
 intro n f J C _;refine h n f ?_ ((Below.refl B w).grown C A (fun k L=>(World.ownsRow.lt b k L).1)) C;unfold dC;rw[List.length_append,List.map_append,z];exact J
def iB(w:World)(a:Option Addr)(ns:List Int):Prop:=
 ns.length<=maxLen/\(ns≠[]->∃b o,a=some ⟨b,o,none⟩/\∀i (h:i<ns.length),w.cell? ⟨b,o+i,none⟩=some (.int .i64 ns[i]))
theorem iB.later{w w':World}{a:Option Addr}{ns:List Int}(h:iB w a ns)(hb:Below w.heap.size w w'):iB w' a ns:=by
 refine⟨h.1,fun c=>?_⟩;obtain⟨b,o,rfl,d⟩:=h.2 c;exact⟨b,o,rfl,fun i e=>de hb (d i e)⟩
theorem dC.form{w:World}{B:Nat}{v:Value}{ns:List Int}(h:dC w B v ns)(n:ns.length<=1000000):∃a b,v=.slice a ns.length b/\iB w a ns/\(a=none->b=0):=by
 obtain⟨o,⟨c,d⟩|⟨g,b,m,c,d,j,p,q,r,k⟩⟩:=h
 ·have e:ns=[]:=List.eq_nil_of_length_eq_zero d
  subst e;exact⟨none,0,c,⟨by simp[maxLen],fun h=>absurd rfl h⟩,fun _=>rfl⟩
 ·refine⟨some ⟨g,0,none⟩,b,c,⟨by unfold maxLen;omega,fun _=>⟨g,0,rfl,fun i l=>?_⟩⟩,by simp⟩
  have f:(ns.map (Value.int .i64))[i]?=some (.int .i64 ns[i]):=by simp[l]
  rw[<-k,List.getElem?_take_of_lt (by omega)]at f;simp[World.cell?,j];simpa using f
theorem sA(e f:Ev)(w:World):
  (Op.equalIn 10000 112 (.agg #[.int .i64 e.thread,.int .i64 e.kind,.int .i64 e.obj,.bool e.fail]) (.agg #[.int .i64 f.thread,.int .i64 f.kind,.int .i64 f.obj,.bool f.fail])).run prog w=.ok (decide (e=f)) w:=by
 have k:decide (e=f)=((e.thread==f.thread)&&((e.kind==f.kind)&&((e.obj==f.obj)&&(e.fail==f.fail)))):=by
  obtain⟨a,b,c,d⟩:=e;obtain⟨g,h,i,j⟩:=f;rw[Bool.eq_iff_iff];simp
 rw[k];obtain⟨a,b,c,d⟩:=e;obtain⟨g,h,i,j⟩:=f;dsimp only;clear k;have l:prog.underlying 112=some (.struct (prog.fieldsOf 112)):=by kernel_rfl
 have m:prog.stoodInHeld 112=false:=by kernel_rfl
 rw[run_equalIn_agg (P:=prog) w 9999 _ _ _ l m];unfold Program.fieldsOf;rw[underlying112];dsimp only;rw[sB (P:=prog) w 9998 _ _ _ _ .i64 .i64 a g (by simp) underlying3 rfl rfl];rw[sB (P:=prog) w 9998 _ _ _ _ .i64 .i64 b h (by simp) underlying3 rfl rfl];rw[sB (P:=prog) w 9998 _ _ _ _ .i64 .i64 c i (by simp) underlying3 rfl rfl];rw[Ea (P:=prog) w 9998 _ _ _ _ d j (by simp) underlying4 rfl rfl];rw[Op.eqFields]
 cases (a==g) <;> cases (b==h) <;> cases (c==i) <;> cases (d==j) <;> simp
def eo(w:World)(g:Nat)(e:Ev):Prop:=w.heap[g]?=some (.cells #[.int .i64 e.thread,.int .i64 e.kind,.int .i64 e.obj,.bool e.fail] 112 (0,0))
theorem eo.lt{w:World}{g:Nat}{e:Ev}(h:eo w g e):g<w.heap.size:=(Array.getElem?_eq_some_iff.1 h).1
theorem eo.only{w w':World}{b g:Nat}{e:Ev}(h:eo w g e)(a:Only b w w')(hb:g≠b):eo w' g e:=(a.block g h.lt hb).trans h
theorem eo.later{w w':World}{g:Nat}{e:Ev}(h:eo w g e)(hb:Below w.heap.size w w'):eo w' g e:=(hb.block g h.lt).trans h
theorem eo.new(w:World)(e:Ev):eo (w.alloc (.cells #[.int .i64 e.thread,.int .i64 e.kind,.int .i64 e.obj,.bool e.fail] 112)) w.heap.size e:=heap_alloc_new w _
theorem eo.cells{w:World}{g:Nat}{e:Ev}(h:eo w g e):w.cell? ⟨g,0,none⟩=some (.int .i64 e.thread)/\w.cell? ⟨g,1,none⟩=some (.int .i64 e.kind)/\w.cell? ⟨g,2,none⟩=some (.int .i64 e.obj)/\w.cell? ⟨g,3,none⟩=some (.bool e.fail):=by
 simp[World.cell?,show w.heap[g]?=_ from h]
def eg(e:Ev):List Value:=[.int .i64 e.thread,.int .i64 e.kind,.int .i64 e.obj,.bool e.fail]
def dy(l:List Ev):List Value:=l.flatMap eg
theorem iy(l:List Ev):(dy l).length=l.length*4:=by
 induction l with
 |nil=>rfl
 |cons i l a=>simp only[dy,eg,List.flatMap_cons,List.length_append,List.length_cons,List.length_nil]at *;omega
theorem lm(a b:List Ev):dy (a++b)=dy a++dy b:=by simp[dy]
theorem pF(l:List Ev)(i j:Nat)(h:i<l.length)(a:j<4):(dy l)[i*4+j]?=(eg l[i])[j]?:=by
 induction l generalizing i with
 |nil=>simp at h
 |cons x l b=>
  cases i with
  |zero=>
   simp only[dy,List.flatMap_cons,Nat.zero_mul,Nat.zero_add,List.getElem_cons_zero];rw[List.getElem?_append_left (by simpa [eg]using a)]
  |succ i=>
   have:=b i (by simpa using h);simp only[dy,List.flatMap_cons,List.getElem_cons_succ]at *;rw[List.getElem?_append_right (by simp[eg];omega),<-this]
   congr 1
   simp[eg];omega
theorem pE(l:List Ev):∀v∈dy l,v.oneCell'=true:=by
 intro v a;simp only[dy,List.mem_flatMap]at a;obtain⟨i,_,a⟩:=a;simp[eg]at a
 rcases a with rfl|rfl|rfl|rfl <;> rfl
def dr(w:World)(B:Nat)(v:Value)(a:List Ev):Prop:=w.ownsRow B 112 4 v a.length (dy a)
theorem dr.alloc{w:World}{B:Nat}{v:Value}{l:List Ev}(h:dr w B v l)(o:Obj):dr (w.alloc o) B v l:=World.ownsRow.alloc h o
theorem qF(w:World)(B:Nat):dr w B (.slice none 0 0) []:=World.ownsRow_nil w B _ _
theorem dr.later{w w':World}{B:Nat}{v:Value}{l:List Ev}(h:dr w B v l)(hb:Below w.heap.size w w'):dr w' B v l:=nz h hb
theorem dr.only{w w':World}{B g:Nat}{v:Value}{l:List Ev}(h:dr w B v l)(a:Only g w w')(b:g<B):dr w' B v l:=xF h a b
theorem nU(w:World)(e:Ev)(t:TypeId)(g:Nat)(a:g=w.heap.size):∀j u,(dy [e])[j]?=some u->(w.alloc (.cells #[.int .i64 e.thread,.int .i64 e.kind,.int .i64 e.obj,.bool e.fail] t)).cell? (Addr.add ⟨g,0,none⟩ j)=some u:=by
 subst a;intro j u b
 have e:Addr.add ⟨w.heap.size,0,none⟩ j=⟨w.heap.size,j,none⟩:=by
  unfold Addr.add
  split
  ·rename_i c;subst c;rfl
  ·simp
 rw[e,World.cell?_alloc_new];simpa [dy,eg]using b
theorem m8{w:World}{l:Array Oper}{rest:List Oper}{o:Oper}{a:Act}{Q:Exit->Act->World->Prop}(q:o.guard=none)(s x:Operand)
  (C:o.op=.call { callee:=.builtin .append,args:=#[s,x],argTypes:=#[95,95] }) (B:Nat) (v:Value) (f:List Ev) (D:a.eval s=v) (b:dr w B v f)
  (p:Addr) (hx:a.eval x=.slice (some p) 1 1) (e:Ev) (c:∀j u,(dy [e])[j]?=some u->w.cell? (p.add j)=some u)
  (A:f.length<=1000000) (z:B<=w.heap.size)
  (h:∀n g,dr g B n (f++[e])->Below B w g->wpList prog l Q rest (a.put o.dst n) g):wpList prog l Q (o::rest) a w:=by
 have d:(prog.info? 112).map (fun i=>(i.zero,i.size,i.bytes))=some (some (.agg #[.int .i64 0,.int .i64 0,.int .i64 0,.bool false]),4,32):=by kernel_rfl
 obtain⟨t,E,m⟩:=Option.map_eq_some_iff.1 d;simp only[Prod.mk.injEq]at m;obtain⟨F,r,y⟩:=m
 refine wpList_append_own w q s x 95 C B 112 t (.agg #[.int .i64 0,.int .i64 0,.int .i64 0,.bool false]) 4 32 underlying95 E F r y rfl (by decide) v f.length (dy f) D b p 1 1 (dy [e]) hx rfl c
  (pE _) (by unfold maxLen;omega) (by omega) z ?_
 intro n g G H _;refine h n g ?_ ((Below.refl B w).grown H z (fun k I=>(World.ownsRow.lt b k I).1));unfold dr;rw[List.length_append,lm];exact G
def ei(w:World)(a:Option Addr)(c:List Ev):Prop:=
 c.length<=maxLen/\(c≠[]->∃b o,a=some ⟨b,o,none⟩/\∀i (h:i<c.length),w.cell? ⟨b,o+i*4,none⟩=some (.int .i64 c[i].thread)/\w.cell? ⟨b,o+i*4+1,none⟩=some (.int .i64 c[i].kind) /\
  w.cell? ⟨b,o+i*4+2,none⟩=some (.int .i64 c[i].obj)/\w.cell? ⟨b,o+i*4+3,none⟩=some (.bool c[i].fail))
theorem ei.later{w w':World}{a:Option Addr}{c:List Ev}(h:ei w a c)(hb:Below w.heap.size w w'):ei w' a c:=by
 refine⟨h.1,fun d=>?_⟩;obtain⟨b,o,rfl,e⟩:=h.2 d;refine⟨b,o,rfl,fun i f=>?_⟩;obtain⟨g,j,k,l⟩:=e i f;exact⟨de hb g,de hb j,de hb k,de hb l⟩
theorem Ab(w:World)(a:Option Addr):ei w a []:=⟨by simp[maxLen],fun h=>absurd rfl h⟩
theorem dr.form{w:World}{B:Nat}{v:Value}{c:List Ev}(h:dr w B v c)(r:c.length<=1000000):∃a d,v=.slice a c.length d/\ei w a c:=by
 obtain⟨s,⟨k,m⟩|⟨g,d,p,k,m,n,t,x,y,o⟩⟩:=h
 ·have e:c=[]:=List.eq_nil_of_length_eq_zero m
  subst e;exact⟨none,0,k,Ab _ _⟩
 ·have b:∀j u,(dy c)[j]?=some u->w.cell? ⟨g,j,none⟩=some u:=by
   intro j u l
   have q:j<c.length*4:=by
    have:=(List.getElem?_eq_some_iff.1 l).1;rw[iy]at this;exact this
   rw[<-o,List.getElem?_take_of_lt (by omega)]at l;simp[World.cell?,n];simpa using l
  refine⟨some ⟨g,0,none⟩,d,k,⟨by unfold maxLen;omega,fun _=>⟨g,0,rfl,fun i f=>?_⟩⟩⟩;simp only[Nat.zero_add];exact⟨b _ _ (pF c i 0 f (by omega)),b _ _ (pF c i 1 f (by omega)),b _ _ (pF c i 2 f (by omega)),b _ _ (pF c i 3 f (by omega))⟩
end
section
open Go
theorem na(n:Nat)(h:n<256):(BitVec.ofInt 8 (n:Int)).toNat=n:=by
 rw[BitVec.ofInt_natCast,BitVec.toNat_ofNat];exact Nat.mod_eq_of_lt h
theorem rZ(n:Nat)(h:n<256):IntKind.u8.wrap (n:Int)=n:=by
 have:=IntWalk.u8_in (n:Int) (by omega);exact this
theorem AU(n m:Nat)(a:n<256)(b:m<256):bits .or .u8 (n:Int) (m:Int)=((n|||m:Nat):Int):=by
 show IntKind.u8.wrap ((BitVec.ofInt 8 (n:Int)|||BitVec.ofInt 8 (m:Int)).toNat:Int)=_;rw[BitVec.toNat_or,na n a,na m b];exact rZ _ (Nat.or_lt_two_pow (n:=8) a b)
theorem AV(n m:Nat)(b:n<256)(a:m<256):bits .and .u8 (n:Int) (m:Int)=((n&&&m:Nat):Int):=by
 show IntKind.u8.wrap ((BitVec.ofInt 8 (n:Int)&&&BitVec.ofInt 8 (m:Int)).toNat:Int)=_;rw[BitVec.toNat_and,na n b,na m a];exact rZ _ (Nat.and_lt_two_pow (n:=8) _ a)
def wo(n m:Nat):Nat:=n&&&(255-m)
theorem rH(n m:Nat)(a:n<256)(b:m<256):bits .andNot .u8 (n:Int) (m:Int)=((wo n m:Nat):Int):=by
 show IntKind.u8.wrap ((BitVec.ofInt 8 (n:Int) &&& ~~~(BitVec.ofInt 8 (m:Int))).toNat:Int)=_;rw[BitVec.toNat_and,BitVec.toNat_not,na n a,na m b];exact rZ _ (Nat.and_lt_two_pow (n:=8) _ (by omega))
theorem jB(n m:Nat)(a:n<256):wo n m<256:=Nat.lt_of_le_of_lt (Nat.and_le_left) a
theorem si{n i:Nat}(a:n<256)(h:n.testBit i=true):i<8:=by
 apply Classical.byContradiction;intro b;rw[Nat.testBit_lt_two_pow (Nat.lt_of_lt_of_le a (show 2^8<=2^i from Nat.pow_le_pow_right (by omega) (by omega)))]at h
 cases h
theorem jm{n m i:Nat}(c:n<256)(d:m<256):(wo n m).testBit i=(n.testBit i && !m.testBit i):=by
 unfold wo;rw[Nat.testBit_and]
 by_cases a:i<8
 ·have h:(255-m).testBit i=!m.testBit i:=by
   have b:=Nat.testBit_two_pow_sub_succ (n:=8) (x:=m) d i;have e:2^8-(m+1)=255-m:=by omega
   rw[e]at b;rw[b];simp[a]
  rw[h]
 ·cases hb:n.testBit i
  ·simp
  ·exact absurd (si c hb) a
theorem wz{n m:Nat}(b:n<256)(c:m<256)(h:∀i,i<8->n.testBit i=m.testBit i):n=m:=by
 apply Nat.eq_of_testBit_eq;intro i
 by_cases a:i<8
 ·exact h i a
 ·have d:n.testBit i=false:=by
   rw[Bool.eq_false_iff];intro h;exact a (si b h)
  have e:m.testBit i=false:=by
   rw[Bool.eq_false_iff];intro h;exact a (si c h)
  rw[d,e]
end
section
open List (append_nil filter_append length_append mem_append mem_filter range_succ set_comm)
open Nat (add_zero le_antisymm le_refl le_trans lt_or_eq_of_le)
open Bool (and_eq_true)
def ld(e:Ev):Bool:=decide (e.kind=2∨e.kind=3)
def lO(e:Ev):Bool:=decide (e.kind=4∨e.kind=5)
def dj(a b:Ev):Bool:=
 decide (a.thread=b.thread∨(a.obj=b.obj/\(((a.kind=2∨a.kind=3)/\(b.kind=2∨b.kind=3)/\(a.kind=3∨b.kind=3))∨((a.kind=4∨a.kind=5)/\(b.kind=4∨b.kind=5)))))
theorem lo(a b:Ev):dj a b=dj b a:=by
 unfold dj;rw[decide_eq_decide];omega
def eM(e:Ev):Bool:=
 decide (0<=e.thread/\e.thread<=3/\((e.kind=1/\e.obj=0)∨((e.kind=2∨e.kind=3)/\0<=e.obj/\e.obj<=3/\e.fail=false)∨((e.kind=4∨e.kind=5)/\0<=e.obj/\e.obj<=1/\e.fail=false)))
def eY(e:Ev):Int:=e.thread+4*e.kind+32*e.obj+if e.fail then 128 else 0
def uz(n:Int):Ev:=⟨n%4,n/4%8,n/32%4,decide (128<=n)⟩
theorem kZ{e:Ev}(h:eM e=true):0<=e.thread/\e.thread<=3/\1<=e.kind/\e.kind<=5/\0<=e.obj/\e.obj<=3:=by
 unfold eM at h;rw[decide_eq_true_eq]at h;omega
theorem uA{e:Ev}(h:eM e=true):0<=eY e/\eY e<256:=by
 have:=kZ h;unfold eY
 split <;> omega
theorem Lx{e:Ev}(h:eM e=true):uz (eY e)=e:=by
 have:=kZ h;obtain⟨t,k,o,f⟩:=e;dsimp only at this;unfold uz eY
 cases f
 ·simp
  omega
 ·simp
  omega
def eR(l:List Ev):List Int:=if l.all eM then l.map eY else []
def dd(l:List Ev)(i:Nat):Ev:=l.getD i iR
def nM(l:List Ev):Nat->Nat->Nat->Bool
 |0,_,_=>false
 |n+1,j,m=>if m<n then nM l n j m else if m=n then decide (j=n)||(List.range n).any (fun i=>dj (dd l i) (dd l n)&&nM l n j i)else false
def hb(l:List Ev)(j k:Nat):Bool:=nM l (k+1) j k
theorem zw(l:List Ev)(n j m:Nat)(h:m<n):nM l n j m=hb l j m:=by
 induction n with
 |zero=>omega
 |succ n b=>
  by_cases a:m<n
  ·rw[nM,if_pos a,b a]
  ·obtain rfl:m=n:=by omega
   rfl
theorem j8(l:List Ev)(j k:Nat):hb l j k=true↔(j=k∨∃i,i<k/\dj (dd l i) (dd l k)=true/\hb l j i=true):=by
 unfold hb;rw[nM,if_neg (by omega),if_pos rfl,Bool.or_eq_true,decide_eq_true_eq,List.any_eq_true]
 constructor
 ·rintro (h|⟨i,a,h⟩)
  ·exact .inl h
  ·rw[List.mem_range]at a
   rw[and_eq_true,zw l k j i a]at h;exact .inr ⟨i,a,h⟩
 ·rintro (h|⟨i,a,h⟩)
  ·exact .inl h
  ·refine .inr ⟨i,List.mem_range.2 a,?_⟩
   rw[and_eq_true,zw l k j i a];exact h
theorem zv(l:List Ev)(k:Nat):hb l k k=true:=(j8 l k k).2 (.inl rfl)
theorem qZ{l:List Ev}{i k:Nat}(h:i<k)(a:dj (dd l i) (dd l k)=true):hb l i k=true:=(j8 l i k).2 (.inr ⟨i,h,a,zv l i⟩)
theorem qY{l:List Ev}{k:Nat}:∀{j:Nat},hb l j k=true->j<=k:=by
 induction k using Nat.strongRecOn with
 |_ k a=>
  intro j h;rcases (j8 l j k).1 h with rfl|⟨i,b,_,h⟩
  ·exact le_refl _
  ·have:=a i b h
   omega
theorem zu{l:List Ev}{k:Nat}:∀{i j:Nat},hb l i j=true->hb l j k=true->hb l i k=true:=by
 induction k using Nat.strongRecOn with
 |_ k c=>
  intro i j a d;rcases (j8 l j k).1 d with rfl|⟨m,b,e,f⟩
  ·exact a
  ·exact(j8 l i k).2 (.inr ⟨m,b,e,c m b a f⟩)
theorem mK{a b:Ev}(h:a.thread=b.thread):dj a b=true:=by unfold dj;simp[h]
theorem uf{l:List Ev}{i k:Nat}(h:i<=k)(a:(dd l i).thread=(dd l k).thread):hb l i k=true:=by
 rcases lt_or_eq_of_le h with h|rfl
 ·exact qZ h (mK a)
 ·exact zv l i
theorem jw{l m:List Ev}{i:Nat}(h:i<l.length):dd (l++m) i=dd l i:=by
 unfold dd;simp only[List.getD];rw[List.getElem?_append_left h]
theorem gt{l:List Ev}{i:Nat}(h:i<l.length):dd l i=l[i]:=dV _ h
theorem Ly{l:List Ev}{i:Nat}(h:i<l.length):dd l i∈l:=by rw[gt h];exact List.getElem_mem h
theorem Kr{l m:List Ev}{k:Nat}:∀{j:Nat},k<l.length->(hb (l++m) j k=true↔hb l j k=true):=by
 induction k using Nat.strongRecOn with
 |_ k c=>
  intro j d;rw[j8,j8]
  constructor
  ·rintro (h|⟨i,a,b,h⟩)
   ·exact .inl h
   ·refine .inr ⟨i,a,?_,(c i a (by omega)).1 h⟩
    rw[jw d,jw (by omega)]at b;exact b
  ·rintro (h|⟨i,a,b,h⟩)
   ·exact .inl h
   ·refine .inr ⟨i,a,?_,(c i a (by omega)).2 h⟩
    rw[jw d,jw (by omega)];exact b
theorem uh{l m:List Ev}{k:Nat}(j:Nat)(a:k<l.length):hb (l++m) j k=hb l j k:=by
 rw[Bool.eq_iff_iff];exact Kr a
def cnt(q:Nat->Bool)(n:Nat):Nat:=((List.range n).filter q).length
theorem rC(q:Nat->Bool):cnt q 0=0:=rfl
theorem gY(q:Nat->Bool)(n:Nat):cnt q (n+1)=cnt q n+if q n=true then 1 else 0:=by
 unfold cnt;rw[range_succ,filter_append,length_append]
 congr 1
 cases h:q n <;> simp[h]
theorem mL{q r:Nat->Bool}(n:Nat)(h:∀i,i<n->q i=true->r i=true):cnt q n<=cnt r n:=by
 induction n with
 |zero=>exact le_refl _
 |succ n b=>
  have:=b (fun i c=>h i (by omega));rw[gY,gY]
  by_cases a:q n=true
  ·rw[if_pos a,if_pos (h n (by omega) a)]
   omega
  ·rw[if_neg a]
   omega
theorem mM{q r:Nat->Bool}(n:Nat)(h:∀i,i<n->q i=r i):cnt q n=cnt r n:=
 le_antisymm (mL n fun i a b=>by rw[<-h i a];exact b) (mL n fun i a b=>by rw[h i a];exact b)
theorem lp(q:Nat->Bool){m n:Nat}(h:m<=n):cnt q m<=cnt q n:=by
 induction n with
 |zero=>
  obtain rfl:m=0:=by omega
  exact le_refl _
 |succ n a=>
  rcases lt_or_eq_of_le h with h|rfl
  ·have:=a (by omega)
   rw[gY];omega
  ·exact le_refl _
theorem l3(q:Nat->Bool){m n:Nat}(h:m<n)(a:q m=true):cnt q m<cnt q n:=by
 have b:=lp q (show m+1<=n by omega);rw[gY,if_pos a]at b;omega
theorem Mh{q r:Nat->Bool}{n:Nat}(h1:∀i,i<n->q i=true->r i=true)(h2:∀i j,i<j->j<n->r i=true->q j=true->q i=true){i:Nat}(s:i<n)(g:r i=true):q i=true↔cnt r (i+1)<=cnt q n:=by
 constructor
 ·intro d
  have e:cnt r (i+1)=cnt q (i+1):=mM _ fun j f=>by
   by_cases h:j=i
   ·rw[h,d,g]
   ·rw[Bool.eq_iff_iff]
    exact⟨fun k=>h2 j i (by omega) s k d,fun c=>h1 j (by omega) c⟩
  rw[e];exact lp q (by omega)
 ·intro l
  cases d:q i
  ·exfalso
   have e:cnt q n<=cnt r i:=by
    have o:∀j,i<=j->j<n->q j=false:=by
     intro j f p
     cases c:q j
     ·rfl
     ·rcases lt_or_eq_of_le f with f|rfl
      ·rw[h2 i j f p g c]at d;cases d
      ·rw[c]at d;cases d
    have t:∀m,i<=m->m<=n->cnt q m=cnt q i:=by
     intro m
     induction m with
     |zero=>
      intro b _;obtain rfl:i=0:=by omega
      rfl
     |succ m u=>
      intro b v;rcases lt_or_eq_of_le b with b|b
      ·rw[gY,o m (by omega) (by omega),u (by omega) (by omega)]
       rfl
      ·rw[<-b]
    rw[t n (by omega) (le_refl _)];exact mL i fun j f=>h1 j (by omega)
   rw[gY,if_pos g]at l;omega
  ·rfl
def dq(l:List Ev)(t:Int)(i:Nat):Bool:=decide ((dd l i).thread=t)
def num(l:List Ev)(i:Nat):Nat:=cnt (dq l (dd l i).thread) (i+1)
def clk(l:List Ev)(k:Nat)(t:Int):Nat:=cnt (fun i=>hb l i k&&dq l t i) (k+1)
theorem lS{l:List Ev}{i k:Nat}:hb l i k=true↔num l i<=clk l k (dd l i).thread:=by
 by_cases c:i<=k
 ·have h:=Mh (q:=fun j=>hb l j k&&dq l (dd l i).thread j) (r:=dq l (dd l i).thread) (n:=k+1)
   (fun j _ a=>by rw[and_eq_true]at a;exact a.2)
   (fun j m d e b a=>by
    rw[and_eq_true]at a ⊢;refine⟨zu (uf (by omega) ?_) a.1,b⟩;unfold dq at b a;rw[decide_eq_true_eq]at b a
    rw[b,a.2])
   (i:=i) (by omega) (by simp[dq])
  rw[and_eq_true]at h;unfold num clk;rw[<-h];simp[dq]
 ·constructor
  ·intro h;exact absurd (qY h) c
  ·intro h
   exfalso
   unfold num clk at h;have f:cnt (fun j=>hb l j k&&dq l (dd l i).thread j) (k+1)<=cnt (dq l (dd l i).thread) (k+1):=mL _ fun j _ a=>by rw[and_eq_true]at a;exact a.2
   have g:=lp (dq l (dd l i).thread) (show k+1<=i by omega);have o:cnt (dq l (dd l i).thread) (i+1)=cnt (dq l (dd l i).thread) i+1:=by rw[gY,if_pos (by simp[dq])]
   omega
theorem rD(l:List Ev)(k:Nat):clk l k (dd l k).thread=num l k:=by
 unfold clk num;refine mM _ fun i a=>?_
 rw[Bool.eq_iff_iff,and_eq_true];refine⟨fun h=>h.2,fun h=>⟨uf (by omega) ?_,h⟩⟩;unfold dq at h;rw[decide_eq_true_eq]at h;exact h
theorem uH(l:List Ev)(k:Nat)(t:Int):clk l k t<=cnt (dq l t) (k+1):=mL _ fun j _ a=>by rw[and_eq_true]at a;exact a.2
theorem AA{l:List Ev}{i k:Nat}(h:hb l i k=true)(t:Int):clk l i t<=clk l k t:=by
 have b:=qY h;unfold clk;refine le_trans (mL (r:=fun j=>hb l j k&&dq l t j) (i+1) fun j _ a=>?_) (lp _ (by omega));rw[and_eq_true]at a ⊢;exact⟨zu a.1 h,a.2⟩
theorem num_append{l m:List Ev}{i:Nat}(h:i<l.length):num (l++m) i=num l i:=by
 unfold num;rw[jw h];refine mM _ fun j a=>?_
 unfold dq;rw[jw (by omega)]
theorem Mp{l m:List Ev}{k:Nat}(h:k<l.length)(t:Int):clk (l++m) k t=clk l k t:=by
 unfold clk;refine mM _ fun j a=>?_
 unfold dq;rw[jw (by omega),uh j h]
def top(f:Nat->Nat)(q:Nat->Bool):Nat->Nat
 |0=>0
 |n+1=>if q n=true then max (top f q n) (f n)else top f q n
theorem ni{f:Nat->Nat}{q:Nat->Bool}{n i:Nat}(d:i<n)(b:q i=true):f i<=top f q n:=by
 induction n with
 |zero=>omega
 |succ n c=>
  unfold top
  by_cases a:i=n
  ·subst a
   rw[if_pos b];exact Nat.le_max_right _ _
  ·have:=c (by omega)
   split <;> omega
theorem nh{f:Nat->Nat}{q:Nat->Bool}{n b:Nat}(h:∀i,i<n->q i=true->f i<=b):top f q n<=b:=by
 induction n with
 |zero=>exact Nat.zero_le _
 |succ n a=>
  have c:=a (fun i e=>h i (by omega));unfold top
  split
  ·rename_i d
   have:=h n (by omega) d;omega
  ·exact c
theorem sd{f:Nat->Nat}{q:Nat->Bool}{n:Nat}:top f q n=0∨∃i,i<n/\q i=true/\top f q n=f i:=by
 induction n with
 |zero=>exact .inl rfl
 |succ n b=>
  unfold top
  split
  ·rename_i c
   rcases Nat.le_total (top f q n) (f n)with h|h
   ·exact .inr ⟨n,by omega,c,by omega⟩
   ·rcases b with d|⟨i,g,a,e⟩
    ·exact .inr ⟨n,by omega,c,by omega⟩
    ·exact .inr ⟨i,by omega,a,by omega⟩
  ·rcases b with d|⟨i,g,a,e⟩
   ·exact .inl d
   ·exact .inr ⟨i,by omega,a,e⟩
theorem Ay(l:List Ev)(k:Nat)(t:Int):clk l k t=top (fun i=>clk l i t) (fun i=>dj (dd l i) (dd l k)) k+if (dd l k).thread=t then 1 else 0:=by
 by_cases g:(dd l k).thread=t
 ·subst g
  rw[if_pos rfl,rD];have e:num l k=cnt (dq l (dd l k).thread) k+1:=by unfold num;rw[gY,if_pos (by simp[dq])]
  rw[e]
  congr 1
  apply le_antisymm
  ·-- the last one of the thread ahead
   by_cases v:cnt (dq l (dd l k).thread) k=0
   ·omega
   ·have d:∀n,n<=k->cnt (dq l (dd l k).thread) n≠0->∃i,i<n/\dq l (dd l k).thread i=true/\cnt (dq l (dd l k).thread) (i+1)=cnt (dq l (dd l k).thread) n:=by
     intro n
     induction n with
     |zero=>intro _ h;exact absurd (rC _) h
     |succ n o=>
      intro w h
      cases a:dq l (dd l k).thread n
      ·rw[gY,a]at h ⊢
       simp only[Bool.false_eq_true,if_false,add_zero]at h ⊢;obtain⟨i,c,b,p⟩:=o (by omega) h;exact⟨i,by omega,b,p⟩
      ·exact⟨n,by omega,a,rfl⟩
    obtain⟨i,c,b,p⟩:=d k (le_refl _) v;rw[<-p];have g:(dd l i).thread=(dd l k).thread:=by unfold dq at b;rw[decide_eq_true_eq]at b;exact b
    have x:=ni (f:=fun i=>clk l i (dd l k).thread) (q:=fun i=>dj (dd l i) (dd l k)) c (mK g);have u:=rD l i;unfold num at u;rw[g]at u;omega
  ·refine nh fun i c _=>le_trans (uH l i _) (lp _ (by omega))
 ·rw[if_neg g,add_zero]
  apply le_antisymm
  ·-- the last one that happens before
   have e:clk l k t=cnt (fun i=>hb l i k&&dq l t i) k:=by
    unfold clk;rw[gY,if_neg (by simp[dq,g])];rfl
   rw[e]
   have d:∀n,n<=k->cnt (fun i=>hb l i k&&dq l t i) n<=top (fun i=>clk l i t) (fun i=>dj (dd l i) (dd l k)) k:=by
    intro n
    induction n with
    |zero=>intro _;exact Nat.zero_le _
    |succ n o=>
     intro w;rw[gY]
     by_cases a:(hb l n k&&dq l t n)=true
     ·rw[if_pos a]
      rw[and_eq_true]at a;have m:(dd l n).thread=t:=by have:=a.2;unfold dq at this;rw[decide_eq_true_eq]at this;exact this
      rcases (j8 l n k).1 a.1 with h|⟨i,c,s,h⟩
      ·omega
      ·refine le_trans ?_ (ni (f:=fun i=>clk l i t) (q:=fun i=>dj (dd l i) (dd l k)) c s)
       have b:=lS.1 h;rw[m]at b;refine le_trans ?_ b;unfold num;rw[m,gY,if_pos a.2];have:=mL (q:=fun i=>hb l i k&&dq l t i) (r:=dq l t) n fun j _ a=>by rw[and_eq_true]at a;exact a.2
       omega
     ·rw[if_neg a,add_zero]
      exact o (by omega)
   exact d k (le_refl _)
  ·exact nh fun i c s=>AA (qZ c s) t
def eC(l:List Ev):List (Ev × (Int->Nat)):=(List.range l.length).map fun k=>(dd l k,clk l k)
def gK(l:List Ev)(t:Int):List (Ev × (Int->Nat)):=(eC l).filter fun p=>decide (p.1.thread=t)
def eh(a b:List Ev):Prop:=∀t,gK a t=gK b t
theorem eh.refl(a:List Ev):eh a a:=fun _=>rfl
theorem eh.symm{a b:List Ev}(h:eh a b):eh b a:=fun t=>(h t).symm
theorem eh.trans{a b c:List Ev}(h:eh a b)(k:eh b c):eh a c:=fun t=>(h t).trans (k t)
def hU(ps:List (Ev × (Int->Nat)))(t:Int):Nat:=ps.foldr (fun p m=>max (p.2 t) m) 0
def fc(ps:List (Ev × (Int->Nat)))(e:Ev):Int->Nat:=fun t=>hU (ps.filter fun p=>dj p.1 e) t+if e.thread=t then 1 else 0
theorem qh{ps:List (Ev × (Int->Nat))}{t:Int}{b:Nat}:hU ps t<=b↔∀p∈ps,p.2 t<=b:=by
 induction ps with
 |nil=>simp[hU]
 |cons p ps a=>
  have e:hU (p::ps) t=max (p.2 t) (hU ps t):=rfl;rw[e,Nat.max_le,a];simp
theorem CA(ps qs:List (Ev × (Int->Nat)))(t:Int):hU (ps++qs) t=max (hU ps t) (hU qs t):=by
 induction ps with
 |nil=>simp[hU]
 |cons p ps a=>
  have e:hU (p::ps++qs) t=max (p.2 t) (hU (ps++qs) t):=rfl;have b:hU (p::ps) t=max (p.2 t) (hU ps t):=rfl;rw[e,a,b,Nat.max_assoc]
theorem Cz{ps qs:List (Ev × (Int->Nat))}(h:∀p,p∈ps↔p∈qs)(t:Int):hU ps t=hU qs t:=
 le_antisymm (qh.2 fun p a=>qh.1 (le_refl _) p ((h p).1 a)) (qh.2 fun p a=>qh.1 (le_refl _) p ((h p).2 a))
theorem xX{ps qs:List (Ev × (Int->Nat))}(h:∀p,p∈ps↔p∈qs)(e:Ev):fc ps e=fc qs e:=by
 funext t
 unfold fc;rw[Cz (qs:=qs.filter fun p=>dj p.1 e) (fun p=>by rw[mem_filter,mem_filter,h])]
theorem oz(f:Nat->Nat)(q:Nat->Bool)(n:Nat):top f q (n+1)=if q n=true then max (top f q n) (f n)else top f q n:=rfl
theorem Cy(l:List Ev)(e:Ev)(t:Int)(n:Nat):top (fun i=>clk l i t) (fun i=>dj (dd l i) e) n=hU (((List.range n).map fun k=>(dd l k,clk l k)).filter fun p=>dj p.1 e) t:=by
 induction n with
 |zero=>rfl
 |succ n a=>
  rw[range_succ,List.map_append,filter_append,CA,<-a,oz]
  by_cases h:dj (dd l n) e=true
  ·rw[if_pos h]
   simp[h,hU]
  ·rw[if_neg h]
   simp[h,hU]
theorem xu(l:List Ev)(e:Ev):eC (l++[e])=eC l++[(e,fc (eC l) e)]:=by
 unfold eC;rw[length_append,List.length_singleton,range_succ,List.map_append]
 have b:(List.range l.length).map (fun k=>(dd (l++[e]) k,clk (l++[e]) k))=(List.range l.length).map fun k=>(dd l k,clk l k):=by
  apply List.map_congr_left;intro k a;rw[List.mem_range]at a;have:clk (l++[e]) k=clk l k:=funext fun t=>Mp a t
  rw[this,jw a]
 have c:dd (l++[e]) l.length=e:=by unfold dd;simp[List.getD]
 have d:clk (l++[e]) l.length=fc ((List.range l.length).map fun k=>(dd l k,clk l k)) e:=by
  funext t
  rw[Ay,c,Cy (l++[e]) e t,b];rfl
 rw[b,List.map_singleton,c,d]
def grow(ps:List (Ev × (Int->Nat))):List Ev->List (Ev × (Int->Nat))
 | []=>ps
 |e::y=>grow (ps++[(e,fc ps e)]) y
theorem rf(ps:List (Ev × (Int->Nat)))(e:Ev)(y:List Ev):grow ps (e::y)=grow (ps++[(e,fc ps e)]) y:=rfl
theorem xv(y:List Ev):∀x:List Ev,eC (x++y)=grow (eC x) y:=by
 induction y with
 |nil=>intro x;rw[append_nil];rfl
 |cons e y a=>
  intro x;rw[show x++e::y=(x++[e])++y by simp,a,xu];rfl
theorem KG(y:List Ev):∀{ps qs:List (Ev × (Int->Nat))},(∀p,p∈ps↔p∈qs)->∃z,grow ps y=ps++z/\grow qs y=qs++z:=by
 induction y with
 |nil=>intro ps qs _;exact⟨[],by simp[grow],by simp[grow]⟩
 |cons e y a=>
  intro ps qs h;have b:=xX h e;obtain⟨z,c,d⟩:=a (ps:=ps++[(e,fc ps e)]) (qs:=qs++[(e,fc ps e)]) (fun p=>by rw[mem_append,mem_append,h]);refine⟨(e,fc ps e)::z,?_,?_⟩
  ·unfold grow
   rw[c];simp
  ·unfold grow
   rw[<-b,d];simp
theorem sw{x y:List Ev}{e f:Ev}(a:dj e f=false):eh (x++e::f::y) (x++f::e::y):=by
 have b:dj f e=false:=by rw[lo];exact a
 have n:e.thread≠f.thread:=by
  intro h;rw[mK h]at a
  cases a
 have d:fc (eC x++[(e,fc (eC x) e)]) f=fc (eC x) f:=by
  funext t
  unfold fc;rw[filter_append];simp[a]
 have g:fc (eC x++[(f,fc (eC x) f)]) e=fc (eC x) e:=by
  funext t
  unfold fc;rw[filter_append];simp[b]
 have i:eC (x++e::f::y)=grow (eC x++[(e,fc (eC x) e),(f,fc (eC x) f)]) y:=by
  rw[xv,rf,rf,d,List.append_assoc];rfl
 have j:eC (x++f::e::y)=grow (eC x++[(f,fc (eC x) f),(e,fc (eC x) e)]) y:=by
  rw[xv,rf,rf,g,List.append_assoc];rfl
 obtain⟨z,k,l⟩:=KG y (ps:=eC x++[(e,fc (eC x) e),(f,fc (eC x) f)]) (qs:=eC x++[(f,fc (eC x) f),(e,fc (eC x) e)]) (fun p=>by simp only[mem_append,List.mem_cons,List.not_mem_nil,or_false];constructor <;> (rintro (h|h|h) <;> simp[h]))
 intro t;unfold gK;rw[i,j,k,l];simp only[filter_append]
 congr 2
 by_cases c:e.thread=t
 ·have m:f.thread≠t:=by omega
  simp[c,m]
 ·simp[List.filter_cons,c]
theorem Lb(q:Nat->Bool){n i:Nat}(d:i<n)(b:q i=true):((List.range n).filter q)[cnt q i]?=some i:=by
 induction n with
 |zero=>omega
 |succ n c=>
  rw[range_succ,filter_append]
  by_cases h:i<n
  ·have a:=c h
   rw[List.getElem?_append_left (List.getElem?_eq_some_iff.1 a).1];exact a
  ·obtain rfl:i=n:=by omega
   have e:cnt q i=((List.range i).filter q).length:=rfl;rw[e,List.getElem?_append_right (le_refl _)];simp[b]
theorem La(q:Nat->Bool){n i j:Nat}(h:((List.range n).filter q)[j]?=some i):i<n/\q i=true/\cnt q i=j:=by
 induction n with
 |zero=>simp at h
 |succ n d=>
  rw[range_succ,filter_append]at h
  by_cases f:j<((List.range n).filter q).length
  ·rw[List.getElem?_append_left f]at h
   obtain⟨c,a,g⟩:=d h;exact⟨by omega,a,g⟩
  ·rw[List.getElem?_append_right (by omega)]at h
   cases b:q n
   ·simp[b]at h
   ·have e:[n].filter q=[n]:=by simp[b]
    rw[e]at h;obtain⟨c,a⟩:=List.getElem?_eq_some_iff.1 h;simp at c a;subst a;refine⟨by omega,b,?_⟩;unfold cnt;omega
theorem sV(l:List Ev)(t:Int):gK l t=((List.range l.length).filter (dq l t)).map fun k=>(dd l k,clk l k):=by
 unfold gK eC;rw[List.filter_map];rfl
theorem jG(l:List Ev)(t:Int):(gK l t).length=cnt (dq l t) l.length:=by rw[sV,List.length_map];rfl
theorem nw{l:List Ev}{t:Int}{i:Nat}(a:i<l.length)(b:dq l t i=true):(gK l t)[cnt (dq l t) i]?=some (dd l i,clk l i):=by
 rw[sV,List.getElem?_map,Lb _ a b];rfl
theorem oP{l:List Ev}{t:Int}{j:Nat}{p:Ev × (Int->Nat)}(h:(gK l t)[j]?=some p):∃i,i<l.length/\dq l t i=true/\cnt (dq l t) i=j/\p=(dd l i,clk l i):=by
 rw[sV,List.getElem?_map]at h;obtain⟨i,a,b⟩:=Option.map_eq_some_iff.1 h;obtain⟨c,d,e⟩:=La _ a;exact⟨i,c,d,e,b.symm⟩
def At(l:List Ev)(t:Int)(m i:Nat):Prop:=i<l.length/\dq l t i=true/\cnt (dq l t) i=m
theorem At.uniq{l:List Ev}{t:Int}{m i j:Nat}(h:At l t m i)(k:At l t m j):i=j:=by
 rcases Nat.lt_trichotomy i j with a|b|a
 ·have:=l3 _ a h.2.1
  have:=h.2.2;have:=k.2.2;omega
 ·exact b
 ·have:=l3 _ a k.2.1
  have:=h.2.2;have:=k.2.2;omega
theorem A'{l:List Ev}{t:Int}{m:Nat}(h:m<cnt (dq l t) l.length):∃i,At l t m i:=by
 rw[<-jG]at h;obtain⟨i,a,b,c,_⟩:=oP (List.getElem?_eq_getElem h);exact⟨i,a,b,c⟩
theorem At.lt{l:List Ev}{t:Int}{m i:Nat}(h:At l t m i):m<cnt (dq l t) l.length:=by
 have:=l3 _ h.1 h.2.1;rw[h.2.2]at this;exact this
theorem j5{l:List Ev}{t:Int}{i:Nat}:dq l t i=true↔(dd l i).thread=t:=by unfold dq;rw[decide_eq_true_eq]
theorem oT(l:List Ev)(i:Nat):num l i=cnt (dq l (dd l i).thread) i+1:=by unfold num;rw[gY,if_pos (j5.2 rfl)]
theorem uI{l:List Ev}{i m:Nat}{u:Int}(e:i<l.length):m<clk l i u↔∃k,At l u m k/\hb l k i=true:=by
 constructor
 ·intro h
  have c:=uH l i u;have f:=lp (dq l u) (show i+1<=l.length by omega);obtain⟨k,a⟩:=A' (l:=l) (t:=u) (m:=m) (by omega);refine⟨k,a,lS.2 ?_⟩;have b:=j5.1 a.2.1;rw[oT,b,a.2.2];omega
 ·rintro⟨k,a,d⟩
  have c:=lS.1 d;have b:=j5.1 a.2.1;rw[oT,b,a.2.2]at c;omega
theorem eh.cnt{a b:List Ev}(h:eh a b)(t:Int):cnt (dq a t) a.length=cnt (dq b t) b.length:=by rw[<-jG,<-jG,h t]
theorem eh.at{a b:List Ev}(h:eh a b){i:Nat}(e:i<a.length):∃k,At b (dd a i).thread (Proofs.YtjfmmnhcddckaaaGreat.cnt (dq a (dd a i).thread) i) k/\dd b k=dd a i/\clk b k=clk a i:=by
 have d:=nw e (j5.2 rfl);rw[h]at d;obtain⟨k,f,g,j,c⟩:=oP d;injection c with c h6;exact⟨k,⟨f,g,j⟩,c.symm,h6.symm⟩
theorem oO(l:List Ev)(e:Ev)(t:Int):gK (l++[e]) t=gK l t++if e.thread=t then [(e,fc (eC l) e)]else []:=by
 unfold gK;rw[xu,filter_append]
 congr 1
 by_cases h:e.thread=t <;> simp[h]
theorem qK{l:List Ev}{p:Ev × (Int->Nat)}:p∈eC l↔p∈gK l p.1.thread:=by
 unfold gK;rw[mem_filter];simp
theorem wq(a b:List Ev)(e:Ev):eh (a++[e]) (b++[e])↔eh a b:=by
 constructor
 ·intro h t
  have c:=h t;rw[oO,oO]at c
  by_cases d:e.thread=t
  ·rw[if_pos d,if_pos d]at c
   exact(List.append_inj' c rfl).1
  ·rw[if_neg d,if_neg d,append_nil,append_nil]at c
   exact c
 ·intro h t
  have f:fc (eC a) e=fc (eC b) e:=xX (fun p=>by rw[qK,qK,h]) e;rw[oO,oO,h t,f]
def pZ{T:Type}(F:List Ev->T):Prop:=∀(x y:List Ev) (e f:Ev),dj e f=false->F (x++e::f::y)=F (x++f::e::y)
theorem pZ.move{T:Type}{F:List Ev->T}(h:pZ F)(e:Ev)(y:List Ev):∀x:List Ev,(∀f∈y,dj e f=false)->F (x++e::y)=F (x++y++[e]):=by
 induction y with
 |nil=>intro x _;rw[append_nil]
 |cons f y b=>
  intro x a;rw[h x y e f (a f (by simp)),show x++f::e::y=(x++[f])++e::y by simp,b (x++[f]) (fun g c=>a g (by simp[c]))]
  congr 1
  simp
theorem sy(e:Ev)(y:List Ev):∀x:List Ev,(∀f∈y,dj e f=false)->eh (x++e::y) (x++y++[e]):=by
 induction y with
 |nil=>intro x _;rw[append_nil];exact eh.refl _
 |cons f y c=>
  intro x a;have d:eh (x++e::f::y) (x++f::e::y):=sw (a f (by simp));have b:=c (x++[f]) (fun g h=>a g (by simp[h]));rw[show(x++[f])++e::y=x++f::e::y by simp,show x++[f]++y++[e]=x++f::y++[e] by simp]at b;exact d.trans b
theorem Ig{l:List Ev}{p:Ev × (Int->Nat)}(h:p∈eC l):∃i,i<l.length/\p=(dd l i,clk l i):=by
 unfold eC at h;obtain⟨i,a,e⟩:=List.mem_map.1 h;exact⟨i,List.mem_range.1 a,e.symm⟩
theorem FS{l:List Ev}{i:Nat}(h:i<l.length):(dd l i,clk l i)∈eC l:=List.mem_map.2 ⟨i,List.mem_range.2 h,rfl⟩
theorem wh{l:List Ev}{k:Nat}(h:k<l.length):l=l.take k++dd l k::l.drop (k+1):=by
 conv=>lhs;rw[<-List.take_append_drop k l,List.drop_eq_getElem_cons h]
 rw[gt h]
theorem DN{a b:List Ev}{e:Ev}(h:eh (a++[e]) b):∃x y,b=x++e::y/\∀f∈y,dj e f=false:=by
 have u:gK (a++[e]) e.thread=gK a e.thread++[(e,fc (eC a) e)]:=by rw[oO,if_pos rfl]
 have v:=h e.thread;have z:=congrArg List.length v
 have A:cnt (dq (a++[e]) e.thread) (a++[e]).length=cnt (dq a e.thread) a.length+1:=by
  rw[<-jG,u,length_append,jG];rfl
 rw[jG,jG,A]at z
 have B:(gK b e.thread)[cnt (dq a e.thread) a.length]?=some (e,fc (eC a) e):=by
  rw[<-v,u,List.getElem?_append_right (by rw[jG];exact le_refl _),jG,Nat.sub_self];rfl
 obtain⟨k,C,n,o,c⟩:=oP B;injection c with c _;refine⟨b.take k,b.drop (k+1),by rw[c];exact wh C,fun f D=>?_⟩
 cases E:dj e f
 ·rfl
 ·exfalso
  obtain⟨m,F,p⟩:=List.mem_iff_getElem.1 D;rw[List.length_drop]at F;have d:k+1+m<b.length:=by omega
  have q:dd b (k+1+m)=f:=by rw[gt d,<-p,List.getElem_drop]
  have r:hb b k (k+1+m)=true:=qZ (by omega) (by rw[<-c,q];exact E);have w:=lS.1 r;rw[oT,<-c,o]at w;have l:(dd b (k+1+m),clk b (k+1+m))∈eC (a++[e]):=by rw[qK,h,<-qK];exact FS d
  obtain⟨i,G,s⟩:=Ig l;injection s with hie1 hie2;rw[hie2]at w;have I:=uH (a++[e]) i e.thread;rw[length_append,List.length_singleton]at G;rcases lt_or_eq_of_le (show i<=a.length by omega)with g|g
  ·have J:=lp (dq (a++[e]) e.thread) (show i+1<=a.length by omega)
   have L:cnt (dq (a++[e]) e.thread) a.length=cnt (dq a e.thread) a.length:=mM _ fun j d=>by unfold dq;rw[jw d]
   omega
  ·have t:dd (a++[e]) i=e:=by rw[g];unfold dd;simp[List.getD]
   rw[t]at hie1;have H:dq b e.thread (k+1+m)=true:=j5.2 (by rw[hie1]);have M:=(show At b e.thread _ _ from⟨d,H,rfl⟩).lt;have N:=l3 (dq b e.thread) (show k<k+1+m by omega) n;omega
theorem FR(t:Int):gK [] t=[]:=rfl
theorem oE{T:Type}(n:Nat):∀(a b:List Ev) (F:List Ev->T),a.length=n->eh a b->pZ F->F a=F b:=by
 induction n with
 |zero=>
  intro a b F f h _;obtain rfl:=List.eq_nil_of_length_eq_zero f;rcases b with _|⟨e,b⟩
  ·rfl
  ·exfalso
   have j:=nw (l:=e::b) (t:=e.thread) (i:=0) (by simp) (j5.2 rfl);rw[<-h,FR]at j;simp at j
 |succ n m=>
  intro a b F f h hF;have d:a≠[]:=by rintro rfl;simp at f
  obtain⟨c,e,rfl⟩:∃c e,a=c++[e]:=⟨a.dropLast,a.getLast d,(List.dropLast_concat_getLast d).symm⟩
  obtain⟨x,y,rfl,k⟩:=DN h;rw[hF.move e y x k];have o:eh (c++[e]) (x++y++[e]):=h.trans (sy e y x k);have r:=(wq c (x++y) e).1 o;refine m c (x++y) (fun l=>F (l++[e])) (by simpa using f) r (fun p q u v g=>?_);have:=hF p (q++[e]) u v g;simpa using this
theorem Ao{s:St}{a b:Int}{i j:Ins}(c:dj (s.ev a i) (s.ev b j)=false)(h1:i.kind=2)(h2:j.kind=1∨j.kind=2):i.x≠j.x:=by
 intro hx;have e:s.ev a i=⟨a,3,i.x,false⟩:=by simp[St.ev,h1]
 rw[e]at c;rcases h2 with h2|h2
 ·have d:s.ev b j=⟨b,2,j.x,false⟩:=by simp[St.ev,h2]
  rw[d]at c;simp[dj,hx]at c
 ·have d:s.ev b j=⟨b,3,j.x,false⟩:=by simp[St.ev,h2]
  rw[d]at c;simp[dj,hx]at c
theorem Ad{s:St}{a:Int}{i:Ins}(h:i.kind=5∨(i.kind=6/\s.who i.x=a)):(s.ev a i).obj=i.x/\((s.ev a i).kind=4∨(s.ev a i).kind=5):=by
 rcases h with h|⟨h,b⟩
 ·simp[St.ev,h]
 ·simp[St.ev,h,b]
theorem rA{s:St}{a b:Int}{i j:Ins}(c:dj (s.ev a i) (s.ev b j)=false)(h1:i.kind=5∨(i.kind=6/\s.who i.x=a))(h2:j.kind=5∨(j.kind=6/\s.who j.x=b)):i.x≠j.x:=by
 intro hx;obtain⟨d,e⟩:=Ad h1;obtain⟨f,g⟩:=Ad h2;unfold dj at c;rw[decide_eq_false_iff_not]at c;exact c (.inr ⟨by rw[d,f,hx],.inr ⟨e,g⟩⟩)
theorem St.Ok.hold_do{F:Nat}{s:St}(h:s.Ok F){a b:Int}{i:Ins}(c:s.ins a=some i)(f:s.may a=true)(g:a≠b)(hb:0<=b)(x:Int):((s.do_ a i).who x=b)↔(s.who x=b):=by
 rw[h.who_do c x]
 split
 ·rename_i d
  have:=St.may_free c f d.1;rw[St.who_eq d.2];omega
 split
 ·rename_i e
  rw[St.who_eq e.2.2,e.2.1];omega
 ·exact Iff.rfl
theorem St.ins_do{s:St}{a b:Int}{i:Ins}(f:s.ins a=some i)(hb:s.has b)(j:a≠b):(s.do_ a i).ins b=s.ins b:=by
 obtain⟨d,_,_⟩:=St.ins_has f;have g:(s.do_ a i).ts.length=s.ts.length:=by simp[St.do_]
 have e:(s.do_ a i).has b↔s.has b:=by unfold St.has;rw[g]
 have c:(s.do_ a i).th b.toNat=s.th b.toNat:=by
  rw[St.th_do s a i d,if_neg];unfold St.has at d hb;omega
 have h:(s.do_ a i).code b.toNat=s.code b.toNat:=rfl;unfold St.ins;rw[c,h]
 by_cases hx:s.has b
 ·simp[hx,e]
 ·simp[hx,e]
theorem St.Ok.thr_do{F:Nat}{s:St}(h:s.Ok F){a b:Int}{i j:Ins}(e:s.ins a=some i)(f:s.ins b=some j)(o:a≠b)(l:dj (s.ev a i) (s.ev b j)=false):(s.do_ a i).thr b j=s.thr b j:=by
 obtain⟨g,_,_⟩:=St.ins_has e;obtain⟨hb,_,_⟩:=St.ins_has f
 have d:(s.do_ a i).th b.toNat=s.th b.toNat:=by
  rw[St.th_do s a i g,if_neg];unfold St.has at g hb;omega
 have m:(s.do_ a i).reg b j=s.reg b j:=by unfold St.reg;rw[d]
 have n:j.kind=1->(s.do_ a i).var j.x=s.var j.x:=by
  intro c;rw[h.var_do e j.x,if_neg];rintro⟨k,hx⟩;have:=Ao l k (.inl c);have:=(h.obj e).1 (.inr k);have:=(h.obj f).1 (.inl c);omega
 unfold St.thr;rw[d,m]
 by_cases c:j.kind=1
 ·rw[n c]
 ·simp[c]
theorem St.Ok.may_do{F:Nat}{s:St}(h:s.Ok F){a b:Int}{i j:Ins}(d:s.ins a=some i)(c:s.ins b=some j)(f:s.may b=true)(g:a≠b)(k:dj (s.ev a i) (s.ev b j)=false):(s.do_ a i).may b=true:=by
 obtain⟨hb,_,_⟩:=St.ins_has c;have l:=St.ins_do d hb g;unfold St.may;rw[l,c];simp only[decide_eq_true_eq];intro e;have m:=St.may_free c f e;rw[h.who_do d]
 split
 ·rename_i hx
  have:=rA k (.inl hx.1) (.inl e);have:=(h.obj d).2.1 (.inl hx.1);have:=(h.obj c).2.1 (.inl e);omega
 split
 ·omega
 ·exact m
theorem St.Ok.do_swap{F:Nat}{s:St}(h:s.Ok F){a b:Int}{i j:Ins}(g:s.ins a=some i)(k:s.ins b=some j)(r:s.may a=true)(t:s.may b=true)(c:a≠b)
  (l:dj (s.ev a i) (s.ev b j)=false):(s.do_ a i).do_ b j=(s.do_ b j).do_ a i:=by
 obtain⟨n,_,_⟩:=St.ins_has g;obtain⟨hb,_,_⟩:=St.ins_has k;have u:dj (s.ev b j) (s.ev a i)=false:=by rw[lo];exact l
 have o:a.toNat≠b.toNat:=by unfold St.has at n hb;omega
 have t1:=h.thr_do g k c l;have t2:=h.thr_do k g (Ne.symm c) u;have D:=h.hold_do g r c (by unfold St.has at hb;exact hb.1) j.x;have E:=h.hold_do k t (Ne.symm c) (by unfold St.has at n;exact n.1) i.x
 have G:(s.do_ a i).reg b j=s.reg b j:=by
  unfold St.reg;rw[St.th_do s a i n,if_neg (Ne.symm o)]
 have H:(s.do_ b j).reg a i=s.reg a i:=by
  unfold St.reg;rw[St.th_do s b j hb,if_neg o]
 obtain⟨w,y,_⟩:=h.obj g;obtain⟨A,B,_⟩:=h.obj k
 have Q:((s.do_ a i).do_ b j).ts=((s.do_ b j).do_ a i).ts:=by
  show(s.ts.set a.toNat (s.thr a i)).set b.toNat ((s.do_ a i).thr b j)=(s.ts.set b.toNat (s.thr b j)).set a.toNat ((s.do_ b j).thr a i);rw[t1,t2,set_comm _ _ o]
 have R:((s.do_ a i).do_ b j).v=((s.do_ b j).do_ a i).v:=by
  show(if j.kind=2 then (if i.kind=2 then s.v.set i.x.toNat (s.reg a i)else s.v).set j.x.toNat ((s.do_ a i).reg b j)else if i.kind=2 then s.v.set i.x.toNat (s.reg a i)else s.v) =
   (if i.kind=2 then (if j.kind=2 then s.v.set j.x.toNat (s.reg b j)else s.v).set i.x.toNat ((s.do_ b j).reg a i)else if j.kind=2 then s.v.set j.x.toNat (s.reg b j)else s.v)
  rw[G,H]
  by_cases f:i.kind=2
  ·by_cases d:j.kind=2
   ·have C:=Ao l f (.inr d)
    have:=w (.inr f);have:=A (.inr d);simp only[f,d,if_true];exact set_comm _ _ (by omega)
   ·simp[f,d]
  ·by_cases d:j.kind=2
   ·simp[f,d]
   ·simp[f,d]
 have S:((s.do_ a i).do_ b j).m=((s.do_ b j).do_ a i).m:=by
  show(if j.kind=5 then (s.do_ a i).m.set j.x.toNat b else if j.kind=6/\(s.do_ a i).who j.x=b then (s.do_ a i).m.set j.x.toNat (-1)else (s.do_ a i).m) =
   (if i.kind=5 then (s.do_ b j).m.set i.x.toNat a else if i.kind=6/\(s.do_ b j).who i.x=a then (s.do_ b j).m.set i.x.toNat (-1)else (s.do_ b j).m)
  have I:(s.do_ a i).m=if i.kind=5 then s.m.set i.x.toNat a else if i.kind=6/\s.who i.x=a then s.m.set i.x.toNat (-1)else s.m:=rfl
  have J:(s.do_ b j).m=if j.kind=5 then s.m.set j.x.toNat b else if j.kind=6/\s.who j.x=b then s.m.set j.x.toNat (-1)else s.m:=rfl
  simp only[D,E];rw[I,J]
  by_cases p:i.kind=5∨(i.kind=6/\s.who i.x=a)
  ·by_cases q:j.kind=5∨(j.kind=6/\s.who j.x=b)
   ·have C:=rA l p q
    have:=y (by omega);have:=B (by omega);have hx:i.x.toNat≠j.x.toNat:=by omega
    rcases p with p|p
    ·rcases q with q|q
     ·simp only[p,q,if_true]
      exact set_comm _ _ hx
     ·simp[p,q]
      exact set_comm _ _ hx
    ·rcases q with q|q
     ·simp[p,q]
      exact set_comm _ _ hx
     ·simp[p,q]
      exact set_comm _ _ hx
   ·have L:¬j.kind=5:=fun e=>q (.inl e)
    have M:¬(j.kind=6/\s.who j.x=b):=fun e=>q (.inr e)
    simp only[L,M,if_false]
  ·have N:¬i.kind=5:=fun e=>p (.inl e)
   have O:¬(i.kind=6/\s.who i.x=a):=fun e=>p (.inr e)
   simp only[N,O,if_false]
 have T:((s.do_ a i).do_ b j).p=((s.do_ b j).do_ a i).p:=rfl;generalize (s.do_ a i).do_ b j=z at *;generalize (s.do_ b j).do_ a i=P at *
 cases z
 cases P
 simp_all
theorem St.step_may{s:St}{t:Int}{i:Ins}(a:s.ins t=some i)(b:s.may t=true):s.step t=(0,s.ev t i,s.do_ t i):=by
 obtain⟨c,_,_⟩:=St.ins_has a;unfold St.step;rw[if_pos c,a];simp[b]
theorem St.Ok.ev_do{F:Nat}{s:St}(h:s.Ok F){a b:Int}{i j:Ins}(f:s.ins a=some i)(g:s.ins b=some j)(e:s.may a=true)(c:a≠b):(s.do_ a i).ev b j=s.ev b j:=by
 obtain⟨hb,_,_⟩:=St.ins_has g;have d:=h.next_do f e (Ne.symm c);unfold St.next at d;rw[St.ins_do f hb c,g]at d;simpa using d
theorem St.Ok.swap{F:Nat}{s:St}(h:s.Ok F){a b:Int}{x y:Ev}(hx:s.next a=some x)(o:s.next b=some y)(k:s.may a=true)(l:s.may b=true)(e:a≠b)(m:dj x y=false):
  ∃c d z,s.step a=(0,x,c)/\c.step b=(0,y,z)/\s.step b=(0,y,d)/\d.step a=(0,x,z)/\c.Ok F/\d.Ok F/\z.Ok F:=by
 unfold St.next at hx o;obtain⟨i,f,rfl⟩:=Option.map_eq_some_iff.1 hx;obtain⟨j,g,rfl⟩:=Option.map_eq_some_iff.1 o;have n:dj (s.ev b j) (s.ev a i)=false:=by rw[lo];exact m
 obtain⟨q,_,_⟩:=St.ins_has f;obtain⟨hb,_,_⟩:=St.ins_has g;have p:=(St.ins_do f hb e).trans g;have r:=(St.ins_do g q (Ne.symm e)).trans f;refine⟨s.do_ a i,s.do_ b j,(s.do_ a i).do_ b j,St.step_may f k,?_,St.step_may g l,?_,h.do_ok f,h.do_ok g,(h.do_ok f).do_ok p⟩
 ·rw[St.step_may p (h.may_do f g l e m),h.ev_do f g k e]
 ·rw[St.step_may r (h.may_do g f k (Ne.symm e) n),h.ev_do g f l (Ne.symm e),h.do_swap f g k l e m]
theorem St.ev_thread(s:St)(t:Int)(i:Ins):(s.ev t i).thread=t:=by
 unfold St.ev
 repeat' split
 all_goals rfl
theorem St.step_ok0{s:St}{t:Int}{e:Ev}{s1:St}(h:s.step t=(0,e,s1)):∃i,s.ins t=some i/\s.may t=true/\e=s.ev t i/\s1=s.do_ t i:=by
 rcases s.step_cases t with ⟨i,b,d,a⟩|⟨c,f,a⟩
 ·rw[a]at h
  injection h with _ h;injection h with h1 h2;exact⟨i,b,d,h1.symm,h2.symm⟩
 ·rw[a]at h
  injection h with h _;omega
theorem St.Ok.swap_back{F:Nat}{s:St}(h:s.Ok F){u t:Int}{e x:Ev}{s1 E:St}(h1:s.step u=(0,e,s1))(h2:s1.step t=(0,x,E))(f:u≠t)(o:dj e x=false):
  ∃d,s.step t=(0,x,d)/\d.step u=(0,e,E)/\d.Ok F:=by
 obtain⟨i,g,r,rfl,rfl⟩:=St.step_ok0 h1;obtain⟨j,v,w,rfl,rfl⟩:=St.step_ok0 h2;have I:=h.next_do g r (Ne.symm f);obtain⟨b,_,_⟩:=St.ins_has v;have G:(s.do_ u i).ts.length=s.ts.length:=by simp[St.do_]
 have k:s.has t:=by unfold St.has at b ⊢;rw[G]at b;exact b
 have a:s.ins t=some j:=by rw[<-St.ins_do g k f];exact v
 have y:(s.do_ u i).ev t j=s.ev t j:=h.ev_do g a r f;rw[y]at o ⊢
 have A:s.may t=true:=by
  unfold St.may;rw[a];simp only[decide_eq_true_eq];intro l;have p:=St.may_free v w l;rw[h.who_do g]at p
  split at p
  ·rename_i hx
   have:=rA o (.inl hx.1) (.inl l);have:=(h.obj g).2.1 (.inl hx.1);have:=(h.obj a).2.1 (.inl l);omega
  split at p
  ·rename_i hx
   have:=rA o (.inr ⟨hx.1,hx.2.1⟩) (.inl l);have:=(h.obj g).2.1 (.inr hx.1);have:=(h.obj a).2.1 (.inl l);omega
  ·exact p
 have hx:s.next u=some (s.ev u i):=by unfold St.next;rw[g];rfl
 have H:s.next t=some (s.ev t j):=by unfold St.next;rw[a];rfl
 obtain⟨c,d,z,m,n,B,C,_,D,_⟩:=h.swap hx H r A f o;refine⟨d,B,?_,D⟩;rw[h1]at m;injection m with _ q;injection q with _ q;subst q;rw[h2]at n;injection n with _ q;injection q with _ q;rw[C,q]
def Bo:St->List Int->List Ev->St->Prop
 |s,[],l,z=>l=[]/\z=s
 |s,t::row,l,z=>∃e a b,s.step t=(0,e,a)/\Bo a row b z/\l=e::b
def Ex:St->List Ev->St->Prop
 |s,[],z=>z=s
 |s,e::l,z=>∃a,s.step e.thread=(0,e,a)/\Ex a l z
theorem ii{a b:List Ev}:∀{s z:St},Ex s (a++b) z↔∃c,Ex s a c/\Ex c b z:=by
 induction a with
 |nil=>
  intro s z
  constructor
  ·intro h;exact⟨s,rfl,h⟩
  ·rintro⟨c,rfl,h⟩;exact h
 |cons e a j=>
  intro s z
  constructor
  ·rintro⟨c,d,k⟩
   obtain⟨f,g,i⟩:=j.1 k;exact⟨f,⟨c,d,g⟩,i⟩
  ·rintro⟨f,⟨c,d,g⟩,i⟩
   exact⟨c,d,j.2 ⟨f,g,i⟩⟩
theorem ig{l:List Ev}:∀{s z b:St},Ex s l z->Ex s l b->z=b:=by
 induction l with
 |nil=>intro s z b h c;rw[h,c]
 |cons e l d=>
  rintro s z b⟨j,f,g⟩⟨k,a,i⟩;rw[f]at a;injection a with _ a;injection a with _ a;subst a;exact d g i
theorem Ex.ok{F:Nat}{l:List Ev}:∀{s z:St},Ex s l z->s.Ok F->z.Ok F:=by
 induction l with
 |nil=>intro s z h a;rw[h];exact a
 |cons e l b=>
  rintro s z⟨f,c,d⟩ a;have:=a.step_ok e.thread;rw[c]at this;exact b d this
theorem hY{s:St}{t:Int}{e:Ev}{s1:St}(h:s.step t=(0,e,s1)):s.next t=some e/\s.may t=true/\e.thread=t:=by
 obtain⟨i,a,b,rfl,rfl⟩:=St.step_ok0 h;exact⟨by unfold St.next;rw[a];rfl,b,St.ev_thread _ _ _⟩
theorem next_step{s:St}{t:Int}{e:Ev}(h:s.next t=some e)(a:s.may t=true):∃b,s.step t=(0,e,b):=by
 unfold St.next at h;obtain⟨i,c,rfl⟩:=Option.map_eq_some_iff.1 h;exact⟨_,St.step_may c a⟩
theorem oU{s:St}{t:Int}{e:Ev}(h:s.next t=some e):e.thread=t:=by
 unfold St.next at h;obtain⟨i,a,rfl⟩:=Option.map_eq_some_iff.1 h;exact St.ev_thread _ _ _
theorem nl{s:St}{t:Int}{e:Ev}{s1:St}(h:s.step t=(0,e,s1)):s1.fuel+1=s.fuel:=by
 obtain⟨i,a,b,rfl,rfl⟩:=St.step_ok0 h;exact St.fuel_do a
theorem pI{e f:Ev}(h:dj e f=false):e.thread≠f.thread:=by
 intro a;rw[mK a]at h
 cases h
theorem rz{e f:Ev}(h:dj e f=false):dj f e=false:=by rw[lo];exact h
theorem uv{F:Nat}{s z:St}{e f:Ev}{y:List Ev}(g:s.Ok F)(c:dj e f=false)(h:Ex s (e::f::y) z):Ex s (f::e::y) z:=by
 obtain⟨m,i,j,k,l⟩:=h;obtain⟨d,a,b,_⟩:=g.swap_back i k (pI c) c;exact⟨d,a,j,b,l⟩
theorem Lo{F:Nat}{s:St}(d:s.Ok F)(z:St):pZ (fun l=>Ex s l z):=by
 intro x y e f g;dsimp only;apply propext;rw[ii,ii]
 constructor
 ·rintro⟨b,a,c⟩;exact⟨b,a,uv (a.ok d) g c⟩
 ·rintro⟨b,a,c⟩;exact⟨b,a,uv (a.ok d) (rz g) c⟩
theorem rl{F:Nat}{s z:St}{a b:List Ev}(c:s.Ok F)(h:eh a b):Ex s a z↔Ex s b z:=by
 have:=oE _ a b (fun l=>Ex s l z) rfl h (Lo c z);exact iff_of_eq this
theorem DM{a b:List Ev}(h:eh a b):a.length=b.length:=oE _ a b List.length rfl h (fun x y e f _=>by simp)
theorem sz(e:Ev){a b:List Ev}(h:eh a b):eh (e::a) (e::b):=by
 intro t;exact oE _ a b (fun l=>gK (e::l) t) rfl h (fun x y u v c=>sw (x:=e::x) c t)
theorem wu{a b:List Ev}(h:eh a b)(y:List Ev):eh (a++y) (b++y):=by
 intro t
 exact oE _ a b (fun l=>gK (l++y) t) rfl h (fun x z u v c=>by
  dsimp only;rw[show(x++u::v::z)++y=x++u::v::(z++y) by simp,show(x++v::u::z)++y=x++v::u::(z++y) by simp]
  exact sw c t)
theorem wv{a b:List Ev}{p:Ev}(h:∀x∈a,dj p x=false):eh (a++p::b) (p::(a++b)):=by
 have c:=wu (sy p a [] h) b;rw[List.nil_append,List.nil_append]at c;rw[show a++[p]++b=a++p::b by simp,show p::a++b=p::(a++b) by simp]at c;exact c.symm
theorem rp{F:Nat}{l:List Ev}{u:Int}:∀{s z:St},s.Ok F->Ex s l z->(∀x∈l,x.thread≠u)->z.next u=s.next u:=by
 induction l with
 |nil=>intro s z _ h _;rw[h]
 |cons e l g=>
  rintro s z c⟨k,i,j⟩ d;have b:=c.step_ok e.thread;have f:=c.next_step e.thread (u:=u) (Ne.symm (d e (by simp)));rw[i]at b f;rw[g b j (fun x hx=>d x (by simp[hx]))];exact f
theorem Aa{F:Nat}{t:Int}{p:Ev}{w:List Ev}:∀{s z:St},s.Ok F->s.next t=some p->s.may t=true->Ex s w z->(∀x∈w,dj p x=false) ->
  z.next t=some p/\z.may t=true/\∃i,Ex s (p::w) i/\Ex s (w++[p]) i:=by
 induction w with
 |nil=>
  intro s z _ e j h _;obtain rfl:z=s:=h;obtain⟨f,a⟩:=next_step e j;have k:=oU e;subst k;exact⟨e,j,f,⟨f,a,rfl⟩,⟨f,a,rfl⟩⟩
 |cons x w r=>
  rintro s z o e j⟨f,a,u⟩ q;have k:=oU e;subst k;have b:=q x (by simp);obtain⟨l,m,_⟩:=hY a;obtain⟨c,d,I,g,v,J,L,n,_,_⟩:=o.swap l e m j (pI (rz b)) (rz b);rw[a]at g;injection g with _ g;injection g with _ g;subst g;obtain⟨A,B,_⟩:=hY v;obtain⟨C,D,i,E,G⟩:=r n A B u (fun y H=>q y (by simp[H]));exact⟨C,D,i,uv o (rz b) ⟨f,a,E⟩,⟨f,a,G⟩⟩
def od(t:Int)(w:List Ev):Prop:=∃a p b,w=a++p::b/\p.thread=t/\∀x∈a,dj p x=false
theorem kH(s a:List Ev)(i:Nat):dd (s++a) (s.length+i)=dd a i:=by
 unfold dd;simp only[List.getD];rw[List.getElem?_append_right (by omega),Nat.add_sub_cancel_left]
theorem ug(s a:List Ev){j:Nat}:∀{i:Nat},hb (s++a) (s.length+i) (s.length+j)=true↔hb a i j=true:=by
 induction j using Nat.strongRecOn with
 |_ j d=>
  intro i;rw[j8,j8]
  constructor
  ·rintro (h|⟨m,e,b,h⟩)
   ·exact .inl (by omega)
   ·have f:=qY h
    obtain⟨c,rfl⟩:∃c,m=s.length+c:=⟨m-s.length,by omega⟩
    rw[kH,kH]at b;exact .inr ⟨c,by omega,b,(d c (by omega)).1 h⟩
  ·rintro (h|⟨m,e,b,h⟩)
   ·exact .inl (by omega)
   ·refine .inr ⟨s.length+m,by omega,?_,(d m e).2 h⟩
    rw[kH,kH];exact b
theorem Kq{p:Ev}{w y:List Ev}(h:∀x∈w,dj p x=false){m:Nat}:m<w.length->hb (p::(w++y)) 0 (m+1)=false:=by
 induction m using Nat.strongRecOn with
 |_ m d=>
  intro a
  cases e:hb (p::(w++y)) 0 (m+1)
  ·rfl
  ·exfalso
   rcases (j8 _ _ _).1 e with j|⟨i,k,b,c⟩
   ·omega
   ·rcases i with _|i
    ·have f:dd (p::(w++y)) 0=p:=rfl
     have g:dd (p::(w++y)) (m+1)=dd w m:=by
      have:dd (p::(w++y)) (m+1)=dd (w++y) m:=rfl;rw[this,jw a]
     rw[f,g,h _ (Ly a)]at b
     cases b
    ·rw[d i (by omega) (by omega)]at c
     cases c
def dW(n:Nat):List Nat:=(List.range 8).filter fun t=>n.testBit t
def l5(nx:Int->Option Ev)(asl ear:Nat)(t:Int)(u:Nat):Bool:=match nx t with
 |none=>false
 |some e=>match nx (u:Int)with
  |none=>false
  |some x=>decide ((u:Int)≠t)&&(asl.testBit u||ear.testBit u) && !dj x e
def mN(nx:Int->Option Ev)(asl ear:Nat)(t:Int)(k:Nat):List Nat:=(List.range k).filter (l5 nx asl ear t)
def uM(s:St)(asl ear:Nat)(t:Int)(u:Nat):Bool:=l5 s.next asl ear t u
theorem MA{s:St}{asl ear:Nat}{t:Int}{u:Nat}:uM s asl ear t u=true↔∃e x,s.next t=some e/\s.next (u:Int)=some x/\(u:Int)≠t/\(asl.testBit u||ear.testBit u)=true/\dj x e=false:=by
 unfold uM l5
 cases d:s.next t with
 |none=>simp
 |some e=>
  cases f:s.next (u:Int)with
  |none=>simp
  |some x=>
   simp only[and_eq_true,decide_eq_true_eq,Bool.not_eq_true',Option.some.injEq]
   constructor
   ·rintro⟨⟨a,b⟩,c⟩
    exact⟨e,x,rfl,rfl,a,b,c⟩
   ·rintro⟨g,h,rfl,rfl,a,b,c⟩
    exact⟨⟨a,b⟩,c⟩
end
section
open Go.RowKit
def ex(l:List Nat):List Int:=l.map fun(i:Nat)=>(i:Int)
theorem j6(l:List Nat):(ex l).length=l.length:=by simp[ex]
theorem qE{w:World}{B A:Nat}{v:Value}{l:List Int}(h:dC w B v l)(f:A<=B):dC w A v l:=by
 obtain⟨d,a|⟨g,b,c,a,i,e⟩⟩:=h
 ·exact⟨d,.inl a⟩
 ·exact⟨d,.inr ⟨g,b,c,a,by omega,e⟩⟩
theorem y9(a b:List Nat):ex (a++b)=ex a++ex b:=by simp[ex]
theorem y8{l:List Nat}{i:Nat}(h:i<l.length):(ex l)[i]'(by rw[j6];exact h)=(l[i]:Int):=by simp[ex]
theorem pj{l:List Nat}{i:Nat}:(i:Int)∈ex l↔i∈l:=by
 unfold ex;rw[List.mem_map]
 constructor
 ·rintro⟨j,a,e⟩
  have:j=i:=by omega
  subst this;exact a
 ·intro h
  exact⟨i,h,rfl⟩
end
section
def ga(t:Int):Nat:=if 0<=t/\t<8 then 2^t.toNat else 0
theorem pR(t:Int):ga t<256:=by
 unfold ga
 split
 ·rename_i h
  have b:t.toNat<8:=by omega
  exact Nat.pow_lt_pow_right (a:=2) (n:=8) (by omega) b
 ·omega
theorem vO{t:Int}{i:Nat}(b:i<8):(ga t).testBit i=decide (t=i):=by
 unfold ga
 split
 ·rename_i h
  rw[Nat.testBit_two_pow]
  by_cases e:t=i
  ·subst e;simp
  ·have a:¬(t.toNat=i):=by omega
   simp[e,a]
 ·rename_i h
  rw[Nat.zero_testBit]
  symm
  simp only[decide_eq_false_iff_not];omega
def dp(n:Nat)(t:Int):Bool:=decide (0<=t/\t<8)&&n.testBit t.toNat
theorem gX(n:Nat){i:Nat}(a:i<8):dp n (i:Int)=n.testBit i:=by
 unfold dp;have h:(0:Int)<=i/\(i:Int)<8:=by omega
 simp[h]
theorem Nj(n:Nat)(t:Int):(n&&&ga t=0)↔dp n t=false:=by
 unfold dp
 by_cases h:0<=t/\t<8
 ·have e:ga t=2^t.toNat:=by unfold ga;rw[if_pos h]
  rw[e];simp only[h,and_self,decide_true,Bool.true_and]
  constructor
  ·intro a
   have:=congrArg (fun m=>Nat.testBit m t.toNat) a;simpa [Nat.testBit_and,Nat.testBit_two_pow]using this
  ·intro a
   apply Nat.eq_of_testBit_eq;intro j;rw[Nat.testBit_and,Nat.testBit_two_pow,Nat.zero_testBit]
   by_cases e:t.toNat=j
   ·subst e;simp[a]
   ·simp[e]
 ·have e:ga t=0:=by unfold ga;rw[if_neg h]
  rw[e];simp[h]
def wt(n:Nat)(t:Int):Nat:=n|||ga t
def wl(n:Nat)(t:Int):Nat:=wo n (ga t)
theorem lM{n m:Nat}(a:n<256)(b:m<256):n|||m<256:=Nat.or_lt_two_pow (n:=8) a b
theorem p5{n:Nat}(a:n<256)(t:Int):wt n t<256:=lM a (pR t)
theorem BQ{n:Nat}(a:n<256)(t:Int):wl n t<256:=jB _ _ a
theorem sh{n:Nat}{t:Int}{i:Nat}(a:i<8):(wt n t).testBit i=(n.testBit i||decide (t=i)):=by
 unfold wt;rw[Nat.testBit_or,vO a]
theorem CP{n:Nat}(a:n<256){t:Int}{i:Nat}(b:i<8):(wl n t).testBit i=(n.testBit i && !decide (t=i)):=by
 unfold wl;rw[jm a (pR t),vO b]
def dn(l:List Int):Nat:=l.foldl wt 0
theorem KY(l:List Int):∀{n:Nat},n<256->l.foldl wt n<256:=by
 induction l with
 |nil=>intro n h;exact h
 |cons t l a=>intro n h;exact a (p5 h t)
theorem i7(l:List Int):dn l<256:=KY l (by omega)
theorem xW(l:List Int)(t:Int):dn (l++[t])=wt (dn l) t:=by
 unfold dn;rw[List.foldl_append];rfl
theorem CQ(l:List Int){i:Nat}(a:i<8):∀n:Nat,(l.foldl wt n).testBit i=(n.testBit i||decide ((i:Int)∈l)):=by
 induction l with
 |nil=>intro n;simp
 |cons t l b=>
  intro n;rw[List.foldl_cons,b,sh a]
  by_cases e:t=(i:Int)
  ·subst e;simp
  ·have c:¬((i:Int)=t):=fun h=>e h.symm
   simp[e,c]
theorem kX(l:List Int){i:Nat}(a:i<8):(dn l).testBit i=decide ((i:Int)∈l):=by
 unfold dn;rw[CQ l a];simp
def jO(n k:Nat):List Nat:=(List.range k).filter fun t=>n.testBit t
theorem MO{n k:Nat}(h:n.testBit k=true):jO n (k+1)=jO n k++[k]:=by
 unfold jO;rw[List.range_succ,List.filter_append];simp[h]
theorem MQ{n k:Nat}(h:n.testBit k=false):jO n (k+1)=jO n k:=by
 unfold jO;rw[List.range_succ,List.filter_append];simp[h]
theorem AX(n k:Nat):(jO n k).length<=k:=by
 unfold jO;refine Nat.le_trans (List.length_filter_le _ _) ?_;rw[List.length_range];exact Nat.le_refl _
theorem mP(n:Nat):(dW n).length<=8:=AX n 8
theorem oY{n i:Nat}:i∈dW n↔i<8/\n.testBit i=true:=by
 unfold dW;rw[List.mem_filter,List.mem_range]
theorem GR{n:Nat}(b:n<256):dn (ex (dW n))=n:=by
 refine wz (i7 _) b fun i a=>?_
 rw[kX _ a]
 have h:((i:Int)∈ex (dW n))↔n.testBit i=true:=by
  rw[pj,oY];exact⟨fun h=>h.2,fun h=>⟨a,h⟩⟩
 cases hb:n.testBit i
 ·rw[decide_eq_false_iff_not,h,hb];exact Bool.false_ne_true
 ·rw[decide_eq_true_eq,h,hb]
end
section
open Go.Proofs.Tryz Go.RowKit
theorem nY(n e:Int)(w:World):Calls prog 131 #[.int .i64 n,.int .i64 e] w fun r a=>r=.returned (.bool (eK n e))/\w=a:=by
 go_enter func131,ntmps131;go_wp2
 all_goals
  go_ret;refine⟨dE ?_,rfl⟩;simp[eK]
  try omega
theorem Et(V M size:Int)(c:0<=size)(b:size<=1000)(t:Value)(i:Ins)(w:World):
  Calls prog 172 #[.agg #[.int .i64 V,.int .i64 M,t],.int .i64 size,mD i] w fun r a=>r=.returned (.bool (gy V M size i))/\Below w.heap.size w a:=by
 obtain⟨k,d,x,n⟩:=i;unfold mD;dsimp only;go_enter func172,ntmps172
 go_wp2_with (go_at_call 131;refine(nY _ _ _).mono ?_;rintro r a ⟨rfl,rfl⟩)
 all_goals
  go_ret;refine⟨dE ?_,eH _ _ _⟩;simp[eK]at *;rw[Bool.eq_iff_iff];simp[gy, *]
  try omega
end
end Go.Proofs.YtjfmmnhcddckaaaGreat
