import Derived.WalkKit
import Derived.BigQuiet
import Derived.Deep.QuietTactic
import Derived.WalkLawsBesides
import Derived.Lib.Hide
import Derived.Laws.Rows
import Derived.Laws.Tables
import Derived.StillTailTactics
import Derived.Laws.StructEq
import Derived.ProofKit
import Derived.Lib.SmallJoins
import Derived.Deep.Slices
import Derived.Deep.Fields
import Derived.OpenShut
import Derived.Lib.Tables
import Derived.Test.YtjfmmnhcddckaaaGreatRows
set_option maxRecDepth 100000
set_option maxHeartbeats 1000000
namespace Go.Proofs.YtjfmmnhcddckaaaGreat
theorem Zan{w:World}{a:Addr}{v:Value}(h:w.cell? a=some v):a.block<w.heap.size:=by
 unfold World.cell? at h
 rcases Nat.lt_or_ge a.block w.heap.size with h1|h1
 ·exact h1
 ·rw[Array.getElem?_eq_none h1]at h;cases h
theorem Zab{w w':World}(hb:Go.RowKit.Below w.heap.size w w'){a:Addr}{v:Value}(h:w.cell? a=some v):w'.cell? a=some v:=by
 rw[hb.cell (Zan h)];exact h
theorem Zdk{α:Type}(n:Nat)(P:Nat->α->Prop)(h:∀i,i<n->∃x,P i x):∃xs:List α,xs.length=n/\∀i x,xs[i]?=some x->P i x:=by
 induction n with
 |zero=>exact⟨[],rfl,by simp⟩
 |succ n ih=>
  obtain⟨xs,hl,hx⟩:=ih (fun i hi=>h i (by omega))
  obtain⟨x,hp⟩:=h n (by omega)
  refine⟨xs++[x],by simp[hl],fun i y hy=>?_⟩
  by_cases hi:i<n
  ·rw[List.getElem?_append_left (by omega)]at hy;exact hx i y hy
  ·rw[List.getElem?_append_right (by omega)]at hy
   have:i-xs.length=0:=by
    have:=(List.getElem?_eq_some_iff.1 hy).1
    simp at this
    omega
   rw[this]at hy
   have hin:i=n:=by omega
   subst hin
   simp at hy
   subst hy
   exact hp
def in64(n:Int):Prop:=-9223372036854775808<=n/\n<=9223372036854775807
theorem in64_wrap(n:Int):in64 (IntKind.i64.wrap n):=by
 unfold in64 IntKind.wrap
 simp[IntKind.signed,IntKind.bits]
 split <;> omega
theorem Zav{T:Type}{l:List T}{k:Nat}(d:T)(h:k<l.length):l.getD k d=l[k]:=by
 simp[List.getD,h]
theorem ZaS{T:Type}(l:List T)(j k:Nat)(d y:T)(hj:j<l.length):(l.set j y).getD k d=if k=j then y else l.getD k d:=by
 simp only[List.getD]
 by_cases h:k=j
 ·subst h;simp[hj]
 ·rw[List.getElem?_set_ne (Ne.symm h),if_neg h]
theorem sum_set(l:List Nat)(k y:Nat)(h:k<l.length):(l.set k y).sum+l[k]=l.sum+y:=by
 induction l generalizing k with
 |nil=>simp at h
 |cons a l ih=>
  cases k with
  |zero=>simp;omega
  |succ k=>simp at h ⊢;have:=ih k h;omega
abbrev Txt:=List UInt8
def updF{α:Type}(f:Nat->α)(s:Nat)(x:α):Nat->α:=fun k=>if k=s then x else f k
theorem Zac{α:Type}(f:Nat->α)(s:Nat)(x:α):updF f s x s=x:=by simp[updF]
theorem Zad{α:Type}(f:Nat->α){s k:Nat}(x:α)(h:k≠s):updF f s x k=f k:=by simp[updF,h]
theorem Zex{α:Type}(f:Nat->α)(s:Nat)(x y:α):updF (updF f s x) s y=updF f s y:=by
 funext k;unfold updF;by_cases h:k=s <;> simp[h]
theorem Zih{α:Type}(f:Nat->α)(s:Nat):updF f s (f s)=f:=by
 funext k;unfold updF;by_cases h:k=s <;> simp[h]
theorem Zd7{l:List Nat}{k:Nat}(h:k<l.length):l.getD k 0∈l:=by simp[List.getD,h]
theorem mem_getD{l:List Nat}{x:Nat}(h:x∈l):∃k,k<l.length/\l.getD k 0=x:=by
 obtain⟨k,hk,rfl⟩:=List.getElem_of_mem h
 exact⟨k,hk,by simp[List.getD,hk]⟩
end Go.Proofs.YtjfmmnhcddckaaaGreat
namespace Go.RowKit
theorem Below.drewN{B:Nat}{a w:World}(h:Below B a w){n:Nat}:Below B a (w.drewN n):=⟨h.os,h.tape,h.output,h.size,h.block⟩
end Go.RowKit
namespace Go.Proofs.YtjfmmnhcddckaaaGreat
open Go.RowKit
theorem Zag{a b:Bool}(h:a=b):Ending.returned (.bool a)=.returned (.bool b):=by rw[h]
theorem Zaa(w:World)(o:Obj):Below w.heap.size w (w.alloc o):=(Below.refl _ _).alloc (Nat.le_refl _) _
theorem Zak(w:World)(o o2:Obj):Below w.heap.size w ((w.alloc o).alloc o2):=((Below.refl _ _).alloc (Nat.le_refl _) _).alloc (by simp) _
structure Only(b:Nat)(w w':World):Prop where
 os:w'.os=w.os
 tape:w'.tape=w.tape
 output:w'.output=w.output
 size:w.heap.size<=w'.heap.size
 block:∀k,k<w.heap.size->k≠b->w'.heap[k]?=w.heap[k]?
theorem Only.refl(b:Nat)(w:World):Only b w w:=⟨rfl,rfl,rfl,Nat.le_refl _,fun _ _ _=>rfl⟩
theorem Only.trans{b:Nat}{u v w:World}(h:Only b u v)(k:Only b v w):Only b u w:=
 ⟨k.os.trans h.os,k.tape.trans h.tape,k.output.trans h.output,Nat.le_trans h.size k.size,fun i hi hb=>(k.block i (Nat.lt_of_lt_of_le hi h.size) hb).trans (h.block i hi hb)⟩
theorem Only.of_below{b:Nat}{w w':World}(h:Below w.heap.size w w'):Only b w w':=⟨h.os,h.tape,h.output,h.size,fun k hk _=>h.block k hk⟩
theorem Only.drew{b:Nat}{w w':World}(h:Only b w w'):Only b w w'.drew:=⟨h.os,h.tape,h.output,h.size,h.block⟩
theorem Only.alloc{b:Nat}{w w':World}(h:Only b w w')(o:Obj):Only b w (w'.alloc o):=h.trans (.of_below ((Below.refl _ _).alloc (Nat.le_refl _) _))
theorem Only.setCell{b:Nat}{w w':World}(h:Only b w w')(o:Nat)(v:Value):Only b w (w'.setCell ⟨b,o,none⟩ v):=
 h.trans ⟨rfl,rfl,rfl,by simp[World.setCell],fun k _ hb=>Below.heap_setCell _ _ _ _ hb⟩
theorem Only.below{b B:Nat}{w w':World}(h:Only b w w')(hB:B<=b)(hw:B<=w.heap.size):Below B w w':=
 ⟨h.os,h.tape,h.output,h.size,fun k hk=>h.block k (by omega) (by omega)⟩
theorem Zbv{w w':World}{base:Nat}{e:TypeId}{size:Nat}{v:Value}{n:Nat}{xs:List Value}(h:w.ownsRow base e size v n xs)(hb:Below w.heap.size w w'):w'.ownsRow base e size v n xs:=by
 obtain⟨h1,h2|⟨g,cap,cur,h2,h3,h4,h5⟩⟩:=h
 ·exact⟨h1,.inl h2⟩
 ·exact⟨h1,.inr ⟨g,cap,cur,h2,h3,(hb.block g (Array.getElem?_eq_some_iff.1 h4).1).trans h4,h5⟩⟩
theorem ZcI{P:Program}(w:World){t:TypeId}{d:TypeDesc}{xs:Array Value}{o:Nat}{v:Value}(hu:P.underlying t=some d)(hd:(match d with | .struct _ | .array _ _=>true|_=>false)=false)(hx:xs[o]?=some v):(part t xs o).run P w=.ok v w:=by
 have hagg:(isAgg t).run P w=.ok false w:=by
  unfold isAgg
  rw[Sem.run_bind,run_underlying hu w]
  cases d <;> simp_all
 simp[part,hagg,hx]
theorem ZbQ{P:Program}(w:World)(d:Nat)(xs ys:Array Value)(f:Field)(fs:List Field)(k k':IntKind)(a b:Int)(hn:f.name≠ "_")(hu:P.underlying f.type=some (.int k'))
  (hx:xs[f.offset]?=some (.int k a)) (hy:ys[f.offset]?=some (.int k b)):
  (Op.eqFields (d+1) xs ys (f::fs)).run P w=if a==b then (Op.eqFields (d+1) xs ys fs).run P w else .ok false w:=by
 rw[Op.eqFields,if_pos hn]
 simp only[Sem.run_bind,ZcI w hu rfl hx,ZcI w hu rfl hy,Result.andThen_ok,run_equalIn_int w d f.type k k' a b hu]
 cases h:(a==b) <;> simp
theorem ZeC{P:Program}(w:World)(d:Nat)(xs ys:Array Value)(f:Field)(fs:List Field)(a b:Bool)(hn:f.name≠ "_")(hu:P.underlying f.type=some .bool)
  (hx:xs[f.offset]?=some (.bool a)) (hy:ys[f.offset]?=some (.bool b)):
  (Op.eqFields (d+1) xs ys (f::fs)).run P w=if a==b then (Op.eqFields (d+1) xs ys fs).run P w else .ok false w:=by
 rw[Op.eqFields,if_pos hn]
 simp only[Sem.run_bind,ZcI w hu rfl hx,ZcI w hu rfl hy,Result.andThen_ok,run_equalIn_bool w d f.type a b hu]
 cases h:(a==b) <;> simp
theorem ZfE{w w':World}{g base:Nat}{e:TypeId}{size:Nat}{v:Value}{n:Nat}{xs:List Value}(h:w.ownsRow base e size v n xs)(ho:Only g w w')(hg:g<base):w'.ownsRow base e size v n xs:=by
 obtain⟨h1,h2|⟨b,cap,cur,h2,h3,h4,h5⟩⟩:=h
 ·exact⟨h1,.inl h2⟩
 ·exact⟨h1,.inr ⟨b,cap,cur,h2,h3,(ho.block b (Array.getElem?_eq_some_iff.1 h4).1 (by omega)).trans h4,h5⟩⟩
theorem ZcF(b o k:Nat):Addr.add ⟨b,o,none⟩ k=⟨b,o+k,none⟩:=by
 unfold Addr.add
 split
 ·rename_i h;subst h;rfl
 ·rfl
theorem ZaD{P:Program}(w:World){t elem:TypeId}{n:Nat}{cs:Array Value}{d:TypeDesc}(i:Nat){v:Value}(hu:P.underlying t=some (.array n elem))(he:P.underlying elem=some d)
  (hd:(match d with | .struct _ | .array _ _=>true|_=>false)=false) (hs:(P.info? elem).map (·.size)=some 1) (hi:i<n) (hv:cs[i]?=some v):(Instr.index t (.agg cs) (.int .i64 i)).run P w=.ok v w:=by
 cases hq:P.info? elem with
 |none=>simp[hq]at hs
 |some x=>
  have hx:x.size=1:=by simpa [hq]using hs
  have hagg:(isAgg elem).run P w=.ok false w:=by
   unfold isAgg
   rw[Sem.run_bind,run_underlying he w]
   cases d <;> simp_all
  simp[Instr.index,asIntOf,run_underlying hu,hi,sizeOf,typeInfo,hq,hx,part,hagg,hv]
structure OnlyS(S:Nat->Prop)(w w':World):Prop where
 os:w'.os=w.os
 tape:w'.tape=w.tape
 output:w'.output=w.output
 size:w.heap.size<=w'.heap.size
 block:∀k,k<w.heap.size->¬S k->w'.heap[k]?=w.heap[k]?
theorem OnlyS.refl(S:Nat->Prop)(w:World):OnlyS S w w:=⟨rfl,rfl,rfl,Nat.le_refl _,fun _ _ _=>rfl⟩
theorem OnlyS.trans{S:Nat->Prop}{u v w:World}(h:OnlyS S u v)(k:OnlyS S v w):OnlyS S u w:=
 ⟨k.os.trans h.os,k.tape.trans h.tape,k.output.trans h.output,Nat.le_trans h.size k.size,fun i hi hs=>(k.block i (Nat.lt_of_lt_of_le hi h.size) hs).trans (h.block i hi hs)⟩
theorem OnlyS.of_below{S:Nat->Prop}{w w':World}(h:Below w.heap.size w w'):OnlyS S w w':=⟨h.os,h.tape,h.output,h.size,fun k hk _=>h.block k hk⟩
theorem OnlyS.of_only{S:Nat->Prop}{b:Nat}{w w':World}(h:Only b w w')(hb:S b):OnlyS S w w':=⟨h.os,h.tape,h.output,h.size,fun k hk hs=>h.block k hk (fun e=>hs (by rw[e];exact hb))⟩
theorem OnlyS.drew{S:Nat->Prop}{w w':World}(h:OnlyS S w w'):OnlyS S w w'.drew:=⟨h.os,h.tape,h.output,h.size,h.block⟩
theorem OnlyS.setCell{S:Nat->Prop}{w w':World}(h:OnlyS S w w'){p:Addr}(hp:S p.block)(v:Value):OnlyS S w (w'.setCell p v):=
 h.trans ⟨rfl,rfl,rfl,by simp[World.setCell],fun k _ hs=>Below.heap_setCell _ _ _ _ (fun e=>hs (by rw[e];exact hp))⟩
theorem OnlyS.mono{S T:Nat->Prop}{w w':World}(h:OnlyS S w w')(hst:∀k,k<w.heap.size->S k->T k):OnlyS T w w':=⟨h.os,h.tape,h.output,h.size,fun k hk ht=>h.block k hk (fun hs=>ht (hst k hk hs))⟩
theorem OnlyS.below{S:Nat->Prop}{w w':World}{B:Nat}(h:OnlyS S w w')(hB:B<=w.heap.size)(hS:∀k,S k->B<=k):Below B w w':=⟨h.os,h.tape,h.output,h.size,fun k hk=>h.block k (by omega) (fun hs=>by have:=hS k hs;omega)⟩
theorem OnlyS.after{S:Nat->Prop}{u v w:World}(h:Below u.heap.size u v)(k:OnlyS S v w):OnlyS S u w:=(OnlyS.of_below h).trans k
theorem OnlyS.cell{S:Nat->Prop}{w w':World}(h:OnlyS S w w'){a:Addr}{v:Value}(hc:w.cell? a=some v)(hs:¬S a.block):w'.cell? a=some v:=by
 rw[World.cell?_of_block (w:=w) (h.block a.block (Zan hc) hs)]
 exact hc
theorem OnlyS.thenS{S T:Nat->Prop}{u v w:World}(h:OnlyS S u v)(k:OnlyS T v w)(hst:∀x,x<u.heap.size->T x->S x):OnlyS S u w:=
 ⟨k.os.trans h.os,k.tape.trans h.tape,k.output.trans h.output,Nat.le_trans h.size k.size,fun i hi hs=>(k.block i (Nat.lt_of_lt_of_le hi h.size) fun ht=>hs (hst i hi ht)).trans (h.block i hi hs)⟩
theorem OnlyS.row{S:Nat->Prop}{w w':World}(o:OnlyS S w w'){g:Nat}{x:Obj}(h:w.heap[g]?=some x)(hs:¬S g):w'.heap[g]?=some x:=(o.block g (Array.getElem?_eq_some_iff.1 h).1 hs).trans h
theorem ZdY(w:World)(g i:Nat){c:Array Value}{t:TypeId}(v:Value)(h:w.heap[g]?=some (.cells c t (0,0)))(hi:i<c.size):(w.setCell ⟨g,i,none⟩ v).cell? ⟨g,i,none⟩=some v:=by
 rw[cell_of_row _ g i _ _ _ (heap_setCell_same w g i _ _ v h)]
 simp[hi]
theorem ZhC(w:World)(g i j:Nat){c:Array Value}{t:TypeId}(v:Value)(h:w.heap[g]?=some (.cells c t (0,0)))(hij:j≠i):(w.setCell ⟨g,i,none⟩ v).cell? ⟨g,j,none⟩=w.cell? ⟨g,j,none⟩:=by
 rw[cell_of_row _ g j _ _ _ (heap_setCell_same w g i _ _ v h),cell_of_row _ g j _ _ _ h]
 simp[Ne.symm hij]
theorem Zbo(w:World){g x:Nat}(h:g≠x)(i j:Nat)(v:Value):(w.setCell ⟨x,i,none⟩ v).cell? ⟨g,j,none⟩=w.cell? ⟨g,j,none⟩:=World.cell?_of_block (w:=w) (a:=⟨g,j,none⟩) (Below.heap_setCell _ _ _ _ h)
end Go.Proofs.YtjfmmnhcddckaaaGreat
namespace Go.Proofs.YtjfmmnhcddckaaaGreat
structure Ins where
 kind:Int
 r:Int
 x:Int
 n:Int
structure Pg where
 vars:Int
 mutexes:Int
 threads:List (List Ins)
instance:DecidableEq Ins:=fun a b=>
 decidable_of_iff (a.kind=b.kind/\a.r=b.r/\a.x=b.x/\a.n=b.n) (by cases a;cases b;simp)
instance:DecidableEq Pg:=fun a b=>
 decidable_of_iff (a.vars=b.vars/\a.mutexes=b.mutexes/\a.threads=b.threads) (by cases a;cases b;simp)
def ZaN(V M n:Int)(i:Ins):Bool:=
 if i.kind=1∨i.kind=2 then decide (0<=i.r/\i.r<2/\0<=i.x/\i.x<V/\i.n=0)
 else if i.kind=3∨i.kind=4 then decide (0<=i.r/\i.r<2/\i.x=0/\-128<=i.n/\i.n<=127)
 else if i.kind=5∨i.kind=6 then decide (i.r=0/\0<=i.x/\i.x<M/\i.n=0)
 else if i.kind=7 then decide (0<=i.r/\i.r<2/\0<=i.x/\i.x<n+1/\i.n=0)
 else if i.kind=8 then decide (0<=i.r/\i.r<2/\i.x=0/\i.n=0)
 else false
def ZaC(V M:Int)(l:List Ins):Bool:=decide (l.length<=8)&&l.all (ZaN V M l.length)
def Zal(p:Pg):Bool:=
 decide (0<=p.vars/\p.vars<=4/\0<=p.mutexes/\p.mutexes<=2/\1<=p.threads.length/\p.threads.length<=4)&&p.threads.all (ZaC p.vars p.mutexes)
def ZaM(n e:Int):Bool:=decide (0<=n/\n<e)
def insV(i:Ins):Value:=.agg #[.int .i64 i.kind,.int .i64 i.r,.int .i64 i.x,.int .i64 i.n]
def ZbU(w:World)(a:Option Addr)(l:List Ins):Prop:=
 l.length<=maxLen/\(l≠[]->∃b o,a=some ⟨b,o,none⟩/\∀i (h:i<l.length),
  w.cell? ⟨b,o+i*4,none⟩=some (.int .i64 l[i].kind)/\w.cell? ⟨b,o+i*4+1,none⟩=some (.int .i64 l[i].r) /\
  w.cell? ⟨b,o+i*4+2,none⟩=some (.int .i64 l[i].x)/\w.cell? ⟨b,o+i*4+3,none⟩=some (.int .i64 l[i].n))
theorem ZbU.later{w w':World}{a:Option Addr}{l:List Ins}(h:ZbU w a l)(hb:Go.RowKit.Below w.heap.size w w'):ZbU w' a l:=by
 refine⟨h.1,fun hn=>?_⟩
 obtain⟨b,o,rfl,hc⟩:=h.2 hn
 refine⟨b,o,rfl,fun i hi=>?_⟩
 obtain⟨h0,h1,h2,h3⟩:=hc i hi
 exact⟨Zab hb h0,Zab hb h1,Zab hb h2,Zab hb h3⟩
def Zaf(w:World)(a:Option Addr)(ts:List (List Ins)):Prop:=
 ts.length<=maxLen/\(ts≠[]->∃b o,a=some ⟨b,o,none⟩/\∀i (h:i<ts.length),
  ∃c cap,w.cell? ⟨b,o+i,none⟩=some (.slice c ts[i].length cap)/\ZbU w c ts[i]/\(c=none->cap=0))
theorem Zaf.later{w w':World}{a:Option Addr}{ts:List (List Ins)}(h:Zaf w a ts)(hb:Go.RowKit.Below w.heap.size w w'):Zaf w' a ts:=by
 refine⟨h.1,fun hn=>?_⟩
 obtain⟨b,o,rfl,hc⟩:=h.2 hn
 refine⟨b,o,rfl,fun i hi=>?_⟩
 obtain⟨c,cap,h0,h1,h2⟩:=hc i hi
 exact⟨c,cap,Zab hb h0,h1.later hb,h2⟩
def pgV(p:Pg)(a:Option Addr)(cap:Nat):Value:=.agg #[.int .i64 p.vars,.int .i64 p.mutexes,.slice a p.threads.length cap]
theorem ZdC{p:Pg}(h:Zal p=true){k:Nat}(hk:k<p.threads.length):p.threads[k].length<=8/\∀j (hj:j<p.threads[k].length),ZaN p.vars p.mutexes p.threads[k].length p.threads[k][j]=true:=by
 unfold Zal at h
 rw[Bool.and_eq_true,List.all_eq_true]at h
 have:=h.2 _ (List.getElem_mem hk)
 unfold ZaC at this
 rw[Bool.and_eq_true,List.all_eq_true]at this
 exact⟨by simpa using this.1,fun j hj=>this.2 _ (List.getElem_mem hj)⟩
structure Ev where
 thread:Int
 kind:Int
 obj:Int
 fail:Bool
instance:DecidableEq Ev:=fun a b=>
 decidable_of_iff (a.thread=b.thread/\a.kind=b.kind/\a.obj=b.obj/\a.fail=b.fail) (by cases a;cases b;simp)
def ev0:Ev:=⟨0,0,0,false⟩
structure Thr where
 at_:Nat
 fuel:Nat
 r:List Int
def thr0:Thr:=⟨0,0,[0,0]⟩
structure St where
 p:Pg
 ts:List Thr
 v:List Int
 m:List Int
def St.code(s:St)(t:Nat):List Ins:=s.p.threads.getD t []
def St.th(s:St)(t:Nat):Thr:=s.ts.getD t thr0
def St.reg(s:St)(t:Int)(i:Ins):Int:=(s.th t.toNat).r.getD i.r.toNat 0
def St.who(s:St)(x:Int):Int:=s.m.getD x.toNat (-1)
def St.var(s:St)(x:Int):Int:=s.v.getD x.toNat 0
def St.put(s:St)(t:Int)(y:Thr):St:={ s with ts:=s.ts.set t.toNat y }
def St.has(s:St)(t:Int):Prop:=0<=t/\t<s.ts.length
instance (s:St) (t:Int):Decidable (s.has t):=inferInstanceAs (Decidable (_/\_))
def St.ins(s:St)(t:Int):Option Ins:=
 if s.has t/\(s.th t.toNat).fuel≠0 then (s.code t.toNat)[(s.th t.toNat).at_]? else none
def St.ev(s:St)(t:Int)(i:Ins):Ev:=
 if i.kind=1 then ⟨t,2,i.x,false⟩
 else if i.kind=2 then ⟨t,3,i.x,false⟩
 else if i.kind=5 then ⟨t,4,i.x,false⟩
 else if i.kind=6 then (if s.who i.x=t then ⟨t,5,i.x,false⟩else ⟨t,1,0,true⟩)
 else if i.kind=8 then ⟨t,1,0,decide (s.reg t i=0)⟩
 else ⟨t,1,0,false⟩
def St.next(s:St)(t:Int):Option Ev:=(s.ins t).map (s.ev t)
def St.may(s:St)(t:Int):Bool:=
 match s.ins t with
 |none=>false
 |some i=>decide (i.kind=5->s.who i.x<0)
def St.thr(s:St)(t:Int)(i:Ins):Thr:=
 let x:=s.th t.toNat
 {at_:=if i.kind=7/\s.reg t i≠0 then i.x.toNat else x.at_+1
  fuel:=x.fuel-1
  r:=if i.kind=1 then x.r.set i.r.toNat (s.var i.x)else if i.kind=3 then x.r.set i.r.toNat i.n else if i.kind=4 then x.r.set i.r.toNat (IntKind.i64.wrap (s.reg t i+i.n))else x.r }
def St.do_(s:St)(t:Int)(i:Ins):St:=
 {p:=s.p
  ts:=s.ts.set t.toNat (s.thr t i)
  v:=if i.kind=2 then s.v.set i.x.toNat (s.reg t i)else s.v
  m:=if i.kind=5 then s.m.set i.x.toNat t else if i.kind=6/\s.who i.x=t then s.m.set i.x.toNat (-1)else s.m }
def St.step(s:St)(t:Int):Int × Ev × St:=
 if s.has t then
  match s.ins t with
  |none=>(6,ev0,s)
  |some i=>if s.may t=true then (0,s.ev t i,s.do_ t i)else (9,ev0,s)
 else (2,ev0,s)
def St.all(s:St):List Int:=((List.range s.ts.length).map Int.ofNat).filter s.may
def St.new(p:Pg)(fuel:Nat):St:=⟨p,p.threads.map fun _=>⟨0,fuel,[0,0]⟩,[0,0,0,0],[-1,-1]⟩
structure St.Ok(F:Nat)(s:St):Prop where
 f8:F<=8
 right:Zal s.p=true
 len:s.ts.length=s.p.threads.length
 vl:s.v.length=4
 ml:s.m.length=2
 thr:∀x∈s.ts,x.r.length=2/\(∀n∈x.r,in64 n)/\x.fuel<=F
 place:∀k,k<s.ts.length->(s.th k).at_<=(s.code k).length
 vv:∀n∈s.v,in64 n
 mm:∀n∈s.m,-1<=n/\n<s.ts.length
 free:∀k:Nat,s.p.mutexes<=k->s.m.getD k (-1)=-1
theorem new_ok{p:Pg}(h:Zal p=true)(F:Nat)(hF:F<=8):St.Ok F (St.new p F):=by
 refine⟨hF,h,by simp[St.new],rfl,rfl,fun x hx=>?_,fun k hk=>?_,?_,?_,fun k _=>?_⟩
 ·simp[St.new]at hx
  obtain⟨_,_,rfl⟩:=hx
  exact⟨rfl,by simp[in64],Nat.le_refl _⟩
 ·simp[St.new]at hk
  simp[St.th,St.new,hk]
 ·simp[St.new,in64]
 ·simp[St.new]
  omega
 ·match k with
  |0=>rfl
  |1=>rfl
  |k+2=>rfl
theorem St.ins_has{s:St}{t:Int}{i:Ins}(h:s.ins t=some i):s.has t/\(s.th t.toNat).fuel≠0/\(s.code t.toNat)[(s.th t.toNat).at_]?=some i:=by
 unfold St.ins at h
 split at h
 ·rename_i hh;exact⟨hh.1,hh.2,h⟩
 ·cases h
theorem St.th_mem{s:St}{k:Nat}(h:k<s.ts.length):s.th k∈s.ts:=by
 unfold St.th
 rw[Zav _ h]
 exact List.getElem_mem h
theorem St.Ok.ins_right{F:Nat}{s:St}(h:s.Ok F){t:Int}{i:Ins}(hi:s.ins t=some i):ZaN s.p.vars s.p.mutexes (s.code t.toNat).length i=true/\(s.code t.toNat).length<=8:=by
 obtain⟨hh,_,hc⟩:=St.ins_has hi
 have hk:t.toNat<s.p.threads.length:=by have:=h.len;unfold St.has at hh;omega
 have hcd:s.code t.toNat=s.p.threads[t.toNat]:=by unfold St.code;rw[Zav _ hk]
 obtain⟨h8,hr⟩:=ZdC h.right hk
 obtain⟨hj,rfl⟩:=List.getElem?_eq_some_iff.1 hc
 rw[<-hcd]at h8
 refine⟨?_,h8⟩
 have:=hr (s.th t.toNat).at_ (by rw[<-hcd];exact hj)
 simpa [hcd]using this
theorem St.step_cases(s:St)(t:Int):(∃i,s.ins t=some i/\s.may t=true/\s.step t=(0,s.ev t i,s.do_ t i))∨∃e,(e=2∨e=6∨e=9)/\s.step t=(e,ev0,s):=by
 unfold St.step
 split
 ·split
  ·exact .inr ⟨6,by simp,rfl⟩
  ·rename_i i hi
   split
   ·rename_i hm;exact .inl ⟨i,hi,hm,rfl⟩
   ·exact .inr ⟨9,by simp,rfl⟩
 ·exact .inr ⟨2,by simp,rfl⟩
theorem St.may_free{s:St}{t:Int}{i:Ins}(hi:s.ins t=some i)(hm:s.may t=true)(h5:i.kind=5):s.who i.x<0:=by
 unfold St.may at hm
 rw[hi]at hm
 simpa [h5]using hm
theorem St.th_do(s:St)(t:Int)(i:Ins)(ht:s.has t)(k:Nat):(s.do_ t i).th k=if k=t.toNat then s.thr t i else s.th k:=by
 unfold St.th St.do_
 dsimp only
 exact ZaS _ _ _ _ _ (by unfold St.has at ht;omega)
theorem St.Ok.obj{F:Nat}{s:St}(h:s.Ok F){t:Int}{i:Ins}(hi:s.ins t=some i):(i.kind=1∨i.kind=2->0<=i.x/\i.x<4)/\(i.kind=5∨i.kind=6->0<=i.x/\i.x<2)/\(i.kind=7->0<=i.x/\i.x<=(s.code t.toNat).length)/\0<=i.r/\i.r<2/\in64 i.n:=by
 have hr:=(h.ins_right hi).1
 have h4:s.p.vars<=4/\s.p.mutexes<=2:=by
  have:=h.right
  unfold Zal at this
  rw[Bool.and_eq_true,decide_eq_true_eq]at this
  omega
 unfold ZaN at hr
 unfold in64
 split at hr
 ·simp only[decide_eq_true_eq]at hr;omega
 split at hr
 ·simp only[decide_eq_true_eq]at hr;omega
 split at hr
 ·simp only[decide_eq_true_eq]at hr;omega
 split at hr
 ·simp only[decide_eq_true_eq]at hr;omega
 split at hr
 ·simp only[decide_eq_true_eq]at hr;omega
 ·cases hr
theorem St.Ok.objM{F:Nat}{s:St}(h:s.Ok F){t:Int}{i:Ins}(hi:s.ins t=some i):i.kind=5∨i.kind=6->0<=i.x/\i.x<s.p.mutexes:=by
 intro hk
 have hr:=(h.ins_right hi).1
 unfold ZaN at hr
 rw[if_neg (by omega),if_neg (by omega),if_pos hk]at hr
 simp only[decide_eq_true_eq]at hr
 omega
theorem St.Ok.reg64{F:Nat}{s:St}(h:s.Ok F){t:Int}(ht:s.has t)(i:Ins):in64 (s.reg t i):=by
 have hx:=(h.thr _ (St.th_mem (s:=s) (k:=t.toNat) (by unfold St.has at ht;omega))).2.1
 unfold St.reg
 by_cases hk:i.r.toNat<(s.th t.toNat).r.length
 ·rw[Zav _ hk];exact hx _ (List.getElem_mem hk)
 ·simp[List.getD,List.getElem?_eq_none (Nat.le_of_not_lt hk),in64]
theorem St.Ok.var64{F:Nat}{s:St}(h:s.Ok F)(x:Int):in64 (s.var x):=by
 unfold St.var
 by_cases hk:x.toNat<s.v.length
 ·rw[Zav _ hk];exact h.vv _ (List.getElem_mem hk)
 ·simp[List.getD,List.getElem?_eq_none (Nat.le_of_not_lt hk),in64]
theorem St.Ok.do_ok{F:Nat}{s:St}(h:s.Ok F){t:Int}{i:Ins}(hi:s.ins t=some i):(s.do_ t i).Ok F:=by
 obtain⟨ht,hf,hc⟩:=St.ins_has hi
 obtain⟨o1,o2,o3,o4,o5,o6⟩:=h.obj hi
 have htn:t.toNat<s.ts.length:=by unfold St.has at ht;omega
 obtain⟨q1,q2,q3⟩:=h.thr _ (St.th_mem htn)
 refine⟨h.f8,h.right,by simpa [St.do_]using h.len,?_,?_,fun x hx=>?_,fun k hk=>?_,fun n hn=>?_,fun n hn=>?_,fun k hk=>?_⟩
 ·unfold St.do_;dsimp only;split <;> simp[h.vl]
 ·unfold St.do_;dsimp only;repeat' split
  all_goals simp[h.ml]
 ·rcases List.mem_or_eq_of_mem_set hx with hx|rfl
  ·exact h.thr x hx
  ·unfold St.thr
   dsimp only
   refine⟨?_,?_,by omega⟩
   ·repeat' split
    all_goals simp[q1]
   ·intro n hn
    split at hn
    ·rcases List.mem_or_eq_of_mem_set hn with hn|rfl
     ·exact q2 n hn
     ·exact h.var64 _
    split at hn
    ·rcases List.mem_or_eq_of_mem_set hn with hn|rfl
     ·exact q2 n hn
     ·exact o6
    split at hn
    ·rcases List.mem_or_eq_of_mem_set hn with hn|rfl
     ·exact q2 n hn
     ·exact in64_wrap _
    ·exact q2 n hn
 ·rw[St.th_do s t i ht]
  have hk':k<s.ts.length:=by simpa [St.do_]using hk
  have hcd:(s.do_ t i).code k=s.code k:=rfl
  rw[hcd]
  split
  ·rename_i e
   subst e
   unfold St.thr
   dsimp only
   split
   ·rename_i h7;have:=o3 h7.1;omega
   ·exact(List.getElem?_eq_some_iff.1 hc).1
  ·exact h.place k hk'
 ·unfold St.do_ at hn
  dsimp only at hn
  split at hn
  ·rcases List.mem_or_eq_of_mem_set hn with hn|rfl
   ·exact h.vv n hn
   ·exact h.reg64 ht i
  ·exact h.vv n hn
 ·have hl:(s.do_ t i).ts.length=s.ts.length:=by simp[St.do_]
  rw[hl]
  unfold St.do_ at hn
  dsimp only at hn
  unfold St.has at ht
  split at hn
  ·rcases List.mem_or_eq_of_mem_set hn with hn|rfl
   ·exact h.mm n hn
   ·omega
  split at hn
  ·rcases List.mem_or_eq_of_mem_set hn with hn|rfl
   ·exact h.mm n hn
   ·omega
  ·exact h.mm n hn
 ·have hk':s.p.mutexes<=k:=hk
  have hx:=h.objM hi
  unfold St.do_
  dsimp only
  split
  ·rename_i h5
   have:=hx (.inl h5)
   rw[ZaS _ _ _ _ _ (by have:=o2 (.inl h5);have:=h.ml;omega),if_neg (by omega)]
   exact h.free k hk'
  split
  ·rename_i h6
   have:=hx (.inr h6.1)
   rw[ZaS _ _ _ _ _ (by have:=o2 (.inr h6.1);have:=h.ml;omega),if_neg (by omega)]
   exact h.free k hk'
  ·exact h.free k hk'
theorem St.Ok.step_ok{F:Nat}{s:St}(h:s.Ok F)(t:Int):(s.step t).2.2.Ok F:=by
 rcases s.step_cases t with ⟨i,hi,_,e⟩|⟨e,_,e'⟩
 ·rw[e];exact h.do_ok hi
 ·rw[e'];exact h
theorem St.Ok.who_do{F:Nat}{s:St}(h:s.Ok F){t:Int}{i:Ins}(hi:s.ins t=some i)(x:Int):(s.do_ t i).who x =
  if i.kind=5/\x.toNat=i.x.toNat then t else if i.kind=6/\s.who i.x=t/\x.toNat=i.x.toNat then -1 else s.who x:=by
 obtain⟨o1,o2,o3,o4,o5,o6⟩:=h.obj hi
 have hml:=h.ml
 have e0:(s.do_ t i).who x=(if i.kind=5 then s.m.set i.x.toNat t else if i.kind=6/\s.who i.x=t then s.m.set i.x.toNat (-1)else s.m).getD x.toNat (-1):=rfl
 rw[e0]
 by_cases h5:i.kind=5
 ·have:=o2 (.inl h5)
  rw[if_pos h5,ZaS _ _ _ _ _ (by omega)]
  simp[h5,St.who]
 ·rw[if_neg h5]
  by_cases h6:i.kind=6/\s.who i.x=t
  ·have:=o2 (.inr h6.1)
   rw[if_pos h6,ZaS _ _ _ _ _ (by omega)]
   rw[if_neg (c:=i.kind=5/\x.toNat=i.x.toNat) (fun e=>h5 e.1)]
   by_cases hx:x.toNat=i.x.toNat
   ·rw[if_pos hx,if_pos ⟨h6.1,h6.2,hx⟩]
   ·rw[if_neg hx,if_neg (fun e=>hx e.2.2)]
    rfl
  ·rw[if_neg h6,if_neg (by simp[h5]),if_neg (by intro h;exact h6 ⟨h.1,h.2.1⟩)]
   rfl
theorem St.who_eq{s:St}{x y:Int}(h:x.toNat=y.toNat):s.who x=s.who y:=by
 unfold St.who;rw[h]
theorem St.Ok.next_do{F:Nat}{s:St}(h:s.Ok F){t:Int}{i:Ins}(hi:s.ins t=some i)(hm:s.may t=true){u:Int}(hu:u≠t):(s.do_ t i).next u=s.next u:=by
 obtain⟨ht,_,_⟩:=St.ins_has hi
 have hl:(s.do_ t i).ts.length=s.ts.length:=by simp[St.do_]
 have hh:(s.do_ t i).has u↔s.has u:=by unfold St.has;rw[hl]
 by_cases hu':s.has u
 ·have hth:(s.do_ t i).th u.toNat=s.th u.toNat:=by
   rw[St.th_do s t i ht,if_neg]
   unfold St.has at ht hu'
   omega
  have hins:(s.do_ t i).ins u=s.ins u:=by
   unfold St.ins
   rw[hth]
   simp only[hh]
   rfl
  unfold St.next
  rw[hins]
  cases hn:s.ins u with
  |none=>rfl
  |some j=>
   simp only[Option.map_some]
   have hwho:((s.do_ t i).who j.x=u)↔(s.who j.x=u):=by
    rw[h.who_do hi]
    unfold St.has at hu' ht
    split
    ·rename_i h5
     have:=St.may_free hi hm h5.1
     rw[St.who_eq h5.2]
     constructor <;> intro e <;> omega
    split
    ·rename_i h6
     rw[St.who_eq h6.2.2]
     have:=h6.2.1
     constructor <;> intro e <;> omega
    ·rfl
   have hreg:(s.do_ t i).reg u j=s.reg u j:=by unfold St.reg;rw[hth]
   unfold St.ev
   simp only[hwho,hreg]
 ·unfold St.next St.ins
  rw[if_neg (by rw[hh];exact fun e=>hu' e.1),if_neg (fun e=>hu' e.1)]
  rfl
theorem St.Ok.next_step{F:Nat}{s:St}(h:s.Ok F)(t:Int){u:Int}(hu:u≠t):(s.step t).2.2.next u=s.next u:=by
 rcases s.step_cases t with ⟨i,hi,hm,e⟩|⟨e,_,e'⟩
 ·rw[e];exact h.next_do hi hm hu
 ·rw[e']
theorem St.Ok.var_do{F:Nat}{s:St}(h:s.Ok F){t:Int}{i:Ins}(hi:s.ins t=some i)(x:Int):(s.do_ t i).var x=if i.kind=2/\x.toNat=i.x.toNat then s.reg t i else s.var x:=by
 obtain⟨o1,o2,o3,o4,o5,o6⟩:=h.obj hi
 have hvl:=h.vl
 have e0:(s.do_ t i).var x=(if i.kind=2 then s.v.set i.x.toNat (s.reg t i)else s.v).getD x.toNat 0:=rfl
 rw[e0]
 by_cases h2:i.kind=2
 ·have:=o1 (.inr h2)
  rw[if_pos h2,ZaS _ _ _ _ _ (by omega)]
  simp only[h2,true_and]
  rfl
 ·rw[if_neg h2,if_neg (fun e=>h2 e.1)]
  rfl
def St.fuel(s:St):Nat:=(s.ts.map Thr.fuel).sum
theorem St.fuel_do{s:St}{t:Int}{i:Ins}(hi:s.ins t=some i):(s.do_ t i).fuel+1=s.fuel:=by
 obtain⟨ht,hf,_⟩:=St.ins_has hi
 have htn:t.toNat<s.ts.length:=by unfold St.has at ht;omega
 have e1:(s.do_ t i).fuel=((s.ts.map Thr.fuel).set t.toNat ((s.th t.toNat).fuel-1)).sum:=by
  unfold St.fuel St.do_ St.thr
  dsimp only
  rw[List.map_set]
 have e2:=sum_set (s.ts.map Thr.fuel) t.toNat ((s.th t.toNat).fuel-1) (by simpa using htn)
 have e3:(s.ts.map Thr.fuel)[t.toNat]'(by simpa using htn)=(s.th t.toNat).fuel:=by
  unfold St.th;rw[Zav _ htn];simp
 rw[e3]at e2
 rw[e1]
 unfold St.fuel
 omega
end Go.Proofs.YtjfmmnhcddckaaaGreat
namespace Go.Proofs.YtjfmmnhcddckaaaGreat
open Go.RowKit
def evV(e:Ev):Value:=.agg #[.int .i64 e.thread,.int .i64 e.kind,.int .i64 e.obj,.bool e.fail]
theorem Zbe{B g:Nat}{a w:World}(h:Below B a w)(hg:B<=g)(v0 v1 v2 v3:Value):Below B a ((((w.setCell ⟨g,0,none⟩ v0).setCell ⟨g,1,none⟩ v1).setCell ⟨g,2,none⟩ v2).setCell ⟨g,3,none⟩ v3):=
 (((h.setCell (p:=⟨g,0,none⟩) hg _).setCell (p:=⟨g,1,none⟩) hg _).setCell (p:=⟨g,2,none⟩) hg _).setCell (p:=⟨g,3,none⟩) hg _
theorem Zg0(t k o:Int)(f:Bool):evV ⟨t,k,o,f⟩=.agg #[.int .i64 t,.int .i64 k,.int .i64 o,.bool f]:=rfl
def OwnN(w:World)(B:Nat)(v:Value)(ns:List Int):Prop:=w.ownsRow B 3 1 v ns.length (ns.map (Value.int .i64))
theorem OwnN.alloc{w:World}{B:Nat}{v:Value}{l:List Int}(h:OwnN w B v l)(o:Obj):OwnN (w.alloc o) B v l:=World.ownsRow.alloc h o
theorem ZeG(w:World)(B:Nat):OwnN w B (.slice none 0 0) []:=World.ownsRow_nil w B _ _
theorem OwnN.later{w w':World}{B:Nat}{v:Value}{l:List Int}(h:OwnN w B v l)(hb:Below w.heap.size w w'):OwnN w' B v l:=Zbv h hb
theorem Zf2(w:World)(ms:List Int)(t:TypeId)(g:Nat)(hg:g=w.heap.size):∀j u,(ms.map (Value.int .i64))[j]?=some u->(w.alloc (.cells (ms.map (Value.int .i64)).toArray t)).cell? (Addr.add ⟨g,0,none⟩ j)=some u:=by
 subst hg
 intro j u hj
 have e:Addr.add ⟨w.heap.size,0,none⟩ j=⟨w.heap.size,j,none⟩:=by
  unfold Addr.add
  split
  ·rename_i h0;subst h0;rfl
  ·simp
 rw[e,World.cell?_alloc_new]
 simpa using hj
theorem ZdV{w:World}{ops:Array Oper}{rest:List Oper}{o:Oper}{a:Act}{Q:Exit->Act->World->Prop}(hgd:o.guard=none)(s x:Operand)
  (ho:o.op=.call { callee:=.builtin .append,args:=#[s,x],argTypes:=#[108,108] }) (B:Nat) (v:Value) (ns:List Int) (hs:a.eval s=v) (hown:OwnN w B v ns)
  (ad:Addr) (m c:Nat) (hx:a.eval x=.slice (some ad) m c) (ms:List Int) (hm:ms.length=m) (hnews:∀j u,(ms.map (Value.int .i64))[j]?=some u->w.cell? (ad.add j)=some u)
  (hlen:ns.length+m<=1000000000) (hB:B<=w.heap.size)
  (h:∀v' w',OwnN w' B v' (ns++ms)->Below B w w'->w.grownBy w' v.ownBlock->wpList Tryz.prog ops Q rest (a.put o.dst v') w'):wpList Tryz.prog ops Q (o::rest) a w:=by
 have hinfo:(Tryz.prog.info? 3).map (fun i=>(i.zero,i.size,i.bytes))=some (some (.int .i64 0),1,8):=by kernel_rfl
 obtain⟨i,hi,hzz⟩:=Option.map_eq_some_iff.1 hinfo
 simp only[Prod.mk.injEq]at hzz
 obtain⟨hz,hsz,hby⟩:=hzz
 refine wpList_append_own w hgd s x 108 ho B 3 i (.int .i64 0) 1 8 Tryz.underlying108 hi hz hsz hby rfl (by decide) v ns.length (ns.map (Value.int .i64)) hs hown ad m c (ms.map (Value.int .i64)) hx (by simp[hm]) hnews
  (by intro u hu;obtain⟨y,_,rfl⟩:=List.mem_map.1 hu;rfl) (by unfold maxLen;omega) (by omega) hB ?_
 intro v' w' h1 h2 _
 refine h v' w' ?_ ((Below.refl B w).grown h2 hB (fun k hk=>(World.ownsRow.lt hown k hk).1)) h2
 unfold OwnN
 rw[List.length_append,List.map_append,hm]
 exact h1
def ZcG(w:World)(a:Option Addr)(ns:List Int):Prop:=
 ns.length<=maxLen/\(ns≠[]->∃b o,a=some ⟨b,o,none⟩/\∀i (h:i<ns.length),w.cell? ⟨b,o+i,none⟩=some (.int .i64 ns[i]))
theorem ZcG.later{w w':World}{a:Option Addr}{ns:List Int}(h:ZcG w a ns)(hb:Below w.heap.size w w'):ZcG w' a ns:=by
 refine⟨h.1,fun hn=>?_⟩
 obtain⟨b,o,rfl,hc⟩:=h.2 hn
 exact⟨b,o,rfl,fun i hi=>Zab hb (hc i hi)⟩
theorem OwnN.form{w:World}{B:Nat}{v:Value}{ns:List Int}(h:OwnN w B v ns)(hm:ns.length<=1000000):∃a cap,v=.slice a ns.length cap/\ZcG w a ns/\(a=none->cap=0):=by
 obtain⟨h1,⟨h2,h3⟩|⟨g,cap,cur,h2,h3,h4,h5,h6,h7,h8⟩⟩:=h
 ·have e:ns=[]:=List.eq_nil_of_length_eq_zero h3
  subst e
  exact⟨none,0,h2,⟨by simp[maxLen],fun h=>absurd rfl h⟩,fun _=>rfl⟩
 ·refine⟨some ⟨g,0,none⟩,cap,h2,⟨by unfold maxLen;omega,fun _=>⟨g,0,rfl,fun i hi=>?_⟩⟩,by simp⟩
  have hj:(ns.map (Value.int .i64))[i]?=some (.int .i64 ns[i]):=by simp[hi]
  rw[<-h8,List.getElem?_take_of_lt (by omega)]at hj
  simp[World.cell?,h4]
  simpa using hj
theorem ZdB(e e':Ev)(w:World):
  (Op.equalIn 10000 112 (.agg #[.int .i64 e.thread,.int .i64 e.kind,.int .i64 e.obj,.bool e.fail]) (.agg #[.int .i64 e'.thread,.int .i64 e'.kind,.int .i64 e'.obj,.bool e'.fail])).run Tryz.prog w=.ok (decide (e=e')) w:=by
 have hd:decide (e=e')=((e.thread==e'.thread)&&((e.kind==e'.kind)&&((e.obj==e'.obj)&&(e.fail==e'.fail)))):=by
  obtain⟨a,b,c,d⟩:=e
  obtain⟨a',b',c',d'⟩:=e'
  rw[Bool.eq_iff_iff]
  simp
 rw[hd]
 obtain⟨a,b,c,d⟩:=e
 obtain⟨a',b',c',d'⟩:=e'
 dsimp only
 clear hd
 have ht:Tryz.prog.underlying 112=some (.struct (Tryz.prog.fieldsOf 112)):=by kernel_rfl
 have hp:Tryz.prog.stoodInHeld 112=false:=by kernel_rfl
 rw[run_equalIn_agg (P:=Tryz.prog) w 9999 _ _ _ ht hp]
 unfold Program.fieldsOf
 rw[Tryz.underlying112]
 dsimp only
 rw[ZbQ (P:=Tryz.prog) w 9998 _ _ _ _ .i64 .i64 a a' (by simp) Tryz.underlying3 rfl rfl]
 rw[ZbQ (P:=Tryz.prog) w 9998 _ _ _ _ .i64 .i64 b b' (by simp) Tryz.underlying3 rfl rfl]
 rw[ZbQ (P:=Tryz.prog) w 9998 _ _ _ _ .i64 .i64 c c' (by simp) Tryz.underlying3 rfl rfl]
 rw[ZeC (P:=Tryz.prog) w 9998 _ _ _ _ d d' (by simp) Tryz.underlying4 rfl rfl]
 rw[Op.eqFields]
 cases (a==a') <;> cases (b==b') <;> cases (c==c') <;> cases (d==d') <;> simp
def EvBox(w:World)(g:Nat)(e:Ev):Prop:=w.heap[g]?=some (.cells #[.int .i64 e.thread,.int .i64 e.kind,.int .i64 e.obj,.bool e.fail] 112 (0,0))
theorem EvBox.lt{w:World}{g:Nat}{e:Ev}(h:EvBox w g e):g<w.heap.size:=(Array.getElem?_eq_some_iff.1 h).1
theorem EvBox.only{w w':World}{b g:Nat}{e:Ev}(h:EvBox w g e)(ho:Only b w w')(hb:g≠b):EvBox w' g e:=(ho.block g h.lt hb).trans h
theorem EvBox.later{w w':World}{g:Nat}{e:Ev}(h:EvBox w g e)(hb:Below w.heap.size w w'):EvBox w' g e:=(hb.block g h.lt).trans h
theorem EvBox.new(w:World)(e:Ev):EvBox (w.alloc (.cells #[.int .i64 e.thread,.int .i64 e.kind,.int .i64 e.obj,.bool e.fail] 112)) w.heap.size e:=heap_alloc_new w _
theorem EvBox.cells{w:World}{g:Nat}{e:Ev}(h:EvBox w g e):w.cell? ⟨g,0,none⟩=some (.int .i64 e.thread)/\w.cell? ⟨g,1,none⟩=some (.int .i64 e.kind)/\w.cell? ⟨g,2,none⟩=some (.int .i64 e.obj)/\w.cell? ⟨g,3,none⟩=some (.bool e.fail):=by
 simp[World.cell?,show w.heap[g]?=_ from h]
def ZaL(e:Ev):List Value:=[.int .i64 e.thread,.int .i64 e.kind,.int .i64 e.obj,.bool e.fail]
def Zah(l:List Ev):List Value:=l.flatMap ZaL
theorem Zas(l:List Ev):(Zah l).length=l.length*4:=by
 induction l with
 |nil=>rfl
 |cons i l ih=>simp only[Zah,ZaL,List.flatMap_cons,List.length_append,List.length_cons,List.length_nil]at *;omega
theorem ZaO(a b:List Ev):Zah (a++b)=Zah a++Zah b:=by simp[Zah]
theorem ZcC(l:List Ev)(i j:Nat)(h:i<l.length)(hj:j<4):(Zah l)[i*4+j]?=(ZaL l[i])[j]?:=by
 induction l generalizing i with
 |nil=>simp at h
 |cons x l ih=>
  cases i with
  |zero=>
   simp only[Zah,List.flatMap_cons,Nat.zero_mul,Nat.zero_add,List.getElem_cons_zero]
   rw[List.getElem?_append_left (by simpa [ZaL]using hj)]
  |succ i=>
   have:=ih i (by simpa using h)
   simp only[Zah,List.flatMap_cons,List.getElem_cons_succ]at *
   rw[List.getElem?_append_right (by simp[ZaL];omega),<-this]
   congr 1
   simp[ZaL]
   omega
theorem ZcB(l:List Ev):∀v∈Zah l,v.oneCell'=true:=by
 intro v hv
 simp only[Zah,List.mem_flatMap]at hv
 obtain⟨i,_,hv⟩:=hv
 simp[ZaL]at hv
 rcases hv with rfl|rfl|rfl|rfl <;> rfl
def OwnE(w:World)(B:Nat)(v:Value)(es:List Ev):Prop:=w.ownsRow B 112 4 v es.length (Zah es)
theorem OwnE.alloc{w:World}{B:Nat}{v:Value}{l:List Ev}(h:OwnE w B v l)(o:Obj):OwnE (w.alloc o) B v l:=World.ownsRow.alloc h o
theorem Zf1(w:World)(B:Nat):OwnE w B (.slice none 0 0) []:=World.ownsRow_nil w B _ _
theorem OwnE.later{w w':World}{B:Nat}{v:Value}{l:List Ev}(h:OwnE w B v l)(hb:Below w.heap.size w w'):OwnE w' B v l:=Zbv h hb
theorem OwnE.only{w w':World}{B g:Nat}{v:Value}{l:List Ev}(h:OwnE w B v l)(ho:Only g w w')(hg:g<B):OwnE w' B v l:=ZfE h ho hg
theorem Zh5(w:World)(e:Ev)(t:TypeId)(g:Nat)(hg:g=w.heap.size):∀j u,(Zah [e])[j]?=some u->(w.alloc (.cells #[.int .i64 e.thread,.int .i64 e.kind,.int .i64 e.obj,.bool e.fail] t)).cell? (Addr.add ⟨g,0,none⟩ j)=some u:=by
 subst hg
 intro j u hj
 have e:Addr.add ⟨w.heap.size,0,none⟩ j=⟨w.heap.size,j,none⟩:=by
  unfold Addr.add
  split
  ·rename_i h0;subst h0;rfl
  ·simp
 rw[e,World.cell?_alloc_new]
 simpa [Zah,ZaL]using hj
theorem Zcl{w:World}{ops:Array Oper}{rest:List Oper}{o:Oper}{a:Act}{Q:Exit->Act->World->Prop}(hgd:o.guard=none)(s x:Operand)
  (ho:o.op=.call { callee:=.builtin .append,args:=#[s,x],argTypes:=#[95,95] }) (B:Nat) (v:Value) (es:List Ev) (hs:a.eval s=v) (hown:OwnE w B v es)
  (ad:Addr) (hx:a.eval x=.slice (some ad) 1 1) (e:Ev) (hnews:∀j u,(Zah [e])[j]?=some u->w.cell? (ad.add j)=some u)
  (hlen:es.length<=1000000) (hB:B<=w.heap.size)
  (h:∀v' w',OwnE w' B v' (es++[e])->Below B w w'->wpList Tryz.prog ops Q rest (a.put o.dst v') w'):wpList Tryz.prog ops Q (o::rest) a w:=by
 have hinfo:(Tryz.prog.info? 112).map (fun i=>(i.zero,i.size,i.bytes))=some (some (.agg #[.int .i64 0,.int .i64 0,.int .i64 0,.bool false]),4,32):=by kernel_rfl
 obtain⟨t,hi,hzz⟩:=Option.map_eq_some_iff.1 hinfo
 simp only[Prod.mk.injEq]at hzz
 obtain⟨hz,hsz,hby⟩:=hzz
 refine wpList_append_own w hgd s x 95 ho B 112 t (.agg #[.int .i64 0,.int .i64 0,.int .i64 0,.bool false]) 4 32 Tryz.underlying95 hi hz hsz hby rfl (by decide) v es.length (Zah es) hs hown ad 1 1 (Zah [e]) hx rfl hnews
  (ZcB _) (by unfold maxLen;omega) (by omega) hB ?_
 intro v' w' h1 h2 _
 refine h v' w' ?_ ((Below.refl B w).grown h2 hB (fun k hk=>(World.ownsRow.lt hown k hk).1))
 unfold OwnE
 rw[List.length_append,ZaO]
 exact h1
def EvsAt(w:World)(a:Option Addr)(es:List Ev):Prop:=
 es.length<=maxLen/\(es≠[]->∃b o,a=some ⟨b,o,none⟩/\∀i (h:i<es.length),w.cell? ⟨b,o+i*4,none⟩=some (.int .i64 es[i].thread)/\w.cell? ⟨b,o+i*4+1,none⟩=some (.int .i64 es[i].kind) /\
  w.cell? ⟨b,o+i*4+2,none⟩=some (.int .i64 es[i].obj)/\w.cell? ⟨b,o+i*4+3,none⟩=some (.bool es[i].fail))
theorem EvsAt.later{w w':World}{a:Option Addr}{es:List Ev}(h:EvsAt w a es)(hb:Below w.heap.size w w'):EvsAt w' a es:=by
 refine⟨h.1,fun hn=>?_⟩
 obtain⟨b,o,rfl,hc⟩:=h.2 hn
 refine⟨b,o,rfl,fun i hi=>?_⟩
 obtain⟨h0,h1,h2,h3⟩:=hc i hi
 exact⟨Zab hb h0,Zab hb h1,Zab hb h2,Zab hb h3⟩
theorem ZkJ(w:World)(a:Option Addr):EvsAt w a []:=⟨by simp[maxLen],fun h=>absurd rfl h⟩
theorem OwnE.form{w:World}{B:Nat}{v:Value}{es:List Ev}(h:OwnE w B v es)(hm:es.length<=1000000):∃a cap,v=.slice a es.length cap/\EvsAt w a es:=by
 obtain⟨h1,⟨h2,h3⟩|⟨g,cap,cur,h2,h3,h4,h5,h6,h7,h8⟩⟩:=h
 ·have e:es=[]:=List.eq_nil_of_length_eq_zero h3
  subst e
  exact⟨none,0,h2,ZkJ _ _⟩
 ·have hcell:∀j u,(Zah es)[j]?=some u->w.cell? ⟨g,j,none⟩=some u:=by
   intro j u hj
   have hjl:j<es.length*4:=by
    have:=(List.getElem?_eq_some_iff.1 hj).1
    rw[Zas]at this
    exact this
   rw[<-h8,List.getElem?_take_of_lt (by omega)]at hj
   simp[World.cell?,h4]
   simpa using hj
  refine⟨some ⟨g,0,none⟩,cap,h2,⟨by unfold maxLen;omega,fun _=>⟨g,0,rfl,fun i hi=>?_⟩⟩⟩
  simp only[Nat.zero_add]
  exact⟨hcell _ _ (ZcC es i 0 hi (by omega)),hcell _ _ (ZcC es i 1 hi (by omega)),hcell _ _ (ZcC es i 2 hi (by omega)),hcell _ _ (ZcC es i 3 hi (by omega))⟩
end Go.Proofs.YtjfmmnhcddckaaaGreat
namespace Go.Proofs.YtjfmmnhcddckaaaGreat
open Go
theorem ZdW(n:Nat)(h:n<256):(BitVec.ofInt 8 (n:Int)).toNat=n:=by
 rw[BitVec.ofInt_natCast,BitVec.toNat_ofNat]
 exact Nat.mod_eq_of_lt h
theorem Zk4(n:Nat)(h:n<256):IntKind.u8.wrap (n:Int)=n:=by
 have:=IntWalk.u8_in (n:Int) (by omega)
 exact this
theorem Zh9(n m:Nat)(hn:n<256)(hm:m<256):bits .or .u8 (n:Int) (m:Int)=((n|||m:Nat):Int):=by
 show IntKind.u8.wrap ((BitVec.ofInt 8 (n:Int)|||BitVec.ofInt 8 (m:Int)).toNat:Int)=_
 rw[BitVec.toNat_or,ZdW n hn,ZdW m hm]
 exact Zk4 _ (Nat.or_lt_two_pow (n:=8) hn hm)
theorem Zhd(n m:Nat)(hn:n<256)(hm:m<256):bits .and .u8 (n:Int) (m:Int)=((n&&&m:Nat):Int):=by
 show IntKind.u8.wrap ((BitVec.ofInt 8 (n:Int)&&&BitVec.ofInt 8 (m:Int)).toNat:Int)=_
 rw[BitVec.toNat_and,ZdW n hn,ZdW m hm]
 exact Zk4 _ (Nat.and_lt_two_pow (n:=8) _ hm)
def wo(n m:Nat):Nat:=n&&&(255-m)
theorem Zb2(n m:Nat)(hn:n<256)(hm:m<256):bits .andNot .u8 (n:Int) (m:Int)=((wo n m:Nat):Int):=by
 show IntKind.u8.wrap ((BitVec.ofInt 8 (n:Int) &&& ~~~(BitVec.ofInt 8 (m:Int))).toNat:Int)=_
 rw[BitVec.toNat_and,BitVec.toNat_not,ZdW n hn,ZdW m hm]
 exact Zk4 _ (Nat.and_lt_two_pow (n:=8) _ (by omega))
theorem wo_lt(n m:Nat)(hn:n<256):wo n m<256:=Nat.lt_of_le_of_lt (Nat.and_le_left) hn
theorem Zel{n i:Nat}(hn:n<256)(h:n.testBit i=true):i<8:=by
 apply Classical.byContradiction
 intro hi
 rw[Nat.testBit_lt_two_pow (Nat.lt_of_lt_of_le hn (show 2^8<=2^i from Nat.pow_le_pow_right (by omega) (by omega)))]at h
 cases h
theorem ZaY{n m i:Nat}(hn:n<256)(hm:m<256):(wo n m).testBit i=(n.testBit i && !m.testBit i):=by
 unfold wo
 rw[Nat.testBit_and]
 by_cases hi:i<8
 ·have h:(255-m).testBit i=!m.testBit i:=by
   have h1:=Nat.testBit_two_pow_sub_succ (n:=8) (x:=m) hm i
   have e:2^8-(m+1)=255-m:=by omega
   rw[e]at h1
   rw[h1]
   simp[hi]
  rw[h]
 ·cases hb:n.testBit i
  ·simp
  ·exact absurd (Zel hn hb) hi
theorem set_ext{n m:Nat}(hn:n<256)(hm:m<256)(h:∀i,i<8->n.testBit i=m.testBit i):n=m:=by
 apply Nat.eq_of_testBit_eq
 intro i
 by_cases hi:i<8
 ·exact h i hi
 ·have h1:n.testBit i=false:=by
   rw[Bool.eq_false_iff]
   intro h
   exact hi (Zel hn h)
  have h2:m.testBit i=false:=by
   rw[Bool.eq_false_iff]
   intro h
   exact hi (Zel hm h)
  rw[h1,h2]
end Go.Proofs.YtjfmmnhcddckaaaGreat
namespace Go.Proofs.YtjfmmnhcddckaaaGreat
def memE(e:Ev):Bool:=decide (e.kind=2∨e.kind=3)
def mutE(e:Ev):Bool:=decide (e.kind=4∨e.kind=5)
def dep(a b:Ev):Bool:=
 decide (a.thread=b.thread∨(a.obj=b.obj/\(((a.kind=2∨a.kind=3)/\(b.kind=2∨b.kind=3)/\(a.kind=3∨b.kind=3))∨((a.kind=4∨a.kind=5)/\(b.kind=4∨b.kind=5)))))
theorem Zch(a b:Ev):dep a b=dep b a:=by
 unfold dep
 rw[decide_eq_decide]
 omega
def Zay(e:Ev):Bool:=
 decide (0<=e.thread/\e.thread<=3/\((e.kind=1/\e.obj=0)∨((e.kind=2∨e.kind=3)/\0<=e.obj/\e.obj<=3/\e.fail=false)∨((e.kind=4∨e.kind=5)/\0<=e.obj/\e.obj<=1/\e.fail=false)))
def evB(e:Ev):Int:=e.thread+4*e.kind+32*e.obj+if e.fail then 128 else 0
def evOf(n:Int):Ev:=⟨n%4,n/4%8,n/32%4,decide (128<=n)⟩
theorem Zbt{e:Ev}(h:Zay e=true):0<=e.thread/\e.thread<=3/\1<=e.kind/\e.kind<=5/\0<=e.obj/\e.obj<=3:=by
 unfold Zay at h
 rw[decide_eq_true_eq]at h
 omega
theorem evB_bd{e:Ev}(h:Zay e=true):0<=evB e/\evB e<256:=by
 have:=Zbt h
 unfold evB
 split <;> omega
theorem evOf_evB{e:Ev}(h:Zay e=true):evOf (evB e)=e:=by
 have:=Zbt h
 obtain⟨t,k,o,f⟩:=e
 dsimp only at this
 unfold evOf evB
 cases f
 ·simp
  omega
 ·simp
  omega
def ZaR(l:List Ev):List Int:=if l.all Zay then l.map evB else []
def evI(l:List Ev)(i:Nat):Ev:=l.getD i ev0
def hbT(l:List Ev):Nat->Nat->Nat->Bool
 |0,_,_=>false
 |n+1,j,m=>if m<n then hbT l n j m else if m=n then decide (j=n)||(List.range n).any (fun i=>dep (evI l i) (evI l n)&&hbT l n j i)else false
def hb(l:List Ev)(j k:Nat):Bool:=hbT l (k+1) j k
theorem hbT_eq(l:List Ev)(n j m:Nat)(h:m<n):hbT l n j m=hb l j m:=by
 induction n with
 |zero=>omega
 |succ n ih=>
  by_cases h1:m<n
  ·rw[hbT,if_pos h1,ih h1]
  ·obtain rfl:m=n:=by omega
   rfl
theorem ZdN(l:List Ev)(j k:Nat):hb l j k=true↔(j=k∨∃i,i<k/\dep (evI l i) (evI l k)=true/\hb l j i=true):=by
 unfold hb
 rw[hbT,if_neg (by omega),if_pos rfl,Bool.or_eq_true,decide_eq_true_eq,List.any_eq_true]
 constructor
 ·rintro (h|⟨i,hi,h⟩)
  ·exact .inl h
  ·rw[List.mem_range]at hi
   rw[Bool.and_eq_true,hbT_eq l k j i hi]at h
   exact .inr ⟨i,hi,h⟩
 ·rintro (h|⟨i,hi,h⟩)
  ·exact .inl h
  ·refine .inr ⟨i,List.mem_range.2 hi,?_⟩
   rw[Bool.and_eq_true,hbT_eq l k j i hi]
   exact h
theorem hb_self(l:List Ev)(k:Nat):hb l k k=true:=(ZdN l k k).2 (.inl rfl)
theorem hb_dep{l:List Ev}{i k:Nat}(h:i<k)(hd:dep (evI l i) (evI l k)=true):hb l i k=true:=(ZdN l i k).2 (.inr ⟨i,h,hd,hb_self l i⟩)
theorem hb_le{l:List Ev}{k:Nat}:∀{j:Nat},hb l j k=true->j<=k:=by
 induction k using Nat.strongRecOn with
 |_ k ih=>
  intro j h
  rcases (ZdN l j k).1 h with rfl|⟨i,hi,_,h⟩
  ·exact Nat.le_refl _
  ·have:=ih i hi h
   omega
theorem hb_trans{l:List Ev}{k:Nat}:∀{i j:Nat},hb l i j=true->hb l j k=true->hb l i k=true:=by
 induction k using Nat.strongRecOn with
 |_ k ih=>
  intro i j h1 h2
  rcases (ZdN l j k).1 h2 with rfl|⟨m,hm,hd,h3⟩
  ·exact h1
  ·exact(ZdN l i k).2 (.inr ⟨m,hm,hd,ih m hm h1 h3⟩)
theorem Zb0{a b:Ev}(h:a.thread=b.thread):dep a b=true:=by unfold dep;simp[h]
theorem ZgQ{l:List Ev}{i k:Nat}(h:i<=k)(ht:(evI l i).thread=(evI l k).thread):hb l i k=true:=by
 rcases Nat.lt_or_eq_of_le h with h|rfl
 ·exact hb_dep h (Zb0 ht)
 ·exact hb_self l i
theorem ZaZ{l m:List Ev}{i:Nat}(h:i<l.length):evI (l++m) i=evI l i:=by
 unfold evI
 simp only[List.getD]
 rw[List.getElem?_append_left h]
theorem Za4{l:List Ev}{i:Nat}(h:i<l.length):evI l i=l[i]:=Zav _ h
theorem evI_mem{l:List Ev}{i:Nat}(h:i<l.length):evI l i∈l:=by rw[Za4 h];exact List.getElem_mem h
theorem hb_append{l m:List Ev}{k:Nat}:∀{j:Nat},k<l.length->(hb (l++m) j k=true↔hb l j k=true):=by
 induction k using Nat.strongRecOn with
 |_ k ih=>
  intro j hk
  rw[ZdN,ZdN]
  constructor
  ·rintro (h|⟨i,hi,hd,h⟩)
   ·exact .inl h
   ·refine .inr ⟨i,hi,?_,(ih i hi (by omega)).1 h⟩
    rw[ZaZ hk,ZaZ (by omega)]at hd
    exact hd
  ·rintro (h|⟨i,hi,hd,h⟩)
   ·exact .inl h
   ·refine .inr ⟨i,hi,?_,(ih i hi (by omega)).2 h⟩
    rw[ZaZ hk,ZaZ (by omega)]
    exact hd
theorem ZdO{l m:List Ev}{k:Nat}(j:Nat)(hk:k<l.length):hb (l++m) j k=hb l j k:=by
 rw[Bool.eq_iff_iff]
 exact hb_append hk
def cnt(q:Nat->Bool)(n:Nat):Nat:=((List.range n).filter q).length
theorem Zgb(q:Nat->Bool):cnt q 0=0:=rfl
theorem ZaW(q:Nat->Bool)(n:Nat):cnt q (n+1)=cnt q n+if q n=true then 1 else 0:=by
 unfold cnt
 rw[List.range_succ,List.filter_append,List.length_append]
 congr 1
 cases h:q n <;> simp[h]
theorem Zg6{q r:Nat->Bool}(n:Nat)(h:∀i,i<n->q i=true->r i=true):cnt q n<=cnt r n:=by
 induction n with
 |zero=>exact Nat.le_refl _
 |succ n ih=>
  have:=ih (fun i hi=>h i (by omega))
  rw[ZaW,ZaW]
  by_cases hq:q n=true
  ·rw[if_pos hq,if_pos (h n (by omega) hq)]
   omega
  ·rw[if_neg hq]
   omega
theorem ZcE{q r:Nat->Bool}(n:Nat)(h:∀i,i<n->q i=r i):cnt q n=cnt r n:=
 Nat.le_antisymm (Zg6 n fun i hi hq=>by rw[<-h i hi];exact hq) (Zg6 n fun i hi hq=>by rw[h i hi];exact hq)
theorem Zci(q:Nat->Bool){m n:Nat}(h:m<=n):cnt q m<=cnt q n:=by
 induction n with
 |zero=>
  obtain rfl:m=0:=by omega
  exact Nat.le_refl _
 |succ n ih=>
  rcases Nat.lt_or_eq_of_le h with h|rfl
  ·have:=ih (by omega)
   rw[ZaW]
   omega
  ·exact Nat.le_refl _
theorem ZfP(q:Nat->Bool){m n:Nat}(h:m<n)(hq:q m=true):cnt q m<cnt q n:=by
 have h1:=Zci q (show m+1<=n by omega)
 rw[ZaW,if_pos hq]at h1
 omega
theorem cnt_begin{q r:Nat->Bool}{n:Nat}(h1:∀i,i<n->q i=true->r i=true)(h2:∀i j,i<j->j<n->r i=true->q j=true->q i=true){i:Nat}(hi:i<n)(hr:r i=true):q i=true↔cnt r (i+1)<=cnt q n:=by
 constructor
 ·intro hq
  have e:cnt r (i+1)=cnt q (i+1):=ZcE _ fun j hj=>by
   by_cases hji:j=i
   ·rw[hji,hq,hr]
   ·rw[Bool.eq_iff_iff]
    exact⟨fun hrj=>h2 j i (by omega) hi hrj hq,fun hqj=>h1 j (by omega) hqj⟩
  rw[e]
  exact Zci q (by omega)
 ·intro hle
  cases hq:q i
  ·exfalso
   have e:cnt q n<=cnt r i:=by
    have hno:∀j,i<=j->j<n->q j=false:=by
     intro j hj hjn
     cases hqj:q j
     ·rfl
     ·rcases Nat.lt_or_eq_of_le hj with hj|rfl
      ·rw[h2 i j hj hjn hr hqj]at hq;cases hq
      ·rw[hqj]at hq;cases hq
    have e1:∀m,i<=m->m<=n->cnt q m=cnt q i:=by
     intro m
     induction m with
     |zero=>
      intro him _
      obtain rfl:i=0:=by omega
      rfl
     |succ m ih=>
      intro him hmn
      rcases Nat.lt_or_eq_of_le him with him|him
      ·rw[ZaW,hno m (by omega) (by omega),ih (by omega) (by omega)]
       rfl
      ·rw[<-him]
    rw[e1 n (by omega) (Nat.le_refl _)]
    exact Zg6 i fun j hj=>h1 j (by omega)
   rw[ZaW,if_pos hr]at hle
   omega
  ·rfl
def isT(l:List Ev)(t:Int)(i:Nat):Bool:=decide ((evI l i).thread=t)
def num(l:List Ev)(i:Nat):Nat:=cnt (isT l (evI l i).thread) (i+1)
def clk(l:List Ev)(k:Nat)(t:Int):Nat:=cnt (fun i=>hb l i k&&isT l t i) (k+1)
theorem ZbL{l:List Ev}{i k:Nat}:hb l i k=true↔num l i<=clk l k (evI l i).thread:=by
 by_cases hik:i<=k
 ·have h:=cnt_begin (q:=fun j=>hb l j k&&isT l (evI l i).thread j) (r:=isT l (evI l i).thread) (n:=k+1)
   (fun j _ hq=>by rw[Bool.and_eq_true]at hq;exact hq.2)
   (fun j m hjm hm hr hq=>by
    rw[Bool.and_eq_true]at hq ⊢
    refine⟨hb_trans (ZgQ (by omega) ?_) hq.1,hr⟩
    unfold isT at hr hq
    rw[decide_eq_true_eq]at hr hq
    rw[hr,hq.2])
   (i:=i) (by omega) (by simp[isT])
  rw[Bool.and_eq_true]at h
  unfold num clk
  rw[<-h]
  simp[isT]
 ·constructor
  ·intro h;exact absurd (hb_le h) hik
  ·intro h
   exfalso
   unfold num clk at h
   have h1:cnt (fun j=>hb l j k&&isT l (evI l i).thread j) (k+1)<=cnt (isT l (evI l i).thread) (k+1):=Zg6 _ fun j _ hq=>by rw[Bool.and_eq_true]at hq;exact hq.2
   have h3:=Zci (isT l (evI l i).thread) (show k+1<=i by omega)
   have h4:cnt (isT l (evI l i).thread) (i+1)=cnt (isT l (evI l i).thread) i+1:=by rw[ZaW,if_pos (by simp[isT])]
   omega
theorem Zje(l:List Ev)(k:Nat):clk l k (evI l k).thread=num l k:=by
 unfold clk num
 refine ZcE _ fun i hi=>?_
 rw[Bool.eq_iff_iff,Bool.and_eq_true]
 refine⟨fun h=>h.2,fun h=>⟨ZgQ (by omega) ?_,h⟩⟩
 unfold isT at h
 rw[decide_eq_true_eq]at h
 exact h
theorem Zfq(l:List Ev)(k:Nat)(t:Int):clk l k t<=cnt (isT l t) (k+1):=Zg6 _ fun j _ hq=>by rw[Bool.and_eq_true]at hq;exact hq.2
theorem clk_mono{l:List Ev}{i k:Nat}(h:hb l i k=true)(t:Int):clk l i t<=clk l k t:=by
 have hik:=hb_le h
 unfold clk
 refine Nat.le_trans (Zg6 (r:=fun j=>hb l j k&&isT l t j) (i+1) fun j _ hq=>?_) (Zci _ (by omega))
 rw[Bool.and_eq_true]at hq ⊢
 exact⟨hb_trans hq.1 h,hq.2⟩
theorem num_append{l m:List Ev}{i:Nat}(h:i<l.length):num (l++m) i=num l i:=by
 unfold num
 rw[ZaZ h]
 refine ZcE _ fun j hj=>?_
 unfold isT
 rw[ZaZ (by omega)]
theorem clk_append{l m:List Ev}{k:Nat}(h:k<l.length)(t:Int):clk (l++m) k t=clk l k t:=by
 unfold clk
 refine ZcE _ fun j hj=>?_
 unfold isT
 rw[ZaZ (by omega),ZdO j h]
def top(f:Nat->Nat)(q:Nat->Bool):Nat->Nat
 |0=>0
 |n+1=>if q n=true then max (top f q n) (f n)else top f q n
theorem Zhx{f:Nat->Nat}{q:Nat->Bool}{n i:Nat}(hi:i<n)(hq:q i=true):f i<=top f q n:=by
 induction n with
 |zero=>omega
 |succ n ih=>
  unfold top
  by_cases hin:i=n
  ·subst hin
   rw[if_pos hq]
   exact Nat.le_max_right _ _
  ·have:=ih (by omega)
   split <;> omega
theorem Zhw{f:Nat->Nat}{q:Nat->Bool}{n b:Nat}(h:∀i,i<n->q i=true->f i<=b):top f q n<=b:=by
 induction n with
 |zero=>exact Nat.zero_le _
 |succ n ih=>
  have h1:=ih (fun i hi=>h i (by omega))
  unfold top
  split
  ·rename_i hq
   have:=h n (by omega) hq
   omega
  ·exact h1
theorem Zek{f:Nat->Nat}{q:Nat->Bool}{n:Nat}:top f q n=0∨∃i,i<n/\q i=true/\top f q n=f i:=by
 induction n with
 |zero=>exact .inl rfl
 |succ n ih=>
  unfold top
  split
  ·rename_i hq
   rcases Nat.le_total (top f q n) (f n)with h|h
   ·exact .inr ⟨n,by omega,hq,by omega⟩
   ·rcases ih with h0|⟨i,hi,hqi,e⟩
    ·exact .inr ⟨n,by omega,hq,by omega⟩
    ·exact .inr ⟨i,by omega,hqi,by omega⟩
  ·rcases ih with h0|⟨i,hi,hqi,e⟩
   ·exact .inl h0
   ·exact .inr ⟨i,by omega,hqi,e⟩
theorem clk_top(l:List Ev)(k:Nat)(t:Int):clk l k t=top (fun i=>clk l i t) (fun i=>dep (evI l i) (evI l k)) k+if (evI l k).thread=t then 1 else 0:=by
 by_cases ht:(evI l k).thread=t
 ·subst ht
  rw[if_pos rfl,Zje]
  have e:num l k=cnt (isT l (evI l k).thread) k+1:=by unfold num;rw[ZaW,if_pos (by simp[isT])]
  rw[e]
  congr 1
  apply Nat.le_antisymm
  ·-- the last one of the thread ahead
   by_cases h0:cnt (isT l (evI l k).thread) k=0
   ·omega
   ·have hex:∀n,n<=k->cnt (isT l (evI l k).thread) n≠0->∃i,i<n/\isT l (evI l k).thread i=true/\cnt (isT l (evI l k).thread) (i+1)=cnt (isT l (evI l k).thread) n:=by
     intro n
     induction n with
     |zero=>intro _ h;exact absurd (Zgb _) h
     |succ n ih=>
      intro hn h
      cases hq:isT l (evI l k).thread n
      ·rw[ZaW,hq]at h ⊢
       simp only[Bool.false_eq_true,if_false,Nat.add_zero]at h ⊢
       obtain⟨i,hi,h1,h2⟩:=ih (by omega) h
       exact⟨i,by omega,h1,h2⟩
      ·exact⟨n,by omega,hq,rfl⟩
    obtain⟨i,hi,h1,h2⟩:=hex k (Nat.le_refl _) h0
    rw[<-h2]
    have ht:(evI l i).thread=(evI l k).thread:=by unfold isT at h1;rw[decide_eq_true_eq]at h1;exact h1
    have h3:=Zhx (f:=fun i=>clk l i (evI l k).thread) (q:=fun i=>dep (evI l i) (evI l k)) hi (Zb0 ht)
    have h4:=Zje l i
    unfold num at h4
    rw[ht]at h4
    omega
  ·refine Zhw fun i hi _=>Nat.le_trans (Zfq l i _) (Zci _ (by omega))
 ·rw[if_neg ht,Nat.add_zero]
  apply Nat.le_antisymm
  ·-- the last one that happens before
   have e:clk l k t=cnt (fun i=>hb l i k&&isT l t i) k:=by
    unfold clk
    rw[ZaW,if_neg (by simp[isT,ht])]
    rfl
   rw[e]
   have hex:∀n,n<=k->cnt (fun i=>hb l i k&&isT l t i) n<=top (fun i=>clk l i t) (fun i=>dep (evI l i) (evI l k)) k:=by
    intro n
    induction n with
    |zero=>intro _;exact Nat.zero_le _
    |succ n ih=>
     intro hn
     rw[ZaW]
     by_cases hq:(hb l n k&&isT l t n)=true
     ·rw[if_pos hq]
      rw[Bool.and_eq_true]at hq
      have htn:(evI l n).thread=t:=by have:=hq.2;unfold isT at this;rw[decide_eq_true_eq]at this;exact this
      rcases (ZdN l n k).1 hq.1 with h|⟨i,hi,hd,h⟩
      ·omega
      ·refine Nat.le_trans ?_ (Zhx (f:=fun i=>clk l i t) (q:=fun i=>dep (evI l i) (evI l k)) hi hd)
       have h1:=ZbL.1 h
       rw[htn]at h1
       refine Nat.le_trans ?_ h1
       unfold num
       rw[htn,ZaW,if_pos hq.2]
       have:=Zg6 (q:=fun i=>hb l i k&&isT l t i) (r:=isT l t) n fun j _ hq=>by rw[Bool.and_eq_true]at hq;exact hq.2
       omega
     ·rw[if_neg hq,Nat.add_zero]
      exact ih (by omega)
   exact hex k (Nat.le_refl _)
  ·exact Zhw fun i hi hd=>clk_mono (hb_dep hi hd) t
def prs(l:List Ev):List (Ev × (Int->Nat)):=(List.range l.length).map fun k=>(evI l k,clk l k)
def psi(l:List Ev)(t:Int):List (Ev × (Int->Nat)):=(prs l).filter fun p=>decide (p.1.thread=t)
def Sim(a b:List Ev):Prop:=∀t,psi a t=psi b t
theorem Sim.refl(a:List Ev):Sim a a:=fun _=>rfl
theorem Sim.symm{a b:List Ev}(h:Sim a b):Sim b a:=fun t=>(h t).symm
theorem Sim.trans{a b c:List Ev}(h:Sim a b)(k:Sim b c):Sim a c:=fun t=>(h t).trans (k t)
def topL(ps:List (Ev × (Int->Nat)))(t:Int):Nat:=ps.foldr (fun p m=>max (p.2 t) m) 0
def nxt(ps:List (Ev × (Int->Nat)))(e:Ev):Int->Nat:=fun t=>topL (ps.filter fun p=>dep p.1 e) t+if e.thread=t then 1 else 0
theorem Zij{ps:List (Ev × (Int->Nat))}{t:Int}{b:Nat}:topL ps t<=b↔∀p∈ps,p.2 t<=b:=by
 induction ps with
 |nil=>simp[topL]
 |cons p ps ih=>
  have e:topL (p::ps) t=max (p.2 t) (topL ps t):=rfl
  rw[e,Nat.max_le,ih]
  simp
theorem Zk7(ps qs:List (Ev × (Int->Nat)))(t:Int):topL (ps++qs) t=max (topL ps t) (topL qs t):=by
 induction ps with
 |nil=>simp[topL]
 |cons p ps ih=>
  have e:topL (p::ps++qs) t=max (p.2 t) (topL (ps++qs) t):=rfl
  have e2:topL (p::ps) t=max (p.2 t) (topL ps t):=rfl
  rw[e,ih,e2,Nat.max_assoc]
theorem topL_mem{ps qs:List (Ev × (Int->Nat))}(h:∀p,p∈ps↔p∈qs)(t:Int):topL ps t=topL qs t:=
 Nat.le_antisymm (Zij.2 fun p hp=>Zij.1 (Nat.le_refl _) p ((h p).1 hp)) (Zij.2 fun p hp=>Zij.1 (Nat.le_refl _) p ((h p).2 hp))
theorem nxt_mem{ps qs:List (Ev × (Int->Nat))}(h:∀p,p∈ps↔p∈qs)(e:Ev):nxt ps e=nxt qs e:=by
 funext t
 unfold nxt
 rw[topL_mem (qs:=qs.filter fun p=>dep p.1 e) (fun p=>by rw[List.mem_filter,List.mem_filter,h])]
theorem Zey(f:Nat->Nat)(q:Nat->Bool)(n:Nat):top f q (n+1)=if q n=true then max (top f q n) (f n)else top f q n:=rfl
theorem top_topL(l:List Ev)(e:Ev)(t:Int)(n:Nat):top (fun i=>clk l i t) (fun i=>dep (evI l i) e) n=topL (((List.range n).map fun k=>(evI l k,clk l k)).filter fun p=>dep p.1 e) t:=by
 induction n with
 |zero=>rfl
 |succ n ih=>
  rw[List.range_succ,List.map_append,List.filter_append,Zk7,<-ih,Zey]
  by_cases h:dep (evI l n) e=true
  ·rw[if_pos h]
   simp[h,topL]
  ·rw[if_neg h]
   simp[h,topL]
theorem Zmz(l:List Ev)(e:Ev):prs (l++[e])=prs l++[(e,nxt (prs l) e)]:=by
 unfold prs
 rw[List.length_append,List.length_singleton,List.range_succ,List.map_append]
 have h1:(List.range l.length).map (fun k=>(evI (l++[e]) k,clk (l++[e]) k))=(List.range l.length).map fun k=>(evI l k,clk l k):=by
  apply List.map_congr_left
  intro k hk
  rw[List.mem_range]at hk
  have:clk (l++[e]) k=clk l k:=funext fun t=>clk_append hk t
  rw[this,ZaZ hk]
 have h2:evI (l++[e]) l.length=e:=by unfold evI;simp[List.getD]
 have h3:clk (l++[e]) l.length=nxt ((List.range l.length).map fun k=>(evI l k,clk l k)) e:=by
  funext t
  rw[clk_top,h2,top_topL (l++[e]) e t,h1]
  rfl
 rw[h1,List.map_singleton,h2,h3]
def grow(ps:List (Ev × (Int->Nat))):List Ev->List (Ev × (Int->Nat))
 | []=>ps
 |e::y=>grow (ps++[(e,nxt ps e)]) y
theorem ZeT(ps:List (Ev × (Int->Nat)))(e:Ev)(y:List Ev):grow ps (e::y)=grow (ps++[(e,nxt ps e)]) y:=rfl
theorem ZmA(y:List Ev):∀x:List Ev,prs (x++y)=grow (prs x) y:=by
 induction y with
 |nil=>intro x;rw[List.append_nil];rfl
 |cons e y ih=>
  intro x
  rw[show x++e::y=(x++[e])++y by simp,ih,Zmz]
  rfl
theorem grow_same(y:List Ev):∀{ps qs:List (Ev × (Int->Nat))},(∀p,p∈ps↔p∈qs)->∃z,grow ps y=ps++z/\grow qs y=qs++z:=by
 induction y with
 |nil=>intro ps qs _;exact⟨[],by simp[grow],by simp[grow]⟩
 |cons e y ih=>
  intro ps qs h
  have hn:=nxt_mem h e
  obtain⟨z,h1,h2⟩:=ih (ps:=ps++[(e,nxt ps e)]) (qs:=qs++[(e,nxt ps e)]) (fun p=>by rw[List.mem_append,List.mem_append,h])
  refine⟨(e,nxt ps e)::z,?_,?_⟩
  ·unfold grow
   rw[h1]
   simp
  ·unfold grow
   rw[<-hn,h2]
   simp
theorem Zix{x y:List Ev}{e f:Ev}(hd:dep e f=false):Sim (x++e::f::y) (x++f::e::y):=by
 have hd':dep f e=false:=by rw[Zch];exact hd
 have hne:e.thread≠f.thread:=by
  intro h
  rw[Zb0 h]at hd
  cases hd
 have n1:nxt (prs x++[(e,nxt (prs x) e)]) f=nxt (prs x) f:=by
  funext t
  unfold nxt
  rw[List.filter_append]
  simp[hd]
 have n2:nxt (prs x++[(f,nxt (prs x) f)]) e=nxt (prs x) e:=by
  funext t
  unfold nxt
  rw[List.filter_append]
  simp[hd']
 have e1:prs (x++e::f::y)=grow (prs x++[(e,nxt (prs x) e),(f,nxt (prs x) f)]) y:=by
  rw[ZmA,ZeT,ZeT,n1,List.append_assoc]
  rfl
 have e2:prs (x++f::e::y)=grow (prs x++[(f,nxt (prs x) f),(e,nxt (prs x) e)]) y:=by
  rw[ZmA,ZeT,ZeT,n2,List.append_assoc]
  rfl
 obtain⟨z,h1,h2⟩:=grow_same y (ps:=prs x++[(e,nxt (prs x) e),(f,nxt (prs x) f)]) (qs:=prs x++[(f,nxt (prs x) f),(e,nxt (prs x) e)]) (fun p=>by simp only[List.mem_append,List.mem_cons,List.not_mem_nil,or_false];constructor <;> (rintro (h|h|h) <;> simp[h]))
 intro t
 unfold psi
 rw[e1,e2,h1,h2]
 simp only[List.filter_append]
 congr 2
 by_cases he:e.thread=t
 ·have hf:f.thread≠t:=by omega
  simp[he,hf]
 ·simp[List.filter_cons,he]
theorem ZfV(q:Nat->Bool){n i:Nat}(hi:i<n)(hq:q i=true):((List.range n).filter q)[cnt q i]?=some i:=by
 induction n with
 |zero=>omega
 |succ n ih=>
  rw[List.range_succ,List.filter_append]
  by_cases h:i<n
  ·have h1:=ih h
   rw[List.getElem?_append_left (List.getElem?_eq_some_iff.1 h1).1]
   exact h1
  ·obtain rfl:i=n:=by omega
   have e:cnt q i=((List.range i).filter q).length:=rfl
   rw[e,List.getElem?_append_right (Nat.le_refl _)]
   simp[hq]
theorem ZfU(q:Nat->Bool){n i j:Nat}(h:((List.range n).filter q)[j]?=some i):i<n/\q i=true/\cnt q i=j:=by
 induction n with
 |zero=>simp at h
 |succ n ih=>
  rw[List.range_succ,List.filter_append]at h
  by_cases hj:j<((List.range n).filter q).length
  ·rw[List.getElem?_append_left hj]at h
   obtain⟨h1,h2,h3⟩:=ih h
   exact⟨by omega,h2,h3⟩
  ·rw[List.getElem?_append_right (by omega)]at h
   cases hq:q n
   ·simp[hq]at h
   ·have e:[n].filter q=[n]:=by simp[hq]
    rw[e]at h
    obtain⟨h1,h2⟩:=List.getElem?_eq_some_iff.1 h
    simp at h1 h2
    subst h2
    refine⟨by omega,hq,?_⟩
    unfold cnt
    omega
theorem psi_eq(l:List Ev)(t:Int):psi l t=((List.range l.length).filter (isT l t)).map fun k=>(evI l k,clk l k):=by
 unfold psi prs
 rw[List.filter_map]
 rfl
theorem Zcc(l:List Ev)(t:Int):(psi l t).length=cnt (isT l t) l.length:=by rw[psi_eq,List.length_map];rfl
theorem Ze9{l:List Ev}{t:Int}{i:Nat}(hi:i<l.length)(ht:isT l t i=true):(psi l t)[cnt (isT l t) i]?=some (evI l i,clk l i):=by
 rw[psi_eq,List.getElem?_map,ZfV _ hi ht]
 rfl
theorem ZgB{l:List Ev}{t:Int}{j:Nat}{p:Ev × (Int->Nat)}(h:(psi l t)[j]?=some p):∃i,i<l.length/\isT l t i=true/\cnt (isT l t) i=j/\p=(evI l i,clk l i):=by
 rw[psi_eq,List.getElem?_map]at h
 obtain⟨i,h1,h2⟩:=Option.map_eq_some_iff.1 h
 obtain⟨h3,h4,h5⟩:=ZfU _ h1
 exact⟨i,h3,h4,h5,h2.symm⟩
def At(l:List Ev)(t:Int)(m i:Nat):Prop:=i<l.length/\isT l t i=true/\cnt (isT l t) i=m
theorem At.uniq{l:List Ev}{t:Int}{m i j:Nat}(h:At l t m i)(k:At l t m j):i=j:=by
 rcases Nat.lt_trichotomy i j with hl|he|hl
 ·have:=ZfP _ hl h.2.1
  have:=h.2.2
  have:=k.2.2
  omega
 ·exact he
 ·have:=ZfP _ hl k.2.1
  have:=h.2.2
  have:=k.2.2
  omega
theorem at_ex{l:List Ev}{t:Int}{m:Nat}(h:m<cnt (isT l t) l.length):∃i,At l t m i:=by
 rw[<-Zcc]at h
 obtain⟨i,h1,h2,h3,_⟩:=ZgB (List.getElem?_eq_getElem h)
 exact⟨i,h1,h2,h3⟩
theorem At.lt{l:List Ev}{t:Int}{m i:Nat}(h:At l t m i):m<cnt (isT l t) l.length:=by
 have:=ZfP _ h.1 h.2.1
 rw[h.2.2]at this
 exact this
theorem Zcz{l:List Ev}{t:Int}{i:Nat}:isT l t i=true↔(evI l i).thread=t:=by unfold isT;rw[decide_eq_true_eq]
theorem Zkc(l:List Ev)(i:Nat):num l i=cnt (isT l (evI l i).thread) i+1:=by unfold num;rw[ZaW,if_pos (Zcz.2 rfl)]
theorem Zl7{l:List Ev}{i m:Nat}{u:Int}(hi:i<l.length):m<clk l i u↔∃k,At l u m k/\hb l k i=true:=by
 constructor
 ·intro h
  have h1:=Zfq l i u
  have h2:=Zci (isT l u) (show i+1<=l.length by omega)
  obtain⟨k,hk⟩:=at_ex (l:=l) (t:=u) (m:=m) (by omega)
  refine⟨k,hk,ZbL.2 ?_⟩
  have ht:=Zcz.1 hk.2.1
  rw[Zkc,ht,hk.2.2]
  omega
 ·rintro⟨k,hk,hh⟩
  have h1:=ZbL.1 hh
  have ht:=Zcz.1 hk.2.1
  rw[Zkc,ht,hk.2.2]at h1
  omega
theorem Sim.cnt{a b:List Ev}(h:Sim a b)(t:Int):cnt (isT a t) a.length=cnt (isT b t) b.length:=by rw[<-Zcc,<-Zcc,h t]
theorem Sim.at{a b:List Ev}(h:Sim a b){i:Nat}(hi:i<a.length):∃k,At b (evI a i).thread (Proofs.YtjfmmnhcddckaaaGreat.cnt (isT a (evI a i).thread) i) k/\evI b k=evI a i/\clk b k=clk a i:=by
 have h1:=Ze9 hi (Zcz.2 rfl)
 rw[h]at h1
 obtain⟨k,h2,h3,h4,h5⟩:=ZgB h1
 injection h5 with h5 h6
 exact⟨k,⟨h2,h3,h4⟩,h5.symm,h6.symm⟩
theorem ZeF(l:List Ev)(e:Ev)(t:Int):psi (l++[e]) t=psi l t++if e.thread=t then [(e,nxt (prs l) e)]else []:=by
 unfold psi
 rw[Zmz,List.filter_append]
 congr 1
 by_cases h:e.thread=t <;> simp[h]
theorem ZiP{l:List Ev}{p:Ev × (Int->Nat)}:p∈prs l↔p∈psi l p.1.thread:=by
 unfold psi
 rw[List.mem_filter]
 simp
theorem Zmo(a b:List Ev)(e:Ev):Sim (a++[e]) (b++[e])↔Sim a b:=by
 constructor
 ·intro h t
  have ht:=h t
  rw[ZeF,ZeF]at ht
  by_cases he:e.thread=t
  ·rw[if_pos he,if_pos he]at ht
   exact(List.append_inj' ht rfl).1
  ·rw[if_neg he,if_neg he,List.append_nil,List.append_nil]at ht
   exact ht
 ·intro h t
  have hn:nxt (prs a) e=nxt (prs b) e:=nxt_mem (fun p=>by rw[ZiP,ZiP,h]) e
  rw[ZeF,ZeF,h t,hn]
def Blind{T:Type}(F:List Ev->T):Prop:=∀(x y:List Ev) (e f:Ev),dep e f=false->F (x++e::f::y)=F (x++f::e::y)
theorem Blind.move{T:Type}{F:List Ev->T}(h:Blind F)(e:Ev)(y:List Ev):∀x:List Ev,(∀f∈y,dep e f=false)->F (x++e::y)=F (x++y++[e]):=by
 induction y with
 |nil=>intro x _;rw[List.append_nil]
 |cons f y ih=>
  intro x hy
  rw[h x y e f (hy f (by simp)),show x++f::e::y=(x++[f])++e::y by simp,ih (x++[f]) (fun g hg=>hy g (by simp[hg]))]
  congr 1
  simp
theorem Ziy(e:Ev)(y:List Ev):∀x:List Ev,(∀f∈y,dep e f=false)->Sim (x++e::y) (x++y++[e]):=by
 induction y with
 |nil=>intro x _;rw[List.append_nil];exact Sim.refl _
 |cons f y ih=>
  intro x hy
  have h1:Sim (x++e::f::y) (x++f::e::y):=Zix (hy f (by simp))
  have h2:=ih (x++[f]) (fun g hg=>hy g (by simp[hg]))
  rw[show(x++[f])++e::y=x++f::e::y by simp,show x++[f]++y++[e]=x++f::y++[e] by simp]at h2
  exact h1.trans h2
theorem ZlG{l:List Ev}{p:Ev × (Int->Nat)}(h:p∈prs l):∃i,i<l.length/\p=(evI l i,clk l i):=by
 unfold prs at h
 obtain⟨i,hi,e⟩:=List.mem_map.1 h
 exact⟨i,List.mem_range.1 hi,e.symm⟩
theorem prs_mem{l:List Ev}{i:Nat}(h:i<l.length):(evI l i,clk l i)∈prs l:=List.mem_map.2 ⟨i,List.mem_range.2 h,rfl⟩
theorem Zmn{l:List Ev}{k:Nat}(h:k<l.length):l=l.take k++evI l k::l.drop (k+1):=by
 conv=>lhs;rw[<-List.take_append_drop k l,List.drop_eq_getElem_cons h]
 rw[Za4 h]
theorem sim_last{a b:List Ev}{e:Ev}(h:Sim (a++[e]) b):∃x y,b=x++e::y/\∀f∈y,dep e f=false:=by
 have hp:psi (a++[e]) e.thread=psi a e.thread++[(e,nxt (prs a) e)]:=by rw[ZeF,if_pos rfl]
 have hq:=h e.thread
 have hl:=congrArg List.length hq
 have hN:cnt (isT (a++[e]) e.thread) (a++[e]).length=cnt (isT a e.thread) a.length+1:=by
  rw[<-Zcc,hp,List.length_append,Zcc]
  rfl
 rw[Zcc,Zcc,hN]at hl
 have hg:(psi b e.thread)[cnt (isT a e.thread) a.length]?=some (e,nxt (prs a) e):=by
  rw[<-hq,hp,List.getElem?_append_right (by rw[Zcc];exact Nat.le_refl _),Zcc,Nat.sub_self]
  rfl
 obtain⟨k,hk,hkt,hkc,hke⟩:=ZgB hg
 injection hke with hke _
 refine⟨b.take k,b.drop (k+1),by rw[hke];exact Zmn hk,fun f hf=>?_⟩
 cases hd:dep e f
 ·rfl
 ·exfalso
  obtain⟨m,hm,hfm⟩:=List.mem_iff_getElem.1 hf
  rw[List.length_drop]at hm
  have hj:k+1+m<b.length:=by omega
  have hfj:evI b (k+1+m)=f:=by rw[Za4 hj,<-hfm,List.getElem_drop]
  have hbj:hb b k (k+1+m)=true:=hb_dep (by omega) (by rw[<-hke,hfj];exact hd)
  have h1:=ZbL.1 hbj
  rw[Zkc,<-hke,hkc]at h1
  have hmem:(evI b (k+1+m),clk b (k+1+m))∈prs (a++[e]):=by rw[ZiP,h,<-ZiP];exact prs_mem hj
  obtain⟨i,hi,hie⟩:=ZlG hmem
  injection hie with hie1 hie2
  rw[hie2]at h1
  have h2:=Zfq (a++[e]) i e.thread
  rw[List.length_append,List.length_singleton]at hi
  rcases Nat.lt_or_eq_of_le (show i<=a.length by omega)with hia|hia
  ·have h3:=Zci (isT (a++[e]) e.thread) (show i+1<=a.length by omega)
   have h4:cnt (isT (a++[e]) e.thread) a.length=cnt (isT a e.thread) a.length:=ZcE _ fun j hj=>by unfold isT;rw[ZaZ hj]
   omega
  ·have he2:evI (a++[e]) i=e:=by rw[hia];unfold evI;simp[List.getD]
   rw[he2]at hie1
   have h5:isT b e.thread (k+1+m)=true:=Zcz.2 (by rw[hie1])
   have h6:=(show At b e.thread _ _ from⟨hj,h5,rfl⟩).lt
   have h7:=ZfP (isT b e.thread) (show k<k+1+m by omega) hkt
   omega
theorem psi_nil(t:Int):psi [] t=[]:=rfl
theorem Zgo{T:Type}(n:Nat):∀(a b:List Ev) (F:List Ev->T),a.length=n->Sim a b->Blind F->F a=F b:=by
 induction n with
 |zero=>
  intro a b F hn h _
  obtain rfl:=List.eq_nil_of_length_eq_zero hn
  rcases b with _|⟨e,b⟩
  ·rfl
  ·exfalso
   have h1:=Ze9 (l:=e::b) (t:=e.thread) (i:=0) (by simp) (Zcz.2 rfl)
   rw[<-h,psi_nil]at h1
   simp at h1
 |succ n ih=>
  intro a b F hn h hF
  have hne:a≠[]:=by rintro rfl;simp at hn
  obtain⟨a',e,rfl⟩:∃a' e,a=a'++[e]:=⟨a.dropLast,a.getLast hne,(List.dropLast_concat_getLast hne).symm⟩
  obtain⟨x,y,rfl,hy⟩:=sim_last h
  rw[hF.move e y x hy]
  have h2:Sim (a'++[e]) (x++y++[e]):=h.trans (Ziy e y x hy)
  have h3:=(Zmo a' (x++y) e).1 h2
  refine ih a' (x++y) (fun l=>F (l++[e])) (by simpa using hn) h3 (fun p q u v huv=>?_)
  have:=hF p (q++[e]) u v huv
  simpa using this
theorem dep_vars{s:St}{a b:Int}{i j:Ins}(hd:dep (s.ev a i) (s.ev b j)=false)(h1:i.kind=2)(h2:j.kind=1∨j.kind=2):i.x≠j.x:=by
 intro hx
 have e1:s.ev a i=⟨a,3,i.x,false⟩:=by simp[St.ev,h1]
 rw[e1]at hd
 rcases h2 with h2|h2
 ·have e2:s.ev b j=⟨b,2,j.x,false⟩:=by simp[St.ev,h2]
  rw[e2]at hd
  simp[dep,hx]at hd
 ·have e2:s.ev b j=⟨b,3,j.x,false⟩:=by simp[St.ev,h2]
  rw[e2]at hd
  simp[dep,hx]at hd
theorem ev_mut{s:St}{a:Int}{i:Ins}(h:i.kind=5∨(i.kind=6/\s.who i.x=a)):(s.ev a i).obj=i.x/\((s.ev a i).kind=4∨(s.ev a i).kind=5):=by
 rcases h with h|⟨h,hw⟩
 ·simp[St.ev,h]
 ·simp[St.ev,h,hw]
theorem Zga{s:St}{a b:Int}{i j:Ins}(hd:dep (s.ev a i) (s.ev b j)=false)(h1:i.kind=5∨(i.kind=6/\s.who i.x=a))(h2:j.kind=5∨(j.kind=6/\s.who j.x=b)):i.x≠j.x:=by
 intro hx
 obtain⟨o1,k1⟩:=ev_mut h1
 obtain⟨o2,k2⟩:=ev_mut h2
 unfold dep at hd
 rw[decide_eq_false_iff_not]at hd
 exact hd (.inr ⟨by rw[o1,o2,hx],.inr ⟨k1,k2⟩⟩)
theorem St.Ok.hold_do{F:Nat}{s:St}(h:s.Ok F){a b:Int}{i:Ins}(hi:s.ins a=some i)(hm:s.may a=true)(hab:a≠b)(hb:0<=b)(x:Int):((s.do_ a i).who x=b)↔(s.who x=b):=by
 rw[h.who_do hi x]
 split
 ·rename_i h5
  have:=St.may_free hi hm h5.1
  rw[St.who_eq h5.2]
  omega
 split
 ·rename_i h6
  rw[St.who_eq h6.2.2,h6.2.1]
  omega
 ·exact Iff.rfl
theorem St.ins_do{s:St}{a b:Int}{i:Ins}(hi:s.ins a=some i)(hb:s.has b)(hab:a≠b):(s.do_ a i).ins b=s.ins b:=by
 obtain⟨ha,_,_⟩:=St.ins_has hi
 have hl:(s.do_ a i).ts.length=s.ts.length:=by simp[St.do_]
 have hh:(s.do_ a i).has b↔s.has b:=by unfold St.has;rw[hl]
 have hth:(s.do_ a i).th b.toNat=s.th b.toNat:=by
  rw[St.th_do s a i ha,if_neg]
  unfold St.has at ha hb
  omega
 have hc:(s.do_ a i).code b.toNat=s.code b.toNat:=rfl
 unfold St.ins
 rw[hth,hc]
 by_cases hx:s.has b
 ·simp[hx,hh]
 ·simp[hx,hh]
theorem St.Ok.thr_do{F:Nat}{s:St}(h:s.Ok F){a b:Int}{i j:Ins}(hi:s.ins a=some i)(hj:s.ins b=some j)(hab:a≠b)(hd:dep (s.ev a i) (s.ev b j)=false):(s.do_ a i).thr b j=s.thr b j:=by
 obtain⟨ha,_,_⟩:=St.ins_has hi
 obtain⟨hb,_,_⟩:=St.ins_has hj
 have hth:(s.do_ a i).th b.toNat=s.th b.toNat:=by
  rw[St.th_do s a i ha,if_neg]
  unfold St.has at ha hb
  omega
 have hr:(s.do_ a i).reg b j=s.reg b j:=by unfold St.reg;rw[hth]
 have hv:j.kind=1->(s.do_ a i).var j.x=s.var j.x:=by
  intro h1
  rw[h.var_do hi j.x,if_neg]
  rintro⟨h2,hx⟩
  have:=dep_vars hd h2 (.inl h1)
  have:=(h.obj hi).1 (.inr h2)
  have:=(h.obj hj).1 (.inl h1)
  omega
 unfold St.thr
 rw[hth,hr]
 by_cases h1:j.kind=1
 ·rw[hv h1]
 ·simp[h1]
theorem St.Ok.may_do{F:Nat}{s:St}(h:s.Ok F){a b:Int}{i j:Ins}(hi:s.ins a=some i)(hj:s.ins b=some j)(hmb:s.may b=true)(hab:a≠b)(hd:dep (s.ev a i) (s.ev b j)=false):(s.do_ a i).may b=true:=by
 obtain⟨hb,_,_⟩:=St.ins_has hj
 have h1:=St.ins_do hi hb hab
 unfold St.may
 rw[h1,hj]
 simp only[decide_eq_true_eq]
 intro h5
 have hf:=St.may_free hj hmb h5
 rw[h.who_do hi]
 split
 ·rename_i hx
  have:=Zga hd (.inl hx.1) (.inl h5)
  have:=(h.obj hi).2.1 (.inl hx.1)
  have:=(h.obj hj).2.1 (.inl h5)
  omega
 split
 ·omega
 ·exact hf
theorem St.Ok.do_swap{F:Nat}{s:St}(h:s.Ok F){a b:Int}{i j:Ins}(hi:s.ins a=some i)(hj:s.ins b=some j)(hma:s.may a=true)(hmb:s.may b=true)(hab:a≠b)
  (hd:dep (s.ev a i) (s.ev b j)=false):(s.do_ a i).do_ b j=(s.do_ b j).do_ a i:=by
 obtain⟨ha,_,_⟩:=St.ins_has hi
 obtain⟨hb,_,_⟩:=St.ins_has hj
 have hd':dep (s.ev b j) (s.ev a i)=false:=by rw[Zch];exact hd
 have hn:a.toNat≠b.toNat:=by unfold St.has at ha hb;omega
 have t1:=h.thr_do hi hj hab hd
 have t2:=h.thr_do hj hi (Ne.symm hab) hd'
 have w1:=h.hold_do hi hma hab (by unfold St.has at hb;exact hb.1) j.x
 have w2:=h.hold_do hj hmb (Ne.symm hab) (by unfold St.has at ha;exact ha.1) i.x
 have r1:(s.do_ a i).reg b j=s.reg b j:=by
  unfold St.reg
  rw[St.th_do s a i ha,if_neg (Ne.symm hn)]
 have r2:(s.do_ b j).reg a i=s.reg a i:=by
  unfold St.reg
  rw[St.th_do s b j hb,if_neg hn]
 obtain⟨oi1,oi2,_⟩:=h.obj hi
 obtain⟨oj1,oj2,_⟩:=h.obj hj
 have ets:((s.do_ a i).do_ b j).ts=((s.do_ b j).do_ a i).ts:=by
  show(s.ts.set a.toNat (s.thr a i)).set b.toNat ((s.do_ a i).thr b j)=(s.ts.set b.toNat (s.thr b j)).set a.toNat ((s.do_ b j).thr a i)
  rw[t1,t2,List.set_comm _ _ hn]
 have ev:((s.do_ a i).do_ b j).v=((s.do_ b j).do_ a i).v:=by
  show(if j.kind=2 then (if i.kind=2 then s.v.set i.x.toNat (s.reg a i)else s.v).set j.x.toNat ((s.do_ a i).reg b j)else if i.kind=2 then s.v.set i.x.toNat (s.reg a i)else s.v) =
   (if i.kind=2 then (if j.kind=2 then s.v.set j.x.toNat (s.reg b j)else s.v).set i.x.toNat ((s.do_ b j).reg a i)else if j.kind=2 then s.v.set j.x.toNat (s.reg b j)else s.v)
  rw[r1,r2]
  by_cases h1:i.kind=2
  ·by_cases h2:j.kind=2
   ·have hne:=dep_vars hd h1 (.inr h2)
    have:=oi1 (.inr h1)
    have:=oj1 (.inr h2)
    simp only[h1,h2,if_true]
    exact List.set_comm _ _ (by omega)
   ·simp[h1,h2]
  ·by_cases h2:j.kind=2
   ·simp[h1,h2]
   ·simp[h1,h2]
 have em:((s.do_ a i).do_ b j).m=((s.do_ b j).do_ a i).m:=by
  show(if j.kind=5 then (s.do_ a i).m.set j.x.toNat b else if j.kind=6/\(s.do_ a i).who j.x=b then (s.do_ a i).m.set j.x.toNat (-1)else (s.do_ a i).m) =
   (if i.kind=5 then (s.do_ b j).m.set i.x.toNat a else if i.kind=6/\(s.do_ b j).who i.x=a then (s.do_ b j).m.set i.x.toNat (-1)else (s.do_ b j).m)
  have mi:(s.do_ a i).m=if i.kind=5 then s.m.set i.x.toNat a else if i.kind=6/\s.who i.x=a then s.m.set i.x.toNat (-1)else s.m:=rfl
  have mj:(s.do_ b j).m=if j.kind=5 then s.m.set j.x.toNat b else if j.kind=6/\s.who j.x=b then s.m.set j.x.toNat (-1)else s.m:=rfl
  simp only[w1,w2]
  rw[mi,mj]
  by_cases p:i.kind=5∨(i.kind=6/\s.who i.x=a)
  ·by_cases q:j.kind=5∨(j.kind=6/\s.who j.x=b)
   ·have hne:=Zga hd p q
    have:=oi2 (by omega)
    have:=oj2 (by omega)
    have hx:i.x.toNat≠j.x.toNat:=by omega
    rcases p with p|p
    ·rcases q with q|q
     ·simp only[p,q,if_true]
      exact List.set_comm _ _ hx
     ·simp[p,q]
      exact List.set_comm _ _ hx
    ·rcases q with q|q
     ·simp[p,q]
      exact List.set_comm _ _ hx
     ·simp[p,q]
      exact List.set_comm _ _ hx
   ·have q1:¬j.kind=5:=fun e=>q (.inl e)
    have q2:¬(j.kind=6/\s.who j.x=b):=fun e=>q (.inr e)
    simp only[q1,q2,if_false]
  ·have p1:¬i.kind=5:=fun e=>p (.inl e)
   have p2:¬(i.kind=6/\s.who i.x=a):=fun e=>p (.inr e)
   simp only[p1,p2,if_false]
 have ep:((s.do_ a i).do_ b j).p=((s.do_ b j).do_ a i).p:=rfl
 generalize (s.do_ a i).do_ b j=z at *
 generalize (s.do_ b j).do_ a i=z' at *
 cases z
 cases z'
 simp_all
theorem St.step_may{s:St}{t:Int}{i:Ins}(hi:s.ins t=some i)(hm:s.may t=true):s.step t=(0,s.ev t i,s.do_ t i):=by
 obtain⟨ht,_,_⟩:=St.ins_has hi
 unfold St.step
 rw[if_pos ht,hi]
 simp[hm]
theorem St.Ok.ev_do{F:Nat}{s:St}(h:s.Ok F){a b:Int}{i j:Ins}(hi:s.ins a=some i)(hj:s.ins b=some j)(hma:s.may a=true)(hab:a≠b):(s.do_ a i).ev b j=s.ev b j:=by
 obtain⟨hb,_,_⟩:=St.ins_has hj
 have h1:=h.next_do hi hma (Ne.symm hab)
 unfold St.next at h1
 rw[St.ins_do hi hb hab,hj]at h1
 simpa using h1
theorem St.Ok.swap{F:Nat}{s:St}(h:s.Ok F){a b:Int}{x y:Ev}(hx:s.next a=some x)(hy:s.next b=some y)(hma:s.may a=true)(hmb:s.may b=true)(hab:a≠b)(hd:dep x y=false):
  ∃c d z,s.step a=(0,x,c)/\c.step b=(0,y,z)/\s.step b=(0,y,d)/\d.step a=(0,x,z)/\c.Ok F/\d.Ok F/\z.Ok F:=by
 unfold St.next at hx hy
 obtain⟨i,hi,rfl⟩:=Option.map_eq_some_iff.1 hx
 obtain⟨j,hj,rfl⟩:=Option.map_eq_some_iff.1 hy
 have hd':dep (s.ev b j) (s.ev a i)=false:=by rw[Zch];exact hd
 obtain⟨ha,_,_⟩:=St.ins_has hi
 obtain⟨hb,_,_⟩:=St.ins_has hj
 have i1:=(St.ins_do hi hb hab).trans hj
 have i2:=(St.ins_do hj ha (Ne.symm hab)).trans hi
 refine⟨s.do_ a i,s.do_ b j,(s.do_ a i).do_ b j,St.step_may hi hma,?_,St.step_may hj hmb,?_,h.do_ok hi,h.do_ok hj,(h.do_ok hi).do_ok i1⟩
 ·rw[St.step_may i1 (h.may_do hi hj hmb hab hd),h.ev_do hi hj hma hab]
 ·rw[St.step_may i2 (h.may_do hj hi hma (Ne.symm hab) hd'),h.ev_do hj hi hmb (Ne.symm hab),h.do_swap hi hj hma hmb hab hd]
theorem St.ev_thread(s:St)(t:Int)(i:Ins):(s.ev t i).thread=t:=by
 unfold St.ev
 repeat' split
 all_goals rfl
theorem St.step_ok0{s:St}{t:Int}{e:Ev}{s1:St}(h:s.step t=(0,e,s1)):∃i,s.ins t=some i/\s.may t=true/\e=s.ev t i/\s1=s.do_ t i:=by
 rcases s.step_cases t with ⟨i,hi,hm,e1⟩|⟨c,hc,e1⟩
 ·rw[e1]at h
  injection h with _ h
  injection h with h1 h2
  exact⟨i,hi,hm,h1.symm,h2.symm⟩
 ·rw[e1]at h
  injection h with h _
  omega
theorem St.Ok.swap_back{F:Nat}{s:St}(h:s.Ok F){u t:Int}{e x:Ev}{s1 s2:St}(h1:s.step u=(0,e,s1))(h2:s1.step t=(0,x,s2))(hut:u≠t)(hd:dep e x=false):
  ∃d,s.step t=(0,x,d)/\d.step u=(0,e,s2)/\d.Ok F:=by
 obtain⟨i,hi,hm,rfl,rfl⟩:=St.step_ok0 h1
 obtain⟨j,hj,hmj,rfl,rfl⟩:=St.step_ok0 h2
 have hnx:=h.next_do hi hm (Ne.symm hut)
 obtain⟨hhas,_,_⟩:=St.ins_has hj
 have hl:(s.do_ u i).ts.length=s.ts.length:=by simp[St.do_]
 have hhas':s.has t:=by unfold St.has at hhas ⊢;rw[hl]at hhas;exact hhas
 have hj':s.ins t=some j:=by rw[<-St.ins_do hi hhas' hut];exact hj
 have hev:(s.do_ u i).ev t j=s.ev t j:=h.ev_do hi hj' hm hut
 rw[hev]at hd ⊢
 have hmt:s.may t=true:=by
  unfold St.may
  rw[hj']
  simp only[decide_eq_true_eq]
  intro h5
  have hf:=St.may_free hj hmj h5
  rw[h.who_do hi]at hf
  split at hf
  ·rename_i hx
   have:=Zga hd (.inl hx.1) (.inl h5)
   have:=(h.obj hi).2.1 (.inl hx.1)
   have:=(h.obj hj').2.1 (.inl h5)
   omega
  split at hf
  ·rename_i hx
   have:=Zga hd (.inr ⟨hx.1,hx.2.1⟩) (.inl h5)
   have:=(h.obj hi).2.1 (.inr hx.1)
   have:=(h.obj hj').2.1 (.inl h5)
   omega
  ·exact hf
 have hx:s.next u=some (s.ev u i):=by unfold St.next;rw[hi];rfl
 have hy:s.next t=some (s.ev t j):=by unfold St.next;rw[hj'];rfl
 obtain⟨c,d,z,s1',s2',s3',s4',_,okd,_⟩:=h.swap hx hy hm hmt hut hd
 refine⟨d,s3',?_,okd⟩
 rw[h1]at s1'
 injection s1' with _ q
 injection q with _ q
 subst q
 rw[h2]at s2'
 injection s2' with _ q
 injection q with _ q
 rw[s4',q]
def Ex:St->List Ev->St->Prop
 |s,[],z=>z=s
 |s,e::l,z=>∃s1,s.step e.thread=(0,e,s1)/\Ex s1 l z
theorem ZaV{a b:List Ev}:∀{s z:St},Ex s (a++b) z↔∃s1,Ex s a s1/\Ex s1 b z:=by
 induction a with
 |nil=>
  intro s z
  constructor
  ·intro h;exact⟨s,rfl,h⟩
  ·rintro⟨s1,rfl,h⟩;exact h
 |cons e a ih=>
  intro s z
  constructor
  ·rintro⟨s1,h1,h2⟩
   obtain⟨s2,h3,h4⟩:=ih.1 h2
   exact⟨s2,⟨s1,h1,h3⟩,h4⟩
  ·rintro⟨s2,⟨s1,h1,h3⟩,h4⟩
   exact⟨s1,h1,ih.2 ⟨s2,h3,h4⟩⟩
theorem ZcM{l:List Ev}:∀{s z z':St},Ex s l z->Ex s l z'->z=z':=by
 induction l with
 |nil=>intro s z z' h h';rw[h,h']
 |cons e l ih=>
  rintro s z z'⟨s1,h1,h2⟩⟨s2,h3,h4⟩
  rw[h1]at h3
  injection h3 with _ h3
  injection h3 with _ h3
  subst h3
  exact ih h2 h4
theorem Ex.ok{F:Nat}{l:List Ev}:∀{s z:St},Ex s l z->s.Ok F->z.Ok F:=by
 induction l with
 |nil=>intro s z h ok;rw[h];exact ok
 |cons e l ih=>
  rintro s z⟨s1,h1,h2⟩ ok
  have:=ok.step_ok e.thread
  rw[h1]at this
  exact ih h2 this
theorem ZaU{s:St}{t:Int}{e:Ev}{s1:St}(h:s.step t=(0,e,s1)):s.next t=some e/\s.may t=true/\e.thread=t:=by
 obtain⟨i,hi,hm,rfl,rfl⟩:=St.step_ok0 h
 exact⟨by unfold St.next;rw[hi];rfl,hm,St.ev_thread _ _ _⟩
theorem next_step{s:St}{t:Int}{e:Ev}(h:s.next t=some e)(hm:s.may t=true):∃s1,s.step t=(0,e,s1):=by
 unfold St.next at h
 obtain⟨i,hi,rfl⟩:=Option.map_eq_some_iff.1 h
 exact⟨_,St.step_may hi hm⟩
theorem Zcu{s:St}{t:Int}{e:Ev}(h:s.next t=some e):e.thread=t:=by
 unfold St.next at h
 obtain⟨i,hi,rfl⟩:=Option.map_eq_some_iff.1 h
 exact St.ev_thread _ _ _
theorem ZcV{s:St}{t:Int}{e:Ev}{s1:St}(h:s.step t=(0,e,s1)):s1.fuel+1=s.fuel:=by
 obtain⟨i,hi,hm,rfl,rfl⟩:=St.step_ok0 h
 exact St.fuel_do hi
theorem ZkL{e f:Ev}(h:dep e f=false):e.thread≠f.thread:=by
 intro he
 rw[Zb0 he]at h
 cases h
theorem ZeY{e f:Ev}(h:dep e f=false):dep f e=false:=by rw[Zch];exact h
theorem ex_two{F:Nat}{s z:St}{e f:Ev}{y:List Ev}(ok:s.Ok F)(hd:dep e f=false)(h:Ex s (e::f::y) z):Ex s (f::e::y) z:=by
 obtain⟨s1,h1,s2,h2,h3⟩:=h
 obtain⟨d,hd1,hd2,_⟩:=ok.swap_back h1 h2 (ZkL hd) hd
 exact⟨d,hd1,s2,hd2,h3⟩
theorem ex_blind{F:Nat}{s:St}(ok:s.Ok F)(z:St):Blind (fun l=>Ex s l z):=by
 intro x y e f hd
 dsimp only
 apply propext
 rw[ZaV,ZaV]
 constructor
 ·rintro⟨s1,h1,h2⟩;exact⟨s1,h1,ex_two (h1.ok ok) hd h2⟩
 ·rintro⟨s1,h1,h2⟩;exact⟨s1,h1,ex_two (h1.ok ok) (ZeY hd) h2⟩
theorem ex_sim{F:Nat}{s z:St}{a b:List Ev}(ok:s.Ok F)(h:Sim a b):Ex s a z↔Ex s b z:=by
 have:=Zgo _ a b (fun l=>Ex s l z) rfl h (ex_blind ok z)
 exact iff_of_eq this
theorem sim_length{a b:List Ev}(h:Sim a b):a.length=b.length:=Zgo _ a b List.length rfl h (fun x y e f _=>by simp)
theorem Ziz(e:Ev){a b:List Ev}(h:Sim a b):Sim (e::a) (e::b):=by
 intro t
 exact Zgo _ a b (fun l=>psi (e::l) t) rfl h (fun x y u v hd=>Zix (x:=e::x) hd t)
theorem ZjL{a b:List Ev}(h:Sim a b)(y:List Ev):Sim (a++y) (b++y):=by
 intro t
 exact Zgo _ a b (fun l=>psi (l++y) t) rfl h (fun x z u v hd=>by
  dsimp only
  rw[show(x++u::v::z)++y=x++u::v::(z++y) by simp,show(x++v::u::z)++y=x++v::u::(z++y) by simp]
  exact Zix hd t)
theorem ZjM{a b:List Ev}{p:Ev}(h:∀x∈a,dep p x=false):Sim (a++p::b) (p::(a++b)):=by
 have h1:=ZjL (Ziy p a [] h) b
 rw[List.nil_append,List.nil_append]at h1
 rw[show a++[p]++b=a++p::b by simp,show p::a++b=p::(a++b) by simp]at h1
 exact h1.symm
theorem Zi6{F:Nat}{l:List Ev}{u:Int}:∀{s z:St},s.Ok F->Ex s l z->(∀x∈l,x.thread≠u)->z.next u=s.next u:=by
 induction l with
 |nil=>intro s z _ h _;rw[h]
 |cons e l ih=>
  rintro s z ok⟨s1,h1,h2⟩ hu
  have ok1:=ok.step_ok e.thread
  have hn:=ok.next_step e.thread (u:=u) (Ne.symm (hu e (by simp)))
  rw[h1]at ok1 hn
  rw[ih ok1 h2 (fun x hx=>hu x (by simp[hx]))]
  exact hn
theorem ex_comm{F:Nat}{t:Int}{p:Ev}{w:List Ev}:∀{s z:St},s.Ok F->s.next t=some p->s.may t=true->Ex s w z->(∀x∈w,dep p x=false) ->
  z.next t=some p/\z.may t=true/\∃z',Ex s (p::w) z'/\Ex s (w++[p]) z':=by
 induction w with
 |nil=>
  intro s z _ hn hm h _
  obtain rfl:z=s:=h
  obtain⟨s1,h1⟩:=next_step hn hm
  have ht:=Zcu hn
  subst ht
  exact⟨hn,hm,s1,⟨s1,h1,rfl⟩,⟨s1,h1,rfl⟩⟩
 |cons x w ih=>
  rintro s z ok hn hm⟨s1,h1,h2⟩ hd
  have ht:=Zcu hn
  subst ht
  have hdx:=hd x (by simp)
  obtain⟨hxn,hxm,_⟩:=ZaU h1
  obtain⟨c,d,z2,a1,a2,a3,a4,okc,_,_⟩:=ok.swap hxn hn hxm hm (ZkL (ZeY hdx)) (ZeY hdx)
  rw[h1]at a1
  injection a1 with _ a1
  injection a1 with _ a1
  subst a1
  obtain⟨n1,m1,_⟩:=ZaU a2
  obtain⟨r1,r2,z',r3,r4⟩:=ih okc n1 m1 h2 (fun y hy=>hd y (by simp[hy]))
  exact⟨r1,r2,z',ex_two ok (ZeY hdx) ⟨s1,h1,r3⟩,⟨s1,h1,r4⟩⟩
def Ini(t:Int)(w:List Ev):Prop:=∃a p b,w=a++p::b/\p.thread=t/\∀x∈a,dep p x=false
theorem Zby(s a:List Ev)(i:Nat):evI (s++a) (s.length+i)=evI a i:=by
 unfold evI
 simp only[List.getD]
 rw[List.getElem?_append_right (by omega),Nat.add_sub_cancel_left]
theorem Zi1(s a:List Ev){j:Nat}:∀{i:Nat},hb (s++a) (s.length+i) (s.length+j)=true↔hb a i j=true:=by
 induction j using Nat.strongRecOn with
 |_ j ih=>
  intro i
  rw[ZdN,ZdN]
  constructor
  ·rintro (h|⟨m,hm,hd,h⟩)
   ·exact .inl (by omega)
   ·have hle:=hb_le h
    obtain⟨m',rfl⟩:∃m',m=s.length+m':=⟨m-s.length,by omega⟩
    rw[Zby,Zby]at hd
    exact .inr ⟨m',by omega,hd,(ih m' (by omega)).1 h⟩
  ·rintro (h|⟨m,hm,hd,h⟩)
   ·exact .inl (by omega)
   ·refine .inr ⟨s.length+m,by omega,?_,(ih m hm).2 h⟩
    rw[Zby,Zby]
    exact hd
theorem hb_first{p:Ev}{w y:List Ev}(h:∀x∈w,dep p x=false){m:Nat}:m<w.length->hb (p::(w++y)) 0 (m+1)=false:=by
 induction m using Nat.strongRecOn with
 |_ m ih=>
  intro hm
  cases hh:hb (p::(w++y)) 0 (m+1)
  ·rfl
  ·exfalso
   rcases (ZdN _ _ _).1 hh with h0|⟨i,hi,hd,h1⟩
   ·omega
   ·rcases i with _|i
    ·have e1:evI (p::(w++y)) 0=p:=rfl
     have e2:evI (p::(w++y)) (m+1)=evI w m:=by
      have:evI (p::(w++y)) (m+1)=evI (w++y) m:=rfl
      rw[this,ZaZ hm]
     rw[e1,e2,h _ (evI_mem hm)]at hd
     cases hd
    ·rw[ih i (by omega) (by omega)]at h1
     cases h1
def bitsL(n:Nat):List Nat:=(List.range 8).filter fun t=>n.testBit t
def ZfQ(nx:Int->Option Ev)(asl ear:Nat)(t:Int)(u:Nat):Bool:=match nx t with
 |none=>false
 |some e=>match nx (u:Int)with
  |none=>false
  |some x=>decide ((u:Int)≠t)&&(asl.testBit u||ear.testBit u) && !dep x e
def Zet(nx:Int->Option Ev)(asl ear:Nat)(t:Int)(k:Nat):List Nat:=(List.range k).filter (ZfQ nx asl ear t)
def childB(s:St)(asl ear:Nat)(t:Int)(u:Nat):Bool:=ZfQ s.next asl ear t u
theorem childB_iff{s:St}{asl ear:Nat}{t:Int}{u:Nat}:childB s asl ear t u=true↔∃e x,s.next t=some e/\s.next (u:Int)=some x/\(u:Int)≠t/\(asl.testBit u||ear.testBit u)=true/\dep x e=false:=by
 unfold childB ZfQ
 cases h1:s.next t with
 |none=>simp
 |some e=>
  cases h2:s.next (u:Int)with
  |none=>simp
  |some x=>
   simp only[Bool.and_eq_true,decide_eq_true_eq,Bool.not_eq_true',Option.some.injEq]
   constructor
   ·rintro⟨⟨h3,h4⟩,h5⟩
    exact⟨e,x,rfl,rfl,h3,h4,h5⟩
   ·rintro⟨e',x',rfl,rfl,h3,h4,h5⟩
    exact⟨⟨h3,h4⟩,h5⟩
end Go.Proofs.YtjfmmnhcddckaaaGreat
namespace Go.Proofs.YtjfmmnhcddckaaaGreat
open Go.RowKit
def ints(l:List Nat):List Int:=l.map fun(i:Nat)=>(i:Int)
theorem Zdg(l:List Nat):(ints l).length=l.length:=by simp[ints]
theorem ownN_low{w:World}{B A:Nat}{v:Value}{l:List Int}(h:OwnN w B v l)(hA:A<=B):OwnN w A v l:=by
 obtain⟨h1,h2|⟨g,cap,cur,h2,h3,h4⟩⟩:=h
 ·exact⟨h1,.inl h2⟩
 ·exact⟨h1,.inr ⟨g,cap,cur,h2,by omega,h4⟩⟩
theorem ints_app(a b:List Nat):ints (a++b)=ints a++ints b:=by simp[ints]
theorem ints_get{l:List Nat}{i:Nat}(h:i<l.length):(ints l)[i]'(by rw[Zdg];exact h)=(l[i]:Int):=by simp[ints]
theorem ZeP{l:List Nat}{i:Nat}:(i:Int)∈ints l↔i∈l:=by
 unfold ints
 rw[List.mem_map]
 constructor
 ·rintro⟨j,hj,e⟩
  have:j=i:=by omega
  subst this
  exact hj
 ·intro h
  exact⟨i,h,rfl⟩
end Go.Proofs.YtjfmmnhcddckaaaGreat
namespace Go.Proofs.YtjfmmnhcddckaaaGreat
def Zbl(t:Int):Nat:=if 0<=t/\t<8 then 2^t.toNat else 0
theorem ZdR(t:Int):Zbl t<256:=by
 unfold Zbl
 split
 ·rename_i h
  have h8:t.toNat<8:=by omega
  exact Nat.pow_lt_pow_right (a:=2) (n:=8) (by omega) h8
 ·omega
theorem Zez{t:Int}{i:Nat}(hi:i<8):(Zbl t).testBit i=decide (t=i):=by
 unfold Zbl
 split
 ·rename_i h
  rw[Nat.testBit_two_pow]
  by_cases e:t=i
  ·subst e;simp
  ·have e2:¬(t.toNat=i):=by omega
   simp[e,e2]
 ·rename_i h
  rw[Nat.zero_testBit]
  symm
  simp only[decide_eq_false_iff_not]
  omega
def hasB(n:Nat)(t:Int):Bool:=decide (0<=t/\t<8)&&n.testBit t.toNat
theorem Za2(n:Nat){i:Nat}(hi:i<8):hasB n (i:Int)=n.testBit i:=by
 unfold hasB
 have h:(0:Int)<=i/\(i:Int)<8:=by omega
 simp[h]
theorem and_alone(n:Nat)(t:Int):(n&&&Zbl t=0)↔hasB n t=false:=by
 unfold hasB
 by_cases h:0<=t/\t<8
 ·have e:Zbl t=2^t.toNat:=by unfold Zbl;rw[if_pos h]
  rw[e]
  simp only[h,and_self,decide_true,Bool.true_and]
  constructor
  ·intro h0
   have:=congrArg (fun m=>Nat.testBit m t.toNat) h0
   simpa [Nat.testBit_and,Nat.testBit_two_pow]using this
  ·intro h0
   apply Nat.eq_of_testBit_eq
   intro j
   rw[Nat.testBit_and,Nat.testBit_two_pow,Nat.zero_testBit]
   by_cases e:t.toNat=j
   ·subst e;simp[h0]
   ·simp[e]
 ·have e:Zbl t=0:=by unfold Zbl;rw[if_neg h]
  rw[e]
  simp[h]
def wt(n:Nat)(t:Int):Nat:=n|||Zbl t
def wl(n:Nat)(t:Int):Nat:=wo n (Zbl t)
theorem ZfG{n m:Nat}(hn:n<256)(hm:m<256):n|||m<256:=Nat.or_lt_two_pow (n:=8) hn hm
theorem wt_lt{n:Nat}(hn:n<256)(t:Int):wt n t<256:=ZfG hn (ZdR t)
theorem wl_lt{n:Nat}(hn:n<256)(t:Int):wl n t<256:=wo_lt _ _ hn
theorem Ze6{n:Nat}{t:Int}{i:Nat}(hi:i<8):(wt n t).testBit i=(n.testBit i||decide (t=i)):=by
 unfold wt
 rw[Nat.testBit_or,Zez hi]
theorem testBit_wl{n:Nat}(hn:n<256){t:Int}{i:Nat}(hi:i<8):(wl n t).testBit i=(n.testBit i && !decide (t=i)):=by
 unfold wl
 rw[ZaY hn (ZdR t),Zez hi]
def ofN(l:List Int):Nat:=l.foldl wt 0
theorem ZlW(l:List Int):∀{n:Nat},n<256->l.foldl wt n<256:=by
 induction l with
 |nil=>intro n h;exact h
 |cons t l ih=>intro n h;exact ih (wt_lt h t)
theorem Zdp(l:List Int):ofN l<256:=ZlW l (by omega)
theorem ofN_snoc(l:List Int)(t:Int):ofN (l++[t])=wt (ofN l) t:=by
 unfold ofN
 rw[List.foldl_append]
 rfl
theorem Zil(l:List Int){i:Nat}(hi:i<8):∀n:Nat,(l.foldl wt n).testBit i=(n.testBit i||decide ((i:Int)∈l)):=by
 induction l with
 |nil=>intro n;simp
 |cons t l ih=>
  intro n
  rw[List.foldl_cons,ih,Ze6 hi]
  by_cases e:t=(i:Int)
  ·subst e;simp
  ·have e2:¬((i:Int)=t):=fun h=>e h.symm
   simp[e,e2]
theorem Zbf(l:List Int){i:Nat}(hi:i<8):(ofN l).testBit i=decide ((i:Int)∈l):=by
 unfold ofN
 rw[Zil l hi]
 simp
def Zdr(n k:Nat):List Nat:=(List.range k).filter fun t=>n.testBit t
theorem bitsTo_yes{n k:Nat}(h:n.testBit k=true):Zdr n (k+1)=Zdr n k++[k]:=by
 unfold Zdr
 rw[List.range_succ,List.filter_append]
 simp[h]
theorem bitsTo_no{n k:Nat}(h:n.testBit k=false):Zdr n (k+1)=Zdr n k:=by
 unfold Zdr
 rw[List.range_succ,List.filter_append]
 simp[h]
theorem Zia(n k:Nat):(Zdr n k).length<=k:=by
 unfold Zdr
 refine Nat.le_trans (List.length_filter_le _ _) ?_
 rw[List.length_range]
 exact Nat.le_refl _
theorem Ze0(n:Nat):(bitsL n).length<=8:=Zia n 8
theorem ZeK{n i:Nat}:i∈bitsL n↔i<8/\n.testBit i=true:=by
 unfold bitsL
 rw[List.mem_filter,List.mem_range]
theorem of_bits{n:Nat}(hn:n<256):ofN (ints (bitsL n))=n:=by
 refine set_ext (Zdp _) hn fun i hi=>?_
 rw[Zbf _ hi]
 have h:((i:Int)∈ints (bitsL n))↔n.testBit i=true:=by
  rw[ZeP,ZeK]
  exact⟨fun h=>h.2,fun h=>⟨hi,h⟩⟩
 cases hb:n.testBit i
 ·rw[decide_eq_false_iff_not,h,hb];exact Bool.false_ne_true
 ·rw[decide_eq_true_eq,h,hb]
end Go.Proofs.YtjfmmnhcddckaaaGreat
namespace Go.Proofs.YtjfmmnhcddckaaaGreat
open Go.RowKit
theorem Zc6(n e:Int)(w:World):Calls Tryz.prog 131 #[.int .i64 n,.int .i64 e] w fun r w'=>r=.returned (.bool (ZaM n e))/\w=w':=by
 go_enter Tryz.func131,Tryz.ntmps131
 go_wp2
 all_goals
  go_ret
  refine⟨Zag ?_,rfl⟩
  simp[ZaM]
  try omega
theorem Zhl(V M size:Int)(hs:0<=size)(hs2:size<=1000)(t:Value)(i:Ins)(w:World):
  Calls Tryz.prog 172 #[.agg #[.int .i64 V,.int .i64 M,t],.int .i64 size,insV i] w fun r w'=>r=.returned (.bool (ZaN V M size i))/\Below w.heap.size w w':=by
 obtain⟨k,ri,x,n⟩:=i
 unfold insV
 dsimp only
 go_enter Tryz.func172,Tryz.ntmps172
 go_wp2_with (go_at_call 131;refine(Zc6 _ _ _).mono ?_;rintro r w' ⟨rfl,rfl⟩)
 all_goals
  go_ret
  refine⟨Zag ?_,Zak _ _ _⟩
  simp[ZaM]at *
  rw[Bool.eq_iff_iff]
  simp[ZaN, *]
  try omega
end Go.Proofs.YtjfmmnhcddckaaaGreat
