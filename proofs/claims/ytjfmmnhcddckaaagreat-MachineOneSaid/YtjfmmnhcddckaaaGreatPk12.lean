import Derived.Shelf.SlSortCmp.NoneTotal
import Derived.StillTail
import Derived.Test.YtjfmmnhcddckaaaGreatPk11
set_option maxRecDepth 100000
set_option maxHeartbeats 8000000
namespace Go.Proofs.YtjfmmnhcddckaaaGreat
open Go.Proofs.Tryz Go.RowKit Go.Shelf
def fM(L:Nat)(w w':World):Prop:=w.heap.size<=w'.heap.size/\∀(b:Nat) (o:Obj),w.heap[b]?=some o->b≠L->(∀(c:Array Value) (d:Nat × Nat),o≠Obj.cells c 137 d)->w'.heap[b]?=some o
theorem fM.refl(L:Nat)(w:World):fM L w w:=⟨Nat.le_refl _,fun _ _ h _ _=>h⟩
theorem fM.trans{L:Nat}{a b c:World}(h:fM L a b)(k:fM L b c):fM L a c:=⟨Nat.le_trans h.1 k.1,fun i o f d e=>k.2 i o (h.2 i o f d e) d e⟩
theorem fM.of_below{L:Nat}{w w':World}(h:Below w.heap.size w w'):fM L w w':=⟨h.size,fun b _ a _ _=>(h.block b (Array.getElem?_eq_some_iff.1 a).1).trans a⟩
theorem fM.set(L:Nat)(w:World)(o:Nat)(v:Value):fM L w (w.setCell ⟨L,o,none⟩ v):=
 ⟨((Only.refl L w).setCell o v).size,fun b _ a c _=>(((Only.refl L w).setCell o v).block b (Array.getElem?_eq_some_iff.1 a).1 c).trans a⟩
theorem fM.grown{L B n m:Nat}{w w':World}{v:Value}{c:List Value}(d:w.ownsRow B 137 n v m c)(h:w.grownBy w' v.ownBlock):fM L w w':=by
 refine⟨h.size,fun b o a _ f=>(h.block b (Array.getElem?_eq_some_iff.1 a).1 fun e=>?_).trans a⟩;obtain⟨_,⟨rfl,_⟩|⟨g,k,l,rfl,_,i,_⟩⟩:=d
 ·simp[Value.ownBlock]at e
 ·have j:b=g:=by simpa [Value.ownBlock]using e
  subst j;rw[i]at a;injection a with a;exact f _ _ a.symm
theorem fM.mid{L:Nat}{w w':World}(h:fM L w w'){b:Nat}{t:TypeId}{xs:List Value}(a:dm w b t xs)(hb:b≠L)(c:t≠137):dm w' b t xs:=
 h.2 b _ a hb fun d f e=>by injection e with _ e2 _;exact c e2
theorem vZ(L:Nat)(w:World){β:Type}:OwnFrom w.heap.size (fun(_:β) W=>fM L w W):=fun _ X Y i a d f=>
 ⟨Nat.le_trans a.1 d.size,fun b o c g h=>(d.block b (Nat.lt_of_lt_of_le (Array.getElem?_eq_some_iff.1 c).1 a.1) (fun e=>by
  have:=(f b e.symm).1;have:=(Array.getElem?_eq_some_iff.1 c).1
  omega)).trans (a.2 b o c g h)⟩
def ki(w:World)(B L:Nat)(t:Int)(dP:List Nat):Prop:=∃v,Boxed w L 134 v/\dc w B 137 2 eN v (fV t dP)
theorem vA:134≠137:=by decide
theorem ki.later{w w':World}{B L:Nat}{t:Int}{dP:List Nat}(h:ki w B L t dP)(hb:Below w.heap.size w w'):ki w' B L t dP:=by
 obtain⟨v,a,b⟩:=h;exact⟨v,(hb.block L a.lt).trans a,b.later hb⟩
theorem wV(B L:Nat)(t:Int){β:Type}(f:β->List Nat):Own (fun s W=>ki W B L t (f s)):=by
 intro s X Y l k d h;obtain⟨v,i,j⟩:=k;refine⟨v,i.kept d (fun e=>?_),World.ownsRow.kept j d ?_⟩
 ·obtain⟨o,a,b⟩:=h L e.symm
  rw[show X.heap[L]?=_ from i]at a
  cases a
  cases b
 ·obtain⟨_,⟨rfl,_⟩|⟨g,m,n,rfl,_,c,_⟩⟩:=j
  ·exact .inl rfl
  ·refine .inr fun e=>?_
   obtain⟨o,a,b⟩:=h g (by simpa [Value.ownBlock]using e.symm);rw[c]at a
   cases a
   cases b
theorem ki.more{W a:World}{B L:Nat}{t:Int}{dP:List Nat}{at_:Nat}{v b:Value}{c:Obj}(h1:Boxed W L 134 v)(h2:dc W B 137 2 eN v (fV t dP))(f:B<=W.heap.size)(g:B<=L)
  (h:dc a B 137 2 eN b (fV t dP++[(at_,t)])) (d:(W.alloc c).grownBy a v.ownBlock):
  ki (a.setCell ⟨L,0,none⟩ b) B L t (dP++[at_])/\fM L W (a.setCell ⟨L,0,none⟩ b)/\KeepsOthers W (a.setCell ⟨L,0,none⟩ b)/\Below B W (a.setCell ⟨L,0,none⟩ b)/\a.cell? ⟨L,0,none⟩=some v/\a.frozen? ⟨L,0,none⟩=false:=by
 obtain⟨e,i,j,k,l⟩:=Boxed.appended h1 vA h2 f g h d;refine⟨⟨b,i,?_⟩,?_,k,l,e.cell,e.frozen⟩
 ·unfold fV at *
  rw[List.map_append];exact j
 ·exact(fM.of_below (da W c)).trans ((fM.grown (dc.alloc h2 c) d).trans (fM.set L a 0 b))
def iK(B:Nat)(a:List Deferred)(W:World):Prop:=a.Pairwise (·≠·)/\∀d∈a,∃D,d={ target:=.collected D,args:=#[] }/\B<=D/\W.heap[D]?=some (.deferred (some []))
theorem Iq(B:Nat)(W:World):iK B [] W:=⟨List.Pairwise.nil,fun _ h=>absurd h (by simp)⟩
theorem iK.kept{B:Nat}{a:List Deferred}{W b:World}(h:iK B a W)(e:∀D,B<=D->W.heap[D]?=some (.deferred (some []))->b.heap[D]?=some (.deferred (some []))):iK B a b:=
 ⟨h.1,fun d f=>by obtain⟨D,g,c,i⟩:=h.2 d f;exact⟨D,g,c,e D c i⟩⟩
theorem iK.stay{B L:Nat}{b:List Deferred}{W c:World}{t:TypeId}{v:Value}(h:iK B b W)(d:fM L W c)(f:Boxed W L t v):iK B b c:=
 h.kept fun D _ a=>d.2 D _ a (fun e=>by subst e;rw[show W.heap[D]?=_ from f]at a;cases a) (fun g i e=>by cases e)
theorem iK.more{B D:Nat}{c:List Deferred}{W0 W:World}(f:iK B c W0)(h:iK B c W)(k:W0.heap.size<=D)(g:B<=D)(i:W.heap[D]?=some (.deferred (some []))):iK B ({ target:=.collected D,args:=#[] } :: c) W:=by
 refine⟨List.pairwise_cons.2 ⟨fun d a e=>?_,h.1⟩,fun d a=>?_⟩
 ·obtain⟨l,b,_,j⟩:=f.2 d a
  rw[<-e]at b;injection b with b;injection b with b;have:=(Array.getElem?_eq_some_iff.1 j).1;omega
 ·rcases List.mem_cons.1 a with rfl|a
  ·exact⟨D,rfl,g,i⟩
  ·exact h.2 d a
theorem Ji{F:Fence}{n:Nat}{P:Program}{g:Func}{tmps:Array Value}{R:Ending->World->Prop}(B:Nat)(G:World->Prop)(m:∀W D o,G W->B<=D->W.heap[D]?=some o->o.isCells=false->G (W.putObj D (.deferred none)))
  (c:∀W,G W->∃v,(results g tmps).run P W=.ok v W/\R (.returned v) W):∀(a:List Deferred) (W:World),iK B a W->G W->LeavesInM F n P g tmps R a .returning W:=by
 intro a
 induction a with
 |nil=>intro W _ h;exact c W h
 |cons d a p=>
  intro W f h;obtain⟨D,rfl,q,i⟩:=f.2 _ List.mem_cons_self;have j:=List.pairwise_cons.1 f.1;refine⟨by simp,.inl ⟨D,_,rfl,run_takeDeferred i,p _ ⟨j.2,fun k b=>?_⟩ (m W D _ h q i rfl)⟩⟩;obtain⟨r,e,s,t⟩:=f.2 k (List.mem_cons_of_mem _ b);refine⟨r,e,s,(World.putObj_heap_other (fun u=>?_)).trans t⟩;have l:=j.1 k b;rw[e,u]at l;exact l rfl
theorem BL{F:Fence}{n:Nat}{w:World}{d:Array Oper}{rest:List Oper}{o:Oper}{a:Act}{Q:Exit->Act->World->Prop}(r:o.guard=none)(s x:Operand)
  (z:o.op=.call { callee:=.builtin .append,args:=#[s,x],argTypes:=#[134,134] }) (B:Nat) (v:Value) (l:List (Nat × Int)) (A:a.eval s=v) (g:dc w B 137 2 eN v l)
  (q:Addr) (hx:a.eval x=.slice (some q) 1 1) (e:Nat × Int) (b:∀j u,(eN e)[j]?=some u->w.cell? (q.add j)=some u) (y:l.length<=1000000) (C:B<=w.heap.size)
  (h:∀p c,dc c B 137 2 eN p (l++[e])->w.grownBy c v.ownBlock->wpListIn F n prog d Q rest (a.put o.dst p) c):wpListIn F n prog d Q (o::rest) a w:=by
 obtain⟨i,D,f⟩:=Option.map_eq_some_iff.1 zm;simp only[Prod.mk.injEq]at f;obtain⟨t,k,m⟩:=f
 refine wpListIn_append_own w r s x 134 z B 137 i _ 2 16 underlying134 D t k m rfl (by decide) v l.length (dA eN l) A g q 1 1 (eN e) hx rfl b
  (wU _) (by unfold maxLen;omega) (by omega) C ?_
 intro p c E G _;refine h p c ?_ G;unfold dc;rw[List.length_append,pN,uN];exact E
theorem fD.last{n k:Nat}{a:List (Fin n)}{q:Fin n}(h:fD n k (a++[q])):∃b,k=b+1/\fD n b a/\q.val=n-1-b:=by
 have c:=h.len;rw[List.length_append,List.length_singleton]at c
 obtain⟨b,rfl⟩:∃b,k=b+1:=⟨a.length,by omega⟩
 have d:(a++[q]).map (fun q=>q.val)=jT (fun k=>n-1-k) (b+1):=h;rw[List.map_append,rY]at d;obtain⟨e,f⟩:=List.append_inj' d rfl;exact⟨b,rfl,e,by simpa using f⟩
theorem wT{ps:List (Nat × Nat)}{c k:Nat}{d:List (Fin ps.length)}(p:ps.Pairwise (fun a b=>a.2<b.2))(hb:fD ps.length k d)(f:k<=ps.length)(h1:∀q∈d,c<(ps[q.val]).2)
  (h2:∀h:k<ps.length,(ps[ps.length-1-k]).2<=c):mq c ps=d.map fun q=>(ps[q.val]).1:=by
 have l:∀i (h:i<ps.length),ps.reverse.getD i (0,0)=ps[ps.length-1-i]:=by
  intro i m;simp[List.getD,m]
 rw[Fr p f (fun i m=>by
  rw[l i (by omega)]
  exact h1 ⟨ps.length-1-i,by omega⟩ (hb.mem (by omega) (by omega) f)) (fun h=>by rw[l k h];exact h2 h)]
 apply List.ext_getElem
 ·simp[hb.len,f]
 ·intro i t g
  have e:i<d.length:=by simpa using g
  have j:i<k:=by rw[<-hb.len];exact e
  have r:(d[i]).val=ps.length-1-i:=by
   have s:d.map (fun q=>q.val)=jT (fun k=>ps.length-1-k) k:=hb;have n:=congrArg (fun z=>z[i]?) s;simp[jT,e,j]at n;exact n
  simp only[List.getElem_map,List.getElem_take,List.getElem_reverse,r]
theorem JG{w:World}{n b:Nat}(c:n<=w.heap.size)(hb:b<w.heap.size):∀(W:World) (l:Nat) (o a:Obj),w.heap.size<=l->W.heap[l]?=some o->o.isCells=false->o.isWalk=false->kO n b W (W.putObj l a):=
 fun W l o a d e f g=>⟨belowK_b c W l o a d e f g,World.putObj_heap_other (by omega)⟩
theorem fM.box{L:Nat}{w w':World}(h:fM L w w'){b:Nat}{e:Ev}(a:eo w b e)(hb:b≠L):eo w' b e:=
 h.2 b _ a hb fun d f c=>by injection c with _ e2 _;revert e2;decide
theorem Fl(ls:Int->Int->Nat)(gs:List Gp)(e:Ev)(k:Nat):(fG ls (gs.take k) e).length<=(fG ls gs e).length:=by
 have h:fG ls gs e=fG ls (gs.take k) e++fG ls (gs.drop k) e:=by
  unfold fG;rw[<-List.flatMap_append,List.take_append_drop]
 rw[h,List.length_append];omega
end Go.Proofs.YtjfmmnhcddckaaaGreat
namespace Go.Proofs
open Go.Shelf
def Tryz.sortRace_ren : Go.Shelf.Ren := ⟨fun | 6 => 160 | 15 => 94 | 14 => 186 | 28 => 149 | 29 => 150 | 20 => 205 | 21 => 206 | 22 => 207 | 23 => 208 | 24 => 209 | 25 => 210 | 26 => 211 | 27 => 212 | 46 => 219 | 47 => 177 | 48 => 178 | 49 => 220 | 50 => 221 | 57 => 223 | n => n, fun | 22 => 134 | 24 => 137 | 25 => 250 | 3 => 3 | 39 => 26 | 0 => 0 | 53 => 232 | 55 => 208 | 4 => 4 | 46 => 224 | 45 => 223 | 50 => 229 | 5 => 5 | 9 => 9 | 66 => 266 | 70 => 270 | 76 => 290 | 77 => 291 | n => n, fun | n => n⟩
theorem Tryz.sortRace : Go.Proofs.SlLaysF0.n6 Tryz.prog Tryz.sortRace_ren := {
  mixed := by kernel_rfl
  f6 := ⟨Tryz.f160.name, by decide, Tryz.func160.trans (congrArg some (by kernel_rfl))⟩
  f14 := ⟨Tryz.f186.name, by decide, Tryz.func186.trans (congrArg some (by kernel_rfl))⟩
  f15 := Tryz.func94.trans (congrArg some (by kernel_rfl))
  f20 := ⟨Tryz.f205.name, by decide, Tryz.func205.trans (congrArg some (by kernel_rfl))⟩
  f21 := ⟨Tryz.f206.name, by decide, Tryz.func206.trans (congrArg some (by kernel_rfl))⟩
  f22 := ⟨Tryz.f207.name, by decide, Tryz.func207.trans (congrArg some (by kernel_rfl))⟩
  f23 := ⟨Tryz.f208.name, by decide, Tryz.func208.trans (congrArg some (by kernel_rfl))⟩
  f24 := ⟨Tryz.f209.name, by decide, Tryz.func209.trans (congrArg some (by kernel_rfl))⟩
  f25 := ⟨Tryz.f210.name, by decide, Tryz.func210.trans (congrArg some (by kernel_rfl))⟩
  f26 := ⟨Tryz.f211.name, by decide, Tryz.func211.trans (congrArg some (by kernel_rfl))⟩
  f27 := ⟨Tryz.f212.name, by decide, Tryz.func212.trans (congrArg some (by kernel_rfl))⟩
  f28 := Tryz.func149.trans (congrArg some (by kernel_rfl))
  f29 := Tryz.func150.trans (congrArg some (by kernel_rfl))
  f46 := ⟨Tryz.f219.name, by decide, Tryz.func219.trans (congrArg some (by kernel_rfl))⟩
  f47 := Tryz.func177.trans (congrArg some (by kernel_rfl))
  f48 := Tryz.func178.trans (congrArg some (by kernel_rfl))
  f49 := ⟨Tryz.f220.name, by decide, Tryz.func220.trans (congrArg some (by kernel_rfl))⟩
  f50 := ⟨Tryz.f221.name, by decide, Tryz.func221.trans (congrArg some (by kernel_rfl))⟩
  f57 := ⟨Tryz.f223.name, by decide, Tryz.func223.trans (congrArg some (by kernel_rfl))⟩
  t0 := Tryz.underlying0
  a0 := Tryz.isAgg0
  z0 := Tryz.sizeOf0
  v0 := Tryz.zeroValue0
  t3 := Tryz.underlying3
  a3 := Tryz.isAgg3
  z3 := Tryz.sizeOf3
  v3 := Tryz.zeroValue3
  t4 := Tryz.underlying4
  a4 := Tryz.isAgg4
  z4 := Tryz.sizeOf4
  v4 := Tryz.zeroValue4
  t5 := Tryz.underlying5
  a5 := Tryz.isAgg5
  z5 := Tryz.sizeOf5
  v5 := Tryz.zeroValue5
  t9 := Tryz.underlying9
  a9 := Tryz.isAgg9
  z9 := Tryz.sizeOf9
  v9 := Tryz.zeroValue9
  t22 := Tryz.underlying134
  a22 := Tryz.isAgg134
  z22 := Tryz.sizeOf134
  v22 := Tryz.zeroValue134
  t25 := Tryz.underlying250
  a25 := Tryz.isAgg250
  z25 := Tryz.sizeOf250
  v25 := Tryz.zeroValue250
  t39 := Tryz.underlying26
  a39 := Tryz.isAgg26
  z39 := Tryz.sizeOf26
  v39 := Tryz.zeroValue26
  t45 := Tryz.underlying223
  a45 := Tryz.isAgg223
  z45 := Tryz.sizeOf223
  v45 := Tryz.zeroValue223
  t46 := Tryz.underlying224
  a46 := Tryz.isAgg224
  z46 := Tryz.sizeOf224
  v46 := Tryz.zeroValue224
  t50 := Tryz.underlying229
  a50 := Tryz.isAgg229
  z50 := Tryz.sizeOf229
  v50 := Tryz.zeroValue229
  t53 := Tryz.underlying232
  a53 := Tryz.isAgg232
  z53 := Tryz.sizeOf232
  v53 := Tryz.zeroValue232
  t55 := Tryz.underlying208
  a55 := Tryz.isAgg208
  z55 := Tryz.sizeOf208
  v55 := Tryz.zeroValue208
  t66 := Tryz.underlying266
  a66 := Tryz.isAgg266
  z66 := Tryz.sizeOf266
  v66 := Tryz.zeroValue266
  t70 := Tryz.underlying270
  a70 := Tryz.isAgg270
  z70 := Tryz.sizeOf270
  v70 := Tryz.zeroValue270
  t76 := Tryz.underlying290
  a76 := Tryz.isAgg290
  z76 := Tryz.sizeOf290
  v76 := Tryz.zeroValue290
  t77 := Tryz.underlying291
  a77 := Tryz.isAgg291
  z77 := Tryz.sizeOf291
  v77 := Tryz.zeroValue291 }
end Go.Proofs
namespace Go.Proofs.YtjfmmnhcddckaaaGreat
section
open Go.Proofs.Tryz Go.RowKit Go.Shelf Go.Lib Go.Sort
def lV(t:Int)(x:Fin 1000):List Value:=[.int .i64 (x.val:Int),.int .i64 t]
def lq(x y:Fin 1000):Int:=(x.val:Int)-(y.val:Int)
theorem o0(x y:Fin 1000):ltOf lq x y=decide (x.val<y.val):=by
 unfold ltOf lq
 by_cases h:x.val<y.val
 ·have:(x.val:Int)-(y.val:Int)<0:=by omega
  simp[h,this]
 ·have:¬(x.val:Int)-(y.val:Int)<0:=by omega
  simp[h,this]
theorem C2:SWO (ltOf lq) where
 irrefl x:=by rw[o0];simp
 trans x y z h1 h2:=by rw[o0]at *;simp at *;omega
 ntrans x y z h1 h2:=by rw[o0]at *;simp at *;omega
theorem Cw(x y:Fin 1000)(h1:ltOf lq x y=false)(h2:ltOf lq y x=false):x=y:=by rw[o0]at *;simp at *;omega
theorem KR:(fun x y:Fin 1000=>!ltOf lq y x)=fun x y=>decide (x.val<=y.val):=by
 funext x y
 rw[o0]
 by_cases h:x.val<=y.val
 ·have a:¬y.val<x.val:=by omega
  simp[h,a]
 ·have a:y.val<x.val:=by omega
  simp[h,a]
theorem Mi(t:Int)(x y:Fin 1000)(W:World):Calls prog 161 #[.agg #[.int .i64 (x.val:Int),.int .i64 t],.agg #[.int .i64 (y.val:Int),.int .i64 t]] W fun e d=>e=.returned (.int .i64 (lq x y))/\∃q c,d=Go.Sort.grow (W.drewN q) c:=by
 have hx:=x.isLt;have f:=y.isLt;unfold lq;have g:IntKind.i64.wrap ((x.val:Int)-(y.val:Int))=(x.val:Int)-(y.val:Int):=IntWalk.i64_in _ (by omega);generalize (x.val:Int)=a at *;generalize (y.val:Int)=b at *;go_enter func161,ntmps161;go_wp2;go_ret;exact⟨rfl,0,_,by rw[alloc_eq_grow,alloc_eq_grow,grow_grow];rfl⟩
theorem zT{α:Type}[Inhabited α](enc:α->List Value){k:Nat}(b:∀x,(enc x).length=k)(d:0<k)(l:List α):(flatK enc k l.toArray).toList=dA enc l:=by
 apply nX b d
 ·simp
 ·intro i e j a
  have c:i*k+j<l.length*k:=by
   have:(i+1)*k<=l.length*k:=Nat.mul_le_mul_right k e;rw[Nat.add_mul,Nat.one_mul]at this;omega
  have f:(i*k+j)/k=i:=by rw[Nat.mul_comm,Nat.mul_add_div d,Nat.div_eq_of_lt a,Nat.add_zero]
  have g:(i*k+j)%k=j:=by rw[Nat.mul_comm,Nat.mul_add_mod,Nat.mod_eq_of_lt a]
  unfold flatK;simp only[Array.toList_map,Array.toList_range,List.size_toArray,List.getElem?_map,List.getElem?_range c,Option.map_some,f,g];have h:(l.toArray)[i]! = l[i]:=by simp[e]
  rw[h,getElem!_pos _ _ (by rw[b];exact a),List.getElem?_eq_getElem (by rw[b];exact a)]
theorem Kh{α:Type}[Inhabited α]{enc:α->List Value}{k:Nat}(f:∀x,(enc x).length=k)(h:0<k){w:World}{g:Nat}{a:Array Value}{e:TypeId}{l:List α}(hb:w.heap[g]?=some (.cells a e (0,0)))(i:a.toList.take (l.length*k)=dA enc l):HoldsK enc k w g 0 l.toArray:=by
 intro j b;have c:j<l.length*k:=by simpa using b
 refine⟨?_,by simp[World.frozen?,hb]⟩;have d:(a.toList.take (l.length*k))[j]?=((flatK enc k l.toArray).toList)[j]?:=by rw[i,zT enc f h]
 rw[List.getElem?_take_of_lt c]at d;simp only[World.cell?,hb,Nat.zero_add];simp only[Option.isSome_none,Bool.false_eq_true,if_false];rw[<-Array.getElem?_toList,d,Array.getElem?_toList,getElem!_pos (flatK enc k l.toArray) j b,Array.getElem?_eq_getElem b];rfl
theorem Kj{α:Type}[Inhabited α]{enc:α->List Value}{k:Nat}{w:World}{g n:Nat}{c:Array Obj}{a:Array Value}{e:TypeId}{b:Nat × Nat}(d:Array α)(hb:w.heap[g]?=some (.cells a e b)):
  (sortWorldK enc k w g 0 n d c).heap[g]?=some (.cells (putCells id 0 (flatK enc k d) a) e b):=by
 have f:g<w.heap.size:=(Array.getElem?_eq_some_iff.1 hb).1;unfold sortWorldK putRowK;rw[heap_grow_old _ _ (by simpa using f)];simp[putRow,mapBlock,Sort.ahead,Array.getElem?_modify,hb,onCells]
theorem KF{α:Type}[Inhabited α]{enc:α->List Value}{k:Nat}{w:World}{g n:Nat}{b:Array Obj}(d:Array α):w.grownBy (sortWorldK enc k w g 0 n d b) (some g):=by
 unfold sortWorldK putRowK;refine⟨rfl,rfl,rfl,by simp,fun j c a=>?_⟩;rw[heap_grow_old _ _ (by simpa using c)];have:g≠j:=fun e=>a (by rw[e])
 simp[putRow,mapBlock,Sort.ahead,Array.getElem?_modify,this]
theorem CT(a:Array Value)(F:Array Value)(h:F.size<=a.size):(putCells id 0 F a).toList.take F.size=F.toList:=by
 apply List.ext_getElem?;intro j
 by_cases b:j<F.size
 ·rw[List.getElem?_take_of_lt b,Array.getElem?_toList,Array.getElem?_toList]
  simp[putCells,b,show j<a.size by omega]
 ·rw[List.getElem?_take_eq_none (by omega),List.getElem?_eq_none (by simp;omega)]
def lk(i:Nat):Fin 1000:=⟨i%1000,Nat.mod_lt _ (by omega)⟩
theorem K7{dP:List Nat}(h:∀i∈dP,i<1000):(dP.map lk).map (·.val)=dP:=by
 rw[List.map_map]
 conv=>rhs;rw[<-List.map_id dP]
 apply List.map_congr_left;intro i a;exact Nat.mod_eq_of_lt (h i a)
theorem Ak(t:Int)(l:List (Fin 1000)):dA (lV t) l=dA eN (fV t (l.map (·.val))):=by
 unfold dA fV;rw[List.map_map,List.flatMap_map];rfl
theorem DE(t:Int)(dP:List Nat)(B:Nat)(v:Value)(w:World)(M:dc w B 137 2 eN v (fV t dP))(N:∀i∈dP,i<1000)(U:dP.length<=1000):
  Calls prog 160 #[v,.func (.func 161) #[] #[]] w fun r q=>r=.returned (.tuple #[]) /\
   ∃L:List Nat,L.Perm dP/\L.Pairwise (·<=·)/\dc q B 137 2 eN v (fV t L)/\w.grownBy q v.ownBlock:=by
 obtain⟨F,⟨rfl,s⟩|⟨g,l,A,rfl,O,u,z,Q,G,H⟩⟩:=M
 ·obtain rfl:dP=[]:=List.eq_nil_of_length_eq_zero (by unfold fV at s;simpa using s)
  have f:=AnyF.slices_SortFunc_none (P:=prog) (ρ:=Tryz.sortRace_ren) { Tryz.sortRace with } none 0 (.func (.func 161) #[] #[]) w;change Calls prog 160 _ _ _ at f;refine f.mono ?_;rintro r q⟨rfl,rfl⟩;exact⟨rfl,[],List.Perm.refl _,List.Pairwise.nil,⟨rfl,.inl ⟨rfl,rfl⟩⟩,rfl,rfl,rfl,Nat.le_refl _,fun _ _ _=>rfl⟩
 ·have I:(fV t dP).length=dP.length:=by unfold fV;simp
  rw[I]at z H F;have j:=K7 N;have m:(dP.map lk).length=dP.length:=by simp
  have C:A.toList.take ((dP.map lk).length*2)=dA (lV t) (dP.map lk):=by rw[Ak,j,m];exact H
  have R:=Kh (enc:=lV t) (fun _=>rfl) (by omega) u C;have T:∀e w,(callFunc 161 e).run prog w=.ok (.enter 161 e) w:=enters_of func161 (by kernel_rfl) rfl
  have f:=AnyQ.slices_SortFunc_total Tryz.sortRace 2 isAgg137 sizeOf137 (lV t) (fun _=>rfl) (fun x v j=>by simp[lV]at j;rcases j with rfl|rfl <;> rfl) lq C2 161 #[] g 0 l (dP.map lk).toArray w T
   (fun _ _ _ _ x y=>Mi t x y _) R (Array.getElem?_eq_some_iff.1 u).1 (by simp;omega) Cw
  rw[KR]at f;have D:(dP.map lk).toArray.size=dP.length:=by simp
  rw[D]at f;rw[I];change Calls prog 160 _ _ _ at f;refine f.mono ?_;rintro r q⟨rfl,n,V,rfl⟩;have J:=List.mergeSort_perm (dP.map lk) (fun x y=>decide (x.val<=y.val))
  have E:((dP.map lk).mergeSort fun x y=>decide (x.val<=y.val)).Pairwise (fun x y=>decide (x.val<=y.val)=true):=
   List.pairwise_mergeSort (fun a b c F s=>by simp at *;omega) (fun a b=>by simp;omega) _
  generalize ((dP.map lk).mergeSort fun x y=>decide (x.val<=y.val))=S at *;have o:S.length=dP.length:=by rw[J.length_eq,m]
  refine⟨rfl,S.map (·.val),?_,?_,?_,KF _⟩
  ·have:=J.map (·.val)
   rwa [j]at this
  ·rw[List.pairwise_map]
   exact E.imp fun h=>by simpa using h
  ·have d:(fV t (S.map (·.val))).length=dP.length:=by unfold fV;simp[o]
   refine⟨by rw[gF mv,d],.inr ⟨g,l,_,by rw[d],O,Kj _ u,by rw[d];exact z,Q,by simp[putCells,G],?_⟩⟩;have hF:(flatK (lV t) 2 S.toArray).toList=dA eN (fV t (S.map (·.val))):=by rw[zT (lV t) (k:=2) (fun _=>rfl) (by omega),Ak]
   rw[<-hF,d];have p:(flatK (lV t) 2 S.toArray).size=dP.length*2:=by simp[o]
   rw[<-p];exact CT _ _ (by rw[p,G];exact Nat.mul_le_mul_right 2 z)
end
section
open Go.Lib (hid)
open Go.Proofs.Tryz Go.RowKit Go.Shelf
attribute [local go_sem] Oper.semAt_some
theorem Nw{gs:List Gp}{e:Ev}{p:Nat × Nat}:∀g∈hH gs e p,g.1=e∨∃b∈gs,g.1=b.1:=by
 induction gs with
 |nil=>
  intro g a;rw[hH,List.mem_singleton]at a;exact .inl (by rw[a])
 |cons x gs c=>
  intro g a;unfold hH at a
  split at a
  ·rcases List.mem_cons.1 a with rfl|a
   ·exact .inr ⟨x,List.mem_cons_self,rfl⟩
   ·exact .inr ⟨g,List.mem_cons_of_mem _ a,rfl⟩
  ·rcases List.mem_cons.1 a with rfl|a
   ·exact .inr ⟨g,List.mem_cons_self,rfl⟩
   ·rcases c g a with h|⟨b,d,f⟩
    ·exact .inl h
    ·exact .inr ⟨b,List.mem_cons_of_mem _ d,f⟩
theorem KE(l:List Ev)(n:Nat):∀g∈fB l n,∃i,i<n/\g.1=dd l i:=by
 induction n with
 |zero=>intro g a;cases a
 |succ n b=>
  intro g a;rcases Nw g a with h|⟨c,d,e⟩
  ·exact⟨n,Nat.lt_succ_self _,h⟩
  ·obtain⟨i,j,f⟩:=b c d
   exact⟨i,by omega,e.trans f⟩
theorem Fm(ls:Int->Int->Nat)(gs:List Gp)(e:Ev)(k:Nat)(a:k<gs.length):
  fG ls (gs.take (k+1)) e=fG ls (gs.take k) e++if gs[k].1.thread≠e.thread/\dj gs[k].1 e=true then mq (ls e.thread gs[k].1.thread) gs[k].2 else []:=by
 unfold fG;rw[List.take_add_one,List.getElem?_eq_getElem a,List.flatMap_append];simp
def Bp(l:List Ev)(n:Nat)(e:Ev)(w:World)(r:Ending)(w':World):Prop:=
 ∃a,r=.returned a/\dc w' w.heap.size 137 2 eN a (fV e.thread (iY l n e))/\Below w.heap.size w w'
def jh(w:World)(e:Ev)(dP:List Nat)(a:List Deferred)(W:World):Prop:=
 eo W w.heap.size e/\ki W w.heap.size (w.heap.size+1) e.thread dP/\iK w.heap.size a W/\Below w.heap.size w W
theorem jh.later{w W a:World}{e:Ev}{dP:List Nat}{b:List Deferred}(h:jh w e dP b W)(hb:Below W.heap.size W a):jh w e dP b a:=
 ⟨h.1.later hb,h.2.1.later hb,h.2.2.1.kept fun D _ c=>(hb.block D (Array.getElem?_eq_some_iff.1 c).1).trans c,h.2.2.2.trans (hb.mono h.2.2.2.size)⟩
theorem Ft(P B n:Nat)(l:List Ev)(e:Ev)(v:Value)(xs:List (Ev × Sp))(w:World)(hp:PastM w P B (gv l n) v xs (fB l n))(hr:dJ l=true)(hn:n<=l.length)(hm:l.length<=200)(h0:0<=e.thread)(h4:e.thread<4):
  Calls prog 109 #[.pointer (some ⟨P,0,none⟩),.agg #[.int .i64 e.thread,.int .i64 e.kind,.int .i64 e.obj,.bool e.fail]] w (Bp l n e w):=by
 have a5:=hid (KE l n);have a6:=hid (fun i (hi:i<l.length)=>kZ (oJ hr hi));have a7:Hid (∀(t u:Nat) (ht:t<(gv l n).length),((gv l n)[t]'ht) u=ie l n t u):=fun t u ht=>by rw[uD l n t ht]
 have a8:=hid (zE l n);have a9:=hid (zB l n);have bx:=zC l n;have HS:=hid (fun(L:List Nat) h1 h2=>Fo l n e (L:=L) h1 h2);have aq:=hid (fun(i:Nat) (h:i∈fG (ie l n) (fB l n) e)=>Fp h);have aD:=Fq l n e;have bz:=hid (lZ l n);unfold Bp;generalize ie l n=y at *;generalize gv l n=cs at *;generalize fB l n=C at *;generalize ba:iY l n e=RC at *;clear ba
 obtain⟨va,vc,rfl,HV⟩:∃va vc,v=.slice va C.length vc/\Hid (C=[]∨∃g,va=some ⟨g,0,none⟩):=by
  rcases hp.own.form with ⟨h1,h2⟩|⟨g,c,h1,_⟩
  ·exact⟨none,0,by rw[h1,h2];rfl,.inl h2⟩
  ·exact⟨_,c,h1,.inr ⟨g,rfl⟩⟩
 have HP:=hid hp;clear hp;obtain⟨et,F,G,H⟩:=e;dsimp only at h0 h4 HS aq aD ⊢
 obtain⟨d,rfl⟩:∃d:Nat,et=d:=⟨et.toNat,by omega⟩
 have am:d<4:=by omega
 clear h0;refine(callsIn_wide (n:=3)).1 ?_;have h1:1<=3:=by omega
 refine callsIn_of_wp_marks func109 rfl trivial ?_ rfl;simp only[ntmps109,List.size_toArray,List.length_cons,List.length_nil,Nat.reduceAdd,Nat.reduceSub,Array.replicate_succ,Array.replicate_zero,List.push_toArray,List.append_toArray,List.nil_append,List.cons_append];have ar:=eH w (.cells #[.int .i64 (d:Int),.int .i64 F,.int .i64 G,.bool H] 112) (.cells #[.slice none 0 0] 134)
 have aE:Hid (jh w ⟨d,F,G,H⟩ [] [] ((w.alloc (.cells #[.int .i64 (d:Int),.int .i64 F,.int .i64 G,.bool H] 112)).alloc (.cells #[.slice none 0 0] 134))):=
  ⟨(eo.new w ⟨d,F,G,H⟩).later (da _ _),⟨_,heap_alloc2_new w _ _,iF _ _ _ _ _⟩,Iq _ _,ar⟩
 have hv:=de ar (HP.out.blk.slice HP.out.four)
 gi_wp2
 generalize (w.alloc (.cells #[.int .i64 (d:Int),.int .i64 F,.int .i64 G,.bool H] 112)).alloc (.cells #[.slice none 0 0] 134)=W0 at *;clear hv ar;refine wpIn_loop (fun a1 W=>∃(ds:List Deferred) (u6 u7 u8 u9 u10 u16 u17 u18 u19 u20 u21 u22 u23 u24 u25 u26 u27 u28 u29 u30 u31 u32 u33 u34 u35 u36 u37 u38 u39 u40 u41 u42 u43 u44 u45 u46 u47 u48 u49 u50 u51 u52 u53 u54 u55 u56 u57 u58 u59 u60 u61:Value),(∃k:Nat,k<=C.length/\u16=.int .i64 k/\Hid (jh w ⟨d,F,G,H⟩ (fG y (C.take k) ⟨d,F,G,H⟩) ds W))/\a1=Act.mk #[.pointer (some ⟨P,0,none⟩),.agg #[.int .i64 (d:Int),.int .i64 F,.int .i64 G,.bool H],undef,.pointer (some ⟨w.heap.size,0,none⟩),.slice none 0 0,.pointer (some ⟨w.heap.size+1,0,none⟩),u6,u7,u8,u9,u10,.pointer (some ⟨P,0,none⟩),.pointer (some ⟨P,0,none⟩),.pointer (some ⟨P,16,none⟩),.slice va C.length vc,.int .i64 (C.length:Int),u16,u17,u18,u19,u20,u21,u22,u23,u24,u25,u26,u27,u28,u29,u30,u31,u32,u33,u34,u35,u36,u37,u38,u39,u40,u41,u42,u43,u44,u45,u46,u47,u48,u49,u50,u51,u52,u53,u54,u55,u56,u57,u58,u59,u60,u61,undef,undef,undef] ds) (fun a1 _=>C.length-(intOf (a1.tmps.getD 16 undef)).toNat) ?atStart ?round
 case atStart=>exact⟨[],undef,undef,undef,undef,undef,.int .i64 0,undef,undef,undef,undef,undef,undef,undef,undef,undef,undef,undef,undef,undef,undef,undef,undef,undef,undef,undef,undef,undef,undef,undef,undef,undef,undef,undef,undef,undef,undef,undef,undef,undef,undef,undef,undef,undef,undef,undef,undef,undef,undef,undef,undef,undef,⟨0,Nat.zero_le _,rfl,aE⟩,rfl⟩
 case round=>
  clear aE;intro _ W aZ;obtain⟨ds,u6,u7,u8,u9,u10,u16,u17,u18,u19,u20,u21,u22,u23,u24,u25,u26,u27,u28,u29,u30,u31,u32,u33,u34,u35,u36,u37,u38,u39,u40,u41,u42,u43,u44,u45,u46,u47,u48,u49,u50,u51,u52,u53,u54,u55,u56,u57,u58,u59,u60,u61,⟨k,hk,rfl,HW⟩,ha⟩:=aZ;subst ha
  try dsimp only
  by_cases J:k<C.length
  case neg=>
   obtain rfl:k=C.length:=by omega
   have M:=HW.out;rw[List.take_length]at M;obtain⟨bb,⟨lv,bL,ow⟩,aF,aG⟩:=M;have lc:=bL.cell;have S:=hid ow;have aa:=hid bL;have bc:=hid aF;have aH:=hid aG;have aI:=hid (DE (d:Int) (fG y C ⟨d,F,G,H⟩) w.heap.size lv W ow (fun i hi=>by have:=aq.out i hi;omega) (by omega));clear bb bL ow aF aG
   gi_wp2_with fail
   refine⟨trivial,?_⟩;refine(callsIn_wide.2 aI.out).mono ?_;rintro r z⟨rfl,L,hp,hs,aJ,ac⟩;obtain rfl:=HS.out L hp hs;have b2:=aa.out.kept ac (aa.out.not_row vA S.out);have bA:=b2.cell;have a0:=hid (bc.out.stay (fM.grown S.out ac) aa.out);have T:Hid (Below w.heap.size w z):=aH.out.grown ac aH.out.size (fun k hk=>(World.ownsRow.lt S.out k hk).1);have bd:=hid aJ;have bq:=hid b2;clear hp hs aJ ac b2 aI
   gi_wp2
   refine Ji w.heap.size (fun m=>dc m w.heap.size 137 2 eN lv (fV d L)/\Below w.heap.size w m) ?_ ?_ ds z a0.out ⟨bd.out,T.out⟩
   ·rintro m D o⟨h3,h4⟩ hD ho hc
    exact⟨ownsRow_putObj h3 _ ho hc,h4.grown (grownBy_putObj' m D _) h4.size (fun k e=>by cases e;exact hD)⟩
   ·rintro m⟨h3,h4⟩
    exact⟨lv,by simp[results,Tryz.f109,go_sem],lv,rfl,h3,h4⟩
  obtain⟨g,rfl⟩:∃g,va=some ⟨g,0,none⟩:=by
   rcases HV.out with h|h
   ·rw[h]at J;simp at J
   ·exact h
  have N:k<xs.length:=by rw[HP.out.own.len];exact J
  have hM:=HP.out.later HW.out.2.2.2;have aK:=hM.own.evs k N J;have x0:=hM.own.cell (j:=0) N (by omega);have x1:=hM.own.cell (j:=1) N (by omega);have x2:=hM.own.cell (j:=2) N (by omega);have x3:=hM.own.cell (j:=3) N (by omega);have x4:=hM.own.cell (j:=4) N (by omega);rw[Nat.add_zero]at x0;simp only[fZ,aK,List.getElem?_cons_zero,List.getElem?_cons_succ]at x0 x1 x2 x3 x4;have ab:=hid (Fm y C ⟨d,F,G,H⟩ k J);have be:=hid (hM.own.inner k N J);have a2:=hid (HP.out.own.inner k N J);have bf:=Fl y C ⟨d,F,G,H⟩ k;have aL:=hid (a8.out C[k] (List.getElem_mem J)).2;have bB:=a9.out C[k] (List.getElem_mem J)
  obtain⟨f,a3,bg⟩:∃f:Nat,f<4/\Hid (C[k].1.thread=f):=by
   obtain⟨i,hi,he⟩:=a5.out C[k] (List.getElem_mem J);have:=a6.out i (by omega);rw[<-gt (show i<l.length by omega),<-he]at this;exact⟨C[k].1.thread.toNat,by omega,(by show _=_;omega)⟩
  generalize xs[k].2=R at *;generalize C[k].2=p at *;generalize C[k].1=ge at *;obtain⟨bh,gk,go,gf⟩:=ge;obtain rfl:bh=f:=bg.out;dsimp only at x0 x1 x2 x3 x4;have ad:=da W (.cells #[.int .i64 (f:Int),.int .i64 gk,.int .i64 go,.bool gf,.slice R.a R.n R.c] 245)
  have M:Hid (jh w ⟨d,F,G,H⟩ (fG y (C.take k) ⟨d,F,G,H⟩) ds (W.alloc (.cells #[.int .i64 (f:Int),.int .i64 gk,.int .i64 go,.bool gf,.slice R.a R.n R.c] 245))):=
   HW.out.later ad
  have aM:Hid (dm (W.alloc (.cells #[.int .i64 (f:Int),.int .i64 gk,.int .i64 go,.bool gf,.slice R.a R.n R.c] 245)) W.heap.size 245 (fZ (⟨f,gk,go,gf⟩,R))):=heap_alloc_new _ _;obtain⟨e0,e1,e2,e3⟩:=M.out.1.cells;have ae:Hid (k+1<=C.length):=J
  by_cases aN:f=d
  ·subst aN
   have U:Hid (jh w ⟨f,F,G,H⟩ (fG y (C.take (k+1)) ⟨f,F,G,H⟩) ds (W.alloc (.cells #[.int .i64 (f:Int),.int .i64 gk,.int .i64 go,.bool gf,.slice R.a R.n R.c] 245))):=by
    show jh _ _ _ _ _;rw[ab.out,if_neg (fun h=>h.1 rfl),List.append_nil];exact M.out
   clear M ab
   gi_wp2
   refine⟨trivial,?_⟩
   gi_wp2
   refine⟨?_,?measure⟩
   (repeat apply Exists.intro)
   refine⟨⟨k+1,ae.out,by go_num,U⟩,rfl⟩
   case measure=>simp[intOf];omega
  have hq:((f:Int)==(d:Int))=false:=by simp;omega
  gi_wp2_with fail
  refine⟨trivial,?_⟩;refine(callsIn_wide.2 (ry ⟨f,gk,go,gf⟩ ⟨d,F,G,H⟩ _)).mono ?_;rintro r z⟨rfl,af⟩;have U:=hid (M.out.later af);have Z:Hid (dm z W.heap.size 245 (fZ (⟨f,gk,go,gf⟩,R))):=aM.out.later af;have T:Hid (Below W.heap.size W z):=ad.trans (af.mono ad.size);clear M aM ad af
  cases hd:dj ⟨f,gk,go,gf⟩ ⟨d,F,G,H⟩
  ·have ag:Hid (jh w ⟨d,F,G,H⟩ (fG y (C.take (k+1)) ⟨d,F,G,H⟩) ds z):=by
    show jh _ _ _ _ _;rw[ab.out,if_neg (fun h=>by rw[hd]at h;exact absurd h.2 (by simp)),List.append_nil];exact U.out
   clear U ab hd
   gi_wp2
   refine⟨?_,?measure⟩
   (repeat apply Exists.intro)
   refine⟨⟨k+1,ae.out,by go_num,ag⟩,rfl⟩
   case measure=>simp[intOf];omega
  have an:Hid (fG y (C.take (k+1)) ⟨d,F,G,H⟩=fG y (C.take k) ⟨d,F,G,H⟩++mq (y d f) p):=by
   show _=_;rw[ab.out,if_pos ⟨fun h=>aN (by omega),hd⟩]
  clear ab hd;obtain⟨sa,sn,sc⟩:=R;obtain⟨pa,pc,aO,aP,_⟩:=be.out.form xB (by omega);obtain⟨rfl,rfl,rfl⟩:sa=pa/\sn=p.length/\sc=pc:=by simpa [eL]using aO
  have bi:=hid aP;clear aP aO;dsimp only at *;have ah:=hM.later T.out;have au:=ah.blk.num (t:=d) (u:=f) (by rw[ah.four];exact am) a3;rw[a7.out d f (by rw[ah.four];exact am)]at au;obtain⟨e0,e1,e2,e3⟩:=U.out.1.cells;have l0:=Z.out.cell 0;have l4:=Z.out.cell 4;simp only[fZ,List.getElem?_cons_zero,List.getElem?_cons_succ]at l0 l4
  gi_wp2_with fail
  clear e1 e2 e3 x0 x1 x2 x3 x4 aK;have av:Below z.heap.size z (z.alloc (.cells #[.int .i64 0] 3)).drew:=(da z _).drew;have bj:∀v,Below z.heap.size z ((z.alloc (.cells #[.int .i64 0] 3)).drew.setCell ⟨z.heap.size,0,none⟩ v):=fun v=>av.setCell (Nat.le_refl _) v
  have HQ:Hid (∀m,Below z.heap.size z m->m.cell? ⟨w.heap.size,0,none⟩=some (.int .i64 (d:Int))/\m.cell? ⟨W.heap.size,0,none⟩=some (.int .i64 (f:Int))/\m.cell? ⟨P,d*4+f,none⟩=some (.int .i64 (y d f))):=
   fun m hb=>⟨de hb e0,de hb l0,de hb au⟩
  have aQ:=HQ.out z.drew (Below.refl _ z).drew;have aR:=HQ.out _ av;have bC:(f:Int)<4:=by omega
  clear e0 l0 au;refine wpIn_wide.2 ?_
  go_region_held3 (fun m=>m.cell? ⟨w.heap.size,0,none⟩=some (.int .i64 (d:Int))/\m.cell? ⟨W.heap.size,0,none⟩=some (.int .i64 (f:Int))/\m.cell? ⟨P,d*4+f,none⟩=some (.int .i64 (y d f)))
   (first|exact aQ|exact aR|exact HQ.out _ (da z _).drew)
   (fail)
  rename_i aC;clear aC;have ai:Below z.heap.size z (z.alloc (.cells #[.int .i64 (y d f)] 3)).drew:=(da z _).drew;have aS:Hid (dm (z.alloc (.cells #[.int .i64 (y d f)] 3)).drew z.heap.size 3 [.int .i64 (y d f)]):=heap_alloc_new z _;have br:(z.alloc (.cells #[.int .i64 (y d f)] 3)).drew.heap.size=z.heap.size+1:=by simp
  have ag:=hid (U.out.later ai);have ao:=hid (Z.out.later ai);have aw:Hid (Below W.heap.size W (z.alloc (.cells #[.int .i64 (y d f)] 3)).drew):=T.out.trans (ai.mono T.out.size);have aT:Hid (W.heap.size<=z.heap.size):=T.out.size;clear U Z T ah av bj ai HQ aQ aR;generalize (z.alloc (.cells #[.int .i64 (y d f)] 3)).drew=W3 at *;generalize z.heap.size=Kb at *;have l4:W3.cell? ⟨W.heap.size,4,none⟩=some (.slice sa p.length sc):=ao.out.cell 4
  gi_wp2_with fail
  refine⟨trivial,?_⟩;refine(M3 Fence.wide _ trivial rfl _ _ _ _).mono ?_;rintro r w'⟨rfl,rfl⟩;have aj:=da W3 (.cells #[.slice sa p.length sc] 243);have bs:(W3.alloc (.cells #[.slice sa p.length sc] 243)).heap.size=W3.heap.size+1:=by simp
  have ax:Hid (dm (W3.alloc (.cells #[.slice sa p.length sc] 243)) W3.heap.size 243 [.slice sa p.length sc]):=heap_alloc_new _ _;have I:=hid (ag.out.later aj);have a4:=hid (aS.out.later aj);have bk:Hid (Below W.heap.size W (W3.alloc (.cells #[.slice sa p.length sc] 243))):=aw.out.trans (aj.mono aw.out.size);have bD:Hid (Kb<W3.heap.size):=by show _<_;omega
  clear ag aS aw ao aj l4
  gi_wp2
  generalize W3.alloc (.cells #[.slice sa p.length sc] 243)=Wl at *;generalize W3.heap.size=Bs at *;obtain rfl:Bs=Kb+1:=by omega
  have aU:Hid (w.heap.size+1<W.heap.size):=by
   obtain⟨v,h8,_⟩:=HW.out.2.1;exact h8.lt
  have bl:Hid (0<p.length->∀b o,sa=some ⟨b,o,none⟩->b<w.heap.size):=by
   rintro h b o rfl;exact(World.ownsRow.lt a2.out b rfl).2
  have bm:w.heap.size<=Wl.heap.size:=I.out.2.2.2.size;have bt:(fG y (C.take k) ⟨d,F,G,H⟩).length<=200:=by omega
  clear bf HS aq aD HV;generalize fG y (C.take k) ⟨d,F,G,H⟩=A0 at *
  refine wpIn_rangeFunc_ownH rfl h1 (gf:=185) (lb:=#[.pointer (some ⟨Kb+1,0,none⟩)]) (by first|(with_reducible rfl)|(simp[Act.eval];done)|go_simp) trivial (enters_of func185 (by kernel_rfl) rfl)
   (MZ Fence.wide (3-1) trivial rfl (by omega) (Kb+1) w.heap.size sa sc p (by omega) Wl ax.out (bi.out.later bk.out) bl.out) yY (JG bm (by omega)) (Below.refl _ _) (fun _=>rfl)
   (fun(E:List (Fin p.length)) m=>(∀q∈E,y d f<(p[q.val]).2)/\ki m w.heap.size (w.heap.size+1) d (A0++E.map fun q=>(p[q.val]).1)/\fM (w.heap.size+1) Wl m/\Below w.heap.size w m)
   (fun c (E:List (Fin p.length)) m=>(c=.exit 2/\∃(V:List (Fin p.length)) (O:Fin p.length),E=V++[O]/\(∀q∈V,y d f<(p[q.val]).2)/\(p[O.val]).2<=y d f/\ki m w.heap.size (w.heap.size+1) d (A0++V.map fun q=>(p[q.val]).1))/\fM (w.heap.size+1) Wl m/\Below w.heap.size w m)
   (OwnFrom.and (ownFrom_pure _ (fun(E:List (Fin p.length))=>∀q∈E,y d f<(p[q.val]).2)) (OwnFrom.and (Own.from (wV w.heap.size (w.heap.size+1) (d:Int) (fun(E:List (Fin p.length))=>A0++E.map fun q=>(p[q.val]).1)) _) (OwnFrom.and (vZ _ Wl) (ownFrom_below (Nat.le_refl _) (by omega)))))
   (fun c=>OwnFrom.and (Own.from (fun s A B aV hs hg hr=>by obtain⟨hc,V,O,e1,e2,e3,e4⟩:=hs;exact⟨hc,V,O,e1,e2,e3,wV w.heap.size (w.heap.size+1) (d:Int) (fun(_:Unit)=>A0++V.map fun(q:Fin p.length)=>(p[q.val]).1) () A B aV e4 hg hr⟩) _) (OwnFrom.and (vZ _ Wl) (ownFrom_below (Nat.le_refl _) (by omega))))
   ⟨(fun q hq=>absurd hq (by simp)),(by simpa using I.out.2.1),fM.refl _ _,I.out.2.2.2⟩
   (fun x ay m=>∃Bx,Wl.heap.size<=Bx/\dm m Bx 242 (fW p[x.val])/\ay={ tmps:=#[.pointer (some ⟨P,0,none⟩),.agg #[.int .i64 (d:Int),.int .i64 F,.int .i64 G,.bool H],undef,.pointer (some ⟨w.heap.size,0,none⟩),.slice none 0 0,.pointer (some ⟨w.heap.size+1,0,none⟩),u6,.pointer (some ⟨W.heap.size,0,none⟩),.pointer (some ⟨Kb,0,none⟩),u9,.pointer (some ⟨Bx,0,none⟩),.pointer (some ⟨P,0,none⟩),.pointer (some ⟨P,0,none⟩),.pointer (some ⟨P,16,none⟩),.slice (some ⟨g,0,none⟩) C.length vc,.int .i64 (C.length:Int),.int .i64 (k:Int),.bool true,.pointer (some ⟨g,k*5,none⟩),.agg #[.int .i64 (f:Int),.int .i64 gk,.int .i64 go,.bool gf,.slice sa p.length sc],.pointer (some ⟨W.heap.size,0,none⟩),.pointer (some ⟨W.heap.size,0,none⟩),.int .i64 (f:Int),.pointer (some ⟨w.heap.size,0,none⟩),.int .i64 (d:Int),.bool false,.bool false,.pointer (some ⟨W.heap.size,0,none⟩),.agg #[.int .i64 (f:Int),.int .i64 gk,.int .i64 go,.bool gf],.agg #[.int .i64 (d:Int),.int .i64 F,.int .i64 G,.bool H],.bool true,.bool false,.bool false,.pointer (some ⟨P,0,none⟩),.pointer (some ⟨w.heap.size,0,none⟩),.int .i64 (d:Int),.pointer (some ⟨W.heap.size,0,none⟩),.pointer (some ⟨W.heap.size,0,none⟩),.int .i64 (f:Int),.pointer (some ⟨P,0,none⟩),.pointer (some ⟨P,0,none⟩),.pointer (some ⟨P,d*4,none⟩),.pointer (some ⟨P,d*4+f,none⟩),.int .i64 (y d f:Int),.pointer (some ⟨W.heap.size,4,none⟩),.slice sa p.length sc,.func (.func 185) #[] #[.pointer (some ⟨Kb+1,0,none⟩)],.int .i64 (x.val:Int),.agg #[.int .i64 ((p[x.val]).1:Nat),.int .i64 ((p[x.val]).2:Nat)],u49,u50,u51,u52,u53,u54,u55,u56,u57,u58,u59,u60,u61,undef,undef,undef],defers:=[] })
   (fun x ay _ X Y aV hs hg hr=>by obtain⟨Bx,h1,h2,h3⟩:=hs;exact⟨Bx,h1,h2.keptRow hg (fun r e=>(hr r e).2),h3⟩)
   ?assign ?body ?done ?stop
  case assign=>
   rintro l1 E x m K'⟨hN,hR,Q,hB⟩ hK;dsimp only[rI]
   gi_wp2
   refine hK _ _ ((KeepsOthers.alloc _ _).from _) ⟨(da m _).mono hB.size,(da m _).block (Kb+1) (by have:=Q.1;omega)⟩ ⟨hN,hR.later (da m _),Q.trans (fM.of_below (da m _)),hB.trans ((da m _).mono hB.size)⟩ ⟨m.heap.size,Q.1,heap_alloc_new m _,?_⟩;rfl
  case body=>
   rintro l1 E x ay m hl⟨r,hr⟩⟨hN,hR,Q,hB⟩⟨Bx,bE,bX,rfl⟩ bu;obtain⟨lv,bL,ow⟩:=hR;have bv:Kb+1<Wl.heap.size:=by omega
   have q0:m.cell? ⟨Bx,0,none⟩=some (.int .i64 ((p[x.val]).1:Nat)):=dm.cell bX 0;have q1:m.cell? ⟨Bx,1,none⟩=some (.int .i64 ((p[x.val]).2:Nat)):=dm.cell bX 1;have kn:m.cell? ⟨Kb,0,none⟩=some (.int .i64 (y d f)):=dm.cell (Q.mid a4.out (by have:=aU.out;have:=aT.out;omega) (by decide)) 0;have bn:=hid (Q.box I.out.1 (by omega));obtain⟨f0,f1,f2,f3⟩:=bn.out.cells;have lc:=bL.cell;have aW:=hid hN;have S:=hid ow;have aa:=hid bL;have ak:=hid Q;have al:=hid hB;have bF:E.length<=200:=by omega
   clear hN ow bL Q hB bX
   by_cases az:(p[x.val]).2<=y d f
   ·have bo:decide (((p[x.val]).2:Int)<=(y d f:Int))=true:=by simpa using az
    gi_wp2
    exact⟨(KeepsOthers.refl _).from _,⟨rfl,E,x,rfl,aW.out,az,⟨lv,aa.out,S.out⟩⟩,ak.out,al.out⟩
   ·have bo:decide (((p[x.val]).2:Int)<=(y d f:Int))=false:=by simpa using az
    have bp:Hid (∀q∈E++[x],y d f<(p[q.val]).2):=by
     intro q hq;rcases List.mem_append.1 hq with hq|hq
     ·exact aW.out q hq
     ·rw[List.mem_singleton]at hq
      subst hq;omega
    gi_wp2_with (gi_at_builtin;refine BL (w:=m.alloc _) rfl _ _ rfl w.heap.size lv (fV d (A0++E.map fun q=>(p[q.val]).1)) rfl (S.out.alloc _) ⟨m.heap.size,0,none⟩ rfl ((p[x.val]).1,(d:Int)) (gw m (eN ((p[x.val]).1,(d:Int))) _ _ rfl) (by unfold fV;simp;omega) (by have:=al.out.size;simp;omega) ?_;intro v' w1 h5 h6;obtain⟨g',bw,e7,_,_⟩:=dc.block h5 (by simp);rw[List.length_append,List.length_singleton]at e7;subst e7;obtain⟨r1,r2,r3,r4,r5,r6⟩:=ki.more aa.out S.out al.out.size (Nat.le_succ _) h5 h6)
    refine⟨r3.from _,⟨r4,?_⟩,bp.out,?_,ak.out.trans r2,al.out.trans r4⟩
    ·have aX:Kb+1≠w.heap.size+1:=by have:=aU.out;have:=aT.out;omega
     have k1:=ak.out.2 (Kb+1) _ ax.out aX (fun cs fr e=>by injection e with _ e2 _;revert e2;decide);have k2:=(ak.out.trans r2).2 (Kb+1) _ ax.out aX (fun cs fr e=>by injection e with _ e2 _;revert e2;decide);exact k2.trans k1.symm
    ·show ki _ _ _ _ _
     rw[List.map_append,<-List.append_assoc];exact r1
  case done=>
   rintro D ys m hD aY⟨hN,hR,Q,hB⟩ hK;have aA:=wT aL.out aY (Nat.le_refl _) hN (fun h=>absurd h (by omega));obtain⟨v0,b0,_⟩:=I.out.2.1
   have aB:Hid (jh w ⟨d,F,G,H⟩ (fG y (C.take (k+1)) ⟨d,F,G,H⟩) ({ target:=.collected D,args:=#[] } :: ds) m):=by
    show jh _ _ _ _ _;rw[an.out,aA];exact⟨Q.box I.out.1 (by omega),hR,iK.more I.out.2.2.1 (I.out.2.2.1.stay Q b0) hD (by omega) hK,hB⟩
   clear hN hR Q hB aY
   gi_wp2
   refine⟨?_,?measure⟩
   (repeat apply Exists.intro)
   refine⟨⟨k+1,ae.out,by go_num,aB⟩,⟨⟨rfl,rfl,rfl,rfl,rfl,rfl⟩,rfl⟩⟩
   case measure=>simp[intOf];omega
  case stop=>
   rintro D c E m hD⟨k1,bG,ap⟩⟨⟨rfl,V,O,rfl,h4,h5,hR⟩,Q,hB⟩ hK;obtain⟨k2,rfl,h6,h7⟩:=fD.last ap;have aA:=wT aL.out h6 (by omega) h4 (fun h=>by simpa only[<-h7]using h5);obtain⟨v0,b0,_⟩:=I.out.2.1
   have aB:Hid (jh w ⟨d,F,G,H⟩ (fG y (C.take (k+1)) ⟨d,F,G,H⟩) ({ target:=.collected D,args:=#[] } :: ds) m):=by
    show jh _ _ _ _ _;rw[an.out,aA];exact⟨Q.box I.out.1 (by omega),hR,iK.more I.out.2.2.1 (I.out.2.2.1.stay Q b0) hD (by omega) hK,hB⟩
   clear h4 h5 hR Q hB ap
   gi_wp2
   refine⟨?_,?measure⟩
   (repeat apply Exists.intro)
   refine⟨⟨k+1,ae.out,by go_num,aB⟩,⟨⟨rfl,rfl,rfl,rfl,rfl,rfl⟩,rfl⟩⟩
   case measure=>simp[intOf];omega
end
section
open Go
section
variable{P:Program}{ops:Array Oper}{Q:Exit->Act->World->Prop}{md:Region.Mode}
theorem fz{S:World->Prop}(i:Nat){d:Oper}{v:Value}{fuel:Nat}{b:Array Bool}{a:Act}{w:World}(f:ops[i]?=some d)
  (e:(Region.noSelect ops&&Region.free md ops b i&&(Region.ready md ops b).contains i)=true)
  (g:Region.wanted d (yielded ops a.tmps)=true) (j:∀c a w,Q (.panic c) (a.put d.dst v) w->Q (.panic c) a w) (k:S w) (l:∀w,S w->(execOp a.eval d).run P w=.ok (.value v) w)
  (h:wpAnyH P md ops Q S fuel (b.setIfInBounds i true) (a.put d.dst v) w):wpAnyH P md ops Q S (fuel+1) b a w:=by
 simp only[Bool.and_eq_true]at e;exact wpAnyH_take f e.1.1 e.1.2 e.2 j (Or.inl ⟨g,l⟩) k h
def kB(o:Oper):Oper:={ o with op:=.move (.const undef) }
def iA(k:Nat)(o:Oper)(ops:Array Oper):Array Oper:=ops.setIfInBounds k (kB o)
def nT(Q:Exit->Act->World->Prop)(R:Act->World->Prop):Exit->Act->World->Prop
 | .normal=>R
 |e=>Q e
theorem zZ{R:Act->World->Prop}{a:Act}{w:World}(h:R a w):nT Q R .normal a w:=h
theorem GN{o:Oper}{a:Act}{w:World}{K:Act->World->Prop}{R:Act->World->Prop}(b:o.wp P a w K (nT Q R)):o.wp P a w K Q:=by
 unfold Oper.wp at *;generalize (execOp a.eval o).run P w=r at *
 cases r with
 |ok n c=>
  cases n <;> simp only[Oper.upon]at b ⊢ <;>
   first
    |exact b
    |exact Calls.mono b (fun e f d=>by cases e <;> exact d)
 |halt x c=>cases x <;> simp only[Oper.upon]at b ⊢ <;> exact b
theorem AQ{k:Nat}{o:Oper}(a:ops[k]?=some o):(iA k o ops)[k]?=some (kB o):=by
 have:=(Array.getElem?_eq_some_iff.1 a).1;simp[iA,this]
theorem AO{k i:Nat}{o:Oper}(a:i≠k):(iA k o ops)[i]?=ops[i]?:=by
 simp[iA,Ne.symm a]
theorem AN{k:Nat}{o:Oper}:(iA k o ops).size=ops.size:=by simp[iA]
theorem AP{k:Nat}{o:Oper}(a:ops[k]?=some o){T:Type}(f:Oper->T)(b:f (kB o)=f o)(i:Nat):((iA k o ops)[i]?).map f=(ops[i]?).map f:=by
 by_cases e:i=k
 ·subst e;rw[AQ a,a];simp[b]
 ·rw[AO e]
theorem uQ{k:Nat}{o:Oper}(b:ops[k]?=some o)(a:Array Bool):Region.ready md (iA k o ops) a=Region.ready md ops a:=by
 unfold Region.ready;rw[AN];apply List.filter_congr;intro i _;rw[AP b _ rfl]
theorem MJ{k:Nat}{o:Oper}(a:ops[k]?=some o)(t:Array Value):yielded (iA k o ops) t=yielded ops t:=by
 funext j
 unfold yielded;have h:=AP (T:=Option Tmp) a (fun o=>o.dst) rfl j
 have e:∀x:Option Oper,x.bind (fun o=>o.dst)=(x.map fun o=>o.dst).join:=by intro x;cases x <;> rfl
 rw[e,e,h]
theorem wP(b:∀(j:Nat) (c:Oper),ops[j]?=some c->∀e∈c.after,e.on<j)(a:Array Bool)(p:a.size=ops.size):∀k,k<ops.size->a.getD k true=false->Region.ready md ops a≠[]:=by
 intro k
 induction k using Nat.strongRecOn with
 |_ k g=>
  intro d i
  by_cases h:∀e∈(ops[k]).after,Region.binds md e=true->a.getD e.on false=true
  ·intro l
   have:k∈Region.ready md ops a:=mem_ready.2 ⟨i,ops[k],by simp[d],h⟩;rw[l]at this
   cases this
  ·simp only[Classical.not_forall]at h
   obtain⟨e,m,_,f⟩:=h;have n:=b k ops[k] (by simp[d]) e m;refine g e.on n (by omega) ?_;have o:e.on<a.size:=by omega
   simp[Array.getD,o]at f ⊢;exact f
theorem wQ(a:Array Bool)(h:∀j,j<ops.size->a.getD j true=true):Region.ready md ops a=[]:=by
 cases c:Region.ready md ops a with
 |nil=>rfl
 |cons x e=>
  have hx:x∈Region.ready md ops a:=by rw[c];exact List.mem_cons_self
  obtain⟨b,o,d,_⟩:=mem_ready.1 hx;rw[h x (Array.getElem?_eq_some_iff.1 d).1]at b
  cases b
theorem nF{l:Array Bool}{j:Nat}{d:Bool}(a:j<l.size):l.getD j d=l[j]:=by simp[Array.getD,a]
theorem G0{o:Oper}{a:Act}{w:World}{K:Act->World->Prop}(b:o.dst=none)(h:(kB o).wp P a w K Q∨((kB o).asks P a w/\LetsOut Q)):K a w:=by
 rcases h with h|⟨h,_⟩
 ·simp[kB,Oper.wp,execOp,Oper.upon,b,Act.put]at h
  exact h
 ·exfalso
  have c:noRoomEvent∈(#[]:Array Event):=h.1;simp at c
def rT(md:Region.Mode)(ops:Array Oper)(a:Array Bool):Prop:=∀(m:Nat) (b:Oper),ops[m]?=some b->a.getD m false=true->∀e∈b.after,Region.binds md e=true->a.getD e.on false=true
theorem yI{l:Array Bool}{i j:Nat}(h:l.getD j false=true):(l.setIfInBounds i true).getD j false=true:=by
 have a:j<l.size:=by
  rcases Nat.lt_or_ge j l.size with b|b
  ·exact b
  ·rw[Array.getD,dif_neg (by omega)]at h;cases h
 rw[nF a]at h;rw[nF (by simpa using a),Array.getElem_setIfInBounds]
 split
 ·rfl
 ·exact h
theorem rT.set{a:Array Bool}{i:Nat}(h:rT md ops a)(n:i∈Region.ready md ops a):rT md ops (a.setIfInBounds i true):=by
 intro m o g f e j hb;obtain⟨_,q,b,d⟩:=mem_ready.1 n
 by_cases k:m=i
 ·subst k
  rw[g]at b;injection b with b;subst b;exact yI (d e j hb)
 ·refine yI (h m o g ?_ e j hb)
  have c:m<a.size:=by
   rcases Nat.lt_or_ge m a.size with l|l
   ·exact l
   ·rw[Array.getD,dif_neg (by simp;omega)]at f;cases f
  rw[nF (by simpa using c),Array.getElem_setIfInBounds,if_neg (fun p=>k p.symm)]at f;rw[nF c];exact f
theorem Nh{k:Nat}{o:Oper}(y:ops[k]?=some o)(hk:ops.size=k+1)(R:o.dst=none)(S:o.guard=none)(T:∀j,j<k->Region.waitsFor md ops k j=true∨∃m,Region.waitsFor md ops k m=true/\Region.waitsFor md ops m j=true)
  (C:∀(j:Nat) (H:Oper),ops[j]?=some H->∀e∈H.after,e.on<j):
  ∀(d:Nat) (c:Array Bool) (a:Act) (w:World),c.size=ops.size->c.getD k true=false->rT md ops c->wpAny P md (iA k o ops) (nT Q fun a w=>wpOp P ops Q k (Q .normal) a w) d c a w->wpAny P md ops Q d c a w:=by
 intro d
 induction d with
 |zero=>
  intro c a w G z r h;have N:=h.1;rw[uQ y]at N;exact absurd N (wP C c G k (by omega) z)
 |succ d U=>
  intro c a w G z r h;obtain⟨_,O⟩:=h;rw[uQ y]at O;refine⟨fun V=>absurd V (wP C c G k (by omega) z),fun i I=>?_⟩;have g:=O i I
  by_cases e:i=k
  ·subst e
   obtain⟨_,o',L,F⟩:=mem_ready.1 I
   have l:∀j,j<ops.size->(c.setIfInBounds i true).getD j true=true:=by
    intro j hj;have s:j<c.size:=by omega
    by_cases e:j=i
    ·subst e;simp[Array.getD,s]
    ·have D:∀m,Region.waitsFor md ops i m=true->c.getD m false=true:=by
      intro m W;obtain⟨H,n,J,t,hb,u⟩:=Region.waitsFor_spec W;rw[L]at n;injection n with n;subst n;have x:=F J t hb
      rwa [u]at x
     have x:c.getD j false=true:=by
      rcases T j (by omega)with q|⟨m,q,X⟩
      ·exact D j q
      ·obtain⟨Y,Z,J,t,hb,u⟩:=Region.waitsFor_spec X
       have h9:=r m Y Z (D m q) J t hb
       rwa [u]at h9
     rw[nF s]at x;rw[nF (by simpa using s),Array.getElem_setIfInBounds,if_neg (fun e2=>e e2.symm)];exact x
   have n:wpAny P md (iA i o ops) (nT Q fun a w=>wpOp P ops Q i (Q .normal) a w) d (c.setIfInBounds i true) a w:=by
    unfold wpOp at g;rw[AQ y]at g;have p:Region.wanted (kB o) (yielded (iA i o ops) a.tmps)=true:=by simp[Region.wanted,kB,S]
    simp only[p,if_true]at g;exact G0 R g
   have hr:Region.ready md (iA i o ops) (c.setIfInBounds i true)=[]:=by rw[uQ y];exact wQ _ l
   have x:wpOp P ops Q i (Q .normal) a w:=by
    cases d with
    |zero=>exact n.2
    |succ f=>exact n.1 hr
   exact wpOp_mono (fun A B q=>wpAny_done (wQ _ l) q d) x
  ·unfold wpOp at g ⊢
   rw[AO e,MJ y]at g
   have hK:∀A B,wpAny P md (iA k o ops) (nT Q fun a w=>wpOp P ops Q k (Q .normal) a w) d (c.setIfInBounds i true) A B->wpAny P md ops Q d (c.setIfInBounds i true) A B:=fun A B q=>
    U (c.setIfInBounds i true) A B (by simpa using G) (by
     have M:k<c.size:=by omega
     simp[Array.getD,M,e]at z ⊢
     exact z) (r.set I) q
   cases E:ops[i]? with
   |none=>simp only[E]at g ⊢;exact hK _ _ g
   |some oi=>
    simp only[E]at g ⊢
    by_cases p:Region.wanted oi (yielded ops a.tmps)=true
    ·simp only[p,if_true]at g ⊢
     rcases g with g|⟨g,b,v,n⟩
     ·exact .inl (Oper.wp_mono hK (GN g))
     ·exact .inr ⟨g,b,v,n⟩
    ·simp only[p]at g ⊢
     exact hK _ _ g
def yR(ops:Array Oper)(k:Nat):Bool:=
 (List.range k).all (fun j=>Region.waitsFor .any ops k j||(List.range k).any fun m=>Region.waitsFor .any ops k m&&Region.waitsFor .any ops m j)&&(List.range ops.size).all (fun j=>((ops[j]?).map fun o=>o.after.all fun e=>decide (e.on<j)).getD true)
theorem wL{id k:Nat}{o:Oper}{a:Act}{w:World}(l:P.follows .mixedOrders=true)(p:ops[k]?=some o)(i:ops.size=k+1)(q:o.dst=none)(r:o.guard=none)(d:yR ops k=true){c:Array Oper}(g:iA k o ops=c){S:World->Prop}
  (h:wpAnyH P .any c (nT Q fun a w=>wpOp P ops Q k (Q .normal) a w) S c.size (Array.replicate c.size false) a { w with drawn:=w.drawn+1 }):(Code.region id ops true).wp P Q a w:=by
 subst g;unfold yR at d;rw[Bool.and_eq_true,List.all_eq_true,List.all_eq_true]at d;refine wp_region_any l (Nh p i q r (fun j f=>?_) (fun j u f e g=>?_) _ _ _ _ (by simp) (by simp[i]) (fun m v _ s=>?_) ?_)
 ·have b:=d.1 j (List.mem_range.2 f)
  rw[Bool.or_eq_true,List.any_eq_true]at b;rcases b with b|⟨m,_,b⟩
  ·exact .inl b
  ·rw[Bool.and_eq_true]at b
   exact .inr ⟨m,b⟩
 ·have b:=d.2 j (List.mem_range.2 (Array.getElem?_eq_some_iff.1 f).1)
  rw[f]at b;simp at b;obtain⟨n,t,rfl⟩:=Array.getElem_of_mem g;exact b n t
 ·simp[Array.getD]at s
 ·have b:=wpAny_of_held _ _ _ _ h
  rw[AN]at b;exact b
end
end
section
open Go.Lib (hid)
open Go.Proofs.Tryz Go.RowKit
open List (getElem_cons_succ getElem_cons_zero getElem_toArray setIfInBounds_toArray set_cons_succ set_cons_zero)
theorem Dk{w:World}{k:Array Oper}{o:Oper}{a:Act}{K:Act->World->Prop}{Q:Exit->Act->World->Prop}{E:Prop}(m:o.guard=none)(s x:Operand)
  (n:o.op=.call { callee:=.builtin .append,args:=#[s,x],argTypes:=#[243,243] }) (B:Nat) (v:Value) (l:List (Nat × Nat)) (p:a.eval s=v) (c:dc w B 242 2 fW v l)
  (i:Addr) (hx:a.eval x=.slice (some i) 1 1) (e:Nat × Nat) (b:∀j u,(fW e)[j]?=some u->w.cell? (i.add j)=some u) (d:l.length<=1000000) (q:B<=w.heap.size)
  (h:∀f g,dc g B 242 2 fW f (l++[e])->Below B w g->w.grownBy g v.ownBlock->(f.ownBlock=v.ownBlock∨f.ownBlock=some w.heap.size)->K (a.put o.dst f) g):if Region.wanted o (yielded k a.tmps)=true then Oper.wp prog o a w K Q else E:=
 lG 243 242 16 (.agg #[.int .i64 0,.int .i64 0]) underlying243 J8 rfl (by omega) (by omega) xB m s x n B v l p c i hx e (Ge _) b d q h
theorem Dm{w:World}{k:Array Oper}{o:Oper}{a:Act}{K:Act->World->Prop}{Q:Exit->Act->World->Prop}{E:Prop}(m:o.guard=none)(s x:Operand)
  (n:o.op=.call { callee:=.builtin .append,args:=#[s,x],argTypes:=#[195,195] }) (B:Nat) (v:Value) (l:List (Ev × Sp)) (p:a.eval s=v) (c:dc w B 245 5 fZ v l)
  (i:Addr) (hx:a.eval x=.slice (some i) 1 1) (e:Ev × Sp) (b:∀j u,(fZ e)[j]?=some u->w.cell? (i.add j)=some u) (d:l.length<=1000000) (q:B<=w.heap.size)
  (h:∀f g,dc g B 245 5 fZ f (l++[e])->Below B w g->w.grownBy g v.ownBlock->(f.ownBlock=v.ownBlock∨f.ownBlock=some w.heap.size)->K (a.put o.dst f) g):if Region.wanted o (yielded k a.tmps)=true then Oper.wp prog o a w K Q else E:=
 lG 195 245 56 (.agg #[.int .i64 0,.int .i64 0,.int .i64 0,.bool false,.slice none 0 0]) underlying195 Ka rfl (by omega) (by omega) rg m s x n B v l p c i hx e (KI _) b d q h
theorem PastM.put_res{w C:World}{P B g N cap k M:Nat}{D:List (Nat->Nat)}{xs:List (Ev × Sp)}{gs:List Gp}{p:Nat × Nat}{u0 u1:Value}(h:PastM w P B D (.slice (some ⟨g,0,none⟩) N cap) xs gs)(r:Below w.heap.size w C)(E:k<xs.length)(t:k<gs.length)(_:M≠P)
  (G:dm w M 242 [u0,u1]) (H:(eL xs[k].2).ownBlock≠some M) (F:Value) (d:World)
  (O:dc d B 242 2 fW F (gs[k].2++[p])) (v:Below B C d) (f:C.grownBy d (eL xs[k].2).ownBlock) (l:F.ownBlock=(eL xs[k].2).ownBlock∨F.ownBlock=some C.heap.size):
  ∃o b,F=.slice (some ⟨o,0,none⟩) (gs[k].2.length+1) b /\
   PastM (d.setCell ⟨g,k*5+4,none⟩ (.slice (some ⟨o,0,none⟩) (gs[k].2.length+1) b)) P B D (.slice (some ⟨g,0,none⟩) N cap) (xs.set k (xs[k].1,⟨some ⟨o,0,none⟩,gs[k].2.length+1,b⟩)) (gs.set k (gs[k].1,gs[k].2++[p])) /\
   Aside P B w (d.setCell ⟨g,k*5+4,none⟩ (.slice (some ⟨o,0,none⟩) (gs[k].2.length+1) b)) /\
   (d.cell? ⟨P,16,none⟩=some (.slice (some ⟨g,0,none⟩) N cap)/\d.cell? ⟨M,0,none⟩=some u0/\d.cell? ⟨M,1,none⟩=some u1) /\
   (∀u,World.cell? (d.setCell ⟨g,k*5+4,none⟩ u) ⟨P,16,none⟩=some (.slice (some ⟨g,0,none⟩) N cap)/\World.cell? (d.setCell ⟨g,k*5+4,none⟩ u) ⟨M,0,none⟩=some u0/\World.cell? (d.setCell ⟨g,k*5+4,none⟩ u) ⟨M,1,none⟩=some u1) /\
   d.cell? ⟨g,k*5+4,none⟩=some (.slice xs[k].2.a xs[k].2.n xs[k].2.c)/\d.frozen? ⟨g,k*5+4,none⟩=false:=by
 obtain⟨o,b,x,_,_⟩:=dc.block O (by simp);rw[List.length_append,List.length_singleton]at x;subst x;have hF:=PastM.put (s':=⟨some ⟨o,0,none⟩,gs[k].2.length+1,b⟩) h r E t O v f l;have m:=h.later r
 have Q:=(G.later r)
 have i:dm d M 242 [u0,u1]:=(f.block M Q.lt (fun e=>H e.symm)).trans Q;have s:gI d P D (.slice (some ⟨g,0,none⟩) N cap):=(v.block P h.lt).trans m.blk
 have S:B<=g:=by
  rcases m.own.form with ⟨e,_⟩|⟨T,U,e,V,_⟩
  ·cases e
  ·injection e with e;injection e with e;injection e with e;omega
 have A:d.ownsRow B 245 5 (.slice (some ⟨g,0,none⟩) N cap) xs.length (dA fZ xs):=World.ownsRow.kept m.own.outer f (mj m.own.outer (m.own.inner k E t) lE)
 have I:M≠g:=fun e=>by
  have R:=nr A (q:=g) rfl _ _ _ (show d.heap[g]?=_ from e▸i);exact lE R.symm
 have J:P≠g:=by have:=h.lt;omega
 refine⟨o,b,rfl,hF.1,hF.2.1,⟨s.slice m.four,i.cell 0,i.cell 1⟩,fun u=>?_,?_,hF.2.2.2⟩
 ·have y:Only g d (d.setCell ⟨g,k*5+4,none⟩ u):=(Only.refl _ _).setCell _ _
  have L:gI (d.setCell ⟨g,k*5+4,none⟩ u) P D (.slice (some ⟨g,0,none⟩) N cap):=(y.block P (dm.lt s) J).trans s;have z:dm (d.setCell ⟨g,k*5+4,none⟩ u) M 242 [u0,u1]:=(y.block M i.lt I).trans i;exact⟨L.slice m.four,z.cell 0,z.cell 1⟩
 ·rw[m.own.cell_grown (j:=4) E E (by omega) f]
  rfl
def Bq(w:World)(P B:Nat)(l:List Ev)(n:Nat)(w':World):Prop:=∃v a,PastM w' P B (gv l n) v a (fB l n)/\Aside P B w w'
theorem Gr(P B n:Nat)(l:List Ev)(v:Value)(xs:List (Ev × Sp))(w:World)(hp:PastM w P B (gv l n) v xs (fB l n))(hr:dJ l=true)(hn:n<l.length)(hm:l.length<=1000):
  Calls prog 106 #[.pointer (some ⟨P,0,none⟩),.agg #[.int .i64 (dd l n).thread,.int .i64 (dd l n).kind,.int .i64 (dd l n).obj,.bool (dd l n).fail],.int .i64 n,.agg #[.int .i64 (clk l n 0),.int .i64 (clk l n 1),.int .i64 (clk l n 2),.int .i64 (clk l n 3)]] w fun r w'=>r=.returned (.tuple #[])/\Bq w P B l (n+1) w':=by
 have aC:=kZ (e:=dd l n) (by rw[gt hn];exact oJ hr hn);have aD:=hid (fun b h4=>LY l n b h4);have am:Hid (∀t:Nat,(dd l n).thread=t->clk l n t=num l n):=fun t ht=>by rw[<-ht];exact rD l n
 have HE:Hid (∃e,e=dd l n):=⟨_,rfl⟩
 have HG:Hid (fB l (n+1)=hH (fB l n) (dd l n) (n,num l n)):=rfl;have bd:=zC l n;have a0:=hid (zB l n);unfold Bq;generalize fB l (n+1)=GS at *;generalize fB l n=gs at *;have HP:=hid hp;clear hp;generalize dd l n=e at *;obtain⟨et,o,y,z⟩:=e;dsimp only at aC aD am ⊢
 obtain⟨b,rfl⟩:∃b:Nat,et=b:=⟨et.toNat,by omega⟩
 have A:b<4:=by omega
 have be:(b:Int)<4:=by omega
 have bc:(0:Int)<=b:=by omega
 clear aC HE;have au:=eH w (.cells #[.int .i64 (b:Int),.int .i64 o,.int .i64 y,.bool z] 112) (.cells #[.int .i64 (clk l n 0),.int .i64 (clk l n 1),.int .i64 (clk l n 2),.int .i64 (clk l n 3)] 193);have C:Hid (eo ((w.alloc (.cells #[.int .i64 (b:Int),.int .i64 o,.int .i64 y,.bool z] 112)).alloc (.cells #[.int .i64 (clk l n 0),.int .i64 (clk l n 1),.int .i64 (clk l n 2),.int .i64 (clk l n 3)] 193)) w.heap.size ⟨b,o,y,z⟩):=(eo.new w ⟨b,o,y,z⟩).later (da _ _);have ad:Hid (dm ((w.alloc (.cells #[.int .i64 (b:Int),.int .i64 o,.int .i64 y,.bool z] 112)).alloc (.cells #[.int .i64 (clk l n 0),.int .i64 (clk l n 1),.int .i64 (clk l n 2),.int .i64 (clk l n 3)] 193)) (w.heap.size+1) 193 (fR fun u=>(clk l n u:Nat))):=heap_alloc2_new w _ _;go_enter func106,ntmps106;go_wp2_with fail;generalize a1:(w.alloc (.cells #[.int .i64 (b:Int),.int .i64 o,.int .i64 y,.bool z] 112)).alloc (.cells #[.int .i64 (clk l n 0),.int .i64 (clk l n 1),.int .i64 (clk l n 2),.int .i64 (clk l n 3)] 193)=W0 at *;have R:=HP.out.later au;obtain⟨e0,e1,e2,e3⟩:=C.out.cells;obtain⟨c0,c1,c2,c3⟩:=ad.out.four;have p0:=R.blk.num (t:=b) (u:=0) A (by omega);have p1:=R.blk.num (t:=b) (u:=1) A (by omega);have p2:=R.blk.num (t:=b) (u:=2) A (by omega);have p3:=R.blk.num (t:=b) (u:=3) A (by omega);have f0:=R.blk.frozen (b*4);have f1:=R.blk.frozen (b*4+1);have f2:=R.blk.frozen (b*4+2);have f3:=R.blk.frozen (b*4+3);rw[Nat.add_zero]at p0
 go_region
 generalize av:((((W0.setCell ⟨P,b*4,none⟩ (.int .i64 (clk l n 0))).setCell ⟨P,b*4+1,none⟩ (.int .i64 (clk l n 1))).setCell ⟨P,b*4+2,none⟩ (.int .i64 (clk l n 2))).setCell ⟨P,b*4+3,none⟩ (.int .i64 (clk l n 3)))=V at *;have O:PastM V P B ((gv l n).set b fun u:Nat=>clk l n u) v xs gs/\Aside P B W0 V:=by rw[<-av];exact R.last A (fun u:Nat=>clk l n u)
 have ae:Only P W0 V:=by rw[<-av];exact((((Only.refl _ _).setCell _ _).setCell _ _).setCell _ _).setCell _ _
 have bf:P<w.heap.size:=Nat.lt_of_lt_of_le HP.out.lt HP.out.le;have H:Hid (PastM V.drew P B (gv l (n+1)) v xs gs):=(O.1.congr (lZ _ _) (aD.out b A rfl)).later ((Below.refl _ _).drew);have aE:Hid (Aside P B w V.drew):=((Aside.of_below au HP.out.le).trans O.2).trans (Aside.of_below ((Below.refl _ _).drew) (Nat.le_trans R.le ae.size));have aw:Hid (eo V.drew w.heap.size ⟨b,o,y,z⟩):=(C.out.only ae (by omega)).later ((Below.refl _ _).drew);have aF:Hid (dm V.drew (w.heap.size+1) 193 (fR fun u=>(clk l n u:Nat))):=(ae.block _ (dm.lt ad.out) (by omega)).trans ad.out;clear O ae av R p0 p1 p2 p3 f0 f1 f2 f3 e0 e1 e2 e3 c0 c1 c2 c3 a1 au C ad;generalize V.drew=m at *;obtain⟨e0,e1,e2,e3⟩:=aw.out.cells;have c0:=dm.cell aF.out b;rw[kz _ A]at c0;rw[am.out b rfl]at c0
 obtain⟨va,vc,rfl,HV⟩:∃va vc,v=.slice va gs.length vc/\Hid (gs=[]∨∃g,va=some ⟨g,0,none⟩):=by
  rcases H.out.own.form with ⟨h1,h2⟩|⟨g,c,h1,_⟩
  ·exact⟨none,0,by rw[h1,h2];rfl,.inl h2⟩
  ·exact⟨_,c,h1,.inr ⟨g,rfl⟩⟩
 have hv:=H.out.blk.slice (lZ _ _)
 have aU:Hid (∀i (hi:i<xs.length),(eL xs[i].2).ownBlock≠some m.heap.size):=fun i hi e=>by
  have:=(World.ownsRow.lt (H.out.own.inner i hi (by rw[<-H.out.own.len];exact hi)) _ e).2;omega
 have aV:Hid (B<=m.heap.size):=H.out.le;have T:=da m (.cells #[.int .i64 (n:Int),.int .i64 (num l n:Int)] 242);have a2:=de T hv;have aa:=hid (H.out.later T);have an:Hid (Aside P B w (m.alloc (.cells #[.int .i64 (n:Int),.int .i64 (num l n:Int)] 242))):=aE.out.trans (Aside.of_below T H.out.le);have aG:=hid (aw.out.later T);have aH:Hid (dm (m.alloc (.cells #[.int .i64 (n:Int),.int .i64 (num l n:Int)] 242)) m.heap.size 242 (fW (n,num l n))):=heap_alloc_new _ _;have bg:(m.alloc (.cells #[.int .i64 (n:Int),.int .i64 (num l n:Int)] 242)).heap.size=m.heap.size+1:=by simp
 go_wp2_with fail
 clear e0 e1 e2 e3 c0 hv a2 T H aE aw aF;generalize m.alloc (.cells #[.int .i64 (n:Int),.int .i64 (num l n:Int)] 242)=W2 at *
 go_loopw [28] (fun i wr=>∃k:Nat,k<=gs.length/\i=.int .i64 k/\Hid (∀j (h:j<k) (h2:j<gs.length),(gs[j]).1≠⟨b,o,y,z⟩)/\Hid (Below W2.heap.size W2 wr)) (fun i _=>gs.length-(intOf i).toNat)
 case atStart=>exact⟨0,Nat.zero_le _,rfl,(fun j h=>absurd h (by omega)),Below.refl _ _⟩
 case round=>
  obtain⟨k,hk,rfl,HN,HB⟩:=hrel;have E:=hid (aa.out.later HB.out);have HA:Hid (Aside P B w wr):=an.out.trans (Aside.of_below HB.out aa.out.le);have C:=hid (aG.out.later HB.out);have I:=hid (aH.out.later HB.out);have hv:=E.out.blk.slice (lZ _ _);have aI:=E.out.blk.frozen 16;obtain⟨e0,e1,e2,e3⟩:=C.out.cells;have q0:wr.cell? ⟨m.heap.size,0,none⟩=some (.int .i64 (n:Int)):=dm.cell I.out 0;have q1:wr.cell? ⟨m.heap.size,1,none⟩=some (.int .i64 (num l n:Int)):=dm.cell I.out 1
  by_cases J:k<gs.length
  ·obtain⟨g,rfl⟩:∃g,va=some ⟨g,0,none⟩:=by
    rcases HV.out with h|h
    ·rw[h]at J;simp at J
    ·exact h
   have D:k<xs.length:=by rw[E.out.own.len];exact J
   have a3:=E.out.own.evs k D J;have x0:=E.out.own.cell (j:=0) D (by omega);have x1:=E.out.own.cell (j:=1) D (by omega);have x2:=E.out.own.cell (j:=2) D (by omega);have x3:=E.out.own.cell (j:=3) D (by omega);have x4:=E.out.own.cell (j:=4) D (by omega);have ax:=sA gs[k].1 ⟨b,o,y,z⟩;rw[Nat.add_zero]at x0;simp only[fZ,a3,List.getElem?_cons_zero,List.getElem?_cons_succ]at x0 x1 x2 x3 x4
   by_cases he:gs[k].1=⟨b,o,y,z⟩
   ·have U:decide (gs[k].1=(⟨b,o,y,z⟩:Ev))=true:=by simp[he]
    rw[U]at ax;have HE:=hid (Nx (p:=(n,num l n)) J (fun i hi=>HN.out i hi (by omega)) he);clear U;go_wp2
    go_quiet (fail)
    go_wp2_with fail
    have af:Below wr.heap.size wr (wr.drewN nq):=(Below.refl _ wr).drewN;have N:=hid (E.out.later af);have aJ:Hid (Aside P B w (wr.drewN nq)):=HA.out.trans (Aside.of_below af E.out.le);have ab:=hid (I.out.later af);clear hv aI e0 e1 e2 e3 q0 q1 x0 x1 x2 x3 x4 E HA I C HB af ax he HN aa an aH aG;generalize wr.drewN nq=G at *;have hv:=N.out.blk.slice (lZ _ _);have q0:G.cell? ⟨m.heap.size,0,none⟩=some (.int .i64 (n:Int)):=dm.cell ab.out 0;have q1:G.cell? ⟨m.heap.size,1,none⟩=some (.int .i64 (num l n:Int)):=dm.cell ab.out 1;have x4:=N.out.own.cell (j:=4) D (by omega);simp only[fZ,List.getElem?_cons_zero,List.getElem?_cons_succ]at x4;have aK:=hid (N.out.own.inner k D J);have aW:Hid ((eL xs[k].2).ownBlock≠some m.heap.size):=aU.out k D;have a4:=a0.out gs[k] (List.getElem_mem J);have aX:=N.out.le
    have HQ:Hid (∀d,Below G.heap.size G d->d.cell? ⟨P,16,none⟩=some (.slice (some ⟨g,0,none⟩) gs.length vc)/\d.cell? ⟨m.heap.size,0,none⟩=some (.int .i64 (n:Int))/\d.cell? ⟨m.heap.size,1,none⟩=some (.int .i64 (num l n:Int))):=
     fun d hb=>⟨de hb hv,de hb q0,de hb q1⟩
    have aY:World.cell? G.drew ⟨g,k*5+4,none⟩=some (.slice xs[k].2.a xs[k].2.n xs[k].2.c):=x4;clear hv q0 q1;have W:Below G.heap.size G (G.alloc (.cells #[.int .i64 (n:Int),.int .i64 (num l n:Int)] 242)).drew:=(da G _).drew;have aL:Hid (dc (G.alloc (.cells #[.int .i64 (n:Int),.int .i64 (num l n:Int)] 242)).drew B 242 2 fW (.slice xs[k].2.a xs[k].2.n xs[k].2.c) gs[k].2):=aK.out.later W;have ao:Hid (∀j u,(fW (n,num l n))[j]?=some u->World.cell? (G.alloc (.cells #[.int .i64 (n:Int),.int .i64 (num l n:Int)] 242)).drew (Addr.add ⟨G.heap.size,0,none⟩ j)=some u):=gw G (fW (n,num l n)) _ _ rfl;have a5:gs[k].2.length<=1000000:=by omega
    have a6:B<=(World.heap (G.alloc (.cells #[.int .i64 (n:Int),.int .i64 (num l n:Int)] 242)).drew).size:=Nat.le_trans aX W.size;have ap:=hid (PastM.put_res (p:=(n,num l n)) N.out W D J (by have h1:=N.out.lt;have h2:=aV.out;omega) ab.out aW.out);have ag:=HQ.out _ W;have aq:=de W x4;have ah:=HQ.out _ (Below.refl _ G).drew;have f:=And.intro ah.1 (And.intro ah.2.1 (And.intro ah.2.2 x4));have aM:=And.intro ag.1 (And.intro ag.2.1 (And.intro ag.2.2 aq));refine wL (k:=18) (S:=(fun d=>d.cell? ⟨P,16,none⟩=some (.slice (some ⟨g,0,none⟩) gs.length vc)/\d.cell? ⟨m.heap.size,0,none⟩=some (.int .i64 (n:Int))/\d.cell? ⟨m.heap.size,1,none⟩=some (.int .i64 (num l n:Int))/\d.cell? ⟨g,k*5+4,none⟩=some (.slice xs[k].2.a xs[k].2.n xs[k].2.c))) (by kernel_rfl) rfl rfl rfl rfl (by kernel_rfl) rfl ?_;simp only[iA,kB,setIfInBounds_toArray,set_cons_succ,set_cons_zero,getElem_toArray,getElem_cons_zero,getElem_cons_succ,List.size_toArray,List.length_cons,List.length_nil,Nat.reduceAdd];change wpAnyH _ _ _ _ _ _ _ _ G.drew;refine fz 0 (v:=?_) rfl (by kernel_rfl) (by rfl) (fun _ _ _ h=>h) f ?yield ?_
    case yield=>((intro w hSw;(try dsimp only at hSw);go_simp) <;> with_reducible rfl)
    try simp only[getElem_toArray,getElem_cons_zero,Act.put,setIfInBounds_toArray,set_cons_zero,set_cons_succ]
    refine fz 1 (v:=?_) rfl (by kernel_rfl) (by rfl) (fun _ _ _ h=>h) f ?yield ?_
    case yield=>((intro w hSw;(try dsimp only at hSw);go_simp) <;> with_reducible rfl)
    try simp only[getElem_toArray,getElem_cons_zero,getElem_cons_succ,Act.put,setIfInBounds_toArray,set_cons_zero,set_cons_succ]
    refine fz 2 (v:=?_) rfl (by kernel_rfl) (by rfl) (fun _ _ _ h=>h) f ?yield ?_
    case yield=>((intro w hSw;(try dsimp only at hSw);go_simp) <;> with_reducible rfl)
    try simp only[getElem_toArray,getElem_cons_zero,getElem_cons_succ,Act.put,setIfInBounds_toArray,set_cons_zero,set_cons_succ]
    refine fz 3 (v:=?_) rfl (by kernel_rfl) (by rfl) (fun _ _ _ h=>h) f ?yield ?_
    case yield=>((intro w hSw;(try dsimp only at hSw);go_simp) <;> with_reducible rfl)
    try simp only[getElem_toArray,getElem_cons_zero,getElem_cons_succ,Act.put,setIfInBounds_toArray,set_cons_zero,set_cons_succ]
    refine fz 4 (v:=?_) rfl (by kernel_rfl) (by rfl) (fun _ _ _ h=>h) f ?yield ?_
    case yield=>((intro w hSw;(try dsimp only at hSw);go_simp) <;> with_reducible rfl)
    try simp only[getElem_toArray,getElem_cons_zero,getElem_cons_succ,Act.put,setIfInBounds_toArray,set_cons_zero,set_cons_succ]
    refine fz 5 (v:=?_) rfl (by kernel_rfl) (by rfl) (fun _ _ _ h=>h) f ?yield ?_
    case yield=>((intro w hSw;(try dsimp only at hSw);go_simp) <;> with_reducible rfl)
    try simp only[getElem_toArray,getElem_cons_zero,getElem_cons_succ,Act.put,setIfInBounds_toArray,set_cons_zero,set_cons_succ]
    refine fz 6 (v:=?_) rfl (by kernel_rfl) (by rfl) (fun _ _ _ h=>h) f ?yield ?_
    case yield=>((intro w hSw;(try dsimp only at hSw);go_simp) <;> with_reducible rfl)
    try simp only[getElem_toArray,getElem_cons_zero,getElem_cons_succ,Act.put,setIfInBounds_toArray,set_cons_zero,set_cons_succ]
    refine fz 7 (v:=?_) rfl (by kernel_rfl) (by rfl) (fun _ _ _ h=>h) f ?yield ?_
    case yield=>((intro w hSw;(try dsimp only at hSw);go_simp) <;> with_reducible rfl)
    try simp only[getElem_toArray,getElem_cons_zero,getElem_cons_succ,Act.put,setIfInBounds_toArray,set_cons_zero,set_cons_succ]
    refine fz 8 (v:=?_) rfl (by kernel_rfl) (by rfl) (fun _ _ _ h=>h) f ?yield ?_
    case yield=>((intro w hSw;(try dsimp only at hSw);go_simp) <;> with_reducible rfl)
    try simp only[getElem_toArray,getElem_cons_zero,getElem_cons_succ,Act.put,setIfInBounds_toArray,set_cons_zero,set_cons_succ]
    refine fz 9 (v:=?_) rfl (by kernel_rfl) (by rfl) (fun _ _ _ h=>h) f ?yield ?_
    case yield=>((intro w hSw;(try dsimp only at hSw);go_simp) <;> with_reducible rfl)
    try simp only[getElem_toArray,getElem_cons_zero,getElem_cons_succ,Act.put,setIfInBounds_toArray,set_cons_zero,set_cons_succ]
    refine fz 10 (v:=?_) rfl (by kernel_rfl) (by rfl) (fun _ _ _ h=>h) f ?yield ?_
    case yield=>((intro w hSw;(try dsimp only at hSw);go_simp) <;> with_reducible rfl)
    try simp only[getElem_toArray,getElem_cons_zero,getElem_cons_succ,Act.put,setIfInBounds_toArray,set_cons_zero,set_cons_succ]
    refine fz 11 (v:=?_) rfl (by kernel_rfl) (by rfl) (fun _ _ _ h=>h) f ?yield ?_
    case yield=>((intro w hSw;(try dsimp only at hSw);go_simp) <;> with_reducible rfl)
    try simp only[getElem_toArray,getElem_cons_zero,getElem_cons_succ,Act.put,setIfInBounds_toArray,set_cons_zero,set_cons_succ]
    refine fz 12 (v:=?_) rfl (by kernel_rfl) (by rfl) (fun _ _ _ h=>h) f ?yield ?_
    case yield=>((intro w hSw;(try dsimp only at hSw);go_simp) <;> with_reducible rfl)
    try simp only[getElem_toArray,getElem_cons_zero,getElem_cons_succ,Act.put,setIfInBounds_toArray,set_cons_zero,set_cons_succ]
    refine fz 13 (v:=?_) rfl (by kernel_rfl) (by rfl) (fun _ _ _ h=>h) f ?yield ?_
    case yield=>((intro w hSw;(try dsimp only at hSw);go_simp) <;> with_reducible rfl)
    try simp only[getElem_toArray,getElem_cons_zero,getElem_cons_succ,Act.put,setIfInBounds_toArray,set_cons_zero,set_cons_succ]
    refine wpAnyH_ready (rs:=[14]) (by kernel_rfl) (by simp) (AllReadyH.cons rfl (fun K hK=>?_) AllReadyH.nil)
    go_simp
    refine hK.out _ _ aM (fun _=>?_)
    try simp only[getElem_toArray,getElem_cons_zero,getElem_cons_succ,Act.put,setIfInBounds_toArray,set_cons_zero,set_cons_succ]
    refine wpAnyH_ready (rs:=[15]) (by kernel_rfl) (by simp) (AllReadyH.cons rfl (fun K hK=>?_) AllReadyH.nil);refine Dk (w:=(G.alloc (.cells #[.int .i64 (n:Int),.int .i64 (num l n:Int)] 242)).drew) (by rfl) (.tmp 53) (.tmp 55) (by rfl) B _ gs[k].2 (by rfl) aL.out ⟨G.heap.size,0,none⟩ (by rfl) (n,num l n) ao.out a5 a6 ?_;intro v3 w4 h1 h2 h3 h4;obtain⟨g3,aZ,e3,r1,r2,ai,r5,aN,aO⟩:=ap.out v3 w4 h1 h2 h3 h4;subst e3;have ay:=hid r1;have aP:=hid r2;clear h1 h2 h3 h4 r1 r2 r5;have X:=And.intro ai.1 (And.intro ai.2.1 (And.intro ai.2.2 aN));refine hK.out _ _ X (fun _=>?_)
    try simp only[getElem_toArray,getElem_cons_zero,getElem_cons_succ,Act.put,setIfInBounds_toArray,set_cons_zero,set_cons_succ]
    refine fz 16 (v:=?_) rfl (by kernel_rfl) (by rfl) (fun _ _ _ h=>h) X ?yield ?_
    case yield=>((intro w hSw;(try dsimp only at hSw);go_simp) <;> with_reducible rfl)
    try simp only[getElem_toArray,getElem_cons_zero,getElem_cons_succ,Act.put,setIfInBounds_toArray,set_cons_zero,set_cons_succ]
    refine fz 17 (v:=?_) rfl (by kernel_rfl) (by rfl) (fun _ _ _ h=>h) X ?yield ?_
    case yield=>((intro w hSw;(try dsimp only at hSw);go_simp) <;> with_reducible rfl)
    try simp only[getElem_toArray,getElem_cons_zero,getElem_cons_succ,Act.put,setIfInBounds_toArray,set_cons_zero,set_cons_succ]
    refine fz 18 (v:=?_) rfl (by kernel_rfl) (by rfl) (fun _ _ _ h=>h) X ?yield ?_
    case yield=>((intro w hSw;(try dsimp only at hSw);go_simp) <;> with_reducible rfl)
    try simp only[getElem_toArray,getElem_cons_zero,getElem_cons_succ,Act.put]
    refine wpAnyH_done (by kernel_rfl) ?_ _;clear ah ag f aM ai X aq aY x4 ap aL ao;refine zZ ?_;refine wpOp_step rfl (fun K hK=>?_)
    try simp only[getElem_toArray,getElem_cons_zero,getElem_cons_succ,Act.put]
    go_simp
    refine hK _ _ ?_;have Y:=hid (aJ.out.trans aP.out);rw[<-HE.out,<-HG.out]at ay;clear aP aK N aJ HE HG a4 aO HQ aN;go_wp2;refine bodyPost_ret (results_none rfl _ _ _) rfl ?_
    first
     |exact⟨rfl,⟨_,_,ay.out⟩,Y.out⟩
     |exact⟨rfl,_,_,ay.out,Y.out⟩
   ·have U:decide (gs[k].1=(⟨b,o,y,z⟩:Ev))=false:=by simpa using he
    rw[U]at ax
    have a7:Hid (∀j (h:j<k+1) (h2:j<gs.length),(gs[j]).1≠⟨b,o,y,z⟩):=by
     intro j hj a8
     by_cases e:j=k
     ·subst e;exact he
     ·exact HN.out j (by omega) a8
    clear he U HN;generalize gs[k].1=x at *;go_wp2
    go_quiet (fail)
    go_wp2
    go_roundw
    case rel=>exact⟨k+1,by omega,by go_num,a7,HB.out.drewN⟩
    case measure=>simp[intOf];omega
  ·obtain rfl:k=gs.length:=by omega
   have HE:=hid (Nu (e:=⟨b,o,y,z⟩) (p:=(n,num l n)) (gs:=gs) (fun x hx=>by
    obtain⟨i,hi,rfl⟩:=List.mem_iff_getElem.1 hx
    exact HN.out i hi hi))
   rw[<-HG.out]at HE;have a9:=E.out.le;have bh:xs.length<=1000:=by have:=E.out.own.len;omega
   have L:=eH wr (.cells #[.int .i64 (n:Int),.int .i64 (num l n:Int)] 242) (.cells #[.int .i64 (b:Int),.int .i64 o,.int .i64 y,.bool z,.slice (some ⟨wr.heap.size,0,none⟩) 1 1] 245);have ba:=da wr (.cells #[.int .i64 (n:Int),.int .i64 (num l n:Int)] 242)
   have aQ:Hid (dc ((wr.alloc (.cells #[.int .i64 (n:Int),.int .i64 (num l n:Int)] 242)).alloc (.cells #[.int .i64 (b:Int),.int .i64 o,.int .i64 y,.bool z,.slice (some ⟨wr.heap.size,0,none⟩) 1 1] 245)).drew B 242 2 fW (eL ⟨some ⟨wr.heap.size,0,none⟩,1,1⟩) [(n,num l n)]):=
    ⟨rfl,.inr ⟨wr.heap.size,1,_,rfl,a9,heap_alloc2_old wr _ _,Nat.le_refl _,by simp[maxLen],rfl,rfl⟩⟩
   have aR:=E.out.lt
   have aj:Hid (∀d,Below wr.heap.size wr d->(fun d=>d.cell? ⟨P,16,none⟩=some (.slice va gs.length vc)/\(d.cell? ⟨w.heap.size,0,none⟩=some (.int .i64 (b:Int))/\d.cell? ⟨w.heap.size,1,none⟩=some (.int .i64 o)/\d.cell? ⟨w.heap.size,2,none⟩=some (.int .i64 y)/\d.cell? ⟨w.heap.size,3,none⟩=some (.bool z))/\d.cell? ⟨m.heap.size,0,none⟩=some (.int .i64 (n:Int))/\d.cell? ⟨m.heap.size,1,none⟩=some (.int .i64 (num l n:Int))) d):=
    fun d hb=>⟨de hb hv,⟨de hb e0,de hb e1,de hb e2,de hb e3⟩,de hb q0,de hb q1⟩
   have M:=aj.out _ (Below.refl _ wr).drew;have az:=aj.out _ ba.drew;have aS:=aj.out _ L.drew;go_wp2_with fail;refine wL (k:=13) (S:=(fun d=>d.cell? ⟨P,16,none⟩=some (.slice va gs.length vc)/\(d.cell? ⟨w.heap.size,0,none⟩=some (.int .i64 (b:Int))/\d.cell? ⟨w.heap.size,1,none⟩=some (.int .i64 o)/\d.cell? ⟨w.heap.size,2,none⟩=some (.int .i64 y)/\d.cell? ⟨w.heap.size,3,none⟩=some (.bool z))/\d.cell? ⟨m.heap.size,0,none⟩=some (.int .i64 (n:Int))/\d.cell? ⟨m.heap.size,1,none⟩=some (.int .i64 (num l n:Int)))) (by kernel_rfl) rfl rfl rfl rfl (by kernel_rfl) rfl ?_;simp only[iA,kB,setIfInBounds_toArray,set_cons_succ,set_cons_zero,getElem_toArray,getElem_cons_zero,getElem_cons_succ,List.size_toArray,List.length_cons,List.length_nil,Nat.reduceAdd];change wpAnyH _ _ _ _ _ _ _ _ wr.drew;refine fz 0 (v:=?_) rfl (by kernel_rfl) (by rfl) (fun _ _ _ h=>h) M ?yield ?_
   case yield=>((intro w hSw;(try dsimp only at hSw);go_simp) <;> with_reducible rfl)
   try simp only[getElem_toArray,getElem_cons_zero,Act.put,setIfInBounds_toArray,set_cons_zero,set_cons_succ]
   refine fz 1 (v:=?_) rfl (by kernel_rfl) (by rfl) (fun _ _ _ h=>h) M ?yield ?_
   case yield=>((intro w hSw;(try dsimp only at hSw);go_simp) <;> with_reducible rfl)
   try simp only[getElem_toArray,getElem_cons_zero,getElem_cons_succ,Act.put,setIfInBounds_toArray,set_cons_zero,set_cons_succ]
   refine fz 2 (v:=?_) rfl (by kernel_rfl) (by rfl) (fun _ _ _ h=>h) M ?yield ?_
   case yield=>((intro w hSw;(try dsimp only at hSw);go_simp) <;> with_reducible rfl)
   try simp only[getElem_toArray,getElem_cons_zero,getElem_cons_succ,Act.put,setIfInBounds_toArray,set_cons_zero,set_cons_succ]
   refine fz 3 (v:=?_) rfl (by kernel_rfl) (by rfl) (fun _ _ _ h=>h) M ?yield ?_
   case yield=>((intro w hSw;(try dsimp only at hSw);go_simp) <;> with_reducible rfl)
   try simp only[getElem_toArray,getElem_cons_zero,getElem_cons_succ,Act.put,setIfInBounds_toArray,set_cons_zero,set_cons_succ]
   refine fz 4 (v:=?_) rfl (by kernel_rfl) (by rfl) (fun _ _ _ h=>h) M ?yield ?_
   case yield=>((intro w hSw;(try dsimp only at hSw);go_simp) <;> with_reducible rfl)
   try simp only[getElem_toArray,getElem_cons_zero,getElem_cons_succ,Act.put,setIfInBounds_toArray,set_cons_zero,set_cons_succ]
   refine fz 5 (v:=?_) rfl (by kernel_rfl) (by rfl) (fun _ _ _ h=>h) M ?yield ?_
   case yield=>((intro w hSw;(try dsimp only at hSw);go_simp) <;> with_reducible rfl)
   try simp only[getElem_toArray,getElem_cons_zero,getElem_cons_succ,Act.put,setIfInBounds_toArray,set_cons_zero,set_cons_succ]
   refine fz 6 (v:=?_) rfl (by kernel_rfl) (by rfl) (fun _ _ _ h=>h) M ?yield ?_
   case yield=>((intro w hSw;(try dsimp only at hSw);go_simp) <;> with_reducible rfl)
   try simp only[getElem_toArray,getElem_cons_zero,getElem_cons_succ,Act.put,setIfInBounds_toArray,set_cons_zero,set_cons_succ]
   refine wpAnyH_ready (rs:=[7]) (by kernel_rfl) (by simp) (AllReadyH.cons rfl (fun K hK=>?_) AllReadyH.nil)
   go_simp
   refine hK.out _ _ az (fun _=>?_)
   try simp only[getElem_toArray,getElem_cons_zero,getElem_cons_succ,Act.put,setIfInBounds_toArray,set_cons_zero,set_cons_succ]
   refine fz 8 (v:=?_) rfl (by kernel_rfl) (by rfl) (fun _ _ _ h=>h) az ?yield ?_
   case yield=>((intro w hSw;(try dsimp only at hSw);go_simp) <;> with_reducible rfl)
   try simp only[getElem_toArray,getElem_cons_zero,getElem_cons_succ,Act.put,setIfInBounds_toArray,set_cons_zero,set_cons_succ]
   refine wpAnyH_ready (rs:=[9]) (by kernel_rfl) (by simp) (AllReadyH.cons rfl (fun K hK=>?_) AllReadyH.nil)
   go_simp
   refine hK.out _ _ aS (fun _=>?_)
   try simp only[getElem_toArray,getElem_cons_zero,getElem_cons_succ,Act.put,setIfInBounds_toArray,set_cons_zero,set_cons_succ]
   refine wpAnyH_ready (rs:=[10]) (by kernel_rfl) (by simp) (AllReadyH.cons rfl (fun K hK=>?_) AllReadyH.nil);refine Dm (w:=((wr.alloc (.cells #[.int .i64 (n:Int),.int .i64 (num l n:Int)] 242)).alloc (.cells #[.int .i64 (b:Int),.int .i64 o,.int .i64 y,.bool z,.slice (some ⟨wr.heap.size,0,none⟩) 1 1] 245)).drew) (by rfl) (.tmp 64) (.tmp 69) (by rfl) B _ xs (by rfl) (dc.alloc (dc.alloc E.out.own.outer _) _) ⟨wr.heap.size+1,0,none⟩ (by rfl) (⟨b,o,y,z⟩,⟨some ⟨wr.heap.size,0,none⟩,1,1⟩) (gw (wr.alloc (.cells #[.int .i64 (n:Int),.int .i64 (num l n:Int)] 242)) (fZ (⟨b,o,y,z⟩,⟨some ⟨wr.heap.size,0,none⟩,1,1⟩)) _ _ (by simp)) (by omega) (by simp;omega) ?_;intro v3 w4 Q ak F al;obtain⟨g3,aZ,aT,_,_⟩:=dc.block Q (by simp);rw[List.length_append,List.length_singleton]at aT;subst aT;have HF:=hid (PastM.new (s:=⟨some ⟨wr.heap.size,0,none⟩,1,1⟩) (q:=wr.heap.size) E.out L.drew aQ.out rfl (Nat.le_refl _) Q ak F);have aA:∀(q:Nat) (t:TypeId) (ys:List Value),dm wr q t ys->t≠245->some q≠(Value.slice va gs.length vc).ownBlock:=fun q t ys hm ht e=>ht (nr E.out.own.outer e.symm _ _ _ hm)
   have ar:eo w4 w.heap.size ⟨b,o,y,z⟩:=(F.block _ (C.out.later L.drew).lt (aA _ _ [.int .i64 b,.int .i64 o,.int .i64 y,.bool z] C.out (by decide))).trans (C.out.later L.drew);have ac:dm w4 m.heap.size 242 (fW (n,num l n)):=(F.block _ (I.out.later L.drew).lt (aA _ _ _ I.out (by decide))).trans (I.out.later L.drew);have bb:=(ak.cell (p:=⟨P,16,none⟩) aR).trans (de L hv);have aO:=(ak.frozen (p:=⟨P,16,none⟩) aR).trans ((E.out.later L).blk.frozen 16)
   have Z:(fun d=>d.cell? ⟨P,16,none⟩=some (.slice va gs.length vc)/\(d.cell? ⟨w.heap.size,0,none⟩=some (.int .i64 (b:Int))/\d.cell? ⟨w.heap.size,1,none⟩=some (.int .i64 o)/\d.cell? ⟨w.heap.size,2,none⟩=some (.int .i64 y)/\d.cell? ⟨w.heap.size,3,none⟩=some (.bool z))/\d.cell? ⟨m.heap.size,0,none⟩=some (.int .i64 (n:Int))/\d.cell? ⟨m.heap.size,1,none⟩=some (.int .i64 (num l n:Int))) w4:=⟨bb,ar.cells,ac.cell 0,ac.cell 1⟩
   clear Q ak F al ar ac aA;refine hK.out _ _ Z (fun _=>?_)
   try simp only[getElem_toArray,getElem_cons_zero,getElem_cons_succ,Act.put,setIfInBounds_toArray,set_cons_zero,set_cons_succ]
   refine fz 11 (v:=?_) rfl (by kernel_rfl) (by rfl) (fun _ _ _ h=>h) Z ?yield ?_
   case yield=>((intro w hSw;(try dsimp only at hSw);go_simp) <;> with_reducible rfl)
   try simp only[getElem_toArray,getElem_cons_zero,getElem_cons_succ,Act.put,setIfInBounds_toArray,set_cons_zero,set_cons_succ]
   refine fz 12 (v:=?_) rfl (by kernel_rfl) (by rfl) (fun _ _ _ h=>h) Z ?yield ?_
   case yield=>((intro w hSw;(try dsimp only at hSw);go_simp) <;> with_reducible rfl)
   try simp only[getElem_toArray,getElem_cons_zero,getElem_cons_succ,Act.put,setIfInBounds_toArray,set_cons_zero,set_cons_succ]
   refine fz 13 (v:=?_) rfl (by kernel_rfl) (by rfl) (fun _ _ _ h=>h) Z ?yield ?_
   case yield=>((intro w hSw;(try dsimp only at hSw);go_simp) <;> with_reducible rfl)
   try simp only[getElem_toArray,getElem_cons_zero,getElem_cons_succ,Act.put]
   refine wpAnyH_done (by kernel_rfl) ?_ _;have Y:=hid (HA.out.trans HF.out.2);have aB:=hid HF.out.1;rw[<-HE.out]at aB;clear HF E HA M az aS Z aj HE HG aQ I C e0 e1 e2 e3 q0 q1 hv aI;refine zZ ?_;refine wpOp_step rfl (fun K hK=>?_)
   try simp only[getElem_toArray,getElem_cons_zero,getElem_cons_succ,Act.put]
   go_simp
   refine hK _ _ ?_;go_wp2
   go_end0
   first
    |exact⟨rfl,⟨_,_,aB.out⟩,Y.out⟩
    |exact⟨rfl,_,_,aB.out,Y.out⟩
end
section
open Go.Proofs.Tryz Go.RowKit
structure Low(P B:Nat)(w w':World):Prop where
 os:w'.os=w.os
 tape:w'.tape=w.tape
 output:w'.output=w.output
 size:w.heap.size<=w'.heap.size
 low:∀k,k<B->k≠P->w'.heap[k]?=w.heap[k]?
theorem Low.refl(P B:Nat)(w:World):Low P B w w:=⟨rfl,rfl,rfl,Nat.le_refl _,fun _ _ _=>rfl⟩
theorem Low.trans{P B:Nat}{a b c:World}(h:Low P B a b)(k:Low P B b c):Low P B a c:=
 ⟨k.os.trans h.os,k.tape.trans h.tape,k.output.trans h.output,Nat.le_trans h.size k.size,fun i d e=>(k.low i d e).trans (h.low i d e)⟩
theorem Aside.toLow{P B:Nat}{w w':World}(h:Aside P B w w'):Low P B w w':=⟨h.os,h.tape,h.output,h.size,h.low⟩
theorem Low.of_below{P B:Nat}{w w':World}(h:Below B w w'):Low P B w w':=⟨h.os,h.tape,h.output,h.size,fun k a _=>h.block k a⟩
theorem Low.below{P B A:Nat}{w w':World}(h:Low P B w w')(a:A<=P)(b:A<=B):Below A w w':=
 ⟨h.os,h.tape,h.output,h.size,fun k c=>h.low k (by omega) (by omega)⟩
theorem Low.cell{P B:Nat}{w w':World}(h:Low P B w w'){a:Addr}(b:a.block<B)(c:a.block≠P):w'.cell? a=w.cell? a:=by
 unfold World.cell?;rw[h.low _ b c]
theorem PastM.race{w w':World}{P B n m:Nat}{a:List (Nat->Nat)}{v v2:Value}{xs:List (Ev × Sp)}{gs:List Gp}{b:List Value}(h:PastM w P B a v xs gs)(c:w.ownsRow B 137 n v2 m b)(hb:Below B w w')(d:w.grownBy w' v2.ownBlock):PastM w' P B a v xs gs:=
 ⟨(hb.block P h.lt).trans h.blk,h.own.kept d (fun r e t g f=>by
  have:=nr c e _ _ _ f;subst this
  exact⟨by decide,by decide⟩),h.lt,Nat.le_trans h.le hb.size,h.four⟩
theorem PastM.begin{w a:World}(l:List Ev)(hb:Below (w.heap.size+1) (w.alloc (.cells #[.int .i64 0,.int .i64 0,.int .i64 0,.int .i64 0,.int .i64 0,.int .i64 0,.int .i64 0,.int .i64 0,.int .i64 0,.int .i64 0,.int .i64 0,.int .i64 0,.int .i64 0,.int .i64 0,.int .i64 0,.int .i64 0,.slice none 0 0] 197)) a):
  PastM a w.heap.size a.heap.size (gv l 0) (.slice none 0 0) [] (fB l 0):=by
 have b:gI (w.alloc (.cells #[.int .i64 0,.int .i64 0,.int .i64 0,.int .i64 0,.int .i64 0,.int .i64 0,.int .i64 0,.int .i64 0,.int .i64 0,.int .i64 0,.int .i64 0,.int .i64 0,.int .i64 0,.int .i64 0,.int .i64 0,.int .i64 0,.slice none 0 0] 197)) w.heap.size (gv l 0) (.slice none 0 0):=heap_alloc_new w _;have c:=hb.size;rw[World.size_alloc]at c;exact⟨(hb.block _ (Nat.lt_succ_self _)).trans b,Gy _ _,by omega,Nat.le_refl _,lZ _ _⟩
theorem GV(l:List Ev)(k:Nat):0<num l k:=by
 unfold num;rw[gY];have:dq l (dd l k).thread k=true:=by unfold dq;simp
 rw[this];simp
theorem Mn{g W:World}{P:Nat}{l:List Ev}{a:Option Addr}(m:dJ l=true)(h:en g a 4 fL (iG l))(x:gI g P (gv l 0) (.slice none 0 0))(i:Low P g.heap.size g W){k:Nat}(n:k<l.length):
  ∃b o,a=some ⟨b,o,none⟩/\W.cell? ⟨b,o+k*4,none⟩=some (.int .i64 (clk l k 0))/\W.cell? ⟨b,o+k*4+1,none⟩=some (.int .i64 (clk l k 1))/\W.cell? ⟨b,o+k*4+2,none⟩=some (.int .i64 (clk l k 2))/\W.cell? ⟨b,o+k*4+3,none⟩=some (.int .i64 (clk l k 3)):=by
 have C:=nW m;have d:k<(iG l).length:=by omega
 obtain⟨b,o,rfl,p⟩:=h.2 (by intro e;rw[e]at d;simp at d);have hb:b<g.heap.size:=fs (p k d 0 _ rfl)
 have r:b≠P:=by
  rintro rfl;have D:=kZ (e:=dd l k) (by rw[gt n];exact oJ m n)
  obtain⟨t,y⟩:∃t:Nat,(dd l k).thread=t:=⟨(dd l k).thread.toNat,by omega⟩
  have s:t<4:=by omega
  have q:g.cell? ⟨b,o+k*4+t,none⟩=some (.int .i64 (clk l k t)):=p k d t _ (by rw[AD m n];exact kz _ s);have v:=rD l k;rw[y]at v;have E:=GV l k;rw[v]at q;rw[dm.cell x]at q;have f:=List.mem_of_getElem? q;have z:dA fL (gv l 0)=List.replicate 16 (.int .i64 0):=rfl;rw[z]at f;rcases List.mem_append.1 f with f|f
  ·have w:=(List.mem_replicate.1 f).2
   injection w with _ w;omega
  ·rw[List.mem_singleton]at f
   cases f
 have c:∀j u,(fL ((iG l)[k]))[j]?=some u->W.cell? ⟨b,o+k*4+j,none⟩=some u:=fun j u B=>(i.cell (a:=⟨b,o+k*4+j,none⟩) hb r).trans (p k d j u B)
 rw[AD m n]at c;exact⟨b,o,rfl,c 0 _ rfl,c 1 _ rfl,c 2 _ rfl,c 3 _ rfl⟩
theorem xJ{T:Type}{w:World}{B A n:Nat}{t:TypeId}{f:T->List Value}{v:Value}{l:List T}(h:dc w B t n f v l)(d:A<=B):dc w A t n f v l:=by
 obtain⟨c,e|⟨g,a,b,i,j,k⟩⟩:=h
 ·exact⟨c,.inl e⟩
 ·exact⟨c,.inr ⟨g,a,b,i,Nat.le_trans d j,k⟩⟩
theorem BE{w:World}{c:Array Oper}{rest:List Oper}{o:Oper}{a:Act}{Q:Exit->Act->World->Prop}(m:o.guard=none)
  (s x:Operand) (p:o.op=.call { callee:=.builtin .append,args:=#[s,x],argTypes:=#[134,134] }) (B:Nat) (v:Value) (l:List (Nat × Int)) (q:a.eval s=v) (d:dc w B 137 2 eN v l)
  (u:Value) (row:List (Nat × Int)) (hx:a.eval x=u) (b:dc w B 137 2 eN u row) (f:l.length+row.length<=1000000) (r:B<=w.heap.size)
  (h:∀n j,dc j B 137 2 eN n (l++row)->Below B w j->w.grownBy j v.ownBlock->wpList prog c Q rest (a.put o.dst n) j):wpList prog c Q (o::rest) a w:=by
 obtain⟨t,i,rfl,y,z⟩:=b.form mv (by omega);refine vi 134 137 16 _ underlying134 zm rfl (by omega) (by omega) mv wU m s x p B v l q d t i row hx y (fun e=>⟨z e,?_⟩) f r h
 rcases b with ⟨_,⟨_,k⟩|⟨g,A,C,k,_⟩⟩
 ·exact List.eq_nil_of_length_eq_zero k
 ·subst e
  cases k
end
section
open Go.RowKit

end
section
open Go.Lib (hid)
open Go.Proofs.Tryz Go.RowKit
open Nat (le_refl zero_le)
def iv(l:List Ev):List Ev:=if dJ l=true then l else []
theorem GO(l:List Ev):(iv l).length<=l.length:=by
 unfold iv
 split
 ·exact le_refl _
 ·exact zero_le _
def pU(nx:Int->Option Ev)(b:Nat)(l:List Ev)(w:World)(r:Ending)(w':World):Prop:=
 ∃a,r=.returned a/\dc w' w.heap.size 137 2 eN a (iu nx (iv l) b)/\Below w.heap.size w w'
def Nz(P:Nat)(b:List Ev)(n:Nat)(v:Value)(xs:List (Ev × Sp))(nx:Int->Option Ev)(l:List Ev)(a:World)(t:Nat)(c:Value)(W:World):Prop:=
 PastM W P a.heap.size (gv b n) v xs (fB b n)/\dc W a.heap.size 137 2 eN c (iu nx l t)/\Low P a.heap.size a W
theorem Fu(sp:Option Addr)(U:Nat)(nx:Int->Option Ev)(al:∀t e,nx t=some e->e.thread=t)(hT:U<=4)(a:Option Addr)(cap:Nat)(l:List Ev)(w:World)(hl:ei w a l)(hm:l.length<=200)
  (am:∀W,Below w.heap.size w W->Calls prog 107 #[.pointer sp] W fun r w'=>r=.returned (.int .i64 U)/\W=w')
  (an:∀W (t:Nat),t<U->Below w.heap.size w W->Calls prog 108 #[.pointer sp,.int .i64 t] W fun r w'=>r=.returned (lU (nx t))/\Below W.heap.size W w'):
  Calls prog 66 #[.pointer sp,.slice a l.length cap] w (pU nx U l w):=by
 have HL:=hid hl;have aD:=hid am;have aE:=hid an;have aF:=hid al;clear hl am an al;unfold pU;have M:=da w (.cells #[.int .i64 0,.int .i64 0,.int .i64 0,.int .i64 0,.int .i64 0,.int .i64 0,.int .i64 0,.int .i64 0,.int .i64 0,.int .i64 0,.int .i64 0,.int .i64 0,.int .i64 0,.int .i64 0,.int .i64 0,.int .i64 0,.slice none 0 0] 197);go_enter func66,ntmps66;go_wp2_with fail;refine(Mm a cap l _ (HL.out.later M) (by omega)).mono ?_;rintro r c⟨a',aN,rfl,V,N⟩;have E:=N;rw[World.size_alloc]at E;have ab:Hid (PastM c w.heap.size c.heap.size (gv l 0) (.slice none 0 0) [] (fB l 0)):=PastM.begin l E;have s:Hid (Below w.heap.size w c):=M.trans (N.mono M.size)
 have aO:w.heap.size+1<=c.heap.size:=by
  have:=N.size
  rwa [World.size_alloc]at this
 have X:=hid V;clear M N E V
 have O:Hid ((iG l).length=0∨(dJ l=true/\(iG l).length=l.length)):=by
  cases z:dJ l
  ·exact .inl (by rw[AC z];rfl)
  ·exact .inr ⟨rfl,nW z⟩
 have aP:(iG l).length<=l.length:=by rcases O.out with h|⟨_,h⟩ <;> omega
 go_wp2_with fail
 generalize aG:(iG l).length=m at *
 go_loopw [15] (fun i wr=>∃k:Nat,k<=m/\i=.int .i64 k/\Hid ((∃v A,PastM wr w.heap.size c.heap.size (gv l k) v A (fB l k))/\Low w.heap.size c.heap.size c wr)) (fun i _=>m-(intOf i).toNat)
 case atStart=>exact⟨0,zero_le _,rfl,⟨_,_,ab.out⟩,Low.refl _ _ _⟩
 case round=>
  obtain⟨k,hk,rfl,G⟩:=hrel
  by_cases ao:k<m
  ·obtain⟨z,aB⟩:dJ l=true/\m=l.length:=by
    rcases O.out with h|⟨h1,h2⟩
    ·omega
    ·exact⟨h1,by omega⟩
   have x:k<l.length:=by omega
   clear aB;obtain⟨⟨v,A,hp⟩,p⟩:=G.out;obtain⟨b,o,rfl,c0,c1,c2,c3⟩:=Mn z X.out ab.out.blk p x;have ap:Below w.heap.size w wr:=s.out.trans (p.below (le_refl _) (by omega));obtain⟨B,C,rfl,_⟩:=(HL.out.later ap).one x;have g:=da wr (.cells #[.int .i64 (clk l k 0),.int .i64 (clk l k 1),.int .i64 (clk l k 2),.int .i64 (clk l k 3)] 193);have ht:=kZ (e:=dd l k) (by rw[gt x];exact oJ z x);have aq:Hid (PastM (wr.alloc (.cells #[.int .i64 (clk l k 0),.int .i64 (clk l k 1),.int .i64 (clk l k 2),.int .i64 (clk l k 3)] 193)) w.heap.size c.heap.size (gv l k) v A (fB l k)):=hp.later g;have F:Hid (Low w.heap.size c.heap.size c (wr.alloc (.cells #[.int .i64 (clk l k 0),.int .i64 (clk l k 1),.int .i64 (clk l k 2),.int .i64 (clk l k 3)] 193))):=p.trans (Low.of_below (g.mono hp.le));have ac:Hid (dm (wr.alloc (.cells #[.int .i64 (clk l k 0),.int .i64 (clk l k 1),.int .i64 (clk l k 2),.int .i64 (clk l k 3)] 193)) wr.heap.size 193 (fR fun u=>(clk l k u:Nat))):=heap_alloc_new _ _
   have ar:Hid (∀d,Below w.heap.size w d->d.cell? ⟨B,C+k*4,none⟩=some (.int .i64 (dd l k).thread)/\d.cell? ⟨B,C+k*4+1,none⟩=some (.int .i64 (dd l k).kind)/\d.cell? ⟨B,C+k*4+2,none⟩=some (.int .i64 (dd l k).obj)/\d.cell? ⟨B,C+k*4+3,none⟩=some (.bool (dd l k).fail)):=by
    intro d hb;obtain⟨b3,o3,e3,s0,s1,s2,s3⟩:=(HL.out.later hb).one x
    cases e3
    exact⟨s0,s1,s2,s3⟩
   clear hp p ap g;go_wp2_with fail;generalize wr.alloc (.cells #[.int .i64 (clk l k 0),.int .i64 (clk l k 1),.int .i64 (clk l k 2),.int .i64 (clk l k 3)] 193)=w4 at *
   have HQ:Hid (∀d,Below w.heap.size w d->dm d wr.heap.size 193 (fR fun u=>(clk l k u:Nat)) ->
      (d.cell? ⟨B,C+k*4,none⟩=some (.int .i64 (dd l k).thread)/\d.cell? ⟨B,C+k*4+1,none⟩=some (.int .i64 (dd l k).kind)/\d.cell? ⟨B,C+k*4+2,none⟩=some (.int .i64 (dd l k).obj)/\d.cell? ⟨B,C+k*4+3,none⟩=some (.bool (dd l k).fail)) /\
      (d.cell? ⟨wr.heap.size,0,none⟩=some (.int .i64 (clk l k 0))/\d.cell? ⟨wr.heap.size,1,none⟩=some (.int .i64 (clk l k 1))/\d.cell? ⟨wr.heap.size,2,none⟩=some (.int .i64 (clk l k 2))/\d.cell? ⟨wr.heap.size,3,none⟩=some (.int .i64 (clk l k 3)))):=
     fun d hb hM=>⟨ar.out d hb,hM.four⟩
   have Y:=hid (Gr w.heap.size c.heap.size k l v A w4.drew (aq.out.later (Below.refl _ w4).drew) z x (by omega));have au:=HQ.out w4.drew ((s.out.trans (F.out.below (le_refl _) (by omega))).drew) ac.out;have aQ:(k:Int)<l.length:=by omega
   clear c0 c1 c2 c3
   go_region_held3 (fun d=>
      (d.cell? ⟨B,C+k*4,none⟩=some (.int .i64 (dd l k).thread)/\d.cell? ⟨B,C+k*4+1,none⟩=some (.int .i64 (dd l k).kind)/\d.cell? ⟨B,C+k*4+2,none⟩=some (.int .i64 (dd l k).obj)/\d.cell? ⟨B,C+k*4+3,none⟩=some (.bool (dd l k).fail)) /\
      (d.cell? ⟨wr.heap.size,0,none⟩=some (.int .i64 (clk l k 0))/\d.cell? ⟨wr.heap.size,1,none⟩=some (.int .i64 (clk l k 1))/\d.cell? ⟨wr.heap.size,2,none⟩=some (.int .i64 (clk l k 2))/\d.cell? ⟨wr.heap.size,3,none⟩=some (.int .i64 (clk l k 3))))
     (first|exact au|exact av)
     (first|(go_at_call 106;((with_reducible refine Y.out.mono ?_);rintro r w5⟨rfl,v5,aR,aw,ad⟩;have ae:=hid aw;have Z:Hid (Low w.heap.size c.heap.size c w5):=F.out.trans ((Low.of_below (Below.refl _ w4).drew).trans ad.toLow);have av:=HQ.out w5 (s.out.trans (Z.out.below (le_refl _) (by omega))) (ad.keep _ _ _ _ ac.out (by decide) (by decide) (by decide));clear aw ad)))
   clear au av Y ac F ar aq HQ;go_wp2
   go_roundw
   case rel=>exact⟨k+1,by omega,by go_num,⟨_,_,ae.out⟩,Z.out⟩
   case measure=>simp[intOf];omega
  ·obtain rfl:k=m:=by omega
   obtain⟨D,n,v,A,aH,aI,aJ,aK,HP⟩:∃(D:List Ev) (n:Nat) (v:Value) (A:List (Ev × Sp)),dJ D=true/\n<=D.length/\D.length<=200/\Hid (∀e,iY D n e=gR (iv l) e)/\Hid (PastM wr w.heap.size c.heap.size (gv D n) v A (fB D n)):=by
    obtain⟨⟨v,A,hp⟩,p⟩:=G.out
    cases z:dJ l
    ·have af:k=0:=by
      rcases O.out with h|⟨h,_⟩
      ·exact h
      ·rw[z]at h;cases h
     subst af;refine⟨[],0,v,A,rfl,le_refl _,by simp,fun e=>?_,hp⟩;unfold iv;rw[if_neg (by rw[z];simp)];rfl
    ·have af:k=l.length:=by
      rw[<-aG];exact nW z
     subst af;refine⟨l,l.length,v,A,z,le_refl _,hm,fun e=>?_,hp⟩;unfold iv;rw[if_pos z,BY]
   have j:=hid G.out.2;clear G O X ab;go_wp2_with fail;refine(aD.out wr (s.out.trans (j.out.below (le_refl _) (by omega)))).mono ?_;rintro r w'⟨rfl,rfl⟩;go_wp2_with fail
   go_loopw [8,30] (fun lv i wt=>∃t:Nat,t<=U/\i=.int .i64 t/\Hid (Nz w.heap.size D n v A nx (iv l) c t lv wt)) (fun _ i _=>U-(intOf i).toNat)
   case atStart=>exact⟨0,zero_le _,rfl,HP.out,iF _ _ _ _ _,j.out⟩
   case round=>
    clear HP j;obtain⟨t,ht,rfl,G⟩:=hrel;have ag:=hid G.out.1;have ah:=hid G.out.2.1;have j:=hid G.out.2.2;clear G
    by_cases ao:t<U
    ·go_wp2_with fail
     refine(aE.out _ t ao (s.out.trans (j.out.below (le_refl _) (by omega)))).mono ?_;rintro r H⟨rfl,g⟩;have y:=hid (ag.out.later g);have P:=hid (ah.out.later g);have Q:Hid (Low w.heap.size c.heap.size c H):=j.out.trans (Low.of_below (g.mono ag.out.le));clear ag ah j g
     cases hn:nx t with
     |none=>
      have f:=da H (.cells #[.int .i64 0,.int .i64 0,.int .i64 0,.bool false] 112);have q:=hid (y.out.later f);have R:Hid (Low w.heap.size c.heap.size c (H.alloc (.cells #[.int .i64 0,.int .i64 0,.int .i64 0,.bool false] 112))):=Q.out.trans (Low.of_below (f.mono y.out.le))
      have S:Hid (dc (H.alloc (.cells #[.int .i64 0,.int .i64 0,.int .i64 0,.bool false] 112)) c.heap.size 137 2 eN u8 (iu nx (iv l) (t+1))):=by
       show dc _ _ _ _ _ _ _;rw[qz,hn];simp only[List.append_nil];exact P.out.later f
      clear hn f y P Q;simp only[lU,jv,iR,Option.getD_none,Option.isSome_none];go_wp2
      go_roundw
      case rel=>exact⟨t+1,by omega,by go_num,q.out,S.out,R.out⟩
      case measure=>simp[intOf];omega
     |some e=>
      obtain⟨et,I,J,L⟩:=e;obtain rfl:et=(t:Int):=aF.out t _ hn;have f:=da H (.cells #[.int .i64 (t:Int),.int .i64 I,.int .i64 J,.bool L] 112);have q:=hid (y.out.later f);have S:=hid (P.out.later f);have R:Hid (Low w.heap.size c.heap.size c (H.alloc (.cells #[.int .i64 (t:Int),.int .i64 I,.int .i64 J,.bool L] 112))):=Q.out.trans (Low.of_below (f.mono y.out.le));have ax:Hid (eo (H.alloc (.cells #[.int .i64 (t:Int),.int .i64 I,.int .i64 J,.bool L] 112)) H.heap.size ⟨t,I,J,L⟩):=eo.new H ⟨t,I,J,L⟩;have HN:=hid hn;clear hn f y P Q;simp only[lU,jv,Option.getD_some,Option.isSome_some];obtain⟨e0,e1,e2,e3⟩:=ax.out.cells;go_wp2_with fail;refine(Ft w.heap.size c.heap.size n D ⟨t,I,J,L⟩ v A _ q.out aH aI aJ (by show(0:Int)<=t;omega) (by show(t:Int)<4;omega)).mono ?_;rintro r w4⟨rv,rfl,ay,T⟩;have ai:=S.out.later T;have aj:=q.out.later T;have aC:c.heap.size<=w4.heap.size:=aj.le;have aa:dc w4 c.heap.size 137 2 eN rv (fV (t:Int) (iY D n ⟨t,I,J,L⟩)):=xJ ay q.out.le
      have az:(iu nx (iv l) t).length+(fV (t:Int) (iY D n ⟨t,I,J,L⟩)).length<=1000000:=by
       have h7:=qA nx (iv l) t;have h8:=xa D n ⟨t,I,J,L⟩;have h9:=GO l;have aS:t*(iv l).length<=4*200:=Nat.mul_le_mul (by omega) (by omega);unfold fV;rw[List.length_map];omega
      go_wp2_with (at_builtin;refine BE rfl _ _ rfl c.heap.size _ (iu nx (iv l) t) rfl ai _ _ rfl aa az aC ?_;intro v5 w5 h5 ak aA)
      have ae:=hid (aj.race ai ak aA)
      have aL:Hid (dc w5 c.heap.size 137 2 eN v5 (iu nx (iv l) (t+1))):=by
       show dc _ _ _ _ _ _ _;rw[qz,HN.out];rw[aK.out]at h5;exact h5
      have aM:Hid (Low w.heap.size c.heap.size c w5):=(R.out.trans (Low.of_below (T.mono q.out.le))).trans (Low.of_below ak);clear ai aj aa h5 ak aA T ay az HN ax q S R;go_wp2
      go_roundw
      case rel=>exact⟨t+1,by omega,by go_num,ae.out,aL.out,aM.out⟩
      case measure=>simp[intOf];omega
    ·obtain rfl:t=U:=by omega
     go_wp2;go_ret;exact⟨_,rfl,xJ ah.out (by omega),s.out.trans (j.out.below (le_refl _) (by omega))⟩
end
section
open Go.Proofs.Tryz Go.RowKit
theorem wW{F:Nat}{s:St}{b:Nat}{w:World}(h:di w b s)(c:s.Ok F)(d:s.ts.length<=4)(a:Option Addr)(cap:Nat)(l:List Ev)(e:ei w a l)(f:l.length<=200):
  Calls prog 66 #[.pointer (some ⟨b,0,none⟩),.slice a l.length cap] w (pU s.next s.ts.length l w):=
 Fu _ s.ts.length s.next (fun _ _ h=>oU h) d a cap l w e f (fun _ hb=>nj (h.later hb)) (fun _ t _ hb=>oV (h.later hb) c t)
end
end Go.Proofs.YtjfmmnhcddckaaaGreat
