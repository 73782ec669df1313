import Derived.Deep.AppendSrc
import Derived.Test.YtjfmmnhcddckaaaGreatPk07
set_option maxRecDepth 100000
set_option maxHeartbeats 40000000
namespace Go.Proofs.YtjfmmnhcddckaaaGreat
section
open Go.RowKit
def iM(x:Thr):List Value:=[.int .i64 x.at_,.int .i64 x.fuel,.int .i64 (x.r.getD 0 0),.int .i64 (x.r.getD 1 0)]
def fy(l:List Thr):List Value:=l.flatMap iM
theorem sf(l:List Thr):(fy l).length=l.length*4:=by
 induction l with
 |nil=>rfl
 |cons i l a=>simp only[fy,iM,List.flatMap_cons,List.length_append,List.length_cons,List.length_nil]at *;omega
theorem CO(a b:List Thr):fy (a++b)=fy a++fy b:=by simp[fy]
theorem oA(l:List Thr)(i j:Nat)(h:i<l.length)(a:j<4):(fy l)[i*4+j]?=(iM l[i])[j]?:=by
 induction l generalizing i with
 |nil=>simp at h
 |cons x l b=>
  cases i with
  |zero=>
   simp only[fy,List.flatMap_cons,Nat.zero_mul,Nat.zero_add,List.getElem_cons_zero];rw[List.getElem?_append_left (by simpa [iM]using a)]
  |succ i=>
   have:=b i (by simpa using h);simp only[fy,List.flatMap_cons,List.getElem_cons_succ]at *;rw[List.getElem?_append_right (by simp[iM];omega),<-this]
   congr 1
   simp[iM];omega
theorem vN(l:List Thr):∀v∈fy l,v.oneCell'=true:=by
 intro v a;simp only[fy,List.mem_flatMap]at a;obtain⟨i,_,a⟩:=a;simp[iM]at a
 rcases a with rfl|rfl|rfl|rfl <;> rfl
theorem CM(l:List Thr)(t k:Nat)(y:Thr)(v:Value)(f:t<l.length)(m:k<4)(g:∀j,j<4->(iM y)[j]?=if j=k then some v else (iM l[t])[j]?):
  (fy l).set (t*4+k) v=fy (l.set t y):=by
 apply List.ext_getElem?;intro j;have n:=sf l;have h:(fy (l.set t y)).length=l.length*4:=by rw[sf];simp
 by_cases o:j<l.length*4
 ·obtain⟨i,d,rfl,a⟩:∃i d,j=i*4+d/\d<4:=⟨j/4,j%4,by omega,by omega⟩
  have b:i<l.length:=by omega
  rw[oA (l.set t y) i d (by simpa using b) a,List.getElem?_set]
  by_cases e:t=i
  ·subst e
   simp only[List.getElem_set_self];rw[g d a]
   by_cases c:d=k
   ·subst c;rw[if_pos rfl,if_pos (by omega),if_pos rfl]
   ·rw[if_neg (by omega),if_neg c,oA l t d f a]
  ·rw[if_neg (by omega),List.getElem_set_ne e,oA l i d b a]
 ·rw[List.getElem?_eq_none (by simp;omega),List.getElem?_eq_none (by omega)]
def jZ(s:St)(a:Option Addr)(cap tb tcap:Nat):Array Value:=
 #[.int .i64 s.p.vars,.int .i64 s.p.mutexes,.slice a s.p.threads.length cap,.slice (some ⟨tb,0,none⟩) s.ts.length tcap,
  .int .i64 (s.v.getD 0 0),.int .i64 (s.v.getD 1 0),.int .i64 (s.v.getD 2 0),.int .i64 (s.v.getD 3 0),.int .i64 (s.m.getD 0 (-1)),.int .i64 (s.m.getD 1 (-1))]
def dv(w:World)(b tb:Nat)(a:Option Addr)(cap tcap:Nat)(s:St):Prop:=
 w.heap[b]?=some (.cells (jZ s a cap tb tcap) 104 (0,0))/\b≠tb/\∃c,w.heap[tb]?=some (.cells c 107 (0,0))/\c.toList.take (s.ts.length*4)=fy s.ts
section
variable{w:World}{b tb:Nat}{a:Option Addr}{cap tcap:Nat}{s:St}
theorem dv.lt(h:dv w b tb a cap tcap s):b<w.heap.size/\tb<w.heap.size:=by
 obtain⟨c,_,e,d,_⟩:=h;exact⟨(Array.getElem?_eq_some_iff.1 c).1,(Array.getElem?_eq_some_iff.1 d).1⟩
theorem dv.later{w':World}(h:dv w b tb a cap tcap s)(hb:Below w.heap.size w w'):dv w' b tb a cap tcap s:=by
 have d:=h.lt;obtain⟨e,f,c,g,i⟩:=h;exact⟨(hb.block b d.1).trans e,f,c,(hb.block tb d.2).trans g,i⟩
theorem dv.only{w':World}{g:Nat}(h:dv w b tb a cap tcap s)(d:Only g w w')(hb:b≠g)(f:tb≠g):dv w' b tb a cap tcap s:=by
 have e:=h.lt;obtain⟨i,j,c,k,l⟩:=h;exact⟨(d.block b e.1 hb).trans i,j,c,(d.block tb e.2 f).trans k,l⟩
theorem dv.drewN(h:dv w b tb a cap tcap s)(n:Nat):dv (w.drewN n) b tb a cap tcap s:=h
theorem dv.frozen(h:dv w b tb a cap tcap s)(o:Nat):w.frozen? ⟨b,o,none⟩=false/\w.frozen? ⟨tb,o,none⟩=false:=by
 obtain⟨c,_,e,d,_⟩:=h;simp[World.frozen?,c,d]
theorem dv.prog(h:dv w b tb a cap tcap s):w.cell? ⟨b,2,none⟩=some (.slice a s.p.threads.length cap)/\w.cell? ⟨b,3,none⟩=some (.slice (some ⟨tb,0,none⟩) s.ts.length tcap):=by
 simp[World.cell?,h.1,jZ]
theorem dv.var(h:dv w b tb a cap tcap s)(x:Nat)(hx:x<4):w.cell? ⟨b,4+x,none⟩=some (.int .i64 (s.v.getD x 0)):=by
 obtain rfl|rfl|rfl|rfl:x=0∨x=1∨x=2∨x=3:=by omega
 all_goals simp[World.cell?,h.1,jZ]
theorem dv.who(h:dv w b tb a cap tcap s)(x:Nat)(hx:x<2):w.cell? ⟨b,8+x,none⟩=some (.int .i64 (s.who x)):=by
 obtain rfl|rfl:x=0∨x=1:=by omega
 all_goals
  simp only[World.cell?,h.1,jZ];rfl
theorem dv.thr(h:dv w b tb a cap tcap s)(t:Nat)(c:t<s.ts.length)(k:Nat)(f:k<4):w.cell? ⟨tb,t*4+k,none⟩=(iM (s.th t))[k]?:=by
 obtain⟨_,_,j,g,i⟩:=h;have d:=oA s.ts t k c f;rw[<-i,List.getElem?_take_of_lt (by omega)]at d;have e:s.th t=s.ts[t]:=dV _ c;rw[e,<-d];simp[World.cell?,g]
theorem dv.at_(h:dv w b tb a cap tcap s)(t:Nat)(c:t<s.ts.length):w.cell? ⟨tb,t*4,none⟩=some (.int .i64 (s.th t).at_):=h.thr t c 0 (by omega)
theorem dv.fuel(h:dv w b tb a cap tcap s)(t:Nat)(c:t<s.ts.length):w.cell? ⟨tb,t*4+1,none⟩=some (.int .i64 (s.th t).fuel):=h.thr t c 1 (by omega)
theorem dv.reg(h:dv w b tb a cap tcap s)(t:Nat)(c:t<s.ts.length)(r:Nat)(d:r<2):w.cell? ⟨tb,t*4+2+r,none⟩=some (.int .i64 ((s.th t).r.getD r 0)):=by
 obtain rfl|rfl:r=0∨r=1:=by omega
 ·exact h.thr t c 2 (by omega)
 ·exact h.thr t c 3 (by omega)
theorem dv.setThr(h:dv w b tb a cap tcap s)(t k:Nat)(y:Thr)(v:Value)(g:t<s.ts.length)(m:k<4)(i:∀j,j<4->(iM y)[j]?=if j=k then some v else (iM (s.th t))[j]?):
  dv (w.setCell ⟨tb,t*4+k,none⟩ v) b tb a cap tcap (s.put t y):=by
 have e:s.th t=s.ts[t]:=dV _ g;rw[e]at i;obtain⟨n,l,d,o,p⟩:=h;have c:(s.put t y).ts.length=s.ts.length:=St.put_len s t y;have f:(s.put t y).ts=s.ts.set t y:=by simp[St.put]
 refine⟨?_,l,_,heap_setCell_same w tb (t*4+k) d _ v o,?_⟩
 ·rw[Below.heap_setCell _ _ _ _ l,n]
  unfold jZ;rw[c];rfl
 ·rw[c,f,<-CM s.ts t k y v g m i,<-p]
  simp[List.take_set]
theorem dv.setAt(h:dv w b tb a cap tcap s)(t n:Nat)(c:t<s.ts.length):dv (w.setCell ⟨tb,t*4,none⟩ (.int .i64 n)) b tb a cap tcap (s.put t { s.th t with at_:=n }):=
 h.setThr t 0 _ _ c (by omega) (fun j d=>by
  obtain rfl|rfl|rfl|rfl:j=0∨j=1∨j=2∨j=3:=by omega
  all_goals rfl)
theorem dv.setFuel(h:dv w b tb a cap tcap s)(t n:Nat)(c:t<s.ts.length):dv (w.setCell ⟨tb,t*4+1,none⟩ (.int .i64 n)) b tb a cap tcap (s.put t { s.th t with fuel:=n }):=
 h.setThr t 1 _ _ c (by omega) (fun j d=>by
  obtain rfl|rfl|rfl|rfl:j=0∨j=1∨j=2∨j=3:=by omega
  all_goals rfl)
theorem dv.setReg(h:dv w b tb a cap tcap s)(t r:Nat)(n:Int)(c:t<s.ts.length)(d:r<2)(f:(s.th t).r.length=2):dv (w.setCell ⟨tb,t*4+2+r,none⟩ (.int .i64 n)) b tb a cap tcap (s.put t { s.th t with r:=(s.th t).r.set r n }):=by
 rw[Nat.add_assoc];refine h.setThr t (2+r) _ _ c (by omega) (fun j g=>?_);obtain rfl|rfl|rfl|rfl:j=0∨j=1∨j=2∨j=3:=by omega
 ·rw[if_neg (by omega)];rfl
 ·rw[if_neg (by omega)];rfl
 ·simp only[iM,List.getElem?_cons_succ,List.getElem?_cons_zero]
  rw[gr _ _ _ _ _ (by omega)]
  by_cases e:r=0
  ·subst e;simp
  ·rw[if_neg (by omega),if_neg (by omega)]
 ·simp only[iM,List.getElem?_cons_succ,List.getElem?_cons_zero]
  rw[gr _ _ _ _ _ (by omega)]
  by_cases e:r=1
  ·subst e;simp
  ·rw[if_neg (by omega),if_neg (by omega)]
theorem dv.setVar(h:dv w b tb a cap tcap s)(x:Nat)(n:Int)(hx:x<4)(j:s.v.length=4):dv (w.setCell ⟨b,4+x,none⟩ (.int .i64 n)) b tb a cap tcap { s with v:=s.v.set x n }:=by
 obtain⟨f,d,c,g,i⟩:=h;refine⟨?_,d,c,(Below.heap_setCell _ _ _ _ (fun e=>d e.symm)).trans g,i⟩;rw[heap_setCell_same w b (4+x) _ _ _ f]
 congr 2
 unfold jZ;dsimp only;simp only[gr _ _ _ _ _ (show x<s.v.length by omega)];obtain rfl|rfl|rfl|rfl:x=0∨x=1∨x=2∨x=3:=by omega
 all_goals rfl
theorem dv.setWho(h:dv w b tb a cap tcap s)(x:Nat)(n:Int)(hx:x<2)(j:s.m.length=2):dv (w.setCell ⟨b,8+x,none⟩ (.int .i64 n)) b tb a cap tcap { s with m:=s.m.set x n }:=by
 obtain⟨f,d,c,g,i⟩:=h;refine⟨?_,d,c,(Below.heap_setCell _ _ _ _ (fun e=>d e.symm)).trans g,i⟩;rw[heap_setCell_same w b (8+x) _ _ _ f]
 congr 2
 unfold jZ;dsimp only;simp only[gr _ _ _ _ _ (show x<s.m.length by omega)];obtain rfl|rfl:x=0∨x=1:=by omega
 all_goals rfl
theorem dv.other{g:Nat}(h:dv w b tb a cap tcap s)(hb:b≠g)(d:tb≠g)(o:Nat)(v:Value):dv (w.setCell ⟨g,o,none⟩ v) b tb a cap tcap s:=by
 obtain⟨e,f,c,i,j⟩:=h;exact⟨(Below.heap_setCell _ _ _ _ hb).trans e,f,c,(Below.heap_setCell _ _ _ _ d).trans i,j⟩
end
structure Only2(b c:Nat)(w w':World):Prop where
 os:w'.os=w.os
 tape:w'.tape=w.tape
 output:w'.output=w.output
 size:w.heap.size<=w'.heap.size
 block:∀k,k<w.heap.size->k≠b->k≠c->w'.heap[k]?=w.heap[k]?
theorem Only2.refl(b c:Nat)(w:World):Only2 b c w w:=⟨rfl,rfl,rfl,Nat.le_refl _,fun _ _ _ _=>rfl⟩
theorem Only2.trans{b c:Nat}{u v w:World}(h:Only2 b c u v)(k:Only2 b c v w):Only2 b c u w:=
 ⟨k.os.trans h.os,k.tape.trans h.tape,k.output.trans h.output,Nat.le_trans h.size k.size,fun i a hb d=>(k.block i (Nat.lt_of_lt_of_le a h.size) hb d).trans (h.block i a hb d)⟩
theorem Only2.of_below{b c:Nat}{w w':World}(h:Below w.heap.size w w'):Only2 b c w w':=⟨h.os,h.tape,h.output,h.size,fun k a _ _=>h.block k a⟩
theorem Only2.alloc{b c:Nat}{w w':World}(h:Only2 b c w w')(o:Obj):Only2 b c w (w'.alloc o):=h.trans (.of_below ((Below.refl _ _).alloc (Nat.le_refl _) _))
theorem Only2.drew{b c:Nat}{w w':World}(h:Only2 b c w w'):Only2 b c w w'.drew:=⟨h.os,h.tape,h.output,h.size,h.block⟩
theorem Only2.drewN{b c:Nat}{w w':World}(h:Only2 b c w w'){n:Nat}:Only2 b c w (w'.drewN n):=⟨h.os,h.tape,h.output,h.size,h.block⟩
theorem Only2.setCell{b c g:Nat}{w w':World}(h:Only2 b c w w')(e:g=b∨g=c∨w.heap.size<=g)(o:Nat)(v:Value):Only2 b c w (w'.setCell ⟨g,o,none⟩ v):=
 ⟨h.os,h.tape,h.output,by simp[World.setCell];exact h.size,fun k a hb d=>(Below.heap_setCell _ _ _ _ (by show k≠g;omega)).trans (h.block k a hb d)⟩
theorem Only2.set4{b c g:Nat}{w d:World}(h:Only2 b c w d)(a:w.heap.size<=g)(v0 v1 v2 e:Value):Only2 b c w ((((d.setCell ⟨g,0,none⟩ v0).setCell ⟨g,1,none⟩ v1).setCell ⟨g,2,none⟩ v2).setCell ⟨g,3,none⟩ e):=
 (((h.setCell (.inr (.inr a)) 0 v0).setCell (.inr (.inr a)) 1 v1).setCell (.inr (.inr a)) 2 v2).setCell (.inr (.inr a)) 3 e
theorem Only2.below{b c B:Nat}{w w':World}(h:Only2 b c w w')(hb:B<=b)(a:B<=c)(d:B<=w.heap.size):Below B w w':=
 ⟨h.os,h.tape,h.output,h.size,fun k e=>h.block k (by omega) (by omega) (by omega)⟩
theorem MW(w:World)(o a:Obj){k:Nat}(b:k<w.heap.size):((w.alloc o).alloc a).heap[k]?=w.heap[k]?:=by
 rw[Below.heap_alloc _ _ _ (by simp;omega),Below.heap_alloc _ _ _ b]
theorem mz{w W:World}{k r x m:Int}{n:Nat}(h:((w.alloc (.cells #[.int .i64 0,.int .i64 0,.int .i64 0,.bool false] 112)).drewN n).alloc (.cells #[.int .i64 k,.int .i64 r,.int .i64 x,.int .i64 m] 63)=W):
  Below w.heap.size w W/\(W.cell? ⟨w.heap.size,0,none⟩=some (.int .i64 0)/\W.cell? ⟨w.heap.size,1,none⟩=some (.int .i64 0)/\W.cell? ⟨w.heap.size,2,none⟩=some (.int .i64 0)/\W.cell? ⟨w.heap.size,3,none⟩=some (.bool false)) /\
   (W.frozen? ⟨w.heap.size,0,none⟩=false/\W.frozen? ⟨w.heap.size,1,none⟩=false/\W.frozen? ⟨w.heap.size,2,none⟩=false/\W.frozen? ⟨w.heap.size,3,none⟩=false) /\
   (W.cell? ⟨w.heap.size+1,0,none⟩=some (.int .i64 k)/\W.cell? ⟨w.heap.size+1,1,none⟩=some (.int .i64 r)/\W.cell? ⟨w.heap.size+1,2,none⟩=some (.int .i64 x)/\W.cell? ⟨w.heap.size+1,3,none⟩=some (.int .i64 m))/\w.heap.size+1<W.heap.size/\w.heap.size<W.heap.size:=by
 subst h;have a:(((w.alloc (.cells #[.int .i64 0,.int .i64 0,.int .i64 0,.bool false] 112)).drewN n).alloc (.cells #[.int .i64 k,.int .i64 r,.int .i64 x,.int .i64 m] 63)).heap[w.heap.size]?=some (.cells #[.int .i64 0,.int .i64 0,.int .i64 0,.bool false] 112 (0,0)):=heap_alloc2_old w _ _;have b:(((w.alloc (.cells #[.int .i64 0,.int .i64 0,.int .i64 0,.bool false] 112)).drewN n).alloc (.cells #[.int .i64 k,.int .i64 r,.int .i64 x,.int .i64 m] 63)).heap[w.heap.size+1]?=some (.cells #[.int .i64 k,.int .i64 r,.int .i64 x,.int .i64 m] 63 (0,0)):=heap_alloc2_new w _ _;have c:=(Array.getElem?_eq_some_iff.1 a).1;have d:=(Array.getElem?_eq_some_iff.1 b).1;refine⟨⟨rfl,rfl,rfl,by omega,fun k e=>?_⟩,?_,?_,?_,d,c⟩
 ·exact(MW w _ _ e)
 ·simp only[World.cell?,a];exact⟨rfl,rfl,rfl,rfl⟩
 ·simp only[World.frozen?,a];exact⟨rfl,rfl,rfl,rfl⟩
 ·simp only[World.cell?,b];exact⟨rfl,rfl,rfl,rfl⟩
end
section
open Go.Proofs.Tryz Go.RowKit
def jC(n a b:Int):Bool:=decide (a<=n/\n<=b)
theorem oq(n a b:Int)(w:World):Calls prog 47 #[.int .i64 n,.int .i64 a,.int .i64 b] w fun r c=>r=.returned (.bool (jC n a b))/\w=c:=by
 go_enter func47,ntmps47;go_wp2
 all_goals
  go_ret;refine⟨dE ?_,rfl⟩;simp[jC]
  try omega
theorem E'(V M size:Int)(_hs:0<=size)(_hs2:size<=1000)(d:0<=V)(b:V<=4)(e:0<=M)(c:M<=2)(t:Value)(i:Ins)(w:World):
  Calls prog 48 #[.agg #[.int .i64 V,.int .i64 M,t],.int .i64 size,mD i] w fun r a=>r=.returned (.bool (gy V M size i))/\Below w.heap.size w a:=by
 obtain⟨k,f,x,n⟩:=i;unfold mD;dsimp only;go_enter func48,ntmps48
 go_wp2_with (go_at_call 47;refine(oq _ _ _ _).mono ?_;rintro r a ⟨rfl,rfl⟩)
 all_goals
  go_ret;refine⟨dE ?_,eH _ _ _⟩;simp[jC]at *;rw[Bool.eq_iff_iff];simp[gy, *]
  try(first|omega|(split <;> omega))
end
section
open Go.Lib (hid)
open Go.Proofs.Tryz Go.RowKit
open Nat (le_refl zero_le)
open World (size_alloc)
theorem sM(p:Pg)(a:Option Addr)(cap:Nat)(w:World)(B:dI w a p.threads):
  Calls prog 26 #[kw p a cap] w fun r t=>r=.returned (.bool (dL p))/\Below w.heap.size w t:=by
 obtain⟨V,M,d⟩:=p;unfold kw;dsimp only at *;have Y:=B.1;unfold maxLen at Y;have Z:=hid B;clear B
 cases O:jC V 0 4
 ·have H:Hid (dL ⟨V,M,d⟩=false):=by
   show _=_;simp[jC]at O;simp[dL];omega
  go_enter func26,ntmps26
  go_wp2_with (go_at_call 47;refine(oq _ _ _ _).mono ?_;rintro r t ⟨rfl,rfl⟩)
  go_ret;exact⟨dE H.out.symm,da _ _⟩
 cases P:jC M 0 2
 ·have H:Hid (dL ⟨V,M,d⟩=false):=by
   show _=_;simp[jC]at P;simp[dL];omega
  go_enter func26,ntmps26
  go_wp2_with (go_at_call 47;refine(oq _ _ _ _).mono ?_;rintro r t ⟨rfl,rfl⟩)
  go_ret;exact⟨dE H.out.symm,da _ _⟩
 cases Q:jC d.length 1 4
 ·have H:Hid (dL ⟨V,M,d⟩=false):=by
   show _=_;simp[jC]at Q;simp[dL];omega
  go_enter func26,ntmps26
  go_wp2_with (go_at_call 47;refine(oq _ _ _ _).mono ?_;rintro r t ⟨rfl,rfl⟩)
  go_ret;exact⟨dE H.out.symm,da _ _⟩
 have bV:0<=V/\V<=4:=by simpa [jC]using O
 have bM:0<=M/\M<=2:=by simpa [jC]using P
 have bT:1<=d.length/\d.length<=4:=by simp[jC]at Q;omega
 have H:Hid (dL ⟨V,M,d⟩=d.all (gz V M)):=by
  show _=_;have:decide (0<=V/\V<=4/\0<=M/\M<=2/\1<=d.length/\d.length<=4)=true:=by simp;omega
  unfold dL;dsimp only;rw[this,Bool.true_and]
 obtain⟨C,D⟩:=bV;obtain⟨E,F⟩:=bM;obtain⟨aa,ab⟩:=bT;go_enter func26,ntmps26
 go_wp2_with (go_at_call 47;refine(oq _ _ _ _).mono ?_;rintro r t ⟨rfl,rfl⟩)
 go_loopw [3] (fun i wr=>∃k:Nat,k<=d.length/\i=.int .i64 k/\Hid ((d.take k).all (gz V M)=true)/\Below (w.heap.size+1) (w.alloc (.cells #[.int .i64 V,.int .i64 M,.slice a d.length cap] 24)) wr) (fun i _=>d.length-(intOf i).toNat)
 case atStart=>exact⟨0,zero_le _,rfl,rfl,Below.refl _ _⟩
 case round=>
  obtain⟨k,hk,rfl,l,hb⟩:=hrel;have p2:wr.cell? ⟨w.heap.size,2,none⟩=some (.slice a d.length cap):=by rw[hb.cell (p:=⟨w.heap.size,2,none⟩) (by simp)];simp
  have g:Below w.heap.size w wr:=((Below.refl _ _).alloc (le_refl _) _).trans (hb.mono (by omega))
  by_cases m:k<d.length
  ·obtain⟨b,o,rfl,u⟩:=Z.out.2 (by intro e;simp[e]at m)
   obtain⟨c,X,v,s,_⟩:=u k m;have d0:=de g v;have D1:=hid (s.later g);have G:=s.1;unfold maxLen at G;clear v s u;have R:(d.take (k+1))=d.take k++[d[k]]:=List.take_succ_eq_append_getElem m;have HT:=hid R;clear R
   by_cases h8:8<d[k].length
   ·have h:Hid (dL ⟨V,M,d⟩=false):=by
     show _=_;rw[H.out,List.all_eq_false];exact⟨d[k],List.getElem_mem _,by simp[gz];omega⟩
    go_wp2;go_ret;exact⟨dE h.out.symm,g⟩
   ·have S:Hid (gz V M d[k]=d[k].all (gy V M d[k].length)):=by
     show _=_;have:decide (d[k].length<=8)=true:=by simp;omega
     unfold gz;rw[this,Bool.true_and]
    go_wp2
    obtain⟨wo,I⟩:∃x,x=wr:=⟨_,rfl⟩
    subst I;have q0:wo.cell? ⟨w.heap.size,0,none⟩=some (.int .i64 V):=by rw[hb.cell (p:=⟨w.heap.size,0,none⟩) (by simp)];simp
    have q1:wo.cell? ⟨w.heap.size,1,none⟩=some (.int .i64 M):=by rw[hb.cell (p:=⟨w.heap.size,1,none⟩) (by simp)];simp
    have hz:w.heap.size<wo.heap.size:=by have:=hb.size;simp at this;omega
    go_loopw [5] (fun i w2=>∃j:Nat,j<=d[k].length/\i=.int .i64 j/\Hid ((d[k].take j).all (gy V M d[k].length)=true)/\Below wo.heap.size wo w2) (fun i _=>d[k].length-(intOf i).toNat)
    case atStart=>exact⟨0,zero_le _,rfl,rfl,Below.refl _ _⟩
    case round=>
     obtain⟨j,hj,rfl,y,f⟩:=hrel;have r0:=de f q0;have r1:=de f q1;have r2:=de f p2
     by_cases n:j<d[k].length
     ·obtain⟨b',o',rfl,u⟩:=D1.out.2 (by intro e;simp[e]at n)
      obtain⟨v,s,T,U⟩:=u j n;have d0:=de f v;have d1:=de f s;have d2:=de f T;have d3:=de f U;clear v s T U u;go_wp2
      go_still_tail 7,(by kernel_rfl)
      go_wp2_with fail
      refine(E' V M d[k].length (by omega) (by omega) C D E F _ d[k][j] _).mono ?_;rintro r W⟨rfl,J⟩;have z:Below wo.heap.size wo W:=f.drew.trans (J.mono f.size);have L:Below w.heap.size w W:=g.trans (z.mono (by omega));have q:(d[k].take (j+1))=d[k].take j++[d[k][j]]:=List.take_succ_eq_append_getElem n
      cases A:gy V M d[k].length d[k][j]
      ·have h:Hid (dL ⟨V,M,d⟩=false):=by
        show _=_;rw[H.out,List.all_eq_false];refine⟨d[k],List.getElem_mem _,?_⟩;rw[S.out,Bool.not_eq_true,List.all_eq_false];exact⟨d[k][j],List.getElem_mem _,by simp[A]⟩
       clear A q;go_wp2;go_ret;exact⟨dE h.out.symm,L⟩
      ·have h:Hid ((d[k].take (j+1)).all (gy V M d[k].length)=true):=by
        show _=_;rw[q,List.all_append,y.out];simp[A]
       clear A q;go_wp2
       go_roundw
       case rel=>exact⟨j+1,by omega,by go_num,h,z⟩
       case measure=>simp[intOf];omega
     ·obtain rfl:j=d[k].length:=by omega
      have h:Hid ((d.take (k+1)).all (gz V M)=true):=by
       show _=_;rw[HT.out,List.all_append,l.out];have:=y.out;rw[List.take_length]at this;simp[S.out,this]
      have N:Below (w.heap.size+1) (w.alloc (.cells #[.int .i64 V,.int .i64 M,.slice (some ⟨b,o,none⟩) d.length cap] 24)) wr:=hb.trans (f.mono (by omega));go_wp2
      go_roundw
      case rel=>exact⟨k+1,by omega,by go_num,h,N⟩
      case measure=>simp[intOf];omega
  ·obtain rfl:k=d.length:=by omega
   have h:Hid (dL ⟨V,M,d⟩=true):=by
    show _=_;rw[H.out,<-l.out,List.take_length]
   go_wp2;go_ret;exact⟨dE h.out.symm,g⟩
def jU(F k:Nat):List Thr:=List.replicate k ⟨0,F,[0,0]⟩
theorem se(F k:Nat):(jU F k).length=k:=by simp[jU]
theorem CC(F k:Nat):jU F (k+1)=jU F k++[⟨0,F,[0,0]⟩]:=by simp[jU,List.replicate_succ']
def mO(p:Pg)(a:Option Addr)(cap:Nat)(b:Value):Array Value:=
 #[.int .i64 p.vars,.int .i64 p.mutexes,.slice a p.threads.length cap,b,.int .i64 0,.int .i64 0,.int .i64 0,.int .i64 0,.int .i64 (-1),.int .i64 (-1)]
theorem BH{w:World}{e:Array Oper}{rest:List Oper}{o:Oper}{a:Act}{Q:Exit->Act->World->Prop}(n:o.guard=none)(s x:Operand)
  (z:o.op=.call { callee:=.builtin .append,args:=#[s,x],argTypes:=#[101,101] }) (B:Nat) (v:Value) (l:List Thr) (A:a.eval s=v) (g:w.ownsRow B 107 4 v l.length (fy l))
  (m:Addr) (hx:a.eval x=.slice (some m) 1 1) (y:Thr) (b:∀j u,(fy [y])[j]?=some u->w.cell? (m.add j)=some u)
  (r:l.length<=1000000) (C:B<=w.heap.size)
  (h:∀k d,d.ownsRow B 107 4 k (l.length+1) (fy (l++[y]))->w.grownBy d v.ownBlock->wpList prog e Q rest (a.put o.dst k) d):wpList prog e Q (o::rest) a w:=by
 have c:(prog.info? 107).map (fun i=>(i.zero,i.size,i.bytes))=some (some (.agg #[.int .i64 0,.int .i64 0,.int .i64 0,.int .i64 0]),4,32):=by kernel_rfl
 obtain⟨t,D,f⟩:=Option.map_eq_some_iff.1 c;simp only[Prod.mk.injEq]at f;obtain⟨E,p,q⟩:=f
 refine wpList_append_own w n s x 101 z B 107 t (.agg #[.int .i64 0,.int .i64 0,.int .i64 0,.int .i64 0]) 4 32 underlying101 D E p q rfl (by decide) v l.length (fy l) A g m 1 1 (fy [y]) hx rfl b
  (vN _) (by unfold maxLen;omega) (by omega) C ?_
 intro k d F G _;refine h k d ?_ G;rw[CO];exact F
theorem CF(w:World)(F:Nat)(t:TypeId)(g:Nat)(a:g=w.heap.size):∀j u,(fy [⟨0,F,[0,0]⟩])[j]?=some u->(w.alloc (.cells #[.int .i64 0,.int .i64 F,.int .i64 0,.int .i64 0] t)).cell? (Addr.add ⟨g,0,none⟩ j)=some u:=by
 subst a;intro j u b
 have e:Addr.add ⟨w.heap.size,0,none⟩ j=⟨w.heap.size,j,none⟩:=by
  unfold Addr.add
  split
  ·rename_i c;subst c;rfl
  ·simp
 rw[e,World.cell?_alloc_new];simpa [fy,iM]using b
theorem EK{p:Pg}{a:Option Addr}{cap:Nat}{wr d:World}{b k:Nat}{l t:Value}{o:Obj}{xs u:List Value}(f:wr.heap[b]?=some (.cells (mO p a cap l) 104 (0,0)))(n:wr.ownsRow (b+1) 107 4 l k xs)
  (w:d.ownsRow (b+1) 107 4 t (k+1) u) (v:(wr.alloc o).grownBy d l.ownBlock):
  ∃m c,t=.slice (some ⟨m,0,none⟩) (k+1) c/\d.cell? ⟨b,3,none⟩=some l/\d.frozen? ⟨b,3,none⟩=false /\
   Hid ((d.setCell ⟨b,3,none⟩ (.slice (some ⟨m,0,none⟩) (k+1) c)).heap[b]?=some (.cells (mO p a cap (.slice (some ⟨m,0,none⟩) (k+1) c)) 104 (0,0))) /\
   Hid ((d.setCell ⟨b,3,none⟩ (.slice (some ⟨m,0,none⟩) (k+1) c)).ownsRow (b+1) 107 4 (.slice (some ⟨m,0,none⟩) (k+1) c) (k+1) u)/\Below b wr d:=by
 have r:b<wr.heap.size:=(Array.getElem?_eq_some_iff.1 f).1;have own:∀j,l.ownBlock=some j->b+1<=j:=fun j q=>(World.ownsRow.lt n j q).1
 have i:d.heap[b]?=some (.cells (mO p a cap l) 104 (0,0)):=by
  rw[v.block b (by simp;omega) (fun e=>by have:=own _ e.symm;omega),Below.heap_alloc _ _ _ r];exact f
 obtain⟨x,⟨_,y⟩|⟨g,h,s,rfl,z,A,B⟩⟩:=w
 ·exact absurd y (by omega)
 ·refine⟨g,h,rfl,by simp[World.cell?,i,mO],by simp[World.frozen?,i],?_,?_,?_⟩
  ·show _=_
   rw[heap_setCell_same d b 3 _ _ _ i];rfl
  ·exact⟨x,.inr ⟨g,h,s,rfl,z,(Below.heap_setCell _ _ _ _ (by show g≠b;omega)).trans A,B⟩⟩
  ·exact((Below.refl _ _).alloc (by omega) o).grown v (by simp;omega) (fun j q=>by have:=own j q;omega)
theorem yd(p:Pg)(F:Nat):(St.new p F).ts=jU F p.threads.length:=by
 unfold St.new jU;simp[List.map_const']
theorem E5(p:Pg)(a:Option Addr)(cap:Nat)(fuel:Int)(w:World)(d:dI w a p.threads)(b:¬(dL p=true/\0<=fuel/\fuel<=8)):
  Calls prog 31 #[.agg #[.int .i64 p.vars,.int .i64 p.mutexes,.slice a p.threads.length cap],.int .i64 fuel] w fun r f=>r=.returned (.pointer none)/\Below w.heap.size w f:=by
 have g:=hid d;have i:=hid b;clear b d;go_enter func31,ntmps31;go_wp2_with fail;refine(sM p a cap _ (g.out.later (da w _))).mono ?_;rintro r j⟨rfl,hb⟩;have c:Below w.heap.size w j:=(da w _).trans (hb.mono (by simp));clear hb
 cases b:dL p
 ·clear b
  go_wp2;go_ret;exact⟨rfl,c⟩
 ·by_cases e:fuel<0
  ·have k:decide (fuel<0)=true:=by simpa using e
   clear b;go_wp2;go_ret;exact⟨rfl,c⟩
  ·have k:decide (fuel<0)=false:=by simpa using e
   have l:8<fuel:=by
    rcases Decidable.em (fuel<=8)with h|h
    ·exact absurd ⟨b,by omega,h⟩ i.out
    ·omega
   have m:decide (8<fuel)=true:=by simpa using l
   clear b;go_wp2;go_ret;exact⟨rfl,c⟩
theorem E4(p:Pg)(a:Option Addr)(cap F:Nat)(w:World)(G:dI w a p.threads)(v:dL p=true)(hF:F<=8):
  Calls prog 31 #[.agg #[.int .i64 p.vars,.int .i64 p.mutexes,.slice a p.threads.length cap],.int .i64 F] w
   fun r H=>∃b x g,r=.returned (.pointer (some ⟨b,0,none⟩))/\w.heap.size<=b/\w.heap.size<=x/\dv H b x a cap g (St.new p F)/\Below w.heap.size w H:=by
 have I:1<=p.threads.length/\p.threads.length<=4:=by
  unfold dL at v;rw[Bool.and_eq_true,decide_eq_true_eq]at v;omega
 obtain⟨U,V⟩:=I;have J:=hid v;have L:=hid G;have Y:decide ((F:Int)<0)=false:=by simp
 have Z:decide (8<(F:Int))=false:=by simp;omega
 clear v G;go_enter func31,ntmps31;go_wp2_with fail;refine(sM p a cap _ (L.out.later (da w _))).mono ?_;rw[J.out];rintro r d⟨rfl,hb⟩;have z:Below w.heap.size w d:=(da w _).trans (hb.mono (by simp));have M:∀o,d.cell? ⟨w.heap.size,o,none⟩=(w.alloc (.cells #[.int .i64 p.vars,.int .i64 p.mutexes,.slice a p.threads.length cap] 24)).cell? ⟨w.heap.size,o,none⟩:=fun o=>hb.cell (p:=⟨w.heap.size,o,none⟩) (by simp)
 have N:w.heap.size<d.heap.size:=by have:=hb.size;simp at this;omega
 have A:Hid (d.heap[w.heap.size]?=some (.cells #[.int .i64 p.vars,.int .i64 p.mutexes,.slice a p.threads.length cap] 24 (0,0))):=(hb.block _ (by simp)).trans (heap_alloc_new w _);clear hb;go_wp2;clear M
 go_loopw [6] (fun i wr=>∃(k:Nat) (y:Value),k<=p.threads.length/\i=.int .i64 k/\wr.heap[d.heap.size]?=some (.cells (mO p a cap y) 104 (0,0))/\wr.ownsRow (d.heap.size+1) 107 4 y (jU F k).length (fy (jU F k))/\Below d.heap.size d wr) (fun i _=>p.threads.length-(intOf i).toNat)
 case atStart=>exact⟨0,.slice none 0 0,zero_le _,rfl,heap_alloc_new d _,World.ownsRow_nil _ _ _ _,da _ _⟩
 case round=>
  obtain⟨k,y,hk,rfl,f,c,m⟩:=hrel
  have c2:wr.cell? ⟨w.heap.size,2,none⟩=some (.slice a p.threads.length cap):=by
   have:wr.heap[w.heap.size]?=some (.cells #[.int .i64 p.vars,.int .i64 p.mutexes,.slice a p.threads.length cap] 24 (0,0)):=(m.block _ N).trans A.out;simp[World.cell?,this]
  have c3:wr.cell? ⟨d.heap.size,3,none⟩=some y:=by simp[World.cell?,f,mO]
  have W:=(Array.getElem?_eq_some_iff.1 f).1;have n:=se F k;have l:=hid f;have h:=hid c;have q:=hid n;clear f c n
  by_cases X:k<p.threads.length
  ·go_wp2_with (at_builtin;refine BH rfl (.tmp 33) (.tmp 36) rfl (d.heap.size+1) _ (jU F k) rfl (World.ownsRow.alloc h.out _) ⟨wr.heap.size,0,none⟩ rfl ⟨0,F,[0,0]⟩ (CF wr F _ _ rfl) (by rw[q.out];omega) (by simp;omega) ?_;intro v7 O j s;obtain⟨P,t,rfl,d3,f3,B,C,u⟩:=EK l.out h.out j s;clear j s)
   have D:Below d.heap.size d (O.setCell ⟨d.heap.size,3,none⟩ (.slice (some ⟨P,0,none⟩) ((jU F k).length+1) t)):=(m.trans u).setCell (p:=⟨d.heap.size,3,none⟩) (le_refl _) _
   go_roundw
   case rel=>exact⟨k+1,_,by omega,by go_num,B.out,by rw[CC,List.length_append];exact C.out,D⟩
   case measure=>simp[intOf];omega
  ·obtain rfl:k=p.threads.length:=by omega
   go_wp2;go_ret;have c:=h.out;rw[q.out]at c;obtain⟨r1,⟨_,Q⟩|⟨x,g,E,e,r4,R,_,_,_,S⟩⟩:=c
   ·exact absurd Q (by omega)
   ·subst e
    refine⟨_,x,g,rfl,by omega,by omega,⟨?_,by omega,E,R,?_⟩,z.trans (m.mono (by omega))⟩
    ·rw[l.out]
     have T:(St.new p F).ts.length=p.threads.length:=by rw[yd,se]
     unfold jZ mO;rw[T];rfl
    ·rw[yd,se]
     exact S
section
variable{w:World}{b tb:Nat}{a:Option Addr}{cap tcap:Nat}{s:St}
theorem J4:(prog.info? 107).map (fun i=>(i.zero.isSome,i.size,i.bytes))=some (true,4,32):=by kernel_rfl
theorem Ed(A:TypeId)(g:Nat)(h:dv w b tb a cap tcap s)(G:1<=s.ts.length)(I:s.ts.length<=4):
  ∃x o,(Builtin.append_ #[101,101] A #[.slice (some ⟨g,0,none⟩) 0 0,.slice (some ⟨tb,0,none⟩) s.ts.length tcap]).run prog w=.ok (.slice (some ⟨w.heap.size,0,none⟩) s.ts.length x) o /\
   (∃d,o.heap[w.heap.size]?=some (.cells d 107 (0,0))/\d.toList.take (s.ts.length*4)=fy s.ts)/\Below w.heap.size w o:=by
 obtain⟨i,D,f⟩:=Option.map_eq_some_iff.1 J4;simp only[Prod.mk.injEq]at f;obtain⟨p,l,y⟩:=f;obtain⟨z,p⟩:=Option.isSome_iff_exists.1 p;have q:=sf s.ts
 have m:Src prog i.size 101 (.slice (some ⟨tb,0,none⟩) s.ts.length tcap) s.ts.length (fy s.ts) w:=by
  rw[l];refine Src.ofSlice w underlying101 ⟨tb,0,none⟩ s.ts.length tcap (fy s.ts) q (fun j u r=>?_) (vN _);have H:j<s.ts.length*4:=by rw[<-q];exact(List.getElem?_eq_some_iff.1 r).1
  obtain⟨t,k,rfl,B⟩:∃t k,j=t*4+k/\k<4:=⟨j/4,j%4,by omega,by omega⟩
  have v:t<s.ts.length:=by omega
  rw[oA s.ts t k v B]at r;have C:=h.thr t v k B;have e:s.th t=s.ts[t]:=dV _ v;rw[e,r]at C
  have E:Addr.add ⟨tb,0,none⟩ (t*4+k)=⟨tb,t*4+k,none⟩:=by
   unfold Addr.add
   split
   ·rename_i F;rw[F]
   ·simp
  rw[E];exact C
 have n:(Builtin.firstCells i.size 0 (.slice (some ⟨g,0,none⟩) 0 0)).run prog w.drew=.ok ([]:List Value).toArray w.drew:=by
  rw[l];exact run_firstCells_some w.drew 4 0 ⟨g,0,none⟩ 0 0 [] rfl (by simp)
 have c:=run_append_grow_src (P:=prog) w 101 101 A 107 i _ underlying101 D p (some ⟨g,0,none⟩) 0 0 [] n _ s.ts.length (fy s.ts) m (by omega) (by omega) (by rw[y];exact growslice_fits (by omega) (by omega));rw[Nat.zero_add]at c;refine⟨_,_,c,⟨_,heap_alloc_new w.drew _,?_⟩,((Below.refl _ _).drew).alloc (le_refl _) _⟩;simp only[List.nil_append,Array.toList_append];rw[<-q];simp
theorem BJ{e:Array Oper}{rest:List Oper}{o:Oper}{A:Act}{Q:Exit->Act->World->Prop}(i:o.guard=none)(x y:Operand)
  (l:o.op=.call { callee:=.builtin .append,args:=#[x,y],argTypes:=#[101,101] }) (g:Nat) (hx:A.eval x=.slice (some ⟨g,0,none⟩) 0 0) (m:A.eval y=.slice (some ⟨tb,0,none⟩) s.ts.length tcap)
  (h:dv w b tb a cap tcap s) (j:1<=s.ts.length) (n:s.ts.length<=4)
  (hK:∀c d,(∃f,d.heap[w.heap.size]?=some (.cells f 107 (0,0))/\f.toList.take (s.ts.length*4)=fy s.ts)->Below w.heap.size w d->wpList prog e Q rest (A.put o.dst (.slice (some ⟨w.heap.size,0,none⟩) s.ts.length c)) d):
  wpList prog e Q (o::rest) A w:=by
 refine wpList_plain i fun K k=>?_
 obtain⟨c,d,p,q,r⟩:=Ed o.type g h j n;unfold Oper.wp;simp[execOp,l,resolve,invoke,builtin,hx,m,p,Result.andThen];exact k _ _ (hK c d q r)
theorem Fc(h:dv w b tb a cap tcap s)(B:1<=s.ts.length)(L:s.ts.length<=4):
  Calls prog 60 #[.pointer (some ⟨b,0,none⟩)] w fun r G=>∃f e d,r=.returned (.pointer (some ⟨f,0,none⟩))/\w.heap.size<=f/\w.heap.size<=e/\dv G f e a cap d s/\Below w.heap.size w G:=by
 have H:=hid h
 have c:∀j,w.cell? ⟨b,j,none⟩=(jZ s a cap tb tcap)[j]?:=fun j=>by
  unfold World.cell?;dsimp only;rw[h.1];rfl
 have aa:=h.lt.1;have M:=c 0;have N:=c 1;have O:=c 2;have P:=c 3;have Q:=c 4;have R:=c 5;have S:=c 6;have T:=c 7;have U:=c 8;have V:=c 9;simp only[jZ,List.getElem?_toArray,List.getElem?_cons_zero,List.getElem?_cons_succ]at M N O P Q R S T U V
 have o:Hid (∀(W:World) (f e d:Nat),W.heap[f]?=some (.cells #[.int .i64 s.p.vars,.int .i64 s.p.mutexes,.slice a s.p.threads.length cap,.slice (some ⟨tb,0,none⟩) s.ts.length tcap,
  .int .i64 (s.v.getD 0 0),.int .i64 (s.v.getD 1 0),.int .i64 (s.v.getD 2 0),.int .i64 (s.v.getD 3 0),.int .i64 (s.m.getD 0 (-1)),.int .i64 (s.m.getD 1 (-1))] 104 (0,0))->(W.setCell ⟨f,3,none⟩ (.slice (some ⟨e,0,none⟩) s.ts.length d)).heap[f]?=some (.cells (jZ s a cap e d) 104 (0,0))):=fun W f e d X=>by
  rw[heap_setCell_same W f 3 _ _ _ X];rfl
 clear c h;generalize s.v.getD 0 0=t at *;generalize s.v.getD 1 0=u at *;generalize s.v.getD 2 0=x at *;generalize s.v.getD 3 0=y at *;generalize s.m.getD 0 (-1)=z at *;generalize s.m.getD 1 (-1)=A at *;go_enter func60,ntmps60;have k:Below w.heap.size w ((w.alloc (.cells #[.int .i64 s.p.vars,.int .i64 s.p.mutexes,.slice a s.p.threads.length cap,.slice (some ⟨tb,0,none⟩) s.ts.length tcap,.int .i64 t,.int .i64 u,.int .i64 x,.int .i64 y,.int .i64 z,.int .i64 A] 104)).alloc (.cells #[] 107)):=eH w _ _;have n:((w.alloc (.cells #[.int .i64 s.p.vars,.int .i64 s.p.mutexes,.slice a s.p.threads.length cap,.slice (some ⟨tb,0,none⟩) s.ts.length tcap,.int .i64 t,.int .i64 u,.int .i64 x,.int .i64 y,.int .i64 z,.int .i64 A] 104)).alloc (.cells #[] 107)).heap[w.heap.size]?=some (.cells #[.int .i64 s.p.vars,.int .i64 s.p.mutexes,.slice a s.p.threads.length cap,.slice (some ⟨tb,0,none⟩) s.ts.length tcap,.int .i64 t,.int .i64 u,.int .i64 x,.int .i64 y,.int .i64 z,.int .i64 A] 104 (0,0)):=((da _ _).block _ (by rw[size_alloc];omega)).trans (heap_alloc_new w _);have C:=hid n;clear n
 go_wp2_with (at_builtin;refine BJ rfl _ _ rfl (w.heap.size+1) rfl rfl (H.out.later k) B L ?_;intro d I i l;have q:=hid i;have D:=hid l;have g:=(l.block w.heap.size (by rw[size_alloc,size_alloc];omega)).trans C.out;have d3:I.cell? ⟨w.heap.size,3,none⟩=some (.slice (some ⟨tb,0,none⟩) s.ts.length tcap):=(by unfold World.cell?;dsimp only;rw[g];rfl);have f3:I.frozen? ⟨w.heap.size,3,none⟩=false:=(by unfold World.frozen?;dsimp only;rw[g];rfl);have E:=hid g;clear i l g)
 go_ret;have Y:((w.alloc (.cells #[.int .i64 s.p.vars,.int .i64 s.p.mutexes,.slice a s.p.threads.length cap,.slice (some ⟨tb,0,none⟩) s.ts.length tcap,.int .i64 t,.int .i64 u,.int .i64 x,.int .i64 y,.int .i64 z,.int .i64 A] 104)).alloc (.cells #[] 107)).heap.size=w.heap.size+1+1:=by rw[size_alloc,size_alloc]
 obtain⟨F,J,Z⟩:=q.out;rw[Y]at J;refine⟨w.heap.size,_,d,rfl,le_refl _,?_,⟨o.out _ _ _ _ E.out,?_,F,(Below.heap_setCell _ _ _ _ ?_).trans J,Z⟩,((k.trans (D.out.mono k.size)).setCell (p:=⟨w.heap.size,3,none⟩) (le_refl _) _)⟩
 ·omega
 ·omega
 ·show w.heap.size+1+1≠w.heap.size
  omega
end
section
variable{F:Nat}{w:World}{b tb:Nat}{a:Option Addr}{cap tcap:Nat}{s:St}
theorem ES(h:dv w b tb a cap tcap s)(t:Int)(c:t<0):Calls prog 59 #[.pointer (some ⟨b,0,none⟩),.int .i64 t] w fun r d=>r=.returned (.tuple #[.agg #[.int .i64 0,.int .i64 0,.int .i64 0,.bool false],.bool false])/\Below w.heap.size w d:=by
 obtain⟨e,f⟩:=h.lt;obtain⟨g,i⟩:=h.prog;have j:decide (t<0)=true:=by simpa using c
 have H:=hid h;clear h;go_enter func59,ntmps59;go_wp2
 go_quiet (fail)
 go_wp2;exact bodyPost_ret (v:=.tuple #[.agg #[.int .i64 0,.int .i64 0,.int .i64 0,.bool false],.bool false]) (by simp[results,results59,go_sem]) rfl ⟨rfl,kg (da w _).drewN (le_refl _) _ _ _ _⟩
theorem ER(h:dv w b tb a cap tcap s)(t:Int)(c:¬t<0)(d:(s.ts.length:Int)<=t):Calls prog 59 #[.pointer (some ⟨b,0,none⟩),.int .i64 t] w fun r e=>r=.returned (.tuple #[.agg #[.int .i64 0,.int .i64 0,.int .i64 0,.bool false],.bool false])/\Below w.heap.size w e:=by
 obtain⟨f,g⟩:=h.lt;obtain⟨i,j⟩:=h.prog;have k:decide (t<0)=false:=by simpa using c
 have l:decide ((s.ts.length:Int)<=t)=true:=by simpa using d
 have H:=hid h;clear h c d;go_enter func59,ntmps59;go_wp2
 go_quiet (fail)
 go_wp2;exact bodyPost_ret (v:=.tuple #[.agg #[.int .i64 0,.int .i64 0,.int .i64 0,.bool false],.bool false]) (by simp[results,results59,go_sem]) rfl ⟨rfl,kg (da w _).drewN (le_refl _) _ _ _ _⟩
end
section
variable{F:Nat}{w:World}{b tb:Nat}{a:Option Addr}{cap tcap:Nat}{s:St}
theorem EU(h:dv w b tb a cap tcap s)(t:Nat)(_h4:s.ts.length<=4)(c:t<s.ts.length)(d:(s.th t).fuel=0):Calls prog 59 #[.pointer (some ⟨b,0,none⟩),.int .i64 t] w fun r e=>r=.returned (.tuple #[.agg #[.int .i64 0,.int .i64 0,.int .i64 0,.bool false],.bool false])/\Below w.heap.size w e:=by
 obtain⟨f,g⟩:=h.lt;obtain⟨i,j⟩:=h.prog;have k:w.cell? ⟨tb,t*4+1,none⟩=some (.int .i64 0):=by have:=h.fuel t c;rw[d]at this;exact this
 have l:decide ((t:Int)<0)=false:=by simp
 have m:decide ((s.ts.length:Int)<=t)=false:=by simp;omega
 have n:decide (s.ts.length<=t)=false:=by simp;omega
 have H:=hid h;clear h d;go_enter func59,ntmps59;go_wp2
 go_quiet (fail)
 go_wp2;exact bodyPost_ret (v:=.tuple #[.agg #[.int .i64 0,.int .i64 0,.int .i64 0,.bool false],.bool false]) (by simp[results,results59,go_sem]) rfl ⟨rfl,kg (da w _).drewN (le_refl _) _ _ _ _⟩
end
section
variable{F:Nat}{w:World}{b tb:Nat}{a:Option Addr}{cap tcap:Nat}{s:St}
theorem ET(h:dv w b tb a cap tcap s)(i:dI w a s.p.threads)(l:s.Ok F)(t:Nat)(d:t<s.ts.length)(x:(s.th t).fuel≠0)(j:(s.th t).at_=(s.code t).length):Calls prog 59 #[.pointer (some ⟨b,0,none⟩),.int .i64 t] w fun r y=>r=.returned (.tuple #[.agg #[.int .i64 0,.int .i64 0,.int .i64 0,.bool false],.bool false])/\Below w.heap.size w y:=by
 obtain⟨C,D⟩:=h.lt;obtain⟨G,I⟩:=h.prog;have m:=l.len;have J:=l.len4;have L:=h.fuel t d;have z:=h.at_ t d;have M:decide ((t:Int)<0)=false:=by simp
 have N:decide (s.ts.length<=t)=false:=by simp;omega
 have O:decide ((s.ts.length:Int)<=t)=false:=by simp;omega
 have g:t<s.p.threads.length:=by omega
 have k:s.code t=s.p.threads[t]:=dV _ g;obtain⟨P,Q,rfl,o⟩:=i.2 (by intro e;simp[e]at g);obtain⟨c,u,q,A,_⟩:=o t g;rw[<-k]at q;have B:=fs q;dsimp only at B;have E:((((s.th t).fuel:Nat):Int)==0)=false:=by simp;omega
 have R:=l.code8 t d;rw[j]at z;have H:=hid h;clear h i l m x j o A k;generalize (s.th t).fuel=f at *;generalize (s.code t).length=n at *;have S:decide (n<=n)=true:=by simp
 have T:decide ((n:Int)<=n)=true:=by simp
 go_enter func59,ntmps59;go_wp2
 go_quiet (fail)
 go_wp2;exact bodyPost_ret (v:=.tuple #[.agg #[.int .i64 0,.int .i64 0,.int .i64 0,.bool false],.bool false]) (by simp[results,results59,go_sem]) rfl ⟨rfl,kg (da w _).drewN (le_refl _) _ _ _ _⟩
end
section
variable{F:Nat}{w:World}{b tb:Nat}{a:Option Addr}{cap tcap:Nat}{s:St}
theorem E1(h:dv w b tb a cap tcap s)(l:dI w a s.p.threads)(A:s.Ok F)(t:Nat)(i:Ins)(B:s.ins t=some i)(G:i.kind=1):
  Calls prog 59 #[.pointer (some ⟨b,0,none⟩),.int .i64 t] w fun r V=>r=.returned (.tuple #[.agg #[.int .i64 t,.int .i64 2,.int .i64 i.x,.bool false],.bool true])/\Below w.heap.size w V:=by
 obtain⟨_,O,d⟩:=St.ins_has B;obtain⟨k,I,g⟩:=St.ins_nat B;obtain rfl:t=k:=by omega
 simp only[Int.toNat_natCast]at O d;obtain⟨aa,ac⟩:=h.lt;obtain⟨X,Y⟩:=h.prog;have J:=A.len;have h4:=A.len4;have j:t<s.p.threads.length:=by omega
 have o:s.code t=s.p.threads[t]:=dV _ j;obtain⟨q,u⟩:=List.getElem?_eq_some_iff.1 d;obtain⟨ab,ao,rfl,P⟩:=l.2 (by intro e;simp[e]at j);obtain⟨c,U,C,D,_⟩:=P t j;rw[<-o]at C D;obtain⟨cb,co,rfl,y⟩:=D.2 (by intro e;simp[e]at q);obtain⟨E,Q,R,S⟩:=y _ q;rw[u]at E Q R S;have L:=fs C;have M:=fs E;dsimp only at L M;have Z:=h.fuel t g;have ca:=h.at_ t g;have ad:((((s.th t).fuel:Nat):Int)==0)=false:=by simp;omega
 have q0:decide ((t:Int)<0)=false:=by simp
 have q1:decide ((s.ts.length:Int)<=t)=false:=by simp;omega
 have q2:decide (s.ts.length<=t)=false:=by simp;omega
 have q3:decide ((s.code t).length<=(s.th t).at_)=false:=by simp;omega
 have q4:decide (((s.code t).length:Int)<=(s.th t).at_)=false:=by simp;omega
 have h8:=A.code8 t g;have H:=hid h;clear h l A B J I O d P D o y u;generalize (s.th t).fuel=f at *;generalize (s.th t).at_=ae at *;generalize (s.code t).length=n at *;obtain⟨kd,r,x,m⟩:=i;dsimp only at *;subst G;go_enter func59,ntmps59;go_wp2
 go_quiet (fail)
 go_wp2
 go_region
 generalize T:(((w.alloc (.cells #[.int .i64 0,.int .i64 0,.int .i64 0,.bool false] 112)).drewN (nq+1)).alloc (.cells #[.int .i64 1,.int .i64 r,.int .i64 x,.int .i64 m] 63))=W at *;obtain⟨N,⟨e0,e1,e2,e3⟩,⟨e4,e5,e6,e7⟩,⟨j0,j1,j2,j3⟩,af,z⟩:=mz T;clear T Z ca C E Q R S X Y;go_wp2;refine bodyPost_ret (v:=.tuple #[.agg #[.int .i64 t,.int .i64 2,.int .i64 x,.bool false],.bool true]) (by simp[results,results59,go_sem,z,e0,e1,e2,e3]) rfl ⟨rfl,?_⟩
 repeat(first|exact N|refine Below.drew ?_|refine Below.drewN ?_|(refine Below.alloc ?_ (by simp[World.setCell];omega) _)|(refine Below.setCell ?_ (by first|exact le_refl _|(simp[World.setCell];omega)) _))
theorem E0(h:dv w b tb a cap tcap s)(l:dI w a s.p.threads)(A:s.Ok F)(t:Nat)(i:Ins)(B:s.ins t=some i)(G:i.kind=2):
  Calls prog 59 #[.pointer (some ⟨b,0,none⟩),.int .i64 t] w fun r V=>r=.returned (.tuple #[.agg #[.int .i64 t,.int .i64 3,.int .i64 i.x,.bool false],.bool true])/\Below w.heap.size w V:=by
 obtain⟨_,O,d⟩:=St.ins_has B;obtain⟨k,I,g⟩:=St.ins_nat B;obtain rfl:t=k:=by omega
 simp only[Int.toNat_natCast]at O d;obtain⟨aa,ac⟩:=h.lt;obtain⟨X,Y⟩:=h.prog;have J:=A.len;have h4:=A.len4;have j:t<s.p.threads.length:=by omega
 have o:s.code t=s.p.threads[t]:=dV _ j;obtain⟨q,u⟩:=List.getElem?_eq_some_iff.1 d;obtain⟨ab,ao,rfl,P⟩:=l.2 (by intro e;simp[e]at j);obtain⟨c,U,C,D,_⟩:=P t j;rw[<-o]at C D;obtain⟨cb,co,rfl,y⟩:=D.2 (by intro e;simp[e]at q);obtain⟨E,Q,R,S⟩:=y _ q;rw[u]at E Q R S;have L:=fs C;have M:=fs E;dsimp only at L M;have Z:=h.fuel t g;have ca:=h.at_ t g;have ad:((((s.th t).fuel:Nat):Int)==0)=false:=by simp;omega
 have q0:decide ((t:Int)<0)=false:=by simp
 have q1:decide ((s.ts.length:Int)<=t)=false:=by simp;omega
 have q2:decide (s.ts.length<=t)=false:=by simp;omega
 have q3:decide ((s.code t).length<=(s.th t).at_)=false:=by simp;omega
 have q4:decide (((s.code t).length:Int)<=(s.th t).at_)=false:=by simp;omega
 have h8:=A.code8 t g;have H:=hid h;clear h l A B J I O d P D o y u;generalize (s.th t).fuel=f at *;generalize (s.th t).at_=ae at *;generalize (s.code t).length=n at *;obtain⟨kd,r,x,m⟩:=i;dsimp only at *;subst G;go_enter func59,ntmps59;go_wp2
 go_quiet (fail)
 go_wp2
 go_region
 generalize T:(((w.alloc (.cells #[.int .i64 0,.int .i64 0,.int .i64 0,.bool false] 112)).drewN (nq+1)).alloc (.cells #[.int .i64 2,.int .i64 r,.int .i64 x,.int .i64 m] 63))=W at *;obtain⟨N,⟨e0,e1,e2,e3⟩,⟨e4,e5,e6,e7⟩,⟨j0,j1,j2,j3⟩,af,z⟩:=mz T;clear T Z ca C E Q R S X Y;go_wp2;refine bodyPost_ret (v:=.tuple #[.agg #[.int .i64 t,.int .i64 3,.int .i64 x,.bool false],.bool true]) (by simp[results,results59,go_sem,z,e0,e1,e2,e3]) rfl ⟨rfl,?_⟩
 repeat(first|exact N|refine Below.drew ?_|refine Below.drewN ?_|(refine Below.alloc ?_ (by simp[World.setCell];omega) _)|(refine Below.setCell ?_ (by first|exact le_refl _|(simp[World.setCell];omega)) _))
theorem EZ(h:dv w b tb a cap tcap s)(l:dI w a s.p.threads)(A:s.Ok F)(t:Nat)(i:Ins)(B:s.ins t=some i)(G:i.kind=5):
  Calls prog 59 #[.pointer (some ⟨b,0,none⟩),.int .i64 t] w fun r V=>r=.returned (.tuple #[.agg #[.int .i64 t,.int .i64 4,.int .i64 i.x,.bool false],.bool true])/\Below w.heap.size w V:=by
 obtain⟨_,O,d⟩:=St.ins_has B;obtain⟨k,I,g⟩:=St.ins_nat B;obtain rfl:t=k:=by omega
 simp only[Int.toNat_natCast]at O d;obtain⟨aa,ac⟩:=h.lt;obtain⟨X,Y⟩:=h.prog;have J:=A.len;have h4:=A.len4;have j:t<s.p.threads.length:=by omega
 have o:s.code t=s.p.threads[t]:=dV _ j;obtain⟨q,u⟩:=List.getElem?_eq_some_iff.1 d;obtain⟨ab,ao,rfl,P⟩:=l.2 (by intro e;simp[e]at j);obtain⟨c,U,C,D,_⟩:=P t j;rw[<-o]at C D;obtain⟨cb,co,rfl,y⟩:=D.2 (by intro e;simp[e]at q);obtain⟨E,Q,R,S⟩:=y _ q;rw[u]at E Q R S;have L:=fs C;have M:=fs E;dsimp only at L M;have Z:=h.fuel t g;have ca:=h.at_ t g;have ad:((((s.th t).fuel:Nat):Int)==0)=false:=by simp;omega
 have q0:decide ((t:Int)<0)=false:=by simp
 have q1:decide ((s.ts.length:Int)<=t)=false:=by simp;omega
 have q2:decide (s.ts.length<=t)=false:=by simp;omega
 have q3:decide ((s.code t).length<=(s.th t).at_)=false:=by simp;omega
 have q4:decide (((s.code t).length:Int)<=(s.th t).at_)=false:=by simp;omega
 have h8:=A.code8 t g;have H:=hid h;clear h l A B J I O d P D o y u;generalize (s.th t).fuel=f at *;generalize (s.th t).at_=ae at *;generalize (s.code t).length=n at *;obtain⟨kd,r,x,m⟩:=i;dsimp only at *;subst G;go_enter func59,ntmps59;go_wp2
 go_quiet (fail)
 go_wp2
 go_region
 generalize T:(((w.alloc (.cells #[.int .i64 0,.int .i64 0,.int .i64 0,.bool false] 112)).drewN (nq+1)).alloc (.cells #[.int .i64 5,.int .i64 r,.int .i64 x,.int .i64 m] 63))=W at *;obtain⟨N,⟨e0,e1,e2,e3⟩,⟨e4,e5,e6,e7⟩,⟨j0,j1,j2,j3⟩,af,z⟩:=mz T;clear T Z ca C E Q R S X Y;go_wp2;refine bodyPost_ret (v:=.tuple #[.agg #[.int .i64 t,.int .i64 4,.int .i64 x,.bool false],.bool true]) (by simp[results,results59,go_sem,z,e0,e1,e2,e3]) rfl ⟨rfl,?_⟩
 repeat(first|exact N|refine Below.drew ?_|refine Below.drewN ?_|(refine Below.alloc ?_ (by simp[World.setCell];omega) _)|(refine Below.setCell ?_ (by first|exact le_refl _|(simp[World.setCell];omega)) _))
end
section
variable{F:Nat}{w:World}{b tb:Nat}{a:Option Addr}{cap tcap:Nat}{s:St}
theorem EY(h:dv w b tb a cap tcap s)(l:dI w a s.p.threads)(C:s.Ok F)(t:Nat)(i:Ins)(D:s.ins t=some i)(L:i.kind=6)(y:Nat)(hy:i.x=y)(M:y<2)(T:s.who y=t):
  Calls prog 59 #[.pointer (some ⟨b,0,none⟩),.int .i64 t] w fun r w'=>r=.returned (.tuple #[.agg #[.int .i64 t,.int .i64 5,.int .i64 i.x,.bool false],.bool true])/\Below w.heap.size w w':=by
 obtain⟨_,U,d⟩:=St.ins_has D;obtain⟨k,N,g⟩:=St.ins_nat D;obtain rfl:t=k:=by omega
 simp only[Int.toNat_natCast]at U d;obtain⟨ac,ad⟩:=h.lt;obtain⟨p0,p1⟩:=h.prog;have O:=C.len;have h4:=C.len4;have j:t<s.p.threads.length:=by omega
 have o:s.code t=s.p.threads[t]:=dV _ j;obtain⟨q,u⟩:=List.getElem?_eq_some_iff.1 d;obtain⟨ab,ao,rfl,V⟩:=l.2 (by intro e;simp[e]at j);obtain⟨c,aa,E,G,_⟩:=V t j;rw[<-o]at E G;obtain⟨cb,co,rfl,z⟩:=G.2 (by intro e;simp[e]at q);obtain⟨I,X,Y,Z⟩:=z _ q;rw[u]at I X Y Z;have P:=fs E;have Q:=fs I;dsimp only at P Q;have cf:=h.fuel t g;have ca:=h.at_ t g;have ae:((((s.th t).fuel:Nat):Int)==0)=false:=by simp;omega
 have q0:decide ((t:Int)<0)=false:=by simp
 have q1:decide ((s.ts.length:Int)<=t)=false:=by simp;omega
 have q2:decide (s.ts.length<=t)=false:=by simp;omega
 have q3:decide ((s.code t).length<=(s.th t).at_)=false:=by simp;omega
 have q4:decide (((s.code t).length:Int)<=(s.th t).at_)=false:=by simp;omega
 have h8:=C.code8 t g;have J:=h.who y M;rw[T]at J;have H:=hid h;clear h l C D O N U d V G o z u;generalize (s.th t).fuel=f at *;generalize (s.th t).at_=af at *;generalize (s.code t).length=n at *;obtain⟨kd,r,x,m⟩:=i;dsimp only at *;subst L hy;clear T;go_enter func59,ntmps59;go_wp2
 go_quiet (fail)
 go_wp2
 go_region
 generalize hW:(((w.alloc (.cells #[.int .i64 0,.int .i64 0,.int .i64 0,.bool false] 112)).drewN (nq+1)).alloc (.cells #[.int .i64 6,.int .i64 r,.int .i64 y,.int .i64 m] 63))=W at *;obtain⟨A,⟨e0,e1,e2,e3⟩,⟨e4,e5,e6,e7⟩,⟨j0,j1,j2,j3⟩,ag,B⟩:=mz hW;have R:=de A J;have S:=fs R;dsimp only at S;clear hW cf ca E I X Y Z p0 p1 J;go_wp2
 go_region
 go_wp2;refine bodyPost_ret (v:=.tuple #[.agg #[.int .i64 t,.int .i64 5,.int .i64 y,.bool false],.bool true]) (by simp[results,results59,go_sem,B,e0,e1,e2,e3]) rfl ⟨rfl,?_⟩
 repeat(first|exact A|refine Below.drew ?_|refine Below.drewN ?_|(refine Below.alloc ?_ (by simp[World.setCell];omega) _)|(refine Below.setCell ?_ (by first|exact le_refl _|(simp[World.setCell];omega)) _))
end
section
variable{F:Nat}{w:World}{b tb:Nat}{a:Option Addr}{cap tcap:Nat}{s:St}
theorem EV(h:dv w b tb a cap tcap s)(o:dI w a s.p.threads)(D:s.Ok F)(t:Nat)(i:Ins)(E:s.ins t=some i)(L:i.kind=8)(y:Nat)(hy:i.r=y)(M:y<2):
  Calls prog 59 #[.pointer (some ⟨b,0,none⟩),.int .i64 t] w fun r w'=>r=.returned (.tuple #[.agg #[.int .i64 t,.int .i64 1,.int .i64 0,.bool ((s.th t).r.getD y 0==0)],.bool true])/\Below w.heap.size w w':=by
 obtain⟨_,V,d⟩:=St.ins_has E;obtain⟨k,N,g⟩:=St.ins_nat E;obtain rfl:t=k:=by omega
 simp only[Int.toNat_natCast]at V d;obtain⟨ac,ad⟩:=h.lt;obtain⟨p0,X⟩:=h.prog;have O:=D.len;have h4:=D.len4;have j:t<s.p.threads.length:=by omega
 have q:s.code t=s.p.threads[t]:=dV _ j;obtain⟨u,A⟩:=List.getElem?_eq_some_iff.1 d;obtain⟨ab,ao,rfl,Y⟩:=o.2 (by intro e;simp[e]at j);obtain⟨c,aa,G,I,_⟩:=Y t j;rw[<-q]at G I;obtain⟨cb,co,rfl,B⟩:=I.2 (by intro e;simp[e]at u);obtain⟨J,Z,i2,i3⟩:=B _ u;rw[A]at J Z i2 i3;have P:=fs G;have Q:=fs J;dsimp only at P Q;have cf:=h.fuel t g;have ca:=h.at_ t g;have ae:((((s.th t).fuel:Nat):Int)==0)=false:=by simp;omega
 have q0:decide ((t:Int)<0)=false:=by simp
 have q1:decide ((s.ts.length:Int)<=t)=false:=by simp;omega
 have q2:decide (s.ts.length<=t)=false:=by simp;omega
 have q3:decide ((s.code t).length<=(s.th t).at_)=false:=by simp;omega
 have q4:decide (((s.code t).length:Int)<=(s.th t).at_)=false:=by simp;omega
 have h8:=D.code8 t g;have c9:=h.reg t g y M;have c8:=X;generalize (s.th t).r.getD y 0=z at *;have H:=hid h;clear h o D E O N V d Y I q B A;generalize (s.th t).fuel=f at *;generalize (s.th t).at_=af at *;generalize (s.code t).length=n at *;obtain⟨kd,r,x,m⟩:=i;dsimp only at *;subst L hy;go_enter func59,ntmps59;go_wp2
 go_quiet (fail)
 go_wp2
 go_region
 generalize hW:(((w.alloc (.cells #[.int .i64 0,.int .i64 0,.int .i64 0,.bool false] 112)).drewN (nq+1)).alloc (.cells #[.int .i64 8,.int .i64 y,.int .i64 x,.int .i64 m] 63))=W at *;obtain⟨l,⟨e0,e1,e2,e3⟩,⟨e4,e5,e6,e7⟩,⟨j0,j1,j2,j3⟩,ag,C⟩:=mz hW;have R:=de l c9;have S:=fs R;dsimp only at S;have T:=de l c8;have U:=fs T;dsimp only at U;clear hW cf ca G J Z i2 i3 p0 X c9 c8;go_wp2
 go_region
 go_wp2;refine bodyPost_ret (v:=.tuple #[.agg #[.int .i64 t,.int .i64 1,.int .i64 0,.bool (z==0)],.bool true]) (by simp[results,results59,go_sem,C,e0,e1,e2,e3]) rfl ⟨rfl,?_⟩
 repeat(first|exact l|refine Below.drew ?_|refine Below.drewN ?_|(refine Below.alloc ?_ (by simp[World.setCell];omega) _)|(refine Below.setCell ?_ (by first|exact le_refl _|(simp[World.setCell];omega)) _))
end
section
variable{F:Nat}{w:World}{b tb:Nat}{a:Option Addr}{cap tcap:Nat}{s:St}
theorem EW(h:dv w b tb a cap tcap s)(l:dI w a s.p.threads)(C:s.Ok F)(t:Nat)(i:Ins)(D:s.ins t=some i)(J:i.kind=6)(y:Nat)(hy:i.x=y)(L:y<2)(S:¬s.who y=t):
  Calls prog 59 #[.pointer (some ⟨b,0,none⟩),.int .i64 t] w fun r w'=>r=.returned (.tuple #[.agg #[.int .i64 t,.int .i64 1,.int .i64 0,.bool true],.bool true])/\Below w.heap.size w w':=by
 obtain⟨_,T,d⟩:=St.ins_has D;obtain⟨k,M,g⟩:=St.ins_nat D;obtain rfl:t=k:=by omega
 simp only[Int.toNat_natCast]at T d;obtain⟨ac,ad⟩:=h.lt;obtain⟨p0,p1⟩:=h.prog;have N:=C.len;have h4:=C.len4;have j:t<s.p.threads.length:=by omega
 have o:s.code t=s.p.threads[t]:=dV _ j;obtain⟨q,u⟩:=List.getElem?_eq_some_iff.1 d;obtain⟨ab,ao,rfl,U⟩:=l.2 (by intro e;simp[e]at j);obtain⟨c,aa,E,G,_⟩:=U t j;rw[<-o]at E G;obtain⟨cb,co,rfl,z⟩:=G.2 (by intro e;simp[e]at q);obtain⟨I,V,X,Y⟩:=z _ q;rw[u]at I V X Y;have O:=fs E;have P:=fs I;dsimp only at O P;have cf:=h.fuel t g;have ca:=h.at_ t g;have ae:((((s.th t).fuel:Nat):Int)==0)=false:=by simp;omega
 have q0:decide ((t:Int)<0)=false:=by simp
 have q1:decide ((s.ts.length:Int)<=t)=false:=by simp;omega
 have q2:decide (s.ts.length<=t)=false:=by simp;omega
 have q3:decide ((s.code t).length<=(s.th t).at_)=false:=by simp;omega
 have q4:decide (((s.code t).length:Int)<=(s.th t).at_)=false:=by simp;omega
 have h8:=C.code8 t g;have Z:=h.who y L;have hq:(s.who y==(t:Int))=false:=by simpa using S
 have H:=hid h;clear h l C D N M T d U G o z u;generalize (s.th t).fuel=f at *;generalize (s.th t).at_=af at *;generalize (s.code t).length=n at *;obtain⟨kd,r,x,m⟩:=i;dsimp only at *;subst J hy;clear S;go_enter func59,ntmps59;go_wp2
 go_quiet (fail)
 go_wp2
 go_region
 generalize hW:(((w.alloc (.cells #[.int .i64 0,.int .i64 0,.int .i64 0,.bool false] 112)).drewN (nq+1)).alloc (.cells #[.int .i64 6,.int .i64 r,.int .i64 y,.int .i64 m] 63))=W at *;obtain⟨A,⟨e0,e1,e2,e3⟩,⟨e4,e5,e6,e7⟩,⟨j0,j1,j2,j3⟩,ag,B⟩:=mz hW;have Q:=de A Z;have R:=fs Q;dsimp only at R;clear hW cf ca E I V X Y p0 p1 Z;go_wp2
 go_region
 go_wp2;refine bodyPost_ret (v:=.tuple #[.agg #[.int .i64 t,.int .i64 1,.int .i64 0,.bool true],.bool true]) (by simp[results,results59,go_sem,B,e0,e1,e2,e3]) rfl ⟨rfl,?_⟩
 repeat(first|exact A|refine Below.drew ?_|refine Below.drewN ?_|(refine Below.alloc ?_ (by simp[World.setCell];omega) _)|(refine Below.setCell ?_ (by first|exact le_refl _|(simp[World.setCell];omega)) _))
end
section
variable{F:Nat}{w:World}{b tb:Nat}{a:Option Addr}{cap tcap:Nat}{s:St}
theorem E2(h:dv w b tb a cap tcap s)(o:dI w a s.p.threads)(I:s.Ok F)(t:Nat)(i:Ins)(J:s.ins t=some i)(q:i.kind≠1)(u:i.kind≠2)(y:i.kind≠5)(z:i.kind≠6)(A:i.kind≠8):
  Calls prog 59 #[.pointer (some ⟨b,0,none⟩),.int .i64 t] w fun r w'=>r=.returned (.tuple #[.agg #[.int .i64 t,.int .i64 1,.int .i64 0,.bool false],.bool true])/\Below w.heap.size w w':=by
 obtain⟨_,T,d⟩:=St.ins_has J;obtain⟨k,O,g⟩:=St.ins_nat J;obtain rfl:t=k:=by omega
 simp only[Int.toNat_natCast]at T d;obtain⟨ac,ad⟩:=h.lt;obtain⟨p0,p1⟩:=h.prog;have P:=I.len;have h4:=I.len4;have j:t<s.p.threads.length:=by omega
 have B:s.code t=s.p.threads[t]:=dV _ j;obtain⟨C,D⟩:=List.getElem?_eq_some_iff.1 d;obtain⟨ab,ao,rfl,U⟩:=o.2 (by intro e;simp[e]at j);obtain⟨c,aa,L,M,_⟩:=U t j;rw[<-B]at L M;obtain⟨cb,co,rfl,E⟩:=M.2 (by intro e;simp[e]at C);obtain⟨N,V,X,Y⟩:=E _ C;rw[D]at N V X Y;have Q:=fs L;have R:=fs N;dsimp only at Q R;have cf:=h.fuel t g;have ca:=h.at_ t g;have ae:((((s.th t).fuel:Nat):Int)==0)=false:=by simp;omega
 have q0:decide ((t:Int)<0)=false:=by simp
 have q1:decide ((s.ts.length:Int)<=t)=false:=by simp;omega
 have q2:decide (s.ts.length<=t)=false:=by simp;omega
 have q3:decide ((s.code t).length<=(s.th t).at_)=false:=by simp;omega
 have q4:decide (((s.code t).length:Int)<=(s.th t).at_)=false:=by simp;omega
 have h8:=I.code8 t g;have H:=hid h;clear h o I J P O T d U M B E D;generalize (s.th t).fuel=f at *;generalize (s.th t).at_=af at *;generalize (s.code t).length=n at *;obtain⟨l,r,x,m⟩:=i;dsimp only at *;have f1:(l==1)=false:=by simpa using q
 have f2:(l==2)=false:=by simpa using u
 have f5:(l==5)=false:=by simpa using y
 have f6:(l==6)=false:=by simpa using z
 have f8:(l==8)=false:=by simpa using A
 clear q u y z A;go_enter func59,ntmps59;go_wp2
 go_quiet (fail)
 go_wp2
 go_region
 generalize Z:(((w.alloc (.cells #[.int .i64 0,.int .i64 0,.int .i64 0,.bool false] 112)).drewN (nq+1)).alloc (.cells #[.int .i64 l,.int .i64 r,.int .i64 x,.int .i64 m] 63))=W at *;obtain⟨S,⟨e0,e1,e2,e3⟩,⟨e4,e5,e6,e7⟩,⟨j0,j1,j2,j3⟩,ag,G⟩:=mz Z;clear Z cf ca L N V X Y p0 p1;go_wp2;refine bodyPost_ret (v:=.tuple #[.agg #[.int .i64 t,.int .i64 1,.int .i64 0,.bool false],.bool true]) (by simp[results,results59,go_sem,G,e0,e1,e2,e3]) rfl ⟨rfl,?_⟩
 repeat(first|exact S|refine Below.drew ?_|refine Below.drewN ?_|(refine Below.alloc ?_ (by simp[World.setCell];omega) _)|(refine Below.setCell ?_ (by first|exact le_refl _|(simp[World.setCell];omega)) _))
end
section
variable{F:Nat}{w:World}{b tb:Nat}{a:Option Addr}{cap tcap:Nat}{s:St}
theorem mp(h:dv w b tb a cap tcap s)(c:dI w a s.p.threads)(f:s.Ok F)(t:Int):
  Calls prog 59 #[.pointer (some ⟨b,0,none⟩),.int .i64 t] w fun r E=>r=.returned (lU (s.next t))/\Below w.heap.size w E:=by
 have G:=f.len4
 cases d:s.ins t with
 |none=>
  have A:s.next t=none:=by unfold St.next;rw[d];rfl
  rw[A,mI]
  by_cases q:t<0
  ·exact ES h t q
  by_cases C:(s.ts.length:Int)<=t
  ·exact ER h t q C
  obtain⟨k,rfl⟩:∃k:Nat,t=k:=⟨t.toNat,by omega⟩
  have o:k<s.ts.length:=by omega
  by_cases B:(s.th k).fuel=0
  ·exact EU h k G o B
  ·have H:=f.place k o
   refine ET h c f k o B ?_;unfold St.ins at d;rw[if_pos ⟨⟨by omega,by omega⟩,by simpa using B⟩]at d;simp only[Int.toNat_natCast]at d;have:=List.getElem?_eq_none_iff.1 d;omega
 |some i=>
  obtain⟨k,rfl,I⟩:=St.ins_nat d;have A:s.next k=some (s.ev k i):=by unfold St.next;rw[d];rfl
  obtain⟨J,D,L,M,N,O⟩:=f.obj d;rw[A,ll]
  by_cases g:i.kind=1
  ·have:=E1 h c f k i d g
   simpa [St.ev,g]using this
  by_cases l:i.kind=2
  ·have:=E0 h c f k i d l
   simpa [St.ev,g,l]using this
  by_cases m:i.kind=5
  ·have:=EZ h c f k i d m
   simpa [St.ev,g,l,m]using this
  by_cases j:i.kind=6
  ·obtain⟨y,n⟩:∃y:Nat,i.x=y:=⟨i.x.toNat,by have:=D (.inr j);omega⟩
   have u:y<2:=by have:=D (.inr j);omega
   by_cases v:s.who y=k
   ·have:=EY h c f k i d j y n u v
    have e:s.ev k i=⟨k,5,i.x,false⟩:=by
     unfold St.ev;rw[if_neg g,if_neg l,if_neg m,if_pos j,n,if_pos v]
    rw[e];exact this
   ·have:=EW h c f k i d j y n u v
    have e:s.ev k i=⟨k,1,0,true⟩:=by
     unfold St.ev;rw[if_neg g,if_neg l,if_neg m,if_pos j,n,if_neg v]
    rw[e];exact this
  by_cases z:i.kind=8
  ·obtain⟨y,n⟩:∃y:Nat,i.r=y:=⟨i.r.toNat,by omega⟩
   have:=EV h c f k i d z y n (by omega)
   have e:s.ev k i=⟨k,1,0,(s.th k).r.getD y 0==0⟩:=by
    unfold St.ev;rw[if_neg g,if_neg l,if_neg m,if_neg j,if_pos z];unfold St.reg;rw[n];rfl
   rw[e];exact this
  ·have:=E2 h c f k i d g l m j z
   have e:s.ev k i=⟨k,1,0,false⟩:=by
    unfold St.ev;rw[if_neg g,if_neg l,if_neg m,if_neg j,if_neg z]
   rw[e];exact this
theorem sN(h:dv w b tb a cap tcap s)(n:dI w a s.p.threads)(D:s.Ok F)(t:Int):
  Calls prog 95 #[.pointer (some ⟨b,0,none⟩),.int .i64 t] w fun r J=>r=.returned (.bool (s.may t))/\Below w.heap.size w J:=by
 have H:=hid h;have q:=hid n;have f:=hid D;have k:=h.lt.1;clear h n D
 cases i:s.next t with
 |none=>
  have l:s.may t=false:=by rw[St.may_eq f.out,i]
  rw[l];have o:=hid i;clear i l;go_enter func95,ntmps95;go_wp2_with fail;refine(mp H.out q.out f.out t).mono ?_;rw[o.out,mI];rintro r E⟨rfl,k⟩;have m:=k.size;go_wp2
  go_quiet (fail)
  go_wp2;go_ret;exact⟨rfl,(k.alloc m _).drewN⟩
 |some e=>
  have l:s.may t=s.free e:=by rw[St.may_eq f.out,i]
  rw[l];have o:=hid i
  by_cases j:e.kind=4
  ·obtain⟨u,v⟩:=yc f.out i j
   obtain⟨y,G⟩:∃y:Nat,e.obj=y:=⟨e.obj.toNat,by omega⟩
   have x:y<2:=by omega
   have I:=H.out.who y x;have z:=f.out.ml;have A:=f.out.mm (s.who y) (by unfold St.who;simp only[Int.toNat_natCast];rw[dV _ (by omega)];exact List.getElem_mem _)
   have d:s.free e=decide (s.who y<0):=by
    unfold St.free;rw[j,G,Bool.eq_iff_iff];simp;omega
   rw[d];have L:(e.kind != 4)=false:=by simp[j]
   clear i l d u v z A j;obtain⟨M,N,O,P⟩:=e;dsimp only at *;subst G;generalize s.who y=g at *;go_enter func95,ntmps95;go_wp2_with fail;refine(mp H.out q.out f.out t).mono ?_;rw[o.out,ll];rintro r E⟨rfl,c⟩;have m:=c.size;have B:=de c I;have C:=fs B;dsimp only at C;clear I;go_wp2
   go_quiet (fail)
   go_wp2;go_ret;exact⟨rfl,(c.alloc m _).drewN⟩
  ·have d:s.free e=true:=by unfold St.free;simp[j]
   rw[d];have L:(e.kind != 4)=true:=by simpa using j
   clear i l d j;go_enter func95,ntmps95;go_wp2_with fail;refine(mp H.out q.out f.out t).mono ?_;rw[o.out,ll];rintro r E⟨rfl,c⟩;have m:=c.size;go_wp2
   go_quiet (fail)
   go_wp2;go_ret;exact⟨rfl,(c.alloc m _).drewN⟩
theorem wO(h:dv w b tb a cap tcap s)(j:dI w a s.p.threads)(n:s.Ok F):
  Calls prog 56 #[.pointer (some ⟨b,0,none⟩)] w fun r x=>∃v,r=.returned v/\dC x w.heap.size v s.all/\Below w.heap.size w x:=by
 have I:=n.len4;have A:=h.prog.2;have e:=h.lt.1;have H:=hid h;have B:=hid j;have C:=hid n;clear h j n;go_enter func56,ntmps56;go_wp2
 go_loopw [3,4] (fun l i wr=>∃k:Nat,k<=s.ts.length/\i=.int .i64 k/\dC wr w.heap.size l (s.allTo k)/\Below w.heap.size w wr) (fun _ i _=>s.ts.length-(intOf i).toNat)
 case atStart=>exact⟨0,zero_le _,rfl,oR _ _,Below.refl _ _⟩
 case round=>
  obtain⟨k,J,rfl,c,hb⟩:=hrel;have q:=de hb A
  by_cases E:k<s.ts.length
  ·have G:=s.allTo_le k
   have y:=hid (s.allTo_succ k);go_wp2_with fail;refine(sN (H.out.later hb) (B.out.later hb) C.out k).mono ?_;rintro r z⟨rfl,e⟩;have f:=hb.trans (e.mono hb.size);have d:=c.later e;have D:=f.size;clear c hb e q
   cases m:s.may k
   ·have o:Hid (s.allTo (k+1)=s.allTo k):=by
     show _=_;rw[y.out,m];simp
    clear m;go_wp2
    go_roundw
    case rel=>exact⟨k+1,by omega,by go_num,by rw[o.out];exact d,f⟩
    case measure=>simp[intOf];omega
   ·have o:Hid (s.allTo (k+1)=s.allTo k++[(k:Int)]):=by
     show _=_;rw[y.out,m];simp
    clear m
    go_wp2_with (at_builtin;refine p6 rfl (.tmp 17) (.tmp 19) rfl w.heap.size _ (s.allTo k) rfl (d.alloc _) ⟨z.heap.size,0,none⟩ 1 1 rfl [(k:Int)] rfl (qG z [(k:Int)] _ _ rfl) (by simp;omega) (by simp;omega) ?_;intro L M g t _)
    have u:=(f.alloc D _).trans t
    go_roundw
    case rel=>exact⟨k+1,by omega,by go_num,by rw[o.out];exact g,u⟩
    case measure=>simp[intOf];omega
  ·obtain rfl:k=s.ts.length:=by omega
   go_wp2;go_ret;exact⟨_,rfl,c,hb⟩
end
theorem dv.go{w:World}{b tb:Nat}{a:Option Addr}{cap tcap:Nat}{s:St}(h:dv w b tb a cap tcap s)(t f n:Nat)(c:t<s.ts.length)(e:(s.th t).fuel=f+1)(g:(s.th t).at_=n):
  dv ((w.setCell ⟨tb,t*4+1,none⟩ (.int .i64 f)).setCell ⟨tb,t*4,none⟩ (.int .i64 ((n+1:Nat):Int))) b tb a cap tcap (s.go t):=by
 have i:=h.setFuel t f c;have d:=i.setAt t (n+1) (by rw[St.put_len];exact c);rw[St.put_th _ _ _ c,St.put_put]at d;unfold St.go;rw[e,g];exact d
theorem dv.other4{w:World}{b tb g:Nat}{a:Option Addr}{cap tcap:Nat}{s:St}(h:dv w b tb a cap tcap s)(hb:b≠g)(c:tb≠g)(v0 v1 v2 d:Value):
  dv ((((w.setCell ⟨g,0,none⟩ v0).setCell ⟨g,1,none⟩ v1).setCell ⟨g,2,none⟩ v2).setCell ⟨g,3,none⟩ d) b tb a cap tcap s:=
 (((h.other hb c 0 v0).other hb c 1 v1).other hb c 2 v2).other hb c 3 d
section
variable{F:Nat}{w:World}{b tb:Nat}{a:Option Addr}{cap tcap:Nat}{s:St}
theorem EM(h:dv w b tb a cap tcap s)(t:Int)(hb:eK t s.ts.length=false):Calls prog 61 #[.pointer (some ⟨b,0,none⟩),.int .i64 t] w fun e f=>e=.returned (jp (s.step t))/\dv f b tb a cap tcap (s.step t).2.2/\Only2 b tb w f:=by
 have c:s.step t=(2,iR,s):=by
  unfold St.step;rw[if_neg (fun e=>by unfold St.has at e;simp[eK]at hb;omega)]
 rw[c,nm];have d:¬(0<=t/\t<s.ts.length):=by simpa [eK]using hb
 have l:=h.prog.2;have k:=h.lt.1;have g:=hid (h.later (da w (.cells #[.int .i64 0,.int .i64 0,.int .i64 0,.bool false] 112)));clear c h hb
 by_cases i:t<0
 ·have j:decide (t<0)=true:=by simpa using i
  clear d;go_enter func61,ntmps61;go_wp2;refine bodyPost_ret (v:=.tuple #[.agg #[.int .i64 0,.int .i64 0,.int .i64 0,.bool false],.int .i64 2]) (by simp[results,results61,go_sem]) rfl ⟨rfl,g.out,?_⟩;exact(Only2.refl b tb w).alloc _
 ·have j:decide (t<0)=false:=by simpa using i
  have m:decide ((s.ts.length:Int)<=t)=true:=by simp;omega
  clear d;go_enter func61,ntmps61;go_wp2;refine bodyPost_ret (v:=.tuple #[.agg #[.int .i64 0,.int .i64 0,.int .i64 0,.bool false],.int .i64 2]) (by simp[results,results61,go_sem]) rfl ⟨rfl,g.out,?_⟩;exact(Only2.refl b tb w).alloc _
theorem EN(h:dv w b tb a cap tcap s)(d:dI w a s.p.threads)(i:s.Ok F)(t:Nat)(G:t<s.ts.length)(j:s.ins t=none):Calls prog 61 #[.pointer (some ⟨b,0,none⟩),.int .i64 t] w fun e l=>e=.returned (jp (s.step t))/\dv l b tb a cap tcap (s.step t).2.2/\Only2 b tb w l:=by
 have f:s.step t=(6,iR,s):=by
  unfold St.step;rw[if_pos (by unfold St.has;omega),j]
 have m:s.next t=none:=by unfold St.next;rw[j];rfl
 rw[f,nm];have q:=h.prog.2;have u:=h.lt;obtain⟨D,E⟩:=u;have H:=i.len4;have I:decide ((t:Int)<0)=false:=by simp
 have J:decide ((s.ts.length:Int)<=t)=false:=by simp;omega
 have L:decide (s.ts.length<=t)=false:=by simp;omega
 have n:=hid (h.later (da w (.cells #[.int .i64 0,.int .i64 0,.int .i64 0,.bool false] 112)));have k:=hid (d.later (da w (.cells #[.int .i64 0,.int .i64 0,.int .i64 0,.bool false] 112)));have x:=hid i;have y:=hid m;clear f h d i j m;go_enter func61,ntmps61;go_wp2_with fail;refine(mp n.out k.out x.out t).mono ?_;rw[y.out,mI];rintro r g⟨rfl,c⟩;have z:w.heap.size<g.heap.size:=by have:=c.size;simp at this;omega
 have A:∀o,g.cell? ⟨w.heap.size,o,none⟩=(w.alloc (.cells #[.int .i64 0,.int .i64 0,.int .i64 0,.bool false] 112)).cell? ⟨w.heap.size,o,none⟩:=fun o=>c.cell (p:=⟨w.heap.size,o,none⟩) (by simp)
 have M:∀o,g.frozen? ⟨w.heap.size,o,none⟩=(w.alloc (.cells #[.int .i64 0,.int .i64 0,.int .i64 0,.bool false] 112)).frozen? ⟨w.heap.size,o,none⟩:=fun o=>c.frozen (p:=⟨w.heap.size,o,none⟩) (by simp)
 have B:=hid (n.out.later c);have C:Hid (Below w.heap.size w g):=(da w _).trans (c.mono (by simp));clear c q;go_wp2;refine bodyPost_ret (v:=.tuple #[.agg #[.int .i64 0,.int .i64 0,.int .i64 0,.bool false],.int .i64 6]) (by simp[results,results61,go_sem,A,z]) rfl ⟨rfl,?_,?_⟩
 ·exact(B.out.other4 (by omega) (by omega) _ _ _ _).later (da _ _)
 ·exact((Only2.of_below C.out).set4 (le_refl _) _ _ _ _).alloc _
theorem EL(h:dv w b tb a cap tcap s)(g:dI w a s.p.threads)(u:s.Ok F)(t:Nat)(i:Ins)(m:s.ins t=some i)(x:s.may t=false):Calls prog 61 #[.pointer (some ⟨b,0,none⟩),.int .i64 t] w fun e B=>e=.returned (jp (s.step t))/\dv B b tb a cap tcap (s.step t).2.2/\Only2 b tb w B:=by
 obtain⟨k,z,V⟩:=St.ins_nat m;obtain rfl:t=k:=by omega
 have j:s.step t=(9,iR,s):=by
  unfold St.step;rw[if_pos (by unfold St.has;omega),m];simp only[x];rfl
 have y:s.next t=some (s.ev t i):=by unfold St.next;rw[m];rfl
 rw[j,nm]
 obtain⟨e,C⟩:∃e,e=s.ev t i:=⟨_,rfl⟩
 rw[<-C]at y;have I:=h.prog.2;have J:=h.lt;obtain⟨R,S⟩:=J;have W:=u.len4;have X:decide ((t:Int)<0)=false:=by simp
 have Y:decide ((s.ts.length:Int)<=t)=false:=by simp;omega
 have Z:decide (s.ts.length<=t)=false:=by simp;omega
 have D:=hid (h.later (da w (.cells #[.int .i64 0,.int .i64 0,.int .i64 0,.bool false] 112)));have l:=hid (g.later (da w (.cells #[.int .i64 0,.int .i64 0,.int .i64 0,.bool false] 112)));have E:=hid u;have L:=hid y;have M:=hid x;clear j h g u m y C z x;go_enter func61,ntmps61;go_wp2_with fail;refine(mp D.out l.out E.out t).mono ?_;rw[L.out,ll];rintro r d⟨rfl,c⟩;have G:w.heap.size<d.heap.size:=by have:=c.size;simp at this;omega
 have N:∀o,d.cell? ⟨w.heap.size,o,none⟩=(w.alloc (.cells #[.int .i64 0,.int .i64 0,.int .i64 0,.bool false] 112)).cell? ⟨w.heap.size,o,none⟩:=fun o=>c.cell (p:=⟨w.heap.size,o,none⟩) (by simp)
 have hf:∀o,d.frozen? ⟨w.heap.size,o,none⟩=(w.alloc (.cells #[.int .i64 0,.int .i64 0,.int .i64 0,.bool false] 112)).frozen? ⟨w.heap.size,o,none⟩:=fun o=>c.frozen (p:=⟨w.heap.size,o,none⟩) (by simp)
 have H:=hid ((D.out.later c).later (da d (.cells #[.int .i64 e.thread,.int .i64 e.kind,.int .i64 e.obj,.bool e.fail] 112)));have O:=hid ((l.out.later c).later (da d (.cells #[.int .i64 e.thread,.int .i64 e.kind,.int .i64 e.obj,.bool e.fail] 112)));have P:Hid (Below w.heap.size w d):=(da w _).trans (c.mono (by simp));clear c I;go_wp2_with fail;refine(sN H.out O.out E.out t).mono ?_;rw[M.out];rintro r n⟨rfl,f⟩;have q:Hid (Below d.heap.size d n):=(da d _).trans (f.mono (by simp));have T:w.heap.size<n.heap.size:=by have:=q.out.size;omega
 have A:∀o,n.cell? ⟨w.heap.size,o,none⟩=d.cell? ⟨w.heap.size,o,none⟩:=fun o=>q.out.cell (p:=⟨w.heap.size,o,none⟩) G
 have U:∀o,n.frozen? ⟨w.heap.size,o,none⟩=d.frozen? ⟨w.heap.size,o,none⟩:=fun o=>q.out.frozen (p:=⟨w.heap.size,o,none⟩) G
 have Q:=hid (H.out.later f);clear f;go_wp2;refine bodyPost_ret (v:=.tuple #[.agg #[.int .i64 0,.int .i64 0,.int .i64 0,.bool false],.int .i64 9]) (by simp[results,results61,go_sem,N,A]) rfl ⟨rfl,?_,?_⟩
 ·exact Q.out.other4 (by omega) (by omega) _ _ _ _
 ·exact(Only2.of_below (P.out.trans (q.out.mono (by omega)))).set4 (le_refl _) _ _ _ _
end
end
section
open Go.RowKit
def og(w:World)(g:Nat):Prop:=w.heap[g]?=some (.cells #[.int .i64 0,.int .i64 0,.int .i64 0,.bool false] 112 (0,0))
theorem og.cells{w:World}{g:Nat}(h:og w g):w.cell? ⟨g,0,none⟩=some (.int .i64 0)/\w.cell? ⟨g,1,none⟩=some (.int .i64 0)/\w.cell? ⟨g,2,none⟩=some (.int .i64 0)/\w.cell? ⟨g,3,none⟩=some (.bool false)/\∀o,w.frozen? ⟨g,o,none⟩=false:=by
 simp[World.cell?,World.frozen?,show w.heap[g]?=_ from h]
theorem Lv{w:World}{g:Nat}{e:Ev}(h:w.heap[g]?=some (.cells #[.int .i64 e.thread,.int .i64 e.kind,.int .i64 e.obj,.bool e.fail] 112 (0,0))):w.cell? ⟨g,0,none⟩=some (.int .i64 e.thread)/\w.cell? ⟨g,1,none⟩=some (.int .i64 e.kind)/\w.cell? ⟨g,2,none⟩=some (.int .i64 e.obj)/\w.cell? ⟨g,3,none⟩=some (.bool e.fail):=by
 simp[World.cell?,h]
theorem zf{w:World}{g:Nat}{a r x m:Int}(h:w.heap[g]?=some (.cells #[.int .i64 a,.int .i64 r,.int .i64 x,.int .i64 m] 63 (0,0))):w.cell? ⟨g,0,none⟩=some (.int .i64 a)/\w.cell? ⟨g,1,none⟩=some (.int .i64 r)/\w.cell? ⟨g,2,none⟩=some (.int .i64 x)/\w.cell? ⟨g,3,none⟩=some (.int .i64 m):=by
 simp[World.cell?,h]
end
section
open Go.Lib (hid)
open Go.Proofs.Tryz Go.RowKit
open Nat (le_of_eq)
section
variable{F:Nat}{w:World}{b tb:Nat}{a:Option Addr}{cap tcap:Nat}{s:St}
theorem EO(h:dv w b tb a cap tcap s)(ae:dI w a s.p.threads)(T:s.Ok F)(t:Nat)(i:Ins)(J:s.ins t=some i)(hm:s.may t=true)(au:i.kind=1∨i.kind=2∨i.kind=3∨i.kind=4∨i.kind=5∨i.kind=6∨i.kind=7∨i.kind=8):Calls prog 61 #[.pointer (some ⟨b,0,none⟩),.int .i64 t] w fun e w'=>e=.returned (jp (s.step t))/\dv w' b tb a cap tcap (s.step t).2.2/\Only2 b tb w w':=by
 obtain⟨k,av,A⟩:=St.ins_nat J;obtain rfl:t=k:=by omega
 have ai:s.step t=(0,s.ev t i,s.do_ t i):=by
  unfold St.step;rw[if_pos (by unfold St.has;omega),J];simp only[hm];rfl
 have hn:s.next t=some (s.ev t i):=by unfold St.next;rw[J];rfl
 rw[ai,qk];dsimp only;obtain⟨o1,o2,o3,o4,o5,o6⟩:=T.obj J
 have aB:0<=i.x:=by
  have:=(T.ins_right J).1;unfold gy at this
  repeat' split at this
  all_goals first|(simp only[decide_eq_true_eq]at this;omega)|(cases this)
 obtain⟨_,aj,N⟩:=St.ins_has J;simp only[Int.toNat_natCast]at aj N;have h4:=T.len4;have aw:=T.len;have g:(s.th t).r.length=2:=(T.thr _ (St.th_mem A)).1;have u:=T.vl;have l:=T.ml
 obtain⟨f,U⟩:∃f,(s.th t).fuel=f+1:=⟨(s.th t).fuel-1,by omega⟩
 have aC:f<=1000:=by have:=(T.thr _ (St.th_mem A)).2.2;have:=T.f8;omega
 have h8:=T.code8 t A;obtain⟨aa,ak⟩:=List.getElem?_eq_some_iff.1 N
 obtain⟨n,z⟩:∃n,(s.th t).at_=n:=⟨_,rfl⟩
 have af:t<s.p.threads.length:=by omega
 have al:s.code t=s.p.threads[t]:=dV _ af;obtain⟨ab,ao,rfl,hc⟩:=ae.2 (by intro e;simp[e]at af);obtain⟨c,az,c0,c1,_⟩:=hc t af;rw[<-al]at c0 c1;obtain⟨cb,co,rfl,am⟩:=c1.2 (by intro e;simp[e]at aa);obtain⟨i0,i1,i2,i3⟩:=am _ aa;rw[ak]at i0 i1 i2 i3;rw[z]at i0 i1 i2 i3 aa;have p1:=h.prog.2;have q0:decide ((t:Int)<0)=false:=by simp
 have q1:decide ((s.ts.length:Int)<=t)=false:=by simp;omega
 have q2:decide (s.ts.length<=t)=false:=by simp;omega
 obtain⟨aD,aE⟩:=h.lt;have HB:=hid (h.later (da w (.cells #[.int .i64 0,.int .i64 0,.int .i64 0,.bool false] 112)));have ag:=hid (ae.later (da w (.cells #[.int .i64 0,.int .i64 0,.int .i64 0,.bool false] 112)));have OK:=hid T;have HM:=hid hm;obtain⟨Q,r,x,m⟩:=i;dsimp only at *
 obtain⟨r,rfl⟩:∃y:Nat,r=y:=⟨r.toNat,by omega⟩
 obtain⟨x,rfl⟩:∃y:Nat,x=y:=⟨x.toNat,by omega⟩
 have H:r<2:=by omega
 have HO:=hid (And.intro o1 o2)
 have HK:Hid (Q=1∨Q=2∨Q=3∨Q=4∨Q=5∨(Q=6/\s.who x=t)∨(Q=6/\¬s.who x=t)∨(Q=7/\¬(s.th t).r.getD r 0=0)∨(Q=7/\(s.th t).r.getD r 0=0)∨Q=8):=by
  show _∨_
  by_cases h6:s.who x=t <;> by_cases h7:(s.th t).r.getD r 0=0 <;> simp only[h6,h7,not_true,not_false_iff,and_true,and_false,false_or] <;> omega
 clear au o1 o2 o3
 obtain⟨e,he⟩:∃e,e=s.ev t ⟨Q,r,x,m⟩:=⟨_,rfl⟩
 rw[<-he]at hn ⊢;have HE:=hid he;have HN:=hid hn;have L:=hid (And.intro J (And.intro U (And.intro z (And.intro g (And.intro u l)))));have HC:=hid (And.intro c0 (And.intro i0 (And.intro i1 (And.intro i2 i3))));have aF:n<8:=by omega
 have aA:n<(s.code t).length:=by omega
 clear ai h ae T J hn he av hm aj N hc c1 am ak al aw g u l U z o6 c0 i0 i1 i2 i3
 try clear aa
 generalize (s.code t).length=ln at *;go_enter func61,ntmps61;go_wp2_with fail;refine(mp HB.out ag.out OK.out t).mono ?_;rw[HN.out,ll];rintro r9 X⟨rfl,S⟩;have hz:w.heap.size<X.heap.size:=by have:=S.size;simp at this;omega
 have an:Hid (og X w.heap.size):=(S.block _ (by simp)).trans (heap_alloc_new w _);have H1:=hid ((HB.out.later S).later (da X (.cells #[.int .i64 e.thread,.int .i64 e.kind,.int .i64 e.obj,.bool e.fail] 112)));have T1:=hid ((ag.out.later S).later (da X (.cells #[.int .i64 e.thread,.int .i64 e.kind,.int .i64 e.obj,.bool e.fail] 112)));have B1:Hid (Below w.heap.size w X):=(da w _).trans (S.mono (by simp));clear S p1 HB ag;go_wp2_with fail;refine(sN H1.out T1.out OK.out t).mono ?_;rw[HM.out];rintro r9 O⟨rfl,ac⟩;have ah:Hid (O.heap[X.heap.size]?=some (.cells #[.int .i64 e.thread,.int .i64 e.kind,.int .i64 e.obj,.bool e.fail] 112 (0,0))):=(ac.block _ (by simp)).trans (heap_alloc_new X _);have B2:Hid (Below X.heap.size X O):=(da X _).trans (ac.mono (by simp));have ap:Hid (og O w.heap.size):=(B2.out.block _ hz).trans an.out;have H2:=hid (H1.out.later ac);have W2:Hid (Below w.heap.size w O):=B1.out.trans (B2.out.mono (by omega));have ax:X.heap.size<O.heap.size:=(Array.getElem?_eq_some_iff.1 ah.out).1;have ay:w.heap.size<O.heap.size:=by omega
 obtain⟨p0,p1⟩:=H2.out.prog;have ca:=H2.out.at_ t A;rw[L.out.2.2.1]at ca;have d0:=de W2.out HC.out.1;have d1:=de W2.out HC.out.2.1;have d2:=de W2.out HC.out.2.2.1;have d3:=de W2.out HC.out.2.2.2.1;have d4:=de W2.out HC.out.2.2.2.2;have z0:=fs d0;have z1:=fs d1;dsimp only at z0 z1;have aG:tb<O.heap.size:=by omega
 have lb:b<O.heap.size:=by omega
 clear ac H1 T1 B1 B2 an HC;go_wp2
 go_region
 generalize hW:(O.alloc (.cells #[.int .i64 Q,.int .i64 r,.int .i64 x,.int .i64 m] 63)).drew=W at *;have Y:Below O.heap.size O W:=by rw[<-hW];exact((Below.refl _ _).alloc (Nat.le_refl _) _).drew
 have IX:W.heap[O.heap.size]?=some (.cells #[.int .i64 Q,.int .i64 r,.int .i64 x,.int .i64 m] 63 (0,0)):=by rw[<-hW];exact heap_alloc_new O _
 have HW:=hid (H2.out.later Y);have EX:=hid ((Y.block _ ax).trans ah.out);have RX:Hid (og W w.heap.size):=(Y.block _ ay).trans ap.out;have OW:Hid (Only2 b tb w W):=.of_below (W2.out.trans (Y.mono W2.out.size));have cf:=HW.out.fuel t A;rw[L.out.2.1,Int.natCast_add]at cf;have aq:=HW.out.at_ t A;rw[L.out.2.2.1]at aq;have ff:=fun o=>(HW.out.frozen o).2
 have j0:=(zf IX).1;have ar:=hid IX;have nb:b≠tb:=HW.out.2.1;generalize hI:O.heap.size=I at *;generalize hE:X.heap.size=E at *;generalize hR:w.heap.size=R at *;have n1:¬tb=I:=by omega
 have n2:¬I=tb:=by omega
 have n3:¬tb=E:=by omega
 have n4:¬E=tb:=by omega
 have n5:¬tb=R:=by omega
 have n6:¬R=tb:=by omega
 have n7:¬b=I:=by omega
 have n8:¬I=b:=by omega
 have n9:¬b=E:=by omega
 have aH:¬E=b:=by omega
 have aI:¬b=R:=by omega
 have aJ:¬R=b:=by omega
 have aK:¬tb=b:=fun h=>nb h.symm
 have aL:¬b=tb:=nb;have aM:¬R=E:=by omega
 have aN:¬E=R:=by omega
 clear hW Y H2 ah ap W2 d0 d1 d2 d3 d4 ca p0 p1 IX;rcases HK.out with rfl|rfl|rfl|rfl|rfl|⟨rfl,M⟩|⟨rfl,M⟩|⟨rfl,M⟩|⟨rfl,M⟩|rfl
 all_goals go_wp2
 all_goals generalize hV:(W.setCell ⟨tb,t*4+1,none⟩ (.int .i64 f)).setCell ⟨tb,t*4,none⟩ (.int .i64 (n+1))=V at *
 all_goals have P:∀k,k≠tb->V.heap[k]?=W.heap[k]?:=fun k hk=>by rw[<-hV,Below.heap_setCell _ _ _ _ hk,Below.heap_setCell _ _ _ _ hk]
 all_goals have q:Hid (dv V b tb (some ⟨ab,ao,none⟩) cap tcap (s.go t)):=by rw[<-hV];exact HW.out.go t f n A L.out.2.1 L.out.2.2.1
 all_goals have OV:Hid (Only2 b tb w V):=by rw[<-hV];exact(OW.out.setCell (.inr (.inl rfl)) _ _).setCell (.inr (.inl rfl)) _ _
 all_goals obtain⟨aO,aP,aQ,aR⟩:=zf ((P I (fun e=>n2 e)).trans ar.out)
 all_goals obtain⟨x0,x1,x2,x3⟩:=Lv ((P E (fun e=>n4 e)).trans EX.out)
 all_goals obtain⟨e0,e1,e2,e3,ef⟩:=og.cells ((P R (fun e=>n6 e)).trans RX.out)
 all_goals have f0:=ef 0
 all_goals have f1:=ef 1
 all_goals have f2:=ef 2
 all_goals have f3:=ef 3
 all_goals have C:t<(s.go t).ts.length:=by rw[St.go,St.put_len];exact A
 all_goals clear hV P j0 cf aq ff ef ar EX RX HW OW
 ·have ad:x<4:=by have:=HO.out.1 (by simp);omega
  have cv:=q.out.var x ad;have B:=zI s t r x m A;generalize (s.go t).v.getD x 0=vv at *;have D:=hid B;clear B;have cr:=q.out.reg t C r H;have ff:=(q.out.frozen (t*4+2+r)).2
  go_region
  go_wp2;refine bodyPost_ret (v:=.tuple #[.agg #[.int .i64 e.thread,.int .i64 e.kind,.int .i64 e.obj,.bool e.fail],.int .i64 0]) (by simp[results,results61,go_sem,e0,e1,e2,e3]) rfl ⟨rfl,?_,?_⟩
  ·obtain⟨J,U,z,g,u,l⟩:=L.out
   have G:=q.out;have j:=G.setReg t r vv C H (by rw[St.go_th _ _ A];exact g);rw[D.out]at j;exact(j.other4 (by omega) (by omega) _ _ _ _).drewN 1
  ·exact((OV.out.setCell (.inr (.inl rfl)) _ _).set4 (le_of_eq hR) _ _ _ _).drew
 ·have ad:x<4:=by have:=HO.out.1 (by simp);omega
  have cv:=q.out.var x ad;have fv:=(q.out.frozen (4+x)).1;have B:=zF s t r x m A;have cr:=q.out.reg t C r H;generalize ((s.go t).th t).r.getD r 0=vv at *;have D:=hid B;clear B
  go_region
  go_wp2;refine bodyPost_ret (v:=.tuple #[.agg #[.int .i64 e.thread,.int .i64 e.kind,.int .i64 e.obj,.bool e.fail],.int .i64 0]) (by simp[results,results61,go_sem,e0,e1,e2,e3]) rfl ⟨rfl,?_,?_⟩
  ·obtain⟨J,U,z,g,u,l⟩:=L.out
   have G:=q.out;have j:=G.setVar x vv ad u;rw[D.out]at j;exact(j.other4 (by omega) (by omega) _ _ _ _).drewN 1
  ·exact((OV.out.setCell (.inl rfl) _ _).set4 (le_of_eq hR) _ _ _ _).drew
 ·have D:=hid (zG s t r x m A)
  have cr:=q.out.reg t C r H;have ff:=(q.out.frozen (t*4+2+r)).2
  go_region
  go_wp2;refine bodyPost_ret (v:=.tuple #[.agg #[.int .i64 e.thread,.int .i64 e.kind,.int .i64 e.obj,.bool e.fail],.int .i64 0]) (by simp[results,results61,go_sem,e0,e1,e2,e3]) rfl ⟨rfl,?_,?_⟩
  ·obtain⟨J,U,z,g,u,l⟩:=L.out
   have G:=q.out;have j:=G.setReg t r m C H (by rw[St.go_th _ _ A];exact g);rw[D.out]at j;exact(j.other4 (by omega) (by omega) _ _ _ _).drewN 1
  ·exact((OV.out.setCell (.inr (.inl rfl)) _ _).set4 (le_of_eq hR) _ _ _ _).drew
 ·have B:=zK s t r x m A
  have cr:=q.out.reg t C r H;have ff:=(q.out.frozen (t*4+2+r)).2;generalize ((s.go t).th t).r.getD r 0=vv at *;have ew:wrap64 (vv+m)=IntKind.i64.wrap (vv+m):=by rw[IntKind.wrap_i64];unfold wrap64;first|rfl|omega
  rw[<-ew]at B;have D:=hid B;clear B ew
  go_region
  go_wp2;refine bodyPost_ret (v:=.tuple #[.agg #[.int .i64 e.thread,.int .i64 e.kind,.int .i64 e.obj,.bool e.fail],.int .i64 0]) (by simp[results,results61,go_sem,e0,e1,e2,e3]) rfl ⟨rfl,?_,?_⟩
  ·obtain⟨J,U,z,g,u,l⟩:=L.out
   have G:=q.out;have j:=G.setReg t r (wrap64 (vv+m)) C H (by rw[St.go_th _ _ A];exact g);rw[D.out]at j;exact(j.other4 (by omega) (by omega) _ _ _ _).drewN 1
  ·exact((OV.out.setCell (.inr (.inl rfl)) _ _).set4 (le_of_eq hR) _ _ _ _).drew
 ·have Z:x<2:=by have:=HO.out.2 (by simp);omega
  have d:e.kind=4:=by rw[HE.out];rfl
  have q4:(e.kind==4)=true:=by simp[d]
  have q5:(e.kind==5)=false:=by simp[d]
  clear d;have cw:=q.out.who x Z;have fw:=(q.out.frozen (8+x)).1;have D:=hid (zH s t r x m A)
  go_quiet (fail)
  go_wp2
  go_region
  go_wp2;refine bodyPost_ret (v:=.tuple #[.agg #[.int .i64 e.thread,.int .i64 e.kind,.int .i64 e.obj,.bool e.fail],.int .i64 0]) (by simp[results,results61,go_sem,e0,e1,e2,e3]) rfl ⟨rfl,?_,?_⟩
  ·obtain⟨J,U,z,g,u,l⟩:=L.out
   have G:=q.out;have j:=(G.drewN (nq+1)).setWho x t Z l;rw[D.out]at j;exact j.other4 (by omega) (by omega) _ _ _ _
  ·exact((OV.out.drewN).setCell (.inl rfl) _ _).set4 (le_of_eq hR) _ _ _ _
 ·have Z:x<2:=by have:=HO.out.2 (by simp);omega
  have d:e.kind=5:=by rw[HE.out];unfold St.ev;dsimp only;rw[if_neg (by omega),if_neg (by omega),if_neg (by omega),if_pos rfl,if_pos M]
  have q4:(e.kind==4)=false:=by simp[d]
  have q5:(e.kind==5)=true:=by simp[d]
  clear d;have cw:=q.out.who x Z;have fw:=(q.out.frozen (8+x)).1;have B:=um s t r x m A;rw[if_pos (show(s.go t).who x=t from M)]at B;have D:=hid B;clear B M
  go_quiet (fail)
  go_wp2
  go_region
  go_wp2;refine bodyPost_ret (v:=.tuple #[.agg #[.int .i64 e.thread,.int .i64 e.kind,.int .i64 e.obj,.bool e.fail],.int .i64 0]) (by simp[results,results61,go_sem,e0,e1,e2,e3]) rfl ⟨rfl,?_,?_⟩
  ·obtain⟨J,U,z,g,u,l⟩:=L.out
   have G:=q.out;have j:=(G.drewN (nq+1)).setWho x (-1) Z l;rw[D.out]at j;exact j.other4 (by omega) (by omega) _ _ _ _
  ·exact((OV.out.drewN).setCell (.inl rfl) _ _).set4 (le_of_eq hR) _ _ _ _
 ·have d:e.kind=1:=by rw[HE.out];unfold St.ev;dsimp only;rw[if_neg (by omega),if_neg (by omega),if_neg (by omega),if_pos rfl,if_neg M]
  have q4:(e.kind==4)=false:=by simp[d]
  have q5:(e.kind==5)=false:=by simp[d]
  clear d;have B:=um s t r x m A;rw[if_neg (show ¬(s.go t).who x=t from M)]at B;have D:=hid B;clear B M
  go_quiet (fail)
  go_wp2;refine bodyPost_ret (v:=.tuple #[.agg #[.int .i64 e.thread,.int .i64 e.kind,.int .i64 e.obj,.bool e.fail],.int .i64 0]) (by simp[results,results61,go_sem,e0,e1,e2,e3]) rfl ⟨rfl,?_,?_⟩
  ·obtain⟨J,U,z,g,u,l⟩:=L.out
   have G:=q.out;have j:=G.drewN nq;rw[D.out]at j;exact j.other4 (by omega) (by omega) _ _ _ _
  ·exact(OV.out.drewN).set4 (le_of_eq hR) _ _ _ _
 ·have B:=un s t r x m A
  rw[St.go_th s t A,if_neg (show ¬(s.th t).r.getD r 0=0 from M)]at B;have cr:=q.out.reg t C r H;have ca:=q.out.at_ t C;have fa:=(q.out.frozen (t*4)).2;have q7:(((s.go t).th t).r.getD r 0 != 0)=true:=by rw[St.go_th s t A];simpa using M
  generalize ((s.go t).th t).r.getD r 0=vv at *;have D:=hid B;clear B M
  go_quiet (fail)
  go_wp2;refine bodyPost_ret (v:=.tuple #[.agg #[.int .i64 e.thread,.int .i64 e.kind,.int .i64 e.obj,.bool e.fail],.int .i64 0]) (by simp[results,results61,go_sem,e0,e1,e2,e3]) rfl ⟨rfl,?_,?_⟩
  ·obtain⟨J,U,z,g,u,l⟩:=L.out
   have G:=q.out;have j:=(G.drewN nq).setAt t x C;rw[St.go_th s t A,D.out]at j;exact j.other4 (by omega) (by omega) _ _ _ _
  ·exact((OV.out.drewN).setCell (.inr (.inl rfl)) _ _).set4 (le_of_eq hR) _ _ _ _
 ·have d:e.kind=1:=by rw[HE.out];rfl
  have q4:(e.kind==4)=false:=by simp[d]
  have q5:(e.kind==5)=false:=by simp[d]
  clear d;have B:=un s t r x m A;rw[St.go_th s t A,if_pos (show(s.th t).r.getD r 0=0 from M)]at B;have cr:=q.out.reg t C r H;have q7:(((s.go t).th t).r.getD r 0 != 0)=false:=by rw[St.go_th s t A];simpa using M
  generalize ((s.go t).th t).r.getD r 0=vv at *;have D:=hid B;clear B M
  go_quiet (fail)
  go_wp2;refine bodyPost_ret (v:=.tuple #[.agg #[.int .i64 e.thread,.int .i64 e.kind,.int .i64 e.obj,.bool e.fail],.int .i64 0]) (by simp[results,results61,go_sem,e0,e1,e2,e3]) rfl ⟨rfl,?_,?_⟩
  ·obtain⟨J,U,z,g,u,l⟩:=L.out
   have G:=q.out;have j:=G.drewN nq;rw[D.out]at j;exact j.other4 (by omega) (by omega) _ _ _ _
  ·exact(OV.out.drewN).set4 (le_of_eq hR) _ _ _ _
 ·have d:e.kind=1:=by rw[HE.out];rfl
  have q4:(e.kind==4)=false:=by simp[d]
  have q5:(e.kind==5)=false:=by simp[d]
  clear d;have D:=hid (zJ s t r x m A)
  go_quiet (fail)
  go_wp2;refine bodyPost_ret (v:=.tuple #[.agg #[.int .i64 e.thread,.int .i64 e.kind,.int .i64 e.obj,.bool e.fail],.int .i64 0]) (by simp[results,results61,go_sem,e0,e1,e2,e3]) rfl ⟨rfl,?_,?_⟩
  ·obtain⟨J,U,z,g,u,l⟩:=L.out
   have G:=q.out;have j:=G.drewN nq;rw[D.out]at j;exact j.other4 (by omega) (by omega) _ _ _ _
  ·exact(OV.out.drewN).set4 (le_of_eq hR) _ _ _ _
end
end
section
open Go.Proofs.Tryz Go.RowKit
theorem EP{F:Nat}{w:World}{b j:Nat}{a:Option Addr}{cap c:Nat}{s:St}(h:dv w b j a cap c s)(d:dI w a s.p.threads)(g:s.Ok F)(t:Int):
  Calls prog 61 #[.pointer (some ⟨b,0,none⟩),.int .i64 t] w fun e l=>e=.returned (jp (s.step t))/\dv l b j a cap c (s.step t).2.2/\Only2 b j w l:=by
 cases hb:eK t s.ts.length
 ·exact EM h t hb
 ·have o:0<=t/\t<s.ts.length:=by simpa [eK]using hb
  cases f:s.ins t with
  |none=>
   obtain⟨k,rfl⟩:∃k:Nat,t=k:=⟨t.toNat,by omega⟩
   exact EN h d g k (by omega) f
  |some i=>
   obtain⟨k,rfl,_⟩:=St.ins_nat f
   cases m:s.may k
   ·exact EL h d g k i f m
   ·have n:i.kind=1∨i.kind=2∨i.kind=3∨i.kind=4∨i.kind=5∨i.kind=6∨i.kind=7∨i.kind=8:=by
     have:=(g.ins_right f).1;unfold gy at this
     repeat' split at this
     all_goals first|omega|(cases this)
    exact EO h d g k i f m n
end
section
open Go.RowKit
def iH(l:List Ev)(i:Nat):Nat:=dN (dU (l.take i)) (dd l i)
theorem yD(l:List Ev){k:Nat}(a:k<l.length):dU (l.take (k+1))=eZ (dU (l.take k)) (dd l k):=by
 rw[<-qQ,gt a,List.take_add_one,List.getElem?_eq_getElem a];rfl
theorem tF(l:List Ev):∀k,k<=l.length->∀j x,x∈(dU (l.take k)).getD j []↔∃i,i<k/\dd l i=x/\iH l i=j
 |0,_,j,x=>by
  have:dU (l.take 0)=[]:=by rw[List.take_zero];rfl
  rw[this];simp[List.getD]
 |k+1,f,j,x=>by
  have d:=tF l k (by omega) j x;rw[yD l (by omega),mU]
  by_cases h:j=dN (dU (l.take k)) (dd l k)
  ·rw[if_pos h,lQ,d]
   constructor
   ·rintro (rfl|⟨i,c,a,b⟩)
    ·exact⟨k,by omega,rfl,h.symm⟩
    ·exact⟨i,by omega,a,b⟩
   ·rintro⟨i,c,a,b⟩
    by_cases e:i=k
    ·subst e;exact .inl a.symm
    ·exact .inr ⟨i,by omega,a,b⟩
  ·rw[if_neg h,d]
   constructor
   ·rintro⟨i,c,a,b⟩
    exact⟨i,by omega,a,b⟩
   ·rintro⟨i,c,a,b⟩
    refine⟨i,?_,a,b⟩
    by_cases e:i=k
    ·subst e;exact absurd b.symm h
    ·omega
def ja(l:List Ev)(e:Ev)(k:Nat):Nat:=top (fun i=>iH l i+1) (fun i=>dj (dd l i) e) k
theorem Io(l:List Ev)(e:Ev)(k:Nat):ja l e (k+1)=if dj (dd l k) e then max (ja l e k) (iH l k+1)else ja l e k:=by
 unfold ja;rw[oz]
theorem Ip(l:List Ev)(e:Ev){k:Nat}(d:k<=l.length):ja l e k=dN (dU (l.take k)) e:=by
 apply Nat.le_antisymm
 ·refine nh fun i a b=>?_
  have g:dd l i∈(dU (l.take k)).getD (iH l i) []:=(tF l k d _ _).2 ⟨i,a,rfl,rfl⟩
  have c:iH l i<(dU (l.take k)).length:=by
   apply Classical.byContradiction;intro m;simp[List.getD,List.getElem?_eq_none (Nat.le_of_not_lt m)]at g
  exact yH c ⟨_,g,b⟩
 ·cases h:dN (dU (l.take k)) e with
  |zero=>exact Nat.zero_le _
  |succ j=>
   obtain⟨x,hx,b⟩:=yF h;obtain⟨i,a,n,o⟩:=(tF l k d j x).1 hx;have:=ni (f:=fun i=>iH l i+1) (q:=fun i=>dj (dd l i) e) a (by show dj (dd l i) e=true;rw[n];exact b);unfold ja;simp only[o]at this;omega
theorem Ba(l:List Ev){i:Nat}(b:i<l.length):iH l i<=i:=by
 have c:=lR (dU (l.take i)) (dd l i);have a:=oZ (l.take i);rw[List.length_take]at a;unfold iH;omega
end
end Go.Proofs.YtjfmmnhcddckaaaGreat
