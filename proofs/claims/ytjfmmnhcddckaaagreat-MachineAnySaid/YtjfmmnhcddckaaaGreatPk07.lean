import Derived.Laws.CopyRow
import Derived.Laws.CopyOwn
import Derived.Laws.Externs
import Derived.Lib.Overlaps
import Derived.Lib.AppendZeros
import Derived.Lib.AppendZerosOnto
import Derived.Shelf.Spec.SlicesInsert
import Derived.Shelf.Spec.SlicesInsertGrow
import Derived.Deep.RegionHeld3
import Derived.Deep.DeepCutAuto
import Derived.Laws.OwnMore
import Derived.RangeFuncNested
import Derived.RangeFuncBound
import Derived.RangeFuncCalls
import Derived.RangeFuncLeaves
import Derived.RangeFuncBox
import Derived.Shelf.Abstract
import Derived.Shelf.RegionOpen
import Derived.WalkKit
import Derived.OwnWalkIn
import Derived.TacticsInMore
import Derived.LoopNIn
import Derived.LoopIn
import Derived.Sort.QuietIn
import Derived.Test.YtjfmmnhcddckaaaGreatPk01
import Derived.Test.YtjfmmnhcddckaaaGreatPk03
import Derived.Test.YtjfmmnhcddckaaaGreatPk03b
import Derived.Test.YtjfmmnhcddckaaaGreatPk04
import Derived.Test.YtjfmmnhcddckaaaGreatPk06
set_option maxRecDepth 100000
set_option maxHeartbeats 4000000
namespace Go.Proofs.YtjfmmnhcddckaaaGreat
open Go.RowKit
def putAt(cur:Array Value)(o:Nat)(cs:List Value):Array Value:=(cur.toList.take o++cs++cur.toList.drop (o+cs.length)).toArray
theorem Zc2{cur:Array Value}{o:Nat}{cs:List Value}(h:o+cs.length<=cur.size):(putAt cur o cs).size=cur.size:=by
 simp[putAt]
 omega
theorem Zda{P:Program}(w:World)(dT sT ty elem:TypeId)(k g o nd dCap:Nat)(ad:Addr)(ns sCap:Nat)(cur:Array Value)(t:TypeId)(cs:List Value)
  (hu:P.underlying dT=some (.slice elem)) (hs:(P.info? elem).map (·.size)=some k)
  (hg:w.heap[g]?=some (.cells cur t (0,0))) (hcs:cs.length=Nat.min ns nd*k) (hfit:o+cs.length<=cur.size)
  (hsrc:∀j v,cs[j]?=some v->w.cell? (ad.add j)=some v) (h1:∀v∈cs,v.oneCell'=true):
  (Builtin.copy_ #[dT,sT] ty #[.slice (some ⟨g,o,none⟩) nd dCap,.slice (some ad) ns sCap]).run P w=.ok (goInt (Nat.min ns nd)) (w.setRow g (putAt cur o cs)):=by
 cases hq:P.info? elem with
 |none=>simp[hq]at hs
 |some i=>
  have hi:i.size=k:=by simpa [hq]using hs
  have hl:=run_loadCells_list (P:=P) w ad cs hsrc
  have hst:=run_storeCells_at P g o t cs 0 cur w hg (by omega) h1
  rw[Nat.add_zero]at hst
  simp[Builtin.copy_,run_underlying hu,Builtin.lenOf,Builtin.firstCells,sizeOf,typeInfo,hq,hi,<-hcs,hl,hst,putAt]
theorem ZgZ:(Tryz.prog.info? 112).map (·.size)=some 4:=by kernel_rfl
theorem ev_sizeOf(w:World):(Go.sizeOf 112).run Tryz.prog w=.ok 4 w:=by
 obtain⟨i,hi,h4⟩:=Option.map_eq_some_iff.1 ZgZ
 simp[sizeOf,typeInfo,hi,h4]
theorem infoEv:(Tryz.prog.info? 112).map (fun i=>(i.zero,i.size,i.bytes))=some (some (.agg #[.int .i64 0,.int .i64 0,.int .i64 0,.bool false]),4,32):=by kernel_rfl
theorem Zbb(x:Ev):(ZaL x).length=4:=rfl
theorem Zea(x:Ev):∀v∈ZaL x,v.oneCell'=true:=by
 intro v hv
 simp[ZaL]at hv
 rcases hv with rfl|rfl|rfl|rfl <;> rfl
theorem ZfM(l:List Ev)(n:Nat):Zah (l.take n)=(Zah l).take (n*4):=by
 by_cases h:n<=l.length
 ·have e:Zah l=Zah (l.take n)++Zah (l.drop n):=by rw[<-ZaO,List.take_append_drop]
  rw[e,List.take_left' (by rw[Zas,List.length_take];omega)]
 ·rw[List.take_of_length_le (l:=l) (by omega),List.take_of_length_le (by rw[Zas];omega)]
theorem ZfN(l:List Ev)(n:Nat):Zah (l.drop n)=(Zah l).drop (n*4):=by
 by_cases h:n<=l.length
 ·have e:Zah l=Zah (l.take n)++Zah (l.drop n):=by rw[<-ZaO,List.take_append_drop]
  rw[e,List.drop_left' (by rw[Zas,List.length_take];omega)]
 ·have e:l.drop n=[]:=List.drop_eq_nil_of_le (by omega)
  rw[e,List.drop_eq_nil_of_le (by rw[Zas];omega)]
  rfl
theorem put_twice(X Y Z E:List Value)(p n:Nat)(hX:X.length=p+E.length)(hn:n=p+E.length+Y.length):
  ((X++(Y++Z)).take p++E++(X++(Y++Z)).drop (p+E.length)).take n=X.take p++(E++Y):=by
 have a1:(X++(Y++Z)).take p=X.take p:=List.take_append_of_le_length (by omega)
 have a2:(X++(Y++Z)).drop (p+E.length)=Y++Z:=List.drop_left' hX
 rw[a1,a2]
 have e:X.take p++E++(Y++Z)=(X.take p++(E++Y))++Z:=by simp
 rw[e,List.take_left']
 simp only[List.length_append,List.length_take]
 omega
theorem shifted{cur:Array Value}{es:List Ev}{e:Ev}{i c:Nat}(hi:i<=es.length)(hc:cur.size=c*4)(hroom:es.length+1<=c)(ht:cur.toList.take (es.length*4)=Zah es):
  (putAt (putAt cur ((i+1)*4) (Zah (es.drop i))) (i*4) (ZaL e)).toList.take ((es.length+1)*4)=Zah (es.take i++e::es.drop i):=by
 have hsz:cur.toList.length=c*4:=by simpa using hc
 have hl2:(Zah (es.drop i)).length=(es.length-i)*4:=by rw[Zas,List.length_drop]
 have h:=put_twice (cur.toList.take ((i+1)*4)) (Zah (es.drop i)) (cur.toList.drop ((i+1)*4+(Zah (es.drop i)).length)) (ZaL e) (i*4) ((es.length+1)*4)
  (by rw[List.length_take,hsz,Zbb];omega) (by rw[hl2,Zbb];omega)
 have e1:(cur.toList.take ((i+1)*4)).take (i*4)=Zah (es.take i):=by
  rw[ZfM,<-ht,List.take_take,List.take_take,Nat.min_eq_left (by omega),Nat.min_eq_left (by omega)]
 rw[e1]at h
 rw[ZaO,show Zah (e::es.drop i)=ZaL e++Zah (es.drop i)from rfl,<-h]
 simp[putAt]
theorem Zlu(w:World)(vb b o la ca lb cb:Nat)(hne:vb≠b)(x y:Array Value)(ta tb:TypeId)(ha:w.heap[vb]?=some (.cells x ta (0,0)))(hb:w.heap[b]?=some (.cells y tb (0,0)))(hy:y.size≠0):
  (callFunc 216 #[.slice (some ⟨vb,0,none⟩) la ca,.slice (some ⟨b,o,none⟩) lb cb]).run Tryz.prog w=.ok (.value (.bool false)) w:=by
 rw[run_callFunc_extern Tryz.func216 (by kernel_rfl) (by kernel_rfl) (by kernel_rfl) (e:=Extern.SlicesOverlaps.overlaps #[95,95] #[4]) (by kernel_rfl),
  Lib.run_overlaps_apart w 95 4 112 Tryz.underlying95 4 ev_sizeOf ⟨vb,0,none⟩ ⟨b,o,none⟩ la ca lb cb hne ta tb x.size y.size (by simp[World.shape?,ha]) (by simp[World.shape?,hb]) hy (by simp[World.frozen?,ha]) (by simp[World.frozen?,ha])]
 rfl
theorem Zkx(b n c i vb:Nat)(es:List Ev)(e:Ev)(w:World)(cur x:Array Value)(tx:TypeId)(hn:n=es.length)(hi:i<n)(hroom:n+1<=c)(hc:c<=maxLen)(hvb:vb≠b)
  (hg:w.heap[b]?=some (.cells cur 112 (0,0))) (hcur:cur.size=c*4) (ht:cur.toList.take (n*4)=Zah es) (hx:w.heap[vb]?=some (.cells x tx (0,0))) (hxe:∀(j:Nat) (v:Value),(ZaL e)[j]?=some v->x[j]?=some v):
  Calls Tryz.prog 193 #[.slice (some ⟨b,0,none⟩) n c,.int .i64 i,.slice (some ⟨vb,0,none⟩) 1 1] w fun r w'=>
   r=.returned (.slice (some ⟨b,0,none⟩) (n+1) c)/\w'=(w.drew.setRow b (putAt cur ((i+1)*4) (Zah (es.drop i)))).setRow b (putAt (putAt cur ((i+1)*4) (Zah (es.drop i))) (i*4) (ZaL e)):=by
 have hz2:¬((i:Int)=(n:Int)):=by omega
 unfold maxLen at hc
 have hov:∀o lb cb,(callFunc 216 #[.slice (some ⟨vb,0,none⟩) 1 1,.slice (some ⟨b,o,none⟩) lb cb]).run Tryz.prog w=.ok (.value (.bool false)) w:=fun o lb cb=>Zlu w vb b o 1 1 lb cb hvb x cur tx _ hx hg (by omega)
 have hdl:(Zah (es.drop i)).length=(n-i)*4:=by rw[Zas,List.length_drop,hn]
 have hw1:IntKind.i64.wrap ((i:Int)+1)=(i:Int)+1:=by rw[IntKind.wrap_i64];omega
 have hw2:IntKind.i64.wrap ((n:Int)+1)=(n:Int)+1:=by rw[IntKind.wrap_i64];omega
 have hb1:(0:Int)<=(i:Int)+1:=by omega
 have hin:i<=n:=by omega
 have hb2:¬(c=i+1):=by omega
 have hb3:(i:Int)<=(n:Int)+1:=by omega
 have hb4:¬(c=i):=by omega
 have htn:((i:Int)+1).toNat=i+1:=by omega
 have hcell:∀j v,(Zah es)[j]?=some v->w.cell? ⟨b,j,none⟩=some v:=fun j v hj=>by
  have hjl:j<n*4:=by have:=(List.getElem?_eq_some_iff.1 hj).1;rw[Zas]at this;omega
  rw[<-ht,List.getElem?_take_of_lt hjl]at hj
  simp[World.cell?,hg]
  simpa using hj
 have hcp1:∀ty dc sc,(Builtin.copy_ #[95,95] ty #[.slice (some ⟨b,(i+1)*4,none⟩) (n-i) dc,.slice (some ⟨b,i*4,none⟩) (n+1-i) sc]).run Tryz.prog w.drew=.ok (goInt (Nat.min (n+1-i) (n-i))) (w.drew.setRow b (putAt cur ((i+1)*4) (Zah (es.drop i)))):=fun ty dc sc=>
  Zda w.drew _ _ ty 112 4 b ((i+1)*4) (n-i) dc ⟨b,i*4,none⟩ (n+1-i) sc cur _ (Zah (es.drop i)) Tryz.underlying95 ZgZ hg (by rw[hdl];simp only[Nat.min_def];split <;> omega) (by rw[hdl];omega)
   (fun j v hj=>by rw[ZcF];exact hcell _ v (by rw[ZfN,List.getElem?_drop]at hj;exact hj)) (fun v hv=>ZcB _ v hv)
 obtain⟨C1,hC1⟩:∃C1,C1=putAt cur ((i+1)*4) (Zah (es.drop i)):=⟨_,rfl⟩
 have hC1s:C1.size=c*4:=by rw[hC1,Zc2 (by rw[hdl];omega),hcur]
 rw[<-hC1]at hcp1 ⊢
 obtain⟨W1,hW1⟩:∃W1,W1=w.drew.setRow b C1:=⟨_,rfl⟩
 have hg1:W1.heap[b]?=some (.cells C1 112 (0,0)):=by rw[hW1];exact setRow_heap _ _ _ _ _ _ hg
 have hv1:W1.heap[vb]?=some (.cells x tx (0,0)):=by rw[hW1,setRow_other _ _ _ _ hvb];exact hx
 have hcp2:∀ty dc,(Builtin.copy_ #[95,95] ty #[.slice (some ⟨b,i*4,none⟩) (n+1-i) dc,.slice (some ⟨vb,0,none⟩) 1 1]).run Tryz.prog W1=.ok (goInt (Nat.min 1 (n+1-i))) (W1.setRow b (putAt C1 (i*4) (ZaL e))):=fun ty dc=>
  Zda W1 _ _ ty 112 4 b (i*4) (n+1-i) dc ⟨vb,0,none⟩ 1 1 C1 _ (ZaL e) Tryz.underlying95 ZgZ hg1 (by rw[Zbb];simp only[Nat.min_def];split <;> omega) (by rw[Zbb];omega)
   (fun j v hj=>by rw[ZcF,Nat.zero_add];simp[World.cell?,hv1];exact hxe j v hj) (fun v hv=>Zea e v hv)
 rw[<-hW1]at hcp1 ⊢
 clear hC1 hW1 hn hg hx hg1 hv1 hcell hdl
 go_enter Tryz.func193,Tryz.ntmps193
 go_wp2_with (simp only[hov])
 go_region_law (refine step_copy_runI rfl _ _ 95 95 rfl _ _ (by simp[Act.eval,Act.put]) (by simp[Act.eval,Act.put]) (hcp1 _ _ _) ?_)
 go_wp2_with (at_builtin;refine wpList_copy_runI _ rfl _ _ 95 95 rfl _ _ rfl rfl (hcp2 _ _) ?_)
 go_ret
 exact⟨rfl,rfl⟩
def GrowR(w:World)(n:Nat)(es':List Ev)(r:Ending)(w':World):Prop:=
 ∃G C,r=.returned (.slice (some ⟨w.heap.size,0,none⟩) (n+1) G)/\n+1<=G/\G<=maxLen/\w'.os=w.os/\w'.tape=w.tape/\w'.output=w.output/\w'.heap=(w.alloc (.cells C 112)).heap/\C.size=G*4/\C.toList.take ((n+1)*4)=Zah es'
theorem ZlP(b n c i vb:Nat)(es:List Ev)(e:Ev)(w:World)(cur x:Array Value)(tx:TypeId)(hn:n=es.length)(hi:i<n)(hroom:c<n+1)(hnc:n<=c)(hc:n<=1000000)
  (hg:w.heap[b]?=some (.cells cur 112 (0,0))) (ht:cur.toList.take (n*4)=Zah es) (hx:w.heap[vb]?=some (.cells x tx (0,0))) (hxe:∀(j:Nat) (v:Value),(ZaL e)[j]?=some v->x[j]?=some v):
  Calls Tryz.prog 193 #[.slice (some ⟨b,0,none⟩) n c,.int .i64 i,.slice (some ⟨vb,0,none⟩) 1 1] w (GrowR w n (es.take i++e::es.drop i)):=by
 obtain⟨i0,hi0,hzz⟩:=Option.map_eq_some_iff.1 infoEv
 simp only[Prod.mk.injEq]at hzz
 obtain⟨hz0,hzs,hzb⟩:=hzz
 have hz2:¬((i:Int)=(n:Int)):=by omega
 have hz3:(c:Int)<(n:Int)+1:=by omega
 have hdl:(Zah (es.drop i)).length=(n-i)*4:=by rw[Zas,List.length_drop,hn]
 have hcell:∀j v,(Zah es)[j]?=some v->w.cell? ⟨b,j,none⟩=some v:=fun j v hj=>by
  have hjl:j<n*4:=by have:=(List.getElem?_eq_some_iff.1 hj).1;rw[Zas]at this;omega
  rw[<-ht,List.getElem?_take_of_lt hjl]at hj
  simp[World.cell?,hg]
  simpa using hj
 have hbw:b<w.heap.size:=(Array.getElem?_eq_some_iff.1 hg).1
 have hvw:vb<w.heap.size:=(Array.getElem?_eq_some_iff.1 hx).1
 have hkk:(n:Int)+1-(i:Int)=((n+1-i:Nat):Int):=by omega
 have hik:i+(n+1-i)=n+1:=by omega
 have htk:(Zah (es.take i)).length=i*4:=by rw[Zas,List.length_take];omega
 have hold:(Builtin.firstCells i0.size i (.slice (some ⟨b,0,none⟩) i c)).run Tryz.prog w.drew=.ok (Zah (es.take i)).toArray w.drew:=by
  rw[hzs]
  exact run_firstCells_some w.drew 4 i ⟨b,0,none⟩ i c (Zah (es.take i)) htk (fun j v hj=>by
   rw[ZcF,Nat.zero_add]
   rw[ZfM,List.getElem?_take]at hj
   split at hj
   ·exact hcell j v hj
   ·cases hj)
 obtain⟨G,hG⟩:∃G,G=grownCap w (n+1) c 112:=⟨_,rfl⟩
 have hGn:n+1<=G:=by rw[hG];exact grownCap_ge w _ _ _
 have hGm:G<=maxLen:=by rw[hG];exact grownCap_le_maxLen w (n+1) c 112 (by unfold maxLen;omega)
 have hGm2:G<=9223372036854775807:=by unfold maxLen at hGm;omega
 obtain⟨ROW,hROW⟩:∃ROW:Array Value,ROW=(Zah (es.take i)).toArray++Builtin.zeroCells (Value.agg #[.int .i64 0,.int .i64 0,.int .i64 0,.bool false]).cells (n+1-i)++Builtin.zeroCells (Value.agg #[.int .i64 0,.int .i64 0,.int .i64 0,.bool false]).cells (G-(n+1)):=⟨_,rfl⟩
 have hrz:∀ty,(Builtin.append_ #[95,3] ty #[.slice (some ⟨b,0,none⟩) i c,.int .i64 ((n:Int)+1-(i:Int))]).run Tryz.prog w =
   .ok (.slice (some ⟨w.heap.size,0,none⟩) (n+1) G) (w.drew.alloc (.cells ROW 112)):=fun ty=>by
  have h:=Lib.run_append_grow_zeros w 95 3 ty 112 i0 _ .i64 .i64 Tryz.underlying95 Tryz.underlying3 hi0 hz0 (some ⟨b,0,none⟩) i c (Zah (es.take i)) hold (n+1-i) (by omega) (by omega) (by omega) (by omega) (by rw[hzb];omega) (by rw[hzb,hik];exact growslice_fits hroom (by omega))
  rw[hik,<-hG,<-hROW]at h
  rw[hkk]
  exact h
 have hRs:ROW.size=G*4:=by
  rw[hROW]
  simp[Builtin.zeroCells,Value.cells,htk]
  omega
 have hRt:ROW.toList.take (i*4)=Zah (es.take i):=by
  rw[hROW]
  simp only[Array.toList_append,List.append_assoc]
  rw[List.take_left' htk]
 obtain⟨W1,hW1⟩:∃W1,W1=w.drew.alloc (.cells ROW 112):=⟨_,rfl⟩
 rw[<-hW1]at hrz
 have hgN:W1.heap[w.heap.size]?=some (.cells ROW 112 (0,0)):=by rw[hW1];exact heap_alloc_new w.drew _
 have hOld:∀k,k<w.heap.size->W1.heap[k]?=w.heap[k]?:=fun k hk=>by rw[hW1];exact heap_alloc_old w.drew _ hk
 obtain⟨C1,hC1⟩:∃C1,C1=putAt ROW (i*4) (ZaL e):=⟨_,rfl⟩
 have hC1s:C1.size=G*4:=by rw[hC1,Zc2 (by rw[Zbb];omega),hRs]
 have hcpA:∀(W:World),W.heap=W1.heap->∀ty dc,(Builtin.copy_ #[95,95] ty #[.slice (some ⟨w.heap.size,i*4,none⟩) (n+1-i) dc,.slice (some ⟨vb,0,none⟩) 1 1]).run Tryz.prog W=.ok (goInt (Nat.min 1 (n+1-i))) (W.setRow w.heap.size C1):=fun W hW ty dc=>by
  rw[hC1]
  exact Zda W _ _ ty 112 4 w.heap.size (i*4) (n+1-i) dc ⟨vb,0,none⟩ 1 1 ROW _ (ZaL e) Tryz.underlying95 ZgZ (by rw[hW];exact hgN) (by rw[Zbb];simp only[Nat.min_def];split <;> omega) (by rw[Zbb];omega)
   (fun j v hj=>by rw[ZcF,Nat.zero_add];simp[World.cell?,hW,hOld vb hvw,hx];exact hxe j v hj) (fun v hv=>Zea e v hv)
 obtain⟨C2,hC2⟩:∃C2,C2=putAt C1 ((i+1)*4) (Zah (es.drop i)):=⟨_,rfl⟩
 have hC2s:C2.size=G*4:=by rw[hC2,Zc2 (by rw[hdl];omega),hC1s]
 obtain⟨W2,hW2⟩:∃W2,W2=W1.setRow w.heap.size C1:=⟨_,rfl⟩
 have hg2:W2.heap[w.heap.size]?=some (.cells C1 112 (0,0)):=by rw[hW2];exact setRow_heap _ _ _ _ _ _ hgN
 have ho2:∀k,k<w.heap.size->W2.heap[k]?=w.heap[k]?:=fun k hk=>by rw[hW2,setRow_other _ _ _ _ (by omega)];exact hOld k hk
 have hcpB:∀(W:World),W.heap=W2.heap->∀ty dc sc,(Builtin.copy_ #[95,95] ty #[.slice (some ⟨w.heap.size,(i+1)*4,none⟩) (n-i) dc,.slice (some ⟨b,i*4,none⟩) (n-i) sc]).run Tryz.prog W=.ok (goInt (Nat.min (n-i) (n-i))) (W.setRow w.heap.size C2):=fun W hW ty dc sc=>by
  rw[hC2]
  exact Zda W _ _ ty 112 4 w.heap.size ((i+1)*4) (n-i) dc ⟨b,i*4,none⟩ (n-i) sc C1 _ (Zah (es.drop i)) Tryz.underlying95 ZgZ (by rw[hW];exact hg2) (by rw[hdl];simp only[Nat.min_def];split <;> omega) (by rw[hdl];omega)
   (fun j v hj=>by
    rw[ZcF]
    have h1:=hcell (i*4+j) v (by rw[ZfN,List.getElem?_drop]at hj;exact hj)
    rw[<-h1]
    exact World.cell?_of_block (by rw[hW];exact ho2 b hbw)) (fun v hv=>ZcB _ v hv)
 have hfin:C2.toList.take ((n+1)*4)=Zah (es.take i++e::es.drop i):=by
  have hRl:ROW.toList.length=G*4:=by simpa using hRs
  have hC1l:C1.toList=Zah (es.take i)++ZaL e++ROW.toList.drop (i*4+4):=by
   rw[hC1,<-hRt]
   simp[putAt,Zbb]
  rw[hC2,ZaO,show Zah (e::es.drop i)=ZaL e++Zah (es.drop i)from rfl]
  have hb1:C1.toList.take ((i+1)*4)=Zah (es.take i)++ZaL e:=by
   rw[hC1l,List.take_left']
   rw[List.length_append,htk,Zbb]
   omega
  have e1:(putAt C1 ((i+1)*4) (Zah (es.drop i))).toList=(Zah (es.take i)++(ZaL e++Zah (es.drop i)))++C1.toList.drop ((i+1)*4+(Zah (es.drop i)).length):=by
   unfold putAt
   rw[hb1]
   simp
  rw[e1,List.take_left']
  rw[List.length_append,List.length_append,htk,Zbb,hdl]
  omega
 have hGi:¬(G=i):=by omega
 have hGim:¬(G=i+1):=by omega
 have hci:¬(c=i):=by omega
 have hw1:IntKind.i64.wrap ((i:Int)+1)=(i:Int)+1:=by rw[IntKind.wrap_i64];omega
 have hw2:IntKind.i64.wrap ((n:Int)+1)=(n:Int)+1:=by rw[IntKind.wrap_i64];omega
 have hw3:IntKind.i64.wrap ((n:Int)+1-(i:Int))=(n:Int)+1-(i:Int):=by rw[IntKind.wrap_i64];omega
 have hb1:(0:Int)<=(i:Int)+1:=by omega
 have hin:i<=n:=by omega
 have htn:((i:Int)+1).toNat=i+1:=by omega
 have hb3:(i:Int)<=(n:Int)+1:=by omega
 have hR1:∀W:World,W.heap=W2.heap->(W.setRow w.heap.size C2).heap=(w.alloc (.cells C2 112)).heap:=fun W hW=>by
  have h0:(W.setRow w.heap.size C2).heap=(W2.setRow w.heap.size C2).heap:=by unfold World.setRow;simp only[hW]
  rw[h0,hW2,hW1,setRow_setRow]
  have h1:(w.drew.alloc (.cells ROW 112)).setRow w.heap.size C2=w.drew.alloc (.cells C2 112):=ZdS w.drew _ _ _
  rw[h1]
  rfl
 have hR2:W2.os=w.os/\W2.tape=w.tape/\W2.output=w.output:=by rw[hW2,hW1];exact⟨rfl,rfl,rfl⟩
 have hW2h':W2=W1.setRow w.heap.size C1:=hW2
 have hW1h:W1.os=w.os/\W1.tape=w.tape/\W1.output=w.output:=by rw[hW1];exact⟨rfl,rfl,rfl⟩
 clear hkk hik hold hROW hG hRt hC1 hC2 hW1 hW2 hg2 ho2 hgN hOld hcell ht hg hx hn hdl htk hRs hC1s hi0 hz0 hzs hzb
 have hP:Hid (n+1<=G/\G<=maxLen/\C2.size=G*4/\C2.toList.take ((n+1)*4)=Zah (es.take i++e::es.drop i)):=⟨hGn,hGm,hC2s,hfin⟩
 clear hC2s hfin
 go_enter Tryz.func193,Tryz.ntmps193
 go_wp2_with (first
  |(at_builtin;refine Lib.wpList_append_run _ rfl _ _ _ _ rfl _ _ rfl rfl _ _ (hrz _) ?_)
  |(at_builtin;refine wpList_copy_runI _ rfl _ _ 95 95 rfl _ _ rfl rfl (hcpA _ rfl _ _) ?_))
 rw[<-hW2h']at *
 go_region_law (refine step_copy_runI rfl _ _ 95 95 rfl (.slice (some ⟨w.heap.size,(i+1)*4,none⟩) (n-i) (G-(i+1))) (.slice (some ⟨b,i*4,none⟩) (n-i) (c-i)) (by simp[Act.eval,Act.put]) (by simp[Act.eval,Act.put]) (hcpB (World.drew W2) rfl 3 (G-(i+1)) (c-i)) ?_)
 go_wp2
 go_ret
 exact⟨G,C2,rfl,hP.out.1,hP.out.2.1,hR2.1,hR2.2.1,hR2.2.2,hR1 _ rfl,hP.out.2.2.1,hP.out.2.2.2⟩
def insAt(es:List Ev)(i:Nat)(e:Ev):List Ev:=es.take i++e::es.drop i
theorem ZbK(es:List Ev)(i:Nat)(e:Ev):(insAt es i e).length=es.length+1:=by
 unfold insAt
 rw[List.length_append,List.length_cons,List.length_take,List.length_drop]
 omega
def InsR(B:Nat)(w:World)(v:Value)(es:List Ev)(r:Ending)(w':World):Prop:=
 ∃v',r=.returned v'/\OwnE w' B v' es/\Below B w w'/\w.grownBy w' v.ownBlock/\(v'.ownBlock=v.ownBlock∨v'.ownBlock=some w.heap.size)
theorem Zh0(B:Nat)(a:Option Addr)(n c vb:Nat)(es:List Ev)(e:Ev)(w:World)(x:Array Value)(tx:TypeId)(hn:n=es.length)(hc:n<=1000000)(hB:B<=w.heap.size)(hca:a=none->c=0)(hnc:n<=c)(ha:a=none∨∃b,a=some ⟨b,0,none⟩)
  (hown:OwnE w B (.slice a n c) es) (hx:w.heap[vb]?=some (.cells x tx (0,0))) (hxe:∀(j:Nat) (v:Value),(ZaL e)[j]?=some v->x[j]?=some v):
  Calls Tryz.prog 193 #[.slice a n c,.int .i64 n,.slice (some ⟨vb,0,none⟩) 1 1] w (InsR B w (.slice a n c) (insAt es n e)):=by
 have he:insAt es n e=es++[e]:=by unfold insAt;rw[hn,List.take_length,List.drop_length]
 rw[he]
 obtain⟨i0,hi0,hzz⟩:=Option.map_eq_some_iff.1 infoEv
 simp only[Prod.mk.injEq]at hzz
 obtain⟨hz0,hzs,hzb⟩:=hzz
 have HO:Hid (w.ownsRow B 112 4 (.slice a n c) n (Zah es)):=by
  have h:w.ownsRow B 112 4 (.slice a n c) es.length (Zah es):=hown
  rw[<-hn]at h
  exact h
 have hnews:∀j u,(ZaL e)[j]?=some u->w.cell? ((⟨vb,0,none⟩:Addr).add j)=some u:=fun j v hj=>by rw[ZcF,Nat.zero_add];simp[World.cell?,hx];exact hxe j v hj
 have HN:=Lib.hid hn
 clear hown hx hxe hn he
 go_enter Tryz.func193,Tryz.ntmps193
 rcases ha with rfl|⟨b,rfl⟩
 ·obtain rfl:c=0:=hca rfl
  obtain rfl:n=0:=by omega
  go_wp2_with (at_builtin;refine wpList_append_own_at _ rfl _ _ 95 rfl B 112 i0 _ 4 32 Tryz.underlying95 hi0 hz0 hzs hzb rfl (by decide) _ _ _ rfl HO.out ⟨vb,0,none⟩ 1 1 (ZaL e) rfl rfl hnews (Zea e) (by unfold maxLen;omega) (by omega) hB ?_;intro v' w' h1 h2 _ h4)
  go_ret
  exact⟨v',rfl,(by unfold OwnE;rw[List.length_append,ZaO,<-HN.out];exact h1),(Below.refl B w).grown h2 hB (fun k hk=>(World.ownsRow.lt HO.out k hk).1),h2,h4⟩
 ·go_wp2_with (at_builtin;refine wpList_append_own_at _ rfl _ _ 95 rfl B 112 i0 _ 4 32 Tryz.underlying95 hi0 hz0 hzs hzb rfl (by decide) _ _ _ rfl HO.out ⟨vb,0,none⟩ 1 1 (ZaL e) rfl rfl hnews (Zea e) (by unfold maxLen;omega) (by omega) hB ?_;intro v' w' h1 h2 _ h4)
  all_goals
   go_ret
   exact⟨v',rfl,(by unfold OwnE;rw[List.length_append,ZaO,<-HN.out];exact h1),(Below.refl B w).grown h2 hB (fun k hk=>(World.ownsRow.lt HO.out k hk).1),h2,h4⟩
theorem Zgp(w:World)(b:Nat)(A1 A2:Array Value):w.grownBy ((w.drew.setRow b A1).setRow b A2) (some b):=
 ⟨rfl,rfl,rfl,by simp,fun k _ hk=>by rw[setRow_other _ _ _ _ (fun e=>hk (by rw[e])),setRow_other _ _ _ _ (fun e=>hk (by rw[e]))];rfl⟩
theorem insert_any(B:Nat)(v:Value)(i vb:Nat)(es:List Ev)(e:Ev)(w:World)(x:Array Value)(tx:TypeId)(hi:i<=es.length)(hm:es.length<=1000)(hB:B<=w.heap.size)
  (hown:OwnE w B v es) (hx:w.heap[vb]?=some (.cells x tx (0,0))) (hxe:∀(j:Nat) (v:Value),(ZaL e)[j]?=some v->x[j]?=some v) (hv:v.ownBlock≠some vb):
  Calls Tryz.prog 193 #[v,.int .i64 i,.slice (some ⟨vb,0,none⟩) 1 1] w (InsR B w v (insAt es i e)):=by
 have hO:w.ownsRow B 112 4 v es.length (Zah es):=hown
 obtain⟨h1,⟨h2,h3⟩|⟨g,cap,cur,h2,h3,h4,h5,h6,h7,h8⟩⟩:=hO
 ·obtain rfl:i=es.length:=by omega
  subst h2
  have h:=Zh0 B none 0 0 vb es e w x tx h3.symm (by omega) hB (fun _=>rfl) (Nat.le_refl _) (.inl rfl) hown hx hxe
  rw[h3]
  exact h
 ·subst h2
  by_cases hin:i=es.length
  ·subst hin
   exact Zh0 B (some ⟨g,0,none⟩) es.length cap vb es e w x tx rfl (by omega) hB (by simp) h5 (.inr ⟨g,rfl⟩) hown hx hxe
  ·have hlt:i<es.length:=by omega
   have hvb:vb≠g:=fun e=>hv (by rw[e];rfl)
   have hgw:g<w.heap.size:=(Array.getElem?_eq_some_iff.1 h4).1
   by_cases hroom:es.length+1<=cap
   ·refine(Zkx g es.length cap i vb es e w cur x tx rfl hlt hroom h6 hvb h4 h7 h8 hx hxe).mono ?_
    rintro r w'⟨rfl,rfl⟩
    have hgr:=Zgp w g (putAt cur ((i+1)*4) (Zah (es.drop i))) (putAt (putAt cur ((i+1)*4) (Zah (es.drop i))) (i*4) (ZaL e))
    have hdl:(Zah (es.drop i)).length=(es.length-i)*4:=by rw[Zas,List.length_drop]
    have hs1:(putAt cur ((i+1)*4) (Zah (es.drop i))).size=cap*4:=by rw[Zc2 (by rw[hdl,h7];omega),h7]
    have hs2:(putAt (putAt cur ((i+1)*4) (Zah (es.drop i))) (i*4) (ZaL e)).size=cap*4:=by rw[Zc2 (by rw[Zbb,hs1];omega),hs1]
    refine⟨_,rfl,?_,(Below.refl B w).grown hgr hB (fun k hk=>(World.ownsRow.lt hown k hk).1),hgr,.inl rfl⟩
    refine⟨by rw[Zas],.inr ⟨g,cap,_,by rw[ZbK],h3,setRow_heap _ _ _ _ _ _ (setRow_heap _ _ _ _ _ _ h4),by rw[ZbK];exact hroom,h6,hs2,?_⟩⟩
    rw[ZbK]
    exact shifted (by omega) h7 hroom h8
   ·refine(ZlP g es.length cap i vb es e w cur x tx rfl hlt (by omega) h5 (by omega) h4 h8 hx hxe).mono ?_
    rintro r w'⟨G,C,rfl,g1,g2,g3,g4,g5,g6,g7,g8⟩
    have hsz:w'.heap.size=w.heap.size+1:=by rw[g6];simp
    have hgr:w.grownBy w' (some g):=⟨g3,g4,g5,by omega,fun k hk _=>by rw[g6];exact heap_alloc_old w _ hk⟩
    refine⟨_,rfl,?_,(Below.refl B w).grown hgr hB (fun k hk=>(World.ownsRow.lt hown k hk).1),hgr,.inr rfl⟩
    refine⟨by rw[Zas],.inr ⟨w.heap.size,G,C,by rw[ZbK],hB,by rw[g6];exact heap_alloc_new w _,by rw[ZbK];exact g1,g2,g7,?_⟩⟩
    rw[ZbK]
    exact g8
theorem EvsAt.one{w:World}{a:Option Addr}{l:List Ev}(h:EvsAt w a l){k:Nat}(hk:k<l.length):∃b o,a=some ⟨b,o,none⟩/\w.cell? ⟨b,o+k*4,none⟩=some (.int .i64 (evI l k).thread)/\w.cell? ⟨b,o+k*4+1,none⟩=some (.int .i64 (evI l k).kind) /\
  w.cell? ⟨b,o+k*4+2,none⟩=some (.int .i64 (evI l k).obj)/\w.cell? ⟨b,o+k*4+3,none⟩=some (.bool (evI l k).fail):=by
 obtain⟨b,o,rfl,hc⟩:=h.2 (by intro e;simp[e]at hk)
 refine⟨b,o,rfl,?_⟩
 rw[Za4 hk]
 exact hc k hk
end Go.Proofs.YtjfmmnhcddckaaaGreat
namespace Go.Proofs.YtjfmmnhcddckaaaGreat
def lvN(m:List (List Ev))(e:Ev):Nat:=top (fun i=>i+1) (fun i=>(m.getD i []).any fun x=>dep x e) m.length
def insE(e:Ev):List Ev->List Ev
 | []=>[e]
 |x::r=>if e.thread<x.thread then e::x::r else x::insE e r
def putL(m:List (List Ev))(n:Nat)(e:Ev):List (List Ev):=if n<m.length then m.set n (insE e (m.getD n []))else m++[[e]]
def addL(m:List (List Ev))(e:Ev):List (List Ev):=putL m (lvN m e) e
def lvls(l:List Ev):List (List Ev):=l.foldl addL []
theorem ZeM(l:List Ev)(e:Ev):lvls (l++[e])=addL (lvls l) e:=by unfold lvls;rw[List.foldl_append];rfl
theorem ZfI(m:List (List Ev))(e:Ev):lvN m e<=m.length:=Zhw fun _ hi _=>hi
theorem lvN_ge{m:List (List Ev)}{e:Ev}{i:Nat}(hi:i<m.length)(h:∃x∈m.getD i [],dep x e=true):i<lvN m e:=
 Zhx (f:=fun i=>i+1) (q:=fun i=>(m.getD i []).any fun x=>dep x e) hi (List.any_eq_true.2 h)
theorem lvN_some{m:List (List Ev)}{e:Ev}{i:Nat}(h:lvN m e=i+1):∃x∈m.getD i [],dep x e=true:=by
 rcases Zek (f:=fun i=>i+1) (q:=fun i=>(m.getD i []).any fun x=>dep x e) (n:=m.length)with h0|⟨j,_,hq,hj⟩
 ·have h1:lvN m e=0:=h0
  omega
 ·have h1:lvN m e=j+1:=hj
  obtain rfl:i=j:=by omega
  exact List.any_eq_true.1 hq
theorem ZiV{m:List (List Ev)}{e:Ev}{i:Nat}(hi:lvN m e<=i){x:Ev}(hx:x∈m.getD i []):dep x e=false:=by
 cases hd:dep x e
 ·rfl
 ·exfalso
  by_cases hl:i<m.length
  ·have:=lvN_ge hl ⟨x,hx,hd⟩
   omega
  ·simp[List.getD,List.getElem?_eq_none (Nat.le_of_not_lt hl)]at hx
theorem Zjx{f:Nat->Nat}{q r:Nat->Bool}{n:Nat}(h:∀i,i<n->q i=r i):top f q n=top f r n:=by
 induction n with
 |zero=>rfl
 |succ n ih=>rw[Zey,Zey,ih (fun i hi=>h i (by omega)),h n (by omega)]
theorem ZcL{e x:Ev}{r:List Ev}:x∈insE e r↔x=e∨x∈r:=by
 induction r with
 |nil=>simp[insE]
 |cons y r ih=>
  unfold insE
  split
  ·simp
  ·rw[List.mem_cons,ih,List.mem_cons]
   constructor
   ·rintro (h|h|h) <;> simp[h]
   ·rintro (h|h|h) <;> simp[h]
theorem Zdi(e:Ev)(r:List Ev):(insE e r).length=r.length+1:=by
 induction r with
 |nil=>rfl
 |cons y r ih=>
  unfold insE
  split
  ·rfl
  ·rw[List.length_cons,ih,List.length_cons]
theorem insE_split(e:Ev)(r:List Ev):∃r1 r2,r=r1++r2/\insE e r=r1++e::r2:=by
 induction r with
 |nil=>exact⟨[],[],rfl,rfl⟩
 |cons y r ih=>
  unfold insE
  split
  ·exact⟨[],y::r,rfl,rfl⟩
  ·obtain⟨r1,r2,h1,h2⟩:=ih
   exact⟨y::r1,r2,by rw[h1];rfl,by rw[h2];rfl⟩
theorem ZaJ{e x:Ev}(r:List Ev)(h:e.thread<x.thread):insE e (x::r)=e::x::r:=by rw[insE,if_pos h]
theorem ZaA{e x:Ev}(r:List Ev)(h:¬e.thread<x.thread):insE e (x::r)=x::insE e r:=by rw[insE,if_neg h]
theorem Zkz{e f:Ev}(h:e.thread≠f.thread)(r:List Ev):insE e (insE f r)=insE f (insE e r):=by
 induction r with
 |nil=>
  rcases (by omega:e.thread<f.thread∨f.thread<e.thread)with hl|hl
  ·have:¬f.thread<e.thread:=by omega
   simp[insE,hl,this]
  ·have:¬e.thread<f.thread:=by omega
   simp[insE,hl,this]
 |cons x r ih=>
  by_cases he:e.thread<x.thread
  ·by_cases hf:f.thread<x.thread
   ·rw[ZaJ r he,ZaJ r hf]
    rcases (by omega:e.thread<f.thread∨f.thread<e.thread)with hl|hl
    ·rw[ZaJ _ hl,ZaA _ (by omega),ZaJ r hf]
    ·rw[ZaA _ (by omega),ZaJ r he,ZaJ _ hl]
   ·rw[ZaJ r he,ZaA r hf,ZaJ _ he,ZaA _ (by omega),ZaA r hf]
  ·by_cases hf:f.thread<x.thread
   ·rw[ZaA r he,ZaJ r hf,ZaJ _ hf,ZaA _ (by omega),ZaA r he]
   ·rw[ZaA r he,ZaA r hf,ZaA _ he,ZaA _ hf,ih]
theorem Zgy(m:List (List Ev))(n:Nat)(e:Ev):(putL m n e).length=if n<m.length then m.length else m.length+1:=by
 unfold putL
 split <;> simp
theorem lvN_put{m:List (List Ev)}{n:Nat}{e f:Ev}(hd:dep e f=false):lvN (putL m n e) f=lvN m f:=by
 unfold lvN
 rw[Zgy]
 by_cases h:n<m.length
 ·rw[if_pos h]
  refine Zjx fun i hi=>?_
  have e1:(putL m n e).getD i []=if i=n then insE e (m.getD n [])else m.getD i []:=by
   unfold putL
   rw[if_pos h,ZaS _ _ _ _ _ h]
  rw[e1]
  split
  ·rename_i hin
   subst hin
   rw[Bool.eq_iff_iff,List.any_eq_true,List.any_eq_true]
   constructor
   ·rintro⟨x,hx,h2⟩
    rcases ZcL.1 hx with rfl|hx
    ·rw[hd]at h2;cases h2
    ·exact⟨x,hx,h2⟩
   ·rintro⟨x,hx,h2⟩
    exact⟨x,ZcL.2 (.inr hx),h2⟩
  ·rfl
 ·rw[if_neg h,Zey]
  have e1:putL m n e=m++[[e]]:=by unfold putL;rw[if_neg h]
  rw[e1,if_neg]
  ·refine Zjx fun i hi=>?_
   simp[List.getD,List.getElem?_append_left hi]
  ·simp[List.getD,hd]
theorem putL_comm{m:List (List Ev)}{n k:Nat}{e f:Ev}(hn:n<=m.length)(hk:k<=m.length)(h:e.thread≠f.thread):putL (putL m n e) k f=putL (putL m k f) n e:=by
 by_cases h1:n<m.length
 ·by_cases h2:k<m.length
  ·have e1:putL m n e=m.set n (insE e (m.getD n [])):=by unfold putL;rw[if_pos h1]
   have e2:putL m k f=m.set k (insE f (m.getD k [])):=by unfold putL;rw[if_pos h2]
   rw[e1,e2]
   unfold putL
   rw[if_pos (by simpa using h2),if_pos (by simpa using h1),ZaS _ _ _ _ _ h1,ZaS _ _ _ _ _ h2]
   by_cases hnk:n=k
   ·subst hnk
    rw[if_pos rfl,if_pos rfl,List.set_set,List.set_set,Zkz h]
   ·rw[if_neg (fun e=>hnk e.symm),if_neg hnk,List.set_comm _ _ hnk]
  ·have e1:putL m n e=m.set n (insE e (m.getD n [])):=by unfold putL;rw[if_pos h1]
   have e2:putL m k f=m++[[f]]:=by unfold putL;rw[if_neg h2]
   rw[e1,e2]
   unfold putL
   rw[if_neg (by simpa using h2),if_pos (by simp;omega),List.set_append_left _ _ h1]
   simp[List.getD,List.getElem?_append_left h1]
 ·by_cases h2:k<m.length
  ·have e1:putL m n e=m++[[e]]:=by unfold putL;rw[if_neg h1]
   have e2:putL m k f=m.set k (insE f (m.getD k [])):=by unfold putL;rw[if_pos h2]
   rw[e1,e2]
   unfold putL
   rw[if_pos (by simp;omega),if_neg (by simpa using h1),List.set_append_left _ _ h2]
   simp[List.getD,List.getElem?_append_left h2]
  ·obtain rfl:n=m.length:=by omega
   obtain rfl:k=m.length:=by omega
   have e1:putL m m.length e=m++[[e]]:=by unfold putL;rw[if_neg h1]
   have e2:putL m m.length f=m++[[f]]:=by unfold putL;rw[if_neg h1]
   rw[e1,e2]
   unfold putL
   rw[if_pos (by simp),if_pos (by simp),List.set_append_right _ _ (Nat.le_refl _),List.set_append_right _ _ (Nat.le_refl _)]
   have hc:=Zkz (Ne.symm h) []
   simp only[insE]at hc
   simp[List.getD,insE,hc]
theorem lvls_blind:Blind lvls:=by
 intro x y e f hd
 have hd':dep f e=false:=by rw[Zch];exact hd
 have hne:e.thread≠f.thread:=by
  intro h
  rw[Zb0 h]at hd
  cases hd
 unfold lvls
 rw[List.foldl_append,List.foldl_append,List.foldl_cons,List.foldl_cons,List.foldl_cons,List.foldl_cons]
 congr 1
 generalize x.foldl addL []=m
 have e1:addL (addL m e) f=putL (putL m (lvN m e) e) (lvN m f) f:=by
  show putL (addL m e) (lvN (addL m e) f) f=_
  have:lvN (addL m e) f=lvN m f:=lvN_put hd
  rw[this]
  rfl
 have e2:addL (addL m f) e=putL (putL m (lvN m f) f) (lvN m e) e:=by
  show putL (addL m f) (lvN (addL m f) e) e=_
  have:lvN (addL m f) e=lvN m e:=lvN_put hd'
  rw[this]
  rfl
 rw[e1,e2]
 exact putL_comm (ZfI m e) (ZfI m f) hne
theorem sim_put(m:List (List Ev))(e:Ev):Sim (addL m e).flatten (m.flatten++[e]):=by
 unfold addL putL
 by_cases h:lvN m e<m.length
 ·rw[if_pos h]
  have hfree:∀i,lvN m e<=i->∀x∈m.getD i [],dep e x=false:=fun i hi x hx=>by rw[Zch];exact ZiV hi hx
  generalize lvN m e=n at *
  have hm:m=m.take n++m.getD n []::m.drop (n+1):=by
   conv=>lhs;rw[<-List.take_append_drop n m,List.drop_eq_getElem_cons h]
   rw[Zav _ h]
  have hs:m.set n (insE e (m.getD n []))=m.take n++insE e (m.getD n [])::m.drop (n+1):=by
   rw[List.set_eq_take_append_cons_drop,if_pos h]
  obtain⟨r1,r2,hr,hi⟩:=insE_split e (m.getD n [])
  have hy:∀f∈r2++(m.drop (n+1)).flatten,dep e f=false:=by
   intro f hf
   rcases List.mem_append.1 hf with hf|hf
   ·exact hfree n (Nat.le_refl _) f (by rw[hr];exact List.mem_append_right _ hf)
   ·obtain⟨row,hrow,hfr⟩:=List.mem_flatten.1 hf
    obtain⟨j,hj,hje⟩:=List.mem_iff_getElem.1 hrow
    rw[List.length_drop]at hj
    rw[List.getElem_drop]at hje
    refine hfree (n+1+j) (by omega) f ?_
    rw[Zav _ (by omega),hje]
    exact hfr
  have h1:=Ziy e (r2++(m.drop (n+1)).flatten) ((m.take n).flatten++r1) hy
  have e1:(m.set n (insE e (m.getD n []))).flatten=(m.take n).flatten++r1++e::(r2++(m.drop (n+1)).flatten):=by
   rw[hs,hi]
   simp
  have e2:m.flatten=(m.take n).flatten++r1++(r2++(m.drop (n+1)).flatten):=by
   conv=>lhs;rw[hm]
   rw[List.flatten_append,List.flatten_cons,hr]
   simp
  rw[e1,e2]
  exact h1
 ·rw[if_neg h,List.flatten_append]
  exact Sim.refl _
theorem Zlb(l:List Ev):Sim (lvls l).flatten l:=by
 have:∀n (l:List Ev),l.length=n->Sim (lvls l).flatten l:=by
  intro n
  induction n with
  |zero=>
   intro l hl
   obtain rfl:=List.eq_nil_of_length_eq_zero hl
   exact Sim.refl _
  |succ n ih=>
   intro l hl
   have hne:l≠[]:=by rintro rfl;simp at hl
   obtain⟨l',e,rfl⟩:∃l' e,l=l'++[e]:=⟨l.dropLast,l.getLast hne,(List.dropLast_concat_getLast hne).symm⟩
   rw[ZeM]
   exact(sim_put _ e).trans ((Zmo _ _ e).2 (ih l' (by simpa using hl)))
 exact this _ l rfl
theorem ZiU(a b:List Ev):lvls a=lvls b↔Sim a b:=by
 constructor
 ·intro h
  have h1:=Zlb a
  rw[h]at h1
  exact h1.symm.trans (Zlb b)
 ·intro h
  exact Zgo _ a b lvls rfl h lvls_blind
structure LvOk(m:List (List Ev)):Prop where
 full:∀i,i<m.length->m.getD i []≠[]
 apart:∀i,i<m.length->(m.getD i []).Pairwise fun a b=>dep a b=false
 rise:∀i,i<m.length->(m.getD i []).Pairwise fun a b=>a.thread<b.thread
 on:∀i,i+1<m.length->∀e∈m.getD (i+1) [],∃x∈m.getD i [],dep x e=true
theorem ZiZ{R:Ev->Ev->Prop}{e:Ev}{r:List Ev}(h:r.Pairwise R)(h1:∀x∈r,R x e)(h2:∀x∈r,R e x):(insE e r).Pairwise R:=by
 induction r with
 |nil=>simp[insE]
 |cons y r ih=>
  rw[List.pairwise_cons]at h
  unfold insE
  split
  ·rw[List.pairwise_cons,List.pairwise_cons]
   exact⟨h2,h⟩
  ·rw[List.pairwise_cons]
   refine⟨fun x hx=>?_,ih h.2 (fun x hx=>h1 x (by simp[hx])) (fun x hx=>h2 x (by simp[hx]))⟩
   rcases ZcL.1 hx with rfl|hx
   ·exact h1 y (by simp)
   ·exact h.1 x hx
theorem insE_rise{e:Ev}{r:List Ev}(h:r.Pairwise fun a b=>a.thread<b.thread)(h1:∀x∈r,x.thread≠e.thread):(insE e r).Pairwise fun a b=>a.thread<b.thread:=by
 induction r with
 |nil=>simp[insE]
 |cons y r ih=>
  have hy:=h1 y (by simp)
  have hc:=h
  rw[List.pairwise_cons]at h
  unfold insE
  split
  ·rename_i hlt
   rw[List.pairwise_cons]
   refine⟨fun x hx=>?_,hc⟩
   rcases List.mem_cons.1 hx with rfl|hx
   ·exact hlt
   ·have:=h.1 x hx
    omega
  ·rw[List.pairwise_cons]
   refine⟨fun x hx=>?_,ih h.2 (fun x hx=>h1 x (by simp[hx]))⟩
   rcases ZcL.1 hx with rfl|hx
   ·omega
   ·exact h.1 x hx
theorem Zdo{m:List (List Ev)}{e:Ev}(i:Nat):(addL m e).getD i []=if i=lvN m e then insE e (m.getD i [])else m.getD i []:=by
 unfold addL putL
 by_cases h:lvN m e<m.length
 ·rw[if_pos h,ZaS _ _ _ _ _ h]
  split
  ·rename_i hi;rw[hi]
  ·rfl
 ·have hn:lvN m e=m.length:=by have:=ZfI m e;omega
  rw[if_neg h,hn]
  by_cases hi:i=m.length
  ·subst hi
   rw[if_pos rfl]
   simp[List.getD,insE]
  ·rw[if_neg hi]
   rcases Nat.lt_or_gt_of_ne hi with hlt|hgt
   ·simp[List.getD,List.getElem?_append_left hlt]
   ·simp[List.getD,List.getElem?_append_right (Nat.le_of_lt hgt),List.getElem?_eq_none (Nat.le_of_lt hgt),show i-m.length≠0 by omega]
theorem Zhh(m:List (List Ev))(e:Ev):(addL m e).length=if lvN m e<m.length then m.length else m.length+1:=Zgy m _ e
theorem insE_ne(e:Ev)(r:List Ev):insE e r≠[]:=by
 intro h
 have:=Zdi e r
 rw[h]at this
 simp at this
theorem LvOk.add{m:List (List Ev)}(h:LvOk m)(e:Ev):LvOk (addL m e):=by
 have hle:=ZfI m e
 have hlen:=Zhh m e
 have hin:∀i,i<(addL m e).length->i≠lvN m e->i<m.length:=by
  intro i hi hne
  rw[hlen]at hi
  split at hi <;> omega
 have hmem:∀x∈m.getD (lvN m e) [],dep x e=false/\dep e x=false/\x.thread≠e.thread:=by
  intro x hx
  have h1:=ZiV (Nat.le_refl _) hx
  refine⟨h1,by rw[Zch];exact h1,fun ht=>?_⟩
  rw[Zb0 ht]at h1
  cases h1
 have hold:∀(R:Ev->Ev->Prop),(∀i,i<m.length->(m.getD i []).Pairwise R)->(m.getD (lvN m e) []).Pairwise R:=by
  intro R hR
  by_cases hl:lvN m e<m.length
  ·exact hR _ hl
  ·have:m.getD (lvN m e) []=[]:=by simp[List.getD,List.getElem?_eq_none (Nat.le_of_not_lt hl)]
   rw[this]
   exact List.Pairwise.nil
 refine⟨fun i hi=>?_,fun i hi=>?_,fun i hi=>?_,fun i hi x hx=>?_⟩
 ·rw[Zdo]
  split
  ·exact insE_ne _ _
  ·rename_i hne;exact h.full i (hin i hi hne)
 ·rw[Zdo]
  split
  ·rename_i he
   subst he
   exact ZiZ (hold _ h.apart) (fun x hx=>(hmem x hx).1) (fun x hx=>(hmem x hx).2.1)
  ·rename_i hne;exact h.apart i (hin i hi hne)
 ·rw[Zdo]
  split
  ·rename_i he
   subst he
   exact insE_rise (hold _ h.rise) (fun x hx=>(hmem x hx).2.2)
  ·rename_i hne;exact h.rise i (hin i hi hne)
 ·have hsup:∀y∈m.getD i [],y∈(addL m e).getD i []:=by
   intro y hy
   rw[Zdo]
   split
   ·exact ZcL.2 (.inr hy)
   ·exact hy
  rw[Zdo]at hx
  split at hx
  ·rename_i he
   rcases ZcL.1 hx with rfl|hx
   ·obtain⟨y,hy,hd⟩:=lvN_some he.symm
    exact⟨y,hsup y hy,hd⟩
   ·have hl:i+1<m.length:=by
     apply Classical.byContradiction
     intro hn
     simp[List.getD,List.getElem?_eq_none (Nat.le_of_not_lt hn)]at hx
    obtain⟨y,hy,hd⟩:=h.on i hl x hx
    exact⟨y,hsup y hy,hd⟩
  ·rename_i hne
   obtain⟨y,hy,hd⟩:=h.on i (hin _ hi hne) x hx
   exact⟨y,hsup y hy,hd⟩
theorem lvls_ok(l:List Ev):LvOk (lvls l):=by
 have:∀(y:List Ev) (m:List (List Ev)),LvOk m->LvOk (y.foldl addL m):=by
  intro y
  induction y with
  |nil=>intro m h;exact h
  |cons e y ih=>intro m h;exact ih _ (h.add e)
 exact this l [] ⟨fun i hi=>by simp at hi,fun i hi=>by simp at hi,fun i hi=>by simp at hi,fun i hi=>by simp at hi⟩
theorem ZlX(m:List (List Ev))(e:Ev):(addL m e).flatten.length=m.flatten.length+1:=by
 unfold addL putL
 by_cases h:lvN m e<m.length
 ·rw[if_pos h]
  generalize lvN m e=n at *
  have hm:m=m.take n++m.getD n []::m.drop (n+1):=by
   conv=>lhs;rw[<-List.take_append_drop n m,List.drop_eq_getElem_cons h]
   rw[Zav _ h]
  rw[List.set_eq_take_append_cons_drop,if_pos h]
  conv=>rhs;rw[hm]
  simp only[List.flatten_append,List.flatten_cons,List.length_append,Zdi]
  omega
 ·rw[if_neg h]
  simp
theorem Zff(l:List Ev):(lvls l).flatten.length=l.length:=by
 have:∀(y:List Ev) (m:List (List Ev)),(y.foldl addL m).flatten.length=m.flatten.length+y.length:=by
  intro y
  induction y with
  |nil=>intro m;simp
  |cons e y ih=>intro m;rw[List.foldl_cons,ih,ZlX,List.length_cons];omega
 have h:=this l []
 rw[List.flatten_nil,List.length_nil,Nat.zero_add]at h
 exact h
theorem mem_lvls{l:List Ev}{e:Ev}(h:e∈(lvls l).flatten):e∈l:=by
 have:∀(y:List Ev) (m:List (List Ev)),e∈(y.foldl addL m).flatten->e∈m.flatten∨e∈y:=by
  intro y
  induction y with
  |nil=>intro m h;exact .inl h
  |cons f y ih=>
   intro m h
   rcases ih _ h with h|h
   ·obtain⟨row,hrow,her⟩:=List.mem_flatten.1 h
    obtain⟨i,hi,hie⟩:=List.mem_iff_getElem.1 hrow
    have hg:(addL m f).getD i []=row:=by rw[Zav _ hi,hie]
    rw[Zdo]at hg
    split at hg
    ·rw[<-hg]at her
     rcases ZcL.1 her with rfl|her
     ·exact .inr (by simp)
     ·refine .inl (List.mem_flatten.2 ?_)
      by_cases hl:i<m.length
      ·rw[Zav _ hl]at her
       exact⟨_,List.getElem_mem hl,her⟩
      ·simp[List.getD,List.getElem?_eq_none (Nat.le_of_not_lt hl)]at her
    ·rw[<-hg]at her
     refine .inl (List.mem_flatten.2 ?_)
     by_cases hl:i<m.length
     ·rw[Zav _ hl]at her
      exact⟨_,List.getElem_mem hl,her⟩
     ·simp[List.getD,List.getElem?_eq_none (Nat.le_of_not_lt hl)]at her
   ·exact .inr (by simp[h])
 rcases this l [] h with h|h
 ·simp at h
 ·exact h
end Go.Proofs.YtjfmmnhcddckaaaGreat
namespace Go.Proofs.YtjfmmnhcddckaaaGreat
open Go.RowKit
theorem ZlS{e:Ev}:∀(es:List Ev) (k:Nat),k<=es.length->(∀j (h:j<es.length),j<k->es[j].thread<e.thread)->(∀h:k<es.length,e.thread<es[k].thread)->insE e es=insAt es k e
 | [],0,_,_,_=>rfl
 |x::r,0,_,_,h=>by
  have h1:=h (by simp)
  rw[ZaJ r (by simpa using h1)]
  rfl
 |x::r,k+1,hk,ha,h=>by
  have h0:=ha 0 (by simp) (by omega)
  rw[ZaA r (by simp at h0;omega),ZlS r k (by simpa using hk) (fun j hj hjk=>by have:=ha (j+1) (by simpa using hj) (by omega);simpa using this) (fun hk'=>by have:=h (by simpa using hk');simpa using this)]
  rfl
def LayR(B:Nat)(w:World)(v:Value)(es:List Ev)(r:Ending)(w':World):Prop:=
 ∃v',r=.returned v'/\OwnE w' B v' es/\Below B w w'/\w.grownBy w' v.ownBlock/\(∀g,v'.ownBlock=some g->v.ownBlock=some g∨w.heap.size<=g)
theorem Zeq{w w':World}(h:Below w.heap.size w w')(row:Option Nat):w.grownBy w' row:=⟨h.os,h.tape,h.output,h.size,fun k hk _=>h.block k hk⟩
theorem LayR.from{B:Nat}{w W1 w':World}{v:Value}{es:List Ev}{r:Ending}(h:LayR B W1 v es r w')(hb:Below w.heap.size w W1)(hB:B<=w.heap.size):LayR B w v es r w':=by
 obtain⟨v',h1,h2,h3,h4,h5⟩:=h
 exact⟨v',h1,h2,(hb.mono hB).trans h3,(Zeq hb _).trans h4,fun g hg=>(h5 g hg).imp id (fun h=>Nat.le_trans hb.size h)⟩
theorem ZhZ(B:Nat)(v:Value)(k:Nat)(es:List Ev)(e:Ev)(w:World)(hk:k<=es.length)(hm:es.length<=1000)(hB:B<=w.heap.size)(hown:OwnE w B v es):
  Calls Tryz.prog 193 #[v,.int .i64 k,.slice (some ⟨w.heap.size,0,none⟩) 1 1] (w.alloc (.cells #[.int .i64 e.thread,.int .i64 e.kind,.int .i64 e.obj,.bool e.fail] 112)) (LayR B w v (insAt es k e)):=by
 have hb:=Zaa w (.cells #[.int .i64 e.thread,.int .i64 e.kind,.int .i64 e.obj,.bool e.fail] 112)
 refine(insert_any B v k w.heap.size es e _ _ _ hk hm (Nat.le_trans hB hb.size) (hown.later hb) (heap_alloc_new w _) (fun j u hj=>by simpa [ZaL]using hj) (fun e=>by have:=(World.ownsRow.lt hown _ e).2;omega)).mono ?_
 rintro r w'⟨v',h1,h2,h3,h4,h5⟩
 refine LayR.from ⟨v',h1,h2,h3,h4,fun g hg=>?_⟩ hb hB
 rcases h5 with h5|h5
 ·left;rw[<-h5];exact hg
 ·right;rw[h5]at hg;injection hg with hg;omega
theorem lay_any(B:Nat)(v:Value)(es:List Ev)(e:Ev)(w:World)(hB:B<=w.heap.size)(hm:es.length<=1000)(hown:OwnE w B v es)(hne:∀x∈es,x.thread≠e.thread):
  Calls Tryz.prog 168 #[v,.agg #[.int .i64 e.thread,.int .i64 e.kind,.int .i64 e.obj,.bool e.fail]] w (LayR B w v (insE e es)):=by
 obtain⟨a,cap,rfl,hev⟩:=OwnE.form hown (by omega)
 have HO:=Lib.hid hown
 have HE:=Lib.hid hev
 have HN:=Lib.hid hne
 clear hown hev hne
 have HBX:=Lib.hid (EvBox.new w e)
 have hb0:=Zaa w (.cells #[.int .i64 e.thread,.int .i64 e.kind,.int .i64 e.obj,.bool e.fail] 112)
 go_enter Tryz.func168,Tryz.ntmps168
 go_wp2_with fail
 generalize w.alloc (.cells #[.int .i64 e.thread,.int .i64 e.kind,.int .i64 e.obj,.bool e.fail] 112)=W0 at *
 go_loopw [5] (fun i wr=>∃k:Nat,k<=es.length/\i=.int .i64 k/\Hid (∀j (h:j<es.length),j<k->es[j].thread<e.thread)/\Hid (Below W0.heap.size W0 wr)) (fun i _=>es.length-(intOf i).toNat)
 case atStart=>exact⟨0,Nat.zero_le _,rfl,(fun j _ h=>absurd h (by omega)),Below.refl _ _⟩
 case round=>
  obtain⟨k,hk,rfl,HA,HB⟩:=hrel
  by_cases hlt:k<es.length
  ·obtain⟨b,o,rfl,t0,t1,t2,t3⟩:=HE.out.one hlt
   have hbx:=hb0.trans (HB.out.mono hb0.size)
   have d0:=Zab hbx t0
   obtain⟨c0,c1,c2,c3⟩:=(HBX.out.later HB.out).cells
   have HX:=Lib.hid hbx
   clear t0 t1 t2 t3 hbx
   have hkl:decide ((k:Int)<(es.length:Int))=true:=by simp;omega
   have hki:(k:Int)<(es.length:Int):=by omega
   have hki0:(0:Int)<=k:=by omega
   by_cases hth:(evI es k).thread<e.thread
   ·have hq:decide ((evI es k).thread<e.thread)=true:=by simp;omega
    have HA2:Hid (∀j (h:j<es.length),j<k+1->es[j].thread<e.thread):=fun j h hj=>by
     by_cases e':j=k
     ·subst e'
      rw[<-Za4 h]
      exact hth
     ·exact HA.out j h (by omega)
    go_wp2_with fail
    go_quiet (fail)
    go_wp2
    go_roundw
    case rel=>exact⟨k+1,by omega,by go_num,HA2,HB.out.drewN⟩
    case measure=>simp[intOf];omega
   ·have hq:decide ((evI es k).thread<e.thread)=false:=by simp;omega
    have HI:Hid (insE e es=insAt es k e):=ZlS es k hk HA.out (fun h=>by
     have h1:=HN.out es[k] (List.getElem_mem h)
     rw[Za4 h]at hth
     omega)
    have HC:Hid (∀W,Below w.heap.size w W->Calls Tryz.prog 193 #[.slice (some ⟨b,o,none⟩) es.length cap,.int .i64 k,.slice (some ⟨W.heap.size,0,none⟩) 1 1] (W.alloc (.cells #[.int .i64 e.thread,.int .i64 e.kind,.int .i64 e.obj,.bool e.fail] 112)) (LayR B w (.slice (some ⟨b,o,none⟩) es.length cap) (insE e es))):=fun W hW=>by
     rw[HI.out]
     exact(ZhZ B _ k es e W hk hm (Nat.le_trans hB hW.size) (HO.out.later hW)).mono fun r w' h=>h.from hW hB
    go_wp2_with fail
    go_quiet (fail)
    go_wp2_with fail
    refine(HC.out _ HX.out.drewN).mono ?_
    rintro r w'⟨v',rfl,h2,h3,h4,h5⟩
    go_wp2
    go_ret
    exact⟨v',rfl,h2,h3,h4,h5⟩
  ·obtain rfl:k=es.length:=by omega
   have hbx:=hb0.trans (HB.out.mono hb0.size)
   obtain⟨c0,c1,c2,c3⟩:=(HBX.out.later HB.out).cells
   have HX:=Lib.hid hbx
   have hkl:decide ((es.length:Int)<(es.length:Int))=false:=by simp
   have HI:Hid (insE e es=insAt es es.length e):=ZlS es es.length hk HA.out (fun h=>absurd h (by omega))
   have HC:Hid (∀W,Below w.heap.size w W->Calls Tryz.prog 193 #[.slice a es.length cap,.int .i64 es.length,.slice (some ⟨W.heap.size,0,none⟩) 1 1] (W.alloc (.cells #[.int .i64 e.thread,.int .i64 e.kind,.int .i64 e.obj,.bool e.fail] 112)) (LayR B w (.slice a es.length cap) (insE e es))):=fun W hW=>by
    rw[HI.out]
    exact(ZhZ B _ es.length es e W hk hm (Nat.le_trans hB hW.size) (HO.out.later hW)).mono fun r w' h=>h.from hW hB
   clear hbx
   go_wp2_with fail
   go_quiet (fail)
   go_wp2_with fail
   refine(HC.out _ HX.out.drewN).mono ?_
   rintro r w'⟨v',rfl,h2,h3,h4,h5⟩
   go_wp2
   go_ret
   exact⟨v',rfl,h2,h3,h4,h5⟩
structure Sl where
 a:Option Addr
 n:Nat
 c:Nat
instance:Inhabited Sl:=⟨⟨none,0,0⟩⟩
def slV(s:Sl):Value:=.slice s.a s.n s.c
def ZbT(s:Sl):List Value:=[.slice s.a s.n s.c]
theorem ZcX(s:Sl):(ZbT s).length=1:=rfl
theorem ZhA(s:Sl):∀v∈ZbT s,v.oneCell'=true:=by
 intro v hv
 simp[ZbT]at hv
 subst hv
 rfl
def LvAt(w:World)(a:Option Addr)(m:List (List Ev)):Prop:=
 ∃ss:List Sl,ss.length=m.length/\RowAt w a 1 ZbT ss/\∀i (h:i<ss.length),ss[i].n=(m.getD i []).length/\EvsAt w ss[i].a (m.getD i [])/\(ss[i].a=none->ss[i].c=0)/\ss[i].n<=ss[i].c
theorem LvAt.later{w w':World}{a:Option Addr}{m:List (List Ev)}(h:LvAt w a m)(hb:Below w.heap.size w w'):LvAt w' a m:=by
 obtain⟨ss,h1,h2,h3⟩:=h
 exact⟨ss,h1,h2.later hb,fun i hi=>⟨(h3 i hi).1,(h3 i hi).2.1.later hb,(h3 i hi).2.2⟩⟩
structure OwnLv(w:World)(B:Nat)(v:Value)(ss:List Sl)(m:List (List Ev)):Prop where
 len:ss.length=m.length
 outer:Zae w B 95 1 ZbT v ss
 inner:∀i (h:i<ss.length),OwnE w B (slV ss[i]) (m.getD i [])
 apart:∀i j (hi:i<ss.length) (hj:j<ss.length),i≠j->(slV ss[i]).ownBlock=none∨(slV ss[i]).ownBlock≠(slV ss[j]).ownBlock
theorem OwnLv.later{w w':World}{B:Nat}{v:Value}{ss:List Sl}{m:List (List Ev)}(h:OwnLv w B v ss m)(hb:Below w.heap.size w w'):OwnLv w' B v ss m:=
 ⟨h.len,h.outer.later hb,fun i hi=>(h.inner i hi).later hb,h.apart⟩
theorem ZdH(w:World)(B:Nat):OwnLv w B (.slice none 0 0) [] []:=⟨rfl,Za5 _ _ _ _ _,fun i hi=>absurd hi (by simp),fun i _ hi=>absurd hi (by simp)⟩
theorem OwnE.sl{w:World}{B:Nat}{s:Sl}{es:List Ev}(h:OwnE w B (slV s) es)(hm:es.length<=1000000):s.n=es.length/\EvsAt w s.a es/\(s.a=none->s.c=0)/\s.n<=s.c:=by
 have h0:=h
 obtain⟨a,cap,e,he⟩:=OwnE.form h hm
 unfold slV at e
 injection e with e1 e2 e3
 refine⟨e2,by rw[e1];exact he,fun hn=>?_,?_⟩
 ·obtain⟨_,⟨h2,_⟩|⟨g,cap',cur,h2,_⟩⟩:=h0
  ·unfold slV at h2
   injection h2
  ·unfold slV at h2
   injection h2 with h2
   rw[hn]at h2
   cases h2
 ·obtain⟨_,⟨h2,_⟩|⟨g,cap',cur,h2,_,_,h5,_⟩⟩:=h0
  ·unfold slV at h2
   injection h2 with _ h3 h4
   omega
  ·unfold slV at h2
   injection h2 with _ h3 h4
   omega
theorem OwnLv.form{w:World}{B:Nat}{v:Value}{ss:List Sl}{m:List (List Ev)}(h:OwnLv w B v ss m)(hm:m.length<=1000)(hi:∀i,i<m.length->(m.getD i []).length<=1000):
  ∃a cap,v=.slice a m.length cap/\LvAt w a m/\(a=none->cap=0):=by
 obtain⟨a,cap,h1,h2,h3⟩:=Zae.form h.outer ZcX (by rw[h.len];omega)
 rw[h.len]at h1
 refine⟨a,cap,h1,⟨ss,h.len,h2,fun i hi'=>?_⟩,h3⟩
 exact OwnE.sl (h.inner i hi') (by have:=hi i (by rw[<-h.len];exact hi');omega)
theorem EvsAt.cellAt{w:World}{b o:Nat}{es:List Ev}(h:EvsAt w (some ⟨b,o,none⟩) es)(j:Nat)(u:Value)(hj:(Zah es)[j]?=some u):w.cell? (Addr.add ⟨b,o,none⟩ j)=some u:=by
 have hjl:j<es.length*4:=by
  have:=(List.getElem?_eq_some_iff.1 hj).1
  rw[Zas]at this
  exact this
 obtain⟨b',o',e,hc⟩:=h.2 (by rintro rfl;simp at hjl)
 injection e with e
 injection e with e1 e2
 subst e1 e2
 have hi:j/4<es.length:=by omega
 have hg:=ZcC es (j/4) (j%4) hi (by omega)
 rw[show j/4*4+j%4=j by omega,hj]at hg
 have ha:Addr.add ⟨b,o,none⟩ j=⟨b,o+j,none⟩:=by unfold Addr.add;split <;> simp_all
 rw[ha]
 obtain⟨c0,c1,c2,c3⟩:=hc (j/4) hi
 rcases (by omega:j%4=0∨j%4=1∨j%4=2∨j%4=3)with hr|hr|hr|hr <;> rw[hr]at hg <;> simp[ZaL]at hg <;> subst hg
 ·rw[<-c0];congr 2;omega
 ·rw[<-c1];congr 2;omega
 ·rw[<-c2];congr 2;omega
 ·rw[<-c3];congr 2;omega
theorem wp_copyE{w:World}{o:Oper}{a:Act}{K:Act->World->Prop}{Q:Exit->Act->World->Prop}(s x:Operand)
  (ho:o.op=.call { callee:=.builtin .append,args:=#[s,x],argTypes:=#[95,95] }) (B:Nat) (v:Value) (es:List Ev) (hs:a.eval s=v) (hown:OwnE w B v es)
  (ra:Option Addr) (rcap:Nat) (row:List Ev) (hx:a.eval x=.slice ra row.length rcap) (hrow:EvsAt w ra row) (hra:ra=none->rcap=0/\row=[])
  (hlen:es.length+row.length<=1000000) (hB:B<=w.heap.size)
  (h:∀v' w',OwnE w' B v' (es++row)->Below B w w'->K (a.put o.dst v') w'):Oper.wp Tryz.prog o a w K Q:=by
 have hinfo:(Tryz.prog.info? 112).map (fun i=>(i.zero,i.size,i.bytes))=some (some (.agg #[.int .i64 0,.int .i64 0,.int .i64 0,.bool false]),4,32):=by kernel_rfl
 obtain⟨i,hi,hzz⟩:=Option.map_eq_some_iff.1 hinfo
 simp only[Prod.mk.injEq]at hzz
 obtain⟨hz,hsz,hby⟩:=hzz
 cases ra with
 |none=>
  obtain⟨rfl,rfl⟩:=hra rfl
  have hrun:=run_append_owned_none (P:=Tryz.prog) (w:=w) B 95 o.type 112 i 4 Tryz.underlying95 hi v es.length (Zah es) hown
  have hK:=h v w (by rw[List.append_nil];exact hown) (Below.refl _ _)
  unfold Oper.wp
  simp[execOp,ho,resolve,invoke,builtin,hs,hx,hrun,Result.andThen]
  exact hK
 |some ad=>
  by_cases hne:row=[]
  ·subst hne
   refine wp_append_own w s x 95 ho B 112 i (.agg #[.int .i64 0,.int .i64 0,.int .i64 0,.bool false]) 4 32 Tryz.underlying95 hi hz hsz hby rfl (by decide) v es.length (Zah es) hs hown ad 0 rcap [] hx (by simp) (by simp) (by simp) (by unfold maxLen;omega) (by omega) hB ?_
   intro v' w' h1 h2 _
   refine h v' w' ?_ ((Below.refl B w).grown h2 hB (fun k hk=>(World.ownsRow.lt hown k hk).1))
   unfold OwnE
   simpa using h1
  ·obtain⟨b,o',e,hc⟩:=hrow.2 hne
   injection e with e
   subst e
   refine wp_append_own w s x 95 ho B 112 i (.agg #[.int .i64 0,.int .i64 0,.int .i64 0,.bool false]) 4 32 Tryz.underlying95 hi hz hsz hby rfl (by decide) v es.length (Zah es) hs hown ⟨b,o',none⟩ row.length rcap (Zah row) hx (by rw[Zas]) (fun j u hj=>hrow.cellAt j u hj)
    (ZcB _) (by unfold maxLen;omega) (by omega) hB ?_
   intro v' w' h1 h2 _
   refine h v' w' ?_ ((Below.refl B w).grown h2 hB (fun k hk=>(World.ownsRow.lt hown k hk).1))
   unfold OwnE
   rw[List.length_append,ZaO]
   exact h1
theorem Zjp{w:World}{ops:Array Oper}{rest:List Oper}{o:Oper}{a:Act}{Q:Exit->Act->World->Prop}(hgd:o.guard=none)(s x:Operand)
  (ho:o.op=.call { callee:=.builtin .append,args:=#[s,x],argTypes:=#[95,95] }) (B:Nat) (v:Value) (es:List Ev) (hs:a.eval s=v) (hown:OwnE w B v es)
  (ra:Option Addr) (rcap:Nat) (row:List Ev) (hx:a.eval x=.slice ra row.length rcap) (hrow:EvsAt w ra row) (hra:ra=none->rcap=0/\row=[])
  (hlen:es.length+row.length<=1000000) (hB:B<=w.heap.size)
  (h:∀v' w',OwnE w' B v' (es++row)->Below B w w'->wpList Tryz.prog ops Q rest (a.put o.dst v') w'):wpList Tryz.prog ops Q (o::rest) a w:=
 wpList_plain hgd fun _ hK=>wp_copyE s x ho B v es hs hown ra rcap row hx hrow hra hlen hB fun v' w' h1 h2=>hK _ _ (h v' w' h1 h2)
theorem ZhQ(w W:World)(h:W.heap=(w.alloc (.cells #[] 112)).heap):OwnE W w.heap.size (.slice (some ⟨w.heap.size,0,none⟩) 0 0) []:=by
 have h0:(w.alloc (.cells #[] 112)).ownsRow w.heap.size 112 4 (.slice (some ⟨w.heap.size,0,none⟩) 0 0) 0 []:=World.ownsRow_made w #[] 0 (Nat.le_refl _) (by simp[maxLen]) rfl
 obtain⟨h1,h2|⟨g,cap,cur,h2,h3,h4,h5⟩⟩:=h0
 ·exact⟨h1,.inl h2⟩
 ·exact⟨h1,.inr ⟨g,cap,cur,h2,h3,by rw[h];exact h4,h5⟩⟩
theorem LvAt.one{w:World}{a:Option Addr}{m:List (List Ev)}(h:LvAt w a m){k:Nat}(hk:k<m.length):
  ∃b o sa sc,a=some ⟨b,o,none⟩/\w.cell? ⟨b,o+k,none⟩=some (.slice sa (m.getD k []).length sc)/\EvsAt w sa (m.getD k [])/\(sa=none->sc=0):=by
 obtain⟨ss,h1,h2,h3⟩:=h
 have hks:k<ss.length:=by omega
 obtain⟨b,o,rfl,hc⟩:=h2.2 (by intro e;simp[e]at hks)
 have h4:=hc k hks 0 _ rfl
 rw[Nat.mul_one,Nat.add_zero]at h4
 obtain⟨h5,h6,h7,_⟩:=h3 k hks
 rw[h5]at h4
 exact⟨b,o,_,_,rfl,h4,h6,h7⟩
theorem evsAt_none{w:World}{l:List Ev}(h:EvsAt w none l):l=[]:=by
 apply Classical.byContradiction
 intro hn
 obtain⟨b,o,e,_⟩:=h.2 hn
 cases e
theorem flat_take(m:List (List Ev)){k:Nat}(hk:k<m.length):(m.take (k+1)).flatten=(m.take k).flatten++m.getD k []:=by
 rw[List.take_add_one,List.getElem?_eq_getElem hk,List.flatten_append,Zav _ hk]
 simp
theorem flat_le(m:List (List Ev))(k:Nat):(m.take k).flatten.length<=m.flatten.length:=by
 conv=>rhs;rw[<-List.take_append_drop k m]
 rw[List.flatten_append,List.length_append]
 omega
theorem ZdF{w:World}{B B':Nat}{t:TypeId}{n m:Nat}{v:Value}{xs:List Value}(h:w.ownsRow B t n v m xs)(hB:B'<=B):w.ownsRow B' t n v m xs:=by
 obtain⟨h1,h2|⟨g,cap,cur,h2,h3,h4⟩⟩:=h
 ·exact⟨h1,.inl h2⟩
 ·exact⟨h1,.inr ⟨g,cap,cur,h2,Nat.le_trans hB h3,h4⟩⟩
def RowR(w:World)(l:List Ev)(r:Ending)(w':World):Prop:=∃v,r=.returned v/\OwnE w' w.heap.size v l/\Below w.heap.size w w'

theorem ahead_any(x e:Ev)(g:Nat)(w:World)(hb:EvBox w g e):
  Calls Tryz.prog 192 #[.agg #[.int .i64 x.thread,.int .i64 x.kind,.int .i64 x.obj,.bool x.fail],.pointer (some ⟨g,0,none⟩)] w fun r w'=>r=.returned (.bool (dep x e))/\Below w.heap.size w w':=by
 have hba:=Zaa w (.cells #[.int .i64 x.thread,.int .i64 x.kind,.int .i64 x.obj,.bool x.fail] 112)
 obtain⟨c0,c1,c2,c3⟩:=(hb.later hba).cells
 obtain⟨d0,d1,d2,d3⟩:=(EvBox.new w x).cells
 clear hb
 go_enter Tryz.func192,Tryz.ntmps192
 go_wp2_with fail
 refine(Zdm x e _).mono ?_
 rintro r w'⟨rfl,hb'⟩
 have hB:=hba.trans (hb'.mono hba.size)
 go_wp2
 go_ret
 exact⟨rfl,hB⟩
def IdxR(es:List Ev)(e:Ev)(w:World)(r:Ending)(w':World):Prop:=∃z:Int,r=.returned (.int .i64 z)/\decide (0<=z)=es.any (fun x=>dep x e)/\Below w.heap.size w w'
theorem indexE_any(a:Option Addr)(cap:Nat)(es:List Ev)(e:Ev)(g:Nat)(w:World)(hl:EvsAt w a es)(hb:EvBox w g e):
  Calls Tryz.prog 215 #[.slice a es.length cap,.func (.func 192) #[] #[.pointer (some ⟨g,0,none⟩)]] w (IdxR es e w):=by
 have hm:=hl.1
 unfold maxLen at hm
 have HL:=Lib.hid hl
 have HB:=Lib.hid hb
 clear hl hb
 go_enter Tryz.func215,Tryz.ntmps215
 go_wp2
 go_loopw [8] (fun i wr=>∃k:Nat,k<=es.length/\i=.int .i64 k/\Hid (∀j (h:j<es.length),j<k->dep es[j] e=false)/\Below w.heap.size w wr) (fun i _=>es.length-(intOf i).toNat)
 case atStart=>exact⟨0,Nat.zero_le _,rfl,(fun j _ h=>absurd h (by omega)),Below.refl _ _⟩
 case round=>
  obtain⟨k,hk,rfl,HA,hbw⟩:=hrel
  by_cases hlt:k<es.length
  ·obtain⟨b,o,rfl,hc⟩:=HL.out.2 (by intro e;simp[e]at hlt)
   obtain⟨c0,c1,c2,c3⟩:=hc k hlt
   have d0:=Zab hbw c0
   have d1:=Zab hbw c1
   have d2:=Zab hbw c2
   have d3:=Zab hbw c3
   have HX:=Lib.hid (HB.out.later hbw)
   have h1:Hid (dep es[k] e=true->es.any (fun x=>dep x e)=true):=fun h=>List.any_eq_true.2 ⟨_,List.getElem_mem hlt,h⟩
   have h2:Hid (dep es[k] e=false->∀j (h:j<es.length),j<k+1->dep es[j] e=false):=fun h j hj hjk=>by
    by_cases e':j=k
    ·subst e';exact h
    ·exact HA.out j hj (by omega)
   clear hc c0 c1 c2 c3
   generalize es[k]=x at *
   go_wp2_with fail
   refine(ahead_any x e g _ HX.out).mono ?_
   rintro r w2⟨rfl,hb5⟩
   have hb6:=hbw.trans (hb5.mono hbw.size)
   clear hb5
   cases hr:dep x e
   ·have HN:=Lib.hid (h2.out hr)
    clear h1 h2
    go_wp2
    go_roundw
    case rel=>exact⟨k+1,by omega,by go_num,HN,hb6⟩
    case measure=>simp[intOf];omega
   ·have HN:=Lib.hid (h1.out hr)
    clear h1 h2
    go_wp2
    go_ret
    exact⟨k,rfl,by rw[HN.out];simp,hb6⟩
  ·have HN:Hid (es.any (fun x=>dep x e)=false):=by
    show _=_
    rw[List.any_eq_false]
    intro x hx
    obtain⟨j,hj,rfl⟩:=List.mem_iff_getElem.1 hx
    rw[HA.out j hj (by omega)]
    simp
   obtain rfl:k=es.length:=by omega
   go_wp2
   go_ret
   exact⟨-1,rfl,by rw[HN.out];simp,hbw⟩
theorem Zjc(a:Option Addr)(cap:Nat)(es:List Ev)(e:Ev)(g:Nat)(w:World)(hl:EvsAt w a es)(hb:EvBox w g e):
  Calls Tryz.prog 191 #[.slice a es.length cap,.func (.func 192) #[] #[.pointer (some ⟨g,0,none⟩)]] w fun r w'=>r=.returned (.bool (es.any fun x=>dep x e))/\Below w.heap.size w w':=by
 have H:=Lib.hid (indexE_any a cap es e g w hl hb)
 clear hl hb
 go_enter Tryz.func191,Tryz.ntmps191
 go_wp2_with fail
 refine H.out.mono ?_
 rintro r w'⟨z,rfl,hz,hb'⟩
 have HZ:=Lib.hid hz
 clear hz
 go_wp2
 go_ret
 exact⟨Zag HZ.out,hb'⟩
end Go.Proofs.YtjfmmnhcddckaaaGreat
namespace Go.Proofs.YtjfmmnhcddckaaaGreat
open Go.RowKit Go.Shelf
def upto{T:Type}(f:Nat->T)(k:Nat):List T:=(List.range k).map f
theorem Zgi{T:Type}(f:Nat->T)(k:Nat):upto f (k+1)=upto f k++[f k]:=by simp[upto,List.range_succ]
theorem Zk3{T:Type}(f:Nat->T)(k:Nat):(upto f k).length=k:=by simp[upto]
def Backs(n k:Nat)(pre:List (Fin n)):Prop:=pre.map (fun q=>q.val)=upto (fun k=>n-1-k) k
theorem ZkW(n:Nat):Backs n 0 []:=rfl
theorem Backs.len{n k:Nat}{pre:List (Fin n)}(h:Backs n k pre):pre.length=k:=by
 have:=congrArg List.length h
 simpa [Zk3]using this
theorem Backs.snoc{n k:Nat}{pre:List (Fin n)}(h:Backs n k pre){q:Fin n}(hq:q.val=n-1-k):Backs n (k+1) (pre++[q]):=by
 unfold Backs at *
 rw[List.map_append,h,Zgi]
 simp[hq]
theorem Backs.mem{n k:Nat}{pre:List (Fin n)}(h:Backs n k pre){j:Nat}(hj:n-k<=j)(hjn:j<n)(hk:k<=n):(⟨j,hjn⟩:Fin n)∈pre:=by
 have h1:j∈pre.map (fun q=>q.val):=by
  unfold Backs at h
  rw[h]
  unfold upto
  rw[List.mem_map]
  exact⟨n-1-j,by rw[List.mem_range];omega,by omega⟩
 obtain⟨q,hq,e⟩:=List.mem_map.1 h1
 have:q=⟨j,hjn⟩:=Fin.ext e
 rw[<-this]
 exact hq
theorem MidAt.keptRow{w w':World}{g:Nat}{t:TypeId}{xs:List Value}{row:Option Nat}(h:MidAt w g t xs)(hg:w.grownBy w' row)(hr:∀r,row=some r->∃o:Obj,w.heap[r]?=some o/\o.isCells=false):MidAt w' g t xs:=by
 refine(hg.block g h.lt fun e=>?_).trans h
 obtain⟨o,ho,hc⟩:=hr g e.symm
 unfold MidAt at h
 rw[h]at ho
 cases ho
 cases hc
attribute [local go_sem] Oper.semAt_some
def backL(cs:List Sl)(q:Fin cs.length):Array Value:=#[.int .i64 (q.val:Int),.slice cs[q.val].a cs[q.val].n cs[q.val].c]
theorem backL1_in(F:Fence)(n:Nat)(h7:F.fn 214)(hro:F.round=none)(hn:1<=n)(l Bs n₀:Nat)(a:Option Addr)(cap:Nat)(cs:List Sl)(hreach:cs.length<=1000)(hbs:Bs<n₀)
  (J Jx:List (Fin cs.length)->World->Prop)
  (hY:∀pre x W,J pre W->pre.length<cs.length->YieldAt F (n-1) Tryz.prog l (backL cs x) W fun e W'=>(e=.returned (.bool true)/\J (pre++[x]) W'/\Below n₀ W W')∨(e=.returned (.bool false)/\Jx (pre++[x]) W'))
  (W:World) (hBs:W.cell? ⟨Bs,0,none⟩=some (.slice a cs.length cap)) (hrow:RowAt W a 1 ZbT cs) (hb:0<cs.length->∀b o,a=some ⟨b,o,none⟩->b<n₀) (h0:J [] W):
  CallsIn F n Tryz.prog 214 #[.func (.yield l) #[] #[],.pointer (some ⟨Bs,0,none⟩)] W fun e W'=>(∃v,e=.returned v) /\
   ((∃ys,Backs cs.length cs.length ys/\J ys W')∨(∃pre,(∃k,k<=cs.length/\Backs cs.length k pre)/\Jx pre W')):=by
 refine callsIn_of_wp Tryz.func214 rfl h7 ?_ hro
 simp only[Tryz.ntmps214,List.size_toArray,List.length_cons,List.length_nil,Nat.reduceAdd,Nat.reduceSub,Array.replicate_succ,Array.replicate_zero,List.push_toArray,List.append_toArray,List.nil_append,List.cons_append]
 gi_wp2
 gi_loopw [3] (fun i wr=>∃(k:Nat) (z:Int) (pre:List (Fin cs.length)),k<=cs.length/\i=.int .i64 z/\Hid (z=(cs.length:Int)-1-k)/\Hid (Backs cs.length k pre)/\J pre wr/\Below n₀ W wr) (fun i _=>(intOf i+1).toNat)
 case atStart=>exact⟨0,_,[],Nat.zero_le _,rfl,(by show _=_;omega),ZkW _,h0,Below.refl _ _⟩
 case round=>
  obtain⟨k,z,pre,hk,rfl,HZ,HP,hJs,hnx⟩:=hrel
  have cBs:=(hnx.cell (p:=⟨Bs,0,none⟩) hbs).trans hBs
  by_cases hlt:k<cs.length
  ·obtain⟨b,o,rfl,hcell⟩:=hrow.2 (by intro e;simp[e]at hlt)
   have hbn:=hb (by omega) b o rfl
   obtain⟨q,hq⟩:∃q:Nat,q=cs.length-1-k:=⟨_,rfl⟩
   obtain rfl:z=(q:Int):=by have:=HZ.out;omega
   have hql:q<cs.length:=by omega
   have c0:wr.cell? ⟨b,o+q,none⟩=some (.slice cs[q].a cs[q].n cs[q].c):=by
    have h:=(hnx.cell (p:=⟨b,o+q*1+0,none⟩) hbn).trans (hcell q hql 0 _ rfl)
    rw[Nat.mul_one,Nat.add_zero]at h
    exact h
   obtain⟨fn,tmps,assign,body,hy,hR⟩:=hY pre ⟨q,hql⟩ wr hJs (by rw[HP.out.len];exact hlt)
   dsimp only[backL]at hy
   have HQ:=Lib.hid hq
   have HP2:Hid (Backs cs.length (k+1) (pre++[⟨q,hql⟩])):=HP.out.snoc hq
   clear hcell hq
   gi_wp2
   refine hR.mono ?_
   rintro e W3 (⟨rfl,hJ3,hk3⟩|⟨rfl,hJx3⟩)
   ·gi_wp2
    go_roundw
    case rel=>exact⟨k+1,(q:Int)-1,_,by omega,by go_num,(by show _=_;have:=HQ.out;omega),HP2,hJ3,hnx.trans hk3⟩
    case measure=>simp[intOf]
   ·gi_wp2
    refine bodyPost_ret (results_none rfl _ _ _) rfl ?_
    exact⟨⟨_,rfl⟩,.inr ⟨_,⟨k+1,by omega,HP2.out⟩,hJx3⟩⟩
  ·obtain rfl:k=cs.length:=by omega
   obtain rfl:z=-1:=by have:=HZ.out;omega
   gi_wp2
   go_end0
   exact⟨⟨_,rfl⟩,.inl ⟨_,HP.out,hJs⟩⟩
theorem backL_in(F:Fence)(n:Nat)(h5:F.fn 190)(hro:F.round=none)(a:Option Addr)(len cap:Nat)(w:World):
  CallsIn F n Tryz.prog 190 #[.slice a len cap] w fun e w'=>e=.returned (.func (.func 214) #[] #[.pointer (some ⟨w.heap.size,0,none⟩)])/\w'=w.alloc (.cells #[.slice a len cap] 178):=by
 refine callsIn_of_wp Tryz.func190 rfl h5 ?_ hro
 simp only[Tryz.ntmps190,List.size_toArray,List.length_cons,List.length_nil,Nat.reduceAdd,Nat.reduceSub,Array.replicate_succ,Array.replicate_zero,List.push_toArray,List.append_toArray,List.nil_append,List.cons_append]
 gi_wp2
 go_ret
 exact⟨rfl,rfl⟩
theorem Zme(F:Fence)(n:Nat)(h7:F.fn 214)(hro:F.round=none)(hn:1<=n)(Bs n₀:Nat)(a:Option Addr)(cap:Nat)(cs:List Sl)(hreach:cs.length<=1000)(w:World)(hbs:Bs<n₀)(hn₀:n₀<=w.heap.size)
  (hc:w.cell? ⟨Bs,0,none⟩=some (.slice a cs.length cap)) (hrow:RowAt w a 1 ZbT cs) (hb:0<cs.length->∀b o,a=some ⟨b,o,none⟩->b<n₀):
  SeqStopsK F n Tryz.prog 214 #[.pointer (some ⟨Bs,0,none⟩)] (backL cs) (Below n₀) (fun ys=>Backs cs.length cs.length ys) (fun pre=>∃k,k<=cs.length/\Backs cs.length k pre) cs.length w:=fun l J Jx W hW _ _ hY h0=>by
 have hc':=(hW.cell (p:=⟨Bs,0,none⟩) (show Bs<w.heap.size by omega)).trans hc
 exact backL1_in F n h7 hro hn l Bs n₀ a cap cs hreach hbs J Jx hY W hc' (hrow.later hW) hb h0
attribute [local go_sem] Oper.semAt_some
def hasD(m:List (List Ev))(e:Ev)(i:Nat):Bool:=(m.getD i []).any fun x=>dep x e
theorem lvN_is{m:List (List Ev)}{e:Ev}{q:Nat}(hq:q<m.length)(h:hasD m e q=true)(h2:∀j,q<j->j<m.length->hasD m e j=false):lvN m e=q+1:=by
 have h1:q<lvN m e:=Zhx (f:=fun i=>i+1) (q:=fun i=>(m.getD i []).any fun x=>dep x e) hq h
 rcases Zek (f:=fun i=>i+1) (q:=fun i=>(m.getD i []).any fun x=>dep x e) (n:=m.length)with h0|⟨j,hj,hj2,hj3⟩
 ·have:lvN m e=0:=h0
  omega
 ·have h3:lvN m e=j+1:=hj3
  by_cases e':j=q
  ·omega
  ·have h4:=h2 j (by omega) hj
   unfold hasD at h4
   rw[h4]at hj2
   cases hj2
theorem lvN_zero{m:List (List Ev)}{e:Ev}(h:∀j,j<m.length->hasD m e j=false):lvN m e=0:=by
 rcases Zek (f:=fun i=>i+1) (q:=fun i=>(m.getD i []).any fun x=>dep x e) (n:=m.length)with h0|⟨j,hj,hj2,_⟩
 ·exact h0
 ·have h4:=h j hj
  unfold hasD at h4
  rw[h4]at hj2
  cases hj2
def NoD(m:List (List Ev))(e:Ev){n:Nat}(pre:List (Fin n)):Prop:=∀q∈pre,hasD m e q.val=false
theorem NoD.snoc{m:List (List Ev)}{e:Ev}{n:Nat}{pre:List (Fin n)}(h:NoD m e pre){q:Fin n}(hq:hasD m e q.val=false):NoD m e (pre++[q]):=by
 intro x hx
 rcases List.mem_append.1 hx with hx|hx
 ·exact h x hx
 ·simp at hx
  rw[hx]
  exact hq
theorem Zku{W W':World}(h:Below W.heap.size W W'):KeepsOthers W W':=⟨h.size,fun k _ ho _=>(h.block k (Array.getElem?_eq_some_iff.1 ho).1).trans ho⟩
theorem ZlK(a:Option Addr)(cap:Nat)(m:List (List Ev))(e:Ev)(w:World)(hl:LvAt w a m)(hm:m.length<=1000):
  Calls Tryz.prog 167 #[.slice a m.length cap,.agg #[.int .i64 e.thread,.int .i64 e.kind,.int .i64 e.obj,.bool e.fail]] w fun r w'=>r=.returned (.int .i64 (lvN m e))/\Below w.heap.size w w':=by
 obtain⟨ss,hsl,hrow,hin⟩:=hl
 have HIN:=Lib.hid hin
 have HSL:=Lib.hid hsl
 clear hin
 have hsm:ss.length<=1000:=by omega
 rw[<-hsl]
 clear hsl hm
 refine(callsIn_wide (n:=3)).1 ?_
 have h1:1<=3:=by omega
 refine callsIn_of_wp_marks Tryz.func167 rfl trivial ?_ rfl
 simp only[Tryz.ntmps167,List.size_toArray,List.length_cons,List.length_nil,Nat.reduceAdd,Nat.reduceSub,Array.replicate_succ,Array.replicate_zero,List.push_toArray,List.append_toArray,List.nil_append,List.cons_append]
 have hb0:=Zak w (.cells #[.int .i64 e.thread,.int .i64 e.kind,.int .i64 e.obj,.bool e.fail] 112) (.cells #[.int .i64 0] 3)
 have hsz:((w.alloc (.cells #[.int .i64 e.thread,.int .i64 e.kind,.int .i64 e.obj,.bool e.fail] 112)).alloc (.cells #[.int .i64 0] 3)).heap.size=w.heap.size+1+1:=by simp
 have HBX:Hid (EvBox ((w.alloc (.cells #[.int .i64 e.thread,.int .i64 e.kind,.int .i64 e.obj,.bool e.fail] 112)).alloc (.cells #[.int .i64 0] 3)) w.heap.size e):=(EvBox.new w e).later (Zaa _ _)
 have HR:Hid (MidAt ((w.alloc (.cells #[.int .i64 e.thread,.int .i64 e.kind,.int .i64 e.obj,.bool e.fail] 112)).alloc (.cells #[.int .i64 0] 3)) (w.heap.size+1) 3 [.int .i64 0]):=heap_alloc2_new w _ _
 gi_wp2_with fail
 generalize (w.alloc (.cells #[.int .i64 e.thread,.int .i64 e.kind,.int .i64 e.obj,.bool e.fail] 112)).alloc (.cells #[.int .i64 0] 3)=W0 at *
 refine⟨trivial,?_⟩
 refine(backL_in Fence.wide _ trivial rfl _ _ _ _).mono ?_
 rintro r w'⟨rfl,rfl⟩
 have hb2:=Zaa W0 (.cells #[.slice a ss.length cap] 178)
 have hB2:Below w.heap.size w (W0.alloc (.cells #[.slice a ss.length cap] 178)):=hb0.trans (hb2.mono hb0.size)
 have hbs:(W0.alloc (.cells #[.slice a ss.length cap] 178)).cell? ⟨W0.heap.size,0,none⟩=some (.slice a ss.length cap):=by simp
 have hrow2:=hrow.later hB2
 have hbk:0<ss.length->∀b o,a=some ⟨b,o,none⟩->b<W0.heap.size+1:=by
  rintro h b o rfl
  obtain⟨b',o',e,hc⟩:=hrow.2 (by intro e;rw[e]at h;simp at h)
  cases e
  have h2:b<w.heap.size:=Zan (hc 0 h 0 _ rfl)
  have:=hb0.size
  omega
 have HR0:=Lib.hid (HR.out.later hb2)
 have HBX0:=Lib.hid (HBX.out.later hb2)
 have hsl:(W0.alloc (.cells #[.slice a ss.length cap] 178)).heap.size=W0.heap.size+1:=by simp
 gi_wp2
 generalize W0.alloc (.cells #[.slice a ss.length cap] 178)=Wl at *
 rw[hsz]at hbs hsl
 refine wpIn_rangeFunc_ownH rfl h1 (gf:=214) (lb:=#[.pointer (some ⟨w.heap.size+1+1,0,none⟩)]) rfl trivial (enters_of Tryz.func214 (by kernel_rfl) rfl)
  (Zme Fence.wide (3-1) trivial rfl (by omega) (w.heap.size+1+1) (w.heap.size+1+1+1) a cap ss hsm Wl (by omega) (by omega) hbs hrow2 (fun h b o hb=>by have:=hbk h b o hb;omega)) belowK_t (belowK_b (by omega)) (Below.refl _ _) (fun _=>rfl)
  (fun pre W=>NoD m e pre/\Below Wl.heap.size Wl W)
  (fun c pre W=>(c=.ret/\∃ini last,pre=ini++[last]/\NoD m e ini/\hasD m e last.val=true/\MidAt W (w.heap.size+1) 3 [.int .i64 ((last.val:Int)+1)])/\Below w.heap.size w W)
  (OwnFrom.and (ownFrom_pure _ (fun pre=>NoD m e pre)) (ownFrom_below (Nat.le_refl _) (by omega)))
  (fun c=>OwnFrom.and (Own.from (fun s A B row hs hg hr=>by obtain⟨hc,ini,last,e1,e2,e3,e4⟩:=hs;exact⟨hc,ini,last,e1,e2,e3,e4.keptRow hg hr⟩) _) (ownFrom_below (Nat.le_refl _) (by omega)))
  ⟨(fun q hq=>absurd hq (by simp)),Below.refl _ _⟩
  (fun x a'' _=>a''={ tmps:=#[.slice a ss.length cap,.agg #[.int .i64 e.thread,.int .i64 e.kind,.int .i64 e.obj,.bool e.fail],undef,.pointer (some ⟨w.heap.size,0,none⟩),.pointer (some ⟨w.heap.size+1,0,none⟩),.int .i64 (x.val:Int),.slice ss[x.val].a ss[x.val].n ss[x.val].c,.slice a ss.length cap,.func (.func 214) #[] #[.pointer (some ⟨w.heap.size+1+1,0,none⟩)],.int .i64 (x.val:Int),.slice ss[x.val].a ss[x.val].n ss[x.val].c,undef,undef,undef,undef,undef],defers:=[] })
  (fun x a'' _ X Y row hs hg hr=>hs)
  ?assign ?body ?done ?stop
 case assign=>
  rintro l1 pre x W K⟨hN,hB⟩ hK
  dsimp only[backL]
  gi_wp2
  exact hK _ _ ((KeepsOthers.refl W).from _) (Below.refl _ W) ⟨hN,hB⟩ rfl
 case body=>
  rintro l1 pre x a'' W hl⟨r,hr⟩⟨hN,hB⟩ rfl hlt
  have HX:=Lib.hid (HBX0.out.later hB)
  have HRX:=Lib.hid (HR0.out.later hB)
  have hBw:=hB2.trans (hB.mono hB2.size)
  obtain⟨hn1,hn2,_⟩:=HIN.out x.val x.isLt
  have HC:=Lib.hid (Zjc ss[x.val].a ss[x.val].c (m.getD x.val []) e w.heap.size W (hn2.later hBw) HX.out)
  rw[<-hn1]at HC
  have HN:=Lib.hid hN
  have hf:=HRX.out.frozen 0
  have hz:=HRX.out.cell 0
  clear hN hn1 hn2
  gi_wp2_with fail
  refine⟨trivial,?_⟩
  refine(callsIn_wide.2 HC.out).mono ?_
  rintro r W2⟨rfl,hb3⟩
  have hks:KeepsOthers W W2:=Zku hb3
  have hB3:=hB.trans (hb3.mono hB.size)
  have hBw3:=hB2.trans (hB3.mono hB2.size)
  have HRX3:=Lib.hid (HRX.out.later hb3)
  have hf3:=HRX3.out.frozen 0
  have hz3:W2.cell? ⟨w.heap.size+1,0,none⟩=some (.int .i64 0):=HRX3.out.cell 0
  have hx1000:(x.val:Int)<1000:=by have:=x.isLt;omega
  have hx0:(0:Int)<=x.val:=by omega
  clear hf hz
  cases hd:(m.getD x.val []).any fun x=>dep x e
  ·have HN2:Hid (NoD m e (pre++[x])):=HN.out.snoc hd
   clear hd
   gi_wp2
   exact⟨hks.from _,hb3.mono (by have:=hB.size;omega),HN2.out,hB3⟩
  ·have HD:Hid (hasD m e x.val=true):=hd
   clear hd
   gi_wp2
   refine⟨(hks.trans (KeepsOthers.setCell _ _ _)).from _,⟨rfl,pre,x,rfl,HN.out,HD.out,?_⟩,hBw3.setCell (p:=⟨w.heap.size+1,0,none⟩) (by simp) _⟩
   exact MidAt.set HRX3.out 0 _
 case done=>
  rintro D ys W hD hys⟨hN,hB⟩ hK
  have HZ:=Lib.hid (HR0.out.later hB)
  have hBw:=hB2.trans (hB.mono hB2.size)
  have z0:W.cell? ⟨w.heap.size+1,0,none⟩=some (.int .i64 0):=HZ.out.cell 0
  have f0:=HZ.out.frozen 0
  have HIS:Hid (lvN m e=0):=lvN_zero fun j hj=>by
   have hjs:j<ss.length:=by rw[HSL.out];exact hj
   exact hN _ (hys.mem (j:=j) (by omega) hjs (Nat.le_refl _))
  clear hN hys
  gi_wp2
  have hK':=(KeepsOthers.setCell W ⟨w.heap.size+1,0,none⟩ (.int .i64 0)).same D _ hK rfl
  have hM:MidAt (W.setCell ⟨w.heap.size+1,0,none⟩ (.int .i64 0)) (w.heap.size+1) 3 [.int .i64 0]:=MidAt.set HZ.out 0 _
  have y0:=(hM.keptRow (grownBy_putObj' _ D (.deferred none)) (fun r e=>by cases e;exact⟨_,hK',rfl⟩)).cell 0
  refine⟨by simp,.inl ⟨_,_,rfl,run_takeDeferred hK',?_⟩⟩
  refine⟨.int .i64 0,?_,(by rw[HIS.out];rfl),(hBw.setCell (p:=⟨w.heap.size+1,0,none⟩) (by simp) _).trans (belowK_b (w:=w) (Nat.le_refl _) _ D _ _ (by omega) hK' rfl rfl)⟩
  simp[results,Tryz.f167,go_sem,y0]
 case stop=>
  rintro D c pre W hD⟨k,hk,hbk2⟩⟨⟨rfl,ini,last,e1,e2,e3,e4⟩,hB⟩ hK
  have HIS:Hid (lvN m e=last.val+1):=by
   have hlen:=hbk2.len
   rw[e1,List.length_append,List.length_singleton]at hlen
   have hm2:pre.map (fun q=>q.val)=upto (fun k=>ss.length-1-k) k:=hbk2
   obtain⟨k',rfl⟩:∃k',k=k'+1:=⟨ini.length,by omega⟩
   rw[e1,List.map_append,Zgi]at hm2
   obtain⟨h5,h6⟩:=List.append_inj' hm2 rfl
   have hlv:last.val=ss.length-1-k':=by simpa using h6
   have hbi:Backs ss.length k' ini:=h5
   have hlt:=last.isLt
   refine lvN_is (by rw[<-HSL.out];exact hlt) e3 fun j hj hjl=>?_
   have hjc:j<ss.length:=by rw[HSL.out];exact hjl
   exact e2 _ (hbi.mem (j:=j) (by omega) hjc (by omega))
  clear e1 e2 e3 hbk2
  gi_wp2
  have y0:=(e4.keptRow (grownBy_putObj' _ D (.deferred none)) (fun r e=>by cases e;exact⟨_,hK,rfl⟩)).cell 0
  refine⟨by simp,.inl ⟨_,_,rfl,run_takeDeferred hK,?_⟩⟩
  refine⟨.int .i64 ((last.val:Int)+1),?_,(by rw[HIS.out];rfl),hB.trans (belowK_b (w:=w) (Nat.le_refl _) W D _ _ (by omega) hK rfl rfl)⟩
  simp[results,Tryz.f167,go_sem,y0]
end Go.Proofs.YtjfmmnhcddckaaaGreat
namespace Go.Proofs.YtjfmmnhcddckaaaGreat
open Go.RowKit
theorem infoSl:(Tryz.prog.info? 95).map (fun i=>(i.zero,i.size,i.bytes))=some (some (.slice none 0 0),1,24):=by kernel_rfl
theorem tyNe:95≠112:=by decide
theorem ZbW{w:World}{B B' n n' m m':Nat}{t t':TypeId}{v v':Value}{xs xs':List Value}(h:w.ownsRow B t n v m xs)(h':w.ownsRow B' t' n' v' m' xs')(hne:t≠t'):v.ownBlock=none∨v.ownBlock≠v'.ownBlock:=by
 obtain⟨_,⟨rfl,_⟩|⟨g,cap,cur,rfl,_,hg,_⟩⟩:=h
 ·exact .inl rfl
 ·right
  obtain⟨_,⟨rfl,_⟩|⟨g',cap',cur',rfl,_,hg',_⟩⟩:=h'
  ·simp[Value.ownBlock]
  ·intro e
   injection e with e
   have e2:g=g':=e
   subst e2
   rw[hg]at hg'
   injection hg' with hg'
   injection hg' with _ h2
   exact hne h2
theorem OwnLv.more{w w':World}{B:Nat}{v v':Value}{ss:List Sl}{m:List (List Ev)}(h:OwnLv w B v ss m)(ho:Zae w' B 95 1 ZbT v' (ss++[⟨none,0,0⟩]))(hg:w.grownBy w' v.ownBlock):
  OwnLv w' B v' (ss++[⟨none,0,0⟩]) (m++[[]]):=by
 refine⟨by simp[h.len],ho,fun i hi=>?_,fun i j hi hj hne=>?_⟩
 ·by_cases hlt:i<ss.length
  ·have e1:(ss++[(⟨none,0,0⟩:Sl)])[i]=ss[i]:=List.getElem_append_left hlt
   have e2:(m++[[]]).getD i []=m.getD i []:=by simp[List.getD,List.getElem?_append_left (show i<m.length by rw[<-h.len];exact hlt)]
   rw[e1,e2]
   refine World.ownsRow.kept (h.inner i hlt) hg ?_
   exact ZbW (h.inner i hlt) h.outer (Ne.symm tyNe)
  ·have e0:i=ss.length:=by simp at hi;omega
   subst e0
   have e1:(ss++[(⟨none,0,0⟩:Sl)])[ss.length]=⟨none,0,0⟩:=by simp
   have e2:(m++[[]]).getD ss.length []=[]:=by rw[h.len];simp[List.getD]
   rw[e1,e2]
   exact Zf1 _ _
 ·by_cases hlt:i<ss.length
  ·have e1:(ss++[(⟨none,0,0⟩:Sl)])[i]=ss[i]:=List.getElem_append_left hlt
   rw[e1]
   by_cases hlj:j<ss.length
   ·have e2:(ss++[(⟨none,0,0⟩:Sl)])[j]=ss[j]:=List.getElem_append_left hlj
    rw[e2]
    exact h.apart i j hlt hlj hne
   ·have e0:j=ss.length:=by simp at hj;omega
    subst e0
    have e2:(ss++[(⟨none,0,0⟩:Sl)])[ss.length]=⟨none,0,0⟩:=by simp
    rw[e2]
    cases hb:(slV ss[i]).ownBlock
    ·exact .inl rfl
    ·exact .inr (by simp[slV,Value.ownBlock])
  ·have e0:i=ss.length:=by simp at hi;omega
   subst e0
   left
   have e1:(ss++[(⟨none,0,0⟩:Sl)])[ss.length]=⟨none,0,0⟩:=by simp
   rw[e1]
   rfl
theorem Zhs(ss:List Sl)(n:Nat)(s:Sl):(Zaq ZbT ss).set n (.slice s.a s.n s.c)=Zaq ZbT (ss.set n s):=by
 induction ss generalizing n with
 |nil=>rfl
 |cons x ss ih=>
  cases n with
  |zero=>rfl
  |succ n=>
   show ZbT x++_=_
   simp only[Zaq,List.flatMap_cons,List.set_cons_succ]at *
   rw[<-ih]
   rfl
theorem OwnLv.put{w w3:World}{B g N cap n:Nat}{ss:List Sl}{m:List (List Ev)}{s':Sl}{es':List Ev}(h:OwnLv w B (.slice (some ⟨g,0,none⟩) N cap) ss m)(hN:N=m.length)(_hn:n<N)(hn2:n<ss.length)
  (ho:OwnE w3 B (slV s') es') (hg:w.grownBy w3 (slV ss[n]).ownBlock) (hb:∀b,(slV s').ownBlock=some b->(slV ss[n]).ownBlock=some b∨w.heap.size<=b):
  OwnLv (w3.setCell ⟨g,n,none⟩ (.slice s'.a s'.n s'.c)) B (.slice (some ⟨g,0,none⟩) N cap) (ss.set n s') (m.set n es')/\(w3.cell? ⟨g,n,none⟩).isSome=true/\w3.frozen? ⟨g,n,none⟩=false:=by
 have hout:w3.ownsRow B 95 1 (.slice (some ⟨g,0,none⟩) N cap) ss.length (Zaq ZbT ss):=World.ownsRow.kept h.outer hg (ZbW h.outer (h.inner n hn2) tyNe)
 have hsN:ss.length=N:=by rw[h.len,hN]
 rw[hsN]at hout
 have hst:=hout.stored n (.slice s'.a s'.n s'.c)
 rw[Zhs]at hst
 have hgs:w3.grownBy (w3.setCell ⟨g,n,none⟩ (.slice s'.a s'.n s'.c)) (some g):=hst.2
 have hkeep:∀{v2:Value} {es:List Ev},OwnE w3 B v2 es->OwnE (w3.setCell ⟨g,n,none⟩ (.slice s'.a s'.n s'.c)) B v2 es:=fun {v2 es} hv=>World.ownsRow.kept hv hgs (ZbW hv hout (Ne.symm tyNe))
 have hold:∀i (hi:i<ss.length),i≠n->OwnE w3 B (slV ss[i]) (m.getD i []):=fun i hi hne=>World.ownsRow.kept (h.inner i hi) hg (h.apart i n hi hn2 hne)
 refine⟨⟨by simp[h.len],?_,fun i hi=>?_,fun i j hi hj hne=>?_⟩,?_,hout.frozenAt n⟩
 ·unfold Zae
  rw[List.length_set,hsN]
  exact hst.1
 ·simp only[List.length_set]at hi
  by_cases e:n=i
  ·subst e
   have e1:(ss.set n s')[n]'(by simpa using hi)=s':=by simp
   have e2:(m.set n es').getD n []=es':=by simp[List.getD,show n<m.length by omega]
   rw[e1,e2]
   exact hkeep ho
  ·have e1:(ss.set n s')[i]'(by simpa using hi)=ss[i]:=List.getElem_set_ne e _
   have e2:(m.set n es').getD i []=m.getD i []:=by simp[List.getD,List.getElem?_set_ne e]
   rw[e1,e2]
   exact hkeep (hold i hi (fun e'=>e e'.symm))
 ·simp only[List.length_set]at hi hj
  have hnew:∀i (hi:i<ss.length),i≠n->(slV s').ownBlock=none∨(slV s').ownBlock≠(slV ss[i]).ownBlock:=fun i hi hne=>by
   cases hb':(slV s').ownBlock with
   |none=>exact .inl rfl
   |some b=>
    right
    intro e
    rcases hb b hb' with h1|h1
    ·rcases h.apart n i hn2 hi (fun e=>hne e.symm)with h2|h2
     ·rw[h1]at h2;cases h2
     ·exact h2 (h1.trans e)
    ·have:=(World.ownsRow.lt (h.inner i hi) b e.symm).2
     omega
  by_cases e:n=i
  ·subst e
   have e1:(ss.set n s')[n]'(by simpa using hi)=s':=by simp
   have e2:(ss.set n s')[j]'(by simpa using hj)=ss[j]:=List.getElem_set_ne hne _
   rw[e1,e2]
   exact hnew j hj (fun e=>hne e.symm)
  ·have e1:(ss.set n s')[i]'(by simpa using hi)=ss[i]:=List.getElem_set_ne e _
   rw[e1]
   by_cases e':n=j
   ·subst e'
    have e2:(ss.set n s')[n]'(by simpa using hj)=s':=by simp
    rw[e2]
    rcases hnew i hi hne with h1|h1
    ·cases hb2:(slV ss[i]).ownBlock
     ·exact .inl rfl
     ·right;rw[h1];simp
    ·exact .inr (fun e=>h1 e.symm)
   ·have e2:(ss.set n s')[j]'(by simpa using hj)=ss[j]:=List.getElem_set_ne e' _
    rw[e2]
    exact h.apart i j hi hj hne
 ·rw[hout.cellAt n (by omega),List.getElem?_eq_getElem (by rw[Zar ZcX];omega)]
  rfl
theorem OwnLv.cell{w:World}{B g N cap n:Nat}{ss:List Sl}{m:List (List Ev)}(h:OwnLv w B (.slice (some ⟨g,0,none⟩) N cap) ss m)(hN:N=m.length)(hn2:n<ss.length):w.cell? ⟨g,n,none⟩=some (.slice ss[n].a ss[n].n ss[n].c):=by
 have hsN:ss.length=N:=by rw[h.len,hN]
 have hout:w.ownsRow B 95 1 (.slice (some ⟨g,0,none⟩) N cap) ss.length (Zaq ZbT ss):=h.outer
 rw[hsN]at hout
 rw[hout.cellAt n (by omega)]
 have:=ZaI ZcX ss n 0 hn2 (by omega)
 rw[Nat.mul_one,Nat.add_zero]at this
 rw[this]
 rfl
def extL(m:List (List Ev))(n:Nat):List (List Ev):=if n<m.length then m else m++[[]]
theorem addL_ext(m:List (List Ev))(e:Ev):addL m e=(extL m (lvN m e)).set (lvN m e) (insE e ((extL m (lvN m e)).getD (lvN m e) [])):=by
 have hle:=ZfI m e
 unfold addL putL extL
 by_cases h:lvN m e<m.length
 ·rw[if_pos h,if_pos h]
 ·have h0:lvN m e=m.length:=by omega
  rw[if_neg h,if_neg h,h0]
  simp[List.getD,insE]
theorem Zf8(m:List (List Ev))(n:Nat):(extL m n).getD n []=m.getD n []:=by
 unfold extL
 by_cases h:n<m.length
 ·rw[if_pos h]
 ·rw[if_neg h]
  simp only[List.getD]
  rw[List.getElem?_eq_none (Nat.le_of_not_lt h)]
  by_cases h0:n=m.length
  ·subst h0;simp
  ·rw[List.getElem?_eq_none (by simp;omega)]
theorem lv_other{m:List (List Ev)}{e x:Ev}(hx:x∈m.getD (lvN m e) []):x.thread≠e.thread:=by
 intro ht
 have h1:=ZiV (Nat.le_refl _) hx
 rw[Zb0 ht]at h1
 cases h1
theorem Zf6(l:List Ev)(i:Nat):((lvls l).getD i []).length<=l.length:=by
 rw[<-Zff l]
 by_cases h:i<(lvls l).length
 ·rw[Zav _ h]
  exact List.Sublist.length_le (List.sublist_flatten_of_mem (List.getElem_mem h))
 ·simp[List.getD,List.getElem?_eq_none (Nat.le_of_not_lt h)]
theorem ZeN(l:List Ev):(lvls l).length<=l.length:=by
 have:∀n (l:List Ev),l.length=n->(lvls l).length<=l.length:=by
  intro n
  induction n with
  |zero=>
   intro l hl
   obtain rfl:=List.eq_nil_of_length_eq_zero hl
   exact Nat.le_refl _
  |succ n ih=>
   intro l hl
   have hne:l≠[]:=by rintro rfl;simp at hl
   obtain⟨l',e,rfl⟩:∃l' e,l=l'++[e]:=⟨l.dropLast,l.getLast hne,(List.dropLast_concat_getLast hne).symm⟩
   have h1:=ih l' (by simpa using hl)
   rw[ZeM,Zhh,List.length_append,List.length_singleton]
   split <;> omega
 exact this _ l rfl
def ZaQ(l:List Ev):Bool:=decide (l.length<=200)&&Zaw l
def Zao(l:List Ev):List (List Ev):=if ZaQ l then lvls l else []
theorem Zh3(a:Option Addr)(cap:Nat)(l:List Ev)(w:World)(hl:EvsAt w a l):
  Calls Tryz.prog 120 #[.slice a l.length cap] w fun r w'=>r=.returned (.bool (ZaQ l))/\Below w.heap.size w w':=by
 have hm:=hl.1
 unfold maxLen at hm
 have HL:=Lib.hid hl
 clear hl
 by_cases h200:l.length<=200
 case neg=>
  have HE:Hid (ZaQ l=false):=by show _=_;unfold ZaQ;simp;omega
  have hq:decide ((200:Int)<(l.length:Int))=true:=by simp;omega
  have hq2:200<l.length:=by omega
  clear h200
  go_enter Tryz.func120,Tryz.ntmps120
  go_wp2
  go_ret
  exact⟨Zag HE.out.symm,Below.refl _ _⟩
 have hq:decide ((200:Int)<(l.length:Int))=false:=by simp;omega
 have hq2:¬ 200<l.length:=by omega
 go_enter Tryz.func120,Tryz.ntmps120
 go_wp2
 go_loopw [10] (fun i wr=>∃k:Nat,k<=l.length/\i=.int .i64 k/\Hid (Zaw (l.take k)=true)/\Below w.heap.size w wr) (fun i _=>l.length-(intOf i).toNat)
 case atStart=>exact⟨0,Nat.zero_le _,rfl,rfl,Below.refl _ _⟩
 case round=>
  obtain⟨k,hk,rfl,HR,hb⟩:=hrel
  by_cases hlt:k<l.length
  ·obtain⟨b,o,rfl,hc⟩:=HL.out.2 (by intro e;simp[e]at hlt)
   obtain⟨c0,c1,c2,c3⟩:=hc k hlt
   have d0:=Zab hb c0
   have d1:=Zab hb c1
   have d2:=Zab hb c2
   have d3:=Zab hb c3
   have HT:=Lib.hid (Zen l k hlt)
   have hx1:Hid (Zay l[k]=false->ZaQ l=false):=fun h=>by unfold ZaQ;rw[Zgu hlt h];simp
   have hb4:=hb.alloc hb.size (.cells #[.int .i64 l[k].thread,.int .i64 l[k].kind,.int .i64 l[k].obj,.bool l[k].fail] 112)
   clear hc c0 c1 c2 c3
   generalize l[k]=x at *
   go_wp2_with fail
   refine(Zes x _).mono ?_
   rintro r w2⟨rfl,hb5⟩
   have hb6:=hb4.trans (hb5.mono hb4.size)
   clear hb4 hb5
   cases hr:Zay x
   ·have HN:=Lib.hid (hx1.out hr)
    clear hx1 HT
    go_wp2
    go_ret
    exact⟨Zag HN.out.symm,hb6⟩
   ·have HN:Hid (Zaw (l.take (k+1))=true):=by show _=_;rw[HT.out,HR.out,hr];rfl
    clear hx1 HT
    go_wp2
    go_roundw
    case rel=>exact⟨k+1,by omega,by go_num,HN,hb6⟩
    case measure=>simp[intOf];omega
  ·obtain rfl:k=l.length:=by omega
   have HE:Hid (ZaQ l=true):=by have h:=HR.out;rw[List.take_length]at h;show _=_;unfold ZaQ;rw[h];simp;omega
   go_wp2
   go_ret
   exact⟨Zag HE.out.symm,hb⟩
theorem box_kept{w w':World}{B g n m:Nat}{t:TypeId}{v:Value}{e:Ev}{xs:List Value}(h:EvBox w g e)(ho:w.ownsRow B t n v m xs)(hne:t≠112)(hg:w.grownBy w' v.ownBlock):EvBox w' g e:=by
 refine(hg.block g h.lt fun e'=>?_).trans h
 obtain⟨_,⟨rfl,_⟩|⟨b,cap,cur,rfl,_,hb,_⟩⟩:=ho
 ·cases e'
 ·injection e' with e'
  have e2:g=b:=e'
  subst e2
  rw[show w.heap[g]?=_ from h]at hb
  injection hb with hb
  injection hb with _ h2
  exact hne h2.symm
def LvR(B:Nat)(w:World)(m:List (List Ev))(r:Ending)(w':World):Prop:=∃v ss,r=.returned v/\OwnLv w' B v ss m/\Below B w w'
theorem levels_any(a:Option Addr)(cap:Nat)(l:List Ev)(w:World)(hl:EvsAt w a l):
  Calls Tryz.prog 122 #[.slice a l.length cap] w (LvR w.heap.size w (Zao l)):=by
 have hm:=hl.1
 unfold maxLen at hm
 have HL:=Lib.hid hl
 have HRC:=Lib.hid (Zh3 a cap l w hl)
 clear hl
 cases hr:ZaQ l
 ·have HE:Hid (Zao l=[]):=by show _=_;unfold Zao;rw[hr];rfl
  rw[hr]at HRC
  clear hr
  go_enter Tryz.func122,Tryz.ntmps122
  go_wp2_with fail
  refine HRC.out.mono ?_
  rintro r w1⟨rfl,hb1⟩
  clear HRC
  go_wp2
  go_ret
  exact⟨_,[],rfl,by rw[HE.out];exact ZdH _ _,hb1⟩
 have h200:l.length<=200:=by unfold ZaQ at hr;simp at hr;exact hr.1
 have HE:Hid (Zao l=lvls l):=by show _=_;unfold Zao;rw[hr];rfl
 rw[hr]at HRC
 clear hr
 go_enter Tryz.func122,Tryz.ntmps122
 go_wp2_with fail
 refine HRC.out.mono ?_
 rintro r w1⟨rfl,hb1⟩
 clear HRC
 go_wp2_with fail
 go_loopw [3,12] (fun v i wr=>∃(k:Nat) (ss:List Sl),k<=l.length/\i=.int .i64 k/\Hid (OwnLv wr w.heap.size v ss (lvls (l.take k)))/\Hid (Below w.heap.size w wr)) (fun _ i _=>l.length-(intOf i).toNat)
 case atStart=>exact⟨0,[],Nat.zero_le _,rfl,ZdH _ _,hb1⟩
 case round=>
  clear hb1
  obtain⟨k,ss,hk,rfl,HV,HB⟩:=hrel
  by_cases hlt:k<l.length
  ·obtain⟨b,o,rfl,t0,t1,t2,t3⟩:=HL.out.one hlt
   have d0:=Zab HB.out t0
   have d1:=Zab HB.out t1
   have d2:=Zab HB.out t2
   have d3:=Zab HB.out t3
   have HT:Hid (lvls (l.take (k+1))=addL (lvls (l.take k)) (evI l k)):=by
    show _=_
    rw[<-ZeM,Za4 hlt,List.take_add_one,List.getElem?_eq_getElem hlt]
    rfl
   have hmk:(lvls (l.take k)).length<=k:=by have:=ZeN (l.take k);rw[List.length_take]at this;omega
   have HS:Hid (∀i,((lvls (l.take k)).getD i []).length<=200):=fun i=>by have:=Zf6 (l.take k) i;rw[List.length_take]at this;omega
   obtain⟨a2,cap2,rfl,hat,hca⟩:=OwnLv.form HV.out (by omega) (fun i _=>by have:=HS.out i;omega)
   have HAT:=Lib.hid hat
   clear t0 t1 t2 t3 hat hca
   generalize lvls (l.take k)=m at *
   generalize evI l k=e at *
   go_wp2_with fail
   have hba:=Zaa wr (.cells #[.int .i64 e.thread,.int .i64 e.kind,.int .i64 e.obj,.bool e.fail] 112)
   have HBX:=Lib.hid (EvBox.new wr e)
   generalize wr.alloc (.cells #[.int .i64 e.thread,.int .i64 e.kind,.int .i64 e.obj,.bool e.fail] 112)=W0 at *
   refine(ZlK a2 cap2 m e W0 (HAT.out.later hba) (by omega)).mono ?_
   rintro r W1⟨rfl,hb2⟩
   have hb3:=hba.trans (hb2.mono hba.size)
   have HV1:=Lib.hid (HV.out.later hb3)
   have HB1:=Lib.hid (HB.out.trans (hb3.mono HB.out.size))
   have HX1:=Lib.hid (HBX.out.later hb2)
   have hle:=ZfI m e
   have HA:=Lib.hid (addL_ext m e)
   have HO:Hid (∀x∈m.getD (lvN m e) [],x.thread≠e.thread):=fun x hx=>lv_other hx
   have hbx0:wr.heap.size<W1.heap.size:=HX1.out.lt
   have hsz1:wr.heap.size<=W1.heap.size:=by omega
   clear HV HB HAT HBX hba hb2 hb3 d0 d1 d2 d3
   generalize lvN m e=n at *
   go_upto_if 22 with (fail)
   go_cut [3] (fun s3 wx=>∃(g N cap3:Nat) (ss2:List Sl),s3=.slice (some ⟨g,0,none⟩) N cap3/\n<N/\N<=300/\Hid (N=(extL m n).length/\OwnLv wx w.heap.size s3 ss2 (extL m n))/\Hid (EvBox wx wr.heap.size e)/\Hid (Below w.heap.size w wx))
   case first=>
    by_cases hnm:n<m.length
    ·have hq:((n:Int)==(m.length:Int))=false:=by simp;omega
     have HEX:Hid (extL m n=m):=by show _=_;unfold extL;rw[if_pos hnm]
     obtain⟨g,capg,hv,_,_⟩:=Zae.block HV1.out.outer (by intro e;have:=HV1.out.len;rw[e]at this;simp at this;omega)
     injection hv with hv1 hv2 hv3
     subst hv1
     clear hv2 hv3
     go_wp2_with fail
     go_meet
     exact⟨g,m.length,cap2,ss,rfl,hnm,by omega,⟨by rw[HEX.out],by rw[HEX.out];exact HV1.out⟩,HX1.out,HB1.out⟩
    ·have hnm2:n=m.length:=by omega
     have hq:((n:Int)==(m.length:Int))=true:=by simp;omega
     have HEX:Hid (extL m n=m++[[]]):=by show _=_;unfold extL;rw[if_neg hnm]
     have HN2:=Lib.hid hnm2
     have hB2:w.heap.size<=W1.heap.size:=HB1.out.size
     have hss:ss.length<=1000:=by have:=HV1.out.len;omega
     clear hnm hnm2
     go_wp2_with (at_builtin;refine ZaP (f:=ZbT) (n:=1) 178 95 24 (.slice none 0 0) Tryz.underlying178 infoSl rfl (by omega) (by omega) ZcX rfl _ _ rfl w.heap.size _ ss rfl (HV1.out.outer.alloc _) ⟨W1.heap.size,0,none⟩ rfl ⟨none,0,0⟩ (ZhA _) (ZaH W1 (ZbT ⟨none,0,0⟩) _ _ rfl) (by omega) (by simp;omega) ?_;intro v' w' h1 h2 h3;obtain⟨g,capg,hv,_,_⟩:=Zae.block h1 (by simp);rw[List.length_append,List.length_singleton]at hv;subst hv)
     go_meet
     have hb4:Below w.heap.size W1 w':=(Zaa W1 _).mono hB2 |>.trans h2
     have hv4:OwnLv w' w.heap.size (.slice (some ⟨g,0,none⟩) (ss.length+1) capg) (ss++[⟨none,0,0⟩]) (m++[[]]):=OwnLv.more (HV1.out.later (Zaa W1 _)) h1 h3
     exact⟨g,ss.length+1,capg,_,rfl,by have:=HV1.out.len;have:=HN2.out;omega,by have:=HV1.out.len;omega,⟨by rw[HEX.out];simp[HV1.out.len],by rw[HEX.out];exact hv4⟩,box_kept (HX1.out.later (Zaa W1 _)) (HV1.out.outer.alloc _) tyNe h3,HB1.out.trans hb4⟩
   case rest=>
    obtain⟨g,N,cap3,ss2,rfl,hnN,hN300,HW,HXc,HBc⟩:=hcut
    have hn2:n<ss2.length:=by rw[HW.out.2.len,<-HW.out.1];exact hnN
    have hB2:w.heap.size<=wc.heap.size:=HBc.out.size
    have x0:=OwnLv.cell HW.out.2 HW.out.1 hn2
    obtain⟨c0,c1,c2,c3⟩:=HXc.out.cells
    have hni:(n:Int)<(N:Int):=by omega
    have hni0:(0:Int)<=n:=by omega
    have HIN:Hid (OwnE wc w.heap.size (slV ss2[n]) (m.getD n [])):=by
     have h:=HW.out.2.inner n hn2
     rw[Zf8]at h
     exact h
    have HCALL:Hid (∀W,Below wc.heap.size wc W->Calls Tryz.prog 168 #[.slice ss2[n].a ss2[n].n ss2[n].c,.agg #[.int .i64 e.thread,.int .i64 e.kind,.int .i64 e.obj,.bool e.fail]] W fun r w'=>
      ∃s':Sl,r=.returned (.slice s'.a s'.n s'.c)/\Below w.heap.size w w'/\(∃old,w'.cell? ⟨g,n,none⟩=some old)/\w'.frozen? ⟨g,n,none⟩=false/\OwnLv (w'.setCell ⟨g,n,none⟩ (.slice s'.a s'.n s'.c)) w.heap.size (.slice (some ⟨g,0,none⟩) N cap3) (ss2.set n s') (addL m e)):=fun W hW=>by
     refine(lay_any w.heap.size (slV ss2[n]) (m.getD n []) e W (Nat.le_trans hB2 hW.size) (by have:=HS.out n;omega) (HIN.out.later hW) HO.out).mono ?_
     rintro r w'⟨v',rfl,h2,h3,h4,h5⟩
     obtain⟨a',cap',hv',_⟩:=OwnE.form h2 (by rw[Zdi];have:=HS.out n;omega)
     subst hv'
     obtain⟨p1,p2,p3⟩:=OwnLv.put (HW.out.2) HW.out.1 hnN hn2 (s':=⟨a',(insE e (m.getD n [])).length,cap'⟩) h2 ((Zeq hW _).trans h4) (fun b hb=>(h5 b hb).imp id (fun h=>Nat.le_trans hW.size h))
     rw[HA.out,Zf8]
     exact⟨⟨a',_,cap'⟩,rfl,HBc.out.trans ((hW.mono hB2).trans h3),Option.isSome_iff_exists.1 p2,p3,p1⟩
    clear HIN
    go_wp2_with fail
    go_region_with ((go_simp;go_at_call 168;refine(HCALL.out _ (Below.refl _ _).drew).mono ?_;rintro r w3⟨s',rfl,q1,⟨old,q2⟩,q3,q4⟩;have HQ4:=Lib.hid q4;have HQ1:=Lib.hid q1;clear q1 q4))
    all_goals
     have HVN:Hid (OwnLv (w3.setCell ⟨g,n,none⟩ (.slice s'.a s'.n s'.c)) w.heap.size (.slice (some ⟨g,0,none⟩) N cap3) (ss2.set n s') (lvls (l.take (k+1)))):=by
      show OwnLv _ _ _ _ _
      rw[HT.out]
      exact HQ4.out
     have hgB:w.heap.size<=g:=by
      obtain⟨_,⟨h2,_⟩|⟨b',cap',cur,h2,h3,_⟩⟩:=HW.out.2.outer
      ·cases h2
      ·injection h2 with h2
       injection h2 with h2
       injection h2 with h2
       rw[h2];exact h3
     go_wp2
     go_roundw
     case rel=>exact⟨k+1,_,by omega,by go_num,HVN,(HQ1.out).setCell (p:=⟨g,n,none⟩) hgB _⟩
     case measure=>simp[intOf];omega
  ·obtain rfl:k=l.length:=by omega
   have HV2:=HV.out
   rw[List.take_length,<-HE.out]at HV2
   have HV3:=Lib.hid HV2
   clear HV2 HV
   go_wp2
   go_ret
   exact⟨_,ss,rfl,HV3.out,HB.out⟩
theorem ZjP{w:World}{g n c:Nat}{ns:List Int}(h:MidAt w g 5 (ns.map (Value.int .u8)))(hn:n=ns.length):(convert 56 9 (.slice (some ⟨g,0,none⟩) n c)).run Tryz.prog w=.ok (.string (bstr ns)) w:=by
 subst hn
 rw[run_convert_bytes_string w _ _ 5 _ _ _ Tryz.underlying56 Tryz.underlying5 Tryz.underlying9]
 have hl:=run_loadCells_list (P:=Tryz.prog) w ⟨g,0,none⟩ (ns.map (Value.int .u8)) (fun j u hj=>by
  have e:Addr.add ⟨g,0,none⟩ j=⟨g,j,none⟩:=by
   unfold Addr.add
   split
   ·rename_i h0;subst h0;rfl
   ·simp
  rw[e,h.cell]
  exact hj)
 rw[List.length_map]at hl
 rw[run_bytesToString w _ _ _ ns hl,Zd8]
 have e:ByteArray.empty.data=#[]:=rfl
 rw[e,Array.empty_append]
 rfl
theorem Zcs{a b:ByteArray}(h:a=b):Ending.returned (.string a)=.returned (.string b):=by rw[h]
theorem Zl0(a:Option Addr)(cap:Nat)(l:List Ev)(w:World)(hl:EvsAt w a l)(hm:l.length<=1000000):
  Calls Tryz.prog 166 #[.slice a l.length cap] w fun r w'=>r=.returned (.string (bstr (ZaR l)))/\Below w.heap.size w w':=by
 have hmk:=ZbG (P:=Tryz.prog) 56 5 (.int .u8 0) 1 1 Tryz.underlying56 (by kernel_rfl) l.length (by omega) (by omega)
 have HL:=Lib.hid hl
 clear hl
 go_enter Tryz.func166,Tryz.ntmps166
 go_wp2
 go_loopw [11] (fun i wr=>∃k:Nat,k<=l.length/\i=.int .i64 k/\Hid ((l.take k).all Zay=true)/\Hid (MidAt wr w.heap.size 5 (fill (fun e=>.int .u8 (evB e)) (.int .u8 0) l k))/\Below w.heap.size w wr) (fun i _=>l.length-(intOf i).toNat)
 case atStart=>
  refine⟨0,Nat.zero_le _,rfl,rfl,?_,Zaa _ _⟩
  show MidAt _ _ _ _
  rw[ZgX]
  have:=MidAt.made w 5 (.int .u8 0) l.length
  simpa using this
 case round=>
  clear hmk
  obtain⟨k,hk,rfl,HA,HM,hb⟩:=hrel
  by_cases hlt:k<l.length
  ·obtain⟨b,o,rfl,hc⟩:=HL.out.2 (by intro e;simp[e]at hlt)
   obtain⟨c0,c1,c2,c3⟩:=hc k hlt
   have d0:=Zab hb c0
   have d1:=Zab hb c1
   have d2:=Zab hb c2
   have d3:=Zab hb c3
   have hz:=HM.out.lt
   clear hc c0 c1 c2 c3
   have HT:=Lib.hid (List.take_succ_eq_append_getElem hlt:l.take (k+1)=l.take k++[l[k]])
   have HS:=Lib.hid (Zi4 (fun e=>.int .u8 (evB e)) (.int .u8 0) l k hlt)
   have HX:=Lib.hid (List.getElem_mem hlt)
   have HB1:=Lib.hid (EvBox.new wr l[k])
   have HM1:=Lib.hid (HM.out.later (Zaa wr (.cells #[.int .i64 l[k].thread,.int .i64 l[k].kind,.int .i64 l[k].obj,.bool l[k].fail] 112)))
   have hb1:Below w.heap.size w (wr.alloc (.cells #[.int .i64 l[k].thread,.int .i64 l[k].kind,.int .i64 l[k].obj,.bool l[k].fail] 112)):=hb.alloc hb.size _
   clear HM
   generalize l[k]=x at *
   go_wp2_with fail
   generalize wr.alloc (.cells #[.int .i64 x.thread,.int .i64 x.kind,.int .i64 x.obj,.bool x.fail] 112)=W1 at *
   generalize wr.heap.size=E at *
   clear d0 d1 d2 d3
   refine(Zes x _).mono ?_
   rintro r w2⟨rfl,hb2⟩
   have HB2:=Lib.hid (HB1.out.later hb2)
   have HM2:=Lib.hid (HM1.out.later hb2)
   have hw2:Below w.heap.size w w2:=hb1.trans (hb2.mono hb1.size)
   clear HB1 HM1 hb1 hb2 hb
   obtain⟨x0,x1,x2,x3⟩:=HB2.out.cells
   have lx:=HB2.out.lt
   cases hr:Zay x
   ·have HR:Hid (ZaR l=[]):=by
     show _=_
     unfold ZaR
     rw[if_neg]
     intro h
     rw[List.all_eq_true]at h
     rw[h x HX.out]at hr
     cases hr
    clear hr HB2
    go_wp2
    go_ret
    exact⟨Zcs (by rw[HR.out];rfl),hw2⟩
   ·have HR:=Lib.hid hr
    clear hr
    go_wp2_with fail
    refine(toByte_any x HR.out _).mono ?_
    rintro r w3⟨rfl,hb3⟩
    have HM3:=Lib.hid (HM2.out.later hb3)
    have hw3:Below w.heap.size w w3:=hw2.trans (hb3.mono hw2.size)
    have hf3:=HM3.out.frozen k
    have hc3:=HM3.out.cell k
    obtain⟨y,hy⟩:∃y,(fill (fun e=>.int .u8 (evB e)) (.int .u8 0) l k)[k]?=some y:=⟨_,List.getElem?_eq_getElem (by rw[ZlZ _ _ _ _ hk];exact hlt)⟩
    rw[hy]at hc3
    have HM4:=Lib.hid (HM3.out.set k (.int .u8 (evB x)))
    rw[HS.out]at HM4
    have hb4:=hw3.setCell (p:=⟨w.heap.size,k,none⟩) (Nat.le_refl _) (.int .u8 (evB x))
    clear hy HM2 HM3 HB2 x0 x1 x2 x3 hb3
    go_wp2
    go_roundw
    case rel=>exact⟨k+1,by omega,by go_num,(by show _=_;rw[HT.out,List.all_append,HA.out];simp[HR.out]),HM4,hb4⟩
    case measure=>simp[intOf];omega
  ·obtain rfl:k=l.length:=by omega
   have hcv:(convert 56 9 (.slice (some ⟨w.heap.size,0,none⟩) l.length l.length)).run Tryz.prog wr=.ok (.string (bstr (l.map evB))) wr:=by
    have h:=HM.out
    rw[Zi5]at h
    refine ZjP (ns:=l.map evB) ?_ (by simp)
    rw[List.map_map]
    exact h
   have HP:Hid (ZaR l=l.map evB):=by
    show _=_
    unfold ZaR
    have h:=HA.out
    rw[List.take_length]at h
    rw[if_pos h]
   go_wp2
   go_ret
   exact⟨Zcs (by rw[HP.out]),hb⟩
end Go.Proofs.YtjfmmnhcddckaaaGreat
