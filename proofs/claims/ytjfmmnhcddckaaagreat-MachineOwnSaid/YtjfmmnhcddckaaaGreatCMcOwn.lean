/-
  MachineOwn: a worker finds keys by its own steps alone, a step adds at most one key, and none is ever lost: the law answers true, and its arguments read as they did.
  For every input, whatever its size and however its parts share memory; nothing is asked of it but what the statement's own form asks.
-/
import Derived.Deep.DeepCutAuto
import Derived.Deep.CutBlock
import Derived.BigQuiet
import Derived.WalkKit
import Derived.ProofKit
import Derived.OpenShut
import Derived.Test.YtjfmmnhcddckaaaGreatRows
import Derived.Test.YtjfmmnhcddckaaaGreatPk14
import Derived.Test.YtjfmmnhcddckaaaGreatPk16
set_option maxRecDepth 100000
set_option maxHeartbeats 8000000
namespace Go.Proofs.YtjfmmnhcddckaaaGreat
open Go.RowKit
theorem ZdA(a:Option Addr)(n:Nat){l cap:Nat}(h:l<=cap)(w:World):(Instr.slice 30 (.slice a n cap) none (some (.int .i64 (l:Int))) none).run Tryz.prog w=.ok (.slice a l cap) w:=by
 have hi:(Tryz.prog.info? 9).isSome=true:=by kernel_rfl
 cases hq:Tryz.prog.info? 9 with
 |none=>simp[hq]at hi
 |some x=>
  cases a with
  |none=>simp[Instr.slice,Instr.sliceBounds,Instr.sliceBound,asIntOf,run_underlying Tryz.underlying30,sizeOf,typeInfo,hq,h]
  |some a=>simp[Instr.slice,Instr.sliceBounds,Instr.sliceBound,asIntOf,run_underlying Tryz.underlying30,sizeOf,typeInfo,hq,h,Addr.add]
structure OneM(I:MachI)(w:World)(B b:Nat)(p:Pg)(fuel:Int)(W U:Nat)(m:Mac)(wr:World):Prop where
 mm:∃S,I.MM wr B b p fuel W U S m
 good:GoodM p fuel W U m
 low:w.heap.size<=B
 below:Below w.heap.size w wr
structure OneG(I:MachI)(w:World)(B b:Nat)(p:Pg)(fuel:Int)(W U:Nat)(m:Mac)(G:Nat)(o:Obj)(wr:World):Prop where
 mm:∃S,I.MM wr B b p fuel W U S m/\¬S G
 good:GoodM p fuel W U m
 low:w.heap.size<=B
 below:Below w.heap.size w wr
 box:wr.heap[G]?=some o
section
variable{I:MachI}{w wr w' w1:World}{B b W U G:Nat}{m:Mac}{p:Pg}{fuel:Int}{o:Obj}{S:Nat->Prop}
theorem RunI.one(h:RunI I w1 B b p fuel W U S m wr)(hS:∀x,S x->w.heap.size<=x)(hb:Below w.heap.size w w1)(hl:w.heap.size<=B):OneM I w B b p fuel W U m wr:=by
 obtain⟨S',h1,_⟩:=h.mm
 exact⟨⟨S',h1⟩,h.good,hl,h.below hb hS⟩
theorem OneM.later(h:OneM I w B b p fuel W U m wr)(hb:Below wr.heap.size wr w'):OneM I w B b p fuel W U m w':=by
 obtain⟨S',h1⟩:=h.mm
 exact⟨⟨S',I.later h1 hb⟩,h.good,h.low,h.below.trans (hb.mono h.below.size)⟩
theorem OneG.one(h:OneG I w B b p fuel W U m G o wr):OneM I w B b p fuel W U m wr:=by
 obtain⟨S',h1,_⟩:=h.mm
 exact⟨⟨S',h1⟩,h.good,h.low,h.below⟩
theorem OneG.later(h:OneG I w B b p fuel W U m G o wr)(hb:Below wr.heap.size wr w'):OneG I w B b p fuel W U m G o w':=by
 obtain⟨S',h1,h2⟩:=h.mm
 exact⟨⟨S',I.later h1 hb,h2⟩,h.good,h.low,h.below.trans (hb.mono h.below.size),(hb.block _ (Array.getElem?_eq_some_iff.1 h.box).1).trans h.box⟩
theorem OneM.boxed(h:OneM I w B b p fuel W U m wr){c:Array Value}{t:TypeId}:OneG I w B b p fuel W U m wr.heap.size (.cells c t (0,0)) (wr.alloc (.cells c t)):=by
 obtain⟨S',h1⟩:=h.mm
 have hb:=Zaa wr (.cells c t)
 exact⟨⟨S',I.later h1 hb,fun e=>Nat.lt_irrefl _ ((I.low h1).2 _ e).2⟩,h.good,h.low,h.below.trans (hb.mono h.below.size),heap_alloc_new wr _⟩
theorem OneM.all(h:OneM I w B b p fuel W U m wr):Calls Tryz.prog 17 #[.pointer (some ⟨b,0,none⟩)] wr fun r w'=>∃v,r=.returned v/\RowsV w' wr.heap.size v (keysL W m)/\Below wr.heap.size wr w':=by
 obtain⟨S1,h1⟩:=h.mm
 exact Zhg I h1 h.good
theorem OneM.keys(h:OneM I w B b p fuel W U m wr)(z:Int):Calls Tryz.prog 27 #[.pointer (some ⟨b,0,none⟩),.int .i64 z] wr fun r w'=>∃v,r=.returned v/\KeyV w' wr.heap.size v (keysI W z m)/\Below wr.heap.size wr w':=by
 obtain⟨S1,h1⟩:=h.mm
 exact I.keys z h1 h.good
theorem OneG.stepF(h:OneG I w B b p fuel W U m G o wr){w8:World}(hb:Below wr.heap.size wr w8)(z d:Int):Calls Tryz.prog 23 #[.pointer (some ⟨b,0,none⟩),.int .i64 z,.int .i64 d] w8 fun r w'=>r=.returned (.int .i64 ((stepI p fuel W U z d m).1:Nat))/\OneG I w B b p fuel W U (stepI p fuel W U z d m).2 G o w'/\∃R:Nat->Prop,OnlyS R w8 w'/\∀x,R x->x<wr.heap.size:=by
 obtain⟨S1,h1,h2⟩:=h.mm
 have h8:=h.later hb
 have hG:=(Array.getElem?_eq_some_iff.1 h8.box).1
 refine((RunI.start (I.later h1 hb) h.good).step z d).mono fun r w' ⟨e,hr⟩=>⟨e,?_,S1,hr.only,fun x hx=>((I.low h1).2 x hx).2⟩
 obtain⟨S',h3,h4⟩:=hr.mm
 refine⟨⟨S',h3,fun a=>?_⟩,hr.good,h.low,h8.below.trans (hr.only.below h8.below.size fun x hx=>Nat.le_trans h.low ((I.low h1).2 x hx).1),hr.only.row h8.box h2⟩
 rcases h4 G a with h5|h5
 ·exact h2 h5
 ·omega
end
theorem machineOwn_of(I:MachI)(p:Pg)(a:Option Addr)(cap:Nat)(fuel:Int)(z:Int)(oa:Option Addr)(ol:List (Int × Int))(oc:Nat)(w:World)(hp:Zaf w a p.threads)(ha:a=none->cap=0)(hordol:RowAt w oa 2 Zbh ol):
  Calls Tryz.prog 8 #[.agg #[.int .i64 p.vars,.int .i64 p.mutexes,.slice a p.threads.length cap],.int .i64 fuel,.int .i64 z,.slice oa ol.length oc] w fun r w'=>r=.returned (.bool true)/\Below w.heap.size w w':=by
 have HP:=Lib.hid hp
 have HA:=Lib.hid ha
 have HBX:Hid (∀W,Below (w.alloc (.cells #[.int .i64 p.vars,.int .i64 p.mutexes,.slice a p.threads.length cap] 24)).heap.size (w.alloc (.cells #[.int .i64 p.vars,.int .i64 p.mutexes,.slice a p.threads.length cap] 24)) W->W.cell? ⟨w.heap.size,0,none⟩=some (.int .i64 p.vars)/\W.cell? ⟨w.heap.size,1,none⟩=some (.int .i64 p.mutexes)/\W.cell? ⟨w.heap.size,2,none⟩=some (.slice a p.threads.length cap)):=fun W hb=>⟨Zab hb (by simp),Zab hb (by simp),Zab hb (by simp)⟩
 have hb1:Below w.heap.size w (w.alloc (.cells #[.int .i64 p.vars,.int .i64 p.mutexes,.slice a p.threads.length cap] 24)):=Zaa w _
 have HROWol:=Lib.hid hordol
 have hmol:=hordol.1
 unfold maxLen at hmol
 clear hp ha hordol
 obtain⟨mz,hmz,hm0z⟩:=Zgg z
 obtain⟨kz,hkz,hkKz⟩:=Zc9 mz hm0z 6 (by omega)
 have hk'z:mz.tmod 6=kz:=hkz
 have hwkz:IntKind.i64.wrap (kz:Int)=kz:=IntWalk.i64_in _ (by omega)
 have hw1z:IntKind.i64.wrap (1+(kz:Int))=1+kz:=IntWalk.i64_in _ (by omega)
 have hnkz:(1:Int)+(kz:Int)=(kz:Int)+1:=by omega
 clear hkz hm0z
 go_enter Tryz.func8,Tryz.ntmps8
 go_wp2_with fail
 generalize w.alloc (.cells #[.int .i64 p.vars,.int .i64 p.mutexes,.slice a p.threads.length cap] 24)=W1 at *
 refine(Zap I W1).mono ?_
 rintro r W2⟨rfl,hb2⟩
 obtain⟨c0,c1,c2⟩:=HBX.out W2 hb2
 have hb3:=hb1.trans (hb2.mono hb1.size)
 clear hmz hk'z hwkz hw1z hnkz
 go_wp2_with fail
 refine(Zdy p a cap fuel W2 (HP.out.later hb3)).mono ?_
 rintro r W3⟨rfl,hb4⟩
 have hb5:=hb2.trans (hb4.mono hb2.size)
 have hb6:=hb3.trans (hb4.mono hb3.size)
 clear c0 c1 c2 hb2 hb3 hb4
 cases hf:Zbw p fuel
 ·clear hf
  go_wp2_with fail
  refine(Zap I _).mono ?_
  rintro r w3⟨rfl,hb3⟩
  go_wp2
  go_ret
  exact⟨rfl,hb6.trans (hb3.mono hb6.size)⟩
 obtain⟨_,hok,hle⟩:=Zdx hf
 clear hf
 by_cases hlol:ol.length<=400
 case neg=>
  have q4:decide (ol.length<=400)=false:=decide_eq_false hlol
  have HF:=Lib.hid (Zbk oa ol.length oc W3)
  rw[q4]at HF
  clear q4 hlol
  go_wp2_with fail
  refine HF.out.mono ?_
  rintro r w'⟨rfl,rfl⟩
  go_wp2_with fail
  refine(Zap I _).mono ?_
  rintro r w3⟨rfl,hb3⟩
  go_wp2
  go_ret
  exact⟨rfl,hb6.trans (hb3.mono hb6.size)⟩
 have HF:Hid (Calls Tryz.prog 12 #[.slice oa ol.length oc] W3 fun r w'=>r=.returned (.bool true)/\w'=W3):=by
  have h:=Zbk oa ol.length oc W3
  rw[decide_eq_true hlol]at h
  exact h
 go_wp2_with fail
 refine HF.out.mono ?_
 rintro r w'⟨rfl,e3⟩
 replace e3:=e3.symm
 subst e3
 clear HF
 obtain⟨c0,c1,c2⟩:=HBX.out _ hb5
 have hg:=ZgT hok
 have HN:Hid (∀W,Below w.heap.size w W->Calls Tryz.prog 14 #[.agg #[.int .i64 p.vars,.int .i64 p.mutexes,.slice a p.threads.length cap],.int .i64 fuel,.int .i64 ((kz:Int)+1),.int .i64 600] W fun r w'=>∃b S,r=.returned (.tuple #[.pointer (some ⟨b,0,none⟩),.int .i64 0])/\Below W.heap.size W w'/\(∀x,S x->W.heap.size<=x)/\RunI I w' W.heap.size b p fuel (kz+1) 600 S (newM p fuel (kz+1)) w'):=fun W hb=>Zb7 I p a cap fuel (kz+1) 600 W (HP.out.later hb) HA.out hg hle (by omega) (by omega) (by omega) (by omega)
 go_wp2_with fail
 refine(HN.out _ hb6).mono ?_
 rintro r W4⟨b,S,rfl,hb7,hS,hr⟩
 have H4:Hid (OneM I w W3.heap.size b p fuel (kz+1) 600 (listM p fuel (kz+1) 600 (ol.take 0) (newM p fuel (kz+1))) W4):=hr.one (fun x hx=>Nat.le_trans hb6.size (hS x hx)) (hb6.trans (hb7.mono hb6.size)) hb6.size
 have HKW:Hid (kz+1<=64):=by show _<=_;omega
 clear c0 c1 c2 hb5 hb6 hb7 hS hr hg hok hle HN
 generalize newM p fuel (kz+1)=m0 at *
 generalize W3.heap.size=B at *
 go_wp2_with fail
 go_loopw [12,13,14,15,16,17,48] (fun _ _ _ _ _ _ i wr=>∃j:Nat,j<=ol.length/\i=.int .i64 j/\Hid (OneM I w B b p fuel (kz+1) 600 (listM p fuel (kz+1) 600 (ol.take j) m0) wr)) (fun _ _ _ _ _ _ i _=>ol.length-(intOf i).toNat)
 case atStart=>exact⟨0,Nat.zero_le _,rfl,H4⟩
 case round=>
  clear H4
  obtain⟨j,hj,rfl,HR⟩:=hrel
  by_cases hlt:j<ol.length
  ·obtain⟨pb,o,rfl,e0,e1⟩:=(HROWol.out.later HR.out.below).pick hlt
   have HNX:Hid ((stepI p fuel (kz+1) 600 ol[j].1 ol[j].2 (listM p fuel (kz+1) 600 (ol.take j) m0)).2=listM p fuel (kz+1) 600 (ol.take (j+1)) m0):=(Zd3 hlt).symm
   generalize listM p fuel (kz+1) 600 (ol.take j) m0=mj at *
   obtain⟨mk,hmk⟩:∃mk,mk=listM p fuel (kz+1) 600 (ol.take (j+1)) m0:=⟨_,rfl⟩
   rw[<-hmk]at HNX
   have HMK:=Lib.hid hmk
   generalize ol[j]=x at *
   obtain⟨x1,x2⟩:=x
   dsimp only at e0 e1 HNX
   have hks:=stepI_keys HR.out.good x1 x2
   rw[HNX.out]at hks
   have hlm:=HR.out.good.any.2.1
   have H6:=Lib.hid (HR.out.boxed (c:=#[.int .i64 x1,.int .i64 x2]) (t:=48))
   clear HR hmk
   go_upto_region 10 with (fail)
   generalize wr.alloc (.cells #[.int .i64 x1,.int .i64 x2] 48)=W7 at *
   generalize wr.heap.size=G at *
   clear e0 e1
   have HF:Hid (∀W:World,W.heap[G]?=some (.cells #[.int .i64 x1,.int .i64 x2] 48 (0,0))->W.cell? ⟨G,0,none⟩=some (.int .i64 x1)/\W.cell? ⟨G,1,none⟩=some (.int .i64 x2)):=fun W hW=>⟨by rw[cell_of_row W _ 0 _ _ _ hW];rfl,by rw[cell_of_row W _ 1 _ _ _ hW];rfl⟩
   have HC:=Lib.hid H6.out.one.all
   go_wp2_with fail
   refine HC.out.mono ?_
   rintro r W8⟨v1,rfl,hv1,hb8⟩
   obtain⟨f0,f1⟩:=HF.out W8 (H6.out.later hb8).box
   have HST:=Lib.hid (H6.out.stepF hb8 x1 x2)
   rw[HNX.out]at HST
   have HV1:=Lib.hid hv1
   clear hv1 hb8 H6 HC HNX
   generalize (stepI p fuel (kz+1) 600 x1 x2 mj).1=dd at *
   go_wp2_with fail
   refine HST.out.mono ?_
   rintro r W9⟨rfl,h9,R,hR,hRl⟩
   have H9:=Lib.hid h9
   have HV9:=Lib.hid (HV1.out.onlyS hR fun x h1 _ h3=>by have:=hRl x h3;omega)
   have HC:=Lib.hid h9.one.all
   clear h9 hR hRl HV1 HST f0 f1
   go_wp2_with fail
   refine HC.out.mono ?_
   rintro r W10⟨v2,rfl,hv2,hb10⟩
   have H10:=Lib.hid (H9.out.later hb10)
   have hv1:=HV9.out.later hb10
   obtain⟨a1,c1,e1,_⟩:=hv1.at_ (by rw[ZaF];have:=HKW.out;omega)
   obtain⟨a2,c2,e2,_⟩:=hv2.at_ (by rw[ZaF];have:=HKW.out;omega)
   rw[ZaF]at e1 e2
   subst e1 e2
   have HT1:Hid (∀wr,Below W10.heap.size W10 wr->∀i (hi:i<kz+1),∃b o x y,a1=some ⟨b,o,none⟩/\wr.cell? ⟨b,o+i,none⟩=some (.slice x (mj.keys i).length y)/\RowAt wr x 1 Zai (mj.keys i)/\(mj.keys i).length<=y):=fun wr hb i hi=>by
    have:=hv1.atLB (by rw[ZaF];have:=HKW.out;omega) wr hb i (by rw[ZaF];exact hi)
    rw[ZeO]at this
    exact this
   have HT2:Hid (∀wr,Below W10.heap.size W10 wr->∀i (hi:i<kz+1),∃b o x y,a2=some ⟨b,o,none⟩/\wr.cell? ⟨b,o+i,none⟩=some (.slice x (mk.keys i).length y)/\RowAt wr x 1 Zai (mk.keys i)/\(mk.keys i).length<=y):=fun wr hb i hi=>by
    have:=hv2.atLB (by rw[ZaF];have:=HKW.out;omega) wr hb i (by rw[ZaF];exact hi)
    rw[ZeO]at this
    exact this
   have HRL:Hid (∀u,u<kz+1->(mj.keys u).length<=600):=fun u h=>by
    have:=row_le (keysL (kz+1) mj) u (by rw[ZaF];exact h)
    rw[Zd4,ZeO]at this
    omega
   have HKS:=Lib.hid hks
   have HB0:Hid (Below W10.heap.size W10 W10):=Below.refl _ _
   clear hv1 hv2 hb10 HV9 H9 HC hks hlm
   go_wp2_with fail
   go_loopw [16,17,64] (fun _ _ i wr=>∃u:Nat,u<=kz+1/\i=.int .i64 u/\Hid (Below W10.heap.size W10 wr)) (fun _ _ i _=>kz+1-(intOf i).toNat)
   case atStart=>exact⟨0,Nat.zero_le _,rfl,HB0⟩
   case round=>
    clear HB0
    obtain⟨u,hu,rfl,HB⟩:=hrel
    by_cases hut:u<kz+1
    ·obtain⟨rb1,ro1,y1,z1,rfl,g1,hr1,hc1⟩:=HT1.out _ HB.out u hut
     obtain⟨rb2,ro2,y2,z2,rfl,g2,hr2,hc2⟩:=HT2.out _ HB.out u hut
     have hl6:=HRL.out u hut
     have e1:decide ((u:Int)<(kz:Int)+1)=true:=decide_eq_true (by omega)
     have e3:(u:Int)<(kz:Int)+1:=by omega
     obtain⟨f0,f1⟩:=HF.out wr (H10.out.later HB.out).box
     have hsl:∀w,(Instr.slice 30 (.slice y2 (mk.keys u).length z2) none (some (.int .i64 ((mj.keys u).length:Nat))) none).run Tryz.prog w=.ok (.slice y2 (mj.keys u).length z2) w∨z2<(mj.keys u).length:=fun w=>by
      by_cases h:(mj.keys u).length<=z2
      ·exact .inl (ZdA y2 _ h w)
      ·exact .inr (by omega)
     rcases (by
      rcases HKS.out with h|⟨h3,hz,q,h⟩
      ·exact .inl (by rw[h])
      ·by_cases e:u=x1.toNat
       ·subst e
        exact .inr ⟨h3,by omega,q,by rw[h,Zac]⟩
       ·exact .inl (by rw[h,Zad _ _ e]):mk.keys u=mj.keys u∨(dd=3/\(u:Int)=x1/\∃q,mk.keys u=mj.keys u++[q]))with hk|⟨k1,k2,q,hk⟩
     ·rw[hk]at g2 hr2 hc2 hsl
      have HSM:Hid (∀k,Calls Tryz.prog 20 #[.slice y2 (mj.keys u).length z2,.slice y1 (mj.keys u).length z1] (wr.drewN k) fun r w'=>r=.returned (.bool true)/\∃i,w'=wr.drewN i):=fun k=>by
       have h:=Zbg (w:=wr) (fun k=>ZcY y2 y1 z2 z1 (mj.keys u) (mj.keys u) (wr.drewN k) (hr2.later (Below.refl _ _).drewN) (hr1.later (Below.refl _ _).drewN) (by omega) (by omega)) k
       rw[decide_eq_true rfl]at h
       exact h
      have hsl2:∀w,(Instr.slice 30 (.slice y2 (mj.keys u).length z2) none (some (.int .i64 ((mj.keys u).length:Nat))) none).run Tryz.prog w=.ok (.slice y2 (mj.keys u).length z2) w:=fun w=>ZdA y2 _ hc2 w
      clear hr1 hr2 hsl hk hc1 hc2
      generalize (mj.keys u).length=kl at *
      have d1:decide ((kl:Int)+1<(kl:Int))=false:=decide_eq_false (by omega)
      have d2:IntKind.i64.wrap ((kl:Int)+1)=(kl:Int)+1:=IntWalk.i64_in _ (by omega)
      go_wp2_with fail
      go_quiet ((go_at_call 20;exact HSM.out _))
      go_wp2_with fail
      go_roundw
      case rel=>exact⟨u+1,by omega,by go_num,HB.out.drewN⟩
      case measure=>simp[intOf];omega
     ·have qd:((dd:Int) != 3)=false:=by rw[bne_eq_false_iff_eq];omega
      rw[hk]at g2 hr2 hc2 hsl
      have hrp:RowAt wr y2 1 Zai (mj.keys u):=by
       obtain⟨b',o',rfl,_⟩:=hr2.2 (by simp)
       have h:=hr2.part 0 (mj.keys u).length
       rw[List.drop_zero,List.take_left' rfl,Nat.zero_mul]at h
       exact h
      have hln:(mj.keys u++[q]).length=(mj.keys u).length+1:=by simp
      rw[hln]at g2 hc2 hsl
      have HSM:Hid (∀k,Calls Tryz.prog 20 #[.slice y2 (mj.keys u).length z2,.slice y1 (mj.keys u).length z1] (wr.drewN k) fun r w'=>r=.returned (.bool true)/\∃i,w'=wr.drewN i):=fun k=>by
       have h:=Zbg (w:=wr) (fun k=>ZcY y2 y1 z2 z1 (mj.keys u) (mj.keys u) (wr.drewN k) (hrp.later (Below.refl _ _).drewN) (hr1.later (Below.refl _ _).drewN) (by omega) (by omega)) k
       rw[decide_eq_true rfl]at h
       exact h
      have hsl2:∀w,(Instr.slice 30 (.slice y2 ((mj.keys u).length+1) z2) none (some (.int .i64 ((mj.keys u).length:Nat))) none).run Tryz.prog w=.ok (.slice y2 (mj.keys u).length z2) w:=fun w=>ZdA y2 _ (by omega) w
      have k2b:((u:Int) != x1)=false:=by rw[bne_eq_false_iff_eq];exact k2
      clear hr1 hr2 hsl hk hc1 hc2 hrp hln k1 k2
      generalize (mj.keys u).length=kl at *
      have d1:decide ((kl:Int)+1<(kl:Int))=false:=decide_eq_false (by omega)
      have d2:IntKind.i64.wrap ((kl:Int)+1)=(kl:Int)+1:=IntWalk.i64_in _ (by omega)
      have d3:decide ((kl:Int)<(kl:Int)+1)=true:=decide_eq_true (by omega)
      go_wp2_with fail
      go_quiet ((go_at_call 20;exact HSM.out _))
      go_wp2_with fail
      go_roundw
      case rel=>exact⟨u+1,by omega,by go_num,HB.out.drewN⟩
      case measure=>simp[intOf];omega
    ·obtain rfl:u=kz+1:=by omega
     have e1:decide (((kz+1:Nat):Int)<(kz:Int)+1)=false:=decide_eq_false (by omega)
     have H11:=Lib.hid (H10.out.one.later HB.out)
     go_wp2_with fail
     go_roundw
     case rel=>exact⟨j+1,by omega,by go_num,by rw[<-HMK.out];exact H11⟩
     case measure=>simp[intOf];omega
  ·obtain rfl:j=ol.length:=by omega
   have HR1:Hid (OneM I w B b p fuel (kz+1) 600 (listM p fuel (kz+1) 600 ol m0) wr):=by
    have:=HR.out
    rw[List.take_length]at this
    exact this
   clear HR
   generalize listM p fuel (kz+1) 600 ol m0=m at *
   have hkn:keysI (kz+1) (-1) m=[]:=by unfold keysI;rw[if_neg (by omega)]
   have hkw:keysI (kz+1) ((kz:Int)+1) m=[]:=by unfold keysI;rw[if_neg (by omega)]
   have HC:=Lib.hid (HR1.out.keys (-1))
   have HKN:=Lib.hid hkn
   have HKW2:=Lib.hid hkw
   clear hkn hkw
   go_wp2_with fail
   refine HC.out.mono ?_
   rintro r W8⟨v1,rfl,hv1,hb8⟩
   rw[HKN.out]at hv1
   obtain⟨a1,c1,rfl,_⟩:=hv1.form
   have H8:=Lib.hid (HR1.out.later hb8)
   have HC:=Lib.hid (H8.out.keys ((kz:Int)+1))
   clear hv1 hb8 HR1
   go_wp2_with fail
   refine HC.out.mono ?_
   rintro r W9⟨v2,rfl,hv2,hb9⟩
   rw[HKW2.out]at hv2
   obtain⟨a2,c2,rfl,_⟩:=hv2.form
   have HF:=Lib.hid (H8.out.later hb9).below
   clear hv2 hb9 H8 HC
   go_wp2_with fail
   go_ret
   exact⟨rfl,HF.out⟩
end Go.Proofs.YtjfmmnhcddckaaaGreat
namespace Go.Proofs.YtjfmmnhcddckaaaGreat.machineOwn
open Go.ChangeShapes Go.WideShapes Go.ChangeAt Go.RowKit
theorem own:ownKnob Tryz.prog.godebug=none:=by kernel_rfl
theorem laidOut:laidOutB Tryz.prog=true:=by kernel_rfl
theorem lifted(os:Os)(started:os.Started)(H:Type)(enc:TypeId × Value->H):
  ReturnsInHanded {} Tryz.checked os 8 .any (Rows.machineOwnSpec.pre6 enc Tryz.prog Tryz.f8 Rows.machineOwnRow.domain false) (Rows.machineOwnSpec.post enc Tryz.prog Tryz.f8 false true false false):=by
 refine returnsInHanded_of_change (C:=Tryz.checked) own started (by kernel_rfl) Tryz.func8
  (ChangeSpec.witness6 (enc:=enc) (C:=Tryz.checked) false ⟨#[],#[.agg #[.int .i64 0,.int .i64 0,.slice none 0 0],.int .i64 0,.int .i64 0,.slice none 0 0],[]⟩ 8 (by kernel_rfl) (by kernel_rfl) (by kernel_rfl) (by kernel_rfl)) ?_
 intro W base args ds gs before hval0 hW hcnd _
 have hval:∀(j:Nat) t v,Tryz.f8.params[j]?=some t->args[j]?=some v->Value.okWide Tryz.prog W .any base t v:=hval0
 have hW':=hW
 obtain⟨p,q,hA0,hV,rfl,hfz,hnd⟩:=hW
 have hA:DataW.TrodAll enc Tryz.prog W 0 (fun _=>true) true Tryz.f8.params.toList args.toList ds p:=hA0
 rw[Tryz.params8]at hA hval
 obtain⟨v0,vs0,d0,ds0,p0,q0,hargs,rfl,rfl,h0,r0⟩:=trodAll_cons hA
 obtain⟨v1,vs1,d1,ds1,p1,q1,rfl,rfl,rfl,h1,r1⟩:=trodAll_cons r0
 obtain⟨v2,vs2,d2,ds2,p2,q2,rfl,rfl,rfl,h2,r2⟩:=trodAll_cons r1
 obtain⟨v3,vs3,d3,ds3,p3,q3,rfl,rfl,rfl,h3,r3⟩:=trodAll_cons r2
 obtain⟨rfl,rfl,rfl⟩:=trodAll_nil r3
 obtain rfl:args=#[v0,v1,v2,v3]:=by cases args;simp_all
 obtain⟨rfl,rfl⟩:=trodVars_none hV
 have k0:=h0
 have lt0:∀x∈p0,x.block<W.heap.size:=by obtain⟨m,hm⟩:=k0;exact DataW.trod_lt m _ _ _ hm
 have k1:=h1
 have lt1:∀x∈p1,x.block<W.heap.size:=by obtain⟨m,hm⟩:=k1;exact DataW.trod_lt m _ _ _ hm
 have k2:=h2
 have lt2:∀x∈p2,x.block<W.heap.size:=by obtain⟨m,hm⟩:=k2;exact DataW.trod_lt m _ _ _ hm
 have k3:=h3
 have lt3:∀x∈p3,x.block<W.heap.size:=by obtain⟨m,hm⟩:=k3;exact DataW.trod_lt m _ _ _ hm
 obtain⟨pg0,a0,cap0,rfl,hx0,hn0⟩:=ZbH (hval 0 24 v0 rfl rfl) h0
 obtain⟨n1,rfl,hx1⟩:=ZaE (hval 1 3 v1 rfl rfl) h1
 obtain⟨n2,rfl,hx2⟩:=ZaE (hval 2 3 v2 rfl rfl) h2
 obtain⟨a3,l3,cap3,rfl,hx3,hn3⟩:=Zbu (hval 3 25 v3 rfl rfl) h3
 clear hA0 hval0
 refine(machineOwn_of machI pg0 a0 cap0 n1 n2 a3 l3 cap3 W hx0 hn0 hx3).mono fun e W' ⟨he,bel⟩=>?_
 subst he
 exact⟨_,rfl,_,_,_,[],_,[],hW',trodAll_mk1 (shut_bool Tryz.underlying4 _),(trodAll_cons_mk (Below.trod laidOut (by kernel_rfl) (of_decide_eq_true (by kernel_rfl)) k0 bel lt0) (trodAll_cons_mk (Below.trod laidOut (by kernel_rfl) (of_decide_eq_true (by kernel_rfl)) k1 bel lt1) (trodAll_cons_mk (Below.trod laidOut (by kernel_rfl) (of_decide_eq_true (by kernel_rfl)) k2 bel lt2) (trodAll_cons_mk (Below.trod laidOut (by kernel_rfl) (of_decide_eq_true (by kernel_rfl)) k3 bel lt3) trodAll_mk0)))),rfl,bel.frame _,fun h=>by cases h⟩
theorem over:Rows.machineOwnRow.holds Tryz.pinned (OpenSpec.ofChange Rows.machineOwnSpec):=
 OpenClaim.holds_of_wide 8 Tryz.f8 rfl rfl rfl rfl rfl rfl rfl ⟨rfl,rfl,rfl,rfl,rfl⟩ rfl rfl rfl rfl rfl (by kernel_rfl) Tryz.func8 (by kernel_rfl)
  (of_decide_eq_true (by kernel_rfl)) (by unfold Func.isWrapper;first|(rw[if_pos (by decide +kernel)];kernel_rfl)|(rw[if_neg (by decide +kernel)];exact⟨rfl,rfl⟩))
  (fun os started H enc _=>lifted os started H enc)
theorem proved:Rows.MachineOwnSaid:=over
end Go.Proofs.YtjfmmnhcddckaaaGreat.machineOwn
