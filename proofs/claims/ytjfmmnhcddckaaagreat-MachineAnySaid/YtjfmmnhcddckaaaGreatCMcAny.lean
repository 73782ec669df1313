/-
  MachineAny: with any budget, and cut off anywhere, each key is a class, none is found twice, there are no more nodes than the budget, each but the first was gone into once, and it is halted just if nothing is to be done: the law answers true, and its arguments read as they did.
  For every input, whatever its size and however its parts share memory; nothing is asked of it but what the statement's own form asks.
-/
import Derived.Deep.DeepCutAuto
import Derived.Deep.CutBlock
import Derived.BigQuiet
import Derived.WalkKit
import Derived.ProofKit
import Derived.OpenShut
import Derived.Test.YtjfmmnhcddckaaaGreatRows
import Derived.Test.YtjfmmnhcddckaaaGreatPk14
import Derived.Test.YtjfmmnhcddckaaaGreatPk16
set_option maxRecDepth 100000
set_option maxHeartbeats 8000000
namespace Go.Proofs.YtjfmmnhcddckaaaGreat
open Go.RowKit
theorem machineAny_of(I:MachI)(p:Pg)(a:Option Addr)(cap:Nat)(fuel:Int)(z y:Int)(oa:Option Addr)(ol:List (Int × Int))(oc:Nat)(w:World)(hp:Zaf w a p.threads)(ha:a=none->cap=0)(hordol:RowAt w oa 2 Zbh ol):
  Calls Tryz.prog 4 #[.agg #[.int .i64 p.vars,.int .i64 p.mutexes,.slice a p.threads.length cap],.int .i64 fuel,.int .i64 z,.int .i64 y,.slice oa ol.length oc] w fun r w'=>r=.returned (.bool true)/\Below w.heap.size w w':=by
 have HP:=Lib.hid hp
 have HA:=Lib.hid ha
 have HBX:Hid (∀W,Below (w.alloc (.cells #[.int .i64 p.vars,.int .i64 p.mutexes,.slice a p.threads.length cap] 24)).heap.size (w.alloc (.cells #[.int .i64 p.vars,.int .i64 p.mutexes,.slice a p.threads.length cap] 24)) W->W.cell? ⟨w.heap.size,0,none⟩=some (.int .i64 p.vars)/\W.cell? ⟨w.heap.size,1,none⟩=some (.int .i64 p.mutexes)/\W.cell? ⟨w.heap.size,2,none⟩=some (.slice a p.threads.length cap)):=fun W hb=>⟨Zab hb (by simp),Zab hb (by simp),Zab hb (by simp)⟩
 have hb1:Below w.heap.size w (w.alloc (.cells #[.int .i64 p.vars,.int .i64 p.mutexes,.slice a p.threads.length cap] 24)):=Zaa w _
 have HROWol:=Lib.hid hordol
 have hmol:=hordol.1
 unfold maxLen at hmol
 clear hp ha hordol
 obtain⟨mz,hmz,hm0z⟩:=Zgg z
 obtain⟨kz,hkz,hkKz⟩:=Zc9 mz hm0z 6 (by omega)
 have hk'z:mz.tmod 6=kz:=hkz
 have hwkz:IntKind.i64.wrap (kz:Int)=kz:=IntWalk.i64_in _ (by omega)
 have hw1z:IntKind.i64.wrap (1+(kz:Int))=1+kz:=IntWalk.i64_in _ (by omega)
 have hnkz:(1:Int)+(kz:Int)=(kz:Int)+1:=by omega
 clear hkz hm0z
 obtain⟨my,hmy,hm0y⟩:=Zgg y
 obtain⟨ky,hky,hkKy⟩:=Zc9 my hm0y 600 (by omega)
 have hk'y:my.tmod 600=ky:=hky
 have hwky:IntKind.i64.wrap (ky:Int)=ky:=IntWalk.i64_in _ (by omega)
 have hw1y:IntKind.i64.wrap (1+(ky:Int))=1+ky:=IntWalk.i64_in _ (by omega)
 have hnky:(1:Int)+(ky:Int)=(ky:Int)+1:=by omega
 clear hky hm0y
 go_enter Tryz.func4,Tryz.ntmps4
 go_wp2_with fail
 generalize w.alloc (.cells #[.int .i64 p.vars,.int .i64 p.mutexes,.slice a p.threads.length cap] 24)=W1 at *
 refine(Zap I W1).mono ?_
 rintro r W2⟨rfl,hb2⟩
 obtain⟨c0,c1,c2⟩:=HBX.out W2 hb2
 have hb3:=hb1.trans (hb2.mono hb1.size)
 clear hmz hk'z hwkz hw1z hnkz
 clear hmy hk'y hwky hw1y hnky
 go_wp2_with fail
 refine(Zdy p a cap fuel W2 (HP.out.later hb3)).mono ?_
 rintro r W3⟨rfl,hb4⟩
 have hb5:=hb2.trans (hb4.mono hb2.size)
 have hb6:=hb3.trans (hb4.mono hb3.size)
 clear c0 c1 c2 hb2 hb3 hb4
 cases hf:Zbw p fuel
 ·clear hf
  go_wp2_with fail
  refine(Zap I _).mono ?_
  rintro r w3⟨rfl,hb3⟩
  go_wp2
  go_ret
  exact⟨rfl,hb6.trans (hb3.mono hb6.size)⟩
 obtain⟨_,hok,hle⟩:=Zdx hf
 clear hf
 by_cases hlol:ol.length<=400
 case neg=>
  have q4:decide (ol.length<=400)=false:=decide_eq_false hlol
  have HF:=Lib.hid (Zbk oa ol.length oc W3)
  rw[q4]at HF
  clear q4 hlol
  go_wp2_with fail
  refine HF.out.mono ?_
  rintro r w'⟨rfl,rfl⟩
  go_wp2_with fail
  refine(Zap I _).mono ?_
  rintro r w3⟨rfl,hb3⟩
  go_wp2
  go_ret
  exact⟨rfl,hb6.trans (hb3.mono hb6.size)⟩
 have HF:Hid (Calls Tryz.prog 12 #[.slice oa ol.length oc] W3 fun r w'=>r=.returned (.bool true)/\w'=W3):=by
  have h:=Zbk oa ol.length oc W3
  rw[decide_eq_true hlol]at h
  exact h
 go_wp2_with fail
 refine HF.out.mono ?_
 rintro r w'⟨rfl,e3⟩
 replace e3:=e3.symm
 subst e3
 clear HF
 obtain⟨c0,c1,c2⟩:=HBX.out _ hb5
 go_wp2_with fail
 refine(Zmt p a cap fuel _ (HP.out.later hb6) hok hle).mono ?_
 rintro r W4⟨ks,kc,rfl,hks,hb7⟩
 have hs5:Zhi (W4.alloc (.cells #[.slice ks (sortK (Zau (runsW p fuel))).length kc,.int .i64 ((runsW p fuel).length:Nat),.int .i64 (preW p fuel:Nat),.int .i64 (Za9 (runsW p fuel):Nat)] 32)) W4.heap.size #[.slice ks (sortK (Zau (runsW p fuel))).length kc,.int .i64 ((runsW p fuel).length:Nat),.int .i64 (preW p fuel:Nat),.int .i64 (Za9 (runsW p fuel):Nat)]:=heap_alloc_new W4 _
 have HKS:=Lib.hid (hks.later (Zaa W4 (.cells #[.slice ks (sortK (Zau (runsW p fuel))).length kc,.int .i64 ((runsW p fuel).length:Nat),.int .i64 (preW p fuel:Nat),.int .i64 (Za9 (runsW p fuel):Nat)] 32)))
 have HS5:=Lib.hid hs5
 have hb8:=(hb5.trans (hb7.mono hb5.size)).trans ((Zaa W4 (.cells #[.slice ks (sortK (Zau (runsW p fuel))).length kc,.int .i64 ((runsW p fuel).length:Nat),.int .i64 (preW p fuel:Nat),.int .i64 (Za9 (runsW p fuel):Nat)] 32)).mono (hb5.trans (hb7.mono hb5.size)).size)
 have hb9:=(hb6.trans (hb7.mono hb6.size)).trans ((Zaa W4 (.cells #[.slice ks (sortK (Zau (runsW p fuel))).length kc,.int .i64 ((runsW p fuel).length:Nat),.int .i64 (preW p fuel:Nat),.int .i64 (Za9 (runsW p fuel):Nat)] 32)).mono (hb6.trans (hb7.mono hb6.size)).size)
 clear c0 c1 c2 hks hb5 hb6 hb7 hs5
 have hg:=ZgT hok
 have HG:=Lib.hid hg
 have HN:Hid (Calls Tryz.prog 14 #[.agg #[.int .i64 p.vars,.int .i64 p.mutexes,.slice a p.threads.length cap],.int .i64 fuel,.int .i64 ((kz:Int)+1),.int .i64 ((ky:Int)+1)] _ _):=Zb7 I p a cap fuel (kz+1) (ky+1) _ (HP.out.later hb9) HA.out hg hle (by omega) (by omega) (by omega) (by omega)
 obtain⟨c0,c1,c2⟩:=HBX.out _ hb8
 have HB9:=Lib.hid hb9
 clear hb8 hb9
 go_upto_region 5 with (fail)
 generalize W4.alloc (.cells #[.slice ks (sortK (Zau (runsW p fuel))).length kc,.int .i64 ((runsW p fuel).length:Nat),.int .i64 (preW p fuel:Nat),.int .i64 (Za9 (runsW p fuel):Nat)] 32)=W5 at *
 go_wp2_with fail
 refine HN.out.mono ?_
 rintro r W6⟨b,S,rfl,hb10,hS,hr6⟩
 have HB10:=Lib.hid hb10
 have HS:=Lib.hid hS
 have HB6:Hid (Below w.heap.size w W6):=HB9.out.trans (hb10.mono HB9.out.size)
 have HSW:Hid (∀x,S x->w.heap.size<=x):=fun x hx=>Nat.le_trans HB9.out.size (hS x hx)
 have HR6:Hid (RunI I W6 W5.heap.size b p fuel (kz+1) (ky+1) S (listM p fuel (kz+1) (ky+1) (ol.take 0) (newM p fuel (kz+1))) W6):=hr6
 have HKW:Hid (kz+1<=64):=by show _<=_;omega
 clear c0 c1 c2 HN hb10 hS hr6 hg
 generalize newM p fuel (kz+1)=m0 at *
 go_wp2_with fail
 go_loopw [16,17,18,65] (fun _ _ _ i wr=>∃j:Nat,j<=ol.length/\i=.int .i64 j/\Hid (RunI I W6 W5.heap.size b p fuel (kz+1) (ky+1) S (listM p fuel (kz+1) (ky+1) (ol.take j) m0) wr)) (fun _ _ _ i _=>ol.length-(intOf i).toNat)
 case atStart=>exact⟨0,Nat.zero_le _,rfl,HR6⟩
 case round=>
  clear HR6
  obtain⟨j,hj,rfl,HR⟩:=hrel
  by_cases hlt:j<ol.length
  ·obtain⟨pb,o,rfl,e0,e1⟩:=(HROWol.out.later (HR.out.below HB6.out HSW.out)).pick hlt
   have HNX:Hid ((stepI p fuel (kz+1) (ky+1) ol[j].1 ol[j].2 (listM p fuel (kz+1) (ky+1) (ol.take j) m0)).2=listM p fuel (kz+1) (ky+1) (ol.take (j+1)) m0):=(Zd3 hlt).symm
   generalize listM p fuel (kz+1) (ky+1) (ol.take j) m0=mj at *
   generalize ol[j]=x at *
   obtain⟨x1,x2⟩:=x
   dsimp only at e0 e1 HNX
   obtain⟨t1,_,t3,t4⟩:=Zem HR.out.good x1 x2
   have H6:=Lib.hid (HR.out.later (Zaa wr (.cells #[.int .i64 x1,.int .i64 x2] 48)))
   have HBK:Hid (∀W,Below (wr.alloc (.cells #[.int .i64 x1,.int .i64 x2] 48)).heap.size (wr.alloc (.cells #[.int .i64 x1,.int .i64 x2] 48)) W->W.cell? ⟨wr.heap.size,0,none⟩=some (.int .i64 x1)/\W.cell? ⟨wr.heap.size,1,none⟩=some (.int .i64 x2)):=fun W hb=>⟨Zab hb (by simp),Zab hb (by simp)⟩
   clear HR
   go_upto_region 11 with (fail)
   generalize wr.alloc (.cells #[.int .i64 x1,.int .i64 x2] 48)=W7 at *
   clear e0 e1
   obtain⟨S3,hm3,_⟩:=H6.out.mm
   have HC:=Lib.hid (I.halted hm3)
   clear hm3
   cases hh:haltM (kz+1) mj
   ·rw[hh]at HC
    clear t4
    go_wp2_with fail
    refine HC.out.mono ?_
    rintro r w'⟨rfl,i,rfl⟩
    obtain⟨f0,f1⟩:=HBK.out (W7.drewN i) (Below.refl _ _).drewN
    have HST:=Lib.hid ((H6.out.later (w':=W7.drewN i) (Below.refl _ _).drewN).step x1 x2)
    rw[HNX.out]at HST t3
    clear HC H6 HBK HNX t1 hh
    generalize (stepI p fuel (kz+1) (ky+1) x1 x2 mj).1=dd at *
    go_wp2_with fail
    refine HST.out.mono ?_
    rintro r w3⟨rfl,h3⟩
    have H3:=Lib.hid h3
    clear h3 HST f0 f1
    by_cases h5:dd=5
    ·obtain⟨t5,t6⟩:=t3 h5
     subst h5
     have HC:=Lib.hid H3.out.halted
     rw[t5]at HC
     go_wp2_with fail
     refine HC.out.mono ?_
     rintro r w4⟨rfl,h4⟩
     have HC:=Lib.hid h4.complete
     rw[t5,t6]at HC
     clear h4 t3 t5 t6 H3
     go_wp2_with fail
     refine HC.out.mono ?_
     rintro r w5⟨rfl,h5⟩
     have H5:=Lib.hid h5
     clear h5 HC
     go_wp2_with fail
     go_roundw
     case rel=>exact⟨j+1,by omega,by go_num,H5⟩
     case measure=>simp[intOf];omega
    ·have q5:((dd:Int)==5)=false:=by rw[beq_eq_false_iff_ne];omega
     clear t3
     go_wp2_with fail
     go_roundw
     case rel=>exact⟨j+1,by omega,by go_num,H3⟩
     case measure=>simp[intOf];omega
   ·have t7:=t4 hh
    rw[hh]at HC
    clear t3 t4
    go_wp2_with fail
    refine HC.out.mono ?_
    rintro r w'⟨rfl,i,rfl⟩
    obtain⟨f0,f1⟩:=HBK.out (W7.drewN i) (Below.refl _ _).drewN
    have HST:=Lib.hid ((H6.out.later (w':=W7.drewN i) (Below.refl _ _).drewN).step x1 x2)
    rw[HNX.out,t7]at HST
    clear HC H6 HBK HNX t1 hh t7
    go_wp2_with fail
    refine HST.out.mono ?_
    rintro r w3⟨rfl,h3⟩
    have H3:=Lib.hid h3
    clear h3 HST f0 f1
    go_wp2_with fail
    go_roundw
    case rel=>exact⟨j+1,by omega,by go_num,H3⟩
    case measure=>simp[intOf];omega
  ·obtain rfl:j=ol.length:=by omega
   have HR1:Hid (RunI I W6 W5.heap.size b p fuel (kz+1) (ky+1) S (listM p fuel (kz+1) (ky+1) ol m0) wr):=by
    have:=HR.out
    rw[List.take_length]at this
    exact this
   clear HR
   generalize listM p fuel (kz+1) (ky+1) ol m0=m at *
   obtain⟨a1,a2,a3,a4,a5,a6,a7⟩:=HR1.out.good.any
   have HA1:=Lib.hid (And.intro a1 (And.intro a2 (And.intro a3 a7)))
   have hk600:=(Zcy hle).1
   have HK600:=Lib.hid hk600
   have HC:=Lib.hid HR1.out.all
   clear a1 a2 a3 a7 hk600 hle hok
   go_wp2_with fail
   refine HC.out.mono ?_
   rintro r W8⟨v,rfl,hv,h8⟩
   have hG:=Zdj hv HKW.out (by have:=HA1.out.2.1;omega)
   rw[HA1.out.1,decide_eq_true rfl]at hG
   have HG:=Lib.hid hG
   have H8:=Lib.hid h8
   clear hv hG h8 HC HR1
   go_wp2_with fail
   refine HG.out.mono ?_
   rintro r W9⟨ka,kc2,rfl,hka,hb12⟩
   have HR9:=Lib.hid (H8.out.later hb12)
   have HB11:Hid (Below W5.heap.size W5 W9):=HR9.out.below HB10.out (fun x hx=>HS.out x hx)
   have HKA:Hid (∀W,Below W9.heap.size W9 W->RowAt W ka 1 Zai (sortK (keysM (kz+1) m.keys))):=fun W hb=>hka.later hb
   have HKS2:Hid (∀W,Below W9.heap.size W9 W->RowAt W ks 1 Zai (sortK (Zau (runsW p fuel)))):=fun W hb=>(HKS.out.later HB11.out).later hb
   have HY:Hid (∀W,Below W9.heap.size W9 W->W.cell? ⟨W4.heap.size,0,none⟩=some (.slice ks (sortK (Zau (runsW p fuel))).length kc)):=fun W hb=>((HS5.out.later HB11.out).later hb).at_ 0 rfl
   have hAM:=among_any ka ks kc2 kc (sortK (keysM (kz+1) m.keys)) (sortK (Zau (runsW p fuel))) W9 (HKA.out _ (Below.refl _ _)) (HKS2.out _ (Below.refl _ _)) (by have:=HA1.out.1;have:=HA1.out.2.1;omega) (by have:=HK600.out;omega)
   rw[decide_eq_true HA1.out.2.2.1]at hAM
   have HAM:=Lib.hid hAM
   have HLK:=Lib.hid HA1.out.1
   have y0:=HY.out W9 (Below.refl _ _)
   rw[HA1.out.1]at HAM
   clear hka hb12 HG H8 hAM
   go_wp2_with fail
   refine HAM.out.mono ?_
   rintro r W10⟨rfl,hb13⟩
   have HB13:=Lib.hid hb13
   have H10:=Lib.hid (HR9.out.later hb13)
   have HNQ:=Lib.hid (fun k=>H10.out.nodesQ k)
   have HLQ:=Lib.hid (fun k=>H10.out.claimsQ k)
   have HC:=Lib.hid (fun k=>H10.out.completeQ k)
   clear hb13 HR9 HAM y0
   have d1:decide ((ky:Int)+1<(m.l.length:Int))=false:=decide_eq_false (by omega)
   have d2:IntKind.i64.wrap ((m.l.length:Int)-1)=(m.l.length:Int)-1:=IntWalk.i64_in _ (by omega)
   have d3:((m.cl:Int) != (m.l.length:Int)-1)=false:=by
    rw[bne_eq_false_iff_eq]
    omega
   have HN0:=HNQ.out 0
   go_wp2_with fail
   refine HN0.mono ?_
   rintro r w'⟨rfl,i1,rfl⟩
   clear HN0
   go_wp2_with fail
   refine(HLQ.out i1).mono ?_
   rintro r w'⟨rfl,i2,rfl⟩
   go_wp2_with fail
   refine(HNQ.out i2).mono ?_
   rintro r w'⟨rfl,i3,rfl⟩
   clear HNQ HLQ
   cases hh:haltM (kz+1) m
   ·rw[hh]at HC
    obtain⟨w0,hw0,hbz⟩:=H10.out.good.busy hh
    have HBZ:=Lib.hid hbz
    have HHH:=Lib.hid hh
    clear hh hbz
    go_wp2_with fail
    refine(HC.out i3).mono ?_
    rintro r w'⟨rfl,i4,rfl⟩
    have HC:=Lib.hid ((H10.out.later (w':=W10.drewN i4) (Below.refl _ _).drewN).halted)
    rw[HHH.out]at HC
    clear H10 d1 d2 d3
    go_wp2_with fail
    refine HC.out.mono ?_
    rintro r W15⟨rfl,h15⟩
    have HR15:=Lib.hid h15
    clear h15 HC
    go_wp2_with fail
    go_loopw [21,22,139] (fun _ _ i wr=>∃x:Nat,x<=w0/\i=.int .i64 x/\Hid (RunI I W6 W5.heap.size b p fuel (kz+1) (ky+1) S m wr)) (fun _ _ i _=>w0-(intOf i).toNat)
    case atStart=>exact⟨0,Nat.zero_le _,rfl,HR15⟩
    case round=>
     clear HR15
     obtain⟨x,hx,rfl,HX⟩:=hrel
     have e1:decide ((x:Int)<(kz:Int)+1)=true:=decide_eq_true (by omega)
     go_wp2_with fail
     go_loopw [22,143] (fun _ i wr=>∃v:Nat,v<=kz+1/\i=.int .i64 v/\(x=w0->v=0)/\Hid (RunI I W6 W5.heap.size b p fuel (kz+1) (ky+1) S m wr)) (fun _ i _=>kz+1-(intOf i).toNat)
     case atStart=>exact⟨0,Nat.zero_le _,rfl,fun _=>rfl,HX⟩
     case round=>
      clear HX
      obtain⟨v,hv,rfl,hv0,HX⟩:=hrel
      by_cases hvt:v<kz+1
      ·have e2:decide ((v:Int)<(kz:Int)+1)=true:=decide_eq_true (by omega)
       have HST:=Lib.hid (HX.out.step (x:Int) (v:Int))
       obtain⟨t1,_⟩:=Zem HX.out.good (x:Int) (v:Int)
       by_cases hq:(stepI p fuel (kz+1) (ky+1) (x:Int) (v:Int) m).1=0
       ·have e4:=t1 hq
        rw[hq,e4]at HST
        have hxn:x≠w0:=fun e=>HBZ.out (v:Int) (by rw[<-e];exact hq)
        clear hq e4 t1 HX hv0
        go_wp2_with fail
        refine HST.out.mono ?_
        rintro r w3⟨rfl,h3⟩
        have H3:=Lib.hid h3
        clear h3 HST
        go_wp2_with fail
        go_roundw
        case rel=>exact⟨v+1,by omega,by go_num,fun e=>absurd e hxn,H3⟩
        case measure=>simp[intOf];omega
       ·have HBF:Hid (∀w3,RunI I W6 W5.heap.size b p fuel (kz+1) (ky+1) S (stepI p fuel (kz+1) (ky+1) (x:Int) (v:Int) m).2 w3->Below w.heap.size w w3):=fun w3 h3=>h3.below HB6.out HSW.out
        clear t1 HX
        generalize (stepI p fuel (kz+1) (ky+1) (x:Int) (v:Int) m).1=dd at *
        have q0:((dd:Int) != 0)=true:=by rw[bne_iff_ne];omega
        go_wp2_with fail
        refine HST.out.mono ?_
        rintro r w3⟨rfl,h3⟩
        have HF:=Lib.hid (HBF.out w3 h3)
        clear h3 HST HBF
        go_wp2_with fail
        go_ret
        exact⟨rfl,HF.out⟩
      ·obtain rfl:v=kz+1:=by omega
       have e2:decide (((kz+1:Nat):Int)<(kz:Int)+1)=false:=decide_eq_false (by omega)
       have hxn:x≠w0:=fun e=>absurd (hv0 e) (by omega)
       go_wp2_with fail
       go_roundw
       case rel=>exact⟨x+1,by omega,by go_num,HX⟩
       case measure=>simp[intOf];omega
   ·cases hov:m.over
    ·rw[hh,hov]at HC
     have he:=HA1.out.2.2.2 hh hov
     have HL2:Hid ((keysM (kz+1) m.keys).length=(sortK (Zau (runsW p fuel))).length):=by
      show _=_
      rw[<-HA1.out.1,he]
     have HKA3:Hid (∀W,Below W9.heap.size W9 W->RowAt W ka 1 Zai (sortK (Zau (runsW p fuel)))):=by
      have:=HKA
      rw[he]at this
      exact this
     have HHH:=Lib.hid hh
     have HSM:Hid (∀k,Calls Tryz.prog 20 #[.slice ka (sortK (Zau (runsW p fuel))).length kc2,.slice ks (sortK (Zau (runsW p fuel))).length kc] (W10.drewN k) fun r w'=>r=.returned (.bool true)/\∃i,w'=W10.drewN i):=fun k=>by
      have hk:=HK600.out
      have h:=Zbg (w:=W10) (fun k=>ZcY ka ks kc2 kc (sortK (Zau (runsW p fuel))) (sortK (Zau (runsW p fuel))) (W10.drewN k) ((HKA3.out _ HB13.out).later (Below.refl _ _).drewN) ((HKS2.out _ HB13.out).later (Below.refl _ _).drewN) (by omega) (by omega)) k
      rw[decide_eq_true rfl]at h
      exact h
     clear hh hov he
     go_wp2_with fail
     refine(HC.out i3).mono ?_
     rintro r w'⟨rfl,i4,rfl⟩
     have y0:=HY.out (W10.drewN i4) HB13.out.drewN
     have HS4:Hid (Calls Tryz.prog 20 #[.slice ka (keysM (kz+1) m.keys).length kc2,.slice ks (sortK (Zau (runsW p fuel))).length kc] (W10.drewN i4) fun r w'=>r=.returned (.bool true)/\∃i,w'=W10.drewN i):=by
      rw[HL2.out]
      exact HSM.out i4
     clear HSM
     go_wp2_with fail
     refine HS4.out.mono ?_
     rintro r w'⟨rfl,i5,rfl⟩
     have HC:=Lib.hid ((H10.out.later (w':=W10.drewN i5) (Below.refl _ _).drewN).halted)
     rw[HHH.out]at HC
     clear H10 d1 d2 d3 y0 HS4
     go_wp2_with fail
     refine HC.out.mono ?_
     rintro r W15⟨rfl,h15⟩
     have HF:Hid (Below w.heap.size w W15):=h15.below HB6.out HSW.out
     clear h15 HC
     go_wp2_with fail
     go_ret
     exact⟨rfl,HF.out⟩
    ·rw[hh,hov]at HC
     have HHH:=Lib.hid hh
     clear hh hov
     go_wp2_with fail
     refine(HC.out i3).mono ?_
     rintro r w'⟨rfl,i4,rfl⟩
     have HC:=Lib.hid ((H10.out.later (w':=W10.drewN i4) (Below.refl _ _).drewN).halted)
     rw[HHH.out]at HC
     clear H10 d1 d2 d3
     go_wp2_with fail
     refine HC.out.mono ?_
     rintro r W15⟨rfl,h15⟩
     have HF:Hid (Below w.heap.size w W15):=h15.below HB6.out HSW.out
     clear h15 HC
     go_wp2_with fail
     go_ret
     exact⟨rfl,HF.out⟩
end Go.Proofs.YtjfmmnhcddckaaaGreat
namespace Go.Proofs.YtjfmmnhcddckaaaGreat.machineAny
open Go.ChangeShapes Go.WideShapes Go.ChangeAt Go.RowKit
theorem own:ownKnob Tryz.prog.godebug=none:=by kernel_rfl
theorem laidOut:laidOutB Tryz.prog=true:=by kernel_rfl
theorem lifted(os:Os)(started:os.Started)(H:Type)(enc:TypeId × Value->H):
  ReturnsInHanded {} Tryz.checked os 4 .any (Rows.machineAnySpec.pre6 enc Tryz.prog Tryz.f4 Rows.machineAnyRow.domain false) (Rows.machineAnySpec.post enc Tryz.prog Tryz.f4 false true false false):=by
 refine returnsInHanded_of_change (C:=Tryz.checked) own started (by kernel_rfl) Tryz.func4
  (ChangeSpec.witness6 (enc:=enc) (C:=Tryz.checked) false ⟨#[],#[.agg #[.int .i64 0,.int .i64 0,.slice none 0 0],.int .i64 0,.int .i64 0,.int .i64 0,.slice none 0 0],[]⟩ 8 (by kernel_rfl) (by kernel_rfl) (by kernel_rfl) (by kernel_rfl)) ?_
 intro W base args ds gs before hval0 hW hcnd _
 have hval:∀(j:Nat) t v,Tryz.f4.params[j]?=some t->args[j]?=some v->Value.okWide Tryz.prog W .any base t v:=hval0
 have hW':=hW
 obtain⟨p,q,hA0,hV,rfl,hfz,hnd⟩:=hW
 have hA:DataW.TrodAll enc Tryz.prog W 0 (fun _=>true) true Tryz.f4.params.toList args.toList ds p:=hA0
 rw[Tryz.params4]at hA hval
 obtain⟨v0,vs0,d0,ds0,p0,q0,hargs,rfl,rfl,h0,r0⟩:=trodAll_cons hA
 obtain⟨v1,vs1,d1,ds1,p1,q1,rfl,rfl,rfl,h1,r1⟩:=trodAll_cons r0
 obtain⟨v2,vs2,d2,ds2,p2,q2,rfl,rfl,rfl,h2,r2⟩:=trodAll_cons r1
 obtain⟨v3,vs3,d3,ds3,p3,q3,rfl,rfl,rfl,h3,r3⟩:=trodAll_cons r2
 obtain⟨v4,vs4,d4,ds4,p4,q4,rfl,rfl,rfl,h4,r4⟩:=trodAll_cons r3
 obtain⟨rfl,rfl,rfl⟩:=trodAll_nil r4
 obtain rfl:args=#[v0,v1,v2,v3,v4]:=by cases args;simp_all
 obtain⟨rfl,rfl⟩:=trodVars_none hV
 have k0:=h0
 have lt0:∀x∈p0,x.block<W.heap.size:=by obtain⟨m,hm⟩:=k0;exact DataW.trod_lt m _ _ _ hm
 have k1:=h1
 have lt1:∀x∈p1,x.block<W.heap.size:=by obtain⟨m,hm⟩:=k1;exact DataW.trod_lt m _ _ _ hm
 have k2:=h2
 have lt2:∀x∈p2,x.block<W.heap.size:=by obtain⟨m,hm⟩:=k2;exact DataW.trod_lt m _ _ _ hm
 have k3:=h3
 have lt3:∀x∈p3,x.block<W.heap.size:=by obtain⟨m,hm⟩:=k3;exact DataW.trod_lt m _ _ _ hm
 have k4:=h4
 have lt4:∀x∈p4,x.block<W.heap.size:=by obtain⟨m,hm⟩:=k4;exact DataW.trod_lt m _ _ _ hm
 obtain⟨pg0,a0,cap0,rfl,hx0,hn0⟩:=ZbH (hval 0 24 v0 rfl rfl) h0
 obtain⟨n1,rfl,hx1⟩:=ZaE (hval 1 3 v1 rfl rfl) h1
 obtain⟨n2,rfl,hx2⟩:=ZaE (hval 2 3 v2 rfl rfl) h2
 obtain⟨n3,rfl,hx3⟩:=ZaE (hval 3 3 v3 rfl rfl) h3
 obtain⟨a4,l4,cap4,rfl,hx4,hn4⟩:=Zbu (hval 4 25 v4 rfl rfl) h4
 clear hA0 hval0
 refine(machineAny_of machI pg0 a0 cap0 n1 n2 n3 a4 l4 cap4 W hx0 hn0 hx4).mono fun e W' ⟨he,bel⟩=>?_
 subst he
 exact⟨_,rfl,_,_,_,[],_,[],hW',trodAll_mk1 (shut_bool Tryz.underlying4 _),(trodAll_cons_mk (Below.trod laidOut (by kernel_rfl) (of_decide_eq_true (by kernel_rfl)) k0 bel lt0) (trodAll_cons_mk (Below.trod laidOut (by kernel_rfl) (of_decide_eq_true (by kernel_rfl)) k1 bel lt1) (trodAll_cons_mk (Below.trod laidOut (by kernel_rfl) (of_decide_eq_true (by kernel_rfl)) k2 bel lt2) (trodAll_cons_mk (Below.trod laidOut (by kernel_rfl) (of_decide_eq_true (by kernel_rfl)) k3 bel lt3) (trodAll_cons_mk (Below.trod laidOut (by kernel_rfl) (of_decide_eq_true (by kernel_rfl)) k4 bel lt4) trodAll_mk0))))),rfl,bel.frame _,fun h=>by cases h⟩
theorem over:Rows.machineAnyRow.holds Tryz.pinned (OpenSpec.ofChange Rows.machineAnySpec):=
 OpenClaim.holds_of_wide 4 Tryz.f4 rfl rfl rfl rfl rfl rfl rfl ⟨rfl,rfl,rfl,rfl,rfl⟩ rfl rfl rfl rfl rfl (by kernel_rfl) Tryz.func4 (by kernel_rfl)
  (of_decide_eq_true (by kernel_rfl)) (by unfold Func.isWrapper;first|(rw[if_pos (by decide +kernel)];kernel_rfl)|(rw[if_neg (by decide +kernel)];exact⟨rfl,rfl⟩))
  (fun os started H enc _=>lifted os started H enc)
theorem proved:Rows.MachineAnySaid:=over
end Go.Proofs.YtjfmmnhcddckaaaGreat.machineAny
