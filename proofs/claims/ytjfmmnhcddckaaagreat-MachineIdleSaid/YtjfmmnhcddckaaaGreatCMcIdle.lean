/-
  MachineIdle: a step that is Idle changes nothing: no node, no key, nothing left or ended: the law answers true, and its arguments read as they did.
  For every input, whatever its size and however its parts share memory; nothing is asked of it but what the statement's own form asks.
-/
import Derived.Deep.DeepCutAuto
import Derived.Deep.CutBlock
import Derived.BigQuiet
import Derived.WalkKit
import Derived.ProofKit
import Derived.OpenShut
import Derived.Test.YtjfmmnhcddckaaaGreatRows
import Derived.Test.YtjfmmnhcddckaaaGreatPk14
import Derived.Test.YtjfmmnhcddckaaaGreatPk16
set_option maxRecDepth 100000
set_option maxHeartbeats 8000000
namespace Go.Proofs.YtjfmmnhcddckaaaGreat
open Go.RowKit
theorem machineIdle_of(I:MachI)(p:Pg)(a:Option Addr)(cap:Nat)(fuel:Int)(z:Int)(oa:Option Addr)(ol:List (Int × Int))(oc:Nat)(w:World)(hp:Zaf w a p.threads)(ha:a=none->cap=0)(hordol:RowAt w oa 2 Zbh ol):
  Calls Tryz.prog 7 #[.agg #[.int .i64 p.vars,.int .i64 p.mutexes,.slice a p.threads.length cap],.int .i64 fuel,.int .i64 z,.slice oa ol.length oc] w fun r w'=>r=.returned (.bool true)/\Below w.heap.size w w':=by
 have HP:=Lib.hid hp
 have HA:=Lib.hid ha
 have HBX:Hid (∀W,Below (w.alloc (.cells #[.int .i64 p.vars,.int .i64 p.mutexes,.slice a p.threads.length cap] 24)).heap.size (w.alloc (.cells #[.int .i64 p.vars,.int .i64 p.mutexes,.slice a p.threads.length cap] 24)) W->W.cell? ⟨w.heap.size,0,none⟩=some (.int .i64 p.vars)/\W.cell? ⟨w.heap.size,1,none⟩=some (.int .i64 p.mutexes)/\W.cell? ⟨w.heap.size,2,none⟩=some (.slice a p.threads.length cap)):=fun W hb=>⟨Zab hb (by simp),Zab hb (by simp),Zab hb (by simp)⟩
 have hb1:Below w.heap.size w (w.alloc (.cells #[.int .i64 p.vars,.int .i64 p.mutexes,.slice a p.threads.length cap] 24)):=Zaa w _
 have HROWol:=Lib.hid hordol
 have hmol:=hordol.1
 unfold maxLen at hmol
 clear hp ha hordol
 obtain⟨mz,hmz,hm0z⟩:=Zgg z
 obtain⟨kz,hkz,hkKz⟩:=Zc9 mz hm0z 6 (by omega)
 have hk'z:mz.tmod 6=kz:=hkz
 have hwkz:IntKind.i64.wrap (kz:Int)=kz:=IntWalk.i64_in _ (by omega)
 have hw1z:IntKind.i64.wrap (1+(kz:Int))=1+kz:=IntWalk.i64_in _ (by omega)
 have hnkz:(1:Int)+(kz:Int)=(kz:Int)+1:=by omega
 clear hkz hm0z
 go_enter Tryz.func7,Tryz.ntmps7
 go_wp2_with fail
 generalize w.alloc (.cells #[.int .i64 p.vars,.int .i64 p.mutexes,.slice a p.threads.length cap] 24)=W1 at *
 refine(Zap I W1).mono ?_
 rintro r W2⟨rfl,hb2⟩
 obtain⟨c0,c1,c2⟩:=HBX.out W2 hb2
 have hb3:=hb1.trans (hb2.mono hb1.size)
 clear hmz hk'z hwkz hw1z hnkz
 go_wp2_with fail
 refine(Zdy p a cap fuel W2 (HP.out.later hb3)).mono ?_
 rintro r W3⟨rfl,hb4⟩
 have hb5:=hb2.trans (hb4.mono hb2.size)
 have hb6:=hb3.trans (hb4.mono hb3.size)
 clear c0 c1 c2 hb2 hb3 hb4
 cases hf:Zbw p fuel
 ·clear hf
  go_wp2_with fail
  refine(Zap I _).mono ?_
  rintro r w3⟨rfl,hb3⟩
  go_wp2
  go_ret
  exact⟨rfl,hb6.trans (hb3.mono hb6.size)⟩
 obtain⟨_,hok,hle⟩:=Zdx hf
 clear hf
 by_cases hlol:ol.length<=400
 case neg=>
  have q4:decide (ol.length<=400)=false:=decide_eq_false hlol
  have HF:=Lib.hid (Zbk oa ol.length oc W3)
  rw[q4]at HF
  clear q4 hlol
  go_wp2_with fail
  refine HF.out.mono ?_
  rintro r w'⟨rfl,rfl⟩
  go_wp2_with fail
  refine(Zap I _).mono ?_
  rintro r w3⟨rfl,hb3⟩
  go_wp2
  go_ret
  exact⟨rfl,hb6.trans (hb3.mono hb6.size)⟩
 have HF:Hid (Calls Tryz.prog 12 #[.slice oa ol.length oc] W3 fun r w'=>r=.returned (.bool true)/\w'=W3):=by
  have h:=Zbk oa ol.length oc W3
  rw[decide_eq_true hlol]at h
  exact h
 go_wp2_with fail
 refine HF.out.mono ?_
 rintro r w'⟨rfl,e3⟩
 replace e3:=e3.symm
 subst e3
 clear HF
 obtain⟨c0,c1,c2⟩:=HBX.out _ hb5
 have hg:=ZgT hok
 have HG:=Lib.hid hg
 have HN:Hid (∀W,Below W1.heap.size W1 W->Below w.heap.size w W->Calls Tryz.prog 14 #[.agg #[.int .i64 p.vars,.int .i64 p.mutexes,.slice a p.threads.length cap],.int .i64 fuel,.int .i64 ((kz:Int)+1),.int .i64 600] W fun r w'=>∃b S,r=.returned (.tuple #[.pointer (some ⟨b,0,none⟩),.int .i64 0])/\Below W.heap.size W w'/\(∀x,S x->W.heap.size<=x)/\RunI I w' W.heap.size b p fuel (kz+1) 600 S (newM p fuel (kz+1)) w'):=fun W _ hb=>Zb7 I p a cap fuel (kz+1) 600 W (HP.out.later hb) HA.out hg hle (by omega) (by omega) (by omega) (by omega)
 have HN2:Hid (∀W,Below W1.heap.size W1 W->Below w.heap.size w W->Calls Tryz.prog 14 #[.agg #[.int .i64 p.vars,.int .i64 p.mutexes,.slice a p.threads.length cap],.int .i64 fuel,.int .i64 ((kz:Int)+1),.int .i64 600] W fun r w'=>∃b S,r=.returned (.tuple #[.pointer (some ⟨b,0,none⟩),.int .i64 0])/\Below W.heap.size W w'/\(∀x,S x->W.heap.size<=x)/\RunI I w' W.heap.size b p fuel (kz+1) 600 S (newM p fuel (kz+1)) w'):=fun W _ hb=>Zb7 I p a cap fuel (kz+1) 600 W (HP.out.later hb) HA.out hg hle (by omega) (by omega) (by omega) (by omega)
 go_wp2_with fail
 refine(HN.out _ hb5 hb6).mono ?_
 rintro r W4⟨b1,S1,rfl,hb7,hS1,hr1⟩
 have hb8:=hb5.trans (hb7.mono hb5.size)
 have hb9:=hb6.trans (hb7.mono hb6.size)
 clear c0 c1 c2
 obtain⟨c0,c1,c2⟩:=HBX.out _ hb8
 have HR1:=Lib.hid hr1
 have HB9:=Lib.hid hb9
 have HL1:=Lib.hid hb6.size
 clear hr1 hS1 hb7 HN
 go_wp2_with fail
 refine(HN2.out _ hb8 hb9).mono ?_
 rintro r W5⟨b2,S2,rfl,hb10,_,hr2⟩
 have HTW:=Lib.hid (two_new HB9.out HR1.out HL1.out hb10 hr2)
 clear hb10 hr2 HN2 HR1 c0 c1 c2 hb5 hb6 hb8 hb9
 have HT0:Hid (TwoM I w W3.heap.size b1 (kz+1) 600 (listM p fuel (kz+1) 600 (ol.take 0) (newM p fuel (kz+1))) W4.heap.size b2 (kz+1) 600 (listM p fuel (kz+1) 600 (ol.take 0) (newM p fuel (kz+1))) p fuel W5):=HTW.out
 have HKW:Hid (kz+1<=64):=by show _<=_;omega
 clear HTW hg hok hle
 generalize newM p fuel (kz+1)=m0 at *
 generalize W3.heap.size=B1 at *
 generalize W4.heap.size=B2 at *
 go_wp2_with fail
 go_loopw [14,15,16,17,18,63] (fun _ _ _ _ _ i wr=>∃j:Nat,j<=ol.length/\i=.int .i64 j/\Hid (TwoM I w B1 b1 (kz+1) 600 (listM p fuel (kz+1) 600 (ol.take j) m0) B2 b2 (kz+1) 600 (listM p fuel (kz+1) 600 (ol.take j) m0) p fuel wr)) (fun _ _ _ _ _ i _=>ol.length-(intOf i).toNat)
 case atStart=>exact⟨0,Nat.zero_le _,rfl,HT0⟩
 case round=>
  clear HT0
  obtain⟨j,hj,rfl,HR⟩:=hrel
  by_cases hlt:j<ol.length
  ·obtain⟨pb,o,rfl,e0,e1⟩:=(HROWol.out.later HR.out.below).pick hlt
   have HNX:Hid ((stepI p fuel (kz+1) 600 ol[j].1 ol[j].2 (listM p fuel (kz+1) 600 (ol.take j) m0)).2=listM p fuel (kz+1) 600 (ol.take (j+1)) m0):=(Zd3 hlt).symm
   generalize listM p fuel (kz+1) 600 (ol.take j) m0=mj at *
   obtain⟨mk,hmk⟩:∃mk,mk=listM p fuel (kz+1) 600 (ol.take (j+1)) m0:=⟨_,rfl⟩
   rw[<-hmk]at HNX
   have HMK:=Lib.hid hmk
   clear hmk
   generalize ol[j]=x at *
   obtain⟨x1,x2⟩:=x
   dsimp only at e0 e1 HNX
   obtain⟨t1,t2,_,_⟩:=Zem HR.out.g1 x1 x2
   rw[HNX.out]at t1 t2
   have hcl:mj.cl<=600:=by
    obtain⟨_,_,_,_,a5,a6,_⟩:=HR.out.g1.any
    omega
   have H6:=Lib.hid (HR.out.boxed (c:=#[.int .i64 x1,.int .i64 x2]) (t:=48))
   clear HR
   go_upto_region 11 with (fail)
   generalize wr.alloc (.cells #[.int .i64 x1,.int .i64 x2] 48)=W7 at *
   generalize wr.heap.size=G at *
   clear e0 e1
   have HF:Hid (∀W:World,W.heap[G]?=some (.cells #[.int .i64 x1,.int .i64 x2] 48 (0,0))->W.cell? ⟨G,0,none⟩=some (.int .i64 x1)/\W.cell? ⟨G,1,none⟩=some (.int .i64 x2)):=fun W hW=>⟨by rw[cell_of_row W _ 0 _ _ _ hW];rfl,by rw[cell_of_row W _ 1 _ _ _ hW];rfl⟩
   obtain⟨f0,f1⟩:=HF.out W7 H6.out.box
   have HNa:=Lib.hid (fun k=>H6.out.two.nodesQ k)
   have HCa:=Lib.hid (fun k=>H6.out.two.claimsQ k)
   have HHa:=Lib.hid (fun k=>H6.out.two.haltedQ k)
   have HN0:=HNa.out 0
   clear f0 f1
   go_wp2_with fail
   refine HN0.mono ?_
   rintro r w'⟨rfl,i1,rfl⟩
   clear HN0
   go_wp2_with fail
   refine(HCa.out i1).mono ?_
   rintro r w'⟨rfl,i2,rfl⟩
   go_wp2_with fail
   refine(HHa.out i2).mono ?_
   rintro r w'⟨rfl,i3,rfl⟩
   have H8:=Lib.hid (H6.out.later (w':=W7.drewN i3) (Below.refl _ _).drewN)
   clear HNa HCa HHa H6
   generalize W7.drewN i3=W8 at *
   obtain⟨f0,f1⟩:=HF.out W8 H8.out.box
   have HST:=Lib.hid (H8.out.step x1 x2)
   rw[HNX.out]at HST
   have HX2:Hid (∀w3,TwoG I w B1 b1 (kz+1) 600 mk B2 b2 (kz+1) 600 mj p fuel G (.cells #[.int .i64 x1,.int .i64 x2] 48 (0,0)) w3->Calls Tryz.prog 23 #[.pointer (some ⟨b2,0,none⟩),.int .i64 x1,.int .i64 x2] w3 fun r w'=>r=.returned (.int .i64 ((stepI p fuel (kz+1) 600 x1 x2 mj).1:Nat))/\TwoG I w B1 b1 (kz+1) 600 mk B2 b2 (kz+1) 600 mk p fuel G (.cells #[.int .i64 x1,.int .i64 x2] 48 (0,0)) w'):=fun w3 h3=>by
    have h:=h3.swap.step x1 x2
    rw[HNX.out]at h
    exact h.mono fun r w' ⟨e,h5⟩=>⟨e,h5.swap⟩
   clear HNX H8
   generalize (stepI p fuel (kz+1) 600 x1 x2 mj).1=dd at *
   go_wp2_with fail
   refine HST.out.mono ?_
   rintro r W9⟨rfl,h9⟩
   have H9:=Lib.hid h9
   clear h9 HST f0 f1
   rcases (by omega:dd=0∨(dd≠0/\dd=3)∨(dd≠0/\dd≠3))with k1|⟨k1,k2⟩|⟨k1,k2⟩
   focus
    have hmj:=(t1 k1).symm
    subst k1 hmj
    clear t1 t2 HX2
    have H10:=H9
    clear H9
    have HNa:=Lib.hid (fun k=>H10.out.two.nodesQ k)
    have HCa:=Lib.hid (fun k=>H10.out.two.claimsQ k)
    have HHa:=Lib.hid (fun k=>H10.out.two.haltedQ k)
    have HN0:=HNa.out 0
    generalize W9=W10 at *
    go_wp2_with fail
    refine HN0.mono ?_
    rintro r w'⟨rfl,i1,rfl⟩
    clear HN0
    go_wp2_with fail
    refine(HCa.out i1).mono ?_
    rintro r w'⟨rfl,i2,rfl⟩
    go_wp2_with fail
    refine(HHa.out i2).mono ?_
    rintro r w'⟨rfl,i3,rfl⟩
    go_wp2_with fail
    refine(HCa.out i3).mono ?_
    rintro r w'⟨rfl,i4,rfl⟩
    clear HNa HCa HHa
   rotate_left 1
   focus
    obtain⟨f0,f1⟩:=HF.out W9 H9.out.box
    have q0:((dd:Int) != 0)=true:=by rw[bne_iff_ne];omega
    have q0b:((dd:Int)==0)=false:=by rw[beq_eq_false_iff_ne];omega
    rw[if_pos k2]at t2
    subst k2
    have HX3:=Lib.hid (HX2.out W9 H9.out)
    have ht2:(mk.cl:Int)=(mj.cl:Int)+1:=by omega
    have hw1:IntKind.i64.wrap ((mj.cl:Int)+1)=(mj.cl:Int)+1:=IntWalk.i64_in _ (by omega)
    have hq1:((mk.cl:Int) != (mj.cl:Int)+1)=false:=by rw[bne_eq_false_iff_eq];exact ht2
    clear t1 t2 HX2 k1 ht2 H9
    go_wp2_with fail
    refine HX3.out.mono ?_
    rintro r W10⟨rfl,h10⟩
    have H10:=Lib.hid h10
    clear h10 HX3 f0 f1
    have HCa:=Lib.hid (fun k=>H10.out.two.claimsQ k)
    have HN0:=HCa.out 0
    go_wp2_with fail
    refine HN0.mono ?_
    rintro r w'⟨rfl,i4,rfl⟩
    clear HN0 HCa
   rotate_left 1
   focus
    obtain⟨f0,f1⟩:=HF.out W9 H9.out.box
    have q0:((dd:Int) != 0)=true:=by rw[bne_iff_ne];omega
    have q0b:((dd:Int)==0)=false:=by rw[beq_eq_false_iff_ne];omega
    have q3:((dd:Int)==3)=false:=by rw[beq_eq_false_iff_ne];omega
    have q3b:((dd:Int) != 3)=true:=by rw[bne_iff_ne];omega
    rw[if_neg k2]at t2
    have HX3:=Lib.hid (HX2.out W9 H9.out)
    have ht2:mk.cl=mj.cl:=by omega
    clear t1 t2 HX2 k1 k2 H9
    go_wp2_with fail
    refine HX3.out.mono ?_
    rintro r W10⟨rfl,h10⟩
    have H10:=Lib.hid h10
    clear h10 HX3 f0 f1
    have HCa:=Lib.hid (fun k=>H10.out.two.claimsQ k)
    rw[ht2]at HCa
    have HN0:=HCa.out 0
    clear ht2
    go_wp2_with fail
    refine HN0.mono ?_
    rintro r w'⟨rfl,i4,rfl⟩
    clear HN0 HCa
   all_goals
    have H11:=Lib.hid (H10.out.two.later (w':=W10.drewN i4) (Below.refl _ _).drewN)
    clear H10
    generalize W10.drewN i4=W11 at *
    have HNa:=Lib.hid (fun k=>H11.out.nodesQ k)
    have HCa:=Lib.hid (fun k=>H11.out.claimsQ k)
    have HHa:=Lib.hid (fun k=>H11.out.haltedQ k)
    have HBa:=Lib.hid (fun k=>H11.out.blockedQ k)
    have HNb:=Lib.hid (fun k=>H11.out.swap.nodesQ k)
    have HCb:=Lib.hid (fun k=>H11.out.swap.claimsQ k)
    have HHb:=Lib.hid (fun k=>H11.out.swap.haltedQ k)
    have HBb:=Lib.hid (fun k=>H11.out.swap.blockedQ k)
    have HN0:=HNb.out 0
    go_wp2_with fail
    refine HN0.mono ?_
    rintro r w'⟨rfl,j1,rfl⟩
    clear HN0
    go_wp2_with fail
    refine(HNa.out j1).mono ?_
    rintro r w'⟨rfl,j2,rfl⟩
    go_wp2_with fail
    refine(HCb.out j2).mono ?_
    rintro r w'⟨rfl,j3,rfl⟩
    go_wp2_with fail
    refine(HCa.out j3).mono ?_
    rintro r w'⟨rfl,j4,rfl⟩
    go_wp2_with fail
    refine(HHb.out j4).mono ?_
    rintro r w'⟨rfl,j5,rfl⟩
    go_wp2_with fail
    refine(HHa.out j5).mono ?_
    rintro r w'⟨rfl,j6,rfl⟩
    go_wp2_with fail
    refine(HBb.out j6).mono ?_
    rintro r w'⟨rfl,j7,rfl⟩
    go_wp2_with fail
    refine(HBa.out j7).mono ?_
    rintro r w'⟨rfl,j8,rfl⟩
    have H12:=Lib.hid (H11.out.later (w':=W11.drewN j8) (Below.refl _ _).drewN)
    clear HNa HCa HHa HBa HNb HCb HHb HBb H11
    generalize W11.drewN j8=W12 at *
    go_wp2_with fail
    go_roundw
    case rel=>exact⟨j+1,by omega,by go_num,by rw[<-HMK.out];exact H12⟩
    case measure=>simp[intOf];omega
  ·obtain rfl:j=ol.length:=by omega
   have HR1:Hid (TwoM I w B1 b1 (kz+1) 600 (listM p fuel (kz+1) 600 ol m0) B2 b2 (kz+1) 600 (listM p fuel (kz+1) 600 ol m0) p fuel wr):=by
    have:=HR.out
    rw[List.take_length]at this
    exact this
   clear HR
   generalize listM p fuel (kz+1) 600 ol m0=m at *
   obtain⟨_,a2,_⟩:=HR1.out.g1.any
   have hkl:(keysL (kz+1) m).length=kz+1:=ZaF _ _
   have HKL:=Lib.hid hkl
   have HRL:Hid (∀u (h:u<(keysL (kz+1) m).length),(keysL (kz+1) m)[u].length<=600):=fun u h=>by
    have:=row_le _ u h
    rw[Zd4]at this
    omega
   have HC:=Lib.hid HR1.out.all
   clear a2 hkl
   go_wp2_with fail
   refine HC.out.mono ?_
   rintro r W8⟨v1,rfl,hv1,hb8⟩
   have H8:=Lib.hid (HR1.out.later hb8)
   have HV1:=Lib.hid hv1
   have HC:=Lib.hid H8.out.swap.all
   clear hv1 hb8 HR1
   go_wp2_with fail
   refine HC.out.mono ?_
   rintro r W9⟨v2,rfl,hv2,hb9⟩
   have HF:=Lib.hid (H8.out.later hb9).below
   have hv1':=HV1.out.later hb9
   obtain⟨a1,c1,e1,_⟩:=hv1'.at_ (by rw[ZaF];omega)
   obtain⟨a2,c2,e2,_⟩:=hv2.at_ (by rw[ZaF];omega)
   rw[HKL.out]at e1 e2
   subst e1 e2
   have HT1:Hid (∀wr,Below W9.heap.size W9 wr->∀i (hi:i<(keysL (kz+1) m).length),∃b o x y,a1=some ⟨b,o,none⟩/\wr.cell? ⟨b,o+i,none⟩=some (.slice x (keysL (kz+1) m)[i].length y)/\RowAt wr x 1 Zai (keysL (kz+1) m)[i]):=hv1'.atL (by rw[ZaF];omega)
   have HT2:Hid (∀wr,Below W9.heap.size W9 wr->∀i (hi:i<(keysL (kz+1) m).length),∃b o x y,a2=some ⟨b,o,none⟩/\wr.cell? ⟨b,o+i,none⟩=some (.slice x (keysL (kz+1) m)[i].length y)/\RowAt wr x 1 Zai (keysL (kz+1) m)[i]):=hv2.atL (by rw[ZaF];omega)
   have HB0:Hid (Below W9.heap.size W9 W9):=Below.refl _ _
   clear hv1' hv2 hb9 HV1 H8 HC
   go_wp2_with fail
   go_loopw [21,161] (fun _ i wr=>∃u:Nat,u<=kz+1/\i=.int .i64 u/\Hid (Below W9.heap.size W9 wr)) (fun _ i _=>kz+1-(intOf i).toNat)
   case atStart=>exact⟨0,Nat.zero_le _,rfl,HB0⟩
   case round=>
    clear HB0
    obtain⟨u,hu,rfl,HB⟩:=hrel
    by_cases hut:u<kz+1
    ·have hul:u<(keysL (kz+1) m).length:=by rw[HKL.out];exact hut
     obtain⟨rb1,ro1,x1,y1,rfl,g1,hr1⟩:=HT1.out _ HB.out u hul
     obtain⟨rb2,ro2,x2,y2,rfl,g2,hr2⟩:=HT2.out _ HB.out u hul
     have hl6:=HRL.out u hul
     generalize (keysL (kz+1) m)[u]=kk at *
     have HSM:Hid (∀k,Calls Tryz.prog 20 #[.slice x1 kk.length y1,.slice x2 kk.length y2] (wr.drewN k) fun r w'=>r=.returned (.bool true)/\∃i,w'=wr.drewN i):=fun k=>by
      have h:=Zbg (w:=wr) (fun k=>ZcY x1 x2 y1 y2 kk kk (wr.drewN k) (hr1.later (Below.refl _ _).drewN) (hr2.later (Below.refl _ _).drewN) (by omega) (by omega)) k
      rw[decide_eq_true rfl]at h
      exact h
     have e1:decide ((u:Int)<(kz:Int)+1)=true:=decide_eq_true (by omega)
     have e3:(u:Int)<(kz:Int)+1:=by omega
     clear hr1 hr2
     generalize kk.length=kl at *
     go_wp2_with fail
     go_quiet ((go_at_call 20;exact HSM.out _))
     go_wp2_with fail
     go_roundw
     case rel=>exact⟨u+1,by omega,by go_num,HB.out.drewN⟩
     case measure=>simp[intOf];omega
    ·obtain rfl:u=kz+1:=by omega
     have e1:decide (((kz+1:Nat):Int)<(kz:Int)+1)=false:=decide_eq_false (by omega)
     have HFF:=Lib.hid (HF.out.trans (HB.out.mono HF.out.size))
     go_wp2_with fail
     go_ret
     exact⟨rfl,HFF.out⟩
end Go.Proofs.YtjfmmnhcddckaaaGreat
namespace Go.Proofs.YtjfmmnhcddckaaaGreat.machineIdle
open Go.ChangeShapes Go.WideShapes Go.ChangeAt Go.RowKit
theorem own:ownKnob Tryz.prog.godebug=none:=by kernel_rfl
theorem laidOut:laidOutB Tryz.prog=true:=by kernel_rfl
theorem lifted(os:Os)(started:os.Started)(H:Type)(enc:TypeId × Value->H):
  ReturnsInHanded {} Tryz.checked os 7 .any (Rows.machineIdleSpec.pre6 enc Tryz.prog Tryz.f7 Rows.machineIdleRow.domain false) (Rows.machineIdleSpec.post enc Tryz.prog Tryz.f7 false true false false):=by
 refine returnsInHanded_of_change (C:=Tryz.checked) own started (by kernel_rfl) Tryz.func7
  (ChangeSpec.witness6 (enc:=enc) (C:=Tryz.checked) false ⟨#[],#[.agg #[.int .i64 0,.int .i64 0,.slice none 0 0],.int .i64 0,.int .i64 0,.slice none 0 0],[]⟩ 8 (by kernel_rfl) (by kernel_rfl) (by kernel_rfl) (by kernel_rfl)) ?_
 intro W base args ds gs before hval0 hW hcnd _
 have hval:∀(j:Nat) t v,Tryz.f7.params[j]?=some t->args[j]?=some v->Value.okWide Tryz.prog W .any base t v:=hval0
 have hW':=hW
 obtain⟨p,q,hA0,hV,rfl,hfz,hnd⟩:=hW
 have hA:DataW.TrodAll enc Tryz.prog W 0 (fun _=>true) true Tryz.f7.params.toList args.toList ds p:=hA0
 rw[Tryz.params7]at hA hval
 obtain⟨v0,vs0,d0,ds0,p0,q0,hargs,rfl,rfl,h0,r0⟩:=trodAll_cons hA
 obtain⟨v1,vs1,d1,ds1,p1,q1,rfl,rfl,rfl,h1,r1⟩:=trodAll_cons r0
 obtain⟨v2,vs2,d2,ds2,p2,q2,rfl,rfl,rfl,h2,r2⟩:=trodAll_cons r1
 obtain⟨v3,vs3,d3,ds3,p3,q3,rfl,rfl,rfl,h3,r3⟩:=trodAll_cons r2
 obtain⟨rfl,rfl,rfl⟩:=trodAll_nil r3
 obtain rfl:args=#[v0,v1,v2,v3]:=by cases args;simp_all
 obtain⟨rfl,rfl⟩:=trodVars_none hV
 have k0:=h0
 have lt0:∀x∈p0,x.block<W.heap.size:=by obtain⟨m,hm⟩:=k0;exact DataW.trod_lt m _ _ _ hm
 have k1:=h1
 have lt1:∀x∈p1,x.block<W.heap.size:=by obtain⟨m,hm⟩:=k1;exact DataW.trod_lt m _ _ _ hm
 have k2:=h2
 have lt2:∀x∈p2,x.block<W.heap.size:=by obtain⟨m,hm⟩:=k2;exact DataW.trod_lt m _ _ _ hm
 have k3:=h3
 have lt3:∀x∈p3,x.block<W.heap.size:=by obtain⟨m,hm⟩:=k3;exact DataW.trod_lt m _ _ _ hm
 obtain⟨pg0,a0,cap0,rfl,hx0,hn0⟩:=ZbH (hval 0 24 v0 rfl rfl) h0
 obtain⟨n1,rfl,hx1⟩:=ZaE (hval 1 3 v1 rfl rfl) h1
 obtain⟨n2,rfl,hx2⟩:=ZaE (hval 2 3 v2 rfl rfl) h2
 obtain⟨a3,l3,cap3,rfl,hx3,hn3⟩:=Zbu (hval 3 25 v3 rfl rfl) h3
 clear hA0 hval0
 refine(machineIdle_of machI pg0 a0 cap0 n1 n2 a3 l3 cap3 W hx0 hn0 hx3).mono fun e W' ⟨he,bel⟩=>?_
 subst he
 exact⟨_,rfl,_,_,_,[],_,[],hW',trodAll_mk1 (shut_bool Tryz.underlying4 _),(trodAll_cons_mk (Below.trod laidOut (by kernel_rfl) (of_decide_eq_true (by kernel_rfl)) k0 bel lt0) (trodAll_cons_mk (Below.trod laidOut (by kernel_rfl) (of_decide_eq_true (by kernel_rfl)) k1 bel lt1) (trodAll_cons_mk (Below.trod laidOut (by kernel_rfl) (of_decide_eq_true (by kernel_rfl)) k2 bel lt2) (trodAll_cons_mk (Below.trod laidOut (by kernel_rfl) (of_decide_eq_true (by kernel_rfl)) k3 bel lt3) trodAll_mk0)))),rfl,bel.frame _,fun h=>by cases h⟩
theorem over:Rows.machineIdleRow.holds Tryz.pinned (OpenSpec.ofChange Rows.machineIdleSpec):=
 OpenClaim.holds_of_wide 7 Tryz.f7 rfl rfl rfl rfl rfl rfl rfl ⟨rfl,rfl,rfl,rfl,rfl⟩ rfl rfl rfl rfl rfl (by kernel_rfl) Tryz.func7 (by kernel_rfl)
  (of_decide_eq_true (by kernel_rfl)) (by unfold Func.isWrapper;first|(rw[if_pos (by decide +kernel)];kernel_rfl)|(rw[if_neg (by decide +kernel)];exact⟨rfl,rfl⟩))
  (fun os started H enc _=>lifted os started H enc)
theorem proved:Rows.MachineIdleSaid:=over
end Go.Proofs.YtjfmmnhcddckaaaGreat.machineIdle
