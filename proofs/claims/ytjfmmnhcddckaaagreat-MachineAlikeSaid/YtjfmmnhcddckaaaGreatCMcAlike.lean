/-
  MachineAlike: two machines of unlike many workers, by unlike steps, find the same keys in the end: the law answers true, and its arguments read as they did.
  For every input, whatever its size and however its parts share memory; nothing is asked of it but what the statement's own form asks.
-/
import Derived.Deep.DeepCutAuto
import Derived.Deep.CutBlock
import Derived.BigQuiet
import Derived.WalkKit
import Derived.ProofKit
import Derived.OpenShut
import Derived.Test.YtjfmmnhcddckaaaGreatRows
import Derived.Test.YtjfmmnhcddckaaaGreatPk14
import Derived.Test.YtjfmmnhcddckaaaGreatPk16
set_option maxRecDepth 100000
set_option maxHeartbeats 8000000
namespace Go.Proofs.YtjfmmnhcddckaaaGreat
open Go.RowKit
theorem machineAlike_of(I:MachI)(p:Pg)(a:Option Addr)(cap:Nat)(fuel:Int)(x y:Int)(oa:Option Addr)(ol:List (Int × Int))(oc:Nat)(oa2:Option Addr)(ol2:List (Int × Int))(oc2:Nat)(w:World)(hp:Zaf w a p.threads)(ha:a=none->cap=0)(hordol:RowAt w oa 2 Zbh ol)(hordol2:RowAt w oa2 2 Zbh ol2):
  Calls Tryz.prog 5 #[.agg #[.int .i64 p.vars,.int .i64 p.mutexes,.slice a p.threads.length cap],.int .i64 fuel,.int .i64 x,.int .i64 y,.slice oa ol.length oc,.slice oa2 ol2.length oc2] w fun r w'=>r=.returned (.bool true)/\Below w.heap.size w w':=by
 have HP:=Lib.hid hp
 have HA:=Lib.hid ha
 have HBX:Hid (∀W,Below (w.alloc (.cells #[.int .i64 p.vars,.int .i64 p.mutexes,.slice a p.threads.length cap] 24)).heap.size (w.alloc (.cells #[.int .i64 p.vars,.int .i64 p.mutexes,.slice a p.threads.length cap] 24)) W->W.cell? ⟨w.heap.size,0,none⟩=some (.int .i64 p.vars)/\W.cell? ⟨w.heap.size,1,none⟩=some (.int .i64 p.mutexes)/\W.cell? ⟨w.heap.size,2,none⟩=some (.slice a p.threads.length cap)):=fun W hb=>⟨Zab hb (by simp),Zab hb (by simp),Zab hb (by simp)⟩
 have hb1:Below w.heap.size w (w.alloc (.cells #[.int .i64 p.vars,.int .i64 p.mutexes,.slice a p.threads.length cap] 24)):=Zaa w _
 have HROWol:=Lib.hid hordol
 have hmol:=hordol.1
 unfold maxLen at hmol
 have HROWol2:=Lib.hid hordol2
 have hmol2:=hordol2.1
 unfold maxLen at hmol2
 clear hp ha hordol hordol2
 obtain⟨mx,hmx,hm0x⟩:=Zgg x
 obtain⟨kx,hkx,hkKx⟩:=Zc9 mx hm0x 6 (by omega)
 have hk'x:mx.tmod 6=kx:=hkx
 have hwkx:IntKind.i64.wrap (kx:Int)=kx:=IntWalk.i64_in _ (by omega)
 have hw1x:IntKind.i64.wrap (1+(kx:Int))=1+kx:=IntWalk.i64_in _ (by omega)
 have hnkx:(1:Int)+(kx:Int)=(kx:Int)+1:=by omega
 clear hkx hm0x
 obtain⟨my,hmy,hm0y⟩:=Zgg y
 obtain⟨ky,hky,hkKy⟩:=Zc9 my hm0y 6 (by omega)
 have hk'y:my.tmod 6=ky:=hky
 have hwky:IntKind.i64.wrap (ky:Int)=ky:=IntWalk.i64_in _ (by omega)
 have hw1y:IntKind.i64.wrap (1+(ky:Int))=1+ky:=IntWalk.i64_in _ (by omega)
 have hnky:(1:Int)+(ky:Int)=(ky:Int)+1:=by omega
 clear hky hm0y
 go_enter Tryz.func5,Tryz.ntmps5
 go_wp2_with fail
 generalize w.alloc (.cells #[.int .i64 p.vars,.int .i64 p.mutexes,.slice a p.threads.length cap] 24)=W1 at *
 refine(Zap I W1).mono ?_
 rintro r W2⟨rfl,hb2⟩
 obtain⟨c0,c1,c2⟩:=HBX.out W2 hb2
 have hb3:=hb1.trans (hb2.mono hb1.size)
 clear hmx hk'x hwkx hw1x hnkx
 clear hmy hk'y hwky hw1y hnky
 go_wp2_with fail
 refine(Zdy p a cap fuel W2 (HP.out.later hb3)).mono ?_
 rintro r W3⟨rfl,hb4⟩
 have hb5:=hb2.trans (hb4.mono hb2.size)
 have hb6:=hb3.trans (hb4.mono hb3.size)
 clear c0 c1 c2 hb2 hb3 hb4
 cases hf:Zbw p fuel
 ·clear hf
  go_wp2_with fail
  refine(Zap I _).mono ?_
  rintro r w3⟨rfl,hb3⟩
  go_wp2
  go_ret
  exact⟨rfl,hb6.trans (hb3.mono hb6.size)⟩
 obtain⟨_,hok,hle⟩:=Zdx hf
 clear hf
 by_cases hlol:ol.length<=400
 case neg=>
  have q4:decide (ol.length<=400)=false:=decide_eq_false hlol
  have HF:=Lib.hid (Zbk oa ol.length oc W3)
  rw[q4]at HF
  clear q4 hlol
  go_wp2_with fail
  refine HF.out.mono ?_
  rintro r w'⟨rfl,rfl⟩
  go_wp2_with fail
  refine(Zap I _).mono ?_
  rintro r w3⟨rfl,hb3⟩
  go_wp2
  go_ret
  exact⟨rfl,hb6.trans (hb3.mono hb6.size)⟩
 have HF:Hid (Calls Tryz.prog 12 #[.slice oa ol.length oc] W3 fun r w'=>r=.returned (.bool true)/\w'=W3):=by
  have h:=Zbk oa ol.length oc W3
  rw[decide_eq_true hlol]at h
  exact h
 go_wp2_with fail
 refine HF.out.mono ?_
 rintro r w'⟨rfl,e3⟩
 replace e3:=e3.symm
 subst e3
 clear HF
 by_cases hlol2:ol2.length<=400
 case neg=>
  have q4:decide (ol2.length<=400)=false:=decide_eq_false hlol2
  have HF:=Lib.hid (Zbk oa2 ol2.length oc2 W3)
  rw[q4]at HF
  clear q4 hlol2
  go_wp2_with fail
  refine HF.out.mono ?_
  rintro r w'⟨rfl,rfl⟩
  go_wp2_with fail
  refine(Zap I _).mono ?_
  rintro r w3⟨rfl,hb3⟩
  go_wp2
  go_ret
  exact⟨rfl,hb6.trans (hb3.mono hb6.size)⟩
 have HF:Hid (Calls Tryz.prog 12 #[.slice oa2 ol2.length oc2] W3 fun r w'=>r=.returned (.bool true)/\w'=W3):=by
  have h:=Zbk oa2 ol2.length oc2 W3
  rw[decide_eq_true hlol2]at h
  exact h
 go_wp2_with fail
 refine HF.out.mono ?_
 rintro r w'⟨rfl,e3⟩
 replace e3:=e3.symm
 subst e3
 clear HF
 obtain⟨c0,c1,c2⟩:=HBX.out _ hb5
 have hg:=ZgT hok
 have HG:=Lib.hid hg
 have HN:Hid (∀W,Below W1.heap.size W1 W->Below w.heap.size w W->Calls Tryz.prog 14 #[.agg #[.int .i64 p.vars,.int .i64 p.mutexes,.slice a p.threads.length cap],.int .i64 fuel,.int .i64 ((kx:Int)+1),.int .i64 600] W fun r w'=>∃b S,r=.returned (.tuple #[.pointer (some ⟨b,0,none⟩),.int .i64 0])/\Below W.heap.size W w'/\(∀x,S x->W.heap.size<=x)/\RunI I w' W.heap.size b p fuel (kx+1) 600 S (newM p fuel (kx+1)) w'):=fun W _ hb=>Zb7 I p a cap fuel (kx+1) 600 W (HP.out.later hb) HA.out hg hle (by omega) (by omega) (by omega) (by omega)
 have HN2:Hid (∀W,Below W1.heap.size W1 W->Below w.heap.size w W->Calls Tryz.prog 14 #[.agg #[.int .i64 p.vars,.int .i64 p.mutexes,.slice a p.threads.length cap],.int .i64 fuel,.int .i64 ((ky:Int)+1),.int .i64 600] W fun r w'=>∃b S,r=.returned (.tuple #[.pointer (some ⟨b,0,none⟩),.int .i64 0])/\Below W.heap.size W w'/\(∀x,S x->W.heap.size<=x)/\RunI I w' W.heap.size b p fuel (ky+1) 600 S (newM p fuel (ky+1)) w'):=fun W _ hb=>Zb7 I p a cap fuel (ky+1) 600 W (HP.out.later hb) HA.out hg hle (by omega) (by omega) (by omega) (by omega)
 go_wp2_with fail
 refine(HN.out _ hb5 hb6).mono ?_
 rintro r W4⟨b1,S1,rfl,hb7,hS1,hr1⟩
 have hb8:=hb5.trans (hb7.mono hb5.size)
 have hb9:=hb6.trans (hb7.mono hb6.size)
 clear c0 c1 c2
 obtain⟨c0,c1,c2⟩:=HBX.out _ hb8
 have HR1:=Lib.hid hr1
 have HB9:=Lib.hid hb9
 have HL1:=Lib.hid hb6.size
 clear hr1 hS1 hb7 HN
 go_wp2_with fail
 refine(HN2.out _ hb8 hb9).mono ?_
 rintro r W5⟨b2,S2,rfl,hb10,_,hr2⟩
 have HTW:=Lib.hid (two_new HB9.out HR1.out HL1.out hb10 hr2)
 clear hb10 hr2 HN2 HR1 c0 c1 c2 hb5 hb6 hb8 hb9
 have hx:=Zfe (p:=p) (fuel:=fuel) (W:=kx+1) (B:=600) hg (by omega) (by omega) hle (by omega) ol (n:=100000) (ZfA hok hle) (by omega)
 have hy:=Zfe (p:=p) (fuel:=fuel) (W:=ky+1) (B:=600) hg (by omega) (by omega) hle (by omega) ol2 (n:=100000) (ZfA hok hle) (by omega)
 obtain⟨mx,_,hmx,_,hhx,hox,hsx,hlx,_⟩:=hx
 obtain⟨my,_,hmy,_,hhy,hoy,hsy,hly,_⟩:=hy
 have hk600:=(Zcy hle).1
 have HK600:=Lib.hid hk600
 have HX:=Lib.hid (And.intro hhx (And.intro hox (And.intro hsx hlx)))
 have HY:=Lib.hid (And.intro hhy (And.intro hoy (And.intro hsy hly)))
 have HKW:Hid (kx+1<=64/\ky+1<=64):=⟨by omega,by omega⟩
 have HC:Hid (Calls Tryz.prog 15 #[.pointer (some ⟨b1,0,none⟩),.slice oa ol.length oc,.int .i64 100000] W5 fun r w'=>r=.returned (.tuple #[])/\TwoM I w W3.heap.size b1 (kx+1) 600 mx W4.heap.size b2 (ky+1) 600 (newM p fuel (ky+1)) p fuel w'):=by
  rw[hmx]
  exact HTW.out.run oa oc ol HROWol.out (by omega) 100000 (by omega)
 have HMY:=Lib.hid hmy
 clear hmx hmy hhx hox hsx hlx hhy hoy hsy hly hk600 HTW hg hok hle
 go_wp2_with fail
 refine HC.out.mono ?_
 rintro r W6⟨rfl,h6⟩
 have HC:Hid (Calls Tryz.prog 15 #[.pointer (some ⟨b2,0,none⟩),.slice oa2 ol2.length oc2,.int .i64 100000] W6 fun r w'=>r=.returned (.tuple #[])/\TwoM I w W4.heap.size b2 (ky+1) 600 my W3.heap.size b1 (kx+1) 600 mx p fuel w'):=by
  rw[HMY.out]
  exact h6.swap.run oa2 oc2 ol2 HROWol2.out (by omega) 100000 (by omega)
 clear h6
 go_wp2_with fail
 refine HC.out.mono ?_
 rintro r W7⟨rfl,h7⟩
 have HC:=Lib.hid h7.swap.all
 have H7:=Lib.hid h7
 clear h7
 go_wp2_with fail
 refine HC.out.mono ?_
 rintro r W8⟨v,rfl,hv,hb8⟩
 have H8:=Lib.hid (H7.out.later hb8)
 have hG:=Zdj hv HKW.out.1 (by rw[HX.out.2.2.2];have:=HK600.out;omega)
 rw[HX.out.2.2.1]at hG
 have HGG:=Lib.hid hG
 clear hv hb8 hG H7 HC
 go_wp2_with fail
 refine HGG.out.mono ?_
 rintro r W9⟨ka,kca,rfl,hka,hb9⟩
 have H9:=Lib.hid (H8.out.later hb9)
 have HKA:=Lib.hid hka
 have HC:=Lib.hid H9.out.all
 clear hka hb9 H8 HGG
 go_wp2_with fail
 refine HC.out.mono ?_
 rintro r W10⟨v2,rfl,hv2,hb10⟩
 have H10:=Lib.hid (H9.out.later hb10)
 have HKA2:=Lib.hid (HKA.out.later hb10)
 have hG:=Zdj hv2 HKW.out.2 (by rw[HY.out.2.2.2];have:=HK600.out;omega)
 rw[HY.out.2.2.1]at hG
 have HGG:=Lib.hid hG
 clear hv2 hb10 hG H9 HC HKA
 go_wp2_with fail
 refine HGG.out.mono ?_
 rintro r W11⟨kb,kcb,rfl,hkb,hb11⟩
 have H11:=Lib.hid (H10.out.later hb11)
 have HSM:Hid (∀k,Calls Tryz.prog 20 #[.slice ka (sortK (Zau (runsW p fuel))).length kca,.slice kb (sortK (Zau (runsW p fuel))).length kcb] (W11.drewN k) fun r w'=>r=.returned (.bool true)/\∃i,w'=W11.drewN i):=fun k=>by
  have hk:=HK600.out
  have h:=Zbg (w:=W11) (fun k=>ZcY ka kb kca kcb (sortK (Zau (runsW p fuel))) (sortK (Zau (runsW p fuel))) (W11.drewN k) ((HKA2.out.later hb11).later (Below.refl _ _).drewN) (hkb.later (Below.refl _ _).drewN) (by omega) (by omega)) k
  rw[decide_eq_true rfl]at h
  exact h
 have HCA:=Lib.hid (fun k=>H11.out.swap.completeQ k)
 have HCB:=Lib.hid (fun k=>H11.out.completeQ k)
 rw[HX.out.1,HX.out.2.1]at HCA
 rw[HY.out.1,HY.out.2.1]at HCB
 have HFB:=Lib.hid H11.out.below
 clear hkb hb11 HGG H10 H11 HKA2
 have HC0:=HCA.out 0
 go_wp2_with fail
 refine HC0.mono ?_
 rintro r w'⟨rfl,i1,rfl⟩
 go_wp2_with fail
 refine(HCB.out i1).mono ?_
 rintro r w'⟨rfl,i2,rfl⟩
 go_wp2_with fail
 refine(HSM.out i2).mono ?_
 rintro r w'⟨rfl,i3,rfl⟩
 go_wp2_with fail
 go_ret
 exact⟨rfl,HFB.out.drewN⟩
end Go.Proofs.YtjfmmnhcddckaaaGreat
namespace Go.Proofs.YtjfmmnhcddckaaaGreat.machineAlike
open Go.ChangeShapes Go.WideShapes Go.ChangeAt Go.RowKit
theorem own:ownKnob Tryz.prog.godebug=none:=by kernel_rfl
theorem laidOut:laidOutB Tryz.prog=true:=by kernel_rfl
theorem lifted(os:Os)(started:os.Started)(H:Type)(enc:TypeId × Value->H):
  ReturnsInHanded {} Tryz.checked os 5 .any (Rows.machineAlikeSpec.pre6 enc Tryz.prog Tryz.f5 Rows.machineAlikeRow.domain false) (Rows.machineAlikeSpec.post enc Tryz.prog Tryz.f5 false true false false):=by
 refine returnsInHanded_of_change (C:=Tryz.checked) own started (by kernel_rfl) Tryz.func5
  (ChangeSpec.witness6 (enc:=enc) (C:=Tryz.checked) false ⟨#[],#[.agg #[.int .i64 0,.int .i64 0,.slice none 0 0],.int .i64 0,.int .i64 0,.int .i64 0,.slice none 0 0,.slice none 0 0],[]⟩ 8 (by kernel_rfl) (by kernel_rfl) (by kernel_rfl) (by kernel_rfl)) ?_
 intro W base args ds gs before hval0 hW hcnd _
 have hval:∀(j:Nat) t v,Tryz.f5.params[j]?=some t->args[j]?=some v->Value.okWide Tryz.prog W .any base t v:=hval0
 have hW':=hW
 obtain⟨p,q,hA0,hV,rfl,hfz,hnd⟩:=hW
 have hA:DataW.TrodAll enc Tryz.prog W 0 (fun _=>true) true Tryz.f5.params.toList args.toList ds p:=hA0
 rw[Tryz.params5]at hA hval
 obtain⟨v0,vs0,d0,ds0,p0,q0,hargs,rfl,rfl,h0,r0⟩:=trodAll_cons hA
 obtain⟨v1,vs1,d1,ds1,p1,q1,rfl,rfl,rfl,h1,r1⟩:=trodAll_cons r0
 obtain⟨v2,vs2,d2,ds2,p2,q2,rfl,rfl,rfl,h2,r2⟩:=trodAll_cons r1
 obtain⟨v3,vs3,d3,ds3,p3,q3,rfl,rfl,rfl,h3,r3⟩:=trodAll_cons r2
 obtain⟨v4,vs4,d4,ds4,p4,q4,rfl,rfl,rfl,h4,r4⟩:=trodAll_cons r3
 obtain⟨v5,vs5,d5,ds5,p5,q5,rfl,rfl,rfl,h5,r5⟩:=trodAll_cons r4
 obtain⟨rfl,rfl,rfl⟩:=trodAll_nil r5
 obtain rfl:args=#[v0,v1,v2,v3,v4,v5]:=by cases args;simp_all
 obtain⟨rfl,rfl⟩:=trodVars_none hV
 have k0:=h0
 have lt0:∀x∈p0,x.block<W.heap.size:=by obtain⟨m,hm⟩:=k0;exact DataW.trod_lt m _ _ _ hm
 have k1:=h1
 have lt1:∀x∈p1,x.block<W.heap.size:=by obtain⟨m,hm⟩:=k1;exact DataW.trod_lt m _ _ _ hm
 have k2:=h2
 have lt2:∀x∈p2,x.block<W.heap.size:=by obtain⟨m,hm⟩:=k2;exact DataW.trod_lt m _ _ _ hm
 have k3:=h3
 have lt3:∀x∈p3,x.block<W.heap.size:=by obtain⟨m,hm⟩:=k3;exact DataW.trod_lt m _ _ _ hm
 have k4:=h4
 have lt4:∀x∈p4,x.block<W.heap.size:=by obtain⟨m,hm⟩:=k4;exact DataW.trod_lt m _ _ _ hm
 have k5:=h5
 have lt5:∀x∈p5,x.block<W.heap.size:=by obtain⟨m,hm⟩:=k5;exact DataW.trod_lt m _ _ _ hm
 obtain⟨pg0,a0,cap0,rfl,hx0,hn0⟩:=ZbH (hval 0 24 v0 rfl rfl) h0
 obtain⟨n1,rfl,hx1⟩:=ZaE (hval 1 3 v1 rfl rfl) h1
 obtain⟨n2,rfl,hx2⟩:=ZaE (hval 2 3 v2 rfl rfl) h2
 obtain⟨n3,rfl,hx3⟩:=ZaE (hval 3 3 v3 rfl rfl) h3
 obtain⟨a4,l4,cap4,rfl,hx4,hn4⟩:=Zbu (hval 4 25 v4 rfl rfl) h4
 obtain⟨a5,l5,cap5,rfl,hx5,hn5⟩:=Zbu (hval 5 25 v5 rfl rfl) h5
 clear hA0 hval0
 refine(machineAlike_of machI pg0 a0 cap0 n1 n2 n3 a4 l4 cap4 a5 l5 cap5 W hx0 hn0 hx4 hx5).mono fun e W' ⟨he,bel⟩=>?_
 subst he
 exact⟨_,rfl,_,_,_,[],_,[],hW',trodAll_mk1 (shut_bool Tryz.underlying4 _),(trodAll_cons_mk (Below.trod laidOut (by kernel_rfl) (of_decide_eq_true (by kernel_rfl)) k0 bel lt0) (trodAll_cons_mk (Below.trod laidOut (by kernel_rfl) (of_decide_eq_true (by kernel_rfl)) k1 bel lt1) (trodAll_cons_mk (Below.trod laidOut (by kernel_rfl) (of_decide_eq_true (by kernel_rfl)) k2 bel lt2) (trodAll_cons_mk (Below.trod laidOut (by kernel_rfl) (of_decide_eq_true (by kernel_rfl)) k3 bel lt3) (trodAll_cons_mk (Below.trod laidOut (by kernel_rfl) (of_decide_eq_true (by kernel_rfl)) k4 bel lt4) (trodAll_cons_mk (Below.trod laidOut (by kernel_rfl) (of_decide_eq_true (by kernel_rfl)) k5 bel lt5) trodAll_mk0)))))),rfl,bel.frame _,fun h=>by cases h⟩
theorem over:Rows.machineAlikeRow.holds Tryz.pinned (OpenSpec.ofChange Rows.machineAlikeSpec):=
 OpenClaim.holds_of_wide 5 Tryz.f5 rfl rfl rfl rfl rfl rfl rfl ⟨rfl,rfl,rfl,rfl,rfl⟩ rfl rfl rfl rfl rfl (by kernel_rfl) Tryz.func5 (by kernel_rfl)
  (of_decide_eq_true (by kernel_rfl)) (by unfold Func.isWrapper;first|(rw[if_pos (by decide +kernel)];kernel_rfl)|(rw[if_neg (by decide +kernel)];exact⟨rfl,rfl⟩))
  (fun os started H enc _=>lifted os started H enc)
theorem proved:Rows.MachineAlikeSaid:=over
end Go.Proofs.YtjfmmnhcddckaaaGreat.machineAlike
