/-
  MachineExact: whatever steps and draws there were, and all workers in turn then, it is halted within the rounds, Complete with a budget of all prefixes, and its keys are all classes, each found once: the law answers true, and its arguments read as they did.
  For every input, whatever its size and however its parts share memory; nothing is asked of it but what the statement's own form asks.
-/
import Derived.Deep.DeepCutAuto
import Derived.Deep.CutBlock
import Derived.BigQuiet
import Derived.WalkKit
import Derived.ProofKit
import Derived.OpenShut
import Derived.Test.YtjfmmnhcddckaaaGreatRows
import Derived.Test.YtjfmmnhcddckaaaGreatPk14
import Derived.Test.YtjfmmnhcddckaaaGreatPk16
set_option maxRecDepth 100000
set_option maxHeartbeats 8000000
namespace Go.Proofs.YtjfmmnhcddckaaaGreat
open Go.RowKit
theorem machineExact_of(I:MachI)(p:Pg)(a:Option Addr)(cap:Nat)(fuel:Int)(z:Int)(oa:Option Addr)(ol:List (Int × Int))(oc:Nat)(w:World)(hp:Zaf w a p.threads)(ha:a=none->cap=0)(hordol:RowAt w oa 2 Zbh ol):
  Calls Tryz.prog 3 #[.agg #[.int .i64 p.vars,.int .i64 p.mutexes,.slice a p.threads.length cap],.int .i64 fuel,.int .i64 z,.slice oa ol.length oc] w fun r w'=>r=.returned (.bool true)/\Below w.heap.size w w':=by
 have HP:=Lib.hid hp
 have HA:=Lib.hid ha
 have HBX:Hid (∀W,Below (w.alloc (.cells #[.int .i64 p.vars,.int .i64 p.mutexes,.slice a p.threads.length cap] 24)).heap.size (w.alloc (.cells #[.int .i64 p.vars,.int .i64 p.mutexes,.slice a p.threads.length cap] 24)) W->W.cell? ⟨w.heap.size,0,none⟩=some (.int .i64 p.vars)/\W.cell? ⟨w.heap.size,1,none⟩=some (.int .i64 p.mutexes)/\W.cell? ⟨w.heap.size,2,none⟩=some (.slice a p.threads.length cap)):=fun W hb=>⟨Zab hb (by simp),Zab hb (by simp),Zab hb (by simp)⟩
 have hb1:Below w.heap.size w (w.alloc (.cells #[.int .i64 p.vars,.int .i64 p.mutexes,.slice a p.threads.length cap] 24)):=Zaa w _
 have HROWol:=Lib.hid hordol
 have hmol:=hordol.1
 unfold maxLen at hmol
 clear hp ha hordol
 obtain⟨mz,hmz,hm0z⟩:=Zgg z
 obtain⟨kz,hkz,hkKz⟩:=Zc9 mz hm0z 6 (by omega)
 have hk'z:mz.tmod 6=kz:=hkz
 have hwkz:IntKind.i64.wrap (kz:Int)=kz:=IntWalk.i64_in _ (by omega)
 have hw1z:IntKind.i64.wrap (1+(kz:Int))=1+kz:=IntWalk.i64_in _ (by omega)
 have hnkz:(1:Int)+(kz:Int)=(kz:Int)+1:=by omega
 clear hkz hm0z
 go_enter Tryz.func3,Tryz.ntmps3
 go_wp2_with fail
 generalize w.alloc (.cells #[.int .i64 p.vars,.int .i64 p.mutexes,.slice a p.threads.length cap] 24)=W1 at *
 refine(Zap I W1).mono ?_
 rintro r W2⟨rfl,hb2⟩
 obtain⟨c0,c1,c2⟩:=HBX.out W2 hb2
 have hb3:=hb1.trans (hb2.mono hb1.size)
 clear hmz hk'z hwkz hw1z hnkz
 go_wp2_with fail
 refine(Zdy p a cap fuel W2 (HP.out.later hb3)).mono ?_
 rintro r W3⟨rfl,hb4⟩
 have hb5:=hb2.trans (hb4.mono hb2.size)
 have hb6:=hb3.trans (hb4.mono hb3.size)
 clear c0 c1 c2 hb2 hb3 hb4
 cases hf:Zbw p fuel
 ·clear hf
  go_wp2_with fail
  refine(Zap I _).mono ?_
  rintro r w3⟨rfl,hb3⟩
  go_wp2
  go_ret
  exact⟨rfl,hb6.trans (hb3.mono hb6.size)⟩
 obtain⟨_,hok,hle⟩:=Zdx hf
 clear hf
 by_cases hlol:ol.length<=400
 case neg=>
  have q4:decide (ol.length<=400)=false:=decide_eq_false hlol
  have HF:=Lib.hid (Zbk oa ol.length oc W3)
  rw[q4]at HF
  clear q4 hlol
  go_wp2_with fail
  refine HF.out.mono ?_
  rintro r w'⟨rfl,rfl⟩
  go_wp2_with fail
  refine(Zap I _).mono ?_
  rintro r w3⟨rfl,hb3⟩
  go_wp2
  go_ret
  exact⟨rfl,hb6.trans (hb3.mono hb6.size)⟩
 have HF:Hid (Calls Tryz.prog 12 #[.slice oa ol.length oc] W3 fun r w'=>r=.returned (.bool true)/\w'=W3):=by
  have h:=Zbk oa ol.length oc W3
  rw[decide_eq_true hlol]at h
  exact h
 go_wp2_with fail
 refine HF.out.mono ?_
 rintro r w'⟨rfl,e3⟩
 replace e3:=e3.symm
 subst e3
 clear HF
 obtain⟨c0,c1,c2⟩:=HBX.out _ hb5
 go_wp2_with fail
 refine(Zmt p a cap fuel _ (HP.out.later hb6) hok hle).mono ?_
 rintro r W4⟨ks,kc,rfl,hks,hb7⟩
 have hs5:Zhi (W4.alloc (.cells #[.slice ks (sortK (Zau (runsW p fuel))).length kc,.int .i64 ((runsW p fuel).length:Nat),.int .i64 (preW p fuel:Nat),.int .i64 (Za9 (runsW p fuel):Nat)] 32)) W4.heap.size #[.slice ks (sortK (Zau (runsW p fuel))).length kc,.int .i64 ((runsW p fuel).length:Nat),.int .i64 (preW p fuel:Nat),.int .i64 (Za9 (runsW p fuel):Nat)]:=heap_alloc_new W4 _
 have HKS:=Lib.hid (hks.later (Zaa W4 (.cells #[.slice ks (sortK (Zau (runsW p fuel))).length kc,.int .i64 ((runsW p fuel).length:Nat),.int .i64 (preW p fuel:Nat),.int .i64 (Za9 (runsW p fuel):Nat)] 32)))
 have HS5:=Lib.hid hs5
 have hb8:=(hb5.trans (hb7.mono hb5.size)).trans ((Zaa W4 (.cells #[.slice ks (sortK (Zau (runsW p fuel))).length kc,.int .i64 ((runsW p fuel).length:Nat),.int .i64 (preW p fuel:Nat),.int .i64 (Za9 (runsW p fuel):Nat)] 32)).mono (hb5.trans (hb7.mono hb5.size)).size)
 have hb9:=(hb6.trans (hb7.mono hb6.size)).trans ((Zaa W4 (.cells #[.slice ks (sortK (Zau (runsW p fuel))).length kc,.int .i64 ((runsW p fuel).length:Nat),.int .i64 (preW p fuel:Nat),.int .i64 (Za9 (runsW p fuel):Nat)] 32)).mono (hb6.trans (hb7.mono hb6.size)).size)
 clear c0 c1 c2 hks hb5 hb6 hb7 hs5
 have hg:=ZgT hok
 have HG:=Lib.hid hg
 have HN:Hid (Calls Tryz.prog 14 #[.agg #[.int .i64 p.vars,.int .i64 p.mutexes,.slice a p.threads.length cap],.int .i64 fuel,.int .i64 ((kz:Int)+1),.int .i64 (preW p fuel:Nat)] _ _):=Zb7 I p a cap fuel (kz+1) (preW p fuel) _ (HP.out.later hb9) HA.out hg hle (by omega) (by omega) (ZmB hg) (by omega)
 obtain⟨c0,c1,c2⟩:=HBX.out _ hb8
 have c5:=HS5.out.at_ 2 rfl
 have HB9:=Lib.hid hb9
 have HB8:=Lib.hid hb8
 clear hb8 hb9
 go_upto_region 5 with (fail)
 generalize W4.alloc (.cells #[.slice ks (sortK (Zau (runsW p fuel))).length kc,.int .i64 ((runsW p fuel).length:Nat),.int .i64 (preW p fuel:Nat),.int .i64 (Za9 (runsW p fuel):Nat)] 32)=W5 at *
 go_wp2_with fail
 refine HN.out.mono ?_
 rintro r W6⟨b,S,rfl,hb10,hS,hr6⟩
 have HB10:=Lib.hid hb10
 have HS:=Lib.hid hS
 have HR6:=Lib.hid hr6
 clear c0 c1 c2 c5 HN hb10 hS hr6
 obtain⟨c0,c1,c2⟩:=HBX.out _ (HB8.out.trans (HB10.out.mono HB8.out.size))
 have c5:=(HS5.out.later HB10.out).at_ 2 rfl
 have hf0:0<=fuel:=hok.2.1
 have hf8:fuel<=8:=hok.2.2
 obtain⟨F,rfl⟩:∃F:Nat,fuel=F:=⟨fuel.toNat,by omega⟩
 have hT4:p.threads.length<=4:=by
  have h:=hok.1
  unfold Zal at h
  simp only[Bool.and_eq_true,decide_eq_true_eq]at h
  omega
 have hP1:=ZmB hg
 obtain⟨X,hX⟩:∃X,X=p.threads.length*F:=⟨_,rfl⟩
 have hX32:X<=32:=by
  rw[hX]
  have:=Nat.mul_le_mul hT4 (show F<=8 by omega)
  omega
 have hXi:(p.threads.length:Int)*(F:Int)=(X:Int):=by rw[hX,Int.natCast_mul]
 obtain⟨n,hn⟩:∃n,n=100*preW p F*(X+1):=⟨_,rfl⟩
 have hni:(100:Int)*(preW p F:Nat)*((X:Int)+1)=(n:Int):=by
  rw[hn,Int.natCast_mul,Int.natCast_mul]
  rfl
 have hnb:n<=2000000:=by
  rw[hn]
  have:=Nat.mul_le_mul (Nat.mul_le_mul_left 100 hle) (show X+1<=33 by omega)
  omega
 have hmx:=Zfe (p:=p) (fuel:=F) (W:=kz+1) (B:=preW p F) hg (by omega) (by omega) (Nat.le_refl _) hP1 ol (n:=n) (by
  rw[Int.toNat_natCast,hn,<-hX]
  have h1:p.threads.length*X<=4*X:=Nat.mul_le_mul_right X hT4
  have h2:=Nat.mul_le_mul_right (preW p F) (Nat.add_le_add_right h1 6)
  have h3:(4*X+6)*preW p F=4*(X*preW p F)+6*preW p F:=by rw[Nat.add_mul,Nat.mul_assoc]
  have h4:100*preW p F*(X+1)=100*(X*preW p F)+100*preW p F:=by rw[Nat.mul_add,Nat.mul_one,Nat.mul_assoc,Nat.mul_comm (preW p F) X]
  generalize X*preW p F=Y at *
  omega) (by omega)
 obtain⟨m,T,hm,_,hh,hov,hsort,hlen,hcl,hnl⟩:=hmx
 have HRUN:Hid (Calls Tryz.prog 15 #[.pointer (some ⟨b,0,none⟩),.slice oa ol.length oc,.int .i64 ((100:Int)*(preW p F:Nat)*((X:Int)+1))] W6 fun r w'=>r=.returned (.tuple #[])/\RunI I W6 W5.heap.size b p F (kz+1) (preW p F) S m w'):=by
  rw[hni,hm]
  exact HR6.out.run HS.out w (HB9.out.trans (HB10.out.mono HB9.out.size)) HB9.out.size oa oc ol HROWol.out (by omega) n (by omega)
 have hk600:=(Zcy hle).1
 have HK600:=Lib.hid hk600
 have HSO:=Lib.hid hsort
 have HLE:=Lib.hid hlen
 have HHH:=Lib.hid (And.intro hh hov)
 have HKW:Hid (kz+1<=64):=by show _<=_;omega
 have hcl2:(m.cl:Int)=(m.l.length:Int)-1:=by omega
 have hwa:IntKind.i64.wrap ((100:Int)*(preW p F:Nat))=100*(preW p F:Nat):=IntWalk.i64_in _ (by omega)
 have hwb:IntKind.i64.wrap ((p.threads.length:Int)*(F:Int))=(X:Int):=by rw[hXi];exact IntWalk.i64_in _ (by omega)
 have hwc:IntKind.i64.wrap ((X:Int)+1)=(X:Int)+1:=IntWalk.i64_in _ (by omega)
 have hwd:IntKind.i64.wrap ((100:Int)*(preW p F:Nat)*((X:Int)+1))=(100:Int)*(preW p F:Nat)*((X:Int)+1):=by rw[hni];exact IntWalk.i64_in _ (by omega)
 have HCL:=Lib.hid hcl2
 have HNL:=Lib.hid hnl
 clear hm hn hni hnb hXi hX hX32 hT4 hf0 hf8 hsort hlen hh hov hk600 hcl hcl2 hnl hP1
 go_wp2_with fail
 refine HRUN.out.mono ?_
 rintro r W7⟨rfl,h7⟩
 have HC:=Lib.hid h7.all
 clear h7 HRUN hwa hwb hwc hwd c0 c1 c2 c5
 go_wp2_with fail
 refine HC.out.mono ?_
 rintro r W8⟨v,rfl,hv,h8⟩
 have hG:=Zdj hv HKW.out (by rw[HLE.out];have:=HK600.out;omega)
 rw[HSO.out,HLE.out,decide_eq_true rfl]at hG
 have HG:=Lib.hid hG
 have H8:=Lib.hid h8
 clear hv hG h8 HC
 go_wp2_with fail
 refine HG.out.mono ?_
 rintro r W9⟨ka,kc2,rfl,hka,hb12⟩
 have HR9:=Lib.hid (H8.out.later hb12)
 have HB11:Hid (Below W5.heap.size W5 W9):=by
  have h1:Below W6.heap.size W6 W9->Below W5.heap.size W5 W9:=fun h=>HB10.out.trans (h.mono HB10.out.size)
  exact HR9.out.below HB10.out (fun x hx=>HS.out x hx)
 have HKA:=Lib.hid hka
 have y0:=(HS5.out.later HB11.out).at_ 0 rfl
 have y2:=(HS5.out.later HB11.out).at_ 2 rfl
 have HH:=Lib.hid (fun k=>HR9.out.haltedQ k)
 have HCO:=Lib.hid (fun k=>HR9.out.completeQ k)
 have HNO:=Lib.hid (fun k=>HR9.out.nodesQ k)
 have HCM:=Lib.hid (fun k=>HR9.out.claimsQ k)
 rw[HHH.out.1]at HH HCO
 rw[HHH.out.2]at HCO
 have HSM:Hid (∀k,Calls Tryz.prog 20 #[.slice ka (sortK (Zau (runsW p F))).length kc2,.slice ks (sortK (Zau (runsW p F))).length kc] (W9.drewN k) fun r w'=>r=.returned (.bool true)/\∃i,w'=W9.drewN i):=fun k=>by
  have hk:=HK600.out
  have h:=Zbg (w:=W9) (fun k=>ZcY ka ks kc2 kc (sortK (Zau (runsW p F))) (sortK (Zau (runsW p F))) (W9.drewN k) (HKA.out.later (Below.refl _ _).drewN) ((HKS.out.later HB11.out).later (Below.refl _ _).drewN) (by omega) (by omega)) k
  rw[decide_eq_true rfl]at h
  exact h
 have HFB:Hid (Below w.heap.size w W9):=HB9.out.trans (HB11.out.mono HB9.out.size)
 have hnl2:=HNL.out
 have hcl3:=HCL.out
 have d1:decide ((m.l.length:Int)<=(preW p F:Nat))=true:=decide_eq_true (by omega)
 have d1n:decide (m.l.length<=preW p F)=true:=decide_eq_true hnl2
 have d2:IntKind.i64.wrap ((m.l.length:Int)-1)=(m.l.length:Int)-1:=IntWalk.i64_in _ (by omega)
 have d3:((m.cl:Int)==(m.l.length:Int)-1)=true:=by rw[beq_iff_eq];exact hcl3
 clear hka hb12 HG H8 hnl2 hcl3 HB11 HR9
 generalize (sortK (Zau (runsW p F))).length=kl at *
 generalize m.l.length=nl at *
 generalize m.cl=mc at *
 generalize preW p F=P at *
 go_wp2_with fail
 go_quiet ((first|(go_at_call 18;exact HH.out _)|(go_at_call 19;exact HCO.out _)|(go_at_call 20;exact HSM.out _)|(go_at_call 21;exact HNO.out _)|(go_at_call 22;exact HCM.out _)))
 go_wp2_with fail
 go_ret
 exact⟨rfl,HFB.out.drewN⟩
end Go.Proofs.YtjfmmnhcddckaaaGreat
namespace Go.Proofs.YtjfmmnhcddckaaaGreat.machineExact
open Go.ChangeShapes Go.WideShapes Go.ChangeAt Go.RowKit
theorem own:ownKnob Tryz.prog.godebug=none:=by kernel_rfl
theorem laidOut:laidOutB Tryz.prog=true:=by kernel_rfl
theorem lifted(os:Os)(started:os.Started)(H:Type)(enc:TypeId × Value->H):
  ReturnsInHanded {} Tryz.checked os 3 .any (Rows.machineExactSpec.pre6 enc Tryz.prog Tryz.f3 Rows.machineExactRow.domain false) (Rows.machineExactSpec.post enc Tryz.prog Tryz.f3 false true false false):=by
 refine returnsInHanded_of_change (C:=Tryz.checked) own started (by kernel_rfl) Tryz.func3
  (ChangeSpec.witness6 (enc:=enc) (C:=Tryz.checked) false ⟨#[],#[.agg #[.int .i64 0,.int .i64 0,.slice none 0 0],.int .i64 0,.int .i64 0,.slice none 0 0],[]⟩ 8 (by kernel_rfl) (by kernel_rfl) (by kernel_rfl) (by kernel_rfl)) ?_
 intro W base args ds gs before hval0 hW hcnd _
 have hval:∀(j:Nat) t v,Tryz.f3.params[j]?=some t->args[j]?=some v->Value.okWide Tryz.prog W .any base t v:=hval0
 have hW':=hW
 obtain⟨p,q,hA0,hV,rfl,hfz,hnd⟩:=hW
 have hA:DataW.TrodAll enc Tryz.prog W 0 (fun _=>true) true Tryz.f3.params.toList args.toList ds p:=hA0
 rw[Tryz.params3]at hA hval
 obtain⟨v0,vs0,d0,ds0,p0,q0,hargs,rfl,rfl,h0,r0⟩:=trodAll_cons hA
 obtain⟨v1,vs1,d1,ds1,p1,q1,rfl,rfl,rfl,h1,r1⟩:=trodAll_cons r0
 obtain⟨v2,vs2,d2,ds2,p2,q2,rfl,rfl,rfl,h2,r2⟩:=trodAll_cons r1
 obtain⟨v3,vs3,d3,ds3,p3,q3,rfl,rfl,rfl,h3,r3⟩:=trodAll_cons r2
 obtain⟨rfl,rfl,rfl⟩:=trodAll_nil r3
 obtain rfl:args=#[v0,v1,v2,v3]:=by cases args;simp_all
 obtain⟨rfl,rfl⟩:=trodVars_none hV
 have k0:=h0
 have lt0:∀x∈p0,x.block<W.heap.size:=by obtain⟨m,hm⟩:=k0;exact DataW.trod_lt m _ _ _ hm
 have k1:=h1
 have lt1:∀x∈p1,x.block<W.heap.size:=by obtain⟨m,hm⟩:=k1;exact DataW.trod_lt m _ _ _ hm
 have k2:=h2
 have lt2:∀x∈p2,x.block<W.heap.size:=by obtain⟨m,hm⟩:=k2;exact DataW.trod_lt m _ _ _ hm
 have k3:=h3
 have lt3:∀x∈p3,x.block<W.heap.size:=by obtain⟨m,hm⟩:=k3;exact DataW.trod_lt m _ _ _ hm
 obtain⟨pg0,a0,cap0,rfl,hx0,hn0⟩:=ZbH (hval 0 24 v0 rfl rfl) h0
 obtain⟨n1,rfl,hx1⟩:=ZaE (hval 1 3 v1 rfl rfl) h1
 obtain⟨n2,rfl,hx2⟩:=ZaE (hval 2 3 v2 rfl rfl) h2
 obtain⟨a3,l3,cap3,rfl,hx3,hn3⟩:=Zbu (hval 3 25 v3 rfl rfl) h3
 clear hA0 hval0
 refine(machineExact_of machI pg0 a0 cap0 n1 n2 a3 l3 cap3 W hx0 hn0 hx3).mono fun e W' ⟨he,bel⟩=>?_
 subst he
 exact⟨_,rfl,_,_,_,[],_,[],hW',trodAll_mk1 (shut_bool Tryz.underlying4 _),(trodAll_cons_mk (Below.trod laidOut (by kernel_rfl) (of_decide_eq_true (by kernel_rfl)) k0 bel lt0) (trodAll_cons_mk (Below.trod laidOut (by kernel_rfl) (of_decide_eq_true (by kernel_rfl)) k1 bel lt1) (trodAll_cons_mk (Below.trod laidOut (by kernel_rfl) (of_decide_eq_true (by kernel_rfl)) k2 bel lt2) (trodAll_cons_mk (Below.trod laidOut (by kernel_rfl) (of_decide_eq_true (by kernel_rfl)) k3 bel lt3) trodAll_mk0)))),rfl,bel.frame _,fun h=>by cases h⟩
theorem over:Rows.machineExactRow.holds Tryz.pinned (OpenSpec.ofChange Rows.machineExactSpec):=
 OpenClaim.holds_of_wide 3 Tryz.f3 rfl rfl rfl rfl rfl rfl rfl ⟨rfl,rfl,rfl,rfl,rfl⟩ rfl rfl rfl rfl rfl (by kernel_rfl) Tryz.func3 (by kernel_rfl)
  (of_decide_eq_true (by kernel_rfl)) (by unfold Func.isWrapper;first|(rw[if_pos (by decide +kernel)];kernel_rfl)|(rw[if_neg (by decide +kernel)];exact⟨rfl,rfl⟩))
  (fun os started H enc _=>lifted os started H enc)
theorem proved:Rows.MachineExactSaid:=over
end Go.Proofs.YtjfmmnhcddckaaaGreat.machineExact
