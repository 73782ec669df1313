/-
  MachineNil: a machine that is none does nothing, and one that may not be is not begun: the law answers true, and its arguments read as they did.
  For every input, whatever its size and however its parts share memory; nothing is asked of it but what the statement's own form asks.
-/
import Derived.WalkKit
import Derived.ProofKit
import Derived.OpenShut
import Derived.Test.YtjfmmnhcddckaaaGreatRows
import Derived.Test.YtjfmmnhcddckaaaGreatPk14
import Derived.Test.YtjfmmnhcddckaaaGreatPk16
set_option maxRecDepth 100000
set_option maxHeartbeats 8000000
namespace Go.Proofs.YtjfmmnhcddckaaaGreat
open Go.RowKit
theorem machineNil_of(I:MachI)(p:Pg)(a:Option Addr)(cap:Nat)(fuel z y:Int)(w:World)(hp:Zaf w a p.threads)(ha:a=none->cap=0):
  Calls Tryz.prog 6 #[.agg #[.int .i64 p.vars,.int .i64 p.mutexes,.slice a p.threads.length cap],.int .i64 fuel,.int .i64 z,.int .i64 y] w fun r w'=>r=.returned (.bool true)/\Below w.heap.size w w':=by
 have HP:=Lib.hid hp
 have HA:=Lib.hid ha
 have HBX:Hid (∀W,Below (w.alloc (.cells #[.int .i64 p.vars,.int .i64 p.mutexes,.slice a p.threads.length cap] 24)).heap.size (w.alloc (.cells #[.int .i64 p.vars,.int .i64 p.mutexes,.slice a p.threads.length cap] 24)) W->W.cell? ⟨w.heap.size,0,none⟩=some (.int .i64 p.vars)/\W.cell? ⟨w.heap.size,1,none⟩=some (.int .i64 p.mutexes)/\W.cell? ⟨w.heap.size,2,none⟩=some (.slice a p.threads.length cap)):=fun W hb=>⟨Zab hb (by simp),Zab hb (by simp),Zab hb (by simp)⟩
 have hb1:Below w.heap.size w (w.alloc (.cells #[.int .i64 p.vars,.int .i64 p.mutexes,.slice a p.threads.length cap] 24)):=Zaa w _
 clear hp ha
 go_enter Tryz.func6,Tryz.ntmps6
 go_wp2_with fail
 generalize w.alloc (.cells #[.int .i64 p.vars,.int .i64 p.mutexes,.slice a p.threads.length cap] 24)=W1 at *
 refine(few_any p a cap W1 (HP.out.later hb1)).mono ?_
 rintro r W2⟨rfl,hb2⟩
 have hb3:=hb1.trans (hb2.mono hb1.size)
 cases hf:fewPg p
 ·clear hf
  go_wp2_with fail
  refine(Zap I _).mono ?_
  rintro r w3⟨rfl,hb4⟩
  go_wp2
  go_ret
  exact⟨rfl,hb3.trans (hb4.mono hb3.size)⟩
 clear hf
 obtain⟨c0,c1,c2⟩:=HBX.out W2 hb2
 have HB3:=Lib.hid hb3
 by_cases hok:Zam p fuel=true/\1<=z/\z<=64/\1<=y/\y<=1048576
 ·obtain⟨hg,h1,h2,h3,h4⟩:=hok
  obtain⟨W,rfl⟩:∃W:Nat,z=W:=⟨z.toNat,by omega⟩
  obtain⟨U,rfl⟩:∃U:Nat,y=U:=⟨y.toNat,by omega⟩
  have hgo:=hg
  unfold Zam at hgo
  simp only[Bool.and_eq_true,decide_eq_true_eq]at hgo
  obtain⟨hr,hf0,hf8⟩:=hgo
  have HN:=Lib.hid (I.new p a cap fuel W U W2 (HP.out.later hb3) HA.out hg (by omega) (by omega) (by omega) (by omega))
  have HR:Hid (∀W,Below w.heap.size w W->Calls Tryz.prog 26 #[.agg #[.int .i64 p.vars,.int .i64 p.mutexes,.slice a p.threads.length cap]] W fun r w'=>r=.returned (.bool true)/\Below W.heap.size W w'):=fun W h=>by
   have:=Zb4 p a cap W (HP.out.later h)
   rw[hr]at this
   exact this
  have e1:decide (fuel>=0)=true:=by simpa using hf0
  have e2:decide (fuel<=8)=true:=by simpa using hf8
  have e3:decide ((W:Int)>=1)=true:=by simpa using h1
  have e4:decide ((W:Int)<=64)=true:=by simpa using h2
  have e5:decide ((U:Int)>=1)=true:=by simpa using h3
  have e6:decide ((U:Int)<=1048576)=true:=by simpa using h4
  clear hg hr
  go_wp2_with fail
  refine HN.out.mono ?_
  rintro r W3⟨b,S,rfl,hb4,_⟩
  have hb5:=hb2.trans (hb4.mono hb2.size)
  have hb6:=hb3.trans (hb4.mono hb3.size)
  clear c0 c1 c2
  obtain⟨c0,c1,c2⟩:=HBX.out W3 hb5
  clear hb4 hb5 hb2 hb3
  go_wp2_with fail
  refine(HR.out _ hb6).mono ?_
  rintro r W4⟨rfl,hb7⟩
  have HB7:=Lib.hid (hb6.trans (hb7.mono hb6.size))
  clear c0 c1 c2 hb6 hb7
  go_wp2_with fail
  refine(Zap I _).mono ?_
  rintro r W5⟨rfl,hb8⟩
  have HB8:=Lib.hid (HB7.out.trans (hb8.mono HB7.out.size))
  clear hb8
  go_wp2_with fail
  refine(I.nilStep 0 0 _).mono ?_
  rintro r w'⟨rfl,i1,rfl⟩
  go_wp2_with fail
  refine(I.nilHalted _).mono ?_
  rintro r w'⟨rfl,i2,rfl⟩
  go_wp2_with fail
  refine(I.nilComplete _).mono ?_
  rintro r w'⟨rfl,i3,rfl⟩
  go_wp2_with fail
  refine(I.nilKeys 0 _).mono ?_
  rintro r w'⟨xa,xc,rfl,i4,rfl⟩
  go_wp2_with fail
  refine(I.nilNodes _).mono ?_
  rintro r w'⟨rfl,i5,rfl⟩
  go_wp2_with fail
  refine(I.nilClaims _).mono ?_
  rintro r w'⟨rfl,i6,rfl⟩
  go_wp2_with fail
  refine(I.nilBlocked _).mono ?_
  rintro r w'⟨rfl,i7,rfl⟩
  go_wp2_with fail
  refine(I.nilWorkers _).mono ?_
  rintro r w'⟨rfl,i8,rfl⟩
  go_wp2
  go_ret
  exact⟨rfl,HB8.out.drewN⟩
 ·have HN:=Lib.hid (I.bad p a cap fuel z y W2 (HP.out.later hb3) HA.out (by
   cases hg:Zam p fuel
   ·exact .inl rfl
   ·have:¬(1<=z/\z<=64/\1<=y/\y<=1048576):=fun h=>hok ⟨hg,h⟩
    exact .inr (by omega)))
  have hgg:Zam p fuel=true↔(Zal p=true/\0<=fuel/\fuel<=8):=by
   unfold Zam
   rw[Bool.and_eq_true,decide_eq_true_eq]
  rw[hgg]at hok
  go_wp2_with fail
  refine HN.out.mono ?_
  rintro r W3⟨rfl,hb4⟩
  have hb5:=hb2.trans (hb4.mono hb2.size)
  have hb6:=hb3.trans (hb4.mono hb3.size)
  clear c0 c1 c2
  obtain⟨c0,c1,c2⟩:=HBX.out W3 hb5
  clear hb4 hb5 hb2 hb3 hgg
  have HR:=Lib.hid (Zb4 p a cap W3 (HP.out.later hb6))
  cases hr:Zal p
  ·rw[hr]at HR
   clear hok
   go_wp2_with fail
   refine HR.out.mono ?_
   rintro r W4⟨rfl,hb7⟩
   have HB7:=Lib.hid (hb6.trans (hb7.mono hb6.size))
   clear c0 c1 c2 hb6 hb7
   go_wp2_with fail
   refine(Zap I _).mono ?_
   rintro r W5⟨rfl,hb8⟩
   have HB8:=Lib.hid (HB7.out.trans (hb8.mono HB7.out.size))
   clear hb8
   go_wp2_with fail
   refine(I.nilStep 0 0 _).mono ?_
   rintro r w'⟨rfl,i1,rfl⟩
   go_wp2_with fail
   refine(I.nilHalted _).mono ?_
   rintro r w'⟨rfl,i2,rfl⟩
   go_wp2_with fail
   refine(I.nilComplete _).mono ?_
   rintro r w'⟨rfl,i3,rfl⟩
   go_wp2_with fail
   refine(I.nilKeys 0 _).mono ?_
   rintro r w'⟨xa,xc,rfl,i4,rfl⟩
   go_wp2_with fail
   refine(I.nilNodes _).mono ?_
   rintro r w'⟨rfl,i5,rfl⟩
   go_wp2_with fail
   refine(I.nilClaims _).mono ?_
   rintro r w'⟨rfl,i6,rfl⟩
   go_wp2_with fail
   refine(I.nilBlocked _).mono ?_
   rintro r w'⟨rfl,i7,rfl⟩
   go_wp2_with fail
   refine(I.nilWorkers _).mono ?_
   rintro r w'⟨rfl,i8,rfl⟩
   go_wp2
   go_ret
   exact⟨rfl,HB8.out.drewN⟩
  ·rw[hr]at HR hok
   have hok2:fuel<0∨(0<=fuel/\8<fuel)∨((0<=fuel/\fuel<=8)/\z<1)∨((0<=fuel/\fuel<=8)/\1<=z/\64<z)∨((0<=fuel/\fuel<=8)/\(1<=z/\z<=64)/\y<1)∨((0<=fuel/\fuel<=8)/\(1<=z/\z<=64)/\1<=y/\1048576<y):=by
    have:¬((0<=fuel/\fuel<=8)/\1<=z/\z<=64/\1<=y/\y<=1048576):=fun h=>hok ⟨⟨rfl,h.1⟩,h.2⟩
    omega
   clear hok hr
   go_wp2_with fail
   refine HR.out.mono ?_
   rintro r W4⟨rfl,hb7⟩
   have HB7:=Lib.hid (hb6.trans (hb7.mono hb6.size))
   clear c0 c1 c2 hb6 hb7
   have dd1:decide (fuel>=0)=decide (0<=fuel):=rfl
   have dd3:decide (z>=1)=decide (1<=z):=rfl
   have dd5:decide (y>=1)=decide (1<=y):=rfl
   rcases hok2 with h|⟨h1,h⟩|⟨⟨h1,h2⟩,h⟩|⟨⟨h1,h2⟩,h3,h⟩|⟨⟨h1,h2⟩,⟨h3,h4⟩,h⟩|⟨⟨h1,h2⟩,⟨h3,h4⟩,h5,h⟩
   ·have e1:decide (fuel>=0)=false:=by simpa using h
    go_wp2_with fail
    refine(Zap I _).mono ?_
    rintro r W5⟨rfl,hb8⟩
    have HB8:=Lib.hid (HB7.out.trans (hb8.mono HB7.out.size))
    clear hb8
    go_wp2_with fail
    refine(I.nilStep 0 0 _).mono ?_
    rintro r w'⟨rfl,i1,rfl⟩
    go_wp2_with fail
    refine(I.nilHalted _).mono ?_
    rintro r w'⟨rfl,i2,rfl⟩
    go_wp2_with fail
    refine(I.nilComplete _).mono ?_
    rintro r w'⟨rfl,i3,rfl⟩
    go_wp2_with fail
    refine(I.nilKeys 0 _).mono ?_
    rintro r w'⟨xa,xc,rfl,i4,rfl⟩
    go_wp2_with fail
    refine(I.nilNodes _).mono ?_
    rintro r w'⟨rfl,i5,rfl⟩
    go_wp2_with fail
    refine(I.nilClaims _).mono ?_
    rintro r w'⟨rfl,i6,rfl⟩
    go_wp2_with fail
    refine(I.nilBlocked _).mono ?_
    rintro r w'⟨rfl,i7,rfl⟩
    go_wp2_with fail
    refine(I.nilWorkers _).mono ?_
    rintro r w'⟨rfl,i8,rfl⟩
    go_wp2
    go_ret
    exact⟨rfl,HB8.out.drewN⟩
   ·have e1:decide (fuel>=0)=true:=by simpa using h1
    have e2:decide (fuel<=8)=false:=by simpa using h
    go_wp2_with fail
    refine(Zap I _).mono ?_
    rintro r W5⟨rfl,hb8⟩
    have HB8:=Lib.hid (HB7.out.trans (hb8.mono HB7.out.size))
    clear hb8
    go_wp2_with fail
    refine(I.nilStep 0 0 _).mono ?_
    rintro r w'⟨rfl,i1,rfl⟩
    go_wp2_with fail
    refine(I.nilHalted _).mono ?_
    rintro r w'⟨rfl,i2,rfl⟩
    go_wp2_with fail
    refine(I.nilComplete _).mono ?_
    rintro r w'⟨rfl,i3,rfl⟩
    go_wp2_with fail
    refine(I.nilKeys 0 _).mono ?_
    rintro r w'⟨xa,xc,rfl,i4,rfl⟩
    go_wp2_with fail
    refine(I.nilNodes _).mono ?_
    rintro r w'⟨rfl,i5,rfl⟩
    go_wp2_with fail
    refine(I.nilClaims _).mono ?_
    rintro r w'⟨rfl,i6,rfl⟩
    go_wp2_with fail
    refine(I.nilBlocked _).mono ?_
    rintro r w'⟨rfl,i7,rfl⟩
    go_wp2_with fail
    refine(I.nilWorkers _).mono ?_
    rintro r w'⟨rfl,i8,rfl⟩
    go_wp2
    go_ret
    exact⟨rfl,HB8.out.drewN⟩
   ·have e1:decide (fuel>=0)=true:=by simpa using h1
    have e2:decide (fuel<=8)=true:=by simpa using h2
    have e3:decide (z>=1)=false:=by simpa using h
    go_wp2_with fail
    refine(Zap I _).mono ?_
    rintro r W5⟨rfl,hb8⟩
    have HB8:=Lib.hid (HB7.out.trans (hb8.mono HB7.out.size))
    clear hb8
    go_wp2_with fail
    refine(I.nilStep 0 0 _).mono ?_
    rintro r w'⟨rfl,i1,rfl⟩
    go_wp2_with fail
    refine(I.nilHalted _).mono ?_
    rintro r w'⟨rfl,i2,rfl⟩
    go_wp2_with fail
    refine(I.nilComplete _).mono ?_
    rintro r w'⟨rfl,i3,rfl⟩
    go_wp2_with fail
    refine(I.nilKeys 0 _).mono ?_
    rintro r w'⟨xa,xc,rfl,i4,rfl⟩
    go_wp2_with fail
    refine(I.nilNodes _).mono ?_
    rintro r w'⟨rfl,i5,rfl⟩
    go_wp2_with fail
    refine(I.nilClaims _).mono ?_
    rintro r w'⟨rfl,i6,rfl⟩
    go_wp2_with fail
    refine(I.nilBlocked _).mono ?_
    rintro r w'⟨rfl,i7,rfl⟩
    go_wp2_with fail
    refine(I.nilWorkers _).mono ?_
    rintro r w'⟨rfl,i8,rfl⟩
    go_wp2
    go_ret
    exact⟨rfl,HB8.out.drewN⟩
   ·have e1:decide (fuel>=0)=true:=by simpa using h1
    have e2:decide (fuel<=8)=true:=by simpa using h2
    have e3:decide (z>=1)=true:=by simpa using h3
    have e4:decide (z<=64)=false:=by simpa using h
    go_wp2_with fail
    refine(Zap I _).mono ?_
    rintro r W5⟨rfl,hb8⟩
    have HB8:=Lib.hid (HB7.out.trans (hb8.mono HB7.out.size))
    clear hb8
    go_wp2_with fail
    refine(I.nilStep 0 0 _).mono ?_
    rintro r w'⟨rfl,i1,rfl⟩
    go_wp2_with fail
    refine(I.nilHalted _).mono ?_
    rintro r w'⟨rfl,i2,rfl⟩
    go_wp2_with fail
    refine(I.nilComplete _).mono ?_
    rintro r w'⟨rfl,i3,rfl⟩
    go_wp2_with fail
    refine(I.nilKeys 0 _).mono ?_
    rintro r w'⟨xa,xc,rfl,i4,rfl⟩
    go_wp2_with fail
    refine(I.nilNodes _).mono ?_
    rintro r w'⟨rfl,i5,rfl⟩
    go_wp2_with fail
    refine(I.nilClaims _).mono ?_
    rintro r w'⟨rfl,i6,rfl⟩
    go_wp2_with fail
    refine(I.nilBlocked _).mono ?_
    rintro r w'⟨rfl,i7,rfl⟩
    go_wp2_with fail
    refine(I.nilWorkers _).mono ?_
    rintro r w'⟨rfl,i8,rfl⟩
    go_wp2
    go_ret
    exact⟨rfl,HB8.out.drewN⟩
   ·have e1:decide (fuel>=0)=true:=by simpa using h1
    have e2:decide (fuel<=8)=true:=by simpa using h2
    have e3:decide (z>=1)=true:=by simpa using h3
    have e4:decide (z<=64)=true:=by simpa using h4
    have e5:decide (y>=1)=false:=by simpa using h
    go_wp2_with fail
    refine(Zap I _).mono ?_
    rintro r W5⟨rfl,hb8⟩
    have HB8:=Lib.hid (HB7.out.trans (hb8.mono HB7.out.size))
    clear hb8
    go_wp2_with fail
    refine(I.nilStep 0 0 _).mono ?_
    rintro r w'⟨rfl,i1,rfl⟩
    go_wp2_with fail
    refine(I.nilHalted _).mono ?_
    rintro r w'⟨rfl,i2,rfl⟩
    go_wp2_with fail
    refine(I.nilComplete _).mono ?_
    rintro r w'⟨rfl,i3,rfl⟩
    go_wp2_with fail
    refine(I.nilKeys 0 _).mono ?_
    rintro r w'⟨xa,xc,rfl,i4,rfl⟩
    go_wp2_with fail
    refine(I.nilNodes _).mono ?_
    rintro r w'⟨rfl,i5,rfl⟩
    go_wp2_with fail
    refine(I.nilClaims _).mono ?_
    rintro r w'⟨rfl,i6,rfl⟩
    go_wp2_with fail
    refine(I.nilBlocked _).mono ?_
    rintro r w'⟨rfl,i7,rfl⟩
    go_wp2_with fail
    refine(I.nilWorkers _).mono ?_
    rintro r w'⟨rfl,i8,rfl⟩
    go_wp2
    go_ret
    exact⟨rfl,HB8.out.drewN⟩
   ·have e1:decide (fuel>=0)=true:=by simpa using h1
    have e2:decide (fuel<=8)=true:=by simpa using h2
    have e3:decide (z>=1)=true:=by simpa using h3
    have e4:decide (z<=64)=true:=by simpa using h4
    have e5:decide (y>=1)=true:=by simpa using h5
    have e6:decide (y<=1048576)=false:=by simpa using h
    go_wp2_with fail
    refine(Zap I _).mono ?_
    rintro r W5⟨rfl,hb8⟩
    have HB8:=Lib.hid (HB7.out.trans (hb8.mono HB7.out.size))
    clear hb8
    go_wp2_with fail
    refine(I.nilStep 0 0 _).mono ?_
    rintro r w'⟨rfl,i1,rfl⟩
    go_wp2_with fail
    refine(I.nilHalted _).mono ?_
    rintro r w'⟨rfl,i2,rfl⟩
    go_wp2_with fail
    refine(I.nilComplete _).mono ?_
    rintro r w'⟨rfl,i3,rfl⟩
    go_wp2_with fail
    refine(I.nilKeys 0 _).mono ?_
    rintro r w'⟨xa,xc,rfl,i4,rfl⟩
    go_wp2_with fail
    refine(I.nilNodes _).mono ?_
    rintro r w'⟨rfl,i5,rfl⟩
    go_wp2_with fail
    refine(I.nilClaims _).mono ?_
    rintro r w'⟨rfl,i6,rfl⟩
    go_wp2_with fail
    refine(I.nilBlocked _).mono ?_
    rintro r w'⟨rfl,i7,rfl⟩
    go_wp2_with fail
    refine(I.nilWorkers _).mono ?_
    rintro r w'⟨rfl,i8,rfl⟩
    go_wp2
    go_ret
    exact⟨rfl,HB8.out.drewN⟩
end Go.Proofs.YtjfmmnhcddckaaaGreat
namespace Go.Proofs.YtjfmmnhcddckaaaGreat.machineNil
open Go.ChangeShapes Go.WideShapes Go.ChangeAt Go.RowKit
theorem own:ownKnob Tryz.prog.godebug=none:=by kernel_rfl
theorem laidOut:laidOutB Tryz.prog=true:=by kernel_rfl
theorem lifted(os:Os)(started:os.Started)(H:Type)(enc:TypeId × Value->H):
  ReturnsInHanded {} Tryz.checked os 6 .any (Rows.machineNilSpec.pre6 enc Tryz.prog Tryz.f6 Rows.machineNilRow.domain false) (Rows.machineNilSpec.post enc Tryz.prog Tryz.f6 false true false false):=by
 refine returnsInHanded_of_change (C:=Tryz.checked) own started (by kernel_rfl) Tryz.func6
  (ChangeSpec.witness6 (enc:=enc) (C:=Tryz.checked) false ⟨#[],#[.agg #[.int .i64 0,.int .i64 0,.slice none 0 0],.int .i64 0,.int .i64 0,.int .i64 0],[]⟩ 8 (by kernel_rfl) (by kernel_rfl) (by kernel_rfl) (by kernel_rfl)) ?_
 intro W base args ds gs before hval0 hW hcnd _
 have hval:∀(j:Nat) t v,Tryz.f6.params[j]?=some t->args[j]?=some v->Value.okWide Tryz.prog W .any base t v:=hval0
 have hW':=hW
 obtain⟨p,q,hA0,hV,rfl,hfz,hnd⟩:=hW
 have hA:DataW.TrodAll enc Tryz.prog W 0 (fun _=>true) true Tryz.f6.params.toList args.toList ds p:=hA0
 rw[Tryz.params6]at hA hval
 obtain⟨v0,vs0,d0,ds0,p0,q0,hargs,rfl,rfl,h0,r0⟩:=trodAll_cons hA
 obtain⟨v1,vs1,d1,ds1,p1,q1,rfl,rfl,rfl,h1,r1⟩:=trodAll_cons r0
 obtain⟨v2,vs2,d2,ds2,p2,q2,rfl,rfl,rfl,h2,r2⟩:=trodAll_cons r1
 obtain⟨v3,vs3,d3,ds3,p3,q3,rfl,rfl,rfl,h3,r3⟩:=trodAll_cons r2
 obtain⟨rfl,rfl,rfl⟩:=trodAll_nil r3
 obtain rfl:args=#[v0,v1,v2,v3]:=by cases args;simp_all
 obtain⟨rfl,rfl⟩:=trodVars_none hV
 have k0:=h0
 have lt0:∀x∈p0,x.block<W.heap.size:=by obtain⟨m,hm⟩:=k0;exact DataW.trod_lt m _ _ _ hm
 have k1:=h1
 have lt1:∀x∈p1,x.block<W.heap.size:=by obtain⟨m,hm⟩:=k1;exact DataW.trod_lt m _ _ _ hm
 have k2:=h2
 have lt2:∀x∈p2,x.block<W.heap.size:=by obtain⟨m,hm⟩:=k2;exact DataW.trod_lt m _ _ _ hm
 have k3:=h3
 have lt3:∀x∈p3,x.block<W.heap.size:=by obtain⟨m,hm⟩:=k3;exact DataW.trod_lt m _ _ _ hm
 obtain⟨pg0,a0,cap0,rfl,hx0,hn0⟩:=ZbH (hval 0 24 v0 rfl rfl) h0
 obtain⟨n1,rfl,hx1⟩:=ZaE (hval 1 3 v1 rfl rfl) h1
 obtain⟨n2,rfl,hx2⟩:=ZaE (hval 2 3 v2 rfl rfl) h2
 obtain⟨n3,rfl,hx3⟩:=ZaE (hval 3 3 v3 rfl rfl) h3
 clear hA0 hval0
 refine(machineNil_of machI pg0 a0 cap0 n1 n2 n3 W hx0 hn0).mono fun e W' ⟨he,bel⟩=>?_
 subst he
 exact⟨_,rfl,_,_,_,[],_,[],hW',trodAll_mk1 (shut_bool Tryz.underlying4 _),(trodAll_cons_mk (Below.trod laidOut (by kernel_rfl) (of_decide_eq_true (by kernel_rfl)) k0 bel lt0) (trodAll_cons_mk (Below.trod laidOut (by kernel_rfl) (of_decide_eq_true (by kernel_rfl)) k1 bel lt1) (trodAll_cons_mk (Below.trod laidOut (by kernel_rfl) (of_decide_eq_true (by kernel_rfl)) k2 bel lt2) (trodAll_cons_mk (Below.trod laidOut (by kernel_rfl) (of_decide_eq_true (by kernel_rfl)) k3 bel lt3) trodAll_mk0)))),rfl,bel.frame _,fun h=>by cases h⟩
theorem over:Rows.machineNilRow.holds Tryz.pinned (OpenSpec.ofChange Rows.machineNilSpec):=
 OpenClaim.holds_of_wide 6 Tryz.f6 rfl rfl rfl rfl rfl rfl rfl ⟨rfl,rfl,rfl,rfl,rfl⟩ rfl rfl rfl rfl rfl (by kernel_rfl) Tryz.func6 (by kernel_rfl)
  (of_decide_eq_true (by kernel_rfl)) (by unfold Func.isWrapper;first|(rw[if_pos (by decide +kernel)];kernel_rfl)|(rw[if_neg (by decide +kernel)];exact⟨rfl,rfl⟩))
  (fun os started H enc _=>lifted os started H enc)
theorem proved:Rows.MachineNilSaid:=over
end Go.Proofs.YtjfmmnhcddckaaaGreat.machineNil
