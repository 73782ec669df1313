import Derived.Maps.OwnOps
import Derived.Maps.OwnSet
import Derived.Maps.Views
import Derived.Deep.OwnRows
import Derived.Lib.SliceRun
import Derived.IntWalk
import Derived.Deep.RegionHeld3
import Derived.Lib.Hide
import Derived.Test.YtjfmmnhcddckaaaGreatPk01
import Derived.Test.YtjfmmnhcddckaaaGreatPk02
set_option maxRecDepth 100000
set_option maxHeartbeats 4000000
namespace Go.Proofs.YtjfmmnhcddckaaaGreat
open Go.RowKit
def St.run(s:St):List Int->Int × List Ev × St
 | []=>(0,[],s)
 |t::row=>if (s.step t).1=0 then
    (if ((s.step t).2.2.run row).1=0 then (0,(s.step t).2.1::((s.step t).2.2.run row).2.1,((s.step t).2.2.run row).2.2)else (((s.step t).2.2.run row).1,[],s))
  else ((s.step t).1,[],s)
def comb(es:List Ev)(x:Int × List Ev × St):Int × List Ev × Option St:=if x.1=0 then (0,es++x.2.1,some x.2.2)else (x.1,[],none)
theorem Zl6(es:List Ev)(s:St)(t:Int)(row:List Int)(h:(s.step t).1=0):comb es (s.run (t::row))=comb (es++[(s.step t).2.1]) ((s.step t).2.2.run row):=by
 unfold comb
 rw[St.run,if_pos h]
 by_cases h2:((s.step t).2.2.run row).1=0
 ·rw[if_pos h2,if_pos h2];simp
 ·rw[if_neg h2,if_neg h2,if_neg h2]
theorem ZeZ(es:List Ev)(s:St)(t:Int)(row:List Int)(h:(s.step t).1≠0):comb es (s.run (t::row))=((s.step t).1,[],none):=by
 unfold comb
 rw[St.run,if_neg h,if_neg h]
theorem comb_nil(es:List Ev)(s:St):comb es (s.run [])=(0,es,some s):=by
 unfold comb
 simp[St.run]
def Zam(p:Pg)(fuel:Int):Bool:=Zal p&&decide (0<=fuel/\fuel<=8)
def rep(p:Pg)(fuel:Int)(row:List Int):Int × List Ev × Option St:=if Zam p fuel=true then comb [] ((St.new p fuel.toNat).run row)else (1,[],none)
def ZdU(p:Pg)(fuel:Int)(row:List Int)(w:World)(r:Ending)(w':World):Prop:=
 Below w.heap.size w w'/\match rep p fuel row with
 |(_,es,some s)=>∃g v,r=.returned (.tuple #[.pointer (some ⟨g,0,none⟩),v,.int .i64 0])/\w.heap.size<=g/\StAt w' g s/\s.Ok fuel.toNat/\OwnE w' w.heap.size v es
 |(e,_,none)=>r=.returned (.tuple #[.pointer none,.slice none 0 0,.int .i64 e])
theorem ZjT{p:Pg}{fuel:Int}{row:List Int}{w w':World}{es:List Ev}{s:St}(h:rep p fuel row=(0,es,some s)){g:Nat}{v:Value}(hb:Below w.heap.size w w')(hg:w.heap.size<=g)(hs:StAt w' g s)(ok:s.Ok fuel.toNat)(ho:OwnE w' w.heap.size v es):
  ZdU p fuel row w (.returned (.tuple #[.pointer (some ⟨g,0,none⟩),v,.int .i64 0])) w':=by
 unfold ZdU
 rw[h]
 exact⟨hb,g,v,rfl,hg,hs,ok,ho⟩
theorem ZfB{p:Pg}{fuel:Int}{row:List Int}{w w':World}{e:Int}(h:rep p fuel row=(e,[],none))(hb:Below w.heap.size w w'):
  ZdU p fuel row w (.returned (.tuple #[.pointer none,.slice none 0 0,.int .i64 e])) w':=by
 unfold ZdU
 rw[h]
 exact⟨hb,rfl⟩
theorem Zj9{w:World}{B B':Nat}{v:Value}{l:List Ev}(h:OwnE w B v l)(hB:B'<=B):OwnE w B' v l:=by
 obtain⟨h1,h2|⟨g,cap,cur,h2,h3,h4⟩⟩:=h
 ·exact⟨h1,.inl h2⟩
 ·exact⟨h1,.inr ⟨g,cap,cur,h2,by omega,h4⟩⟩
theorem replay_any(p:Pg)(a:Option Addr)(cap:Nat)(fuel:Int)(ra:Option Addr)(rcap:Nat)(row:List Int)(w:World)(hp:Zaf w a p.threads)(hrow:ZcG w ra row)(hr1000:row.length<=1000):
  Calls Tryz.prog 103 #[.agg #[.int .i64 p.vars,.int .i64 p.mutexes,.slice a p.threads.length cap],.int .i64 fuel,.slice ra row.length rcap] w (ZdU p fuel row w):=by
 have HP:=Lib.hid hp
 have HROW:=Lib.hid hrow
 clear hp hrow
 go_enter Tryz.func103,Tryz.ntmps103
 go_wp2_with fail
 refine(new_any p a cap fuel _ (HP.out.later (Zaa w _))).mono ?_
 rintro r w3 hr
 unfold NewR at hr
 by_cases hgood:Zal p=true/\0<=fuel/\fuel<=8
 case neg=>
  rw[if_neg hgood]at hr
  obtain⟨rfl,hb3⟩:=hr
  have hw3:Below w.heap.size w w3:=(Zaa w _).trans (hb3.mono (by simp))
  have HRP:Hid (rep p fuel row=(1,[],none)):=by
   show _=_
   unfold rep Zam
   rw[if_neg]
   simpa using hgood
  clear hb3 hgood
  go_wp2
  refine bodyPost_ret (v:=.tuple #[.pointer none,.slice none 0 0,.int .i64 1]) (by simp[results,Tryz.results103,go_sem]) rfl ?_
  exact ZfB HRP.out hw3
 rw[if_pos hgood]at hr
 obtain⟨g,rfl,hg,hs,hb3⟩:=hr
 obtain⟨hr1,hf0,hf8⟩:=hgood
 obtain⟨F,rfl⟩:∃F:Nat,fuel=F:=⟨fuel.toNat,by omega⟩
 have HRP:Hid (rep p F row=comb [] ((St.new p F).run row)):=by
  show _=_
  unfold rep Zam
  rw[if_pos (by simp[hr1];omega)]
  rfl
 simp only[Int.toNat_natCast]at hs
 have hw3:Below w.heap.size w w3:=(Zaa w _).trans (hb3.mono (by simp))
 have hgw:w.heap.size<=g:=by have:(w.alloc (.cells #[.int .i64 p.vars,.int .i64 p.mutexes,.slice a p.threads.length cap] 24)).heap.size<=g:=hg;simp at this;omega
 have hg3:=hs.lt
 have HS:=Lib.hid hs
 have HOK:=Lib.hid (new_ok hr1 F (by omega))
 clear hs hb3 hr1 hg
 go_wp2_with fail
 go_loopw [11,27] (fun l i wr=>∃(k:Nat) (s:St) (es:List Ev),k<=row.length/\i=.int .i64 k/\es.length<=k/\Hid (rep p F row=comb es (s.run (row.drop k)))/\OwnE wr w3.heap.size l es/\StAt wr g s/\s.Ok F/\Below w.heap.size w wr/\w3.heap.size<=wr.heap.size) (fun _ i _=>row.length-(intOf i).toNat)
 case atStart=>exact⟨0,_,[],Nat.zero_le _,rfl,Nat.zero_le _,HRP,Zf1 _ _,HS.out,HOK.out,hw3,Nat.le_refl _⟩
 case round=>
  clear HS HOK HRP
  obtain⟨k,s,es,hk,rfl,hel,HRP,hown,hs,ok,hb,hz⟩:=hrel
  have HS:=Lib.hid hs
  have OK:=Lib.hid ok
  have hgr:=hs.lt
  clear hs ok
  by_cases hlt:k<row.length
  ·obtain⟨rb,ro,rfl,hc⟩:=HROW.out.2 (by intro e;simp[e]at hlt)
   have d0:=Zab hb (hc k hlt)
   have hdr:row.drop k=row[k]::row.drop (k+1):=List.drop_eq_getElem_cons hlt
   have HDR:=Lib.hid hdr
   clear hc hdr
   generalize row[k]=t at *
   go_wp2_with fail
   refine(step_any HS.out OK.out t).mono ?_
   rintro r w5⟨rfl,hs5,ho5⟩
   have hok5:=OK.out.step_ok t
   have HCE:=Lib.hid (ZeZ es s t (row.drop (k+1)))
   have HCO:=Lib.hid (Zl6 es s t (row.drop (k+1)))
   have hb5:=hb.trans (ho5.below hgw hb.size)
   have hown5:=hown.only ho5 hg3
   have hz5:w3.heap.size<=w5.heap.size:=Nat.le_trans hz ho5.size
   unfold stepV evV
   generalize s.step t=st at *
   obtain⟨e,x,s'⟩:=st
   dsimp only at *
   have HS5:=Lib.hid (hs5.later (Zaa w5 (.cells #[.int .i64 x.thread,.int .i64 x.kind,.int .i64 x.obj,.bool x.fail] 112)))
   have HOK5:=Lib.hid hok5
   have hbe:Below w.heap.size w (w5.alloc (.cells #[.int .i64 x.thread,.int .i64 x.kind,.int .i64 x.obj,.bool x.fail] 112)):=hb5.alloc hb5.size _
   clear hb hown ho5 hs5 hok5 hb5 HS d0 hgr
   by_cases he:e=0
   ·subst he
    have HR2:Hid (rep p F row=comb (es++[x]) (s'.run (row.drop (k+1)))):=by
     show _=_
     rw[HRP.out,HDR.out]
     exact HCO.out rfl
    clear HCE HCO
    go_wp2_with (at_builtin;refine Zcl rfl (.tmp 40) (.tmp 42) rfl w3.heap.size _ es rfl ((hown5.alloc _).alloc _) ⟨w5.heap.size+1,0,none⟩ rfl x (Zh5 (w5.alloc (.cells #[.int .i64 x.thread,.int .i64 x.kind,.int .i64 x.obj,.bool x.fail] 112)) x _ _ (by simp)) (by omega) (by simp;omega) ?_;intro v7 w7 hown7 hb7)
    have hb7':Below w3.heap.size (w5.alloc (.cells #[.int .i64 x.thread,.int .i64 x.kind,.int .i64 x.obj,.bool x.fail] 112)) w7:=((Below.refl _ _).alloc (by simp;omega) _).trans hb7
    have HS7:Hid (StAt w7 g s'):=(hb7'.block g hg3).trans HS5.out
    have hw7:Below w.heap.size w w7:=hbe.trans (hb7'.mono (by omega))
    have hz7:w3.heap.size<=w7.heap.size:=by have:=hb7'.size;simp at this;omega
    clear hb7 hb7' hown5
    go_roundw
    case rel=>exact⟨k+1,s',es++[x],by omega,by go_num,by simp;omega,HR2,hown7,HS7.out,HOK5.out,hw7,hz7⟩
    case measure=>simp[intOf];omega
   ·have q0:(e != 0)=true:=by simpa using he
    have HR2:Hid (rep p F row=(e,[],none)):=by
     show _=_
     rw[HRP.out,HDR.out]
     exact HCE.out he
    clear he HCE HCO
    go_wp2
    refine bodyPost_ret (v:=.tuple #[.pointer none,.slice none 0 0,.int .i64 e]) (by simp[results,Tryz.results103,go_sem]) rfl ?_
    exact ZfB HR2.out hbe
  ·obtain rfl:k=row.length:=by omega
   have HR2:Hid (rep p F row=(0,es,some s)):=by
    show _=_
    rw[HRP.out,List.drop_length]
    exact comb_nil es s
   go_wp2
   refine bodyPost_ret (v:=.tuple #[.pointer (some ⟨g,0,none⟩),_,.int .i64 0]) (by simp[results,Tryz.results103,go_sem];rfl) rfl ?_
   exact ZjT HR2.out hb hgw HS.out OK.out (Zj9 hown (by have:=hw3.size;omega))
end Go.Proofs.YtjfmmnhcddckaaaGreat
namespace Go.Proofs.YtjfmmnhcddckaaaGreat
theorem rep_none{p:Pg}{fuel:Int}{row:List Int}{e:Int}{es:List Ev}(h:rep p fuel row=(e,es,none)):e≠0:=by
 unfold rep at h
 split at h
 ·unfold comb at h
  split at h
  ·injection h with _ h;injection h with _ h;cases h
  ·rename_i h0
   injection h with h1 _
   rw[<-h1];exact h0
 ·injection h with h1 _
  rw[<-h1];simp
theorem ZfY{p:Pg}{fuel:Int}{row:List Int}{e:Int}{es:List Ev}{s:St}(h:rep p fuel row=(e,es,some s)):e=0/\Zam p fuel=true/\((St.new p fuel.toNat).run row).1=0/\((St.new p fuel.toNat).run row).2.1=es:=by
 unfold rep at h
 split at h
 ·rename_i hg
  unfold comb at h
  split at h
  ·rename_i h0
   injection h with h1 h;injection h with h2 h
   exact⟨h1.symm,hg,h0,by simpa using h2⟩
  ·injection h with _ h;injection h with _ h;cases h
 ·injection h with _ h;injection h with _ h;cases h
theorem ev_right{F:Nat}{s:St}(ok:s.Ok F){t:Int}{e:Ev}{s1:St}(h:s.step t=(0,e,s1)):Zay e=true:=by
 obtain⟨i,hi,_,rfl,_⟩:=St.step_ok0 h
 have hh:=(St.ins_has hi).1
 have h4:s.ts.length<=4:=by
  have h1:=ok.len
  have h2:=ok.right
  unfold Zal at h2
  rw[Bool.and_eq_true,decide_eq_true_eq]at h2
  omega
 unfold St.has at hh
 obtain⟨o1,o2,_,_,_,_⟩:=ok.obj hi
 unfold Zay St.ev
 rw[decide_eq_true_eq]
 repeat' split
 all_goals dsimp only
 all_goals(refine⟨hh.1,by omega,?_⟩)
 ·exact .inr (.inl ⟨.inl rfl,by omega,by omega,rfl⟩)
 ·exact .inr (.inl ⟨.inr rfl,by omega,by omega,rfl⟩)
 ·exact .inr (.inr ⟨.inl rfl,by omega,by omega,rfl⟩)
 ·exact .inr (.inr ⟨.inr rfl,by omega,by omega,rfl⟩)
 ·exact .inl ⟨rfl,rfl⟩
 ·exact .inl ⟨rfl,rfl⟩
 ·exact .inl ⟨rfl,rfl⟩
end Go.Proofs.YtjfmmnhcddckaaaGreat
namespace Go.Proofs.YtjfmmnhcddckaaaGreat
open Go.RowKit

theorem eBelow_any(n e:Int)(w:World):Calls Tryz.prog 188 #[.int .i64 n,.int .i64 e] w fun r w'=>r=.returned (.bool (ZaM n e))/\w=w':=by
 go_enter Tryz.func188,Tryz.ntmps188
 go_wp2
 all_goals
  go_ret
  refine⟨Zag ?_,rfl⟩
  simp[ZaM]
  try omega
theorem Zef(e:Ev)(w:World):Calls Tryz.prog 173 #[.agg #[.int .i64 e.thread,.int .i64 e.kind,.int .i64 e.obj,.bool e.fail]] w fun r w'=>r=.returned (.bool (memE e))/\Below w.heap.size w w':=by
 obtain⟨t,k,o,f⟩:=e
 dsimp only
 go_enter Tryz.func173,Tryz.ntmps173
 go_wp2
 all_goals
  go_ret
  refine⟨Zag ?_,Zaa _ _⟩
  rw[Bool.eq_iff_iff]
  simp[memE]
  try omega
theorem Zeo(e:Ev)(w:World):Calls Tryz.prog 174 #[.agg #[.int .i64 e.thread,.int .i64 e.kind,.int .i64 e.obj,.bool e.fail]] w fun r w'=>r=.returned (.bool (mutE e))/\Below w.heap.size w w':=by
 obtain⟨t,k,o,f⟩:=e
 dsimp only
 go_enter Tryz.func174,Tryz.ntmps174
 go_wp2
 all_goals
  go_ret
  refine⟨Zag ?_,Zaa _ _⟩
  rw[Bool.eq_iff_iff]
  simp[mutE]
  try omega
theorem Zes(e:Ev)(w:World):Calls Tryz.prog 165 #[.agg #[.int .i64 e.thread,.int .i64 e.kind,.int .i64 e.obj,.bool e.fail]] w fun r w'=>r=.returned (.bool (Zay e))/\Below w.heap.size w w':=by
 obtain⟨t,k,o,f⟩:=e
 dsimp only
 go_enter Tryz.func165,Tryz.ntmps165
 go_wp2_with (go_at_call 188;refine(eBelow_any _ _ _).mono ?_;rintro r w' ⟨rfl,rfl⟩)
 all_goals
  go_ret
  refine⟨Zag ?_,Zaa _ _⟩
  simp[ZaM]at *
  rw[Bool.eq_iff_iff]
  simp[Zay, *]
  try(first|omega|(cases f <;> simp <;> omega))
theorem Zee(e:Ev)(w:World):Calls Tryz.prog 151 #[.agg #[.int .i64 e.thread,.int .i64 e.kind,.int .i64 e.obj,.bool e.fail]] w fun r w'=>r=.returned (.bool (Zay e))/\Below w.heap.size w w':=by
 obtain⟨t,k,o,f⟩:=e
 dsimp only
 go_enter Tryz.func151,Tryz.ntmps151
 go_wp2
 all_goals
  go_ret
  refine⟨Zag ?_,Zaa _ _⟩
  simp at *
  rw[Bool.eq_iff_iff]
  simp[Zay, *]
  try(first|omega|(cases f <;> simp <;> omega))
theorem two_boxes(e f:Ev)(w:World):EvBox ((w.alloc (.cells #[.int .i64 e.thread,.int .i64 e.kind,.int .i64 e.obj,.bool e.fail] 112)).alloc (.cells #[.int .i64 f.thread,.int .i64 f.kind,.int .i64 f.obj,.bool f.fail] 112)) w.heap.size e/\EvBox ((w.alloc (.cells #[.int .i64 e.thread,.int .i64 e.kind,.int .i64 e.obj,.bool e.fail] 112)).alloc (.cells #[.int .i64 f.thread,.int .i64 f.kind,.int .i64 f.obj,.bool f.fail] 112)) (w.heap.size+1) f:=
 ⟨heap_alloc2_old w _ _,heap_alloc2_new w _ _⟩
theorem Zdm(e f:Ev)(w:World):Calls Tryz.prog 135 #[.agg #[.int .i64 e.thread,.int .i64 e.kind,.int .i64 e.obj,.bool e.fail],.agg #[.int .i64 f.thread,.int .i64 f.kind,.int .i64 f.obj,.bool f.fail]] w fun r w'=>r=.returned (.bool (dep e f))/\Below w.heap.size w w':=by
 obtain⟨he,hf⟩:=two_boxes e f w
 have HE:=Lib.hid he
 have HF:=Lib.hid hf
 have hb0:=Zak w (.cells #[.int .i64 e.thread,.int .i64 e.kind,.int .i64 e.obj,.bool e.fail] 112) (.cells #[.int .i64 f.thread,.int .i64 f.kind,.int .i64 f.obj,.bool f.fail] 112)
 clear he hf
 by_cases h1:e.thread=f.thread
 ·have HD:Hid (dep e f=true):=by show _=_;simp[dep,h1]
  have q1:(e.thread==f.thread)=true:=by simp[h1]
  clear h1 HE HF
  go_enter Tryz.func135,Tryz.ntmps135
  go_wp2
  go_ret
  exact⟨Zag HD.out.symm,hb0⟩
 by_cases h2:e.obj=f.obj
 case neg=>
  have HD:Hid (dep e f=false):=by show _=_;simp[dep,h1,h2]
  have q1:(e.thread==f.thread)=false:=by simp[h1]
  have q2:(e.obj != f.obj)=true:=by simp[h2]
  clear h1 h2 HE HF
  go_enter Tryz.func135,Tryz.ntmps135
  go_wp2
  go_ret
  exact⟨Zag HD.out.symm,hb0⟩
 have q1:(e.thread==f.thread)=false:=by simp[h1]
 have q2:(e.obj != f.obj)=false:=by simp[h2]
 have HT:=Lib.hid h1
 have HO:=Lib.hid h2
 clear h1 h2
 go_enter Tryz.func135,Tryz.ntmps135
 go_wp2_with fail
 generalize (w.alloc (.cells #[.int .i64 e.thread,.int .i64 e.kind,.int .i64 e.obj,.bool e.fail] 112)).alloc (.cells #[.int .i64 f.thread,.int .i64 f.kind,.int .i64 f.obj,.bool f.fail] 112)=W0 at *
 refine(Zef e _).mono ?_
 rintro r w1⟨rfl,hb1⟩
 have HE1:=Lib.hid (HE.out.later hb1)
 have HF1:=Lib.hid (HF.out.later hb1)
 have hw1:Below w.heap.size w w1:=hb0.trans (hb1.mono hb0.size)
 clear HE HF hb0 hb1
 obtain⟨e0,e1,e2,e3⟩:=HE1.out.cells
 obtain⟨f0,f1,f2,f3⟩:=HF1.out.cells
 have le:=HE1.out.lt
 have lf:=HF1.out.lt
 generalize hm:memE e=m
 cases m
 ·go_wp2_with fail
  refine(Zeo e _).mono ?_
  rintro r w2⟨rfl,hb2⟩
  have hw2:Below w.heap.size w w2:=hw1.trans (hb2.mono hw1.size)
  have g0:=Zab hb2 f0
  have g1:=Zab hb2 f1
  have g2:=Zab hb2 f2
  have g3:=Zab hb2 f3
  have lg:=Nat.lt_of_lt_of_le lf hb2.size
  generalize hx:mutE e=x
  cases x
  ·go_wp2
   go_ret
   refine⟨Zag ?_,hw2⟩
   unfold memE at hm
   unfold mutE at hx
   simp at hm hx
   simp[dep,HT.out,HO.out,hm,hx]
  ·clear e0 e1 e2 e3 f0 f1 f2 f3 le lf hb2
   go_wp2_with fail
   refine(Zeo f _).mono ?_
   rintro r w3⟨rfl,hb3⟩
   have hw3:Below w.heap.size w w3:=hw2.trans (hb3.mono hw2.size)
   go_wp2
   go_ret
   refine⟨Zag ?_,hw3⟩
   unfold memE at hm
   unfold mutE at hx ⊢
   simp at hm hx
   simp[dep,HT.out,HO.out,hm,hx]
 ·go_wp2_with fail
  refine(Zef f _).mono ?_
  rintro r w2⟨rfl,hb2⟩
  have hw2:Below w.heap.size w w2:=hw1.trans (hb2.mono hw1.size)
  have d0:=Zab hb2 e0
  have d1:=Zab hb2 e1
  have d2:=Zab hb2 e2
  have d3:=Zab hb2 e3
  have ld:=Nat.lt_of_lt_of_le le hb2.size
  have g0:=Zab hb2 f0
  have g1:=Zab hb2 f1
  have g2:=Zab hb2 f2
  have g3:=Zab hb2 f3
  have lg:=Nat.lt_of_lt_of_le lf hb2.size
  clear e0 e1 e2 e3 f0 f1 f2 f3 le lf hb2
  generalize hx:memE f=x
  cases x
  ·go_wp2_with fail
   refine(Zeo e _).mono ?_
   rintro r w3⟨rfl,hb3⟩
   have hx3:mutE e=false:=by
    unfold memE at hm
    unfold mutE
    simp at hm ⊢
    omega
   rw[hx3]
   have hw3:Below w.heap.size w w3:=hw2.trans (hb3.mono hw2.size)
   go_wp2
   go_ret
   refine⟨Zag ?_,hw3⟩
   unfold memE at hm hx
   unfold mutE at hx3
   simp at hm hx hx3
   simp[dep,HT.out,HO.out,hm,hx,hx3]
  ·go_wp2
   all_goals
    go_ret
    refine⟨Zag ?_,hw2⟩
    unfold memE at hm hx
    simp at *
    rw[Bool.eq_iff_iff]
    simp[dep,HT.out,HO.out, *]
    try omega
theorem Zhp(e f:Ev)(w:World):Calls Tryz.prog 154 #[.agg #[.int .i64 e.thread,.int .i64 e.kind,.int .i64 e.obj,.bool e.fail],.agg #[.int .i64 f.thread,.int .i64 f.kind,.int .i64 f.obj,.bool f.fail]] w fun r w'=>r=.returned (.bool (dep e f))/\Below w.heap.size w w':=by
 go_enter Tryz.func154,Tryz.ntmps154
 go_wp2
 all_goals
  go_ret
  refine⟨Zag ?_,Zak _ _ _⟩
  simp at *
  rw[Bool.eq_iff_iff]
  simp[dep, *]
  try omega
def Zaw(l:List Ev):Bool:=l.all Zay
theorem Zen(l:List Ev)(k:Nat)(h:k<l.length):Zaw (l.take (k+1))=(Zaw (l.take k)&&Zay l[k]):=by
 unfold Zaw
 rw[List.take_succ_eq_append_getElem h,List.all_append]
 simp
theorem Zgu{l:List Ev}{k:Nat}(h:k<l.length)(hr:Zay l[k]=false):Zaw l=false:=by
 unfold Zaw
 rw[List.all_eq_false]
 exact⟨l[k],List.getElem_mem h,by simp[hr]⟩
theorem Zc0{l:List Ev}(h:Zaw l=true){k:Nat}(hk:k<l.length):Zay l[k]=true:=by
 unfold Zaw at h
 exact List.all_eq_true.1 h _ (List.getElem_mem hk)
theorem ZiB(a:Option Addr)(cap:Nat)(l:List Ev)(w:World)(hl:EvsAt w a l):
  Calls Tryz.prog 96 #[.slice a l.length cap] w fun r w'=>r=.returned (.bool (Zaw l))/\Below w.heap.size w w':=by
 have hm:=hl.1
 unfold maxLen at hm
 have HL:=Lib.hid hl
 clear hl
 go_enter Tryz.func96,Tryz.ntmps96
 go_wp2
 go_loopw [3] (fun i wr=>∃k:Nat,k<=l.length/\i=.int .i64 k/\Hid (Zaw (l.take k)=true)/\Below w.heap.size w wr) (fun i _=>l.length-(intOf i).toNat)
 case atStart=>exact⟨0,Nat.zero_le _,rfl,rfl,Below.refl _ _⟩
 case round=>
  obtain⟨k,hk,rfl,HR,hb⟩:=hrel
  by_cases hlt:k<l.length
  ·obtain⟨b,o,rfl,hc⟩:=HL.out.2 (by intro e;simp[e]at hlt)
   obtain⟨c0,c1,c2,c3⟩:=hc k hlt
   have d0:=Zab hb c0
   have d1:=Zab hb c1
   have d2:=Zab hb c2
   have d3:=Zab hb c3
   have HT:=Lib.hid (Zen l k hlt)
   have hx1:Hid (Zay l[k]=false->Zaw l=false):=fun h=>Zgu hlt h
   clear hc c0 c1 c2 c3
   generalize l[k]=x at *
   go_wp2_with fail
   refine(Zee x _).mono ?_
   rintro r w2⟨rfl,hb5⟩
   have hb6:=hb.trans (hb5.mono hb.size)
   clear hb5
   cases hr:Zay x
   ·have HN:=Lib.hid (hx1.out hr)
    clear hx1 HT
    go_wp2
    go_ret
    exact⟨Zag HN.out.symm,hb6⟩
   ·have HN:Hid (Zaw (l.take (k+1))=true):=by show _=_;rw[HT.out,HR.out,hr];rfl
    clear hx1 HT
    go_wp2
    go_roundw
    case rel=>exact⟨k+1,by omega,by go_num,HN,hb6⟩
    case measure=>simp[intOf];omega
  ·obtain rfl:k=l.length:=by omega
   have HE:Hid (Zaw l=true):=by have h:=HR.out;rw[List.take_length]at h;exact h
   go_wp2
   go_ret
   exact⟨Zag HE.out.symm,hb⟩
theorem run_right{F:Nat}(row:List Int):∀{s:St},s.Ok F->(s.run row).2.1.all Zay=true:=by
 induction row with
 |nil=>intro s _;rfl
 |cons t row ih=>
  intro s ok
  rw[St.run]
  split
  ·rename_i h0
   split
   ·have h1:Zay (s.step t).2.1=true:=ev_right ok (t:=t) (e:=(s.step t).2.1) (s1:=(s.step t).2.2) (by rw[<-h0])
    have h2:=ih (ok.step_ok t)
    simp only[List.all_cons,h1,h2,Bool.and_self]
   ·rfl
  ·rfl
theorem rep_right{p:Pg}{fuel:Int}{row:List Int}{e:Int}{es:List Ev}{s:St}(h:rep p fuel row=(e,es,some s)):Zaw es=true:=by
 obtain⟨_,hg,_,rfl⟩:=ZfY h
 unfold Zam at hg
 rw[Bool.and_eq_true,decide_eq_true_eq]at hg
 exact run_right row (new_ok hg.1 fuel.toNat (by omega))
abbrev Pfx:=List UInt8
def rowK(k:Pfx):List Int:=k.map fun c=>(c.toNat:Int)
theorem Zdb(k:Pfx):(rowK k).length=k.length:=by simp[rowK]
theorem Zgr(k:Pfx)(n:Nat):rowK (k.take n)=(rowK k).take n:=by simp[rowK,List.map_take]
theorem Zhr{s:St}{t:Int}(h:s.fuel=0):(s.step t).1≠0:=by
 rcases s.step_cases t with ⟨i,hi,_,_⟩|⟨e,he,e'⟩
 ·have:=St.fuel_do hi;omega
 ·rw[e'];dsimp only;omega
theorem fuel_step{s:St}{t:Int}(h:(s.step t).1=0):(s.step t).2.2.fuel+1=s.fuel:=by
 rcases s.step_cases t with ⟨i,hi,_,e⟩|⟨e,he,e'⟩
 ·rw[e];exact St.fuel_do hi
 ·rw[e']at h;dsimp only at h;omega
theorem comb_cut(n:Nat):∀(es:List Ev) (s:St) (row:List Int),s.fuel<=n->comb es (s.run (row.take (n+1)))=comb es (s.run row):=by
 induction n with
 |zero=>
  intro es s row h
  cases row with
  |nil=>rfl
  |cons t row=>
   have h1:=Zhr (t:=t) (by omega:s.fuel=0)
   rw[List.take_succ_cons,ZeZ _ _ _ _ h1,ZeZ _ _ _ _ h1]
 |succ n ih=>
  intro es s row h
  cases row with
  |nil=>rfl
  |cons t row=>
   rw[List.take_succ_cons]
   by_cases h1:(s.step t).1=0
   ·have h2:=fuel_step h1
    rw[Zl6 _ _ _ _ h1,Zl6 _ _ _ _ h1,ih _ _ row (by omega)]
   ·rw[ZeZ _ _ _ _ h1,ZeZ _ _ _ _ h1]
theorem Zly{p:Pg}(h:Zal p=true){F:Nat}(hF:F<=8):(St.new p F).fuel<=32:=by
 have h4:p.threads.length<=4:=by
  unfold Zal at h
  rw[Bool.and_eq_true,decide_eq_true_eq]at h
  omega
 have e:(St.new p F).fuel=p.threads.length*F:=by
  unfold St.fuel St.new
  simp[List.map_const']
 rw[e]
 have:=Nat.mul_le_mul h4 hF
 omega
theorem Zld(p:Pg)(fuel:Int)(row:List Int):rep p fuel (row.take 33)=rep p fuel row:=by
 unfold rep
 by_cases hg:Zam p fuel=true
 ·rw[if_pos hg,if_pos hg]
  unfold Zam at hg
  rw[Bool.and_eq_true,decide_eq_true_eq]at hg
  exact comb_cut 32 [] _ row (Zly hg.1 (by omega))
 ·rw[if_neg hg,if_neg hg]
structure TNd where
 pre:Pfx
 own:Int
 may:Nat
 asl:Nat
 todo:Nat
 gone:Nat
structure TNd.Ok(n:TNd):Prop where
 may:n.may<256
 asl:n.asl<256
 todo:n.todo<256
 gone:n.gone<256
def TNd.left(n:TNd):Nat:=wo (wo n.todo n.gone) n.asl
theorem TNd.Ok.left{n:TNd}(h:n.Ok):n.left<256:=wo_lt _ _ (wo_lt _ _ h.todo)
def idxT(l:List TNd)(k:Pfx):Option Nat:=l.findIdx? fun n=>decide (n.pre=k)
theorem Za0{l:List TNd}{k:Pfx}{i:Nat}(h:idxT l k=some i):∃hi:i<l.length,l[i].pre=k:=by
 unfold idxT at h
 rw[List.findIdx?_eq_some_iff_getElem]at h
 obtain⟨hi,h1,_⟩:=h
 exact⟨hi,by simpa using h1⟩
theorem ZkB{l:List TNd}{k:Pfx}(h:idxT l k=none):∀n∈l,n.pre≠k:=by
 unfold idxT at h
 rw[List.findIdx?_eq_none_iff]at h
 intro n hn
 simpa using h n hn
theorem Zfi{l:List TNd}(hd:(l.map TNd.pre).Nodup){i:Nat}(hi:i<l.length):idxT l l[i].pre=some i:=by
 cases h:idxT l l[i].pre with
 |none=>exact absurd rfl (ZkB h l[i] (List.getElem_mem hi))
 |some j=>
  obtain⟨hj,e⟩:=Za0 h
  have:i=j:=by
   have h1:(l.map TNd.pre)[i]'(by simpa using hi)=(l.map TNd.pre)[j]'(by simpa using hj):=by simp[e]
   exact(List.getElem_inj hd).1 h1
  rw[this]
theorem ZkA{l:List TNd}{n:TNd}(h:idxT l n.pre=none)(k:Pfx):idxT (l++[n]) k=if k=n.pre then some l.length else idxT l k:=by
 unfold idxT at *
 rw[List.findIdx?_append]
 by_cases e:k=n.pre
 ·subst e
  rw[h,if_pos rfl]
  simp
 ·rw[if_neg e]
  have:([n].findIdx? fun m=>decide (m.pre=k))=none:=by
   simp[List.findIdx?_cons,Ne.symm e]
  rw[this]
  simp
theorem Zi0{l:List TNd}{i:Nat}{n:TNd}(hi:i<l.length)(e:n.pre=l[i].pre)(k:Pfx):idxT (l.set i n) k=idxT l k:=by
 unfold idxT
 have key:∀(l:List TNd) (i:Nat) (hi:i<l.length),n.pre=l[i].pre->(l.set i n).findIdx? (fun m=>decide (m.pre=k))=l.findIdx? (fun m=>decide (m.pre=k)):=by
  intro l
  induction l with
  |nil=>intro i hi;simp at hi
  |cons a l ih=>
   intro i hi e
   cases i with
   |zero=>
    simp only[List.getElem_cons_zero]at e
    simp[List.findIdx?_cons,e]
   |succ i=>
    simp only[List.getElem_cons_succ]at e
    have:=ih i (by simpa using hi) e
    simp[List.findIdx?_cons,this]
 exact key l i hi e
def wasT(l:List TNd)(k:Pfx):Bool:=match idxT l k.dropLast with
 |some i=>hasB (l.getD i ⟨[],0,0,0,0,0⟩).gone ((k.getLast?.getD 0).toNat:Int)
 |none=>false
def makeT(p:Pg)(fuel:Int)(l:List TNd)(k:Pfx)(asl:Nat)(own:Int):Int × List TNd:=
 match rep p fuel (rowK k)with
 |(e,_,none)=>(e,l)
 |(_,_,some s)=>if (idxT l k).isSome then (7,l)else if k≠[]/\wasT l k=false then (6,l)else (0,l++[⟨k,own,ofN s.all,asl,0,0⟩])
def markT(l:List TNd)(k:Pfx)(set:Nat):Int × List TNd:=match idxT l k with
 |none=>(6,l)
 |some i=>(0,l.set i { l.getD i ⟨[],0,0,0,0,0⟩with todo:=(l.getD i ⟨[],0,0,0,0,0⟩).todo|||(set&&&(l.getD i ⟨[],0,0,0,0,0⟩).may) })
def handT(l:List TNd)(k:Pfx)(own:Int):Int × List TNd:=match idxT l k with
 |none=>(6,l)
 |some i=>(0,l.set i { l.getD i ⟨[],0,0,0,0,0⟩with own:=own })
def drawN(d:Int)(n:Nat):Nat:=((d%18446744073709551616)%(n:Int)).toNat
theorem ZcN(d:Int){n:Nat}(h:0<n):drawN d n<n:=by
 unfold drawN
 have h1:=Int.emod_lt_of_pos (d%18446744073709551616) (by omega:(0:Int)<n)
 have h2:=Int.emod_nonneg (d%18446744073709551616) (by omega:(n:Int)≠0)
 omega
def nextT(p:Pg)(fuel:Int)(k:Pfx):Int->Option Ev:=match rep p fuel (rowK k)with
 |(_,_,some s)=>s.next
 |(_,_,none)=>fun _=>none
def Zbc(p:Pg)(fuel:Int)(l:List TNd)(k:Pfx)(d:Int):Int × Int × Nat × List TNd:=match idxT l k with
 |none=>(6,0,0,l)
 |some i=>if bitsL (l.getD i ⟨[],0,0,0,0,0⟩).left=[]then (6,0,0,l)else
   (0,((bitsL (l.getD i ⟨[],0,0,0,0,0⟩).left).getD (drawN d (bitsL (l.getD i ⟨[],0,0,0,0,0⟩).left).length) 0:Nat),
    ZcP (nextT p fuel k) (l.getD i ⟨[],0,0,0,0,0⟩).asl (l.getD i ⟨[],0,0,0,0,0⟩).gone ((bitsL (l.getD i ⟨[],0,0,0,0,0⟩).left).getD (drawN d (bitsL (l.getD i ⟨[],0,0,0,0,0⟩).left).length) 0:Nat),
    l.set i { l.getD i ⟨[],0,0,0,0,0⟩with gone:=wt (l.getD i ⟨[],0,0,0,0,0⟩).gone ((bitsL (l.getD i ⟨[],0,0,0,0,0⟩).left).getD (drawN d (bitsL (l.getD i ⟨[],0,0,0,0,0⟩).left).length) 0:Nat) })
structure TrOk(p:Pg)(fuel:Int)(l:List TNd):Prop where
 nodup:(l.map TNd.pre).Nodup
 ok:∀n∈l,n.Ok
 row:∀n∈l,∃es s,rep p fuel (rowK n.pre)=(0,es,some s)/\n.may=ofN s.all
 todo:∀n∈l,∀i,n.todo.testBit i=true->n.may.testBit i=true
theorem Zmi(p:Pg)(fuel:Int):TrOk p fuel []:=⟨by simp,by simp,by simp,by simp⟩
theorem TrOk.set{p:Pg}{fuel:Int}{l:List TNd}(h:TrOk p fuel l){i:Nat}(hi:i<l.length){n:TNd}(e:n.pre=l[i].pre)(em:n.may=l[i].may)(hn:n.Ok)(ht:∀i,n.todo.testBit i=true->n.may.testBit i=true):TrOk p fuel (l.set i n):=by
 have hm:l[i]∈l:=List.getElem_mem hi
 refine⟨?_,?_,?_,?_⟩
 ·have:(l.set i n).map TNd.pre=l.map TNd.pre:=by
   rw[List.map_set,e]
   apply List.ext_getElem
   ·simp
   ·intro j h1 h2
    rw[List.getElem_set]
    split
    ·rename_i e2;subst e2;simp
    ·rfl
  rw[this];exact h.nodup
 ·intro m hm'
  rcases List.mem_or_eq_of_mem_set hm' with h1|rfl
  ·exact h.ok m h1
  ·exact hn
 ·intro m hm'
  rcases List.mem_or_eq_of_mem_set hm' with h1|rfl
  ·exact h.row m h1
  ·rw[e,em];exact h.row _ hm
 ·intro m hm'
  rcases List.mem_or_eq_of_mem_set hm' with h1|rfl
  ·exact h.todo m h1
  ·exact ht
theorem TrOk.snoc{p:Pg}{fuel:Int}{l:List TNd}(h:TrOk p fuel l){k:Pfx}(hk:idxT l k=none){es:List Ev}{s:St}(hr:rep p fuel (rowK k)=(0,es,some s)){asl:Nat}(ha:asl<256)(own:Int):TrOk p fuel (l++[⟨k,own,ofN s.all,asl,0,0⟩]):=by
 refine⟨?_,?_,?_,?_⟩
 ·rw[List.map_append,List.nodup_append]
  refine⟨h.nodup,by simp,?_⟩
  intro a ha b hb
  simp at hb
  subst hb
  obtain⟨n,hn,rfl⟩:=List.mem_map.1 ha
  exact ZkB hk n hn
 ·intro n hn
  rw[List.mem_append,List.mem_singleton]at hn
  rcases hn with hn|rfl
  ·exact h.ok n hn
  ·exact⟨Zdp _,ha,by simp,by simp⟩
 ·intro n hn
  rw[List.mem_append,List.mem_singleton]at hn
  rcases hn with hn|rfl
  ·exact h.row n hn
  ·exact⟨es,s,hr,rfl⟩
 ·intro n hn
  rw[List.mem_append,List.mem_singleton]at hn
  rcases hn with hn|rfl
  ·exact h.todo n hn
  ·intro i hi;simp at hi
def nd0:TNd:=⟨[],0,0,0,0,0⟩
def ownT(l:List TNd)(k:Pfx):Int:=match idxT l k with
 |none=>-1
 |some i=>(l.getD i nd0).own
def leftT(l:List TNd)(k:Pfx):Nat:=match idxT l k with
 |none=>0
 |some i=>(l.getD i nd0).left
theorem StAt.onlyS{S:Nat->Prop}{w w':World}{b:Nat}{s:St}(h:StAt w b s)(ho:OnlyS S w w')(hs:¬S b):StAt w' b s:=(ho.block b h.lt hs).trans h
theorem OwnN.onlyS{S:Nat->Prop}{w w':World}{B:Nat}{v:Value}{l:List Int}(h:OwnN w B v l)(ho:OnlyS S w w')(hs:∀g,v.ownBlock=some g->¬S g):OwnN w' B v l:=by
 obtain⟨h1,h2|⟨g,cap,cur,h2,h3,h4,h5⟩⟩:=h
 ·exact⟨h1,.inl h2⟩
 ·refine⟨h1,.inr ⟨g,cap,cur,h2,h3,(ho.block g (Array.getElem?_eq_some_iff.1 h4).1 (hs g (by rw[h2];rfl))).trans h4,h5⟩⟩
theorem OwnE.onlyS{S:Nat->Prop}{w w':World}{B:Nat}{v:Value}{l:List Ev}(h:OwnE w B v l)(ho:OnlyS S w w')(hs:∀g,v.ownBlock=some g->¬S g):OwnE w' B v l:=by
 obtain⟨h1,h2|⟨g,cap,cur,h2,h3,h4,h5⟩⟩:=h
 ·exact⟨h1,.inl h2⟩
 ·refine⟨h1,.inr ⟨g,cap,cur,h2,h3,(ho.block g (Array.getElem?_eq_some_iff.1 h4).1 (hs g (by rw[h2];rfl))).trans h4,h5⟩⟩
end Go.Proofs.YtjfmmnhcddckaaaGreat
namespace Go.Proofs.YtjfmmnhcddckaaaGreat
open Go.RowKit Go.Maps
def ptrD:Option Nat->DataW Unit
 |none=>.lit (.int .i64 (-1))
 |some g=>.lit (.int .i64 (g:Int))
theorem Zmy{a b:Option Nat}(h:ptrD a=ptrD b):a=b:=by
 cases a with
 |none=>
  cases b with
  |none=>rfl
  |some g=>unfold ptrD at h;injection h with h;injection h with _ h;omega
 |some f=>
  cases b with
  |none=>unfold ptrD at h;injection h with h;injection h with _ h;omega
  |some g=>unfold ptrD at h;injection h with h;injection h with _ h;rw[Int.ofNat.inj h]
def ptrV(o:Option Nat):Value:=.pointer (o.map fun g=>⟨g,0,none⟩)
def ZgA:Value->Option (DataW Unit × List MemPlace)
 | .pointer none=>some (ptrD none,[])
 | .pointer (some ⟨g,0,none⟩)=>some (ptrD (some g),[])
 |_=>none
theorem ZhM(o:Option Nat):ZgA (ptrV o)=some (ptrD o,[]):=by cases o <;> rfl
theorem Zlp{v:Value}{o:Option Nat}{ps:List MemPlace}(h:ZgA v=some (ptrD o,ps)):v=ptrV o:=by
 unfold ZgA at h
 split at h
 ·injection h with h
  injection h with h _
  rw[<-Zmy h];rfl
 ·injection h with h
  injection h with h _
  rw[<-Zmy h];rfl
 ·cases h
theorem trLaw:Keyed Tryz.prog 9:=string_keyed Tryz.underlying9
theorem trZero(w:World):(zeroValue 187).run Tryz.prog w=.ok (ptrV none) w:=by kernel_rfl
theorem trKey{k:Pfx}(h:k.length<=1000):keyOf Tryz.prog 9 (.string ⟨k.toArray⟩)=some (.string k):=by
 have:=WideMaps.keyOf_string_mk (P:=Tryz.prog) Tryz.underlying9 (s:=⟨k.toArray⟩) (by unfold maxLen;simp[ByteArray.size];omega)
 simpa using this
theorem ZfX{k:TypeId}{R:Value->Option (DataW Unit × List MemPlace)}{b n:Nat}{D:DataW Unit}{w w':World}(h:w.ownsMap Tryz.prog k R b n D)(e:w'.heap[b]?=w.heap[b]?):w'.ownsMap Tryz.prog k R b n D:=by
 obtain⟨es,c,h1,h2⟩:=h
 exact⟨es,c,e.trans h1,h2⟩
def ndA(n:TNd):Array Value:=#[.int .i64 n.own,.int .u8 (n.may:Nat),.int .u8 (n.asl:Nat),.int .u8 (n.todo:Nat),.int .u8 (n.gone:Nat)]
def blkT(l:List TNd)(gs:List Nat)(k:Pfx):Option Nat:=(idxT l k).bind fun i=>gs[i]?
structure TrH where
 b:Nat
 mb:Nat
 a:Option Addr
 cap:Nat
 wc:World
 p:Pg
 fuel:Int
def TrS(h:TrH)(gs:List Nat)(x:Nat):Prop:=x=h.b∨x=h.mb∨x∈gs
def trA(h:TrH)(cl:Int):Array Value:=#[.int .i64 h.p.vars,.int .i64 h.p.mutexes,.slice h.a h.p.threads.length h.cap,.int .i64 h.fuel,.map (some h.mb),.int .i64 cl]
structure TrAt(h:TrH)(w:World)(gs:List Nat)(l:List TNd)(cl:Int):Prop where
 thr:Zaf h.wc h.a h.p.threads
 below:Below h.wc.heap.size h.wc w
 low:∀x,TrS h gs x->h.wc.heap.size<=x
 box:w.heap[h.b]?=some (.cells (trA h cl) 121 (0,0))
 map:∃D,w.ownsMap Tryz.prog 9 ZgA h.mb l.length D/\(∀k,D.atKey (.string k) (ptrD none)=ptrD (blkT l gs k)/\Maps.has D (.string k)=(blkT l gs k).isSome)/\Maps.size D=l.length
 len:gs.length=l.length
 nodup:gs.Nodup
 nodes:∀i (h1:i<l.length) (h2:i<gs.length),w.heap[gs[i]]?=some (.cells (ndA l[i]) 189 (0,0))
 ok:TrOk h.p h.fuel l
 fuel:Zam h.p h.fuel=true
theorem TrAt.thrW{h:TrH}{w:World}{gs:List Nat}{l:List TNd}{cl:Int}(t:TrAt h w gs l cl):Zaf w h.a h.p.threads:=t.thr.later t.below
theorem TrAt.lt{h:TrH}{w:World}{gs:List Nat}{l:List TNd}{cl:Int}(t:TrAt h w gs l cl):∀x,TrS h gs x->x<w.heap.size:=by
 rintro x (rfl|rfl|hx)
 ·exact(Array.getElem?_eq_some_iff.1 t.box).1
 ·obtain⟨D,hD,_⟩:=t.map
  exact hD.lt
 ·obtain⟨i,hi,rfl⟩:=List.getElem_of_mem hx
  exact(Array.getElem?_eq_some_iff.1 (t.nodes i (by have:=t.len;omega) hi)).1
theorem TrAt.keep{h:TrH}{w w':World}{gs:List Nat}{l:List TNd}{cl:Int}(t:TrAt h w gs l cl)(hb:Below h.wc.heap.size w w')(hk:∀x,TrS h gs x->w'.heap[x]?=w.heap[x]?):TrAt h w' gs l cl:=by
 obtain⟨D,hD,h2,h3⟩:=t.map
 exact⟨t.thr,t.below.trans hb,t.low,(hk _ (.inl rfl)).trans t.box,⟨D,ZfX hD (hk _ (.inr (.inl rfl))),h2,h3⟩,t.len,t.nodup,fun i h1 h2=>(hk _ (.inr (.inr (List.getElem_mem h2)))).trans (t.nodes i h1 h2),t.ok,t.fuel⟩
theorem TrAt.later{h:TrH}{w w':World}{gs:List Nat}{l:List TNd}{cl:Int}(t:TrAt h w gs l cl)(hb:Below w.heap.size w w'):TrAt h w' gs l cl:=
 t.keep (hb.mono t.below.size) fun x hx=>hb.block x (t.lt x hx)
theorem TrAt.drew{h:TrH}{w:World}{gs:List Nat}{l:List TNd}{cl:Int}(t:TrAt h w gs l cl):TrAt h w.drew gs l cl:=t.keep (Below.refl _ _).drew fun _ _=>rfl
theorem TrAt.cells{h:TrH}{w:World}{gs:List Nat}{l:List TNd}{cl:Int}(t:TrAt h w gs l cl):w.cell? ⟨h.b,0,none⟩=some (.int .i64 h.p.vars)/\w.cell? ⟨h.b,1,none⟩=some (.int .i64 h.p.mutexes)/\w.cell? ⟨h.b,2,none⟩=some (.slice h.a h.p.threads.length h.cap) /\
  w.cell? ⟨h.b,3,none⟩=some (.int .i64 h.fuel)/\w.cell? ⟨h.b,4,none⟩=some (.map (some h.mb))/\w.cell? ⟨h.b,5,none⟩=some (.int .i64 cl):=
 ⟨by rw[cell_of_row w h.b 0 _ _ _ t.box];rfl,by rw[cell_of_row w h.b 1 _ _ _ t.box];rfl,by rw[cell_of_row w h.b 2 _ _ _ t.box];rfl,by rw[cell_of_row w h.b 3 _ _ _ t.box];rfl,by rw[cell_of_row w h.b 4 _ _ _ t.box];rfl,by rw[cell_of_row w h.b 5 _ _ _ t.box];rfl⟩
theorem TrAt.node{h:TrH}{w:World}{gs:List Nat}{l:List TNd}{cl:Int}(t:TrAt h w gs l cl){i:Nat}(hi:i<l.length):∃hg:i<gs.length,w.cell? ⟨gs[i],0,none⟩=some (.int .i64 l[i].own)/\w.cell? ⟨gs[i],1,none⟩=some (.int .u8 (l[i].may:Nat))/\w.cell? ⟨gs[i],2,none⟩=some (.int .u8 (l[i].asl:Nat)) /\
  w.cell? ⟨gs[i],3,none⟩=some (.int .u8 (l[i].todo:Nat))/\w.cell? ⟨gs[i],4,none⟩=some (.int .u8 (l[i].gone:Nat)):=by
 have hg:i<gs.length:=by have:=t.len;omega
 have hn:=t.nodes i hi hg
 exact⟨hg,by rw[cell_of_row w _ 0 _ _ _ hn];rfl,by rw[cell_of_row w _ 1 _ _ _ hn];rfl,by rw[cell_of_row w _ 2 _ _ _ hn];rfl,by rw[cell_of_row w _ 3 _ _ _ hn];rfl,by rw[cell_of_row w _ 4 _ _ _ hn];rfl⟩
theorem TrAt.look{h:TrH}{w:World}{gs:List Nat}{l:List TNd}{cl:Int}(t:TrAt h w gs l cl){k:Pfx}(hk:k.length<=1000):(Instr.lookup 119 (.map (some h.mb)) (.string ⟨k.toArray⟩) false).run Tryz.prog w=.ok (ptrV (blkT l gs k)) w:=by
 obtain⟨D,hD,h2,_⟩:=t.map
 obtain⟨v,ps,hr,hv⟩:=hD.lookup trLaw Tryz.underlying119 (trZero w) (ZhM none) (trKey hk)
 rw[(h2 k).1]at hv
 rw[hr,Zlp hv]
theorem ZkV{l:List TNd}{gs:List Nat}{k:Pfx}{i:Nat}(h:idxT l k=some i)(hg:i<gs.length):blkT l gs k=some gs[i]:=by
 unfold blkT;rw[h];simp[hg]
theorem Zhc{l:List TNd}{gs:List Nat}{k:Pfx}(h:idxT l k=none):blkT l gs k=none:=by
 unfold blkT;rw[h];rfl
theorem TrAt.put{h:TrH}{w w':World}{gs:List Nat}{l:List TNd}{cl:Int}(t:TrAt h w gs l cl){i:Nat}(hi:i<l.length)(hg:i<gs.length){n:TNd}(e:n.pre=l[i].pre)(em:n.may=l[i].may)(hn:n.Ok)(ht:∀i,n.todo.testBit i=true->n.may.testBit i=true)
  (ho:OnlyS (fun x=>x=gs[i]) w w') (hc:w'.heap[gs[i]]?=some (.cells (ndA n) 189 (0,0))):TrAt h w' gs (l.set i n) cl:=by
 have hbn:gs[i]≠h.b:=by
  intro e2
  have h1:=t.nodes i hi hg
  rw[e2,t.box]at h1
  injection h1 with h1
  injection h1 with h1
  unfold trA ndA at h1
  simp at h1
 have hmn:gs[i]≠h.mb:=by
  intro e2
  have h1:=t.nodes i hi hg
  obtain⟨D,⟨es,c,h3,_⟩,_⟩:=t.map
  rw[e2,h3]at h1
  cases h1
 have hb:Below h.wc.heap.size w w':=ho.below t.below.size fun x hx=>by subst hx;exact t.low _ (.inr (.inr (List.getElem_mem hg)))
 obtain⟨D,hD,h2,h3⟩:=t.map
 refine⟨t.thr,t.below.trans hb,t.low,(ho.block _ (t.lt _ (.inl rfl)) (Ne.symm hbn)).trans t.box,⟨D,?_,?_,?_⟩,?_,t.nodup,?_,t.ok.set hi e em hn ht,t.fuel⟩
 ·rw[List.length_set]
  exact ZfX hD (ho.block _ (t.lt _ (.inr (.inl rfl))) (Ne.symm hmn))
 ·intro k
  have:=h2 k
  unfold blkT at *
  rw[Zi0 hi e]
  exact this
 ·rw[List.length_set];exact h3
 ·rw[List.length_set];exact t.len
 ·intro j h1 h4
  rw[List.length_set]at h1
  rw[List.getElem_set]
  split
  ·rename_i e2;subst e2;exact hc
  ·rename_i e2
   have hne:gs[j]≠gs[i]:=fun e3=>e2 ((List.getElem_inj t.nodup).1 e3).symm
   exact(ho.block _ (t.lt _ (.inr (.inr (List.getElem_mem h4)))) hne).trans (t.nodes j h1 h4)
theorem TrAt.more{h:TrH}{w w':World}{gs:List Nat}{l:List TNd}{cl:Int}(t:TrAt h w gs l cl){n:TNd}{g:Nat}(hg:w.heap.size<=g)(ho:OnlyS (fun x=>x=h.mb) w w')(hc:w'.heap[g]?=some (.cells (ndA n) 189 (0,0)))
  {D:DataW Unit} (hD:w'.ownsMap Tryz.prog 9 ZgA h.mb (l.length+1) D) (h2:∀k,D.atKey (.string k) (ptrD none)=ptrD (if k=n.pre then some g else blkT l gs k)/\Maps.has D (.string k)=(if k=n.pre then some g else blkT l gs k).isSome) (h3:Maps.size D=l.length+1) (hk:idxT l n.pre=none) (ok:TrOk h.p h.fuel (l++[n])):
  TrAt h w' (gs++[g]) (l++[n]) cl:=by
 have hb:Below h.wc.heap.size w w':=ho.below t.below.size fun x hx=>by subst hx;exact t.low _ (.inr (.inl rfl))
 have hbm:h.b≠h.mb:=by
  intro e
  have h1:=t.box
  obtain⟨D,⟨es,c,h3,_⟩,_⟩:=t.map
  rw[e,h3]at h1
  cases h1
 have hln:=t.len
 refine⟨t.thr,t.below.trans hb,?_,(ho.block _ (t.lt _ (.inl rfl)) hbm).trans t.box,⟨D,?_,?_,?_⟩,?_,?_,?_,ok,t.fuel⟩
 ·rintro x (hx|hx|hx)
  ·exact t.low x (.inl hx)
  ·exact t.low x (.inr (.inl hx))
  ·rw[List.mem_append,List.mem_singleton]at hx
   rcases hx with hx|rfl
   ·exact t.low x (.inr (.inr hx))
   ·exact Nat.le_trans t.below.size hg
 ·rw[List.length_append];exact hD
 ·intro k
  have e2:blkT (l++[n]) (gs++[g]) k=if k=n.pre then some g else blkT l gs k:=by
   unfold blkT
   rw[ZkA hk]
   by_cases e:k=n.pre
   ·rw[if_pos e,if_pos e]
    simp[<-hln]
   ·rw[if_neg e,if_neg e]
    cases hi:idxT l k with
    |none=>rfl
    |some i=>
     obtain⟨hi2,_⟩:=Za0 hi
     simp only[Option.bind_some]
     rw[List.getElem?_append_left (by omega)]
  rw[e2]
  exact h2 k
 ·rw[List.length_append];exact h3
 ·rw[List.length_append,List.length_append,hln];rfl
 ·rw[List.nodup_append]
  refine⟨t.nodup,by simp,?_⟩
  intro a ha b hb e
  simp at hb
  subst hb e
  have:=t.lt a (.inr (.inr ha))
  omega
 ·intro i h1 h4
  rw[List.length_append]at h1 h4
  simp only[List.length_singleton]at h1 h4
  by_cases e:i<l.length
  ·rw[List.getElem_append_left (by omega),List.getElem_append_left e]
   have hmn:gs[i]'(by omega)≠h.mb:=by
    intro e2
    have h1:=t.nodes i e (by omega)
    obtain⟨D,⟨es,c,h3,_⟩,_⟩:=t.map
    rw[e2,h3]at h1
    cases h1
   exact(ho.block _ (t.lt _ (.inr (.inr (List.getElem_mem _)))) hmn).trans (t.nodes i e (by omega))
  ·obtain rfl:i=l.length:=by omega
   simp only[<-hln]
   rw[List.getElem_append_right (by omega),List.getElem_append_right (by omega)]
   simpa using hc
theorem TrAt.count{h:TrH}{w w':World}{gs:List Nat}{l:List TNd}{cl cl':Int}(t:TrAt h w gs l cl)(ho:OnlyS (fun x=>x=h.b) w w')(hc:w'.heap[h.b]?=some (.cells (trA h cl') 121 (0,0))):TrAt h w' gs l cl':=by
 have hb:Below h.wc.heap.size w w':=ho.below t.below.size fun x hx=>by subst hx;exact t.low _ (.inl rfl)
 have hbm:h.b≠h.mb:=by
  intro e
  have h1:=t.box
  obtain⟨D,⟨es,c,h3,_⟩,_⟩:=t.map
  rw[e,h3]at h1
  cases h1
 obtain⟨D,hD,h2,h3⟩:=t.map
 refine⟨t.thr,t.below.trans hb,t.low,hc,⟨D,ZfX hD (ho.block _ (t.lt _ (.inr (.inl rfl))) (Ne.symm hbm)),h2,h3⟩,t.len,t.nodup,fun i h1 h2=>?_,t.ok,t.fuel⟩
 have hbn:gs[i]≠h.b:=by
  intro e2
  have h1:=t.nodes i h1 h2
  rw[e2,t.box]at h1
  injection h1 with h1
  injection h1 with h1
  unfold trA ndA at h1
  simp at h1
 exact(ho.block _ (t.lt _ (.inr (.inr (List.getElem_mem h2)))) hbn).trans (t.nodes i h1 h2)
end Go.Proofs.YtjfmmnhcddckaaaGreat
namespace Go.Proofs.YtjfmmnhcddckaaaGreat
open Go.RowKit
theorem ZbG{P:Program}(t e:TypeId)(z:Value)(k bytes:Nat)(ht:P.underlying t=some (.slice e))(hinfo:(P.info? e).map (fun i=>(i.zero,i.size,i.bytes))=some (some z,k,bytes))
  (n:Nat) (hbytes:bytes*n<=281474976710656) (h63:n<=9223372036854775807) (w:World):
  (Instr.makeSlice t (.int .i64 (n:Int)) (.int .i64 (n:Int))).run P w=.ok (.slice (some ⟨w.heap.size,0,none⟩) n n) (w.alloc (.cells (madeCells z.cells (n*k)) e)):=by
 obtain⟨i,hi,hzz⟩:=Option.map_eq_some_iff.1 hinfo
 simp only[Prod.mk.injEq]at hzz
 obtain⟨hz,hs,hb⟩:=hzz
 have hb':(i.bytes:Int)*(n:Int)<=281474976710656:=by
  rw[hb,<-Int.natCast_mul];omega
 have h:=run_make (P:=P) w t e i z ht hi hz .i64 .i64 n n (by omega) (by omega) hb' (by omega)
 rw[hs]at h
 simpa using h
def MidAt(w:World)(g:Nat)(t:TypeId)(xs:List Value):Prop:=w.heap[g]?=some (.cells xs.toArray t (0,0))
theorem MidAt.lt{w:World}{g:Nat}{t:TypeId}{xs:List Value}(h:MidAt w g t xs):g<w.heap.size:=(Array.getElem?_eq_some_iff.1 h).1
theorem MidAt.later{w w':World}{g:Nat}{t:TypeId}{xs:List Value}(h:MidAt w g t xs)(hb:Below w.heap.size w w'):MidAt w' g t xs:=(hb.block g h.lt).trans h
theorem MidAt.cell{w:World}{g:Nat}{t:TypeId}{xs:List Value}(h:MidAt w g t xs)(j:Nat):w.cell? ⟨g,j,none⟩=xs[j]?:=by
 simp[World.cell?,show w.heap[g]?=_ from h]
theorem MidAt.frozen{w:World}{g:Nat}{t:TypeId}{xs:List Value}(h:MidAt w g t xs)(j:Nat):w.frozen? ⟨g,j,none⟩=false:=by
 simp[World.frozen?,show w.heap[g]?=_ from h]
theorem MidAt.set{w:World}{g:Nat}{t:TypeId}{xs:List Value}(h:MidAt w g t xs)(j:Nat)(v:Value):MidAt (w.setCell ⟨g,j,none⟩ v) g t (xs.set j v):=by
 have:=heap_setCell_same w g j _ _ v h
 unfold MidAt
 rw[this]
 simp
theorem MidAt.made(w:World)(t:TypeId)(z:Value)(n:Nat):MidAt (w.alloc (.cells (madeCells #[z] n) t)) w.heap.size t (List.replicate n z):=by
 have:=heap_alloc_new w (.cells (madeCells #[z] n) t)
 unfold MidAt
 rw[this]
 simp[madeCells]
 apply Array.ext <;> simp[Nat.mod_one]
def fill{T:Type}(f:T->Value)(z:Value)(l:List T)(k:Nat):List Value:=(l.take k).map f++List.replicate (l.length-k) z
theorem ZgX{T:Type}(f:T->Value)(z:Value)(l:List T):fill f z l 0=List.replicate l.length z:=by simp[fill]
theorem Zi5{T:Type}(f:T->Value)(z:Value)(l:List T):fill f z l l.length=l.map f:=by simp[fill]
theorem ZlZ{T:Type}(f:T->Value)(z:Value)(l:List T)(k:Nat)(h:k<=l.length):(fill f z l k).length=l.length:=by simp[fill];omega
theorem Zi4{T:Type}(f:T->Value)(z:Value)(l:List T)(k:Nat)(h:k<l.length):(fill f z l k).set k (f l[k])=fill f z l (k+1):=by
 unfold fill
 have e:k-((l.take k).map f).length=0:=by simp;omega
 rw[List.set_append_right _ _ (by simp;omega),e,List.take_succ_eq_append_getElem h,show l.length-k=(l.length-(k+1))+1 by omega,List.replicate_succ,List.map_append,List.append_assoc]
 rfl
theorem MidAt.nums{w:World}{g:Nat}{t:TypeId}{ns:List Int}(h:MidAt w g t (ns.map (Value.int .i64)))(hm:ns.length<=1000000):ZcG w (some ⟨g,0,none⟩) ns:=by
 refine⟨by unfold maxLen;omega,fun _=>⟨g,0,rfl,fun i hi=>?_⟩⟩
 rw[Nat.zero_add,h.cell]
 simp[hi]
theorem Zd9{h:TrH}{w:World}{gs:List Nat}{l:List TNd}{cl:Int}(t:TrAt h w gs l cl){k:Pfx}(hk:k.length<=1000){i:Nat}(hi:idxT l k=some i)(hg:i<gs.length):
  Calls Tryz.prog 115 #[.pointer (some ⟨h.b,0,none⟩),.string ⟨k.toArray⟩] w fun r w'=>r=.returned (.tuple #[.pointer (some ⟨gs[i],0,none⟩),.int .i64 0])/\w=w':=by
 have hlk:=t.look hk
 rw[ZkV hi hg]at hlk
 obtain⟨_,_,_,_,c4,_⟩:=t.cells
 have hv:ptrV (some gs[i])=.pointer (some ⟨gs[i],0,none⟩):=rfl
 rw[hv]at hlk
 clear hv t hi
 generalize gs[i]=g at *
 go_enter Tryz.func115,Tryz.ntmps115
 go_wp2
 go_ret2
 exact⟨rfl,rfl⟩
theorem Zfo{h:TrH}{w:World}{gs:List Nat}{l:List TNd}{cl:Int}(t:TrAt h w gs l cl){k:Pfx}(hk:k.length<=1000)(hi:idxT l k=none):
  Calls Tryz.prog 115 #[.pointer (some ⟨h.b,0,none⟩),.string ⟨k.toArray⟩] w fun r w'=>r=.returned (.tuple #[.pointer none,.int .i64 6])/\w=w':=by
 have hlk:=t.look hk
 rw[Zhc hi]at hlk
 obtain⟨_,_,_,_,c4,_⟩:=t.cells
 have hv:ptrV none=.pointer none:=rfl
 rw[hv]at hlk
 clear hv t hi
 go_enter Tryz.func115,Tryz.ntmps115
 go_wp2
 go_ret2
 exact⟨rfl,rfl⟩
theorem left_any{g:Nat}{n:TNd}(hn:n.Ok){w:World}(c2:w.cell? ⟨g,2,none⟩=some (.int .u8 (n.asl:Nat)))(c3:w.cell? ⟨g,3,none⟩=some (.int .u8 (n.todo:Nat)))(c4:w.cell? ⟨g,4,none⟩=some (.int .u8 (n.gone:Nat))):
  Calls Tryz.prog 129 #[.pointer (some ⟨g,0,none⟩)] w fun r w'=>r=.returned (.int .u8 (n.left:Nat))/\Below w.heap.size w w':=by
 have HQ1:Hid (bits .andNot .u8 (n.todo:Int) (n.gone:Int)=((wo n.todo n.gone:Nat):Int)):=Zb2 _ _ hn.todo hn.gone
 have HQ2:Hid (bits .andNot .u8 ((wo n.todo n.gone:Nat):Int) (n.asl:Int)=((wo (wo n.todo n.gone) n.asl:Nat):Int)):=Zb2 _ _ (wo_lt _ _ hn.todo) hn.asl
 clear hn
 go_enter Tryz.func129,Tryz.ntmps129
 go_wp2
 go_quiet (fail)
 go_wp2
 go_ret
 exact⟨by rw[HQ1.out,HQ2.out];rfl,(Below.refl _ _).drewN⟩
theorem Zja(l:List UInt8)(j:Nat):(⟨l.toArray⟩:ByteArray).extract 0 j=⟨(l.take j).toArray⟩:=by
 apply ByteArray.ext
 rw[ByteArray.data_extract]
 simp[List.extract_eq_take_drop]
theorem ZkI{T:Type}(f:T->Value)(z:Value)(l:List T)(j:Nat)(h:j<l.length):(fill f z l j)[j]?=some z:=by
 unfold fill
 rw[List.getElem?_append_right (by simp;omega),List.getElem?_replicate,if_pos (by simp;omega)]
def stepF(c:UInt8):Value:=.int .i64 (c.toNat:Int)
theorem ZjE(k:Pfx):k.map stepF=(rowK k).map (Value.int .i64):=by
 unfold rowK stepF
 rw[List.map_map]
 rfl
theorem steps_long(k:Pfx)(w:World)(hk:k.length<=1000)(h33:33<k.length):
  Calls Tryz.prog 104 #[.string ⟨k.toArray⟩] w fun r w'=>∃g n:Nat,r=.returned (.slice (some ⟨g,0,none⟩) n n)/\n=((rowK k).take 33).length/\w.heap.size<=g/\ZcG w' (some ⟨g,0,none⟩) ((rowK k).take 33)/\Below w.heap.size w w':=by
 obtain⟨q,hq⟩:∃q,q=k.take 33:=⟨_,rfl⟩
 have hsz:(⟨k.toArray⟩:ByteArray).size=k.length:=by simp[ByteArray.size]
 have hql:q.length=33:=by rw[hq,List.length_take];omega
 have hx1:(⟨k.toArray⟩:ByteArray).extract 0 33=⟨q.toArray⟩:=by rw[Zja,hq]
 have HR:Hid ((rowK k).take 33=rowK q):=by
  show _=_
  rw[hq,<-Zgr]
 have hqs:(⟨q.toArray⟩:ByteArray).size=33:=by rw[<-hql];simp[ByteArray.size]
 have hmk:∀W:World,(Instr.makeSlice 108 (.int .i64 33) (.int .i64 33)).run Tryz.prog W=.ok (.slice (some ⟨W.heap.size,0,none⟩) 33 33) (W.alloc (.cells (madeCells (Value.int .i64 0).cells (33*1)) 3)):=ZbG (P:=Tryz.prog) 108 3 (.int .i64 0) 1 8 Tryz.underlying108 (by kernel_rfl) 33 (by omega) (by omega)
 have HQL:=Lib.hid hql
 have HQ9:Hid (∀j (h:j<q.length) (h':j<(⟨q.toArray⟩:ByteArray).size),(⟨q.toArray⟩:ByteArray)[j]=q[j]'h):=fun j h h'=>rfl
 have h33i:(33:Int)<k.length:=by omega
 have hql33:List.length q=33:=hql
 clear hq
 go_enter Tryz.func104,Tryz.ntmps104
 go_wp2
 go_loopw [15] (fun i wr=>∃j:Nat,j<=33/\i=.int .i64 j/\Hid (MidAt wr w.heap.size 3 (fill stepF (.int .i64 0) q j))/\Below w.heap.size w wr) (fun i _=>33-(intOf i).toNat)
 case atStart=>
  refine⟨0,Nat.zero_le _,rfl,?_,Zaa _ _⟩
  show MidAt _ _ _ _
  rw[ZgX,HQL.out]
  have:=MidAt.made w 3 (.int .i64 0) 33
  simpa using this
 case round=>
  clear hmk
  obtain⟨j,hj,rfl,HM,hb⟩:=hrel
  by_cases hlt:j<33
  ·have hz:=HM.out.lt
   have hqj:j<q.length:=by rw[HQL.out];exact hlt
   have HS:=Lib.hid (Zi4 stepF (.int .i64 0) q j hqj)
   have hix:=HQ9.out j hqj
   have bc:=UInt8.toNat_lt (q[j]'hqj)
   have hfr:=HM.out.frozen j
   have vc:IntKind.i64.wrap ((q[j]'hqj).toNat:Int)=(q[j]'hqj).toNat:=IntWalk.i64_in _ (by omega)
   have HSF:Hid (stepF (q[j]'hqj)=.int .i64 ((q[j]'hqj).toNat:Int)):=rfl
   have hwc:wr.cell? ⟨w.heap.size,j,none⟩=some (.int .i64 0):=by
    rw[HM.out.cell]
    exact ZkI _ _ q j hqj
   have hji:(j:Int)<33:=by omega
   have hji0:(0:Int)<=j:=by omega
   generalize q[j]'hqj=c at *
   clear hqj
   go_wp2
   have hb2:=hb.setCell (p:=⟨w.heap.size,j,none⟩) (Nat.le_refl _) (.int .i64 (c.toNat:Int))
   have HM2:Hid (MidAt (wr.setCell ⟨w.heap.size,j,none⟩ (.int .i64 (c.toNat:Int))) w.heap.size 3 (fill stepF (.int .i64 0) q (j+1))):=by
    show MidAt _ _ _ _
    rw[<-HS.out,HSF.out]
    exact HM.out.set j _
   go_roundw
   case rel=>exact⟨j+1,by omega,by go_num,HM2,hb2⟩
   case measure=>simp[intOf];omega
  ·have hje:j=33:=by omega
   subst hje
   go_wp2
   go_ret
   refine⟨w.heap.size,33,rfl,by rw[HR.out,Zdb,HQL.out],Nat.le_refl _,?_,hb⟩
   rw[HR.out]
   refine MidAt.nums (t:=3) ?_ (by rw[Zdb,HQL.out];omega)
   rw[<-ZjE,<-Zi5 stepF (.int .i64 0) q,HQL.out]
   exact HM.out
theorem Zk9(k:Pfx)(w:World)(hk:k.length<=1000)(h33:¬ 33<k.length):
  Calls Tryz.prog 104 #[.string ⟨k.toArray⟩] w fun r w'=>∃g n:Nat,r=.returned (.slice (some ⟨g,0,none⟩) n n)/\n=((rowK k).take 33).length/\w.heap.size<=g/\ZcG w' (some ⟨g,0,none⟩) ((rowK k).take 33)/\Below w.heap.size w w':=by
 obtain⟨q,hq⟩:∃q,q=k:=⟨_,rfl⟩
 subst hq
 obtain⟨Q,hQ⟩:∃Q:Nat,q.length=Q:=⟨_,rfl⟩
 have hx1:(⟨q.toArray⟩:ByteArray).extract 0 Q=⟨q.toArray⟩:=by rw[Zja,<-hQ,List.take_length]
 have HR:Hid ((rowK q).take 33=rowK q):=by
  show _=_
  rw[List.take_of_length_le]
  rw[Zdb];omega
 have hqs:(⟨q.toArray⟩:ByteArray).size=Q:=by rw[<-hQ];simp[ByteArray.size]
 have hmk:=ZbG (P:=Tryz.prog) 108 3 (.int .i64 0) 1 8 Tryz.underlying108 (by kernel_rfl) Q (by omega) (by omega)
 have HQL:Hid (q.length=Q):=hQ
 have HQ9:Hid (∀j (h:j<q.length) (h':j<(⟨q.toArray⟩:ByteArray).size),(⟨q.toArray⟩:ByteArray)[j]=q[j]'h):=fun j h h'=>rfl
 have h33i:¬(33:Int)<Q:=by omega
 go_enter Tryz.func104,Tryz.ntmps104
 go_wp2
 go_loopw [15] (fun i wr=>∃j:Nat,j<=Q/\i=.int .i64 j/\Hid (MidAt wr w.heap.size 3 (fill stepF (.int .i64 0) q j))/\Below w.heap.size w wr) (fun i _=>Q-(intOf i).toNat)
 case atStart=>
  refine⟨0,Nat.zero_le _,rfl,?_,Zaa _ _⟩
  show MidAt _ _ _ _
  rw[ZgX,HQL.out]
  have:=MidAt.made w 3 (.int .i64 0) Q
  simpa using this
 case round=>
  clear hmk
  obtain⟨j,hj,rfl,HM,hb⟩:=hrel
  by_cases hlt:j<Q
  ·have hz:=HM.out.lt
   have hqj:j<q.length:=by rw[HQL.out];exact hlt
   have HS:=Lib.hid (Zi4 stepF (.int .i64 0) q j hqj)
   have hix:=HQ9.out j hqj
   have bc:=UInt8.toNat_lt (q[j]'hqj)
   have hfr:=HM.out.frozen j
   have vc:IntKind.i64.wrap ((q[j]'hqj).toNat:Int)=(q[j]'hqj).toNat:=IntWalk.i64_in _ (by omega)
   have HSF:Hid (stepF (q[j]'hqj)=.int .i64 ((q[j]'hqj).toNat:Int)):=rfl
   have hwc:wr.cell? ⟨w.heap.size,j,none⟩=some (.int .i64 0):=by
    rw[HM.out.cell]
    exact ZkI _ _ q j hqj
   have hji:(j:Int)<(Q:Int):=by omega
   have hji0:(0:Int)<=j:=by omega
   generalize q[j]'hqj=c at *
   clear hqj
   go_wp2
   have hb2:=hb.setCell (p:=⟨w.heap.size,j,none⟩) (Nat.le_refl _) (.int .i64 (c.toNat:Int))
   have HM2:Hid (MidAt (wr.setCell ⟨w.heap.size,j,none⟩ (.int .i64 (c.toNat:Int))) w.heap.size 3 (fill stepF (.int .i64 0) q (j+1))):=by
    show MidAt _ _ _ _
    rw[<-HS.out,HSF.out]
    exact HM.out.set j _
   go_roundw
   case rel=>exact⟨j+1,by omega,by go_num,HM2,hb2⟩
   case measure=>simp[intOf];omega
  ·have hje:j=Q:=by omega
   subst hje
   go_wp2
   go_ret
   refine⟨w.heap.size,j,rfl,by rw[HR.out,Zdb,HQL.out],Nat.le_refl _,?_,hb⟩
   rw[HR.out]
   refine MidAt.nums (t:=3) ?_ (by rw[Zdb,HQL.out];omega)
   rw[<-ZjE,<-Zi5 stepF (.int .i64 0) q,HQL.out]
   exact HM.out
theorem ZjA(k:Pfx)(w:World)(hk:k.length<=1000):
  Calls Tryz.prog 104 #[.string ⟨k.toArray⟩] w fun r w'=>∃g n:Nat,r=.returned (.slice (some ⟨g,0,none⟩) n n)/\n=((rowK k).take 33).length/\w.heap.size<=g/\ZcG w' (some ⟨g,0,none⟩) ((rowK k).take 33)/\Below w.heap.size w w':=by
 by_cases h:33<k.length
 ·exact steps_long k w hk h
 ·exact Zk9 k w hk h
theorem Zms(p:Pg)(a:Option Addr)(cap:Nat)(fuel:Int)(ra:Option Addr)(rcap:Nat)(row:List Int)(w:World)(hp:Zaf w a p.threads)(hrow:ZcG w ra row)(hr1000:row.length<=1000)(n:Nat)(hn:n=row.length):
  Calls Tryz.prog 103 #[.agg #[.int .i64 p.vars,.int .i64 p.mutexes,.slice a p.threads.length cap],.int .i64 fuel,.slice ra n rcap] w (ZdU p fuel row w):=by
 subst hn
 exact replay_any p a cap fuel ra rcap row w hp hrow hr1000
theorem replay_err(p:Pg)(a:Option Addr)(cap:Nat)(fuel:Int)(ra:Option Addr)(rcap:Nat)(row:List Int)(w:World)(hp:Zaf w a p.threads)(hrow:ZcG w ra row)(hr1000:row.length<=1000)(n:Nat)(hn:n=row.length){e:Int}{es:List Ev}(hr:rep p fuel row=(e,es,none)):
  Calls Tryz.prog 103 #[.agg #[.int .i64 p.vars,.int .i64 p.mutexes,.slice a p.threads.length cap],.int .i64 fuel,.slice ra n rcap] w fun r w'=>r=.returned (.tuple #[.pointer none,.slice none 0 0,.int .i64 e])/\Below w.heap.size w w':=
 (Zms p a cap fuel ra rcap row w hp hrow hr1000 n hn).mono fun r w' h=>by
  unfold ZdU at h
  rw[hr]at h
  exact⟨h.2,h.1⟩
theorem replay_ok(p:Pg)(a:Option Addr)(cap:Nat)(fuel:Int)(ra:Option Addr)(rcap:Nat)(row:List Int)(w:World)(hp:Zaf w a p.threads)(hrow:ZcG w ra row)(hr1000:row.length<=1000)(n:Nat)(hn:n=row.length){e:Int}{es:List Ev}{s:St}(hr:rep p fuel row=(e,es,some s)):
  Calls Tryz.prog 103 #[.agg #[.int .i64 p.vars,.int .i64 p.mutexes,.slice a p.threads.length cap],.int .i64 fuel,.slice ra n rcap] w fun r w'=>∃g v,r=.returned (.tuple #[.pointer (some ⟨g,0,none⟩),v,.int .i64 0])/\w.heap.size<=g/\StAt w' g s/\s.Ok fuel.toNat/\OwnE w' w.heap.size v es/\Below w.heap.size w w':=
 (Zms p a cap fuel ra rcap row w hp hrow hr1000 n hn).mono fun r w' h=>by
  unfold ZdU at h
  rw[hr]at h
  obtain⟨h1,g,v,h2,h3,h4,h5,h6⟩:=h
  exact⟨g,v,h2,h3,h4,h5,h6,h1⟩
theorem at_err{h:TrH}{w:World}{gs:List Nat}{l:List TNd}{cl:Int}(t:TrAt h w gs l cl){k:Pfx}(hk:k.length<=1000){e:Int}{es:List Ev}(hr:rep h.p h.fuel (rowK k)=(e,es,none)):
  Calls Tryz.prog 65 #[.pointer (some ⟨h.b,0,none⟩),.string ⟨k.toArray⟩] w fun r w'=>r=.returned (.tuple #[.pointer none,.slice none 0 0,.int .i64 e])/\Below w.heap.size w w':=by
 have HT:=Lib.hid t
 have HRC:Hid (rep h.p h.fuel ((rowK k).take 33)=rep h.p h.fuel (rowK k)):=Zld _ _ _
 have HCC:Hid (∀W,Below w.heap.size w W->W.cell? ⟨h.b,0,none⟩=some (.int .i64 h.p.vars)/\W.cell? ⟨h.b,1,none⟩=some (.int .i64 h.p.mutexes)/\W.cell? ⟨h.b,2,none⟩=some (.slice h.a h.p.threads.length h.cap)/\W.cell? ⟨h.b,3,none⟩=some (.int .i64 h.fuel)):=fun W hb=>by
  obtain⟨c0,c1,c2,c3,_⟩:=(t.later hb).cells
  exact⟨c0,c1,c2,c3⟩
 have HTH:Hid (∀W,Below w.heap.size w W->Zaf W h.a h.p.threads):=fun W hb=>(t.later hb).thrW
 have hB0:Below w.heap.size w w.drew:=(Below.refl _ _).drew
 have HRP:=Lib.hid hr
 clear t hr
 go_enter Tryz.func65,Tryz.ntmps65
 go_wp2
 go_region_held3 (fun W=>W.cell? ⟨h.b,0,none⟩=some (.int .i64 h.p.vars)/\W.cell? ⟨h.b,1,none⟩=some (.int .i64 h.p.mutexes)/\W.cell? ⟨h.b,2,none⟩=some (.slice h.a h.p.threads.length h.cap)/\W.cell? ⟨h.b,3,none⟩=some (.int .i64 h.fuel))
  (first|with_reducible exact HCC.out _ hB0|with_reducible exact HCC.out _ hB1|with_reducible exact HCC.out _ hB2)
  (first
   |(go_at_call 104;((with_reducible refine(ZjA k w.drew hk).mono ?_);rintro r w1⟨g,n,rfl,hn,hg,hrow,hb1⟩;have HN:=Lib.hid hn;clear hn;have hB1:Below w.heap.size w w1:=Below.trans hB0 hb1;have HRW:=Lib.hid hrow;have HN33:Hid (((rowK k).take 33).length<=1000):=by(show _<=_;rw[List.length_take];omega)))
   |(go_at_call 103;((with_reducible refine(replay_err h.p h.a h.cap h.fuel (some ⟨g,0,none⟩) n ((rowK k).take 33) w1 (HTH.out _ hB1) HRW.out HN33.out n HN.out (HRC.out.trans HRP.out)).mono ?_);rintro r w2⟨rfl,hb2⟩;have hB2:Below w.heap.size w w2:=hB1.trans (hb2.mono hB1.size))))
 go_wp2
 refine bodyPost_ret (v:=.tuple #[.pointer none,.slice none 0 0,.int .i64 e]) (by simp[results,Tryz.results65,go_sem]) rfl ?_
 exact⟨rfl,hB2⟩
theorem at_ok{h:TrH}{w:World}{gs:List Nat}{l:List TNd}{cl:Int}(t:TrAt h w gs l cl){k:Pfx}(hk:k.length<=1000){e:Int}{es:List Ev}{s:St}(hr:rep h.p h.fuel (rowK k)=(e,es,some s)):
  Calls Tryz.prog 65 #[.pointer (some ⟨h.b,0,none⟩),.string ⟨k.toArray⟩] w fun r w'=>∃g v,r=.returned (.tuple #[.pointer (some ⟨g,0,none⟩),v,.int .i64 0])/\w.heap.size<=g/\StAt w' g s/\s.Ok h.fuel.toNat/\OwnE w' w.heap.size v es/\Below w.heap.size w w':=by
 have HT:=Lib.hid t
 have HRC:Hid (rep h.p h.fuel ((rowK k).take 33)=rep h.p h.fuel (rowK k)):=Zld _ _ _
 have HCC:Hid (∀W,Below w.heap.size w W->W.cell? ⟨h.b,0,none⟩=some (.int .i64 h.p.vars)/\W.cell? ⟨h.b,1,none⟩=some (.int .i64 h.p.mutexes)/\W.cell? ⟨h.b,2,none⟩=some (.slice h.a h.p.threads.length h.cap)/\W.cell? ⟨h.b,3,none⟩=some (.int .i64 h.fuel)):=fun W hb=>by
  obtain⟨c0,c1,c2,c3,_⟩:=(t.later hb).cells
  exact⟨c0,c1,c2,c3⟩
 have HTH:Hid (∀W,Below w.heap.size w W->Zaf W h.a h.p.threads):=fun W hb=>(t.later hb).thrW
 have hB0:Below w.heap.size w w.drew:=(Below.refl _ _).drew
 have HRP:=Lib.hid hr
 clear t hr
 go_enter Tryz.func65,Tryz.ntmps65
 go_wp2
 go_region_held3 (fun W=>W.cell? ⟨h.b,0,none⟩=some (.int .i64 h.p.vars)/\W.cell? ⟨h.b,1,none⟩=some (.int .i64 h.p.mutexes)/\W.cell? ⟨h.b,2,none⟩=some (.slice h.a h.p.threads.length h.cap)/\W.cell? ⟨h.b,3,none⟩=some (.int .i64 h.fuel))
  (first|with_reducible exact HCC.out _ hB0|with_reducible exact HCC.out _ hB1|with_reducible exact HCC.out _ hB2)
  (first
   |(go_at_call 104;((with_reducible refine(ZjA k w.drew hk).mono ?_);rintro r w1⟨g,n,rfl,hn,hg,hrow,hb1⟩;have HN:=Lib.hid hn;clear hn;have hB1:Below w.heap.size w w1:=Below.trans hB0 hb1;have HRW:=Lib.hid hrow;have HN33:Hid (((rowK k).take 33).length<=1000):=by(show _<=_;rw[List.length_take];omega)))
   |(go_at_call 103;((with_reducible refine(replay_ok h.p h.a h.cap h.fuel (some ⟨g,0,none⟩) n ((rowK k).take 33) w1 (HTH.out _ hB1) HRW.out HN33.out n HN.out (HRC.out.trans HRP.out)).mono ?_);rintro r w2⟨g2,v2,rfl,hg2,hs2,hok2,hown2,hb2⟩;have hB2:Below w.heap.size w w2:=hB1.trans (hb2.mono hB1.size);have HG2:=Lib.hid (And.intro hg2 (And.intro hs2 (And.intro hok2 hown2)));clear hg2 hs2 hok2 hown2)))
 go_wp2
 refine bodyPost_ret (v:=.tuple #[.pointer (some ⟨g2,0,none⟩),v2,.int .i64 0]) (by simp[results,Tryz.results65,go_sem]) rfl ?_
 have hz:=hB1.size
 exact⟨g2,v2,rfl,by have:=HG2.out.1;omega,HG2.out.2.1,HG2.out.2.2.1,Zj9 HG2.out.2.2.2 hz,hB2⟩
end Go.Proofs.YtjfmmnhcddckaaaGreat
