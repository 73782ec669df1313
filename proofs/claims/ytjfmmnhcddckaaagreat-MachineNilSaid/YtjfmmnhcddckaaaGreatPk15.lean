import Derived.Deep.RegionHeld3
import Derived.Deep.DeepCutAuto
import Derived.Test.YtjfmmnhcddckaaaGreatPk02
import Derived.Test.YtjfmmnhcddckaaaGreatPk03
import Derived.Test.YtjfmmnhcddckaaaGreatPk04
import Derived.Test.YtjfmmnhcddckaaaGreatPk07
import Derived.Test.YtjfmmnhcddckaaaGreatPk08
import Derived.Test.YtjfmmnhcddckaaaGreatPk10
import Derived.Test.YtjfmmnhcddckaaaGreatPk14
set_option maxRecDepth 100000
set_option maxHeartbeats 40000000
namespace Go.Proofs.YtjfmmnhcddckaaaGreat
open Go.RowKit
section
variable{F:Nat}{w:World}{b tb:Nat}{a:Option Addr}{cap tcap:Nat}{s:St}
theorem ZbE(h:RefAt w b tb a cap tcap s)(hth:Zaf w a s.p.threads)(ok:s.Ok F)(t:Int):
  Calls Tryz.prog 59 #[.pointer (some ⟨b,0,none⟩),.int .i64 t] w fun r w'=>r=.returned (evR (s.next t))/\Below w.heap.size w w':=by
 have h4:=ok.len4
 cases hi:s.ins t with
 |none=>
  have hn:s.next t=none:=by unfold St.next;rw[hi];rfl
  rw[hn,Zdl]
  by_cases ht0:t<0
  ·exact Zlg h t ht0
  by_cases hk0:(s.ts.length:Int)<=t
  ·exact Zlf h t ht0 hk0
  obtain⟨k,rfl⟩:∃k:Nat,t=k:=⟨t.toNat,by omega⟩
  have hk':k<s.ts.length:=by omega
  by_cases hf:(s.th k).fuel=0
  ·exact Zli h k h4 hk' hf
  ·have hpl:=ok.place k hk'
   refine Zlh h hth ok k hk' hf ?_
   unfold St.ins at hi
   rw[if_pos ⟨⟨by omega,by omega⟩,by simpa using hf⟩]at hi
   simp only[Int.toNat_natCast]at hi
   have:=List.getElem?_eq_none_iff.1 hi
   omega
 |some i=>
  obtain⟨k,rfl,hk⟩:=St.ins_nat hi
  have hn:s.next k=some (s.ev k i):=by unfold St.next;rw[hi];rfl
  obtain⟨o1,o2,o3,o4,o5,o6⟩:=ok.obj hi
  rw[hn,Zcg]
  by_cases h1:i.kind=1
  ·have:=refNext_1 h hth ok k i hi h1
   simpa [St.ev,h1]using this
  by_cases h2:i.kind=2
  ·have:=refNext_2 h hth ok k i hi h2
   simpa [St.ev,h1,h2]using this
  by_cases h5:i.kind=5
  ·have:=refNext_5 h hth ok k i hi h5
   simpa [St.ev,h1,h2,h5]using this
  by_cases h6:i.kind=6
  ·obtain⟨y,hy⟩:∃y:Nat,i.x=y:=⟨i.x.toNat,by have:=o2 (.inr h6);omega⟩
   have hy2:y<2:=by have:=o2 (.inr h6);omega
   by_cases hw:s.who y=k
   ·have:=refNext_6 h hth ok k i hi h6 y hy hy2 hw
    have e:s.ev k i=⟨k,5,i.x,false⟩:=by
     unfold St.ev
     rw[if_neg h1,if_neg h2,if_neg h5,if_pos h6,hy,if_pos hw]
    rw[e]
    exact this
   ·have:=refNext_6b h hth ok k i hi h6 y hy hy2 hw
    have e:s.ev k i=⟨k,1,0,true⟩:=by
     unfold St.ev
     rw[if_neg h1,if_neg h2,if_neg h5,if_pos h6,hy,if_neg hw]
    rw[e]
    exact this
  by_cases h8:i.kind=8
  ·obtain⟨y,hy⟩:∃y:Nat,i.r=y:=⟨i.r.toNat,by omega⟩
   have:=refNext_8 h hth ok k i hi h8 y hy (by omega)
   have e:s.ev k i=⟨k,1,0,(s.th k).r.getD y 0==0⟩:=by
    unfold St.ev
    rw[if_neg h1,if_neg h2,if_neg h5,if_neg h6,if_pos h8]
    unfold St.reg
    rw[hy]
    rfl
   rw[e]
   exact this
  ·have:=refNext_0 h hth ok k i hi h1 h2 h5 h6 h8
   have e:s.ev k i=⟨k,1,0,false⟩:=by
    unfold St.ev
    rw[if_neg h1,if_neg h2,if_neg h5,if_neg h6,if_neg h8]
   rw[e]
   exact this
theorem ZcQ(h:RefAt w b tb a cap tcap s)(hth:Zaf w a s.p.threads)(ok:s.Ok F)(t:Int):
  Calls Tryz.prog 95 #[.pointer (some ⟨b,0,none⟩),.int .i64 t] w fun r w'=>r=.returned (.bool (s.may t))/\Below w.heap.size w w':=by
 have H:=Lib.hid h
 have HT:=Lib.hid hth
 have OK:=Lib.hid ok
 have hb1:=h.lt.1
 clear h hth ok
 cases hn:s.next t with
 |none=>
  have hm:s.may t=false:=by rw[St.may_eq OK.out,hn]
  rw[hm]
  have HN:=Lib.hid hn
  clear hn hm
  go_enter Tryz.func95,Tryz.ntmps95
  go_wp2_with fail
  refine(ZbE H.out HT.out OK.out t).mono ?_
  rw[HN.out,Zdl]
  rintro r w1⟨rfl,hb1⟩
  have hz:=hb1.size
  go_wp2
  go_quiet (fail)
  go_wp2
  go_ret
  exact⟨rfl,(hb1.alloc hz _).drewN⟩
 |some e=>
  have hm:s.may t=s.free e:=by rw[St.may_eq OK.out,hn]
  rw[hm]
  have HN:=Lib.hid hn
  by_cases hk:e.kind=4
  ·obtain⟨ho0,ho2⟩:=next_obj OK.out hn hk
   obtain⟨y,hy⟩:∃y:Nat,e.obj=y:=⟨e.obj.toNat,by omega⟩
   have hy2:y<2:=by omega
   have c9:=H.out.who y hy2
   have hml:=OK.out.ml
   have hmm:=OK.out.mm (s.who y) (by unfold St.who;simp only[Int.toNat_natCast];rw[Zav _ (by omega)];exact List.getElem_mem _)
   have hfr:s.free e=decide (s.who y<0):=by
    unfold St.free
    rw[hk,hy,Bool.eq_iff_iff]
    simp
    omega
   rw[hfr]
   have q4:(e.kind != 4)=false:=by simp[hk]
   clear hn hm hfr ho0 ho2 hml hmm hk
   obtain⟨et,ek,eo,ef⟩:=e
   dsimp only at *
   subst hy
   generalize s.who y=g at *
   go_enter Tryz.func95,Tryz.ntmps95
   go_wp2_with fail
   refine(ZbE H.out HT.out OK.out t).mono ?_
   rw[HN.out,Zcg]
   rintro r w1⟨rfl,hb2⟩
   have hz:=hb2.size
   have c9w:=Zab hb2 c9
   have c9z:=Zan c9w
   dsimp only at c9z
   clear c9
   go_wp2
   go_quiet (fail)
   go_wp2
   go_ret
   exact⟨rfl,(hb2.alloc hz _).drewN⟩
  ·have hfr:s.free e=true:=by unfold St.free;simp[hk]
   rw[hfr]
   have q4:(e.kind != 4)=true:=by simpa using hk
   clear hn hm hfr hk
   go_enter Tryz.func95,Tryz.ntmps95
   go_wp2_with fail
   refine(ZbE H.out HT.out OK.out t).mono ?_
   rw[HN.out,Zcg]
   rintro r w1⟨rfl,hb2⟩
   have hz:=hb2.size
   go_wp2
   go_quiet (fail)
   go_wp2
   go_ret
   exact⟨rfl,(hb2.alloc hz _).drewN⟩
theorem ZhE(h:RefAt w b tb a cap tcap s)(hth:Zaf w a s.p.threads)(ok:s.Ok F):
  Calls Tryz.prog 56 #[.pointer (some ⟨b,0,none⟩)] w fun r w'=>∃v,r=.returned v/\OwnN w' w.heap.size v s.all/\Below w.heap.size w w':=by
 have h4:=ok.len4
 have p1:=h.prog.2
 have hb1:=h.lt.1
 have H:=Lib.hid h
 have HT:=Lib.hid hth
 have OK:=Lib.hid ok
 clear h hth ok
 go_enter Tryz.func56,Tryz.ntmps56
 go_wp2
 go_loopw [3,4] (fun l i wr=>∃k:Nat,k<=s.ts.length/\i=.int .i64 k/\OwnN wr w.heap.size l (s.allTo k)/\Below w.heap.size w wr) (fun _ i _=>s.ts.length-(intOf i).toNat)
 case atStart=>exact⟨0,Nat.zero_le _,rfl,ZeG _ _,Below.refl _ _⟩
 case round=>
  obtain⟨k,hk,rfl,hown,hb⟩:=hrel
  have p1w:=Zab hb p1
  by_cases hlt:k<s.ts.length
  ·have hle:=s.allTo_le k
   have HS:=Lib.hid (s.allTo_succ k)
   go_wp2_with fail
   refine(ZcQ (H.out.later hb) (HT.out.later hb) OK.out k).mono ?_
   rintro r w1⟨rfl,hb1⟩
   have hb2:=hb.trans (hb1.mono hb.size)
   have hown1:=hown.later hb1
   have hz:=hb2.size
   clear hown hb hb1 p1w
   cases hm:s.may k
   ·have HR:Hid (s.allTo (k+1)=s.allTo k):=by
     show _=_
     rw[HS.out,hm];simp
    clear hm
    go_wp2
    go_roundw
    case rel=>exact⟨k+1,by omega,by go_num,by rw[HR.out];exact hown1,hb2⟩
    case measure=>simp[intOf];omega
   ·have HR:Hid (s.allTo (k+1)=s.allTo k++[(k:Int)]):=by
     show _=_
     rw[HS.out,hm];simp
    clear hm
    go_wp2_with (at_builtin;refine ZdV rfl (.tmp 17) (.tmp 19) rfl w.heap.size _ (s.allTo k) rfl (hown1.alloc _) ⟨w1.heap.size,0,none⟩ 1 1 rfl [(k:Int)] rfl (Zf2 w1 [(k:Int)] _ _ rfl) (by simp;omega) (by simp;omega) ?_;intro v1 w2 hown2 hb3 _)
    have hb4:=(hb2.alloc hz _).trans hb3
    go_roundw
    case rel=>exact⟨k+1,by omega,by go_num,by rw[HR.out];exact hown2,hb4⟩
    case measure=>simp[intOf];omega
  ·obtain rfl:k=s.ts.length:=by omega
   go_wp2
   go_ret
   exact⟨_,rfl,hown,hb⟩
end
theorem RefAt.go{w:World}{b tb:Nat}{a:Option Addr}{cap tcap:Nat}{s:St}(h:RefAt w b tb a cap tcap s)(t f n:Nat)(ht:t<s.ts.length)(hf:(s.th t).fuel=f+1)(hn:(s.th t).at_=n):
  RefAt ((w.setCell ⟨tb,t*4+1,none⟩ (.int .i64 f)).setCell ⟨tb,t*4,none⟩ (.int .i64 ((n+1:Nat):Int))) b tb a cap tcap (s.go t):=by
 have h1:=h.setFuel t f ht
 have h2:=h1.setAt t (n+1) (by rw[St.put_len];exact ht)
 rw[St.put_th _ _ _ ht,St.put_put]at h2
 unfold St.go
 rw[hf,hn]
 exact h2
theorem RefAt.other4{w:World}{b tb g:Nat}{a:Option Addr}{cap tcap:Nat}{s:St}(h:RefAt w b tb a cap tcap s)(hb:b≠g)(ht:tb≠g)(v0 v1 v2 v3:Value):
  RefAt ((((w.setCell ⟨g,0,none⟩ v0).setCell ⟨g,1,none⟩ v1).setCell ⟨g,2,none⟩ v2).setCell ⟨g,3,none⟩ v3) b tb a cap tcap s:=
 (((h.other hb ht 0 v0).other hb ht 1 v1).other hb ht 2 v2).other hb ht 3 v3
section
variable{F:Nat}{w:World}{b tb:Nat}{a:Option Addr}{cap tcap:Nat}{s:St}
theorem ZiF(h:RefAt w b tb a cap tcap s)(t:Int)(hb:ZaM t s.ts.length=false):Calls Tryz.prog 61 #[.pointer (some ⟨b,0,none⟩),.int .i64 t] w fun e w'=>e=.returned (stepV (s.step t))/\RefAt w' b tb a cap tcap (s.step t).2.2/\Only2 b tb w w':=by
 have hst:s.step t=(2,ev0,s):=by
  unfold St.step
  rw[if_neg (fun e=>by unfold St.has at e;simp[ZaM]at hb;omega)]
 rw[hst,ZcW]
 have hb':¬(0<=t/\t<s.ts.length):=by simpa [ZaM]using hb
 have p1:=h.prog.2
 have hb1:=h.lt.1
 have HB:=Lib.hid (h.later (Zaa w (.cells #[.int .i64 0,.int .i64 0,.int .i64 0,.bool false] 112)))
 clear hst h hb
 by_cases h0:t<0
 ·have q0:decide (t<0)=true:=by simpa using h0
  clear hb'
  go_enter Tryz.func61,Tryz.ntmps61
  go_wp2
  refine bodyPost_ret (v:=.tuple #[.agg #[.int .i64 0,.int .i64 0,.int .i64 0,.bool false],.int .i64 2]) (by simp[results,Tryz.results61,go_sem]) rfl ⟨rfl,HB.out,?_⟩
  exact(Only2.refl b tb w).alloc _
 ·have q0:decide (t<0)=false:=by simpa using h0
  have q1:decide ((s.ts.length:Int)<=t)=true:=by simp;omega
  clear hb'
  go_enter Tryz.func61,Tryz.ntmps61
  go_wp2
  refine bodyPost_ret (v:=.tuple #[.agg #[.int .i64 0,.int .i64 0,.int .i64 0,.bool false],.int .i64 2]) (by simp[results,Tryz.results61,go_sem]) rfl ⟨rfl,HB.out,?_⟩
  exact(Only2.refl b tb w).alloc _
theorem ZjU(h:RefAt w b tb a cap tcap s)(hth:Zaf w a s.p.threads)(ok:s.Ok F)(t:Nat)(ht:t<s.ts.length)(hi:s.ins t=none):Calls Tryz.prog 61 #[.pointer (some ⟨b,0,none⟩),.int .i64 t] w fun e w'=>e=.returned (stepV (s.step t))/\RefAt w' b tb a cap tcap (s.step t).2.2/\Only2 b tb w w':=by
 have hst:s.step t=(6,ev0,s):=by
  unfold St.step
  rw[if_pos (by unfold St.has;omega),hi]
 have hn:s.next t=none:=by unfold St.next;rw[hi];rfl
 rw[hst,ZcW]
 have p1:=h.prog.2
 have hl:=h.lt
 obtain⟨hb1,hb2⟩:=hl
 have h4:=ok.len4
 have q0:decide ((t:Int)<0)=false:=by simp
 have q1:decide ((s.ts.length:Int)<=t)=false:=by simp;omega
 have q2:decide (s.ts.length<=t)=false:=by simp;omega
 have HB:=Lib.hid (h.later (Zaa w (.cells #[.int .i64 0,.int .i64 0,.int .i64 0,.bool false] 112)))
 have HTH:=Lib.hid (hth.later (Zaa w (.cells #[.int .i64 0,.int .i64 0,.int .i64 0,.bool false] 112)))
 have OK:=Lib.hid ok
 have HN:=Lib.hid hn
 clear hst h hth ok hi hn
 go_enter Tryz.func61,Tryz.ntmps61
 go_wp2_with fail
 refine(ZbE HB.out HTH.out OK.out t).mono ?_
 rw[HN.out,Zdl]
 rintro r w1⟨rfl,hb3⟩
 have hz:w.heap.size<w1.heap.size:=by have:=hb3.size;simp at this;omega
 have hc:∀o,w1.cell? ⟨w.heap.size,o,none⟩=(w.alloc (.cells #[.int .i64 0,.int .i64 0,.int .i64 0,.bool false] 112)).cell? ⟨w.heap.size,o,none⟩:=fun o=>hb3.cell (p:=⟨w.heap.size,o,none⟩) (by simp)
 have hf:∀o,w1.frozen? ⟨w.heap.size,o,none⟩=(w.alloc (.cells #[.int .i64 0,.int .i64 0,.int .i64 0,.bool false] 112)).frozen? ⟨w.heap.size,o,none⟩:=fun o=>hb3.frozen (p:=⟨w.heap.size,o,none⟩) (by simp)
 have H1:=Lib.hid (HB.out.later hb3)
 have B1:Hid (Below w.heap.size w w1):=(Zaa w _).trans (hb3.mono (by simp))
 clear hb3 p1
 go_wp2
 refine bodyPost_ret (v:=.tuple #[.agg #[.int .i64 0,.int .i64 0,.int .i64 0,.bool false],.int .i64 6]) (by simp[results,Tryz.results61,go_sem,hc,hz]) rfl ⟨rfl,?_,?_⟩
 ·exact(H1.out.other4 (by omega) (by omega) _ _ _ _).later (Zaa _ _)
 ·exact((Only2.of_below B1.out).set4 (Nat.le_refl _) _ _ _ _).alloc _
theorem ZiE(h:RefAt w b tb a cap tcap s)(hth:Zaf w a s.p.threads)(ok:s.Ok F)(t:Nat)(i:Ins)(hi:s.ins t=some i)(hm:s.may t=false):Calls Tryz.prog 61 #[.pointer (some ⟨b,0,none⟩),.int .i64 t] w fun e w'=>e=.returned (stepV (s.step t))/\RefAt w' b tb a cap tcap (s.step t).2.2/\Only2 b tb w w':=by
 obtain⟨k,hkk,ht⟩:=St.ins_nat hi
 obtain rfl:t=k:=by omega
 have hst:s.step t=(9,ev0,s):=by
  unfold St.step
  rw[if_pos (by unfold St.has;omega),hi]
  simp only[hm]
  rfl
 have hn:s.next t=some (s.ev t i):=by unfold St.next;rw[hi];rfl
 rw[hst,ZcW]
 obtain⟨e,he⟩:∃e,e=s.ev t i:=⟨_,rfl⟩
 rw[<-he]at hn
 have p1:=h.prog.2
 have hl:=h.lt
 obtain⟨hb1,hb2⟩:=hl
 have h4:=ok.len4
 have q0:decide ((t:Int)<0)=false:=by simp
 have q1:decide ((s.ts.length:Int)<=t)=false:=by simp;omega
 have q2:decide (s.ts.length<=t)=false:=by simp;omega
 have HB:=Lib.hid (h.later (Zaa w (.cells #[.int .i64 0,.int .i64 0,.int .i64 0,.bool false] 112)))
 have HTH:=Lib.hid (hth.later (Zaa w (.cells #[.int .i64 0,.int .i64 0,.int .i64 0,.bool false] 112)))
 have OK:=Lib.hid ok
 have HN:=Lib.hid hn
 have HM:=Lib.hid hm
 clear hst h hth ok hi hn he hkk hm
 go_enter Tryz.func61,Tryz.ntmps61
 go_wp2_with fail
 refine(ZbE HB.out HTH.out OK.out t).mono ?_
 rw[HN.out,Zcg]
 rintro r w1⟨rfl,hb3⟩
 have hz:w.heap.size<w1.heap.size:=by have:=hb3.size;simp at this;omega
 have hc:∀o,w1.cell? ⟨w.heap.size,o,none⟩=(w.alloc (.cells #[.int .i64 0,.int .i64 0,.int .i64 0,.bool false] 112)).cell? ⟨w.heap.size,o,none⟩:=fun o=>hb3.cell (p:=⟨w.heap.size,o,none⟩) (by simp)
 have hf:∀o,w1.frozen? ⟨w.heap.size,o,none⟩=(w.alloc (.cells #[.int .i64 0,.int .i64 0,.int .i64 0,.bool false] 112)).frozen? ⟨w.heap.size,o,none⟩:=fun o=>hb3.frozen (p:=⟨w.heap.size,o,none⟩) (by simp)
 have H1:=Lib.hid ((HB.out.later hb3).later (Zaa w1 (.cells #[.int .i64 e.thread,.int .i64 e.kind,.int .i64 e.obj,.bool e.fail] 112)))
 have T1:=Lib.hid ((HTH.out.later hb3).later (Zaa w1 (.cells #[.int .i64 e.thread,.int .i64 e.kind,.int .i64 e.obj,.bool e.fail] 112)))
 have B1:Hid (Below w.heap.size w w1):=(Zaa w _).trans (hb3.mono (by simp))
 clear hb3 p1
 go_wp2_with fail
 refine(ZcQ H1.out T1.out OK.out t).mono ?_
 rw[HM.out]
 rintro r w2⟨rfl,hb4⟩
 have B2:Hid (Below w1.heap.size w1 w2):=(Zaa w1 _).trans (hb4.mono (by simp))
 have hz2:w.heap.size<w2.heap.size:=by have:=B2.out.size;omega
 have hc2:∀o,w2.cell? ⟨w.heap.size,o,none⟩=w1.cell? ⟨w.heap.size,o,none⟩:=fun o=>B2.out.cell (p:=⟨w.heap.size,o,none⟩) hz
 have hf2:∀o,w2.frozen? ⟨w.heap.size,o,none⟩=w1.frozen? ⟨w.heap.size,o,none⟩:=fun o=>B2.out.frozen (p:=⟨w.heap.size,o,none⟩) hz
 have H2:=Lib.hid (H1.out.later hb4)
 clear hb4
 go_wp2
 refine bodyPost_ret (v:=.tuple #[.agg #[.int .i64 0,.int .i64 0,.int .i64 0,.bool false],.int .i64 9]) (by simp[results,Tryz.results61,go_sem,hc,hc2]) rfl ⟨rfl,?_,?_⟩
 ·exact H2.out.other4 (by omega) (by omega) _ _ _ _
 ·exact(Only2.of_below (B1.out.trans (B2.out.mono (by omega)))).set4 (Nat.le_refl _) _ _ _ _
end
def Zie(w:World)(g:Nat):Prop:=w.heap[g]?=some (.cells #[.int .i64 0,.int .i64 0,.int .i64 0,.bool false] 112 (0,0))
theorem Zie.cells{w:World}{g:Nat}(h:Zie w g):w.cell? ⟨g,0,none⟩=some (.int .i64 0)/\w.cell? ⟨g,1,none⟩=some (.int .i64 0)/\w.cell? ⟨g,2,none⟩=some (.int .i64 0)/\w.cell? ⟨g,3,none⟩=some (.bool false)/\∀o,w.frozen? ⟨g,o,none⟩=false:=by
 simp[World.cell?,World.frozen?,show w.heap[g]?=_ from h]
theorem ev_cells{w:World}{g:Nat}{e:Ev}(h:w.heap[g]?=some (.cells #[.int .i64 e.thread,.int .i64 e.kind,.int .i64 e.obj,.bool e.fail] 112 (0,0))):w.cell? ⟨g,0,none⟩=some (.int .i64 e.thread)/\w.cell? ⟨g,1,none⟩=some (.int .i64 e.kind)/\w.cell? ⟨g,2,none⟩=some (.int .i64 e.obj)/\w.cell? ⟨g,3,none⟩=some (.bool e.fail):=by
 simp[World.cell?,h]
theorem Zky{w:World}{g:Nat}{kd r x m:Int}(h:w.heap[g]?=some (.cells #[.int .i64 kd,.int .i64 r,.int .i64 x,.int .i64 m] 63 (0,0))):w.cell? ⟨g,0,none⟩=some (.int .i64 kd)/\w.cell? ⟨g,1,none⟩=some (.int .i64 r)/\w.cell? ⟨g,2,none⟩=some (.int .i64 x)/\w.cell? ⟨g,3,none⟩=some (.int .i64 m):=by
 simp[World.cell?,h]
section
variable{F:Nat}{w:World}{b tb:Nat}{a:Option Addr}{cap tcap:Nat}{s:St}
theorem refStep_do(h:RefAt w b tb a cap tcap s)(hth:Zaf w a s.p.threads)(ok:s.Ok F)(t:Nat)(i:Ins)(hi:s.ins t=some i)(hm:s.may t=true)(hk1:i.kind=1∨i.kind=2∨i.kind=3∨i.kind=4∨i.kind=5∨i.kind=6∨i.kind=7∨i.kind=8):Calls Tryz.prog 61 #[.pointer (some ⟨b,0,none⟩),.int .i64 t] w fun e w'=>e=.returned (stepV (s.step t))/\RefAt w' b tb a cap tcap (s.step t).2.2/\Only2 b tb w w':=by
 obtain⟨k,hkk,ht⟩:=St.ins_nat hi
 obtain rfl:t=k:=by omega
 have hst:s.step t=(0,s.ev t i,s.do_ t i):=by
  unfold St.step
  rw[if_pos (by unfold St.has;omega),hi]
  simp only[hm]
  rfl
 have hn:s.next t=some (s.ev t i):=by unfold St.next;rw[hi];rfl
 rw[hst,Zis]
 dsimp only
 obtain⟨o1,o2,o3,o4,o5,o6⟩:=ok.obj hi
 have hx0:0<=i.x:=by
  have:=(ok.ins_right hi).1
  unfold ZaN at this
  repeat' split at this
  all_goals first|(simp only[decide_eq_true_eq]at this;omega)|(cases this)
 obtain⟨_,hfu,hcode⟩:=St.ins_has hi
 simp only[Int.toNat_natCast]at hfu hcode
 have h4:=ok.len4
 have hln:=ok.len
 have hrl:(s.th t).r.length=2:=(ok.thr _ (St.th_mem ht)).1
 have hvl:=ok.vl
 have hml:=ok.ml
 obtain⟨f,hf⟩:∃f,(s.th t).fuel=f+1:=⟨(s.th t).fuel-1,by omega⟩
 have hf8:f<=1000:=by have:=(ok.thr _ (St.th_mem ht)).2.2;have:=ok.f8;omega
 have h8:=ok.code8 t ht
 obtain⟨hat,hic⟩:=List.getElem?_eq_some_iff.1 hcode
 obtain⟨n,hn1⟩:∃n,(s.th t).at_=n:=⟨_,rfl⟩
 have hkp:t<s.p.threads.length:=by omega
 have hcd:s.code t=s.p.threads[t]:=Zav _ hkp
 obtain⟨ab,ao,rfl,hc⟩:=hth.2 (by intro e;simp[e]at hkp)
 obtain⟨c,ccap,c0,c1,_⟩:=hc t hkp
 rw[<-hcd]at c0 c1
 obtain⟨cb,co,rfl,hcc⟩:=c1.2 (by intro e;simp[e]at hat)
 obtain⟨i0,i1,i2,i3⟩:=hcc _ hat
 rw[hic]at i0 i1 i2 i3
 rw[hn1]at i0 i1 i2 i3 hat
 have p1:=h.prog.2
 have q0:decide ((t:Int)<0)=false:=by simp
 have q1:decide ((s.ts.length:Int)<=t)=false:=by simp;omega
 have q2:decide (s.ts.length<=t)=false:=by simp;omega
 obtain⟨hb1,hb2⟩:=h.lt
 have HB:=Lib.hid (h.later (Zaa w (.cells #[.int .i64 0,.int .i64 0,.int .i64 0,.bool false] 112)))
 have HTH:=Lib.hid (hth.later (Zaa w (.cells #[.int .i64 0,.int .i64 0,.int .i64 0,.bool false] 112)))
 have OK:=Lib.hid ok
 have HM:=Lib.hid hm
 obtain⟨kd,r,x,m⟩:=i
 dsimp only at *
 obtain⟨r,rfl⟩:∃y:Nat,r=y:=⟨r.toNat,by omega⟩
 obtain⟨x,rfl⟩:∃y:Nat,x=y:=⟨x.toNat,by omega⟩
 have hr2:r<2:=by omega
 have HO:=Lib.hid (And.intro o1 o2)
 have HK:Hid (kd=1∨kd=2∨kd=3∨kd=4∨kd=5∨(kd=6/\s.who x=t)∨(kd=6/\¬s.who x=t)∨(kd=7/\¬(s.th t).r.getD r 0=0)∨(kd=7/\(s.th t).r.getD r 0=0)∨kd=8):=by
  show _∨_
  by_cases h6:s.who x=t <;> by_cases h7:(s.th t).r.getD r 0=0 <;> simp only[h6,h7,not_true,not_false_iff,and_true,and_false,false_or] <;> omega
 clear hk1 o1 o2 o3
 obtain⟨e,he⟩:∃e,e=s.ev t ⟨kd,r,x,m⟩:=⟨_,rfl⟩
 rw[<-he]at hn ⊢
 have HE:=Lib.hid he
 have HN:=Lib.hid hn
 have HI:=Lib.hid (And.intro hi (And.intro hf (And.intro hn1 (And.intro hrl (And.intro hvl hml)))))
 have HC:=Lib.hid (And.intro c0 (And.intro i0 (And.intro i1 (And.intro i2 i3))))
 have h8n:n<8:=by omega
 have hatn:n<(s.code t).length:=by omega
 clear hst h hth ok hi hn he hkk hm hfu hcode hc c1 hcc hic hcd hln hrl hvl hml hf hn1 o6 c0 i0 i1 i2 i3
 try clear hat
 generalize (s.code t).length=ln at *
 go_enter Tryz.func61,Tryz.ntmps61
 go_wp2_with fail
 refine(ZbE HB.out HTH.out OK.out t).mono ?_
 rw[HN.out,Zcg]
 rintro r9 w1⟨rfl,hb3⟩
 have hz:w.heap.size<w1.heap.size:=by have:=hb3.size;simp at this;omega
 have RX1:Hid (Zie w1 w.heap.size):=(hb3.block _ (by simp)).trans (heap_alloc_new w _)
 have H1:=Lib.hid ((HB.out.later hb3).later (Zaa w1 (.cells #[.int .i64 e.thread,.int .i64 e.kind,.int .i64 e.obj,.bool e.fail] 112)))
 have T1:=Lib.hid ((HTH.out.later hb3).later (Zaa w1 (.cells #[.int .i64 e.thread,.int .i64 e.kind,.int .i64 e.obj,.bool e.fail] 112)))
 have B1:Hid (Below w.heap.size w w1):=(Zaa w _).trans (hb3.mono (by simp))
 clear hb3 p1 HB HTH
 go_wp2_with fail
 refine(ZcQ H1.out T1.out OK.out t).mono ?_
 rw[HM.out]
 rintro r9 w2⟨rfl,hb4⟩
 have EX2:Hid (w2.heap[w1.heap.size]?=some (.cells #[.int .i64 e.thread,.int .i64 e.kind,.int .i64 e.obj,.bool e.fail] 112 (0,0))):=(hb4.block _ (by simp)).trans (heap_alloc_new w1 _)
 have B2:Hid (Below w1.heap.size w1 w2):=(Zaa w1 _).trans (hb4.mono (by simp))
 have RX2:Hid (Zie w2 w.heap.size):=(B2.out.block _ hz).trans RX1.out
 have H2:=Lib.hid (H1.out.later hb4)
 have W2:Hid (Below w.heap.size w w2):=B1.out.trans (B2.out.mono (by omega))
 have hz2:w1.heap.size<w2.heap.size:=(Array.getElem?_eq_some_iff.1 EX2.out).1
 have hz3:w.heap.size<w2.heap.size:=by omega
 obtain⟨p0,p1⟩:=H2.out.prog
 have ca:=H2.out.at_ t ht
 rw[HI.out.2.2.1]at ca
 have d0:=Zab W2.out HC.out.1
 have d1:=Zab W2.out HC.out.2.1
 have d2:=Zab W2.out HC.out.2.2.1
 have d3:=Zab W2.out HC.out.2.2.2.1
 have d4:=Zab W2.out HC.out.2.2.2.2
 have z0:=Zan d0
 have z1:=Zan d1
 dsimp only at z0 z1
 have ltb:tb<w2.heap.size:=by omega
 have lb:b<w2.heap.size:=by omega
 clear hb4 H1 T1 B1 B2 RX1 HC
 go_wp2
 go_region
 generalize hW:(w2.alloc (.cells #[.int .i64 kd,.int .i64 r,.int .i64 x,.int .i64 m] 63)).drew=W at *
 have hbW:Below w2.heap.size w2 W:=by rw[<-hW];exact((Below.refl _ _).alloc (Nat.le_refl _) _).drew
 have IX:W.heap[w2.heap.size]?=some (.cells #[.int .i64 kd,.int .i64 r,.int .i64 x,.int .i64 m] 63 (0,0)):=by rw[<-hW];exact heap_alloc_new w2 _
 have HW:=Lib.hid (H2.out.later hbW)
 have EX:=Lib.hid ((hbW.block _ hz2).trans EX2.out)
 have RX:Hid (Zie W w.heap.size):=(hbW.block _ hz3).trans RX2.out
 have OW:Hid (Only2 b tb w W):=.of_below (W2.out.trans (hbW.mono W2.out.size))
 have cf:=HW.out.fuel t ht
 rw[HI.out.2.1,Int.natCast_add]at cf
 have ca2:=HW.out.at_ t ht
 rw[HI.out.2.2.1]at ca2
 have ff:=fun o=>(HW.out.frozen o).2
 have j0:=(Zky IX).1
 have IXH:=Lib.hid IX
 have nb:b≠tb:=HW.out.2.1
 generalize hI:w2.heap.size=I at *
 generalize hE:w1.heap.size=E at *
 generalize hR:w.heap.size=R at *
 have n1:¬tb=I:=by omega
 have n2:¬I=tb:=by omega
 have n3:¬tb=E:=by omega
 have n4:¬E=tb:=by omega
 have n5:¬tb=R:=by omega
 have n6:¬R=tb:=by omega
 have n7:¬b=I:=by omega
 have n8:¬I=b:=by omega
 have n9:¬b=E:=by omega
 have n10:¬E=b:=by omega
 have n11:¬b=R:=by omega
 have n12:¬R=b:=by omega
 have n13:¬tb=b:=fun h=>nb h.symm
 have n14:¬b=tb:=nb
 have n15:¬R=E:=by omega
 have n16:¬E=R:=by omega
 clear hW hbW H2 EX2 RX2 W2 d0 d1 d2 d3 d4 ca p0 p1 IX
 rcases HK.out with rfl|rfl|rfl|rfl|rfl|⟨rfl,hw⟩|⟨rfl,hw⟩|⟨rfl,hw⟩|⟨rfl,hw⟩|rfl
 all_goals go_wp2
 all_goals generalize hV:(W.setCell ⟨tb,t*4+1,none⟩ (.int .i64 f)).setCell ⟨tb,t*4,none⟩ (.int .i64 (n+1))=V at *
 all_goals have hoth:∀k,k≠tb->V.heap[k]?=W.heap[k]?:=fun k hk=>by rw[<-hV,Below.heap_setCell _ _ _ _ hk,Below.heap_setCell _ _ _ _ hk]
 all_goals have HG:Hid (RefAt V b tb (some ⟨ab,ao,none⟩) cap tcap (s.go t)):=by rw[<-hV];exact HW.out.go t f n ht HI.out.2.1 HI.out.2.2.1
 all_goals have OV:Hid (Only2 b tb w V):=by rw[<-hV];exact(OW.out.setCell (.inr (.inl rfl)) _ _).setCell (.inr (.inl rfl)) _ _
 all_goals obtain⟨j0v,j1v,j2v,j3v⟩:=Zky ((hoth I (fun e=>n2 e)).trans IXH.out)
 all_goals obtain⟨x0,x1,x2,x3⟩:=ev_cells ((hoth E (fun e=>n4 e)).trans EX.out)
 all_goals obtain⟨e0,e1,e2,e3,ef⟩:=Zie.cells ((hoth R (fun e=>n6 e)).trans RX.out)
 all_goals have f0:=ef 0
 all_goals have f1:=ef 1
 all_goals have f2:=ef 2
 all_goals have f3:=ef 3
 all_goals have htg:t<(s.go t).ts.length:=by rw[St.go,St.put_len];exact ht
 all_goals clear hV hoth j0 cf ca2 ff ef IXH EX RX HW OW
 ·have hx4:x<4:=by have:=HO.out.1 (by simp);omega
  have cv:=HG.out.var x hx4
  have gl:=go_load s t r x m ht
  generalize (s.go t).v.getD x 0=vv at *
  have GL:=Lib.hid gl
  clear gl
  have cr:=HG.out.reg t htg r hr2
  have ff:=(HG.out.frozen (t*4+2+r)).2
  go_region
  go_wp2
  refine bodyPost_ret (v:=.tuple #[.agg #[.int .i64 e.thread,.int .i64 e.kind,.int .i64 e.obj,.bool e.fail],.int .i64 0]) (by simp[results,Tryz.results61,go_sem,e0,e1,e2,e3]) rfl ⟨rfl,?_,?_⟩
  ·obtain⟨hi,hf,hn1,hrl,hvl,hml⟩:=HI.out
   have hg:=HG.out
   have h2:=hg.setReg t r vv htg hr2 (by rw[St.go_th _ _ ht];exact hrl)
   rw[GL.out]at h2
   exact(h2.other4 (by omega) (by omega) _ _ _ _).drewN 1
  ·exact((OV.out.setCell (.inr (.inl rfl)) _ _).set4 (Nat.le_of_eq hR) _ _ _ _).drew
 ·have hx4:x<4:=by have:=HO.out.1 (by simp);omega
  have cv:=HG.out.var x hx4
  have fv:=(HG.out.frozen (4+x)).1
  have gl:=go_store s t r x m ht
  have cr:=HG.out.reg t htg r hr2
  generalize ((s.go t).th t).r.getD r 0=vv at *
  have GL:=Lib.hid gl
  clear gl
  go_region
  go_wp2
  refine bodyPost_ret (v:=.tuple #[.agg #[.int .i64 e.thread,.int .i64 e.kind,.int .i64 e.obj,.bool e.fail],.int .i64 0]) (by simp[results,Tryz.results61,go_sem,e0,e1,e2,e3]) rfl ⟨rfl,?_,?_⟩
  ·obtain⟨hi,hf,hn1,hrl,hvl,hml⟩:=HI.out
   have hg:=HG.out
   have h2:=hg.setVar x vv hx4 hvl
   rw[GL.out]at h2
   exact(h2.other4 (by omega) (by omega) _ _ _ _).drewN 1
  ·exact((OV.out.setCell (.inl rfl) _ _).set4 (Nat.le_of_eq hR) _ _ _ _).drew
 ·have GL:=Lib.hid (go_set s t r x m ht)
  have cr:=HG.out.reg t htg r hr2
  have ff:=(HG.out.frozen (t*4+2+r)).2
  go_region
  go_wp2
  refine bodyPost_ret (v:=.tuple #[.agg #[.int .i64 e.thread,.int .i64 e.kind,.int .i64 e.obj,.bool e.fail],.int .i64 0]) (by simp[results,Tryz.results61,go_sem,e0,e1,e2,e3]) rfl ⟨rfl,?_,?_⟩
  ·obtain⟨hi,hf,hn1,hrl,hvl,hml⟩:=HI.out
   have hg:=HG.out
   have h2:=hg.setReg t r m htg hr2 (by rw[St.go_th _ _ ht];exact hrl)
   rw[GL.out]at h2
   exact(h2.other4 (by omega) (by omega) _ _ _ _).drewN 1
  ·exact((OV.out.setCell (.inr (.inl rfl)) _ _).set4 (Nat.le_of_eq hR) _ _ _ _).drew
 ·have gl:=go_add s t r x m ht
  have cr:=HG.out.reg t htg r hr2
  have ff:=(HG.out.frozen (t*4+2+r)).2
  generalize ((s.go t).th t).r.getD r 0=vv at *
  have ew:wrap64 (vv+m)=IntKind.i64.wrap (vv+m):=by rw[IntKind.wrap_i64];unfold wrap64;first|rfl|omega
  rw[<-ew]at gl
  have GL:=Lib.hid gl
  clear gl ew
  go_region
  go_wp2
  refine bodyPost_ret (v:=.tuple #[.agg #[.int .i64 e.thread,.int .i64 e.kind,.int .i64 e.obj,.bool e.fail],.int .i64 0]) (by simp[results,Tryz.results61,go_sem,e0,e1,e2,e3]) rfl ⟨rfl,?_,?_⟩
  ·obtain⟨hi,hf,hn1,hrl,hvl,hml⟩:=HI.out
   have hg:=HG.out
   have h2:=hg.setReg t r (wrap64 (vv+m)) htg hr2 (by rw[St.go_th _ _ ht];exact hrl)
   rw[GL.out]at h2
   exact(h2.other4 (by omega) (by omega) _ _ _ _).drewN 1
  ·exact((OV.out.setCell (.inr (.inl rfl)) _ _).set4 (Nat.le_of_eq hR) _ _ _ _).drew
 ·have hx2:x<2:=by have:=HO.out.2 (by simp);omega
  have hek:e.kind=4:=by rw[HE.out];rfl
  have q4:(e.kind==4)=true:=by simp[hek]
  have q5:(e.kind==5)=false:=by simp[hek]
  clear hek
  have cw:=HG.out.who x hx2
  have fw:=(HG.out.frozen (8+x)).1
  have GL:=Lib.hid (go_lock s t r x m ht)
  go_quiet (fail)
  go_wp2
  go_region
  go_wp2
  refine bodyPost_ret (v:=.tuple #[.agg #[.int .i64 e.thread,.int .i64 e.kind,.int .i64 e.obj,.bool e.fail],.int .i64 0]) (by simp[results,Tryz.results61,go_sem,e0,e1,e2,e3]) rfl ⟨rfl,?_,?_⟩
  ·obtain⟨hi,hf,hn1,hrl,hvl,hml⟩:=HI.out
   have hg:=HG.out
   have h2:=(hg.drewN (nq+1)).setWho x t hx2 hml
   rw[GL.out]at h2
   exact h2.other4 (by omega) (by omega) _ _ _ _
  ·exact((OV.out.drewN).setCell (.inl rfl) _ _).set4 (Nat.le_of_eq hR) _ _ _ _
 ·have hx2:x<2:=by have:=HO.out.2 (by simp);omega
  have hek:e.kind=5:=by rw[HE.out];unfold St.ev;dsimp only;rw[if_neg (by omega),if_neg (by omega),if_neg (by omega),if_pos rfl,if_pos hw]
  have q4:(e.kind==4)=false:=by simp[hek]
  have q5:(e.kind==5)=true:=by simp[hek]
  clear hek
  have cw:=HG.out.who x hx2
  have fw:=(HG.out.frozen (8+x)).1
  have gl:=ZgU s t r x m ht
  rw[if_pos (show(s.go t).who x=t from hw)]at gl
  have GL:=Lib.hid gl
  clear gl hw
  go_quiet (fail)
  go_wp2
  go_region
  go_wp2
  refine bodyPost_ret (v:=.tuple #[.agg #[.int .i64 e.thread,.int .i64 e.kind,.int .i64 e.obj,.bool e.fail],.int .i64 0]) (by simp[results,Tryz.results61,go_sem,e0,e1,e2,e3]) rfl ⟨rfl,?_,?_⟩
  ·obtain⟨hi,hf,hn1,hrl,hvl,hml⟩:=HI.out
   have hg:=HG.out
   have h2:=(hg.drewN (nq+1)).setWho x (-1) hx2 hml
   rw[GL.out]at h2
   exact h2.other4 (by omega) (by omega) _ _ _ _
  ·exact((OV.out.drewN).setCell (.inl rfl) _ _).set4 (Nat.le_of_eq hR) _ _ _ _
 ·have hek:e.kind=1:=by rw[HE.out];unfold St.ev;dsimp only;rw[if_neg (by omega),if_neg (by omega),if_neg (by omega),if_pos rfl,if_neg hw]
  have q4:(e.kind==4)=false:=by simp[hek]
  have q5:(e.kind==5)=false:=by simp[hek]
  clear hek
  have gl:=ZgU s t r x m ht
  rw[if_neg (show ¬(s.go t).who x=t from hw)]at gl
  have GL:=Lib.hid gl
  clear gl hw
  go_quiet (fail)
  go_wp2
  refine bodyPost_ret (v:=.tuple #[.agg #[.int .i64 e.thread,.int .i64 e.kind,.int .i64 e.obj,.bool e.fail],.int .i64 0]) (by simp[results,Tryz.results61,go_sem,e0,e1,e2,e3]) rfl ⟨rfl,?_,?_⟩
  ·obtain⟨hi,hf,hn1,hrl,hvl,hml⟩:=HI.out
   have hg:=HG.out
   have h2:=hg.drewN nq
   rw[GL.out]at h2
   exact h2.other4 (by omega) (by omega) _ _ _ _
  ·exact(OV.out.drewN).set4 (Nat.le_of_eq hR) _ _ _ _
 ·have gl:=ZlV s t r x m ht
  rw[St.go_th s t ht,if_neg (show ¬(s.th t).r.getD r 0=0 from hw)]at gl
  have cr:=HG.out.reg t htg r hr2
  have ca:=HG.out.at_ t htg
  have fa:=(HG.out.frozen (t*4)).2
  have q7:(((s.go t).th t).r.getD r 0 != 0)=true:=by rw[St.go_th s t ht];simpa using hw
  generalize ((s.go t).th t).r.getD r 0=vv at *
  have GL:=Lib.hid gl
  clear gl hw
  go_quiet (fail)
  go_wp2
  refine bodyPost_ret (v:=.tuple #[.agg #[.int .i64 e.thread,.int .i64 e.kind,.int .i64 e.obj,.bool e.fail],.int .i64 0]) (by simp[results,Tryz.results61,go_sem,e0,e1,e2,e3]) rfl ⟨rfl,?_,?_⟩
  ·obtain⟨hi,hf,hn1,hrl,hvl,hml⟩:=HI.out
   have hg:=HG.out
   have h2:=(hg.drewN nq).setAt t x htg
   rw[St.go_th s t ht,GL.out]at h2
   exact h2.other4 (by omega) (by omega) _ _ _ _
  ·exact((OV.out.drewN).setCell (.inr (.inl rfl)) _ _).set4 (Nat.le_of_eq hR) _ _ _ _
 ·have hek:e.kind=1:=by rw[HE.out];rfl
  have q4:(e.kind==4)=false:=by simp[hek]
  have q5:(e.kind==5)=false:=by simp[hek]
  clear hek
  have gl:=ZlV s t r x m ht
  rw[St.go_th s t ht,if_pos (show(s.th t).r.getD r 0=0 from hw)]at gl
  have cr:=HG.out.reg t htg r hr2
  have q7:(((s.go t).th t).r.getD r 0 != 0)=false:=by rw[St.go_th s t ht];simpa using hw
  generalize ((s.go t).th t).r.getD r 0=vv at *
  have GL:=Lib.hid gl
  clear gl hw
  go_quiet (fail)
  go_wp2
  refine bodyPost_ret (v:=.tuple #[.agg #[.int .i64 e.thread,.int .i64 e.kind,.int .i64 e.obj,.bool e.fail],.int .i64 0]) (by simp[results,Tryz.results61,go_sem,e0,e1,e2,e3]) rfl ⟨rfl,?_,?_⟩
  ·obtain⟨hi,hf,hn1,hrl,hvl,hml⟩:=HI.out
   have hg:=HG.out
   have h2:=hg.drewN nq
   rw[GL.out]at h2
   exact h2.other4 (by omega) (by omega) _ _ _ _
  ·exact(OV.out.drewN).set4 (Nat.le_of_eq hR) _ _ _ _
 ·have hek:e.kind=1:=by rw[HE.out];rfl
  have q4:(e.kind==4)=false:=by simp[hek]
  have q5:(e.kind==5)=false:=by simp[hek]
  clear hek
  have GL:=Lib.hid (ZkG s t r x m ht)
  go_quiet (fail)
  go_wp2
  refine bodyPost_ret (v:=.tuple #[.agg #[.int .i64 e.thread,.int .i64 e.kind,.int .i64 e.obj,.bool e.fail],.int .i64 0]) (by simp[results,Tryz.results61,go_sem,e0,e1,e2,e3]) rfl ⟨rfl,?_,?_⟩
  ·obtain⟨hi,hf,hn1,hrl,hvl,hml⟩:=HI.out
   have hg:=HG.out
   have h2:=hg.drewN nq
   rw[GL.out]at h2
   exact h2.other4 (by omega) (by omega) _ _ _ _
  ·exact(OV.out.drewN).set4 (Nat.le_of_eq hR) _ _ _ _
end
theorem Zle{F:Nat}{w:World}{b tb:Nat}{a:Option Addr}{cap tcap:Nat}{s:St}(h:RefAt w b tb a cap tcap s)(hth:Zaf w a s.p.threads)(ok:s.Ok F)(t:Int):
  Calls Tryz.prog 61 #[.pointer (some ⟨b,0,none⟩),.int .i64 t] w fun e w'=>e=.returned (stepV (s.step t))/\RefAt w' b tb a cap tcap (s.step t).2.2/\Only2 b tb w w':=by
 cases hb:ZaM t s.ts.length
 ·exact ZiF h t hb
 ·have hb':0<=t/\t<s.ts.length:=by simpa [ZaM]using hb
  cases hi:s.ins t with
  |none=>
   obtain⟨k,rfl⟩:∃k:Nat,t=k:=⟨t.toNat,by omega⟩
   exact ZjU h hth ok k (by omega) hi
  |some i=>
   obtain⟨k,rfl,_⟩:=St.ins_nat hi
   cases hm:s.may k
   ·exact ZiE h hth ok k i hi hm
   ·have hk:i.kind=1∨i.kind=2∨i.kind=3∨i.kind=4∨i.kind=5∨i.kind=6∨i.kind=7∨i.kind=8:=by
     have:=(ok.ins_right hi).1
     unfold ZaN at this
     repeat' split at this
     all_goals first|omega|(cases this)
    exact refStep_do h hth ok k i hi hm hk
def atL(l:List Ev)(i:Nat):Nat:=lvN (lvls (l.take i)) (evI l i)
theorem Zkn(l:List Ev){k:Nat}(hk:k<l.length):lvls (l.take (k+1))=addL (lvls (l.take k)) (evI l k):=by
 rw[<-ZeM,Za4 hk,List.take_add_one,List.getElem?_eq_getElem hk]
 rfl
theorem ZgJ(l:List Ev):∀k,k<=l.length->∀j x,x∈(lvls (l.take k)).getD j []↔∃i,i<k/\evI l i=x/\atL l i=j
 |0,_,j,x=>by
  have:lvls (l.take 0)=[]:=by rw[List.take_zero];rfl
  rw[this]
  simp[List.getD]
 |k+1,hk,j,x=>by
  have ih:=ZgJ l k (by omega) j x
  rw[Zkn l (by omega),Zdo]
  by_cases h:j=lvN (lvls (l.take k)) (evI l k)
  ·rw[if_pos h,ZcL,ih]
   constructor
   ·rintro (rfl|⟨i,hi,h1,h2⟩)
    ·exact⟨k,by omega,rfl,h.symm⟩
    ·exact⟨i,by omega,h1,h2⟩
   ·rintro⟨i,hi,h1,h2⟩
    by_cases e:i=k
    ·subst e;exact .inl h1.symm
    ·exact .inr ⟨i,by omega,h1,h2⟩
  ·rw[if_neg h,ih]
   constructor
   ·rintro⟨i,hi,h1,h2⟩
    exact⟨i,by omega,h1,h2⟩
   ·rintro⟨i,hi,h1,h2⟩
    refine⟨i,?_,h1,h2⟩
    by_cases e:i=k
    ·subst e;exact absurd h2.symm h
    ·omega
def maxN(l:List Ev)(e:Ev)(k:Nat):Nat:=top (fun i=>atL l i+1) (fun i=>dep (evI l i) e) k
theorem maxN_succ(l:List Ev)(e:Ev)(k:Nat):maxN l e (k+1)=if dep (evI l k) e then max (maxN l e k) (atL l k+1)else maxN l e k:=by
 unfold maxN
 rw[Zey]
theorem maxN_lvN(l:List Ev)(e:Ev){k:Nat}(hk:k<=l.length):maxN l e k=lvN (lvls (l.take k)) e:=by
 apply Nat.le_antisymm
 ·refine Zhw fun i hi hd=>?_
  have hm:evI l i∈(lvls (l.take k)).getD (atL l i) []:=(ZgJ l k hk _ _).2 ⟨i,hi,rfl,rfl⟩
  have hlt:atL l i<(lvls (l.take k)).length:=by
   apply Classical.byContradiction
   intro hn
   simp[List.getD,List.getElem?_eq_none (Nat.le_of_not_lt hn)]at hm
  exact lvN_ge hlt ⟨_,hm,hd⟩
 ·cases h:lvN (lvls (l.take k)) e with
  |zero=>exact Nat.zero_le _
  |succ j=>
   obtain⟨x,hx,hd⟩:=lvN_some h
   obtain⟨i,hi,h1,h2⟩:=(ZgJ l k hk j x).1 hx
   have:=Zhx (f:=fun i=>atL l i+1) (q:=fun i=>dep (evI l i) e) hi (by show dep (evI l i) e=true;rw[h1];exact hd)
   unfold maxN
   simp only[h2]at this
   omega
theorem atL_le(l:List Ev){i:Nat}(hi:i<l.length):atL l i<=i:=by
 have h1:=ZfI (lvls (l.take i)) (evI l i)
 have h2:=ZeN (l.take i)
 rw[List.length_take]at h2
 unfold atL
 omega
theorem OwnLv.keptBy{w w':World}{B B' n' k':Nat}{t':TypeId}{v v':Value}{ss:List Sl}{m:List (List Ev)}{xs:List Value}(h:OwnLv w B v ss m)(ho:w.ownsRow B' t' n' v' k' xs)(h1:95≠t')(h2:112≠t')(hg:w.grownBy w' v'.ownBlock):OwnLv w' B v ss m:=
 ⟨h.len,World.ownsRow.kept h.outer hg (ZbW h.outer ho h1),fun i hi=>World.ownsRow.kept (h.inner i hi) hg (ZbW (h.inner i hi) ho h2),h.apart⟩
def ats(l:List Ev)(k:Nat):List Int:=(List.range k).map fun i=>(atL l i:Int)
theorem Zeu(l:List Ev)(k:Nat):(ats l k).length=k:=by simp[ats]
theorem ats_succ(l:List Ev)(k:Nat):ats l (k+1)=ats l k++[(atL l k:Int)]:=by simp[ats,List.range_succ]
theorem ats_get(l:List Ev)(k:Nat){i:Nat}(h:i<(ats l k).length):(ats l k)[i]=atL l i:=by simp[ats]
theorem ZlO:95≠3:=by decide
theorem intNeEv:112≠3:=by decide
def InsP(e:Ev)(L:List Ev)(j:Nat)(d:Bool)(R:List Ev):Prop:=
 (d=false/\R=L.take j/\insE e L=L.take j++insE e (L.drop j))∨(d=true/\insE e L=R++L.drop j)
theorem insP_zero(e:Ev)(L:List Ev):InsP e L 0 false []:=.inl ⟨rfl,rfl,rfl⟩
theorem insP_lt{e:Ev}{L:List Ev}{j:Nat}{R:List Ev}(h:InsP e L j false R)(hj:j<L.length)(hlt:e.thread<(evI L j).thread):InsP e L (j+1) true (R++[e]++[evI L j]):=by
 rcases h with ⟨_,h2,h3⟩|⟨h1,_⟩
 ·right
  refine⟨rfl,?_⟩
  rw[h3,List.drop_eq_getElem_cons hj,<-Za4 hj,ZaJ _ hlt,h2]
  simp
 ·cases h1
theorem insP_ge{e:Ev}{L:List Ev}{j:Nat}{R:List Ev}(h:InsP e L j false R)(hj:j<L.length)(hge:¬e.thread<(evI L j).thread):InsP e L (j+1) false (R++[evI L j]):=by
 rcases h with ⟨_,h2,h3⟩|⟨h1,_⟩
 ·left
  have e1:R++[evI L j]=L.take (j+1):=by rw[h2,List.take_succ_eq_append_getElem hj,Za4 hj]
  refine⟨rfl,e1,?_⟩
  rw[h3,List.drop_eq_getElem_cons hj,<-Za4 hj,ZaA _ hge,List.take_succ_eq_append_getElem hj,<-Za4 hj]
  simp
 ·cases h1
theorem insP_on{e:Ev}{L:List Ev}{j:Nat}{R:List Ev}(h:InsP e L j true R)(hj:j<L.length):InsP e L (j+1) true (R++[evI L j]):=by
 rcases h with ⟨h1,_⟩|⟨_,h2⟩
 ·cases h1
 ·right
  refine⟨rfl,?_⟩
  rw[h2,List.drop_eq_getElem_cons hj,Za4 hj]
  simp
theorem insP_end{e:Ev}{L R:List Ev}{d:Bool}(h:InsP e L L.length d R):(d=false->R++[e]=insE e L)/\(d=true->R=insE e L):=by
 rcases h with ⟨h1,h2,h3⟩|⟨h1,h2⟩
 ·subst h1
  refine⟨fun _=>?_,fun h=>(by cases h)⟩
  rw[h3,h2,List.drop_length,List.take_length]
  rfl
 ·subst h1
  refine⟨fun h=>(by cases h),fun _=>?_⟩
  rw[h2,List.drop_length,List.append_nil]
theorem ZeE(a:Option Addr)(cap:Nat)(l:List Ev)(w:World)(hl:EvsAt w a l):
  Calls Tryz.prog 98 #[.slice a l.length cap] w (LvR w.heap.size w (Zao l)):=by
 have hm:=hl.1
 unfold maxLen at hm
 have HL:=Lib.hid hl
 have HRC:=Lib.hid (ZiB a cap l w hl)
 clear hl
 cases hr:Zaw l
 ·have HE:Hid (Zao l=[]):=by show _=_;unfold Zao ZaQ;rw[hr];simp
  rw[hr]at HRC
  clear hr
  go_enter Tryz.func98,Tryz.ntmps98
  go_wp2_with fail
  refine HRC.out.mono ?_
  rintro r w1⟨rfl,hb1⟩
  clear HRC
  go_wp2
  go_ret
  exact⟨_,[],rfl,by rw[HE.out];exact ZdH _ _,hb1⟩
 rw[hr]at HRC
 by_cases h200:l.length<=200
 case neg=>
  have HE:Hid (Zao l=[]):=by
   have h:decide (l.length<=200)=false:=by simp;omega
   show _=_
   unfold Zao ZaQ
   rw[h]
   simp
  have hq:decide ((200:Int)<(l.length:Int))=true:=by simp;omega
  have hq2:200<l.length:=by omega
  clear hr h200
  go_enter Tryz.func98,Tryz.ntmps98
  go_wp2_with fail
  refine HRC.out.mono ?_
  rintro r w1⟨rfl,hb1⟩
  clear HRC
  go_wp2
  go_ret
  exact⟨_,[],rfl,by rw[HE.out];exact ZdH _ _,hb1⟩
 have HE:Hid (Zao l=lvls l):=by show _=_;unfold Zao ZaQ;rw[hr];simp[h200]
 have hq:decide ((200:Int)<(l.length:Int))=false:=by simp;omega
 have hq2:¬ 200<l.length:=by omega
 clear hr
 go_enter Tryz.func98,Tryz.ntmps98
 go_wp2_with fail
 refine HRC.out.mono ?_
 rintro r w1⟨rfl,hb1⟩
 clear HRC
 go_wp2_with fail
 clear hq hq2
 go_loopw [3,4,5] (fun v3 v4 i wr=>∃(k:Nat) (ss:List Sl) (a3:Option Addr) (c3:Nat) (a4:Option Addr) (c4:Nat),k<=l.length/\i=.int .i64 k/\v3=.slice a3 k c3/\v4=.slice a4 (lvls (l.take k)).length c4/\Hid (OwnN wr w.heap.size v3 (ats l k))/\Hid (OwnLv wr w.heap.size v4 ss (lvls (l.take k)))/\Hid (Below w.heap.size w wr)) (fun _ _ i _=>l.length-(intOf i).toNat)
 case atStart=>exact⟨0,[],none,0,none,0,Nat.zero_le _,rfl,rfl,rfl,ZeG _ _,ZdH _ _,hb1⟩
 case round=>
  clear hb1
  obtain⟨k,ss,a3,c3,a4,c4,hk,rfl,rfl,rfl,HN,HV,HB⟩:=hrel
  by_cases hlt:k<l.length
  ·obtain⟨b,o,rfl,t0,t1,t2,t3⟩:=HL.out.one hlt
   have HT:=Lib.hid (Zkn l hlt)
   have hmk:(lvls (l.take k)).length<=k:=by have:=ZeN (l.take k);rw[List.length_take]at this;omega
   have HS:Hid (∀i,((lvls (l.take k)).getD i []).length<=200):=fun i=>by have:=Zf6 (l.take k) i;rw[List.length_take]at this;omega
   have HMX:=Lib.hid (maxN_lvN l (evI l k) hk)
   have HAK:Hid (atL l k=lvN (lvls (l.take k)) (evI l k)):=rfl
   have HSU:Hid (∀j,maxN l (evI l k) (j+1)=if dep (evI l j) (evI l k)then max (maxN l (evI l k) j) (atL l j+1)else maxN l (evI l k) j):=fun j=>maxN_succ l _ j
   have HMB:Hid (∀j,j<=k->maxN l (evI l k) j<=201):=fun j hj=>Zhw fun i hi _=>by have:=atL_le l (show i<l.length by omega);show atL l i+1<=201;omega
   have HAB:Hid (∀j,j<l.length->atL l j<=200):=fun j hj=>by have:=atL_le l hj;omega
   have HZ:Hid (maxN l (evI l k) 0=0):=rfl
   obtain⟨a3',c3',hv3,hn3,_⟩:=OwnN.form HN.out (by rw[Zeu];omega)
   rw[Zeu]at hv3
   injection hv3 with hv3 _ hc3
   subst hv3 hc3
   have HN3:=Lib.hid hn3
   have HTE:=Lib.hid (And.intro t0 (And.intro t1 (And.intro t2 t3)))
   have hle:=ZfI (lvls (l.take k)) (evI l k)
   clear t0 t1 t2 t3 hn3
   generalize lvls (l.take k)=m at *
   generalize hek:evI l k=e at *
   have HEK:=Lib.hid hek
   clear hek
   go_wp2_with fail
   go_loopw [6,7] (fun s6 i wr2=>∃(j N:Nat),j<=k/\i=.int .i64 j/\s6=.int .i64 (N:Int)/\Hid (N=maxN l e j)/\Hid (Below wr.heap.size wr wr2)) (fun _ i _=>k-(intOf i).toNat)
   case atStart=>exact⟨0,0,Nat.zero_le _,rfl,rfl,HZ.out.symm,Below.refl _ _⟩
   case round=>
    obtain⟨j,N,hj,rfl,rfl,HNE,HB2⟩:=hrel
    have HBW:=Lib.hid (HB.out.trans (HB2.out.mono HB.out.size))
    by_cases hjk:j<k
    ·obtain⟨b9,o9,e9,x0,x1,x2,x3⟩:=HL.out.one (show j<l.length by omega)
     injection e9 with e9
     injection e9 with e9 e10
     subst e9 e10
     have hji:(j:Int)<(l.length:Int):=by omega
     have hji0:(0:Int)<=j:=by omega
     have hki:(k:Int)<(l.length:Int):=by omega
     have hjk2:(j:Int)<(k:Int):=by omega
     have hMb:N<=201:=by rw[HNE.out];exact HMB.out j (by omega)
     have hAb:=HAB.out j (by omega)
     have HSJ:=Lib.hid (HSU.out j)
     obtain⟨b3,o3,rfl,hn3⟩:=HN3.out.2 (by intro h;have:=Zeu l k;rw[h]at this;simp at this;omega)
     have q3:=Zab HB2.out (hn3 j (by rw[Zeu];exact hjk))
     rw[ats_get]at q3
     clear hn3
     generalize atL l j=A at *
     generalize evI l j=x at *
     have HQ:Hid (∀W,Below wr.heap.size wr W->(W.cell? ⟨b,o+j*4,none⟩=some (.int .i64 x.thread)/\W.cell? ⟨b,o+j*4+1,none⟩=some (.int .i64 x.kind)/\W.cell? ⟨b,o+j*4+2,none⟩=some (.int .i64 x.obj)/\W.cell? ⟨b,o+j*4+3,none⟩=some (.bool x.fail))/\(W.cell? ⟨b,o+k*4,none⟩=some (.int .i64 e.thread)/\W.cell? ⟨b,o+k*4+1,none⟩=some (.int .i64 e.kind)/\W.cell? ⟨b,o+k*4+2,none⟩=some (.int .i64 e.obj)/\W.cell? ⟨b,o+k*4+3,none⟩=some (.bool e.fail))/\W.cell? ⟨b3,o3+j,none⟩=some (.int .i64 (A:Int))):=fun W hW=>by
      have h:=HBW.out.trans (hW.mono HBW.out.size)
      exact⟨⟨Zab h x0,Zab h x1,Zab h x2,Zab h x3⟩,⟨Zab h HTE.out.1,Zab h HTE.out.2.1,Zab h HTE.out.2.2.1,Zab h HTE.out.2.2.2⟩,Zab hW q3⟩
     have hB9:Below wr.heap.size wr wr.drew:=(Below.refl _ _).drew
     clear x0 x1 x2 x3 q3
     go_wp2_with fail
     go_region_held3 (fun W=>(W.cell? ⟨b,o+j*4,none⟩=some (.int .i64 x.thread)/\W.cell? ⟨b,o+j*4+1,none⟩=some (.int .i64 x.kind)/\W.cell? ⟨b,o+j*4+2,none⟩=some (.int .i64 x.obj)/\W.cell? ⟨b,o+j*4+3,none⟩=some (.bool x.fail))/\(W.cell? ⟨b,o+k*4,none⟩=some (.int .i64 e.thread)/\W.cell? ⟨b,o+k*4+1,none⟩=some (.int .i64 e.kind)/\W.cell? ⟨b,o+k*4+2,none⟩=some (.int .i64 e.obj)/\W.cell? ⟨b,o+k*4+3,none⟩=some (.bool e.fail))/\W.cell? ⟨b3,o3+j,none⟩=some (.int .i64 (A:Int))) (first|exact HQ.out _ hB9|exact HQ.out _ hB10)
      (first|(go_at_call 154;((with_reducible refine(Zhp x e _).mono ?_);rintro r w10⟨rfl,hb10⟩;have hB10:=hB9.trans (hb10.mono hB9.size);clear hB9)))
     have HB10:=Lib.hid (HB2.out.trans (hB10.mono HB2.out.size))
     have q4:=(HQ.out _ hB10).2.2
     cases hd:dep x e
     ·have HN2:Hid (N=maxN l e (j+1)):=by have h:=HSJ.out;rw[hd]at h;show _=_;rw[HNE.out,h];rfl
      clear hd
      go_wp2
      go_roundw
      case rel=>exact⟨j+1,N,by omega,by go_num,rfl,HN2.out,HB10.out⟩
      case measure=>simp[intOf];omega
     ·have HN2:Hid (max N (A+1)=maxN l e (j+1)):=by have h:=HSJ.out;rw[hd]at h;show _=_;rw[h,HNE.out];rfl
      have hwA:IntKind.i64.wrap ((A:Int)+1)=(A:Int)+1:=IntWalk.i64_in _ (by omega)
      clear hd
      go_wp2
      go_roundw
      case rel=>exact⟨j+1,max N (A+1),by omega,by go_num,by congr 1;omega,HN2.out,HB10.out⟩
      case measure=>simp[intOf];omega
    ·obtain rfl:j=k:=by omega
     have HNW:=Lib.hid (HN.out.later HB2.out)
     have HVW:=Lib.hid (HV.out.later HB2.out)
     have hBs:=HBW.out.size
     have hal:(ats l j).length=j:=Zeu l j
     have HNN:Hid (N=lvN m e):=by show _=_;rw[HNE.out];exact HMX.out
     have hnm:lvN m e<=m.length:=hle
     rw[<-HNN.out]at HAK hnm
     clear HMX HSU HMB HZ HN3 HN HV HNE hle
     go_upto_if 53 with (at_builtin;refine ZdV rfl _ _ rfl w.heap.size _ (ats l j) rfl (HNW.out.alloc _) ⟨wr.heap.size,0,none⟩ 1 1 rfl [(N:Int)] rfl (Zf2 wr [(N:Int)] _ _ rfl) (by rw[hal];omega) (by simp;omega) ?_;intro v9 w9 h9 hb9 hg9;have HV9:Hid (OwnLv w9 w.heap.size (.slice a4 m.length c4) ss m):=OwnLv.keptBy (HVW.out.later (Zaa wr _)) (HNW.out.alloc _) ZlO intNeEv hg9;have HN9:Hid (OwnN w9 w.heap.size v9 (ats l (j+1))):=(by show OwnN _ _ _ _;rw[ats_succ,HAK.out];exact h9);have HB9:Hid (Below w.heap.size w w9):=(HBW.out.trans ((Zaa wr _).mono hBs)).trans hb9;clear h9 hb9 hg9)
     obtain⟨a9,c9,hv9,_,_⟩:=OwnN.form HN9.out (by rw[Zeu];omega)
     rw[Zeu]at hv9
     subst hv9
     clear HNW HVW HBW HB HB2
     go_cut [4] (fun s4 wx=>∃(g M cap3:Nat) (ss2:List Sl),s4=.slice (some ⟨g,0,none⟩) M cap3/\N<M/\M<=300/\Hid (M=(extL m N).length/\OwnLv wx w.heap.size s4 ss2 (extL m N))/\Hid (OwnN wx w.heap.size (.slice a9 (j+1) c9) (ats l (j+1)))/\Hid (Below w.heap.size w wx))
     case first=>
      by_cases hnl:N<m.length
      ·have hq:((N:Int)==(m.length:Int))=false:=by simp;omega
       have HEX:Hid (extL m N=m):=by show _=_;unfold extL;rw[if_pos hnl]
       obtain⟨g,capg,hv,_,_⟩:=Zae.block HV9.out.outer (by intro h;have:=HV9.out.len;rw[h]at this;simp at this;omega)
       injection hv with hv1 hv2 hv3
       subst hv1
       clear hv2 hv3
       go_wp2_with fail
       go_meet
       exact⟨g,m.length,c4,ss,rfl,hnl,by omega,⟨by rw[HEX.out],by rw[HEX.out];exact HV9.out⟩,HN9.out,HB9.out⟩
      ·have hnm2:N=m.length:=by omega
       have hq:((N:Int)==(m.length:Int))=true:=by simp;omega
       have HEX:Hid (extL m N=m++[[]]):=by show _=_;unfold extL;rw[if_neg hnl]
       have HN2:=Lib.hid hnm2
       have hB2:w.heap.size<=w9.heap.size:=HB9.out.size
       have hss:ss.length<=1000:=by have:=HV9.out.len;omega
       clear hnl hnm2
       go_wp2_with (at_builtin;refine ZaP (f:=ZbT) (n:=1) 178 95 24 (.slice none 0 0) Tryz.underlying178 infoSl rfl (by omega) (by omega) ZcX rfl _ _ rfl w.heap.size _ ss rfl (HV9.out.outer.alloc _) ⟨w9.heap.size,0,none⟩ rfl ⟨none,0,0⟩ (ZhA _) (ZaH w9 (ZbT ⟨none,0,0⟩) _ _ rfl) (by omega) (by simp;omega) ?_;intro v' w' h1 h2 h3;obtain⟨g,capg,hv,_,_⟩:=Zae.block h1 (by simp);rw[List.length_append,List.length_singleton]at hv;subst hv)
       go_meet
       have hb4:Below w.heap.size w9 w':=(Zaa w9 _).mono hB2 |>.trans h2
       have hv4:OwnLv w' w.heap.size (.slice (some ⟨g,0,none⟩) (ss.length+1) capg) (ss++[⟨none,0,0⟩]) (m++[[]]):=OwnLv.more (HV9.out.later (Zaa w9 _)) h1 h3
       have hn4:OwnN w' w.heap.size (.slice a9 (j+1) c9) (ats l (j+1)):=World.ownsRow.kept (HN9.out.alloc _) h3 (ZbW (HN9.out.alloc (.cells #[.slice none 0 0] 95)) (HV9.out.outer.alloc _) (Ne.symm ZlO))
       exact⟨g,ss.length+1,capg,_,rfl,by have:=HV9.out.len;have:=HN2.out;omega,by have:=HV9.out.len;omega,⟨by rw[HEX.out];simp[HV9.out.len],by rw[HEX.out];exact hv4⟩,hn4,HB9.out.trans hb4⟩
     case rest=>
      obtain⟨g,M,cap3,ss2,rfl,hnM,hM300,HW,HNc,HBc⟩:=hcut
      clear HV9 HN9 HB9
      have hn2:N<ss2.length:=by rw[HW.out.2.len,<-HW.out.1];exact hnM
      have x0:=OwnLv.cell HW.out.2 HW.out.1 hn2
      have hin:=HW.out.2.inner N hn2
      rw[Zf8]at hin
      have HLs:=HS.out N
      obtain⟨L,hL⟩:∃L,L=m.getD N []:=⟨_,rfl⟩
      rw[<-hL]at hin HLs
      obtain⟨hsn,hse,_,_⟩:=OwnE.sl hin (by omega)
      rw[hsn]at x0
      have HSE:=Lib.hid hse
      have HLL:=Lib.hid hL
      have HSN:=Lib.hid hsn
      clear hin hsn hse hL
      have hg0:∀W,Below wc.heap.size wc W->W.cell? ⟨g,N,none⟩=some (.slice ss2[N].a L.length ss2[N].c):=fun W hW=>Zab hW x0
      have HG0:=Lib.hid hg0
      have hMi:(N:Int)<(M:Int):=by omega
      have hMi0:(0:Int)<=N:=by omega
      have hji:(j:Int)<(l.length:Int):=by omega
      have hji0:(0:Int)<=j:=by omega
      have HEE:Hid (∀W,Below wc.heap.size wc W->W.cell? ⟨b,o+j*4,none⟩=some (.int .i64 e.thread)/\W.cell? ⟨b,o+j*4+1,none⟩=some (.int .i64 e.kind)/\W.cell? ⟨b,o+j*4+2,none⟩=some (.int .i64 e.obj)/\W.cell? ⟨b,o+j*4+3,none⟩=some (.bool e.fail)):=fun W hW=>by
       have h:=HBc.out.trans (hW.mono HBc.out.size)
       exact⟨Zab h HTE.out.1,Zab h HTE.out.2.1,Zab h HTE.out.2.2.1,Zab h HTE.out.2.2.2⟩
      clear hg0 x0
      go_wp2_with fail
      go_loopw [8,9,10] (fun s8 s9 i wr=>∃(q:Nat) (d:Bool) (R:List Ev),q<=L.length/\i=.int .i64 q/\s9=.bool d/\R.length<=q+1/\Hid (InsP e L q d R)/\Hid (OwnE wr wc.heap.size s8 R)/\Hid (Below wc.heap.size wc wr)) (fun _ _ i _=>L.length-(intOf i).toNat)
      case atStart=>exact⟨0,false,[],Nat.zero_le _,rfl,rfl,by simp,insP_zero e L,Zf1 _ _,Below.refl _ _⟩
      case round=>
       obtain⟨q,d,R,hq,rfl,rfl,hRl,HI,HO,HB3⟩:=hrel
       have g0:=HG0.out _ HB3.out
       have hbs:=HB3.out.size
       by_cases hql:q<L.length
       ·obtain⟨bL,oL,hsa,y0,y1,y2,y3⟩:=HSE.out.one hql
        rw[hsa]at g0
        have z0:=Zab HB3.out y0
        have z1:=Zab HB3.out y1
        have z2:=Zab HB3.out y2
        have z3:=Zab HB3.out y3
        obtain⟨e0,e1,e2,e3⟩:=HEE.out _ HB3.out
        have hqi:(q:Int)<(L.length:Int):=by omega
        have hqi0:(0:Int)<=q:=by omega
        have HLT:Hid (d=false->e.thread<(evI L q).thread->InsP e L (q+1) true (R++[e]++[evI L q])):=fun hd h=>by subst hd;exact insP_lt HI.out hql h
        have HGE:Hid (d=false->¬e.thread<(evI L q).thread->InsP e L (q+1) false (R++[evI L q])):=fun hd h=>by subst hd;exact insP_ge HI.out hql h
        have HON:Hid (d=true->InsP e L (q+1) true (R++[evI L q])):=fun hd=>by subst hd;exact insP_on HI.out hql
        have HOW:Hid (∀n,OwnE (wr.drewN n) wc.heap.size u8 R/\Below wc.heap.size wc (wr.drewN n)):=fun n=>⟨HO.out,HB3.out.drewN⟩
        have HALL:Hid (∀W,Below wc.heap.size wc W->W.cell? ⟨g,N,none⟩=some (.slice (some ⟨bL,oL,none⟩) L.length ss2[N].c)/\W.cell? ⟨bL,oL+q*4,none⟩=some (.int .i64 (evI L q).thread)/\W.cell? ⟨bL,oL+q*4+1,none⟩=some (.int .i64 (evI L q).kind)/\W.cell? ⟨bL,oL+q*4+2,none⟩=some (.int .i64 (evI L q).obj)/\W.cell? ⟨bL,oL+q*4+3,none⟩=some (.bool (evI L q).fail)):=fun W hW=>⟨by have h:=HG0.out _ hW;rw[hsa]at h;exact h,Zab hW y0,Zab hW y1,Zab hW y2,Zab hW y3⟩
        clear y0 y1 y2 y3 hsa
        generalize evI L q=y at *
        cases d
        ·by_cases hty:e.thread<y.thread
         ·have hqt:decide (e.thread<y.thread)=true:=by simp[hty]
          have HI2:=Lib.hid (HLT.out rfl hty)
          have hI0:R.length<=q:=by
           rcases HI.out with ⟨_,h,_⟩|⟨h,_⟩
           ·rw[h,List.length_take];omega
           ·cases h
          clear hty
          go_wp2_with fail
          go_quiet (fail)
          have HOQ:=Lib.hid (HOW.out nq).1
          have HBQ:=Lib.hid (HOW.out nq).2
          go_wp2_with (first
           |(at_builtin;refine Zcl rfl _ _ rfl _ _ (R++[e]) rfl (HO9.out.alloc _) ⟨w9.heap.size,0,none⟩ rfl y (Zh5 w9 y _ _ rfl) (by simp;omega) (Nat.le_trans HB9.out.size (Zaa _ _).size) ?_;intro v2 w2 hown2 hb2;have HO2:=Lib.hid hown2;have HB2:=Lib.hid ((HB9.out.alloc HB9.out.size _).trans hb2);clear hown2 hb2)
           |(at_builtin;refine Zcl rfl _ _ rfl _ _ R rfl (HOQ.out.alloc _) ⟨wr.heap.size,0,none⟩ rfl e (Zh5 (wr.drewN nq) e _ _ rfl) (by omega) (Nat.le_trans HBQ.out.size (Zaa _ _).size) ?_;intro v9 w9 hown9 hb9;have HO9:=Lib.hid hown9;have HB9:=Lib.hid ((HBQ.out.alloc HBQ.out.size _).trans hb9);obtain⟨p0,p1,p2,p3,p4⟩:=HALL.out _ HB9.out;clear hown9 hb9))
          go_roundw
          case rel=>exact⟨q+1,true,R++[e]++[y],by omega,by go_num,rfl,by simp;omega,HI2.out,HO2.out,HB2.out⟩
          case measure=>simp[intOf];omega
         ·have hqt:decide (e.thread<y.thread)=false:=by simp;omega
          have HI2:=Lib.hid (HGE.out rfl hty)
          have hI0:R.length<=q:=by
           rcases HI.out with ⟨_,h,_⟩|⟨h,_⟩
           ·rw[h,List.length_take];omega
           ·cases h
          clear hty
          go_wp2_with fail
          go_quiet (fail)
          have HOQ:=Lib.hid (HOW.out nq).1
          have HBQ:=Lib.hid (HOW.out nq).2
          go_wp2_with (at_builtin;refine Zcl rfl _ _ rfl _ _ R rfl (HOQ.out.alloc _) ⟨wr.heap.size,0,none⟩ rfl y (Zh5 (wr.drewN nq) y _ _ rfl) (by omega) (Nat.le_trans HBQ.out.size (Zaa _ _).size) ?_;intro v9 w9 hown9 hb9;have HO9:=Lib.hid hown9;have HB9:=Lib.hid ((HBQ.out.alloc HBQ.out.size _).trans hb9);clear hown9 hb9)
          go_roundw
          case rel=>exact⟨q+1,false,R++[y],by omega,by go_num,rfl,by simp;omega,HI2.out,HO9.out,HB9.out⟩
          case measure=>simp[intOf];omega
        ·have HI2:=Lib.hid (HON.out rfl)
         go_wp2_with fail
         go_quiet (fail)
         have HOQ:=Lib.hid (HOW.out nq).1
         have HBQ:=Lib.hid (HOW.out nq).2
         go_wp2_with (at_builtin;refine Zcl rfl _ _ rfl _ _ R rfl (HOQ.out.alloc _) ⟨wr.heap.size,0,none⟩ rfl y (Zh5 (wr.drewN nq) y _ _ rfl) (by omega) (Nat.le_trans HBQ.out.size (Zaa _ _).size) ?_;intro v9 w9 hown9 hb9;have HO9:=Lib.hid hown9;have HB9:=Lib.hid ((HBQ.out.alloc HBQ.out.size _).trans hb9);clear hown9 hb9)
         go_roundw
         case rel=>exact⟨q+1,true,R++[y],by omega,by go_num,rfl,by simp;omega,HI2.out,HO9.out,HB9.out⟩
         case measure=>simp[intOf];omega
       ·obtain rfl:q=L.length:=by omega
        obtain⟨hi1,hi2⟩:=insP_end HI.out
        have HINS1:=Lib.hid hi1
        have HINS2:=Lib.hid hi2
        have hbl:w.heap.size<=wc.heap.size:=HBc.out.size
        have HSN2:Hid (ss2.length=M):=by show _=_;rw[HW.out.2.len,<-HW.out.1]
        have HPUT:Hid (∀(W:World) (v:Value),OwnE W wc.heap.size v (insE e L)->Below wc.heap.size wc W->∃s':Sl,v=.slice s'.a s'.n s'.c/\(∃old,W.cell? ⟨g,N,none⟩=some old)/\W.frozen? ⟨g,N,none⟩=false/\OwnLv (W.setCell ⟨g,N,none⟩ (.slice s'.a s'.n s'.c)) w.heap.size (.slice (some ⟨g,0,none⟩) M cap3) (ss2.set N s') (lvls (l.take (j+1)))/\OwnN (W.setCell ⟨g,N,none⟩ (.slice s'.a s'.n s'.c)) w.heap.size (.slice a9 (j+1) c9) (ats l (j+1))/\Below w.heap.size w (W.setCell ⟨g,N,none⟩ (.slice s'.a s'.n s'.c))):=fun W v hv hW=>by
         obtain⟨a',cap',hv',_⟩:=OwnE.form hv (by rw[Zdi];omega)
         subst hv'
         obtain⟨p1,p2,p3⟩:=OwnLv.put HW.out.2 HW.out.1 hnM hn2 (s':=⟨a',(insE e L).length,cap'⟩) (ZdF hv hbl) (Zeq hW _) (fun b hb=>.inr (World.ownsRow.lt hv b hb).1)
         have hsN:ss2.length=M:=by rw[HW.out.2.len,<-HW.out.1]
         have hout:W.ownsRow w.heap.size 95 1 (.slice (some ⟨g,0,none⟩) M cap3) ss2.length (Zaq ZbT ss2):=HW.out.2.outer.later hW
         rw[hsN]at hout
         have hst:=hout.stored N (.slice a' (insE e L).length cap')
         have hgB:w.heap.size<=g:=(World.ownsRow.lt hout g rfl).1
         refine⟨⟨a',(insE e L).length,cap'⟩,rfl,Option.isSome_iff_exists.1 p2,p3,?_,World.ownsRow.kept (HNc.out.later hW) hst.2 (ZbW (HNc.out.later hW) hout (Ne.symm ZlO)),(HBc.out.trans (hW.mono hbl)).setCell (p:=⟨g,N,none⟩) hgB _⟩
         rw[HT.out,addL_ext,<-HNN.out,Zf8,<-HLL.out]
         exact p1
        cases d
        ·obtain⟨e0,e1,e2,e3⟩:=HEE.out _ HB3.out
         have HIN:=Lib.hid (HINS1.out rfl)
         have hRl2:R.length<=200+1:=by omega
         go_wp2_with (at_builtin;refine Zcl rfl _ _ rfl _ _ R rfl (HO.out.alloc _) ⟨wr.heap.size,0,none⟩ rfl e (Zh5 wr e _ _ rfl) (by omega) (Nat.le_trans HB3.out.size (Zaa _ _).size) ?_;intro v9 w9 hown9 hb9;rw[HIN.out]at hown9;obtain⟨s9,rfl,⟨old,q2⟩,q3,q4,q5,q6⟩:=HPUT.out _ _ hown9 ((HB3.out.alloc HB3.out.size _).trans hb9);have p0:=HG0.out _ ((HB3.out.alloc HB3.out.size _).trans hb9);have Q4:=Lib.hid q4;have Q5:=Lib.hid q5;have Q6:=Lib.hid q6;clear hown9 hb9 q4 q5 q6)
         go_roundw
         case rel=>exact⟨j+1,_,a9,c9,_,cap3,by omega,by go_num,rfl,by rw[<-Q4.out.len,List.length_set,HSN2.out],Q5.out,Q4.out,Q6.out⟩
         case measure=>simp[intOf];omega
        ·have HIN:=Lib.hid (HINS2.out rfl)
         have hown9:=HO.out
         rw[HIN.out]at hown9
         obtain⟨s9,rfl,⟨old,q2⟩,q3,q4,q5,q6⟩:=HPUT.out _ _ hown9 HB3.out
         have Q4:=Lib.hid q4
         have Q5:=Lib.hid q5
         have Q6:=Lib.hid q6
         clear hown9 q4 q5 q6
         go_wp2_with fail
         go_roundw
         case rel=>exact⟨j+1,_,a9,c9,_,cap3,by omega,by go_num,rfl,by rw[<-Q4.out.len,List.length_set,HSN2.out],Q5.out,Q4.out,Q6.out⟩
         case measure=>simp[intOf];omega
  ·obtain rfl:k=l.length:=by omega
   rw[List.take_length]at HV ⊢
   clear HN
   go_wp2
   go_ret
   exact⟨_,ss,rfl,by rw[HE.out];exact HV.out,HB.out⟩
theorem refRow_any(a:Option Addr)(cap:Nat)(m:List (List Ev))(w:World)(hl:LvAt w a m)(hm:m.length<=1000000)(hf:m.flatten.length<=1000000):
  Calls Tryz.prog 182 #[.slice a m.length cap] w (RowR w m.flatten):=by
 have HL:=Lib.hid hl
 have HF:=Lib.hid hf
 clear hl hf
 go_enter Tryz.func182,Tryz.ntmps182
 go_wp2
 go_loopw [3,4] (fun s i wr=>∃k:Nat,k<=m.length/\i=.int .i64 k/\Hid (RowR w (m.take k).flatten (.returned s) wr)) (fun _ i _=>m.length-(intOf i).toNat)
 case atStart=>exact⟨0,Nat.zero_le _,rfl,⟨_,rfl,Zf1 _ _,Below.refl _ _⟩⟩
 case round=>
  obtain⟨k,hk,rfl,HV⟩:=hrel
  obtain⟨s,hs,hv,hb⟩:=HV.out
  injection hs with hs
  subst hs
  have HO:=Lib.hid hv
  by_cases hlt:k<m.length
  ·obtain⟨b,o,sa,sc,rfl,c0,he,hn⟩:=HL.out.one hlt
   have c1:=Zab hb c0
   have HE:=Lib.hid (he.later hb)
   have HT:=Lib.hid (flat_take m hlt)
   have hle:=flat_le m (k+1)
   have hf:=HF.out
   rw[HT.out,List.length_append]at hle
   have hra:sa=none->sc=0/\m.getD k []=[]:=fun e=>⟨hn e,by subst e;exact evsAt_none he⟩
   have HRA:=Lib.hid hra
   have hBB:=hb.size
   have hlen2:(m.take k).flatten.length+(m.getD k []).length<=1000000:=by omega
   clear hle hra he hn c0 hv hf
   generalize m.getD k []=row at *
   go_wp2_with (at_builtin;refine Zjp rfl _ _ rfl w.heap.size _ _ rfl HO.out sa sc row rfl HE.out HRA.out hlen2 hBB ?_;intro v' w' h1 h2;have HO2:=Lib.hid h1;clear h1)
   go_roundw
   case rel=>exact⟨k+1,by omega,by go_num,by rw[HT.out];exact⟨v',rfl,HO2.out,hb.trans h2⟩⟩
   case measure=>simp[intOf];omega
  ·obtain rfl:k=m.length:=by omega
   rw[List.take_length]at HO
   go_wp2
   go_ret
   exact⟨_,rfl,HO.out,hb⟩
theorem ZiG(a a':Option Addr)(cap cap':Nat)(m m':List (List Ev))(w:World)(hl:LvAt w a m)(hl':LvAt w a' m')(hm:m.length<=1000000)(hm':m'.length<=1000000)(hr:∀i,(m.getD i []).length<=1000000)(hr':∀i,(m'.getD i []).length<=1000000):
  Calls Tryz.prog 183 #[.slice a m.length cap,.slice a' m'.length cap'] w fun r w'=>r=.returned (.bool (decide (m=m')))/\Below w.heap.size w w':=by
 have HL:=Lib.hid hl
 have HL':=Lib.hid hl'
 have HR:=Lib.hid hr
 have HR':=Lib.hid hr'
 clear hl hl' hr hr'
 by_cases hne:m.length=m'.length
 case neg=>
  have hq:((m.length:Int) != m'.length)=true:=by simp;omega
  have H:Hid (decide (m=m')=false):=by show _=_;simp;intro e;exact hne (by rw[e])
  clear hne
  go_enter Tryz.func183,Tryz.ntmps183
  go_wp2
  go_ret
  exact⟨Zag H.out.symm,Below.refl _ _⟩
 have HE:=Lib.hid hne
 have hq:((m.length:Int) != m'.length)=false:=by simp[hne]
 have hm2:m.length<=m'.length:=by omega
 have hm3:m'.length<=m.length:=by omega
 clear hne
 go_enter Tryz.func183,Tryz.ntmps183
 go_wp2
 clear hq
 go_loopw [5] (fun i wr=>∃k:Nat,k<=m.length/\i=.int .i64 k/\Hid (m.take k=m'.take k)/\Hid (Below w.heap.size w wr)) (fun i _=>m.length-(intOf i).toNat)
 case atStart=>exact⟨0,Nat.zero_le _,rfl,rfl,Below.refl _ _⟩
 case round=>
  obtain⟨k,hk,rfl,HT,HB⟩:=hrel
  by_cases hlt:k<m.length
  ·have hlt':k<m'.length:=by omega
   obtain⟨b,o,sa,sc,rfl,t0,he,_⟩:=HL.out.one hlt
   obtain⟨b',o',sa',sc',rfl,t0',he',_⟩:=HL'.out.one hlt'
   have c0:=Zab HB.out t0
   have c0':=Zab HB.out t0'
   have HE1:=Lib.hid (he.later HB.out)
   have HE2:=Lib.hid (he'.later HB.out)
   have hx1:Hid (m.getD k []=m'.getD k []->m.take (k+1)=m'.take (k+1)):=fun h=>take_snoc hlt hlt' HT.out h
   have hx2:Hid (m.getD k []≠m'.getD k []->decide (m=m')=false):=fun h=>by simp;rintro rfl;exact h rfl
   have hlx:=HR.out k
   have hlx':=HR'.out k
   clear t0 t0' he he'
   generalize m.getD k []=x at *
   generalize m'.getD k []=x' at *
   by_cases hxl:x.length=x'.length
   case neg=>
    have hq:((x.length:Int) != x'.length)=true:=by simp;omega
    have HN:=Lib.hid (hx2.out (fun e=>hxl (by rw[e])))
    clear hxl hx1 hx2
    go_wp2_with fail
    go_quiet (fail)
    go_wp2
    go_ret
    exact⟨Zag HN.out.symm,HB.out.drewN⟩
   have hq:((x.length:Int) != x'.length)=false:=by simp[hxl]
   have hxl1:x.length<=x'.length:=by omega
   have hxl2:x'.length<=x.length:=by omega
   have HXL:=Lib.hid hxl
   clear hxl
   go_wp2_with fail
   go_quiet (fail)
   go_wp2_with fail
   clear hq
   go_loopw [6] (fun i w2=>∃j:Nat,j<=x.length/\i=.int .i64 j/\Hid (x.take j=x'.take j)/\Hid (Below wr.heap.size wr w2)) (fun i _=>x.length-(intOf i).toNat)
   case atStart=>exact⟨0,Nat.zero_le _,rfl,rfl,(Below.refl _ _).drewN⟩
   case round=>
    obtain⟨j,hj,rfl,HJ,HB2⟩:=hrel
    have d0:=Zab HB2.out c0
    have d0':=Zab HB2.out c0'
    have HB3:=Lib.hid (HB.out.trans (HB2.out.mono HB.out.size))
    clear c0 c0'
    by_cases hjl:j<x.length
    ·have hjl':j<x'.length:=by omega
     obtain⟨xb,xo,rfl,x0,x1,x2,x3⟩:=HE1.out.one hjl
     obtain⟨yb,yo,rfl,y0,y1,y2,y3⟩:=HE2.out.one hjl'
     have e0:=Zab HB2.out x0
     have e1:=Zab HB2.out x1
     have e2:=Zab HB2.out x2
     have e3:=Zab HB2.out x3
     have f0:=Zab HB2.out y0
     have f1:=Zab HB2.out y1
     have f2:=Zab HB2.out y2
     have f3:=Zab HB2.out y3
     clear x0 x1 x2 x3 y0 y1 y2 y3
     have heq:=ZdB (evI x j) (evI x' j)
     by_cases he:evI x j=evI x' j
     ·have hq2:decide (evI x j=evI x' j)=true:=by simp[he]
      rw[hq2]at heq
      have HN:Hid (x.take (j+1)=x'.take (j+1)):=by
       show _=_
       rw[List.take_succ_eq_append_getElem hjl,List.take_succ_eq_append_getElem hjl',HJ.out,<-Za4 hjl,<-Za4 hjl',he]
      clear he hq2
      generalize evI x j=p at *
      generalize evI x' j=p' at *
      go_wp2_with fail
      go_quiet (fail)
      go_wp2
      go_roundw
      case rel=>exact⟨j+1,by omega,by go_num,HN,HB2.out.drewN⟩
      case measure=>simp[intOf];omega
     ·have hq2:decide (evI x j=evI x' j)=false:=by simpa using he
      rw[hq2]at heq
      have HN:Hid (decide (m=m')=false):=hx2.out (fun e=>he (by rw[e]))
      clear he hq2
      generalize evI x j=p at *
      generalize evI x' j=p' at *
      go_wp2_with fail
      go_quiet (fail)
      go_wp2
      go_ret
      exact⟨Zag HN.out.symm,HB3.out.drewN⟩
    ·obtain rfl:j=x.length:=by omega
     have HN:Hid (m.take (k+1)=m'.take (k+1)):=by
      have h:=HJ.out
      rw[List.take_length,HXL.out,List.take_length]at h
      exact hx1.out h
     clear hx1 hx2
     go_wp2
     go_roundw
     case rel=>exact⟨k+1,by omega,by go_num,HN,HB3.out⟩
     case measure=>simp[intOf];omega
  ·obtain rfl:k=m.length:=by omega
   have HR:Hid (decide (m=m')=true):=by
    show _=_
    have h:=HT.out
    rw[List.take_length,HE.out,List.take_length]at h
    simp[h]
   go_wp2
   go_ret
   exact⟨Zag HR.out.symm,HB.out⟩
theorem levelsF_ne(l:List Ev)(i:Nat)(hi:i<(Zao l).length):(Zao l).getD i []≠[]:=by
 unfold Zao at *
 split at hi
 ·rw[if_pos (by assumption)]
  exact(lvls_ok l).full i hi
 ·simp at hi
theorem ZlJ{m:List (List Ev)}(h:ZaQ m.flatten=false):Zao m.flatten≠m:=by
 intro e
 have h0:Zao m.flatten=[]:=by unfold Zao;rw[h];rfl
 rw[h0]at e
 subst e
 revert h
 decide
theorem Zhm(a:Option Addr)(cap:Nat)(m:List (List Ev))(w:World)(hl:LvAt w a m)(hm:m.length<=1000000)(hf:m.flatten.length<=1000000)(hr:∀i,(m.getD i []).length<=1000000):
  Calls Tryz.prog 152 #[.slice a m.length cap] w fun r w'=>r=.returned (.bool (decide (Zao m.flatten=m)))/\Below w.heap.size w w':=by
 have HL:=Lib.hid hl
 have HF:=Lib.hid hf
 have HC:Hid (∀W,Below w.heap.size w W->Calls Tryz.prog 182 #[.slice a m.length cap] W (RowR W m.flatten)):=fun W hW=>refRow_any a cap m W (hl.later hW) hm hf
 have HE0:Hid (∀i,i<m.length->m.getD i []=[]->decide (Zao m.flatten=m)=false):=fun i hi h=>by
  simp only[decide_eq_false_iff_not]
  intro e
  refine levelsF_ne m.flatten i (by rw[e];exact hi) ?_
  rw[e]
  exact h
 have HB0:Hid (ZaQ m.flatten=false->decide (Zao m.flatten=m)=false):=fun h=>by simp only[decide_eq_false_iff_not];exact ZlJ h
 have HSM:Hid (∀a2 cap2 W,LvAt W a2 (Zao m.flatten)->Below w.heap.size w W->Calls Tryz.prog 183 #[.slice a2 (Zao m.flatten).length cap2,.slice a m.length cap] W fun r w'=>r=.returned (.bool (decide (Zao m.flatten=m)))/\Below W.heap.size W w'):=fun a2 cap2 W h1 hW=>
  ZiG a2 a cap2 cap (Zao m.flatten) m W h1 (hl.later hW) (by have:=Zdf m.flatten;omega) hm (fun i=>by have:=Zcw m.flatten i;omega) hr
 clear hl hf hr
 obtain⟨D,hD⟩:∃D,D=decide (Zao m.flatten=m):=⟨_,rfl⟩
 rw[<-hD]at HE0 HB0 HSM ⊢
 clear hD
 go_enter Tryz.func152,Tryz.ntmps152
 go_wp2
 go_loopw [3] (fun i wr=>∃k:Nat,k<=m.length/\i=.int .i64 k/\Hid (Below w.heap.size w wr)) (fun i _=>m.length-(intOf i).toNat)
 case atStart=>exact⟨0,Nat.zero_le _,rfl,Below.refl _ _⟩
 case round=>
  obtain⟨k,hk,rfl,HB⟩:=hrel
  by_cases hlt:k<m.length
  ·obtain⟨b,o,sa,sc,rfl,c0,_,_⟩:=HL.out.one hlt
   have c1:=Zab HB.out c0
   have HK0:=Lib.hid (HE0.out k hlt)
   clear c0
   by_cases h0:m.getD k []=[]
   ·have HR:=Lib.hid (HK0.out h0)
    have hq:(((m.getD k []).length:Int)==0)=true:=by rw[h0];rfl
    clear h0 HK0
    generalize m.getD k []=row at *
    go_wp2
    go_ret
    exact⟨Zag HR.out.symm,HB.out⟩
   ·have hq:(((m.getD k []).length:Int)==0)=false:=by
     have:=List.length_pos_iff.2 h0
     simp
     exact h0
    clear h0 HK0
    generalize m.getD k []=row at *
    go_wp2
    go_roundw
    case rel=>exact⟨k+1,by omega,by go_num,HB.out⟩
    case measure=>simp[intOf];omega
  ·obtain rfl:k=m.length:=by omega
   have HC1:=Lib.hid (HC.out _ HB.out)
   have hBB:=HB.out.size
   clear HE0 HC hlt
   go_wp2_with fail
   refine HC1.out.mono ?_
   rintro r w1⟨v1,rfl,h1,hb1⟩
   have hb1':=HB.out.trans (hb1.mono hBB)
   obtain⟨a1,cap1,rfl,he1⟩:=OwnE.form h1 HF.out
   have HE1:=Lib.hid he1
   clear h1 he1 HC1 hb1
   have HRF:Hid (ZaQ m.flatten=(decide (m.flatten.length<=200)&&Zaw m.flatten)):=rfl
   generalize m.flatten=fl at *
   by_cases h200:fl.length<=200
   case neg=>
    have hq:decide ((fl.length:Int)<=200)=false:=by simp;omega
    have hq2:decide (fl.length<=200)=false:=by simp;omega
    have HR:=Lib.hid (HB0.out (by rw[HRF.out,hq2];rfl))
    clear h200 HB0
    go_wp2
    go_ret
    exact⟨Zag HR.out.symm,hb1'⟩
   have hq:decide ((fl.length:Int)<=200)=true:=by simp;omega
   have hq2:decide (fl.length<=200)=true:=by simp;omega
   have HRC:=Lib.hid (ZiB a1 cap1 fl w1 HE1.out)
   cases hr:Zaw fl
   ·have HR:=Lib.hid (HB0.out (by rw[HRF.out,hr];simp))
    rw[hr]at HRC
    clear HB0 hr
    go_wp2_with fail
    refine HRC.out.mono ?_
    rintro r w2⟨rfl,hb2⟩
    have hb2':=hb1'.trans (hb2.mono hb1'.size)
    go_wp2
    go_ret
    exact⟨Zag HR.out.symm,hb2'⟩
   ·rw[hr]at HRC
    clear HB0 hr
    go_wp2_with fail
    refine HRC.out.mono ?_
    rintro r w2⟨rfl,hb2⟩
    have hb2':=hb1'.trans (hb2.mono hb1'.size)
    have HLC:=Lib.hid (ZeE a1 cap1 fl w2 (HE1.out.later hb2))
    clear hb2
    go_wp2_with fail
    refine HLC.out.mono ?_
    rintro r w3⟨v3,ss,rfl,h3,hb3⟩
    obtain⟨a3,cap3,rfl,hat,_⟩:=OwnLv.formF h3
    have hb3':=hb2'.trans (hb3.mono hb2'.size)
    have HSM2:=Lib.hid (HSM.out a3 cap3 w3 hat hb3')
    clear hat h3 hb3
    go_wp2_with fail
    refine HSM2.out.mono ?_
    rintro r w4⟨rfl,hb4⟩
    have hb4':=hb3'.trans (hb4.mono hb3'.size)
    go_wp2
    go_ret
    exact⟨rfl,hb4'⟩
theorem ZjQ{w:World}{B:Nat}{v:Value}{ns:List Int}(h:OwnB w B v ns):(convert 56 9 v).run Tryz.prog w=.ok (.string (bstr ns)) w:=by
 by_cases hn:ns=[]
 ·subst hn
  obtain⟨h1,⟨h2,h3⟩|⟨g,cap,cur,h2,h3,h4,h5,h6,h7,h8⟩⟩:=h
  ·subst h2
   rw[run_convert_bytes_string w _ _ 5 _ _ _ Tryz.underlying56 Tryz.underlying5 Tryz.underlying9]
   simp[Conv.bytesToString,bstr]
   rfl
  ·subst h2
   rw[run_convert_bytes_string w _ _ 5 _ _ _ Tryz.underlying56 Tryz.underlying5 Tryz.underlying9]
   have hl:=run_loadCells_list (P:=Tryz.prog) w ⟨g,0,none⟩ ([].map (Value.int .u8)) (by simp)
   rw[List.length_map]at hl
   have hb:=run_bytesToString w ⟨g,0,none⟩ _ cap [] hl
   exact hb
 ·exact Zmp h hn
theorem Zho(a:Option Addr)(cap:Nat)(l:List Ev)(w:World)(hl:EvsAt w a l)(hm:l.length<=1000000):
  Calls Tryz.prog 153 #[.slice a l.length cap] w fun r w'=>r=.returned (.string (bstr (ZaR l)))/\Below w.heap.size w w':=by
 have HL:=Lib.hid hl
 clear hl
 go_enter Tryz.func153,Tryz.ntmps153
 go_wp2
 go_loopw [3,4] (fun v i wr=>∃(k:Nat) (ns:List Int),k<=l.length/\i=.int .i64 k/\Hid ((l.take k).all Zay=true)/\Hid (ns=(l.take k).map evB)/\ns.length=k/\OwnB wr w.heap.size v ns/\Below w.heap.size w wr) (fun _ i _=>l.length-(intOf i).toNat)
 case atStart=>exact⟨0,[],Nat.zero_le _,rfl,rfl,rfl,rfl,World.ownsRow_nil _ _ _ _,Below.refl _ _⟩
 case round=>
  obtain⟨k,ns,hk,rfl,HA,HN,hnl,hown,hb⟩:=hrel
  have HO:=Lib.hid hown
  clear hown
  by_cases hlt:k<l.length
  ·obtain⟨b,o,rfl,hc⟩:=HL.out.2 (by intro e;simp[e]at hlt)
   obtain⟨c0,c1,c2,c3⟩:=hc k hlt
   have d0:=Zab hb c0
   have d1:=Zab hb c1
   have d2:=Zab hb c2
   have d3:=Zab hb c3
   clear hc c0 c1 c2 c3
   have HT0:=Lib.hid (List.take_succ_eq_append_getElem hlt:l.take (k+1)=l.take k++[l[k]])
   have HT:Hid (ns++[evB l[k]]=(l.take (k+1)).map evB):=by
    show _=_
    rw[List.take_succ_eq_append_getElem hlt,List.map_append,<-HN.out]
    rfl
   have HX:=Lib.hid (List.getElem_mem hlt)
   generalize l[k]=x at *
   go_wp2_with fail
   refine(Zee x _).mono ?_
   rintro r w2⟨rfl,hb2⟩
   have HO2:=Lib.hid (Zbv HO.out hb2)
   have hw2:Below w.heap.size w w2:=hb.trans (hb2.mono hb.size)
   have e0:=Zab hb2 d0
   have e1:=Zab hb2 d1
   have e2:=Zab hb2 d2
   have e3:=Zab hb2 d3
   clear HO hb hb2 d0 d1 d2 d3
   cases hr:Zay x
   ·have HR:Hid (ZaR l=[]):=by
     show _=_
     unfold ZaR
     rw[if_neg]
     intro h
     rw[List.all_eq_true]at h
     rw[h x HX.out]at hr
     cases hr
    clear hr
    go_wp2
    go_ret
    exact⟨Zcs (by rw[HR.out];rfl),hw2⟩
   ·have HR:=Lib.hid hr
    clear hr
    go_wp2_with fail
    refine(Zlk x HR.out _).mono ?_
    rintro r w3⟨rfl,hb3⟩
    have hown3:=Zbv HO2.out hb3
    have hw3:Below w.heap.size w w3:=hw2.trans (hb3.mono hw2.size)
    have bd:=evB_bd HR.out
    have hwr:IntKind.u8.wrap (evB x)=evB x:=IntWalk.u8_in _ (by omega)
    have hz:=hw3.size
    clear e0 e1 e2 e3 HO2 hb3
    go_wp2_with (at_builtin;refine Ze3 rfl (.tmp 17) (.tmp 24) rfl w.heap.size _ ns rfl (OwnB.alloc hown3 _) ⟨w3.heap.size,0,none⟩ 1 1 rfl [evB x] rfl (Zha w3 [evB x] _ _ rfl) (by omega) (by simp;omega) ?_;intro v1 w4 hown4 hb4)
    have hb5:=(hw3.alloc hz _).trans hb4
    go_roundw
    case rel=>exact⟨k+1,ns++[evB x],by omega,by go_num,(by show _=_;rw[HT0.out,List.all_append,HA.out];simp[HR.out]),HT,by simp;omega,hown4,hb5⟩
    case measure=>simp[intOf];omega
  ·obtain rfl:k=l.length:=by omega
   have hcv:=ZjQ HO.out
   have HP:Hid (ZaR l=ns):=by
    show _=_
    unfold ZaR
    have h:=HA.out
    have h2:=HN.out
    rw[List.take_length]at h h2
    rw[if_pos h,h2]
   go_wp2
   go_ret
   exact⟨Zcs (by rw[HP.out]),hb⟩
theorem Zgd(a b:List Int):bstr a++bstr b=bstr (a++b):=by
 apply ByteArray.ext
 simp[bstr]
theorem spell_take(m:List (List Ev)){k:Nat}(hk:k<m.length):(m.take (k+1)).flatMap lvB=(m.take k).flatMap lvB++([((m.getD k []).length:Int)]++ZaR (m.getD k [])):=by
 rw[List.take_succ_eq_append_getElem hk,List.flatMap_append,Zav _ hk]
 simp[lvB]
theorem ZcJ{w:World}{g:Nat}{x:Int}(hc:w.cell? ⟨g,0,none⟩=some (.int .u8 x)):(convert 56 9 (.slice (some ⟨g,0,none⟩) 1 1)).run Tryz.prog w=.ok (.string (bstr [x])) w:=by
 rw[run_convert_bytes_string w _ _ 5 _ _ _ Tryz.underlying56 Tryz.underlying5 Tryz.underlying9]
 have hl:=run_loadCells_list (P:=Tryz.prog) w ⟨g,0,none⟩ ([x].map (Value.int .u8)) (by intro j u hj;match j with|0=>(simp at hj;subst hj;exact hc)|j+1=>simp at hj)
 have h2:=run_bytesToString w ⟨g,0,none⟩ _ 1 [x] hl
 rw[Zd8]at h2
 have e:ByteArray.empty.data=#[]:=rfl
 rw[e,Array.empty_append]at h2
 exact h2
theorem Zgc(w:World)(x:Int):(w.alloc (.cells #[.int .u8 x] 5)).cell? ⟨w.heap.size,0,none⟩=some (.int .u8 x):=by
 rw[World.cell?_alloc_new]
 rfl
theorem Zhn(a:Option Addr)(cap:Nat)(m:List (List Ev))(w:World)(hl:LvAt w a m)(hm:m.length<=1000000)(hf:m.flatten.length<=1000000)(hr:∀i,(m.getD i []).length<=1000000):
  Calls Tryz.prog 97 #[.slice a m.length cap] w fun r w'=>r=.returned (.string (bstr (ZfC m)))/\Below w.heap.size w w':=by
 have HL:=Lib.hid hl
 have HC:=Lib.hid (Zhm a cap m w hl hm hf hr)
 have HP:Hid (ZfC m=if decide (Zao m.flatten=m)=true then Zce m else []):=by show _=_;unfold ZfC;simp
 have HS:Hid (decide (Zao m.flatten=m)=true->∀i,(m.getD i []).length<=200):=fun h i=>by
  have:=Zcw m.flatten i
  rw[of_decide_eq_true h]at this
  omega
 have HLB:Hid (∀k,((m.take k).flatMap lvB).length<=2000000):=fun k=>by
  by_cases hk:k<=m.length
  ·have:=ZlI m k;omega
  ·have:=ZlI m m.length
   rw[List.take_length]at this
   rw[List.take_of_length_le (by omega)]
   omega
 clear hl hf hr
 generalize decide (Zao m.flatten=m)=D at *
 cases D
 ·have HP2:Hid (ZfC m=[]):=by show _=_;rw[HP.out];rfl
  clear HS HP
  go_enter Tryz.func97,Tryz.ntmps97
  go_wp2_with fail
  refine HC.out.mono ?_
  rintro r w1⟨rfl,hb1⟩
  clear HC
  go_wp2
  go_ret
  exact⟨Zcs (by rw[HP2.out];rfl),hb1⟩
 ·have HP2:Hid (ZfC m=Zce m):=by show _=_;rw[HP.out];rfl
  have HS2:=Lib.hid (HS.out rfl)
  clear HS HP
  go_enter Tryz.func97,Tryz.ntmps97
  go_wp2_with fail
  refine HC.out.mono ?_
  rintro r w1⟨rfl,hb1⟩
  clear HC
  go_wp2_with fail
  go_loopw [3,4] (fun s i wr=>∃k:Nat,k<=m.length/\i=.int .i64 k/\s=.string (bstr ((m.take k).flatMap lvB))/\Hid (Below w.heap.size w wr)) (fun _ i _=>m.length-(intOf i).toNat)
  case atStart=>exact⟨0,Nat.zero_le _,rfl,rfl,hb1⟩
  case round=>
   clear hb1
   obtain⟨k,hk,rfl,rfl,HB⟩:=hrel
   by_cases hlt:k<m.length
   ·obtain⟨b,o,sa,sc,rfl,c0,he0,_⟩:=HL.out.one hlt
    have c1:=Zab HB.out c0
    have HE1:=Lib.hid (he0.later HB.out)
    have HT:=Lib.hid (spell_take m hlt)
    have hlen:=HS2.out k
    have hpre:=HLB.out k
    have hro:=ZgC (m.getD k [])
    clear c0 he0
    generalize (m.take k).flatMap lvB=pre at *
    generalize m.getD k []=row at *
    have hB9:Below wr.heap.size wr wr.drew:=(Below.refl _ _).drew
    have hBA:Below wr.heap.size wr (wr.alloc (.cells #[.int .u8 (row.length:Int)] 5)).drew:=(Zaa wr _).drew
    have hwr:IntKind.u8.wrap (row.length:Int)=row.length:=IntWalk.u8_in _ (by omega)
    have HX1:Hid ((convert 56 9 (.slice (some ⟨wr.heap.size,0,none⟩) 1 1)).run Tryz.prog (wr.alloc (.cells #[.int .u8 (row.length:Int)] 5)).drew=.ok (.string (bstr [(row.length:Int)])) (wr.alloc (.cells #[.int .u8 (row.length:Int)] 5)).drew):=ZcJ (Zgc wr _)
    have HX3:Hid (∀W:World,(convert 56 9 (.slice (some ⟨W.heap.size,0,none⟩) 1 1)).run Tryz.prog (W.alloc (.cells #[.int .u8 (row.length:Int)] 5))=.ok (.string (bstr [(row.length:Int)])) (W.alloc (.cells #[.int .u8 (row.length:Int)] 5))):=fun W=>ZcJ (Zgc W _)
    have HX5:Hid (∀W,Below (wr.alloc (.cells #[.int .u8 (row.length:Int)] 5)).drew.heap.size (wr.alloc (.cells #[.int .u8 (row.length:Int)] 5)).drew W->(convert 56 9 (.slice (some ⟨wr.heap.size,0,none⟩) 1 1)).run Tryz.prog W=.ok (.string (bstr [(row.length:Int)])) W):=fun W hW=>ZcJ (Zab hW (show(wr.alloc (.cells #[.int .u8 (row.length:Int)] 5)).drew.cell? ⟨wr.heap.size,0,none⟩=_ from Zgc wr _))
    have HCALL:Hid (∀W,Below wr.heap.size wr W->Calls Tryz.prog 153 #[.slice sa row.length sc] W fun r w'=>r=.returned (.string (bstr (ZaR row)))/\Below W.heap.size W w'):=fun W hW=>Zho sa sc row W (HE1.out.later hW) (by omega)
    have HQ:Hid (∀W,Below wr.heap.size wr W->W.cell? ⟨b,o+k,none⟩=some (.slice sa row.length sc)):=fun W hW=>Zab hW c1
    have HT2:Hid (bstr pre++(bstr [(row.length:Int)]++bstr (ZaR row))=bstr ((m.take (k+1)).flatMap lvB)):=by show _=_;rw[Zgd,Zgd,<-HT.out]
    have hki:(k:Int)<(m.length:Int):=by omega
    have hz1:¬ 9223372036854775807<(bstr [(row.length:Int)]).size+(bstr (ZaR row)).size:=by rw[Zbz,Zbz];simp;omega
    have hz2:¬ 9223372036854775807<(bstr pre).size+(bstr [(row.length:Int)]++bstr (ZaR row)).size:=by rw[Zgd,Zbz,Zbz,List.length_append];simp;omega
    have hz3:¬ 9223372036854775807<(bstr pre).size+((bstr [(row.length:Int)]).size+(bstr (ZaR row)).size):=by rw[Zbz,Zbz,Zbz];simp;omega
    have hX1:=HX1.out
    have hX3:=HX3.out
    clear HT
    obtain⟨S2,hS2⟩:∃S2,S2=bstr ((m.take (k+1)).flatMap lvB):=⟨_,rfl⟩
    rw[<-hS2]at HT2
    have HSE:=Lib.hid hS2
    clear hS2
    go_wp2_with fail
    have k2:(wr.alloc (.cells #[.int .u8 (row.length:Int)] 5)).cell? ⟨b,o+k,none⟩=some (.slice sa row.length sc):=HQ.out _ (Zaa wr _)
    go_region_with (first
     |(go_simp;go_at_call 153;((with_reducible refine(HCALL.out _ hB9).mono ?_);rintro r w10⟨rfl,hb10⟩;have hB10:=hB9.trans (hb10.mono hB9.size);have c10:=HQ.out _ hB10;have c11:=HQ.out _ (hB10.alloc hB10.size (.cells #[.int .u8 (row.length:Int)] 5))))
     |(go_simp;go_at_call 153;((with_reducible refine(HCALL.out _ hBA).mono ?_);rintro r w10⟨rfl,hb10⟩;have hB10:=hBA.trans (hb10.mono hBA.size);have c10:=HQ.out _ hB10;have hX2:=HX5.out _ hb10)))
    all_goals
     have HBZ:=Lib.hid (HB.out.trans (hB10.mono HB.out.size))
     have HBY:=Lib.hid (HBZ.out.alloc HBZ.out.size (.cells #[.int .u8 (row.length:Int)] 5))
     rw[HT2.out]
     go_wp2
     go_roundw
     case rel=>exact⟨k+1,by omega,by go_num,by rw[HSE.out],(by first|exact HBZ.out|exact HBY.out)⟩
     case measure=>simp[intOf];omega
   ·obtain rfl:k=m.length:=by omega
    rw[List.take_length]
    have hcv:=ZcJ (Zgc wr 0)
    have hwz:Below w.heap.size w (wr.alloc (.cells #[.int .u8 0] 5)):=HB.out.alloc HB.out.size _
    have hz1:¬ 9223372036854775807<(bstr (m.flatMap lvB)).size+(bstr [0]).size:=by have h:=HLB.out m.length;rw[List.take_length]at h;rw[Zbz,Zbz];simp only[List.length_singleton];omega
    have HT2:Hid (bstr (m.flatMap lvB)++bstr [0]=bstr (Zce m)):=by show _=_;rw[Zgd];rfl
    go_wp2
    go_ret
    exact⟨Zcs (by rw[HP2.out,<-HT2.out]),hwz⟩
theorem ZfT{l:List Ev}(hr:ZaQ l=true):Zao (lvls l).flatten=lvls l:=by
 have h1:Zaw l=true/\l.length<=200:=by
  unfold ZaQ at hr
  simp at hr
  exact⟨hr.2,hr.1⟩
 have h2:ZaQ (lvls l).flatten=true:=by
  unfold ZaQ
  rw[Zff]
  simp only[Bool.and_eq_true,decide_eq_true_eq]
  refine⟨h1.2,?_⟩
  have h:=h1.1
  unfold Zaw at *
  exact List.all_eq_true.2 fun e he=>List.all_eq_true.1 h e (mem_lvls he)
 unfold Zao
 rw[if_pos h2]
 exact(ZiU _ _).2 (Zlb l)
theorem ZiJ(l:List Ev)(hr:ZaQ l=true):ZfC (Zao l)=keyF l:=by
 have h0:Zao l=lvls l:=by unfold Zao;rw[if_pos hr]
 unfold ZfC keyF
 rw[h0,ZfT hr,if_pos rfl,if_pos hr]
theorem refKey_any(a:Option Addr)(cap:Nat)(l:List Ev)(w:World)(hl:EvsAt w a l):
  Calls Tryz.prog 58 #[.slice a l.length cap] w fun r w'=>r=.returned (.string (bstr (keyF l)))/\Below w.heap.size w w':=by
 have hm:=hl.1
 unfold maxLen at hm
 have HRC:=Lib.hid (ZiB a cap l w hl)
 have HL:=Lib.hid hl
 clear hl
 have HRF:Hid (ZaQ l=(decide (l.length<=200)&&Zaw l)):=rfl
 have HE:Hid (ZaQ l=false->keyF l=[]):=fun h=>by unfold keyF;rw[h];rfl
 have HE2:Hid (ZaQ l=true->ZfC (Zao l)=keyF l):=ZiJ l
 cases hr:Zaw l
 ·have HE3:=Lib.hid (HE.out (by rw[HRF.out,hr];simp))
  rw[hr]at HRC
  clear hr HE2 HE
  go_enter Tryz.func58,Tryz.ntmps58
  go_wp2_with fail
  refine HRC.out.mono ?_
  rintro r w1⟨rfl,hb1⟩
  clear HRC
  go_wp2
  go_ret
  exact⟨Zcs (by rw[HE3.out];rfl),hb1⟩
 rw[hr]at HRC
 by_cases h200:l.length<=200
 case neg=>
  have HE3:=Lib.hid (HE.out (by rw[HRF.out,hr];simp;omega))
  have hq:decide ((200:Int)<(l.length:Int))=true:=by simp;omega
  have hq2:200<l.length:=by omega
  clear hr HE2 HE h200
  go_enter Tryz.func58,Tryz.ntmps58
  go_wp2_with fail
  refine HRC.out.mono ?_
  rintro r w1⟨rfl,hb1⟩
  clear HRC
  go_wp2
  go_ret
  exact⟨Zcs (by rw[HE3.out];rfl),hb1⟩
 have HE3:=Lib.hid (HE2.out (by rw[HRF.out,hr];simp;omega))
 have hq:decide ((200:Int)<(l.length:Int))=false:=by simp;omega
 have hq2:¬ 200<l.length:=by omega
 clear hr HE2 HE h200
 go_enter Tryz.func58,Tryz.ntmps58
 go_wp2_with fail
 refine HRC.out.mono ?_
 rintro r w1⟨rfl,hb1⟩
 clear HRC
 have HLC:=Lib.hid (ZeE a cap l w1 (HL.out.later hb1))
 go_wp2_with fail
 refine HLC.out.mono ?_
 rintro r w2⟨v,ss,rfl,hv,hb2⟩
 obtain⟨a2,cap2,rfl,hat,_⟩:=OwnLv.formF hv
 have HC:=Lib.hid (Zhn a2 cap2 (Zao l) w2 hat (by have:=Zdf l;omega) (by have:=ZfJ l;omega) (fun i=>by have:=Zcw l i;omega))
 rw[HE3.out]at HC
 have hb3:=hb1.trans (hb2.mono hb1.size)
 clear hv hat hb1 hb2 HLC HE3
 generalize Zao l=m at *
 go_wp2_with fail
 refine HC.out.mono ?_
 rintro r w3⟨rfl,hb4⟩
 have hb5:=hb3.trans (hb4.mono hb3.size)
 clear HC hb3 hb4
 go_wp2
 go_ret
 exact⟨rfl,hb5⟩
structure SumV where
 k:List Key
 r:Nat
 c:Nat
 st:Nat
def sumA(x:SumV)(ka:Option Addr)(kc:Nat):Array Value:=#[.slice ka x.k.length kc,.int .i64 (x.r:Int),.int .i64 (x.c:Int),.int .i64 (x.st:Int)]
def SumAt(w:World)(mb B:Nat)(x:SumV):Prop:=∃ka kc,w.heap[mb]?=some (.cells (sumA x ka kc) 32 (0,0))/\Zae w B 9 1 Zai (.slice ka x.k.length kc) x.k
def BdS(x:SumV):Prop:=x.k.length<=x.c/\x.r<=x.c/\x.st<=x.c
def OvP(n:Nat)(s:St)(row:List Ev)(most:Nat)(x y:SumV):Prop:=
 (x.c+s.pre n<=most->y.c=x.c+s.pre n/\y.k=(Zau (s.runs n row)).foldl putK x.k/\y.r=x.r+(s.runs n row).length/\y.st=x.st+Za9 (s.runs n row)) /\
  (most<x.c+s.pre n->most<y.c)/\(most<=x.c->y.c=x.c+1)/\(x.c<most->y.c<=most+4*n+1)/\BdS y
section
variable{w:World}{mb B:Nat}{x:SumV}
theorem SumAt.cells(h:SumAt w mb B x):∃ka kc,(w.cell? ⟨mb,0,none⟩=some (.slice ka x.k.length kc)/\w.cell? ⟨mb,1,none⟩=some (.int .i64 (x.r:Int))/\w.cell? ⟨mb,2,none⟩=some (.int .i64 (x.c:Int))/\w.cell? ⟨mb,3,none⟩=some (.int .i64 (x.st:Int))) /\
  (w.frozen? ⟨mb,0,none⟩=false/\w.frozen? ⟨mb,1,none⟩=false/\w.frozen? ⟨mb,2,none⟩=false/\w.frozen? ⟨mb,3,none⟩=false)/\Zae w B 9 1 Zai (.slice ka x.k.length kc) x.k:=by
 obtain⟨ka,kc,h1,h2⟩:=h
 have hc:∀j,w.cell? ⟨mb,j,none⟩=(sumA x ka kc)[j]?:=fun j=>by
  unfold World.cell?
  dsimp only
  rw[h1]
  rfl
 have hf:∀j,w.frozen? ⟨mb,j,none⟩=false:=fun j=>by
  unfold World.frozen?
  dsimp only
  rw[h1]
  rfl
 exact⟨ka,kc,⟨hc 0,hc 1,hc 2,hc 3⟩,⟨hf 0,hf 1,hf 2,hf 3⟩,h2⟩
theorem SumAt.lt(h:SumAt w mb B x):mb<w.heap.size:=by
 obtain⟨_,_,h1,_⟩:=h
 exact(Array.getElem?_eq_some_iff.1 h1).1
theorem SumAt.later{w':World}(h:SumAt w mb B x)(hb:Below w.heap.size w w'):SumAt w' mb B x:=by
 have hl:=h.lt
 obtain⟨ka,kc,h1,h2⟩:=h
 exact⟨ka,kc,(hb.block mb hl).trans h1,h2.later hb⟩
theorem ZiC{w:World}{B:Nat}{v:Value}{ks:List Key}(h:Zae w B 9 1 Zai v ks)(hm:mb<B)(j:Nat)(u:Value):Zae (w.setCell ⟨mb,j,none⟩ u) B 9 1 Zai v ks:=ownsRow_setCell_below (a:=⟨mb,j,none⟩) h hm u
theorem SumAt.setC(h:SumAt w mb B x)(hm:mb<B)(n:Nat):SumAt (w.setCell ⟨mb,2,none⟩ (.int .i64 (n:Int))) mb B { x with c:=n }:=by
 obtain⟨ka,kc,h1,h2⟩:=h
 exact⟨ka,kc,by rw[heap_setCell_same w mb 2 _ _ _ h1];rfl,ZiC h2 hm _ _⟩
theorem SumAt.setR(h:SumAt w mb B x)(hm:mb<B)(n:Nat):SumAt (w.setCell ⟨mb,1,none⟩ (.int .i64 (n:Int))) mb B { x with r:=n }:=by
 obtain⟨ka,kc,h1,h2⟩:=h
 exact⟨ka,kc,by rw[heap_setCell_same w mb 1 _ _ _ h1];rfl,ZiC h2 hm _ _⟩
theorem SumAt.setS(h:SumAt w mb B x)(hm:mb<B)(n:Nat):SumAt (w.setCell ⟨mb,3,none⟩ (.int .i64 (n:Int))) mb B { x with st:=n }:=by
 obtain⟨ka,kc,h1,h2⟩:=h
 exact⟨ka,kc,by rw[heap_setCell_same w mb 3 _ _ _ h1];rfl,ZiC h2 hm _ _⟩
theorem SumAt.setK(h:SumAt w mb B x)(hm:mb<B){a:Option Addr}{c:Nat}{ks:List Key}(ho:Zae w B 9 1 Zai (.slice a ks.length c) ks):SumAt (w.setCell ⟨mb,0,none⟩ (.slice a ks.length c)) mb B { x with k:=ks }:=by
 obtain⟨ka,kc,h1,h2⟩:=h
 exact⟨a,c,by rw[heap_setCell_same w mb 0 _ _ _ h1];rfl,ZiC ho hm _ _⟩
end
theorem EvsAt.onlyB{w w':World}{mb:Nat}{a:Option Addr}{l:List Ev}(h:EvsAt w a l)(ho:Only mb w w')(hm:∀o,a=some o->o.block≠mb):EvsAt w' a l:=by
 refine⟨h.1,fun hn=>?_⟩
 obtain⟨b,o,rfl,hc⟩:=h.2 hn
 have hb:=hm _ rfl
 refine⟨b,o,rfl,fun i hi=>?_⟩
 obtain⟨h0,h1,h2,h3⟩:=hc i hi
 have hk:∀{j:Nat} {v:Value},w.cell? ⟨b,j,none⟩=some v->w'.cell? ⟨b,j,none⟩=some v:=fun {j v} e=>by
  rw[World.cell?_of_block (w:=w) (a:=⟨b,j,none⟩) (ho.block b (Zan e) hb)]
  exact e
 exact⟨hk h0,hk h1,hk h2,hk h3⟩
def OverH(W0:World)(F B mb n most:Nat):Prop:=
 ∀(s:St) (row:List Ev) (w:World) (b tb:Nat) (a:Option Addr) (cap tcap:Nat) (ra:Option Addr) (rcap:Nat) (x:SumV),s.Ok F->s.fuel<=n->row.length+n<=100->RefAt w b tb a cap tcap s->Zaf W0 a s.p.threads->Below W0.heap.size W0 w->EvsAt w ra row->(ra=none->rcap=0/\row=[])->(∀o,ra=some o->o.block≠mb) ->
  SumAt w mb B x->BdS x->x.c<=5000->B<=w.heap.size->b≠mb->tb≠mb ->
  Calls Tryz.prog 32 #[.pointer (some ⟨mb,0,none⟩),.pointer (some ⟨b,0,none⟩),.slice ra row.length rcap,.int .i64 (most:Int)] w fun r w'=>r=.returned (.tuple #[])/\∃y,SumAt w' mb B y/\OvP n s row most x y/\Only mb w w'
theorem bdS_step{x:SumV}(h:BdS x):BdS { x with c:=x.c+1 }:=by
 obtain⟨h1,h2,h3⟩:=h
 exact⟨by show _<=x.c+1;exact Nat.le_succ_of_le h1,Nat.le_succ_of_le h2,Nat.le_succ_of_le h3⟩
theorem Zka{B mb:Nat}(n most:Nat)(s:St)(row:List Ev)(w:World)(b:Nat)(ra:Option Addr)(rcap:Nat)(x:SumV)(hm:mb<B)(hs:SumAt w mb B x)(hb:BdS x)(hc:x.c<=5000)(hx:most<=x.c):
  Calls Tryz.prog 32 #[.pointer (some ⟨mb,0,none⟩),.pointer (some ⟨b,0,none⟩),.slice ra row.length rcap,.int .i64 (most:Int)] w fun r w'=>r=.returned (.tuple #[])/\∃y,SumAt w' mb B y/\OvP n s row most x y/\Only mb w w':=by
 obtain⟨ka,kc,⟨c0,c1,c2,c3⟩,⟨f0,f1,f2,f3⟩,_⟩:=hs.cells
 have HS1:=Lib.hid (hs.setC hm (x.c+1))
 have hw:IntKind.i64.wrap ((x.c:Int)+1)=(x.c:Int)+1:=IntWalk.i64_in _ (by omega)
 have hq:decide ((most:Int)<(x.c:Int)+1)=true:=by simp;omega
 have HP:Hid (OvP n s row most x { x with c:=x.c+1 }):=by
  have:=pre_pos n s
  exact⟨fun h=>by omega,fun _=>by show most<x.c+1;omega,fun _=>rfl,fun h=>by omega,bdS_step hb⟩
 have HO:Hid (Only mb w (w.setCell ⟨mb,2,none⟩ (.int .i64 ((x.c:Int)+1)))):=(Only.refl mb w).setCell 2 _
 clear hs hb
 go_enter Tryz.func32,Tryz.ntmps32
 go_wp2_with fail
 refine bodyPost_ret (results_none rfl _ _ _) rfl ?_
 exact⟨rfl,_,HS1.out,HP.out,HO.out⟩
theorem refNextS(F:Nat){w:World}{b tb:Nat}{a:Option Addr}{cap tcap:Nat}{s:St}(h:RefAt w b tb a cap tcap s)(hth:Zaf w a s.p.threads)(ok:s.Ok F)(t:Int):
  Calls Tryz.prog 59 #[.pointer (some ⟨b,0,none⟩),.int .i64 t] w fun r w'=>∃e:Ev,r=.returned (.tuple #[.agg #[.int .i64 e.thread,.int .i64 e.kind,.int .i64 e.obj,.bool e.fail],.bool (s.next t).isSome])/\Below w.heap.size w w':=
 (ZbE h hth ok t).mono fun _ _ ⟨h1,h2⟩=>⟨(s.next t).getD ev0,h1,h2⟩
theorem over_end{W0:World}{F B mb:Nat}(n most:Nat)(s:St)(row:List Ev)(w:World)(b tb:Nat)(a:Option Addr)(cap tcap:Nat)(ra:Option Addr)(rcap:Nat)(x:SumV)(ok:s.Ok F)(hall:s.all=[])(hr:RefAt w b tb a cap tcap s)(hth:Zaf W0 a s.p.threads)(hw0:Below W0.heap.size W0 w)(hwm:W0.heap.size<=mb)(he:EvsAt w ra row)(hrm:∀o,ra=some o->o.block≠mb)
  (hs:SumAt w mb B x) (hb:BdS x) (hc:x.c<=5000) (hB:B<=w.heap.size) (hm:mb<B) (hbm:b≠mb) (htm:tb≠mb) (hx:x.c<most) (hmost:most<=1000):
  Calls Tryz.prog 32 #[.pointer (some ⟨mb,0,none⟩),.pointer (some ⟨b,0,none⟩),.slice ra row.length rcap,.int .i64 (most:Int)] w fun r w'=>r=.returned (.tuple #[])/\∃y,SumAt w' mb B y/\OvP n s row most x y/\Only mb w w':=by
 obtain⟨ka,kc,⟨c0,c1,c2,c3⟩,⟨f0,f1,f2,f3⟩,_⟩:=hs.cells
 have HS1:Hid (SumAt (w.setCell ⟨mb,2,none⟩ (.int .i64 ((x.c:Int)+1))) mb B { x with c:=x.c+1 }):=hs.setC hm (x.c+1)
 have hw:IntKind.i64.wrap ((x.c:Int)+1)=(x.c:Int)+1:=IntWalk.i64_in _ (by omega)
 have hq:decide ((most:Int)<(x.c:Int)+1)=false:=by simp;omega
 have HO1:Hid (Only mb w (w.setCell ⟨mb,2,none⟩ (.int .i64 ((x.c:Int)+1)))):=(Only.refl mb w).setCell 2 _
 have HR1:=Lib.hid (hr.other hbm htm 2 (.int .i64 ((x.c:Int)+1)))
 have HTH:Hid (∀W,Only mb w W->Zaf W a s.p.threads):=fun W ho=>hth.later (hw0.trans (ho.below hwm hw0.size))
 have HEV:Hid (∀W,Only mb w W->EvsAt W ra row):=fun W ho=>he.onlyB ho hrm
 have HOK:=Lib.hid ok
 have HAL:=Lib.hid hall
 have hb1:=hb.1
 have hb2:=hb.2.1
 have hb3:=hb.2.2
 have hz1:(w.setCell ⟨mb,2,none⟩ (.int .i64 ((x.c:Int)+1))).heap.size=w.heap.size:=by simp[World.setCell]
 have h4:=ok.len4
 clear hs hr hth he ok hall hw0
 go_enter Tryz.func32,Tryz.ntmps32
 go_wp2_with fail
 generalize w.setCell ⟨mb,2,none⟩ (.int .i64 ((x.c:Int)+1))=W1 at *
 refine(ZhE HR1.out (HTH.out W1 HO1.out) HOK.out).mono ?_
 rintro r W2⟨va,rfl,hva,hb2⟩
 rw[HAL.out]at hva
 obtain⟨aa,ca,rfl,_,_⟩:=OwnN.form hva (by simp)
 have HO2:Hid (Only mb w W2):=HO1.out.trans (.of_below hb2)
 have HS2:=Lib.hid (HS1.out.later hb2)
 have HR2:=Lib.hid (HR1.out.later hb2)
 have hz2:=hb2.size
 obtain⟨ka2,kc2,⟨d0,d1,d2,d3⟩,⟨g0,g1,g2,g3⟩,_⟩:=HS2.out.cells
 have hw1:IntKind.i64.wrap ((x.r:Int)+1)=(x.r:Int)+1:=IntWalk.i64_in _ (by omega)
 have HS3:Hid (SumAt (W2.setCell ⟨mb,1,none⟩ (.int .i64 ((x.r:Int)+1))) mb B { x with c:=x.c+1,r:=x.r+1 }):=HS2.out.setR hm (x.r+1)
 have HO3:Hid (Only mb w (W2.setCell ⟨mb,1,none⟩ (.int .i64 ((x.r:Int)+1)))):=HO2.out.setCell 1 _
 have HR3:=Lib.hid (HR2.out.other hbm htm 1 (.int .i64 ((x.r:Int)+1)))
 have hz3:(W2.setCell ⟨mb,1,none⟩ (.int .i64 ((x.r:Int)+1))).heap.size=W2.heap.size:=by simp[World.setCell]
 simp only[List.length_nil]
 clear HS1 HO1 HR1 hva c0 c1 c2 c3 f0 f1 f2 f3
 go_wp2_with fail
 generalize W2.setCell ⟨mb,1,none⟩ (.int .i64 ((x.r:Int)+1))=W3 at *
 obtain⟨ka3,kc3,⟨i0,i1,i2,i3⟩,⟨j0,j1,j2,j3⟩,hown3⟩:=HS3.out.cells
 have HOW3:=Lib.hid hown3
 clear hown3 d0 d1 d2 d3 g0 g1 g2 g3
 have HKEY:Hid (∀W,Only mb w W->Calls Tryz.prog 58 #[.slice ra row.length rcap] W fun r w'=>r=.returned (.string ⟨(keyB row).toArray⟩)/\Below W.heap.size W w'):=fun W h=>refKey_any ra rcap row W (HEV.out W h)
 have hBw:B<=W3.heap.size:=by omega
 have HO3d:Only mb w W3.drew:=HO3.out.drew
 have hB9:Below W3.heap.size W3 W3.drew:=(Below.refl _ _).drew
 have HPUT:Hid (∀W,Below W3.heap.size W3 W->Calls Tryz.prog 57 #[.slice ka3 x.k.length kc3,.string ⟨(keyB row).toArray⟩] W fun r w'=>∃a2 cap2,r=.returned (.slice a2 (putK x.k (keyB row)).length cap2)/\Zae w' B 9 1 Zai (.slice a2 (putK x.k (keyB row)).length cap2) (putK x.k (keyB row))/\Below W.heap.size W w'):=fun W h=>put_any B ka3 kc3 x.k (keyB row) W (HOW3.out.later h) (by omega) (Nat.le_trans hBw h.size)
 have HSB:Hid (∀W a2 cap2,Below W3.heap.size W3 W->Zae W B 9 1 Zai (.slice a2 (putK x.k (keyB row)).length cap2) (putK x.k (keyB row))->SumAt (W.setCell ⟨mb,0,none⟩ (.slice a2 (putK x.k (keyB row)).length cap2)) mb B { x with c:=x.c+1,r:=x.r+1,k:=putK x.k (keyB row) }):=fun W a2 cap2 h ho=>(HS3.out.later h).setK hm ho
 have HPL:Hid ((putK x.k (keyB row)).length<=x.c+1):=by have:=Zmx x.k (keyB row);show _<=_;omega
 have HKR:Hid ((Zau [(s,row)]).foldl putK x.k=putK x.k (keyB row)):=rfl
 generalize keyB row=K at *
 generalize putK x.k K=KS at *
 go_upto_region 5 with (fail)
 go_cut [] (fun wx=>Hid (SumAt wx mb B { x with c:=x.c+1,r:=x.r+1,k:=KS })/\Hid (Only mb w wx)/\Hid (RefAt wx b tb a cap tcap s))
 case first=>
  go_wp2_with fail
  go_region_with (first
   |(go_simp;go_at_call 58;((with_reducible refine(HKEY.out _ HO3d).mono ?_);rintro r w5⟨rfl,hb5⟩;have hB5:=hB9.trans (hb5.mono hB9.size);have i05:=Zab hB5 i0))
   |(go_simp;go_at_call 57;((with_reducible refine(HPUT.out _ hB5).mono ?_);rintro r w6⟨a6,c6,rfl,ho6,hb6⟩;have hB6:=hB5.trans (hb6.mono hB5.size);have i06:=Zab hB6 i0;have j06:=(hB6.frozen (p:=⟨mb,0,none⟩) (by show mb<_;omega)).trans j0;have HO6:=Lib.hid ho6;clear ho6)))
  all_goals
   have HSM:=Lib.hid (HSB.out _ _ _ hB6 HO6.out)
   have HOM:Hid (Only mb w (w6.setCell ⟨mb,0,none⟩ (.slice a6 KS.length c6))):=(HO3.out.trans (.of_below hB6)).setCell 0 _
   have HRM:Hid (RefAt (w6.setCell ⟨mb,0,none⟩ (.slice a6 KS.length c6)) b tb a cap tcap s):=(HR3.out.later hB6).other hbm htm 0 _
   go_wp2_with fail
   go_meet
   exact⟨HSM.out,HOM.out,HRM.out⟩
 case rest=>
  obtain⟨HS7,HO7,HR7⟩:=hcut
  clear i0 i1 i2 i3 j0 j1 j2 j3 HKEY HPUT HSB
  have HSTK:Hid (Za9 [(s,row)]=if waits s then 1 else 0):=by show _=_;unfold Za9;cases h:waits s <;> simp[h]
  have HWT:Hid (waits s=Zds s s.ts.length):=rfl
  have hzc:W0.heap.size<=mb:=hwm
  have HP7:Hid (∀st',st'=x.st+(if waits s then 1 else 0)->OvP n s row most x { x with c:=x.c+1,r:=x.r+1,k:=KS,st:=st' }):=fun st' hst=>by
   obtain⟨h1,h2⟩:=ZeB n s row HAL.out
   unfold OvP
   rw[h1,h2]
   refine⟨fun _=>⟨rfl,HKR.out.symm,rfl,?_⟩,fun h=>by omega,fun h=>by omega,fun _=>by show x.c+1<=_;omega,?_⟩
   ·rw[HSTK.out];exact hst
   ·refine⟨HPL.out,by show x.r+1<=x.c+1;omega,?_⟩
    show st'<=x.c+1
    rw[hst]
    split <;> omega
  have hw3:IntKind.i64.wrap ((x.st:Int)+1)=(x.st:Int)+1:=IntWalk.i64_in _ (by omega)
  clear HKR HPL HAL
  generalize wc=W7 at *
  go_wp2_with fail
  go_loopw [9,10] (fun s9 i wr=>∃k:Nat,k<=s.ts.length/\i=.int .i64 k/\s9=.bool (Zds s k)/\Hid (Below W7.heap.size W7 wr)) (fun _ i _=>s.ts.length-(intOf i).toNat)
  case atStart=>exact⟨0,Nat.zero_le _,rfl,rfl,Below.refl _ _⟩
  case round=>
   obtain⟨k,hk,rfl,rfl,HB⟩:=hrel
   have HRk:=Lib.hid (HR7.out.later HB.out)
   have p3:=HRk.out.prog.2
   have hbl:=HRk.out.lt.1
   by_cases hlt:k<s.ts.length
   ·have HN:=Lib.hid (refNextS F HRk.out (HTH.out wr (HO7.out.trans (.of_below HB.out))) HOK.out k)
    have HSU:=Lib.hid (Zjt s k)
    have hBB:=HB.out.size
    go_wp2_with fail
    refine HN.out.mono ?_
    rintro r w8⟨e,rfl,hb8⟩
    have HB9:=Lib.hid ((HB.out.trans (hb8.mono hBB)).alloc (HB.out.trans (hb8.mono hBB)).size (.cells #[.int .i64 e.thread,.int .i64 e.kind,.int .i64 e.obj,.bool e.fail] 112))
    clear hb8 HN p3
    generalize (s.next k).isSome=d at *
    generalize Zds s k=g at *
    cases g
    ·have HS2:Hid (Zds s (k+1)=d):=by show _=_;rw[HSU.out];simp
     go_wp2_with fail
     go_roundw
     case rel=>exact⟨k+1,by omega,by go_num,by rw[HS2.out],HB9.out⟩
     case measure=>simp[intOf];omega
    ·have HS2:Hid (Zds s (k+1)=true):=by show _=_;rw[HSU.out];simp
     go_wp2_with fail
     go_roundw
     case rel=>exact⟨k+1,by omega,by go_num,by rw[HS2.out],HB9.out⟩
     case measure=>simp[intOf];omega
   ·obtain rfl:k=s.ts.length:=by omega
    have HS8:=Lib.hid (HS7.out.later HB.out)
    have HO8:Hid (Only mb w wr):=HO7.out.trans (.of_below HB.out)
    obtain⟨ka8,kc8,⟨i0,i1,i2,i3⟩,⟨j0,j1,j2,j3⟩,_⟩:=HS8.out.cells
    rw[<-HWT.out]
    cases hwt:waits s
    ·have HPF:=Lib.hid (HP7.out x.st (by rw[hwt];rfl))
     clear hwt
     go_wp2_with fail
     go_loopw [13] (fun i w'=>i=.int .i64 0/\Hid (SumAt w' mb B { x with c:=x.c+1,r:=x.r+1,k:=KS })/\Hid (Only mb w w')) (fun _ _=>0)
     case atStart=>exact⟨rfl,HS8.out,HO8.out⟩
     case round=>
      obtain⟨rfl,HSZ,HOZ⟩:=hrel
      go_wp2_with fail
      go_end0
      exact⟨rfl,_,HSZ.out,HPF.out,HOZ.out⟩
    ·have HPF:=Lib.hid (HP7.out (x.st+1) (by rw[hwt];rfl))
     have HSF:Hid (SumAt (wr.setCell ⟨mb,3,none⟩ (.int .i64 ((x.st:Int)+1))) mb B { x with c:=x.c+1,r:=x.r+1,k:=KS,st:=x.st+1 }):=HS8.out.setS hm (x.st+1)
     have HOF:Hid (Only mb w (wr.setCell ⟨mb,3,none⟩ (.int .i64 ((x.st:Int)+1)))):=HO8.out.setCell 3 _
     clear hwt
     go_wp2_with fail
     go_loopw [13] (fun i w'=>i=.int .i64 0/\Hid (SumAt w' mb B { x with c:=x.c+1,r:=x.r+1,k:=KS,st:=x.st+1 })/\Hid (Only mb w w')) (fun _ _=>0)
     case atStart=>exact⟨rfl,HSF.out,HOF.out⟩
     case round=>
      obtain⟨rfl,HSZ,HOZ⟩:=hrel
      go_wp2_with fail
      go_end0
      exact⟨rfl,_,HSZ.out,HPF.out,HOZ.out⟩
end Go.Proofs.YtjfmmnhcddckaaaGreat
