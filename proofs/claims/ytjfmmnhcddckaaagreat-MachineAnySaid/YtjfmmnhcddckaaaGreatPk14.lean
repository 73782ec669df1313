import Derived.BigQuiet
import Derived.Maps.AppendAt
import Derived.StillTailTactics
import Derived.Deep.AppendSrc
import Derived.Deep.RegionHeld3
import Derived.Laws.OwnMore
import Derived.BigRegion
import Derived.Test.YtjfmmnhcddckaaaGreatPk01
import Derived.Test.YtjfmmnhcddckaaaGreatPk02
import Derived.Test.YtjfmmnhcddckaaaGreatPk03
import Derived.Test.YtjfmmnhcddckaaaGreatPk06
import Derived.Test.YtjfmmnhcddckaaaGreatPk07
import Derived.Test.YtjfmmnhcddckaaaGreatPk10
import Derived.Test.YtjfmmnhcddckaaaGreatPk13
set_option maxRecDepth 100000
set_option maxHeartbeats 8000000
namespace Go.Proofs.YtjfmmnhcddckaaaGreat
open Go.RowKit
theorem ZjO{w:World}{g:Nat}{x:Int}(hc:w.cell? ⟨g,0,none⟩=some (.int .u8 x)):(convert 56 9 (.slice (some ⟨g,0,none⟩) 1 1)).run Tryz.prog w=.ok (.string (bstr [x])) w:=by
 rw[run_convert_bytes_string w _ _ 5 _ _ _ Tryz.underlying56 Tryz.underlying5 Tryz.underlying9]
 have hl:=run_loadCells_list (P:=Tryz.prog) w ⟨g,0,none⟩ ([x].map (Value.int .u8)) (by intro j u hj;match j with|0=>(simp at hj;subst hj;exact hc)|j+1=>simp at hj)
 have h2:=run_bytesToString w ⟨g,0,none⟩ _ 1 [x] hl
 rw[Zd8]at h2
 have e:ByteArray.empty.data=#[]:=rfl
 rw[e,Array.empty_append]at h2
 exact h2
theorem byte_newP(w:World)(x:Int):(w.alloc (.cells #[.int .u8 x] 5)).cell? ⟨w.heap.size,0,none⟩=some (.int .u8 x):=by
 rw[World.cell?_alloc_new]
 rfl
section
variable{p:Pg}{fuel:Int}{B b W Bud tb mb wb kb:Nat}{S:Nat->Prop}{m:Mac}{w:World}
theorem goOver_any(h:MY p fuel B b W Bud tb mb wb kb S m w){j:Nat}(hj:j<W){q:Txt}{r:List Txt}(hx:m.wk j=q::r)(hq:q.length<=1000)(hl:leftT m.l q≠0)(hB:m.l.length=Bud)(d:Int):
  Calls Tryz.prog 46 #[.pointer (some ⟨b,0,none⟩),.int .i64 (j:Int),.int .i64 d] w fun e w'=>e=.returned (.tuple #[.int .i64 5,.bool true])/\MYR p fuel B b W Bud tb mb wb kb S { m with wk:=updF m.wk j r,over:=true } w w':=by
 obtain⟨⟨c0,c1,c2,c3,c4,c5,c6⟩,_⟩:=h.cells
 obtain⟨m1,hm1⟩:∃m1:Mac,m1={ m with wk:=updF m.wk j r }:=⟨_,rfl⟩
 have HP:=Lib.hid ((MYR.refl h).call (m':=m1) (fun Sp qq=>by rw[hm1];exact pm_pop qq hj hx) (by rw[hm1]) (by rw[hm1]) (by rw[hm1]))
 have HL:Hid (decide (leftT m1.l q≠0)=true):=by show _=_;rw[hm1];exact decide_eq_true hl
 have HN:Hid (m1.l.length=Bud):=by show _=_;rw[hm1];exact hB
 have HE:Hid ({ m with wk:=updF m.wk j r,over:=true }={ m1 with over:=true }):=by show _=_;rw[hm1]
 have HQ:=Lib.hid hq
 clear h hx hq hl hB hm1 c0 c1 c3 c4 c5 c6
 go_enter Tryz.func46,Tryz.ntmps46
 go_wp2_with fail
 refine HP.out.mono ?_
 rintro e w1⟨rfl,r1⟩
 have R1:=Lib.hid r1
 have HSB:Hid (Calls Tryz.prog 83 #[.pointer (some ⟨b,0,none⟩),.string ⟨q.toArray⟩] w1 fun r w'=>r=.returned (.bool true)/\Below w1.heap.size w1 w'):=by
  obtain⟨S1,h1,_⟩:=r1
  exact(Zdw h1 HQ.out).mono fun _ _ ⟨a,c⟩=>⟨by rw[a,HL.out],c⟩
 clear r1 c2 HP
 go_wp2_with fail
 refine HSB.out.mono ?_
 rintro e w2⟨rfl,hb2⟩
 have R2:=Lib.hid (R1.out.later hb2)
 have HNO:Hid (∀V,Below w2.heap.size w2 V->Calls Tryz.prog 21 #[.pointer (some ⟨b,0,none⟩)] V fun r w'=>r=.returned (.int .i64 (Bud:Nat))/\V=w'):=fun V hb=>by
  obtain⟨S1,h1,_⟩:=R2.out.later hb
  exact(Zfb h1).mono fun _ _ ⟨a,c⟩=>⟨by rw[a,HN.out],c⟩
 have HCE:Hid (∀V,Below w2.heap.size w2 V->V.cell? ⟨b,4,none⟩=some (.int .i64 (Bud:Int))):=fun V hb=>(R2.out.later hb).cells.1.2.2.2.2.1
 clear hb2 R1 HSB
 have d4:=HCE.out _ (Below.refl _ _)
 have hge:decide ((Bud:Int)>=(Bud:Int))=true:=by simp
 go_wp2_with fail
 go_cut [32] (fun c wx=>c=.bool true/\Hid (MYR p fuel B b W Bud tb mb wb kb S m1 w wx))
 case first=>
  have HFIN:Hid (∀V,Below w2.heap.size w2 V->Hid (MYR p fuel B b W Bud tb mb wb kb S m1 w V)):=fun V hb=>R2.out.later hb
  go_region_held3 (fun V=>V.cell? ⟨b,4,none⟩=some (.int .i64 (Bud:Int)))
   (first|(refine HCE.out _ ?_;repeat(first|with_reducible exact Below.refl _ _|with_reducible refine Below.drew ?_)))
   (first
    |(go_at_call 21;(refine(HNO.out _ (by repeat(first|with_reducible exact Below.refl _ _|with_reducible refine Below.drew ?_))).mono ?_);rintro r w' ⟨rfl,rfl⟩))
  all_goals go_wp2_with fail
  all_goals go_meet
  all_goals exact⟨by first|rfl|simp,HFIN.out _ (by repeat(first|with_reducible exact Below.refl _ _|with_reducible refine Below.drew ?_))⟩
 case rest=>
  obtain⟨rfl,R3⟩:=hcut
  clear HNO HCE d4 hge R2
  generalize wc=w3 at *
  obtain⟨⟨_,_,_,_,_,c5,_⟩,f5⟩:=R3.out.cells
  have hf5:=f5 5
  have HST:Hid (MYR p fuel B b W Bud tb mb wb kb S { m1 with over:=true } w (w3.setCell ⟨b,5,none⟩ (.bool true))):=R3.out.andThen fun S' h=>h.stored (i:=5) (u:=.bool true) (blk':=m1.blk) (over':=true) rfl
  clear f5 R3
  go_wp2
  go_ret2
  exact⟨rfl,by rw[HE.out];exact HST.out⟩
theorem goInto_any(h:MY p fuel B b W Bud tb mb wb kb S m w)(hg:Zam p fuel=true)(hW:W<=64)(hle:preW p fuel<=600){j:Nat}(hj:j<W){T:List Nd}(hI:InvM p fuel W Bud m T)(hov:m.over=false){q:Txt}{r:List Txt}(hx:m.wk j=q::r)(hq:q.length<=900)(hl:leftT m.l q≠0)(hB:m.l.length<Bud)(hc:totW W m.wk<100000)(hpd:pendM W m.box<=90000)(d:Int):
  Calls Tryz.prog 46 #[.pointer (some ⟨b,0,none⟩),.int .i64 (j:Int),.int .i64 d] w fun e w'=>e=.returned (.tuple #[.int .i64 3,.bool true])/\MYR p fuel B b W Bud tb mb wb kb S (intoM p fuel W j q d { m with wk:=updF m.wk j r }) w w':=by
 obtain⟨⟨c0,c1,c2,c3,c4,c5,c6⟩,_⟩:=h.cells
 obtain⟨u,asl,l2,z1,nd,T',m2,hu,hasl,hcl,hl2,hm2,hm2l,hm2b,hm2c,hinto,hrep,hmk,hpre⟩:=Zkw hg hj hI hov hx hB d
 obtain⟨_,_,hbl⟩:=Zfg hg hI hj
 have hcl6:=hI.cl
 obtain⟨m1,hm1⟩:∃m1:Mac,m1={ m with wk:=updF m.wk j r }:=⟨_,rfl⟩
 obtain⟨mc,hmc⟩:∃mc:Mac,mc={ m with wk:=updF m.wk j r,l:=l2,cl:=m.cl+1 }:=⟨_,rfl⟩
 have HP:=Lib.hid ((MYR.refl h).call (m':=m1) (fun Sp qq=>by rw[hm1];exact pm_pop qq hj hx) (by rw[hm1]) (by rw[hm1]) (by rw[hm1]))
 have HL:Hid (decide (leftT m1.l q≠0)=true):=by show _=_;rw[hm1];exact decide_eq_true hl
 have HN:Hid (m1.l.length=m.l.length):=by show _=_;rw[hm1]
 have HCL:Hid (∀V,MYR p fuel B b W Bud tb mb wb kb S m1 w V->Calls Tryz.prog 84 #[.pointer (some ⟨tb,0,none⟩),.string ⟨q.toArray⟩,.int .i64 d] V fun r w'=>r=.returned (.tuple #[.int .i64 (u:Nat),.int .u8 (asl:Nat),.int .i64 0])/\MYR p fuel B b W Bud tb mb wb kb S mc w w'):=fun V hv=>
  hv.call (m':=mc) (fun Sp qq=>by
   have h1:=pm_claim qq (by rw[hm1];show m.cl<=_;omega) (k:=q) (by omega) d
   have e:Zbc p fuel m1.l q d=(0,(u:Int),asl,l2):=by rw[hm1];exact hcl
   rw[e]at h1
   dsimp only at h1
   rw[if_pos rfl]at h1
   rw[hmc]
   rw[hm1]at h1
   exact h1) (by rw[hmc,hm1]) (by rw[hmc,hm1]) (by rw[hmc,hm1])
 have htc:totW W mc.wk<100000:=by
  rw[hmc]
  show totW W (updF m.wk j r)<100000
  have:=tot_pop hj (ls:=m.wk) (k:=q) (l:=r) (by rw[hx])
  omega
 have HPU:Hid (∀{V:World} {S1:Nat->Prop},MY p fuel B b W Bud tb mb wb kb S1 mc V->Calls Tryz.prog 78 #[.pointer (some ⟨b,0,none⟩),.int .i64 (j:Int),.string ⟨q.toArray⟩] V fun r w'=>(∃bb,r=.returned (.bool bb))/\MYR p fuel B b W Bud tb mb wb kb S1 m2 V w'):=fun h1=>by
  refine(ZgI h1 hW htc hj (by omega)).mono fun r w' ⟨a,c⟩=>⟨⟨_,a⟩,?_⟩
  rw[hm2,<-hmc]
  have e:mc.l=l2:=by rw[hmc]
  rw[e]at c
  exact c
 have HOP:Hid (∀{V:World} {S1:Nat->Prop},MY p fuel B b W Bud tb mb wb kb S1 m2 V->Calls Tryz.prog 36 #[.pointer (some ⟨b,0,none⟩),.int .i64 (j:Int),.string ((⟨q.toArray⟩:ByteArray)++bstr [(u:Int)]),.int .u8 (asl:Nat),.int .i64 d] V fun e w'=>e=.returned (.tuple #[])/\MYR p fuel B b W Bud tb mb wb kb S1 (intoM p fuel W j q d { m with wk:=updF m.wk j r }) V w'):=fun {V S1} h1=>by
  have e:(⟨q.toArray⟩:ByteArray)++bstr [(u:Int)]=⟨(q++[UInt8.ofNat u]).toArray⟩:=by
   apply ByteArray.ext
   simp[bstr]
  rw[e,hinto]
  exact open_any h1 hg hW hj hasl d hrep hmk hpre (Nat.le_trans (Zii (s0_ok hg).1 hpre.core.tree.ok) hle) (by rw[hm2b];exact hpd) (by rw[hm2l,hl2];omega)
 have HQ:=Lib.hid hq
 have hnb:=hB
 have hge:decide ((m.l.length:Int)>=(Bud:Int))=false:=by simp;omega
 have hwu:IntKind.u8.wrap (u:Int)=u:=IntWalk.u8_in _ (by omega)
 have hz:¬ 9223372036854775807<(⟨q.toArray⟩:ByteArray).size+(bstr [(u:Int)]).size:=by
  simp[ByteArray.size,bstr]
  omega
 generalize intoM p fuel W j q d { m with wk:=updF m.wk j r }=mF at *
 generalize m.l.length=NN at *
 clear h hg hx hq hl hB hm1 hmc hI hov hcl hl2 hm2 hm2l hm2b hm2c hinto hrep hmk hpre htc hc hpd hle hbl hcl6 c0 c1 c3 c4 c5 c6
 go_enter Tryz.func46,Tryz.ntmps46
 go_wp2_with fail
 refine HP.out.mono ?_
 rintro e w1⟨rfl,r1⟩
 have R1:=Lib.hid r1
 have HSB:Hid (Calls Tryz.prog 83 #[.pointer (some ⟨b,0,none⟩),.string ⟨q.toArray⟩] w1 fun r w'=>r=.returned (.bool true)/\Below w1.heap.size w1 w'):=by
  obtain⟨S1,h1,_⟩:=r1
  exact(Zdw h1 (by have:=HQ.out;omega)).mono fun _ _ ⟨a,c⟩=>⟨by rw[a,HL.out],c⟩
 clear r1 c2 HP
 go_wp2_with fail
 refine HSB.out.mono ?_
 rintro e w2⟨rfl,hb2⟩
 have R2:=Lib.hid (R1.out.later hb2)
 have HNO:Hid (∀V,Below w2.heap.size w2 V->Calls Tryz.prog 21 #[.pointer (some ⟨b,0,none⟩)] V fun r w'=>r=.returned (.int .i64 (NN:Nat))/\V=w'):=fun V hb=>by
  obtain⟨S1,h1,_⟩:=R2.out.later hb
  exact(Zfb h1).mono fun _ _ ⟨a,c⟩=>⟨by rw[a,HN.out],c⟩
 have HCE:Hid (∀V,Below w2.heap.size w2 V->V.cell? ⟨b,4,none⟩=some (.int .i64 (Bud:Int))):=fun V hb=>(R2.out.later hb).cells.1.2.2.2.2.1
 clear hb2 R1 HSB HN
 have d4:=HCE.out _ (Below.refl _ _)
 go_wp2_with fail
 go_cut [32] (fun c wx=>c=.bool false/\Hid (MYR p fuel B b W Bud tb mb wb kb S m1 w wx))
 case first=>
  have HFIN:Hid (∀V,Below w2.heap.size w2 V->Hid (MYR p fuel B b W Bud tb mb wb kb S m1 w V)):=fun V hb=>R2.out.later hb
  go_region_held3 (fun V=>V.cell? ⟨b,4,none⟩=some (.int .i64 (Bud:Int)))
   (first|(refine HCE.out _ ?_;repeat(first|with_reducible exact Below.refl _ _|with_reducible refine Below.drew ?_)))
   (first
    |(go_at_call 21;(refine(HNO.out _ (by repeat(first|with_reducible exact Below.refl _ _|with_reducible refine Below.drew ?_))).mono ?_);rintro r w' ⟨rfl,rfl⟩))
  all_goals go_wp2_with fail
  all_goals go_meet
  all_goals exact⟨by first|rfl|(simp;exact hnb)|simp[hge],HFIN.out _ (by repeat(first|with_reducible exact Below.refl _ _|with_reducible refine Below.drew ?_))⟩
 case rest=>
  obtain⟨rfl,R3⟩:=hcut
  clear HNO HCE d4 hge R2
  generalize wc=w3 at *
  obtain⟨⟨c0,_⟩,_⟩:=R3.out.cells
  have HC3:=Lib.hid (HCL.out w3 R3.out)
  go_wp2_with fail
  refine HC3.out.mono ?_
  rintro e w4⟨rfl,r4⟩
  have R4:=Lib.hid r4
  have HP4:=Lib.hid (r4.local0.own (fun S1 h1=>HPU.out h1))
  clear r4 c0 HC3 HCL R3
  go_wp2_with fail
  refine HP4.out.mono ?_
  rintro e w5⟨⟨bb,rfl⟩,r5⟩
  have R5:=Lib.hid r5.toR
  have HO5:=Lib.hid ((R5.out.later (Zaa w5 (.cells #[.int .u8 (u:Int)] 5))).local0.own (fun S1 h1=>HOP.out h1))
  have hcv:=ZjO (byte_newP w5 (u:Int))
  clear r5 HP4 HPU HOP R4 R5
  go_wp2_with fail
  refine HO5.out.mono ?_
  rintro e w6⟨rfl,r6⟩
  have R6:=Lib.hid r6.toR
  clear r6
  go_wp2
  go_ret2
  exact⟨rfl,R6.out⟩
end
def tryF:Nat->FuncId
 |0=>44
 |1=>45
 |_=>46
theorem ZcT{b n:Nat}{j d D:Int}{w:World}{Post:World->Prop}(hn:n<=2)
  (h1:Calls Tryz.prog 43 #[.pointer (some ⟨b,0,none⟩),.int .i64 j] w fun r w'=>r=.returned (.bool true)/\w=w')
  (h2:Calls Tryz.prog 18 #[.pointer (some ⟨b,0,none⟩)] w fun r w'=>r=.returned (.bool false)/\Below w.heap.size w w')
  (hf:∀k,k<n->∀V,Below w.heap.size w V->Calls Tryz.prog (tryF k) #[.pointer (some ⟨b,0,none⟩),.int .i64 j,.int .i64 d] V fun r w'=>r=.returned (.tuple #[.int .i64 0,.bool false])/\Below w.heap.size w w')
  (ht:∀V,Below w.heap.size w V->Calls Tryz.prog (tryF n) #[.pointer (some ⟨b,0,none⟩),.int .i64 j,.int .i64 d] V fun r w'=>r=.returned (.tuple #[.int .i64 D,.bool true])/\Post w'):
  Calls Tryz.prog 23 #[.pointer (some ⟨b,0,none⟩),.int .i64 j,.int .i64 d] w fun r w'=>r=.returned (.int .i64 D)/\Post w':=by
 have H1:=Lib.hid h1
 have H2:=Lib.hid h2
 have HF:=Lib.hid hf
 have HT:=Lib.hid ht
 have HN:=Lib.hid hn
 clear h1 h2 hf ht hn
 go_enter Tryz.func23,Tryz.ntmps23
 go_wp2_with fail
 refine H1.out.mono ?_
 rintro r w'⟨rfl,rfl⟩
 go_wp2_with fail
 refine H2.out.mono ?_
 rintro r w2⟨rfl,hb2⟩
 have HB2:=Lib.hid hb2
 clear hb2
 go_wp2_with fail
 go_loopw [26] (fun i wr=>∃k:Nat,k<=n/\i=.int .i64 k/\Hid (Below w.heap.size w wr)) (fun i _=>3-(intOf i).toNat)
 case atStart=>exact⟨0,Nat.zero_le _,rfl,HB2.out⟩
 case round=>
  obtain⟨k,hk,rfl,HB⟩:=hrel
  have hk3:k=0∨k=1∨k=2:=by have:=HN.out;omega
  rcases hk3 with rfl|rfl|rfl
  ·have hix:∀w',(Instr.index 86 (.agg #[.func (.func 44) #[.pointer (some ⟨b,0,none⟩)] #[],.func (.func 45) #[.pointer (some ⟨b,0,none⟩)] #[],.func (.func 46) #[.pointer (some ⟨b,0,none⟩)] #[]]) (.int .i64 0)).run Tryz.prog w'=.ok (.func (.func 44) #[.pointer (some ⟨b,0,none⟩)] #[]) w':=fun w'=>ZaD w' 0 Tryz.underlying86 Tryz.underlying85 rfl (by kernel_rfl) (by omega) rfl
   by_cases hn:n=0
   ·subst hn
    have HT0:=Lib.hid (HT.out wr HB.out)
    unfold tryF at HT0
    go_wp2_with fail
    refine HT0.out.mono ?_
    rintro r w5⟨rfl,hp⟩
    have HP:=Lib.hid hp
    clear hp
    go_wp2
    go_ret
    exact⟨rfl,HP.out⟩
   ·have HF0:=Lib.hid (HF.out 0 (by omega) wr HB.out)
    unfold tryF at HF0
    go_wp2_with fail
    refine HF0.out.mono ?_
    rintro r w5⟨rfl,hp⟩
    have HP:=Lib.hid hp
    clear hp
    go_wp2
    go_roundw
    case rel=>exact⟨1,by omega,by go_num,HP.out⟩
    case measure=>simp[intOf]
  ·have hix:∀w',(Instr.index 86 (.agg #[.func (.func 44) #[.pointer (some ⟨b,0,none⟩)] #[],.func (.func 45) #[.pointer (some ⟨b,0,none⟩)] #[],.func (.func 46) #[.pointer (some ⟨b,0,none⟩)] #[]]) (.int .i64 1)).run Tryz.prog w'=.ok (.func (.func 45) #[.pointer (some ⟨b,0,none⟩)] #[]) w':=fun w'=>ZaD w' 1 Tryz.underlying86 Tryz.underlying85 rfl (by kernel_rfl) (by omega) rfl
   by_cases hn:n=1
   ·subst hn
    have HT0:=Lib.hid (HT.out wr HB.out)
    unfold tryF at HT0
    go_wp2_with fail
    refine HT0.out.mono ?_
    rintro r w5⟨rfl,hp⟩
    have HP:=Lib.hid hp
    clear hp
    go_wp2
    go_ret
    exact⟨rfl,HP.out⟩
   ·have HF0:=Lib.hid (HF.out 1 (by omega) wr HB.out)
    unfold tryF at HF0
    go_wp2_with fail
    refine HF0.out.mono ?_
    rintro r w5⟨rfl,hp⟩
    have HP:=Lib.hid hp
    clear hp
    go_wp2
    go_roundw
    case rel=>exact⟨2,by omega,by go_num,HP.out⟩
    case measure=>simp[intOf]
  ·have hix:∀w',(Instr.index 86 (.agg #[.func (.func 44) #[.pointer (some ⟨b,0,none⟩)] #[],.func (.func 45) #[.pointer (some ⟨b,0,none⟩)] #[],.func (.func 46) #[.pointer (some ⟨b,0,none⟩)] #[]]) (.int .i64 2)).run Tryz.prog w'=.ok (.func (.func 46) #[.pointer (some ⟨b,0,none⟩)] #[]) w':=fun w'=>ZaD w' 2 Tryz.underlying86 Tryz.underlying85 rfl (by kernel_rfl) (by omega) rfl
   have hn:n=2:=by have:=HN.out;omega
   subst hn
   have HT0:=Lib.hid (HT.out wr HB.out)
   unfold tryF at HT0
   go_wp2_with fail
   refine HT0.out.mono ?_
   rintro r w5⟨rfl,hp⟩
   have HP:=Lib.hid hp
   clear hp
   go_wp2
   go_ret
   exact⟨rfl,HP.out⟩
theorem step_out{b:Nat}{z d:Int}{w:World}(h1:Calls Tryz.prog 43 #[.pointer (some ⟨b,0,none⟩),.int .i64 z] w fun r w'=>r=.returned (.bool false)/\w=w'):Calls Tryz.prog 23 #[.pointer (some ⟨b,0,none⟩),.int .i64 z,.int .i64 d] w fun r w'=>r=.returned (.int .i64 0)/\Below w.heap.size w w':=by
 go_enter Tryz.func23,Tryz.ntmps23
 go_wp2_with fail
 refine h1.mono ?_
 rintro r w'⟨rfl,rfl⟩
 go_wp2
 go_ret
 exact⟨rfl,Below.refl _ _⟩
theorem Zla{b:Nat}{z d:Int}{w:World}(h1:Calls Tryz.prog 43 #[.pointer (some ⟨b,0,none⟩),.int .i64 z] w fun r w'=>r=.returned (.bool true)/\w=w')
  (h2:Calls Tryz.prog 18 #[.pointer (some ⟨b,0,none⟩)] w fun r w'=>r=.returned (.bool true)/\Below w.heap.size w w'):Calls Tryz.prog 23 #[.pointer (some ⟨b,0,none⟩),.int .i64 z,.int .i64 d] w fun r w'=>r=.returned (.int .i64 0)/\Below w.heap.size w w':=by
 go_enter Tryz.func23,Tryz.ntmps23
 go_wp2_with fail
 refine h1.mono ?_
 rintro r w'⟨rfl,rfl⟩
 go_wp2_with fail
 refine h2.mono ?_
 rintro r w'⟨rfl,hb⟩
 have HB:=Lib.hid hb
 clear hb
 go_wp2
 go_ret
 exact⟨rfl,HB.out⟩
section
variable{p:Pg}{fuel:Int}{B b W Bud tb mb wb kb:Nat}{S:Nat->Prop}{m:Mac}{w:World}
theorem mstep_any(h:MY p fuel B b W Bud tb mb wb kb S m w)(g:GoodM p fuel W Bud m)(hcost:costM p fuel W m<=80400)(z d:Int):
  Calls Tryz.prog 23 #[.pointer (some ⟨b,0,none⟩),.int .i64 z,.int .i64 d] w fun r w'=>r=.returned (.int .i64 ((stepI p fuel W Bud z d m).1:Nat))/\MYR p fuel B b W Bud tb mb wb kb S (stepI p fuel W Bud z d m).2 w w':=by
 obtain⟨T,hI⟩:=g.inv
 by_cases hz:0<=z/\z<W
 case neg=>
  have e:stepI p fuel W Bud z d m=(0,m):=by
   unfold stepI
   split
   ·unfold stepM
    rw[if_pos (.inl (by omega))]
   ·rfl
  have hi:isW W z=false:=by rw[ZiX];exact decide_eq_false hz
  have h1:=ZlF h z
  rw[hi]at h1
  rw[e]
  exact(step_out (h1.mono fun _ _ ⟨a,c⟩=>⟨a,c.symm⟩)).mono fun _ _ ⟨a,c⟩=>⟨a,MYR.below h c⟩
 obtain⟨j,rfl⟩:∃j:Nat,z=j:=⟨z.toNat,by omega⟩
 have hj:j<W:=by omega
 have hi:isW W (j:Int)=true:=by rw[ZiX];exact decide_eq_true hz
 have h1:=ZlF h (j:Int)
 rw[hi]at h1
 have h1':Calls Tryz.prog 43 #[.pointer (some ⟨b,0,none⟩),.int .i64 (j:Int)] w fun r w'=>r=.returned (.bool true)/\w=w':=h1.mono fun _ _ ⟨a,c⟩=>⟨a,c.symm⟩
 have h2:=Zfj h
 have eI:stepI p fuel W Bud (j:Int) d m=stepM p fuel W Bud j d m:=by
  unfold stepI
  rw[if_pos hz.1,Int.toNat_natCast]
 rw[eI]
 cases hh:haltM W m with
 |true=>
  have e:stepM p fuel W Bud j d m=(0,m):=by
   unfold stepM
   rw[if_pos (.inr hh)]
  rw[hh]at h2
  rw[e]
  exact(Zla h1' (h2.mono fun _ _ ⟨a,i,c⟩=>⟨a,by subst c;exact(Below.refl _ _).drewN⟩)).mono fun _ _ ⟨a,c⟩=>⟨a,MYR.below h c⟩
 |false=>
  rw[hh]at h2
  have h2':Calls Tryz.prog 18 #[.pointer (some ⟨b,0,none⟩)] w fun r w'=>r=.returned (.bool false)/\Below w.heap.size w w':=h2.mono fun _ _ ⟨a,i,c⟩=>⟨a,by subst c;exact(Below.refl _ _).drewN⟩
  have hov:m.over=false:=by
   unfold haltM at hh
   cases ho:m.over with
   |true=>rw[ho]at hh;simp at hh
   |false=>rfl
  have hwk:=hI.work hov
  have hpd:pendM W m.box<=80400:=Nat.le_trans cost_pend hcost
  have hlen:=(Zfg g.good hI hj).2.2
  have htw:totW W m.wk<100000:=by
   obtain⟨Sp,q⟩:=h.pm
   have h3:=Zmf q.noW (fun q hq=>(hwk.iff q).1 hq)
   have:=g.small
   omega
  have hshort:∀v,v<W->∀q∈m.wk v,q.length<=33/\leftT m.l q≠0:=fun v hv q hq=>by
   have h4:=(hwk.iff q).1 ⟨v,hv,hq⟩
   exact⟨left_short hI.tree.tr h4,h4⟩
  have hne:¬(W<=j∨haltM W m=true):=by
   rw[hh]
   intro hc
   rcases hc with hc|hc
   ·omega
   ·cases hc
  cases hbx:m.box j with
  |cons x r=>
   have e:stepM p fuel W Bud j d m=(1,readM W j x r m):=by
    unfold stepM
    rw[if_neg hne,hbx]
   obtain⟨hs,hq33,_⟩:=ZlL hI.letr hI.tree.tr hj (x:=x) (by rw[hbx];exact List.mem_cons_self)
   rw[e]
   refine ZcT (n:=0) (D:=1) (Post:=fun w'=>MYR p fuel B b W Bud tb mb wb kb S (readM W j x r m) w w') (by omega) h1' h2' (fun k hk=>by omega) fun V hb=>?_
   exact(mread_any (h.later hb) g.few htw (by omega) hj d hbx (by omega) hs).mono fun _ _ ⟨a,c⟩=>⟨a,MYR.behind hb c⟩
  |nil=>
   have hno:∀V,Below w.heap.size w V->Calls Tryz.prog (tryF 0) #[.pointer (some ⟨b,0,none⟩),.int .i64 (j:Int),.int .i64 d] V fun r w'=>r=.returned (.tuple #[.int .i64 0,.bool false])/\Below w.heap.size w w':=fun V hb=>
    (ZjX (h.later hb) hj d hbx).mono fun _ _ ⟨a,c⟩=>⟨a,hb.trans (c.mono hb.size)⟩
   cases hw:m.wk j with
   |nil=>
    by_cases hv:drawN d W=j∨m.wk (drawN d W)=[]
    ·have e:stepM p fuel W Bud j d m=(0,m):=by
      unfold stepM
      rw[if_neg hne,hbx]
      dsimp only
      rw[hw]
      dsimp only
      rw[if_pos hv]
     rw[e]
     refine ZcT (n:=1) (D:=0) (Post:=fun w'=>MYR p fuel B b W Bud tb mb wb kb S m w w') (by omega) h1' h2' (fun k hk=>?_) fun V hb=>?_
     ·obtain rfl:k=0:=by omega
      exact hno
     ·exact(Zit (h.later hb) g.few hj d hw hv).mono fun _ _ ⟨a,c⟩=>⟨a,MYR.below h (hb.trans (c.mono hb.size))⟩
    ·have e:stepM p fuel W Bud j d m=(2,ZcH j (drawN d W) m):=by
      unfold stepM
      rw[if_neg hne,hbx]
      dsimp only
      rw[hw]
      dsimp only
      rw[if_neg hv]
     have hv1:drawN d W≠j:=fun h=>hv (.inl h)
     have hv2:m.wk (drawN d W)≠[]:=fun h=>hv (.inr h)
     have hdW:drawN d W<W:=ZcN d (by omega)
     have hkl:((m.wk (drawN d W)).getLast?.getD []).length<=1000:=by
      rw[List.getLast?_eq_some_getLast hv2]
      have:=(hshort _ hdW _ (List.getLast_mem hv2)).1
      show((m.wk (drawN d W)).getLast hv2).length<=1000
      omega
     rw[e]
     refine ZcT (n:=1) (D:=2) (Post:=fun w'=>MYR p fuel B b W Bud tb mb wb kb S (ZcH j (drawN d W) m) w w') (by omega) h1' h2' (fun k hk=>?_) fun V hb=>?_
     ·obtain rfl:k=0:=by omega
      exact hno
     ·exact(steal_any (h.later hb) g.few htw hj d hw hv1 hv2 hkl).mono fun _ _ ⟨a,c⟩=>⟨a,MYR.behind hb c⟩
   |cons q r=>
    obtain⟨hq33,hql⟩:=hshort j hj q (by rw[hw];exact List.mem_cons_self)
    have hno2:∀k,k<2->∀V,Below w.heap.size w V->Calls Tryz.prog (tryF k) #[.pointer (some ⟨b,0,none⟩),.int .i64 (j:Int),.int .i64 d] V fun r w'=>r=.returned (.tuple #[.int .i64 0,.bool false])/\Below w.heap.size w w':=fun k hk=>by
     have hk2:k=0∨k=1:=by omega
     rcases hk2 with rfl|rfl
     ·exact hno
     ·exact fun V hb=>(Ziu (h.later hb) hj d (by rw[hw];simp)).mono fun _ _ ⟨a,c⟩=>⟨a,by subst c;exact hb⟩
    have hbud:=hI.bud
    by_cases hB:m.l.length=Bud
    ·have e:stepM p fuel W Bud j d m=(5,{ m with wk:=updF m.wk j r,over:=true }):=by
      unfold stepM
      rw[if_neg hne,hbx]
      dsimp only
      rw[hw]
      dsimp only
      rw[if_neg hql,if_pos hB]
     rw[e]
     refine ZcT (n:=2) (D:=5) (Post:=fun w'=>MYR p fuel B b W Bud tb mb wb kb S { m with wk:=updF m.wk j r,over:=true } w w') (by omega) h1' h2' hno2 fun V hb=>?_
     exact(goOver_any (h.later hb) hj hw (by omega) hql hB d).mono fun _ _ ⟨a,c⟩=>⟨a,MYR.behind hb c⟩
    ·have e:stepM p fuel W Bud j d m=(3,intoM p fuel W j q d { m with wk:=updF m.wk j r }):=by
      unfold stepM
      rw[if_neg hne,hbx]
      dsimp only
      rw[hw]
      dsimp only
      rw[if_neg hql,if_neg hB]
     rw[e]
     refine ZcT (n:=2) (D:=3) (Post:=fun w'=>MYR p fuel B b W Bud tb mb wb kb S (intoM p fuel W j q d { m with wk:=updF m.wk j r }) w w') (by omega) h1' h2' hno2 fun V hb=>?_
     exact(goInto_any (h.later hb) g.good g.few g.small hj hI hov hw (by omega) hql (by omega) htw (by omega) d).mono fun _ _ ⟨a,c⟩=>⟨a,MYR.behind hb c⟩
end
theorem ZfH(w:World):Calls Tryz.prog 29 #[.pointer none] w fun r w'=>r=.returned (.int .i64 0)/\w'=w:=by
 go_enter Tryz.func29,Tryz.ntmps29
 go_wp2
 go_ret
 exact⟨rfl,rfl⟩
theorem none_is(z:Int)(w:World):Calls Tryz.prog 43 #[.pointer none,.int .i64 z] w fun r w'=>r=.returned (.bool false)/\w'=w:=by
 by_cases h:0<=z
 ·have hd:decide (z>=0)=true:=by simpa using h
  have hd2:decide (z<0)=false:=by simp;omega
  go_enter Tryz.func43,Tryz.ntmps43
  go_wp2_with fail
  refine(ZfH _).mono ?_
  rintro r w'⟨rfl,rfl⟩
  go_wp2
  go_ret
  exact⟨rfl,rfl⟩
 ·have hd:decide (z>=0)=false:=by simpa using h
  go_enter Tryz.func43,Tryz.ntmps43
  go_wp2
  go_ret
  exact⟨rfl,rfl⟩
theorem none_step(z d:Int)(w:World):Calls Tryz.prog 23 #[.pointer none,.int .i64 z,.int .i64 d] w fun r w'=>r=.returned (.int .i64 0)/\∃i,w'=w.drewN i:=by
 go_enter Tryz.func23,Tryz.ntmps23
 go_wp2_with fail
 refine(none_is z _).mono ?_
 rintro r w'⟨rfl,rfl⟩
 go_wp2
 go_ret
 exact⟨rfl,0,rfl⟩
theorem Zlw(w:World):Calls Tryz.prog 18 #[.pointer none] w fun r w'=>r=.returned (.bool true)/\∃i,w'=w.drewN i:=by
 go_enter Tryz.func18,Tryz.ntmps18
 go_wp2
 go_ret
 exact⟨rfl,0,rfl⟩
theorem ZiM(w:World):Calls Tryz.prog 19 #[.pointer none] w fun r w'=>r=.returned (.bool false)/\∃i,w'=w.drewN i:=by
 go_enter Tryz.func19,Tryz.ntmps19
 go_wp2
 go_ret
 exact⟨rfl,0,rfl⟩
theorem none_keys(z:Int)(w:World):Calls Tryz.prog 27 #[.pointer none,.int .i64 z] w fun r w'=>∃a cap,r=.returned (.slice a 0 cap)/\∃i,w'=w.drewN i:=by
 go_enter Tryz.func27,Tryz.ntmps27
 go_wp2_with fail
 refine(none_is z _).mono ?_
 rintro r w'⟨rfl,rfl⟩
 go_wp2
 go_ret
 exact⟨_,_,rfl,0,rfl⟩
theorem none_nodes(w:World):Calls Tryz.prog 21 #[.pointer none] w fun r w'=>r=.returned (.int .i64 0)/\∃i,w'=w.drewN i:=by
 go_enter Tryz.func21,Tryz.ntmps21
 go_wp2
 go_ret
 exact⟨rfl,0,rfl⟩
theorem Zlx(w:World):Calls Tryz.prog 22 #[.pointer none] w fun r w'=>r=.returned (.int .i64 0)/\∃i,w'=w.drewN i:=by
 go_enter Tryz.func22,Tryz.ntmps22
 go_wp2
 go_ret
 exact⟨rfl,0,rfl⟩
theorem Zkd(w:World):Calls Tryz.prog 28 #[.pointer none] w fun r w'=>r=.returned (.int .i64 0)/\∃i,w'=w.drewN i:=by
 go_enter Tryz.func28,Tryz.ntmps28
 go_wp2
 go_ret
 exact⟨rfl,0,rfl⟩
def MMach(w:World)(B b:Nat)(p:Pg)(fuel:Int)(W Bud:Nat)(S:Nat->Prop)(m:Mac):Prop:=(∃tb mb wb kb,MY p fuel B b W Bud tb mb wb kb S m w)/\(preW p fuel<=600->costM p fuel W m<=80400)
theorem machStep{w:World}{B b W Bud:Nat}{p:Pg}{fuel:Int}{S:Nat->Prop}{m:Mac}(z d:Int)(h:MMach w B b p fuel W Bud S m)(g:GoodM p fuel W Bud m):
  Calls Tryz.prog 23 #[.pointer (some ⟨b,0,none⟩),.int .i64 z,.int .i64 d] w fun r w'=>r=.returned (.int .i64 ((stepI p fuel W Bud z d m).1:Nat))/\∃S',MMach w' B b p fuel W Bud S' (stepI p fuel W Bud z d m).2/\OnlyS S w w'/\∀y,S' y->S y∨w.heap.size<=y:=by
 obtain⟨⟨tb,mb,wb,kb,hm⟩,hc⟩:=h
 refine(mstep_any hm g (hc g.small) z d).mono fun r w' ⟨e,S',h1,h2,h3⟩=>⟨e,S',⟨⟨tb,mb,wb,kb,h1⟩,fun hs=>?_⟩,h2,h3⟩
 obtain⟨T,hI⟩:=g.inv
 unfold stepI
 split
 ·by_cases hz:z.toNat<W
  ·exact Nat.le_trans (cost_step g.good g.pos hI hz d) (hc hs)
  ·have e:stepM p fuel W Bud z.toNat d m=(0,m):=by
    unfold stepM
    rw[if_pos (.inl (by omega))]
   rw[e]
   exact hc hs
 ·exact hc hs
theorem machKeys{w:World}{B b W Bud:Nat}{p:Pg}{fuel:Int}{S:Nat->Prop}{m:Mac}(z:Int)(h:MMach w B b p fuel W Bud S m)(g:GoodM p fuel W Bud m):
  Calls Tryz.prog 27 #[.pointer (some ⟨b,0,none⟩),.int .i64 z] w fun r w'=>∃v,r=.returned v/\KeyV w' w.heap.size v (keysI W z m)/\Below w.heap.size w w':=by
 obtain⟨⟨tb,mb,wb,kb,hm⟩,_⟩:=h
 obtain⟨T,hI⟩:=g.inv
 exact keys_any hm (fun j hj=>by have:=(Zfg g.good hI hj).1;have:=g.small;omega) z
theorem machNew(p:Pg)(a:Option Addr)(cap:Nat)(fuel:Int)(W Bud:Nat)(w:World)(hp:Zaf w a p.threads)(ha:a=none->cap=0)(hg:Zam p fuel=true)(h1:1<=W)(h64:W<=64)(hB1:1<=Bud)(hB2:Bud<=1048576):
  Calls Tryz.prog 14 #[.agg #[.int .i64 p.vars,.int .i64 p.mutexes,.slice a p.threads.length cap],.int .i64 fuel,.int .i64 (W:Int),.int .i64 (Bud:Int)] w fun r w'=>∃b S,r=.returned (.tuple #[.pointer (some ⟨b,0,none⟩),.int .i64 0])/\Below w.heap.size w w'/\MMach w' w.heap.size b p fuel W Bud S (newM p fuel W):=
 (mnew_any p a cap fuel W Bud w hp ha hg h1 h64 hB1 hB2).mono fun _ _ ⟨b,tb,mb,wb,kb,S,e,hb,h⟩=>⟨b,S,e,hb,⟨tb,mb,wb,kb,h⟩,fun hs=>cost_new (B:=Bud) hg hs h1 hB1⟩
def machI:MachI where
 MM:=MMach
 low:=fun⟨⟨_,_,_,_,h⟩,_⟩=>h.low
 only:=fun⟨⟨tb,mb,wb,kb,h⟩,hc⟩ o hR=>⟨⟨tb,mb,wb,kb,h.only o hR⟩,hc⟩
 new:=machNew
 bad:=mnew_bad
 step:=machStep
 halted:=fun⟨⟨_,_,_,_,h⟩,_⟩=>Zfj h
 complete:=fun⟨⟨_,_,_,_,h⟩,_⟩=>ZkP h
 keys:=machKeys
 nodes:=fun⟨⟨_,_,_,_,h⟩,_⟩=>nodes_any h
 claims:=fun⟨⟨_,_,_,_,h⟩,_⟩=>ZlH h
 blocked:=fun⟨⟨_,_,_,_,h⟩,_⟩=>Zjg h
 workers:=fun⟨⟨_,_,_,_,h⟩,_⟩=>(Zc7 h).mono fun _ _ ⟨a,c⟩=>⟨a,0,c⟩
 nilStep:=none_step
 nilHalted:=Zlw
 nilComplete:=ZiM
 nilKeys:=none_keys
 nilNodes:=none_nodes
 nilClaims:=Zlx
 nilBlocked:=Zkd
 nilWorkers:=fun w=>(ZfH w).mono fun _ _ ⟨a,c⟩=>⟨a,0,c⟩
def wkI14:Ins:=⟨2,0,0,0⟩
def wkP14:Pg:=⟨1,0,[[wkI14],[wkI14]]⟩
theorem wk14_code(w:World):ZbU (w.alloc (.cells #[.int .i64 2,.int .i64 0,.int .i64 0,.int .i64 0] 63)) (some ⟨w.heap.size,0,none⟩) [wkI14]:=by
 refine⟨by simp[maxLen],fun _=>⟨w.heap.size,0,rfl,fun i hi=>?_⟩⟩
 have hi':i<1:=hi
 obtain rfl:i=0:=by omega
 simp[wkI14]
theorem Zjr(w:World)(c:Addr)(h:ZbU w (some c) [wkI14]):Zaf (w.alloc (.cells #[.slice (some c) 1 1,.slice (some c) 1 1] 64)) (some ⟨w.heap.size,0,none⟩) wkP14.threads:=by
 refine⟨by simp[maxLen,wkP14],fun _=>⟨w.heap.size,0,rfl,fun i hi=>?_⟩⟩
 have hi':i<2:=hi
 obtain rfl|rfl:i=0∨i=1:=by omega
 ·exact⟨some c,1,by simp[wkP14],h.later (Zaa _ _),fun e=>by cases e⟩
 ·exact⟨some c,1,by simp[wkP14],h.later (Zaa _ _),fun e=>by cases e⟩
theorem wk14_good:Zam wkP14 1=true/\preW wkP14 1<=600:=by decide +kernel
def Zmg:Mac:=newM wkP14 1 2
def wk14m1:Mac:=(stepI wkP14 1 2 100 1 0 Zmg).2
def wk14m2:Mac:=(stepI wkP14 1 2 100 1 0 wk14m1).2
def wk14m3:Mac:=(stepI wkP14 1 2 100 2 0 wk14m2).2
def Zed:Mac:=runM wkP14 1 2 100 50 0 (listM wkP14 1 2 100 [] wk14m3)
theorem wk14_a:haltM 2 Zmg=false/\(stepI wkP14 1 2 100 1 0 Zmg).1=2/\(stepI wkP14 1 2 100 1 0 wk14m1).1=3/\(stepI wkP14 1 2 100 2 0 wk14m2).1=0:=by decide +kernel
theorem wk14_b:haltM 2 Zed=true/\Zed.over=false/\((keysL 2 Zed).flatten.foldl putK []).length=2/\(keysL 2 Zed).flatten.length=2/\Zed.l.length=5/\Zed.cl=4/\Zed.blk=0:=by decide +kernel
section
variable{I:MachI}{w wr w':World}{B b W Bud:Nat}{p:Pg}{fuel:Int}{S:Nat->Prop}{m:Mac}
theorem RunI.run(h:RunI I w B b p fuel W Bud S m wr)(hS:∀x,S x->B<=x)(w0:World)(hb0:Below w0.heap.size w0 w)(hB:w0.heap.size<=B)(oa:Option Addr)(oc:Nat)(l:List (Int × Int))(hrow:RowAt w0 oa 2 Zbh l)(hl:l.length<=1000)(n:Nat)(hn:n<=1000000000):
  Calls Tryz.prog 15 #[.pointer (some ⟨b,0,none⟩),.slice oa l.length oc,.int .i64 (n:Int)] wr fun r w'=>r=.returned (.tuple #[])/\RunI I w B b p fuel W Bud S (runM p fuel W Bud n 0 (listM p fuel W Bud l m)) w':=by
 obtain⟨S',h1,h2⟩:=h.mm
 refine(ZjR I h1 h.good w0 (h.below hb0 fun x hx=>Nat.le_trans hB (hS x hx)) hB oa oc l hrow hl n hn).mono fun r w' ⟨e,h3⟩=>⟨e,?_⟩
 obtain⟨S2,h4,h5⟩:=h3.mm
 refine⟨⟨S2,h4,fun y hy=>?_⟩,h.only.thenS h3.only fun x hx hs=>?_,h3.good⟩
 ·rcases h5 y hy with h6|h6
  ·exact h2 y h6
  ·exact .inr (Nat.le_trans h.only.size h6)
 ·rcases h2 x hs with h6|h6
  ·exact h6
  ·omega
theorem RunI.all(h:RunI I w B b p fuel W Bud S m wr):Calls Tryz.prog 17 #[.pointer (some ⟨b,0,none⟩)] wr fun r w'=>∃v,r=.returned v/\RowsV w' wr.heap.size v (keysL W m)/\RunI I w B b p fuel W Bud S m w':=by
 obtain⟨S',h1,h2⟩:=h.mm
 exact(Zhg I h1 h.good).mono fun r w' ⟨v,e,h3,hb⟩=>⟨v,e,h3,h.later hb⟩
theorem RunI.complete(h:RunI I w B b p fuel W Bud S m wr):Calls Tryz.prog 19 #[.pointer (some ⟨b,0,none⟩)] wr fun r w'=>r=.returned (.bool (haltM W m && !m.over))/\RunI I w B b p fuel W Bud S m w':=by
 obtain⟨S',h1,h2⟩:=h.mm
 refine(I.complete h1).mono fun r w' ⟨e,i,e2⟩=>⟨e,?_⟩
 subst e2
 exact h.later (Below.refl _ _).drewN
theorem RunI.nodes(h:RunI I w B b p fuel W Bud S m wr):Calls Tryz.prog 21 #[.pointer (some ⟨b,0,none⟩)] wr fun r w'=>r=.returned (.int .i64 (m.l.length:Nat))/\RunI I w B b p fuel W Bud S m w':=by
 obtain⟨S',h1,h2⟩:=h.mm
 refine(I.nodes h1).mono fun r w' ⟨e,i,e2⟩=>⟨e,?_⟩
 subst e2
 exact h.later (Below.refl _ _).drewN
theorem RunI.claims(h:RunI I w B b p fuel W Bud S m wr):Calls Tryz.prog 22 #[.pointer (some ⟨b,0,none⟩)] wr fun r w'=>r=.returned (.int .i64 (m.cl:Nat))/\RunI I w B b p fuel W Bud S m w':=by
 obtain⟨S',h1,h2⟩:=h.mm
 refine(I.claims h1).mono fun r w' ⟨e,i,e2⟩=>⟨e,?_⟩
 subst e2
 exact h.later (Below.refl _ _).drewN
theorem RunI.blocked(h:RunI I w B b p fuel W Bud S m wr):Calls Tryz.prog 28 #[.pointer (some ⟨b,0,none⟩)] wr fun r w'=>r=.returned (.int .i64 (m.blk:Nat))/\RunI I w B b p fuel W Bud S m w':=by
 obtain⟨S',h1,h2⟩:=h.mm
 refine(I.blocked h1).mono fun r w' ⟨e,i,e2⟩=>⟨e,?_⟩
 subst e2
 exact h.later (Below.refl _ _).drewN
theorem Zb7(I:MachI)(p:Pg)(a:Option Addr)(cap:Nat)(fuel:Int)(W Bud:Nat)(w:World)(ht:Zaf w a p.threads)(ha:a=none->cap=0)(hg:Zam p fuel=true)(hs:preW p fuel<=600)(h1:1<=W)(h2:W<=64)(h3:1<=Bud)(h4:Bud<=1048576):
  Calls Tryz.prog 14 #[.agg #[.int .i64 p.vars,.int .i64 p.mutexes,.slice a p.threads.length cap],.int .i64 fuel,.int .i64 (W:Int),.int .i64 (Bud:Int)] w fun r w'=>∃b S,r=.returned (.tuple #[.pointer (some ⟨b,0,none⟩),.int .i64 0])/\Below w.heap.size w w'/\(∀x,S x->w.heap.size<=x)/\RunI I w' w.heap.size b p fuel W Bud S (newM p fuel W) w':=by
 refine(I.new p a cap fuel W Bud w ht ha hg h1 h2 h3 h4).mono fun r w' ⟨b,S,e,hb,hm⟩=>⟨b,S,e,hb,fun x hx=>((I.low hm).2 x hx).1,RunI.start hm ⟨hg,hs,h1,h2,ZiN hg h1 h3⟩⟩
end
theorem Zap(I:MachI)(w:World):Calls Tryz.prog 10 #[] w fun r w'=>r=.returned (.bool true)/\Below w.heap.size w w':=by
 have hc:=wk14_code w
 have ht:=Zjr (w.alloc (.cells #[.int .i64 2,.int .i64 0,.int .i64 0,.int .i64 0] 63)) ⟨w.heap.size,0,none⟩ hc
 have hb1:=Zak w (.cells #[.int .i64 2,.int .i64 0,.int .i64 0,.int .i64 0] 63) (.cells #[.slice (some ⟨w.heap.size,0,none⟩) 1 1,.slice (some ⟨w.heap.size,0,none⟩) 1 1] 64)
 rw[World.size_alloc]at ht
 have HT:=Lib.hid ht
 have HB1:=Lib.hid hb1
 obtain⟨g1,g2⟩:=wk14_good
 obtain⟨a1,a2,a3,a4⟩:=wk14_a
 have HWB:=Lib.hid wk14_b
 have HNW:Hid (∀W,Below ((w.alloc (.cells #[.int .i64 2,.int .i64 0,.int .i64 0,.int .i64 0] 63)).alloc (.cells #[.slice (some ⟨w.heap.size,0,none⟩) 1 1,.slice (some ⟨w.heap.size,0,none⟩) 1 1] 64)).heap.size ((w.alloc (.cells #[.int .i64 2,.int .i64 0,.int .i64 0,.int .i64 0] 63)).alloc (.cells #[.slice (some ⟨w.heap.size,0,none⟩) 1 1,.slice (some ⟨w.heap.size,0,none⟩) 1 1] 64)) W ->
   Calls Tryz.prog 14 #[.agg #[.int .i64 1,.int .i64 0,.slice (some ⟨w.heap.size+1,0,none⟩) 2 2],.int .i64 1,.int .i64 2,.int .i64 100] W (fun r w'=>∃b S,r=.returned (.tuple #[.pointer (some ⟨b,0,none⟩),.int .i64 0])/\Below W.heap.size W w'/\(∀x,S x->W.heap.size<=x)/\RunI I w' W.heap.size b wkP14 1 2 100 S Zmg w') /\
   Calls Tryz.prog 14 #[.agg #[.int .i64 1,.int .i64 0,.slice (some ⟨w.heap.size+1,0,none⟩) 2 2],.int .i64 1,.int .i64 0,.int .i64 100] W fun r w'=>r=.returned (.tuple #[.pointer none,.int .i64 1])/\Below W.heap.size W w'):=fun W hb=>
  ⟨Zb7 I wkP14 (some ⟨w.heap.size+1,0,none⟩) 2 1 2 100 W (HT.out.later hb) (fun e=>by cases e) g1 g2 (by omega) (by omega) (by omega) (by omega),I.bad wkP14 (some ⟨w.heap.size+1,0,none⟩) 2 1 0 100 W (HT.out.later hb) (fun e=>by cases e) (.inr (.inl (by omega)))⟩
 have HNB:Hid (∀W,Calls Tryz.prog 14 #[.agg #[.int .i64 0,.int .i64 0,.slice none 0 0],.int .i64 1,.int .i64 1,.int .i64 100] W fun r w'=>r=.returned (.tuple #[.pointer none,.int .i64 1])/\Below W.heap.size W w'):=fun W=>I.bad ⟨0,0,[]⟩ none 0 1 1 100 W ⟨by simp[maxLen],fun h=>absurd rfl h⟩ (fun _=>rfl) (.inl (by decide))
 have A1:=Lib.hid a1
 have A2:=Lib.hid a2
 have A3:=Lib.hid a3
 have A4:=Lib.hid a4
 clear hc ht hb1 g1 g2 a1 a2 a3 a4 HT
 go_enter Tryz.func10,Tryz.ntmps10
 generalize hW1:((w.alloc (.cells #[.int .i64 2,.int .i64 0,.int .i64 0,.int .i64 0] 63)).alloc (.cells #[.slice (some ⟨w.heap.size,0,none⟩) 1 1,.slice (some ⟨w.heap.size,0,none⟩) 1 1] 64))=W1 at *
 have hb2:=Zaa W1 (.cells #[.int .i64 1,.int .i64 0,.slice (some ⟨w.heap.size+1,0,none⟩) 2 2] 24)
 have HP:Hid (∀W,Below W1.heap.size W1 W->W.heap[W1.heap.size]?=(W1.alloc (.cells #[.int .i64 1,.int .i64 0,.slice (some ⟨w.heap.size+1,0,none⟩) 2 2] 24)).heap[W1.heap.size]?->W.cell? ⟨W1.heap.size,0,none⟩=some (.int .i64 1)/\W.cell? ⟨W1.heap.size,1,none⟩=some (.int .i64 0)/\W.cell? ⟨W1.heap.size,2,none⟩=some (.slice (some ⟨w.heap.size+1,0,none⟩) 2 2)):=fun W _ e=>by
  have e2:W.heap[W1.heap.size]?=some (.cells #[.int .i64 1,.int .i64 0,.slice (some ⟨w.heap.size+1,0,none⟩) 2 2] 24 (0,0)):=e.trans (heap_alloc_new W1 _)
  exact⟨by rw[cell_of_row W _ 0 _ _ _ e2];rfl,by rw[cell_of_row W _ 1 _ _ _ e2];rfl,by rw[cell_of_row W _ 2 _ _ _ e2];rfl⟩
 go_wp2_with fail
 refine((HNW.out _ hb2).1).mono ?_
 rintro r W3⟨b,S,rfl,hb3,hS,hr3⟩
 have hb23:=hb2.trans (hb3.mono hb2.size)
 obtain⟨p0,p1,p2⟩:=HP.out W3 hb23 (hb3.block _ (by simp))
 have HS:=Lib.hid hS
 have HR3:=Lib.hid hr3
 have HB3:Hid (Below w.heap.size w W3):=HB1.out.trans (hb23.mono HB1.out.size)
 have HBB:Hid (w.heap.size<=(W1.alloc (.cells #[.int .i64 1,.int .i64 0,.slice (some ⟨w.heap.size+1,0,none⟩) 2 2] 24)).heap.size):=Nat.le_trans HB1.out.size hb2.size
 generalize (W1.alloc (.cells #[.int .i64 1,.int .i64 0,.slice (some ⟨w.heap.size+1,0,none⟩) 2 2] 24)).heap.size=B at *
 have HN2:=Lib.hid (HNW.out W3 hb23).2
 clear hb3 hS hr3 hb23 HNW hb2 HP hW1
 go_wp2_with fail
 refine HN2.out.mono ?_
 rintro r W4⟨rfl,hb4⟩
 have HR4:=Lib.hid (HR3.out.later hb4)
 clear hb4 HN2 HR3 p0 p1 p2
 go_wp2_with fail
 refine(HNB.out W4).mono ?_
 rintro r W5⟨rfl,hb5⟩
 have HR5:=Lib.hid (HR4.out.later hb5)
 have HC:=Lib.hid HR5.out.halted
 rw[A1.out]at HC
 clear hb5 HR4
 go_wp2_with fail
 refine HC.out.mono ?_
 rintro r W6⟨rfl,h6⟩
 have HC:Hid (Calls Tryz.prog 23 #[.pointer (some ⟨b,0,none⟩),.int .i64 1,.int .i64 0] W6 fun r w'=>r=.returned (.int .i64 2)/\RunI I W3 B b wkP14 1 2 100 S wk14m1 w'):=by
  have h:=h6.step 1 0
  rw[A2.out]at h
  exact h
 clear h6 HR5
 go_wp2_with fail
 refine HC.out.mono ?_
 rintro r W7⟨rfl,h7⟩
 have HC:Hid (Calls Tryz.prog 23 #[.pointer (some ⟨b,0,none⟩),.int .i64 1,.int .i64 0] W7 fun r w'=>r=.returned (.int .i64 3)/\RunI I W3 B b wkP14 1 2 100 S wk14m2 w'):=by
  have h:=h7.step 1 0
  rw[A3.out]at h
  exact h
 clear h7
 go_wp2_with fail
 refine HC.out.mono ?_
 rintro r W8⟨rfl,h8⟩
 have HC:Hid (Calls Tryz.prog 23 #[.pointer (some ⟨b,0,none⟩),.int .i64 2,.int .i64 0] W8 fun r w'=>r=.returned (.int .i64 0)/\RunI I W3 B b wkP14 1 2 100 S wk14m3 w'):=by
  have h:=h8.step 2 0
  rw[A4.out]at h
  exact h
 clear h8
 go_wp2_with fail
 refine HC.out.mono ?_
 rintro r W9⟨rfl,h9⟩
 have HC:Hid (Calls Tryz.prog 15 #[.pointer (some ⟨b,0,none⟩),.slice none 0 0,.int .i64 50] W9 fun r w'=>r=.returned (.tuple #[])/\RunI I W3 B b wkP14 1 2 100 S Zed w'):=h9.run HS.out w HB3.out HBB.out none 0 [] (ZcZ _ _ _ _) (by simp) 50 (by omega)
 clear h9
 go_wp2_with fail
 refine HC.out.mono ?_
 rintro r W10⟨rfl,h10⟩
 have HC:=Lib.hid h10.all
 clear h10
 obtain⟨e1,e2,e3,e4,e5,e6,e7⟩:=HWB.out
 rw[ZdE]at e3
 have hlen:(keysL 2 Zed).length=2:=rfl
 have HE:=Lib.hid (And.intro e1 (And.intro e2 (And.intro e5 (And.intro e6 e7))))
 have HE2:=Lib.hid (And.intro e3 e4)
 clear e1 e2 e3 e4 e5 e6 e7 HWB
 generalize Zed=m4 at *
 go_wp2_with fail
 refine HC.out.mono ?_
 rintro r W11⟨v,rfl,hv,h11⟩
 obtain⟨a11,c11,e11,_⟩:=hv.at_ (by rw[hlen];omega)
 have hG:=Zh1 (e11▸hv) (by rw[hlen];omega) (by rw[HE2.out.2];omega)
 rw[HE2.out.1,HE2.out.2,hlen]at hG
 rw[hlen]at e11
 subst e11
 have HG:=Lib.hid hG
 have H11:=Lib.hid h11
 clear hv hG h11 HC hlen
 go_wp2_with fail
 refine HG.out.mono ?_
 rintro r W12⟨ka,kc,rfl,_,hb12⟩
 have h12:=H11.out.later hb12
 have HC:=Lib.hid h12.halted
 rw[HE.out.1]at HC
 clear h12 hb12 H11 HG
 go_wp2_with fail
 refine HC.out.mono ?_
 rintro r W13⟨rfl,h13⟩
 have HC:=Lib.hid h13.complete
 rw[HE.out.1,HE.out.2.1]at HC
 clear h13
 go_wp2_with fail
 refine HC.out.mono ?_
 rintro r W14⟨rfl,h14⟩
 have HC:=Lib.hid h14.nodes
 rw[HE.out.2.2.1]at HC
 clear h14
 go_wp2_with fail
 refine HC.out.mono ?_
 rintro r W15⟨rfl,h15⟩
 have HC:=Lib.hid h15.claims
 rw[HE.out.2.2.2.1]at HC
 clear h15
 go_wp2_with fail
 refine HC.out.mono ?_
 rintro r W16⟨rfl,h16⟩
 have HC:=Lib.hid h16.workers
 clear h16
 go_wp2_with fail
 refine HC.out.mono ?_
 rintro r W17⟨rfl,h17⟩
 have HC:=Lib.hid h17.blocked
 rw[HE.out.2.2.2.2]at HC
 clear h17
 go_wp2_with fail
 refine HC.out.mono ?_
 rintro r W18⟨rfl,h18⟩
 have HF:Hid (Below w.heap.size w W18):=h18.below HB3.out fun x hx=>Nat.le_trans HBB.out (HS.out x hx)
 clear h18 HC
 go_wp2
 go_ret
 exact⟨rfl,HF.out⟩

def ZbC(x:Thr):List Value:=[.int .i64 x.at_,.int .i64 x.fuel,.int .i64 (x.r.getD 0 0),.int .i64 (x.r.getD 1 0)]
def Zax(l:List Thr):List Value:=l.flatMap ZbC
theorem Zcq(l:List Thr):(Zax l).length=l.length*4:=by
 induction l with
 |nil=>rfl
 |cons i l ih=>simp only[Zax,ZbC,List.flatMap_cons,List.length_append,List.length_cons,List.length_nil]at *;omega
theorem Zgk(a b:List Thr):Zax (a++b)=Zax a++Zax b:=by simp[Zax]
theorem Zb3(l:List Thr)(i j:Nat)(h:i<l.length)(hj:j<4):(Zax l)[i*4+j]?=(ZbC l[i])[j]?:=by
 induction l generalizing i with
 |nil=>simp at h
 |cons x l ih=>
  cases i with
  |zero=>
   simp only[Zax,List.flatMap_cons,Nat.zero_mul,Nat.zero_add,List.getElem_cons_zero]
   rw[List.getElem?_append_left (by simpa [ZbC]using hj)]
  |succ i=>
   have:=ih i (by simpa using h)
   simp only[Zax,List.flatMap_cons,List.getElem_cons_succ]at *
   rw[List.getElem?_append_right (by simp[ZbC];omega),<-this]
   congr 1
   simp[ZbC]
   omega
theorem Zfx(l:List Thr):∀v∈Zax l,v.oneCell'=true:=by
 intro v hv
 simp only[Zax,List.mem_flatMap]at hv
 obtain⟨i,_,hv⟩:=hv
 simp[ZbC]at hv
 rcases hv with rfl|rfl|rfl|rfl <;> rfl
theorem Zjy(l:List Thr)(t k:Nat)(y:Thr)(v:Value)(ht:t<l.length)(hk:k<4)(hy:∀j,j<4->(ZbC y)[j]?=if j=k then some v else (ZbC l[t])[j]?):
  (Zax l).set (t*4+k) v=Zax (l.set t y):=by
 apply List.ext_getElem?
 intro j
 have hl:=Zcq l
 have hl2:(Zax (l.set t y)).length=l.length*4:=by rw[Zcq];simp
 by_cases hj:j<l.length*4
 ·obtain⟨i,d,rfl,hd⟩:∃i d,j=i*4+d/\d<4:=⟨j/4,j%4,by omega,by omega⟩
  have hi:i<l.length:=by omega
  rw[Zb3 (l.set t y) i d (by simpa using hi) hd,List.getElem?_set]
  by_cases e:t=i
  ·subst e
   simp only[List.getElem_set_self]
   rw[hy d hd]
   by_cases e2:d=k
   ·subst e2;rw[if_pos rfl,if_pos (by omega),if_pos rfl]
   ·rw[if_neg (by omega),if_neg e2,Zb3 l t d ht hd]
  ·rw[if_neg (by omega),List.getElem_set_ne e,Zb3 l i d hi hd]
 ·rw[List.getElem?_eq_none (by simp;omega),List.getElem?_eq_none (by omega)]
def refA(s:St)(a:Option Addr)(cap tb tcap:Nat):Array Value:=
 #[.int .i64 s.p.vars,.int .i64 s.p.mutexes,.slice a s.p.threads.length cap,.slice (some ⟨tb,0,none⟩) s.ts.length tcap,
  .int .i64 (s.v.getD 0 0),.int .i64 (s.v.getD 1 0),.int .i64 (s.v.getD 2 0),.int .i64 (s.v.getD 3 0),.int .i64 (s.m.getD 0 (-1)),.int .i64 (s.m.getD 1 (-1))]
def RefAt(w:World)(b tb:Nat)(a:Option Addr)(cap tcap:Nat)(s:St):Prop:=
 w.heap[b]?=some (.cells (refA s a cap tb tcap) 104 (0,0))/\b≠tb/\∃cur,w.heap[tb]?=some (.cells cur 107 (0,0))/\cur.toList.take (s.ts.length*4)=Zax s.ts
section
variable{w:World}{b tb:Nat}{a:Option Addr}{cap tcap:Nat}{s:St}
theorem RefAt.lt(h:RefAt w b tb a cap tcap s):b<w.heap.size/\tb<w.heap.size:=by
 obtain⟨h1,_,cur,h2,_⟩:=h
 exact⟨(Array.getElem?_eq_some_iff.1 h1).1,(Array.getElem?_eq_some_iff.1 h2).1⟩
theorem RefAt.later{w':World}(h:RefAt w b tb a cap tcap s)(hb:Below w.heap.size w w'):RefAt w' b tb a cap tcap s:=by
 have hl:=h.lt
 obtain⟨h1,h0,cur,h2,h3⟩:=h
 exact⟨(hb.block b hl.1).trans h1,h0,cur,(hb.block tb hl.2).trans h2,h3⟩
theorem RefAt.only{w':World}{g:Nat}(h:RefAt w b tb a cap tcap s)(ho:Only g w w')(hb:b≠g)(ht:tb≠g):RefAt w' b tb a cap tcap s:=by
 have hl:=h.lt
 obtain⟨h1,h0,cur,h2,h3⟩:=h
 exact⟨(ho.block b hl.1 hb).trans h1,h0,cur,(ho.block tb hl.2 ht).trans h2,h3⟩
theorem RefAt.drewN(h:RefAt w b tb a cap tcap s)(n:Nat):RefAt (w.drewN n) b tb a cap tcap s:=h
theorem RefAt.frozen(h:RefAt w b tb a cap tcap s)(o:Nat):w.frozen? ⟨b,o,none⟩=false/\w.frozen? ⟨tb,o,none⟩=false:=by
 obtain⟨h1,_,cur,h2,_⟩:=h
 simp[World.frozen?,h1,h2]
theorem RefAt.prog(h:RefAt w b tb a cap tcap s):w.cell? ⟨b,2,none⟩=some (.slice a s.p.threads.length cap)/\w.cell? ⟨b,3,none⟩=some (.slice (some ⟨tb,0,none⟩) s.ts.length tcap):=by
 simp[World.cell?,h.1,refA]
theorem RefAt.var(h:RefAt w b tb a cap tcap s)(x:Nat)(hx:x<4):w.cell? ⟨b,4+x,none⟩=some (.int .i64 (s.v.getD x 0)):=by
 obtain rfl|rfl|rfl|rfl:x=0∨x=1∨x=2∨x=3:=by omega
 all_goals simp[World.cell?,h.1,refA]
theorem RefAt.who(h:RefAt w b tb a cap tcap s)(x:Nat)(hx:x<2):w.cell? ⟨b,8+x,none⟩=some (.int .i64 (s.who x)):=by
 obtain rfl|rfl:x=0∨x=1:=by omega
 all_goals
  simp only[World.cell?,h.1,refA]
  rfl
theorem RefAt.thr(h:RefAt w b tb a cap tcap s)(t:Nat)(ht:t<s.ts.length)(k:Nat)(hk:k<4):w.cell? ⟨tb,t*4+k,none⟩=(ZbC (s.th t))[k]?:=by
 obtain⟨_,_,cur,h2,h3⟩:=h
 have hg:=Zb3 s.ts t k ht hk
 rw[<-h3,List.getElem?_take_of_lt (by omega)]at hg
 have e:s.th t=s.ts[t]:=Zav _ ht
 rw[e,<-hg]
 simp[World.cell?,h2]
theorem RefAt.at_(h:RefAt w b tb a cap tcap s)(t:Nat)(ht:t<s.ts.length):w.cell? ⟨tb,t*4,none⟩=some (.int .i64 (s.th t).at_):=h.thr t ht 0 (by omega)
theorem RefAt.fuel(h:RefAt w b tb a cap tcap s)(t:Nat)(ht:t<s.ts.length):w.cell? ⟨tb,t*4+1,none⟩=some (.int .i64 (s.th t).fuel):=h.thr t ht 1 (by omega)
theorem RefAt.reg(h:RefAt w b tb a cap tcap s)(t:Nat)(ht:t<s.ts.length)(r:Nat)(hr:r<2):w.cell? ⟨tb,t*4+2+r,none⟩=some (.int .i64 ((s.th t).r.getD r 0)):=by
 obtain rfl|rfl:r=0∨r=1:=by omega
 ·exact h.thr t ht 2 (by omega)
 ·exact h.thr t ht 3 (by omega)
theorem RefAt.setThr(h:RefAt w b tb a cap tcap s)(t k:Nat)(y:Thr)(v:Value)(ht:t<s.ts.length)(hk:k<4)(hy:∀j,j<4->(ZbC y)[j]?=if j=k then some v else (ZbC (s.th t))[j]?):
  RefAt (w.setCell ⟨tb,t*4+k,none⟩ v) b tb a cap tcap (s.put t y):=by
 have e:s.th t=s.ts[t]:=Zav _ ht
 rw[e]at hy
 obtain⟨h1,h0,cur,h2,h3⟩:=h
 have hlen:(s.put t y).ts.length=s.ts.length:=St.put_len s t y
 have ets:(s.put t y).ts=s.ts.set t y:=by simp[St.put]
 refine⟨?_,h0,_,heap_setCell_same w tb (t*4+k) cur _ v h2,?_⟩
 ·rw[Below.heap_setCell _ _ _ _ h0,h1]
  unfold refA
  rw[hlen]
  rfl
 ·rw[hlen,ets,<-Zjy s.ts t k y v ht hk hy,<-h3]
  simp[List.take_set]
theorem RefAt.setAt(h:RefAt w b tb a cap tcap s)(t n:Nat)(ht:t<s.ts.length):RefAt (w.setCell ⟨tb,t*4,none⟩ (.int .i64 n)) b tb a cap tcap (s.put t { s.th t with at_:=n }):=
 h.setThr t 0 _ _ ht (by omega) (fun j hj=>by
  obtain rfl|rfl|rfl|rfl:j=0∨j=1∨j=2∨j=3:=by omega
  all_goals rfl)
theorem RefAt.setFuel(h:RefAt w b tb a cap tcap s)(t n:Nat)(ht:t<s.ts.length):RefAt (w.setCell ⟨tb,t*4+1,none⟩ (.int .i64 n)) b tb a cap tcap (s.put t { s.th t with fuel:=n }):=
 h.setThr t 1 _ _ ht (by omega) (fun j hj=>by
  obtain rfl|rfl|rfl|rfl:j=0∨j=1∨j=2∨j=3:=by omega
  all_goals rfl)
theorem RefAt.setReg(h:RefAt w b tb a cap tcap s)(t r:Nat)(n:Int)(ht:t<s.ts.length)(hr:r<2)(hl:(s.th t).r.length=2):RefAt (w.setCell ⟨tb,t*4+2+r,none⟩ (.int .i64 n)) b tb a cap tcap (s.put t { s.th t with r:=(s.th t).r.set r n }):=by
 rw[Nat.add_assoc]
 refine h.setThr t (2+r) _ _ ht (by omega) (fun j hj=>?_)
 obtain rfl|rfl|rfl|rfl:j=0∨j=1∨j=2∨j=3:=by omega
 ·rw[if_neg (by omega)];rfl
 ·rw[if_neg (by omega)];rfl
 ·simp only[ZbC,List.getElem?_cons_succ,List.getElem?_cons_zero]
  rw[ZaS _ _ _ _ _ (by omega)]
  by_cases e:r=0
  ·subst e;simp
  ·rw[if_neg (by omega),if_neg (by omega)]
 ·simp only[ZbC,List.getElem?_cons_succ,List.getElem?_cons_zero]
  rw[ZaS _ _ _ _ _ (by omega)]
  by_cases e:r=1
  ·subst e;simp
  ·rw[if_neg (by omega),if_neg (by omega)]
theorem RefAt.setVar(h:RefAt w b tb a cap tcap s)(x:Nat)(n:Int)(hx:x<4)(hl:s.v.length=4):RefAt (w.setCell ⟨b,4+x,none⟩ (.int .i64 n)) b tb a cap tcap { s with v:=s.v.set x n }:=by
 obtain⟨h1,h0,cur,h2,h3⟩:=h
 refine⟨?_,h0,cur,(Below.heap_setCell _ _ _ _ (fun e=>h0 e.symm)).trans h2,h3⟩
 rw[heap_setCell_same w b (4+x) _ _ _ h1]
 congr 2
 unfold refA
 dsimp only
 simp only[ZaS _ _ _ _ _ (show x<s.v.length by omega)]
 obtain rfl|rfl|rfl|rfl:x=0∨x=1∨x=2∨x=3:=by omega
 all_goals rfl
theorem RefAt.setWho(h:RefAt w b tb a cap tcap s)(x:Nat)(n:Int)(hx:x<2)(hl:s.m.length=2):RefAt (w.setCell ⟨b,8+x,none⟩ (.int .i64 n)) b tb a cap tcap { s with m:=s.m.set x n }:=by
 obtain⟨h1,h0,cur,h2,h3⟩:=h
 refine⟨?_,h0,cur,(Below.heap_setCell _ _ _ _ (fun e=>h0 e.symm)).trans h2,h3⟩
 rw[heap_setCell_same w b (8+x) _ _ _ h1]
 congr 2
 unfold refA
 dsimp only
 simp only[ZaS _ _ _ _ _ (show x<s.m.length by omega)]
 obtain rfl|rfl:x=0∨x=1:=by omega
 all_goals rfl
theorem RefAt.other{g:Nat}(h:RefAt w b tb a cap tcap s)(hb:b≠g)(ht:tb≠g)(o:Nat)(v:Value):RefAt (w.setCell ⟨g,o,none⟩ v) b tb a cap tcap s:=by
 obtain⟨h1,h0,cur,h2,h3⟩:=h
 exact⟨(Below.heap_setCell _ _ _ _ hb).trans h1,h0,cur,(Below.heap_setCell _ _ _ _ ht).trans h2,h3⟩
end
structure Only2(b c:Nat)(w w':World):Prop where
 os:w'.os=w.os
 tape:w'.tape=w.tape
 output:w'.output=w.output
 size:w.heap.size<=w'.heap.size
 block:∀k,k<w.heap.size->k≠b->k≠c->w'.heap[k]?=w.heap[k]?
theorem Only2.refl(b c:Nat)(w:World):Only2 b c w w:=⟨rfl,rfl,rfl,Nat.le_refl _,fun _ _ _ _=>rfl⟩
theorem Only2.trans{b c:Nat}{u v w:World}(h:Only2 b c u v)(k:Only2 b c v w):Only2 b c u w:=
 ⟨k.os.trans h.os,k.tape.trans h.tape,k.output.trans h.output,Nat.le_trans h.size k.size,fun i hi hb hc=>(k.block i (Nat.lt_of_lt_of_le hi h.size) hb hc).trans (h.block i hi hb hc)⟩
theorem Only2.of_below{b c:Nat}{w w':World}(h:Below w.heap.size w w'):Only2 b c w w':=⟨h.os,h.tape,h.output,h.size,fun k hk _ _=>h.block k hk⟩
theorem Only2.alloc{b c:Nat}{w w':World}(h:Only2 b c w w')(o:Obj):Only2 b c w (w'.alloc o):=h.trans (.of_below ((Below.refl _ _).alloc (Nat.le_refl _) _))
theorem Only2.drew{b c:Nat}{w w':World}(h:Only2 b c w w'):Only2 b c w w'.drew:=⟨h.os,h.tape,h.output,h.size,h.block⟩
theorem Only2.drewN{b c:Nat}{w w':World}(h:Only2 b c w w'){n:Nat}:Only2 b c w (w'.drewN n):=⟨h.os,h.tape,h.output,h.size,h.block⟩
theorem Only2.setCell{b c g:Nat}{w w':World}(h:Only2 b c w w')(hg:g=b∨g=c∨w.heap.size<=g)(o:Nat)(v:Value):Only2 b c w (w'.setCell ⟨g,o,none⟩ v):=
 ⟨h.os,h.tape,h.output,by simp[World.setCell];exact h.size,fun k hk hb hc=>(Below.heap_setCell _ _ _ _ (by show k≠g;omega)).trans (h.block k hk hb hc)⟩
theorem Only2.set4{b c g:Nat}{w w1:World}(h:Only2 b c w w1)(hg:w.heap.size<=g)(v0 v1 v2 v3:Value):Only2 b c w ((((w1.setCell ⟨g,0,none⟩ v0).setCell ⟨g,1,none⟩ v1).setCell ⟨g,2,none⟩ v2).setCell ⟨g,3,none⟩ v3):=
 (((h.setCell (.inr (.inr hg)) 0 v0).setCell (.inr (.inr hg)) 1 v1).setCell (.inr (.inr hg)) 2 v2).setCell (.inr (.inr hg)) 3 v3
theorem Only2.below{b c B:Nat}{w w':World}(h:Only2 b c w w')(hb:B<=b)(hc:B<=c)(hw:B<=w.heap.size):Below B w w':=
 ⟨h.os,h.tape,h.output,h.size,fun k hk=>h.block k (by omega) (by omega) (by omega)⟩
theorem Zmc(w:World)(o o2:Obj){k:Nat}(hk:k<w.heap.size):((w.alloc o).alloc o2).heap[k]?=w.heap[k]?:=by
 rw[Below.heap_alloc _ _ _ (by simp;omega),Below.heap_alloc _ _ _ hk]
theorem Zcv{w W:World}{k r x m:Int}{n:Nat}(h:((w.alloc (.cells #[.int .i64 0,.int .i64 0,.int .i64 0,.bool false] 112)).drewN n).alloc (.cells #[.int .i64 k,.int .i64 r,.int .i64 x,.int .i64 m] 63)=W):
  Below w.heap.size w W/\(W.cell? ⟨w.heap.size,0,none⟩=some (.int .i64 0)/\W.cell? ⟨w.heap.size,1,none⟩=some (.int .i64 0)/\W.cell? ⟨w.heap.size,2,none⟩=some (.int .i64 0)/\W.cell? ⟨w.heap.size,3,none⟩=some (.bool false)) /\
   (W.frozen? ⟨w.heap.size,0,none⟩=false/\W.frozen? ⟨w.heap.size,1,none⟩=false/\W.frozen? ⟨w.heap.size,2,none⟩=false/\W.frozen? ⟨w.heap.size,3,none⟩=false) /\
   (W.cell? ⟨w.heap.size+1,0,none⟩=some (.int .i64 k)/\W.cell? ⟨w.heap.size+1,1,none⟩=some (.int .i64 r)/\W.cell? ⟨w.heap.size+1,2,none⟩=some (.int .i64 x)/\W.cell? ⟨w.heap.size+1,3,none⟩=some (.int .i64 m))/\w.heap.size+1<W.heap.size/\w.heap.size<W.heap.size:=by
 subst h
 have g0:(((w.alloc (.cells #[.int .i64 0,.int .i64 0,.int .i64 0,.bool false] 112)).drewN n).alloc (.cells #[.int .i64 k,.int .i64 r,.int .i64 x,.int .i64 m] 63)).heap[w.heap.size]?=some (.cells #[.int .i64 0,.int .i64 0,.int .i64 0,.bool false] 112 (0,0)):=heap_alloc2_old w _ _
 have g1:(((w.alloc (.cells #[.int .i64 0,.int .i64 0,.int .i64 0,.bool false] 112)).drewN n).alloc (.cells #[.int .i64 k,.int .i64 r,.int .i64 x,.int .i64 m] 63)).heap[w.heap.size+1]?=some (.cells #[.int .i64 k,.int .i64 r,.int .i64 x,.int .i64 m] 63 (0,0)):=heap_alloc2_new w _ _
 have l0:=(Array.getElem?_eq_some_iff.1 g0).1
 have l1:=(Array.getElem?_eq_some_iff.1 g1).1
 refine⟨⟨rfl,rfl,rfl,by omega,fun k hk=>?_⟩,?_,?_,?_,l1,l0⟩
 ·exact(Zmc w _ _ hk)
 ·simp only[World.cell?,g0];exact⟨rfl,rfl,rfl,rfl⟩
 ·simp only[World.frozen?,g0];exact⟨rfl,rfl,rfl,rfl⟩
 ·simp only[World.cell?,g1];exact⟨rfl,rfl,rfl,rfl⟩
def Zcb(n lo hi:Int):Bool:=decide (lo<=n/\n<=hi)
theorem ZcR(n lo hi:Int)(w:World):Calls Tryz.prog 47 #[.int .i64 n,.int .i64 lo,.int .i64 hi] w fun r w'=>r=.returned (.bool (Zcb n lo hi))/\w=w':=by
 go_enter Tryz.func47,Tryz.ntmps47
 go_wp2
 all_goals
  go_ret
  refine⟨Zag ?_,rfl⟩
  simp[Zcb]
  try omega
theorem ZjV(V M size:Int)(_hs:0<=size)(_hs2:size<=1000)(hV:0<=V)(hV2:V<=4)(hM:0<=M)(hM2:M<=2)(t:Value)(i:Ins)(w:World):
  Calls Tryz.prog 48 #[.agg #[.int .i64 V,.int .i64 M,t],.int .i64 size,insV i] w fun r w'=>r=.returned (.bool (ZaN V M size i))/\Below w.heap.size w w':=by
 obtain⟨k,ri,x,n⟩:=i
 unfold insV
 dsimp only
 go_enter Tryz.func48,Tryz.ntmps48
 go_wp2_with (go_at_call 47;refine(ZcR _ _ _ _).mono ?_;rintro r w' ⟨rfl,rfl⟩)
 all_goals
  go_ret
  refine⟨Zag ?_,Zak _ _ _⟩
  simp[Zcb]at *
  rw[Bool.eq_iff_iff]
  simp[ZaN, *]
  try(first|omega|(split <;> omega))
theorem Zb4(p:Pg)(a:Option Addr)(cap:Nat)(w:World)(hp:Zaf w a p.threads):
  Calls Tryz.prog 26 #[pgV p a cap] w fun r w'=>r=.returned (.bool (Zal p))/\Below w.heap.size w w':=by
 obtain⟨V,M,ts⟩:=p
 unfold pgV
 dsimp only at *
 have hm:=hp.1
 unfold maxLen at hm
 have HL:=Lib.hid hp
 clear hp
 cases hV:Zcb V 0 4
 ·have H:Hid (Zal ⟨V,M,ts⟩=false):=by
   show _=_
   simp[Zcb]at hV
   simp[Zal];omega
  go_enter Tryz.func26,Tryz.ntmps26
  go_wp2_with (go_at_call 47;refine(ZcR _ _ _ _).mono ?_;rintro r w' ⟨rfl,rfl⟩)
  go_ret
  exact⟨Zag H.out.symm,Zaa _ _⟩
 cases hM:Zcb M 0 2
 ·have H:Hid (Zal ⟨V,M,ts⟩=false):=by
   show _=_
   simp[Zcb]at hM
   simp[Zal];omega
  go_enter Tryz.func26,Tryz.ntmps26
  go_wp2_with (go_at_call 47;refine(ZcR _ _ _ _).mono ?_;rintro r w' ⟨rfl,rfl⟩)
  go_ret
  exact⟨Zag H.out.symm,Zaa _ _⟩
 cases hT:Zcb ts.length 1 4
 ·have H:Hid (Zal ⟨V,M,ts⟩=false):=by
   show _=_
   simp[Zcb]at hT
   simp[Zal];omega
  go_enter Tryz.func26,Tryz.ntmps26
  go_wp2_with (go_at_call 47;refine(ZcR _ _ _ _).mono ?_;rintro r w' ⟨rfl,rfl⟩)
  go_ret
  exact⟨Zag H.out.symm,Zaa _ _⟩
 have bV:0<=V/\V<=4:=by simpa [Zcb]using hV
 have bM:0<=M/\M<=2:=by simpa [Zcb]using hM
 have bT:1<=ts.length/\ts.length<=4:=by simp[Zcb]at hT;omega
 have H:Hid (Zal ⟨V,M,ts⟩=ts.all (ZaC V M)):=by
  show _=_
  have:decide (0<=V/\V<=4/\0<=M/\M<=2/\1<=ts.length/\ts.length<=4)=true:=by simp;omega
  unfold Zal
  dsimp only
  rw[this,Bool.true_and]
 obtain⟨bV1,bV2⟩:=bV
 obtain⟨bM1,bM2⟩:=bM
 obtain⟨bT1,bT2⟩:=bT
 go_enter Tryz.func26,Tryz.ntmps26
 go_wp2_with (go_at_call 47;refine(ZcR _ _ _ _).mono ?_;rintro r w' ⟨rfl,rfl⟩)
 go_loopw [3] (fun i wr=>∃k:Nat,k<=ts.length/\i=.int .i64 k/\Hid ((ts.take k).all (ZaC V M)=true)/\Below (w.heap.size+1) (w.alloc (.cells #[.int .i64 V,.int .i64 M,.slice a ts.length cap] 24)) wr) (fun i _=>ts.length-(intOf i).toNat)
 case atStart=>exact⟨0,Nat.zero_le _,rfl,rfl,Below.refl _ _⟩
 case round=>
  obtain⟨k,hk,rfl,hall,hb⟩:=hrel
  have p2:wr.cell? ⟨w.heap.size,2,none⟩=some (.slice a ts.length cap):=by rw[hb.cell (p:=⟨w.heap.size,2,none⟩) (by simp)];simp
  have hbw:Below w.heap.size w wr:=((Below.refl _ _).alloc (Nat.le_refl _) _).trans (hb.mono (by omega))
  by_cases hlt:k<ts.length
  ·obtain⟨b,o,rfl,hc⟩:=HL.out.2 (by intro e;simp[e]at hlt)
   obtain⟨c,ccap,c0,c1,_⟩:=hc k hlt
   have d0:=Zab hbw c0
   have D1:=Lib.hid (c1.later hbw)
   have hcm:=c1.1
   unfold maxLen at hcm
   clear c0 c1 hc
   have ht:(ts.take (k+1))=ts.take k++[ts[k]]:=List.take_succ_eq_append_getElem hlt
   have HT:=Lib.hid ht
   clear ht
   by_cases h8:8<ts[k].length
   ·have HR:Hid (Zal ⟨V,M,ts⟩=false):=by
     show _=_
     rw[H.out,List.all_eq_false];exact⟨ts[k],List.getElem_mem _,by simp[ZaC];omega⟩
    go_wp2
    go_ret
    exact⟨Zag HR.out.symm,hbw⟩
   ·have HC:Hid (ZaC V M ts[k]=ts[k].all (ZaN V M ts[k].length)):=by
     show _=_
     have:decide (ts[k].length<=8)=true:=by simp;omega
     unfold ZaC
     rw[this,Bool.true_and]
    go_wp2
    obtain⟨wo,hwo⟩:∃x,x=wr:=⟨_,rfl⟩
    subst hwo
    have q0:wo.cell? ⟨w.heap.size,0,none⟩=some (.int .i64 V):=by rw[hb.cell (p:=⟨w.heap.size,0,none⟩) (by simp)];simp
    have q1:wo.cell? ⟨w.heap.size,1,none⟩=some (.int .i64 M):=by rw[hb.cell (p:=⟨w.heap.size,1,none⟩) (by simp)];simp
    have hz:w.heap.size<wo.heap.size:=by have:=hb.size;simp at this;omega
    go_loopw [5] (fun i w2=>∃j:Nat,j<=ts[k].length/\i=.int .i64 j/\Hid ((ts[k].take j).all (ZaN V M ts[k].length)=true)/\Below wo.heap.size wo w2) (fun i _=>ts[k].length-(intOf i).toNat)
    case atStart=>exact⟨0,Nat.zero_le _,rfl,rfl,Below.refl _ _⟩
    case round=>
     obtain⟨j,hj,rfl,hin,hb'⟩:=hrel
     have r0:=Zab hb' q0
     have r1:=Zab hb' q1
     have r2:=Zab hb' p2
     by_cases hjl:j<ts[k].length
     ·obtain⟨b',o',rfl,hc⟩:=D1.out.2 (by intro e;simp[e]at hjl)
      obtain⟨c0,c1,c2,c3⟩:=hc j hjl
      have d0:=Zab hb' c0
      have d1:=Zab hb' c1
      have d2:=Zab hb' c2
      have d3:=Zab hb' c3
      clear c0 c1 c2 c3 hc
      go_wp2
      go_still_tail 7,(by kernel_rfl)
      go_wp2_with fail
      refine(ZjV V M ts[k].length (by omega) (by omega) bV1 bV2 bM1 bM2 _ ts[k][j] _).mono ?_
      rintro r w1⟨rfl,hb1⟩
      have hb2:Below wo.heap.size wo w1:=hb'.drew.trans (hb1.mono hb'.size)
      have hb3:Below w.heap.size w w1:=hbw.trans (hb2.mono (by omega))
      have htj:(ts[k].take (j+1))=ts[k].take j++[ts[k][j]]:=List.take_succ_eq_append_getElem hjl
      cases hr:ZaN V M ts[k].length ts[k][j]
      ·have HR:Hid (Zal ⟨V,M,ts⟩=false):=by
        show _=_
        rw[H.out,List.all_eq_false];refine⟨ts[k],List.getElem_mem _,?_⟩
        rw[HC.out,Bool.not_eq_true,List.all_eq_false]
        exact⟨ts[k][j],List.getElem_mem _,by simp[hr]⟩
       clear hr htj
       go_wp2
       go_ret
       exact⟨Zag HR.out.symm,hb3⟩
      ·have HR:Hid ((ts[k].take (j+1)).all (ZaN V M ts[k].length)=true):=by
        show _=_
        rw[htj,List.all_append,hin.out];simp[hr]
       clear hr htj
       go_wp2
       go_roundw
       case rel=>exact⟨j+1,by omega,by go_num,HR,hb2⟩
       case measure=>simp[intOf];omega
     ·obtain rfl:j=ts[k].length:=by omega
      have HR:Hid ((ts.take (k+1)).all (ZaC V M)=true):=by
       show _=_
       rw[HT.out,List.all_append,hall.out]
       have:=hin.out
       rw[List.take_length]at this
       simp[HC.out,this]
      have hb4:Below (w.heap.size+1) (w.alloc (.cells #[.int .i64 V,.int .i64 M,.slice (some ⟨b,o,none⟩) ts.length cap] 24)) wr:=hb.trans (hb'.mono (by omega))
      go_wp2
      go_roundw
      case rel=>exact⟨k+1,by omega,by go_num,HR,hb4⟩
      case measure=>simp[intOf];omega
  ·obtain rfl:k=ts.length:=by omega
   have HR:Hid (Zal ⟨V,M,ts⟩=true):=by
    show _=_
    rw[H.out,<-hall.out,List.take_length]
   go_wp2
   go_ret
   exact⟨Zag HR.out.symm,hbw⟩
def thrs(F k:Nat):List Thr:=List.replicate k ⟨0,F,[0,0]⟩
theorem Zik(F k:Nat):(thrs F k).length=k:=by simp[thrs]
theorem thrs_succ(F k:Nat):thrs F (k+1)=thrs F k++[⟨0,F,[0,0]⟩]:=by simp[thrs,List.replicate_succ']
def boxA(p:Pg)(a:Option Addr)(cap:Nat)(tv:Value):Array Value:=
 #[.int .i64 p.vars,.int .i64 p.mutexes,.slice a p.threads.length cap,tv,.int .i64 0,.int .i64 0,.int .i64 0,.int .i64 0,.int .i64 (-1),.int .i64 (-1)]
theorem Zjn{w:World}{ops:Array Oper}{rest:List Oper}{o:Oper}{a:Act}{Q:Exit->Act->World->Prop}(hgd:o.guard=none)(s x:Operand)
  (ho:o.op=.call { callee:=.builtin .append,args:=#[s,x],argTypes:=#[101,101] }) (B:Nat) (v:Value) (l:List Thr) (hs:a.eval s=v) (hown:w.ownsRow B 107 4 v l.length (Zax l))
  (ad:Addr) (hx:a.eval x=.slice (some ad) 1 1) (y:Thr) (hnews:∀j u,(Zax [y])[j]?=some u->w.cell? (ad.add j)=some u)
  (hlen:l.length<=1000000) (hB:B<=w.heap.size)
  (h:∀v' w',w'.ownsRow B 107 4 v' (l.length+1) (Zax (l++[y]))->w.grownBy w' v.ownBlock->wpList Tryz.prog ops Q rest (a.put o.dst v') w'):wpList Tryz.prog ops Q (o::rest) a w:=by
 have hinfo:(Tryz.prog.info? 107).map (fun i=>(i.zero,i.size,i.bytes))=some (some (.agg #[.int .i64 0,.int .i64 0,.int .i64 0,.int .i64 0]),4,32):=by kernel_rfl
 obtain⟨t,hi,hzz⟩:=Option.map_eq_some_iff.1 hinfo
 simp only[Prod.mk.injEq]at hzz
 obtain⟨hz,hsz,hby⟩:=hzz
 refine wpList_append_own w hgd s x 101 ho B 107 t (.agg #[.int .i64 0,.int .i64 0,.int .i64 0,.int .i64 0]) 4 32 Tryz.underlying101 hi hz hsz hby rfl (by decide) v l.length (Zax l) hs hown ad 1 1 (Zax [y]) hx rfl hnews
  (Zfx _) (by unfold maxLen;omega) (by omega) hB ?_
 intro v' w' h1 h2 _
 refine h v' w' ?_ h2
 rw[Zgk]
 exact h1
theorem thr_new(w:World)(F:Nat)(t:TypeId)(g:Nat)(hg:g=w.heap.size):∀j u,(Zax [⟨0,F,[0,0]⟩])[j]?=some u->(w.alloc (.cells #[.int .i64 0,.int .i64 F,.int .i64 0,.int .i64 0] t)).cell? (Addr.add ⟨g,0,none⟩ j)=some u:=by
 subst hg
 intro j u hj
 have e:Addr.add ⟨w.heap.size,0,none⟩ j=⟨w.heap.size,j,none⟩:=by
  unfold Addr.add
  split
  ·rename_i h0;subst h0;rfl
  ·simp
 rw[e,World.cell?_alloc_new]
 simpa [Zax,ZbC]using hj
theorem refnew_mid{p:Pg}{a:Option Addr}{cap:Nat}{wr w7:World}{b k:Nat}{tv v7:Value}{o:Obj}{xs ys:List Value}(hbox:wr.heap[b]?=some (.cells (boxA p a cap tv) 104 (0,0)))(hown:wr.ownsRow (b+1) 107 4 tv k xs)
  (h7:w7.ownsRow (b+1) 107 4 v7 (k+1) ys) (hg:(wr.alloc o).grownBy w7 tv.ownBlock):
  ∃g7 cap7,v7=.slice (some ⟨g7,0,none⟩) (k+1) cap7/\w7.cell? ⟨b,3,none⟩=some tv/\w7.frozen? ⟨b,3,none⟩=false /\
   Hid ((w7.setCell ⟨b,3,none⟩ (.slice (some ⟨g7,0,none⟩) (k+1) cap7)).heap[b]?=some (.cells (boxA p a cap (.slice (some ⟨g7,0,none⟩) (k+1) cap7)) 104 (0,0))) /\
   Hid ((w7.setCell ⟨b,3,none⟩ (.slice (some ⟨g7,0,none⟩) (k+1) cap7)).ownsRow (b+1) 107 4 (.slice (some ⟨g7,0,none⟩) (k+1) cap7) (k+1) ys)/\Below b wr w7:=by
 have hlt:b<wr.heap.size:=(Array.getElem?_eq_some_iff.1 hbox).1
 have own:∀j,tv.ownBlock=some j->b+1<=j:=fun j hj=>(World.ownsRow.lt hown j hj).1
 have hb7:w7.heap[b]?=some (.cells (boxA p a cap tv) 104 (0,0)):=by
  rw[hg.block b (by simp;omega) (fun e=>by have:=own _ e.symm;omega),Below.heap_alloc _ _ _ hlt]
  exact hbox
 obtain⟨r1,⟨_,r3⟩|⟨g,cap',cur,rfl,r4,r5,r6⟩⟩:=h7
 ·exact absurd r3 (by omega)
 ·refine⟨g,cap',rfl,by simp[World.cell?,hb7,boxA],by simp[World.frozen?,hb7],?_,?_,?_⟩
  ·show _=_
   rw[heap_setCell_same w7 b 3 _ _ _ hb7]
   rfl
  ·exact⟨r1,.inr ⟨g,cap',cur,rfl,r4,(Below.heap_setCell _ _ _ _ (by show g≠b;omega)).trans r5,r6⟩⟩
  ·exact((Below.refl _ _).alloc (by omega) o).grown hg (by simp;omega) (fun j hj=>by have:=own j hj;omega)
theorem new_eq(p:Pg)(F:Nat):(St.new p F).ts=thrs F p.threads.length:=by
 unfold St.new thrs
 simp[List.map_const']
theorem refNew_no(p:Pg)(a:Option Addr)(cap:Nat)(fuel:Int)(w:World)(hp:Zaf w a p.threads)(hr:¬(Zal p=true/\0<=fuel/\fuel<=8)):
  Calls Tryz.prog 31 #[.agg #[.int .i64 p.vars,.int .i64 p.mutexes,.slice a p.threads.length cap],.int .i64 fuel] w fun r w'=>r=.returned (.pointer none)/\Below w.heap.size w w':=by
 have HP:=Lib.hid hp
 have HR:=Lib.hid hr
 clear hr hp
 go_enter Tryz.func31,Tryz.ntmps31
 go_wp2_with fail
 refine(Zb4 p a cap _ (HP.out.later (Zaa w _))).mono ?_
 rintro r w1⟨rfl,hb⟩
 have hb1:Below w.heap.size w w1:=(Zaa w _).trans (hb.mono (by simp))
 clear hb
 cases hr:Zal p
 ·clear hr
  go_wp2
  go_ret
  exact⟨rfl,hb1⟩
 ·by_cases h0:fuel<0
  ·have q0:decide (fuel<0)=true:=by simpa using h0
   clear hr
   go_wp2
   go_ret
   exact⟨rfl,hb1⟩
  ·have q0:decide (fuel<0)=false:=by simpa using h0
   have h8:8<fuel:=by
    rcases Decidable.em (fuel<=8)with h|h
    ·exact absurd ⟨hr,by omega,h⟩ HR.out
    ·omega
   have q8:decide (8<fuel)=true:=by simpa using h8
   clear hr
   go_wp2
   go_ret
   exact⟨rfl,hb1⟩
theorem refNew_yes(p:Pg)(a:Option Addr)(cap F:Nat)(w:World)(hp:Zaf w a p.threads)(hr:Zal p=true)(hF:F<=8):
  Calls Tryz.prog 31 #[.agg #[.int .i64 p.vars,.int .i64 p.mutexes,.slice a p.threads.length cap],.int .i64 F] w
   fun r w'=>∃b tb tcap,r=.returned (.pointer (some ⟨b,0,none⟩))/\w.heap.size<=b/\w.heap.size<=tb/\RefAt w' b tb a cap tcap (St.new p F)/\Below w.heap.size w w':=by
 have hn:1<=p.threads.length/\p.threads.length<=4:=by
  unfold Zal at hr
  rw[Bool.and_eq_true,decide_eq_true_eq]at hr
  omega
 obtain⟨hn1,hn4⟩:=hn
 have HR:=Lib.hid hr
 have HP:=Lib.hid hp
 have q0:decide ((F:Int)<0)=false:=by simp
 have q8:decide (8<(F:Int))=false:=by simp;omega
 clear hr hp
 go_enter Tryz.func31,Tryz.ntmps31
 go_wp2_with fail
 refine(Zb4 p a cap _ (HP.out.later (Zaa w _))).mono ?_
 rw[HR.out]
 rintro r w1⟨rfl,hb⟩
 have hb1:Below w.heap.size w w1:=(Zaa w _).trans (hb.mono (by simp))
 have hc:∀o,w1.cell? ⟨w.heap.size,o,none⟩=(w.alloc (.cells #[.int .i64 p.vars,.int .i64 p.mutexes,.slice a p.threads.length cap] 24)).cell? ⟨w.heap.size,o,none⟩:=fun o=>hb.cell (p:=⟨w.heap.size,o,none⟩) (by simp)
 have hz:w.heap.size<w1.heap.size:=by have:=hb.size;simp at this;omega
 have HPX:Hid (w1.heap[w.heap.size]?=some (.cells #[.int .i64 p.vars,.int .i64 p.mutexes,.slice a p.threads.length cap] 24 (0,0))):=(hb.block _ (by simp)).trans (heap_alloc_new w _)
 clear hb
 go_wp2
 clear hc
 go_loopw [6] (fun i wr=>∃(k:Nat) (tv:Value),k<=p.threads.length/\i=.int .i64 k/\wr.heap[w1.heap.size]?=some (.cells (boxA p a cap tv) 104 (0,0))/\wr.ownsRow (w1.heap.size+1) 107 4 tv (thrs F k).length (Zax (thrs F k))/\Below w1.heap.size w1 wr) (fun i _=>p.threads.length-(intOf i).toNat)
 case atStart=>exact⟨0,.slice none 0 0,Nat.zero_le _,rfl,heap_alloc_new w1 _,World.ownsRow_nil _ _ _ _,Zaa _ _⟩
 case round=>
  obtain⟨k,tv,hk,rfl,hbox,hown,hbr⟩:=hrel
  have c2:wr.cell? ⟨w.heap.size,2,none⟩=some (.slice a p.threads.length cap):=by
   have:wr.heap[w.heap.size]?=some (.cells #[.int .i64 p.vars,.int .i64 p.mutexes,.slice a p.threads.length cap] 24 (0,0)):=(hbr.block _ hz).trans HPX.out
   simp[World.cell?,this]
  have c3:wr.cell? ⟨w1.heap.size,3,none⟩=some tv:=by simp[World.cell?,hbox,boxA]
  have hbl:=(Array.getElem?_eq_some_iff.1 hbox).1
  have hlk:=Zik F k
  have HBOX:=Lib.hid hbox
  have HOWN:=Lib.hid hown
  have HLK:=Lib.hid hlk
  clear hbox hown hlk
  by_cases hlt:k<p.threads.length
  ·go_wp2_with (at_builtin;refine Zjn rfl (.tmp 33) (.tmp 36) rfl (w1.heap.size+1) _ (thrs F k) rfl (World.ownsRow.alloc HOWN.out _) ⟨wr.heap.size,0,none⟩ rfl ⟨0,F,[0,0]⟩ (thr_new wr F _ _ rfl) (by rw[HLK.out];omega) (by simp;omega) ?_;intro v7 w7 hown7 hg7;obtain⟨g7,cap7,rfl,d3,f3,HB7,HO7,hbl7⟩:=refnew_mid HBOX.out HOWN.out hown7 hg7;clear hown7 hg7)
   have hb7:Below w1.heap.size w1 (w7.setCell ⟨w1.heap.size,3,none⟩ (.slice (some ⟨g7,0,none⟩) ((thrs F k).length+1) cap7)):=(hbr.trans hbl7).setCell (p:=⟨w1.heap.size,3,none⟩) (Nat.le_refl _) _
   go_roundw
   case rel=>exact⟨k+1,_,by omega,by go_num,HB7.out,by rw[thrs_succ,List.length_append];exact HO7.out,hb7⟩
   case measure=>simp[intOf];omega
  ·obtain rfl:k=p.threads.length:=by omega
   go_wp2
   go_ret
   have hown:=HOWN.out
   rw[HLK.out]at hown
   obtain⟨r1,⟨_,r3⟩|⟨tb,tcap,cur,e,r4,r5,_,_,_,r6⟩⟩:=hown
   ·exact absurd r3 (by omega)
   ·subst e
    refine⟨_,tb,tcap,rfl,by omega,by omega,⟨?_,by omega,cur,r5,?_⟩,hb1.trans (hbr.mono (by omega))⟩
    ·rw[HBOX.out]
     have hl:(St.new p F).ts.length=p.threads.length:=by rw[new_eq,Zik]
     unfold refA boxA
     rw[hl]
     rfl
    ·rw[new_eq,Zik]
     exact r6
section
variable{w:World}{b tb:Nat}{a:Option Addr}{cap tcap:Nat}{s:St}
theorem infoThr:(Tryz.prog.info? 107).map (fun i=>(i.zero.isSome,i.size,i.bytes))=some (true,4,32):=by kernel_rfl
theorem run_copyT(ty:TypeId)(g:Nat)(h:RefAt w b tb a cap tcap s)(hne:1<=s.ts.length)(h4:s.ts.length<=4):
  ∃ntc w',(Builtin.append_ #[101,101] ty #[.slice (some ⟨g,0,none⟩) 0 0,.slice (some ⟨tb,0,none⟩) s.ts.length tcap]).run Tryz.prog w=.ok (.slice (some ⟨w.heap.size,0,none⟩) s.ts.length ntc) w' /\
   (∃cur,w'.heap[w.heap.size]?=some (.cells cur 107 (0,0))/\cur.toList.take (s.ts.length*4)=Zax s.ts)/\Below w.heap.size w w':=by
 obtain⟨i,hi,hzz⟩:=Option.map_eq_some_iff.1 infoThr
 simp only[Prod.mk.injEq]at hzz
 obtain⟨hz,hsz,hby⟩:=hzz
 obtain⟨z,hz⟩:=Option.isSome_iff_exists.1 hz
 have hl:=Zcq s.ts
 have hsrc:Src Tryz.prog i.size 101 (.slice (some ⟨tb,0,none⟩) s.ts.length tcap) s.ts.length (Zax s.ts) w:=by
  rw[hsz]
  refine Src.ofSlice w Tryz.underlying101 ⟨tb,0,none⟩ s.ts.length tcap (Zax s.ts) hl (fun j u hj=>?_) (Zfx _)
  have hjl:j<s.ts.length*4:=by rw[<-hl];exact(List.getElem?_eq_some_iff.1 hj).1
  obtain⟨t,k,rfl,hk⟩:∃t k,j=t*4+k/\k<4:=⟨j/4,j%4,by omega,by omega⟩
  have ht:t<s.ts.length:=by omega
  rw[Zb3 s.ts t k ht hk]at hj
  have hc:=h.thr t ht k hk
  have e:s.th t=s.ts[t]:=Zav _ ht
  rw[e,hj]at hc
  have ea:Addr.add ⟨tb,0,none⟩ (t*4+k)=⟨tb,t*4+k,none⟩:=by
   unfold Addr.add
   split
   ·rename_i h0;rw[h0]
   ·simp
  rw[ea]
  exact hc
 have hold:(Builtin.firstCells i.size 0 (.slice (some ⟨g,0,none⟩) 0 0)).run Tryz.prog w.drew=.ok ([]:List Value).toArray w.drew:=by
  rw[hsz]
  exact run_firstCells_some w.drew 4 0 ⟨g,0,none⟩ 0 0 [] rfl (by simp)
 have hrun:=run_append_grow_src (P:=Tryz.prog) w 101 101 ty 107 i _ Tryz.underlying101 hi hz (some ⟨g,0,none⟩) 0 0 [] hold _ s.ts.length (Zax s.ts) hsrc (by omega) (by omega) (by rw[hby];exact growslice_fits (by omega) (by omega))
 rw[Nat.zero_add]at hrun
 refine⟨_,_,hrun,⟨_,heap_alloc_new w.drew _,?_⟩,((Below.refl _ _).drew).alloc (Nat.le_refl _) _⟩
 simp only[List.nil_append,Array.toList_append]
 rw[<-hl]
 simp
theorem Zjo{ops:Array Oper}{rest:List Oper}{o:Oper}{A:Act}{Q:Exit->Act->World->Prop}(hgd:o.guard=none)(x y:Operand)
  (ho:o.op=.call { callee:=.builtin .append,args:=#[x,y],argTypes:=#[101,101] }) (g:Nat) (hx:A.eval x=.slice (some ⟨g,0,none⟩) 0 0) (hy:A.eval y=.slice (some ⟨tb,0,none⟩) s.ts.length tcap)
  (h:RefAt w b tb a cap tcap s) (hne:1<=s.ts.length) (h4:s.ts.length<=4)
  (hK:∀ntc w',(∃cur,w'.heap[w.heap.size]?=some (.cells cur 107 (0,0))/\cur.toList.take (s.ts.length*4)=Zax s.ts)->Below w.heap.size w w'->wpList Tryz.prog ops Q rest (A.put o.dst (.slice (some ⟨w.heap.size,0,none⟩) s.ts.length ntc)) w'):
  wpList Tryz.prog ops Q (o::rest) A w:=by
 refine wpList_plain hgd fun K hK'=>?_
 obtain⟨ntc,w',hr,h1,h2⟩:=run_copyT o.type g h hne h4
 unfold Oper.wp
 simp[execOp,ho,resolve,invoke,builtin,hx,hy,hr,Result.andThen]
 exact hK' _ _ (hK ntc w' h1 h2)
theorem Zlj(h:RefAt w b tb a cap tcap s)(hne:1<=s.ts.length)(h4:s.ts.length<=4):
  Calls Tryz.prog 60 #[.pointer (some ⟨b,0,none⟩)] w fun r w'=>∃nb ntb ntc,r=.returned (.pointer (some ⟨nb,0,none⟩))/\w.heap.size<=nb/\w.heap.size<=ntb/\RefAt w' nb ntb a cap ntc s/\Below w.heap.size w w':=by
 have H:=Lib.hid h
 have hcell:∀j,w.cell? ⟨b,j,none⟩=(refA s a cap tb tcap)[j]?:=fun j=>by
  unfold World.cell?
  dsimp only
  rw[h.1]
  rfl
 have hlt:=h.lt.1
 have c0:=hcell 0
 have c1:=hcell 1
 have c2:=hcell 2
 have c3:=hcell 3
 have c4:=hcell 4
 have c5:=hcell 5
 have c6:=hcell 6
 have c7:=hcell 7
 have c8:=hcell 8
 have c9:=hcell 9
 simp only[refA,List.getElem?_toArray,List.getElem?_cons_zero,List.getElem?_cons_succ]at c0 c1 c2 c3 c4 c5 c6 c7 c8 c9
 have HBOX:Hid (∀(W:World) (nb ntb ntc:Nat),W.heap[nb]?=some (.cells #[.int .i64 s.p.vars,.int .i64 s.p.mutexes,.slice a s.p.threads.length cap,.slice (some ⟨tb,0,none⟩) s.ts.length tcap,
  .int .i64 (s.v.getD 0 0),.int .i64 (s.v.getD 1 0),.int .i64 (s.v.getD 2 0),.int .i64 (s.v.getD 3 0),.int .i64 (s.m.getD 0 (-1)),.int .i64 (s.m.getD 1 (-1))] 104 (0,0))->(W.setCell ⟨nb,3,none⟩ (.slice (some ⟨ntb,0,none⟩) s.ts.length ntc)).heap[nb]?=some (.cells (refA s a cap ntb ntc) 104 (0,0))):=fun W nb ntb ntc hW=>by
  rw[heap_setCell_same W nb 3 _ _ _ hW]
  rfl
 clear hcell h
 generalize s.v.getD 0 0=n0 at *
 generalize s.v.getD 1 0=n1 at *
 generalize s.v.getD 2 0=n2 at *
 generalize s.v.getD 3 0=n3 at *
 generalize s.m.getD 0 (-1)=m0 at *
 generalize s.m.getD 1 (-1)=m1 at *
 go_enter Tryz.func60,Tryz.ntmps60
 have hb1:Below w.heap.size w ((w.alloc (.cells #[.int .i64 s.p.vars,.int .i64 s.p.mutexes,.slice a s.p.threads.length cap,.slice (some ⟨tb,0,none⟩) s.ts.length tcap,.int .i64 n0,.int .i64 n1,.int .i64 n2,.int .i64 n3,.int .i64 m0,.int .i64 m1] 104)).alloc (.cells #[] 107)):=Zak w _ _
 have hh1:((w.alloc (.cells #[.int .i64 s.p.vars,.int .i64 s.p.mutexes,.slice a s.p.threads.length cap,.slice (some ⟨tb,0,none⟩) s.ts.length tcap,.int .i64 n0,.int .i64 n1,.int .i64 n2,.int .i64 n3,.int .i64 m0,.int .i64 m1] 104)).alloc (.cells #[] 107)).heap[w.heap.size]?=some (.cells #[.int .i64 s.p.vars,.int .i64 s.p.mutexes,.slice a s.p.threads.length cap,.slice (some ⟨tb,0,none⟩) s.ts.length tcap,.int .i64 n0,.int .i64 n1,.int .i64 n2,.int .i64 n3,.int .i64 m0,.int .i64 m1] 104 (0,0)):=((Zaa _ _).block _ (by rw[World.size_alloc];omega)).trans (heap_alloc_new w _)
 have HH1:=Lib.hid hh1
 clear hh1
 go_wp2_with (at_builtin;refine Zjo rfl _ _ rfl (w.heap.size+1) rfl rfl (H.out.later hb1) hne h4 ?_;intro ntc w4 hcur hb4;have HCUR:=Lib.hid hcur;have HB4:=Lib.hid hb4;have hh4:=(hb4.block w.heap.size (by rw[World.size_alloc,World.size_alloc];omega)).trans HH1.out;have d3:w4.cell? ⟨w.heap.size,3,none⟩=some (.slice (some ⟨tb,0,none⟩) s.ts.length tcap):=(by unfold World.cell?;dsimp only;rw[hh4];rfl);have f3:w4.frozen? ⟨w.heap.size,3,none⟩=false:=(by unfold World.frozen?;dsimp only;rw[hh4];rfl);have HH4:=Lib.hid hh4;clear hcur hb4 hh4)
 go_ret
 have hz:((w.alloc (.cells #[.int .i64 s.p.vars,.int .i64 s.p.mutexes,.slice a s.p.threads.length cap,.slice (some ⟨tb,0,none⟩) s.ts.length tcap,.int .i64 n0,.int .i64 n1,.int .i64 n2,.int .i64 n3,.int .i64 m0,.int .i64 m1] 104)).alloc (.cells #[] 107)).heap.size=w.heap.size+1+1:=by rw[World.size_alloc,World.size_alloc]
 obtain⟨cur,k1,k2⟩:=HCUR.out
 rw[hz]at k1
 refine⟨w.heap.size,_,ntc,rfl,Nat.le_refl _,?_,⟨HBOX.out _ _ _ _ HH4.out,?_,cur,(Below.heap_setCell _ _ _ _ ?_).trans k1,k2⟩,((hb1.trans (HB4.out.mono hb1.size)).setCell (p:=⟨w.heap.size,3,none⟩) (Nat.le_refl _) _)⟩
 ·omega
 ·omega
 ·show w.heap.size+1+1≠w.heap.size
  omega
end
section
variable{F:Nat}{w:World}{b tb:Nat}{a:Option Addr}{cap tcap:Nat}{s:St}
theorem Zlg(h:RefAt w b tb a cap tcap s)(t:Int)(ht0:t<0):Calls Tryz.prog 59 #[.pointer (some ⟨b,0,none⟩),.int .i64 t] w fun r w'=>r=.returned (.tuple #[.agg #[.int .i64 0,.int .i64 0,.int .i64 0,.bool false],.bool false])/\Below w.heap.size w w':=by
 obtain⟨hb1,hb2⟩:=h.lt
 obtain⟨p0,p1⟩:=h.prog
 have q0:decide (t<0)=true:=by simpa using ht0
 have H:=Lib.hid h
 clear h
 go_enter Tryz.func59,Tryz.ntmps59
 go_wp2
 go_quiet (fail)
 go_wp2
 exact bodyPost_ret (v:=.tuple #[.agg #[.int .i64 0,.int .i64 0,.int .i64 0,.bool false],.bool false]) (by simp[results,Tryz.results59,go_sem]) rfl ⟨rfl,Zbe (Zaa w _).drewN (Nat.le_refl _) _ _ _ _⟩
theorem Zlf(h:RefAt w b tb a cap tcap s)(t:Int)(ht0:¬t<0)(hk0:(s.ts.length:Int)<=t):Calls Tryz.prog 59 #[.pointer (some ⟨b,0,none⟩),.int .i64 t] w fun r w'=>r=.returned (.tuple #[.agg #[.int .i64 0,.int .i64 0,.int .i64 0,.bool false],.bool false])/\Below w.heap.size w w':=by
 obtain⟨hb1,hb2⟩:=h.lt
 obtain⟨p0,p1⟩:=h.prog
 have q0:decide (t<0)=false:=by simpa using ht0
 have q1:decide ((s.ts.length:Int)<=t)=true:=by simpa using hk0
 have H:=Lib.hid h
 clear h ht0 hk0
 go_enter Tryz.func59,Tryz.ntmps59
 go_wp2
 go_quiet (fail)
 go_wp2
 exact bodyPost_ret (v:=.tuple #[.agg #[.int .i64 0,.int .i64 0,.int .i64 0,.bool false],.bool false]) (by simp[results,Tryz.results59,go_sem]) rfl ⟨rfl,Zbe (Zaa w _).drewN (Nat.le_refl _) _ _ _ _⟩
end
section
variable{F:Nat}{w:World}{b tb:Nat}{a:Option Addr}{cap tcap:Nat}{s:St}
theorem Zli(h:RefAt w b tb a cap tcap s)(t:Nat)(_h4:s.ts.length<=4)(hk':t<s.ts.length)(hf:(s.th t).fuel=0):Calls Tryz.prog 59 #[.pointer (some ⟨b,0,none⟩),.int .i64 t] w fun r w'=>r=.returned (.tuple #[.agg #[.int .i64 0,.int .i64 0,.int .i64 0,.bool false],.bool false])/\Below w.heap.size w w':=by
 obtain⟨hb1,hb2⟩:=h.lt
 obtain⟨p0,p1⟩:=h.prog
 have cf:w.cell? ⟨tb,t*4+1,none⟩=some (.int .i64 0):=by have:=h.fuel t hk';rw[hf]at this;exact this
 have q0:decide ((t:Int)<0)=false:=by simp
 have q1:decide ((s.ts.length:Int)<=t)=false:=by simp;omega
 have q2:decide (s.ts.length<=t)=false:=by simp;omega
 have H:=Lib.hid h
 clear h hf
 go_enter Tryz.func59,Tryz.ntmps59
 go_wp2
 go_quiet (fail)
 go_wp2
 exact bodyPost_ret (v:=.tuple #[.agg #[.int .i64 0,.int .i64 0,.int .i64 0,.bool false],.bool false]) (by simp[results,Tryz.results59,go_sem]) rfl ⟨rfl,Zbe (Zaa w _).drewN (Nat.le_refl _) _ _ _ _⟩
end
section
variable{F:Nat}{w:World}{b tb:Nat}{a:Option Addr}{cap tcap:Nat}{s:St}
theorem Zlh(h:RefAt w b tb a cap tcap s)(hth:Zaf w a s.p.threads)(ok:s.Ok F)(t:Nat)(hk':t<s.ts.length)(hf:(s.th t).fuel≠0)(hat:(s.th t).at_=(s.code t).length):Calls Tryz.prog 59 #[.pointer (some ⟨b,0,none⟩),.int .i64 t] w fun r w'=>r=.returned (.tuple #[.agg #[.int .i64 0,.int .i64 0,.int .i64 0,.bool false],.bool false])/\Below w.heap.size w w':=by
 obtain⟨hb1,hb2⟩:=h.lt
 obtain⟨p0,p1⟩:=h.prog
 have hln:=ok.len
 have h4:=ok.len4
 have cf:=h.fuel t hk'
 have ca:=h.at_ t hk'
 have q0:decide ((t:Int)<0)=false:=by simp
 have q2:decide (s.ts.length<=t)=false:=by simp;omega
 have q1:decide ((s.ts.length:Int)<=t)=false:=by simp;omega
 have hkp:t<s.p.threads.length:=by omega
 have hcd:s.code t=s.p.threads[t]:=Zav _ hkp
 obtain⟨ab,ao,rfl,hc⟩:=hth.2 (by intro e;simp[e]at hkp)
 obtain⟨c,ccap,c0,c1,_⟩:=hc t hkp
 rw[<-hcd]at c0
 have hz:=Zan c0
 dsimp only at hz
 have hf':((((s.th t).fuel:Nat):Int)==0)=false:=by simp;omega
 have h8:=ok.code8 t hk'
 rw[hat]at ca
 have H:=Lib.hid h
 clear h hth ok hln hf hat hc c1 hcd
 generalize (s.th t).fuel=f at *
 generalize (s.code t).length=n at *
 have q3:decide (n<=n)=true:=by simp
 have q4:decide ((n:Int)<=n)=true:=by simp
 go_enter Tryz.func59,Tryz.ntmps59
 go_wp2
 go_quiet (fail)
 go_wp2
 exact bodyPost_ret (v:=.tuple #[.agg #[.int .i64 0,.int .i64 0,.int .i64 0,.bool false],.bool false]) (by simp[results,Tryz.results59,go_sem]) rfl ⟨rfl,Zbe (Zaa w _).drewN (Nat.le_refl _) _ _ _ _⟩
end
section
variable{F:Nat}{w:World}{b tb:Nat}{a:Option Addr}{cap tcap:Nat}{s:St}
theorem refNext_1(h:RefAt w b tb a cap tcap s)(hth:Zaf w a s.p.threads)(ok:s.Ok F)(t:Nat)(i:Ins)(hi:s.ins t=some i)(hk1:i.kind=1):
  Calls Tryz.prog 59 #[.pointer (some ⟨b,0,none⟩),.int .i64 t] w fun r w'=>r=.returned (.tuple #[.agg #[.int .i64 t,.int .i64 2,.int .i64 i.x,.bool false],.bool true])/\Below w.heap.size w w':=by
 obtain⟨_,hf,hcode⟩:=St.ins_has hi
 obtain⟨k,hkk,hk'⟩:=St.ins_nat hi
 obtain rfl:t=k:=by omega
 simp only[Int.toNat_natCast]at hf hcode
 obtain⟨hb1,hb2⟩:=h.lt
 obtain⟨p0,p1⟩:=h.prog
 have hln:=ok.len
 have h4:=ok.len4
 have hkp:t<s.p.threads.length:=by omega
 have hcd:s.code t=s.p.threads[t]:=Zav _ hkp
 obtain⟨hat,hic⟩:=List.getElem?_eq_some_iff.1 hcode
 obtain⟨ab,ao,rfl,hc⟩:=hth.2 (by intro e;simp[e]at hkp)
 obtain⟨c,ccap,c0,c1,_⟩:=hc t hkp
 rw[<-hcd]at c0 c1
 obtain⟨cb,co,rfl,hcc⟩:=c1.2 (by intro e;simp[e]at hat)
 obtain⟨i0,i1,i2,i3⟩:=hcc _ hat
 rw[hic]at i0 i1 i2 i3
 have hz1:=Zan c0
 have hz2:=Zan i0
 dsimp only at hz1 hz2
 have cf:=h.fuel t hk'
 have ca:=h.at_ t hk'
 have hff:((((s.th t).fuel:Nat):Int)==0)=false:=by simp;omega
 have q0:decide ((t:Int)<0)=false:=by simp
 have q1:decide ((s.ts.length:Int)<=t)=false:=by simp;omega
 have q2:decide (s.ts.length<=t)=false:=by simp;omega
 have q3:decide ((s.code t).length<=(s.th t).at_)=false:=by simp;omega
 have q4:decide (((s.code t).length:Int)<=(s.th t).at_)=false:=by simp;omega
 have h8:=ok.code8 t hk'
 have H:=Lib.hid h
 clear h hth ok hi hln hkk hf hcode hc c1 hcd hcc hic
 generalize (s.th t).fuel=f at *
 generalize (s.th t).at_=at_ at *
 generalize (s.code t).length=n at *
 obtain⟨kd,r,x,m⟩:=i
 dsimp only at *
 subst hk1
 go_enter Tryz.func59,Tryz.ntmps59
 go_wp2
 go_quiet (fail)
 go_wp2
 go_region
 generalize hW:(((w.alloc (.cells #[.int .i64 0,.int .i64 0,.int .i64 0,.bool false] 112)).drewN (nq+1)).alloc (.cells #[.int .i64 1,.int .i64 r,.int .i64 x,.int .i64 m] 63))=W at *
 obtain⟨hbl,⟨e0,e1,e2,e3⟩,⟨e4,e5,e6,e7⟩,⟨j0,j1,j2,j3⟩,hsz,hsz0⟩:=Zcv hW
 clear hW cf ca c0 i0 i1 i2 i3 p0 p1
 go_wp2
 refine bodyPost_ret (v:=.tuple #[.agg #[.int .i64 t,.int .i64 2,.int .i64 x,.bool false],.bool true]) (by simp[results,Tryz.results59,go_sem,hsz0,e0,e1,e2,e3]) rfl ⟨rfl,?_⟩
 repeat(first|exact hbl|refine Below.drew ?_|refine Below.drewN ?_|(refine Below.alloc ?_ (by simp[World.setCell];omega) _)|(refine Below.setCell ?_ (by first|exact Nat.le_refl _|(simp[World.setCell];omega)) _))
theorem refNext_2(h:RefAt w b tb a cap tcap s)(hth:Zaf w a s.p.threads)(ok:s.Ok F)(t:Nat)(i:Ins)(hi:s.ins t=some i)(hk1:i.kind=2):
  Calls Tryz.prog 59 #[.pointer (some ⟨b,0,none⟩),.int .i64 t] w fun r w'=>r=.returned (.tuple #[.agg #[.int .i64 t,.int .i64 3,.int .i64 i.x,.bool false],.bool true])/\Below w.heap.size w w':=by
 obtain⟨_,hf,hcode⟩:=St.ins_has hi
 obtain⟨k,hkk,hk'⟩:=St.ins_nat hi
 obtain rfl:t=k:=by omega
 simp only[Int.toNat_natCast]at hf hcode
 obtain⟨hb1,hb2⟩:=h.lt
 obtain⟨p0,p1⟩:=h.prog
 have hln:=ok.len
 have h4:=ok.len4
 have hkp:t<s.p.threads.length:=by omega
 have hcd:s.code t=s.p.threads[t]:=Zav _ hkp
 obtain⟨hat,hic⟩:=List.getElem?_eq_some_iff.1 hcode
 obtain⟨ab,ao,rfl,hc⟩:=hth.2 (by intro e;simp[e]at hkp)
 obtain⟨c,ccap,c0,c1,_⟩:=hc t hkp
 rw[<-hcd]at c0 c1
 obtain⟨cb,co,rfl,hcc⟩:=c1.2 (by intro e;simp[e]at hat)
 obtain⟨i0,i1,i2,i3⟩:=hcc _ hat
 rw[hic]at i0 i1 i2 i3
 have hz1:=Zan c0
 have hz2:=Zan i0
 dsimp only at hz1 hz2
 have cf:=h.fuel t hk'
 have ca:=h.at_ t hk'
 have hff:((((s.th t).fuel:Nat):Int)==0)=false:=by simp;omega
 have q0:decide ((t:Int)<0)=false:=by simp
 have q1:decide ((s.ts.length:Int)<=t)=false:=by simp;omega
 have q2:decide (s.ts.length<=t)=false:=by simp;omega
 have q3:decide ((s.code t).length<=(s.th t).at_)=false:=by simp;omega
 have q4:decide (((s.code t).length:Int)<=(s.th t).at_)=false:=by simp;omega
 have h8:=ok.code8 t hk'
 have H:=Lib.hid h
 clear h hth ok hi hln hkk hf hcode hc c1 hcd hcc hic
 generalize (s.th t).fuel=f at *
 generalize (s.th t).at_=at_ at *
 generalize (s.code t).length=n at *
 obtain⟨kd,r,x,m⟩:=i
 dsimp only at *
 subst hk1
 go_enter Tryz.func59,Tryz.ntmps59
 go_wp2
 go_quiet (fail)
 go_wp2
 go_region
 generalize hW:(((w.alloc (.cells #[.int .i64 0,.int .i64 0,.int .i64 0,.bool false] 112)).drewN (nq+1)).alloc (.cells #[.int .i64 2,.int .i64 r,.int .i64 x,.int .i64 m] 63))=W at *
 obtain⟨hbl,⟨e0,e1,e2,e3⟩,⟨e4,e5,e6,e7⟩,⟨j0,j1,j2,j3⟩,hsz,hsz0⟩:=Zcv hW
 clear hW cf ca c0 i0 i1 i2 i3 p0 p1
 go_wp2
 refine bodyPost_ret (v:=.tuple #[.agg #[.int .i64 t,.int .i64 3,.int .i64 x,.bool false],.bool true]) (by simp[results,Tryz.results59,go_sem,hsz0,e0,e1,e2,e3]) rfl ⟨rfl,?_⟩
 repeat(first|exact hbl|refine Below.drew ?_|refine Below.drewN ?_|(refine Below.alloc ?_ (by simp[World.setCell];omega) _)|(refine Below.setCell ?_ (by first|exact Nat.le_refl _|(simp[World.setCell];omega)) _))
theorem refNext_5(h:RefAt w b tb a cap tcap s)(hth:Zaf w a s.p.threads)(ok:s.Ok F)(t:Nat)(i:Ins)(hi:s.ins t=some i)(hk1:i.kind=5):
  Calls Tryz.prog 59 #[.pointer (some ⟨b,0,none⟩),.int .i64 t] w fun r w'=>r=.returned (.tuple #[.agg #[.int .i64 t,.int .i64 4,.int .i64 i.x,.bool false],.bool true])/\Below w.heap.size w w':=by
 obtain⟨_,hf,hcode⟩:=St.ins_has hi
 obtain⟨k,hkk,hk'⟩:=St.ins_nat hi
 obtain rfl:t=k:=by omega
 simp only[Int.toNat_natCast]at hf hcode
 obtain⟨hb1,hb2⟩:=h.lt
 obtain⟨p0,p1⟩:=h.prog
 have hln:=ok.len
 have h4:=ok.len4
 have hkp:t<s.p.threads.length:=by omega
 have hcd:s.code t=s.p.threads[t]:=Zav _ hkp
 obtain⟨hat,hic⟩:=List.getElem?_eq_some_iff.1 hcode
 obtain⟨ab,ao,rfl,hc⟩:=hth.2 (by intro e;simp[e]at hkp)
 obtain⟨c,ccap,c0,c1,_⟩:=hc t hkp
 rw[<-hcd]at c0 c1
 obtain⟨cb,co,rfl,hcc⟩:=c1.2 (by intro e;simp[e]at hat)
 obtain⟨i0,i1,i2,i3⟩:=hcc _ hat
 rw[hic]at i0 i1 i2 i3
 have hz1:=Zan c0
 have hz2:=Zan i0
 dsimp only at hz1 hz2
 have cf:=h.fuel t hk'
 have ca:=h.at_ t hk'
 have hff:((((s.th t).fuel:Nat):Int)==0)=false:=by simp;omega
 have q0:decide ((t:Int)<0)=false:=by simp
 have q1:decide ((s.ts.length:Int)<=t)=false:=by simp;omega
 have q2:decide (s.ts.length<=t)=false:=by simp;omega
 have q3:decide ((s.code t).length<=(s.th t).at_)=false:=by simp;omega
 have q4:decide (((s.code t).length:Int)<=(s.th t).at_)=false:=by simp;omega
 have h8:=ok.code8 t hk'
 have H:=Lib.hid h
 clear h hth ok hi hln hkk hf hcode hc c1 hcd hcc hic
 generalize (s.th t).fuel=f at *
 generalize (s.th t).at_=at_ at *
 generalize (s.code t).length=n at *
 obtain⟨kd,r,x,m⟩:=i
 dsimp only at *
 subst hk1
 go_enter Tryz.func59,Tryz.ntmps59
 go_wp2
 go_quiet (fail)
 go_wp2
 go_region
 generalize hW:(((w.alloc (.cells #[.int .i64 0,.int .i64 0,.int .i64 0,.bool false] 112)).drewN (nq+1)).alloc (.cells #[.int .i64 5,.int .i64 r,.int .i64 x,.int .i64 m] 63))=W at *
 obtain⟨hbl,⟨e0,e1,e2,e3⟩,⟨e4,e5,e6,e7⟩,⟨j0,j1,j2,j3⟩,hsz,hsz0⟩:=Zcv hW
 clear hW cf ca c0 i0 i1 i2 i3 p0 p1
 go_wp2
 refine bodyPost_ret (v:=.tuple #[.agg #[.int .i64 t,.int .i64 4,.int .i64 x,.bool false],.bool true]) (by simp[results,Tryz.results59,go_sem,hsz0,e0,e1,e2,e3]) rfl ⟨rfl,?_⟩
 repeat(first|exact hbl|refine Below.drew ?_|refine Below.drewN ?_|(refine Below.alloc ?_ (by simp[World.setCell];omega) _)|(refine Below.setCell ?_ (by first|exact Nat.le_refl _|(simp[World.setCell];omega)) _))
end
section
variable{F:Nat}{w:World}{b tb:Nat}{a:Option Addr}{cap tcap:Nat}{s:St}
theorem refNext_6(h:RefAt w b tb a cap tcap s)(hth:Zaf w a s.p.threads)(ok:s.Ok F)(t:Nat)(i:Ins)(hi:s.ins t=some i)(hk1:i.kind=6)(y:Nat)(hy:i.x=y)(hy2:y<2)(hw:s.who y=t):
  Calls Tryz.prog 59 #[.pointer (some ⟨b,0,none⟩),.int .i64 t] w fun r w'=>r=.returned (.tuple #[.agg #[.int .i64 t,.int .i64 5,.int .i64 i.x,.bool false],.bool true])/\Below w.heap.size w w':=by
 obtain⟨_,hf,hcode⟩:=St.ins_has hi
 obtain⟨k,hkk,hk'⟩:=St.ins_nat hi
 obtain rfl:t=k:=by omega
 simp only[Int.toNat_natCast]at hf hcode
 obtain⟨hb1,hb2⟩:=h.lt
 obtain⟨p0,p1⟩:=h.prog
 have hln:=ok.len
 have h4:=ok.len4
 have hkp:t<s.p.threads.length:=by omega
 have hcd:s.code t=s.p.threads[t]:=Zav _ hkp
 obtain⟨hat,hic⟩:=List.getElem?_eq_some_iff.1 hcode
 obtain⟨ab,ao,rfl,hc⟩:=hth.2 (by intro e;simp[e]at hkp)
 obtain⟨c,ccap,c0,c1,_⟩:=hc t hkp
 rw[<-hcd]at c0 c1
 obtain⟨cb,co,rfl,hcc⟩:=c1.2 (by intro e;simp[e]at hat)
 obtain⟨i0,i1,i2,i3⟩:=hcc _ hat
 rw[hic]at i0 i1 i2 i3
 have hz1:=Zan c0
 have hz2:=Zan i0
 dsimp only at hz1 hz2
 have cf:=h.fuel t hk'
 have ca:=h.at_ t hk'
 have hff:((((s.th t).fuel:Nat):Int)==0)=false:=by simp;omega
 have q0:decide ((t:Int)<0)=false:=by simp
 have q1:decide ((s.ts.length:Int)<=t)=false:=by simp;omega
 have q2:decide (s.ts.length<=t)=false:=by simp;omega
 have q3:decide ((s.code t).length<=(s.th t).at_)=false:=by simp;omega
 have q4:decide (((s.code t).length:Int)<=(s.th t).at_)=false:=by simp;omega
 have h8:=ok.code8 t hk'
 have c9:=h.who y hy2
 rw[hw]at c9
 have H:=Lib.hid h
 clear h hth ok hi hln hkk hf hcode hc c1 hcd hcc hic
 generalize (s.th t).fuel=f at *
 generalize (s.th t).at_=at_ at *
 generalize (s.code t).length=n at *
 obtain⟨kd,r,x,m⟩:=i
 dsimp only at *
 subst hk1 hy
 clear hw
 go_enter Tryz.func59,Tryz.ntmps59
 go_wp2
 go_quiet (fail)
 go_wp2
 go_region
 generalize hW:(((w.alloc (.cells #[.int .i64 0,.int .i64 0,.int .i64 0,.bool false] 112)).drewN (nq+1)).alloc (.cells #[.int .i64 6,.int .i64 r,.int .i64 y,.int .i64 m] 63))=W at *
 obtain⟨hbl,⟨e0,e1,e2,e3⟩,⟨e4,e5,e6,e7⟩,⟨j0,j1,j2,j3⟩,hsz,hsz0⟩:=Zcv hW
 have c9w:=Zab hbl c9
 have c9z:=Zan c9w
 dsimp only at c9z
 clear hW cf ca c0 i0 i1 i2 i3 p0 p1 c9
 go_wp2
 go_region
 go_wp2
 refine bodyPost_ret (v:=.tuple #[.agg #[.int .i64 t,.int .i64 5,.int .i64 y,.bool false],.bool true]) (by simp[results,Tryz.results59,go_sem,hsz0,e0,e1,e2,e3]) rfl ⟨rfl,?_⟩
 repeat(first|exact hbl|refine Below.drew ?_|refine Below.drewN ?_|(refine Below.alloc ?_ (by simp[World.setCell];omega) _)|(refine Below.setCell ?_ (by first|exact Nat.le_refl _|(simp[World.setCell];omega)) _))
end
section
variable{F:Nat}{w:World}{b tb:Nat}{a:Option Addr}{cap tcap:Nat}{s:St}
theorem refNext_8(h:RefAt w b tb a cap tcap s)(hth:Zaf w a s.p.threads)(ok:s.Ok F)(t:Nat)(i:Ins)(hi:s.ins t=some i)(hk1:i.kind=8)(y:Nat)(hy:i.r=y)(hy2:y<2):
  Calls Tryz.prog 59 #[.pointer (some ⟨b,0,none⟩),.int .i64 t] w fun r w'=>r=.returned (.tuple #[.agg #[.int .i64 t,.int .i64 1,.int .i64 0,.bool ((s.th t).r.getD y 0==0)],.bool true])/\Below w.heap.size w w':=by
 obtain⟨_,hf,hcode⟩:=St.ins_has hi
 obtain⟨k,hkk,hk'⟩:=St.ins_nat hi
 obtain rfl:t=k:=by omega
 simp only[Int.toNat_natCast]at hf hcode
 obtain⟨hb1,hb2⟩:=h.lt
 obtain⟨p0,p1⟩:=h.prog
 have hln:=ok.len
 have h4:=ok.len4
 have hkp:t<s.p.threads.length:=by omega
 have hcd:s.code t=s.p.threads[t]:=Zav _ hkp
 obtain⟨hat,hic⟩:=List.getElem?_eq_some_iff.1 hcode
 obtain⟨ab,ao,rfl,hc⟩:=hth.2 (by intro e;simp[e]at hkp)
 obtain⟨c,ccap,c0,c1,_⟩:=hc t hkp
 rw[<-hcd]at c0 c1
 obtain⟨cb,co,rfl,hcc⟩:=c1.2 (by intro e;simp[e]at hat)
 obtain⟨i0,i1,i2,i3⟩:=hcc _ hat
 rw[hic]at i0 i1 i2 i3
 have hz1:=Zan c0
 have hz2:=Zan i0
 dsimp only at hz1 hz2
 have cf:=h.fuel t hk'
 have ca:=h.at_ t hk'
 have hff:((((s.th t).fuel:Nat):Int)==0)=false:=by simp;omega
 have q0:decide ((t:Int)<0)=false:=by simp
 have q1:decide ((s.ts.length:Int)<=t)=false:=by simp;omega
 have q2:decide (s.ts.length<=t)=false:=by simp;omega
 have q3:decide ((s.code t).length<=(s.th t).at_)=false:=by simp;omega
 have q4:decide (((s.code t).length:Int)<=(s.th t).at_)=false:=by simp;omega
 have h8:=ok.code8 t hk'
 have c9:=h.reg t hk' y hy2
 have c8:=p1
 generalize (s.th t).r.getD y 0=z at *
 have H:=Lib.hid h
 clear h hth ok hi hln hkk hf hcode hc c1 hcd hcc hic
 generalize (s.th t).fuel=f at *
 generalize (s.th t).at_=at_ at *
 generalize (s.code t).length=n at *
 obtain⟨kd,r,x,m⟩:=i
 dsimp only at *
 subst hk1 hy
 go_enter Tryz.func59,Tryz.ntmps59
 go_wp2
 go_quiet (fail)
 go_wp2
 go_region
 generalize hW:(((w.alloc (.cells #[.int .i64 0,.int .i64 0,.int .i64 0,.bool false] 112)).drewN (nq+1)).alloc (.cells #[.int .i64 8,.int .i64 y,.int .i64 x,.int .i64 m] 63))=W at *
 obtain⟨hbl,⟨e0,e1,e2,e3⟩,⟨e4,e5,e6,e7⟩,⟨j0,j1,j2,j3⟩,hsz,hsz0⟩:=Zcv hW
 have c9w:=Zab hbl c9
 have c9z:=Zan c9w
 dsimp only at c9z
 have c8w:=Zab hbl c8
 have c8z:=Zan c8w
 dsimp only at c8z
 clear hW cf ca c0 i0 i1 i2 i3 p0 p1 c9 c8
 go_wp2
 go_region
 go_wp2
 refine bodyPost_ret (v:=.tuple #[.agg #[.int .i64 t,.int .i64 1,.int .i64 0,.bool (z==0)],.bool true]) (by simp[results,Tryz.results59,go_sem,hsz0,e0,e1,e2,e3]) rfl ⟨rfl,?_⟩
 repeat(first|exact hbl|refine Below.drew ?_|refine Below.drewN ?_|(refine Below.alloc ?_ (by simp[World.setCell];omega) _)|(refine Below.setCell ?_ (by first|exact Nat.le_refl _|(simp[World.setCell];omega)) _))
end
section
variable{F:Nat}{w:World}{b tb:Nat}{a:Option Addr}{cap tcap:Nat}{s:St}
theorem refNext_6b(h:RefAt w b tb a cap tcap s)(hth:Zaf w a s.p.threads)(ok:s.Ok F)(t:Nat)(i:Ins)(hi:s.ins t=some i)(hk1:i.kind=6)(y:Nat)(hy:i.x=y)(hy2:y<2)(hw:¬s.who y=t):
  Calls Tryz.prog 59 #[.pointer (some ⟨b,0,none⟩),.int .i64 t] w fun r w'=>r=.returned (.tuple #[.agg #[.int .i64 t,.int .i64 1,.int .i64 0,.bool true],.bool true])/\Below w.heap.size w w':=by
 obtain⟨_,hf,hcode⟩:=St.ins_has hi
 obtain⟨k,hkk,hk'⟩:=St.ins_nat hi
 obtain rfl:t=k:=by omega
 simp only[Int.toNat_natCast]at hf hcode
 obtain⟨hb1,hb2⟩:=h.lt
 obtain⟨p0,p1⟩:=h.prog
 have hln:=ok.len
 have h4:=ok.len4
 have hkp:t<s.p.threads.length:=by omega
 have hcd:s.code t=s.p.threads[t]:=Zav _ hkp
 obtain⟨hat,hic⟩:=List.getElem?_eq_some_iff.1 hcode
 obtain⟨ab,ao,rfl,hc⟩:=hth.2 (by intro e;simp[e]at hkp)
 obtain⟨c,ccap,c0,c1,_⟩:=hc t hkp
 rw[<-hcd]at c0 c1
 obtain⟨cb,co,rfl,hcc⟩:=c1.2 (by intro e;simp[e]at hat)
 obtain⟨i0,i1,i2,i3⟩:=hcc _ hat
 rw[hic]at i0 i1 i2 i3
 have hz1:=Zan c0
 have hz2:=Zan i0
 dsimp only at hz1 hz2
 have cf:=h.fuel t hk'
 have ca:=h.at_ t hk'
 have hff:((((s.th t).fuel:Nat):Int)==0)=false:=by simp;omega
 have q0:decide ((t:Int)<0)=false:=by simp
 have q1:decide ((s.ts.length:Int)<=t)=false:=by simp;omega
 have q2:decide (s.ts.length<=t)=false:=by simp;omega
 have q3:decide ((s.code t).length<=(s.th t).at_)=false:=by simp;omega
 have q4:decide (((s.code t).length:Int)<=(s.th t).at_)=false:=by simp;omega
 have h8:=ok.code8 t hk'
 have c9:=h.who y hy2
 have hq:(s.who y==(t:Int))=false:=by simpa using hw
 have H:=Lib.hid h
 clear h hth ok hi hln hkk hf hcode hc c1 hcd hcc hic
 generalize (s.th t).fuel=f at *
 generalize (s.th t).at_=at_ at *
 generalize (s.code t).length=n at *
 obtain⟨kd,r,x,m⟩:=i
 dsimp only at *
 subst hk1 hy
 clear hw
 go_enter Tryz.func59,Tryz.ntmps59
 go_wp2
 go_quiet (fail)
 go_wp2
 go_region
 generalize hW:(((w.alloc (.cells #[.int .i64 0,.int .i64 0,.int .i64 0,.bool false] 112)).drewN (nq+1)).alloc (.cells #[.int .i64 6,.int .i64 r,.int .i64 y,.int .i64 m] 63))=W at *
 obtain⟨hbl,⟨e0,e1,e2,e3⟩,⟨e4,e5,e6,e7⟩,⟨j0,j1,j2,j3⟩,hsz,hsz0⟩:=Zcv hW
 have c9w:=Zab hbl c9
 have c9z:=Zan c9w
 dsimp only at c9z
 clear hW cf ca c0 i0 i1 i2 i3 p0 p1 c9
 go_wp2
 go_region
 go_wp2
 refine bodyPost_ret (v:=.tuple #[.agg #[.int .i64 t,.int .i64 1,.int .i64 0,.bool true],.bool true]) (by simp[results,Tryz.results59,go_sem,hsz0,e0,e1,e2,e3]) rfl ⟨rfl,?_⟩
 repeat(first|exact hbl|refine Below.drew ?_|refine Below.drewN ?_|(refine Below.alloc ?_ (by simp[World.setCell];omega) _)|(refine Below.setCell ?_ (by first|exact Nat.le_refl _|(simp[World.setCell];omega)) _))
end
section
variable{F:Nat}{w:World}{b tb:Nat}{a:Option Addr}{cap tcap:Nat}{s:St}
theorem refNext_0(h:RefAt w b tb a cap tcap s)(hth:Zaf w a s.p.threads)(ok:s.Ok F)(t:Nat)(i:Ins)(hi:s.ins t=some i)(hk1:i.kind≠1)(hk2:i.kind≠2)(hk5:i.kind≠5)(hk6:i.kind≠6)(hk8:i.kind≠8):
  Calls Tryz.prog 59 #[.pointer (some ⟨b,0,none⟩),.int .i64 t] w fun r w'=>r=.returned (.tuple #[.agg #[.int .i64 t,.int .i64 1,.int .i64 0,.bool false],.bool true])/\Below w.heap.size w w':=by
 obtain⟨_,hf,hcode⟩:=St.ins_has hi
 obtain⟨k,hkk,hk'⟩:=St.ins_nat hi
 obtain rfl:t=k:=by omega
 simp only[Int.toNat_natCast]at hf hcode
 obtain⟨hb1,hb2⟩:=h.lt
 obtain⟨p0,p1⟩:=h.prog
 have hln:=ok.len
 have h4:=ok.len4
 have hkp:t<s.p.threads.length:=by omega
 have hcd:s.code t=s.p.threads[t]:=Zav _ hkp
 obtain⟨hat,hic⟩:=List.getElem?_eq_some_iff.1 hcode
 obtain⟨ab,ao,rfl,hc⟩:=hth.2 (by intro e;simp[e]at hkp)
 obtain⟨c,ccap,c0,c1,_⟩:=hc t hkp
 rw[<-hcd]at c0 c1
 obtain⟨cb,co,rfl,hcc⟩:=c1.2 (by intro e;simp[e]at hat)
 obtain⟨i0,i1,i2,i3⟩:=hcc _ hat
 rw[hic]at i0 i1 i2 i3
 have hz1:=Zan c0
 have hz2:=Zan i0
 dsimp only at hz1 hz2
 have cf:=h.fuel t hk'
 have ca:=h.at_ t hk'
 have hff:((((s.th t).fuel:Nat):Int)==0)=false:=by simp;omega
 have q0:decide ((t:Int)<0)=false:=by simp
 have q1:decide ((s.ts.length:Int)<=t)=false:=by simp;omega
 have q2:decide (s.ts.length<=t)=false:=by simp;omega
 have q3:decide ((s.code t).length<=(s.th t).at_)=false:=by simp;omega
 have q4:decide (((s.code t).length:Int)<=(s.th t).at_)=false:=by simp;omega
 have h8:=ok.code8 t hk'
 have H:=Lib.hid h
 clear h hth ok hi hln hkk hf hcode hc c1 hcd hcc hic
 generalize (s.th t).fuel=f at *
 generalize (s.th t).at_=at_ at *
 generalize (s.code t).length=n at *
 obtain⟨kd,r,x,m⟩:=i
 dsimp only at *
 have f1:(kd==1)=false:=by simpa using hk1
 have f2:(kd==2)=false:=by simpa using hk2
 have f5:(kd==5)=false:=by simpa using hk5
 have f6:(kd==6)=false:=by simpa using hk6
 have f8:(kd==8)=false:=by simpa using hk8
 clear hk1 hk2 hk5 hk6 hk8
 go_enter Tryz.func59,Tryz.ntmps59
 go_wp2
 go_quiet (fail)
 go_wp2
 go_region
 generalize hW:(((w.alloc (.cells #[.int .i64 0,.int .i64 0,.int .i64 0,.bool false] 112)).drewN (nq+1)).alloc (.cells #[.int .i64 kd,.int .i64 r,.int .i64 x,.int .i64 m] 63))=W at *
 obtain⟨hbl,⟨e0,e1,e2,e3⟩,⟨e4,e5,e6,e7⟩,⟨j0,j1,j2,j3⟩,hsz,hsz0⟩:=Zcv hW
 clear hW cf ca c0 i0 i1 i2 i3 p0 p1
 go_wp2
 refine bodyPost_ret (v:=.tuple #[.agg #[.int .i64 t,.int .i64 1,.int .i64 0,.bool false],.bool true]) (by simp[results,Tryz.results59,go_sem,hsz0,e0,e1,e2,e3]) rfl ⟨rfl,?_⟩
 repeat(first|exact hbl|refine Below.drew ?_|refine Below.drewN ?_|(refine Below.alloc ?_ (by simp[World.setCell];omega) _)|(refine Below.setCell ?_ (by first|exact Nat.le_refl _|(simp[World.setCell];omega)) _))
end
end Go.Proofs.YtjfmmnhcddckaaaGreat
