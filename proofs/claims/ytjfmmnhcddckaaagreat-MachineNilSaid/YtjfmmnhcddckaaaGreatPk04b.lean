import Derived.Shelf.LaysM
import Derived.Shelf.Strconv.Clone
import Derived.Laws.Shifts
import Derived.Deep.DeepCutAuto
import Derived.BigQuiet
import Derived.BigRegion
import Derived.Test.YtjfmmnhcddckaaaGreatProg
import Derived.Test.YtjfmmnhcddckaaaGreatPk01
import Derived.Test.YtjfmmnhcddckaaaGreatPk02
import Derived.Test.YtjfmmnhcddckaaaGreatPk03
import Derived.Test.YtjfmmnhcddckaaaGreatPk03b
import Derived.Test.YtjfmmnhcddckaaaGreatPk04
set_option maxRecDepth 100000
set_option maxHeartbeats 4000000
namespace Go.Proofs
open Go.Shelf Go.RowKit
def Tryz.strClone_ren : Go.Shelf.Ren := ⟨fun | 316 => 155 | n => n, fun | 9 => 9 | 3 => 3 | 4 => 4 | 37 => 56 | 0 => 0 | 127 => 275 | 5 => 5 | n => n, fun | n => n⟩
theorem Tryz.strClone : Go.Proofs.LaysM.n316 Tryz.prog Tryz.strClone_ren := {
  mixed := by kernel_rfl
  f316 := Tryz.func155.trans (congrArg some (by kernel_rfl))
  t0 := Tryz.underlying0
  a0 := Tryz.isAgg0
  z0 := Tryz.sizeOf0
  v0 := Tryz.zeroValue0
  t3 := Tryz.underlying3
  a3 := Tryz.isAgg3
  z3 := Tryz.sizeOf3
  v3 := Tryz.zeroValue3
  t4 := Tryz.underlying4
  a4 := Tryz.isAgg4
  z4 := Tryz.sizeOf4
  v4 := Tryz.zeroValue4
  t9 := Tryz.underlying9
  a9 := Tryz.isAgg9
  z9 := Tryz.sizeOf9
  v9 := Tryz.zeroValue9
  t37 := Tryz.underlying56
  a37 := Tryz.isAgg56
  z37 := Tryz.sizeOf56
  v37 := Tryz.zeroValue56
  t127 := Tryz.underlying275
  a127 := Tryz.isAgg275
  z127 := Tryz.sizeOf275
  v127 := Tryz.zeroValue275
  t5 := Tryz.underlying5
  a5 := Tryz.isAgg5
  z5 := Tryz.sizeOf5
  v5 := Tryz.zeroValue5
  i0 := by kernel_rfl
  i3 := by kernel_rfl
  i4 := by kernel_rfl
  i5 := by kernel_rfl
  i9 := by kernel_rfl
  i37 := by kernel_rfl
  i127 := by kernel_rfl }
theorem Tryz.lite_clone (s : ByteArray) (w : World) (hlim : s.size ≤ 281474976710656) : Calls Tryz.prog 155 #[.string s] w fun e w' => e = .returned (.string s) ∧ Below w.heap.size w w' := Any.stringslite_Clone Tryz.strClone s w hlim
end Go.Proofs
namespace Go.Proofs.YtjfmmnhcddckaaaGreat
open Go.RowKit Go.Maps
theorem clone_any(k:Pfx)(w:World)(hk:k.length<=1000):Calls Tryz.prog 102 #[.string ⟨k.toArray⟩] w fun r w'=>r=.returned (.string ⟨k.toArray⟩)/\Below w.heap.size w w':=by
 have HC:=Lib.hid (Tryz.lite_clone ⟨k.toArray⟩ w (by simp[ByteArray.size];omega))
 go_enter Tryz.func102,Tryz.ntmps102
 go_wp2_with fail
 refine HC.out.mono ?_
 rintro r w1⟨rfl,hb⟩
 go_wp2
 go_ret
 exact⟨rfl,hb⟩
section
variable{h:TrH}{w:World}{gs:List Nat}{l:List TNd}{cl:Int}
theorem TrAt.made(t:TrAt h w gs l cl){W:World}(hB:Below w.heap.size w W){n:TNd}{g:Nat}(hg:w.heap.size<=g)(hgW:W.heap[g]?=some (.cells (ndA n) 189 (0,0)))(hk:n.pre.length<=1000)(hi:idxT l n.pre=none)(hl:l.length<=1000000)(ok:TrOk h.p h.fuel (l++[n])):
  ∃W',(Instr.mapUpdate 119 (.map (some h.mb)) (.string ⟨n.pre.toArray⟩) (.pointer (some ⟨g,0,none⟩))).run Tryz.prog W=.ok () W'/\TrAt h W' (gs++[g]) (l++[n]) cl/\OnlyS (fun x=>x=h.mb) w W'/\W'.cell? ⟨h.b,4,none⟩=some (.map (some h.mb)):=by
 obtain⟨D,hD,h2,h3⟩:=(t.later hB).map
 have hkey:=trKey hk
 obtain⟨W',hr,hD',hgr⟩:=hD.update trLaw Tryz.underlying119 (by unfold maxLen;omega) hkey (ZhM (some g))
 have ho:OnlyS (fun x=>x=h.mb) W W':=⟨hgr.os,hgr.tape,hgr.output,hgr.size,fun k hk hb=>hgr.block k hk (fun e=>hb (by simpa using e))⟩
 have ho2:OnlyS (fun x=>x=h.mb) w W':=OnlyS.after hB ho
 have htd:=hD.tidy trLaw
 have hlit:WideAt.IsKeyLit (.string n.pre):=by simp[WideAt.IsKeyLit]
 have hhas:Maps.has D (.string n.pre)=false:=by rw[(h2 n.pre).2,Zhc hi];rfl
 have hgm:g≠h.mb:=by
  intro e
  obtain⟨es,c,h4,_⟩:=hD
  rw[<-e,hgW]at h4
  cases h4
 have T:=t.more hg ho2 ((ho.block g (Array.getElem?_eq_some_iff.1 hgW).1 hgm).trans hgW) hD' (fun k=>by
  by_cases e:k=n.pre
  ·subst e
   rw[if_pos rfl,atKey_put_same htd.isMap hlit,has_put_same htd.isMap hlit]
   exact⟨rfl,rfl⟩
  ·have hne:(Lit.string k)≠.string n.pre:=by intro e2;injection e2 with e2;exact e e2
   rw[if_neg e,atKey_put_other hne,has_put_other hne]
   exact h2 k) (by rw[size_put htd,hhas,if_neg (by simp),h3]) hi ok
 exact⟨W',hr,T,ho2,T.cells.2.2.2.2.1⟩
def MakeE(h:TrH)(gs:List Nat)(l:List TNd)(cl:Int)(w w':World)(n:TNd):Prop:=∃gs',TrAt h w' gs' (l++[n]) cl/\OnlyS (TrS h gs) w w'/\∀x∈gs',x∈gs∨w.heap.size<=x
def MakeR(h:TrH)(gs:List Nat)(l:List TNd)(cl:Int)(k:Pfx)(asl:Nat)(own:Int)(w:World)(r:Ending)(w':World):Prop:=
 ∃gs',r=.returned (.int .i64 (makeT h.p h.fuel l k asl own).1)/\TrAt h w' gs' (makeT h.p h.fuel l k asl own).2 cl/\OnlyS (TrS h gs) w w'/\∀x∈gs',x∈gs∨w.heap.size<=x
theorem ZiT{k:Pfx}{asl:Nat}{own e:Int}{w':World}(he:makeT h.p h.fuel l k asl own=(e,l))(t:TrAt h w gs l cl)(hb:Below w.heap.size w w'):MakeR h gs l cl k asl own w (.returned (.int .i64 e)) w':=by
 refine⟨gs,by rw[he],?_,OnlyS.of_below hb,fun x hx=>.inl hx⟩
 rw[he]
 exact t.later hb
theorem ZeL{k:Pfx}{asl:Nat}{own:Int}{s:St}{w':World}(he:makeT h.p h.fuel l k asl own=(0,l++[⟨k,own,ofN s.all,asl,0,0⟩]))(hm:MakeE h gs l cl w w' ⟨k,own,ofN s.all,asl,0,0⟩):MakeR h gs l cl k asl own w (.returned (.int .i64 0)) w':=by
 obtain⟨gs',h1,h2,h3⟩:=hm
 refine⟨gs',by rw[he],?_,h2,h3⟩
 rw[he]
 exact h1
theorem make_any(t:TrAt h w gs l cl){k:Pfx}(hk:k.length<=900){asl:Nat}(ha:asl<256)(own:Int)(hl:l.length<=1000000):Calls Tryz.prog 64 #[.pointer (some ⟨h.b,0,none⟩),.string ⟨k.toArray⟩,.int .u8 (asl:Nat),.int .i64 own] w (MakeR h gs l cl k asl own w):=by
 have HT:=Lib.hid t
 rcases hr:rep h.p h.fuel (rowK k)with ⟨e0,es,_|s⟩
 ·have HE:Hid (makeT h.p h.fuel l k asl own=(e0,l)):=by show _=_;unfold makeT;rw[hr]
  have he0:=rep_none hr
  have HAT:=Lib.hid (at_err t (by omega) hr)
  have hne:(e0 != 0)=true:=by simpa using he0
  clear t hr he0
  go_enter Tryz.func64,Tryz.ntmps64
  go_wp2_with fail
  refine HAT.out.mono ?_
  rintro r w3⟨rfl,hb3⟩
  go_wp2
  go_ret
  exact ZiT HE.out HT.out hb3
 obtain⟨rfl,_⟩:=ZfY hr
 have HAT:=Lib.hid (at_ok t (by omega) hr)
 cases hi:idxT l k with
 |some i=>
  have HE:Hid (makeT h.p h.fuel l k asl own=(7,l)):=by show _=_;unfold makeT;rw[hr,hi];rfl
  obtain⟨hil,_⟩:=Za0 hi
  have HLK:Hid (∀W,Below w.heap.size w W->(Instr.lookup 119 (.map (some h.mb)) (.string ⟨k.toArray⟩) false).run Tryz.prog W=.ok (.pointer (some ⟨gs[i]'(by have:=t.len;omega),0,none⟩)) W):=fun W hb=>by
   have:=(t.later hb).look (k:=k) (by omega)
   rw[ZkV hi (by have:=t.len;omega)]at this
   exact this
  clear hr hi
  have hTT:=HT
  clear hTT
  generalize gs[i]'_=g at *
  clear t
  go_enter Tryz.func64,Tryz.ntmps64
  go_wp2_with fail
  refine HAT.out.mono ?_
  rintro r w3⟨sg,ev,rfl,_,_,_,_,hb3⟩
  have hlk:=HLK.out w3 hb3
  obtain⟨_,_,_,_,c4,_⟩:=(HT.out.later hb3).cells
  go_wp2
  go_ret
  exact ZiT HE.out HT.out hb3
 |none=>
  have HLK:Hid (∀W,Below w.heap.size w W->(Instr.lookup 119 (.map (some h.mb)) (.string ⟨k.toArray⟩) false).run Tryz.prog W=.ok (.pointer none) W):=fun W hb=>by
   have:=(t.later hb).look (k:=k) (by omega)
   rw[Zhc hi]at this
   exact this
  have HI:=Lib.hid hi
  have HTO:=Lib.hid (t.ok.snoc hi hr ha own)
  have HE0:Hid ((k=[]∨wasT l k=true)->makeT h.p h.fuel l k asl own=(0,l++[⟨k,own,ofN s.all,asl,0,0⟩])):=fun hc=>by
   unfold makeT
   rw[hr,hi]
   dsimp only
   rw[if_neg (by simp),if_neg]
   rintro⟨h1,h2⟩
   rcases hc with hc|hc
   ·exact h1 hc
   ·rw[h2]at hc;cases hc
  have HCL:Hid (∀W,Calls Tryz.prog 102 #[.string ⟨k.toArray⟩] W fun r w'=>r=.returned (.string ⟨k.toArray⟩)/\Below W.heap.size W w'):=fun W=>clone_any k W (by omega)
  by_cases hk0:k=[]
  ·have HE:=Lib.hid (HE0.out (.inl hk0))
   clear t hr hi HE0
   subst hk0
   have HCL:Hid (∀W,Calls Tryz.prog 102 #[.string { data:=#[] }] W fun r w'=>r=.returned (.string { data:=#[] })/\Below W.heap.size W w'):=HCL
   have HAT:Hid (Calls Tryz.prog 65 #[.pointer (some ⟨h.b,0,none⟩),.string { data:=#[] }] w fun r w'=>∃g v,r=.returned (.tuple #[.pointer (some ⟨g,0,none⟩),v,.int .i64 0])/\w.heap.size<=g/\StAt w' g s/\s.Ok h.fuel.toNat/\OwnE w' w.heap.size v es/\Below w.heap.size w w'):=HAT
   have HLK:Hid (∀W,Below w.heap.size w W->(Instr.lookup 119 (.map (some h.mb)) (.string { data:=#[] }) false).run Tryz.prog W=.ok (.pointer none) W):=HLK
   show Calls Tryz.prog 64 #[.pointer (some ⟨h.b,0,none⟩),.string { data:=#[] },.int .u8 (asl:Nat),.int .i64 own] w (MakeR h gs l cl [] asl own w)
   go_enter Tryz.func64,Tryz.ntmps64
   go_wp2_with fail
   refine HAT.out.mono ?_
   rintro r w4⟨sg,ev,rfl,_,hst4,hok4,_,hb4⟩
   have hal:=Zjh hok4
   have HST:=Lib.hid hst4
   have HOKS:=Lib.hid hok4
   have HB:=Lib.hid hb4
   have HT4:=Lib.hid (HT.out.later hb4)
   have hx4:=HLK.out w4 hb4
   obtain⟨_,_,_,_,c4,_⟩:=HT4.out.cells
   clear hst4 hok4 hb4
   go_wp2_with fail
   have hB0:Below w4.heap.size w4 w4.drew:=(Below.refl _ _).drew
   have HSS:Hid (∀W',Below w4.heap.size w4 W'->W'.cell? ⟨h.b,4,none⟩=some (.map (some h.mb))):=fun W' hb=>(HT4.out.later hb).cells.2.2.2.2.1
   have HMK:Hid (∀W',Below w4.heap.size w4 W'->∀g:Nat,w4.heap.size<=g->W'.heap[g]?=some (.cells (ndA ⟨[],own,ofN s.all,asl,0,0⟩) 189 (0,0))->∃w9,(Instr.mapUpdate 119 (.map (some h.mb)) (.string ⟨List.toArray []⟩) (.pointer (some ⟨g,0,none⟩))).run Tryz.prog W'=.ok () w9/\TrAt h w9 (gs++[g]) (l++[⟨[],own,ofN s.all,asl,0,0⟩]) cl/\OnlyS (fun x=>x=h.mb) w4 w9/\w9.cell? ⟨h.b,4,none⟩=some (.map (some h.mb))):=fun W' hb g hg hgw=>HT4.out.made hb (n:=⟨[],own,ofN s.all,asl,0,0⟩) hg hgw (by show List.length []<=1000;simp) HI.out hl HTO.out
   clear hx4
   go_wp2_with fail
   go_region_held3 (fun W'=>W'.cell? ⟨h.b,4,none⟩=some (.map (some h.mb)))
    (first|with_reducible exact hc9c|with_reducible exact hc9|((refine HSS.out _ ?_;repeat(first|with_reducible exact hB7|with_reducible exact hB6|with_reducible exact hB5|with_reducible exact hB0|with_reducible refine Below.drew ?_|with_reducible refine Below.alloc ?_ (by first|exact hB7.size|exact hB6.size) _))))
    (first
     |(go_at_call 102;((with_reducible refine(HCL.out w4.drew).mono ?_);rintro r w5⟨rfl,hb⟩;have hB5:Below w4.heap.size w4 w5:=Below.trans hB0 hb;clear hb))
     |(go_at_call 69;((with_reducible refine(Zfs (b:=sg) (w:=w4.drew) (HST.out.later hB0) HOKS.out).mono ?_);rintro r w6⟨v6,rfl,hown6,hb⟩;obtain⟨a6,c6,rfl,hnum6,_⟩:=OwnN.form hown6 (by omega);have HN6:=Lib.hid hnum6;have hB6:Below w4.heap.size w4 w6:=Below.trans hB0 hb;have hz6:=hB6.size;clear hb hown6 hnum6))
     |(go_at_call 69;((with_reducible refine(Zfs (b:=sg) (w:=w5) (HST.out.later hB5) HOKS.out).mono ?_);rintro r w6⟨v6,rfl,hown6,hb⟩;obtain⟨a6,c6,rfl,hnum6,_⟩:=OwnN.form hown6 (by omega);have HN6:=Lib.hid hnum6;have hB6:Below w4.heap.size w4 w6:=hB5.trans (hb.mono hB5.size);have hz6:=hB6.size;clear hb hown6 hnum6))
     |(go_at_call 102;((with_reducible refine(HCL.out w6).mono ?_);rintro r w7⟨rfl,hb⟩;have hB7:Below w4.heap.size w4 w7:=hB6.trans (hb.mono hB6.size);have hz7:=hB7.size;have HN7:=Lib.hid (HN6.out.later hb);clear hb))
     |(go_at_call 37;((with_reducible refine(ZgF a6 c6 s.all w6 HN6.out (by omega)).mono ?_);rintro r w'⟨rfl,rfl⟩;obtain⟨w9,hr9,ht9,ho9,hc9⟩:=HMK.out (w6.alloc (.cells #[.int .i64 own,.int .u8 (ofN s.all:Nat),.int .u8 (asl:Nat),.int .u8 0,.int .u8 0] 189)) (hB6.alloc hB6.size (.cells #[.int .i64 own,.int .u8 (ofN s.all:Nat),.int .u8 (asl:Nat),.int .u8 0,.int .u8 0] 189)) w6.heap.size hz6 (heap_alloc_new w6 _);have HM9:Hid (MakeE h gs l cl w w9 ⟨[],own,ofN s.all,asl,0,0⟩):=⟨gs++[w6.heap.size],ht9,OnlyS.after HB.out ((ho9).mono fun x _ hx=>.inr (.inl hx)),(fun x hx=>by(rw[List.mem_append,List.mem_singleton]at hx;rcases hx with hx|rfl;exact .inl hx;exact .inr (Nat.le_trans HB.out.size hz6)))⟩;clear ht9 ho9))
     |(go_at_call 37;((with_reducible refine(ZgF a6 c6 s.all w7 HN7.out (by omega)).mono ?_);rintro r w'⟨rfl,rfl⟩;obtain⟨w9,hr9,ht9,ho9,hc9⟩:=HMK.out (w7.alloc (.cells #[.int .i64 own,.int .u8 (ofN s.all:Nat),.int .u8 (asl:Nat),.int .u8 0,.int .u8 0] 189)) (hB7.alloc hB7.size (.cells #[.int .i64 own,.int .u8 (ofN s.all:Nat),.int .u8 (asl:Nat),.int .u8 0,.int .u8 0] 189)) w7.heap.size hz7 (heap_alloc_new w7 _);have HM9:Hid (MakeE h gs l cl w w9 ⟨[],own,ofN s.all,asl,0,0⟩):=⟨gs++[w7.heap.size],ht9,OnlyS.after HB.out ((ho9).mono fun x _ hx=>.inr (.inl hx)),(fun x hx=>by(rw[List.mem_append,List.mem_singleton]at hx;rcases hx with hx|rfl;exact .inl hx;exact .inr (Nat.le_trans HB.out.size hz7)))⟩;clear ht9 ho9))
     |(go_at_call 102;((with_reducible refine(HCL.out (w6.alloc (.cells #[.int .i64 own,.int .u8 (ofN s.all:Nat),.int .u8 (asl:Nat),.int .u8 0,.int .u8 0] 189))).mono ?_);rintro r w7⟨rfl,hb⟩;have hB7:Below w4.heap.size w4 w7:=(hB6.alloc hB6.size (.cells #[.int .i64 own,.int .u8 (ofN s.all:Nat),.int .u8 (asl:Nat),.int .u8 0,.int .u8 0] 189)).trans (hb.mono (hB6.alloc hB6.size (.cells #[.int .i64 own,.int .u8 (ofN s.all:Nat),.int .u8 (asl:Nat),.int .u8 0,.int .u8 0] 189)).size);have hz7:=hB7.size;have HG7:Hid (w7.heap[w6.heap.size]?=some (.cells #[.int .i64 own,.int .u8 (ofN s.all:Nat),.int .u8 (asl:Nat),.int .u8 0,.int .u8 0] 189 (0,0))):=(hb.block w6.heap.size (by rw[World.size_alloc];omega)).trans (heap_alloc_new w6 _);clear hb;obtain⟨w9c,hr9c,ht9,ho9,hc9c⟩:=HMK.out w7 hB7 w6.heap.size hz6 HG7.out;have HM9c:Hid (MakeE h gs l cl w w9c ⟨[],own,ofN s.all,asl,0,0⟩):=⟨gs++[w6.heap.size],ht9,OnlyS.after HB.out ((ho9).mono fun x _ hx=>.inr (.inl hx)),(fun x hx=>by(rw[List.mem_append,List.mem_singleton]at hx;rcases hx with hx|rfl;exact .inl hx;exact .inr (Nat.le_trans HB.out.size hz6)))⟩;clear ht9 ho9)))
   all_goals go_wp2
   all_goals go_ret
   all_goals first|exact ZeL HE.out HM9c.out|exact ZeL HE.out HM9.out
  ·obtain⟨k',c,hkc⟩:∃(k':Pfx) (c:UInt8),k=k'++[c]:=by
    rcases List.eq_nil_or_concat k with h0|⟨k',c,h0⟩
    ·exact absurd h0 hk0
    ·exact⟨k',c,by simpa using h0⟩
   have hke:List.isEmpty k=false:=by rw[hkc];simp
   have HWS:Hid (∀W,Below w.heap.size w W->Calls Tryz.prog 101 #[.pointer (some ⟨h.b,0,none⟩),.string ⟨k.toArray⟩] W fun r w'=>r=.returned (.bool (wasT l k))/\Below W.heap.size W w'):=fun W hb=>by
    subst hkc
    exact was_any (HT.out.later hb) k' c (by simp at hk;omega)
   cases hwt:wasT l k
   ·have HE:Hid (makeT h.p h.fuel l k asl own=(6,l)):=by
     show _=_
     unfold makeT
     rw[hr,hi]
     dsimp only
     rw[if_neg (by simp),if_pos ⟨hk0,hwt⟩]
    rw[hwt]at HWS
    clear t hr hi HE0 hkc hwt
    go_enter Tryz.func64,Tryz.ntmps64
    go_wp2_with fail
    refine HAT.out.mono ?_
    rintro r w4⟨sg,ev,rfl,_,_,_,_,hb4⟩
    have HB:=Lib.hid hb4
    have hx4:=HLK.out w4 hb4
    obtain⟨_,_,_,_,c4,_⟩:=(HT.out.later hb4).cells
    clear hb4
    go_wp2_with fail
    refine(HWS.out w4 HB.out).mono ?_
    rintro r w5⟨rfl,hb5⟩
    go_wp2
    go_ret
    exact ZiT HE.out HT.out (HB.out.trans (hb5.mono HB.out.size))
   ·have HE:=Lib.hid (HE0.out (.inr hwt))
    rw[hwt]at HWS
    clear t hr hi HE0 hkc hwt
    go_enter Tryz.func64,Tryz.ntmps64
    go_wp2_with fail
    refine HAT.out.mono ?_
    rintro r w3⟨sg,ev,rfl,_,hst3,hok4,_,hb3⟩
    have hx3:=HLK.out w3 hb3
    obtain⟨_,_,_,_,c3,_⟩:=(HT.out.later hb3).cells
    have HB3:=Lib.hid hb3
    have HST3:=Lib.hid hst3
    have HOKS:=Lib.hid hok4
    have hal:=Zjh hok4
    clear hst3 hok4 hb3
    go_wp2_with fail
    refine(HWS.out w3 HB3.out).mono ?_
    rintro r w4⟨rfl,hb5⟩
    have HB:=Lib.hid (HB3.out.trans (hb5.mono HB3.out.size))
    have HST:=Lib.hid (HST3.out.later hb5)
    have HT4:=Lib.hid (HT.out.later HB.out)
    have hx4:=HLK.out w4 HB.out
    clear hb5 hx3 c3 HST3 HWS
    obtain⟨_,_,_,_,c4,_⟩:=HT4.out.cells
    go_wp2_with fail
    have hB0:Below w4.heap.size w4 w4.drew:=(Below.refl _ _).drew
    have HSS:Hid (∀W',Below w4.heap.size w4 W'->W'.cell? ⟨h.b,4,none⟩=some (.map (some h.mb))):=fun W' hb=>(HT4.out.later hb).cells.2.2.2.2.1
    have HMK:Hid (∀W',Below w4.heap.size w4 W'->∀g:Nat,w4.heap.size<=g->W'.heap[g]?=some (.cells (ndA ⟨k,own,ofN s.all,asl,0,0⟩) 189 (0,0))->∃w9,(Instr.mapUpdate 119 (.map (some h.mb)) (.string ⟨List.toArray k⟩) (.pointer (some ⟨g,0,none⟩))).run Tryz.prog W'=.ok () w9/\TrAt h w9 (gs++[g]) (l++[⟨k,own,ofN s.all,asl,0,0⟩]) cl/\OnlyS (fun x=>x=h.mb) w4 w9/\w9.cell? ⟨h.b,4,none⟩=some (.map (some h.mb))):=fun W' hb g hg hgw=>HT4.out.made hb (n:=⟨k,own,ofN s.all,asl,0,0⟩) hg hgw (by show List.length k<=1000;omega) HI.out hl HTO.out
    clear hx4
    go_wp2_with fail
    go_region_held3 (fun W'=>W'.cell? ⟨h.b,4,none⟩=some (.map (some h.mb)))
     (first|with_reducible exact hc9c|with_reducible exact hc9|((refine HSS.out _ ?_;repeat(first|with_reducible exact hB7|with_reducible exact hB6|with_reducible exact hB5|with_reducible exact hB0|with_reducible refine Below.drew ?_|with_reducible refine Below.alloc ?_ (by first|exact hB7.size|exact hB6.size) _))))
     (first
      |(go_at_call 102;((with_reducible refine(HCL.out w4.drew).mono ?_);rintro r w5⟨rfl,hb⟩;have hB5:Below w4.heap.size w4 w5:=Below.trans hB0 hb;clear hb))
      |(go_at_call 69;((with_reducible refine(Zfs (b:=sg) (w:=w4.drew) (HST.out.later hB0) HOKS.out).mono ?_);rintro r w6⟨v6,rfl,hown6,hb⟩;obtain⟨a6,c6,rfl,hnum6,_⟩:=OwnN.form hown6 (by omega);have HN6:=Lib.hid hnum6;have hB6:Below w4.heap.size w4 w6:=Below.trans hB0 hb;have hz6:=hB6.size;clear hb hown6 hnum6))
      |(go_at_call 69;((with_reducible refine(Zfs (b:=sg) (w:=w5) (HST.out.later hB5) HOKS.out).mono ?_);rintro r w6⟨v6,rfl,hown6,hb⟩;obtain⟨a6,c6,rfl,hnum6,_⟩:=OwnN.form hown6 (by omega);have HN6:=Lib.hid hnum6;have hB6:Below w4.heap.size w4 w6:=hB5.trans (hb.mono hB5.size);have hz6:=hB6.size;clear hb hown6 hnum6))
      |(go_at_call 102;((with_reducible refine(HCL.out w6).mono ?_);rintro r w7⟨rfl,hb⟩;have hB7:Below w4.heap.size w4 w7:=hB6.trans (hb.mono hB6.size);have hz7:=hB7.size;have HN7:=Lib.hid (HN6.out.later hb);clear hb))
      |(go_at_call 37;((with_reducible refine(ZgF a6 c6 s.all w6 HN6.out (by omega)).mono ?_);rintro r w'⟨rfl,rfl⟩;obtain⟨w9,hr9,ht9,ho9,hc9⟩:=HMK.out (w6.alloc (.cells #[.int .i64 own,.int .u8 (ofN s.all:Nat),.int .u8 (asl:Nat),.int .u8 0,.int .u8 0] 189)) (hB6.alloc hB6.size (.cells #[.int .i64 own,.int .u8 (ofN s.all:Nat),.int .u8 (asl:Nat),.int .u8 0,.int .u8 0] 189)) w6.heap.size hz6 (heap_alloc_new w6 _);have HM9:Hid (MakeE h gs l cl w w9 ⟨k,own,ofN s.all,asl,0,0⟩):=⟨gs++[w6.heap.size],ht9,OnlyS.after HB.out ((ho9).mono fun x _ hx=>.inr (.inl hx)),(fun x hx=>by(rw[List.mem_append,List.mem_singleton]at hx;rcases hx with hx|rfl;exact .inl hx;exact .inr (Nat.le_trans HB.out.size hz6)))⟩;clear ht9 ho9))
      |(go_at_call 37;((with_reducible refine(ZgF a6 c6 s.all w7 HN7.out (by omega)).mono ?_);rintro r w'⟨rfl,rfl⟩;obtain⟨w9,hr9,ht9,ho9,hc9⟩:=HMK.out (w7.alloc (.cells #[.int .i64 own,.int .u8 (ofN s.all:Nat),.int .u8 (asl:Nat),.int .u8 0,.int .u8 0] 189)) (hB7.alloc hB7.size (.cells #[.int .i64 own,.int .u8 (ofN s.all:Nat),.int .u8 (asl:Nat),.int .u8 0,.int .u8 0] 189)) w7.heap.size hz7 (heap_alloc_new w7 _);have HM9:Hid (MakeE h gs l cl w w9 ⟨k,own,ofN s.all,asl,0,0⟩):=⟨gs++[w7.heap.size],ht9,OnlyS.after HB.out ((ho9).mono fun x _ hx=>.inr (.inl hx)),(fun x hx=>by(rw[List.mem_append,List.mem_singleton]at hx;rcases hx with hx|rfl;exact .inl hx;exact .inr (Nat.le_trans HB.out.size hz7)))⟩;clear ht9 ho9))
      |(go_at_call 102;((with_reducible refine(HCL.out (w6.alloc (.cells #[.int .i64 own,.int .u8 (ofN s.all:Nat),.int .u8 (asl:Nat),.int .u8 0,.int .u8 0] 189))).mono ?_);rintro r w7⟨rfl,hb⟩;have hB7:Below w4.heap.size w4 w7:=(hB6.alloc hB6.size (.cells #[.int .i64 own,.int .u8 (ofN s.all:Nat),.int .u8 (asl:Nat),.int .u8 0,.int .u8 0] 189)).trans (hb.mono (hB6.alloc hB6.size (.cells #[.int .i64 own,.int .u8 (ofN s.all:Nat),.int .u8 (asl:Nat),.int .u8 0,.int .u8 0] 189)).size);have hz7:=hB7.size;have HG7:Hid (w7.heap[w6.heap.size]?=some (.cells #[.int .i64 own,.int .u8 (ofN s.all:Nat),.int .u8 (asl:Nat),.int .u8 0,.int .u8 0] 189 (0,0))):=(hb.block w6.heap.size (by rw[World.size_alloc];omega)).trans (heap_alloc_new w6 _);clear hb;obtain⟨w9c,hr9c,ht9,ho9,hc9c⟩:=HMK.out w7 hB7 w6.heap.size hz6 HG7.out;have HM9c:Hid (MakeE h gs l cl w w9c ⟨k,own,ofN s.all,asl,0,0⟩):=⟨gs++[w6.heap.size],ht9,OnlyS.after HB.out ((ho9).mono fun x _ hx=>.inr (.inl hx)),(fun x hx=>by(rw[List.mem_append,List.mem_singleton]at hx;rcases hx with hx|rfl;exact .inl hx;exact .inr (Nat.le_trans HB.out.size hz6)))⟩;clear ht9 ho9)))
    all_goals go_wp2
    all_goals go_ret
    all_goals first|exact ZeL HE.out HM9c.out|exact ZeL HE.out HM9.out
end
end Go.Proofs.YtjfmmnhcddckaaaGreat
namespace Go.Proofs.YtjfmmnhcddckaaaGreat
open Go.RowKit
theorem Zgg(n:Int):∃m:Int,IntKind.u64.wrap n=m/\0<=m:=by
 refine⟨_,rfl,?_⟩
 unfold IntKind.wrap
 simp[IntKind.signed,IntKind.bits]
 omega
theorem Zjl(n:Int)(h0:0<=n)(h1:n<=1000000):IntKind.u64.wrap n=n:=by
 unfold IntKind.wrap
 simp[IntKind.signed,IntKind.bits]
 omega
theorem Zc9(m:Int)(h0:0<=m)(n:Nat)(h1:1<=n):∃k:Nat,m.tmod (n:Int)=k/\k<n:=by
 rw[Int.tmod_eq_emod_of_nonneg h0]
 have a:=Int.emod_nonneg m (b:=(n:Int)) (by omega)
 have b:=Int.emod_lt_of_pos m (b:=(n:Int)) (by omega)
 exact⟨(m%(n:Int)).toNat,by omega,by omega⟩
theorem num_at{w:World}{a:Option Addr}{l:List Int}(h:ZcG w a l){k:Nat}(hk:k<l.length):∃b o,a=some ⟨b,o,none⟩/\w.cell? ⟨b,o+k,none⟩=some (.int .i64 l[k]):=by
 obtain⟨b,o,rfl,hc⟩:=h.2 (by intro e;rw[e]at hk;simp at hk)
 exact⟨b,o,rfl,hc k hk⟩

theorem childS_yes{nx:Int->Option Ev}{e:Ev}{l:List Nat}{k:Nat}(hk:k<l.length)(h:apart nx e l[k]=true):ofN (ints ((l.take (k+1)).filter (apart nx e)))=wt (ofN (ints ((l.take k).filter (apart nx e)))) (l[k]:Int):=by
 rw[List.take_succ_eq_append_getElem hk,List.filter_append,ints_app]
 simp only[List.filter_cons,h,if_true,List.filter_nil]
 exact ofN_snoc _ _
theorem childS_no{nx:Int->Option Ev}{e:Ev}{l:List Nat}{k:Nat}(hk:k<l.length)(h:apart nx e l[k]=false):ofN (ints ((l.take (k+1)).filter (apart nx e)))=ofN (ints ((l.take k).filter (apart nx e))):=by
 rw[List.take_succ_eq_append_getElem hk,List.filter_append]
 simp[h]
theorem child_gen(o:Option Addr)(nx:Int->Option Ev){asl ear:Nat}(ha:asl<256)(he:ear<256)(t:Int)(w:World)
  (hn:∀W,Below w.heap.size w W->∀t,Calls Tryz.prog 108 #[.pointer o,.int .i64 t] W fun r w'=>r=.returned (evR (nx t))/\Below W.heap.size W w'):
  Calls Tryz.prog 90 #[.pointer o,.int .u8 asl,.int .u8 ear,.int .i64 t] w fun r w'=>r=.returned (.int .u8 (ZcP nx asl ear t:Nat))/\Below w.heap.size w w':=by
 have HN:=Lib.hid hn
 clear hn
 cases h:nx t with
 |none=>
  have HC:Hid (ZcP nx asl ear t=0):=by
   show _=_
   unfold ZcP
   rw[child_none h];rfl
  have H:=Lib.hid h
  clear h
  go_enter Tryz.func90,Tryz.ntmps90
  go_wp2_with fail
  refine(HN.out w (Below.refl _ _) t).mono ?_
  rw[H.out,Zdl]
  rintro r w1⟨rfl,hb1⟩
  have hz:=hb1.size
  go_wp2
  go_ret
  exact⟨by rw[HC.out];rfl,hb1.alloc hz _⟩
 |some e=>
  have HC:=Lib.hid (child_all h ha he)
  have H:=Lib.hid h
  have HL8:=Ze0 (wl (asl|||ear) t)
  clear h
  go_enter Tryz.func90,Tryz.ntmps90
  go_wp2_with fail
  refine(HN.out w (Below.refl _ _) t).mono ?_
  rw[H.out,Zcg]
  rintro r w1⟨rfl,hb1⟩
  have hz1:=hb1.size
  have HX:Hid (EvBox (w1.alloc (.cells #[.int .i64 e.thread,.int .i64 e.kind,.int .i64 e.obj,.bool e.fail] 112)) w1.heap.size e):=EvBox.new w1 e
  have HB2:=Lib.hid (hb1.alloc hz1 (.cells #[.int .i64 e.thread,.int .i64 e.kind,.int .i64 e.obj,.bool e.fail] 112))
  clear hb1
  go_wp2_with fail
  refine(Zjv ha he _).mono ?_
  rintro r w'⟨rfl,rfl⟩
  go_wp2_with fail
  refine(Zk1 (ZfG ha he) t _).mono ?_
  rintro r w'⟨rfl,rfl⟩
  go_wp2_with fail
  refine(ZdZ (wl_lt (ZfG ha he) t) _).mono ?_
  rintro r w3⟨v,rfl,hv,hb3⟩
  obtain⟨a3,c3,rfl,hr3,_⟩:=hv.form (by rw[Zdg];omega)
  have HR:=Lib.hid hr3
  have HX3:=Lib.hid (HX.out.later hb3)
  have HB3:=Lib.hid (HB2.out.trans (hb3.mono HB2.out.size))
  clear hv hr3 hb3 HX HB2
  generalize bitsL (wl (asl|||ear) t)=l at *
  rw[Zdg]at *
  go_wp2_with fail
  go_loopw [11,31] (fun z i wr=>∃k:Nat,k<=l.length/\i=.int .i64 k/\z=.int .u8 (ofN (ints ((l.take k).filter (apart nx e))):Nat)/\Hid (Below w3.heap.size w3 wr)) (fun _ i _=>l.length-(intOf i).toNat)
  case atStart=>exact⟨0,Nat.zero_le _,rfl,rfl,Below.refl _ _⟩
  case round=>
   obtain⟨k,hk,rfl,rfl,HW⟩:=hrel
   have hzw:=HW.out.size
   by_cases hlt:k<l.length
   ·obtain⟨b,o3,rfl,hck⟩:=num_at (HR.out.later HW.out) (k:=k) (by rw[Zdg];exact hlt)
    rw[ints_get hlt]at hck
    have HY:=Lib.hid (childS_yes (nx:=nx) (e:=e) hlt)
    have HNO:=Lib.hid (childS_no (nx:=nx) (e:=e) hlt)
    have HBW:=Lib.hid (HB3.out.trans (HW.out.mono HB3.out.size))
    cases h2:nx (l[k]:Int)with
    |none=>
     have HS:=Lib.hid (HNO.out (apart_none h2))
     have H2:=Lib.hid h2
     clear h2
     go_wp2_with fail
     refine(HN.out wr HBW.out _).mono ?_
     rw[H2.out,Zdl]
     rintro r w4⟨rfl,hb4⟩
     have hb5:=(HW.out.trans (hb4.mono HW.out.size)).alloc (by have:=hb4.size;omega) (.cells #[.int .i64 0,.int .i64 0,.int .i64 0,.bool false] 112)
     have HW5:=Lib.hid hb5
     clear hb4 hb5
     go_wp2
     go_roundw
     case rel=>exact⟨k+1,by omega,by go_num,by rw[HS.out],HW5.out⟩
     case measure=>simp[intOf];omega
    |some x=>
     have HD:=Lib.hid (apart_some (e:=e) h2)
     have H2:=Lib.hid h2
     clear h2
     go_wp2_with fail
     refine(HN.out wr HBW.out _).mono ?_
     rw[H2.out,Zcg]
     rintro r w4⟨rfl,hb4⟩
     have hz4:=hb4.size
     have hb5:=(HW.out.trans (hb4.mono HW.out.size)).alloc (by have:=hb4.size;omega) (.cells #[.int .i64 x.thread,.int .i64 x.kind,.int .i64 x.obj,.bool x.fail] 112)
     have HW5:=Lib.hid hb5
     obtain⟨e0,e1,e2,e3⟩:=(HX3.out.later hb5).cells
     obtain⟨x0,x1,x2,x3⟩:=(EvBox.new w4 x).cells
     clear hb4 hb5
     go_wp2_with fail
     refine(Zdm e x _).mono ?_
     rintro r w6⟨rfl,hb6⟩
     have HW6:=Lib.hid (HW5.out.trans (hb6.mono HW5.out.size))
     clear hb6 e0 e1 e2 e3 x0 x1 x2 x3
     cases hd:dep e x
     ·have HS:=Lib.hid (HY.out (by rw[HD.out,hd];rfl))
      clear hd
      go_wp2_with fail
      refine(Zig (Zdp _) _ _).mono ?_
      rintro r w'⟨rfl,rfl⟩
      go_wp2
      go_roundw
      case rel=>exact⟨k+1,by omega,by go_num,by rw[HS.out],HW6.out⟩
      case measure=>simp[intOf];omega
     ·have HS:=Lib.hid (HNO.out (by rw[HD.out,hd];rfl))
      clear hd
      go_wp2
      go_roundw
      case rel=>exact⟨k+1,by omega,by go_num,by rw[HS.out],HW6.out⟩
      case measure=>simp[intOf];omega
   ·obtain rfl:k=l.length:=by omega
    have HBW:=Lib.hid (HB3.out.trans (HW.out.mono HB3.out.size))
    have HF:Hid (ofN (ints ((l.take l.length).filter (apart nx e)))=ZcP nx asl ear t):=by
     show _=_
     rw[List.take_length,HC.out];rfl
    go_wp2
    go_ret
    exact⟨by rw[<-HF.out];rfl,HBW.out⟩
theorem Zmb(o:Option Addr)(all:List Int)(hs:∀x∈all,0<=x/\x<8)(hm:all.length<=1000){asl:Nat}(ha:asl<256)(w:World)
  (hn:Calls Tryz.prog 69 #[.pointer o] w fun r w'=>∃v,r=.returned v/\OwnN w' w.heap.size v all/\Below w.heap.size w w'):
  Calls Tryz.prog 74 #[.pointer o,.int .u8 asl] w fun r w'=>r=.returned (.bool (ZbB all asl))/\Below w.heap.size w w':=by
 have HN:=Lib.hid hn
 clear hn
 have HQ:Hid (bits .andNot .u8 (ofN all:Int) (asl:Int)=((wo (ofN all) asl:Nat):Int)):=Zb2 (ofN all) asl (Zdp _) ha
 have h1:=of_zero hs
 have h2:=wo_zero ha hs
 go_enter Tryz.func74,Tryz.ntmps74
 go_wp2_with fail
 refine HN.out.mono ?_
 rintro r w1⟨v,rfl,hv,hb1⟩
 obtain⟨a3,c3,rfl,hr3,_⟩:=hv.form (by omega)
 go_wp2_with fail
 refine(ZgF a3 c3 all w1 hr3 hm).mono ?_
 rintro r w'⟨rfl,rfl⟩
 by_cases hz:ofN all=0
 ·have hq:(((ofN all:Nat):Int) != 0)=false:=by simp[hz]
  have HB:Hid (ZbB all asl=false):=by
   show _=_
   rw[h1.1 hz];rfl
  clear h1 h2 hz
  go_wp2
  go_ret
  exact⟨by rw[HB.out];rfl,hb1⟩
 ·have hq:(((ofN all:Nat):Int) != 0)=true:=by simp;omega
  have hne:all.isEmpty=false:=by
   cases hall:all with
   |nil=>exact absurd (h1.2 hall) hz
   |cons=>rfl
  have HB:Hid (((((wo (ofN all) asl:Nat):Int))==0)=ZbB all asl):=by
   show _=_
   unfold ZbB
   rw[hne]
   cases hb:all.all (hasB asl)
   ·have:wo (ofN all) asl≠0:=fun h=>by rw[h2.1 h]at hb;cases hb
    simp;omega
   ·simp[h2.2 hb]
  clear h1 h2 hz hne
  go_wp2
  go_ret
  exact⟨by rw[<-HB.out,<-HQ.out];rfl,hb1⟩
theorem draw_eq(d:Int){n:Nat}(h:0<n):∃m:Int,IntKind.u64.wrap d=m/\0<=m/\m%(n:Int)=(drawN d n:Nat)/\m.tmod (n:Int)=(drawN d n:Nat):=by
 have e:IntKind.u64.wrap d=d%18446744073709551616:=by
  unfold IntKind.wrap
  simp[IntKind.signed,IntKind.bits]
 have h0:0<=d%18446744073709551616:=Int.emod_nonneg _ (by omega)
 have h1:=Int.emod_nonneg (d%18446744073709551616) (by omega:(n:Int)≠0)
 refine⟨_,e,h0,?_,?_⟩
 ·unfold drawN
  omega
 ·rw[Int.tmod_eq_emod_of_nonneg h0]
  unfold drawN
  omega
section
variable{h:TrH}{w:World}{gs:List Nat}{l:List TNd}{cl:Int}
def ClaimR(h:TrH)(gs:List Nat)(l:List TNd)(cl:Int)(k:Pfx)(d:Int)(w:World)(r:Ending)(w':World):Prop:=
 r=.returned (.tuple #[.int .i64 (Zbc h.p h.fuel l k d).2.1,.int .u8 ((Zbc h.p h.fuel l k d).2.2.1:Nat),.int .i64 (Zbc h.p h.fuel l k d).1]) /\
  TrAt h w' gs (Zbc h.p h.fuel l k d).2.2.2 (if (Zbc h.p h.fuel l k d).1=0 then cl+1 else cl)/\OnlyS (TrS h gs) w w'
theorem Zg8{k:Pfx}{d:Int}{w':World}(e:Zbc h.p h.fuel l k d=(6,0,0,l))(t:TrAt h w' gs l cl)(ho:OnlyS (TrS h gs) w w'):ClaimR h gs l cl k d w (.returned (.tuple #[.int .i64 0,.int .u8 0,.int .i64 6])) w':=by
 unfold ClaimR
 rw[e]
 exact⟨rfl,t,ho⟩
theorem claim_any(t:TrAt h w gs l cl)(hcl:0<=cl/\cl<=1000000){k:Pfx}(hk:k.length<=1000)(d:Int):Calls Tryz.prog 84 #[.pointer (some ⟨h.b,0,none⟩),.string ⟨k.toArray⟩,.int .i64 d] w (ClaimR h gs l cl k d w):=by
 cases hi:idxT l k with
 |none=>
  have HE:Hid (Zbc h.p h.fuel l k d=(6,0,0,l)):=by show _=_;unfold Zbc;rw[hi]
  have HF:=Lib.hid (Zfo t hk hi)
  have HT:=Lib.hid t
  clear t hi
  go_enter Tryz.func84,Tryz.ntmps84
  go_wp2_with fail
  refine HF.out.mono ?_
  rintro r w'⟨rfl,rfl⟩
  go_wp2
  refine bodyPost_ret (v:=.tuple #[.int .i64 0,.int .u8 0,.int .i64 6]) (by simp[results,Tryz.results84,go_sem]) rfl ?_
  exact Zg8 HE.out HT.out (OnlyS.refl _ _)
 |some i=>
  obtain⟨hil,hpre⟩:=Za0 hi
  have hok:=t.ok.ok l[i] (List.getElem_mem hil)
  have htd:=t.ok.todo l[i] (List.getElem_mem hil)
  obtain⟨es,s,hrep,_⟩:=t.ok.row l[i] (List.getElem_mem hil)
  rw[hpre]at hrep
  obtain⟨hg,c0,c1,c2,c3,c4⟩:=t.node hil
  have HF:=Lib.hid (Zd9 t hk hi hg)
  have HL:=Lib.hid (left_any hok c2 c3 c4)
  have hl8:=hok.left
  have HT:=Lib.hid t
  have HOK:=Lib.hid hok
  have HGE:Hid (l.getD i ⟨[],0,0,0,0,0⟩=l[i]):=by show _=_;simp[List.getD,hil]
  obtain⟨L,hL⟩:∃L,L=l[i].left:=⟨_,rfl⟩
  by_cases hem:bitsL L=[]
  ·have HE:Hid (Zbc h.p h.fuel l k d=(6,0,0,l)):=by show _=_;unfold Zbc;rw[hi];simp only[HGE.out];rw[if_pos (by rw[<-hL];exact hem)]
   have HEM:Hid (ints (bitsL L)=[]):=by show _=_;rw[hem];rfl
   rw[<-hL]at HL hl8
   clear t hi hok htd hrep hem hL c0 c1 c2 c3 c4 hpre
   generalize gs[i]=g at *
   go_enter Tryz.func84,Tryz.ntmps84
   go_wp2_with fail
   refine HF.out.mono ?_
   rintro r w'⟨rfl,rfl⟩
   go_wp2_with fail
   refine HL.out.mono ?_
   rintro r w1⟨rfl,hb1⟩
   go_wp2_with fail
   refine(ZdZ hl8 w1).mono ?_
   rw[HEM.out]
   rintro r w2⟨v,rfl,hown,hb2⟩
   have hb3:=hb1.trans (hb2.mono hb1.size)
   obtain⟨a,cap,rfl,_⟩:=OwnN.form hown (by simp)
   clear hown hb1 hb2
   go_wp2
   refine bodyPost_ret (v:=.tuple #[.int .i64 0,.int .u8 0,.int .i64 6]) (by simp[results,Tryz.results84,go_sem]) rfl ?_
   exact Zg8 HE.out (HT.out.later hb3) (OnlyS.of_below hb3)
  ·have hpos:0<(bitsL L).length:=List.length_pos_iff.2 hem
   have h8:=Ze0 L
   obtain⟨m,hm1,hm2,hm3,hm4⟩:=draw_eq d hpos
   have hdl:=ZcN d hpos
   have HNX:Hid (nextT h.p h.fuel k=s.next):=by show _=_;unfold nextT;rw[hrep]
   have HE:Hid (Zbc h.p h.fuel l k d=(0,(((bitsL L).getD (drawN d (bitsL L).length) 0:Nat):Int),ZcP s.next l[i].asl l[i].gone ((bitsL L).getD (drawN d (bitsL L).length) 0:Nat),l.set i { l[i]with gone:=wt l[i].gone ((bitsL L).getD (drawN d (bitsL L).length) 0:Nat) })):=by
    show _=_
    unfold Zbc
    rw[hi]
    simp only[HGE.out]
    rw[if_neg (by rw[<-hL];exact hem),<-hL,HNX.out]
   obtain⟨ns,hns⟩:∃ns,ns=ints (bitsL L):=⟨_,rfl⟩
   have hnl:ns.length=(bitsL L).length:=by rw[hns,Zdg]
   rw[<-hnl]at hm3 hm4 hdl hpos h8
   obtain⟨K,hK⟩:∃K,K=drawN d (bitsL L).length:=⟨_,rfl⟩
   rw[hnl,<-hK]at hm3 hm4 hdl
   rw[<-hnl]at hm3 hm4 hdl
   obtain⟨x,hx⟩:∃x:Nat,x=(bitsL L).getD K 0:=⟨_,rfl⟩
   have hKb:K<(bitsL L).length:=by omega
   have HX:Hid (∀h:K<ns.length,ns[K]=(x:Int)):=fun h=>by
    subst hns
    rw[ints_get hKb,hx]
    simp[List.getD,hKb]
   rw[<-hK,<-hx]at HE
   have hcell:=t.nodes i hil hg
   have HAT:=Lib.hid hrep
   have HFZ:Hid (∀W:World,W.heap[gs[i]]?=w.heap[gs[i]]?->W.frozen? ⟨gs[i],4,none⟩=false/\W.cell? ⟨gs[i],2,none⟩=some (.int .u8 (l[i].asl:Nat))/\W.cell? ⟨gs[i],4,none⟩=some (.int .u8 (l[i].gone:Nat))):=fun W hW=>by
    rw[hcell]at hW
    exact⟨by simp[World.frozen?,hW],by rw[cell_of_row W _ 2 _ _ _ hW];rfl,by rw[cell_of_row W _ 4 _ _ _ hW];rfl⟩
   have hgl:=t.lt gs[i] (.inr (.inr (List.getElem_mem hg)))
   have HCELL:=Lib.hid hcell
   have HGB:Hid (gs[i]≠h.b):=by
    intro e2
    have h1:=hcell
    rw[e2,t.box]at h1
    injection h1 with h1
    injection h1 with h1
    unfold trA ndA at h1
    simp at h1
   have HN:=Lib.hid hns
   have hx8:wt l[i].gone (x:Int)<256:=wt_lt hok.gone _
   rw[<-hL]at HL hl8
   have HTD:=Lib.hid htd
   have ha8:=hok.asl
   have hg8:=hok.gone
   clear t hi hok htd hrep hem hL c0 c1 c2 c3 c4 hpre hns hnl hK hx hKb hcell HNX HGE
   obtain⟨hc0,hc1⟩:=hcl
   go_enter Tryz.func84,Tryz.ntmps84
   go_wp2_with fail
   refine HF.out.mono ?_
   rintro r w'⟨rfl,rfl⟩
   go_wp2_with fail
   refine HL.out.mono ?_
   rintro r w1⟨rfl,hb1⟩
   go_wp2_with fail
   refine(ZdZ hl8 w1).mono ?_
   rw[<-HN.out]
   rintro r w2⟨v,rfl,hown,hb2⟩
   have hb3:=hb1.trans (hb2.mono hb1.size)
   obtain⟨a,cap,rfl,hnum,_⟩:=OwnN.form hown (by omega)
   have HNUM:=Lib.hid hnum
   have HT2:=Lib.hid (HT.out.later hb3)
   have HB3:=Lib.hid hb3
   clear hown hb1 hb2 hnum hb3
   have hne:decide (ns.length=0)=false:=decide_eq_false (by omega)
   have hni:((ns.length:Int)==0)=false:=by rw[beq_eq_false_iff_ne];omega
   go_wp2_with fail
   refine(at_ok HT2.out hk HAT.out).mono ?_
   rintro r w3⟨sg,ev,rfl,hsg,hst,hok3,_,hb4⟩
   have HST:=Lib.hid hst
   have HOK3:=Lib.hid hok3
   have HB4:=Lib.hid (HB3.out.trans (hb4.mono HB3.out.size))
   have HT3:=Lib.hid (HT2.out.later hb4)
   have hnum3:=HNUM.out.later hb4
   obtain⟨nb,no,rfl,hcs⟩:=hnum3.2 (by intro e;rw[e]at hpos;exact absurd hpos (Nat.lt_irrefl _))
   have hck:=hcs K hdl
   rw[HX.out hdl]at hck
   have hnw:IntKind.u64.wrap (ns.length:Int)=ns.length:=Zjl _ (by omega) (by omega)
   have hdi:(K:Int)<ns.length:=by omega
   have hdi0:(0:Int)<=K:=by omega
   clear hst hok3 hb4 hnum3 hcs HNUM
   have hblk3:w3.heap[gs[i]]?=w.heap[gs[i]]?:=HB4.out.block _ hgl
   have HCC:Hid (∀W,Below w3.heap.size w3 W->W.cell? ⟨gs[i],2,none⟩=some (.int .u8 (l[i].asl:Nat))/\W.cell? ⟨gs[i],4,none⟩=some (.int .u8 (l[i].gone:Nat))):=fun W hb=>(HFZ.out W ((hb.block _ (Nat.lt_of_lt_of_le hgl HB4.out.size)).trans hblk3)).2
   have HCH:Hid (∀W,Below w3.heap.size w3 W->Calls Tryz.prog 90 #[.pointer (some ⟨sg,0,none⟩),.int .u8 (l[i].asl:Nat),.int .u8 (l[i].gone:Nat),.int .i64 (x:Int)] W fun r w'=>r=.returned (.int .u8 (ZcP s.next l[i].asl l[i].gone (x:Int):Nat))/\Below W.heap.size W w'):=fun W hb=>
    child_gen (some ⟨sg,0,none⟩) s.next ha8 hg8 _ W (fun W' hb' t=>Zf4 ((HST.out.later hb).later hb') HOK3.out t)
   clear hblk3
   go_upto_region 9 with (fail)
   clear hm1 hm3 hm4 hnw hne hni hck
   have hB0:Below w3.heap.size w3 w3.drew:=(Below.refl _ _).drew
   generalize hCN:ZcP s.next l[i].asl l[i].gone (x:Int)=CN at *
   go_region_held3 (fun W=>W.cell? ⟨gs[i],2,none⟩=some (.int .u8 (l[i].asl:Nat))/\W.cell? ⟨gs[i],4,none⟩=some (.int .u8 (l[i].gone:Nat)))
    (first|with_reducible exact HCC.out _ hB0|with_reducible exact HCC.out _ hB1)
    (first|(go_at_call 90;((with_reducible refine(HCH.out _ hB0).mono ?_);rintro r w4⟨rfl,hb5⟩;have hB1:Below w3.heap.size w3 w4:=Below.trans hB0 hb5)))
   have HT4:=Lib.hid (HT3.out.later hB1)
   have HB5:=Lib.hid (HB4.out.trans (hB1.mono HB4.out.size))
   have hblk4:w4.heap[gs[i]]?=w.heap[gs[i]]?:=HB5.out.block _ hgl
   obtain⟨f4,_,n4⟩:=HFZ.out w4 hblk4
   have HO5:Hid (OnlyS (fun x=>x=gs[i]) w4 (w4.setCell ⟨gs[i],4,none⟩ (.int .u8 (wt l[i].gone (x:Int):Nat)))):=OnlyS.setCell (S:=fun x=>x=gs[i]) (OnlyS.refl _ w4) (p:=⟨gs[i],4,none⟩) rfl _
   have HT5:Hid (TrAt h (w4.setCell ⟨gs[i],4,none⟩ (.int .u8 (wt l[i].gone (x:Int):Nat))) gs (l.set i { l[i]with gone:=wt l[i].gone (x:Int) }) cl):=
    HT4.out.put hil hg rfl rfl ⟨HOK.out.may,HOK.out.asl,HOK.out.todo,hx8⟩ HTD.out HO5.out (by rw[heap_setCell_same w4 gs[i] 4 _ _ _ (hblk4.trans HCELL.out)];rfl)
   have HM:Hid (∀x,x=gs[i]->TrS h gs x):=fun x hx=>.inr (.inr (hx▸List.getElem_mem hg))
   obtain⟨_,_,_,_,_,k5⟩:=HT5.out.cells
   have kb:=HT5.out.box
   have g5:(w4.setCell ⟨gs[i],4,none⟩ (.int .u8 (wt l[i].gone (x:Int):Nat))).frozen? ⟨h.b,5,none⟩=false:=by simp[World.frozen?,kb]
   have HO6:Hid (OnlyS (fun x=>x=h.b) (w4.setCell ⟨gs[i],4,none⟩ (.int .u8 (wt l[i].gone (x:Int):Nat))) ((w4.setCell ⟨gs[i],4,none⟩ (.int .u8 (wt l[i].gone (x:Int):Nat))).setCell ⟨h.b,5,none⟩ (.int .i64 (cl+1)))):=OnlyS.setCell (S:=fun x=>x=h.b) (OnlyS.refl _ _) (p:=⟨h.b,5,none⟩) rfl _
   have HT6:Hid (TrAt h ((w4.setCell ⟨gs[i],4,none⟩ (.int .u8 (wt l[i].gone (x:Int):Nat))).setCell ⟨h.b,5,none⟩ (.int .i64 (cl+1))) gs (l.set i { l[i]with gone:=wt l[i].gone (x:Int) }) (cl+1)):=
    HT5.out.count HO6.out (by rw[heap_setCell_same _ h.b 5 _ _ _ kb];rfl)
   have HFIN:Hid (OnlyS (TrS h gs) w ((w4.setCell ⟨gs[i],4,none⟩ (.int .u8 (wt l[i].gone (x:Int):Nat))).setCell ⟨h.b,5,none⟩ (.int .i64 (cl+1)))):=OnlyS.after HB5.out ((HO5.out.mono fun x _ hx=>HM.out x hx).trans (HO6.out.mono fun x _ hx=>.inl hx))
   have HWI:Hid (∀W,Calls Tryz.prog 76 #[.int .u8 (l[i].gone:Nat),.int .i64 (x:Int)] W fun r w'=>r=.returned (.int .u8 (wt l[i].gone (x:Int):Nat))/\W=w'):=fun W=>Zig hg8 (x:Int) W
   clear kb hblk4 hgl
   generalize wt l[i].gone (x:Int)=GG at *
   generalize l[i].gone=G at *
   generalize gs[i]=g at *
   go_wp2_with fail
   refine(HWI.out _).mono ?_
   rintro r w'⟨rfl,rfl⟩
   clear HWI
   have vcl:IntKind.i64.wrap (cl+1)=cl+1:=IntWalk.i64_in _ (by omega)
   go_wp2
   refine bodyPost_ret (v:=.tuple #[.int .i64 (x:Int),.int .u8 (CN:Nat),.int .i64 0]) (by simp[results,Tryz.results84,go_sem]) rfl ?_
   unfold ClaimR
   rw[HE.out]
   refine⟨rfl,?_,HFIN.out⟩
   rw[if_pos rfl]
   exact HT6.out
end
structure Let where
 s:Txt
 set:Int
abbrev letV(l:Let):Value:=.agg #[.string ⟨l.s.toArray⟩,.int .u8 l.set]
def let0:Let:=⟨[],0⟩
def ptrO:Option Nat->Value
 |none=>.pointer none
 |some x=>.pointer (some ⟨x,0,none⟩)
def lkA(le:Nat->Let)(nx:Nat->Option Nat)(x:Nat):Array Value:=#[.string ⟨(le x).s.toArray⟩,.int .u8 (le x).set,ptrO (nx x)]
structure MR(w:World)(B b g n:Nat)(ids:List Nat)(le:Nat->Let)(nx:Nat->Option Nat)(cx:Nat->Value)(tot:Int):Prop where
 low:B<=w.heap.size
 lowb:B<=b
 lowg:B<=g
 box:w.heap[b]?=some (.cells #[.slice (some ⟨g,0,none⟩) n n,.int .i64 tot] 124 (0,0))
 row:w.heap[g]?=some (.cells (cxA (n*3) cx) 211 (0,0))
 link:∀x∈ids,B<=x/\w.heap[x]?=some (.cells (lkA le nx x) 257 (0,0))
def MS(b g:Nat)(ids:List Nat)(x:Nat):Prop:=x=b∨x=g∨x∈ids
section
variable{w w':World}{B b g n:Nat}{ids:List Nat}{le:Nat->Let}{nx:Nat->Option Nat}{cx:Nat->Value}{tot:Int}
theorem MR.kinds(q:MR w B b g n ids le nx cx tot){x:Nat}(hx:MS b g ids x):B<=x/\∃c ty,w.heap[x]?=some (.cells c ty (0,0))/\(ty=124∨ty=211∨ty=257):=by
 rcases hx with rfl|rfl|hx
 ·exact⟨q.lowb,_,_,q.box,.inl rfl⟩
 ·exact⟨q.lowg,_,_,q.row,.inr (.inl rfl)⟩
 ·exact⟨(q.link x hx).1,_,_,(q.link x hx).2,.inr (.inr rfl)⟩
theorem MR.lt(q:MR w B b g n ids le nx cx tot){x:Nat}(hx:MS b g ids x):x<w.heap.size:=by
 obtain⟨_,c,ty,h,_⟩:=q.kinds hx
 exact(Array.getElem?_eq_some_iff.1 h).1
theorem MR.keep(q:MR w B b g n ids le nx cx tot)(hz:B<=w'.heap.size)(hk:∀x,MS b g ids x->w'.heap[x]?=w.heap[x]?):MR w' B b g n ids le nx cx tot:=
 ⟨hz,q.lowb,q.lowg,(hk _ (.inl rfl)).trans q.box,(hk _ (.inr (.inl rfl))).trans q.row,fun x hx=>⟨(q.link x hx).1,(hk x (.inr (.inr hx))).trans (q.link x hx).2⟩⟩
theorem MR.later(q:MR w B b g n ids le nx cx tot)(hb:Below w.heap.size w w'):MR w' B b g n ids le nx cx tot:=
 q.keep (Nat.le_trans q.low hb.size) fun _ hx=>hb.block _ (q.lt hx)
theorem MR.onlyS{S:Nat->Prop}(q:MR w B b g n ids le nx cx tot)(ho:OnlyS S w w')(hS:∀x,MS b g ids x->¬S x):MR w' B b g n ids le nx cx tot:=
 q.keep (Nat.le_trans q.low ho.size) fun x hx=>ho.block x (q.lt hx) (hS x hx)
theorem MR.bg(q:MR w B b g n ids le nx cx tot):b≠g:=by
 rintro rfl
 have:=q.box
 rw[q.row]at this;injection this with this;injection this with _ this;exact absurd this (by decide)
theorem MR.xb(q:MR w B b g n ids le nx cx tot){x:Nat}(hx:x∈ids):x≠b:=by
 rintro rfl
 have:=q.box
 rw[(q.link x hx).2]at this;injection this with this;injection this with _ this;exact absurd this (by decide)
theorem MR.xg(q:MR w B b g n ids le nx cx tot){x:Nat}(hx:x∈ids):x≠g:=by
 rintro rfl
 have:=q.row
 rw[(q.link x hx).2]at this;injection this with this;injection this with _ this;exact absurd this (by decide)
theorem MR.cellB(q:MR w B b g n ids le nx cx tot):w.cell? ⟨b,0,none⟩=some (.slice (some ⟨g,0,none⟩) n n)/\w.cell? ⟨b,1,none⟩=some (.int .i64 tot):=
 ⟨by rw[cell_of_row w b 0 _ _ _ q.box];rfl,by rw[cell_of_row w b 1 _ _ _ q.box];rfl⟩
theorem MR.cellR(q:MR w B b g n ids le nx cx tot){p:Nat}(hp:p<n*3):w.cell? ⟨g,p,none⟩=some (cx p):=by
 rw[cell_of_row w g p _ _ _ q.row,Zg2 _ hp]
theorem MR.cellL(q:MR w B b g n ids le nx cx tot){x:Nat}(hx:x∈ids):w.cell? ⟨x,0,none⟩=some (.string ⟨(le x).s.toArray⟩)/\w.cell? ⟨x,1,none⟩=some (.int .u8 (le x).set)/\w.cell? ⟨x,2,none⟩=some (ptrO (nx x)):=
 ⟨by rw[cell_of_row w x 0 _ _ _ (q.link x hx).2];rfl,by rw[cell_of_row w x 1 _ _ _ (q.link x hx).2];rfl,by rw[cell_of_row w x 2 _ _ _ (q.link x hx).2];rfl⟩
theorem MR.frozen(q:MR w B b g n ids le nx cx tot){x:Nat}(hx:MS b g ids x)(j:Nat):w.frozen? ⟨x,j,none⟩=false:=by
 obtain⟨_,c,ty,h,_⟩:=q.kinds hx
 simp[World.frozen?,h]
theorem MR.storeX(q:MR w B b g n ids le nx cx tot)(p:Nat)(v:Value):MR (w.setCell ⟨g,p,none⟩ v) B b g n ids le nx (updF cx p v) tot/\OnlyS (MS b g ids) w (w.setCell ⟨g,p,none⟩ v):=by
 have hne:∀y,y≠g->(w.setCell ⟨g,p,none⟩ v).heap[y]?=w.heap[y]?:=fun y hy=>Below.heap_setCell _ _ _ _ hy
 refine⟨⟨by rw[World.size_setCell];exact q.low,q.lowb,q.lowg,(hne _ q.bg).trans q.box,?_,fun x hx=>⟨(q.link x hx).1,(hne _ (q.xg hx)).trans (q.link x hx).2⟩⟩,(OnlyS.refl _ _).setCell (p:=⟨g,p,none⟩) (.inr (.inl rfl)) _⟩
 rw[heap_setCell_same w g p _ _ _ q.row,cxA_set]
theorem MR.storeN(q:MR w B b g n ids le nx cx tot){x:Nat}(hx:x∈ids)(y:Option Nat):MR (w.setCell ⟨x,2,none⟩ (ptrO y)) B b g n ids le (updF nx x y) cx tot/\OnlyS (MS b g ids) w (w.setCell ⟨x,2,none⟩ (ptrO y)):=by
 have hne:∀z,z≠x->(w.setCell ⟨x,2,none⟩ (ptrO y)).heap[z]?=w.heap[z]?:=fun z hz=>Below.heap_setCell _ _ _ _ hz
 refine⟨⟨by rw[World.size_setCell];exact q.low,q.lowb,q.lowg,(hne _ (Ne.symm (q.xb hx))).trans q.box,(hne _ (Ne.symm (q.xg hx))).trans q.row,fun z hz=>⟨(q.link z hz).1,?_⟩⟩,(OnlyS.refl _ _).setCell (p:=⟨x,2,none⟩) (.inr (.inr hx)) _⟩
 by_cases e:z=x
 ·subst e
  rw[heap_setCell_same w z 2 _ _ _ (q.link z hz).2]
  simp[lkA,Zac]
 ·rw[hne z e,(q.link z hz).2]
  simp[lkA,Zad _ _ e]
theorem MR.storeT(q:MR w B b g n ids le nx cx tot)(t:Int):MR (w.setCell ⟨b,1,none⟩ (.int .i64 t)) B b g n ids le nx cx t/\OnlyS (MS b g ids) w (w.setCell ⟨b,1,none⟩ (.int .i64 t)):=by
 have hne:∀y,y≠b->(w.setCell ⟨b,1,none⟩ (.int .i64 t)).heap[y]?=w.heap[y]?:=fun y hy=>Below.heap_setCell _ _ _ _ hy
 refine⟨⟨by rw[World.size_setCell];exact q.low,q.lowb,q.lowg,?_,(hne _ (Ne.symm q.bg)).trans q.row,fun x hx=>⟨(q.link x hx).1,(hne _ (q.xb hx)).trans (q.link x hx).2⟩⟩,(OnlyS.refl _ _).setCell (p:=⟨b,1,none⟩) (.inl rfl) _⟩
 rw[heap_setCell_same w b 1 _ _ _ q.box]
 simp
theorem MR.newLink(q:MR w B b g n ids le nx cx tot)(l:Let){o:Obj}(ho:o=.cells #[.string ⟨l.s.toArray⟩,.int .u8 l.set,.pointer none] 257):MR (w.alloc o) B b g n (w.heap.size::ids) (updF le w.heap.size l) (updF nx w.heap.size none) cx tot:=by
 subst ho
 have q1:=q.later (Zaa w (.cells #[.string ⟨l.s.toArray⟩,.int .u8 l.set,.pointer none] 257))
 refine⟨q1.low,q1.lowb,q1.lowg,q1.box,q1.row,fun x hx=>?_⟩
 by_cases e:x=w.heap.size
 ·subst e
  refine⟨q.low,?_⟩
  rw[heap_alloc_new]
  simp[lkA,Zac,ptrO]
 ·rcases List.mem_cons.1 hx with h|h
  ·exact absurd h e
  ·obtain⟨h1,h2⟩:=q1.link x h
   refine⟨h1,?_⟩
   rw[h2]
   simp[lkA,Zad _ _ e]
def Chn(nx:Nat->Option Nat)(l:List Nat):Prop:=∀i (h:i<l.length),nx l[i]=l[i+1]?
theorem ZkT{nx nx':Nat->Option Nat}{l:List Nat}(h:Chn nx l)(e:∀x∈l,nx' x=nx x):Chn nx' l:=fun i hi=>(e _ (List.getElem_mem hi)).trans (h i hi)
theorem Zjf{nx:Nat->Option Nat}{x:Nat}{l:List Nat}(h:Chn nx (x::l)):Chn nx l/\nx x=l.head?:=by
 refine⟨fun i hi=>h (i+1) (Nat.succ_lt_succ hi),?_⟩
 have:=h 0 (by simp)
 simp at this
 rw[this]
 cases l <;> rfl
theorem chn_one{nx:Nat->Option Nat}{x:Nat}(h:nx x=none):Chn nx [x]:=fun i hi=>by
 obtain rfl:i=0:=by simpa using hi
 simpa using h
theorem chn_snoc{nx:Nat->Option Nat}{l:List Nat}{y x:Nat}(h:Chn nx (l++[y]))(hn:(l++[y]).Nodup)(hx:x∉l++[y])(hx0:nx x=none):Chn (updF nx y (some x)) (l++[y]++[x]):=fun i hi=>by
 have hl:i<l.length+2:=by simp at hi;omega
 by_cases e:i=l.length+1
 ·subst e
  have e1:(l++[y]++[x])[l.length+1]=x:=by simp
  rw[e1,Zad _ _ (by rintro rfl;exact hx (by simp)),hx0]
  simp
 ·by_cases e2:i=l.length
  ·subst e2
   have e1:(l++[y]++[x])[l.length]=y:=by simp
   rw[e1,Zac]
   simp
  ·have hil:i<l.length:=by omega
   have hi1:i<(l++[y]).length:=by rw[List.length_append];show i<l.length+1;omega
   have e1:(l++[y]++[x])[i]=(l++[y])[i]:=List.getElem_append_left hi1
   have e3:(l++[y])[i]≠y:=fun h2=>by
    have h4:(l++[y])[l.length]'(by simp)=y:=by simp
    exact List.pairwise_iff_getElem.1 hn i l.length hi1 (by simp) hil (h2.trans h4.symm)
   rw[e1,Zad _ _ e3]
   exact(h i hi1).trans (List.getElem?_append_left (by rw[List.length_append];show i+1<l.length+1;omega)).symm
structure MOk(w:World)(B b g n:Nat)(ids:List Nat)(le:Nat->Let)(nx:Nat->Option Nat)(cx:Nat->Value)(tot:Int)(ls:Nat->List Nat):Prop where
 mr:MR w B b g n ids le nx cx tot
 sub:∀j,j<n->∀x∈ls j,x∈ids
 nodup:∀j,j<n->(ls j).Nodup
 apart:∀j k,j<n->k<n->j≠k->∀x∈ls j,x∉ls k
 first:∀j,j<n->cx (j*3)=ptrO (ls j).head?
 last:∀j,j<n->cx (j*3+1)=ptrO (ls j).getLast?
 count:∀j,j<n->cx (j*3+2)=.int .i64 (ls j).length
 chain:∀j,j<n->Chn nx (ls j)
theorem MOk.keep{ls:Nat->List Nat}(q:MOk w B b g n ids le nx cx tot ls)(m:MR w' B b g n ids le nx cx tot):MOk w' B b g n ids le nx cx tot ls:=⟨m,q.sub,q.nodup,q.apart,q.first,q.last,q.count,q.chain⟩
theorem ZfW{cx:Nat->Value}{j k i:Nat}{v0 v1 v2:Value}(hi:i<3):updF (updF (updF cx (j*3) v0) (j*3+1) v1) (j*3+2) v2 (k*3+i)=if k=j then (if i=0 then v0 else if i=1 then v1 else v2)else cx (k*3+i):=by
 unfold updF
 by_cases e:k=j
 ·subst e
  rw[if_pos rfl]
  obtain rfl|rfl|rfl:i=0∨i=1∨i=2:=by omega
  ·rw[if_neg (by omega),if_neg (by omega),if_pos (by omega),if_pos rfl]
  ·rw[if_neg (by omega),if_pos rfl,if_neg (by omega),if_pos rfl]
  ·rw[if_pos rfl,if_neg (by omega),if_neg (by omega)]
 ·rw[if_neg e,if_neg (by omega),if_neg (by omega),if_neg (by omega)]
theorem MOk.change{ls:Nat->List Nat}(q:MOk w B b g n ids le nx cx tot ls){ids':List Nat}{le':Nat->Let}{nx':Nat->Option Nat}{cx':Nat->Value}{j:Nat}{l':List Nat}{tot':Int}(m:MR w' B b g n ids' le' nx' cx' tot')
  (hc0:cx' (j*3)=ptrO l'.head?) (hc1:cx' (j*3+1)=ptrO l'.getLast?) (hc2:cx' (j*3+2)=.int .i64 l'.length) (hco:∀k,k≠j->∀i,i<3->cx' (k*3+i)=cx (k*3+i))
  (h1:∀x∈l',x∈ids') (h2:∀x∈ids,x∈ids') (h3:l'.Nodup) (h4:∀k,k<n->k≠j->∀x∈l',x∉ls k) (h5:Chn nx' l') (h6:∀k,k<n->k≠j->∀x∈ls k,nx' x=nx x):
  MOk w' B b g n ids' le' nx' cx' tot' (updF ls j l'):=by
 refine⟨m,fun k hk x hx=>?_,fun k hk=>?_,fun k i hk hi hki x hx=>?_,fun k hk=>?_,fun k hk=>?_,fun k hk=>?_,fun k hk=>?_⟩
 ·by_cases e:k=j
  ·subst e;rw[Zac]at hx;exact h1 x hx
  ·rw[Zad _ _ e]at hx;exact h2 x (q.sub k hk x hx)
 ·by_cases e:k=j
  ·subst e;rw[Zac];exact h3
  ·rw[Zad _ _ e];exact q.nodup k hk
 ·by_cases e:k=j
  ·subst e
   rw[Zac]at hx
   rw[Zad _ _ (Ne.symm hki)]
   exact h4 i hi (Ne.symm hki) x hx
  ·rw[Zad _ _ e]at hx
   by_cases e2:i=j
   ·subst e2
    rw[Zac]
    exact fun h=>h4 k hk e x h hx
   ·rw[Zad _ _ e2]
    exact q.apart k i hk hi hki x hx
 ·by_cases e:k=j
  ·subst e;rw[Zac];exact hc0
  ·rw[Zad _ _ e];exact(hco k e 0 (by omega)).trans (q.first k hk)
 ·by_cases e:k=j
  ·subst e;rw[Zac];exact hc1
  ·rw[Zad _ _ e];exact(hco k e 1 (by omega)).trans (q.last k hk)
 ·by_cases e:k=j
  ·subst e;rw[Zac];exact hc2
  ·rw[Zad _ _ e];exact(hco k e 2 (by omega)).trans (q.count k hk)
 ·by_cases e:k=j
  ·subst e;rw[Zac];exact h5
  ·rw[Zad _ _ e];exact ZkT (q.chain k hk) (h6 k hk e)
end
section
variable{w w':World}{B b g n:Nat}{ids:List Nat}{le:Nat->Let}{nx:Nat->Option Nat}{cx:Nat->Value}{tot:Int}{ls:Nat->List Nat}
def PutR(B b g n:Nat)(ids:List Nat)(le:Nat->Let)(tot:Int)(ls:Nat->List Nat)(j:Nat)(l:Let)(w w':World):Prop:=
 ∃x le' nx' cx',w.heap.size<=x/\MOk w' B b g n (x::ids) le' nx' cx' tot (updF ls j (ls j++[x]))/\le' x=l/\(∀y∈ids,le' y=le y)/\OnlyS (MS b g ids) w w'
theorem MR.putX(q:MR w B b g n ids le nx cx tot){p:Nat}(hp:p<n*3)(v:Value):w.cell? ⟨g,p,none⟩=some (cx p)/\w.frozen? ⟨g,p,none⟩=false/\MR (w.setCell ⟨g,p,none⟩ v) B b g n ids le nx (updF cx p v) tot/\OnlyS (MS b g ids) w (w.setCell ⟨g,p,none⟩ v):=
 ⟨q.cellR hp,q.frozen (.inr (.inl rfl)) p,q.storeX p v⟩
theorem put_end(q:MOk w B b g n ids le nx cx tot ls){w':World}{j:Nat}(hj:j<n){l:Let}{x:Nat}{cx':Nat->Value}{nx':Nat->Option Nat}(hx:w.heap.size<=x)(m:MR w' B b g n (x::ids) (updF le x l) nx' cx' tot)
  (hc0:cx' (j*3)=ptrO (ls j++[x]).head?) (hc1:cx' (j*3+1)=ptrO (some x)) (hc2:cx' (j*3+2)=.int .i64 ((ls j).length+1:Nat)) (hco:∀k,k≠j->∀i,i<3->cx' (k*3+i)=cx (k*3+i))
  (hch:Chn nx' (ls j++[x])) (hno:∀k,k<n->k≠j->∀y∈ls k,nx' y=nx y) (o:OnlyS (MS b g ids) w w'):PutR B b g n ids le tot ls j l w w':=by
 have hlt:∀y∈ids,y<x:=fun y hy=>Nat.lt_of_lt_of_le (q.mr.lt (.inr (.inr hy))) hx
 have hnx:∀k,k<n->x∉ls k:=fun k hk h=>Nat.lt_irrefl _ (hlt x (q.sub k hk x h))
 refine⟨x,updF le x l,nx',cx',hx,q.change m hc0 ?_ ?_ hco ?_ (fun y hy=>List.mem_cons_of_mem _ hy) ?_ ?_ hch hno,Zac _ _ _,fun y hy=>Zad _ _ (Nat.ne_of_lt (hlt y hy)),o⟩
 ·rw[hc1,List.getLast?_append]
  rfl
 ·rw[hc2,List.length_append]
  rfl
 ·intro y hy
  rcases List.mem_append.1 hy with h|h
  ·exact List.mem_cons_of_mem _ (q.sub j hj y h)
  ·obtain rfl:y=x:=by simpa using h
   exact List.mem_cons_self
 ·rw[List.nodup_append]
  refine⟨q.nodup j hj,by simp,fun y hy z hz=>?_⟩
  obtain rfl:z=x:=by simpa using hz
  rintro rfl
  exact hnx j hj hy
 ·intro k hk hkj y hy
  rcases List.mem_append.1 hy with h|h
  ·exact q.apart j k hj hk (Ne.symm hkj) y h
  ·obtain rfl:y=x:=by simpa using h
   exact hnx k hk
theorem put_none(q:MOk w B b g n ids le nx cx tot ls){j:Nat}(hj:j<n)(l:Let)(hl:ls j=[]):
  Calls Tryz.prog 163 #[.pointer (some ⟨g,j*3,none⟩),letV l] w fun r w'=>r=.returned (.tuple #[])/\PutR B b g n ids le tot ls j l w w':=by
 have hb1:Below w.heap.size w (w.alloc (.cells #[.string ⟨l.s.toArray⟩,.int .u8 l.set] 146)):=Zaa w _
 have q2:=(q.mr.later hb1).newLink l rfl
 rw[World.size_alloc]at q2
 have o2:OnlyS (MS b g ids) w ((w.alloc (.cells #[.string ⟨l.s.toArray⟩,.int .u8 l.set] 146)).alloc (.cells #[.string ⟨l.s.toArray⟩,.int .u8 l.set,.pointer none] 257)):=OnlyS.of_below (Zak w _ _)
 obtain⟨c0,f0,q3,o3⟩:=q2.putX (p:=j*3) (by omega) (.pointer (some ⟨w.heap.size+1,0,none⟩))
 obtain⟨c1,f1,q4,o4⟩:=q3.putX (p:=j*3+1) (by omega) (.pointer (some ⟨w.heap.size+1,0,none⟩))
 obtain⟨c2,f2,q5,o5⟩:=q4.putX (p:=j*3+2) (by omega) (.int .i64 1)
 rw[q.first j hj,hl]at c0
 rw[Zad _ _ (by omega),Zad _ _ (by omega),q.count j hj,hl]at c2
 replace c0:_=some (Value.pointer none):=c0
 replace c2:_=some (Value.int .i64 0):=c2
 have Q5:=Lib.hid q5
 have O5:=Lib.hid (((o2.thenS o3 fun y hy h=>h.imp id (·.imp id fun h=>by
  rcases List.mem_cons.1 h with rfl|h
  ·omega
  ·exact h)).thenS o4 fun y hy h=>h.imp id (·.imp id fun h=>by
  rcases List.mem_cons.1 h with rfl|h
  ·omega
  ·exact h)).thenS o5 fun y hy h=>h.imp id (·.imp id fun h=>by
  rcases List.mem_cons.1 h with rfl|h
  ·omega
  ·exact h))
 have Q:=Lib.hid q
 have HL:=Lib.hid hl
 clear q q2 q3 q4 q5 o2 o3 o4 o5 hl hb1
 go_enter Tryz.func163,Tryz.ntmps163
 go_wp2
 refine bodyPost_end (results_none rfl _ _ _) rfl ⟨rfl,?_⟩
 refine put_end Q.out hj (by omega) Q5.out ?_ ?_ ?_ (fun k hk i hi=>?_) ?_ (fun k hk hkj y hy=>?_) O5.out
 ·have:=ZfW (cx:=cx) (j:=j) (k:=j) (i:=0) (v0:=.pointer (some ⟨w.heap.size+1,0,none⟩)) (v1:=.pointer (some ⟨w.heap.size+1,0,none⟩)) (v2:=.int .i64 1) (by omega)
  rw[if_pos rfl,if_pos rfl]at this
  rw[HL.out]
  exact this
 ·have:=ZfW (cx:=cx) (j:=j) (k:=j) (i:=1) (v0:=.pointer (some ⟨w.heap.size+1,0,none⟩)) (v1:=.pointer (some ⟨w.heap.size+1,0,none⟩)) (v2:=.int .i64 1) (by omega)
  rw[if_pos rfl,if_neg (by omega),if_pos rfl]at this
  exact this
 ·have:=ZfW (cx:=cx) (j:=j) (k:=j) (i:=2) (v0:=.pointer (some ⟨w.heap.size+1,0,none⟩)) (v1:=.pointer (some ⟨w.heap.size+1,0,none⟩)) (v2:=.int .i64 1) (by omega)
  rw[if_pos rfl,if_neg (by omega),if_neg (by omega)]at this
  rw[HL.out]
  exact this
 ·rw[ZfW hi,if_neg hk]
 ·rw[HL.out]
  exact chn_one (Zac _ _ _)
 ·have h1:=Q.out.mr.lt (.inr (.inr (Q.out.sub k hk y hy)))
  rw[Zad _ _ (by omega)]
theorem Zjd{w:World}{b g x:Nat}{ids:List Nat}{y:Nat}(hy:y<w.heap.size)(hx:w.heap.size<=x)(h:MS b g (x::ids) y):MS b g ids y:=h.imp id (·.imp id fun h=>by
  rcases List.mem_cons.1 h with rfl|h
  ·omega
  ·exact h)
theorem put_some(q:MOk w B b g n ids le nx cx tot ls){j:Nat}(hj:j<n)(l:Let){l0:List Nat}{y:Nat}(hl:ls j=l0++[y])(hlen:l0.length<1000000):
  Calls Tryz.prog 163 #[.pointer (some ⟨g,j*3,none⟩),letV l] w fun r w'=>r=.returned (.tuple #[])/\PutR B b g n ids le tot ls j l w w':=by
 have hb1:Below w.heap.size w (w.alloc (.cells #[.string ⟨l.s.toArray⟩,.int .u8 l.set] 146)):=Zaa w _
 have q2:=(q.mr.later hb1).newLink l rfl
 rw[World.size_alloc]at q2
 have o2:OnlyS (MS b g ids) w ((w.alloc (.cells #[.string ⟨l.s.toArray⟩,.int .u8 l.set] 146)).alloc (.cells #[.string ⟨l.s.toArray⟩,.int .u8 l.set,.pointer none] 257)):=OnlyS.of_below (Zak w _ _)
 have hy:y∈ls j:=by rw[hl];simp
 have hyi:=q.sub j hj y hy
 have hyw:y<w.heap.size:=q.mr.lt (.inr (.inr hyi))
 obtain⟨a,ha⟩:∃a,(ls j).head?=some a:=by
  rw[hl]
  cases l0 with
  |nil=>exact⟨y,rfl⟩
  |cons a l=>exact⟨a,rfl⟩
 have cf:=q2.cellR (p:=j*3) (by omega)
 rw[q.first j hj,ha]at cf
 replace cf:_=some (Value.pointer (some ⟨a,0,none⟩)):=cf
 have cl:=q2.cellR (p:=j*3+1) (by omega)
 rw[q.last j hj,hl,List.getLast?_append]at cl
 replace cl:_=some (Value.pointer (some ⟨y,0,none⟩)):=cl
 have hym:y∈(w.heap.size+1)::ids:=List.mem_cons_of_mem _ hyi
 have cn:=(q2.cellL hym).2.2
 have fn:=q2.frozen (.inr (.inr hym)) 2
 have hnn:updF nx (w.heap.size+1) none y=none:=by
  rw[Zad _ _ (by omega)]
  have:=q.chain j hj l0.length (by rw[hl];simp)
  simp[hl]at this
  exact this
 rw[hnn]at cn
 replace cn:_=some (Value.pointer none):=cn
 obtain⟨q3,o3⟩:=q2.storeN hym (some (w.heap.size+1))
 replace q3:MR (World.setCell _ ⟨y,2,none⟩ (.pointer (some ⟨w.heap.size+1,0,none⟩))) B b g n _ _ _ cx tot:=q3
 replace o3:OnlyS _ _ (World.setCell _ ⟨y,2,none⟩ (.pointer (some ⟨w.heap.size+1,0,none⟩))):=o3
 obtain⟨c1,f1,q4,o4⟩:=q3.putX (p:=j*3+1) (by omega) (.pointer (some ⟨w.heap.size+1,0,none⟩))
 obtain⟨c2,f2,q5,o5⟩:=q4.putX (p:=j*3+2) (by omega) (.int .i64 ((l0.length:Int)+1+1))
 rw[Zad _ _ (by omega),q.count j hj,hl,List.length_append]at c2
 replace c2:_=some (Value.int .i64 ((l0.length:Int)+1)):=c2
 have Q5:=Lib.hid q5
 have O5:=Lib.hid (((o2.thenS o3 fun y hy h=>Zjd hy (by omega) h).thenS o4 fun y hy h=>Zjd hy (by omega) h).thenS o5 fun y hy h=>Zjd hy (by omega) h)
 have Q:=Lib.hid q
 have HL:=Lib.hid hl
 have HA:=Lib.hid ha
 have HY:=Lib.hid hy
 clear q q2 q3 q4 q5 o2 o3 o4 o5 hl hb1 ha hy hyi hym hnn hyw
 go_enter Tryz.func163,Tryz.ntmps163
 go_wp2
 refine bodyPost_end (results_none rfl _ _ _) rfl ⟨rfl,?_⟩
 refine put_end Q.out hj (by omega) Q5.out ?_ ?_ ?_ (fun k hk i hi=>?_) ?_ (fun k hk hkj z hz=>?_) O5.out
 ·rw[Zad _ _ (by omega),Zad _ _ (by omega),Q.out.first j hj,List.head?_append,HA.out]
  rfl
 ·rw[Zad _ _ (by omega),Zac]
  rfl
 ·rw[Zac,HL.out,List.length_append]
  rfl
 ·rw[Zad _ _ (by omega),Zad _ _ (by omega)]
 ·have h1:=Q.out.chain j hj
  have h2:=Q.out.nodup j hj
  have h3:w.heap.size+1∉ls j:=fun h=>by
   have:=Q.out.mr.lt (.inr (.inr (Q.out.sub j hj _ h)))
   omega
  have h4:∀z∈ls j,updF nx (w.heap.size+1) none z=nx z:=fun z hz=>Zad _ _ fun e=>h3 (e▸hz)
  rw[HL.out]at h1 h2 h3 h4 ⊢
  exact chn_snoc (ZkT h1 h4) h2 h3 (Zac _ _ _)
 ·have h1:=Q.out.mr.lt (.inr (.inr (Q.out.sub k hk z hz)))
  rw[Zad _ _ fun e=>Q.out.apart k j hk hj hkj z hz (by rw[e];exact HY.out),Zad _ _ (by omega)]
theorem mput_any(q:MOk w B b g n ids le nx cx tot ls){j:Nat}(hj:j<n)(l:Let)(hlen:(ls j).length<1000000):
  Calls Tryz.prog 163 #[.pointer (some ⟨g,j*3,none⟩),letV l] w fun r w'=>r=.returned (.tuple #[])/\PutR B b g n ids le tot ls j l w w':=by
 by_cases h:ls j=[]
 ·exact put_none q hj l h
 ·obtain⟨l0,y,e⟩:∃l0 y,ls j=l0++[y]:=⟨_,_,(List.dropLast_concat_getLast h).symm⟩
  exact put_some q hj l e (by rw[e,List.length_append]at hlen;exact Nat.lt_of_le_of_lt (Nat.le_add_right _ _) hlen)
def TakeM(B b g n:Nat)(ids:List Nat)(le:Nat->Let)(nx:Nat->Option Nat)(tot:Int)(ls:Nat->List Nat)(j:Nat)(l:List Nat)(w w':World):Prop:=
 ∃cx',MOk w' B b g n ids le nx cx' tot (updF ls j l)/\OnlyS (MS b g ids) w w'
theorem Zml(q:MOk w B b g n ids le nx cx tot ls){j:Nat}(hj:j<n){x:Nat}{l:List Nat}(hl:ls j=x::l){cx':Nat->Value}(m:MR w' B b g n ids le nx cx' tot)
  (hc0:cx' (j*3)=ptrO l.head?) (hc1:cx' (j*3+1)=ptrO l.getLast?) (hc2:cx' (j*3+2)=.int .i64 l.length) (hco:∀k,k≠j->∀i,i<3->cx' (k*3+i)=cx (k*3+i))
  (o:OnlyS (MS b g ids) w w'):TakeM B b g n ids le nx tot ls j l w w':=by
 have hm:∀y∈l,y∈ls j:=fun y hy=>by rw[hl];exact List.mem_cons_of_mem _ hy
 have hch:=q.chain j hj
 have hnd:=q.nodup j hj
 rw[hl]at hch hnd
 exact⟨cx',q.change m hc0 hc1 hc2 hco (fun y hy=>q.sub j hj y (hm y hy)) (fun _ h=>h) (List.nodup_cons.1 hnd).2 (fun k hk hkj y hy=>q.apart j k hj hk (Ne.symm hkj) y (hm y hy)) (Zjf hch).1 (fun _ _ _ _ _=>rfl),o⟩
theorem Zma{W:World}{y:Nat}{a b:Value}{t:TypeId}(h:W.heap[y]?=some (.cells #[a,b] t (0,0)))(a' b':Value):
  W.cell? ⟨y,0,none⟩=some a/\W.frozen? ⟨y,0,none⟩=false/\(W.setCell ⟨y,0,none⟩ a').cell? ⟨y,1,none⟩=some b/\(W.setCell ⟨y,0,none⟩ a').frozen? ⟨y,1,none⟩=false /\
  ((W.setCell ⟨y,0,none⟩ a').setCell ⟨y,1,none⟩ b').cell? ⟨y,0,none⟩=some a'/\((W.setCell ⟨y,0,none⟩ a').setCell ⟨y,1,none⟩ b').cell? ⟨y,1,none⟩=some b'/\((W.setCell ⟨y,0,none⟩ a').setCell ⟨y,1,none⟩ b').heap[y]?=some (.cells #[a',b'] t (0,0)):=by
 have h1:=heap_setCell_same W y 0 _ _ a' h
 have h2:=heap_setCell_same _ y 1 _ _ b' h1
 refine⟨by rw[cell_of_row W y 0 _ _ _ h];rfl,by simp[World.frozen?,h],by rw[cell_of_row _ y 1 _ _ _ h1];rfl,by simp only[World.frozen?,h1];rfl,by rw[cell_of_row _ y 0 _ _ _ h2];rfl,by rw[cell_of_row _ y 1 _ _ _ h2];rfl,h2⟩
theorem ZiL{S:Nat->Prop}{u W:World}{y:Nat}(o:OnlyS S u W)(hy:u.heap.size<=y)(a b:Value):OnlyS S u ((W.setCell ⟨y,0,none⟩ a).setCell ⟨y,1,none⟩ b):=by
 have o1:OnlyS (fun z=>z=y) W ((W.setCell ⟨y,0,none⟩ a).setCell ⟨y,1,none⟩ b):=((OnlyS.refl (fun z=>z=y) W).setCell (p:=⟨y,0,none⟩) rfl a).setCell (p:=⟨y,1,none⟩) rfl b
 exact o.thenS o1 fun x hx h=>by subst h;omega
theorem take_one(q:MOk w B b g n ids le nx cx tot ls){j:Nat}(hj:j<n){x:Nat}(hl:ls j=[x]):
  Calls Tryz.prog 124 #[.pointer (some ⟨g,j*3,none⟩)] w fun r w'=>r=.returned (letV (le x))/\TakeM B b g n ids le nx tot ls j [] w w':=by
 have hb1:Below w.heap.size w (w.alloc (.cells #[.string ⟨#[]⟩,.int .u8 0] 146)):=Zaa w _
 have hb1n:¬MS b g ids w.heap.size:=fun h=>Nat.lt_irrefl _ (q.mr.lt h)
 have q2:=q.mr.later hb1
 have hx:x∈ids:=q.sub j hj x (by rw[hl];simp)
 have cf:=q2.cellR (p:=j*3) (by omega)
 rw[q.first j hj,hl]at cf
 replace cf:_=some (Value.pointer (some ⟨x,0,none⟩)):=cf
 have cn:=(q2.cellL hx).2.2
 have hch:=q.chain j hj
 rw[hl]at hch
 rw[(Zjf hch).2]at cn
 replace cn:_=some (Value.pointer none):=cn
 obtain⟨c0,f0,q3,o3⟩:=q2.putX (p:=j*3) (by omega) (.pointer none)
 have c1:=q3.cellR (p:=j*3) (by omega)
 rw[Zac]at c1
 obtain⟨c2,f2,q4,o4⟩:=q3.putX (p:=j*3+1) (by omega) (.pointer none)
 obtain⟨c3,f3,q5,o5⟩:=q4.putX (p:=j*3+2) (by omega) (.int .i64 0)
 rw[Zad _ _ (by omega),Zad _ _ (by omega),q.count j hj,hl]at c3
 replace c3:_=some (Value.int .i64 1):=c3
 obtain⟨cl0,cl1,_⟩:=q5.cellL hx
 have O5:=(((OnlyS.of_below (S:=MS b g ids) hb1).trans o3).trans o4).trans o5
 have hbx:=(((o3.trans o4).trans o5).row (heap_alloc_new w _) hb1n)
 obtain⟨x0,y0,x1,y1,r0,r1,hbx2⟩:=Zma hbx (.string ⟨(le x).s.toArray⟩) (.int .u8 (le x).set)
 have q6:=q5.onlyS (((OnlyS.refl (fun z=>z=w.heap.size) _).setCell (p:=⟨w.heap.size,0,none⟩) rfl (.string ⟨(le x).s.toArray⟩)).setCell (p:=⟨w.heap.size,1,none⟩) rfl (.int .u8 (le x).set)) fun z hz e=>hb1n (e▸hz)
 have HT:=Lib.hid (Zml q hj hl q6 (by rw[Zad _ _ (by omega),Zad _ _ (by omega),Zac];rfl) (by rw[Zad _ _ (by omega),Zac];rfl) (by rw[Zac];rfl) (fun k hk i hi=>by rw[Zad _ _ (by omega),Zad _ _ (by omega),Zad _ _ (by omega)]) (ZiL O5 (Nat.le_refl _) _ _))
 clear q q2 q3 q4 q5 q6 o3 o4 o5 O5 hl hb1 hx hch hbx hbx2 hb1n
 go_enter Tryz.func124,Tryz.ntmps124
 go_wp2
 refine bodyPost_ret (v:=letV (le x)) (by simp[results,Tryz.results124,go_sem,r0,r1]) rfl ?_
 exact⟨rfl,HT.out⟩
theorem take_more(q:MOk w B b g n ids le nx cx tot ls){j:Nat}(hj:j<n){x x2:Nat}{l:List Nat}(hl:ls j=x::x2::l)(hlen:l.length<1000000):
  Calls Tryz.prog 124 #[.pointer (some ⟨g,j*3,none⟩)] w fun r w'=>r=.returned (letV (le x))/\TakeM B b g n ids le nx tot ls j (x2::l) w w':=by
 have hb1:Below w.heap.size w (w.alloc (.cells #[.string ⟨#[]⟩,.int .u8 0] 146)):=Zaa w _
 have hb1n:¬MS b g ids w.heap.size:=fun h=>Nat.lt_irrefl _ (q.mr.lt h)
 have q2:=q.mr.later hb1
 have hx:x∈ids:=q.sub j hj x (by rw[hl];simp)
 have cf:=q2.cellR (p:=j*3) (by omega)
 rw[q.first j hj,hl]at cf
 replace cf:_=some (Value.pointer (some ⟨x,0,none⟩)):=cf
 have cn:=(q2.cellL hx).2.2
 have hch:=q.chain j hj
 rw[hl]at hch
 rw[(Zjf hch).2]at cn
 replace cn:_=some (Value.pointer (some ⟨x2,0,none⟩)):=cn
 obtain⟨c0,f0,q3,o3⟩:=q2.putX (p:=j*3) (by omega) (.pointer (some ⟨x2,0,none⟩))
 have c1:=q3.cellR (p:=j*3) (by omega)
 rw[Zac]at c1
 obtain⟨c3,f3,q5,o5⟩:=q3.putX (p:=j*3+2) (by omega) (.int .i64 ((l.length:Int)+1))
 rw[Zad _ _ (by omega),q.count j hj,hl]at c3
 replace c3:_=some (Value.int .i64 ((l.length:Int)+1+1)):=c3
 obtain⟨cl0,cl1,_⟩:=q5.cellL hx
 have O5:=((OnlyS.of_below (S:=MS b g ids) hb1).trans o3).trans o5
 have hbx:=((o3.trans o5).row (heap_alloc_new w _) hb1n)
 obtain⟨x0,y0,x1,y1,r0,r1,hbx2⟩:=Zma hbx (.string ⟨(le x).s.toArray⟩) (.int .u8 (le x).set)
 have q6:=q5.onlyS (((OnlyS.refl (fun z=>z=w.heap.size) _).setCell (p:=⟨w.heap.size,0,none⟩) rfl (.string ⟨(le x).s.toArray⟩)).setCell (p:=⟨w.heap.size,1,none⟩) rfl (.int .u8 (le x).set)) fun z hz e=>hb1n (e▸hz)
 have HT:=Lib.hid (Zml q hj hl q6 (by rw[Zad _ _ (by omega),Zac];rfl) (by
  rw[Zad _ _ (by omega),Zad _ _ (by omega),q.last j hj,hl]
  rfl) (by rw[Zac];rfl) (fun k hk i hi=>by rw[Zad _ _ (by omega),Zad _ _ (by omega)]) (ZiL O5 (Nat.le_refl _) _ _))
 clear q q2 q3 q5 q6 o3 o5 O5 hl hb1 hx hch hbx hbx2 hb1n
 go_enter Tryz.func124,Tryz.ntmps124
 go_wp2
 refine bodyPost_ret (v:=letV (le x)) (by simp[results,Tryz.results124,go_sem,r0,r1]) rfl ?_
 exact⟨rfl,HT.out⟩
theorem mtake_any(q:MOk w B b g n ids le nx cx tot ls){j:Nat}(hj:j<n){x:Nat}{l:List Nat}(hl:ls j=x::l)(hlen:l.length<1000000):
  Calls Tryz.prog 124 #[.pointer (some ⟨g,j*3,none⟩)] w fun r w'=>r=.returned (letV (le x))/\TakeM B b g n ids le nx tot ls j l w w':=by
 cases l with
 |nil=>exact take_one q hj hl
 |cons x2 l=>exact take_more q hj hl (Nat.lt_of_le_of_lt (Nat.le_succ _) hlen)
end
theorem Zg7(k:Txt)(w:World)(hk:k.length<=281474976710656):Calls Tryz.prog 102 #[.string ⟨k.toArray⟩] w fun r w'=>r=.returned (.string ⟨k.toArray⟩)/\Below w.heap.size w w':=by
 have HC:=Lib.hid (Tryz.lite_clone ⟨k.toArray⟩ w (by simp[ByteArray.size];omega))
 go_enter Tryz.func102,Tryz.ntmps102
 go_wp2_with fail
 refine HC.out.mono ?_
 rintro r w1⟨rfl,hb⟩
 go_wp2
 go_ret
 exact⟨rfl,hb⟩
end Go.Proofs.YtjfmmnhcddckaaaGreat
