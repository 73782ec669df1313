import Derived.Deep.DeepCutAuto
import Derived.Deep.CutBlock
import Derived.BigQuiet
import Derived.Deep.RegionHeld3
import Derived.IntWalk
import Derived.Test.YtjfmmnhcddckaaaGreatPk01
import Derived.Test.YtjfmmnhcddckaaaGreatPk03
import Derived.Test.YtjfmmnhcddckaaaGreatPk04
import Derived.Test.YtjfmmnhcddckaaaGreatPk06
import Derived.Test.YtjfmmnhcddckaaaGreatPk10
set_option maxRecDepth 100000
set_option maxHeartbeats 4000000
namespace Go.Proofs.YtjfmmnhcddckaaaGreat
section
variable{p:Pg}{fuel:Int}{W w B:Nat}{m:Mac}{T:List Nd}
theorem ZhT{l:List TNd}(tr:TrOk p fuel l){n:TNd}(hn:n∈l):markT l n.pre 255=markT l n.pre n.may:=by
 obtain⟨i,hi,hin,hidx⟩:=tr.at hn
 have hm:=(tr.ok n hn).may
 unfold markT
 rw[hidx]
 dsimp only
 rw[Zfm hi,hin]
 have h1:255&&&n.may=n.may:=by
  have:=Nat.and_two_pow_sub_one_of_lt_two_pow (n:=8) (x:=n.may) (by omega)
  rw[Nat.and_comm]
  exact this
 rw[h1,Nat.and_self]
theorem ZlL(c:LetR W m.l m.box)(tr:TrOk p fuel m.l)(hw:w<W){x:Ltr}(hx:x∈m.box w):markT m.l x.q 255=markT m.l x.q x.set/\x.q.length<=33/\x.set<256:=by
 obtain⟨n,hn,h1,h2⟩:=c w hw x hx
 rw[<-h1,h2]
 exact⟨ZhT tr hn,Zfc tr hn,(tr.ok n hn).may⟩
theorem ZkX(_hg:Zam p fuel=true)(c:CoreM p fuel W m T){b:Nd}(hb:b∈T){k:Pfx}(hk:b.row.map Ev.thread=rowK k)(i:Nat):
  ∃v,v<W/\ownT m.l (k.take i)=(v:Nat)/\markT m.l (k.take i) 255=markT m.l (k.take i) (ofN (stK p fuel (k.take i)).all)/\(k.take i).length<=33:=by
 obtain⟨n,hn,hp⟩:=c.tree.take hb hk i
 obtain⟨es,s,hr,hmay⟩:=c.tree.tr.row n hn
 have hs:=(Zdu hr).1
 obtain⟨j,hj,hjn,hidx⟩:=c.tree.tr.at hn
 have hown:ownT m.l n.pre=n.own:=by rw[ownT_at hidx hj,hjn]
 have ho:=c.tree.own n hn
 have hset:ofN (stK p fuel n.pre).all=n.may:=by rw[hs,hmay]
 rw[<-hp,hset,hown]
 exact⟨n.own.toNat,by omega,by omega,ZhT c.tree.tr hn,Zfc c.tree.tr hn⟩
theorem pend_upd{box:Nat->List Ltr}{v:Nat}(hv:v<W)(x:Ltr):pendM W (updF box v (box v++[x]))<=pendM W box+1:=by
 unfold pendM
 induction W with
 |zero=>omega
 |succ n ih=>
  rw[List.range_succ,List.map_append,List.map_append,List.sum_append,List.sum_append]
  simp only[List.map_cons,List.map_nil,List.sum_cons,List.sum_nil]
  by_cases e:v=n
  ·subst e
   rw[Zac,List.length_append]
   have e2:(List.range v).map (fun w=>(updF box v (box v++[x]) w).length)=(List.range v).map fun w=>(box w).length:=List.map_congr_left fun y hy=>by
    rw[Zad _ _ (by have:=List.mem_range.1 hy;omega)]
   rw[e2]
   simp only[List.length_cons,List.length_nil]
   omega
  ·have:=ih (by omega)
   rw[Zad _ _ (Ne.symm e)]
   omega
theorem pend_race(hg:Zam p fuel=true)(c:CoreM p fuel W m T){b:Nd}(hb:b∈T){k:Pfx}(hk:b.row.map Ev.thread=rowK k)(i:Nat):pendM W (raceM p fuel W w k m i).box<=pendM W m.box+1:=by
 obtain⟨v,hv,ho,_⟩:=ZkX hg c hb hk i
 unfold raceM
 by_cases h:ownT m.l (k.take i)=w
 ·rw[if_pos h]
  have e:(markM W w (k.take i) (ofN (stK p fuel (k.take i)).all) m).box=m.box:=by
   unfold markM pushM
   split
   ·split <;> rfl
   ·rfl
  rw[e]
  omega
 ·rw[if_neg h,ho]
  exact pend_upd (by omega) _
theorem pend_races(hg:Zam p fuel=true)(hw:w<W){b:Nd}(hb:b∈T){k:Pfx}(hk:b.row.map Ev.thread=rowK k)(l:List Nat):∀{m:Mac},CoreM p fuel W m T->pendM W (l.foldl (raceM p fuel W w k) m).box<=pendM W m.box+l.length:=by
 induction l with
 |nil=>intro m c;exact Nat.le_refl _
 |cons j l ih=>
  intro m c
  have h1:=pend_race (w:=w) hg c hb hk j
  have h2:=ih (Zmv hg c hw hb hk j).1
  rw[List.foldl_cons,List.length_cons]
  omega
theorem races_few(_hg:Zam p fuel=true){k:Pfx}{e:Int}{es:List Ev}{s:St}(hr:rep p fuel (rowK k)=(e,es,some s))(h4:s.ts.length<=4):(ZbR p fuel k).length<=132:=by
 have h1:=Zgv hr
 obtain⟨e1,e2⟩:=Zdu hr
 unfold ZbR
 rw[List.length_map,e1,e2]
 have h2:=Ze8 s.next es s.ts.length
 have h3:=ZeD hr
 have h4':(rowK k).length=k.length:=Zdb k
 have h5:s.ts.length*es.length<=4*33:=Nat.mul_le_mul h4 (by omega)
 omega
theorem Zkt{W j:Nat}{keys:Nat->List Key}(hj:j<W):(keys j).length<=(keysM W keys).length:=by
 unfold keysM
 induction W with
 |zero=>omega
 |succ n ih=>
  rw[List.range_succ,List.flatMap_append,List.length_append]
  by_cases e:j=n
  ·subst e
   simp
  ·have:=ih (by omega)
   omega
theorem Zlr{nd:Nd}{k:Pfx}{asl:Nat}(h:PreM p fuel W B m T nd k asl){j:Nat}(hj:j<W):(m.keys j).length<=T.length/\m.blk<=T.length/\m.l.length<=T.length:=by
 have h2:=blk_ends (s0 p fuel) T
 have h3:=h.keys.length_eq
 have h4:=Zkt (keys:=m.keys) hj
 have h5:=h.blk
 have h6:=h.core.tree.len
 rw[List.length_append]at h3
 have h7:(keysT (s0 p fuel) T).length=(endsT (s0 p fuel) T).length:=by unfold keysT;rw[List.length_map]
 omega
theorem Zfg(hg:Zam p fuel=true)(h:InvM p fuel W B m T){j:Nat}(hj:j<W):(m.keys j).length<=preW p fuel/\m.blk<=preW p fuel/\m.l.length<=preW p fuel:=by
 have h1:=Zii (s0_ok hg).1 h.tree.ok
 have h2:=blk_ends (s0 p fuel) T
 have h3:=h.keys.length_eq
 have h4:=Zkt (keys:=m.keys) hj
 have h5:=h.blk
 have h6:=h.tree.len
 have h7:(keysT (s0 p fuel) T).length=(endsT (s0 p fuel) T).length:=by unfold keysT;rw[List.length_map]
 omega
def NodeK(l:List TNd)(k:Pfx)(asl:Nat):Prop:=∃n∈l,n.pre=k/\n.gone=0/\n.asl=asl
theorem NodeK.mark{l:List TNd}{k:Pfx}{asl:Nat}(h:NodeK l k asl)(q:Pfx)(set:Nat):NodeK (markT l q set).2 k asl:=by
 obtain⟨n,hn,h1,h2,h3⟩:=h
 unfold markT
 split
 ·exact⟨n,hn,h1,h2,h3⟩
 ·rename_i i hi
  obtain⟨hil,_⟩:=Za0 hi
  obtain⟨a,ha,rfl⟩:=List.getElem_of_mem hn
  dsimp only
  rw[Zfm hil]
  have ha2:a<(l.set i { l[i]with todo:=l[i].todo|||(set&&&l[i].may) }).length:=by rw[List.length_set];exact ha
  by_cases e:i=a
  ·subst e
   refine⟨_,List.mem_set hil _,h1,h2,h3⟩
  ·refine⟨_,List.getElem_mem ha2,?_⟩
   rw[List.getElem_set_ne e]
   exact⟨h1,h2,h3⟩
theorem markM_l(W w:Nat)(k:Pfx)(set:Nat)(m:Mac):(markM W w k set m).l=(markT m.l k set).2:=by
 unfold markM pushM
 split
 ·split <;> rfl
 ·rfl
theorem NodeK.races{k:Pfx}{asl:Nat}{q:Pfx}(l:List Nat):∀{m:Mac},NodeK m.l q asl->NodeK (l.foldl (raceM p fuel W w k) m).l q asl:=by
 induction l with
 |nil=>intro m h;exact h
 |cons i l ih=>
  intro m h
  rw[List.foldl_cons]
  apply ih
  unfold raceM
  split
  ·rw[markM_l]
   exact h.mark _ _
  ·exact h
theorem made_node{l:List TNd}{k:Pfx}{asl:Nat}{own:Int}(h:(makeT p fuel l k asl own).1=0){e:Int}{es:List Ev}{s:St}(hr:rep p fuel (rowK k)=(e,es,some s)):NodeK (makeT p fuel l k asl own).2 k asl:=by
 unfold makeT at *
 rw[hr]at h ⊢
 dsimp only at *
 split at h
 ·cases h
 ·rename_i h1
  rw[if_neg h1]
  split at h
  ·cases h
  ·rename_i h2
   rw[if_neg h2]
   exact⟨_,List.mem_append_right _ (List.mem_singleton.2 rfl),rfl,rfl,rfl⟩
theorem end_left(c:TreeR p fuel W m.l T){k:Pfx}{asl:Nat}(h:NodeK m.l k asl){es:List Ev}{s:St}{e:Int}(hr:rep p fuel (rowK k)=(e,es,some s)){x:Int}(hx:x∈s.all)(h8:0<=x/\x<8)(hz:hasB asl x=false):leftT (markT m.l k (ofN [x])).2 k≠0:=by
 obtain⟨n,hn,rfl,h2,rfl⟩:=h
 obtain⟨i,hi,hin,he,_⟩:=c.mark hn (Zdp [x])
 have hok:=c.tr.ok n hn
 have hln:leftT (markT m.l n.pre (ofN [x])).2 n.pre=({ n with todo:=n.todo|||(ofN [x]&&&n.may) }:TNd).left:=by
  rw[he,Zcx c.tr.nodup hi (by rw[hin]),if_pos (by rw[hin])]
 obtain⟨es',s',hr',hm⟩:=c.tr.row n hn
 rw[hr]at hr'
 injection hr' with _ e2
 injection e2 with _ e2
 injection e2 with e2
 subst e2
 obtain⟨y,rfl⟩:∃y:Nat,x=y:=⟨x.toNat,by omega⟩
 have hy:y<8:=by omega
 rw[Za2 _ hy]at hz
 intro h0
 rw[hln]at h0
 have h1:({ n with todo:=n.todo|||(ofN [(y:Int)]&&&n.may) }:TNd).left.testBit y=true:=by
  unfold TNd.left
  dsimp only
  have ht:n.todo|||(ofN [(y:Int)]&&&n.may)<256:=ZfG hok.todo (Nat.lt_of_le_of_lt Nat.and_le_right hok.may)
  rw[ZaY (wo_lt _ _ ht) hok.asl,ZaY ht hok.gone,Nat.testBit_or,Nat.testBit_and,h2,hz,Zbf _ hy,hm,Zbf _ hy]
  simp[hx]
 rw[h0,Nat.zero_testBit]at h1
 cases h1
theorem end_key{k:Pfx}{asl:Nat}{d:Int}{e:Int}{es:List Ev}{s:St}(hr:rep p fuel (rowK k)=(e,es,some s))(ha:Za8 s asl=[])(hb:ZbB s.all asl=false):endM p fuel W w k asl d m={ m with keys:=updF m.keys w (m.keys w++[keyB es]) }:=by
 obtain⟨e1,e2⟩:=Zdu hr
 unfold endM
 rw[e1,e2]
 have h0:s.all=[]:=by
  apply Classical.byContradiction
  intro hn
  have:ZbB s.all asl=true:=by
   unfold ZbB
   rw[Bool.and_eq_true]
   refine⟨by simpa using hn,?_⟩
   rw[List.all_eq_true]
   intro t ht
   apply Classical.byContradiction
   intro hh
   have:t∈Za8 s asl:=by
    unfold Za8
    rw[List.mem_filter]
    exact⟨ht,by simpa using hh⟩
   rw[ha]at this
   cases this
  rw[hb]at this
  cases this
 rw[if_pos h0]
theorem Zl1{k:Pfx}{asl:Nat}{d:Int}{e:Int}{es:List Ev}{s:St}(hr:rep p fuel (rowK k)=(e,es,some s))(ha:Za8 s asl=[])(hb:ZbB s.all asl=true):endM p fuel W w k asl d m={ m with blk:=m.blk+1 }:=by
 obtain⟨e1,e2⟩:=Zdu hr
 unfold endM
 rw[e1,e2,ha]
 have h0:s.all≠[]:=by
  intro h
  rw[h]at hb
  unfold ZbB at hb
  simp at hb
 rw[if_neg h0,if_pos rfl]
theorem end_mark{k:Pfx}{asl:Nat}{d:Int}{e:Int}{es:List Ev}{s:St}(hr:rep p fuel (rowK k)=(e,es,some s))(ha:Za8 s asl≠[]):endM p fuel W w k asl d m=markM W w k (ofN [(Za8 s asl).getD (drawN d (Za8 s asl).length) 0]) m:=by
 obtain⟨e1,e2⟩:=Zdu hr
 unfold endM
 rw[e1]
 have h0:s.all≠[]:=by
  intro h
  apply ha
  unfold Za8
  rw[h]
  rfl
 rw[if_neg h0,if_neg ha]
end
end Go.Proofs.YtjfmmnhcddckaaaGreat
namespace Go.Proofs.YtjfmmnhcddckaaaGreat
open Go.RowKit
section
variable{p:Pg}{fuel:Int}{B b W Bud tb mb wb kb:Nat}{S:Nat->Prop}{m:Mac}{w:World}
theorem leftT_bits{l:List TNd}(h:TrOk p fuel l)(k:Pfx):0<(bitsL (leftT l k)).length↔leftT l k≠0:=by
 constructor
 ·intro h1 e
  rw[e,Zib]at h1
  exact absurd h1 (Nat.lt_irrefl _)
 ·intro h1
  obtain⟨n,hn,_,i,hi,hin,_,hl⟩:=Zc5 h1
  rw[hl]at h1 ⊢
  exact List.length_pos_iff.2 (Zkp (h.ok n hn) h1)
theorem PM.trOk{Sp:Nat->Prop}(q:PM p fuel w B tb mb wb W Sp m):TrOk p fuel m.l:=by
 obtain⟨C,h,gs,Sm,Sw,wg,q,_⟩:=q
 have:=q.tr.ok
 rw[q.ep,q.ef]at this
 exact this
theorem PM.noW{Sp:Nat->Prop}(q:PM p fuel w B tb mb wb W Sp m):NoW W m.wk:=by
 obtain⟨C,h,gs,Sm,Sw,wg,q,_⟩:=q
 exact q.wk.no
theorem pm_leftN{Sp:Nat->Prop}(q:PM p fuel w B tb mb wb W Sp m){k:Pfx}(hk:k.length<=1000):Calls Tryz.prog 128 #[.pointer (some ⟨tb,0,none⟩),.string ⟨k.toArray⟩] w fun r w'=>∃a n c,r=.returned (.slice a n c)/\decide (0<n)=decide (leftT m.l k≠0)/\Below w.heap.size w w':=by
 have ht:=q.trOk
 refine(pm_left q hk).mono fun r w' ⟨v,e,hv,hb⟩=>?_
 obtain⟨a,c,e2,_⟩:=hv.form (by have:=Ze0 (leftT m.l k);simp[ints];omega)
 refine⟨a,_,c,by rw[e,e2],?_,hb⟩
 rw[show(ints (bitsL (leftT m.l k))).length=(bitsL (leftT m.l k)).length by simp[ints],Bool.eq_iff_iff,decide_eq_true_eq,decide_eq_true_eq,<-leftT_bits ht k]
theorem Zdw(h:MY p fuel B b W Bud tb mb wb kb S m w){k:Pfx}(hk:k.length<=1000):Calls Tryz.prog 83 #[.pointer (some ⟨b,0,none⟩),.string ⟨k.toArray⟩] w fun r w'=>r=.returned (.bool (decide (leftT m.l k≠0)))/\Below w.heap.size w w':=by
 obtain⟨⟨c0,_⟩,_⟩:=h.cells
 obtain⟨Sp,hq⟩:=h.pm
 have HL:=Lib.hid (pm_leftN hq hk)
 clear h hq hk
 go_enter Tryz.func83,Tryz.ntmps83
 go_wp2_with fail
 refine HL.out.mono ?_
 rintro r w1⟨a,n,c,rfl,hn,hb⟩
 have HB:=Lib.hid hb
 have HN:=Lib.hid hn
 clear hb hn
 go_wp2
 go_ret
 exact⟨Zag HN.out,HB.out⟩
theorem Zcm(W j:Nat)(k:Pfx)(m:Mac):(pushM W j k m).keys=m.keys/\(pushM W j k m).blk=m.blk/\(pushM W j k m).over=m.over:=by
 unfold pushM
 split <;> exact⟨rfl,rfl,rfl⟩
theorem ZgI(h:MY p fuel B b W Bud tb mb wb kb S m w)(hW:W<=64)(hc:totW W m.wk<100000){j:Nat}(hj:j<W){k:Pfx}(hk:k.length<=1000):Calls Tryz.prog 78 #[.pointer (some ⟨b,0,none⟩),.int .i64 (j:Int),.string ⟨k.toArray⟩] w fun r w'=>r=.returned (.bool (decide (leftT m.l k≠0) && !hasM W m k))/\MYR p fuel B b W Bud tb mb wb kb S (if leftT m.l k≠0 then pushM W j k m else m) w w':=by
 have H:=Lib.hid h
 have HS:=Lib.hid (Zdw h hk)
 have HC:=Lib.hid hc
 have HK:=Lib.hid hk
 clear h hk hc
 go_enter Tryz.func78,Tryz.ntmps78
 go_wp2_with fail
 refine HS.out.mono ?_
 rintro r w1⟨rfl,hb⟩
 have HB:=Lib.hid hb
 have H1:=Lib.hid (H.out.later hb)
 have HR:=Lib.hid (MYR.below H.out hb)
 by_cases hl:leftT m.l k≠0
 ·have hd:decide (leftT m.l k≠0)=true:=decide_eq_true hl
  have HLF:=Lib.hid hl
  obtain⟨⟨d0,d1,d2,d3,d4,d5,d6⟩,_⟩:=H1.out.cells
  have HP:=Lib.hid (H1.out.parts (m':=pushM W j k m) (fun Sp q=>pm_push q hW HC.out hj HK.out) (Zcm _ _ _ _).1 (Zcm _ _ _ _).2.1 (Zcm _ _ _ _).2.2)
  have HX:Hid (∀x,(decide (leftT m.l k≠0)&&x)=x):=fun x=>by rw[hd,Bool.true_and]
  clear hl d0 d1 d3 d4 d5 d6 hb
  rw[hd]
  go_wp2_with fail
  refine HP.out.mono ?_
  rintro r w2⟨rfl,hr⟩
  have HR2:=Lib.hid (MYR.behind HB.out hr)
  clear hr
  go_wp2
  go_ret
  exact⟨Zag (by first|rfl|simp),by first|exact HR2.out|(rw[if_pos HLF.out];exact HR2.out)⟩
 ·have hd:decide (leftT m.l k≠0)=false:=decide_eq_false hl
  have HLF:=Lib.hid hl
  clear hl hb
  rw[hd]
  go_wp2
  go_ret
  exact⟨Zag (by first|rfl|simp),by first|exact HR.out|(rw[if_neg HLF.out];exact HR.out)⟩
theorem ZdJ{w:World}{g:Nat}{x:Ltr}(h:w.heap[g]?=some (.cells #[.string ⟨x.q.toArray⟩,.int .u8 255] 146 (0,0))):w.cell? ⟨g,0,none⟩=some (.string ⟨x.q.toArray⟩)/\w.cell? ⟨g,1,none⟩=some (.int .u8 255):=⟨by rw[cell_of_row _ _ 0 _ _ _ h];rfl,by rw[cell_of_row _ _ 1 _ _ _ h];rfl⟩
theorem Zfd(d:Int){n:Nat}(hn:0<n)(h64:n<=1000)(w:World):Calls Tryz.prog 72 #[.int .i64 d,.int .i64 (n:Int)] w fun r w'=>r=.returned (.int .i64 (drawN d n:Nat))/\w'=w:=by
 obtain⟨mm,h1,h2,h3,h4⟩:=draw_eq d hn
 have hdl:=ZcN d hn
 have hw2:IntKind.u64.wrap (n:Int)=n:=IntWalk.u64_in _ (by omega)
 have hw3:IntKind.i64.wrap ((drawN d n:Nat):Int)=(drawN d n:Nat):=IntWalk.i64_in _ (by omega)
 have hw4:IntKind.u64.wrap ((drawN d n:Nat):Int)=(drawN d n:Nat):=IntWalk.u64_in _ (by omega)
 have hn0:¬(n:Int)=0:=by omega
 generalize drawN d n=K at *
 go_enter Tryz.func72,Tryz.ntmps72
 go_wp2
 go_ret
 exact⟨rfl,rfl⟩
end
section
variable{p:Pg}{fuel:Int}{B b W Bud tb mb wb kb:Nat}{S:Nat->Prop}{m:Mac}{w:World}
theorem ask_any(h:MY p fuel B b W Bud tb mb wb kb S m w)(hW:W<=64)(hc:totW W m.wk<100000)(hp:pendM W m.box<100000){j:Nat}(hj:j<W){k:Pfx}(hk:k.length<=1000){v:Nat}(hv:v<W)(ho:ownT m.l k=(v:Nat)){set:Nat}(hs:markT m.l k 255=markT m.l k set):
  Calls Tryz.prog 67 #[.pointer (some ⟨b,0,none⟩),.int .i64 (j:Int),.string ⟨k.toArray⟩] w fun r w'=>r=.returned (.tuple #[])/\MYR p fuel B b W Bud tb mb wb kb S (if ownT m.l k=j then markM W j k set m else sendM (ownT m.l k).toNat ⟨k,set⟩ m) w w':=by
 obtain⟨⟨c0,c1,c2,c3,c4,c5,c6⟩,_⟩:=h.cells
 obtain⟨Sp,hq⟩:=h.pm
 have HO:=Lib.hid (pm_owner hq hk)
 rw[ho]at HO ⊢
 rw[Int.toNat_natCast]
 by_cases hvj:v=j
 ·subst hvj
  have hb1:((v:Int) != (v:Int))=false:=by simp
  obtain⟨m1,hm1⟩:∃m1:Mac,m1={ m with l:=(markT m.l k set).2 }:=⟨_,rfl⟩
  have HM:=Lib.hid (h.parts (m':=m1) (fun Sp q=>by rw[hm1,<-hs];exact Zlt q hk (by omega:255<256)) (by rw[hm1]) (by rw[hm1]) (by rw[hm1]))
  have HK:=Lib.hid hk
  have HC:Hid (totW W m1.wk<100000):=by show _;rw[hm1];exact hc
  have HE:Hid ((if leftT m1.l k≠0 then pushM W v k m1 else m1)=markM W v k set m):=by show _=_;unfold markM;rw[hm1]
  clear h hq hk hc hp hs ho hm1 c1 c2 c3 c4 c5 c6
  go_enter Tryz.func67,Tryz.ntmps67
  go_wp2_with fail
  refine HO.out.mono ?_
  rintro r w0⟨rfl,e⟩
  have e:=e.symm
  subst e
  go_wp2_with fail
  refine HM.out.mono ?_
  rintro r w1⟨rfl,hr⟩
  obtain⟨S1,h1,o1,n1⟩:=hr
  have HR1:Hid (MYR p fuel B b W Bud tb mb wb kb S m1 w w1):=⟨S1,h1,o1,n1⟩
  have HP:=Lib.hid (HR1.out.local0.own (m':=markM W v k set m) (fun S1 h1=>(ZgI h1 hW HC.out hj HK.out).mono fun r w' ⟨e,h2⟩=>⟨e,by rw[<-HE.out];exact h2⟩))
  clear h1 o1 n1 HM
  go_wp2_with fail
  refine HP.out.mono ?_
  rintro r w2⟨rfl,hr⟩
  have HR2:=Lib.hid hr.toR
  clear hr
  go_wp2
  exact bodyPost_end (results_none rfl _ _ _) rfl ⟨rfl,by first|exact HR2.out|(rw[if_pos rfl];exact HR2.out)⟩
 ·have hb1:((v:Int) != (j:Int))=true:=by simp;omega
  have HS:=Lib.hid (h.parts (m':=sendM v ⟨k,set⟩ m) (fun Sp q=>pm_send q hv ⟨k,set⟩ (by show k.length<=_;omega) hp) rfl rfl rfl)
  have HN:Hid (¬(v:Int)=(j:Int)):=by show ¬_;omega
  unfold letV letM at HS
  clear h hq hk hc hp hs ho c2 c3 c4 c5 c6 hvj
  go_enter Tryz.func67,Tryz.ntmps67
  go_wp2_with fail
  refine HO.out.mono ?_
  rintro r w0⟨rfl,e⟩
  have e:=e.symm
  subst e
  go_wp2_with fail
  refine HS.out.mono ?_
  rintro r w1⟨rfl,hr⟩
  have HR1:=Lib.hid hr
  clear hr
  go_wp2
  exact bodyPost_ret (results_none rfl _ _ _) rfl ⟨rfl,by first|exact HR1.out|(rw[if_neg HN.out];exact HR1.out)⟩
theorem readM_yes{W j:Nat}{x:Ltr}{r:List Ltr}{m:Mac}(h:leftT (markT m.l x.q x.set).2 x.q≠0/\hasM W m x.q=false):
  readM W j x r m={ pushM W j x.q { m with box:=updF m.box j r,l:=(markT m.l x.q x.set).2 }with l:=(handT (markT m.l x.q x.set).2 x.q j).2 }:=by
 unfold readM pushM
 rw[if_pos h]
 have e:hasM W m x.q=false:=h.2
 unfold hasM at *
 dsimp only at *
 rw[e]
 rfl
theorem readM_no{W j:Nat}{x:Ltr}{r:List Ltr}{m:Mac}(h:¬(leftT (markT m.l x.q x.set).2 x.q≠0/\hasM W m x.q=false)):
  readM W j x r m=if leftT (markT m.l x.q x.set).2 x.q≠0 then pushM W j x.q { m with box:=updF m.box j r,l:=(markT m.l x.q x.set).2 }else { m with box:=updF m.box j r,l:=(markT m.l x.q x.set).2 }:=by
 unfold readM
 rw[if_neg h]
 split
 ·rename_i hl
  have hh:hasM W m x.q=true:=by
   cases e:hasM W m x.q
   ·exact absurd ⟨hl,e⟩ h
   ·rfl
  unfold pushM
  unfold hasM at *
  dsimp only at *
  rw[hh]
  rfl
 ·rfl
theorem ZjX(h:MY p fuel B b W Bud tb mb wb kb S m w){j:Nat}(hj:j<W)(d:Int)(hx:m.box j=[]):Calls Tryz.prog 44 #[.pointer (some ⟨b,0,none⟩),.int .i64 (j:Int),.int .i64 d] w fun r w'=>r=.returned (.tuple #[.int .i64 0,.bool false])/\Below w.heap.size w w':=by
 obtain⟨⟨c0,c1,c2,c3,c4,c5,c6⟩,_⟩:=h.cells
 obtain⟨Sp,hq⟩:=h.pm
 have hT:Calls Tryz.prog 77 #[.pointer (some ⟨mb,0,none⟩),.int .i64 (j:Int)] w fun e w'=>e=.returned (.tuple #[letV let0,.bool false])/\Below w.heap.size w w':=by
  obtain⟨C,h,gs,Sm,Sw,wg,q,hS⟩:=hq
  exact mTake_none q.ml hj (by show(m.box j).map letM=_;rw[hx];rfl)
 have HT:=Lib.hid hT
 clear h hq hT c0 c2 c3 c4 c5 c6 hx
 go_enter Tryz.func44,Tryz.ntmps44
 go_wp2_with fail
 refine HT.out.mono ?_
 rintro r w1⟨rfl,hb⟩
 have HB:=Lib.hid hb
 clear c1 hb
 unfold letV
 go_wp2
 go_ret2
 exact⟨rfl,HB.out.trans ((Zaa _ _).mono HB.out.size)⟩
theorem mread_any(h:MY p fuel B b W Bud tb mb wb kb S m w)(hW:W<=64)(hc:totW W m.wk<100000)(hpd:pendM W m.box<100000){j:Nat}(hj:j<W)(d:Int){x:Ltr}{r:List Ltr}(hx:m.box j=x::r)(hq:x.q.length<=1000)(hs:markT m.l x.q 255=markT m.l x.q x.set):
  Calls Tryz.prog 44 #[.pointer (some ⟨b,0,none⟩),.int .i64 (j:Int),.int .i64 d] w fun e w'=>e=.returned (.tuple #[.int .i64 1,.bool true])/\MYR p fuel B b W Bud tb mb wb kb S (readM W j x r m) w w':=by
 have R0:=Lib.hid (MYR.refl h)
 obtain⟨⟨c0,c1,c2,c3,c4,c5,c6⟩,_⟩:=h.cells
 have HQ:=Lib.hid hq
 obtain⟨m1,hm1⟩:∃m1:Mac,m1={ m with box:=updF m.box j r }:=⟨_,rfl⟩
 obtain⟨m2,hm2⟩:∃m2:Mac,m2={ m with box:=updF m.box j r,l:=(markT m.l x.q x.set).2 }:=⟨_,rfl⟩
 have HT:=Lib.hid (R0.out.call (m':=m1) (fun Sp q=>by rw[hm1];exact pm_take q hj hx hpd) (by rw[hm1]) (by rw[hm1]) (by rw[hm1]))
 have HC:Hid (totW W m2.wk<100000):=by show _;rw[hm2];exact hc
 have HK:Hid (m2.keys=m1.keys/\m2.blk=m1.blk/\m2.over=m1.over):=by show _;rw[hm1,hm2];exact⟨rfl,rfl,rfl⟩
 have HMK:Hid (∀{w:World} {Sp:Nat->Prop},PM p fuel w B tb mb wb W Sp m1->Calls Tryz.prog 71 #[.pointer (some ⟨tb,0,none⟩),.string ⟨x.q.toArray⟩,.int .u8 255] w fun r w'=>r=.returned (.int .i64 (markT m.l x.q 255).1)/\PMR p fuel B tb mb wb W Sp m2 w w'):=fun q=>by
  have h1:=Zlt q hq (by omega:255<256)
  rw[hm1]at h1
  rw[hm2]
  have e:(markT ({ m with box:=updF m.box j r }:Mac).l x.q 255)=markT m.l x.q x.set:=hs
  rw[e]at h1
  rw[hs]
  exact h1
 have HYES:Hid (leftT m2.l x.q≠0/\hasM W m2 x.q=false->readM W j x r m={ pushM W j x.q m2 with l:=(handT m2.l x.q j).2 }):=by
  show _->_
  rw[hm2]
  exact readM_yes
 have HNO:Hid (¬(leftT m2.l x.q≠0/\hasM W m2 x.q=false)->readM W j x r m=if leftT m2.l x.q≠0 then pushM W j x.q m2 else m2):=by
  show _->_
  rw[hm2]
  exact readM_no
 clear h c0 c2 c3 c4 c5 c6 hx hq hs hc hpd hm1 hm2
 go_enter Tryz.func44,Tryz.ntmps44
 go_wp2_with fail
 refine HT.out.mono ?_
 rintro e w1⟨rfl,r1⟩
 have R1:=Lib.hid (r1.local0.more (Zaa w1 (.cells #[.string ⟨x.q.toArray⟩,.int .u8 255] 146)) (Nat.le_refl _) (heap_alloc_new w1 _))
 clear r1 c1 HT
 unfold letV letM
 go_wp2_with fail
 generalize w1.heap.size=g at *
 generalize (w1.alloc (.cells #[.string ⟨x.q.toArray⟩,.int .u8 255] 146))=w2 at *
 obtain⟨⟨c0,c1,c2,c3,c4,c5,c6⟩,_⟩:=R1.out.toR.cells
 obtain⟨x0,x1⟩:=ZdJ (R1.out.get (List.mem_singleton.2 rfl))
 have HM:Hid (∀W1,Below w2.heap.size w2 W1->Calls Tryz.prog 71 #[.pointer (some ⟨tb,0,none⟩),.string ⟨x.q.toArray⟩,.int .u8 255] W1 fun r w'=>r=.returned (.int .i64 (markT m.l x.q 255).1)/\MYL p fuel B b W Bud tb mb wb kb S m2 [(g,(.cells #[.string ⟨x.q.toArray⟩,.int .u8 255] 146 (0,0)))] w w'):=fun W1 hb=>
  (R1.out.later hb).call (fun Sp q=>HMK.out q) HK.out.1 HK.out.2.1 HK.out.2.2
 clear c1 c2 c3 c4 c5 c6
 go_cut [] (fun wx=>Hid (MYL p fuel B b W Bud tb mb wb kb S m2 [(g,(.cells #[.string ⟨x.q.toArray⟩,.int .u8 255] 146 (0,0)))] w wx))
 case first=>
  go_wp2_with fail
  go_region_with (go_at_call 71;refine(HM.out _ (by first|with_reducible exact Below.refl _ _|with_reducible exact(Below.refl _ _).drew|with_reducible exact(Below.refl _ _).drewN)).mono ?_;rintro e w3⟨rfl,r3⟩;have R3:=Lib.hid r3;clear r3)
  all_goals go_wp2_with fail
  all_goals go_meet
  all_goals exact R3
 case rest=>
 have R3:=hcut
 clear hcut HM c0 x0 x1 R1
 generalize wc=w3 at *
 obtain⟨x0,x1⟩:=ZdJ (R3.out.get (List.mem_singleton.2 rfl))
 have HP:=Lib.hid (R3.out.own (m':=if leftT m2.l x.q≠0 then pushM W j x.q m2 else m2) (fun S1 h1=>ZgI h1 hW HC.out hj HQ.out))
 go_wp2_with fail
 refine HP.out.mono ?_
 rintro e w4⟨rfl,r4⟩
 have R4:=Lib.hid r4
 clear r4 HP x0 x1 R3
 by_cases hb:leftT m2.l x.q≠0/\hasM W m2 x.q=false
 ·have hd:(decide (leftT m2.l x.q≠0) && !hasM W m2 x.q)=true:=by rw[hb.2,decide_eq_true hb.1];rfl
  have HE:=Lib.hid (HYES.out hb)
  rw[hd]
  rw[if_pos hb.1]at R4
  have HL:Hid ((pushM W j x.q m2).l=m2.l):=by show _=_;unfold pushM;split <;> rfl
  obtain⟨⟨c0,c1,c2,c3,c4,c5,c6⟩,_⟩:=R4.out.toR.cells
  obtain⟨x0,x1⟩:=ZdJ (R4.out.get (List.mem_singleton.2 rfl))
  have HH:Hid (∀W1,Below w4.heap.size w4 W1->Calls Tryz.prog 79 #[.pointer (some ⟨tb,0,none⟩),.string ⟨x.q.toArray⟩,.int .i64 (j:Int)] W1 fun r w'=>r=.returned (.int .i64 (handT m2.l x.q j).1)/\MYL p fuel B b W Bud tb mb wb kb S { pushM W j x.q m2 with l:=(handT m2.l x.q j).2 } [(g,(.cells #[.string ⟨x.q.toArray⟩,.int .u8 255] 146 (0,0)))] w w'):=fun W1 hb=>
   (R4.out.later hb).call (m':={ pushM W j x.q m2 with l:=(handT m2.l x.q j).2 }) (fun Sp q=>by have h1:=pm_hand q HQ.out j;rw[HL.out]at h1;exact h1) rfl rfl rfl
  clear hb hd c1 c2 c3 c4 c5 c6
  go_wp2_with fail
  go_region_with (go_at_call 79;refine(HH.out _ (by first|with_reducible exact Below.refl _ _|with_reducible exact(Below.refl _ _).drew|with_reducible exact(Below.refl _ _).drewN)).mono ?_;rintro e w5⟨rfl,r5⟩;have R5:=Lib.hid r5.toR;clear r5)
  all_goals go_wp2
  all_goals go_ret2
  all_goals exact⟨rfl,by rw[HE.out];exact R5.out⟩
 ·have hd:(decide (leftT m2.l x.q≠0) && !hasM W m2 x.q)=false:=by
   cases hh:hasM W m2 x.q
   ·rw[decide_eq_false fun hl=>hb ⟨hl,hh⟩];rfl
   ·simp
  have HE:=Lib.hid (HNO.out hb)
  rw[hd]
  clear hb hd
  have R5:=Lib.hid R4.out.toR
  go_wp2
  go_ret2
  exact⟨rfl,by rw[HE.out];exact R5.out⟩
theorem Ziu(h:MY p fuel B b W Bud tb mb wb kb S m w){j:Nat}(hj:j<W)(d:Int)(hx:m.wk j≠[]):Calls Tryz.prog 45 #[.pointer (some ⟨b,0,none⟩),.int .i64 (j:Int),.int .i64 d] w fun r w'=>r=.returned (.tuple #[.int .i64 0,.bool false])/\w'=w:=by
 obtain⟨⟨c0,c1,c2,c3,c4,c5,c6⟩,_⟩:=h.cells
 obtain⟨Sp,hq⟩:=h.pm
 have HL:=Lib.hid (Zls hq hj)
 have hn:decide (((m.wk j).length:Int)>0)=true:=by
  have:=List.length_pos_iff.2 hx
  simp
  omega
 clear h hq c0 c1 c3 c4 c5 c6
 go_enter Tryz.func45,Tryz.ntmps45
 go_wp2_with fail
 refine HL.out.mono ?_
 rintro r w'⟨rfl,rfl⟩
 generalize ((m.wk j).length:Int)=n at *
 go_wp2
 go_ret2
 exact⟨rfl,rfl⟩
theorem Zit(h:MY p fuel B b W Bud tb mb wb kb S m w)(hW:W<=64){j:Nat}(hj:j<W)(d:Int)(hx:m.wk j=[])(hv:drawN d W=j∨m.wk (drawN d W)=[]):Calls Tryz.prog 45 #[.pointer (some ⟨b,0,none⟩),.int .i64 (j:Int),.int .i64 d] w fun r w'=>r=.returned (.tuple #[.int .i64 0,.bool true])/\Below w.heap.size w w':=by
 have H:=Lib.hid h
 obtain⟨⟨c0,c1,c2,c3,c4,c5,c6⟩,_⟩:=h.cells
 obtain⟨Sp,hq⟩:=h.pm
 have HL:=Lib.hid (Zls hq hj)
 have HW:Hid (∀V,Below w.heap.size w V->Calls Tryz.prog 29 #[.pointer (some ⟨b,0,none⟩)] V fun r w'=>r=.returned (.int .i64 (W:Nat))/\V=w'):=fun V hb=>(Zc7 (h.later hb)).mono fun _ _ ⟨a,c⟩=>⟨a,c.symm⟩
 have HD:Hid (∀V,Calls Tryz.prog 72 #[.int .i64 d,.int .i64 (W:Int)] V fun r w'=>r=.returned (.int .i64 (drawN d W:Nat))/\V=w'):=fun V=>(Zfd d (by omega) (by omega) V).mono fun _ _ ⟨a,c⟩=>⟨a,c.symm⟩
 have HCE:Hid (∀V,Below w.heap.size w V->V.cell? ⟨b,2,none⟩=some (.pointer (some ⟨wb,0,none⟩))):=fun V hb=>(h.later hb).cells.1.2.2.1
 have HS:Hid (∀V,Below w.heap.size w V->Calls Tryz.prog 81 #[.pointer (some ⟨wb,0,none⟩),.int .i64 (j:Int),.int .i64 (drawN d W:Nat)] V fun e w'=>e=.returned (.tuple #[.string ⟨#[]⟩,.bool false])/\Below w.heap.size w w'):=fun V hb=>by
  obtain⟨Sp,hq⟩:=(h.later hb).pm
  exact(Zj4 hq (hv.imp_left Eq.symm)).mono fun _ _ ⟨a,c⟩=>⟨a,by subst c;exact hb⟩
 rw[hx]at HL
 clear h hq c0 c1 c3 c4 c5 c6 hx hv
 generalize drawN d W=v at *
 go_enter Tryz.func45,Tryz.ntmps45
 go_wp2_with fail
 refine HL.out.mono ?_
 rintro r w'⟨rfl,rfl⟩
 go_wp2_with fail
 go_region_held3 (fun V=>V.cell? ⟨b,2,none⟩=some (.pointer (some ⟨wb,0,none⟩)))
  (first|with_reducible exact HCE.out _ (Below.refl _ _)|with_reducible exact HCE.out _ (Below.refl _ _).drew|with_reducible exact HCE.out _ HFB)
  (first
   |(go_at_call 29;(refine(HW.out _ (by first|with_reducible exact Below.refl _ _|with_reducible exact(Below.refl _ _).drew|with_reducible exact(Below.refl _ _).drewN)).mono ?_);rintro r w' ⟨rfl,rfl⟩)
   |(go_at_call 72;(refine(HD.out _).mono ?_);rintro r w' ⟨rfl,rfl⟩)
   |(go_at_call 81;(refine(HS.out _ (by first|with_reducible exact Below.refl _ _|with_reducible exact(Below.refl _ _).drew|with_reducible exact(Below.refl _ _).drewN)).mono ?_);rintro r w1⟨rfl,r1⟩;have HFB:=r1))
 all_goals go_wp2
 all_goals go_ret2
 all_goals exact⟨rfl,HFB⟩
theorem steal_any(h:MY p fuel B b W Bud tb mb wb kb S m w)(hW:W<=64)(hc:totW W m.wk<100000){j:Nat}(hj:j<W)(d:Int)(hx:m.wk j=[])(hv:drawN d W≠j)(hn:m.wk (drawN d W)≠[])(hk:((m.wk (drawN d W)).getLast?.getD []).length<=1000):Calls Tryz.prog 45 #[.pointer (some ⟨b,0,none⟩),.int .i64 (j:Int),.int .i64 d] w fun r w'=>r=.returned (.tuple #[.int .i64 2,.bool true])/\MYR p fuel B b W Bud tb mb wb kb S (ZcH j (drawN d W) m) w w':=by
 have R0:=Lib.hid (MYR.refl h)
 obtain⟨⟨c0,c1,c2,c3,c4,c5,c6⟩,_⟩:=h.cells
 obtain⟨Sp,hq⟩:=h.pm
 have HL:=Lib.hid (Zls hq hj)
 have hvW:drawN d W<W:=ZcN d (by omega)
 obtain⟨k,hkl⟩:∃k,k=(m.wk (drawN d W)).getLast?.getD []:=⟨_,rfl⟩
 have hsp:m.wk (drawN d W)=(m.wk (drawN d W)).dropLast++[k]:=by
  rw[hkl,List.getLast?_eq_some_getLast hn]
  exact(List.dropLast_concat_getLast hn).symm
 obtain⟨m1,hm1⟩:∃m1:Mac,m1={ m with wk:=updF (updF m.wk (drawN d W) (m.wk (drawN d W)).dropLast) j (putT (m.wk j) k) }:=⟨_,rfl⟩
 have HW:Hid (∀V,Below w.heap.size w V->Calls Tryz.prog 29 #[.pointer (some ⟨b,0,none⟩)] V fun r w'=>r=.returned (.int .i64 (W:Nat))/\V=w'):=fun V hb=>(Zc7 (h.later hb)).mono fun _ _ ⟨a,c⟩=>⟨a,c.symm⟩
 have HD:Hid (∀V,Calls Tryz.prog 72 #[.int .i64 d,.int .i64 (W:Int)] V fun r w'=>r=.returned (.int .i64 (drawN d W:Nat))/\V=w'):=fun V=>(Zfd d (by omega) (by omega) V).mono fun _ _ ⟨a,c⟩=>⟨a,c.symm⟩
 have HCE:Hid (∀V,Below w.heap.size w V->V.cell? ⟨b,2,none⟩=some (.pointer (some ⟨wb,0,none⟩))):=fun V hb=>(h.later hb).cells.1.2.2.1
 have HS:Hid (∀V,Below w.heap.size w V->Calls Tryz.prog 81 #[.pointer (some ⟨wb,0,none⟩),.int .i64 (j:Int),.int .i64 (drawN d W:Nat)] V fun e w'=>e=.returned (.tuple #[.string ⟨k.toArray⟩,.bool true])/\MYR p fuel B b W Bud tb mb wb kb S m1 w w'):=fun V hb=>
  (R0.out.later hb).call (m':=m1) (fun Sp q=>by rw[hm1];exact pm_steal q hW hc hj hvW (Ne.symm hv) hsp) (by rw[hm1]) (by rw[hm1]) (by rw[hm1])
 have HE:Hid (ZcH j (drawN d W) m={ m1 with l:=(handT m1.l k j).2 }):=by show _=_;unfold ZcH;rw[hm1,<-hkl]
 rw[<-hkl]at hk
 have HK:=Lib.hid hk
 rw[hx]at HL
 clear h hq c0 c1 c3 c4 c5 c6 hx hv hn hk hkl hsp hm1
 generalize ZcH j (drawN d W) m=m2 at *
 generalize drawN d W=v at *
 go_enter Tryz.func45,Tryz.ntmps45
 go_wp2_with fail
 refine HL.out.mono ?_
 rintro r w'⟨rfl,rfl⟩
 go_wp2_with fail
 go_region_held3 (fun V=>V.cell? ⟨b,2,none⟩=some (.pointer (some ⟨wb,0,none⟩)))
  (first|with_reducible exact HCE.out _ (Below.refl _ _)|with_reducible exact HCE.out _ (Below.refl _ _).drew|with_reducible exact HFC)
  (first
   |(go_at_call 29;(refine(HW.out _ (by first|with_reducible exact Below.refl _ _|with_reducible exact(Below.refl _ _).drew|with_reducible exact(Below.refl _ _).drewN)).mono ?_);rintro r w' ⟨rfl,rfl⟩)
   |(go_at_call 72;(refine(HD.out _).mono ?_);rintro r w' ⟨rfl,rfl⟩)
   |(go_at_call 81;(refine(HS.out _ (by first|with_reducible exact Below.refl _ _|with_reducible exact(Below.refl _ _).drew|with_reducible exact(Below.refl _ _).drewN)).mono ?_);rintro r w1⟨rfl,r1⟩;have R1:=Lib.hid r1;have HFC:=(MYR.cells r1).1.2.2.1;clear r1))
 all_goals clear HFC c2
 obtain⟨⟨c0,c1,c2,c3,c4,c5,c6⟩,_⟩:=R1.out.cells
 have HH:=Lib.hid (R1.out.call (m':={ m1 with l:=(handT m1.l k j).2 }) (fun Sp q=>pm_hand q HK.out j) rfl rfl rfl)
 clear c1 c2 c3 c4 c5 c6
 go_wp2_with fail
 refine HH.out.mono ?_
 rintro r w2⟨rfl,r2⟩
 have R2:=Lib.hid r2
 clear r2
 go_wp2
 go_ret2
 exact⟨rfl,by rw[HE.out];exact R2.out⟩
end
def MYK(p:Pg)(fuel:Int)(B b W Bud tb mb wb kb:Nat)(S:Nat->Prop)(m:Mac)(L:Nat->Prop)(w w':World):Prop:=∃S',MY p fuel B b W Bud tb mb wb kb S' m w'/\OnlyS S w w'/\(∀x,S' x->S x∨w.heap.size<=x)/\∀x,L x->¬S' x/\x<w'.heap.size
section
variable{p:Pg}{fuel:Int}{B b W Bud tb mb wb kb:Nat}{S L:Nat->Prop}{m m':Mac}{w w1 w2 w':World}
theorem MYR.beside(r:MYR p fuel B b W Bud tb mb wb kb S m w w1)(hb:Below w1.heap.size w1 w2)(hL:∀x,L x->w1.heap.size<=x/\x<w2.heap.size):MYK p fuel B b W Bud tb mb wb kb S m L w w2:=by
 obtain⟨S1,h1,o1,n1⟩:=r
 exact⟨S1,h1.later hb,o1.trans (OnlyS.of_below hb),n1,fun x hx=>⟨fun hs=>by have:=(h1.low.2 x hs).2;have:=(hL x hx).1;omega,(hL x hx).2⟩⟩
theorem MYK.toR(r:MYK p fuel B b W Bud tb mb wb kb S m L w w1):MYR p fuel B b W Bud tb mb wb kb S m w w1:=by
 obtain⟨S1,h1,o1,n1,_⟩:=r
 exact⟨S1,h1,o1,n1⟩
theorem MYK.later(r:MYK p fuel B b W Bud tb mb wb kb S m L w w1)(hb:Below w1.heap.size w1 w'):MYK p fuel B b W Bud tb mb wb kb S m L w w':=by
 obtain⟨S1,h1,o1,n1,l1⟩:=r
 exact⟨S1,h1.later hb,o1.trans (OnlyS.of_below hb),n1,fun x hx=>⟨(l1 x hx).1,Nat.lt_of_lt_of_le (l1 x hx).2 hb.size⟩⟩
theorem MYK.own(r1:MYK p fuel B b W Bud tb mb wb kb S m L w w1){F:FuncId}{args:Array Value}{V:Ending->Prop}(hc:∀S1,MY p fuel B b W Bud tb mb wb kb S1 m w1->Calls Tryz.prog F args w1 fun r w'=>V r/\MYR p fuel B b W Bud tb mb wb kb S1 m' w1 w'):
  Calls Tryz.prog F args w1 fun r w'=>V r/\MYK p fuel B b W Bud tb mb wb kb S m' L w w'/\OnlyS (fun x=>¬L x) w1 w':=by
 obtain⟨S1,h1,o1,n1,l1⟩:=r1
 refine(hc S1 h1).mono fun e w' ⟨a,r2⟩=>⟨a,?_⟩
 obtain⟨S2,k1,k2,k3⟩:=r2
 refine⟨⟨S2,k1,o1.thenS k2 fun x hx hs=>?_,fun x hx=>?_,fun x hx=>⟨fun hs=>?_,Nat.lt_of_lt_of_le (l1 x hx).2 k2.size⟩⟩,k2.mono fun x _ hx hl=>(l1 x hl).1 hx⟩
 ·rcases n1 x hs with h4|h4
  ·exact h4
  ·omega
 ·rcases k3 x hx with h4|h4
  ·exact n1 x h4
  ·exact .inr (Nat.le_trans o1.size h4)
 ·rcases k3 x hs with h4|h4
  ·exact(l1 x hx).1 h4
  ·have:=(l1 x hx).2;omega
theorem MYR.keyed{j:Nat}(r:MYR p fuel B b W Bud tb mb wb kb S m w w1)(hj:j<W)(k:Key):∃v,(∀V,Below w1.heap.size w1 V->V.cell? ⟨kb,j,none⟩=some v/\V.cell? ⟨b,3,none⟩=some (.slice (some ⟨kb,0,none⟩) W W)/\Zae V B 9 1 Zai v (m.keys j)/\B<=V.heap.size) /\
  ∀V v' u,Below w1.heap.size w1 V->Zae u B 9 1 Zai v' (m.keys j++[k])->V.grownBy u v.ownBlock->(v'.ownBlock=v.ownBlock∨v'.ownBlock=some V.heap.size) ->
   u.cell? ⟨kb,j,none⟩=some v/\u.cell? ⟨b,3,none⟩=some (.slice (some ⟨kb,0,none⟩) W W)/\u.frozen? ⟨kb,j,none⟩=false/\MYR p fuel B b W Bud tb mb wb kb S { m with keys:=updF m.keys j (m.keys j++[k]) } w (u.setCell ⟨kb,j,none⟩ v'):=by
 have r0:=r
 obtain⟨S1,h1,o1,n1⟩:=r
 obtain⟨v,hv,_,_⟩:=h1.keysOwn hj
 have hE:∀V,Below w1.heap.size w1 V->∀v2,V.cell? ⟨kb,j,none⟩=some v2->v2=v:=fun V hb v2 h2=>by
  have:=Zab hb hv
  rw[h2]at this
  injection this
 refine⟨v,fun V hb=>?_,fun V v' u hb ho hg hk=>?_⟩
 ·obtain⟨v2,h2,h3,h4⟩:=(h1.later hb).keysOwn hj
  obtain rfl:=hE V hb v2 h2
  exact⟨h2,(h1.later hb).cells.1.2.2.2.1,h3,h4⟩
 ·have hV:=h1.later hb
  obtain⟨v2,h2,h3,h4⟩:=hV.keyed (k:=k) hj
  obtain rfl:=hE V hb v2 h2
  obtain⟨k1,k2,k3⟩:=h4 v' u ho hg hk
  refine⟨k1,?_,k2,(r0.later hb).andThen fun S2 h5=>?_⟩
  ·obtain⟨vs,Sp,hX,_⟩:=hV
   have hbx:u.heap[b]?=V.heap[b]?:=hg.block b (Array.getElem?_eq_some_iff.1 hX.box).1 fun e=>by
    obtain⟨_,c,hc⟩:=h3.kind e.symm
    rw[hX.box]at hc
    injection hc with hc
    injection hc with _ h9
    exact absurd h9 (by decide)
   rw[World.cell?_of_block (w:=V) (a:=⟨b,3,none⟩) hbx]
   exact(h1.later hb).cells.1.2.2.2.1
  ·obtain⟨v3,h6,h7,h8⟩:=h5.keyed (k:=k) hj
   obtain rfl:=hE V hb v3 h6
   exact(h8 v' u ho hg hk).2.2
end
end Go.Proofs.YtjfmmnhcddckaaaGreat
namespace Go.Proofs.YtjfmmnhcddckaaaGreat
abbrev Gp:=Ev × List (Nat × Nat)
def addG:List Gp->Ev->Nat × Nat->List Gp
 | [],e,p=>[(e,[p])]
 |g::gs,e,p=>if g.1=e then (g.1,g.2++[p])::gs else g::addG gs e p
def grp(l:List Ev):Nat->List Gp
 |0=>[]
 |n+1=>addG (grp l n) (evI l n) (n,num l n)
def lasts(l:List Ev)(n:Nat)(t u:Int):Nat:=match lastT l t n with
 |none=>0
 |some j=>clk l j u
def rcG(known:Nat)(ps:List (Nat × Nat)):List Nat:=((ps.filter fun p=>decide (known<p.2)).map (·.1)).reverse
def rcL(ls:Int->Int->Nat)(gs:List Gp)(e:Ev):List Nat:=
 gs.flatMap fun g=>if g.1.thread≠e.thread/\dep g.1 e=true then rcG (ls e.thread g.1.thread) g.2 else []
def allG(gs:List Gp):List Nat:=gs.flatMap fun g=>g.2.map (·.1)
theorem allG_add(gs:List Gp)(e:Ev)(p:Nat × Nat):(allG (addG gs e p)).Perm (allG gs++[p.1]):=by
 induction gs with
 |nil=>exact List.Perm.refl _
 |cons g gs ih=>
  unfold addG
  split
  ·unfold allG
   rw[List.flatMap_cons,List.flatMap_cons,List.map_append]
   simp only[List.map_cons,List.map_nil,List.append_assoc]
   exact List.Perm.append_left _ List.perm_append_comm
  ·unfold allG at *
   rw[List.flatMap_cons,List.flatMap_cons,List.append_assoc]
   exact List.Perm.append_left _ ih
theorem allG_grp(l:List Ev)(n:Nat):(allG (grp l n)).Perm (List.range n):=by
 induction n with
 |zero=>exact List.Perm.refl _
 |succ n ih=>
  rw[List.range_succ]
  exact(allG_add _ _ _).trans (List.Perm.append_right _ ih)
def GOk(l:List Ev)(n:Nat)(g:Gp):Prop:=(∀p∈g.2,evI l p.1=g.1/\p.2=num l p.1/\p.1<n)/\g.2.Pairwise (fun a b=>a.2<b.2)
theorem GOk.mono{l:List Ev}{n m:Nat}{g:Gp}(h:GOk l n g)(hm:n<=m):GOk l m g:=
 ⟨fun p hp=>⟨(h.1 p hp).1,(h.1 p hp).2.1,Nat.lt_of_lt_of_le (h.1 p hp).2.2 hm⟩,h.2⟩
theorem num_lt{l:List Ev}{i n:Nat}(h:i<n)(ht:(evI l i).thread=(evI l n).thread):num l i<num l n:=by
 unfold num
 rw[ht]
 have h1:cnt (isT l (evI l n).thread) (i+1)<=cnt (isT l (evI l n).thread) n:=Zci _ h
 have h2:cnt (isT l (evI l n).thread) n<cnt (isT l (evI l n).thread) (n+1):=ZfP _ (Nat.lt_succ_self n) (by unfold isT;simp)
 omega
theorem gok_add{l:List Ev}{n:Nat}(gs:List Gp)(h:∀g∈gs,GOk l n g):∀g∈addG gs (evI l n) (n,num l n),GOk l (n+1) g:=by
 induction gs with
 |nil=>
  intro g hg
  rw[addG,List.mem_singleton]at hg
  subst hg
  refine⟨fun p hp=>?_,List.pairwise_singleton _ _⟩
  rw[List.mem_singleton]at hp
  subst hp
  exact⟨rfl,rfl,Nat.lt_succ_self _⟩
 |cons g gs ih=>
  intro x hx
  unfold addG at hx
  split at hx
  ·rename_i he
   rcases List.mem_cons.1 hx with rfl|hx
   ·have hg:=h g List.mem_cons_self
    refine⟨fun p hp=>?_,?_⟩
    ·rcases List.mem_append.1 hp with hp|hp
     ·exact⟨(hg.1 p hp).1,(hg.1 p hp).2.1,Nat.lt_succ_of_lt (hg.1 p hp).2.2⟩
     ·rw[List.mem_singleton]at hp
      subst hp
      exact⟨he.symm,rfl,Nat.lt_succ_self _⟩
    ·rw[List.pairwise_append]
     refine⟨hg.2,List.pairwise_singleton _ _,fun a ha b hb=>?_⟩
     rw[List.mem_singleton]at hb
     subst hb
     obtain⟨h1,h2,h3⟩:=hg.1 a ha
     rw[h2]
     exact num_lt h3 (by rw[h1,he])
   ·exact(h x (List.mem_cons_of_mem _ hx)).mono (Nat.le_succ _)
  ·rcases List.mem_cons.1 hx with rfl|hx
   ·exact(h x List.mem_cons_self).mono (Nat.le_succ _)
   ·exact ih (fun y hy=>h y (List.mem_cons_of_mem _ hy)) x hx
theorem gok_grp(l:List Ev)(n:Nat):∀g∈grp l n,GOk l n g:=by
 induction n with
 |zero=>intro g hg;cases hg
 |succ n ih=>exact gok_add _ ih
def rcQ(l:List Ev)(n:Nat)(e:Ev)(i:Nat):Bool:=decide ((evI l i).thread≠e.thread)&&dep (evI l i) e&&decide (lasts l n e.thread (evI l i).thread<num l i)
def raced(l:List Ev)(n:Nat)(e:Ev):List Nat:=(List.range n).filter (rcQ l n e)
theorem rcG_perm{l:List Ev}{n:Nat}{e:Ev}{g:Gp}(h:GOk l n g):
  (if g.1.thread≠e.thread/\dep g.1 e=true then rcG (lasts l n e.thread g.1.thread) g.2 else []).Perm ((g.2.map (·.1)).filter (rcQ l n e)):=by
 by_cases hc:g.1.thread≠e.thread/\dep g.1 e=true
 ·rw[if_pos hc]
  refine(List.reverse_perm _).trans ?_
  have:(g.2.map (·.1)).filter (rcQ l n e)=(g.2.filter fun p=>decide (lasts l n e.thread g.1.thread<p.2)).map (·.1):=by
   rw[List.filter_map]
   congr 1
   apply List.filter_congr
   intro p hp
   obtain⟨h1,h2,_⟩:=h.1 p hp
   show rcQ l n e p.1=_
   unfold rcQ
   rw[h1,<-h2,hc.2,decide_eq_true hc.1]
   rfl
  rw[this]
 ·rw[if_neg hc]
  have:(g.2.map (·.1)).filter (rcQ l n e)=[]:=by
   rw[List.filter_eq_nil_iff]
   intro i hi hq
   obtain⟨p,hp,rfl⟩:=List.mem_map.1 hi
   obtain⟨h1,_,_⟩:=h.1 p hp
   unfold rcQ at hq
   rw[h1,Bool.and_eq_true,Bool.and_eq_true,decide_eq_true_eq]at hq
   exact hc hq.1
  rw[this]
theorem ZiH(l:List Ev)(n:Nat)(e:Ev):(rcL (lasts l n) (grp l n) e).Perm (raced l n e):=by
 have key:∀gs:List Gp,(∀g∈gs,GOk l n g)->(rcL (lasts l n) gs e).Perm ((allG gs).filter (rcQ l n e)):=by
  intro gs
  induction gs with
  |nil=>intro _;exact List.Perm.refl _
  |cons g gs ih=>
   intro h
   unfold rcL allG at *
   rw[List.flatMap_cons,List.flatMap_cons,List.filter_append]
   exact List.Perm.append (rcG_perm (h g List.mem_cons_self)) (ih fun x hx=>h x (List.mem_cons_of_mem _ hx))
 exact(key _ (gok_grp l n)).trans ((allG_grp l n).filter _)
theorem rcL_sorted(l:List Ev)(n:Nat)(e:Ev){L:List Nat}(h1:L.Perm (rcL (lasts l n) (grp l n) e))(h2:L.Pairwise (·<=·)):L=raced l n e:=by
 have hp:=h1.trans (ZiH l n e)
 have hr:(raced l n e).Pairwise (·<=·):=(List.Pairwise.filter _ (List.pairwise_lt_range (n:=n))).imp fun h=>Nat.le_of_lt h
 exact hp.eq_of_pairwise (le:=(·<=·)) (fun a b _ _ h3 h4=>Nat.le_antisymm h3 h4) h2 hr
theorem evI_take{l:List Ev}{n i:Nat}(h:i<n):evI (l.take n) i=evI l i:=by
 unfold evI
 simp[List.getD,List.getElem?_take_of_lt h]
theorem lastT_take{l:List Ev}{t:Int}{n:Nat}:∀{m:Nat},m<=n->lastT (l.take n) t m=lastT l t m:=by
 intro m
 induction m with
 |zero=>intro _;rfl
 |succ m ih=>
  intro h
  rw[lastT,lastT,evI_take (by omega),ih (by omega)]
theorem withL_take{l:List Ev}{n:Nat}(e:Ev)(hn:n<=l.length):withL (l.take n) e=raced l n e:=by
 unfold withL raced
 have hl:(l.take n).length=n:=by rw[List.length_take,Nat.min_eq_left hn]
 rw[hl]
 apply List.filter_congr
 intro i hi
 have hi':=List.mem_range.1 hi
 unfold raceAt rcQ
 rw[evI_take hi']
 congr 1
 unfold Zkr lasts
 rw[hl,lastT_take (Nat.le_refl n)]
 cases hj:lastT l e.thread n with
 |none=>
  show(!false)=decide (0<num l i)
  have:0<num l i:=by
   unfold num
   rw[ZaW]
   have:isT l (evI l i).thread i=true:=by unfold isT;simp
   rw[this]
   simp
  simp[this]
 |some j=>
  obtain⟨hjn,_⟩:=ZhX hj
  show(!(hb (l.take n) i j))=decide (clk l j (evI l i).thread<num l i)
  have h1:hb (l.take n) i j=hb l i j:=by
   have:=ZdO (l:=l.take n) (m:=l.drop n) i (k:=j) (by rw[hl];exact hjn)
   rw[List.take_append_drop]at this
   exact this.symm
  rw[h1]
  cases hb':hb l i j
  ·have:¬num l i<=clk l j (evI l i).thread:=fun h=>by rw[<-ZbL,hb']at h;cases h
   simp;omega
  ·have:=ZbL.1 hb'
   simp;omega
theorem Zk2(l:List Ev)(e:Ev):withL l e=raced l l.length e:=by
 have:=withL_take (l:=l) (n:=l.length) e (Nat.le_refl _)
 rwa [List.take_length]at this
theorem raced_mem{l:List Ev}{n:Nat}{e:Ev}{i:Nat}(h:i∈raced l n e):i<n:=List.mem_range.1 (List.mem_filter.1 h).1
theorem Zj1(l:List Ev)(n:Nat)(e:Ev):(raced l n e).length<=n:=by
 have:=List.length_filter_le (rcQ l n e) (List.range n)
 unfold raced
 rwa [List.length_range]at this
theorem rcL_len(l:List Ev)(n:Nat)(e:Ev):(rcL (lasts l n) (grp l n) e).length<=n:=by
 rw[(ZiH l n e).length_eq]
 exact Zj1 l n e
theorem rcL_mem{l:List Ev}{n:Nat}{e:Ev}{i:Nat}(h:i∈rcL (lasts l n) (grp l n) e):i<n:=raced_mem ((ZiH l n e).mem_iff.1 h)
theorem Zht(gs:List Gp)(e:Ev)(p:Nat × Nat):(addG gs e p).length<=gs.length+1:=by
 induction gs with
 |nil=>exact Nat.le_refl _
 |cons g gs ih=>
  unfold addG
  split
  ·simp
  ·simp only[List.length_cons];omega
theorem grp_len(l:List Ev)(n:Nat):(grp l n).length<=n:=by
 induction n with
 |zero=>exact Nat.le_refl _
 |succ n ih=>
  have:=Zht (grp l n) (evI l n) (n,num l n)
  show(addG _ _ _).length<=_
  omega
theorem ZkF(l:List Ev)(n:Nat):∀g∈grp l n,g.2.length<=n:=by
 intro g hg
 have h1:=(allG_grp l n).length_eq
 rw[List.length_range]at h1
 rw[<-h1]
 have h2:(g.2.map (·.1)).Sublist (allG (grp l n)):=by
  have h3:=List.sublist_flatten_of_mem (List.mem_map.2 ⟨g,hg,rfl⟩:g.2.map (·.1)∈(grp l n).map fun g=>g.2.map (·.1))
  rwa [<-List.flatMap_def]at h3
 simpa using h2.length_le
theorem addG_at{gs:List Gp}{e:Ev}{p:Nat × Nat}{k:Nat}(hk:k<gs.length)(hn:∀i (h:i<k),(gs[i]'(by omega)).1≠e)(he:gs[k].1=e):addG gs e p=gs.set k (gs[k].1,gs[k].2++[p]):=by
 induction gs generalizing k with
 |nil=>simp at hk
 |cons g gs ih=>
  cases k with
  |zero=>
   unfold addG
   rw[if_pos (by simpa using he)]
   rfl
  |succ k=>
   unfold addG
   rw[if_neg (by simpa using hn 0 (by omega))]
   rw[List.set_cons_succ]
   congr 1
   exact ih (by simpa using hk) (fun i h=>by simpa using hn (i+1) (by omega)) (by simpa using he)
theorem addG_new{gs:List Gp}{e:Ev}{p:Nat × Nat}(hn:∀x∈gs,x.1≠e):addG gs e p=gs++[(e,[p])]:=by
 induction gs with
 |nil=>rfl
 |cons g gs ih=>
  unfold addG
  rw[if_neg (hn g List.mem_cons_self),ih fun x hx=>hn x (List.mem_cons_of_mem _ hx)]
  rfl
theorem lasts_succ(l:List Ev)(n:Nat)(t u:Int):lasts l (n+1) t u=if (evI l n).thread=t then clk l n u else lasts l n t u:=by
 unfold lasts
 rw[lastT]
 by_cases h:(evI l n).thread=t
 ·rw[if_pos h,if_pos h]
 ·rw[if_neg h,if_neg h]
theorem ZlY{ps:List (Nat × Nat)}{known:Nat}:∀{k:Nat},ps.Pairwise (fun a b=>b.2<a.2)->k<=ps.length->(∀i (_:i<k),known<(ps.getD i (0,0)).2)->(k<ps.length->(ps.getD k (0,0)).2<=known)->ps.filter (fun p=>decide (known<p.2))=ps.take k:=by
 induction ps with
 |nil=>intro k _ hk _ _;simp
 |cons p ps ih=>
  intro k hp hk h1 h2
  rw[List.pairwise_cons]at hp
  cases k with
  |zero=>
   have h0:p.2<=known:=by simpa using h2 (by simp)
   rw[List.take_zero,List.filter_eq_nil_iff]
   intro x hx hq
   rw[decide_eq_true_eq]at hq
   rcases List.mem_cons.1 hx with rfl|hx
   ·omega
   ·have:=hp.1 x hx;omega
  |succ k=>
   have h0:known<p.2:=by simpa using h1 0 (by omega)
   rw[List.filter_cons_of_pos (by simpa using h0),List.take_succ_cons]
   congr 1
   exact ih hp.2 (by simpa using hk) (fun i h=>by simpa using h1 (i+1) (by omega)) (fun h=>by simpa using h2 (by simpa using h))
theorem rcG_take{ps:List (Nat × Nat)}{known k:Nat}(hs:ps.Pairwise (fun a b=>a.2<b.2))(hk:k<=ps.length)(h1:∀i (_:i<k),known<(ps.reverse.getD i (0,0)).2)(h2:k<ps.length->(ps.reverse.getD k (0,0)).2<=known):rcG known ps=(ps.reverse.take k).map (·.1):=by
 unfold rcG
 rw[<-List.map_reverse,<-List.filter_reverse,ZlY (k:=k) (List.pairwise_reverse.2 hs) (by rw[List.length_reverse];exact hk) h1 (by rw[List.length_reverse];exact h2)]
structure Mk where
 e:Ev
 c:Nat->Nat
def mkOf(l:List Ev)(k:Nat):Mk:=⟨evI l k,fun t=>clk l k t⟩
def kn(ms:List Mk)(e:Ev)(t:Nat):Nat:=ms.foldl (fun a m=>if dep m.e e then max a (m.c t)else a) 0
theorem kn_snoc(ms:List Mk)(m:Mk)(e:Ev)(t:Nat):kn (ms++[m]) e t=if dep m.e e then max (kn ms e t) (m.c t)else kn ms e t:=by
 unfold kn
 rw[List.foldl_append]
 rfl
theorem kn_take(ms:List Mk)(e:Ev)(t k:Nat)(h:k<ms.length):kn (ms.take (k+1)) e t=if dep ms[k].e e then max (kn (ms.take k) e t) (ms[k].c t)else kn (ms.take k) e t:=by
 rw[List.take_succ_eq_append_getElem h,kn_snoc]
theorem fold_ge(ms:List Mk)(e:Ev)(t a:Nat):a<=ms.foldl (fun a m=>if dep m.e e then max a (m.c t)else a) a/\∀m∈ms,dep m.e e=true->m.c t<=ms.foldl (fun a m=>if dep m.e e then max a (m.c t)else a) a:=by
 induction ms generalizing a with
 |nil=>exact⟨Nat.le_refl _,fun m h=>by cases h⟩
 |cons x ms ih=>
  rw[List.foldl_cons]
  by_cases hx:dep x.e e=true
  ·rw[if_pos hx]
   obtain⟨h1,h2⟩:=ih (max a (x.c t))
   refine⟨by omega,fun m hm hd=>?_⟩
   rcases List.mem_cons.1 hm with rfl|hm
   ·omega
   ·exact h2 m hm hd
  ·rw[if_neg hx]
   obtain⟨h1,h2⟩:=ih a
   refine⟨h1,fun m hm hd=>?_⟩
   rcases List.mem_cons.1 hm with rfl|hm
   ·exact absurd hd hx
   ·exact h2 m hm hd
theorem fold_le(ms:List Mk)(e:Ev)(t a b:Nat)(ha:a<=b)(h:∀m∈ms,dep m.e e=true->m.c t<=b):ms.foldl (fun a m=>if dep m.e e then max a (m.c t)else a) a<=b:=by
 induction ms generalizing a with
 |nil=>exact ha
 |cons x ms ih=>
  rw[List.foldl_cons]
  refine ih _ ?_ (fun m hm=>h m (by simp[hm]))
  split
  ·rename_i hx
   have:=h x (by simp) hx
   omega
  ·exact ha
def Lst(l:List Ev)(n:Nat)(ms:List Mk):Prop:=
 ms.length<=n/\(∀m∈ms,∃i,i<n/\m=mkOf l i)/\∀i,i<n->∃j,i<=j/\j<n/\evI l j=evI l i/\mkOf l j∈ms
theorem lst_zero(l:List Ev):Lst l 0 []:=⟨Nat.le_refl _,fun m h=>(by cases h),fun i h=>(by omega)⟩
theorem Lst.kn{l:List Ev}{n:Nat}{ms:List Mk}(h:Lst l n ms)(t:Nat):kn ms (evI l n) t=top (fun i=>clk l i t) (fun i=>dep (evI l i) (evI l n)) n:=by
 apply Nat.le_antisymm
 ·refine fold_le ms _ t 0 _ (Nat.zero_le _) fun m hm hd=>?_
  obtain⟨i,hi,rfl⟩:=h.2.1 m hm
  exact Zhx (f:=fun i=>clk l i t) (q:=fun i=>dep (evI l i) (evI l n)) hi hd
 ·refine Zhw fun i hi hd=>?_
  obtain⟨j,hij,hj,he,hm⟩:=h.2.2 i hi
  refine Nat.le_trans (clk_mono (ZgQ hij (by rw[he])) t) ?_
  exact(fold_ge ms (evI l n) t 0).2 _ hm (by show dep (evI l j) _=true;rw[he];exact hd)
theorem Lst.clk{l:List Ev}{n:Nat}{ms:List Mk}(h:Lst l n ms)(t:Nat):clk l n t=Proofs.YtjfmmnhcddckaaaGreat.kn ms (evI l n) t+if (evI l n).thread=(t:Int)then 1 else 0:=by
 rw[clk_top,h.kn]
def keepM:List Mk->Mk->List Mk
 | [],m=>[m]
 |x::ms,m=>if x.e=m.e then m::ms else x::keepM ms m
theorem keepM_at{ms:List Mk}{m:Mk}{k:Nat}(hk:k<ms.length)(hn:∀i (h:i<k),(ms[i]'(by omega)).e≠m.e)(he:ms[k].e=m.e):keepM ms m=ms.set k m:=by
 induction ms generalizing k with
 |nil=>simp at hk
 |cons x ms ih=>
  unfold keepM
  cases k with
  |zero=>
   simp only[List.getElem_cons_zero]at he
   rw[if_pos he]
   rfl
  |succ k=>
   have h0:=hn 0 (by omega)
   simp only[List.getElem_cons_zero]at h0
   rw[if_neg h0,List.set_cons_succ]
   congr 1
   refine ih (by simpa using hk) (fun i hi=>?_) (by simpa using he)
   have:=hn (i+1) (by omega)
   simpa using this
theorem keepM_new{ms:List Mk}{m:Mk}(hn:∀x∈ms,x.e≠m.e):keepM ms m=ms++[m]:=by
 induction ms with
 |nil=>rfl
 |cons x ms ih=>
  unfold keepM
  rw[if_neg (hn x (by simp)),ih (fun y hy=>hn y (by simp[hy]))]
  rfl
theorem keepM_len(ms:List Mk)(m:Mk):(keepM ms m).length<=ms.length+1:=by
 induction ms with
 |nil=>simp[keepM]
 |cons x ms ih=>
  unfold keepM
  split
  ·simp
  ·simpa using ih
theorem Zkl(ms:List Mk)(m:Mk):m∈keepM ms m:=by
 induction ms with
 |nil=>simp[keepM]
 |cons x ms ih=>unfold keepM;split <;> simp[ih]
theorem Zkb{ms:List Mk}{m x:Mk}(h:x∈keepM ms m):x=m∨x∈ms:=by
 induction ms with
 |nil=>simp[keepM]at h;exact .inl h
 |cons y ms ih=>
  unfold keepM at h
  split at h
  ·rcases List.mem_cons.1 h with h|h
   ·exact .inl h
   ·exact .inr (by simp[h])
  ·rcases List.mem_cons.1 h with h|h
   ·exact .inr (by simp[h])
   ·rcases ih h with h|h
    ·exact .inl h
    ·exact .inr (by simp[h])
theorem Zkk{ms:List Mk}{m x:Mk}(h:x∈ms)(hne:x.e≠m.e):x∈keepM ms m:=by
 induction ms with
 |nil=>cases h
 |cons y ms ih=>
  unfold keepM
  rcases List.mem_cons.1 h with rfl|h
  ·rw[if_neg hne]
   simp
  ·split
   ·simp[h]
   ·simp[ih h]
theorem Lst.keep{l:List Ev}{n:Nat}{ms:List Mk}(h:Lst l n ms):Lst l (n+1) (keepM ms (mkOf l n)):=by
 refine⟨Nat.le_trans (keepM_len _ _) (by have:=h.1;omega),fun m hm=>?_,fun i hi=>?_⟩
 ·rcases Zkb hm with rfl|hm
  ·exact⟨n,by omega,rfl⟩
  ·obtain⟨i,hi,e⟩:=h.2.1 m hm
   exact⟨i,by omega,e⟩
 ·by_cases hin:i=n
  ·subst hin
   exact⟨i,Nat.le_refl _,hi,rfl,Zkl _ _⟩
  ·obtain⟨j,hij,hj,he,hm⟩:=h.2.2 i (by omega)
   by_cases hje:evI l j=evI l n
   ·exact⟨n,by omega,by omega,by rw[<-he,hje],Zkl _ _⟩
   ·exact⟨j,hij,by omega,he,Zkk hm hje⟩
end Go.Proofs.YtjfmmnhcddckaaaGreat
namespace Go.Proofs.YtjfmmnhcddckaaaGreat
open Go.RowKit
def ZcK(m:Mk):List Value:=ZaL m.e++nums4 (fun t=>(m.c t:Int))
theorem ZbJ(m:Mk):(ZcK m).length=8:=rfl
theorem mkCell_one(m:Mk):∀v∈ZcK m,v.oneCell'=true:=by
 intro v hv
 simp[ZcK,ZaL,nums4]at hv
 rcases hv with rfl|rfl|rfl|rfl|rfl|rfl|rfl|rfl <;> rfl
theorem RowAt.mk{w:World}{a:Option Addr}{ms:List Mk}(h:RowAt w a 8 ZcK ms)(k:Nat)(hk:k<ms.length):∃b o,a=some ⟨b,o,none⟩ /\
  (w.cell? ⟨b,o+k*8,none⟩=some (.int .i64 ms[k].e.thread)/\w.cell? ⟨b,o+k*8+1,none⟩=some (.int .i64 ms[k].e.kind)/\w.cell? ⟨b,o+k*8+2,none⟩=some (.int .i64 ms[k].e.obj)/\w.cell? ⟨b,o+k*8+3,none⟩=some (.bool ms[k].e.fail)) /\
  (w.cell? ⟨b,o+k*8+4,none⟩=some (.int .i64 (ms[k].c 0))/\w.cell? ⟨b,o+k*8+5,none⟩=some (.int .i64 (ms[k].c 1))/\w.cell? ⟨b,o+k*8+6,none⟩=some (.int .i64 (ms[k].c 2))/\w.cell? ⟨b,o+k*8+7,none⟩=some (.int .i64 (ms[k].c 3))):=by
 obtain⟨b,o,rfl,hc⟩:=h.2 (by intro e;simp[e]at hk)
 exact⟨b,o,rfl,⟨hc k hk 0 _ rfl,hc k hk 1 _ rfl,hc k hk 2 _ rfl,hc k hk 3 _ rfl⟩,hc k hk 4 _ rfl,hc k hk 5 _ rfl,hc k hk 6 _ rfl,hc k hk 7 _ rfl⟩
theorem MidAt.only{w w':World}{g b:Nat}{t:TypeId}{xs:List Value}(h:MidAt w g t xs)(ho:Only b w w')(hb:g≠b):MidAt w' g t xs:=(ho.block g h.lt hb).trans h
theorem MidAt.four{w:World}{g:Nat}{t:TypeId}{c:Nat->Int}(h:MidAt w g t (nums4 c)):w.cell? ⟨g,0,none⟩=some (.int .i64 (c 0))/\w.cell? ⟨g,1,none⟩=some (.int .i64 (c 1))/\w.cell? ⟨g,2,none⟩=some (.int .i64 (c 2))/\w.cell? ⟨g,3,none⟩=some (.int .i64 (c 3)):=
 ⟨by rw[h.cell];rfl,by rw[h.cell];rfl,by rw[h.cell];rfl,by rw[h.cell];rfl⟩
theorem mid_new(w:World)(t:TypeId)(c:Nat->Int):MidAt (w.alloc (.cells #[.int .i64 (c 0),.int .i64 (c 1),.int .i64 (c 2),.int .i64 (c 3)] t)) w.heap.size t (nums4 c):=heap_alloc_new w _
def mix4(f c:Nat->Nat)(j:Nat):Nat->Int:=fun t=>if t<j then (if f t<c t then (c t:Int)else (f t:Int))else (f t:Int)
theorem mix4_set(f c:Nat->Nat)(j:Nat)(h:j<4):(nums4 (mix4 f c j)).set j (.int .i64 (if f j<c j then (c j:Int)else (f j:Int)))=nums4 (mix4 f c (j+1)):=by
 rw[nums4_set _ _ h]
 apply ZgG
 intro t _
 unfold mix4
 by_cases e:t=j
 ·subst e
  rw[if_pos rfl,if_pos (show t<t+1 by omega)]
 ·rw[if_neg e]
  by_cases h2:t<j
  ·rw[if_pos h2,if_pos (show t<j+1 by omega)]
  ·rw[if_neg h2,if_neg (show ¬t<j+1 by omega)]
theorem below_step{w8 W w':World}(h1:Below w8.heap.size w8 W)(hb:Below W.heap.size W w'):Below w8.heap.size w8 w':=h1.trans (hb.mono h1.size)
def KnW(w:World)(e:Ev)(c:Nat->Int)(n0:Nat)(w':World):Prop:=
 EvBox w' n0 e/\MidAt w' (n0+1) 193 (nums4 fun _=>0)/\MidAt w' (n0+1+1) 193 (nums4 c)/\Below n0 w w'
theorem KnW.later{w w1 w':World}{e:Ev}{c:Nat->Int}{n0:Nat}(h:KnW w e c n0 w1)(hb:Below w1.heap.size w1 w'):KnW w e c n0 w':=
 ⟨h.1.later hb,h.2.1.later hb,h.2.2.1.later hb,h.2.2.2.trans (hb.mono (by have:=h.2.2.1.lt;omega))⟩
theorem KnW.set{w w1:World}{e:Ev}{c:Nat->Int}{n0:Nat}(h:KnW w e c n0 w1)(j:Nat)(d:Nat->Int)(v:Value)(hd:(nums4 c).set j v=nums4 d):KnW w e d n0 (w1.setCell ⟨n0+1+1,j,none⟩ v):=by
 have ho:Only (n0+1+1) w1 (w1.setCell ⟨n0+1+1,j,none⟩ v):=(Only.refl _ _).setCell _ _
 refine⟨h.1.only ho (by omega),h.2.1.only ho (by omega),?_,h.2.2.2.setCell (p:=⟨n0+1+1,j,none⟩) (by show n0<=n0+1+1;omega) v⟩
 rw[<-hd]
 exact h.2.2.1.set j v
theorem max_ifN(a b:Nat):(if a<b then (b:Int)else (a:Int))=max (a:Int) (b:Int):=by split <;> omega
theorem known_any(a:Option Addr)(cap:Nat)(ms:List Mk)(e:Ev)(w:World)(hl:RowAt w a 8 ZcK ms):
  Calls Tryz.prog 157 #[.slice a ms.length cap,.agg #[.int .i64 e.thread,.int .i64 e.kind,.int .i64 e.obj,.bool e.fail]] w fun r w'=>
   r=.returned (.agg #[.int .i64 (kn ms e 0),.int .i64 (kn ms e 1),.int .i64 (kn ms e 2),.int .i64 (kn ms e 3)])/\Below w.heap.size w w':=by
 have hm:=hl.1
 unfold maxLen at hm
 have HL:=Lib.hid hl
 clear hl
 have H0:Hid (KnW w e (fun t=>(kn (ms.take 0) e t:Int)) w.heap.size (((w.alloc (.cells #[.int .i64 e.thread,.int .i64 e.kind,.int .i64 e.obj,.bool e.fail] 112)).alloc (.cells #[.int .i64 0,.int .i64 0,.int .i64 0,.int .i64 0] 193)).alloc (.cells #[.int .i64 0,.int .i64 0,.int .i64 0,.int .i64 0] 193))):=by
  have b1:=EvBox.new w e
  have b2:=mid_new (w.alloc (.cells #[.int .i64 e.thread,.int .i64 e.kind,.int .i64 e.obj,.bool e.fail] 112)) 193 (fun _=>0)
  have b3:=mid_new ((w.alloc (.cells #[.int .i64 e.thread,.int .i64 e.kind,.int .i64 e.obj,.bool e.fail] 112)).alloc (.cells #[.int .i64 0,.int .i64 0,.int .i64 0,.int .i64 0] 193)) 193 (fun _=>0)
  simp only[World.size_alloc]at b2 b3
  exact⟨(b1.later (Zak _ _ _)),b2.later (Zaa _ _),b3,((Zak w _ _).alloc (by simp;omega) _)⟩
 go_enter Tryz.func157,Tryz.ntmps157
 go_wp2
 go_loopw [11] (fun i wr=>∃k:Nat,k<=ms.length/\i=.int .i64 k/\Hid (KnW w e (fun t=>(kn (ms.take k) e t:Int)) w.heap.size wr)) (fun i _=>ms.length-(intOf i).toNat)
 case atStart=>exact⟨0,Nat.zero_le _,rfl,H0⟩
 case round=>
  clear H0
  obtain⟨k,hk,rfl,HK⟩:=hrel
  by_cases hlt:k<ms.length
  ·obtain⟨b,o,rfl,hx,hc⟩:=HL.out.mk k hlt
   have HKT:=Lib.hid (fun t=>kn_take ms e t k hlt)
   have hb:=HK.out.2.2.2
   obtain⟨e0,e1,e2,e3⟩:=HK.out.1.cells
   obtain⟨x0,x1,x2,x3⟩:=hx
   obtain⟨y0,y1,y2,y3⟩:=hc
   have g0:=Zab hb x0
   have g1:=Zab hb x1
   have g2:=Zab hb x2
   have g3:=Zab hb x3
   have HC:=Lib.hid (And.intro (Zab hb y0) (And.intro (Zab hb y1) (And.intro (Zab hb y2) (Zab hb y3))))
   clear x0 x1 x2 x3 y0 y1 y2 y3
   generalize ms[k]=m at *
   have HQ:Hid (∀w',Below wr.heap.size wr w'->w'.cell? ⟨b,o+k*8,none⟩=some (.int .i64 m.e.thread)/\w'.cell? ⟨b,o+k*8+1,none⟩=some (.int .i64 m.e.kind)/\w'.cell? ⟨b,o+k*8+2,none⟩=some (.int .i64 m.e.obj)/\w'.cell? ⟨b,o+k*8+3,none⟩=some (.bool m.e.fail) /\
     w'.cell? ⟨w.heap.size,0,none⟩=some (.int .i64 e.thread)/\w'.cell? ⟨w.heap.size,1,none⟩=some (.int .i64 e.kind)/\w'.cell? ⟨w.heap.size,2,none⟩=some (.int .i64 e.obj)/\w'.cell? ⟨w.heap.size,3,none⟩=some (.bool e.fail)/\Below wr.heap.size wr w'):=by
    intro w' h
    exact⟨Zab h g0,Zab h g1,Zab h g2,Zab h g3,Zab h e0,Zab h e1,Zab h e2,Zab h e3,h⟩
   have hB9:Below wr.heap.size wr wr.drew:=(Below.refl _ _).drew
   obtain⟨D,hD⟩:∃D,dep m.e e=D:=⟨_,rfl⟩
   have HD1:Hid (∀w',Calls Tryz.prog 135 #[.agg #[.int .i64 m.e.thread,.int .i64 m.e.kind,.int .i64 m.e.obj,.bool m.e.fail],.agg #[.int .i64 e.thread,.int .i64 e.kind,.int .i64 e.obj,.bool e.fail]] w' fun r w''=>r=.returned (.bool D)/\Below w'.heap.size w' w''):=fun w'=>by rw[<-hD];exact Zdm m.e e w'
   have HDD:=Lib.hid hD
   clear hD e0 e1 e2 e3 g0 g1 g2 g3
   go_wp2_with fail
   go_region_held3 (fun w'=>w'.cell? ⟨b,o+k*8,none⟩=some (.int .i64 m.e.thread)/\w'.cell? ⟨b,o+k*8+1,none⟩=some (.int .i64 m.e.kind)/\w'.cell? ⟨b,o+k*8+2,none⟩=some (.int .i64 m.e.obj)/\w'.cell? ⟨b,o+k*8+3,none⟩=some (.bool m.e.fail) /\
     w'.cell? ⟨w.heap.size,0,none⟩=some (.int .i64 e.thread)/\w'.cell? ⟨w.heap.size,1,none⟩=some (.int .i64 e.kind)/\w'.cell? ⟨w.heap.size,2,none⟩=some (.int .i64 e.obj)/\w'.cell? ⟨w.heap.size,3,none⟩=some (.bool e.fail)/\Below wr.heap.size wr w') (first|exact HQ.out _ hB9|exact HQ.out _ hB10)
    (first|(go_at_call 135;((with_reducible refine(HD1.out _).mono ?_);rintro r w10⟨rfl,hb10⟩;have hB10:=below_step hB9 hb10;clear hB9)))
   have HK1:=Lib.hid (HK.out.later hB10)
   have HC1:=Lib.hid (And.intro (Zab hB10 HC.out.1) (And.intro (Zab hB10 HC.out.2.1) (And.intro (Zab hB10 HC.out.2.2.1) (Zab hB10 HC.out.2.2.2))))
   clear HK HC hB10 hb HQ
   cases D
   ·have HR:Hid (KnW w e (fun t=>(kn (ms.take (k+1)) e t:Int)) w.heap.size w10):=by
     have h:(fun t=>(kn (ms.take (k+1)) e t:Int))=fun t=>(kn (ms.take k) e t:Int):=by
      funext t
      rw[HKT.out t,HDD.out,if_neg (by simp)]
     show KnW _ _ _ _ _
     rw[h]
     exact HK1.out
    clear HKT HDD HD1 HC1
    go_wp2
    go_roundw
    case rel=>exact⟨k+1,by omega,by go_num,HR⟩
    case measure=>simp[intOf];omega
   ·have HE:Hid (∀t,mix4 (fun t=>kn (ms.take k) e t) m.c 4 t=if t<4 then (kn (ms.take (k+1)) e t:Int)else kn (ms.take k) e t):=by
     intro t
     unfold mix4
     split
     ·rw[HKT.out t,HDD.out,if_pos rfl]
      simp only[Nat.max_def]
      split <;> split <;> omega
     ·rfl
    clear HKT HDD HD1
    obtain⟨y0,y1,y2,y3⟩:=HC1.out
    go_wp2
    go_loopw [26] (fun j wr2=>∃q:Nat,q<=4/\j=.int .i64 q/\Hid (KnW w e (mix4 (fun t=>kn (ms.take k) e t) m.c q) w.heap.size wr2)) (fun j _=>4-(intOf j).toNat)
    case atStart=>exact⟨0,by omega,rfl,HK1⟩
    case round=>
     clear y0 y1 y2 y3 HC1 HK1
     obtain⟨q,hq,rfl,HM⟩:=hrel
     by_cases hq4:q<4
     ·have hcell:wr.cell? ⟨w.heap.size+1+1,q,none⟩=some (.int .i64 (kn (ms.take k) e q)):=by
       rw[HM.out.2.2.1.cell,Zbx _ hq4]
       unfold mix4
       rw[if_neg (by omega)]
      have hf:=HM.out.2.2.1.frozen q
      have HS:Hid (KnW w e (mix4 (fun t=>kn (ms.take k) e t) m.c (q+1)) w.heap.size (wr.setCell ⟨w.heap.size+1+1,q,none⟩ (.int .i64 (if kn (ms.take k) e q<m.c q then (m.c q:Int)else (kn (ms.take k) e q:Int))))):=HM.out.set q _ _ (mix4_set _ _ _ hq4)
      clear HM HE
      have hix:=fun w=>run_index4 (P:=Tryz.prog) w (t:=193) (elem:=3) (fun t=>(m.c t:Int)) q Tryz.underlying193 Tryz.underlying3 rfl (by kernel_rfl) hq4
      go_wp2
      go_roundw
      case rel=>first|exact⟨q+1,by omega,by go_num,HS⟩|exact⟨q+1,by omega,by go_num,by have h:=HS;rw[max_ifN]at h;exact h⟩
      case measure=>simp[intOf];omega
     ·obtain rfl:q=4:=by omega
      have HR:Hid (KnW w e (fun t=>(kn (ms.take (k+1)) e t:Int)) w.heap.size wr):=by
       have h:=HM.out
       have h2:nums4 (mix4 (fun t=>kn (ms.take k) e t) m.c 4)=nums4 (fun t=>(kn (ms.take (k+1)) e t:Int)):=ZgG fun t ht=>by rw[HE.out t,if_pos ht]
       exact⟨h.1,h.2.1,by rw[<-h2];exact h.2.2.1,h.2.2.2⟩
      clear HM HE
      go_wp2
      go_roundw
      case rel=>exact⟨k+1,by omega,by go_num,HR⟩
      case measure=>simp[intOf];omega
  ·obtain rfl:k=ms.length:=by omega
   have HK2:Hid (KnW w e (fun t=>(kn ms e t:Int)) w.heap.size wr):=by have h:=HK.out;rw[List.take_length]at h;exact h
   clear HK
   obtain⟨c0,c1,c2,c3⟩:=HK2.out.2.2.1.four
   obtain⟨z0,z1,z2,z3⟩:=HK2.out.2.1.four
   have f0:=HK2.out.2.1.frozen 0
   have f1:=HK2.out.2.1.frozen 1
   have f2:=HK2.out.2.1.frozen 2
   have f3:=HK2.out.2.1.frozen 3
   have hb:=HK2.out.2.2.2
   go_wp2
   refine bodyPost_ret (v:=.agg #[.int .i64 (kn ms e 0),.int .i64 (kn ms e 1),.int .i64 (kn ms e 2),.int .i64 (kn ms e 3)]) ?_ rfl ⟨rfl,?_⟩
   ·simp[results,Tryz.results157,go_sem,z0,z1,z2,z3]
   ·exact(((hb.setCell (p:=⟨w.heap.size+1,0,none⟩) (by simp) _).setCell (p:=⟨w.heap.size+1,1,none⟩) (by simp) _).setCell (p:=⟨w.heap.size+1,2,none⟩) (by simp) _).setCell (p:=⟨w.heap.size+1,3,none⟩) (by simp) _
def OwnM(w:World)(B:Nat)(v:Value)(ms:List Mk):Prop:=Zae w B 239 8 ZcK v ms
theorem OwnM.cells{w:World}{B g cap:Nat}{ms:List Mk}(h:OwnM w B (.slice (some ⟨g,0,none⟩) ms.length cap) ms)(k:Nat)(hk:k<ms.length):
  (w.cell? ⟨g,k*8,none⟩=some (.int .i64 ms[k].e.thread)/\w.cell? ⟨g,k*8+1,none⟩=some (.int .i64 ms[k].e.kind)/\w.cell? ⟨g,k*8+2,none⟩=some (.int .i64 ms[k].e.obj)/\w.cell? ⟨g,k*8+3,none⟩=some (.bool ms[k].e.fail)) /\
  (w.cell? ⟨g,k*8+4,none⟩=some (.int .i64 (ms[k].c 0))/\w.cell? ⟨g,k*8+5,none⟩=some (.int .i64 (ms[k].c 1))/\w.cell? ⟨g,k*8+6,none⟩=some (.int .i64 (ms[k].c 2))/\w.cell? ⟨g,k*8+7,none⟩=some (.int .i64 (ms[k].c 3))):=by
 have hc:∀j,j<8->w.cell? ⟨g,k*8+j,none⟩=(ZcK ms[k])[j]?:=fun j hj=>by
  rw[World.ownsRow.cellAt h _ (by omega),ZaI ZbJ ms k j hk hj]
 exact⟨⟨hc 0 (by omega),hc 1 (by omega),hc 2 (by omega),hc 3 (by omega)⟩,hc 4 (by omega),hc 5 (by omega),hc 6 (by omega),hc 7 (by omega)⟩
theorem OwnM.frozen{w:World}{B g cap:Nat}{ms:List Mk}(h:OwnM w B (.slice (some ⟨g,0,none⟩) ms.length cap) ms)(j:Nat):w.frozen? ⟨g,j,none⟩=false:=World.ownsRow.frozenAt h j
theorem set8_cells(ms:List Mk)(m:Mk)(k:Nat)(hk:k<ms.length):((((((((Zaq ZcK ms).set (k*8) (.int .i64 m.e.thread)).set (k*8+1) (.int .i64 m.e.kind)).set (k*8+2) (.int .i64 m.e.obj)).set (k*8+3) (.bool m.e.fail)).set (k*8+4) (.int .i64 (m.c 0))).set (k*8+5) (.int .i64 (m.c 1))).set (k*8+6) (.int .i64 (m.c 2))).set (k*8+7) (.int .i64 (m.c 3))=Zaq ZcK (ms.set k m):=by
 apply Zcp ZbJ (by omega)
 ·simp only[List.length_set]
  exact Zar ZbJ ms
 ·intro i hi j hj
  have hi':i<ms.length:=by simpa using hi
  have hlen:(Zaq ZcK ms).length=ms.length*8:=Zar ZbJ ms
  by_cases hik:i=k
  ·subst hik
   rw[List.getElem_set_self]
   rcases (by omega:j=0∨j=1∨j=2∨j=3∨j=4∨j=5∨j=6∨j=7)with rfl|rfl|rfl|rfl|rfl|rfl|rfl|rfl <;> simp[ZcK,ZaL,nums4,hlen,List.getElem?_set] <;> omega
  ·rw[List.getElem_set_ne (by omega)]
   simp only[List.getElem?_set]
   rw[if_neg (by omega),if_neg (by omega),if_neg (by omega),if_neg (by omega),if_neg (by omega),if_neg (by omega),if_neg (by omega),if_neg (by omega)]
   exact ZaI ZbJ ms i j hi' hj
theorem OwnM.set8{w:World}{B g cap:Nat}{ms:List Mk}(h:OwnM w B (.slice (some ⟨g,0,none⟩) ms.length cap) ms)(m:Mk)(k:Nat)(hk:k<ms.length):
  OwnM ((((((((w.setCell ⟨g,k*8,none⟩ (.int .i64 m.e.thread)).setCell ⟨g,k*8+1,none⟩ (.int .i64 m.e.kind)).setCell ⟨g,k*8+2,none⟩ (.int .i64 m.e.obj)).setCell ⟨g,k*8+3,none⟩ (.bool m.e.fail)).setCell ⟨g,k*8+4,none⟩ (.int .i64 (m.c 0))).setCell ⟨g,k*8+5,none⟩ (.int .i64 (m.c 1))).setCell ⟨g,k*8+6,none⟩ (.int .i64 (m.c 2))).setCell ⟨g,k*8+7,none⟩ (.int .i64 (m.c 3)))
   B (.slice (some ⟨g,0,none⟩) ms.length cap) (ms.set k m) /\
  Below B w ((((((((w.setCell ⟨g,k*8,none⟩ (.int .i64 m.e.thread)).setCell ⟨g,k*8+1,none⟩ (.int .i64 m.e.kind)).setCell ⟨g,k*8+2,none⟩ (.int .i64 m.e.obj)).setCell ⟨g,k*8+3,none⟩ (.bool m.e.fail)).setCell ⟨g,k*8+4,none⟩ (.int .i64 (m.c 0))).setCell ⟨g,k*8+5,none⟩ (.int .i64 (m.c 1))).setCell ⟨g,k*8+6,none⟩ (.int .i64 (m.c 2))).setCell ⟨g,k*8+7,none⟩ (.int .i64 (m.c 3))):=by
 have hB:B<=g:=(World.ownsRow.lt h g rfl).1
 constructor
 ·unfold OwnM Zae
  rw[<-set8_cells ms m k hk,List.length_set]
  have h0:=(World.ownsRow.stored h (k*8) (.int .i64 m.e.thread)).1
  have h1:=(World.ownsRow.stored h0 (k*8+1) (.int .i64 m.e.kind)).1
  have h2:=(World.ownsRow.stored h1 (k*8+2) (.int .i64 m.e.obj)).1
  have h3:=(World.ownsRow.stored h2 (k*8+3) (.bool m.e.fail)).1
  have h4:=(World.ownsRow.stored h3 (k*8+4) (.int .i64 (m.c 0))).1
  have h5:=(World.ownsRow.stored h4 (k*8+5) (.int .i64 (m.c 1))).1
  have h6:=(World.ownsRow.stored h5 (k*8+6) (.int .i64 (m.c 2))).1
  exact(World.ownsRow.stored h6 (k*8+7) (.int .i64 (m.c 3))).1
 ·exact((((((((Below.refl B w).setCell (p:=⟨g,_,none⟩) hB _).setCell (p:=⟨g,_,none⟩) hB _).setCell (p:=⟨g,_,none⟩) hB _).setCell (p:=⟨g,_,none⟩) hB _).setCell (p:=⟨g,_,none⟩) hB _).setCell (p:=⟨g,_,none⟩) hB _).setCell (p:=⟨g,_,none⟩) hB _).setCell (p:=⟨g,_,none⟩) hB _
def KeepR(B:Nat)(w:World)(ms:List Mk)(r:Ending)(w':World):Prop:=∃v,r=.returned v/\OwnM w' B v ms/\Below B w w'
def MkBox(w:World)(g:Nat)(m:Mk):Prop:=MidAt w g 239 (ZcK m)
theorem MkBox.cells{w:World}{g:Nat}{m:Mk}(h:MkBox w g m):w.cell? ⟨g,0,none⟩=some (.int .i64 m.e.thread)/\w.cell? ⟨g,1,none⟩=some (.int .i64 m.e.kind)/\w.cell? ⟨g,2,none⟩=some (.int .i64 m.e.obj)/\w.cell? ⟨g,3,none⟩=some (.bool m.e.fail) /\
  w.cell? ⟨g,4,none⟩=some (.int .i64 (m.c 0))/\w.cell? ⟨g,5,none⟩=some (.int .i64 (m.c 1))/\w.cell? ⟨g,6,none⟩=some (.int .i64 (m.c 2))/\w.cell? ⟨g,7,none⟩=some (.int .i64 (m.c 3)):=
 ⟨by rw[MidAt.cell h];rfl,by rw[MidAt.cell h];rfl,by rw[MidAt.cell h];rfl,by rw[MidAt.cell h];rfl,by rw[MidAt.cell h];rfl,by rw[MidAt.cell h];rfl,by rw[MidAt.cell h];rfl,by rw[MidAt.cell h];rfl⟩
theorem mkBox_new(w:World)(m:Mk):MkBox (w.alloc (.cells #[.int .i64 m.e.thread,.int .i64 m.e.kind,.int .i64 m.e.obj,.bool m.e.fail,.int .i64 (m.c 0),.int .i64 (m.c 1),.int .i64 (m.c 2),.int .i64 (m.c 3)] 239)) w.heap.size m:=heap_alloc_new w _
theorem infoMark:(Tryz.prog.info? 239).map (fun i=>(i.zero,i.size,i.bytes))=some (some (.agg #[.int .i64 0,.int .i64 0,.int .i64 0,.bool false,.int .i64 0,.int .i64 0,.int .i64 0,.int .i64 0]),8,64):=by kernel_rfl
theorem keep_any(B:Nat)(v:Value)(ms:List Mk)(m:Mk)(w:World)(hown:OwnM w B v ms)(hB:B<=w.heap.size)(hm:ms.length<=1000000):
  Calls Tryz.prog 158 #[v,.agg #[.int .i64 m.e.thread,.int .i64 m.e.kind,.int .i64 m.e.obj,.bool m.e.fail,.int .i64 (m.c 0),.int .i64 (m.c 1),.int .i64 (m.c 2),.int .i64 (m.c 3)]] w (KeepR B w (keepM ms m)):=by
 obtain⟨a,cap,rfl,_,_⟩:=hown.form ZbJ hm
 have H0:=Lib.hid (And.intro (mkBox_new w m) (And.intro (Zae.alloc hown (.cells #[.int .i64 m.e.thread,.int .i64 m.e.kind,.int .i64 m.e.obj,.bool m.e.fail,.int .i64 (m.c 0),.int .i64 (m.c 1),.int .i64 (m.c 2),.int .i64 (m.c 3)] 239)) (Zaa w (.cells #[.int .i64 m.e.thread,.int .i64 m.e.kind,.int .i64 m.e.obj,.bool m.e.fail,.int .i64 (m.c 0),.int .i64 (m.c 1),.int .i64 (m.c 2),.int .i64 (m.c 3)] 239))))
 clear hown
 go_enter Tryz.func158,Tryz.ntmps158
 go_wp2
 go_loopw [8] (fun i wr=>∃k:Nat,k<=ms.length/\i=.int .i64 k/\Hid (∀j (h:j<k) (h2:j<ms.length),(ms[j]).e≠m.e)/\Hid (MkBox wr w.heap.size m/\OwnM wr B (.slice a ms.length cap) ms/\Below w.heap.size w wr)) (fun i _=>ms.length-(intOf i).toNat)
 case atStart=>exact⟨0,Nat.zero_le _,rfl,(fun j h=>absurd h (by omega)),H0⟩
 case round=>
  clear H0
  obtain⟨k,hk,rfl,HN,HW⟩:=hrel
  obtain⟨c0,c1,c2,c3,c4,c5,c6,c7⟩:=HW.out.1.cells
  have hb:=HW.out.2.2
  by_cases hlt:k<ms.length
  ·obtain⟨g,cap',hv,hg,hgl⟩:=HW.out.2.1.block (by intro e;simp[e]at hlt)
   obtain⟨rfl,rfl⟩:a=some ⟨g,0,none⟩/\cap=cap':=by simpa using hv
   clear hv
   obtain⟨⟨x0,x1,x2,x3⟩,y4,y5,y6,y7⟩:=HW.out.2.1.cells k hlt
   have heq:=ZdB ms[k].e m.e
   by_cases he:ms[k].e=m.e
   ·have hq2:decide (ms[k].e=m.e)=true:=by simp[he]
    rw[hq2]at heq
    have HE:=Lib.hid (keepM_at hlt (fun i hi=>HN.out i hi (by omega)) he)
    obtain⟨f0,f1,f2,f3⟩:=And.intro (HW.out.2.1.frozen (k*8)) (And.intro (HW.out.2.1.frozen (k*8+1)) (And.intro (HW.out.2.1.frozen (k*8+2)) (HW.out.2.1.frozen (k*8+3))))
    obtain⟨f4,f5,f6,f7⟩:=And.intro (HW.out.2.1.frozen (k*8+4)) (And.intro (HW.out.2.1.frozen (k*8+5)) (And.intro (HW.out.2.1.frozen (k*8+6)) (HW.out.2.1.frozen (k*8+7))))
    have HS:Hid (∀n,_/\_):=fun n=>OwnM.set8 (w:=wr.drewN n) HW.out.2.1 m k hlt
    clear he hq2 HN HW
    generalize ms[k]=x at *
    go_wp2
    go_quiet (fail)
    go_wp2
    go_ret
    refine⟨.slice (some ⟨g,0,none⟩) ms.length cap,rfl,?_,?_⟩
    ·rw[HE.out]
     exact(HS.out nq).1
    ·exact(hb.mono hB).drewN.trans (HS.out nq).2
   ·have hq2:decide (ms[k].e=m.e)=false:=by simpa using he
    rw[hq2]at heq
    have HN2:Hid (∀j (h:j<k+1) (h2:j<ms.length),(ms[j]).e≠m.e):=by
     intro j hj hj2
     by_cases e:j=k
     ·subst e;exact he
     ·exact HN.out j (by omega) hj2
    clear he hq2 HN y4 y5 y6 y7
    generalize ms[k]=x at *
    go_wp2
    go_quiet (fail)
    go_wp2
    go_roundw
    case rel=>exact⟨k+1,by omega,by go_num,HN2,HW.out.1,HW.out.2.1,hb.drewN⟩
    case measure=>simp[intOf];omega
  ·obtain rfl:k=ms.length:=by omega
   have HE:=Lib.hid (keepM_new (ms:=ms) (m:=m) (fun x hx=>by
    obtain⟨i,hi,rfl⟩:=List.mem_iff_getElem.1 hx
    exact HN.out i hi hi))
   have hz:=hb.size
   go_wp2_with (at_builtin;refine ZaP (f:=ZcK) (n:=8) 235 239 64 (.agg #[.int .i64 0,.int .i64 0,.int .i64 0,.bool false,.int .i64 0,.int .i64 0,.int .i64 0,.int .i64 0]) Tryz.underlying235 infoMark rfl (by omega) (by omega) ZbJ rfl (.tmp 25) (.tmp 27) rfl B _ ms rfl (Zae.alloc HW.out.2.1 _) ⟨wr.heap.size,0,none⟩ rfl m (mkCell_one m) (ZaH wr (ZcK m) _ _ rfl) (by omega) (by simp;omega) ?_;intro v1 w2 hown2 hb3 _)
   go_ret
   exact⟨v1,rfl,by rw[HE.out];exact hown2,((hb.mono hB).trans (Zaa _ _ |>.mono (by omega))).trans hb3⟩
theorem Zh8(a:Option Addr)(cap:Nat)(l:List Ev)(w:World)(hl:EvsAt w a l):
  Calls Tryz.prog 156 #[.slice a l.length cap] w fun r w'=>r=.returned (.bool (Zaw l))/\Below w.heap.size w w':=by
 have hm:=hl.1
 unfold maxLen at hm
 have HL:=Lib.hid hl
 clear hl
 go_enter Tryz.func156,Tryz.ntmps156
 go_wp2
 go_loopw [7] (fun i wr=>∃k:Nat,k<=l.length/\i=.int .i64 k/\Hid (Zaw (l.take k)=true)/\Below w.heap.size w wr) (fun i _=>l.length-(intOf i).toNat)
 case atStart=>exact⟨0,Nat.zero_le _,rfl,rfl,Below.refl _ _⟩
 case round=>
  obtain⟨k,hk,rfl,HR,hb⟩:=hrel
  by_cases hlt:k<l.length
  ·obtain⟨b,o,rfl,hc⟩:=HL.out.2 (by intro e;simp[e]at hlt)
   obtain⟨c0,c1,c2,c3⟩:=hc k hlt
   have d0:=Zab hb c0
   have d1:=Zab hb c1
   have d2:=Zab hb c2
   have d3:=Zab hb c3
   have HT:=Lib.hid (Zen l k hlt)
   have hx1:Hid (Zay l[k]=false->Zaw l=false):=fun h=>Zgu hlt h
   have hb4:=hb.alloc hb.size (.cells #[.int .i64 l[k].thread,.int .i64 l[k].kind,.int .i64 l[k].obj,.bool l[k].fail] 112)
   clear hc c0 c1 c2 c3
   generalize l[k]=x at *
   go_wp2_with fail
   refine(Zes x _).mono ?_
   rintro r w2⟨rfl,hb5⟩
   have hb6:=hb4.trans (hb5.mono hb4.size)
   clear hb4 hb5
   cases hr:Zay x
   ·have HN:=Lib.hid (hx1.out hr)
    clear hx1 HT
    go_wp2
    go_ret
    exact⟨Zag HN.out.symm,hb6⟩
   ·have HN:Hid (Zaw (l.take (k+1))=true):=by show _=_;rw[HT.out,HR.out,hr];rfl
    clear hx1 HT
    go_wp2
    go_roundw
    case rel=>exact⟨k+1,by omega,by go_num,HN,hb6⟩
    case measure=>simp[intOf];omega
  ·obtain rfl:k=l.length:=by omega
   have HE:Hid (Zaw l=true):=by have h:=HR.out;rw[List.take_length]at h;exact h
   go_wp2
   go_ret
   exact⟨Zag HE.out.symm,hb⟩
def Zbd(c:Nat->Nat):List Value:=nums4 (fun t=>(c t:Int))
theorem Zaz(c:Nat->Nat):(Zbd c).length=4:=rfl
def cks(l:List Ev):List (Nat->Nat):=if Zaw l then (List.range l.length).map (fun(k t:Nat)=>clk l k t)else []
theorem Zg9{l:List Ev}(h:Zaw l=true):cks l=(List.range l.length).map (fun(k t:Nat)=>clk l k t):=if_pos h
theorem Zfr{l:List Ev}(h:Zaw l=true):(cks l).length=l.length:=by rw[Zg9 h];simp
theorem cks_get{l:List Ev}(h:Zaw l=true){k:Nat}(hk:k<l.length):(cks l)[k]'(by rw[Zfr h];exact hk)=fun t:Nat=>clk l k t:=by
 simp[Zg9 h]
theorem ZkS{l:List Ev}(h:Zaw l=false):cks l=[]:=by unfold cks;rw[if_neg (by simp[h])]
def half(l:List Ev)(k:Nat):List (Nat->Nat):=(List.range l.length).map fun i=>if i<k then (fun t:Nat=>clk l i t)else fun _=>0
theorem Zb1(l:List Ev)(k:Nat):(half l k).length=l.length:=by simp[half]
theorem Zf7{l:List Ev}{k i:Nat}(h:i<l.length):(half l k)[i]'(by rw[Zb1];exact h)=if i<k then (fun t:Nat=>clk l i t)else fun _=>0:=by simp[half]
theorem half_all{l:List Ev}(h:Zaw l=true):half l l.length=cks l:=by
 rw[Zg9 h]
 unfold half
 apply List.map_congr_left
 intro i hi
 rw[if_pos (by simpa using hi)]
theorem half_zero(l:List Ev):Zaq Zbd (half l 0)=List.replicate (l.length*4) (.int .i64 0):=by
 symm
 apply Zcp Zaz (by omega)
 ·rw[Zb1];simp
 ·intro i hi j hj
  rw[Zb1]at hi
  rw[Zf7 hi,if_neg (by omega)]
  rw[List.getElem?_replicate,if_pos (by omega)]
  rcases (by omega:j=0∨j=1∨j=2∨j=3)with rfl|rfl|rfl|rfl <;> rfl
theorem run_make_n{P:Program}(t e:TypeId)(z:Value)(k bytes:Nat)(ht:P.underlying t=some (.slice e))(hinfo:(P.info? e).map (fun i=>(i.zero,i.size,i.bytes))=some (some z,k,bytes))
  (n:Nat) (hbytes:bytes*n<=281474976710656) (h63:n<=9223372036854775807) (w:World):
  (Instr.makeSlice t (.int .i64 (n:Int)) (.int .i64 (n:Int))).run P w=.ok (.slice (some ⟨w.heap.size,0,none⟩) n n) (w.alloc (.cells (madeCells z.cells (n*k)) e)):=ZbG t e z k bytes ht hinfo n hbytes h63 w
theorem made4(n:Nat):(madeCells #[.int .i64 0,.int .i64 0,.int .i64 0,.int .i64 0] (n*4))=(List.replicate (n*4) (.int .i64 0)).toArray:=by
 unfold madeCells
 apply Array.ext
 ·simp
 ·intro i h1 h2
  simp
  have:i%4=0∨i%4=1∨i%4=2∨i%4=3:=by omega
  rcases this with h|h|h|h <;> simp[h]
theorem ck_set1(cs:List (Nat->Nat))(k t v:Nat)(hk:k<cs.length)(ht:t<4):(Zaq Zbd cs).set (k*4+t) (.int .i64 (v:Int))=Zaq Zbd (cs.set k fun j=>if j=t then v else cs[k] j):=by
 have hlen:(Zaq Zbd cs).length=cs.length*4:=Zar Zaz cs
 apply Zcp Zaz (by omega)
 ·simp only[List.length_set]
  exact hlen
 ·intro i hi j hj
  have hi':i<cs.length:=by simpa using hi
  have hg:=ZaI Zaz cs i j hi' hj
  by_cases hik:i=k
  ·subst hik
   rw[List.getElem_set_self,List.getElem?_set]
   by_cases hjt:j=t
   ·subst hjt
    rw[if_pos rfl,if_pos (by omega)]
    unfold Zbd
    rw[Zbx _ hj]
    simp
   ·rw[if_neg (by omega),hg]
    unfold Zbd
    rw[Zbx _ hj,Zbx _ hj]
    simp[hjt]
  ·rw[List.getElem_set_ne (by omega),List.getElem?_set,if_neg (by omega),hg]
theorem ck_congr{cs ds:List (Nat->Nat)}(hl:cs.length=ds.length)(h:∀i (h1:i<cs.length) (h2:i<ds.length) t,t<4->cs[i] t=ds[i] t):Zaq Zbd cs=Zaq Zbd ds:=by
 apply Zcp Zaz (by omega)
 ·rw[Zar Zaz,hl]
 ·intro i hi j hj
  rw[ZaI Zaz cs i j (by omega) hj]
  unfold Zbd
  rw[Zbx _ hj,Zbx _ hj,h i (by omega) hi j hj]
theorem ck_set4(cs:List (Nat->Nat))(k:Nat)(c:Nat->Nat)(hk:k<cs.length):
  ((((Zaq Zbd cs).set (k*4) (.int .i64 (c 0))).set (k*4+1) (.int .i64 (c 1))).set (k*4+2) (.int .i64 (c 2))).set (k*4+3) (.int .i64 (c 3))=Zaq Zbd (cs.set k c):=by
 have hlen:(Zaq Zbd cs).length=cs.length*4:=Zar Zaz cs
 apply Zcp Zaz (by omega)
 ·simp only[List.length_set]
  exact hlen
 ·intro i hi j hj
  have hi':i<cs.length:=by simpa using hi
  by_cases hik:i=k
  ·subst hik
   rw[List.getElem_set_self]
   rcases (by omega:j=0∨j=1∨j=2∨j=3)with rfl|rfl|rfl|rfl <;> simp[Zbd,nums4,hlen,List.getElem?_set] <;> omega
  ·rw[List.getElem_set_ne (by omega)]
   simp only[List.getElem?_set]
   rw[if_neg (by omega),if_neg (by omega),if_neg (by omega),if_neg (by omega)]
   exact ZaI Zaz cs i j hi' hj
theorem cnt_le_n(q:Nat->Bool)(n:Nat):cnt q n<=n:=by
 induction n with
 |zero=>exact Nat.le_refl _
 |succ n ih=>rw[ZaW];split <;> omega
theorem clk_bd(l:List Ev)(k:Nat)(t:Int):clk l k t<=k+1:=cnt_le_n _ _
def CkAt(w:World)(g:Nat)(cs:List (Nat->Nat)):Prop:=MidAt w g 193 (Zaq Zbd cs)
theorem CkAt.cell{w:World}{g:Nat}{cs:List (Nat->Nat)}(h:CkAt w g cs){k t:Nat}(hk:k<cs.length)(ht:t<4):w.cell? ⟨g,k*4+t,none⟩=some (.int .i64 (cs[k] t)):=by
 rw[MidAt.cell h,ZaI Zaz cs k t hk ht]
 exact Zbx _ ht
theorem CkAt.four{w:World}{g:Nat}{cs:List (Nat->Nat)}(h:CkAt w g cs){k:Nat}(hk:k<cs.length):(w.cell? ⟨g,k*4,none⟩=some (.int .i64 (cs[k] 0))/\w.cell? ⟨g,k*4+1,none⟩=some (.int .i64 (cs[k] 1))/\w.cell? ⟨g,k*4+2,none⟩=some (.int .i64 (cs[k] 2))/\w.cell? ⟨g,k*4+3,none⟩=some (.int .i64 (cs[k] 3))) /\
  w.frozen? ⟨g,k*4,none⟩=false/\w.frozen? ⟨g,k*4+1,none⟩=false/\w.frozen? ⟨g,k*4+2,none⟩=false/\w.frozen? ⟨g,k*4+3,none⟩=false:=
 ⟨⟨h.cell (t:=0) hk (by omega),h.cell hk (by omega),h.cell hk (by omega),h.cell hk (by omega)⟩,MidAt.frozen h _,MidAt.frozen h _,MidAt.frozen h _,MidAt.frozen h _⟩
theorem CkAt.later{w w':World}{g:Nat}{cs:List (Nat->Nat)}(h:CkAt w g cs)(hb:Below w.heap.size w w'):CkAt w' g cs:=MidAt.later h hb
theorem CkAt.below{w w':World}{B g:Nat}{cs:List (Nat->Nat)}(h:CkAt w g cs)(hb:Below B w w')(hg:g<B):CkAt w' g cs:=(hb.block g hg).trans h
theorem CkAt.set4{w:World}{g:Nat}{cs:List (Nat->Nat)}(h:CkAt w g cs){k:Nat}(hk:k<cs.length)(c:Nat->Nat):
  CkAt ((((w.setCell ⟨g,k*4,none⟩ (.int .i64 (c 0))).setCell ⟨g,k*4+1,none⟩ (.int .i64 (c 1))).setCell ⟨g,k*4+2,none⟩ (.int .i64 (c 2))).setCell ⟨g,k*4+3,none⟩ (.int .i64 (c 3))) g (cs.set k c):=by
 unfold CkAt
 rw[<-ck_set4 cs k c hk]
 exact MidAt.set (MidAt.set (MidAt.set (MidAt.set h _ _) _ _) _ _) _ _
theorem CkAt.set1{w:World}{g:Nat}{cs:List (Nat->Nat)}(h:CkAt w g cs){k t:Nat}(hk:k<cs.length)(ht:t<4)(v:Nat):CkAt (w.setCell ⟨g,k*4+t,none⟩ (.int .i64 (v:Int))) g (cs.set k fun j=>if j=t then v else cs[k] j):=by
 unfold CkAt
 rw[<-ck_set1 cs k t v hk ht]
 exact MidAt.set h _ _
theorem CkAt.congr{w:World}{g:Nat}{cs ds:List (Nat->Nat)}(h:CkAt w g cs)(hl:cs.length=ds.length)(h2:∀i (h1:i<cs.length) (h2:i<ds.length) t,t<4->cs[i] t=ds[i] t):CkAt w g ds:=by
 unfold CkAt
 rw[<-ck_congr hl h2]
 exact h
theorem OwnM.only{w w':World}{B g:Nat}{v:Value}{ms:List Mk}(h:OwnM w B v ms)(ho:Only g w w')(hg:g<B):OwnM w' B v ms:=Zae.only h ho hg
theorem OwnM.later{w w':World}{B:Nat}{v:Value}{ms:List Mk}(h:OwnM w B v ms)(hb:Below w.heap.size w w'):OwnM w' B v ms:=Zae.later h hb
def CkW(w1:World)(l:List Ev)(k:Nat)(v:Value)(wr:World):Prop:=
 CkAt wr w1.heap.size (half l k)/\(∃ms,OwnM wr (w1.heap.size+1) v ms/\Lst l k ms)/\Below w1.heap.size w1 wr
theorem clocks_any(a:Option Addr)(cap:Nat)(l:List Ev)(w:World)(hl:EvsAt w a l)(hm:l.length<=1000):
  Calls Tryz.prog 105 #[.slice a l.length cap] w fun r w'=>∃a' cap',r=.returned (.slice a' (cks l).length cap')/\RowAt w' a' 4 Zbd (cks l)/\Below w.heap.size w w':=by
 have HL:=Lib.hid hl
 cases hr:Zaw l
 ·have HE:=Lib.hid (ZkS hr)
  have HC:=Lib.hid (Zh8 a cap l w hl)
  clear hl
  go_enter Tryz.func105,Tryz.ntmps105
  go_wp2_with fail
  refine HC.out.mono ?_
  rw[hr]
  rintro r w1⟨rfl,hb⟩
  clear HC hr
  go_wp2
  go_ret
  exact⟨none,0,by rw[HE.out];rfl,by rw[HE.out];exact ZcZ _ _ _ _,hb⟩
 ·have HR:=Lib.hid hr
  have HC:=Lib.hid (Zh8 a cap l w hl)
  have hinfo:(Tryz.prog.info? 193).map (fun i=>(i.zero,i.size,i.bytes))=some (some (.agg #[.int .i64 0,.int .i64 0,.int .i64 0,.int .i64 0]),4,32):=by kernel_rfl
  have hmk:=run_make_n (P:=Tryz.prog) 198 193 (.agg #[.int .i64 0,.int .i64 0,.int .i64 0,.int .i64 0]) 4 32 Tryz.underlying198 hinfo l.length (by omega) (by omega)
  clear hl hinfo
  go_enter Tryz.func105,Tryz.ntmps105
  go_wp2_with fail
  refine HC.out.mono ?_
  rw[hr]
  rintro r w1⟨rfl,hb⟩
  clear HC hr
  have H0:Hid (CkW w1 l 0 (.slice none 0 0) (w1.alloc (.cells (madeCells #[.int .i64 0,.int .i64 0,.int .i64 0,.int .i64 0] (l.length*4)) 193))):=by
   refine⟨?_,⟨[],Za5 _ _ _ _ _,lst_zero l⟩,Zaa _ _⟩
   unfold CkAt
   rw[half_zero,made4]
   exact heap_alloc_new _ _
  go_wp2_with fail
  go_loopw [4,15] (fun v i wr=>∃k:Nat,k<=l.length/\i=.int .i64 k/\Hid (CkW w1 l k v wr)) (fun _ i _=>l.length-(intOf i).toNat)
  case atStart=>exact⟨0,Nat.zero_le _,rfl,H0⟩
  case round=>
   clear H0 hmk
   obtain⟨k,hk,rfl,HW⟩:=hrel
   by_cases hlt:k<l.length
   ·obtain⟨b,o,rfl,hc⟩:=HL.out.2 (by intro e;simp[e]at hlt)
    obtain⟨ms,hown,hlst⟩:=HW.out.2.1
    obtain⟨a',cap',rfl,hrow,_⟩:=hown.form ZbJ (by have:=hlst.1;omega)
    have hbw:Below w.heap.size w wr:=hb.trans (HW.out.2.2.mono hb.size)
    obtain⟨c0,c1,c2,c3⟩:=hc k hlt
    have d0:=Zab hbw c0
    have d1:=Zab hbw c1
    have d2:=Zab hbw c2
    have d3:=Zab hbw c3
    have hx:=Zbt (Zc0 HR.out hlt)
    have HX:Hid (evI l k=l[k]):=Za4 hlt
    clear hc c0 c1 c2 c3
    generalize l[k]=x at *
    obtain⟨xt,xk,xo,xf⟩:=x
    dsimp only at hx d0 d1 d2 d3
    obtain⟨th,rfl⟩:∃th:Nat,xt=th:=⟨xt.toNat,by omega⟩
    have hth:th<4:=by omega
    clear hx
    have HA:=Lib.hid (And.intro hown (And.intro hlst hrow))
    have hlst2:=Lib.hid hlst
    clear hown hlst hrow
    have hb1:=Zaa wr (.cells #[.int .i64 (th:Int),.int .i64 xk,.int .i64 xo,.bool xf] 112)
    have HXB:Hid (EvBox (wr.alloc (.cells #[.int .i64 (th:Int),.int .i64 xk,.int .i64 xo,.bool xf] 112)) wr.heap.size ⟨th,xk,xo,xf⟩):=EvBox.new wr ⟨th,xk,xo,xf⟩
    go_wp2_with fail
    generalize wr.alloc (.cells #[.int .i64 (th:Int),.int .i64 xk,.int .i64 xo,.bool xf] 112)=W2 at *
    refine(known_any a' cap' ms ⟨th,xk,xo,xf⟩ W2 (HA.out.2.2.later hb1)).mono ?_
    rintro r w3⟨rfl,hb3⟩
    have HXB3:=Lib.hid (HXB.out.later hb3)
    have hb4:=hb1.trans (hb3.mono hb1.size)
    have HCK:=Lib.hid (HW.out.1.later hb4)
    have HO3:=Lib.hid (HA.out.1.later hb4)
    have HL3:=Lib.hid HA.out.2.1
    have hb5:=HW.out.2.2.trans (hb4.mono HW.out.2.2.size)
    have HKC:Hid (∀t:Nat,clk l k t=kn ms ⟨th,xk,xo,xf⟩ t+if (th:Int)=(t:Int)then 1 else 0):=fun t=>by have h:=hlst2.out.clk t;rw[HX.out]at h;exact h
    have HW0:=Lib.hid HW.out.1
    clear HXB hb1 hb3 hb4 HW HA
    obtain⟨⟨p0,p1,p2,p3⟩,f0,f1,f2,f3⟩:=HCK.out.four (k:=k) (by rw[Zb1];exact hlt)
    have hg1:w1.heap.size<wr.heap.size:=MidAt.lt HW0.out
    have hon:Only w1.heap.size w3 ((((w3.setCell ⟨w1.heap.size,k*4,none⟩ (.int .i64 (kn ms ⟨th,xk,xo,xf⟩ 0))).setCell ⟨w1.heap.size,k*4+1,none⟩ (.int .i64 (kn ms ⟨th,xk,xo,xf⟩ 1))).setCell ⟨w1.heap.size,k*4+2,none⟩ (.int .i64 (kn ms ⟨th,xk,xo,xf⟩ 2))).setCell ⟨w1.heap.size,k*4+3,none⟩ (.int .i64 (kn ms ⟨th,xk,xo,xf⟩ 3))):=((((Only.refl _ _).setCell _ _).setCell _ _).setCell _ _).setCell _ _
    have HCK4:=Lib.hid (HCK.out.set4 (k:=k) (by rw[Zb1];exact hlt) (kn ms ⟨th,xk,xo,xf⟩))
    have HXB4:=Lib.hid (HXB3.out.only hon (by omega))
    have HO4:=Lib.hid (HO3.out.only hon (by omega))
    have hb6:Below w1.heap.size w1 ((((w3.setCell ⟨w1.heap.size,k*4,none⟩ (.int .i64 (kn ms ⟨th,xk,xo,xf⟩ 0))).setCell ⟨w1.heap.size,k*4+1,none⟩ (.int .i64 (kn ms ⟨th,xk,xo,xf⟩ 1))).setCell ⟨w1.heap.size,k*4+2,none⟩ (.int .i64 (kn ms ⟨th,xk,xo,xf⟩ 2))).setCell ⟨w1.heap.size,k*4+3,none⟩ (.int .i64 (kn ms ⟨th,xk,xo,xf⟩ 3))):=hb5.trans (hon.below (Nat.le_refl _) hb5.size)
    clear HCK HXB3 HO3 hon
    go_wp2_with fail
    generalize ((((w3.setCell ⟨w1.heap.size,k*4,none⟩ (.int .i64 (kn ms ⟨th,xk,xo,xf⟩ 0))).setCell ⟨w1.heap.size,k*4+1,none⟩ (.int .i64 (kn ms ⟨th,xk,xo,xf⟩ 1))).setCell ⟨w1.heap.size,k*4+2,none⟩ (.int .i64 (kn ms ⟨th,xk,xo,xf⟩ 2))).setCell ⟨w1.heap.size,k*4+3,none⟩ (.int .i64 (kn ms ⟨th,xk,xo,xf⟩ 3)))=W4 at *
    clear p0 p1 p2 p3 f0 f1 f2 f3 hb5
    obtain⟨e0,e1,e2,e3⟩:=HXB4.out.cells
    have q0:=HCK4.out.cell (k:=k) (t:=th) (by rw[List.length_set,Zb1];exact hlt) hth
    rw[List.getElem_set_self]at q0
    have qf:=MidAt.frozen HCK4.out (k*4+th)
    have hkb:kn ms ⟨th,xk,xo,xf⟩ th<=2000:=by have h1:=HKC.out th;have h2:=clk_bd l k th;omega
    have hti:(th:Int)<4:=by omega
    have hti0:(0:Int)<=th:=by omega
    have hwr:IntKind.i64.wrap ((kn ms ⟨th,xk,xo,xf⟩ th:Int)+1)=(kn ms ⟨th,xk,xo,xf⟩ th:Int)+1:=IntWalk.i64_in _ (by omega)
    go_still_tail 10,(by kernel_rfl)
    have HCK5:Hid (CkAt (W4.setCell ⟨w1.heap.size,k*4+th,none⟩ (.int .i64 ((kn ms ⟨th,xk,xo,xf⟩ th:Int)+1))).drew w1.heap.size (half l (k+1))):=by
     have h1:=HCK4.out.set1 (k:=k) (t:=th) (by rw[List.length_set,Zb1];exact hlt) hth (kn ms ⟨th,xk,xo,xf⟩ th+1)
     show CkAt (W4.setCell _ _) _ _
     rw[Int.natCast_add]at h1
     refine CkAt.congr h1 (by simp[Zb1]) fun i h3 h4 t ht=>?_
     have h5:i<l.length:=by rw[Zb1]at h4;exact h4
     rw[Zf7 h5]
     by_cases e:i=k
     ·subst e
      simp only[List.getElem_set_self]
      rw[if_pos (show i<i+1 by omega),HKC.out t]
      by_cases e2:t=th
      ·subst e2
       simp
      ·rw[if_neg e2,if_neg (by omega)]
       rfl
     ·rw[List.getElem_set_ne (by omega),List.getElem_set_ne (by omega),Zf7 h5]
      by_cases e3:i<k
      ·rw[if_pos e3,if_pos (show i<k+1 by omega)]
      ·rw[if_neg e3,if_neg (show ¬i<k+1 by omega)]
    have hon:Only w1.heap.size W4 (W4.setCell ⟨w1.heap.size,k*4+th,none⟩ (.int .i64 ((kn ms ⟨th,xk,xo,xf⟩ th:Int)+1))).drew:=((Only.refl _ _).setCell _ _).drew
    have HXB5:=Lib.hid (HXB4.out.only hon (by omega))
    have HO5:=Lib.hid (HO4.out.only hon (by omega))
    have hb7:=hb6.trans (hon.below (Nat.le_refl _) hb6.size)
    clear HCK4 HXB4 HO4 hon hb6
    go_wp2_with fail
    clear q0 qf e0 e1 e2 e3 hwr
    generalize (W4.setCell ⟨w1.heap.size,k*4+th,none⟩ (.int .i64 ((kn ms ⟨th,xk,xo,xf⟩ th:Int)+1))).drew=W5 at *
    obtain⟨e0,e1,e2,e3⟩:=HXB5.out.cells
    have hlt2:k<(half l (k+1)).length:=by rw[Zb1];exact hlt
    have hgk:(half l (k+1))[k]=fun t:Nat=>clk l k t:=by rw[Zf7 hlt,if_pos (by omega)]
    obtain⟨⟨p0,p1,p2,p3⟩,_⟩:=HCK5.out.four hlt2
    rw[hgk]at p0 p1 p2 p3
    have HMK:Hid ((⟨⟨th,xk,xo,xf⟩,fun t:Nat=>clk l k t⟩:Mk)=mkOf l k):=by show _=_;unfold mkOf;rw[HX.out]
    clear hgk hlt2
    go_still_tail 7,(by kernel_rfl)
    go_wp2_with fail
    refine(keep_any (w1.heap.size+1) _ ms ⟨⟨th,xk,xo,xf⟩,fun t:Nat=>clk l k t⟩ W5.drew HO5.out (by have:=MidAt.lt HCK5.out;show _<W5.heap.size;exact this) (by have:=HL3.out.1;omega)).mono ?_
    rintro r w6⟨v6,rfl,hown6,hb8⟩
    have HR6:Hid (CkW w1 l (k+1) v6 w6):=by
     refine⟨CkAt.below (w:=W5.drew) (B:=w1.heap.size+1) HCK5.out hb8 (by omega),⟨keepM ms (mkOf l k),?_,HL3.out.keep⟩,hb7.drew.trans (hb8.mono (by omega))⟩
     rw[<-HMK.out]
     exact hown6
    clear HCK5 HXB5 HO5 hb7 hb8 hown6 e0 e1 e2 e3 p0 p1 p2 p3
    go_wp2
    go_roundw
    case rel=>exact⟨k+1,by omega,by go_num,HR6⟩
    case measure=>simp[intOf];omega
   ·obtain rfl:k=l.length:=by omega
    have HF:Hid (RowAt wr (some ⟨w1.heap.size,0,none⟩) 4 Zbd (cks l)):=by
     have h:=HW.out.1
     rw[half_all HR.out]at h
     refine⟨by rw[Zfr HR.out];unfold maxLen;omega,fun _=>⟨w1.heap.size,0,rfl,fun i hi j u hj=>?_⟩⟩
     rw[Nat.zero_add,MidAt.cell h,ZaI Zaz _ i j hi (by have:=(List.getElem?_eq_some_iff.1 hj).1;simpa [Zbd,nums4]using this)]
     exact hj
    have hbw:Below w.heap.size w wr:=hb.trans (HW.out.2.2.mono hb.size)
    clear HW
    go_wp2
    go_ret
    exact⟨_,_,by rw[Zfr HR.out];rfl,HF.out,hbw⟩
structure Sp where
 a:Option Addr
 n:Nat
 c:Nat
instance:Inhabited Sp:=⟨⟨none,0,0⟩⟩
def spV(s:Sp):Value:=.slice s.a s.n s.c
def Zbi(p:Nat × Nat):List Value:=[.int .i64 p.1,.int .i64 p.2]
theorem ZhN(p:Nat × Nat):(Zbi p).length=2:=rfl
theorem plCell_one(p:Nat × Nat):∀v∈Zbi p,v.oneCell'=true:=by
 intro v hv
 simp[Zbi]at hv
 rcases hv with rfl|rfl <;> rfl
def Zbj(x:Ev × Sp):List Value:=[.int .i64 x.1.thread,.int .i64 x.1.kind,.int .i64 x.1.obj,.bool x.1.fail,.slice x.2.a x.2.n x.2.c]
theorem Zd6(x:Ev × Sp):(Zbj x).length=5:=rfl
theorem gpCell_one(x:Ev × Sp):∀v∈Zbj x,v.oneCell'=true:=by
 intro v hv
 simp[Zbj]at hv
 rcases hv with rfl|rfl|rfl|rfl|rfl <;> rfl
theorem infoGp:(Tryz.prog.info? 245).map (fun i=>(i.zero,i.size,i.bytes))=some (some (.agg #[.int .i64 0,.int .i64 0,.int .i64 0,.bool false,.slice none 0 0]),5,56):=by kernel_rfl
theorem infoPl:(Tryz.prog.info? 242).map (fun i=>(i.zero,i.size,i.bytes))=some (some (.agg #[.int .i64 0,.int .i64 0]),2,16):=by kernel_rfl
theorem tyGp:245≠242:=by decide
theorem ZbD{w:World}{B B' n n' m m':Nat}{t t':TypeId}{v v':Value}{xs xs':List Value}(h:w.ownsRow B t n v m xs)(h':w.ownsRow B' t' n' v' m' xs')(hne:t≠t'):v.ownBlock=none∨v.ownBlock≠v'.ownBlock:=by
 obtain⟨_,⟨rfl,_⟩|⟨g,cap,cur,rfl,_,hg,_⟩⟩:=h
 ·exact .inl rfl
 ·right
  obtain⟨_,⟨rfl,_⟩|⟨g',cap',cur',rfl,_,hg',_⟩⟩:=h'
  ·simp[Value.ownBlock]
  ·intro e
   injection e with e
   have e2:g=g':=e
   subst e2
   rw[hg]at hg'
   injection hg' with hg'
   injection hg' with _ h2
   exact hne h2
structure OwnG(w:World)(B:Nat)(v:Value)(xs:List (Ev × Sp))(gs:List Gp):Prop where
 len:xs.length=gs.length
 evs:∀i (h:i<xs.length) (h':i<gs.length),xs[i].1=gs[i].1
 outer:Zae w B 245 5 Zbj v xs
 inner:∀i (h:i<xs.length) (h':i<gs.length),Zae w B 242 2 Zbi (spV xs[i].2) gs[i].2
 apart:∀i j (hi:i<xs.length) (hj:j<xs.length),i≠j->(spV xs[i].2).ownBlock=none∨(spV xs[i].2).ownBlock≠(spV xs[j].2).ownBlock
theorem OwnG.later{w w':World}{B:Nat}{v:Value}{xs:List (Ev × Sp)}{gs:List Gp}(h:OwnG w B v xs gs)(hb:Below w.heap.size w w'):OwnG w' B v xs gs:=
 ⟨h.len,h.evs,h.outer.later hb,fun i hi hj=>(h.inner i hi hj).later hb,h.apart⟩
theorem ownG_nil(w:World)(B:Nat):OwnG w B (.slice none 0 0) [] []:=⟨rfl,fun i hi=>absurd hi (by simp),Za5 _ _ _ _ _,fun i hi=>absurd hi (by simp),fun i _ hi=>absurd hi (by simp)⟩
theorem OwnG.only{w w':World}{B g:Nat}{v:Value}{xs:List (Ev × Sp)}{gs:List Gp}(h:OwnG w B v xs gs)(ho:Only g w w')(hg:g<B):OwnG w' B v xs gs:=
 ⟨h.len,h.evs,h.outer.only ho hg,fun i hi hj=>(h.inner i hi hj).only ho hg,h.apart⟩
theorem OwnG.kept{w w':World}{B:Nat}{v:Value}{xs:List (Ev × Sp)}{gs:List Gp}{row:Option Nat}(h:OwnG w B v xs gs)(hg:w.grownBy w' row)(hr:∀r,row=some r->∀t cs,w.heap[r]?=some (.cells cs t (0,0))->t≠245/\t≠242):OwnG w' B v xs gs:=by
 have key:∀{t:TypeId} {n m:Nat} {v':Value} {ys:List Value},(t=245∨t=242)->w.ownsRow B t n v' m ys->w'.ownsRow B t n v' m ys:=by
  intro t n m v' ys ht ho
  refine ho.kept hg ?_
  obtain⟨_,⟨rfl,_⟩|⟨g,cap,cur,rfl,_,hgb,_⟩⟩:=ho
  ·exact .inl rfl
  ·right
   intro e
   have:=hr g e.symm _ _ hgb
   rcases ht with rfl|rfl
   ·exact this.1 rfl
   ·exact this.2 rfl
 exact⟨h.len,h.evs,key (.inl rfl) h.outer,fun i hi hj=>key (.inr rfl) (h.inner i hi hj),h.apart⟩
theorem OwnG.more{w w':World}{B:Nat}{v v':Value}{xs:List (Ev × Sp)}{gs:List Gp}{e:Ev}{s:Sp}{ps:List (Nat × Nat)}(h:OwnG w B v xs gs)(ho:Zae w' B 245 5 Zbj v' (xs++[(e,s)]))(hg:w.grownBy w' v.ownBlock)
  (hs:Zae w' B 242 2 Zbi (spV s) ps) (hb:∀b,(spV s).ownBlock=some b->∀i (h:i<xs.length),(spV xs[i].2).ownBlock≠some b):
  OwnG w' B v' (xs++[(e,s)]) (gs++[(e,ps)]):=by
 have hl:=h.len
 refine⟨by simp[h.len],fun i hi hj=>?_,ho,fun i hi hj=>?_,fun i j hi hj hne=>?_⟩
 ·by_cases hlt:i<xs.length
  ·rw[List.getElem_append_left hlt,List.getElem_append_left (show i<gs.length by omega)]
   exact h.evs i hlt _
  ·have e0:i=xs.length:=by simp at hi;omega
   subst e0
   simp[hl]
 ·by_cases hlt:i<xs.length
  ·have e1:(xs++[(e,s)])[i]=xs[i]:=List.getElem_append_left hlt
   have e2:(gs++[(e,ps)])[i]=gs[i]'(by omega):=List.getElem_append_left (show i<gs.length by omega)
   rw[e1,e2]
   exact World.ownsRow.kept (h.inner i hlt (by omega)) hg (ZbD (h.inner i hlt (by omega)) h.outer (Ne.symm tyGp))
  ·have e0:i=xs.length:=by simp at hi;omega
   subst e0
   simp only[List.getElem_concat_length,hl]
   exact hs
 ·by_cases hlt:i<xs.length
  ·have e1:(xs++[(e,s)])[i]=xs[i]:=List.getElem_append_left hlt
   rw[e1]
   by_cases hlj:j<xs.length
   ·rw[List.getElem_append_left hlj]
    exact h.apart i j hlt hlj hne
   ·have e0:j=xs.length:=by simp at hj;omega
    subst e0
    have e2:(xs++[(e,s)])[xs.length]=(e,s):=by simp
    rw[e2]
    cases hq:(spV s).ownBlock with
    |none=>cases hq2:(spV xs[i].2).ownBlock with
     |none=>exact .inl rfl
     |some b=>exact .inr (by simp)
    |some b=>exact .inr (hb b hq i hlt)
  ·have e0:i=xs.length:=by simp at hi;omega
   subst e0
   have hlj:j<xs.length:=by simp at hj;omega
   have e1:(xs++[(e,s)])[xs.length]=(e,s):=by simp
   rw[e1,List.getElem_append_left hlj]
   cases hq:(spV s).ownBlock with
   |none=>exact .inl rfl
   |some b=>exact .inr fun e'=>hb b hq j hlj e'.symm
theorem gp_set{xs:List (Ev × Sp)}{n:Nat}(hn:n<xs.length)(s:Sp):(Zaq Zbj xs).set (n*5+4) (.slice s.a s.n s.c)=Zaq Zbj (xs.set n (xs[n].1,s)):=by
 induction xs generalizing n with
 |nil=>simp at hn
 |cons x xs ih=>
  cases n with
  |zero=>rfl
  |succ n=>
   have:=ih (n:=n) (by simpa using hn)
   have e:(n+1)*5+4=(n*5+4)+5:=by omega
   simp only[Zaq,List.flatMap_cons,List.set_cons_succ,List.getElem_cons_succ]at *
   rw[<-this,e]
   rfl
theorem OwnG.put{w w3:World}{B g N cap n:Nat}{xs:List (Ev × Sp)}{gs:List Gp}{s':Sp}{ps:List (Nat × Nat)}(h:OwnG w B (.slice (some ⟨g,0,none⟩) N cap) xs gs)(hn:n<xs.length)(hn2:n<gs.length)
  (ho:Zae w3 B 242 2 Zbi (spV s') ps) (hg:w.grownBy w3 (spV xs[n].2).ownBlock) (hb:∀b,(spV s').ownBlock=some b->(spV xs[n].2).ownBlock=some b∨w.heap.size<=b):
  OwnG (w3.setCell ⟨g,n*5+4,none⟩ (.slice s'.a s'.n s'.c)) B (.slice (some ⟨g,0,none⟩) N cap) (xs.set n (xs[n].1,s')) (gs.set n (gs[n].1,ps))/\(w3.cell? ⟨g,n*5+4,none⟩).isSome=true/\w3.frozen? ⟨g,n*5+4,none⟩=false:=by
 have hl:=h.len
 have hout:w3.ownsRow B 245 5 (.slice (some ⟨g,0,none⟩) N cap) xs.length (Zaq Zbj xs):=World.ownsRow.kept h.outer hg (ZbD h.outer (h.inner n hn hn2) tyGp)
 have hN:xs.length=N:=by
  obtain⟨_,⟨h1,_⟩|⟨_,_,_,h1,_⟩⟩:=hout
  ·cases h1
  ·injection h1 with _ h1
   exact h1.symm
 rw[hN]at hout
 have hst:=hout.stored (n*5+4) (.slice s'.a s'.n s'.c)
 rw[gp_set hn s']at hst
 have hgs:w3.grownBy (w3.setCell ⟨g,n*5+4,none⟩ (.slice s'.a s'.n s'.c)) (some g):=hst.2
 have hkeep:∀{v2:Value} {es:List (Nat × Nat)},Zae w3 B 242 2 Zbi v2 es->Zae (w3.setCell ⟨g,n*5+4,none⟩ (.slice s'.a s'.n s'.c)) B 242 2 Zbi v2 es:=fun {v2 es} hv=>World.ownsRow.kept hv hgs (ZbD hv hout (Ne.symm tyGp))
 refine⟨⟨by simp[h.len],fun i hi hj=>?_,?_,fun i hi hj=>?_,fun i j hi hj hne=>?_⟩,?_,hout.frozenAt _⟩
 ·simp only[List.length_set]at hi hj
  by_cases e:n=i
  ·subst e
   simp[h.evs n hn hn2]
  ·rw[List.getElem_set_ne e,List.getElem_set_ne e]
   exact h.evs i hi hj
 ·unfold Zae
  rw[List.length_set,hN]
  exact hst.1
 ·simp only[List.length_set]at hi hj
  by_cases e:n=i
  ·subst e
   simp only[List.getElem_set_self]
   exact hkeep ho
  ·rw[List.getElem_set_ne e,List.getElem_set_ne e]
   exact hkeep (World.ownsRow.kept (h.inner i hi hj) hg (h.apart i n hi hn (fun e'=>e e'.symm)))
 ·simp only[List.length_set]at hi hj
  have hnew:∀i (hi:i<xs.length),i≠n->(spV s').ownBlock=none∨(spV s').ownBlock≠(spV xs[i].2).ownBlock:=fun i hi hne=>by
   cases hb':(spV s').ownBlock with
   |none=>exact .inl rfl
   |some b=>
    right
    intro e
    rcases hb b hb' with h1|h1
    ·rcases h.apart n i hn hi (fun e=>hne e.symm)with h2|h2
     ·rw[h1]at h2;cases h2
     ·exact h2 (h1.trans e)
    ·have:=(World.ownsRow.lt (h.inner i hi (by omega)) b e.symm).2
     omega
  by_cases e:n=i
  ·subst e
   have e2:(xs.set n (xs[n].1,s'))[j]'(by simpa using hj)=xs[j]:=List.getElem_set_ne hne _
   rw[e2,List.getElem_set_self]
   exact hnew j hj (fun e=>hne e.symm)
  ·have e1:(xs.set n (xs[n].1,s'))[i]'(by simpa using hi)=xs[i]:=List.getElem_set_ne e _
   rw[e1]
   by_cases e':n=j
   ·subst e'
    rw[List.getElem_set_self]
    rcases hnew i hi hne with h1|h1
    ·cases hb2:(spV xs[i].2).ownBlock
     ·exact .inl rfl
     ·right;rw[h1];simp
    ·exact .inr (fun e=>h1 e.symm)
   ·have e2:(xs.set n (xs[n].1,s'))[j]'(by simpa using hj)=xs[j]:=List.getElem_set_ne e' _
    rw[e2]
    exact h.apart i j hi hj hne
 ·rw[hout.cellAt _ (by omega),List.getElem?_eq_getElem (by rw[Zar Zd6];omega)]
  rfl
theorem OwnG.cell{w:World}{B g N cap n j:Nat}{xs:List (Ev × Sp)}{gs:List Gp}(h:OwnG w B (.slice (some ⟨g,0,none⟩) N cap) xs gs)(hn:n<xs.length)(hj:j<5):w.cell? ⟨g,n*5+j,none⟩=(Zbj xs[n])[j]?:=by
 have hout:w.ownsRow B 245 5 (.slice (some ⟨g,0,none⟩) N cap) xs.length (Zaq Zbj xs):=h.outer
 have hN:xs.length=N:=by
  obtain⟨_,⟨h1,_⟩|⟨_,_,_,h1,_⟩⟩:=hout
  ·cases h1
  ·injection h1 with _ h1
   exact h1.symm
 rw[hN]at hout
 rw[hout.cellAt _ (by omega),ZaI Zd6 xs n j hn hj]
theorem OwnG.form{w:World}{B:Nat}{v:Value}{xs:List (Ev × Sp)}{gs:List Gp}(h:OwnG w B v xs gs):(v=.slice none 0 0/\gs=[])∨∃g cap,v=.slice (some ⟨g,0,none⟩) gs.length cap/\B<=g/\g<w.heap.size:=by
 have hl:=h.len
 obtain⟨_,⟨h1,h2⟩|⟨g,cap,cur,h1,h3,h4,_⟩⟩:=h.outer
 ·exact .inl ⟨h1,List.eq_nil_of_length_eq_zero (by omega)⟩
 ·exact .inr ⟨g,cap,by rw[h1,hl],h3,(Array.getElem?_eq_some_iff.1 h4).1⟩
end Go.Proofs.YtjfmmnhcddckaaaGreat
