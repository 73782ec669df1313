import Derived.ProofKit
import Derived.Lib.SmallJoins
import Derived.Deep.Slices
import Derived.Deep.Fields
import Derived.OpenShut
import Derived.ChangeMaps5
import Derived.SizedLaws
import Derived.Test.YtjfmmnhcddckaaaGreatPk01
import Derived.Test.YtjfmmnhcddckaaaGreatPk04
import Derived.Test.YtjfmmnhcddckaaaGreatPk04b
import Derived.Test.YtjfmmnhcddckaaaGreatPk07
import Derived.Test.YtjfmmnhcddckaaaGreatPk10
import Derived.Test.YtjfmmnhcddckaaaGreatPk14
import Derived.Test.YtjfmmnhcddckaaaGreatPk15
set_option maxRecDepth 100000
set_option maxHeartbeats 8000000
namespace Go.Proofs.YtjfmmnhcddckaaaGreat
open Go.RowKit
theorem wp_copyE2{w:World}{o:Oper}{a:Act}{K:Act->World->Prop}{Q:Exit->Act->World->Prop}(s x:Operand)
  (ho:o.op=.call { callee:=.builtin .append,args:=#[s,x],argTypes:=#[95,95] }) (B:Nat) (v:Value) (es:List Ev) (hs:a.eval s=v) (hown:OwnE w B v es)
  (ra:Option Addr) (rcap:Nat) (row:List Ev) (hx:a.eval x=.slice ra row.length rcap) (hrow:EvsAt w ra row) (hra:ra=none->rcap=0/\row=[])
  (hlen:es.length+row.length<=1000000) (hB:B<=w.heap.size)
  (h:∀v' w',OwnE w' B v' (es++row)->Below B w w'->w.grownBy w' v.ownBlock->K (a.put o.dst v') w'):Oper.wp Tryz.prog o a w K Q:=by
 have hinfo:(Tryz.prog.info? 112).map (fun i=>(i.zero,i.size,i.bytes))=some (some (.agg #[.int .i64 0,.int .i64 0,.int .i64 0,.bool false]),4,32):=by kernel_rfl
 obtain⟨i,hi,hzz⟩:=Option.map_eq_some_iff.1 hinfo
 simp only[Prod.mk.injEq]at hzz
 obtain⟨hz,hsz,hby⟩:=hzz
 cases ra with
 |none=>
  obtain⟨rfl,rfl⟩:=hra rfl
  have hrun:=run_append_owned_none (P:=Tryz.prog) (w:=w) B 95 o.type 112 i 4 Tryz.underlying95 hi v es.length (Zah es) hown
  have hK:=h v w (by rw[List.append_nil];exact hown) (Below.refl _ _) ⟨rfl,rfl,rfl,Nat.le_refl _,fun _ _ _=>rfl⟩
  unfold Oper.wp
  simp[execOp,ho,resolve,invoke,builtin,hs,hx,hrun,Result.andThen]
  exact hK
 |some ad=>
  by_cases hne:row=[]
  ·subst hne
   refine wp_append_own w s x 95 ho B 112 i (.agg #[.int .i64 0,.int .i64 0,.int .i64 0,.bool false]) 4 32 Tryz.underlying95 hi hz hsz hby rfl (by decide) v es.length (Zah es) hs hown ad 0 rcap [] hx (by simp) (by simp) (by simp) (by unfold maxLen;omega) (by omega) hB ?_
   intro v' w' h1 h2 _
   refine h v' w' ?_ ((Below.refl B w).grown h2 hB (fun k hk=>(World.ownsRow.lt hown k hk).1)) h2
   unfold OwnE
   simpa using h1
  ·obtain⟨b,o',e,hc⟩:=hrow.2 hne
   injection e with e
   subst e
   refine wp_append_own w s x 95 ho B 112 i (.agg #[.int .i64 0,.int .i64 0,.int .i64 0,.bool false]) 4 32 Tryz.underlying95 hi hz hsz hby rfl (by decide) v es.length (Zah es) hs hown ⟨b,o',none⟩ row.length rcap (Zah row) hx (by rw[Zas]) (fun j u hj=>hrow.cellAt j u hj)
    (ZcB _) (by unfold maxLen;omega) (by omega) hB ?_
   intro v' w' h1 h2 _
   refine h v' w' ?_ ((Below.refl B w).grown h2 hB (fun k hk=>(World.ownsRow.lt hown k hk).1)) h2
   unfold OwnE
   rw[List.length_append,ZaO]
   exact h1
theorem Zcr{w:World}{ops:Array Oper}{o:Oper}{a:Act}{K:Act->World->Prop}{Q:Exit->Act->World->Prop}{E:Prop}(hgd:o.guard=none)(s x:Operand)
  (ho:o.op=.call { callee:=.builtin .append,args:=#[s,x],argTypes:=#[95,95] }) (B:Nat) (v:Value) (es:List Ev) (hs:a.eval s=v) (hown:OwnE w B v es)
  (ra:Option Addr) (rcap:Nat) (row:List Ev) (hx:a.eval x=.slice ra row.length rcap) (hrow:EvsAt w ra row) (hra:ra=none->rcap=0/\row=[])
  (hlen:es.length+row.length<=1000000) (hB:B<=w.heap.size)
  (h:∀v' w',OwnE w' B v' (es++row)->Below B w w'->w.grownBy w' v.ownBlock->K (a.put o.dst v') w'):if Region.wanted o (yielded ops a.tmps)=true then Oper.wp Tryz.prog o a w K Q else E:=by
 have hw:Region.wanted o (yielded ops a.tmps)=true:=by simp[Region.wanted,hgd]
 rw[if_pos hw]
 exact wp_copyE2 s x ho B v es hs hown ra rcap row hx hrow hra hlen hB h
theorem Zi8(w:World)(e:Ev):EvsAt (w.alloc (.cells #[.int .i64 e.thread,.int .i64 e.kind,.int .i64 e.obj,.bool e.fail] 112)) (some ⟨w.heap.size,0,none⟩) [e]:=by
 refine⟨by simp[maxLen],fun _=>⟨w.heap.size,0,rfl,fun i hi=>?_⟩⟩
 obtain rfl:i=0:=by simp at hi;omega
 simp
theorem EvsAt.grown{w w':World}{g:Nat}{l:List Ev}{row:Option Nat}(h:EvsAt w (some ⟨g,0,none⟩) l)(hg:w.grownBy w' row)(hne:some g≠row):EvsAt w' (some ⟨g,0,none⟩) l:=by
 refine⟨h.1,fun hn=>?_⟩
 obtain⟨b,o,e,hc⟩:=h.2 hn
 cases e
 refine⟨g,0,rfl,fun i hi=>?_⟩
 obtain⟨h0,h1,h2,h3⟩:=hc i hi
 have hs:∀o,w'.cell? ⟨g,o,none⟩=w.cell? ⟨g,o,none⟩:=fun o=>World.cell?_of_block (hg.block g (Zan h0) hne)
 exact⟨(hs _).trans h0,(hs _).trans h1,(hs _).trans h2,(hs _).trans h3⟩
structure Ways(W:World)(e:Ev):Prop where
 a:OwnE (W.alloc (.cells #[] 112)).drew W.heap.size (.slice (some ⟨W.heap.size,0,none⟩) 0 0) []
 b:OwnE ((W.alloc (.cells #[] 112)).alloc (.cells #[.int .i64 e.thread,.int .i64 e.kind,.int .i64 e.obj,.bool e.fail] 112)).drew W.heap.size (.slice (some ⟨W.heap.size,0,none⟩) 0 0) []
 bt:EvsAt ((W.alloc (.cells #[] 112)).alloc (.cells #[.int .i64 e.thread,.int .i64 e.kind,.int .i64 e.obj,.bool e.fail] 112)).drew (some ⟨W.heap.size+1,0,none⟩) [e]
 c:OwnE ((W.alloc (.cells #[.int .i64 e.thread,.int .i64 e.kind,.int .i64 e.obj,.bool e.fail] 112)).alloc (.cells #[] 112)).drew W.heap.size (.slice (some ⟨W.heap.size+1,0,none⟩) 0 0) []
 ct:EvsAt ((W.alloc (.cells #[.int .i64 e.thread,.int .i64 e.kind,.int .i64 e.obj,.bool e.fail] 112)).alloc (.cells #[] 112)).drew (some ⟨W.heap.size,0,none⟩) [e]
theorem ways(W:World)(e:Ev):Ways W e:=by
 have h0:OwnE (W.alloc (.cells #[] 112)) W.heap.size (.slice (some ⟨W.heap.size,0,none⟩) 0 0) []:=ZhQ W _ rfl
 have h1:OwnE ((W.alloc (.cells #[.int .i64 e.thread,.int .i64 e.kind,.int .i64 e.obj,.bool e.fail] 112)).alloc (.cells #[] 112)) (W.heap.size+1) (.slice (some ⟨W.heap.size+1,0,none⟩) 0 0) []:=by
  have:=ZhQ (W.alloc (.cells #[.int .i64 e.thread,.int .i64 e.kind,.int .i64 e.obj,.bool e.fail] 112)) _ rfl
  rwa [World.size_alloc]at this
 have h2:=Zi8 (W.alloc (.cells #[] 112)) e
 rw[World.size_alloc]at h2
 have h3:=(Zi8 W e).later (Zaa _ (.cells #[] 112))
 refine⟨h0,OwnE.alloc h0 _,h2,?_,h3⟩
 obtain⟨g1,g2|⟨g,cap,cur,g2,g3,g4⟩⟩:=h1
 ·exact⟨g1,.inl g2⟩
 ·exact⟨g1,.inr ⟨g,cap,cur,g2,by omega,g4⟩⟩
def OvJ(n:Nat)(s:St)(row:List Ev)(most:Nat)(x:SumV)(j:Nat)(y:SumV):Prop:=
 (x.c+preTo n s j<=most->y.c=x.c+preTo n s j/\y.k=(Zau (Zdz n s row j)).foldl putK x.k/\y.r=x.r+(Zdz n s row j).length/\y.st=x.st+Za9 (Zdz n s row j)) /\
  (most<x.c+preTo n s j->most<y.c)/\y.c<=most+4*n+1+j/\BdS y
theorem ovJ_zero{n:Nat}{s:St}{row:List Ev}{most:Nat}{x:SumV}(h:x.c<=most)(hb:BdS x):OvJ n s row most x 0 x:=by
 have h0:preTo n s 0=0:=rfl
 have h1:Zdz n s row 0=[]:=rfl
 unfold OvJ
 rw[h0,h1]
 exact⟨fun _=>⟨rfl,rfl,rfl,rfl⟩,fun h=>by omega,by omega,hb⟩
theorem Zin(a b:Ends):Za9 (a++b)=Za9 a+Za9 b:=by
 unfold Za9
 rw[List.filter_append,List.length_append]
theorem ZiW(a b:Ends):Zau (a++b)=Zau a++Zau b:=List.map_append
theorem ovJ_step{n:Nat}{s:St}{row:List Ev}{most:Nat}{x y z:SumV}{j:Nat}{e:Ev}{s1:St}(h:OvJ n s row most x j y)(hlt:j<s.all.length)(hst:s.step s.all[j]=(0,e,s1))(hz:OvP n s1 (row++[e]) most y z):OvJ n s row most x (j+1) z:=by
 have hp:preTo n s (j+1)=preTo n s j+s1.pre n:=by have h:=preTo_succ n s hlt;rw[hst]at h;exact h
 have hr:Zdz n s row (j+1)=Zdz n s row j++s1.runs n (row++[e]):=by have h:=Zlc n s row hlt;rw[hst]at h;exact h
 have hpos:=pre_pos n s1
 obtain⟨h1,h2,h3,_⟩:=h
 obtain⟨z1,z2,z3,z4,z5⟩:=hz
 unfold OvJ
 rw[hp,hr]
 refine⟨fun hh=>?_,fun hh=>?_,?_,z5⟩
 ·obtain⟨a1,a2,a3,a4⟩:=h1 (by omega)
  obtain⟨b1,b2,b3,b4⟩:=z1 (by omega)
  refine⟨by omega,?_,?_,?_⟩
  ·rw[b2,a2,ZiW,List.foldl_append]
  ·rw[b3,a3,List.length_append];omega
  ·rw[b4,a4,Zin];omega
 ·by_cases hy:most<x.c+preTo n s j
  ·have:=h2 hy
   have:=z3 (by omega)
   omega
  ·obtain⟨a1,_⟩:=h1 (by omega)
   exact z2 (by omega)
 ·by_cases hy:y.c<most
  ·have:=z4 hy
   omega
  ·have:=z3 (by omega)
   omega
theorem ovJ_all{n:Nat}{s:St}{row:List Ev}{most:Nat}{x y:SumV}(hx:x.c<most)(hne:s.all≠[])(h4:s.all.length<=4)(h:OvJ n s row most { x with c:=x.c+1 } s.all.length y):OvP (n+1) s row most x y:=by
 have hp:=preTo_all n s
 have hr:=runsTo_all n s row hne
 obtain⟨h1,h2,h3,h5⟩:=h
 unfold OvP
 rw[hr,hp]
 dsimp only at h1 h2
 refine⟨fun hh=>?_,fun hh=>h2 (by omega),fun hh=>by omega,fun _=>by omega,h5⟩
 obtain⟨a1,a2,a3,a4⟩:=h1 (by omega)
 exact⟨by omega,a2,a3,a4⟩
theorem own_form{w:World}{B:Nat}{v:Value}{l:List Ev}(h:OwnE w B v l)(hm:l.length<=1000000):∃a cap,v=.slice a l.length cap/\EvsAt w a l/\(a=none->cap=0/\l=[])/\∀o,a=some o->B<=o.block:=by
 obtain⟨a,cap,hv,he⟩:=OwnE.form h hm
 refine⟨a,cap,hv,he,?_⟩
 obtain⟨k1,⟨k2,k3⟩|⟨g,cap',cur,k2,k3,_⟩⟩:=h
 ·rw[hv]at k2
  injection k2 with h1 h2 h3
  subst h1
  refine⟨fun _=>⟨h3,List.length_eq_zero_iff.1 k3⟩,fun o h=>by cases h⟩
 ·rw[hv]at k2
  injection k2 with h1 h2 h3
  subst h1
  exact⟨fun h=>(by cases h),fun o h=>by injection h with h;subst h;exact k3⟩
theorem over_step{W0:World}{F B mb:Nat}(n most:Nat)(ih:OverH W0 F B mb n most)(s:St)(row:List Ev)(w:World)(b tb:Nat)(a:Option Addr)(cap tcap:Nat)(ra:Option Addr)(rcap:Nat)(x:SumV)(ok:s.Ok F)(hall:s.all≠[])(hf:s.fuel<=n+1)(hl:row.length+(n+1)<=100)(hr:RefAt w b tb a cap tcap s)(hth:Zaf W0 a s.p.threads)(hw0:Below W0.heap.size W0 w)(hwm:W0.heap.size<=mb)(he:EvsAt w ra row)(hra:ra=none->rcap=0/\row=[])(hrm:∀o,ra=some o->o.block≠mb)
  (hs:SumAt w mb B x) (hb:BdS x) (hB:B<=w.heap.size) (hm:mb<B) (hbm:b≠mb) (htm:tb≠mb) (hx:x.c<most) (hmost:most<=1000):
  Calls Tryz.prog 32 #[.pointer (some ⟨mb,0,none⟩),.pointer (some ⟨b,0,none⟩),.slice ra row.length rcap,.int .i64 (most:Int)] w fun r w'=>r=.returned (.tuple #[])/\∃y,SumAt w' mb B y/\OvP (n+1) s row most x y/\Only mb w w':=by
 obtain⟨ka,kc,⟨c0,c1,c2,c3⟩,⟨f0,f1,f2,f3⟩,_⟩:=hs.cells
 have HS1:Hid (SumAt (w.setCell ⟨mb,2,none⟩ (.int .i64 ((x.c:Int)+1))) mb B { x with c:=x.c+1 }):=hs.setC hm (x.c+1)
 have hw:IntKind.i64.wrap ((x.c:Int)+1)=(x.c:Int)+1:=IntWalk.i64_in _ (by omega)
 have hq:decide ((most:Int)<(x.c:Int)+1)=false:=by simp;omega
 have HO1:Hid (Only mb w (w.setCell ⟨mb,2,none⟩ (.int .i64 ((x.c:Int)+1)))):=(Only.refl mb w).setCell 2 _
 have HR0:=Lib.hid hr
 have hbl:=hr.lt
 have HTH:Hid (∀W,Only mb w W->Zaf W a s.p.threads):=fun W ho=>hth.later (hw0.trans (ho.below hwm hw0.size))
 have HT0:=Lib.hid hth
 have HBW:Hid (∀W,Only mb w W->Below W0.heap.size W0 W):=fun W ho=>hw0.trans (ho.below hwm hw0.size)
 have HEV:Hid (∀W,Only mb w W->EvsAt W ra row):=fun W ho=>he.onlyB ho hrm
 have HRA:=Lib.hid hra
 have HOK:=Lib.hid ok
 have HIH:=Lib.hid ih
 have HAL:=Lib.hid hall
 have hb1:=hb.1
 have hb2:=hb.2.1
 have hb3:=hb.2.2
 have hz1:(w.setCell ⟨mb,2,none⟩ (.int .i64 ((x.c:Int)+1))).heap.size=w.heap.size:=by simp[World.setCell]
 have h4:=ok.len4
 have hal:s.all.length<=4:=Nat.le_trans s.all_len h4
 have HNE:Hid (1<=s.ts.length):=by have h1:=s.all_len;have h2:=List.length_pos_iff.2 hall;show _<=_;omega
 have hln:((s.all.length:Int)==0)=false:=by have:=List.length_pos_iff.2 hall;simp;exact hall
 have hmw:mb<w.heap.size:=by omega
 clear hs hr hth he ok hall hw0 ih hra hb
 go_enter Tryz.func32,Tryz.ntmps32
 go_wp2_with fail
 generalize w.setCell ⟨mb,2,none⟩ (.int .i64 ((x.c:Int)+1))=W1 at *
 refine(ZhE (HR0.out.only HO1.out hbm htm) (HTH.out W1 HO1.out) HOK.out).mono ?_
 rintro r W2⟨va,rfl,hva,hb2'⟩
 obtain⟨aa,ca,rfl,_,_⟩:=OwnN.form hva (by omega)
 have HN2:=Lib.hid hva
 have HO2:Hid (Only mb w W2):=HO1.out.trans (.of_below hb2')
 have HS2:=Lib.hid (HS1.out.later hb2')
 have hz2:=hb2'.size
 clear HS1 HO1 hva c0 c1 c2 c3 f0 f1 f2 f3 hb2'
 go_wp2_with fail
 go_loopw [13] (fun i wr=>∃(j:Nat) (y:SumV),j<=s.all.length/\i=.int .i64 j/\Hid (OvJ n s row most { x with c:=x.c+1 } j y)/\Hid (SumAt wr mb B y)/\Hid (Only mb w wr)/\Hid (Only mb W2 wr)) (fun i _=>s.all.length-(intOf i).toNat)
 case atStart=>exact⟨0,_,Nat.zero_le _,rfl,ovJ_zero (by show x.c+1<=most;omega) (bdS_step ⟨hb1,hb2,hb3⟩),HS2.out,HO2.out,Only.refl _ _⟩
 case round=>
  obtain⟨j,y,hj,rfl,HJ,HSJ,HOJ,HO2J⟩:=hrel
  have hzr:=HOJ.out.size
  have hzr2:=HO2J.out.size
  by_cases hlt:j<s.all.length
  ·have hmem:=List.getElem_mem hlt
   obtain⟨e,s1,hst,hfu⟩:=Ze1 hmem
   have HSTEP:Hid (∀z,OvP n s1 (row++[e]) most y z->OvJ n s row most { x with c:=x.c+1 } (j+1) z):=fun z hz=>ovJ_step HJ.out hlt hst hz
   have hNr:∀g,(Value.slice aa s.all.length ca).ownBlock=some g->¬g=mb:=by
    intro g hg
    have:=(World.ownsRow.lt HN2.out g hg).1
    omega
   obtain⟨_,_,hv9,hna,_⟩:=OwnN.form (HN2.out.onlyS (OnlyS.of_only (S:=fun k=>k=mb) HO2J.out rfl) hNr) (by omega)
   injection hv9 with hv1 _ hv3
   subst hv1 hv3
   obtain⟨ba,oa,rfl,hca⟩:=hna.2 (by intro e;rw[e]at hlt;simp at hlt)
   have ct:=hca j hlt
   have HST:=Lib.hid hst
   have hok1:s1.Ok F:=by have h:=HOK.out.step_ok s.all[j];rw[hst]at h;exact h
   have hp1:s1.p=s.p:=by
    have h:(s.step s.all[j]).2.2.p=s.p:=by
     rcases s.step_cases s.all[j]with ⟨i,_,_,e⟩|⟨e,_,e'⟩
     ·rw[e];rfl
     ·rw[e']
    rw[hst]at h
    exact h
   have HOK1:=Lib.hid hok1
   have HP1:=Lib.hid hp1
   have HRr:=Lib.hid (HR0.out.only HOJ.out hbm htm)
   have HCY:Hid (y.c<=5000):=by have:=HJ.out.2.2.1;show _<=_;omega
   have HBY:Hid (BdS y):=HJ.out.2.2.2
   clear hca hna hNr hst hmem hok1 hp1
   generalize s.all[j]=t at *
   go_wp2_with fail
   refine(Zlj HRr.out HNE.out h4).mono ?_
   rintro r W3⟨nb,ntb,ntc,rfl,hnb,hntb,hr3,hb3'⟩
   have HR3:=Lib.hid hr3
   have HO3:Hid (Only mb w W3):=HOJ.out.trans (.of_below hb3')
   have hz3:=hb3'.size
   have ct3:=Zab hb3' ct
   clear hr3
   go_wp2_with fail
   refine(Zle HR3.out (HTH.out W3 HO3.out) HOK.out t).mono ?_
   rintro r W4⟨rfl,hr4,ho4⟩
   rw[HST.out]at hr4 ⊢
   rw[Zis]
   have hb4:Below wr.heap.size wr W4:=hb3'.trans (ho4.below hnb hntb hb3'.size)
   have HR4:=Lib.hid hr4
   clear hr4 ho4 HO3 HR3 hb3' ct3
   go_wp2_with fail
   have HBX:=Lib.hid (EvBox.new W4 e)
   have hb5:Below wr.heap.size wr (W4.alloc (.cells #[.int .i64 e.thread,.int .i64 e.kind,.int .i64 e.obj,.bool e.fail] 112)):=hb4.alloc hb4.size _
   have HR5:=Lib.hid (HR4.out.later (Zaa W4 (.cells #[.int .i64 e.thread,.int .i64 e.kind,.int .i64 e.obj,.bool e.fail] 112)))
   have hz45:W4.heap.size<(W4.alloc (.cells #[.int .i64 e.thread,.int .i64 e.kind,.int .i64 e.obj,.bool e.fail] 112)).heap.size:=by simp
   have hz4r:=hb4.size
   clear HR4 hb4
   generalize W4.alloc (.cells #[.int .i64 e.thread,.int .i64 e.kind,.int .i64 e.obj,.bool e.fail] 112)=W5 at *
   have hz5r:=hb5.size
   obtain⟨row',hrw⟩:∃l,l=row++[e]:=⟨_,rfl⟩
   have hrl:row'.length=row.length+1:=by rw[hrw];simp
   have HCALL:Hid (∀(W:World) (v:Value),Below W5.heap.size W5 W->OwnE W W5.heap.size v (row++[e])->∃a9 c9,v=.slice a9 row'.length c9/\Calls Tryz.prog 32 #[.pointer (some ⟨mb,0,none⟩),.pointer (some ⟨nb,0,none⟩),.slice a9 row'.length c9,.int .i64 (most:Int)] W fun r w'=>r=.returned (.tuple #[])/\∃z,SumAt w' mb B z/\OvJ n s row most { x with c:=x.c+1 } (j+1) z/\Only mb w w'/\Only mb W2 w'/\EvBox w' W4.heap.size e):=by
    intro W v hbw hown
    rw[<-hrw]at hown
    obtain⟨a9,c9,hv,hev,hnone,hblk⟩:=own_form hown (by omega)
    have hbl9:Below wr.heap.size wr W:=hb5.trans (hbw.mono hb5.size)
    have ho9:Only mb w W:=HOJ.out.trans (.of_below hbl9)
    have hbx9:=HBX.out.later hbw
    refine⟨a9,c9,hv,(HIH.out s1 row' W nb ntb a cap ntc a9 c9 y HOK1.out (by omega) (by omega) (HR5.out.later hbw) (by rw[HP1.out];exact HT0.out) (HBW.out W ho9) hev hnone (fun o h=>by have:=hblk o h;omega) (HSJ.out.later hbl9) HBY.out HCY.out (by have:=ho9.size;omega) (by omega) (by omega)).mono ?_⟩
    rintro r w'⟨rfl,z,h1,h2,h3⟩
    rw[hrw]at h2
    exact⟨rfl,z,h1,HSTEP.out z h2,ho9.trans h3,(HO2J.out.trans (.of_below hbl9)).trans h3,hbx9.only h3 (by omega)⟩
   have HQ:Hid (∀W:World,Below W5.heap.size W5 W->W.cell? ⟨W4.heap.size,0,none⟩=some (.int .i64 e.thread)/\W.cell? ⟨W4.heap.size,1,none⟩=some (.int .i64 e.kind)/\W.cell? ⟨W4.heap.size,2,none⟩=some (.int .i64 e.obj)/\W.cell? ⟨W4.heap.size,3,none⟩=some (.bool e.fail)):=fun W h=>(HBX.out.later h).cells
   have HEB:Hid (∀W:World,Below W5.heap.size W5 W->EvsAt W ra row):=fun W h=>HEV.out W (HOJ.out.trans (.of_below (hb5.trans (h.mono hb5.size))))
   have hB9:Below W5.heap.size W5 W5.drew:=(Below.refl _ _).drew
   have hBA:Below W5.heap.size W5 (W5.alloc (.cells #[] 112)).drew:=(Zaa W5 _).drew
   have hBE:Below W5.heap.size W5 (W5.alloc (.cells #[.int .i64 e.thread,.int .i64 e.kind,.int .i64 e.obj,.bool e.fail] 112)).drew:=(Zaa W5 _).drew
   have hBAE:Below W5.heap.size W5 ((W5.alloc (.cells #[] 112)).alloc (.cells #[.int .i64 e.thread,.int .i64 e.kind,.int .i64 e.obj,.bool e.fail] 112)).drew:=(Zak W5 _ _).drew
   have hBEA:Below W5.heap.size W5 ((W5.alloc (.cells #[.int .i64 e.thread,.int .i64 e.kind,.int .i64 e.obj,.bool e.fail] 112)).alloc (.cells #[] 112)).drew:=(Zak W5 _ _).drew
   have HWY:=Lib.hid (ways W5 e)
   have hzl:([]:List Ev).length+row.length<=1000000:=by simp;omega
   have hzl2:row.length+[e].length<=1000000:=by simp;omega
   clear hrw hrl HBX HR5 HST hfu HSTEP HCY HBY HSJ HOJ HO2J HOK1 HP1 hnb hntb ct hbl
   go_wp2_with fail
   go_region_held3 (fun W=>W.cell? ⟨W4.heap.size,0,none⟩=some (.int .i64 e.thread)/\W.cell? ⟨W4.heap.size,1,none⟩=some (.int .i64 e.kind)/\W.cell? ⟨W4.heap.size,2,none⟩=some (.int .i64 e.obj)/\W.cell? ⟨W4.heap.size,3,none⟩=some (.bool e.fail))
    (first|exact HQ.out _ hB9|exact HQ.out _ hBA|exact HQ.out _ hBE|exact HQ.out _ hBAE|exact HQ.out _ hBEA|exact HQ.out _ hB6|exact HQ.out _ (hB6.alloc hB6.size _)|exact HQ.out _ hB7|exact HQ8.out)
    (first
     |(refine Zcr (w:=(W5.alloc (.cells #[] 112)).drew) (by rfl) (.tmp 98) (.tmp 99) (by rfl) W5.heap.size _ [] (by rfl) HWY.out.a ra rcap row (by rfl) (HEB.out _ hBA) HRA.out hzl hBA.size ?_;intro v6 w6 h6 hb6 hg6;have H6:Hid (OwnE w6 W5.heap.size v6 row):=h6;have hB6:Below W5.heap.size W5 w6:=hBA.trans hb6;clear h6 hb6 hg6)
     |(refine Zcr (w:=((W5.alloc (.cells #[] 112)).alloc (.cells #[.int .i64 e.thread,.int .i64 e.kind,.int .i64 e.obj,.bool e.fail] 112)).drew) (by rfl) (.tmp 98) (.tmp 99) (by rfl) W5.heap.size _ [] (by rfl) HWY.out.b ra rcap row (by rfl) (HEB.out _ hBAE) HRA.out hzl hBAE.size ?_;intro v6 w6 h6 hb6 hg6;have H6:Hid (OwnE w6 W5.heap.size v6 row):=h6;have hB6:Below W5.heap.size W5 w6:=hBAE.trans hb6;have HT6:=Lib.hid (HWY.out.bt.grown hg6 (by simp[Value.ownBlock]));clear h6 hb6 hg6)
     |(refine Zcr (w:=((W5.alloc (.cells #[.int .i64 e.thread,.int .i64 e.kind,.int .i64 e.obj,.bool e.fail] 112)).alloc (.cells #[] 112)).drew) (by rfl) (.tmp 98) (.tmp 99) (by rfl) W5.heap.size _ [] (by rfl) HWY.out.c ra rcap row (by rfl) (HEB.out _ hBEA) HRA.out hzl hBEA.size ?_;intro v6 w6 h6 hb6 hg6;have H6:Hid (OwnE w6 W5.heap.size v6 row):=h6;have hB6:Below W5.heap.size W5 w6:=hBEA.trans hb6;have HT6:=Lib.hid (HWY.out.ct.grown hg6 (by simp[Value.ownBlock]));clear h6 hb6 hg6)
     |(refine Zcr (w:=w6) (by rfl) (.tmp 100) (.tmp 102) (by rfl) W5.heap.size _ row (by rfl) H6.out (some ⟨_,0,none⟩) 1 [e] (by rfl) HT6.out (by intro h;cases h) hzl2 hB6.size ?_;intro v7 w7 h7 hb7 _;have hB7:Below W5.heap.size W5 w7:=hB6.trans hb7;obtain⟨a7,c7,hv7,hc7⟩:=HCALL.out w7 v7 hB7 h7;subst hv7;have HC7:=Lib.hid hc7;clear h7 hb7 hc7)
     |(refine Zcr (w:=w6.alloc (.cells #[.int .i64 e.thread,.int .i64 e.kind,.int .i64 e.obj,.bool e.fail] 112)) (by rfl) (.tmp 100) (.tmp 102) (by rfl) W5.heap.size _ row (by rfl) (OwnE.alloc H6.out _) (some ⟨w6.heap.size,0,none⟩) 1 [e] (by rfl) (Zi8 w6 e) (by intro h;cases h) hzl2 (hB6.alloc hB6.size _).size ?_;intro v7 w7 h7 hb7 _;have hB7:Below W5.heap.size W5 w7:=(hB6.alloc hB6.size _).trans hb7;obtain⟨a7,c7,hv7,hc7⟩:=HCALL.out w7 v7 hB7 h7;subst hv7;have HC7:=Lib.hid hc7;clear h7 hb7 hc7)
     |(go_at_call 32;((with_reducible refine HC7.out.mono ?_);rintro r w8⟨rfl,z,hz1,hz2,hz3,hz4,hz5⟩;have HZ1:=Lib.hid hz1;have HZ2:=Lib.hid hz2;have HZ3:=Lib.hid hz3;have HZ4:=Lib.hid hz4;have HQ8:=Lib.hid hz5.cells;clear hz1 hz2 hz3 hz4 hz5)))
   all_goals go_wp2_with fail
   all_goals go_roundw
   all_goals first
    |exact⟨j+1,z,by omega,by go_num,HZ2.out,HZ1.out,HZ3.out,HZ4.out⟩
    |(simp[intOf];omega)
  ·obtain rfl:j=s.all.length:=by omega
   have HP:=Lib.hid (ovJ_all hx HAL.out hal HJ.out)
   go_wp2_with fail
   go_end0
   exact⟨rfl,_,HSJ.out,HP.out,HOJ.out⟩
theorem over_any{W0:World}{F B mb most:Nat}(hwm:W0.heap.size<=mb)(hm:mb<B)(hmost:most<=1000):∀n,OverH W0 F B mb n most:=by
 intro n
 induction n with
 |zero=>
  intro s row w b tb a cap tcap ra rcap x ok hf hl hr hth hw0 he hra hrm hs hb hc hB hbm htm
  by_cases h:x.c<most
  ·exact over_end 0 most s row w b tb a cap tcap ra rcap x ok (all_none (by omega)) hr hth hw0 hwm he hrm hs hb hc hB hm hbm htm h hmost
  ·exact Zka 0 most s row w b ra rcap x hm hs hb hc (by omega)
 |succ n ih=>
  intro s row w b tb a cap tcap ra rcap x ok hf hl hr hth hw0 he hra hrm hs hb hc hB hbm htm
  by_cases h:x.c<most
  ·by_cases hall:s.all=[]
   ·exact over_end (n+1) most s row w b tb a cap tcap ra rcap x ok hall hr hth hw0 hwm he hrm hs hb hc hB hm hbm htm h hmost
   ·exact over_step n most ih s row w b tb a cap tcap ra rcap x ok hall hf hl hr hth hw0 hwm he hra hrm hs hb hB hm hbm htm h hmost
  ·exact Zka (n+1) most s row w b ra rcap x hm hs hb hc (by omega)
def ZbN:Value:=.agg #[.slice none 0 0,.int .i64 0,.int .i64 0,.int .i64 0]
def OwnT(w:World)(B:Nat)(v:Value)(ks:List Key):Prop:=Zae w B 9 1 Zai v ks
theorem OwnT.base{w:World}{B B':Nat}{v:Value}{ks:List Key}(h:OwnT w B v ks)(hb:B'<=B):OwnT w B' v ks:=by
 obtain⟨h1,h2|⟨g,cap,cur,h2,h3,h4⟩⟩:=h
 ·exact⟨h1,.inl h2⟩
 ·exact⟨h1,.inr ⟨g,cap,cur,h2,by omega,h4⟩⟩
def Zhj(p:Pg)(fuel:Int)(most:Nat)(w:World)(r:Ending)(w':World):Prop:=
 (if okPg p fuel then (preW p fuel<=most/\∃v,r=.returned (.tuple #[.agg #[v,.int .i64 ((runsW p fuel).length:Nat),.int .i64 (preW p fuel:Nat),.int .i64 (Za9 (runsW p fuel):Nat)],.int .i64 0])/\OwnT w' w.heap.size v (sortK (Zau (runsW p fuel))))∨(most<preW p fuel/\r=.returned (.tuple #[ZbN,.int .i64 5]))
 else r=.returned (.tuple #[ZbN,.int .i64 1]))/\Below w.heap.size w w'
theorem sum6_cells(w:World)(o:Obj):∀j,j<4->((w.alloc o).alloc (.cells #[.slice none 0 0,.int .i64 0,.int .i64 0,.int .i64 0] 32)).cell? ⟨w.heap.size+1,j,none⟩=#[Value.slice none 0 0,.int .i64 0,.int .i64 0,.int .i64 0][j]?/\((w.alloc o).alloc (.cells #[.slice none 0 0,.int .i64 0,.int .i64 0,.int .i64 0] 32)).frozen? ⟨w.heap.size+1,j,none⟩=false:=by
 intro j hj
 have h:=heap_alloc_new (w.alloc o) (.cells #[.slice none 0 0,.int .i64 0,.int .i64 0,.int .i64 0] 32)
 rw[World.size_alloc]at h
 refine⟨?_,?_⟩
 ·unfold World.cell?
  dsimp only
  rw[h]
  rfl
 ·unfold World.frozen?
  dsimp only
  rw[h]
  rfl
def setS4(w:World)(g:Nat)(v0 v1 v2 v3:Value):World:=(((w.setCell ⟨g,0,none⟩ v0).setCell ⟨g,1,none⟩ v1).setCell ⟨g,2,none⟩ v2).setCell ⟨g,3,none⟩ v3
theorem row_setS4{w:World}{B g:Nat}{v:Value}{ks:List Key}(h:OwnT w B v ks)(hg:g<B)(v0 v1 v2 v3:Value):OwnT (setS4 w g v0 v1 v2 v3) B v ks:=
 ownsRow_setCell_below (a:=⟨g,3,none⟩) (ownsRow_setCell_below (a:=⟨g,2,none⟩) (ownsRow_setCell_below (a:=⟨g,1,none⟩) (ownsRow_setCell_below (a:=⟨g,0,none⟩) h hg v0) hg v1) hg v2) hg v3
theorem Zgx(p:Pg)(a:Option Addr)(cap:Nat)(fuel:Int)(most:Nat)(w:World)(hp:Zaf w a p.threads)(hmost:most<=1000):
  Calls Tryz.prog 13 #[.agg #[.int .i64 p.vars,.int .i64 p.mutexes,.slice a p.threads.length cap],.int .i64 fuel,.int .i64 (most:Int)] w (Zhj p fuel most w):=by
 have HP:=Lib.hid hp
 clear hp
 go_enter Tryz.func13,Tryz.ntmps13
 go_wp2_with fail
 have hb2:Below w.heap.size w ((w.alloc (.cells #[.int .i64 p.vars,.int .i64 p.mutexes,.slice a p.threads.length cap] 24)).alloc (.cells #[.slice none 0 0,.int .i64 0,.int .i64 0,.int .i64 0] 32)):=Zak w _ _
 have hz2:((w.alloc (.cells #[.int .i64 p.vars,.int .i64 p.mutexes,.slice a p.threads.length cap] 24)).alloc (.cells #[.slice none 0 0,.int .i64 0,.int .i64 0,.int .i64 0] 32)).heap.size=w.heap.size+2:=by rw[World.size_alloc,World.size_alloc]
 have hsc:=sum6_cells w (.cells #[.int .i64 p.vars,.int .i64 p.mutexes,.slice a p.threads.length cap] 24)
 generalize ((w.alloc (.cells #[.int .i64 p.vars,.int .i64 p.mutexes,.slice a p.threads.length cap] 24)).alloc (.cells #[.slice none 0 0,.int .i64 0,.int .i64 0,.int .i64 0] 32))=W2 at *
 have HSC:Hid (∀W,Below W2.heap.size W2 W->(W.cell? ⟨w.heap.size+1,0,none⟩=some (.slice none 0 0)/\W.cell? ⟨w.heap.size+1,1,none⟩=some (.int .i64 0)/\W.cell? ⟨w.heap.size+1,2,none⟩=some (.int .i64 0)/\W.cell? ⟨w.heap.size+1,3,none⟩=some (.int .i64 0))/\W.frozen? ⟨w.heap.size+1,0,none⟩=false/\W.frozen? ⟨w.heap.size+1,1,none⟩=false/\W.frozen? ⟨w.heap.size+1,2,none⟩=false/\W.frozen? ⟨w.heap.size+1,3,none⟩=false):=fun W h=>
  have hl:w.heap.size+1<W2.heap.size:=by omega
  ⟨⟨Zab h (hsc 0 (by omega)).1,Zab h (hsc 1 (by omega)).1,Zab h (hsc 2 (by omega)).1,Zab h (hsc 3 (by omega)).1⟩,(h.frozen (p:=⟨w.heap.size+1,0,none⟩) hl).trans (hsc 0 (by omega)).2,(h.frozen (p:=⟨w.heap.size+1,1,none⟩) hl).trans (hsc 1 (by omega)).2,(h.frozen (p:=⟨w.heap.size+1,2,none⟩) hl).trans (hsc 2 (by omega)).2,(h.frozen (p:=⟨w.heap.size+1,3,none⟩) hl).trans (hsc 3 (by omega)).2⟩
 have HSET:Hid (∀v0 v1 v2 v3 (W:World),Below W2.heap.size W2 W->Below w.heap.size w (setS4 W (w.heap.size+1) v0 v1 v2 v3)):=fun v0 v1 v2 v3 W h=>
  ((((hb2.trans (h.mono hb2.size)).setCell (p:=⟨w.heap.size+1,0,none⟩) (by show _<=w.heap.size+1;omega) _).setCell (p:=⟨w.heap.size+1,1,none⟩) (by show _<=w.heap.size+1;omega) _).setCell (p:=⟨w.heap.size+1,2,none⟩) (by show _<=w.heap.size+1;omega) _).setCell (p:=⟨w.heap.size+1,3,none⟩) (by show _<=w.heap.size+1;omega) _
 have HAR:Hid (∀r w',Zhj p fuel most w r w'↔(if okPg p fuel then (preW p fuel<=most/\∃v,r=.returned (.tuple #[.agg #[v,.int .i64 ((runsW p fuel).length:Nat),.int .i64 (preW p fuel:Nat),.int .i64 (Za9 (runsW p fuel):Nat)],.int .i64 0])/\OwnT w' w.heap.size v (sortK (Zau (runsW p fuel))))∨(most<preW p fuel/\r=.returned (.tuple #[ZbN,.int .i64 5]))
  else r=.returned (.tuple #[ZbN,.int .i64 1]))/\Below w.heap.size w w'):=fun _ _=>Iff.rfl
 clear hsc
 by_cases hok:okPg p fuel
 ·obtain⟨hr,h0,h8⟩:=hok
  obtain⟨F,rfl⟩:∃F:Nat,fuel=F:=⟨fuel.toNat,by omega⟩
  have HOK:Hid (okPg p (F:Int)):=⟨hr,h0,h8⟩
  have HSO:Hid (St.Ok F (s0 p (F:Int))):=by have h:=new_ok hr F (by omega);exact h
  refine(refNew_yes p a cap F W2 (HP.out.later hb2) hr (by omega)).mono ?_
  rintro r W3⟨b,tb,tcap,rfl,hb,htb,hra,hb3⟩
  have HR3:Hid (RefAt W3 b tb a cap tcap (s0 p (F:Int))):=hra
  have hlt:=hra.lt
  have HT3:=Lib.hid ((HP.out.later hb2).later hb3)
  clear hra hr h0 h8
  go_wp2_with fail
  have hm0:SumAt (W3.alloc (.cells #[.slice none 0 0,.int .i64 0,.int .i64 0,.int .i64 0] 32)) W3.heap.size (W3.heap.size+1) ⟨[],0,0,0⟩:=⟨none,0,heap_alloc_new W3 _,Za5 _ _ _ _ _⟩
  have hb4:=Zaa W3 (.cells #[.slice none 0 0,.int .i64 0,.int .i64 0,.int .i64 0] 32)
  have hz4:(W3.alloc (.cells #[.slice none 0 0,.int .i64 0,.int .i64 0,.int .i64 0] 32)).heap.size=W3.heap.size+1:=World.size_alloc _ _
  generalize W3.alloc (.cells #[.slice none 0 0,.int .i64 0,.int .i64 0,.int .i64 0] 32)=W4 at *
  have hf:=Zfn HSO.out
  have hbd:BdS ⟨[],0,0,0⟩:=⟨Nat.le_refl _,Nat.le_refl _,Nat.le_refl _⟩
  have HC:=Lib.hid (over_any (W0:=W3) (F:=F) (B:=W3.heap.size+1) (mb:=W3.heap.size) (most:=most) (Nat.le_refl _) (Nat.lt_succ_self _) hmost 33 (s0 p (F:Int)) [] W4 b tb a cap tcap none 0 ⟨[],0,0,0⟩ HSO.out (by omega) (by simp) (HR3.out.later hb4) HT3.out hb4 (ZkJ _ _) (fun _=>⟨rfl,rfl⟩) (fun o h=>by cases h) hm0 hbd (by simp) (by omega) (by omega) (by omega))
  have hn0:([]:List Ev).length=0:=rfl
  rw[hn0]at HC
  clear hm0 hbd
  refine HC.out.mono ?_
  rintro r W5⟨rfl,y,hy1,hy2,hy3⟩
  have hb5:Below W2.heap.size W2 W5:=hb3.trans ((hb4.trans (hy3.below (Nat.le_refl _) (by omega))).mono hb3.size)
  have hPW:preW p (F:Int)=(s0 p (F:Int)).pre 33:=rfl
  obtain⟨y1,y2,_,_,_⟩:=hy2
  rw[<-hPW]at y1 y2
  dsimp only at y1 y2
  rw[Nat.zero_add]at y1 y2
  obtain⟨ka,kc,⟨d0,d1,d2,d3⟩,⟨g0,g1,g2,g3⟩,hown⟩:=hy1.cells
  obtain⟨⟨x0,x1,x2,x3⟩,f0,f1,f2,f3⟩:=HSC.out W5 hb5
  have hne:W3.heap.size≠w.heap.size+1:=by have:=hb3.size;omega
  by_cases hle:preW p (F:Int)<=most
  ·obtain⟨e1,e2,e3,e4⟩:=y1 hle
   have e2':y.k=sortK (Zau (runsW p (F:Int))):=by rw[e2];exact ZdE _
   have e3':y.r=(runsW p (F:Int)).length:=by rw[e3];exact Nat.zero_add _
   have e4':y.st=Za9 (runsW p (F:Int)):=by rw[e4];exact Nat.zero_add _
   have hq:decide (most<y.c)=false:=by simp;omega
   have HOW:Hid (OwnT W5 (W3.heap.size+1) (.slice ka y.k.length kc) y.k):=hown
   have HF:Hid (Zhj p (F:Int) most w (.returned (.tuple #[.agg #[.slice ka y.k.length kc,.int .i64 (y.r:Int),.int .i64 (y.c:Int),.int .i64 (y.st:Int)],.int .i64 0])) (setS4 W5 (w.heap.size+1) (.slice ka y.k.length kc) (.int .i64 (y.r:Int)) (.int .i64 (y.c:Int)) (.int .i64 (y.st:Int)))):=by
    refine(HAR.out _ _).2 ⟨?_,HSET.out _ _ _ _ W5 hb5⟩
    rw[if_pos HOK.out]
    refine .inl ⟨hle,.slice ka y.k.length kc,by rw[e3',e4',e1],?_⟩
    rw[<-e2']
    exact(row_setS4 HOW.out (by have:=hb3.size;omega) _ _ _ _).base (by have:=hb3.size;omega)
   unfold setS4 at HF
   clear hy1 y1 y2 hown e1 e2 e3 e4 e2' e3' e4' hle HAR
   go_wp2_with fail
   refine bodyPost_ret (v:=.tuple #[.agg #[.slice ka y.k.length kc,.int .i64 (y.r:Int),.int .i64 (y.c:Int),.int .i64 (y.st:Int)],.int .i64 0]) (by simp[results,Tryz.results13,go_sem,x0,x1,x2,x3]) rfl ?_
   exact HF.out
  ·have hlt':=y2 (by omega)
   have hq:decide (most<y.c)=true:=by simp;omega
   have HF:Hid (Zhj p (F:Int) most w (.returned (.tuple #[ZbN,.int .i64 5])) (setS4 W5 (w.heap.size+1) (.slice none 0 0) (.int .i64 0) (.int .i64 0) (.int .i64 0))):=by
    refine(HAR.out _ _).2 ⟨?_,HSET.out _ _ _ _ W5 hb5⟩
    rw[if_pos HOK.out]
    exact .inr ⟨by omega,rfl⟩
   unfold setS4 at HF
   clear hy1 y1 y2 hown hlt' HAR
   go_wp2_with fail
   refine bodyPost_ret (v:=.tuple #[ZbN,.int .i64 5]) (by simp[results,Tryz.results13,go_sem,ZbN,x0,x1,x2,x3]) rfl ?_
   exact HF.out
 ·have HC:=Lib.hid (refNew_no p a cap fuel W2 (HP.out.later hb2) hok)
  have HNO:=Lib.hid hok
  clear hok
  refine HC.out.mono ?_
  rintro r W3⟨rfl,hb3⟩
  obtain⟨⟨x0,x1,x2,x3⟩,f0,f1,f2,f3⟩:=HSC.out W3 hb3
  have HF:Hid (Zhj p fuel most w (.returned (.tuple #[ZbN,.int .i64 1])) (setS4 W3 (w.heap.size+1) (.slice none 0 0) (.int .i64 0) (.int .i64 0) (.int .i64 0))):=by
   refine(HAR.out _ _).2 ⟨?_,HSET.out _ _ _ _ W3 hb3⟩
   rw[if_neg HNO.out]
  unfold setS4 at HF
  clear HAR
  go_wp2_with fail
  refine bodyPost_ret (v:=.tuple #[ZbN,.int .i64 1]) (by simp[results,Tryz.results13,go_sem,ZbN,x0,x1,x2,x3]) rfl ?_
  exact HF.out
def fewPg(p:Pg):Bool:=p.threads.all (fun l=>decide (l.length<=50))&&decide (p.threads.length<=20)
theorem few_any(p:Pg)(a:Option Addr)(cap:Nat)(w:World)(hp:Zaf w a p.threads):
  Calls Tryz.prog 25 #[pgV p a cap] w fun r w'=>r=.returned (.bool (fewPg p))/\Below w.heap.size w w':=by
 obtain⟨V,M,ts⟩:=p
 unfold pgV
 dsimp only at *
 have hm:=hp.1
 unfold maxLen at hm
 have HL:=Lib.hid hp
 clear hp
 go_enter Tryz.func25,Tryz.ntmps25
 go_wp2
 go_loop [3] (fun i=>∃k:Nat,k<=ts.length/\i=.int .i64 k/\Hid ((ts.take k).all (fun l=>decide (l.length<=50))=true)) (fun i=>ts.length-(intOf i).toNat)
 case atStart=>exact⟨0,Nat.zero_le _,rfl,rfl⟩
 case round=>
  obtain⟨k,hk,rfl,hall⟩:=hrel
  by_cases hlt:k<ts.length
  ·obtain⟨b,o,rfl,hc⟩:=HL.out.2 (by intro e;simp[e]at hlt)
   obtain⟨c,ccap,c0,c1,_⟩:=hc k hlt
   have hz:=Zan c0
   dsimp only at hz
   have ht:(ts.take (k+1))=ts.take k++[ts[k]]:=List.take_succ_eq_append_getElem hlt
   have hcm:=c1.1
   unfold maxLen at hcm
   clear c1 hc
   by_cases h50:50<ts[k].length
   ·have HR:Hid (fewPg ⟨V,M,ts⟩=false):=by
     show _=_
     unfold fewPg
     dsimp only
     rw[Bool.and_eq_false_iff,List.all_eq_false];exact .inl ⟨ts[k],List.getElem_mem _,by simp;omega⟩
    clear ht
    go_wp2
    go_ret
    exact⟨Zag HR.out.symm,Zaa _ _⟩
   ·have HR:Hid ((ts.take (k+1)).all (fun l=>decide (l.length<=50))=true):=by
     show _=_
     rw[ht,List.all_append,hall.out];simp;omega
    clear ht
    go_wp2
    go_round
    case rel=>exact⟨k+1,by omega,by go_num,HR⟩
    case measure=>simp[intOf];omega
  ·obtain rfl:k=ts.length:=by omega
   have HR:Hid (fewPg ⟨V,M,ts⟩=decide (ts.length<=20)):=by
    show _=_
    have:=hall.out
    rw[List.take_length]at this
    unfold fewPg
    dsimp only
    rw[this,Bool.true_and]
   go_wp2
   go_ret
   exact⟨Zag (by rw[HR.out];simp;omega),Zaa _ _⟩
def Zbw(p:Pg)(fuel:Int):Bool:=fewPg p&&Zal p&&decide (0<=fuel/\fuel<=8)&&decide (preW p fuel<=600)
theorem Zdx{p:Pg}{fuel:Int}(h:Zbw p fuel=true):fewPg p=true/\okPg p fuel/\preW p fuel<=600:=by
 unfold Zbw at h
 simp only[Bool.and_eq_true,decide_eq_true_eq]at h
 exact⟨h.1.1.1,⟨h.1.1.2,h.1.2⟩,h.2⟩
theorem Zdy(p:Pg)(a:Option Addr)(cap:Nat)(fuel:Int)(w:World)(hp:Zaf w a p.threads):
  Calls Tryz.prog 11 #[.agg #[.int .i64 p.vars,.int .i64 p.mutexes,.slice a p.threads.length cap],.int .i64 fuel] w fun r w'=>r=.returned (.bool (Zbw p fuel))/\Below w.heap.size w w':=by
 have HP:=Lib.hid hp
 have HF:Hid (∀W,Below w.heap.size w W->Calls Tryz.prog 25 #[.agg #[.int .i64 p.vars,.int .i64 p.mutexes,.slice a p.threads.length cap]] W fun r w'=>r=.returned (.bool (fewPg p))/\Below W.heap.size W w'):=fun W h=>few_any p a cap W (hp.later h)
 have HR:Hid (∀W,Below w.heap.size w W->Calls Tryz.prog 26 #[.agg #[.int .i64 p.vars,.int .i64 p.mutexes,.slice a p.threads.length cap]] W fun r w'=>r=.returned (.bool (Zal p))/\Below W.heap.size W w'):=fun W h=>Zb4 p a cap W (hp.later h)
 have HS:Hid (Zbw p fuel=(fewPg p&&Zal p&&decide (0<=fuel/\fuel<=8)&&decide (preW p fuel<=600))):=rfl
 have hb1:Below w.heap.size w (w.alloc (.cells #[.int .i64 p.vars,.int .i64 p.mutexes,.slice a p.threads.length cap] 24)):=Zaa w _
 clear hp
 go_enter Tryz.func11,Tryz.ntmps11
 go_wp2_with fail
 refine(HF.out _ hb1).mono ?_
 rintro r w2⟨rfl,hb2⟩
 have hb3:=hb1.trans (hb2.mono hb1.size)
 have c2:w2.cell? ⟨w.heap.size,0,none⟩=some (.int .i64 p.vars):=Zab hb2 (by simp)
 have c3:w2.cell? ⟨w.heap.size,1,none⟩=some (.int .i64 p.mutexes):=Zab hb2 (by simp)
 have c4:w2.cell? ⟨w.heap.size,2,none⟩=some (.slice a p.threads.length cap):=Zab hb2 (by simp)
 clear hb1
 cases hf:fewPg p
 ·have HN:Hid (Zbw p fuel=false):=by show _=_;rw[HS.out,hf];rfl
  clear hf
  go_wp2_with fail
  go_ret
  exact⟨Zag HN.out.symm,hb3⟩
 ·have HFW:=Lib.hid hf
  clear hf
  go_wp2_with fail
  refine(HR.out _ hb3).mono ?_
  rintro r w4⟨rfl,hb4⟩
  have hb5:=hb3.trans (hb4.mono hb3.size)
  have d2:=Zab hb4 c2
  have d3:=Zab hb4 c3
  have d4:=Zab hb4 c4
  clear hb2 hb3 hb4 c2 c3 c4
  cases hr:Zal p
  ·have HN:Hid (Zbw p fuel=false):=by show _=_;rw[HS.out,hr];simp
   clear hr
   go_wp2_with fail
   go_ret
   exact⟨Zag HN.out.symm,hb5⟩
  ·have HRG:=Lib.hid hr
   clear hr
   by_cases h0:fuel<0
   ·have q0:decide (fuel<0)=true:=by simpa using h0
    have HN:Hid (Zbw p fuel=false):=by show _=_;rw[HS.out];simp;intro _ _ h;omega
    go_wp2_with fail
    go_ret
    exact⟨Zag HN.out.symm,hb5⟩
   ·have q0:decide (fuel<0)=false:=by simpa using h0
    by_cases h8:8<fuel
    ·have q8:decide (8<fuel)=true:=by simpa using h8
     have HN:Hid (Zbw p fuel=false):=by show _=_;rw[HS.out];simp;intro _ _ _ h;omega
     go_wp2_with fail
     go_ret
     exact⟨Zag HN.out.symm,hb5⟩
    ·have q8:decide (8<fuel)=false:=by simpa using h8
     have HOK:Hid (okPg p fuel):=⟨HRG.out,by omega,by omega⟩
     have HRA:=Lib.hid (Zgx p a cap fuel 600 w4 (HP.out.later hb5) (by omega))
     have HD:Hid (Zbw p fuel=decide (preW p fuel<=600)):=by
      show _=_
      rw[HS.out,HFW.out,HRG.out]
      have:decide (0<=fuel/\fuel<=8)=true:=by simp;omega
      rw[this]
      rfl
     go_wp2_with fail
     refine HRA.out.mono ?_
     rintro r w6⟨h,hb6⟩
     rw[if_pos HOK.out]at h
     have hb7:=hb5.trans (hb6.mono hb5.size)
     have hz7:=hb7.size
     rcases h with ⟨h1,v,rfl,h2⟩|⟨h1,rfl⟩
     ·have HN:Hid (Zbw p fuel=true):=by show _=_;rw[HD.out];simpa using h1
      obtain⟨av,cv,rfl,_⟩:=Zae.form h2 Zat (by have:=ZjJ (Zau (runsW p fuel));have:(Zau (runsW p fuel)).length=(runsW p fuel).length:=List.length_map _;have:=runs_le 33 (s0 p fuel) [];unfold preW at h1;unfold runsW at *;omega)
      clear h1 h2
      generalize (sortK (Zau (runsW p fuel))).length=N1 at *
      generalize (runsW p fuel).length=N2 at *
      generalize Za9 (runsW p fuel)=N3 at *
      generalize preW p fuel=N4 at *
      have HB:Hid (Below w.heap.size w (w6.alloc (.cells #[.slice av N1 cv,.int .i64 (N2:Int),.int .i64 (N4:Int),.int .i64 (N3:Int)] 32))):=hb7.alloc hz7 _
      go_wp2_with fail
      go_ret
      exact⟨Zag HN.out.symm,HB.out⟩
     ·have HN:Hid (Zbw p fuel=false):=by show _=_;rw[HD.out];simp;omega
      have HB:Hid (Below w.heap.size w (w6.alloc (.cells #[.slice none 0 0,.int .i64 0,.int .i64 0,.int .i64 0] 32))):=hb7.alloc hz7 _
      unfold ZbN
      clear h1
      go_wp2_with fail
      go_ret
      exact⟨Zag HN.out.symm,HB.out⟩
theorem Zcy{p:Pg}{fuel:Int}{n:Nat}(h:preW p fuel<=n):(sortK (Zau (runsW p fuel))).length<=n/\(runsW p fuel).length<=n/\Za9 (runsW p fuel)<=n:=by
 have h1:=ZjJ (Zau (runsW p fuel))
 have h2:(Zau (runsW p fuel)).length=(runsW p fuel).length:=List.length_map _
 have h3:(runsW p fuel).length<=preW p fuel:=runs_le 33 (s0 p fuel) []
 have h4:Za9 (runsW p fuel)<=(runsW p fuel).length:=by
  unfold Za9
  exact Nat.le_trans (List.length_filter_le _ _) (Nat.le_refl _)
 omega
theorem Zmt(p:Pg)(a:Option Addr)(cap:Nat)(fuel:Int)(w:World)(hp:Zaf w a p.threads)(hok:okPg p fuel)(hle:preW p fuel<=600):Calls Tryz.prog 13 #[.agg #[.int .i64 p.vars,.int .i64 p.mutexes,.slice a p.threads.length cap],.int .i64 fuel,.int .i64 600] w
  fun r w'=>∃v c,r=.returned (.tuple #[.agg #[.slice v (sortK (Zau (runsW p fuel))).length c,.int .i64 ((runsW p fuel).length:Nat),.int .i64 (preW p fuel:Nat),.int .i64 (Za9 (runsW p fuel):Nat)],.int .i64 0])/\RowAt w' v 1 Zai (sortK (Zau (runsW p fuel)))/\Below w.heap.size w w':=
 (Zgx p a cap fuel 600 w hp (by omega)).mono fun r w' ⟨h1,h2⟩=>by
  rw[if_pos hok]at h1
  rcases h1 with ⟨_,v,h3,h4⟩|⟨h3,_⟩
  ·obtain⟨av,cv,rfl,h5,_⟩:=Zae.form h4 Zat (by have:=(Zcy hle).1;omega)
   exact⟨av,cv,h3,h5,h2⟩
  ·omega
def Zhi(w:World)(b:Nat)(vs:Array Value):Prop:=w.heap[b]?=some (.cells vs 32 (0,0))
theorem Zhi.later{w w':World}{b:Nat}{vs:Array Value}(h:Zhi w b vs)(hb:Below w.heap.size w w'):Zhi w' b vs:=(hb.block b (Array.getElem?_eq_some_iff.1 h).1).trans h
theorem Zhi.at_{w:World}{b:Nat}{vs:Array Value}(h:Zhi w b vs)(j:Nat){v:Value}(hv:vs[j]?=some v):w.cell? ⟨b,j,none⟩=some v:=by rw[cell_of_row w b j _ _ _ h,hv]
theorem ZcY(a a':Option Addr)(cap cap':Nat)(ks ms:List Key)(w:World)(hl:RowAt w a 1 Zai ks)(hl':RowAt w a' 1 Zai ms)(hm:ks.length<=1000000)(hm':ms.length<=1000000):
  Calls Tryz.prog 20 #[.slice a ks.length cap,.slice a' ms.length cap'] w fun r w'=>r=.returned (.bool (decide (ks=ms)))/\∃i,w'=w.drewN i:=by
 have HL:=Lib.hid hl
 have HL':=Lib.hid hl'
 clear hl hl'
 by_cases hne:ks.length=ms.length
 case neg=>
  have hq:((ks.length:Int) != ms.length)=true:=by simp;omega
  have H:Hid (decide (ks=ms)=false):=by show _=_;simp;intro e;exact hne (by rw[e])
  clear hne
  go_enter Tryz.func20,Tryz.ntmps20
  go_wp2
  go_ret
  exact⟨Zag H.out.symm,0,rfl⟩
 have HE:=Lib.hid hne
 have hq:((ks.length:Int) != ms.length)=false:=by simp[hne]
 have hm2:ks.length<=ms.length:=by omega
 have hm3:ms.length<=ks.length:=by omega
 clear hne
 go_enter Tryz.func20,Tryz.ntmps20
 go_wp2
 clear hq
 go_loopw [5] (fun i wr=>∃k:Nat,k<=ks.length/\i=.int .i64 k/\Hid (ks.take k=ms.take k)/\Hid (Below w.heap.size w wr)/\∃q,wr=w.drewN q) (fun i _=>ks.length-(intOf i).toNat)
 case atStart=>exact⟨0,Nat.zero_le _,rfl,rfl,Below.refl _ _,0,rfl⟩
 case round=>
  obtain⟨k,hk,rfl,HT,HB,q,hwq⟩:=hrel
  have HWQ:=Lib.hid hwq
  clear hwq
  by_cases hlt:k<ks.length
  ·have hlt':k<ms.length:=by omega
   obtain⟨b,o,rfl,t0⟩:=HL.out.str hlt
   obtain⟨b',o',rfl,t0'⟩:=HL'.out.str hlt'
   have c0:=Zab HB.out t0
   have c0':=Zab HB.out t0'
   clear t0 t0'
   have hx1:Hid (ks[k]=ms[k]->ks.take (k+1)=ms.take (k+1)):=fun h=>Zhy hlt hlt' HT.out h
   have hx2:Hid (ks[k]≠ms[k]->decide (ks=ms)=false):=fun h=>by simp;rintro rfl;exact h rfl
   generalize ks[k]=x at *
   generalize ms[k]=y at *
   by_cases hxy:x=y
   ·have hq:(x==y)=true:=by simp[hxy]
    have HN:=Lib.hid (hx1.out hxy)
    clear hxy hx1 hx2
    go_wp2_with fail
    go_quiet (fail)
    go_wp2
    go_roundw
    case rel=>exact⟨k+1,by omega,by go_num,HN.out,HB.out.drewN,q+nq,by rw[HWQ.out,World.drewN_drewN]⟩
    case measure=>simp[intOf];omega
   ·have hq:(x==y)=false:=by simp[hxy]
    have HN:=Lib.hid (hx2.out hxy)
    clear hxy hx1 hx2
    go_wp2_with fail
    go_quiet (fail)
    go_wp2
    go_ret
    exact⟨Zag HN.out.symm,q+nq,by rw[HWQ.out,World.drewN_drewN]⟩
  ·obtain rfl:k=ks.length:=by omega
   have H:Hid (decide (ks=ms)=true):=by
    show _=_
    have:=HT.out
    rw[List.take_length,List.take_of_length_le hm3]at this
    simpa using this
   go_wp2
   go_ret
   exact⟨Zag H.out.symm,q,HWQ.out⟩
theorem Zbk(oa:Option Addr)(n oc:Nat)(w:World):Calls Tryz.prog 12 #[.slice oa n oc] w fun r w'=>r=.returned (.bool (decide (n<=400)))/\w'=w:=by
 go_enter Tryz.func12,Tryz.ntmps12
 go_wp2
 go_ret
 exact⟨by simp;omega,rfl⟩
theorem Zbg{P:Program}{f:FuncId}{args:Array Value}{w:World}{v:Value}(h:∀k,Calls P f args (w.drewN k) fun r w'=>r=.returned v/\∃i,w'=(w.drewN k).drewN i)(k:Nat):Calls P f args (w.drewN k) fun r w'=>r=.returned v/\∃i,w'=w.drewN i:=
 (h k).mono fun r w' ⟨e,i,e2⟩=>⟨e,k+i,by rw[e2,World.drewN_drewN]⟩
section
variable{I:MachI}{w wr w':World}{B b W Bud:Nat}{p:Pg}{fuel:Int}{S:Nat->Prop}{m:Mac}
theorem RunI.mmQ(h:RunI I w B b p fuel W Bud S m wr)(k:Nat):∃S',I.MM (wr.drewN k) B b p fuel W Bud S' m:=by
 obtain⟨S',h1,_⟩:=h.mm
 exact⟨S',I.later h1 (Below.refl _ _).drewN⟩
theorem RunI.haltedQ(h:RunI I w B b p fuel W Bud S m wr)(k:Nat):Calls Tryz.prog 18 #[.pointer (some ⟨b,0,none⟩)] (wr.drewN k) fun r w'=>r=.returned (.bool (haltM W m))/\∃i,w'=wr.drewN i:=
 Zbg (fun k=>(h.mmQ k).elim fun _ h1=>I.halted h1) k
theorem RunI.completeQ(h:RunI I w B b p fuel W Bud S m wr)(k:Nat):Calls Tryz.prog 19 #[.pointer (some ⟨b,0,none⟩)] (wr.drewN k) fun r w'=>r=.returned (.bool (haltM W m && !m.over))/\∃i,w'=wr.drewN i:=
 Zbg (fun k=>(h.mmQ k).elim fun _ h1=>I.complete h1) k
theorem RunI.nodesQ(h:RunI I w B b p fuel W Bud S m wr)(k:Nat):Calls Tryz.prog 21 #[.pointer (some ⟨b,0,none⟩)] (wr.drewN k) fun r w'=>r=.returned (.int .i64 (m.l.length:Nat))/\∃i,w'=wr.drewN i:=
 Zbg (fun k=>(h.mmQ k).elim fun _ h1=>I.nodes h1) k
theorem RunI.claimsQ(h:RunI I w B b p fuel W Bud S m wr)(k:Nat):Calls Tryz.prog 22 #[.pointer (some ⟨b,0,none⟩)] (wr.drewN k) fun r w'=>r=.returned (.int .i64 (m.cl:Nat))/\∃i,w'=wr.drewN i:=
 Zbg (fun k=>(h.mmQ k).elim fun _ h1=>I.claims h1) k
theorem ZmB(hg:Zam p fuel=true):1<=preW p fuel:=by
 obtain⟨T,h⟩:=ZiN (p:=p) (fuel:=fuel) (W:=1) (B:=1) hg (by omega) (by omega)
 have h1:=(h.any hg).2.2
 have h2:=h.cl
 omega
theorem ZgT(h:okPg p fuel):Zam p fuel=true:=by
 obtain⟨h1,h2,h3⟩:=h
 unfold Zam
 simp[h1,h2,h3]
end
section
variable{p:Pg}{fuel:Int}{W Bud:Nat}{m:Mac}
theorem Zem(h:GoodM p fuel W Bud m)(z d:Int):((stepI p fuel W Bud z d m).1=0->(stepI p fuel W Bud z d m).2=m)/\(stepI p fuel W Bud z d m).2.cl=m.cl+(if (stepI p fuel W Bud z d m).1=3 then 1 else 0)/\((stepI p fuel W Bud z d m).1=5->haltM W (stepI p fuel W Bud z d m).2=true/\(stepI p fuel W Bud z d m).2.over=true)/\(haltM W m=true->(stepI p fuel W Bud z d m).1=0):=by
 obtain⟨T,hi⟩:=h.inv
 unfold stepI
 split
 ·obtain⟨h1,h2,_,_,h5,h6,_⟩:=Ze7 hi z.toNat d
  refine⟨h1,h2,fun e=>?_,h6⟩
  have h7:=(h5.1 e).2
  exact⟨by unfold haltM;rw[h7];rfl,h7⟩
 ·exact⟨fun _=>rfl,rfl,fun e=>(by cases e),fun _=>rfl⟩
theorem stepI_keys(h:GoodM p fuel W Bud m)(z d:Int):(stepI p fuel W Bud z d m).2.keys=m.keys∨((stepI p fuel W Bud z d m).1=3/\0<=z/\∃x,(stepI p fuel W Bud z d m).2.keys=updF m.keys z.toNat (m.keys z.toNat++[x])):=by
 obtain⟨T,hi⟩:=h.inv
 unfold stepI
 split
 ·rename_i hz
  obtain⟨_,_,h3,h4,_⟩:=Ze7 hi z.toNat d
  by_cases e:(stepM p fuel W Bud z.toNat d m).1=3
  ·rcases h3 with h3|h3
   ·exact .inl h3
   ·exact .inr ⟨e,hz,h3⟩
  ·exact .inl (h4 e)
 ·exact .inl rfl
theorem GoodM.any(h:GoodM p fuel W Bud m):(sortK (keysM W m.keys)).length=(keysM W m.keys).length/\(keysM W m.keys).length<=600/\(∀k∈sortK (keysM W m.keys),k∈sortK (Zau (runsW p fuel)))/\m.l.length<=Bud/\m.cl+1=m.l.length/\m.l.length<=600/\(haltM W m=true->m.over=false->sortK (keysM W m.keys)=sortK (Zau (runsW p fuel))):=by
 obtain⟨T,hi⟩:=h.inv
 obtain⟨h1,h2,h3⟩:=hi.any h.good
 have h4:=ZgH h1 h2
 have h5:(Zau (runsW p fuel)).length=(runsW p fuel).length:=List.length_map _
 have h6:=(Zcy h.small).2.1
 have h7:=h.small
 exact⟨Zdv h1,by omega,fun k hk=>ZeJ.2 (h2 k (ZeJ.1 hk)),hi.bud,hi.cl,by omega,fun a c=>(hi.exact h.good a c).1⟩
theorem GoodM.busy(h:GoodM p fuel W Bud m)(hh:haltM W m=false):∃w,w<W/\∀d:Int,(stepI p fuel W Bud (w:Int) d m).1≠0:=by
 obtain⟨T,hi⟩:=h.inv
 obtain⟨w,hw,hd⟩:=_root_.Go.Proofs.YtjfmmnhcddckaaaGreat.busy hi hh
 refine⟨w,hw,fun d=>?_⟩
 unfold stepI
 rw[if_pos (by omega),Int.toNat_natCast]
 exact hd d
end
theorem ZfA{p:Pg}{fuel:Int}(hok:okPg p fuel)(hle:preW p fuel<=600):(p.threads.length*(p.threads.length*fuel.toNat)+6)*preW p fuel+5<100000:=by
 have hT4:p.threads.length<=4:=by
  have h:=hok.1
  unfold Zal at h
  simp only[Bool.and_eq_true,decide_eq_true_eq]at h
  omega
 have h2:=hok.2
 have h1:p.threads.length*(p.threads.length*fuel.toNat)<=4*(4*8):=Nat.mul_le_mul hT4 (Nat.mul_le_mul hT4 (by omega))
 have h3:=Nat.mul_le_mul (Nat.add_le_add_right h1 6) hle
 omega
theorem row_le:∀(ls:List (List Key)) (u:Nat) (h:u<ls.length),ls[u].length<=ls.flatten.length
 | [],u,h=>absurd h (Nat.not_lt_zero _)
 |l::ls,0,_=>by
  rw[List.getElem_cons_zero,List.flatten_cons,List.length_append]
  omega
 |l::ls,u+1,h=>by
  have:=row_le ls u (by simpa using h)
  rw[List.getElem_cons_succ,List.flatten_cons,List.length_append]
  omega
theorem RowsV.atL{w:World}{B:Nat}{a:Option Addr}{cap n:Nat}{ls:List (List Key)}(h:RowsV w B (.slice a n cap) ls)(hl:ls.length<=1000)(wr:World)(hb:Below w.heap.size w wr)(i:Nat)(hi:i<ls.length):∃b o a2 c2,a=some ⟨b,o,none⟩/\wr.cell? ⟨b,o+i,none⟩=some (.slice a2 ls[i].length c2)/\RowAt wr a2 1 Zai ls[i]:=by
 obtain⟨a',cap',e,h2⟩:=(h.later hb).at_ hl
 injection e with e1 _ e3
 subst e1 e3
 exact h2 i hi
theorem RowsV.atLB{w:World}{B:Nat}{a:Option Addr}{cap n:Nat}{ls:List (List Key)}(h:RowsV w B (.slice a n cap) ls)(hl:ls.length<=1000)(wr:World)(hb:Below w.heap.size w wr)(i:Nat)(hi:i<ls.length):∃b o a2 c2,a=some ⟨b,o,none⟩/\wr.cell? ⟨b,o+i,none⟩=some (.slice a2 ls[i].length c2)/\RowAt wr a2 1 Zai ls[i]/\ls[i].length<=c2:=by
 obtain⟨a',cap',e,h2⟩:=(h.later hb).atB hl
 injection e with e1 _ e3
 subst e1 e3
 exact h2 i hi
theorem Zdj{w:World}{B W:Nat}{v:Value}{m:Mac}(hv:RowsV w B v (keysL W m))(hW:W<=64)(hk:(keysM W m.keys).length<=100000):
  Calls Tryz.prog 16 #[v] w fun r w'=>∃ka kc,r=.returned (.tuple #[.slice ka (sortK (keysM W m.keys)).length kc,.bool (decide ((sortK (keysM W m.keys)).length=(keysM W m.keys).length))])/\RowAt w' ka 1 Zai (sortK (keysM W m.keys))/\Below w.heap.size w w':=by
 obtain⟨a,c,e,_⟩:=hv.at_ (by rw[ZaF];omega)
 subst e
 have:=Zh1 hv (by rw[ZaF];omega) (by rw[Zd4];exact hk)
 rw[Zd4]at this
 exact this
structure TwoM(I:MachI)(w:World)(B1 b1 W1 U1:Nat)(m1:Mac)(B2 b2 W2 U2:Nat)(m2:Mac)(p:Pg)(fuel:Int)(wr:World):Prop where
 mm:∃S1 S2,I.MM wr B1 b1 p fuel W1 U1 S1 m1/\I.MM wr B2 b2 p fuel W2 U2 S2 m2/\∀x,S1 x->¬S2 x
 g1:GoodM p fuel W1 U1 m1
 g2:GoodM p fuel W2 U2 m2
 l1:w.heap.size<=B1
 l2:w.heap.size<=B2
 below:Below w.heap.size w wr
section
variable{I:MachI}{w wr w':World}{B1 b1 W1 U1 B2 b2 W2 U2:Nat}{m1 m2 m':Mac}{p:Pg}{fuel:Int}
theorem TwoM.swap(h:TwoM I w B1 b1 W1 U1 m1 B2 b2 W2 U2 m2 p fuel wr):TwoM I w B2 b2 W2 U2 m2 B1 b1 W1 U1 m1 p fuel wr:=by
 obtain⟨S1,S2,h1,h2,h3⟩:=h.mm
 exact⟨⟨S2,S1,h2,h1,fun x a c=>h3 x c a⟩,h.g2,h.g1,h.l2,h.l1,h.below⟩
theorem TwoM.later(h:TwoM I w B1 b1 W1 U1 m1 B2 b2 W2 U2 m2 p fuel wr)(hb:Below wr.heap.size wr w'):TwoM I w B1 b1 W1 U1 m1 B2 b2 W2 U2 m2 p fuel w':=by
 obtain⟨S1,S2,h1,h2,h3⟩:=h.mm
 exact⟨⟨S1,S2,I.later h1 hb,I.later h2 hb,h3⟩,h.g1,h.g2,h.l1,h.l2,h.below.trans (hb.mono h.below.size)⟩
theorem TwoM.turn{S1 S2:Nat->Prop}(h:TwoM I w B1 b1 W1 U1 m1 B2 b2 W2 U2 m2 p fuel wr)(h1:I.MM wr B1 b1 p fuel W1 U1 S1 m1)(h2:I.MM wr B2 b2 p fuel W2 U2 S2 m2)(h3:∀x,S1 x->¬S2 x)(hr:RunI I wr B1 b1 p fuel W1 U1 S1 m' w'):TwoM I w B1 b1 W1 U1 m' B2 b2 W2 U2 m2 p fuel w':=by
 obtain⟨S',h4,h5⟩:=hr.mm
 refine⟨⟨S',S2,h4,I.only h2 hr.only fun x a c=>h3 x c a,fun x a c=>?_⟩,hr.good,h.g2,h.l1,h.l2,h.below.trans (hr.only.below h.below.size fun x hx=>Nat.le_trans h.l1 ((I.low h1).2 x hx).1)⟩
 rcases h5 x a with h6|h6
 ·exact h3 x h6 c
 ·have:=((I.low h2).2 x c).2
  omega
theorem TwoM.step(h:TwoM I w B1 b1 W1 U1 m1 B2 b2 W2 U2 m2 p fuel wr)(z d:Int):Calls Tryz.prog 23 #[.pointer (some ⟨b1,0,none⟩),.int .i64 z,.int .i64 d] wr fun r w'=>r=.returned (.int .i64 ((stepI p fuel W1 U1 z d m1).1:Nat))/\TwoM I w B1 b1 W1 U1 (stepI p fuel W1 U1 z d m1).2 B2 b2 W2 U2 m2 p fuel w':=by
 obtain⟨S1,S2,h1,h2,h3⟩:=h.mm
 exact((RunI.start h1 h.g1).step z d).mono fun r w' ⟨e,hr⟩=>⟨e,h.turn h1 h2 h3 hr⟩
theorem TwoM.run(h:TwoM I w B1 b1 W1 U1 m1 B2 b2 W2 U2 m2 p fuel wr)(oa:Option Addr)(oc:Nat)(l:List (Int × Int))(hrow:RowAt w oa 2 Zbh l)(hl:l.length<=1000)(n:Nat)(hn:n<=1000000000):
  Calls Tryz.prog 15 #[.pointer (some ⟨b1,0,none⟩),.slice oa l.length oc,.int .i64 (n:Int)] wr fun r w'=>r=.returned (.tuple #[])/\TwoM I w B1 b1 W1 U1 (runM p fuel W1 U1 n 0 (listM p fuel W1 U1 l m1)) B2 b2 W2 U2 m2 p fuel w':=by
 obtain⟨S1,S2,h1,h2,h3⟩:=h.mm
 exact(ZjR I h1 h.g1 w h.below h.l1 oa oc l hrow hl n hn).mono fun r w' ⟨e,hr⟩=>⟨e,h.turn h1 h2 h3 hr⟩
theorem TwoM.all(h:TwoM I w B1 b1 W1 U1 m1 B2 b2 W2 U2 m2 p fuel wr):Calls Tryz.prog 17 #[.pointer (some ⟨b1,0,none⟩)] wr fun r w'=>∃v,r=.returned v/\RowsV w' wr.heap.size v (keysL W1 m1)/\Below wr.heap.size wr w':=by
 obtain⟨S1,S2,h1,h2,h3⟩:=h.mm
 exact Zhg I h1 h.g1
theorem TwoM.mmQ(h:TwoM I w B1 b1 W1 U1 m1 B2 b2 W2 U2 m2 p fuel wr)(k:Nat):∃S',I.MM (wr.drewN k) B1 b1 p fuel W1 U1 S' m1:=by
 obtain⟨S1,_,h1,_⟩:=h.mm
 exact⟨S1,I.later h1 (Below.refl _ _).drewN⟩
theorem TwoM.haltedQ(h:TwoM I w B1 b1 W1 U1 m1 B2 b2 W2 U2 m2 p fuel wr)(k:Nat):Calls Tryz.prog 18 #[.pointer (some ⟨b1,0,none⟩)] (wr.drewN k) fun r w'=>r=.returned (.bool (haltM W1 m1))/\∃i,w'=wr.drewN i:=
 Zbg (fun k=>(h.mmQ k).elim fun _ h1=>I.halted h1) k
theorem TwoM.completeQ(h:TwoM I w B1 b1 W1 U1 m1 B2 b2 W2 U2 m2 p fuel wr)(k:Nat):Calls Tryz.prog 19 #[.pointer (some ⟨b1,0,none⟩)] (wr.drewN k) fun r w'=>r=.returned (.bool (haltM W1 m1 && !m1.over))/\∃i,w'=wr.drewN i:=
 Zbg (fun k=>(h.mmQ k).elim fun _ h1=>I.complete h1) k
theorem TwoM.nodesQ(h:TwoM I w B1 b1 W1 U1 m1 B2 b2 W2 U2 m2 p fuel wr)(k:Nat):Calls Tryz.prog 21 #[.pointer (some ⟨b1,0,none⟩)] (wr.drewN k) fun r w'=>r=.returned (.int .i64 (m1.l.length:Nat))/\∃i,w'=wr.drewN i:=
 Zbg (fun k=>(h.mmQ k).elim fun _ h1=>I.nodes h1) k
theorem TwoM.claimsQ(h:TwoM I w B1 b1 W1 U1 m1 B2 b2 W2 U2 m2 p fuel wr)(k:Nat):Calls Tryz.prog 22 #[.pointer (some ⟨b1,0,none⟩)] (wr.drewN k) fun r w'=>r=.returned (.int .i64 (m1.cl:Nat))/\∃i,w'=wr.drewN i:=
 Zbg (fun k=>(h.mmQ k).elim fun _ h1=>I.claims h1) k
theorem TwoM.blockedQ(h:TwoM I w B1 b1 W1 U1 m1 B2 b2 W2 U2 m2 p fuel wr)(k:Nat):Calls Tryz.prog 28 #[.pointer (some ⟨b1,0,none⟩)] (wr.drewN k) fun r w'=>r=.returned (.int .i64 (m1.blk:Nat))/\∃i,w'=wr.drewN i:=
 Zbg (fun k=>(h.mmQ k).elim fun _ h1=>I.blocked h1) k
theorem two_new{w1 w2:World}{S1 S2:Nat->Prop}(hb:Below w.heap.size w w1)(r1:RunI I w1 B1 b1 p fuel W1 U1 S1 m1 w1)(l1:w.heap.size<=B1)(hb2:Below w1.heap.size w1 w2)(r2:RunI I w2 w1.heap.size b2 p fuel W2 U2 S2 m2 w2):TwoM I w B1 b1 W1 U1 m1 w1.heap.size b2 W2 U2 m2 p fuel w2:=by
 obtain⟨T1,h1,_⟩:=r1.mm
 obtain⟨T2,h2,_⟩:=r2.mm
 refine⟨⟨T1,T2,I.later h1 hb2,h2,fun x a c=>?_⟩,r1.good,r2.good,l1,hb.size,hb.trans (hb2.mono hb.size)⟩
 have h3:=((I.low h1).2 x a).2
 have h4:=((I.low h2).2 x c).1
 omega
structure TwoG(I:MachI)(w:World)(B1 b1 W1 U1:Nat)(m1:Mac)(B2 b2 W2 U2:Nat)(m2:Mac)(p:Pg)(fuel:Int)(G:Nat)(o:Obj)(wr:World):Prop where
 mm:∃S1 S2,I.MM wr B1 b1 p fuel W1 U1 S1 m1/\I.MM wr B2 b2 p fuel W2 U2 S2 m2/\(∀x,S1 x->¬S2 x)/\¬S1 G/\¬S2 G
 g1:GoodM p fuel W1 U1 m1
 g2:GoodM p fuel W2 U2 m2
 l1:w.heap.size<=B1
 l2:w.heap.size<=B2
 below:Below w.heap.size w wr
 box:wr.heap[G]?=some o
theorem TwoG.two{G:Nat}{o:Obj}(h:TwoG I w B1 b1 W1 U1 m1 B2 b2 W2 U2 m2 p fuel G o wr):TwoM I w B1 b1 W1 U1 m1 B2 b2 W2 U2 m2 p fuel wr:=by
 obtain⟨S1,S2,h1,h2,h3,_⟩:=h.mm
 exact⟨⟨S1,S2,h1,h2,h3⟩,h.g1,h.g2,h.l1,h.l2,h.below⟩
theorem TwoG.swap{G:Nat}{o:Obj}(h:TwoG I w B1 b1 W1 U1 m1 B2 b2 W2 U2 m2 p fuel G o wr):TwoG I w B2 b2 W2 U2 m2 B1 b1 W1 U1 m1 p fuel G o wr:=by
 obtain⟨S1,S2,h1,h2,h3,h4,h5⟩:=h.mm
 exact⟨⟨S2,S1,h2,h1,(fun x a c=>h3 x c a),h5,h4⟩,h.g2,h.g1,h.l2,h.l1,h.below,h.box⟩
theorem TwoG.later{G:Nat}{o:Obj}(h:TwoG I w B1 b1 W1 U1 m1 B2 b2 W2 U2 m2 p fuel G o wr)(hb:Below wr.heap.size wr w'):TwoG I w B1 b1 W1 U1 m1 B2 b2 W2 U2 m2 p fuel G o w':=by
 obtain⟨S1,S2,h1,h2,h3⟩:=h.mm
 exact⟨⟨S1,S2,I.later h1 hb,I.later h2 hb,h3⟩,h.g1,h.g2,h.l1,h.l2,h.below.trans (hb.mono h.below.size),(hb.block _ (Array.getElem?_eq_some_iff.1 h.box).1).trans h.box⟩
theorem TwoM.boxed(h:TwoM I w B1 b1 W1 U1 m1 B2 b2 W2 U2 m2 p fuel wr){c:Array Value}{t:TypeId}:TwoG I w B1 b1 W1 U1 m1 B2 b2 W2 U2 m2 p fuel wr.heap.size (.cells c t (0,0)) (wr.alloc (.cells c t)):=by
 obtain⟨S1,S2,h1,h2,h3⟩:=h.mm
 have hb:=Zaa wr (.cells c t)
 exact⟨⟨S1,S2,I.later h1 hb,I.later h2 hb,h3,fun e=>Nat.lt_irrefl _ ((I.low h1).2 _ e).2,fun e=>Nat.lt_irrefl _ ((I.low h2).2 _ e).2⟩,h.g1,h.g2,h.l1,h.l2,h.below.trans (hb.mono h.below.size),heap_alloc_new wr _⟩
theorem TwoG.step{G:Nat}{o:Obj}(h:TwoG I w B1 b1 W1 U1 m1 B2 b2 W2 U2 m2 p fuel G o wr)(z d:Int):Calls Tryz.prog 23 #[.pointer (some ⟨b1,0,none⟩),.int .i64 z,.int .i64 d] wr fun r w'=>r=.returned (.int .i64 ((stepI p fuel W1 U1 z d m1).1:Nat))/\TwoG I w B1 b1 W1 U1 (stepI p fuel W1 U1 z d m1).2 B2 b2 W2 U2 m2 p fuel G o w':=by
 obtain⟨S1,S2,h1,h2,h3,h4,h5⟩:=h.mm
 refine((RunI.start h1 h.g1).step z d).mono fun r w' ⟨e,hr⟩=>⟨e,?_⟩
 have hG:=(Array.getElem?_eq_some_iff.1 h.box).1
 obtain⟨S',h6,h7⟩:=hr.mm
 refine⟨⟨S',S2,h6,I.only h2 hr.only fun x a c=>h3 x c a,fun x a c=>?_,fun a=>?_,h5⟩,hr.good,h.g2,h.l1,h.l2,h.below.trans (hr.only.below h.below.size fun x hx=>Nat.le_trans h.l1 ((I.low h1).2 x hx).1),hr.only.row h.box h4⟩
 ·rcases h7 x a with h8|h8
  ·exact h3 x h8 c
  ·have:=((I.low h2).2 x c).2
   omega
 ·rcases h7 G a with h8|h8
  ·exact h4 h8
  ·omega
end
end Go.Proofs.YtjfmmnhcddckaaaGreat
namespace Go.Proofs.YtjfmmnhcddckaaaGreat
open Go.RowKit Go.Deep Go.Joins Go.WideShapes Go.ChangeShapes
section
variable{H:Type}{enc:TypeId × Value->H}{W:World}{base:Nat}{spare:Nat->Bool}{held:Bool}
theorem ZlQ{fuel:Nat}{cs:List Value}{x:DataW H × List MemPlace}(h:DataW.trod enc Tryz.prog W base spare held fuel 63 cs=some x):
  ∃i:Ins,cs=[.int .i64 i.kind,.int .i64 i.r,.int .i64 i.x,.int .i64 i.n]:=by
 obtain⟨xs,n,_,_,hlen,hxl,hf⟩:=DataW.trod_struct Tryz.underlying63 h
 have h4:cs.length=4:=hlen.trans (by kernel_rfl)
 have hx4:xs.length=4:=hxl.trans rfl
 match cs,h4,xs,hx4 with
 | [c0,c1,c2,c3],_,[x0,x1,x2,x3],_=>
  have e1:Tryz.prog.cellsOf 3=1:=by kernel_rfl
  have e2:Tryz.prog.cellsOf 2=1:=by kernel_rfl
  have g0:=hf 0 _ rfl
  have g1:=hf 1 _ rfl
  have g2:=hf 2 _ rfl
  have g3:=hf 3 _ rfl
  simp[e1,e2]at g0 g1 g2 g3
  obtain⟨n0,r0,_⟩:=DataW.trod_int Tryz.underlying3 g0
  obtain⟨n1,r1,_⟩:=DataW.trod_int Tryz.underlying3 g1
  obtain⟨n2,r2,_⟩:=DataW.trod_int Tryz.underlying3 g2
  obtain⟨n3,r3,_⟩:=DataW.trod_int Tryz.underlying2 g3
  simp at r0 r1 r2 r3
  exact⟨⟨n0,n1,n2,n3⟩,by simp[r0,r1,r2,r3]⟩
theorem ZkQ{fuel:Nat}{cs:List Value}{x:DataW H × List MemPlace}(h:DataW.trod enc Tryz.prog W base spare held fuel 64 cs=some x):
  ∃(a:Option Addr) (l:List Ins) (cap:Nat),cs=[.slice a l.length cap]/\ZbU W a l/\(a=none->cap=0):=by
 rcases open_slice Tryz.underlying64 h with ⟨rfl,_⟩|⟨a,len,cap,m,n,D,Pl,rfl,_,hl,hm,hmm,_,hi⟩
 ·exact⟨none,[],0,rfl,⟨by simp[maxLen],fun h=>absurd rfl h⟩,fun _=>rfl⟩
 ·have e4:Tryz.prog.cellsOf 63=4:=by kernel_rfl
  have hlm:len<=m:=by rw[hmm];split <;> omega
  obtain⟨l,hll,hx⟩:=Zdk len (fun i (y:Ins)=>∀j v,[Value.int .i64 y.kind,.int .i64 y.r,.int .i64 y.x,.int .i64 y.n][j]?=some v->W.cell? (a.add (i*4+j))=some v) (fun i hi'=>by
   obtain⟨cs',hc,ht⟩:=hi i (by omega)
   rw[e4]at hc
   obtain⟨y,rfl⟩:=ZlQ ht
   obtain⟨_,_,hat⟩:=World.cells?_some hc
   refine⟨y,fun j v hv=>?_⟩
   have hj:j<4:=by have:=(List.getElem?_eq_some_iff.1 hv).1;simpa using this
   rw[<-add_add,hat j hj];exact hv)
  refine⟨some a,l,cap,by rw[hll],⟨by omega,fun hne=>?_⟩,fun h=>by cases h⟩
  have hpos:0<l.length:=List.length_pos_iff.2 hne
  have h0:=hx 0 l[0] (List.getElem?_eq_getElem hpos) 0 _ rfl
  have hsp:=World.cell?_spot h0
  have hsp':a.spot=none:=by simpa [Addr.add]using hsp
  obtain⟨b,o,s⟩:=a
  subst hsp'
  refine⟨b,o,rfl,fun i hi'=>?_⟩
  have hxi:=hx i l[i] (List.getElem?_eq_getElem hi')
  have c0:=hxi 0 _ rfl
  have c1:=hxi 1 _ rfl
  have c2:=hxi 2 _ rfl
  have c3:=hxi 3 _ rfl
  simp only[ZcF,<-Nat.add_assoc,Nat.add_zero]at c0 c1 c2 c3
  exact⟨c0,c1,c2,c3⟩
theorem Zgj{fuel:Nat}{cs:List Value}{x:DataW H × List MemPlace}(h:DataW.trod enc Tryz.prog W base spare held fuel 22 cs=some x):
  ∃(a:Option Addr) (ts:List (List Ins)) (cap:Nat),cs=[.slice a ts.length cap]/\Zaf W a ts/\(a=none->cap=0):=by
 rcases open_slice Tryz.underlying22 h with ⟨rfl,_⟩|⟨a,len,cap,m,n,D,Pl,rfl,_,hl,hm,hmm,_,hi⟩
 ·exact⟨none,[],0,rfl,⟨by simp[maxLen],fun h=>absurd rfl h⟩,fun _=>rfl⟩
 ·have e1:Tryz.prog.cellsOf 64=1:=by kernel_rfl
  have hlm:len<=m:=by rw[hmm];split <;> omega
  obtain⟨ts,hll,hx⟩:=Zdk len (fun i (l:List Ins)=>∃c ccap,W.cell? (a.add i)=some (.slice c l.length ccap)/\ZbU W c l/\(c=none->ccap=0)) (fun i hi'=>by
   obtain⟨cs',hc,ht⟩:=hi i (by omega)
   rw[e1]at hc
   obtain⟨c,l,ccap,rfl,h1,h2⟩:=ZkQ ht
   obtain⟨_,_,hat⟩:=World.cells?_some hc
   have:=hat 0 (by omega)
   rw[add_add]at this
   exact⟨l,c,ccap,by simpa using this,h1,h2⟩)
  refine⟨some a,ts,cap,by rw[hll],⟨by omega,fun hne=>?_⟩,fun h=>by cases h⟩
  have hpos:0<ts.length:=List.length_pos_iff.2 hne
  obtain⟨c,ccap,h0,_⟩:=hx 0 ts[0] (List.getElem?_eq_getElem hpos)
  have hsp:=World.cell?_spot h0
  have hsp':a.spot=none:=by simpa [Addr.add]using hsp
  obtain⟨b,o,s⟩:=a
  subst hsp'
  refine⟨b,o,rfl,fun i hi'=>?_⟩
  obtain⟨c,ccap,h1,h2,h3⟩:=hx i ts[i] (List.getElem?_eq_getElem hi')
  rw[ZcF]at h1
  exact⟨c,ccap,h1,h2,h3⟩
theorem ZbH{r:Reach}{b0:Nat}{v:Value}{d:DataW H}{p:List MemPlace}(hv:Value.okWide Tryz.prog W r b0 24 v)(h:DataW.Trod enc Tryz.prog W base spare held 24 v d p):
  ∃(q:Pg) (a:Option Addr) (cap:Nat),v=pgV q a cap/\Zaf W a q.threads/\(a=none->cap=0):=by
 obtain⟨v0,v1,v2,y0,y1,y2,n,rfl,_,_,h0,h1,h2⟩:=open_agg3 Tryz.underlying24 (by kernel_rfl) (by kernel_rfl) hv h
 obtain⟨n0,r0,_⟩:=DataW.trod_int Tryz.underlying3 h0
 obtain⟨n1,r1,_⟩:=DataW.trod_int Tryz.underlying3 h1
 obtain⟨a,ts,cap,r2,ht,ha⟩:=Zgj h2
 simp at r0 r1 r2
 subst r0 r1 r2
 exact⟨⟨n0,n1,ts⟩,a,cap,rfl,ht,ha⟩
end
section
variable{H:Type}{enc:TypeId × Value->H}{W:World}{base:Nat}{spare:Nat->Bool}{held:Bool}
theorem wf_in64{n:Int}(h:(Lit.int .i64 n).wf=true):in64 n:=by
 simp[Lit.wf,IntKind.min,IntKind.max,IntKind.signed,IntKind.bits]at h
 unfold in64
 omega
theorem ZaE{r:Reach}{b0:Nat}{v:Value}{d:DataW H}{p:List MemPlace}(hv:Value.okWide Tryz.prog W r b0 3 v)(h:DataW.Trod enc Tryz.prog W base spare held 3 v d p):
  ∃n:Int,v=.int .i64 n/\in64 n:=by
 obtain⟨n,e,_,_,hw⟩:=open_int Tryz.underlying3 hv h
 exact⟨n,e,wf_in64 hw⟩
end
section
variable{H:Type}{enc:TypeId × Value->H}{W:World}{base:Nat}{spare:Nat->Bool}{held:Bool}
end
end Go.Proofs.YtjfmmnhcddckaaaGreat
namespace Go.Proofs.YtjfmmnhcddckaaaGreat
open Go.RowKit Go.Deep Go.Joins Go.WideShapes Go.ChangeShapes Go.ChangeAt
section
variable{H:Type}{enc:TypeId × Value->H}{W:World}{base:Nat}{spare:Nat->Bool}{held:Bool}
theorem ZjS{T:Type}{f:T->List Value}(P:T->DataW H->Prop){n:Nat}(hn:0<n)(hf0:∀x,(f x).length=n){st et:TypeId}(hu:Tryz.prog.underlying st=some (.slice et))(e4:Tryz.prog.cellsOf et=n)
  (ho:∀fuel cs (x:DataW H × List MemPlace),DataW.trod enc Tryz.prog W base spare held fuel et cs=some x->∃y:T,cs=f y/\P y x.1)
  {r:Reach} {b0:Nat} {v:Value} {d:DataW H} {p:List MemPlace} (hv:Value.okWide Tryz.prog W r b0 st v) (h:DataW.Trod enc Tryz.prog W base spare held st v d p):
  ∃(a:Option Addr) (l:List T) (cap:Nat),v=.slice a l.length cap/\RowAt W a n f l/\(a=none->cap=0)/\(∀y∈l,∃el sp dy,d=.slice el sp/\dy∈el/\P y dy):=by
 obtain⟨a,len,cap,rfl⟩:=okWide_slice hu hv
 obtain⟨fuel,hf⟩:=h
 rcases open_slice hu hf with ⟨e,_⟩|⟨a',len',cap',m,k,D,Pl,e,_,hl,hm,hmm,hxd,hi⟩
 ·simp[Value.cells]at e
  obtain⟨rfl,rfl,rfl⟩:=e
  exact⟨none,[],0,rfl,ZcZ _ _ _ _,fun _=>rfl,by simp⟩
 ·simp[Value.cells]at e
  obtain⟨rfl,rfl,rfl⟩:=e
  have hlm:len<=m:=by rw[hmm];split <;> omega
  obtain⟨l,hll,hx⟩:=Zdk len (fun i (y:T)=>P y (D i)/\∀j v,(f y)[j]?=some v->W.cell? (a'.add (i*n+j))=some v) (fun i hi'=>by
   obtain⟨cs',hc,ht⟩:=hi i (by omega)
   rw[e4]at hc
   obtain⟨y,rfl,hy⟩:=ho _ _ _ ht
   obtain⟨_,_,hat⟩:=World.cells?_some hc
   refine⟨y,hy,fun j v hv=>?_⟩
   have hj:j<n:=by have:=(List.getElem?_eq_some_iff.1 hv).1;rw[hf0]at this;exact this
   rw[<-add_add,hat j hj];exact hv)
  refine⟨some a',l,cap,by rw[hll],⟨by omega,fun hne=>?_⟩,by simp,fun y hy=>?_⟩
  ·have hpos:0<l.length:=List.length_pos_iff.2 hne
   have hfl:0<(f l[0]).length:=by rw[hf0];exact hn
   have h0:=(hx 0 l[0] (List.getElem?_eq_getElem hpos)).2 0 _ (List.getElem?_eq_getElem hfl)
   have hsp:=World.cell?_spot h0
   have hsp':a'.spot=none:=by simpa [Addr.add]using hsp
   obtain⟨b,o,s⟩:=a'
   subst hsp'
   refine⟨b,o,rfl,fun i hi' j u hu=>?_⟩
   have hxi:=(hx i l[i] (List.getElem?_eq_getElem hi')).2 j u hu
   simp only[ZcF,<-Nat.add_assoc]at hxi
   exact hxi
  ·obtain⟨i,hi',rfl⟩:=List.getElem_of_mem hy
   have hp:=(hx i l[i] (List.getElem?_eq_getElem hi')).1
   injection hxd with hxd _
   refine⟨_,_,D i,hxd,List.mem_map.2 ⟨i,List.mem_range.2 (by omega),rfl⟩,hp⟩
end
section
variable{H:Type}{enc:TypeId × Value->H}{W:World}{base:Nat}{spare:Nat->Bool}{held:Bool}
theorem ZfS{fuel:Nat}{cs:List Value}{x:DataW H × List MemPlace}(h:DataW.trod enc Tryz.prog W base spare held fuel 48 cs=some x):
  ∃o:Int × Int,cs=Zbh o:=by
 obtain⟨xs,n,_,_,hlen,hxl,hf⟩:=DataW.trod_struct Tryz.underlying48 h
 have h4:cs.length=2:=hlen.trans (by kernel_rfl)
 have hx4:xs.length=2:=hxl.trans rfl
 match cs,h4,xs,hx4 with
 | [c0,c1],_,[x0,x1],_=>
  have e1:Tryz.prog.cellsOf 3=1:=by kernel_rfl
  have g0:=hf 0 _ rfl
  have g1:=hf 1 _ rfl
  simp[e1]at g0 g1
  obtain⟨n0,r0,_⟩:=DataW.trod_int Tryz.underlying3 g0
  obtain⟨n1,r1,_⟩:=DataW.trod_int Tryz.underlying3 g1
  simp at r0 r1
  exact⟨(n0,n1),by simp[Zbh,r0,r1]⟩
variable{r:Reach}{b0:Nat}{v:Value}{d:DataW H}{p:List MemPlace}
theorem Zbu(hv:Value.okWide Tryz.prog W r b0 25 v)(h:DataW.Trod enc Tryz.prog W base spare held 25 v d p):
  ∃(a:Option Addr) (l:List (Int × Int)) (cap:Nat),v=.slice a l.length cap/\RowAt W a 2 Zbh l/\(a=none->cap=0):=by
 obtain⟨a,l,cap,h1,h2,h3,_⟩:=ZjS (fun(_:Int × Int) _=>True) (by omega) Zj6 Tryz.underlying25 (by kernel_rfl) (fun _ _ _ h=>by obtain⟨o,h⟩:=ZfS h;exact⟨o,h,trivial⟩) hv h
 exact⟨a,l,cap,h1,h2,h3⟩
end
end Go.Proofs.YtjfmmnhcddckaaaGreat
