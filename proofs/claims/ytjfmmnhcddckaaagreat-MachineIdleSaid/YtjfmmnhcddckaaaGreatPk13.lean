import Derived.Deep.RegionLaw
import Derived.Deep.RegionHeld3
import Derived.Deep.MidRow
import Derived.Lib.SliceRun
import Derived.Deep.WholeRow
import Derived.Deep.DeepCutAuto
import Derived.Test.YtjfmmnhcddckaaaGreatPk02
import Derived.Test.YtjfmmnhcddckaaaGreatPk03b
import Derived.Test.YtjfmmnhcddckaaaGreatPk04
import Derived.Test.YtjfmmnhcddckaaaGreatPk04b
import Derived.Test.YtjfmmnhcddckaaaGreatPk06
import Derived.Test.YtjfmmnhcddckaaaGreatPk07
import Derived.Test.YtjfmmnhcddckaaaGreatPk08
import Derived.Test.YtjfmmnhcddckaaaGreatPk10
import Derived.Test.YtjfmmnhcddckaaaGreatPk11
import Derived.Test.YtjfmmnhcddckaaaGreatPk12
set_option maxRecDepth 100000
set_option maxHeartbeats 8000000
namespace Go.Proofs.YtjfmmnhcddckaaaGreat
open Go.RowKit
theorem Zip{w:World}{ops:Array Oper}{o:Oper}{a:Act}{K:Act->World->Prop}{Q:Exit->Act->World->Prop}{E:Prop}(hgd:o.guard=none)(s x:Operand)
  (ho:o.op=.call { callee:=.builtin .append,args:=#[s,x],argTypes:=#[243,243] }) (B:Nat) (v:Value) (l:List (Nat × Nat)) (hs:a.eval s=v) (hown:Zae w B 242 2 Zbi v l)
  (ad:Addr) (hx:a.eval x=.slice (some ad) 1 1) (e:Nat × Nat) (hnews:∀j u,(Zbi e)[j]?=some u->w.cell? (ad.add j)=some u) (hlen:l.length<=1000000) (hB:B<=w.heap.size)
  (h:∀v' w',Zae w' B 242 2 Zbi v' (l++[e])->Below B w w'->w.grownBy w' v.ownBlock->(v'.ownBlock=v.ownBlock∨v'.ownBlock=some w.heap.size)->K (a.put o.dst v') w'):if Region.wanted o (yielded ops a.tmps)=true then Oper.wp Tryz.prog o a w K Q else E:=
 ZbP 243 242 16 (.agg #[.int .i64 0,.int .i64 0]) Tryz.underlying243 infoPl rfl (by omega) (by omega) ZhN hgd s x ho B v l hs hown ad hx e (plCell_one _) hnews hlen hB h
theorem Zir{w:World}{ops:Array Oper}{o:Oper}{a:Act}{K:Act->World->Prop}{Q:Exit->Act->World->Prop}{E:Prop}(hgd:o.guard=none)(s x:Operand)
  (ho:o.op=.call { callee:=.builtin .append,args:=#[s,x],argTypes:=#[195,195] }) (B:Nat) (v:Value) (l:List (Ev × Sp)) (hs:a.eval s=v) (hown:Zae w B 245 5 Zbj v l)
  (ad:Addr) (hx:a.eval x=.slice (some ad) 1 1) (e:Ev × Sp) (hnews:∀j u,(Zbj e)[j]?=some u->w.cell? (ad.add j)=some u) (hlen:l.length<=1000000) (hB:B<=w.heap.size)
  (h:∀v' w',Zae w' B 245 5 Zbj v' (l++[e])->Below B w w'->w.grownBy w' v.ownBlock->(v'.ownBlock=v.ownBlock∨v'.ownBlock=some w.heap.size)->K (a.put o.dst v') w'):if Region.wanted o (yielded ops a.tmps)=true then Oper.wp Tryz.prog o a w K Q else E:=
 ZbP 195 245 56 (.agg #[.int .i64 0,.int .i64 0,.int .i64 0,.bool false,.slice none 0 0]) Tryz.underlying195 infoGp rfl (by omega) (by omega) Zd6 hgd s x ho B v l hs hown ad hx e (gpCell_one _) hnews hlen hB h
theorem PastM.put_res{w wa:World}{P B g N cap k M:Nat}{cs:List (Nat->Nat)}{xs:List (Ev × Sp)}{gs:List Gp}{p:Nat × Nat}{u0 u1:Value}(h:PastM w P B cs (.slice (some ⟨g,0,none⟩) N cap) xs gs)(hba:Below w.heap.size w wa)(hk:k<xs.length)(hk2:k<gs.length)(_:M≠P)
  (hq0:MidAt w M 242 [u0,u1]) (hMB:(spV xs[k].2).ownBlock≠some M) (v3:Value) (w4:World)
  (ho:Zae w4 B 242 2 Zbi v3 (gs[k].2++[p])) (hb5:Below B wa w4) (hgrow:wa.grownBy w4 (spV xs[k].2).ownBlock) (hwhere:v3.ownBlock=(spV xs[k].2).ownBlock∨v3.ownBlock=some wa.heap.size):
  ∃g3 cap3,v3=.slice (some ⟨g3,0,none⟩) (gs[k].2.length+1) cap3 /\
   PastM (w4.setCell ⟨g,k*5+4,none⟩ (.slice (some ⟨g3,0,none⟩) (gs[k].2.length+1) cap3)) P B cs (.slice (some ⟨g,0,none⟩) N cap) (xs.set k (xs[k].1,⟨some ⟨g3,0,none⟩,gs[k].2.length+1,cap3⟩)) (gs.set k (gs[k].1,gs[k].2++[p])) /\
   Aside P B w (w4.setCell ⟨g,k*5+4,none⟩ (.slice (some ⟨g3,0,none⟩) (gs[k].2.length+1) cap3)) /\
   (w4.cell? ⟨P,16,none⟩=some (.slice (some ⟨g,0,none⟩) N cap)/\w4.cell? ⟨M,0,none⟩=some u0/\w4.cell? ⟨M,1,none⟩=some u1) /\
   (∀u,World.cell? (w4.setCell ⟨g,k*5+4,none⟩ u) ⟨P,16,none⟩=some (.slice (some ⟨g,0,none⟩) N cap)/\World.cell? (w4.setCell ⟨g,k*5+4,none⟩ u) ⟨M,0,none⟩=some u0/\World.cell? (w4.setCell ⟨g,k*5+4,none⟩ u) ⟨M,1,none⟩=some u1) /\
   w4.cell? ⟨g,k*5+4,none⟩=some (.slice xs[k].2.a xs[k].2.n xs[k].2.c)/\w4.frozen? ⟨g,k*5+4,none⟩=false:=by
 obtain⟨g3,cap3,hv3,_,_⟩:=Zae.block ho (by simp)
 rw[List.length_append,List.length_singleton]at hv3
 subst hv3
 have hF:=PastM.put (s':=⟨some ⟨g3,0,none⟩,gs[k].2.length+1,cap3⟩) h hba hk hk2 ho hb5 hgrow hwhere
 have ha:=h.later hba
 have hM:=(hq0.later hba)
 have hM4:MidAt w4 M 242 [u0,u1]:=(hgrow.block M hM.lt (fun e=>hMB e.symm)).trans hM
 have hP4:PaAt w4 P cs (.slice (some ⟨g,0,none⟩) N cap):=(hb5.block P h.lt).trans ha.blk
 have hgB:B<=g:=by
  rcases ha.own.form with ⟨e,_⟩|⟨g',c',e,h4,_⟩
  ·cases e
  ·injection e with e;injection e with e;injection e with e;omega
 have hout:w4.ownsRow B 245 5 (.slice (some ⟨g,0,none⟩) N cap) xs.length (Zaq Zbj xs):=World.ownsRow.kept ha.own.outer hgrow (ZbD ha.own.outer (ha.own.inner k hk hk2) tyGp)
 have hMg:M≠g:=fun e=>by
  have h1:=Zd0 hout (q:=g) rfl _ _ _ (show w4.heap[g]?=_ from e▸hM4)
  exact tyGp h1.symm
 have hPg:P≠g:=by have:=h.lt;omega
 refine⟨g3,cap3,rfl,hF.1,hF.2.1,⟨hP4.slice ha.four,hM4.cell 0,hM4.cell 1⟩,fun u=>?_,?_,hF.2.2.2⟩
 ·have hon:Only g w4 (w4.setCell ⟨g,k*5+4,none⟩ u):=(Only.refl _ _).setCell _ _
  have hP5:PaAt (w4.setCell ⟨g,k*5+4,none⟩ u) P cs (.slice (some ⟨g,0,none⟩) N cap):=(hon.block P (MidAt.lt hP4) hPg).trans hP4
  have hM5:MidAt (w4.setCell ⟨g,k*5+4,none⟩ u) M 242 [u0,u1]:=(hon.block M hM4.lt hMg).trans hM4
  exact⟨hP5.slice ha.four,hM5.cell 0,hM5.cell 1⟩
 ·rw[ha.own.cell_grown (j:=4) hk hk (by omega) hgrow]
  rfl
def PastR(w:World)(P B:Nat)(l:List Ev)(n:Nat)(w':World):Prop:=∃v xs,PastM w' P B (csOf l n) v xs (grp l n)/\Aside P B w w'
theorem padd_any(P B n:Nat)(l:List Ev)(v:Value)(xs:List (Ev × Sp))(w:World)(hp:PastM w P B (csOf l n) v xs (grp l n))(hr:Zaw l=true)(hn:n<l.length)(hm:l.length<=1000):
  Calls Tryz.prog 106 #[.pointer (some ⟨P,0,none⟩),.agg #[.int .i64 (evI l n).thread,.int .i64 (evI l n).kind,.int .i64 (evI l n).obj,.bool (evI l n).fail],.int .i64 n,.agg #[.int .i64 (clk l n 0),.int .i64 (clk l n 1),.int .i64 (clk l n 2),.int .i64 (clk l n 3)]] w fun r w'=>r=.returned (.tuple #[])/\PastR w P B l (n+1) w':=by
 have hth:=Zbt (e:=evI l n) (by rw[Za4 hn];exact Zc0 hr hn)
 have HCS:=Lib.hid (fun th h4=>csOf_succ l n th h4)
 have HOWN:Hid (∀t:Nat,(evI l n).thread=t->clk l n t=num l n):=fun t ht=>by rw[<-ht];exact Zje l n
 have HE:Hid (∃e,e=evI l n):=⟨_,rfl⟩
 have HG:Hid (grp l (n+1)=addG (grp l n) (evI l n) (n,num l n)):=rfl
 have hgl:=grp_len l n
 have HGS:=Lib.hid (ZkF l n)
 unfold PastR
 generalize grp l (n+1)=GS at *
 generalize grp l n=gs at *
 have HP:=Lib.hid hp
 clear hp
 generalize evI l n=e at *
 obtain⟨et,ek,eo,ef⟩:=e
 dsimp only at hth HCS HOWN ⊢
 obtain⟨th,rfl⟩:∃th:Nat,et=th:=⟨et.toNat,by omega⟩
 have hth4:th<4:=by omega
 have hti:(th:Int)<4:=by omega
 have hti0:(0:Int)<=th:=by omega
 clear hth HE
 have hb0:=Zak w (.cells #[.int .i64 (th:Int),.int .i64 ek,.int .i64 eo,.bool ef] 112) (.cells #[.int .i64 (clk l n 0),.int .i64 (clk l n 1),.int .i64 (clk l n 2),.int .i64 (clk l n 3)] 193)
 have HBX:Hid (EvBox ((w.alloc (.cells #[.int .i64 (th:Int),.int .i64 ek,.int .i64 eo,.bool ef] 112)).alloc (.cells #[.int .i64 (clk l n 0),.int .i64 (clk l n 1),.int .i64 (clk l n 2),.int .i64 (clk l n 3)] 193)) w.heap.size ⟨th,ek,eo,ef⟩):=(EvBox.new w ⟨th,ek,eo,ef⟩).later (Zaa _ _)
 have HCB:Hid (MidAt ((w.alloc (.cells #[.int .i64 (th:Int),.int .i64 ek,.int .i64 eo,.bool ef] 112)).alloc (.cells #[.int .i64 (clk l n 0),.int .i64 (clk l n 1),.int .i64 (clk l n 2),.int .i64 (clk l n 3)] 193)) (w.heap.size+1) 193 (nums4 fun u=>(clk l n u:Nat))):=heap_alloc2_new w _ _
 go_enter Tryz.func106,Tryz.ntmps106
 go_wp2_with fail
 generalize hW0:(w.alloc (.cells #[.int .i64 (th:Int),.int .i64 ek,.int .i64 eo,.bool ef] 112)).alloc (.cells #[.int .i64 (clk l n 0),.int .i64 (clk l n 1),.int .i64 (clk l n 2),.int .i64 (clk l n 3)] 193)=W0 at *
 have hP:=HP.out.later hb0
 obtain⟨e0,e1,e2,e3⟩:=HBX.out.cells
 obtain⟨c0,c1,c2,c3⟩:=HCB.out.four
 have p0:=hP.blk.num (t:=th) (u:=0) hth4 (by omega)
 have p1:=hP.blk.num (t:=th) (u:=1) hth4 (by omega)
 have p2:=hP.blk.num (t:=th) (u:=2) hth4 (by omega)
 have p3:=hP.blk.num (t:=th) (u:=3) hth4 (by omega)
 have f0:=hP.blk.frozen (th*4)
 have f1:=hP.blk.frozen (th*4+1)
 have f2:=hP.blk.frozen (th*4+2)
 have f3:=hP.blk.frozen (th*4+3)
 rw[Nat.add_zero]at p0
 go_region
 have hlast:PastM ((((W0.setCell ⟨P,th*4,none⟩ (.int .i64 (clk l n 0))).setCell ⟨P,th*4+1,none⟩ (.int .i64 (clk l n 1))).setCell ⟨P,th*4+2,none⟩ (.int .i64 (clk l n 2))).setCell ⟨P,th*4+3,none⟩ (.int .i64 (clk l n 3))) P B ((csOf l n).set th fun u:Nat=>clk l n u) v xs gs/\Aside P B W0 ((((W0.setCell ⟨P,th*4,none⟩ (.int .i64 (clk l n 0))).setCell ⟨P,th*4+1,none⟩ (.int .i64 (clk l n 1))).setCell ⟨P,th*4+2,none⟩ (.int .i64 (clk l n 2))).setCell ⟨P,th*4+3,none⟩ (.int .i64 (clk l n 3))):=hP.last hth4 (fun u:Nat=>clk l n u)
 have hon:Only P W0 ((((W0.setCell ⟨P,th*4,none⟩ (.int .i64 (clk l n 0))).setCell ⟨P,th*4+1,none⟩ (.int .i64 (clk l n 1))).setCell ⟨P,th*4+2,none⟩ (.int .i64 (clk l n 2))).setCell ⟨P,th*4+3,none⟩ (.int .i64 (clk l n 3))):=((((Only.refl _ _).setCell _ _).setCell _ _).setCell _ _).setCell _ _
 have hPw:P<w.heap.size:=Nat.lt_of_lt_of_le HP.out.lt HP.out.le
 have HPM:Hid (PastM ((((W0.setCell ⟨P,th*4,none⟩ (.int .i64 (clk l n 0))).setCell ⟨P,th*4+1,none⟩ (.int .i64 (clk l n 1))).setCell ⟨P,th*4+2,none⟩ (.int .i64 (clk l n 2))).setCell ⟨P,th*4+3,none⟩ (.int .i64 (clk l n 3))).drew P B (csOf l (n+1)) v xs gs):=(hlast.1.congr (ZcO _ _) (HCS.out th hth4 rfl)).later ((Below.refl _ _).drew)
 have HAS:Hid (Aside P B w ((((W0.setCell ⟨P,th*4,none⟩ (.int .i64 (clk l n 0))).setCell ⟨P,th*4+1,none⟩ (.int .i64 (clk l n 1))).setCell ⟨P,th*4+2,none⟩ (.int .i64 (clk l n 2))).setCell ⟨P,th*4+3,none⟩ (.int .i64 (clk l n 3))).drew):=((Aside.of_below hb0 HP.out.le).trans hlast.2).trans (Aside.of_below ((Below.refl _ _).drew) (Nat.le_trans hP.le hon.size))
 have HB1:Hid (EvBox ((((W0.setCell ⟨P,th*4,none⟩ (.int .i64 (clk l n 0))).setCell ⟨P,th*4+1,none⟩ (.int .i64 (clk l n 1))).setCell ⟨P,th*4+2,none⟩ (.int .i64 (clk l n 2))).setCell ⟨P,th*4+3,none⟩ (.int .i64 (clk l n 3))).drew w.heap.size ⟨th,ek,eo,ef⟩):=(HBX.out.only hon (by omega)).later ((Below.refl _ _).drew)
 have HC1:Hid (MidAt ((((W0.setCell ⟨P,th*4,none⟩ (.int .i64 (clk l n 0))).setCell ⟨P,th*4+1,none⟩ (.int .i64 (clk l n 1))).setCell ⟨P,th*4+2,none⟩ (.int .i64 (clk l n 2))).setCell ⟨P,th*4+3,none⟩ (.int .i64 (clk l n 3))).drew (w.heap.size+1) 193 (nums4 fun u=>(clk l n u:Nat))):=(hon.block _ (MidAt.lt HCB.out) (by omega)).trans HCB.out
 clear hlast hon hP p0 p1 p2 p3 f0 f1 f2 f3 e0 e1 e2 e3 c0 c1 c2 c3 hW0 hb0 HBX HCB
 generalize ((((W0.setCell ⟨P,th*4,none⟩ (.int .i64 (clk l n 0))).setCell ⟨P,th*4+1,none⟩ (.int .i64 (clk l n 1))).setCell ⟨P,th*4+2,none⟩ (.int .i64 (clk l n 2))).setCell ⟨P,th*4+3,none⟩ (.int .i64 (clk l n 3))).drew=W1 at *
 obtain⟨e0,e1,e2,e3⟩:=HB1.out.cells
 have c0:=MidAt.cell HC1.out th
 rw[Zbx _ hth4]at c0
 rw[HOWN.out th rfl]at c0
 obtain⟨va,vc,rfl,HV⟩:∃va vc,v=.slice va gs.length vc/\Hid (gs=[]∨∃g,va=some ⟨g,0,none⟩):=by
  rcases HPM.out.own.form with ⟨h1,h2⟩|⟨g,c,h1,_⟩
  ·exact⟨none,0,by rw[h1,h2];rfl,.inl h2⟩
  ·exact⟨_,c,h1,.inr ⟨g,rfl⟩⟩
 have hv:=HPM.out.blk.slice (ZcO _ _)
 have HSP0:Hid (∀i (hi:i<xs.length),(spV xs[i].2).ownBlock≠some W1.heap.size):=fun i hi e=>by
  have:=(World.ownsRow.lt (HPM.out.own.inner i hi (by rw[<-HPM.out.own.len];exact hi)) _ e).2
  omega
 have HW1B:Hid (B<=W1.heap.size):=HPM.out.le
 have hba:=Zaa W1 (.cells #[.int .i64 (n:Int),.int .i64 (num l n:Int)] 242)
 have hv2:=Zab hba hv
 have HPM2:=Lib.hid (HPM.out.later hba)
 have HAS2:Hid (Aside P B w (W1.alloc (.cells #[.int .i64 (n:Int),.int .i64 (num l n:Int)] 242))):=HAS.out.trans (Aside.of_below hba HPM.out.le)
 have HB2:=Lib.hid (HB1.out.later hba)
 have HPL:Hid (MidAt (W1.alloc (.cells #[.int .i64 (n:Int),.int .i64 (num l n:Int)] 242)) W1.heap.size 242 (Zbi (n,num l n))):=heap_alloc_new _ _
 have hsz:(W1.alloc (.cells #[.int .i64 (n:Int),.int .i64 (num l n:Int)] 242)).heap.size=W1.heap.size+1:=by simp
 go_wp2_with fail
 clear e0 e1 e2 e3 c0 hv hv2 hba HPM HAS HB1 HC1
 generalize W1.alloc (.cells #[.int .i64 (n:Int),.int .i64 (num l n:Int)] 242)=W2 at *
 go_loopw [28] (fun i wr=>∃k:Nat,k<=gs.length/\i=.int .i64 k/\Hid (∀j (h:j<k) (h2:j<gs.length),(gs[j]).1≠⟨th,ek,eo,ef⟩)/\Hid (Below W2.heap.size W2 wr)) (fun i _=>gs.length-(intOf i).toNat)
 case atStart=>exact⟨0,Nat.zero_le _,rfl,(fun j h=>absurd h (by omega)),Below.refl _ _⟩
 case round=>
  obtain⟨k,hk,rfl,HN,HB⟩:=hrel
  have HM:=Lib.hid (HPM2.out.later HB.out)
  have HA:Hid (Aside P B w wr):=HAS2.out.trans (Aside.of_below HB.out HPM2.out.le)
  have HBX:=Lib.hid (HB2.out.later HB.out)
  have HPX:=Lib.hid (HPL.out.later HB.out)
  have hv:=HM.out.blk.slice (ZcO _ _)
  have hvf:=HM.out.blk.frozen 16
  obtain⟨e0,e1,e2,e3⟩:=HBX.out.cells
  have q0:wr.cell? ⟨W1.heap.size,0,none⟩=some (.int .i64 (n:Int)):=MidAt.cell HPX.out 0
  have q1:wr.cell? ⟨W1.heap.size,1,none⟩=some (.int .i64 (num l n:Int)):=MidAt.cell HPX.out 1
  by_cases hlt:k<gs.length
  ·obtain⟨g,rfl⟩:∃g,va=some ⟨g,0,none⟩:=by
    rcases HV.out with h|h
    ·rw[h]at hlt;simp at hlt
    ·exact h
   have hkx:k<xs.length:=by rw[HM.out.own.len];exact hlt
   have hev:=HM.out.own.evs k hkx hlt
   have x0:=HM.out.own.cell (j:=0) hkx (by omega)
   have x1:=HM.out.own.cell (j:=1) hkx (by omega)
   have x2:=HM.out.own.cell (j:=2) hkx (by omega)
   have x3:=HM.out.own.cell (j:=3) hkx (by omega)
   have x4:=HM.out.own.cell (j:=4) hkx (by omega)
   have heq:=ZdB gs[k].1 ⟨th,ek,eo,ef⟩
   rw[Nat.add_zero]at x0
   simp only[Zbj,hev,List.getElem?_cons_zero,List.getElem?_cons_succ]at x0 x1 x2 x3 x4
   by_cases he:gs[k].1=⟨th,ek,eo,ef⟩
   ·have hq2:decide (gs[k].1=(⟨th,ek,eo,ef⟩:Ev))=true:=by simp[he]
    rw[hq2]at heq
    have HE:=Lib.hid (addG_at (p:=(n,num l n)) hlt (fun i hi=>HN.out i hi (by omega)) he)
    clear hq2
    go_wp2
    go_quiet (fail)
    go_wp2_with fail
    have hdr:Below wr.heap.size wr (wr.drewN nq):=(Below.refl _ wr).drewN
    have HM3:=Lib.hid (HM.out.later hdr)
    have HA3:Hid (Aside P B w (wr.drewN nq)):=HA.out.trans (Aside.of_below hdr HM.out.le)
    have HPX3:=Lib.hid (HPX.out.later hdr)
    clear hv hvf e0 e1 e2 e3 q0 q1 x0 x1 x2 x3 x4 HM HA HPX HBX HB hdr heq he HN HPM2 HAS2 HPL HB2
    generalize wr.drewN nq=W3 at *
    have hv:=HM3.out.blk.slice (ZcO _ _)
    have q0:W3.cell? ⟨W1.heap.size,0,none⟩=some (.int .i64 (n:Int)):=MidAt.cell HPX3.out 0
    have q1:W3.cell? ⟨W1.heap.size,1,none⟩=some (.int .i64 (num l n:Int)):=MidAt.cell HPX3.out 1
    have x4:=HM3.out.own.cell (j:=4) hkx (by omega)
    simp only[Zbj,List.getElem?_cons_zero,List.getElem?_cons_succ]at x4
    have hin:=Lib.hid (HM3.out.own.inner k hkx hlt)
    have HSPX:Hid ((spV xs[k].2).ownBlock≠some W1.heap.size):=HSP0.out k hkx
    have hgk:=HGS.out gs[k] (List.getElem_mem hlt)
    have hle3:=HM3.out.le
    have HQ:Hid (∀W',Below W3.heap.size W3 W'->W'.cell? ⟨P,16,none⟩=some (.slice (some ⟨g,0,none⟩) gs.length vc)/\W'.cell? ⟨W1.heap.size,0,none⟩=some (.int .i64 (n:Int))/\W'.cell? ⟨W1.heap.size,1,none⟩=some (.int .i64 (num l n:Int))):=
     fun W' hb=>⟨Zab hb hv,Zab hb q0,Zab hb q1⟩
    have hx4d:World.cell? W3.drew ⟨g,k*5+4,none⟩=some (.slice xs[k].2.a xs[k].2.n xs[k].2.c):=x4
    clear hv q0 q1
    have hWA:Below W3.heap.size W3 (W3.alloc (.cells #[.int .i64 (n:Int),.int .i64 (num l n:Int)] 242)).drew:=(Zaa W3 _).drew
    have HOA:Hid (Zae (W3.alloc (.cells #[.int .i64 (n:Int),.int .i64 (num l n:Int)] 242)).drew B 242 2 Zbi (.slice xs[k].2.a xs[k].2.n xs[k].2.c) gs[k].2):=hin.out.later hWA
    have HNEW:Hid (∀j u,(Zbi (n,num l n))[j]?=some u->World.cell? (W3.alloc (.cells #[.int .i64 (n:Int),.int .i64 (num l n:Int)] 242)).drew (Addr.add ⟨W3.heap.size,0,none⟩ j)=some u):=ZaH W3 (Zbi (n,num l n)) _ _ rfl
    have hlX:gs[k].2.length<=1000000:=by omega
    have hBX:B<=(World.heap (W3.alloc (.cells #[.int .i64 (n:Int),.int .i64 (num l n:Int)] 242)).drew).size:=Nat.le_trans hle3 hWA.size
    have HRES:=Lib.hid (PastM.put_res (p:=(n,num l n)) HM3.out hWA hkx hlt (by have h1:=HM3.out.lt;have h2:=HW1B.out;omega) HPX3.out HSPX.out)
    have hS1:=HQ.out _ hWA
    have hx4a:=Zab hWA x4
    have hS0:=HQ.out _ (Below.refl _ W3).drew
    have hS4:(fun W'=>W'.cell? ⟨P,16,none⟩=some (.slice (some ⟨g,0,none⟩) gs.length vc)/\W'.cell? ⟨W1.heap.size,0,none⟩=some (.int .i64 (n:Int))/\W'.cell? ⟨W1.heap.size,1,none⟩=some (.int .i64 (num l n:Int))/\W'.cell? ⟨g,k*5+4,none⟩=some (.slice xs[k].2.a xs[k].2.n xs[k].2.c)) W3.drew:=⟨hS0.1,hS0.2.1,hS0.2.2,x4⟩
    have hS5:(fun W'=>W'.cell? ⟨P,16,none⟩=some (.slice (some ⟨g,0,none⟩) gs.length vc)/\W'.cell? ⟨W1.heap.size,0,none⟩=some (.int .i64 (n:Int))/\W'.cell? ⟨W1.heap.size,1,none⟩=some (.int .i64 (num l n:Int))/\W'.cell? ⟨g,k*5+4,none⟩=some (.slice xs[k].2.a xs[k].2.n xs[k].2.c)) (W3.alloc (.cells #[.int .i64 (n:Int),.int .i64 (num l n:Int)] 242)).drew:=⟨hS1.1,hS1.2.1,hS1.2.2,hx4a⟩
    refine ZdD (k:=18) (S:=(fun W'=>W'.cell? ⟨P,16,none⟩=some (.slice (some ⟨g,0,none⟩) gs.length vc)/\W'.cell? ⟨W1.heap.size,0,none⟩=some (.int .i64 (n:Int))/\W'.cell? ⟨W1.heap.size,1,none⟩=some (.int .i64 (num l n:Int))/\W'.cell? ⟨g,k*5+4,none⟩=some (.slice xs[k].2.a xs[k].2.n xs[k].2.c))) (by kernel_rfl) rfl rfl rfl rfl (by kernel_rfl) rfl ?_
    simp only[Zbr,nopOf,List.setIfInBounds_toArray,List.set_cons_succ,List.set_cons_zero,List.getElem_toArray,List.getElem_cons_zero,List.getElem_cons_succ,List.size_toArray,List.length_cons,List.length_nil,Nat.reduceAdd]
    change wpAnyH _ _ _ _ _ _ _ _ W3.drew
    refine wpAnyH_take (i:=0) (v:=?_) rfl (by kernel_rfl) (by kernel_rfl) (by kernel_rfl) (fun _ _ _ h=>h) (Or.inl ⟨by rfl,?yield⟩) hS4 ?_
    case yield=>((intro w hSw;(try dsimp only at hSw);go_simp) <;> with_reducible rfl)
    try simp only[List.getElem_toArray,List.getElem_cons_zero,Act.put,List.setIfInBounds_toArray,List.set_cons_zero,List.set_cons_succ]
    refine wpAnyH_take (i:=1) (v:=?_) rfl (by kernel_rfl) (by kernel_rfl) (by kernel_rfl) (fun _ _ _ h=>h) (Or.inl ⟨by rfl,?yield⟩) hS4 ?_
    case yield=>((intro w hSw;(try dsimp only at hSw);go_simp) <;> with_reducible rfl)
    try simp only[List.getElem_toArray,List.getElem_cons_zero,List.getElem_cons_succ,Act.put,List.setIfInBounds_toArray,List.set_cons_zero,List.set_cons_succ]
    refine wpAnyH_take (i:=2) (v:=?_) rfl (by kernel_rfl) (by kernel_rfl) (by kernel_rfl) (fun _ _ _ h=>h) (Or.inl ⟨by rfl,?yield⟩) hS4 ?_
    case yield=>((intro w hSw;(try dsimp only at hSw);go_simp) <;> with_reducible rfl)
    try simp only[List.getElem_toArray,List.getElem_cons_zero,List.getElem_cons_succ,Act.put,List.setIfInBounds_toArray,List.set_cons_zero,List.set_cons_succ]
    refine wpAnyH_take (i:=3) (v:=?_) rfl (by kernel_rfl) (by kernel_rfl) (by kernel_rfl) (fun _ _ _ h=>h) (Or.inl ⟨by rfl,?yield⟩) hS4 ?_
    case yield=>((intro w hSw;(try dsimp only at hSw);go_simp) <;> with_reducible rfl)
    try simp only[List.getElem_toArray,List.getElem_cons_zero,List.getElem_cons_succ,Act.put,List.setIfInBounds_toArray,List.set_cons_zero,List.set_cons_succ]
    refine wpAnyH_take (i:=4) (v:=?_) rfl (by kernel_rfl) (by kernel_rfl) (by kernel_rfl) (fun _ _ _ h=>h) (Or.inl ⟨by rfl,?yield⟩) hS4 ?_
    case yield=>((intro w hSw;(try dsimp only at hSw);go_simp) <;> with_reducible rfl)
    try simp only[List.getElem_toArray,List.getElem_cons_zero,List.getElem_cons_succ,Act.put,List.setIfInBounds_toArray,List.set_cons_zero,List.set_cons_succ]
    refine wpAnyH_take (i:=5) (v:=?_) rfl (by kernel_rfl) (by kernel_rfl) (by kernel_rfl) (fun _ _ _ h=>h) (Or.inl ⟨by rfl,?yield⟩) hS4 ?_
    case yield=>((intro w hSw;(try dsimp only at hSw);go_simp) <;> with_reducible rfl)
    try simp only[List.getElem_toArray,List.getElem_cons_zero,List.getElem_cons_succ,Act.put,List.setIfInBounds_toArray,List.set_cons_zero,List.set_cons_succ]
    refine wpAnyH_take (i:=6) (v:=?_) rfl (by kernel_rfl) (by kernel_rfl) (by kernel_rfl) (fun _ _ _ h=>h) (Or.inl ⟨by rfl,?yield⟩) hS4 ?_
    case yield=>((intro w hSw;(try dsimp only at hSw);go_simp) <;> with_reducible rfl)
    try simp only[List.getElem_toArray,List.getElem_cons_zero,List.getElem_cons_succ,Act.put,List.setIfInBounds_toArray,List.set_cons_zero,List.set_cons_succ]
    refine wpAnyH_take (i:=7) (v:=?_) rfl (by kernel_rfl) (by kernel_rfl) (by kernel_rfl) (fun _ _ _ h=>h) (Or.inl ⟨by rfl,?yield⟩) hS4 ?_
    case yield=>((intro w hSw;(try dsimp only at hSw);go_simp) <;> with_reducible rfl)
    try simp only[List.getElem_toArray,List.getElem_cons_zero,List.getElem_cons_succ,Act.put,List.setIfInBounds_toArray,List.set_cons_zero,List.set_cons_succ]
    refine wpAnyH_take (i:=8) (v:=?_) rfl (by kernel_rfl) (by kernel_rfl) (by kernel_rfl) (fun _ _ _ h=>h) (Or.inl ⟨by rfl,?yield⟩) hS4 ?_
    case yield=>((intro w hSw;(try dsimp only at hSw);go_simp) <;> with_reducible rfl)
    try simp only[List.getElem_toArray,List.getElem_cons_zero,List.getElem_cons_succ,Act.put,List.setIfInBounds_toArray,List.set_cons_zero,List.set_cons_succ]
    refine wpAnyH_take (i:=9) (v:=?_) rfl (by kernel_rfl) (by kernel_rfl) (by kernel_rfl) (fun _ _ _ h=>h) (Or.inl ⟨by rfl,?yield⟩) hS4 ?_
    case yield=>((intro w hSw;(try dsimp only at hSw);go_simp) <;> with_reducible rfl)
    try simp only[List.getElem_toArray,List.getElem_cons_zero,List.getElem_cons_succ,Act.put,List.setIfInBounds_toArray,List.set_cons_zero,List.set_cons_succ]
    refine wpAnyH_take (i:=10) (v:=?_) rfl (by kernel_rfl) (by kernel_rfl) (by kernel_rfl) (fun _ _ _ h=>h) (Or.inl ⟨by rfl,?yield⟩) hS4 ?_
    case yield=>((intro w hSw;(try dsimp only at hSw);go_simp) <;> with_reducible rfl)
    try simp only[List.getElem_toArray,List.getElem_cons_zero,List.getElem_cons_succ,Act.put,List.setIfInBounds_toArray,List.set_cons_zero,List.set_cons_succ]
    refine wpAnyH_take (i:=11) (v:=?_) rfl (by kernel_rfl) (by kernel_rfl) (by kernel_rfl) (fun _ _ _ h=>h) (Or.inl ⟨by rfl,?yield⟩) hS4 ?_
    case yield=>((intro w hSw;(try dsimp only at hSw);go_simp) <;> with_reducible rfl)
    try simp only[List.getElem_toArray,List.getElem_cons_zero,List.getElem_cons_succ,Act.put,List.setIfInBounds_toArray,List.set_cons_zero,List.set_cons_succ]
    refine wpAnyH_take (i:=12) (v:=?_) rfl (by kernel_rfl) (by kernel_rfl) (by kernel_rfl) (fun _ _ _ h=>h) (Or.inl ⟨by rfl,?yield⟩) hS4 ?_
    case yield=>((intro w hSw;(try dsimp only at hSw);go_simp) <;> with_reducible rfl)
    try simp only[List.getElem_toArray,List.getElem_cons_zero,List.getElem_cons_succ,Act.put,List.setIfInBounds_toArray,List.set_cons_zero,List.set_cons_succ]
    refine wpAnyH_take (i:=13) (v:=?_) rfl (by kernel_rfl) (by kernel_rfl) (by kernel_rfl) (fun _ _ _ h=>h) (Or.inl ⟨by rfl,?yield⟩) hS4 ?_
    case yield=>((intro w hSw;(try dsimp only at hSw);go_simp) <;> with_reducible rfl)
    try simp only[List.getElem_toArray,List.getElem_cons_zero,List.getElem_cons_succ,Act.put,List.setIfInBounds_toArray,List.set_cons_zero,List.set_cons_succ]
    refine wpAnyH_ready (rs:=[14]) (by kernel_rfl) (by simp) (AllReadyH.cons rfl (fun K hK=>?_) AllReadyH.nil)
    go_simp
    refine hK.out _ _ hS5 (fun _=>?_)
    try simp only[List.getElem_toArray,List.getElem_cons_zero,List.getElem_cons_succ,Act.put,List.setIfInBounds_toArray,List.set_cons_zero,List.set_cons_succ]
    refine wpAnyH_ready (rs:=[15]) (by kernel_rfl) (by simp) (AllReadyH.cons rfl (fun K hK=>?_) AllReadyH.nil)
    refine Zip (w:=(W3.alloc (.cells #[.int .i64 (n:Int),.int .i64 (num l n:Int)] 242)).drew) (by rfl) (.tmp 53) (.tmp 55) (by rfl) B _ gs[k].2 (by rfl) HOA.out ⟨W3.heap.size,0,none⟩ (by rfl) (n,num l n) HNEW.out hlX hBX ?_
    intro v3 w4 h1 h2 h3 h4
    obtain⟨g3,cap3,e3,r1,r2,hS6,r5,hx4,hf4⟩:=HRES.out v3 w4 h1 h2 h3 h4
    subst e3
    have HF1:=Lib.hid r1
    have HF2:=Lib.hid r2
    clear h1 h2 h3 h4 r1 r2 r5
    have hS7:(fun W'=>W'.cell? ⟨P,16,none⟩=some (.slice (some ⟨g,0,none⟩) gs.length vc)/\W'.cell? ⟨W1.heap.size,0,none⟩=some (.int .i64 (n:Int))/\W'.cell? ⟨W1.heap.size,1,none⟩=some (.int .i64 (num l n:Int))/\W'.cell? ⟨g,k*5+4,none⟩=some (.slice xs[k].2.a xs[k].2.n xs[k].2.c)) w4:=⟨hS6.1,hS6.2.1,hS6.2.2,hx4⟩
    refine hK.out _ _ hS7 (fun _=>?_)
    try simp only[List.getElem_toArray,List.getElem_cons_zero,List.getElem_cons_succ,Act.put,List.setIfInBounds_toArray,List.set_cons_zero,List.set_cons_succ]
    refine wpAnyH_take (i:=16) (v:=?_) rfl (by kernel_rfl) (by kernel_rfl) (by kernel_rfl) (fun _ _ _ h=>h) (Or.inl ⟨by rfl,?yield⟩) hS7 ?_
    case yield=>((intro w hSw;(try dsimp only at hSw);go_simp) <;> with_reducible rfl)
    try simp only[List.getElem_toArray,List.getElem_cons_zero,List.getElem_cons_succ,Act.put,List.setIfInBounds_toArray,List.set_cons_zero,List.set_cons_succ]
    refine wpAnyH_take (i:=17) (v:=?_) rfl (by kernel_rfl) (by kernel_rfl) (by kernel_rfl) (fun _ _ _ h=>h) (Or.inl ⟨by rfl,?yield⟩) hS7 ?_
    case yield=>((intro w hSw;(try dsimp only at hSw);go_simp) <;> with_reducible rfl)
    try simp only[List.getElem_toArray,List.getElem_cons_zero,List.getElem_cons_succ,Act.put,List.setIfInBounds_toArray,List.set_cons_zero,List.set_cons_succ]
    refine wpAnyH_take (i:=18) (v:=?_) rfl (by kernel_rfl) (by kernel_rfl) (by kernel_rfl) (fun _ _ _ h=>h) (Or.inl ⟨by rfl,?yield⟩) hS7 ?_
    case yield=>((intro w hSw;(try dsimp only at hSw);go_simp) <;> with_reducible rfl)
    try simp only[List.getElem_toArray,List.getElem_cons_zero,List.getElem_cons_succ,Act.put]
    refine wpAnyH_done (by kernel_rfl) ?_ _
    clear hS0 hS1 hS4 hS5 hS6 hS7 hx4a hx4d x4 HRES HOA HNEW
    refine ZeV ?_
    refine wpOp_step rfl (fun K hK=>?_)
    try simp only[List.getElem_toArray,List.getElem_cons_zero,List.getElem_cons_succ,Act.put]
    go_simp
    refine hK _ _ ?_
    have HFA:=Lib.hid (HA3.out.trans HF2.out)
    rw[<-HE.out,<-HG.out]at HF1
    clear HF2 hin HM3 HA3 HE HG hgk hf4 HQ hx4
    go_wp2
    refine bodyPost_ret (results_none rfl _ _ _) rfl ?_
    first
     |exact⟨rfl,⟨_,_,HF1.out⟩,HFA.out⟩
     |exact⟨rfl,_,_,HF1.out,HFA.out⟩
   ·have hq2:decide (gs[k].1=(⟨th,ek,eo,ef⟩:Ev))=false:=by simpa using he
    rw[hq2]at heq
    have HN2:Hid (∀j (h:j<k+1) (h2:j<gs.length),(gs[j]).1≠⟨th,ek,eo,ef⟩):=by
     intro j hj hj2
     by_cases e:j=k
     ·subst e;exact he
     ·exact HN.out j (by omega) hj2
    clear he hq2 HN
    generalize gs[k].1=x at *
    go_wp2
    go_quiet (fail)
    go_wp2
    go_roundw
    case rel=>exact⟨k+1,by omega,by go_num,HN2,HB.out.drewN⟩
    case measure=>simp[intOf];omega
  ·obtain rfl:k=gs.length:=by omega
   have HE:=Lib.hid (addG_new (e:=⟨th,ek,eo,ef⟩) (p:=(n,num l n)) (gs:=gs) (fun x hx=>by
    obtain⟨i,hi,rfl⟩:=List.mem_iff_getElem.1 hx
    exact HN.out i hi hi))
   rw[<-HG.out]at HE
   have hle:=HM.out.le
   have hxl:xs.length<=1000:=by have:=HM.out.own.len;omega
   have hb2:=Zak wr (.cells #[.int .i64 (n:Int),.int .i64 (num l n:Int)] 242) (.cells #[.int .i64 (th:Int),.int .i64 ek,.int .i64 eo,.bool ef,.slice (some ⟨wr.heap.size,0,none⟩) 1 1] 245)
   have hb1:=Zaa wr (.cells #[.int .i64 (n:Int),.int .i64 (num l n:Int)] 242)
   have HSP:Hid (Zae ((wr.alloc (.cells #[.int .i64 (n:Int),.int .i64 (num l n:Int)] 242)).alloc (.cells #[.int .i64 (th:Int),.int .i64 ek,.int .i64 eo,.bool ef,.slice (some ⟨wr.heap.size,0,none⟩) 1 1] 245)).drew B 242 2 Zbi (spV ⟨some ⟨wr.heap.size,0,none⟩,1,1⟩) [(n,num l n)]):=
    ⟨rfl,.inr ⟨wr.heap.size,1,_,rfl,hle,heap_alloc2_old wr _ _,Nat.le_refl _,by simp[maxLen],rfl,rfl⟩⟩
   have hPl:=HM.out.lt
   have HQ9:Hid (∀W',Below wr.heap.size wr W'->(fun W'=>W'.cell? ⟨P,16,none⟩=some (.slice va gs.length vc)/\(W'.cell? ⟨w.heap.size,0,none⟩=some (.int .i64 (th:Int))/\W'.cell? ⟨w.heap.size,1,none⟩=some (.int .i64 ek)/\W'.cell? ⟨w.heap.size,2,none⟩=some (.int .i64 eo)/\W'.cell? ⟨w.heap.size,3,none⟩=some (.bool ef))/\W'.cell? ⟨W1.heap.size,0,none⟩=some (.int .i64 (n:Int))/\W'.cell? ⟨W1.heap.size,1,none⟩=some (.int .i64 (num l n:Int))) W'):=
    fun W' hb=>⟨Zab hb hv,⟨Zab hb e0,Zab hb e1,Zab hb e2,Zab hb e3⟩,Zab hb q0,Zab hb q1⟩
   have hSa:=HQ9.out _ (Below.refl _ wr).drew
   have hSb:=HQ9.out _ hb1.drew
   have hSc:=HQ9.out _ hb2.drew
   go_wp2_with fail
   refine ZdD (k:=13) (S:=(fun W'=>W'.cell? ⟨P,16,none⟩=some (.slice va gs.length vc)/\(W'.cell? ⟨w.heap.size,0,none⟩=some (.int .i64 (th:Int))/\W'.cell? ⟨w.heap.size,1,none⟩=some (.int .i64 ek)/\W'.cell? ⟨w.heap.size,2,none⟩=some (.int .i64 eo)/\W'.cell? ⟨w.heap.size,3,none⟩=some (.bool ef))/\W'.cell? ⟨W1.heap.size,0,none⟩=some (.int .i64 (n:Int))/\W'.cell? ⟨W1.heap.size,1,none⟩=some (.int .i64 (num l n:Int)))) (by kernel_rfl) rfl rfl rfl rfl (by kernel_rfl) rfl ?_
   simp only[Zbr,nopOf,List.setIfInBounds_toArray,List.set_cons_succ,List.set_cons_zero,List.getElem_toArray,List.getElem_cons_zero,List.getElem_cons_succ,List.size_toArray,List.length_cons,List.length_nil,Nat.reduceAdd]
   change wpAnyH _ _ _ _ _ _ _ _ wr.drew
   refine wpAnyH_take (i:=0) (v:=?_) rfl (by kernel_rfl) (by kernel_rfl) (by kernel_rfl) (fun _ _ _ h=>h) (Or.inl ⟨by rfl,?yield⟩) hSa ?_
   case yield=>((intro w hSw;(try dsimp only at hSw);go_simp) <;> with_reducible rfl)
   try simp only[List.getElem_toArray,List.getElem_cons_zero,Act.put,List.setIfInBounds_toArray,List.set_cons_zero,List.set_cons_succ]
   refine wpAnyH_take (i:=1) (v:=?_) rfl (by kernel_rfl) (by kernel_rfl) (by kernel_rfl) (fun _ _ _ h=>h) (Or.inl ⟨by rfl,?yield⟩) hSa ?_
   case yield=>((intro w hSw;(try dsimp only at hSw);go_simp) <;> with_reducible rfl)
   try simp only[List.getElem_toArray,List.getElem_cons_zero,List.getElem_cons_succ,Act.put,List.setIfInBounds_toArray,List.set_cons_zero,List.set_cons_succ]
   refine wpAnyH_take (i:=2) (v:=?_) rfl (by kernel_rfl) (by kernel_rfl) (by kernel_rfl) (fun _ _ _ h=>h) (Or.inl ⟨by rfl,?yield⟩) hSa ?_
   case yield=>((intro w hSw;(try dsimp only at hSw);go_simp) <;> with_reducible rfl)
   try simp only[List.getElem_toArray,List.getElem_cons_zero,List.getElem_cons_succ,Act.put,List.setIfInBounds_toArray,List.set_cons_zero,List.set_cons_succ]
   refine wpAnyH_take (i:=3) (v:=?_) rfl (by kernel_rfl) (by kernel_rfl) (by kernel_rfl) (fun _ _ _ h=>h) (Or.inl ⟨by rfl,?yield⟩) hSa ?_
   case yield=>((intro w hSw;(try dsimp only at hSw);go_simp) <;> with_reducible rfl)
   try simp only[List.getElem_toArray,List.getElem_cons_zero,List.getElem_cons_succ,Act.put,List.setIfInBounds_toArray,List.set_cons_zero,List.set_cons_succ]
   refine wpAnyH_take (i:=4) (v:=?_) rfl (by kernel_rfl) (by kernel_rfl) (by kernel_rfl) (fun _ _ _ h=>h) (Or.inl ⟨by rfl,?yield⟩) hSa ?_
   case yield=>((intro w hSw;(try dsimp only at hSw);go_simp) <;> with_reducible rfl)
   try simp only[List.getElem_toArray,List.getElem_cons_zero,List.getElem_cons_succ,Act.put,List.setIfInBounds_toArray,List.set_cons_zero,List.set_cons_succ]
   refine wpAnyH_take (i:=5) (v:=?_) rfl (by kernel_rfl) (by kernel_rfl) (by kernel_rfl) (fun _ _ _ h=>h) (Or.inl ⟨by rfl,?yield⟩) hSa ?_
   case yield=>((intro w hSw;(try dsimp only at hSw);go_simp) <;> with_reducible rfl)
   try simp only[List.getElem_toArray,List.getElem_cons_zero,List.getElem_cons_succ,Act.put,List.setIfInBounds_toArray,List.set_cons_zero,List.set_cons_succ]
   refine wpAnyH_take (i:=6) (v:=?_) rfl (by kernel_rfl) (by kernel_rfl) (by kernel_rfl) (fun _ _ _ h=>h) (Or.inl ⟨by rfl,?yield⟩) hSa ?_
   case yield=>((intro w hSw;(try dsimp only at hSw);go_simp) <;> with_reducible rfl)
   try simp only[List.getElem_toArray,List.getElem_cons_zero,List.getElem_cons_succ,Act.put,List.setIfInBounds_toArray,List.set_cons_zero,List.set_cons_succ]
   refine wpAnyH_ready (rs:=[7]) (by kernel_rfl) (by simp) (AllReadyH.cons rfl (fun K hK=>?_) AllReadyH.nil)
   go_simp
   refine hK.out _ _ hSb (fun _=>?_)
   try simp only[List.getElem_toArray,List.getElem_cons_zero,List.getElem_cons_succ,Act.put,List.setIfInBounds_toArray,List.set_cons_zero,List.set_cons_succ]
   refine wpAnyH_take (i:=8) (v:=?_) rfl (by kernel_rfl) (by kernel_rfl) (by kernel_rfl) (fun _ _ _ h=>h) (Or.inl ⟨by rfl,?yield⟩) hSb ?_
   case yield=>((intro w hSw;(try dsimp only at hSw);go_simp) <;> with_reducible rfl)
   try simp only[List.getElem_toArray,List.getElem_cons_zero,List.getElem_cons_succ,Act.put,List.setIfInBounds_toArray,List.set_cons_zero,List.set_cons_succ]
   refine wpAnyH_ready (rs:=[9]) (by kernel_rfl) (by simp) (AllReadyH.cons rfl (fun K hK=>?_) AllReadyH.nil)
   go_simp
   refine hK.out _ _ hSc (fun _=>?_)
   try simp only[List.getElem_toArray,List.getElem_cons_zero,List.getElem_cons_succ,Act.put,List.setIfInBounds_toArray,List.set_cons_zero,List.set_cons_succ]
   refine wpAnyH_ready (rs:=[10]) (by kernel_rfl) (by simp) (AllReadyH.cons rfl (fun K hK=>?_) AllReadyH.nil)
   refine Zir (w:=((wr.alloc (.cells #[.int .i64 (n:Int),.int .i64 (num l n:Int)] 242)).alloc (.cells #[.int .i64 (th:Int),.int .i64 ek,.int .i64 eo,.bool ef,.slice (some ⟨wr.heap.size,0,none⟩) 1 1] 245)).drew) (by rfl) (.tmp 64) (.tmp 69) (by rfl) B _ xs (by rfl) (Zae.alloc (Zae.alloc HM.out.own.outer _) _) ⟨wr.heap.size+1,0,none⟩ (by rfl) (⟨th,ek,eo,ef⟩,⟨some ⟨wr.heap.size,0,none⟩,1,1⟩) (ZaH (wr.alloc (.cells #[.int .i64 (n:Int),.int .i64 (num l n:Int)] 242)) (Zbj (⟨th,ek,eo,ef⟩,⟨some ⟨wr.heap.size,0,none⟩,1,1⟩)) _ _ (by simp)) (by omega) (by simp;omega) ?_
   intro v3 w4 hown4 hb5 hgrow hwhere
   obtain⟨g3,cap3,hv3,_,_⟩:=Zae.block hown4 (by simp)
   rw[List.length_append,List.length_singleton]at hv3
   subst hv3
   have HF:=Lib.hid (PastM.new (s:=⟨some ⟨wr.heap.size,0,none⟩,1,1⟩) (q:=wr.heap.size) HM.out hb2.drew HSP.out rfl (Nat.le_refl _) hown4 hb5 hgrow)
   have hne:∀(q:Nat) (t:TypeId) (ys:List Value),MidAt wr q t ys->t≠245->some q≠(Value.slice va gs.length vc).ownBlock:=fun q t ys hm ht e=>ht (Zd0 HM.out.own.outer e.symm _ _ _ hm)
   have hbx4:EvBox w4 w.heap.size ⟨th,ek,eo,ef⟩:=(hgrow.block _ (HBX.out.later hb2.drew).lt (hne _ _ [.int .i64 th,.int .i64 ek,.int .i64 eo,.bool ef] HBX.out (by decide))).trans (HBX.out.later hb2.drew)
   have hpx4:MidAt w4 W1.heap.size 242 (Zbi (n,num l n)):=(hgrow.block _ (HPX.out.later hb2.drew).lt (hne _ _ _ HPX.out (by decide))).trans (HPX.out.later hb2.drew)
   have hv4:=(hb5.cell (p:=⟨P,16,none⟩) hPl).trans (Zab hb2 hv)
   have hf4:=(hb5.frozen (p:=⟨P,16,none⟩) hPl).trans ((HM.out.later hb2).blk.frozen 16)
   have hSd:(fun W'=>W'.cell? ⟨P,16,none⟩=some (.slice va gs.length vc)/\(W'.cell? ⟨w.heap.size,0,none⟩=some (.int .i64 (th:Int))/\W'.cell? ⟨w.heap.size,1,none⟩=some (.int .i64 ek)/\W'.cell? ⟨w.heap.size,2,none⟩=some (.int .i64 eo)/\W'.cell? ⟨w.heap.size,3,none⟩=some (.bool ef))/\W'.cell? ⟨W1.heap.size,0,none⟩=some (.int .i64 (n:Int))/\W'.cell? ⟨W1.heap.size,1,none⟩=some (.int .i64 (num l n:Int))) w4:=⟨hv4,hbx4.cells,hpx4.cell 0,hpx4.cell 1⟩
   clear hown4 hb5 hgrow hwhere hbx4 hpx4 hne
   refine hK.out _ _ hSd (fun _=>?_)
   try simp only[List.getElem_toArray,List.getElem_cons_zero,List.getElem_cons_succ,Act.put,List.setIfInBounds_toArray,List.set_cons_zero,List.set_cons_succ]
   refine wpAnyH_take (i:=11) (v:=?_) rfl (by kernel_rfl) (by kernel_rfl) (by kernel_rfl) (fun _ _ _ h=>h) (Or.inl ⟨by rfl,?yield⟩) hSd ?_
   case yield=>((intro w hSw;(try dsimp only at hSw);go_simp) <;> with_reducible rfl)
   try simp only[List.getElem_toArray,List.getElem_cons_zero,List.getElem_cons_succ,Act.put,List.setIfInBounds_toArray,List.set_cons_zero,List.set_cons_succ]
   refine wpAnyH_take (i:=12) (v:=?_) rfl (by kernel_rfl) (by kernel_rfl) (by kernel_rfl) (fun _ _ _ h=>h) (Or.inl ⟨by rfl,?yield⟩) hSd ?_
   case yield=>((intro w hSw;(try dsimp only at hSw);go_simp) <;> with_reducible rfl)
   try simp only[List.getElem_toArray,List.getElem_cons_zero,List.getElem_cons_succ,Act.put,List.setIfInBounds_toArray,List.set_cons_zero,List.set_cons_succ]
   refine wpAnyH_take (i:=13) (v:=?_) rfl (by kernel_rfl) (by kernel_rfl) (by kernel_rfl) (fun _ _ _ h=>h) (Or.inl ⟨by rfl,?yield⟩) hSd ?_
   case yield=>((intro w hSw;(try dsimp only at hSw);go_simp) <;> with_reducible rfl)
   try simp only[List.getElem_toArray,List.getElem_cons_zero,List.getElem_cons_succ,Act.put]
   refine wpAnyH_done (by kernel_rfl) ?_ _
   have HFA:=Lib.hid (HA.out.trans HF.out.2)
   have HFP:=Lib.hid HF.out.1
   rw[<-HE.out]at HFP
   clear HF HM HA hSa hSb hSc hSd HQ9 HE HG HSP HPX HBX e0 e1 e2 e3 q0 q1 hv hvf
   refine ZeV ?_
   refine wpOp_step rfl (fun K hK=>?_)
   try simp only[List.getElem_toArray,List.getElem_cons_zero,List.getElem_cons_succ,Act.put]
   go_simp
   refine hK _ _ ?_
   go_wp2
   go_end0
   first
    |exact⟨rfl,⟨_,_,HFP.out⟩,HFA.out⟩
    |exact⟨rfl,_,_,HFP.out,HFA.out⟩
structure Low(P B:Nat)(w w':World):Prop where
 os:w'.os=w.os
 tape:w'.tape=w.tape
 output:w'.output=w.output
 size:w.heap.size<=w'.heap.size
 low:∀k,k<B->k≠P->w'.heap[k]?=w.heap[k]?
theorem Low.refl(P B:Nat)(w:World):Low P B w w:=⟨rfl,rfl,rfl,Nat.le_refl _,fun _ _ _=>rfl⟩
theorem Low.trans{P B:Nat}{a b c:World}(h:Low P B a b)(k:Low P B b c):Low P B a c:=
 ⟨k.os.trans h.os,k.tape.trans h.tape,k.output.trans h.output,Nat.le_trans h.size k.size,fun i hi hp=>(k.low i hi hp).trans (h.low i hi hp)⟩
theorem Aside.toLow{P B:Nat}{w w':World}(h:Aside P B w w'):Low P B w w':=⟨h.os,h.tape,h.output,h.size,h.low⟩
theorem Low.of_below{P B:Nat}{w w':World}(h:Below B w w'):Low P B w w':=⟨h.os,h.tape,h.output,h.size,fun k hk _=>h.block k hk⟩
theorem Low.below{P B A:Nat}{w w':World}(h:Low P B w w')(hP:A<=P)(hA:A<=B):Below A w w':=
 ⟨h.os,h.tape,h.output,h.size,fun k hk=>h.low k (by omega) (by omega)⟩
theorem Low.cell{P B:Nat}{w w':World}(h:Low P B w w'){a:Addr}(hB:a.block<B)(hP:a.block≠P):w'.cell? a=w.cell? a:=by
 unfold World.cell?
 rw[h.low _ hB hP]
theorem PastM.race{w w':World}{P B n m:Nat}{cs:List (Nat->Nat)}{v v2:Value}{xs:List (Ev × Sp)}{gs:List Gp}{ys:List Value}(h:PastM w P B cs v xs gs)(ho:w.ownsRow B 137 n v2 m ys)(hb:Below B w w')(hg:w.grownBy w' v2.ownBlock):PastM w' P B cs v xs gs:=
 ⟨(hb.block P h.lt).trans h.blk,h.own.kept hg (fun r hr t ds hc=>by
  have:=Zd0 ho hr _ _ _ hc
  subst this
  exact⟨by decide,by decide⟩),h.lt,Nat.le_trans h.le hb.size,h.four⟩
theorem PastM.begin{w W1:World}(l:List Ev)(hb:Below (w.heap.size+1) (w.alloc (.cells #[.int .i64 0,.int .i64 0,.int .i64 0,.int .i64 0,.int .i64 0,.int .i64 0,.int .i64 0,.int .i64 0,.int .i64 0,.int .i64 0,.int .i64 0,.int .i64 0,.int .i64 0,.int .i64 0,.int .i64 0,.int .i64 0,.slice none 0 0] 197)) W1):
  PastM W1 w.heap.size W1.heap.size (csOf l 0) (.slice none 0 0) [] (grp l 0):=by
 have h0:PaAt (w.alloc (.cells #[.int .i64 0,.int .i64 0,.int .i64 0,.int .i64 0,.int .i64 0,.int .i64 0,.int .i64 0,.int .i64 0,.int .i64 0,.int .i64 0,.int .i64 0,.int .i64 0,.int .i64 0,.int .i64 0,.int .i64 0,.int .i64 0,.slice none 0 0] 197)) w.heap.size (csOf l 0) (.slice none 0 0):=heap_alloc_new w _
 have hs:=hb.size
 rw[World.size_alloc]at hs
 exact⟨(hb.block _ (Nat.lt_succ_self _)).trans h0,ownG_nil _ _,by omega,Nat.le_refl _,ZcO _ _⟩
theorem num_pos(l:List Ev)(k:Nat):0<num l k:=by
 unfold num
 rw[ZaW]
 have:isT l (evI l k).thread k=true:=by unfold isT;simp
 rw[this]
 simp
theorem clk_low{W1 W:World}{P:Nat}{l:List Ev}{a:Option Addr}(hr:Zaw l=true)(hrow:RowAt W1 a 4 Zbd (cks l))(hP:PaAt W1 P (csOf l 0) (.slice none 0 0))(hlow:Low P W1.heap.size W1 W){k:Nat}(hk:k<l.length):
  ∃b o,a=some ⟨b,o,none⟩/\W.cell? ⟨b,o+k*4,none⟩=some (.int .i64 (clk l k 0))/\W.cell? ⟨b,o+k*4+1,none⟩=some (.int .i64 (clk l k 1))/\W.cell? ⟨b,o+k*4+2,none⟩=some (.int .i64 (clk l k 2))/\W.cell? ⟨b,o+k*4+3,none⟩=some (.int .i64 (clk l k 3)):=by
 have hlc:=Zfr hr
 have hkc:k<(cks l).length:=by omega
 obtain⟨b,o,rfl,hc⟩:=hrow.2 (by intro e;rw[e]at hkc;simp at hkc)
 have hb:b<W1.heap.size:=Zan (hc k hkc 0 _ rfl)
 have hbP:b≠P:=by
  rintro rfl
  have ht:=Zbt (e:=evI l k) (by rw[Za4 hk];exact Zc0 hr hk)
  obtain⟨t,h1⟩:∃t:Nat,(evI l k).thread=t:=⟨(evI l k).thread.toNat,by omega⟩
  have ht4:t<4:=by omega
  have h2:W1.cell? ⟨b,o+k*4+t,none⟩=some (.int .i64 (clk l k t)):=hc k hkc t _ (by rw[cks_get hr hk];exact Zbx _ ht4)
  have h3:=Zje l k
  rw[h1]at h3
  have h4:=num_pos l k
  rw[h3]at h2
  rw[MidAt.cell hP]at h2
  have h5:=List.mem_of_getElem? h2
  have h6:Zaq Zbd (csOf l 0)=List.replicate 16 (.int .i64 0):=rfl
  rw[h6]at h5
  rcases List.mem_append.1 h5 with h5|h5
  ·have h7:=(List.mem_replicate.1 h5).2
   injection h7 with _ h7
   omega
  ·rw[List.mem_singleton]at h5
   cases h5
 have hcell:∀j u,(Zbd ((cks l)[k]))[j]?=some u->W.cell? ⟨b,o+k*4+j,none⟩=some u:=fun j u hj=>(hlow.cell (a:=⟨b,o+k*4+j,none⟩) hb hbP).trans (hc k hkc j u hj)
 rw[cks_get hr hk]at hcell
 exact⟨b,o,rfl,hcell 0 _ rfl,hcell 1 _ rfl,hcell 2 _ rfl,hcell 3 _ rfl⟩
theorem ZhP{T:Type}{w:World}{B A n:Nat}{t:TypeId}{f:T->List Value}{v:Value}{l:List T}(h:Zae w B t n f v l)(hA:A<=B):Zae w A t n f v l:=by
 obtain⟨h1,h2|⟨g,cap,cur,h3,h4,h5⟩⟩:=h
 ·exact⟨h1,.inl h2⟩
 ·exact⟨h1,.inr ⟨g,cap,cur,h3,Nat.le_trans hA h4,h5⟩⟩
theorem Zif{w:World}{ops:Array Oper}{rest:List Oper}{o:Oper}{a:Act}{Q:Exit->Act->World->Prop}(hgd:o.guard=none)
  (s x:Operand) (ho:o.op=.call { callee:=.builtin .append,args:=#[s,x],argTypes:=#[134,134] }) (B:Nat) (v:Value) (l:List (Nat × Int)) (hs:a.eval s=v) (hown:Zae w B 137 2 Za3 v l)
  (u:Value) (row:List (Nat × Int)) (hx:a.eval x=u) (hrow:Zae w B 137 2 Za3 u row) (hlen:l.length+row.length<=1000000) (hB:B<=w.heap.size)
  (h:∀v' w',Zae w' B 137 2 Za3 v' (l++row)->Below B w w'->w.grownBy w' v.ownBlock->wpList Tryz.prog ops Q rest (a.put o.dst v') w'):wpList Tryz.prog ops Q (o::rest) a w:=by
 obtain⟨ra,rcap,rfl,hr,hn⟩:=hrow.form Zc1 (by omega)
 refine Zjm 134 137 16 _ Tryz.underlying134 infoRc rfl (by omega) (by omega) Zc1 ZhH hgd s x ho B v l hs hown ra rcap row hx hr (fun e=>⟨hn e,?_⟩) hlen hB h
 rcases hrow with ⟨_,⟨_,h2⟩|⟨g,cap,cur,h2,_⟩⟩
 ·exact List.eq_nil_of_length_eq_zero h2
 ·subst e
  cases h2

def okL(l:List Ev):List Ev:=if Zaw l=true then l else []
theorem okL_len(l:List Ev):(okL l).length<=l.length:=by
 unfold okL
 split
 ·exact Nat.le_refl _
 ·exact Nat.zero_le _
def RacesR(nx:Int->Option Ev)(nT:Nat)(l:List Ev)(w:World)(r:Ending)(w':World):Prop:=
 ∃rv,r=.returned rv/\Zae w' w.heap.size 137 2 Za3 rv (Zct nx (okL l) nT)/\Below w.heap.size w w'
def RsW(P:Nat)(l0:List Ev)(n:Nat)(v:Value)(xs:List (Ev × Sp))(nx:Int->Option Ev)(l:List Ev)(W1:World)(t:Nat)(lv:Value)(W:World):Prop:=
 PastM W P W1.heap.size (csOf l0 n) v xs (grp l0 n)/\Zae W W1.heap.size 137 2 Za3 lv (Zct nx l t)/\Low P W1.heap.size W1 W
theorem races_gen(sp:Option Addr)(nT:Nat)(nx:Int->Option Ev)(hnx:∀t e,nx t=some e->e.thread=t)(hT:nT<=4)(a:Option Addr)(cap:Nat)(l:List Ev)(w:World)(hl:EvsAt w a l)(hm:l.length<=200)
  (hth:∀W,Below w.heap.size w W->Calls Tryz.prog 107 #[.pointer sp] W fun r w'=>r=.returned (.int .i64 nT)/\W=w')
  (hne:∀W (t:Nat),t<nT->Below w.heap.size w W->Calls Tryz.prog 108 #[.pointer sp,.int .i64 t] W fun r w'=>r=.returned (evR (nx t))/\Below W.heap.size W w'):
  Calls Tryz.prog 66 #[.pointer sp,.slice a l.length cap] w (RacesR nx nT l w):=by
 have HL:=Lib.hid hl
 have HTH:=Lib.hid hth
 have HNX:=Lib.hid hne
 have HNT:=Lib.hid hnx
 clear hl hth hne hnx
 unfold RacesR
 have hb0:=Zaa w (.cells #[.int .i64 0,.int .i64 0,.int .i64 0,.int .i64 0,.int .i64 0,.int .i64 0,.int .i64 0,.int .i64 0,.int .i64 0,.int .i64 0,.int .i64 0,.int .i64 0,.int .i64 0,.int .i64 0,.int .i64 0,.int .i64 0,.slice none 0 0] 197)
 go_enter Tryz.func66,Tryz.ntmps66
 go_wp2_with fail
 refine(clocks_any a cap l _ (HL.out.later hb0) (by omega)).mono ?_
 rintro r W1⟨a',cap',rfl,hrow,hb1⟩
 have hb1':=hb1
 rw[World.size_alloc]at hb1'
 have HPM:Hid (PastM W1 w.heap.size W1.heap.size (csOf l 0) (.slice none 0 0) [] (grp l 0)):=PastM.begin l hb1'
 have HB1:Hid (Below w.heap.size w W1):=hb0.trans (hb1.mono hb0.size)
 have hsz:w.heap.size+1<=W1.heap.size:=by
  have:=hb1.size
  rwa [World.size_alloc]at this
 have HROW:=Lib.hid hrow
 clear hb0 hb1 hb1' hrow
 have HCK:Hid ((cks l).length=0∨(Zaw l=true/\(cks l).length=l.length)):=by
  cases hr:Zaw l
  ·exact .inl (by rw[ZkS hr];rfl)
  ·exact .inr ⟨rfl,Zfr hr⟩
 have hml:(cks l).length<=l.length:=by rcases HCK.out with h|⟨_,h⟩ <;> omega
 go_wp2_with fail
 generalize hmm:(cks l).length=m at *
 go_loopw [15] (fun i wr=>∃k:Nat,k<=m/\i=.int .i64 k/\Hid ((∃v xs,PastM wr w.heap.size W1.heap.size (csOf l k) v xs (grp l k))/\Low w.heap.size W1.heap.size W1 wr)) (fun i _=>m-(intOf i).toNat)
 case atStart=>exact⟨0,Nat.zero_le _,rfl,⟨_,_,HPM.out⟩,Low.refl _ _ _⟩
 case round=>
  obtain⟨k,hk,rfl,HR⟩:=hrel
  by_cases hlt:k<m
  ·obtain⟨hr,hml2⟩:Zaw l=true/\m=l.length:=by
    rcases HCK.out with h|⟨h1,h2⟩
    ·omega
    ·exact⟨h1,by omega⟩
   have hkl:k<l.length:=by omega
   clear hml2
   obtain⟨⟨v,xs,hp⟩,hlow⟩:=HR.out
   obtain⟨b,o,rfl,c0,c1,c2,c3⟩:=clk_low hr HROW.out HPM.out.blk hlow hkl
   have hBw:Below w.heap.size w wr:=HB1.out.trans (hlow.below (Nat.le_refl _) (by omega))
   obtain⟨b2,o2,rfl,_⟩:=(HL.out.later hBw).one hkl
   have hb2:=Zaa wr (.cells #[.int .i64 (clk l k 0),.int .i64 (clk l k 1),.int .i64 (clk l k 2),.int .i64 (clk l k 3)] 193)
   have ht:=Zbt (e:=evI l k) (by rw[Za4 hkl];exact Zc0 hr hkl)
   have HP4:Hid (PastM (wr.alloc (.cells #[.int .i64 (clk l k 0),.int .i64 (clk l k 1),.int .i64 (clk l k 2),.int .i64 (clk l k 3)] 193)) w.heap.size W1.heap.size (csOf l k) v xs (grp l k)):=hp.later hb2
   have HLW4:Hid (Low w.heap.size W1.heap.size W1 (wr.alloc (.cells #[.int .i64 (clk l k 0),.int .i64 (clk l k 1),.int .i64 (clk l k 2),.int .i64 (clk l k 3)] 193))):=hlow.trans (Low.of_below (hb2.mono hp.le))
   have HT4:Hid (MidAt (wr.alloc (.cells #[.int .i64 (clk l k 0),.int .i64 (clk l k 1),.int .i64 (clk l k 2),.int .i64 (clk l k 3)] 193)) wr.heap.size 193 (nums4 fun u=>(clk l k u:Nat))):=heap_alloc_new _ _
   have HEV:Hid (∀W',Below w.heap.size w W'->W'.cell? ⟨b2,o2+k*4,none⟩=some (.int .i64 (evI l k).thread)/\W'.cell? ⟨b2,o2+k*4+1,none⟩=some (.int .i64 (evI l k).kind)/\W'.cell? ⟨b2,o2+k*4+2,none⟩=some (.int .i64 (evI l k).obj)/\W'.cell? ⟨b2,o2+k*4+3,none⟩=some (.bool (evI l k).fail)):=by
    intro W' hb
    obtain⟨b3,o3,e3,s0,s1,s2,s3⟩:=(HL.out.later hb).one hkl
    cases e3
    exact⟨s0,s1,s2,s3⟩
   clear hp hlow hBw hb2
   go_wp2_with fail
   generalize wr.alloc (.cells #[.int .i64 (clk l k 0),.int .i64 (clk l k 1),.int .i64 (clk l k 2),.int .i64 (clk l k 3)] 193)=w4 at *
   have HQ:Hid (∀W',Below w.heap.size w W'->MidAt W' wr.heap.size 193 (nums4 fun u=>(clk l k u:Nat)) ->
      (W'.cell? ⟨b2,o2+k*4,none⟩=some (.int .i64 (evI l k).thread)/\W'.cell? ⟨b2,o2+k*4+1,none⟩=some (.int .i64 (evI l k).kind)/\W'.cell? ⟨b2,o2+k*4+2,none⟩=some (.int .i64 (evI l k).obj)/\W'.cell? ⟨b2,o2+k*4+3,none⟩=some (.bool (evI l k).fail)) /\
      (W'.cell? ⟨wr.heap.size,0,none⟩=some (.int .i64 (clk l k 0))/\W'.cell? ⟨wr.heap.size,1,none⟩=some (.int .i64 (clk l k 1))/\W'.cell? ⟨wr.heap.size,2,none⟩=some (.int .i64 (clk l k 2))/\W'.cell? ⟨wr.heap.size,3,none⟩=some (.int .i64 (clk l k 3)))):=
     fun W' hb hM=>⟨HEV.out W' hb,hM.four⟩
   have HADD:=Lib.hid (padd_any w.heap.size W1.heap.size k l v xs w4.drew (HP4.out.later (Below.refl _ w4).drew) hr hkl (by omega))
   have hS0:=HQ.out w4.drew ((HB1.out.trans (HLW4.out.below (Nat.le_refl _) (by omega))).drew) HT4.out
   have hki:(k:Int)<l.length:=by omega
   clear c0 c1 c2 c3
   go_region_held3 (fun W'=>
      (W'.cell? ⟨b2,o2+k*4,none⟩=some (.int .i64 (evI l k).thread)/\W'.cell? ⟨b2,o2+k*4+1,none⟩=some (.int .i64 (evI l k).kind)/\W'.cell? ⟨b2,o2+k*4+2,none⟩=some (.int .i64 (evI l k).obj)/\W'.cell? ⟨b2,o2+k*4+3,none⟩=some (.bool (evI l k).fail)) /\
      (W'.cell? ⟨wr.heap.size,0,none⟩=some (.int .i64 (clk l k 0))/\W'.cell? ⟨wr.heap.size,1,none⟩=some (.int .i64 (clk l k 1))/\W'.cell? ⟨wr.heap.size,2,none⟩=some (.int .i64 (clk l k 2))/\W'.cell? ⟨wr.heap.size,3,none⟩=some (.int .i64 (clk l k 3))))
     (first|exact hS0|exact hS5)
     (first|(go_at_call 106;((with_reducible refine HADD.out.mono ?_);rintro r w5⟨rfl,v5,xs5,hp5,ha5⟩;have HP5:=Lib.hid hp5;have HLW5:Hid (Low w.heap.size W1.heap.size W1 w5):=HLW4.out.trans ((Low.of_below (Below.refl _ w4).drew).trans ha5.toLow);have hS5:=HQ.out w5 (HB1.out.trans (HLW5.out.below (Nat.le_refl _) (by omega))) (ha5.keep _ _ _ _ HT4.out (by decide) (by decide) (by decide));clear hp5 ha5)))
   clear hS0 hS5 HADD HT4 HLW4 HEV HP4 HQ
   go_wp2
   go_roundw
   case rel=>exact⟨k+1,by omega,by go_num,⟨_,_,HP5.out⟩,HLW5.out⟩
   case measure=>simp[intOf];omega
  ·obtain rfl:k=m:=by omega
   obtain⟨l0,n,v,xs,hr0,hn0,hm0,HRA,HP⟩:∃(l0:List Ev) (n:Nat) (v:Value) (xs:List (Ev × Sp)),Zaw l0=true/\n<=l0.length/\l0.length<=200/\Hid (∀e,raced l0 n e=withL (okL l) e)/\Hid (PastM wr w.heap.size W1.heap.size (csOf l0 n) v xs (grp l0 n)):=by
    obtain⟨⟨v,xs,hp⟩,hlow⟩:=HR.out
    cases hr:Zaw l
    ·have hk0:k=0:=by
      rcases HCK.out with h|⟨h,_⟩
      ·exact h
      ·rw[hr]at h;cases h
     subst hk0
     refine⟨[],0,v,xs,rfl,Nat.le_refl _,by simp,fun e=>?_,hp⟩
     unfold okL
     rw[if_neg (by rw[hr];simp)]
     rfl
    ·have hk0:k=l.length:=by
      rw[<-hmm]
      exact Zfr hr
     subst hk0
     refine⟨l,l.length,v,xs,hr,Nat.le_refl _,hm,fun e=>?_,hp⟩
     unfold okL
     rw[if_pos hr,Zk2]
   have HLW:=Lib.hid HR.out.2
   clear HR HCK HROW HPM
   go_wp2_with fail
   refine(HTH.out wr (HB1.out.trans (HLW.out.below (Nat.le_refl _) (by omega)))).mono ?_
   rintro r w'⟨rfl,rfl⟩
   go_wp2_with fail
   go_loopw [8,30] (fun lv i wt=>∃t:Nat,t<=nT/\i=.int .i64 t/\Hid (RsW w.heap.size l0 n v xs nx (okL l) W1 t lv wt)) (fun _ i _=>nT-(intOf i).toNat)
   case atStart=>exact⟨0,Nat.zero_le _,rfl,HP.out,Za5 _ _ _ _ _,HLW.out⟩
   case round=>
    clear HP HLW
    obtain⟨t,ht,rfl,HR⟩:=hrel
    have HPW:=Lib.hid HR.out.1
    have HOW:=Lib.hid HR.out.2.1
    have HLW:=Lib.hid HR.out.2.2
    clear HR
    by_cases hlt:t<nT
    ·go_wp2_with fail
     refine(HNX.out _ t hlt (HB1.out.trans (HLW.out.below (Nat.le_refl _) (by omega)))).mono ?_
     rintro r w2⟨rfl,hb2⟩
     have HP2:=Lib.hid (HPW.out.later hb2)
     have HO2:=Lib.hid (HOW.out.later hb2)
     have HL2:Hid (Low w.heap.size W1.heap.size W1 w2):=HLW.out.trans (Low.of_below (hb2.mono HPW.out.le))
     clear HPW HOW HLW hb2
     cases hn:nx t with
     |none=>
      have hb3:=Zaa w2 (.cells #[.int .i64 0,.int .i64 0,.int .i64 0,.bool false] 112)
      have HP3:=Lib.hid (HP2.out.later hb3)
      have HL3:Hid (Low w.heap.size W1.heap.size W1 (w2.alloc (.cells #[.int .i64 0,.int .i64 0,.int .i64 0,.bool false] 112))):=HL2.out.trans (Low.of_below (hb3.mono HP2.out.le))
      have HO3:Hid (Zae (w2.alloc (.cells #[.int .i64 0,.int .i64 0,.int .i64 0,.bool false] 112)) W1.heap.size 137 2 Za3 u8 (Zct nx (okL l) (t+1))):=by
       show Zae _ _ _ _ _ _ _
       rw[Zdc,hn]
       simp only[List.append_nil]
       exact HO2.out.later hb3
      clear hn hb3 HP2 HO2 HL2
      simp only[evR,evV,ev0,Option.getD_none,Option.isSome_none]
      go_wp2
      go_roundw
      case rel=>exact⟨t+1,by omega,by go_num,HP3.out,HO3.out,HL3.out⟩
      case measure=>simp[intOf];omega
     |some e=>
      obtain⟨et,ek,eo,ef⟩:=e
      obtain rfl:et=(t:Int):=HNT.out t _ hn
      have hb3:=Zaa w2 (.cells #[.int .i64 (t:Int),.int .i64 ek,.int .i64 eo,.bool ef] 112)
      have HP3:=Lib.hid (HP2.out.later hb3)
      have HO3:=Lib.hid (HO2.out.later hb3)
      have HL3:Hid (Low w.heap.size W1.heap.size W1 (w2.alloc (.cells #[.int .i64 (t:Int),.int .i64 ek,.int .i64 eo,.bool ef] 112))):=HL2.out.trans (Low.of_below (hb3.mono HP2.out.le))
      have HE3:Hid (EvBox (w2.alloc (.cells #[.int .i64 (t:Int),.int .i64 ek,.int .i64 eo,.bool ef] 112)) w2.heap.size ⟨t,ek,eo,ef⟩):=EvBox.new w2 ⟨t,ek,eo,ef⟩
      have HN:=Lib.hid hn
      clear hn hb3 HP2 HO2 HL2
      simp only[evR,evV,Option.getD_some,Option.isSome_some]
      obtain⟨e0,e1,e2,e3⟩:=HE3.out.cells
      go_wp2_with fail
      refine(racing_any w.heap.size W1.heap.size n l0 ⟨t,ek,eo,ef⟩ v xs _ HP3.out hr0 hn0 hm0 (by show(0:Int)<=t;omega) (by show(t:Int)<4;omega)).mono ?_
      rintro r w4⟨rv,rfl,hrv,hb4⟩
      have ho4:=HO3.out.later hb4
      have hp4:=HP3.out.later hb4
      have hle4:W1.heap.size<=w4.heap.size:=hp4.le
      have hrv2:Zae w4 W1.heap.size 137 2 Za3 rv (rcT (t:Int) (raced l0 n ⟨t,ek,eo,ef⟩)):=ZhP hrv HP3.out.le
      have hrl:(Zct nx (okL l) t).length+(rcT (t:Int) (raced l0 n ⟨t,ek,eo,ef⟩)).length<=1000000:=by
       have h7:=Ze8 nx (okL l) t
       have h8:=Zj1 l0 n ⟨t,ek,eo,ef⟩
       have h9:=okL_len l
       have h10:t*(okL l).length<=4*200:=Nat.mul_le_mul (by omega) (by omega)
       unfold rcT
       rw[List.length_map]
       omega
      go_wp2_with (at_builtin;refine Zif rfl _ _ rfl W1.heap.size _ (Zct nx (okL l) t) rfl ho4 _ _ rfl hrv2 hrl hle4 ?_;intro v5 w5 h5 hb5 hg5)
      have HP5:=Lib.hid (hp4.race ho4 hb5 hg5)
      have HO5:Hid (Zae w5 W1.heap.size 137 2 Za3 v5 (Zct nx (okL l) (t+1))):=by
       show Zae _ _ _ _ _ _ _
       rw[Zdc,HN.out]
       rw[HRA.out]at h5
       exact h5
      have HL5:Hid (Low w.heap.size W1.heap.size W1 w5):=(HL3.out.trans (Low.of_below (hb4.mono HP3.out.le))).trans (Low.of_below hb5)
      clear ho4 hp4 hrv2 h5 hb5 hg5 hb4 hrv hrl HN HE3 HP3 HO3 HL3
      go_wp2
      go_roundw
      case rel=>exact⟨t+1,by omega,by go_num,HP5.out,HO5.out,HL5.out⟩
      case measure=>simp[intOf];omega
    ·obtain rfl:t=nT:=by omega
     go_wp2
     go_ret
     exact⟨_,rfl,ZhP HOW.out (by omega),HB1.out.trans (HLW.out.below (Nat.le_refl _) (by omega))⟩
theorem races_st{F:Nat}{s:St}{b:Nat}{w:World}(h:StAt w b s)(ok:s.Ok F)(h4:s.ts.length<=4)(a:Option Addr)(cap:Nat)(l:List Ev)(hl:EvsAt w a l)(hm:l.length<=200):
  Calls Tryz.prog 66 #[.pointer (some ⟨b,0,none⟩),.slice a l.length cap] w (RacesR s.next s.ts.length l w):=
 races_gen _ s.ts.length s.next (fun _ _ h=>Zcu h) h4 a cap l w hl hm (fun _ hb=>ZbV (h.later hb)) (fun _ t _ hb=>Zf4 (h.later hb) ok t)
theorem OwnN.block{w:World}{B:Nat}{v:Value}{l:List Int}(h:OwnN w B v l)(hn:l≠[]):∃g cap,v=.slice (some ⟨g,0,none⟩) l.length cap/\B<=g/\g<w.heap.size:=by
 obtain⟨h1,⟨_,h3⟩|⟨g,cap,cur,h2,h3,h4,_⟩⟩:=h
 ·exact absurd (List.length_eq_zero_iff.1 h3) hn
 ·exact⟨g,cap,h2,h3,(Array.getElem?_eq_some_iff.1 h4).1⟩
theorem ZeH{w:World}{B n cap:Nat}{a:Option Addr}{l:List Int}(h:OwnN w B (.slice a n cap) l):l.length=n:=by
 obtain⟨h1,⟨h2,h3⟩|⟨g,cap,cur,h2,_⟩⟩:=h
 ·injection h2 with _ h2;omega
 ·injection h2 with _ h2;omega
theorem ownN_cap{w:World}{B g n cap:Nat}{l:List Int}(h:OwnN w B (.slice (some ⟨g,0,none⟩) n cap) l):n<=cap:=by
 have hl:=ZeH h
 obtain⟨h1,⟨h2,_⟩|⟨g',cap',cur,h2,h3,h4,h5,_⟩⟩:=h
 ·cases h2
 ·injection h2 with e1 e2 e3
  omega
theorem ZmC{w:World}{B g n cap:Nat}{l:List Int}(h:OwnN w B (.slice (some ⟨g,0,none⟩) n cap) l)(k:Nat)(x:Int):OwnN (w.setCell ⟨g,k,none⟩ (.int .i64 x)) B (.slice (some ⟨g,0,none⟩) n cap) (l.set k x):=by
 have hl:=ZeH h
 have h0:w.ownsRow B 3 1 (.slice (some ⟨g,0,none⟩) n cap) n (l.map (Value.int .i64)):=by rw[<-hl];rw[<-hl]at h;exact h
 have h1:=(h0.stored k (.int .i64 x)).1
 unfold OwnN
 rw[List.length_set,hl,List.map_set]
 exact h1
theorem ownN_sets{B g n cap:Nat}(xs:List Int):∀{w:World} {l:List Int} (k:Nat),OwnN w B (.slice (some ⟨g,0,none⟩) n cap) l->∃l',OwnN (w.setCells g k (xs.map (Value.int .i64))) B (.slice (some ⟨g,0,none⟩) n cap) l'/\l'.take k=l.take k:=by
 induction xs with
 |nil=>intro w l k h;exact⟨l,h,rfl⟩
 |cons x xs ih=>
  intro w l k h
  obtain⟨l',h1,h2⟩:=ih (k+1) (ZmC h k x)
  refine⟨l',h1,?_⟩
  have:=congrArg (List.take k) h2
  rw[List.take_take,List.take_take,Nat.min_eq_left (by omega),List.take_set_of_le (by omega)]at this
  exact this
theorem ownN_take{w:World}{B g n cap:Nat}{l:List Int}(h:OwnN w B (.slice (some ⟨g,0,none⟩) n cap) l){k:Nat}(hk:k<=n):OwnN w B (.slice (some ⟨g,0,none⟩) k cap) (l.take k):=by
 have hl:=ZeH h
 obtain⟨h1,⟨h2,_⟩|⟨g',cap',cur,h2,h3,h4,h5,h6,h7,h8⟩⟩:=h
 ·cases h2
 ·injection h2 with e1 e2 e3
  injection e1 with e1
  injection e1 with e1
  subst e1 e3
  have hlk:(l.take k).length=k:=by rw[List.length_take];omega
  refine⟨by simp,.inr ⟨g,cap,cur,by rw[hlk],h3,h4,by omega,h6,h7,?_⟩⟩
  have:=congrArg (List.take k) h8
  rw[List.take_take,Nat.mul_one,Nat.min_eq_left (by omega),<-List.map_take]at this
  rw[Nat.mul_one,hlk]
  exact this
theorem below_sets{B g:Nat}(hg:B<=g)(vs:List Value):∀{a w:World} (k:Nat),Below B a w->Below B a (w.setCells g k vs):=by
 induction vs with
 |nil=>intro a w k h;exact h
 |cons v vs ih=>intro a w k h;exact ih (k+1) (h.setCell (p:=⟨g,k,none⟩) hg v)
theorem ZdG{w:World}{B g n cap:Nat}{l:List Int}(h:OwnN w B (.slice (some ⟨g,0,none⟩) n cap) l){k:Nat}(hk:k<n):w.cell? ⟨g,k,none⟩=some (.int .i64 (l.getD k 0))/\w.frozen? ⟨g,k,none⟩=false:=by
 have hl:=ZeH h
 obtain⟨h1,⟨h2,_⟩|⟨g',cap',cur,h2,h3,h4,h5,h6,h7,h8⟩⟩:=h
 ·cases h2
 ·injection h2 with e1 e2 e3
  injection e1 with e1
  injection e1 with e1
  subst e1
  have hj:(l.map (Value.int .i64))[k]?=some (.int .i64 l[k]):=by simp[hl,hk]
  rw[<-h8,List.getElem?_take_of_lt (by omega)]at hj
  rw[Zav _ (by omega)]
  refine⟨?_,by simp[World.frozen?,h4]⟩
  simp[World.cell?,h4]
  simpa using hj
theorem zero_int:∀w,(zeroValue 3).run Tryz.prog w=.ok (.int .i64 0) w:=(zero_of_info (P:=Tryz.prog) (t:=3) (v:=.int .i64 0) (n:=1) (by kernel_rfl)).1
theorem sets_repl(w:World)(g k n:Nat):w.setCells g k (List.replicate n (.int .i64 0))=w.setCells g k ((List.replicate n (0:Int)).map (Value.int .i64)):=by rw[List.map_replicate]
def IdxP(P:Int->Bool)(l:List Int)(z:Int):Prop:=(z=-1/\∀x∈l,P x=false)∨∃k,∃h:k<l.length,z=(k:Int)/\P l[k]=true/\∀j (h:j<l.length),j<k->P l[j]=false
theorem Zer(P:Int->Bool)(l:List Int){k:Nat}(h:k<l.length):((l.take (k+1)).filter fun x=>!P x)=((l.take k).filter fun x=>!P x)++if P l[k]=true then []else [l[k]]:=by
 rw[List.take_succ_eq_append_getElem h,List.filter_append]
 congr 1
 cases hp:P l[k] <;> simp[hp]
def DelI(P:Int->Bool)(l cur:List Int)(m k:Nat):Prop:=cur.take m=((l.take k).filter fun x=>!P x)/\∀i,k<=i->cur.getD i 0=l.getD i 0
theorem DelI.skip{P:Int->Bool}{l cur:List Int}{m k:Nat}(h:DelI P l cur m k)(hk:k<l.length)(hp:P l[k]=true):DelI P l cur m (k+1):=by
 refine⟨?_,fun i hi=>h.2 i (by omega)⟩
 rw[Zer P l hk,if_pos hp,List.append_nil]
 exact h.1
theorem DelI.keep{P:Int->Bool}{l cur:List Int}{m k:Nat}(h:DelI P l cur m k)(hk:k<l.length)(hc:cur.length=l.length)(hm:m<k)(hp:P l[k]=false):DelI P l (cur.set m l[k]) (m+1) (k+1):=by
 refine⟨?_,fun i hi=>?_⟩
 ·rw[Zer P l hk,if_neg (by rw[hp];exact Bool.false_ne_true),<-h.1,List.take_succ_eq_append_getElem (by rw[List.length_set];omega),List.take_set_of_le (Nat.le_refl _),List.getElem_set_self]
 ·rw[ZaS _ _ _ _ _ (by omega),if_neg (by omega)]
  exact h.2 i (by omega)
theorem indexHas(z:Nat)(P:Int->Bool)(a:Option Addr)(cap:Nat)(l:List Int)(w:World)(hl:ZcG w a l)
  (hf:∀t,Calls Tryz.prog 70 #[.int .u8 z,.int .i64 t] w fun r w'=>r=.returned (.bool (P t))/\w=w'):
  Calls Tryz.prog 112 #[.slice a l.length cap,.func (.func 70) #[.int .u8 z] #[]] w fun r w'=>(∃z:Int,r=.returned (.int .i64 z)/\IdxP P l z)/\w=w':=by
 have hm:=hl.1
 unfold maxLen at hm
 have HL:=Lib.hid hl
 have HF:=Lib.hid hf
 clear hl hf
 go_enter Tryz.func112,Tryz.ntmps112
 go_wp2
 go_loopw [8] (fun i wr=>∃k:Nat,k<=l.length/\i=.int .i64 k/\Hid (∀j (h:j<l.length),j<k->P l[j]=false)/\wr=w) (fun i _=>l.length-(intOf i).toNat)
 case atStart=>exact⟨0,Nat.zero_le _,rfl,(fun j _ h=>absurd h (by omega)),rfl⟩
 case round=>
  obtain⟨k,hk,rfl,HA,rfl⟩:=hrel
  by_cases hlt:k<l.length
  ·obtain⟨b,o,rfl,hc⟩:=HL.out.2 (by intro e;simp[e]at hlt)
   have c0:=hc k hlt
   have h1:Hid (P l[k]=true->IdxP P l (k:Int)):=fun h=>.inr ⟨k,hlt,rfl,h,fun j hj hjk=>HA.out j hj hjk⟩
   have h2:Hid (P l[k]=false->∀j (h:j<l.length),j<k+1->P l[j]=false):=fun h j hj hjk=>by
    by_cases e':j=k
    ·subst e';exact h
    ·exact HA.out j hj (by omega)
   clear hc
   generalize l[k]=x at *
   go_wp2_with fail
   refine(HF.out x).mono ?_
   rintro r w2⟨rfl,rfl⟩
   cases hr:P x
   ·have HN:=Lib.hid (h2.out hr)
    clear h1 h2
    go_wp2
    go_roundw
    case rel=>exact⟨k+1,by omega,by go_num,HN,by trivial⟩
    case measure=>simp[intOf];omega
   ·have HN:=Lib.hid (h1.out hr)
    clear h1 h2
    go_wp2
    go_ret
    exact⟨⟨k,rfl,HN.out⟩,rfl⟩
  ·have HN:Hid (IdxP P l (-1)):=.inl ⟨rfl,fun x hx=>by
    obtain⟨j,hj,rfl⟩:=List.mem_iff_getElem.1 hx
    exact HA.out j hj (by omega)⟩
   obtain rfl:k=l.length:=by omega
   go_wp2
   go_ret
   exact⟨⟨-1,rfl,HN.out⟩,rfl⟩
theorem deleteHas(z:Nat)(P:Int->Bool)(B:Nat)(a:Option Addr)(cap:Nat)(l:List Int)(w:World)(hl:OwnN w B (.slice a l.length cap) l)(hm:l.length<=1000)(_hB:B<=w.heap.size)
  (hf:∀W t,Below B w W->Calls Tryz.prog 70 #[.int .u8 z,.int .i64 t] W fun r w'=>r=.returned (.bool (P t))/\W=w'):
  Calls Tryz.prog 68 #[.slice a l.length cap,.func (.func 70) #[.int .u8 z] #[]] w fun r w'=>∃v,r=.returned v/\OwnN w' B v (l.filter fun x=>!P x)/\Below B w w':=by
 obtain⟨a',cap',e,hat,_⟩:=hl.form (by omega)
 injection e with e1 _ e2
 subst e1 e2
 have HI:=Lib.hid (indexHas z P a cap l w hat (fun t=>hf w t (Below.refl _ _)))
 have HL:=Lib.hid hl
 have HF:=Lib.hid hf
 clear hl hf hat
 go_enter Tryz.func68,Tryz.ntmps68
 go_wp2_with fail
 refine HI.out.mono ?_
 rintro r w1⟨⟨z,rfl,hz⟩,rfl⟩
 clear HI
 rcases hz with ⟨rfl,hall⟩|⟨k0,hk0,rfl,hpk,hbef⟩
 ·have HE:Hid ((l.filter fun x=>!P x)=l):=by
   show _=_
   rw[List.filter_eq_self]
   intro x hx
   rw[hall x hx];rfl
  clear hall
  go_wp2
  go_ret
  exact⟨_,rfl,by rw[HE.out];exact HL.out,Below.refl _ _⟩
 ·obtain⟨g,cap',e,hBg,hgw⟩:=HL.out.block (by intro e;simp[e]at hk0)
  injection e with e1 _ e2
  subst e1 e2
  have hq:((k0:Int) == -1)=false:=by simp
  have HD:Hid (DelI P l l k0 (k0+1)):=by
   refine⟨?_,fun _ _=>rfl⟩
   rw[Zer P l hk0,if_pos hpk,List.append_nil]
   symm
   rw[List.filter_eq_self]
   intro x hx
   obtain⟨j,hj,rfl⟩:=List.mem_iff_getElem.1 hx
   rw[List.length_take]at hj
   rw[List.getElem_take,hbef j (by omega) (by omega)];rfl
  have hk1:k0+1<=l.length:=hk0
  have hlc:l.length<=cap:=ownN_cap HL.out
  clear hpk hbef
  go_wp2
  go_loopw [5,6] (fun i j wr=>∃(m k:Nat) (cur:List Int),m<k/\k<=l.length/\i=.int .i64 m/\j=.int .i64 k/\Hid (DelI P l cur m k)/\Hid (OwnN wr B (.slice (some ⟨g,0,none⟩) l.length cap) cur)/\Below B w wr) (fun _ j _=>l.length-(intOf j).toNat)
  case atStart=>exact⟨k0,k0+1,l,by omega,hk1,rfl,by go_num,HD,HL,Below.refl _ _⟩
  case round=>
   obtain⟨m,k,cur,hmk,hk,rfl,rfl,HX,HO,hbw⟩:=hrel
   by_cases hlt:k<l.length
   ·obtain⟨c0,f0⟩:=ZdG HO.out hlt
    obtain⟨c1,f1⟩:=ZdG HO.out (show m<l.length by omega)
    have e0:cur.getD k 0=l[k]:=by rw[HX.out.2 k (Nat.le_refl _),Zav _ hlt]
    have HCL:Hid (cur.length=l.length):=ZeH HO.out
    rw[e0]at c0
    have HS:Hid (P l[k]=true->DelI P l cur m (k+1)):=fun h=>HX.out.skip hlt h
    have HT:Hid (P l[k]=false->DelI P l (cur.set m l[k]) (m+1) (k+1)):=fun h=>HX.out.keep hlt HCL.out hmk h
    clear e0 HX HCL
    generalize l[k]=x at *
    generalize cur.getD m 0=y at *
    go_wp2_with fail
    refine(HF.out _ x hbw).mono ?_
    rintro r w2⟨rfl,rfl⟩
    cases hr:P x
    ·have HN:=Lib.hid (HT.out hr)
     have HO2:=Lib.hid (ZmC HO.out m x)
     have hb2:=hbw.setCell (p:=⟨g,m,none⟩) hBg (.int .i64 x)
     clear HS HT
     go_wp2
     go_roundw
     case rel=>exact⟨m+1,k+1,_,by omega,by omega,by go_num,by go_num,HN,HO2,hb2⟩
     case measure=>simp[intOf];omega
    ·have HN:=Lib.hid (HS.out hr)
     clear HS HT
     go_wp2
     go_roundw
     case rel=>exact⟨m,k+1,cur,by omega,by omega,rfl,by go_num,HN,HO,hbw⟩
     case measure=>simp[intOf];omega
   ·obtain rfl:k=l.length:=by omega
    have hcl:∀W,W=wr->∀ty,(Builtin.clear_ #[108] ty #[.slice (some ⟨g,m,none⟩) (l.length-m) (cap-m)]).run Tryz.prog W=.ok (.tuple #[]) (W.setCells g m (List.replicate (l.length-m) (.int .i64 0))):=by
     rintro W rfl ty
     exact Lib.run_clear_slice W _ _ ty _ Tryz.underlying108 zero_int rfl rfl g m _ _ (by omega) (fun j hj=>by rw[(ZdG HO.out (show m+j<l.length by omega)).1];rfl) (fun j hj=>(ZdG HO.out (show m+j<l.length by omega)).2)
    have hcl':=hcl _ rfl
    clear hcl
    have HR:Hid (OwnN (wr.setCells g m (List.replicate (l.length-m) (.int .i64 0))) B (.slice (some ⟨g,0,none⟩) m cap) (l.filter fun x=>!P x)/\Below B w (wr.setCells g m (List.replicate (l.length-m) (.int .i64 0)))):=by
     rw[sets_repl]
     obtain⟨l',h1,h2⟩:=ownN_sets (List.replicate (l.length-m) (0:Int)) m HO.out
     have h3:=ownN_take h1 (show m<=l.length by omega)
     rw[h2,HX.out.1,List.take_length]at h3
     exact⟨h3,below_sets hBg _ _ hbw⟩
    have hmc:m<cap:=by omega
    clear HX HO
    go_wp2
    go_ret
    exact⟨_,rfl,HR.out.1,HR.out.2⟩
theorem own_cellR{w:World}{B N cap:Nat}{a:Option Addr}{rs:List (Nat × Int)}{t:TypeId}(h:Zae w B t 2 Za3 (.slice a N cap) rs){k:Nat}(hk:k<rs.length):∃g,a=some ⟨g,0,none⟩/\w.cell? ⟨g,k*2,none⟩=some (.int .i64 (rs[k].1:Nat))/\w.cell? ⟨g,k*2+1,none⟩=some (.int .i64 rs[k].2):=by
 obtain⟨k1,⟨_,h2⟩|⟨g,cap',cur,h1,k3,k4,k5,k6,k7,k8⟩⟩:=h
 ·omega
 ·injection h1 with e1 e2 e3
  have hc:∀j,j<2->w.cell? ⟨g,k*2+j,none⟩=(Za3 rs[k])[j]?:=by
   intro j hj
   have h2:=ZaI Zc1 rs k j hk hj
   rw[<-k8,List.getElem?_take_of_lt (by omega)]at h2
   rw[<-h2]
   simp[World.cell?,k4]
  exact⟨g,e1,hc 0 (by omega),hc 1 (by omega)⟩
theorem ownE_lowr{w:World}{B A:Nat}{v:Value}{l:List Ev}(h:OwnE w B v l)(hA:A<=B):OwnE w A v l:=by
 obtain⟨h1,h2|⟨g,cap,cur,h2,h3,h4,h5⟩⟩:=h
 ·exact⟨h1,.inl h2⟩
 ·exact⟨h1,.inr ⟨g,cap,cur,h2,Nat.le_trans hA h3,h4,h5⟩⟩
theorem racesN_lt{nx:Int->Option Ev}{l:List Ev}{n:Nat}:∀r∈Zct nx l n,r.1<l.length:=by
 intro r hr
 obtain⟨k,_,_,f,_,hi⟩:=ZhS.1 (show(r.1,r.2)∈_ from hr)
 exact(Zkj.1 hi).1
section
variable{p:Pg}{fuel:Int}{B b W Bud tb mb wb kb:Nat}{S:Nat->Prop}{m:Mac}{w:World}
structure OpnR(p:Pg)(fuel:Int)(B b W Bud tb mb wb kb:Nat)(S:Nat->Prop)(m:Mac)(L:Nat->Prop)(g:Nat)(z1:St)(er rv:Value)(es:List Ev)(RS:List (Nat × Int))(w wr:World):Prop where
 k:MYK p fuel B b W Bud tb mb wb kb S m L w wr
 st:StAt wr g z1
 ev:OwnE wr w.heap.size er es
 rc:Zae wr w.heap.size 137 2 Za3 rv RS
 lg:L g
 le:∀y,er.ownBlock=some y->L y
 lr:∀y,rv.ownBlock=some y->L y
theorem OpnR.later{L:Nat->Prop}{g:Nat}{z1:St}{er rv:Value}{es:List Ev}{RS:List (Nat × Int)}{wr w':World}(h:OpnR p fuel B b W Bud tb mb wb kb S m L g z1 er rv es RS w wr)(hb:Below wr.heap.size wr w'):OpnR p fuel B b W Bud tb mb wb kb S m L g z1 er rv es RS w w':=
 ⟨h.k.later hb,h.st.later hb,h.ev.later hb,h.rc.later hb,h.lg,h.le,h.lr⟩
theorem OpnR.own{L:Nat->Prop}{g:Nat}{z1:St}{er rv:Value}{es:List Ev}{RS:List (Nat × Int)}{wr:World}{m':Mac}(h:OpnR p fuel B b W Bud tb mb wb kb S m L g z1 er rv es RS w wr){F:FuncId}{args:Array Value}{V:Ending->Prop}(hc:∀S1,MY p fuel B b W Bud tb mb wb kb S1 m wr->Calls Tryz.prog F args wr fun r w'=>V r/\MYR p fuel B b W Bud tb mb wb kb S1 m' wr w'):
  Calls Tryz.prog F args wr fun r w'=>V r/\OpnR p fuel B b W Bud tb mb wb kb S m' L g z1 er rv es RS w w':=
 (h.k.own hc).mono fun _ _ ⟨e,k,o⟩=>⟨e,k,h.st.onlyS o (fun hn=>hn h.lg),h.ev.onlyS o (fun y hy hn=>hn (h.le y hy)),h.rc.onlyS o (fun y hy hn=>hn (h.lr y hy)),h.lg,h.le,h.lr⟩
theorem open_any(h:MY p fuel B b W Bud tb mb wb kb S m w)(hg:Zam p fuel=true)(hW:W<=64){j:Nat}(hj:j<W){k:Pfx}{asl:Nat}(ha:asl<256)(d:Int){z1:St}{nd:Nd}{T:List Nd}
  (hr:rep p fuel (rowK k)=(0,nd.row,some z1)) (hmk:(makeT p fuel m.l k asl j).1=0) (hpre:PreM p fuel W Bud { m with l:=(makeT p fuel m.l k asl j).2 } T nd k asl) (hT:T.length<=600) (hpd:pendM W m.box<=90000) (hl:m.l.length<=1000000):
  Calls Tryz.prog 36 #[.pointer (some ⟨b,0,none⟩),.int .i64 (j:Int),.string ⟨k.toArray⟩,.int .u8 (asl:Nat),.int .i64 d] w fun r w'=>r=.returned (.tuple #[])/\MYR p fuel B b W Bud tb mb wb kb S (openM p fuel W j k asl d m) w w':=by
 obtain⟨⟨c0,c1,c2,c3,c4,c5,c6⟩,_⟩:=h.cells
 have hk33:=Zgv hr
 have hoks:=(s0_ok hg).1
 obtain⟨hx1,hth⟩:=ZeW hr
 have okz:z1.Ok fuel.toNat:=hx1.ok hoks
 have hright:=rep_right hr
 have hesl:nd.row.length=k.length:=by rw[ZeD hr,Zdb]
 obtain⟨m0,hm0⟩:∃m0:Mac,m0={ m with l:=(makeT p fuel m.l k asl j).2 }:=⟨_,rfl⟩
 have hnode:NodeK m0.l k asl:=by rw[hm0];exact made_node hmk hr
 rw[<-hm0]at hpre
 have HMK:=Lib.hid ((MYR.refl h).call (m':=m0) (fun Sp q=>by rw[hm0];exact pm_make q (by omega) ha j hl) (by rw[hm0]) (by rw[hm0]) (by rw[hm0]))
 have HAT:Hid (∀V,MYR p fuel B b W Bud tb mb wb kb S m0 w V->Calls Tryz.prog 65 #[.pointer (some ⟨tb,0,none⟩),.string ⟨k.toArray⟩] V fun r w'=>∃g v,r=.returned (.tuple #[.pointer (some ⟨g,0,none⟩),v,.int .i64 0])/\V.heap.size<=g/\StAt w' g z1/\OwnE w' V.heap.size v nd.row/\Below V.heap.size V w'):=fun V r=>by
  obtain⟨Sp,q⟩:=r.pm
  exact(pm_at q (by omega) hr).mono fun r w' ⟨g,v,e,h1,h2,_,h3,h4⟩=>⟨g,v,e,h1,h2,h3,h4⟩
 have hpd0:pendM W m0.box<=90000:=by rw[hm0];exact hpd
 obtain⟨RS,hRS⟩:∃RS,RS=Zct z1.next nd.row z1.ts.length:=⟨_,rfl⟩
 have hrm:ZbR p fuel k=RS.map Prod.fst:=by
  unfold ZbR
  rw[(Zdu hr).1,(Zdu hr).2,hRS]
 have hok:okL nd.row=nd.row:=by unfold okL;rw[if_pos hright]
 have hrl:RS.length<=132:=by
  have:=races_few hg hr okz.len4
  rw[hrm,List.length_map]at this
  exact this
 obtain⟨mR,hmR⟩:∃mR:Nat->Mac,mR=fun i=>((ZbR p fuel k).take i).foldl (raceM p fuel W j k) m0:=⟨_,rfl⟩
 have HCORE:Hid (∀i,CoreM p fuel W (mR i) T/\KeepM W m0 (mR i)):=fun i=>by
  obtain⟨a1,a2,_⟩:=Zj0 hg hj hpre.mem hpre.row ((ZbR p fuel k).take i) hpre.core
  rw[hmR]
  exact⟨a1,a2⟩
 have HPD:Hid (∀i,pendM W (mR i).box<100000):=fun i=>by
  have h1:=pend_races hg hj hpre.mem hpre.row ((ZbR p fuel k).take i) hpre.core
  have h2:((ZbR p fuel k).take i).length<=132:=by
   rw[hrm,List.length_take,List.length_map]
   omega
  rw[hmR]
  dsimp only
  omega
 have HTW:Hid (∀i {V:World} {S1:Nat->Prop},MY p fuel B b W Bud tb mb wb kb S1 (mR i) V->totW W (mR i).wk<100000):=fun i V S1 h=>by
  obtain⟨Sp,q⟩:=h.pm
  have h1:=Zmf q.noW (fun q hq=>((HCORE.out i).1.work.iff q).1 hq)
  have h2:=(HCORE.out i).1.tree.len
  omega
 have HND:Hid (∀i,NodeK (mR i).l k asl):=fun i=>by
  rw[hmR]
  exact hnode.races _
 have HRACE:Hid (∀i (hi:i<RS.length),mR (i+1)=raceM p fuel W j k (mR i) RS[i].1):=fun i hi=>by
  rw[hmR]
  dsimp only
  rw[hrm,List.take_succ_eq_append_getElem (by rw[List.length_map];exact hi),List.foldl_append,List.getElem_map]
  rfl
 have HASK:Hid (∀i (A:Nat),∃v,v<W/\ownT (mR i).l (k.take A)=(v:Nat)/\markT (mR i).l (k.take A) 255=markT (mR i).l (k.take A) (ofN (stK p fuel (k.take A)).all)/\(k.take A).length<=33):=fun i A=>ZkX hg (HCORE.out i).1 hpre.mem hpre.row A
 have HEND:Hid (openM p fuel W j k asl d m=endM p fuel W j k asl d (mR RS.length)):=by
  show _=_
  unfold openM
  rw[hmR,<-hm0]
  dsimp only
  rw[List.take_of_length_le (by rw[hrm,List.length_map];exact Nat.le_refl _)]
 have HRL:Hid (∀i (hi:i<RS.length),RS[i].1<k.length):=fun i hi=>by
  rw[<-hesl]
  exact racesN_lt _ (by rw[<-hRS];exact List.getElem_mem hi)
 have HM0:Hid (mR 0=m0):=by show _=_;rw[hmR];rfl
 have HBD:Hid (∀i,((mR i).keys j).length<=600/\(mR i).blk<=600):=fun i=>by
  obtain⟨b1,b2,_⟩:=Zlr hpre hj
  rw[(HCORE.out i).2.keys,(HCORE.out i).2.blk]
  omega
 have HOK:=Lib.hid okz
 have HREP:=Lib.hid hr
 have HEK:=Lib.hid hesl
 have HRR:Hid (∀V g a c,StAt V g z1->EvsAt V a nd.row->Calls Tryz.prog 66 #[.pointer (some ⟨g,0,none⟩),.slice a nd.row.length c] V fun r w'=>∃rv,r=.returned rv/\Zae w' V.heap.size 137 2 Za3 rv RS/\Below V.heap.size V w'):=fun V g a c h1 h2=>by
  have:=races_st h1 okz okz.len4 a c nd.row h2 (by omega)
  unfold RacesR at this
  rw[hok,<-hRS]at this
  exact this
 have h4:=Zjh okz
 have hnl:nd.row.length<=33:=by omega
 clear h hg hT hm0 hpre hnode hmk hpd hl hr hx1 hth okz hoks hright hesl hRS hrm hok hmR hpd0 c1 c2 c3 c4 c5 c6
 go_enter Tryz.func36,Tryz.ntmps36
 go_wp2_with fail
 refine HMK.out.mono ?_
 rintro r w1⟨rfl,r1⟩
 have R1:=Lib.hid r1
 obtain⟨⟨c0,_⟩,_⟩:=r1.cells
 clear r1 HMK
 go_wp2_with fail
 refine(HAT.out w1 R1.out).mono ?_
 rintro r w2⟨g,er,rfl,hg1,hst,hev,hb2⟩
 obtain⟨ea,ec,rfl,hevs,_⟩:=hev.form2 (by omega)
 have HRR2:=Lib.hid (HRR.out w2 g ea ec hst hevs)
 have HST:=Lib.hid hst
 have HEV:=Lib.hid hev
 have HB2:=Lib.hid hb2
 have HG1:=Lib.hid hg1
 clear hst hev hevs hb2 hg1 HAT HRR c0
 go_wp2_with fail
 refine HRR2.out.mono ?_
 rintro r w3⟨rv,rfl,hrs,hb3⟩
 obtain⟨ra,rc,rfl,_,hrc,_⟩:=Zae.form2 hrs Zc1 (by omega)
 have HB3:Hid (Below w1.heap.size w1 w3):=HB2.out.trans (hb3.mono HB2.out.size)
 have hw1:=R1.out.size
 obtain⟨L,hL⟩:∃L:Nat->Prop,L=fun x=>x=g∨(Value.slice ea nd.row.length ec).ownBlock=some x∨(Value.slice ra RS.length rc).ownBlock=some x:=⟨_,rfl⟩
 have HO:Hid (OpnR p fuel B b W Bud tb mb wb kb S (mR 0) L g z1 (.slice ea nd.row.length ec) (.slice ra RS.length rc) nd.row RS w w3):=by
  refine⟨?_,HST.out.later hb3,?_,?_,by rw[hL];exact .inl rfl,fun y hy=>by rw[hL];exact .inr (.inl hy),fun y hy=>by rw[hL];exact .inr (.inr hy)⟩
  ·rw[HM0.out]
   refine R1.out.beside HB3.out fun x hx=>?_
   rw[hL]at hx
   rcases hx with rfl|hx|hx
   ·exact⟨HG1.out,(HST.out.later hb3).lt⟩
   ·have:=World.ownsRow.lt (HEV.out.later hb3) x hx
    exact this
   ·have:=World.ownsRow.lt hrs x hx
    exact⟨Nat.le_trans HB2.out.size this.1,this.2⟩
  ·exact ownE_lowr (HEV.out.later hb3) hw1
  ·exact ZfF hrs (Nat.le_trans hw1 HB2.out.size)
 clear hL hrs hb3 HB3 HRR2 HST HEV HB2 HG1 R1 hw1 HM0
 go_wp2_with fail
 go_loopw [38] (fun i wr=>∃q:Nat,q<=RS.length/\i=.int .i64 q/\Hid (OpnR p fuel B b W Bud tb mb wb kb S (mR q) L g z1 (.slice ea nd.row.length ec) (.slice ra RS.length rc) nd.row RS w wr)) (fun i _=>RS.length-(intOf i).toNat)
 case atStart=>exact⟨0,Nat.zero_le _,rfl,HO.out⟩
 case round=>
  obtain⟨q,hq,rfl,HOq⟩:=hrel
  by_cases hlt:q<RS.length
  ·obtain⟨g2,rfl,d0,d1⟩:=own_cellR HOq.out.rc hlt
   have hAk:=HRL.out q hlt
   have HNX:=Lib.hid (HRACE.out q hlt)
   generalize RS[q].1=A at *
   generalize RS[q].2=Tt at *
   obtain⟨v,hv,ho,hs,hkl⟩:=HASK.out q A
   have hba:=Zaa wr (.cells #[.int .i64 (A:Nat),.int .i64 Tt] 137)
   have e0:(wr.alloc (.cells #[.int .i64 (A:Nat),.int .i64 Tt] 137)).cell? ⟨wr.heap.size,0,none⟩=some (.int .i64 (A:Nat)):=by rw[World.cell?_alloc_new];rfl
   have HO2:=Lib.hid (HOq.out.later hba)
   have HA:=Lib.hid (HO2.out.own (m':=mR (q+1)) (fun S1 h1=>by
    rw[HNX.out]
    exact ask_any h1 hW (HTW.out q h1) (HPD.out q) hj (by omega) hv ho hs))
   have hcut:(⟨k.toArray⟩:ByteArray).extract 0 A=⟨(k.take A).toArray⟩:=Zja k A
   have hsz:(⟨k.toArray⟩:ByteArray).size=k.length:=by simp[ByteArray.size]
   have hqi:(q:Int)<(RS.length:Int):=by omega
   have hAi:(A:Int)<=(k.length:Int):=by omega
   clear hba HOq HO2 ho hs hv hkl HNX
   go_wp2_with fail
   refine HA.out.mono ?_
   rintro r w5⟨rfl,h5⟩
   have HO5:=Lib.hid h5
   clear h5
   go_wp2
   go_roundw
   case rel=>exact⟨q+1,by omega,by go_num,HO5.out⟩
   case measure=>simp[intOf];omega
  ·obtain rfl:q=RS.length:=by omega
   have HALL:=Lib.hid (Zfs HOq.out.st HOK.out)
   have htw:totW W (mR RS.length).wk<100000:=by
    obtain⟨S1,h1,_⟩:=HOq.out.k
    exact HTW.out _ h1
   have HTW2:=Lib.hid htw
   have HND2:=Lib.hid (HND.out RS.length)
   have HCO2:=Lib.hid (HCORE.out RS.length).1.tree
   have HBD2:=Lib.hid (HBD.out RS.length)
   generalize mR RS.length=m2 at *
   clear HTW HND HCORE HBD HPD HASK HRACE HRL HO htw
   go_wp2_with fail
   refine HALL.out.mono ?_
   rintro r w4⟨v4,rfl,hv4,hb4⟩
   obtain⟨a4,c4,rfl,_,_⟩:=hv4.form (by omega)
   have HDEL:=Lib.hid (deleteHas asl (hasB asl) wr.heap.size a4 c4 z1.all w4 hv4 (by omega) hb4.size (fun W' t _=>ZlU ha t W'))
   have HB4:=Lib.hid hb4
   clear hv4 hb4 HALL
   go_wp2_with fail
   refine HDEL.out.mono ?_
   rintro r w8⟨v8,rfl,hv8,hb8⟩
   have hv8:OwnN w8 wr.heap.size v8 (Za8 z1 asl):=hv8
   have hlA:(Za8 z1 asl).length<=8:=Nat.le_trans (List.length_filter_le _ _) (by omega)
   obtain⟨a8,c8,rfl,_,_⟩:=hv8.form (by omega)
   have HB8:Hid (Below wr.heap.size wr w8):=HB4.out.trans hb8
   have HO8:=Lib.hid (HOq.out.later HB8.out)
   have HV8:=Lib.hid hv8
   have HAW:Hid (∀x∈Za8 z1 asl,x∈z1.all/\(0<=x/\x<8)/\hasB asl x=false):=fun x hx=>by
    have h1:=List.mem_filter.1 hx
    exact⟨h1.1,Ze2 HOK.out x h1.1,by simpa using h1.2⟩
   have HE1:Hid (Za8 z1 asl=[]->ZbB z1.all asl=false->endM p fuel W j k asl d m2={ m2 with keys:=updF m2.keys j (m2.keys j++[keyB nd.row]) }):=fun h1 h2=>end_key HREP.out h1 h2
   have HE2:Hid (Za8 z1 asl=[]->ZbB z1.all asl=true->endM p fuel W j k asl d m2={ m2 with blk:=m2.blk+1 }):=fun h1 h2=>Zl1 HREP.out h1 h2
   have HE3:Hid (Za8 z1 asl≠[]->endM p fuel W j k asl d m2=markM W j k (ofN [(Za8 z1 asl).getD (drawN d (Za8 z1 asl).length) 0]) m2):=fun h1=>end_mark HREP.out h1
   have HE4:Hid (∀x∈Za8 z1 asl,leftT (markT m2.l k (ofN [x])).2 k≠0):=fun x hx=>end_left HCO2.out HND2.out HREP.out (HAW.out x hx).1 (HAW.out x hx).2.1 (HAW.out x hx).2.2
   generalize Za8 z1 asl=AW at *
   clear hv8 hb8 HDEL HND2 HCO2 HREP HAW HB4
   by_cases hA:AW=[]
   ·have HBK:=Lib.hid (Zmb (some ⟨g,0,none⟩) z1.all (Ze2 HOK.out) (by omega) ha w8 (Zfs HO8.out.st HOK.out))
    have HKY0:Hid (∀V,Below w8.heap.size w8 V->Calls Tryz.prog 75 #[.slice ea nd.row.length ec] V fun r w'=>r=.returned (.string ⟨(keyB nd.row).toArray⟩)/\Below V.heap.size V w'):=fun V hb=>key_any ea ec nd.row V (OwnE.at_ (HO8.out.ev.later hb) (by omega))
    have R8:=Lib.hid HO8.out.k.toR
    subst hA
    clear HV8 HO8 HOq HB8 HE3 HE4 HOK hlA
    cases hb:ZbB z1.all asl
    ·rw[hb]at HBK
     have HF:=Lib.hid (HE1.out rfl hb)
     clear HE1 HE2 hb
     go_wp2_with fail
     refine HBK.out.mono ?_
     rintro r w9⟨rfl,hb9⟩
     have R9:=Lib.hid (R8.out.later hb9)
     have HKY:Hid (∀V,Below w9.heap.size w9 V->Calls Tryz.prog 75 #[.slice ea nd.row.length ec] V fun r w'=>r=.returned (.string ⟨(keyB nd.row).toArray⟩)/\Below V.heap.size V w'):=fun V hb=>HKY0.out V (hb9.trans (hb.mono hb9.size))
     clear hb9 R8 HKY0 HBK
     generalize keyB nd.row=K0 at *
     obtain⟨kv,hK1,hK2⟩:=R9.out.keyed hj K0
     obtain⟨ka,kc,rfl,_,_⟩:=Zae.form2 (hK1 _ (Below.refl _ _)).2.2.1 Zat (by have:=HBD2.out.1;omega)
     have HK2:=Lib.hid hK2
     have HCE:Hid (∀V,Below w9.heap.size w9 V->V.cell? ⟨kb,j,none⟩=some (.slice ka (m2.keys j).length kc)/\V.cell? ⟨b,3,none⟩=some (.slice (some ⟨kb,0,none⟩) W W)):=fun V hb=>⟨(hK1 V hb).1,(hK1 V hb).2.1⟩
     have HOW:Hid (∀V,Below w9.heap.size w9 V->Zae V B 9 1 Zai (.slice ka (m2.keys j).length kc) (m2.keys j)/\B<=V.heap.size):=fun V hb=>(hK1 V hb).2.2
     have hkl:=HBD2.out.1
     have hji:(j:Int)<(W:Int):=by omega
     have hB19:Below w9.heap.size w9 w9.drew:=(Below.refl _ _).drew
     clear hK1 hK2 HBD2 R9
     have hHeld:=HCE.out w9.drew hB19
     go_wp2_with fail
     refine Zeh (S:=fun V=>V.cell? ⟨kb,j,none⟩=some (.slice ka (m2.keys j).length kc)/\V.cell? ⟨b,3,none⟩=some (.slice (some ⟨kb,0,none⟩) W W)) (k:=17) (by kernel_rfl) ?_
     refine Zaj (i:=0) (v:=?_) [17] rfl (by kernel_rfl) (by kernel_rfl) (by kernel_rfl) (by kernel_rfl) (by kernel_rfl) (fun _ _ _ h=>h) (Or.inl ⟨by kernel_rfl,?_⟩) hHeld ?_
     rotate_left
     ·intro w hSw
      try dsimp only at hSw
      go_simp
      with_reducible rfl
     try simp only[Act.put,List.setIfInBounds_toArray]
     refine Zaj (i:=1) (v:=?_) [17] rfl (by kernel_rfl) (by kernel_rfl) (by kernel_rfl) (by kernel_rfl) (by kernel_rfl) (fun _ _ _ h=>h) (Or.inl ⟨by kernel_rfl,?_⟩) hHeld ?_
     rotate_left
     ·intro w hSw
      try dsimp only at hSw
      go_simp
      with_reducible rfl
     try simp only[Act.put]
     refine Zaj (i:=2) (v:=?_) [17] rfl (by kernel_rfl) (by kernel_rfl) (by kernel_rfl) (by kernel_rfl) (by kernel_rfl) (fun _ _ _ h=>h) (Or.inl ⟨by kernel_rfl,?_⟩) hHeld ?_
     rotate_left
     ·intro w hSw
      try dsimp only at hSw
      go_simp
      with_reducible rfl
     try simp only[Act.put]
     refine Zaj (i:=3) (v:=?_) [17] rfl (by kernel_rfl) (by kernel_rfl) (by kernel_rfl) (by kernel_rfl) (by kernel_rfl) (fun _ _ _ h=>h) (Or.inl ⟨by kernel_rfl,?_⟩) hHeld ?_
     rotate_left
     ·intro w hSw
      try dsimp only at hSw
      go_simp
      with_reducible rfl
     try simp only[Act.put]
     refine Zaj (i:=4) (v:=?_) [17] rfl (by kernel_rfl) (by kernel_rfl) (by kernel_rfl) (by kernel_rfl) (by kernel_rfl) (fun _ _ _ h=>h) (Or.inl ⟨by kernel_rfl,?_⟩) hHeld ?_
     rotate_left
     ·intro w hSw
      try dsimp only at hSw
      go_simp
      with_reducible rfl
     try simp only[Act.put]
     refine Zaj (i:=5) (v:=?_) [17] rfl (by kernel_rfl) (by kernel_rfl) (by kernel_rfl) (by kernel_rfl) (by kernel_rfl) (fun _ _ _ h=>h) (Or.inl ⟨by kernel_rfl,?_⟩) hHeld ?_
     rotate_left
     ·intro w hSw
      try dsimp only at hSw
      go_simp
      with_reducible rfl
     try simp only[Act.put]
     refine Zaj (i:=6) (v:=?_) [17] rfl (by kernel_rfl) (by kernel_rfl) (by kernel_rfl) (by kernel_rfl) (by kernel_rfl) (fun _ _ _ h=>h) (Or.inl ⟨by kernel_rfl,?_⟩) hHeld ?_
     rotate_left
     ·intro w hSw
      try dsimp only at hSw
      go_simp
      with_reducible rfl
     try simp only[Act.put]
     refine Zaj (i:=7) (v:=?_) [17] rfl (by kernel_rfl) (by kernel_rfl) (by kernel_rfl) (by kernel_rfl) (by kernel_rfl) (fun _ _ _ h=>h) (Or.inl ⟨by kernel_rfl,?_⟩) hHeld ?_
     rotate_left
     ·intro w hSw
      try dsimp only at hSw
      go_simp
      with_reducible rfl
     try simp only[Act.put]
     refine Zaj (i:=8) (v:=?_) [17] rfl (by kernel_rfl) (by kernel_rfl) (by kernel_rfl) (by kernel_rfl) (by kernel_rfl) (fun _ _ _ h=>h) (Or.inl ⟨by kernel_rfl,?_⟩) hHeld ?_
     rotate_left
     ·intro w hSw
      try dsimp only at hSw
      go_simp
      with_reducible rfl
     try simp only[Act.put]
     refine Zaj (i:=9) (v:=?_) [17] rfl (by kernel_rfl) (by kernel_rfl) (by kernel_rfl) (by kernel_rfl) (by kernel_rfl) (fun _ _ _ h=>h) (Or.inl ⟨by kernel_rfl,?_⟩) hHeld ?_
     rotate_left
     ·intro w hSw
      try dsimp only at hSw
      go_simp
      with_reducible rfl
     try simp only[Act.put]
     refine Zaj (i:=10) (v:=?_) [17] rfl (by kernel_rfl) (by kernel_rfl) (by kernel_rfl) (by kernel_rfl) (by kernel_rfl) (fun _ _ _ h=>h) (Or.inl ⟨by kernel_rfl,?_⟩) hHeld ?_
     rotate_left
     ·intro w hSw
      try dsimp only at hSw
      go_simp
      with_reducible rfl
     try simp only[Act.put]
     refine Zaj (i:=11) (v:=?_) [17] rfl (by kernel_rfl) (by kernel_rfl) (by kernel_rfl) (by kernel_rfl) (by kernel_rfl) (fun _ _ _ h=>h) (Or.inl ⟨by kernel_rfl,?_⟩) hHeld ?_
     rotate_left
     ·intro w hSw
      try dsimp only at hSw
      go_simp
      with_reducible rfl
     try simp only[Act.put]
     refine Zaj (i:=12) (v:=?_) [17] rfl (by kernel_rfl) (by kernel_rfl) (by kernel_rfl) (by kernel_rfl) (by kernel_rfl) (fun _ _ _ h=>h) (Or.inl ⟨by kernel_rfl,?_⟩) hHeld ?_
     rotate_left
     ·intro w hSw
      try dsimp only at hSw
      go_simp
      with_reducible rfl
     try simp only[Act.put]
     refine ZaX (i:=13) (by kernel_rfl) rfl (fun K hK=>?_)
     go_simp
     refine(HKY.out _ hB19).mono ?_
     rintro r w10⟨rfl,hb10⟩
     have hB20:=hB19.trans (hb10.mono hB19.size)
     have hBA:=hB20.trans ((Zaa w10 (.cells #[.string ⟨K0.toArray⟩] 9)).mono hB20.size)
     refine hK.out _ _ (fun _=>HCE.out _ hB20) ?_
     clear hK K
     try simp only[Act.put,List.setIfInBounds_toArray,List.set_cons_zero,List.set_cons_succ]
     refine ZaX (i:=14) (by kernel_rfl) rfl (fun K hK=>?_)
     go_simp
     refine hK.out _ _ (fun _=>HCE.out _ hBA) ?_
     clear hK K
     try simp only[Act.put,List.setIfInBounds_toArray,List.set_cons_zero,List.set_cons_succ]
     refine ZaX (i:=15) (by kernel_rfl) rfl (fun K hK=>?_)
     refine ZbP (f:=Zai) (n:=1) 30 9 16 (.string ByteArray.empty) Tryz.underlying30 Zcd (by rfl) (by omega) (by omega) Zat (by rfl) _ _ (by rfl) B _ (m2.keys j) (by rfl) (HOW.out _ hBA).1 ⟨w10.heap.size,0,none⟩ (by rfl) K0 (ZaT _) (ZaH w10 (Zai K0) _ _ rfl) (by omega) (HOW.out _ hBA).2 ?_
     intro v6 w6 h6 hb6 hg6 hw6
     obtain⟨g6,cap6,hv6,_,_⟩:=Zae.block h6 (by simp)
     rw[List.length_append,List.length_singleton]at hv6
     subst hv6
     have HF6:=Lib.hid (HK2.out _ _ _ hBA h6 hg6 hw6)
     have hf6:=HF6.out.2.2.1
     have hc6:=HF6.out.1
     refine hK.out _ _ (fun _=>⟨HF6.out.1,HF6.out.2.1⟩) ?_
     clear hK K
     try simp only[Act.put,List.setIfInBounds_toArray]
     refine ZaX (i:=16) (by kernel_rfl) rfl (fun K hK=>?_)
     go_simp
     refine hK.out _ _ (fun _=>⟨HF6.out.1,HF6.out.2.1⟩) ?_
     clear hK K
     try simp only[Act.put,List.setIfInBounds_toArray,List.set_cons_zero,List.set_cons_succ]
     refine ZaX (i:=17) (by kernel_rfl) rfl (fun K hK=>?_)
     go_simp
     refine hK.out _ _ (fun h=>absurd rfl h) ?_
     clear hK K
     try simp only[Act.put,List.setIfInBounds_toArray,List.set_cons_zero,List.set_cons_succ]
     refine Zei (by kernel_rfl) ?_ _
     clear hHeld
     go_wp2
     exact bodyPost_end (results_none rfl _ _ _) rfl ⟨rfl,by rw[HEND.out,HF.out];exact HF6.out.2.2.2⟩
    ·rw[hb]at HBK
     have HF:=Lib.hid (HE2.out rfl hb)
     clear HE1 HE2 hb HKY0
     go_wp2_with fail
     refine HBK.out.mono ?_
     rintro r w9⟨rfl,hb9⟩
     have R9:=Lib.hid (R8.out.later hb9)
     obtain⟨⟨_,_,_,_,_,_,c6⟩,f6⟩:=R9.out.cells
     have hf6:=f6 6
     have hbl:=HBD2.out.2
     have HST:Hid (MYR p fuel B b W Bud tb mb wb kb S { m2 with blk:=m2.blk+1 } w (w9.setCell ⟨b,6,none⟩ (.int .i64 ((m2.blk:Int)+1)))):=R9.out.andThen fun S' h=>h.stored (i:=6) (u:=.int .i64 ((m2.blk:Int)+1)) (blk':=m2.blk+1) (over':=m2.over) (by rw[show Value.int .i64 ((m2.blk:Int)+1)=.int .i64 ((m2.blk+1:Nat):Int)from by rw[Int.natCast_add];rfl];rfl)
     clear hb9 R8 HBK f6 R9
     go_wp2
     exact bodyPost_end (results_none rfl _ _ _) rfl ⟨rfl,by rw[HEND.out,HF.out];exact HST.out⟩
   ·have hpos:0<AW.length:=List.length_pos_iff.2 hA
    have hK:=ZcN d hpos
    obtain⟨g8,cap8,e8,hg8,hg8w⟩:=HV8.out.block hA
    injection e8 with e8 _ e9
    subst e8 e9
    obtain⟨hxc,_⟩:=ZdG HV8.out hK
    have hxm:AW.getD (drawN d AW.length) 0∈AW:=by rw[Zav _ hK];exact List.getElem_mem hK
    have HF:=Lib.hid (HE3.out hA)
    have hlf:=HE4.out _ hxm
    have HMD:Hid (∀V,Calls Tryz.prog 72 #[.int .i64 d,.int .i64 (AW.length:Int)] V fun r w'=>r=.returned (.int .i64 (drawN d AW.length:Nat))/\V=w'):=fun V=>(Zfd d hpos (by omega) V).mono fun _ _ ⟨a,c⟩=>⟨a,c.symm⟩
    generalize drawN d AW.length=K at *
    generalize AW.getD K 0=x at *
    obtain⟨m3,hm3⟩:∃m3:Mac,m3={ m2 with l:=(markT m2.l k (ofN [x])).2 }:=⟨_,rfl⟩
    have HFIN:Hid (openM p fuel W j k asl d m=pushM W j k m3):=by
     show _=_
     rw[HEND.out,HF.out]
     unfold markM
     rw[if_pos hlf,hm3]
    have K8:Hid (MYK p fuel B b W Bud tb mb wb kb S m2 (fun y=>y=g8) w w8):=HOq.out.k.toR.beside (HB8.out.mono (Nat.le_refl _)) fun y hy=>by
     subst hy
     exact⟨hg8,hg8w⟩
    have HMM:Hid (∀V,Below w8.heap.size w8 V->Calls Tryz.prog 71 #[.pointer (some ⟨tb,0,none⟩),.string ⟨k.toArray⟩,.int .u8 (ofN [x]:Nat)] V fun r w'=>r=.returned (.int .i64 (markT m2.l k (ofN [x])).1)/\MYR p fuel B b W Bud tb mb wb kb S m3 w w'/\(w'.cell? ⟨b,0,none⟩=some (.pointer (some ⟨tb,0,none⟩))/\w'.cell? ⟨g8,K,none⟩=some (.int .i64 x))):=fun V hb=>
     ((K8.out.later hb).own (m':=m3) (fun S1 h1=>h1.parts (m':=m3) (fun Sp q=>by rw[hm3];exact Zlt q (by omega) (Zdp [x])) (by rw[hm3]) (by rw[hm3]) (by rw[hm3]))).mono fun r w' ⟨e,h1,o⟩=>⟨e,h1.toR,h1.toR.cells.1.1,by
      rw[World.cell?_of_block (w:=V) (a:=⟨g8,K,none⟩) (o.block g8 (Nat.lt_of_lt_of_le hg8w hb.size) (fun hn=>hn rfl))]
      exact Zab hb hxc⟩
    have HOF:Hid (Calls Tryz.prog 37 #[.slice (some ⟨w8.heap.size,0,none⟩) 1 1] (w8.alloc (.cells #[.int .i64 x] 3)).drew fun r w'=>r=.returned (.int .u8 (ofN [x]:Nat))/\(w8.alloc (.cells #[.int .i64 x] 3)).drew=w'):=by
     refine ZgF (some ⟨w8.heap.size,0,none⟩) 1 [x] (w8.alloc (.cells #[.int .i64 x] 3)).drew ⟨by simp[maxLen],fun _=>⟨w8.heap.size,0,rfl,fun i hi=>?_⟩⟩ (by simp)
     obtain rfl:i=0:=by simp at hi;omega
     show(w8.alloc (.cells #[.int .i64 x] 3)).cell? _=_
     rw[World.cell?_alloc_new]
     rfl
    have HCE:Hid (∀V,Below w8.heap.size w8 V->V.cell? ⟨b,0,none⟩=some (.pointer (some ⟨tb,0,none⟩))/\V.cell? ⟨g8,K,none⟩=some (.int .i64 x)):=fun V hb=>⟨(HO8.out.k.toR.later hb).cells.1.1,Zab hb hxc⟩
    have hce:=HCE.out _ (Below.refl _ _)
    have hki:(K:Int)<(AW.length:Int):=by omega
    have HT3:Hid (totW W m3.wk<100000):=by show _;rw[hm3];exact HTW2.out
    clear hA hpos hxm hlf HE1 HE2 HE3 HE4 HF hm3 K8 HO8 HOq HB8 HV8 hg8 hg8w hxc HOK HBD2 HTW2 HEND
    obtain⟨d0,d1⟩:=hce
    go_wp2_with fail
    go_cut [] (fun wx=>Hid (MYR p fuel B b W Bud tb mb wb kb S m3 w wx))
    case first=>
     go_region_held3 (fun V=>V.cell? ⟨b,0,none⟩=some (.pointer (some ⟨tb,0,none⟩))/\V.cell? ⟨g8,K,none⟩=some (.int .i64 x))
      (first|with_reducible exact HFC|(refine HCE.out _ ?_;repeat(first|with_reducible exact Below.refl _ _|with_reducible refine Below.drew ?_|with_reducible refine Below.alloc ?_ (by simp) _)))
      (first
       |(go_at_call 72;(refine(HMD.out _).mono ?_);rintro r w' ⟨rfl,rfl⟩)
       |(go_at_call 37;(with_reducible refine HOF.out.mono ?_);rintro r w' ⟨rfl,rfl⟩)
       |(go_at_call 71;(refine(HMM.out _ (by repeat(first|with_reducible exact Below.refl _ _|with_reducible refine Below.drew ?_|with_reducible refine Below.alloc ?_ (by simp) _))).mono ?_);rintro r w10⟨rfl,r10,HFC⟩;have R10:=Lib.hid r10;clear r10))
     all_goals go_wp2_with fail
     all_goals go_meet
     all_goals exact R10
    case rest=>
     have R10:=hcut
     clear hcut HMM HOF HMD HCE d0 d1
     generalize wc=w10 at *
     obtain⟨⟨_,_,c2,_⟩,_⟩:=R10.out.cells
     have HP:=Lib.hid (R10.out.call (m':=pushM W j k m3) (fun Sp q=>pm_push q hW HT3.out hj (by omega)) (Zcm _ _ _ _).1 (Zcm _ _ _ _).2.1 (Zcm _ _ _ _).2.2)
     go_wp2_with fail
     refine HP.out.mono ?_
     rintro r w11⟨rfl,r11⟩
     have R11:=Lib.hid r11
     clear r11
     go_wp2
     exact bodyPost_end (results_none rfl _ _ _) rfl ⟨rfl,by rw[HFIN.out];exact R11.out⟩
end
section
variable{w:World}{B C b n:Nat}
theorem MU.lower{S:Nat->Prop}{T:Nat->List Let}(h:MU w B b n S T)(hC:C<=B):MU w C b n S T:=by
 obtain⟨g,ids,le,nx,cx,ls,q,h1,h2⟩:=h
 exact⟨g,ids,le,nx,cx,ls,⟨⟨Nat.le_trans hC q.mr.low,Nat.le_trans hC q.mr.lowb,Nat.le_trans hC q.mr.lowg,q.mr.box,q.mr.row,fun x hx=>⟨Nat.le_trans hC (q.mr.link x hx).1,(q.mr.link x hx).2⟩⟩,q.sub,q.nodup,q.apart,q.first,q.last,q.count,q.chain⟩,h1,h2⟩
theorem WU.lower{cnt:Nat}{S:Nat->Prop}{T:Nat->List Txt}(h:WU w B b n cnt S T)(hC:C<=B):WU w C b n cnt S T:=by
 obtain⟨g,mb,cap,qs,Sq,q,hS⟩:=h.k
 exact⟨⟨g,mb,cap,qs,Sq,⟨Nat.le_trans hC q.low,Nat.le_trans hC q.lowb,Nat.le_trans hC q.lowm,q.box,q.row,q.cap,fun j hj=>(q.qu j hj).lower hC,q.apart,q.map⟩,hS⟩,h.sort,h.no,h.short⟩
end
theorem parts_new{p:Pg}{fuel:Int}{W B C:Nat}{w1 w2 w3:World}{h:TrH}{Sm Sw:Nat->Prop}{g:Nat}(hg:Zam p fuel=true)(ep:h.p=p)(ef:h.fuel=fuel)(hBC:B<=C)(hC:C<=h.wc.heap.size)(ho:ZaB h.wc C h.a p.threads)(t:TrAt h w1 [] [] 0)
  (hb2:Below w1.heap.size w1 w2) (u:MU w2 w1.heap.size (w1.heap.size+1) W Sm (fun _=>[])) (hm:∀y,Sm y->w1.heap.size<=y)
  (hb3:Below w2.heap.size w2 w3) (v:WU w3 w2.heap.size (w2.heap.size+1) W 0 Sw (fun _=>[])) (hw:∀y,Sw y->w2.heap.size<=y) (hg1:w2.heap.size<=g) (hx:WkB w3 (w2.heap.size+1) W g):
  PM p fuel w3 B h.b (w1.heap.size+1) (w2.heap.size+1) W (PB C h [] Sm Sw (w2.heap.size+1) g) mac0:=by
 have h1:=t.below.size
 have h2:=hb2.size
 have hBw:B<=w1.heap.size:=Nat.le_trans hBC (Nat.le_trans hC h1)
 refine⟨C,h,[],Sm,Sw,g,⟨rfl,ep,ef,hBC,Nat.le_trans hBC hC,by rw[ep];exact ho,hg,(t.later hb2).later hb3,(u.lower hBw).later hb3,?_,hx,by omega,by omega,fun x hx hc=>?_,fun x hx hc=>?_,fun x hx hs=>?_,fun x hx hs=>?_,fun x hx hs=>?_⟩,fun x=>Iff.rfl⟩
 ·have:=v.lower (C:=B) (by omega)
  rw[show totW W mac0.wk=0 from Zhv W]
  exact this
 ·have:=hm x hx;omega
 ·have:=hw x hx;omega
 ·have:=hm x hs
  have:=t.lt x hx
  omega
 ·have:=hw x hs
  have:=t.lt x hx
  omega
 ·have:=hw x hs
  have:=u.lt hx
  omega
theorem my_new{p:Pg}{fuel:Int}{W Bud B tb mb wb:Nat}{Sp:Nat->Prop}{w3:World}(q:PM p fuel w3 B tb mb wb W Sp mac0):
  MY p fuel B (w3.heap.size+1) W Bud tb mb wb w3.heap.size (fun x=>Sp x∨KB w3.heap.size W (fun _=>.slice none 0 0) x∨x=w3.heap.size+1) mac0 ((w3.alloc (.cells (madeCells #[.slice none 0 0] W) 30)).alloc (.cells (mcA tb mb wb w3.heap.size W Bud 0 false) 79)):=by
 have hlow:=q.low
 have hb1:=Zaa w3 (.cells (madeCells #[.slice none 0 0] W) 30)
 have hs1:(w3.alloc (.cells (madeCells #[.slice none 0 0] W) 30)).heap.size=w3.heap.size+1:=World.size_alloc _ _
 have hb2:=Zaa (w3.alloc (.cells (madeCells #[.slice none 0 0] W) 30)) (.cells (mcA tb mb wb w3.heap.size W Bud 0 false) 79)
 have hk:KM (w3.alloc (.cells (madeCells #[.slice none 0 0] W) 30)) B w3.heap.size W (fun _=>.slice none 0 0) (fun _=>[]):=KM.start hlow.1 (heap_alloc_new w3 _)
 have hnk:∀x,KB w3.heap.size W (fun _=>Value.slice none 0 0) x->x=w3.heap.size:=fun x hx=>by
  rcases hx with h|⟨j,_,h⟩
  ·exact h
  ·simp[Value.ownBlock]at h
 refine⟨fun _=>.slice none 0 0,Sp,⟨by omega,?_,(q.later hb1).later hb2,hk.later hb2,fun x hx hk=>?_,fun hx=>?_⟩,fun x=>Iff.rfl⟩
 ·have:=heap_alloc_new (w3.alloc (.cells (madeCells #[.slice none 0 0] W) 30)) (.cells (mcA tb mb wb w3.heap.size W Bud 0 false) 79)
  rw[hs1]at this
  exact this
 ·have:=(hlow.2 x hx).2
  have:=hnk x hk
  omega
 ·have:=(hlow.2 _ hx).2
  omega
theorem mnew_bad(p:Pg)(a:Option Addr)(cap:Nat)(fuel z y:Int)(w:World)(hp:Zaf w a p.threads)(ha:a=none->cap=0)(hbad:Zam p fuel=false∨z<1∨64<z∨y<1∨1048576<y):
  Calls Tryz.prog 14 #[.agg #[.int .i64 p.vars,.int .i64 p.mutexes,.slice a p.threads.length cap],.int .i64 fuel,.int .i64 z,.int .i64 y] w fun r w'=>r=.returned (.tuple #[.pointer none,.int .i64 1])/\Below w.heap.size w w':=by
 have hb1:Below w.heap.size w (w.alloc (.cells #[.int .i64 p.vars,.int .i64 p.mutexes,.slice a p.threads.length cap] 24)):=Zaa w _
 have HN:=Lib.hid (newO_any p a cap fuel (w.alloc (.cells #[.int .i64 p.vars,.int .i64 p.mutexes,.slice a p.threads.length cap] 24)) (hp.later hb1) ha)
 clear hp ha
 go_enter Tryz.func14,Tryz.ntmps14
 go_wp2_with fail
 generalize w.alloc (.cells #[.int .i64 p.vars,.int .i64 p.mutexes,.slice a p.threads.length cap] 24)=W1 at *
 refine HN.out.mono ?_
 rintro r W2 hr
 unfold NewTO at hr
 by_cases hg:Zam p fuel=true
 case neg=>
  rw[if_neg hg]at hr
  obtain⟨rfl,hb2⟩:=hr
  have HB:=Lib.hid (hb1.trans (hb2.mono hb1.size))
  clear hb1 hb2 hg hbad HN
  go_wp2
  go_ret2
  exact⟨rfl,HB.out⟩
 rw[if_pos hg]at hr
 obtain⟨h,rfl,_,_,_,_,hb2,_⟩:=hr
 have HB:=Lib.hid (hb1.trans (hb2.mono hb1.size))
 have hq:decide (z<1)=true∨(decide (z<1)=false/\decide (z>64)=true)∨(decide (z<1)=false/\decide (z>64)=false/\decide (y<1)=true)∨(decide (z<1)=false/\decide (z>64)=false/\decide (y<1)=false/\decide (y>1048576)=true):=by
  rcases hbad with h1|h1|h1|h1|h1
  ·rw[hg]at h1;cases h1
  all_goals(simp only[decide_eq_true_eq,decide_eq_false_iff_not];omega)
 generalize h.b=hb at *
 clear hb1 hb2 hg hbad HN
 rcases hq with q1|⟨q1,q2⟩|⟨q1,q2,q3⟩|⟨q1,q2,q3,q4⟩
 all_goals go_wp2
 all_goals go_ret2
 all_goals exact⟨rfl,HB.out⟩
theorem mnew_any(p:Pg)(a:Option Addr)(cap:Nat)(fuel:Int)(W Bud:Nat)(w:World)(hp:Zaf w a p.threads)(ha:a=none->cap=0)(hg:Zam p fuel=true)(h1:1<=W)(h64:W<=64)(hB1:1<=Bud)(hB2:Bud<=1048576):
  Calls Tryz.prog 14 #[.agg #[.int .i64 p.vars,.int .i64 p.mutexes,.slice a p.threads.length cap],.int .i64 fuel,.int .i64 (W:Int),.int .i64 (Bud:Int)] w fun r w'=>∃b tb mb wb kb S,r=.returned (.tuple #[.pointer (some ⟨b,0,none⟩),.int .i64 0])/\Below w.heap.size w w'/\MY p fuel w.heap.size b W Bud tb mb wb kb S (newM p fuel W) w':=by
 have hb1:Below w.heap.size w (w.alloc (.cells #[.int .i64 p.vars,.int .i64 p.mutexes,.slice a p.threads.length cap] 24)):=Zaa w _
 have HN:=Lib.hid (newO_any p a cap fuel (w.alloc (.cells #[.int .i64 p.vars,.int .i64 p.mutexes,.slice a p.threads.length cap] 24)) (hp.later hb1) ha)
 have hmk:∀V:World,(Instr.makeSlice 42 (.int .i64 (W:Int)) (.int .i64 (W:Int))).run Tryz.prog V=.ok (.slice (some ⟨V.heap.size,0,none⟩) W W) (V.alloc (.cells (madeCells #[.slice none 0 0] (W*1)) 30)):=ZbG (P:=Tryz.prog) 42 30 (.slice none 0 0) 1 24 Tryz.underlying42 (by kernel_rfl) W (by omega) (by omega)
 have HG:=Lib.hid hg
 have q1:decide ((W:Int)<1)=false:=by simp;omega
 have q2:decide ((W:Int)>64)=false:=by simp;omega
 have q3:decide ((Bud:Int)<1)=false:=by simp;omega
 have q4:decide ((Bud:Int)>1048576)=false:=by simp;omega
 clear hp ha hg
 go_enter Tryz.func14,Tryz.ntmps14
 go_wp2_with fail
 generalize w.alloc (.cells #[.int .i64 p.vars,.int .i64 p.mutexes,.slice a p.threads.length cap] 24)=W1 at *
 refine HN.out.mono ?_
 rintro r W2 hr
 unfold NewTO at hr
 rw[if_pos HG.out]at hr
 obtain⟨h,rfl,ep,ef,hC,ht,hb2,ho⟩:=hr
 have HB2:=Lib.hid (hb1.trans (hb2.mono hb1.size))
 have HM:=Lib.hid (mNew_any h1 h64 W2)
 have hs1:=hb1.size
 generalize htb:h.b=tb at *
 clear hb1 hb2 HN
 go_wp2_with fail
 refine HM.out.mono ?_
 rintro r W3⟨rfl,hb3,Sm,hu,hsm⟩
 have HK:=Lib.hid (wNew_two h1 h64 W3)
 have HB3:=Lib.hid (HB2.out.trans (hb3.mono HB2.out.size))
 have hs23:=hb3.size
 clear HM
 go_wp2_with fail
 refine HK.out.mono ?_
 rintro r W4⟨rfl,hb4,Sw,hv,hsw,g,hg1,hg2,hgx⟩
 have hPM:=parts_new HG.out ep ef hs1 hC ho ht hb3 hu hsm hb4 hv hsw hg1 hgx
 rw[htb]at hPM
 have hMY:=my_new (Bud:=Bud) hPM
 have HB4:=Lib.hid (HB3.out.trans (hb4.mono HB3.out.size))
 have HB5:Hid (Below w.heap.size w ((W4.alloc (.cells (madeCells #[.slice none 0 0] W) 30)).alloc (.cells (mcA tb (W2.heap.size+1) (W3.heap.size+1) W4.heap.size W Bud 0 false) 79))):=HB4.out.trans ((Zak _ _ _).mono HB4.out.size)
 obtain⟨nd,hrep,hmk0,hpre⟩:=newM_pre (B:=Bud) HG.out h1 hB1
 have HOP:Hid (∀V,V=((W4.alloc (.cells (madeCells #[.slice none 0 0] W) 30)).alloc (.cells (mcA tb (W2.heap.size+1) (W3.heap.size+1) W4.heap.size W Bud 0 false) 79))->Calls Tryz.prog 36 #[.pointer (some ⟨W4.heap.size+1,0,none⟩),.int .i64 0,.string ⟨#[]⟩,.int .u8 0,.int .i64 0] V fun r w'=>r=.returned (.tuple #[])/\∃S,MY p fuel w.heap.size (W4.heap.size+1) W Bud tb (W2.heap.size+1) (W3.heap.size+1) W4.heap.size S (newM p fuel W) w'/\Below w.heap.size w w'):=fun V e=>by
  subst e
  refine(open_any hMY HG.out h64 (j:=0) (by omega) (k:=[]) (asl:=0) (by omega) 0 hrep hmk0 hpre (by simp) ?_ (by show(0:Nat)<=_;omega)).mono fun r w' ⟨e,S',k1,k2,k3⟩=>⟨e,S',k1,HB5.out.trans ?_⟩
  ·have:pendM W mac0.box=0:=by rw[Zc3];exact fun _ _=>rfl
   omega
  ·have hl:=hMY.low
   exact k2.below HB5.out.size fun x hx=>(hl.2 x hx).1
 have HOF:Hid (∀V,Calls Tryz.prog 37 #[.slice none 0 0] V fun r w'=>r=.returned (.int .u8 0)/\V=w'):=fun V=>ZgF none 0 [] V ⟨by simp[maxLen],fun h=>absurd rfl h⟩ (by simp)
 rw[Nat.mul_one]at hmk
 clear HK hb3 hu hsm hb4 hv hsw hg1 hg2 hgx hPM hMY HB2 HB3 HB4 HB5 ht ho hC ep ef htb hrep hmk0 hpre hs1 hs23
 go_wp2_with fail
 refine(HOF.out _).mono ?_
 rintro r w'⟨rfl,rfl⟩
 go_wp2_with fail
 refine(HOP.out _ rfl).mono ?_
 rintro r w6⟨rfl,S,hMY,hB⟩
 have HMY:=Lib.hid hMY
 have HB:=Lib.hid hB
 clear hMY hB
 go_wp2
 go_ret2
 exact⟨_,_,_,_,_,S,rfl,HB.out,HMY.out⟩
end Go.Proofs.YtjfmmnhcddckaaaGreat
