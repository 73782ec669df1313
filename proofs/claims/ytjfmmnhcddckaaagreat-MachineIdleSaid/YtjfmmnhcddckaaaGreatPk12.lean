import Derived.Maps.AppendAt
import Derived.OwnWalkIn
import Derived.Shelf.SlSortCmp.NoneTotal
import Derived.Deep.RegionHeld3
import Derived.StillTail
import Derived.Test.YtjfmmnhcddckaaaGreatProg
import Derived.Test.YtjfmmnhcddckaaaGreatPk03
import Derived.Test.YtjfmmnhcddckaaaGreatPk06
import Derived.Test.YtjfmmnhcddckaaaGreatPk07
import Derived.Test.YtjfmmnhcddckaaaGreatPk11
set_option maxRecDepth 100000
set_option maxHeartbeats 8000000
namespace Go.Proofs.YtjfmmnhcddckaaaGreat
open Go.RowKit
def csOf(l:List Ev)(n:Nat):List (Nat->Nat):=(List.range 4).map fun(t u:Nat)=>lasts l n t u
theorem ZcO(l:List Ev)(n:Nat):(csOf l n).length=4:=rfl
theorem Zjb(l:List Ev)(n t:Nat)(h:t<4):(csOf l n)[t]'(by rw[ZcO];exact h)=fun(u:Nat)=>lasts l n t u:=by simp[csOf]
theorem csOf_succ(l:List Ev)(n th:Nat)(_:th<4)(ht:(evI l n).thread=th):Zaq Zbd (csOf l (n+1))=Zaq Zbd ((csOf l n).set th fun(u:Nat)=>clk l n u):=by
 refine ck_congr (by simp[ZcO]) fun i h1 h2 t ht4=>?_
 have hi:i<4:=h1
 rw[Zjb l (n+1) i hi]
 show lasts l (n+1) i t=_
 rw[lasts_succ,ht]
 by_cases e:th=i
 ·subst e
  simp
 ·rw[if_neg (by omega),List.getElem_set_ne e,Zjb l n i hi]
def PaAt(w:World)(P:Nat)(cs:List (Nat->Nat))(v:Value):Prop:=MidAt w P 197 (Zaq Zbd cs++[v])
structure PastM(w:World)(P B:Nat)(cs:List (Nat->Nat))(v:Value)(xs:List (Ev × Sp))(gs:List Gp):Prop where
 blk:PaAt w P cs v
 own:OwnG w B v xs gs
 lt:P<B
 le:B<=w.heap.size
 four:cs.length=4
theorem PastM.later{w w':World}{P B:Nat}{cs:List (Nat->Nat)}{v:Value}{xs:List (Ev × Sp)}{gs:List Gp}(h:PastM w P B cs v xs gs)(hb:Below w.heap.size w w'):PastM w' P B cs v xs gs:=
 ⟨h.blk.later hb,h.own.later hb,h.lt,Nat.le_trans h.le hb.size,h.four⟩
theorem PastM.congr{w:World}{P B:Nat}{cs ds:List (Nat->Nat)}{v:Value}{xs:List (Ev × Sp)}{gs:List Gp}(h:PastM w P B cs v xs gs)(hl:ds.length=4)(he:Zaq Zbd ds=Zaq Zbd cs):PastM w P B ds v xs gs:=
 ⟨by unfold PaAt;rw[he];exact h.blk,h.own,h.lt,h.le,hl⟩
theorem PaAt.num{w:World}{P:Nat}{cs:List (Nat->Nat)}{v:Value}(h:PaAt w P cs v){t u:Nat}(ht:t<cs.length)(hu:u<4):w.cell? ⟨P,t*4+u,none⟩=some (.int .i64 (cs[t] u)):=by
 have h1:=MidAt.cell h (t*4+u)
 have h2:=ZaI Zaz cs t u ht hu
 rw[List.getElem?_append_left (by rw[Zar Zaz];omega),h2]at h1
 rw[h1]
 exact Zbx _ hu
theorem PaAt.slice{w:World}{P:Nat}{cs:List (Nat->Nat)}{v:Value}(h:PaAt w P cs v)(h4:cs.length=4):w.cell? ⟨P,16,none⟩=some v:=by
 have h1:=MidAt.cell h 16
 rw[List.getElem?_append_right (by rw[Zar Zaz];omega),Zar Zaz,h4]at h1
 exact h1
theorem PaAt.frozen{w:World}{P:Nat}{cs:List (Nat->Nat)}{v:Value}(h:PaAt w P cs v)(j:Nat):w.frozen? ⟨P,j,none⟩=false:=MidAt.frozen h j
theorem PaAt.set4{w:World}{P:Nat}{cs:List (Nat->Nat)}{v:Value}(h:PaAt w P cs v){k:Nat}(hk:k<cs.length)(c:Nat->Nat):
  PaAt ((((w.setCell ⟨P,k*4,none⟩ (.int .i64 (c 0))).setCell ⟨P,k*4+1,none⟩ (.int .i64 (c 1))).setCell ⟨P,k*4+2,none⟩ (.int .i64 (c 2))).setCell ⟨P,k*4+3,none⟩ (.int .i64 (c 3))) P (cs.set k c) v:=by
 have h1:=MidAt.set (MidAt.set (MidAt.set (MidAt.set h (k*4) (.int .i64 (c 0))) (k*4+1) (.int .i64 (c 1))) (k*4+2) (.int .i64 (c 2))) (k*4+3) (.int .i64 (c 3))
 have hl:(Zaq Zbd cs).length=cs.length*4:=Zar Zaz cs
 unfold PaAt
 rw[<-ck_set4 cs k c hk]
 rw[List.set_append_left _ _ (by rw[hl];omega),List.set_append_left _ _ (by rw[List.length_set,hl];omega),List.set_append_left _ _ (by rw[List.length_set,List.length_set,hl];omega),List.set_append_left _ _ (by rw[List.length_set,List.length_set,List.length_set,hl];omega)]at h1
 exact h1
theorem PaAt.put{w:World}{P:Nat}{cs:List (Nat->Nat)}{v:Value}(h:PaAt w P cs v)(h4:cs.length=4)(v':Value):PaAt (w.setCell ⟨P,16,none⟩ v') P cs v':=by
 have h1:=MidAt.set h 16 v'
 unfold PaAt
 rw[List.set_append_right _ _ (by rw[Zar Zaz];omega),Zar Zaz,h4]at h1
 exact h1
structure Aside(P B:Nat)(w w':World):Prop where
 os:w'.os=w.os
 tape:w'.tape=w.tape
 output:w'.output=w.output
 size:w.heap.size<=w'.heap.size
 low:∀k,k<B->k≠P->w'.heap[k]?=w.heap[k]?
 keep:∀(k:Nat) (cs:Array Value) (t:TypeId) (fr:Nat × Nat),w.heap[k]?=some (Obj.cells cs t fr)->t≠197->t≠245->t≠242->w'.heap[k]?=some (Obj.cells cs t fr)
theorem Aside.trans{P B:Nat}{a b c:World}(h:Aside P B a b)(k:Aside P B b c):Aside P B a c:=
 ⟨k.os.trans h.os,k.tape.trans h.tape,k.output.trans h.output,Nat.le_trans h.size k.size,fun i hi hp=>(k.low i hi hp).trans (h.low i hi hp),fun i cs t fr h0 h1 h2 h3=>k.keep i cs t fr (h.keep i cs t fr h0 h1 h2 h3) h1 h2 h3⟩
theorem Aside.of_below{P B:Nat}{w w':World}(h:Below w.heap.size w w')(hB:B<=w.heap.size):Aside P B w w':=
 ⟨h.os,h.tape,h.output,h.size,fun k hk _=>h.block k (Nat.lt_of_lt_of_le hk hB),fun k _ _ _ h0 _ _ _=>(h.block k (Array.getElem?_eq_some_iff.1 h0).1).trans h0⟩
theorem Aside.of_only{P B q:Nat}{w w':World}(h:Only q w w')(hq:B<=q∨q=P)(hB:B<=w.heap.size)(ht:∀cs t fr,w.heap[q]?=some (Obj.cells cs t fr)->t=197∨t=245∨t=242):Aside P B w w':=
 ⟨h.os,h.tape,h.output,h.size,fun k hk hp=>h.block k (Nat.lt_of_lt_of_le hk hB) (by omega),fun k cs t fr h0 h1 h2 h3=>by
  refine(h.block k (Array.getElem?_eq_some_iff.1 h0).1 fun e=>?_).trans h0
  subst e
  rcases ht cs t fr h0 with e|e|e
  ·exact h1 e
  ·exact h2 e
  ·exact h3 e⟩
theorem Aside.of_grown{P B:Nat}{w w':World}{row:Option Nat}(hb:Below B w w')(h:w.grownBy w' row)(ht:∀q,row=some q->∀cs t fr,w.heap[q]?=some (Obj.cells cs t fr)->t=197∨t=245∨t=242):Aside P B w w':=
 ⟨hb.os,hb.tape,hb.output,hb.size,fun k hk _=>hb.block k hk,fun k cs t fr h0 h1 h2 h3=>by
  refine(h.block k (Array.getElem?_eq_some_iff.1 h0).1 fun e=>?_).trans h0
  rcases ht k e.symm cs t fr h0 with e|e|e
  ·exact h1 e
  ·exact h2 e
  ·exact h3 e⟩
theorem Zd0{w:World}{B n m:Nat}{t:TypeId}{v:Value}{ys:List Value}(h:w.ownsRow B t n v m ys){q:Nat}(hq:v.ownBlock=some q):∀cs t' fr,w.heap[q]?=some (Obj.cells cs t' fr)->t'=t:=by
 intro cs t' fr h0
 obtain⟨_,⟨rfl,_⟩|⟨g,cap,cur,rfl,_,hg,_⟩⟩:=h
 ·cases hq
 ·injection hq with hq
  have e:g=q:=hq
  subst e
  rw[hg]at h0
  injection h0 with h0
  injection h0 with _ h2
  exact h2.symm
theorem OwnG.cell_grown{w w3:World}{B g N cap n i j:Nat}{xs:List (Ev × Sp)}{gs:List Gp}(h:OwnG w B (.slice (some ⟨g,0,none⟩) N cap) xs gs)(hn:n<xs.length)(hi:i<xs.length)(hj:j<5)(hg:w.grownBy w3 (spV xs[n].2).ownBlock):w3.cell? ⟨g,i*5+j,none⟩=(Zbj xs[i])[j]?:=by
 have hout:w3.ownsRow B 245 5 (.slice (some ⟨g,0,none⟩) N cap) xs.length (Zaq Zbj xs):=World.ownsRow.kept h.outer hg (ZbD h.outer (h.inner n hn (by rw[<-h.len];exact hn)) tyGp)
 have hN:xs.length=N:=by
  obtain⟨_,⟨h1,_⟩|⟨_,_,_,h1,_⟩⟩:=hout
  ·cases h1
  ·injection h1 with _ h1
   exact h1.symm
 rw[hN]at hout
 rw[hout.cellAt _ (by omega),ZaI Zd6 xs i j hi hj]
theorem PastM.last{w:World}{P B:Nat}{cs:List (Nat->Nat)}{v:Value}{xs:List (Ev × Sp)}{gs:List Gp}(h:PastM w P B cs v xs gs){k:Nat}(hk:k<4)(c:Nat->Nat):
  PastM ((((w.setCell ⟨P,k*4,none⟩ (.int .i64 (c 0))).setCell ⟨P,k*4+1,none⟩ (.int .i64 (c 1))).setCell ⟨P,k*4+2,none⟩ (.int .i64 (c 2))).setCell ⟨P,k*4+3,none⟩ (.int .i64 (c 3))) P B (cs.set k c) v xs gs /\
   Aside P B w ((((w.setCell ⟨P,k*4,none⟩ (.int .i64 (c 0))).setCell ⟨P,k*4+1,none⟩ (.int .i64 (c 1))).setCell ⟨P,k*4+2,none⟩ (.int .i64 (c 2))).setCell ⟨P,k*4+3,none⟩ (.int .i64 (c 3))):=by
 have ho:Only P w ((((w.setCell ⟨P,k*4,none⟩ (.int .i64 (c 0))).setCell ⟨P,k*4+1,none⟩ (.int .i64 (c 1))).setCell ⟨P,k*4+2,none⟩ (.int .i64 (c 2))).setCell ⟨P,k*4+3,none⟩ (.int .i64 (c 3))):=((((Only.refl _ _).setCell _ _).setCell _ _).setCell _ _).setCell _ _
 refine⟨⟨h.blk.set4 (by rw[h.four];exact hk) c,h.own.only ho h.lt,h.lt,Nat.le_trans h.le ho.size,by rw[List.length_set];exact h.four⟩,Aside.of_only ho (.inr rfl) h.le fun cs' t fr h0=>?_⟩
 have hb:w.heap[P]?=_:=h.blk
 rw[hb]at h0
 injection h0 with h0
 injection h0 with _ h2
 exact .inl h2.symm
theorem PastM.put{w wa w3:World}{P B g N cap k:Nat}{cs:List (Nat->Nat)}{xs:List (Ev × Sp)}{gs:List Gp}{s':Sp}{p:Nat × Nat}(h:PastM w P B cs (.slice (some ⟨g,0,none⟩) N cap) xs gs)(hba:Below w.heap.size w wa)(hk:k<xs.length)(hk2:k<gs.length)
  (ho:Zae w3 B 242 2 Zbi (spV s') (gs[k].2++[p])) (hb5:Below B wa w3) (hgrow:wa.grownBy w3 (spV xs[k].2).ownBlock) (hwhere:(spV s').ownBlock=(spV xs[k].2).ownBlock∨(spV s').ownBlock=some wa.heap.size):
  PastM (w3.setCell ⟨g,k*5+4,none⟩ (.slice s'.a s'.n s'.c)) P B cs (.slice (some ⟨g,0,none⟩) N cap) (xs.set k (xs[k].1,s')) (gs.set k (gs[k].1,gs[k].2++[p]))/\Aside P B w (w3.setCell ⟨g,k*5+4,none⟩ (.slice s'.a s'.n s'.c)) /\
   (w3.cell? ⟨g,k*5+4,none⟩).isSome=true/\w3.frozen? ⟨g,k*5+4,none⟩=false:=by
 have ha:=h.later hba
 obtain⟨h1,h2,h3⟩:=ha.own.put hk hk2 ho hgrow (fun b hb=>by
  rcases hwhere with e|e
  ·exact .inl (e.symm.trans hb)
  ·rw[e]at hb
   injection hb with hb
   exact .inr (by omega))
 have hBg:B<=g:=by
  rcases ha.own.form with ⟨e,_⟩|⟨g',c',e,h4,_⟩
  ·cases e
  ·injection e with e;injection e with e;injection e with e;omega
 have hout:w3.ownsRow B 245 5 (.slice (some ⟨g,0,none⟩) N cap) xs.length (Zaq Zbj xs):=World.ownsRow.kept ha.own.outer hgrow (ZbD ha.own.outer (ha.own.inner k hk hk2) tyGp)
 have hon:Only g w3 (w3.setCell ⟨g,k*5+4,none⟩ (.slice s'.a s'.n s'.c)):=(Only.refl _ _).setCell _ _
 have hPg:P≠g:=by have:=h.lt;omega
 have hB3:B<=w3.heap.size:=Nat.le_trans ha.le hb5.size
 refine⟨⟨?_,h1,h.lt,Nat.le_trans hB3 hon.size,h.four⟩,?_,h2,h3⟩
 ·have hm:MidAt w3 P _ _:=(hb5.block P h.lt).trans ha.blk
  exact(hon.block P (MidAt.lt hm) hPg).trans hm
 ·refine((Aside.of_below hba h.le).trans (Aside.of_grown hb5 hgrow fun q hq cs t fr h0=>?_)).trans (Aside.of_only hon (.inl hBg) hB3 fun cs t fr h0=>?_)
  ·exact .inr (.inr (Zd0 (ha.own.inner k hk hk2) hq cs t fr h0))
  ·exact .inr (.inl (Zd0 hout (q:=g) rfl cs t fr h0))
theorem PastM.new{w wa w4:World}{P B:Nat}{cs:List (Nat->Nat)}{v v':Value}{xs:List (Ev × Sp)}{gs:List Gp}{e:Ev}{s:Sp}{q:Nat}{p:Nat × Nat}(h:PastM w P B cs v xs gs)(hba:Below w.heap.size w wa)
  (hs:Zae wa B 242 2 Zbi (spV s) [p]) (hq:(spV s).ownBlock=some q) (hqw:w.heap.size<=q)
  (ho:Zae w4 B 245 5 Zbj v' (xs++[(e,s)])) (hb5:Below B wa w4) (hgrow:wa.grownBy w4 v.ownBlock):
  PastM (w4.setCell ⟨P,16,none⟩ v') P B cs v' (xs++[(e,s)]) (gs++[(e,[p])])/\Aside P B w (w4.setCell ⟨P,16,none⟩ v'):=by
 have ha:=h.later hba
 have hs4:Zae w4 B 242 2 Zbi (spV s) [p]:=World.ownsRow.kept hs hgrow (ZbD hs ha.own.outer (Ne.symm tyGp))
 have h1:=ha.own.more ho hgrow hs4 (fun b hb i hi e'=>by
  rw[hq]at hb
  injection hb with hb
  subst hb
  have:=(World.ownsRow.lt (h.own.inner i hi (by rw[<-h.own.len];exact hi)) _ e').2
  omega)
 have hon:Only P w4 (w4.setCell ⟨P,16,none⟩ v'):=(Only.refl _ _).setCell _ _
 have hB3:B<=w4.heap.size:=Nat.le_trans ha.le hb5.size
 have hm:PaAt w4 P cs v:=(hb5.block P h.lt).trans ha.blk
 refine⟨⟨hm.put h.four v',h1.only hon h.lt,h.lt,Nat.le_trans hB3 hon.size,h.four⟩,?_⟩
 refine((Aside.of_below hba h.le).trans (Aside.of_grown hb5 hgrow fun q hq cs t fr h0=>?_)).trans (Aside.of_only hon (.inr rfl) hB3 fun cs' t fr h0=>?_)
 ·exact .inr (.inl (Zd0 ha.own.outer hq cs t fr h0))
 ·have hb:w4.heap[P]?=_:=hm
  rw[hb]at h0
  injection h0 with h0
  injection h0 with _ h2
  exact .inl h2.symm
def Za3(r:Nat × Int):List Value:=[.int .i64 r.1,.int .i64 r.2]
theorem Zc1(r:Nat × Int):(Za3 r).length=2:=rfl
theorem ZhH(r:Nat × Int):∀v∈Za3 r,v.oneCell'=true:=by
 intro v hv
 simp[Za3]at hv
 rcases hv with rfl|rfl <;> rfl
theorem infoRc:(Tryz.prog.info? 137).map (fun i=>(i.zero,i.size,i.bytes))=some (some (.agg #[.int .i64 0,.int .i64 0]),2,16):=by kernel_rfl
end Go.Proofs.YtjfmmnhcddckaaaGreat
namespace Go.Proofs.YtjfmmnhcddckaaaGreat
open Go.RowKit Go.Shelf
attribute [local go_sem] Oper.semAt_some
def backP(ps:List (Nat × Nat))(q:Fin ps.length):Array Value:=#[.int .i64 (q.val:Int),.agg #[.int .i64 (ps[q.val].1:Nat),.int .i64 (ps[q.val].2:Nat)]]
def KeepB(n Bs:Nat)(A B:World):Prop:=Below n A B/\B.heap[Bs]?=A.heap[Bs]?
theorem keepB_t{n Bs:Nat}{A B C:World}(h:KeepB n Bs A B)(k:KeepB n Bs B C):KeepB n Bs A C:=⟨h.1.trans k.1,k.2.trans h.2⟩
theorem KeepB.refl(n Bs:Nat)(A:World):KeepB n Bs A A:=⟨Below.refl _ _,rfl⟩
theorem backP1_in(F:Fence)(n:Nat)(h7:F.fn 185)(hro:F.round=none)(hn:1<=n)(l Bs n₀:Nat)(a:Option Addr)(cap:Nat)(ps:List (Nat × Nat))(hreach:ps.length<=1000)
  (J Jx:List (Fin ps.length)->World->Prop)
  (hY:∀pre x W,J pre W->pre.length<ps.length->YieldAt F (n-1) Tryz.prog l (backP ps x) W fun e W'=>(e=.returned (.bool true)/\J (pre++[x]) W'/\KeepB n₀ Bs W W')∨(e=.returned (.bool false)/\Jx (pre++[x]) W'))
  (W:World) (hBs:MidAt W Bs 243 [.slice a ps.length cap]) (hrow:RowAt W a 2 Zbi ps) (hb:0<ps.length->∀b o,a=some ⟨b,o,none⟩->b<n₀) (h0:J [] W):
  CallsIn F n Tryz.prog 185 #[.func (.yield l) #[] #[],.pointer (some ⟨Bs,0,none⟩)] W fun e W'=>(∃v,e=.returned v) /\
   ((∃ys,Backs ps.length ps.length ys/\J ys W')∨(∃pre,(∃k,k<=ps.length/\Backs ps.length k pre)/\Jx pre W')):=by
 refine callsIn_of_wp Tryz.func185 rfl h7 ?_ hro
 have hBsc:=hBs.cell 0
 simp only[List.getElem?_cons_zero]at hBsc
 simp only[Tryz.ntmps185,List.size_toArray,List.length_cons,List.length_nil,Nat.reduceAdd,Nat.reduceSub,Array.replicate_succ,Array.replicate_zero,List.push_toArray,List.append_toArray,List.nil_append,List.cons_append]
 gi_wp2
 gi_loopw [3] (fun i wr=>∃(k:Nat) (z:Int) (pre:List (Fin ps.length)),k<=ps.length/\i=.int .i64 z/\Hid (z=(ps.length:Int)-1-k)/\Hid (Backs ps.length k pre)/\J pre wr/\KeepB n₀ Bs W wr) (fun i _=>(intOf i+1).toNat)
 case atStart=>exact⟨0,_,[],Nat.zero_le _,rfl,(by show _=_;omega),ZkW _,h0,KeepB.refl _ _ _⟩
 case round=>
  obtain⟨k,z,pre,hk,rfl,HZ,HP,hJs,hnx⟩:=hrel
  have cBs:=MidAt.cell (hnx.2.trans hBs:MidAt wr Bs 243 _) 0
  simp only[List.getElem?_cons_zero]at cBs
  by_cases hlt:k<ps.length
  ·obtain⟨b,o,rfl,hcell⟩:=hrow.2 (by intro e;simp[e]at hlt)
   have hbn:=hb (by omega) b o rfl
   obtain⟨q,hq⟩:∃q:Nat,q=ps.length-1-k:=⟨_,rfl⟩
   obtain rfl:z=(q:Int):=by have:=HZ.out;omega
   have hql:q<ps.length:=by omega
   have hk2:∀j u,(Zbi ps[q])[j]?=some u->wr.cell? ⟨b,o+q*2+j,none⟩=some u:=fun j u hj=>(hnx.1.cell (p:=⟨b,o+q*2+j,none⟩) hbn).trans (hcell q hql j u hj)
   have c0:=hk2 0 _ rfl
   have c1:=hk2 1 _ rfl
   rw[Nat.add_zero]at c0
   obtain⟨fn,tmps,assign,body,hy,hR⟩:=hY pre ⟨q,hql⟩ wr hJs (by rw[HP.out.len];exact hlt)
   dsimp only[backP]at hy
   have HQ:=Lib.hid hq
   have HP2:Hid (Backs ps.length (k+1) (pre++[⟨q,hql⟩])):=HP.out.snoc hq
   clear hk2 hcell hq
   gi_wp2
   refine hR.mono ?_
   rintro e W3 (⟨rfl,hJ3,hk3⟩|⟨rfl,hJx3⟩)
   ·gi_wp2
    go_roundw
    case rel=>exact⟨k+1,(q:Int)-1,_,by omega,by go_num,(by show _=_;have:=HQ.out;omega),HP2,hJ3,keepB_t hnx hk3⟩
    case measure=>simp[intOf]
   ·gi_wp2
    refine bodyPost_ret (results_none rfl _ _ _) rfl ?_
    exact⟨⟨_,rfl⟩,.inr ⟨_,⟨k+1,by omega,HP2.out⟩,hJx3⟩⟩
  ·obtain rfl:k=ps.length:=by omega
   obtain rfl:z=-1:=by have:=HZ.out;omega
   gi_wp2
   go_end0
   exact⟨⟨_,rfl⟩,.inl ⟨_,HP.out,hJs⟩⟩
theorem backP_in(F:Fence)(n:Nat)(h5:F.fn 159)(hro:F.round=none)(a:Option Addr)(len cap:Nat)(w:World):
  CallsIn F n Tryz.prog 159 #[.slice a len cap] w fun e w'=>e=.returned (.func (.func 185) #[] #[.pointer (some ⟨w.heap.size,0,none⟩)])/\w'=w.alloc (.cells #[.slice a len cap] 243):=by
 refine callsIn_of_wp Tryz.func159 rfl h5 ?_ hro
 simp only[Tryz.ntmps159,List.size_toArray,List.length_cons,List.length_nil,Nat.reduceAdd,Nat.reduceSub,Array.replicate_succ,Array.replicate_zero,List.push_toArray,List.append_toArray,List.nil_append,List.cons_append]
 gi_wp2
 go_ret
 exact⟨rfl,rfl⟩
theorem Zmd(F:Fence)(n:Nat)(h7:F.fn 185)(hro:F.round=none)(hn:1<=n)(Bs n₀:Nat)(a:Option Addr)(cap:Nat)(ps:List (Nat × Nat))(hreach:ps.length<=1000)(w:World)
  (hc:MidAt w Bs 243 [.slice a ps.length cap]) (hrow:RowAt w a 2 Zbi ps) (hb:0<ps.length->∀b o,a=some ⟨b,o,none⟩->b<n₀):
  SeqStopsK F n Tryz.prog 185 #[.pointer (some ⟨Bs,0,none⟩)] (backP ps) (KeepB n₀ Bs) (fun ys=>Backs ps.length ps.length ys) (fun pre=>∃k,k<=ps.length/\Backs ps.length k pre) ps.length w:=fun l J Jx W hW _ _ hY h0=>
 backP1_in F n h7 hro hn l Bs n₀ a cap ps hreach J Jx hY W (hc.later hW) (hrow.later hW) hb h0
def Stay(L:Nat)(w w':World):Prop:=w.heap.size<=w'.heap.size/\∀(b:Nat) (o:Obj),w.heap[b]?=some o->b≠L->(∀(cs:Array Value) (fr:Nat × Nat),o≠Obj.cells cs 137 fr)->w'.heap[b]?=some o
theorem Stay.refl(L:Nat)(w:World):Stay L w w:=⟨Nat.le_refl _,fun _ _ h _ _=>h⟩
theorem Stay.trans{L:Nat}{a b c:World}(h:Stay L a b)(k:Stay L b c):Stay L a c:=⟨Nat.le_trans h.1 k.1,fun i o h0 h1 h2=>k.2 i o (h.2 i o h0 h1 h2) h1 h2⟩
theorem Stay.of_below{L:Nat}{w w':World}(h:Below w.heap.size w w'):Stay L w w':=⟨h.size,fun b _ h0 _ _=>(h.block b (Array.getElem?_eq_some_iff.1 h0).1).trans h0⟩
theorem Stay.set(L:Nat)(w:World)(o:Nat)(v:Value):Stay L w (w.setCell ⟨L,o,none⟩ v):=
 ⟨((Only.refl L w).setCell o v).size,fun b _ h0 h1 _=>(((Only.refl L w).setCell o v).block b (Array.getElem?_eq_some_iff.1 h0).1 h1).trans h0⟩
theorem Stay.grown{L B n m:Nat}{w w':World}{v:Value}{ys:List Value}(ho:w.ownsRow B 137 n v m ys)(h:w.grownBy w' v.ownBlock):Stay L w w':=by
 refine⟨h.size,fun b o h0 _ h2=>(h.block b (Array.getElem?_eq_some_iff.1 h0).1 fun e=>?_).trans h0⟩
 obtain⟨_,⟨rfl,_⟩|⟨g,cap,cur,rfl,_,hg,_⟩⟩:=ho
 ·simp[Value.ownBlock]at e
 ·have e2:b=g:=by simpa [Value.ownBlock]using e
  subst e2
  rw[hg]at h0
  injection h0 with h0
  exact h2 _ _ h0.symm
theorem Stay.mid{L:Nat}{w w':World}(h:Stay L w w'){b:Nat}{t:TypeId}{xs:List Value}(hm:MidAt w b t xs)(hb:b≠L)(ht:t≠137):MidAt w' b t xs:=
 h.2 b _ hm hb fun cs fr e=>by injection e with _ e2 _;exact ht e2
theorem Zmm(L:Nat)(w:World){β:Type}:OwnFrom w.heap.size (fun(_:β) W=>Stay L w W):=fun _ X Y row hs hg hr=>
 ⟨Nat.le_trans hs.1 hg.size,fun b o h0 h1 h2=>(hg.block b (Nat.lt_of_lt_of_le (Array.getElem?_eq_some_iff.1 h0).1 hs.1) (fun e=>by
  have:=(hr b e.symm).1
  have:=(Array.getElem?_eq_some_iff.1 h0).1
  omega)).trans (hs.2 b o h0 h1 h2)⟩
def RcAt(w:World)(B L:Nat)(t:Int)(ats:List Nat):Prop:=∃v,Boxed w L 134 v/\Zae w B 137 2 Za3 v (rcT t ats)
theorem tyRcL:134≠137:=by decide
theorem RcAt.later{w w':World}{B L:Nat}{t:Int}{ats:List Nat}(h:RcAt w B L t ats)(hb:Below w.heap.size w w'):RcAt w' B L t ats:=by
 obtain⟨v,h1,h2⟩:=h
 exact⟨v,(hb.block L h1.lt).trans h1,h2.later hb⟩
theorem Zmu(B L:Nat)(t:Int){β:Type}(f:β->List Nat):Own (fun s W=>RcAt W B L t (f s)):=by
 intro s X Y row hs hg hr
 obtain⟨v,h1,h2⟩:=hs
 refine⟨v,h1.kept hg (fun e=>?_),World.ownsRow.kept h2 hg ?_⟩
 ·obtain⟨o,ho,hc⟩:=hr L e.symm
  rw[show X.heap[L]?=_ from h1]at ho
  cases ho
  cases hc
 ·obtain⟨_,⟨rfl,_⟩|⟨g,cap,cur,rfl,_,hgb,_⟩⟩:=h2
  ·exact .inl rfl
  ·refine .inr fun e=>?_
   obtain⟨o,ho,hc⟩:=hr g (by simpa [Value.ownBlock]using e.symm)
   rw[hgb]at ho
   cases ho
   cases hc
theorem RcAt.more{W w1:World}{B L:Nat}{t:Int}{ats:List Nat}{at_:Nat}{v v':Value}{tmp:Obj}(h1:Boxed W L 134 v)(h2:Zae W B 137 2 Za3 v (rcT t ats))(hB:B<=W.heap.size)(hL:B<=L)
  (ho:Zae w1 B 137 2 Za3 v' (rcT t ats++[(at_,t)])) (hg:(W.alloc tmp).grownBy w1 v.ownBlock):
  RcAt (w1.setCell ⟨L,0,none⟩ v') B L t (ats++[at_])/\Stay L W (w1.setCell ⟨L,0,none⟩ v')/\KeepsOthers W (w1.setCell ⟨L,0,none⟩ v')/\Below B W (w1.setCell ⟨L,0,none⟩ v')/\w1.cell? ⟨L,0,none⟩=some v/\w1.frozen? ⟨L,0,none⟩=false:=by
 obtain⟨a1,a2,a3,a4,a5⟩:=Boxed.appended h1 tyRcL h2 hB hL ho hg
 refine⟨⟨v',a2,?_⟩,?_,a4,a5,a1.cell,a1.frozen⟩
 ·unfold rcT at *
  rw[List.map_append]
  exact a3
 ·exact(Stay.of_below (Zaa W tmp)).trans ((Stay.grown (Zae.alloc h2 tmp) hg).trans (Stay.set L w1 0 v'))
def Marks(B:Nat)(ds:List Deferred)(W:World):Prop:=ds.Pairwise (·≠·)/\∀d∈ds,∃D,d={ target:=.collected D,args:=#[] }/\B<=D/\W.heap[D]?=some (.deferred (some []))
theorem marks_nil(B:Nat)(W:World):Marks B [] W:=⟨List.Pairwise.nil,fun _ h=>absurd h (by simp)⟩
theorem Marks.kept{B:Nat}{ds:List Deferred}{W W':World}(h:Marks B ds W)(hk:∀D,B<=D->W.heap[D]?=some (.deferred (some []))->W'.heap[D]?=some (.deferred (some []))):Marks B ds W':=
 ⟨h.1,fun d hd=>by obtain⟨D,h1,h2,h3⟩:=h.2 d hd;exact⟨D,h1,h2,hk D h2 h3⟩⟩
theorem Marks.stay{B L:Nat}{ds:List Deferred}{W W':World}{t:TypeId}{v:Value}(h:Marks B ds W)(hs:Stay L W W')(hL:Boxed W L t v):Marks B ds W':=
 h.kept fun D _ hD=>hs.2 D _ hD (fun e=>by subst e;rw[show W.heap[D]?=_ from hL]at hD;cases hD) (fun cs fr e=>by cases e)
theorem Marks.more{B D:Nat}{ds:List Deferred}{W0 W:World}(h0:Marks B ds W0)(h:Marks B ds W)(hD:W0.heap.size<=D)(hB:B<=D)(hW:W.heap[D]?=some (.deferred (some []))):Marks B ({ target:=.collected D,args:=#[] } :: ds) W:=by
 refine⟨List.pairwise_cons.2 ⟨fun d hd e=>?_,h.1⟩,fun d hd=>?_⟩
 ·obtain⟨D',h1,_,h3⟩:=h0.2 d hd
  rw[<-e]at h1
  injection h1 with h1
  injection h1 with h1
  have:=(Array.getElem?_eq_some_iff.1 h3).1
  omega
 ·rcases List.mem_cons.1 hd with rfl|hd
  ·exact⟨D,rfl,hB,hW⟩
  ·exact h.2 d hd
theorem Zkq{F:Fence}{n:Nat}{P:Program}{fn:Func}{tmps:Array Value}{R:Ending->World->Prop}(B:Nat)(G:World->Prop)(hG:∀W D o,G W->B<=D->W.heap[D]?=some o->o.isCells=false->G (W.putObj D (.deferred none)))
  (hend:∀W,G W->∃v,(results fn tmps).run P W=.ok v W/\R (.returned v) W):∀(ds:List Deferred) (W:World),Marks B ds W->G W->LeavesInM F n P fn tmps R ds .returning W:=by
 intro ds
 induction ds with
 |nil=>intro W _ h;exact hend W h
 |cons d ds ih=>
  intro W hm h
  obtain⟨D,rfl,hB,hD⟩:=hm.2 _ List.mem_cons_self
  have hp:=List.pairwise_cons.1 hm.1
  refine⟨by simp,.inl ⟨D,_,rfl,run_takeDeferred hD,ih _ ⟨hp.2,fun d' hd'=>?_⟩ (hG W D _ h hB hD rfl)⟩⟩
  obtain⟨D',e,h2,h3⟩:=hm.2 d' (List.mem_cons_of_mem _ hd')
  refine⟨D',e,h2,(World.putObj_heap_other (fun e2=>?_)).trans h3⟩
  have h4:=hp.1 d' hd'
  rw[e,e2]at h4
  exact h4 rfl
theorem Ze4{F:Fence}{n:Nat}{w:World}{ops:Array Oper}{rest:List Oper}{o:Oper}{a:Act}{Q:Exit->Act->World->Prop}(hgd:o.guard=none)(s x:Operand)
  (ho:o.op=.call { callee:=.builtin .append,args:=#[s,x],argTypes:=#[134,134] }) (B:Nat) (v:Value) (l:List (Nat × Int)) (hs:a.eval s=v) (hown:Zae w B 137 2 Za3 v l)
  (ad:Addr) (hx:a.eval x=.slice (some ad) 1 1) (e:Nat × Int) (hnews:∀j u,(Za3 e)[j]?=some u->w.cell? (ad.add j)=some u) (hlen:l.length<=1000000) (hB:B<=w.heap.size)
  (h:∀v' w',Zae w' B 137 2 Za3 v' (l++[e])->w.grownBy w' v.ownBlock->wpListIn F n Tryz.prog ops Q rest (a.put o.dst v') w'):wpListIn F n Tryz.prog ops Q (o::rest) a w:=by
 obtain⟨i,hi,hzz⟩:=Option.map_eq_some_iff.1 infoRc
 simp only[Prod.mk.injEq]at hzz
 obtain⟨hiz,hisz,hiby⟩:=hzz
 refine wpListIn_append_own w hgd s x 134 ho B 137 i _ 2 16 Tryz.underlying134 hi hiz hisz hiby rfl (by decide) v l.length (Zaq Za3 l) hs hown ad 1 1 (Za3 e) hx rfl hnews
  (ZhH _) (by unfold maxLen;omega) (by omega) hB ?_
 intro v' w' h2 h3 _
 refine h v' w' ?_ h3
 unfold Zae
 rw[List.length_append,Zcj,Zdn]
 exact h2
theorem Backs.last{n k:Nat}{ini:List (Fin n)}{q:Fin n}(h:Backs n k (ini++[q])):∃k',k=k'+1/\Backs n k' ini/\q.val=n-1-k':=by
 have hlen:=h.len
 rw[List.length_append,List.length_singleton]at hlen
 obtain⟨k',rfl⟩:∃k',k=k'+1:=⟨ini.length,by omega⟩
 have hm:(ini++[q]).map (fun q=>q.val)=upto (fun k=>n-1-k) (k'+1):=h
 rw[List.map_append,Zgi]at hm
 obtain⟨h5,h6⟩:=List.append_inj' hm rfl
 exact⟨k',rfl,h5,by simpa using h6⟩
theorem ZjZ{ps:List (Nat × Nat)}{known k:Nat}{pre:List (Fin ps.length)}(hs:ps.Pairwise (fun a b=>a.2<b.2))(hb:Backs ps.length k pre)(hk:k<=ps.length)(h1:∀q∈pre,known<(ps[q.val]).2)
  (h2:∀h:k<ps.length,(ps[ps.length-1-k]).2<=known):rcG known ps=pre.map fun q=>(ps[q.val]).1:=by
 have hg:∀i (h:i<ps.length),ps.reverse.getD i (0,0)=ps[ps.length-1-i]:=by
  intro i hi
  simp[List.getD,hi]
 rw[rcG_take hs hk (fun i hi=>by
  rw[hg i (by omega)]
  exact h1 ⟨ps.length-1-i,by omega⟩ (hb.mem (by omega) (by omega) hk)) (fun h=>by rw[hg k h];exact h2 h)]
 apply List.ext_getElem
 ·simp[hb.len,hk]
 ·intro i hi1 hi2
  have hip:i<pre.length:=by simpa using hi2
  have hik:i<k:=by rw[<-hb.len];exact hip
  have hv:(pre[i]).val=ps.length-1-i:=by
   have h3:pre.map (fun q=>q.val)=upto (fun k=>ps.length-1-k) k:=hb
   have h4:=congrArg (fun z=>z[i]?) h3
   simp[upto,hip,hik]at h4
   exact h4
  simp only[List.getElem_map,List.getElem_take,List.getElem_reverse,hv]
theorem keepB_b{w:World}{n Bs:Nat}(hn:n<=w.heap.size)(hb:Bs<w.heap.size):∀(W:World) (l:Nat) (o o':Obj),w.heap.size<=l->W.heap[l]?=some o->o.isCells=false->o.isWalk=false->KeepB n Bs W (W.putObj l o'):=
 fun W l o o' h1 h2 h3 h4=>⟨belowK_b hn W l o o' h1 h2 h3 h4,World.putObj_heap_other (by omega)⟩
theorem Stay.box{L:Nat}{w w':World}(h:Stay L w w'){b:Nat}{e:Ev}(hm:EvBox w b e)(hb:b≠L):EvBox w' b e:=
 h.2 b _ hm hb fun cs fr e'=>by injection e' with _ e2 _;revert e2;decide
theorem ZjY(ls:Int->Int->Nat)(gs:List Gp)(e:Ev)(k:Nat):(rcL ls (gs.take k) e).length<=(rcL ls gs e).length:=by
 have h:rcL ls gs e=rcL ls (gs.take k) e++rcL ls (gs.drop k) e:=by
  unfold rcL
  rw[<-List.flatMap_append,List.take_append_drop]
 rw[h,List.length_append]
 omega
end Go.Proofs.YtjfmmnhcddckaaaGreat
namespace Go.Proofs
open Go.Shelf
def Tryz.sortRace_ren : Go.Shelf.Ren := ⟨fun | 6 => 160 | 15 => 94 | 14 => 186 | 28 => 149 | 29 => 150 | 20 => 205 | 21 => 206 | 22 => 207 | 23 => 208 | 24 => 209 | 25 => 210 | 26 => 211 | 27 => 212 | 46 => 219 | 47 => 177 | 48 => 178 | 49 => 220 | 50 => 221 | 57 => 223 | n => n, fun | 22 => 134 | 24 => 137 | 25 => 250 | 3 => 3 | 39 => 26 | 0 => 0 | 53 => 232 | 55 => 208 | 4 => 4 | 46 => 224 | 45 => 223 | 50 => 229 | 5 => 5 | 9 => 9 | 66 => 266 | 70 => 270 | 76 => 290 | 77 => 291 | n => n, fun | n => n⟩
theorem Tryz.sortRace : Go.Proofs.SlLaysF0.n6 Tryz.prog Tryz.sortRace_ren := {
  mixed := by kernel_rfl
  f6 := ⟨Tryz.f160.name, by decide, Tryz.func160.trans (congrArg some (by kernel_rfl))⟩
  f14 := ⟨Tryz.f186.name, by decide, Tryz.func186.trans (congrArg some (by kernel_rfl))⟩
  f15 := Tryz.func94.trans (congrArg some (by kernel_rfl))
  f20 := ⟨Tryz.f205.name, by decide, Tryz.func205.trans (congrArg some (by kernel_rfl))⟩
  f21 := ⟨Tryz.f206.name, by decide, Tryz.func206.trans (congrArg some (by kernel_rfl))⟩
  f22 := ⟨Tryz.f207.name, by decide, Tryz.func207.trans (congrArg some (by kernel_rfl))⟩
  f23 := ⟨Tryz.f208.name, by decide, Tryz.func208.trans (congrArg some (by kernel_rfl))⟩
  f24 := ⟨Tryz.f209.name, by decide, Tryz.func209.trans (congrArg some (by kernel_rfl))⟩
  f25 := ⟨Tryz.f210.name, by decide, Tryz.func210.trans (congrArg some (by kernel_rfl))⟩
  f26 := ⟨Tryz.f211.name, by decide, Tryz.func211.trans (congrArg some (by kernel_rfl))⟩
  f27 := ⟨Tryz.f212.name, by decide, Tryz.func212.trans (congrArg some (by kernel_rfl))⟩
  f28 := Tryz.func149.trans (congrArg some (by kernel_rfl))
  f29 := Tryz.func150.trans (congrArg some (by kernel_rfl))
  f46 := ⟨Tryz.f219.name, by decide, Tryz.func219.trans (congrArg some (by kernel_rfl))⟩
  f47 := Tryz.func177.trans (congrArg some (by kernel_rfl))
  f48 := Tryz.func178.trans (congrArg some (by kernel_rfl))
  f49 := ⟨Tryz.f220.name, by decide, Tryz.func220.trans (congrArg some (by kernel_rfl))⟩
  f50 := ⟨Tryz.f221.name, by decide, Tryz.func221.trans (congrArg some (by kernel_rfl))⟩
  f57 := ⟨Tryz.f223.name, by decide, Tryz.func223.trans (congrArg some (by kernel_rfl))⟩
  t0 := Tryz.underlying0
  a0 := Tryz.isAgg0
  z0 := Tryz.sizeOf0
  v0 := Tryz.zeroValue0
  t3 := Tryz.underlying3
  a3 := Tryz.isAgg3
  z3 := Tryz.sizeOf3
  v3 := Tryz.zeroValue3
  t4 := Tryz.underlying4
  a4 := Tryz.isAgg4
  z4 := Tryz.sizeOf4
  v4 := Tryz.zeroValue4
  t5 := Tryz.underlying5
  a5 := Tryz.isAgg5
  z5 := Tryz.sizeOf5
  v5 := Tryz.zeroValue5
  t9 := Tryz.underlying9
  a9 := Tryz.isAgg9
  z9 := Tryz.sizeOf9
  v9 := Tryz.zeroValue9
  t22 := Tryz.underlying134
  a22 := Tryz.isAgg134
  z22 := Tryz.sizeOf134
  v22 := Tryz.zeroValue134
  t25 := Tryz.underlying250
  a25 := Tryz.isAgg250
  z25 := Tryz.sizeOf250
  v25 := Tryz.zeroValue250
  t39 := Tryz.underlying26
  a39 := Tryz.isAgg26
  z39 := Tryz.sizeOf26
  v39 := Tryz.zeroValue26
  t45 := Tryz.underlying223
  a45 := Tryz.isAgg223
  z45 := Tryz.sizeOf223
  v45 := Tryz.zeroValue223
  t46 := Tryz.underlying224
  a46 := Tryz.isAgg224
  z46 := Tryz.sizeOf224
  v46 := Tryz.zeroValue224
  t50 := Tryz.underlying229
  a50 := Tryz.isAgg229
  z50 := Tryz.sizeOf229
  v50 := Tryz.zeroValue229
  t53 := Tryz.underlying232
  a53 := Tryz.isAgg232
  z53 := Tryz.sizeOf232
  v53 := Tryz.zeroValue232
  t55 := Tryz.underlying208
  a55 := Tryz.isAgg208
  z55 := Tryz.sizeOf208
  v55 := Tryz.zeroValue208
  t66 := Tryz.underlying266
  a66 := Tryz.isAgg266
  z66 := Tryz.sizeOf266
  v66 := Tryz.zeroValue266
  t70 := Tryz.underlying270
  a70 := Tryz.isAgg270
  z70 := Tryz.sizeOf270
  v70 := Tryz.zeroValue270
  t76 := Tryz.underlying290
  a76 := Tryz.isAgg290
  z76 := Tryz.sizeOf290
  v76 := Tryz.zeroValue290
  t77 := Tryz.underlying291
  a77 := Tryz.isAgg291
  z77 := Tryz.sizeOf291
  v77 := Tryz.zeroValue291 }
end Go.Proofs
namespace Go.Proofs.YtjfmmnhcddckaaaGreat
open Go.RowKit Go.Shelf Go.Lib Go.Sort
def encR(t:Int)(x:Fin 1000):List Value:=[.int .i64 (x.val:Int),.int .i64 t]
def cfR(x y:Fin 1000):Int:=(x.val:Int)-(y.val:Int)
theorem ltR(x y:Fin 1000):ltOf cfR x y=decide (x.val<y.val):=by
 unfold ltOf cfR
 by_cases h:x.val<y.val
 ·have:(x.val:Int)-(y.val:Int)<0:=by omega
  simp[h,this]
 ·have:¬(x.val:Int)-(y.val:Int)<0:=by omega
  simp[h,this]
theorem swoR:SWO (ltOf cfR) where
 irrefl x:=by rw[ltR];simp
 trans x y z h1 h2:=by rw[ltR]at *;simp at *;omega
 ntrans x y z h1 h2:=by rw[ltR]at *;simp at *;omega
theorem totR(x y:Fin 1000)(h1:ltOf cfR x y=false)(h2:ltOf cfR y x=false):x=y:=by rw[ltR]at *;simp at *;omega
theorem geR:(fun x y:Fin 1000=>!ltOf cfR y x)=fun x y=>decide (x.val<=y.val):=by
 funext x y
 rw[ltR]
 by_cases h:x.val<=y.val
 ·have h':¬y.val<x.val:=by omega
  simp[h,h']
 ·have h':y.val<x.val:=by omega
  simp[h,h']
theorem closureR(t:Int)(x y:Fin 1000)(W:World):Calls Tryz.prog 161 #[.agg #[.int .i64 (x.val:Int),.int .i64 t],.agg #[.int .i64 (y.val:Int),.int .i64 t]] W fun e w'=>e=.returned (.int .i64 (cfR x y))/\∃q os',w'=Go.Sort.grow (W.drewN q) os':=by
 have hx:=x.isLt
 have hy:=y.isLt
 unfold cfR
 have hw:IntKind.i64.wrap ((x.val:Int)-(y.val:Int))=(x.val:Int)-(y.val:Int):=IntWalk.i64_in _ (by omega)
 generalize (x.val:Int)=a at *
 generalize (y.val:Int)=b at *
 go_enter Tryz.func161,Tryz.ntmps161
 go_wp2
 go_ret
 exact⟨rfl,0,_,by rw[alloc_eq_grow,alloc_eq_grow,grow_grow];rfl⟩
theorem Zh2{α:Type}[Inhabited α](enc:α->List Value){k:Nat}(hk:∀x,(enc x).length=k)(h0:0<k)(l:List α):(flatK enc k l.toArray).toList=Zaq enc l:=by
 apply Zcp hk h0
 ·simp
 ·intro i hi j hj
  have hlt:i*k+j<l.length*k:=by
   have:(i+1)*k<=l.length*k:=Nat.mul_le_mul_right k hi
   rw[Nat.add_mul,Nat.one_mul]at this
   omega
  have e1:(i*k+j)/k=i:=by rw[Nat.mul_comm,Nat.mul_add_div h0,Nat.div_eq_of_lt hj,Nat.add_zero]
  have e2:(i*k+j)%k=j:=by rw[Nat.mul_comm,Nat.mul_add_mod,Nat.mod_eq_of_lt hj]
  unfold flatK
  simp only[Array.toList_map,Array.toList_range,List.size_toArray,List.getElem?_map,List.getElem?_range hlt,Option.map_some,e1,e2]
  have e3:(l.toArray)[i]! = l[i]:=by simp[hi]
  rw[e3,getElem!_pos _ _ (by rw[hk];exact hj),List.getElem?_eq_getElem (by rw[hk];exact hj)]
theorem holdsK_of{α:Type}[Inhabited α]{enc:α->List Value}{k:Nat}(hk:∀x,(enc x).length=k)(h0:0<k){w:World}{g:Nat}{cur:Array Value}{e:TypeId}{l:List α}(hb:w.heap[g]?=some (.cells cur e (0,0)))(ht:cur.toList.take (l.length*k)=Zaq enc l):HoldsK enc k w g 0 l.toArray:=by
 intro j hj
 have hj':j<l.length*k:=by simpa using hj
 refine⟨?_,by simp[World.frozen?,hb]⟩
 have h1:(cur.toList.take (l.length*k))[j]?=((flatK enc k l.toArray).toList)[j]?:=by rw[ht,Zh2 enc hk h0]
 rw[List.getElem?_take_of_lt hj']at h1
 simp only[World.cell?,hb,Nat.zero_add]
 simp only[Option.isSome_none,Bool.false_eq_true,if_false]
 rw[<-Array.getElem?_toList,h1,Array.getElem?_toList,getElem!_pos (flatK enc k l.toArray) j hj,Array.getElem?_eq_getElem hj]
 rfl
theorem ZkC{α:Type}[Inhabited α]{enc:α->List Value}{k:Nat}{w:World}{g n:Nat}{os:Array Obj}{cur:Array Value}{e:TypeId}{fr:Nat × Nat}(d:Array α)(hb:w.heap[g]?=some (.cells cur e fr)):
  (sortWorldK enc k w g 0 n d os).heap[g]?=some (.cells (putCells id 0 (flatK enc k d) cur) e fr):=by
 have hg:g<w.heap.size:=(Array.getElem?_eq_some_iff.1 hb).1
 unfold sortWorldK putRowK
 rw[heap_grow_old _ _ (by simpa using hg)]
 simp[putRow,mapBlock,Sort.ahead,Array.getElem?_modify,hb,onCells]
theorem ZgS{α:Type}[Inhabited α]{enc:α->List Value}{k:Nat}{w:World}{g n:Nat}{os:Array Obj}(d:Array α):w.grownBy (sortWorldK enc k w g 0 n d os) (some g):=by
 unfold sortWorldK putRowK
 refine⟨rfl,rfl,rfl,by simp,fun j hj hne=>?_⟩
 rw[heap_grow_old _ _ (by simpa using hj)]
 have:g≠j:=fun e=>hne (by rw[e])
 simp[putRow,mapBlock,Sort.ahead,Array.getElem?_modify,this]
theorem Zjz(cur:Array Value)(F:Array Value)(h:F.size<=cur.size):(putCells id 0 F cur).toList.take F.size=F.toList:=by
 apply List.ext_getElem?
 intro j
 by_cases hj:j<F.size
 ·rw[List.getElem?_take_of_lt hj,Array.getElem?_toList,Array.getElem?_toList]
  simp[putCells,hj,show j<cur.size by omega]
 ·rw[List.getElem?_take_eq_none (by omega),List.getElem?_eq_none (by simp;omega)]
def fin1(i:Nat):Fin 1000:=⟨i%1000,Nat.mod_lt _ (by omega)⟩
theorem fin1_val{ats:List Nat}(h:∀i∈ats,i<1000):(ats.map fin1).map (·.val)=ats:=by
 rw[List.map_map]
 conv=>rhs;rw[<-List.map_id ats]
 apply List.map_congr_left
 intro i hi
 exact Nat.mod_eq_of_lt (h i hi)
theorem enc_rc(t:Int)(l:List (Fin 1000)):Zaq (encR t) l=Zaq Za3 (rcT t (l.map (·.val))):=by
 unfold Zaq rcT
 rw[List.map_map,List.flatMap_map]
 rfl
theorem sort_any(t:Int)(ats:List Nat)(B:Nat)(v:Value)(w:World)(ho:Zae w B 137 2 Za3 v (rcT t ats))(hs:∀i∈ats,i<1000)(hl:ats.length<=1000):
  Calls Tryz.prog 160 #[v,.func (.func 161) #[] #[]] w fun r w'=>r=.returned (.tuple #[]) /\
   ∃L:List Nat,L.Perm ats/\L.Pairwise (·<=·)/\Zae w' B 137 2 Za3 v (rcT t L)/\w.grownBy w' v.ownBlock:=by
 obtain⟨h1,⟨rfl,h2⟩|⟨g,cap,cur,rfl,h3,h4,h5,h6,h7,h8⟩⟩:=ho
 ·obtain rfl:ats=[]:=List.eq_nil_of_length_eq_zero (by unfold rcT at h2;simpa using h2)
  have hS:=AnyF.slices_SortFunc_none (P:=Tryz.prog) (ρ:=Tryz.sortRace_ren) { Tryz.sortRace with } none 0 (.func (.func 161) #[] #[]) w
  change Calls Tryz.prog 160 _ _ _ at hS
  refine hS.mono ?_
  rintro r w'⟨rfl,rfl⟩
  exact⟨rfl,[],List.Perm.refl _,List.Pairwise.nil,⟨rfl,.inl ⟨rfl,rfl⟩⟩,rfl,rfl,rfl,Nat.le_refl _,fun _ _ _=>rfl⟩
 ·have hn:(rcT t ats).length=ats.length:=by unfold rcT;simp
  rw[hn]at h5 h8 h1
  have hv:=fin1_val hs
  have hfl:(ats.map fin1).length=ats.length:=by simp
  have h8':cur.toList.take ((ats.map fin1).length*2)=Zaq (encR t) (ats.map fin1):=by rw[enc_rc,hv,hfl];exact h8
  have hH:=holdsK_of (enc:=encR t) (fun _=>rfl) (by omega) h4 h8'
  have eg:∀args w,(callFunc 161 args).run Tryz.prog w=.ok (.enter 161 args) w:=enters_of Tryz.func161 (by kernel_rfl) rfl
  have hS:=AnyQ.slices_SortFunc_total Tryz.sortRace 2 Tryz.isAgg137 Tryz.sizeOf137 (encR t) (fun _=>rfl) (fun x v hv=>by simp[encR]at hv;rcases hv with rfl|rfl <;> rfl) cfR swoR 161 #[] g 0 cap (ats.map fin1).toArray w eg
   (fun _ _ _ _ x y=>closureR t x y _) hH (Array.getElem?_eq_some_iff.1 h4).1 (by simp;omega) totR
  rw[geR]at hS
  have hsz:(ats.map fin1).toArray.size=ats.length:=by simp
  rw[hsz]at hS
  rw[hn]
  change Calls Tryz.prog 160 _ _ _ at hS
  refine hS.mono ?_
  rintro r w'⟨rfl,n,os,rfl⟩
  have hp:=List.mergeSort_perm (ats.map fin1) (fun x y=>decide (x.val<=y.val))
  have hpw:((ats.map fin1).mergeSort fun x y=>decide (x.val<=y.val)).Pairwise (fun x y=>decide (x.val<=y.val)=true):=
   List.pairwise_mergeSort (fun a b c h1 h2=>by simp at *;omega) (fun a b=>by simp;omega) _
  generalize ((ats.map fin1).mergeSort fun x y=>decide (x.val<=y.val))=S at *
  have hSl:S.length=ats.length:=by rw[hp.length_eq,hfl]
  refine⟨rfl,S.map (·.val),?_,?_,?_,ZgS _⟩
  ·have:=hp.map (·.val)
   rwa [hv]at this
  ·rw[List.pairwise_map]
   exact hpw.imp fun h=>by simpa using h
  ·have hn2:(rcT t (S.map (·.val))).length=ats.length:=by unfold rcT;simp[hSl]
   refine⟨by rw[Zar Zc1,hn2],.inr ⟨g,cap,_,by rw[hn2],h3,ZkC _ h4,by rw[hn2];exact h5,h6,by simp[putCells,h7],?_⟩⟩
   have hF:(flatK (encR t) 2 S.toArray).toList=Zaq Za3 (rcT t (S.map (·.val))):=by rw[Zh2 (encR t) (k:=2) (fun _=>rfl) (by omega),enc_rc]
   rw[<-hF,hn2]
   have hFs:(flatK (encR t) 2 S.toArray).size=ats.length*2:=by simp[hSl]
   rw[<-hFs]
   exact Zjz _ _ (by rw[hFs,h7];exact Nat.mul_le_mul_right 2 h5)
end Go.Proofs.YtjfmmnhcddckaaaGreat
namespace Go.Proofs.YtjfmmnhcddckaaaGreat
open Go.RowKit Go.Shelf
attribute [local go_sem] Oper.semAt_some
theorem addG_ev{gs:List Gp}{e:Ev}{p:Nat × Nat}:∀g∈addG gs e p,g.1=e∨∃g'∈gs,g.1=g'.1:=by
 induction gs with
 |nil=>
  intro g hg
  rw[addG,List.mem_singleton]at hg
  exact .inl (by rw[hg])
 |cons x gs ih=>
  intro g hg
  unfold addG at hg
  split at hg
  ·rcases List.mem_cons.1 hg with rfl|hg
   ·exact .inr ⟨x,List.mem_cons_self,rfl⟩
   ·exact .inr ⟨g,List.mem_cons_of_mem _ hg,rfl⟩
  ·rcases List.mem_cons.1 hg with rfl|hg
   ·exact .inr ⟨g,List.mem_cons_self,rfl⟩
   ·rcases ih g hg with h|⟨g',h1,h2⟩
    ·exact .inl h
    ·exact .inr ⟨g',List.mem_cons_of_mem _ h1,h2⟩
theorem grp_ev(l:List Ev)(n:Nat):∀g∈grp l n,∃i,i<n/\g.1=evI l i:=by
 induction n with
 |zero=>intro g hg;cases hg
 |succ n ih=>
  intro g hg
  rcases addG_ev g hg with h|⟨g',h1,h2⟩
  ·exact⟨n,Nat.lt_succ_self _,h⟩
  ·obtain⟨i,h3,h4⟩:=ih g' h1
   exact⟨i,by omega,h2.trans h4⟩
theorem rcL_take(ls:Int->Int->Nat)(gs:List Gp)(e:Ev)(k:Nat)(hk:k<gs.length):
  rcL ls (gs.take (k+1)) e=rcL ls (gs.take k) e++if gs[k].1.thread≠e.thread/\dep gs[k].1 e=true then rcG (ls e.thread gs[k].1.thread) gs[k].2 else []:=by
 unfold rcL
 rw[List.take_add_one,List.getElem?_eq_getElem hk,List.flatMap_append]
 simp
def RacingR(l:List Ev)(n:Nat)(e:Ev)(w:World)(r:Ending)(w':World):Prop:=
 ∃rv,r=.returned rv/\Zae w' w.heap.size 137 2 Za3 rv (rcT e.thread (raced l n e))/\Below w.heap.size w w'
def RcW(w:World)(e:Ev)(ats:List Nat)(ds:List Deferred)(W:World):Prop:=
 EvBox W w.heap.size e/\RcAt W w.heap.size (w.heap.size+1) e.thread ats/\Marks w.heap.size ds W/\Below w.heap.size w W
theorem RcW.later{w W W':World}{e:Ev}{ats:List Nat}{ds:List Deferred}(h:RcW w e ats ds W)(hb:Below W.heap.size W W'):RcW w e ats ds W':=
 ⟨h.1.later hb,h.2.1.later hb,h.2.2.1.kept fun D _ hD=>(hb.block D (Array.getElem?_eq_some_iff.1 hD).1).trans hD,h.2.2.2.trans (hb.mono h.2.2.2.size)⟩
theorem racing_any(P B n:Nat)(l:List Ev)(e:Ev)(v:Value)(xs:List (Ev × Sp))(w:World)(hp:PastM w P B (csOf l n) v xs (grp l n))(hr:Zaw l=true)(hn:n<=l.length)(hm:l.length<=200)(h0:0<=e.thread)(h4:e.thread<4):
  Calls Tryz.prog 109 #[.pointer (some ⟨P,0,none⟩),.agg #[.int .i64 e.thread,.int .i64 e.kind,.int .i64 e.obj,.bool e.fail]] w (RacingR l n e w):=by
 have HEV:=Lib.hid (grp_ev l n)
 have HRL:=Lib.hid (fun i (hi:i<l.length)=>Zbt (Zc0 hr hi))
 have HCS:Hid (∀(t u:Nat) (ht:t<(csOf l n).length),((csOf l n)[t]'ht) u=lasts l n t u):=fun t u ht=>by rw[Zjb l n t ht]
 have HOK:=Lib.hid (gok_grp l n)
 have HSM:=Lib.hid (ZkF l n)
 have hgl:=grp_len l n
 have HS:=Lib.hid (fun(L:List Nat) h1 h2=>rcL_sorted l n e (L:=L) h1 h2)
 have HRM:=Lib.hid (fun(i:Nat) (h:i∈rcL (lasts l n) (grp l n) e)=>rcL_mem h)
 have hrl:=rcL_len l n e
 have HLN:=Lib.hid (ZcO l n)
 unfold RacingR
 generalize lasts l n=ls at *
 generalize csOf l n=cs at *
 generalize grp l n=gs at *
 generalize hRC:raced l n e=RC at *
 clear hRC
 obtain⟨va,vc,rfl,HV⟩:∃va vc,v=.slice va gs.length vc/\Hid (gs=[]∨∃g,va=some ⟨g,0,none⟩):=by
  rcases hp.own.form with ⟨h1,h2⟩|⟨g,c,h1,_⟩
  ·exact⟨none,0,by rw[h1,h2];rfl,.inl h2⟩
  ·exact⟨_,c,h1,.inr ⟨g,rfl⟩⟩
 have HP:=Lib.hid hp
 clear hp
 obtain⟨et,ek,eo,ef⟩:=e
 dsimp only at h0 h4 HS HRM hrl ⊢
 obtain⟨th,rfl⟩:∃th:Nat,et=th:=⟨et.toNat,by omega⟩
 have hth4:th<4:=by omega
 clear h0
 refine(callsIn_wide (n:=3)).1 ?_
 have h1:1<=3:=by omega
 refine callsIn_of_wp_marks Tryz.func109 rfl trivial ?_ rfl
 simp only[Tryz.ntmps109,List.size_toArray,List.length_cons,List.length_nil,Nat.reduceAdd,Nat.reduceSub,Array.replicate_succ,Array.replicate_zero,List.push_toArray,List.append_toArray,List.nil_append,List.cons_append]
 have hb0:=Zak w (.cells #[.int .i64 (th:Int),.int .i64 ek,.int .i64 eo,.bool ef] 112) (.cells #[.slice none 0 0] 134)
 have HW0:Hid (RcW w ⟨th,ek,eo,ef⟩ [] [] ((w.alloc (.cells #[.int .i64 (th:Int),.int .i64 ek,.int .i64 eo,.bool ef] 112)).alloc (.cells #[.slice none 0 0] 134))):=
  ⟨(EvBox.new w ⟨th,ek,eo,ef⟩).later (Zaa _ _),⟨_,heap_alloc2_new w _ _,Za5 _ _ _ _ _⟩,marks_nil _ _,hb0⟩
 have hv:=Zab hb0 (HP.out.blk.slice HP.out.four)
 gi_wp2
 generalize (w.alloc (.cells #[.int .i64 (th:Int),.int .i64 ek,.int .i64 eo,.bool ef] 112)).alloc (.cells #[.slice none 0 0] 134)=W0 at *
 clear hv hb0
 refine wpIn_loop (fun a1 W=>∃(ds:List Deferred) (u6 u7 u8 u9 u10 u16 u17 u18 u19 u20 u21 u22 u23 u24 u25 u26 u27 u28 u29 u30 u31 u32 u33 u34 u35 u36 u37 u38 u39 u40 u41 u42 u43 u44 u45 u46 u47 u48 u49 u50 u51 u52 u53 u54 u55 u56 u57 u58 u59 u60 u61:Value),(∃k:Nat,k<=gs.length/\u16=.int .i64 k/\Hid (RcW w ⟨th,ek,eo,ef⟩ (rcL ls (gs.take k) ⟨th,ek,eo,ef⟩) ds W))/\a1=Act.mk #[.pointer (some ⟨P,0,none⟩),.agg #[.int .i64 (th:Int),.int .i64 ek,.int .i64 eo,.bool ef],undef,.pointer (some ⟨w.heap.size,0,none⟩),.slice none 0 0,.pointer (some ⟨w.heap.size+1,0,none⟩),u6,u7,u8,u9,u10,.pointer (some ⟨P,0,none⟩),.pointer (some ⟨P,0,none⟩),.pointer (some ⟨P,16,none⟩),.slice va gs.length vc,.int .i64 (gs.length:Int),u16,u17,u18,u19,u20,u21,u22,u23,u24,u25,u26,u27,u28,u29,u30,u31,u32,u33,u34,u35,u36,u37,u38,u39,u40,u41,u42,u43,u44,u45,u46,u47,u48,u49,u50,u51,u52,u53,u54,u55,u56,u57,u58,u59,u60,u61,undef,undef,undef] ds) (fun a1 _=>gs.length-(intOf (a1.tmps.getD 16 undef)).toNat) ?atStart ?round
 case atStart=>exact⟨[],undef,undef,undef,undef,undef,.int .i64 0,undef,undef,undef,undef,undef,undef,undef,undef,undef,undef,undef,undef,undef,undef,undef,undef,undef,undef,undef,undef,undef,undef,undef,undef,undef,undef,undef,undef,undef,undef,undef,undef,undef,undef,undef,undef,undef,undef,undef,undef,undef,undef,undef,undef,undef,⟨0,Nat.zero_le _,rfl,HW0⟩,rfl⟩
 case round=>
  clear HW0
  intro _ W hinv
  obtain⟨ds,u6,u7,u8,u9,u10,u16,u17,u18,u19,u20,u21,u22,u23,u24,u25,u26,u27,u28,u29,u30,u31,u32,u33,u34,u35,u36,u37,u38,u39,u40,u41,u42,u43,u44,u45,u46,u47,u48,u49,u50,u51,u52,u53,u54,u55,u56,u57,u58,u59,u60,u61,⟨k,hk,rfl,HW⟩,ha⟩:=hinv
  subst ha
  try dsimp only
  by_cases hlt:k<gs.length
  case neg=>
   obtain rfl:k=gs.length:=by omega
   have HW1:=HW.out
   rw[List.take_length]at HW1
   obtain⟨hbx,⟨lv,bL,ow⟩,hmk,hbw⟩:=HW1
   have lc:=bL.cell
   have HOW:=Lib.hid ow
   have HBL:=Lib.hid bL
   have HMK:=Lib.hid hmk
   have HBW:=Lib.hid hbw
   have HSO:=Lib.hid (sort_any (th:Int) (rcL ls gs ⟨th,ek,eo,ef⟩) w.heap.size lv W ow (fun i hi=>by have:=HRM.out i hi;omega) (by omega))
   clear hbx bL ow hmk hbw
   gi_wp2_with fail
   refine⟨trivial,?_⟩
   refine(callsIn_wide.2 HSO.out).mono ?_
   rintro r W2⟨rfl,L,hp,hs,how,hgr⟩
   obtain rfl:=HS.out L hp hs
   have b2:=HBL.out.kept hgr (HBL.out.not_row tyRcL HOW.out)
   have lc2:=b2.cell
   have HMK2:=Lib.hid (HMK.out.stay (Stay.grown HOW.out hgr) HBL.out)
   have HB2:Hid (Below w.heap.size w W2):=HBW.out.grown hgr HBW.out.size (fun k hk=>(World.ownsRow.lt HOW.out k hk).1)
   have HL2:=Lib.hid how
   have HBX2:=Lib.hid b2
   clear hp hs how hgr b2 HSO
   gi_wp2
   refine Zkq w.heap.size (fun W'=>Zae W' w.heap.size 137 2 Za3 lv (rcT th L)/\Below w.heap.size w W') ?_ ?_ ds W2 HMK2.out ⟨HL2.out,HB2.out⟩
   ·rintro W' D o⟨h3,h4⟩ hD ho hc
    exact⟨ownsRow_putObj h3 _ ho hc,h4.grown (grownBy_putObj' W' D _) h4.size (fun k e=>by cases e;exact hD)⟩
   ·rintro W'⟨h3,h4⟩
    exact⟨lv,by simp[results,Tryz.f109,go_sem],lv,rfl,h3,h4⟩
  obtain⟨g,rfl⟩:∃g,va=some ⟨g,0,none⟩:=by
   rcases HV.out with h|h
   ·rw[h]at hlt;simp at hlt
   ·exact h
  have hkx:k<xs.length:=by rw[HP.out.own.len];exact hlt
  have hM:=HP.out.later HW.out.2.2.2
  have hev:=hM.own.evs k hkx hlt
  have x0:=hM.own.cell (j:=0) hkx (by omega)
  have x1:=hM.own.cell (j:=1) hkx (by omega)
  have x2:=hM.own.cell (j:=2) hkx (by omega)
  have x3:=hM.own.cell (j:=3) hkx (by omega)
  have x4:=hM.own.cell (j:=4) hkx (by omega)
  rw[Nat.add_zero]at x0
  simp only[Zbj,hev,List.getElem?_cons_zero,List.getElem?_cons_succ]at x0 x1 x2 x3 x4
  have HRW:=Lib.hid (rcL_take ls gs ⟨th,ek,eo,ef⟩ k hlt)
  have HIN:=Lib.hid (hM.own.inner k hkx hlt)
  have HINw:=Lib.hid (HP.out.own.inner k hkx hlt)
  have HA0:=ZjY ls gs ⟨th,ek,eo,ef⟩ k
  have HPW:=Lib.hid (HOK.out gs[k] (List.getElem_mem hlt)).2
  have hsm:=HSM.out gs[k] (List.getElem_mem hlt)
  obtain⟨gt,hgt4,HGT⟩:∃gt:Nat,gt<4/\Hid (gs[k].1.thread=gt):=by
   obtain⟨i,hi,he⟩:=HEV.out gs[k] (List.getElem_mem hlt)
   have:=HRL.out i (by omega)
   rw[<-Za4 (show i<l.length by omega),<-he]at this
   exact⟨gs[k].1.thread.toNat,by omega,(by show _=_;omega)⟩
  generalize xs[k].2=sp at *
  generalize gs[k].2=ps at *
  generalize gs[k].1=ge at *
  obtain⟨gth,gk,go,gf⟩:=ge
  obtain rfl:gth=gt:=HGT.out
  dsimp only at x0 x1 x2 x3 x4
  have hb1:=Zaa W (.cells #[.int .i64 (gt:Int),.int .i64 gk,.int .i64 go,.bool gf,.slice sp.a sp.n sp.c] 245)
  have HW1:Hid (RcW w ⟨th,ek,eo,ef⟩ (rcL ls (gs.take k) ⟨th,ek,eo,ef⟩) ds (W.alloc (.cells #[.int .i64 (gt:Int),.int .i64 gk,.int .i64 go,.bool gf,.slice sp.a sp.n sp.c] 245))):=
   HW.out.later hb1
  have HLK:Hid (MidAt (W.alloc (.cells #[.int .i64 (gt:Int),.int .i64 gk,.int .i64 go,.bool gf,.slice sp.a sp.n sp.c] 245)) W.heap.size 245 (Zbj (⟨gt,gk,go,gf⟩,sp))):=heap_alloc_new _ _
  obtain⟨e0,e1,e2,e3⟩:=HW1.out.1.cells
  have HKX:Hid (k+1<=gs.length):=hlt
  by_cases hth:gt=th
  ·subst hth
   have HW2:Hid (RcW w ⟨gt,ek,eo,ef⟩ (rcL ls (gs.take (k+1)) ⟨gt,ek,eo,ef⟩) ds (W.alloc (.cells #[.int .i64 (gt:Int),.int .i64 gk,.int .i64 go,.bool gf,.slice sp.a sp.n sp.c] 245))):=by
    show RcW _ _ _ _ _
    rw[HRW.out,if_neg (fun h=>h.1 rfl),List.append_nil]
    exact HW1.out
   clear HW1 HRW
   gi_wp2
   refine⟨trivial,?_⟩
   gi_wp2
   refine⟨?_,?measure⟩
   (repeat apply Exists.intro)
   refine⟨⟨k+1,HKX.out,by go_num,HW2⟩,rfl⟩
   case measure=>simp[intOf];omega
  have hq:((gt:Int)==(th:Int))=false:=by simp;omega
  gi_wp2_with fail
  refine⟨trivial,?_⟩
  refine(callsIn_wide.2 (Zdm ⟨gt,gk,go,gf⟩ ⟨th,ek,eo,ef⟩ _)).mono ?_
  rintro r W2⟨rfl,hbd⟩
  have HW2:=Lib.hid (HW1.out.later hbd)
  have HLK2:Hid (MidAt W2 W.heap.size 245 (Zbj (⟨gt,gk,go,gf⟩,sp))):=HLK.out.later hbd
  have HB2:Hid (Below W.heap.size W W2):=hb1.trans (hbd.mono hb1.size)
  clear HW1 HLK hb1 hbd
  cases hd:dep ⟨gt,gk,go,gf⟩ ⟨th,ek,eo,ef⟩
  ·have HW3:Hid (RcW w ⟨th,ek,eo,ef⟩ (rcL ls (gs.take (k+1)) ⟨th,ek,eo,ef⟩) ds W2):=by
    show RcW _ _ _ _ _
    rw[HRW.out,if_neg (fun h=>by rw[hd]at h;exact absurd h.2 (by simp)),List.append_nil]
    exact HW2.out
   clear HW2 HRW hd
   gi_wp2
   refine⟨?_,?measure⟩
   (repeat apply Exists.intro)
   refine⟨⟨k+1,HKX.out,by go_num,HW3⟩,rfl⟩
   case measure=>simp[intOf];omega
  have HRW2:Hid (rcL ls (gs.take (k+1)) ⟨th,ek,eo,ef⟩=rcL ls (gs.take k) ⟨th,ek,eo,ef⟩++rcG (ls th gt) ps):=by
   show _=_
   rw[HRW.out,if_pos ⟨fun h=>hth (by omega),hd⟩]
  clear HRW hd
  obtain⟨sa,sn,sc⟩:=sp
  obtain⟨pa,pc,hsp,hrp,_⟩:=HIN.out.form ZhN (by omega)
  obtain⟨rfl,rfl,rfl⟩:sa=pa/\sn=ps.length/\sc=pc:=by simpa [spV]using hsp
  have HRP:=Lib.hid hrp
  clear hrp hsp
  dsimp only at *
  have hM2:=hM.later HB2.out
  have hp0:=hM2.blk.num (t:=th) (u:=gt) (by rw[hM2.four];exact hth4) hgt4
  rw[HCS.out th gt (by rw[hM2.four];exact hth4)]at hp0
  obtain⟨e0,e1,e2,e3⟩:=HW2.out.1.cells
  have l0:=HLK2.out.cell 0
  have l4:=HLK2.out.cell 4
  simp only[Zbj,List.getElem?_cons_zero,List.getElem?_cons_succ]at l0 l4
  gi_wp2_with fail
  clear e1 e2 e3 x0 x1 x2 x3 x4 hev
  have hb4:Below W2.heap.size W2 (W2.alloc (.cells #[.int .i64 0] 3)).drew:=(Zaa W2 _).drew
  have hb5:∀v,Below W2.heap.size W2 ((W2.alloc (.cells #[.int .i64 0] 3)).drew.setCell ⟨W2.heap.size,0,none⟩ v):=fun v=>hb4.setCell (Nat.le_refl _) v
  have HQ:Hid (∀W',Below W2.heap.size W2 W'->W'.cell? ⟨w.heap.size,0,none⟩=some (.int .i64 (th:Int))/\W'.cell? ⟨W.heap.size,0,none⟩=some (.int .i64 (gt:Int))/\W'.cell? ⟨P,th*4+gt,none⟩=some (.int .i64 (ls th gt))):=
   fun W' hb=>⟨Zab hb e0,Zab hb l0,Zab hb hp0⟩
  have hS0:=HQ.out W2.drew (Below.refl _ W2).drew
  have hS1:=HQ.out _ hb4
  have hgi:(gt:Int)<4:=by omega
  clear e0 l0 hp0
  refine wpIn_wide.2 ?_
  go_region_held3 (fun W'=>W'.cell? ⟨w.heap.size,0,none⟩=some (.int .i64 (th:Int))/\W'.cell? ⟨W.heap.size,0,none⟩=some (.int .i64 (gt:Int))/\W'.cell? ⟨P,th*4+gt,none⟩=some (.int .i64 (ls th gt)))
   (first|exact hS0|exact hS1|exact HQ.out _ (Zaa W2 _).drew)
   (fail)
  rename_i hHeld
  clear hHeld
  have hb6:Below W2.heap.size W2 (W2.alloc (.cells #[.int .i64 (ls th gt)] 3)).drew:=(Zaa W2 _).drew
  have HKN:Hid (MidAt (W2.alloc (.cells #[.int .i64 (ls th gt)] 3)).drew W2.heap.size 3 [.int .i64 (ls th gt)]):=heap_alloc_new W2 _
  have hsz3:(W2.alloc (.cells #[.int .i64 (ls th gt)] 3)).drew.heap.size=W2.heap.size+1:=by simp
  have HW3:=Lib.hid (HW2.out.later hb6)
  have HLK3:=Lib.hid (HLK2.out.later hb6)
  have HB3:Hid (Below W.heap.size W (W2.alloc (.cells #[.int .i64 (ls th gt)] 3)).drew):=HB2.out.trans (hb6.mono HB2.out.size)
  have HWs:Hid (W.heap.size<=W2.heap.size):=HB2.out.size
  clear HW2 HLK2 HB2 hM2 hb4 hb5 hb6 HQ hS0 hS1
  generalize (W2.alloc (.cells #[.int .i64 (ls th gt)] 3)).drew=W3 at *
  generalize W2.heap.size=Kb at *
  have l4:W3.cell? ⟨W.heap.size,4,none⟩=some (.slice sa ps.length sc):=HLK3.out.cell 4
  gi_wp2_with fail
  refine⟨trivial,?_⟩
  refine(backP_in Fence.wide _ trivial rfl _ _ _ _).mono ?_
  rintro r w'⟨rfl,rfl⟩
  have hb7:=Zaa W3 (.cells #[.slice sa ps.length sc] 243)
  have hsz4:(W3.alloc (.cells #[.slice sa ps.length sc] 243)).heap.size=W3.heap.size+1:=by simp
  have HBS:Hid (MidAt (W3.alloc (.cells #[.slice sa ps.length sc] 243)) W3.heap.size 243 [.slice sa ps.length sc]):=heap_alloc_new _ _
  have HW4:=Lib.hid (HW3.out.later hb7)
  have HKN4:=Lib.hid (HKN.out.later hb7)
  have HB4:Hid (Below W.heap.size W (W3.alloc (.cells #[.slice sa ps.length sc] 243))):=HB3.out.trans (hb7.mono HB3.out.size)
  have HK3:Hid (Kb<W3.heap.size):=by show _<_;omega
  clear HW3 HKN HB3 HLK3 hb7 l4
  gi_wp2
  generalize W3.alloc (.cells #[.slice sa ps.length sc] 243)=Wl at *
  generalize W3.heap.size=Bs at *
  obtain rfl:Bs=Kb+1:=by omega
  have HKL:Hid (w.heap.size+1<W.heap.size):=by
   obtain⟨v,h8,_⟩:=HW.out.2.1
   exact h8.lt
  have HBK:Hid (0<ps.length->∀b o,sa=some ⟨b,o,none⟩->b<w.heap.size):=by
   rintro h b o rfl
   exact(World.ownsRow.lt HINw.out b rfl).2
  have hsl:w.heap.size<=Wl.heap.size:=HW4.out.2.2.2.size
  have hA0l:(rcL ls (gs.take k) ⟨th,ek,eo,ef⟩).length<=200:=by omega
  clear HA0 HS HRM hrl HV
  generalize rcL ls (gs.take k) ⟨th,ek,eo,ef⟩=A0 at *
  refine wpIn_rangeFunc_ownH rfl h1 (gf:=185) (lb:=#[.pointer (some ⟨Kb+1,0,none⟩)]) (by first|(with_reducible rfl)|(simp[Act.eval];done)|go_simp) trivial (enters_of Tryz.func185 (by kernel_rfl) rfl)
   (Zmd Fence.wide (3-1) trivial rfl (by omega) (Kb+1) w.heap.size sa sc ps (by omega) Wl HBS.out (HRP.out.later HB4.out) HBK.out) keepB_t (keepB_b hsl (by omega)) (Below.refl _ _) (fun _=>rfl)
   (fun(pre:List (Fin ps.length)) W'=>(∀q∈pre,ls th gt<(ps[q.val]).2)/\RcAt W' w.heap.size (w.heap.size+1) th (A0++pre.map fun q=>(ps[q.val]).1)/\Stay (w.heap.size+1) Wl W'/\Below w.heap.size w W')
   (fun c (pre:List (Fin ps.length)) W'=>(c=.exit 2/\∃(ini:List (Fin ps.length)) (last:Fin ps.length),pre=ini++[last]/\(∀q∈ini,ls th gt<(ps[q.val]).2)/\(ps[last.val]).2<=ls th gt/\RcAt W' w.heap.size (w.heap.size+1) th (A0++ini.map fun q=>(ps[q.val]).1))/\Stay (w.heap.size+1) Wl W'/\Below w.heap.size w W')
   (OwnFrom.and (ownFrom_pure _ (fun(pre:List (Fin ps.length))=>∀q∈pre,ls th gt<(ps[q.val]).2)) (OwnFrom.and (Own.from (Zmu w.heap.size (w.heap.size+1) (th:Int) (fun(pre:List (Fin ps.length))=>A0++pre.map fun q=>(ps[q.val]).1)) _) (OwnFrom.and (Zmm _ Wl) (ownFrom_below (Nat.le_refl _) (by omega)))))
   (fun c=>OwnFrom.and (Own.from (fun s A B row hs hg hr=>by obtain⟨hc,ini,last,e1,e2,e3,e4⟩:=hs;exact⟨hc,ini,last,e1,e2,e3,Zmu w.heap.size (w.heap.size+1) (th:Int) (fun(_:Unit)=>A0++ini.map fun(q:Fin ps.length)=>(ps[q.val]).1) () A B row e4 hg hr⟩) _) (OwnFrom.and (Zmm _ Wl) (ownFrom_below (Nat.le_refl _) (by omega))))
   ⟨(fun q hq=>absurd hq (by simp)),(by simpa using HW4.out.2.1),Stay.refl _ _,HW4.out.2.2.2⟩
   (fun x a'' W'=>∃Bx,Wl.heap.size<=Bx/\MidAt W' Bx 242 (Zbi ps[x.val])/\a''={ tmps:=#[.pointer (some ⟨P,0,none⟩),.agg #[.int .i64 (th:Int),.int .i64 ek,.int .i64 eo,.bool ef],undef,.pointer (some ⟨w.heap.size,0,none⟩),.slice none 0 0,.pointer (some ⟨w.heap.size+1,0,none⟩),u6,.pointer (some ⟨W.heap.size,0,none⟩),.pointer (some ⟨Kb,0,none⟩),u9,.pointer (some ⟨Bx,0,none⟩),.pointer (some ⟨P,0,none⟩),.pointer (some ⟨P,0,none⟩),.pointer (some ⟨P,16,none⟩),.slice (some ⟨g,0,none⟩) gs.length vc,.int .i64 (gs.length:Int),.int .i64 (k:Int),.bool true,.pointer (some ⟨g,k*5,none⟩),.agg #[.int .i64 (gt:Int),.int .i64 gk,.int .i64 go,.bool gf,.slice sa ps.length sc],.pointer (some ⟨W.heap.size,0,none⟩),.pointer (some ⟨W.heap.size,0,none⟩),.int .i64 (gt:Int),.pointer (some ⟨w.heap.size,0,none⟩),.int .i64 (th:Int),.bool false,.bool false,.pointer (some ⟨W.heap.size,0,none⟩),.agg #[.int .i64 (gt:Int),.int .i64 gk,.int .i64 go,.bool gf],.agg #[.int .i64 (th:Int),.int .i64 ek,.int .i64 eo,.bool ef],.bool true,.bool false,.bool false,.pointer (some ⟨P,0,none⟩),.pointer (some ⟨w.heap.size,0,none⟩),.int .i64 (th:Int),.pointer (some ⟨W.heap.size,0,none⟩),.pointer (some ⟨W.heap.size,0,none⟩),.int .i64 (gt:Int),.pointer (some ⟨P,0,none⟩),.pointer (some ⟨P,0,none⟩),.pointer (some ⟨P,th*4,none⟩),.pointer (some ⟨P,th*4+gt,none⟩),.int .i64 (ls th gt:Int),.pointer (some ⟨W.heap.size,4,none⟩),.slice sa ps.length sc,.func (.func 185) #[] #[.pointer (some ⟨Kb+1,0,none⟩)],.int .i64 (x.val:Int),.agg #[.int .i64 ((ps[x.val]).1:Nat),.int .i64 ((ps[x.val]).2:Nat)],u49,u50,u51,u52,u53,u54,u55,u56,u57,u58,u59,u60,u61,undef,undef,undef],defers:=[] })
   (fun x a'' _ X Y row hs hg hr=>by obtain⟨Bx,h1,h2,h3⟩:=hs;exact⟨Bx,h1,h2.keptRow hg (fun r e=>(hr r e).2),h3⟩)
   ?assign ?body ?done ?stop
  case assign=>
   rintro l1 pre x W' K'⟨hN,hR,hS,hB⟩ hK
   dsimp only[backP]
   gi_wp2
   refine hK _ _ ((KeepsOthers.alloc _ _).from _) ⟨(Zaa W' _).mono hB.size,(Zaa W' _).block (Kb+1) (by have:=hS.1;omega)⟩ ⟨hN,hR.later (Zaa W' _),hS.trans (Stay.of_below (Zaa W' _)),hB.trans ((Zaa W' _).mono hB.size)⟩ ⟨W'.heap.size,hS.1,heap_alloc_new W' _,?_⟩
   rfl
  case body=>
   rintro l1 pre x a'' W' hl⟨r,hr⟩⟨hN,hR,hS,hB⟩⟨Bx,hBx,bX,rfl⟩ hlt2
   obtain⟨lv,bL,ow⟩:=hR
   have hBsl:Kb+1<Wl.heap.size:=by omega
   have q0:W'.cell? ⟨Bx,0,none⟩=some (.int .i64 ((ps[x.val]).1:Nat)):=MidAt.cell bX 0
   have q1:W'.cell? ⟨Bx,1,none⟩=some (.int .i64 ((ps[x.val]).2:Nat)):=MidAt.cell bX 1
   have kn:W'.cell? ⟨Kb,0,none⟩=some (.int .i64 (ls th gt)):=MidAt.cell (hS.mid HKN4.out (by have:=HKL.out;have:=HWs.out;omega) (by decide)) 0
   have HEB:=Lib.hid (hS.box HW4.out.1 (by omega))
   obtain⟨f0,f1,f2,f3⟩:=HEB.out.cells
   have lc:=bL.cell
   have HNN:=Lib.hid hN
   have HOW:=Lib.hid ow
   have HBL:=Lib.hid bL
   have HSS:=Lib.hid hS
   have HBB:=Lib.hid hB
   have hpl:pre.length<=200:=by omega
   clear hN ow bL hS hB bX
   by_cases hle:(ps[x.val]).2<=ls th gt
   ·have hq3:decide (((ps[x.val]).2:Int)<=(ls th gt:Int))=true:=by simpa using hle
    gi_wp2
    exact⟨(KeepsOthers.refl _).from _,⟨rfl,pre,x,rfl,HNN.out,hle,⟨lv,HBL.out,HOW.out⟩⟩,HSS.out,HBB.out⟩
   ·have hq3:decide (((ps[x.val]).2:Int)<=(ls th gt:Int))=false:=by simpa using hle
    have HNX:Hid (∀q∈pre++[x],ls th gt<(ps[q.val]).2):=by
     intro q hq
     rcases List.mem_append.1 hq with hq|hq
     ·exact HNN.out q hq
     ·rw[List.mem_singleton]at hq
      subst hq
      omega
    gi_wp2_with (gi_at_builtin;refine Ze4 (w:=W'.alloc _) rfl _ _ rfl w.heap.size lv (rcT th (A0++pre.map fun q=>(ps[q.val]).1)) rfl (HOW.out.alloc _) ⟨W'.heap.size,0,none⟩ rfl ((ps[x.val]).1,(th:Int)) (ZaH W' (Za3 ((ps[x.val]).1,(th:Int))) _ _ rfl) (by unfold rcT;simp;omega) (by have:=HBB.out.size;simp;omega) ?_;intro v' w1 h5 h6;obtain⟨g',cap',e7,_,_⟩:=Zae.block h5 (by simp);rw[List.length_append,List.length_singleton]at e7;subst e7;obtain⟨r1,r2,r3,r4,r5,r6⟩:=RcAt.more HBL.out HOW.out HBB.out.size (Nat.le_succ _) h5 h6)
    refine⟨r3.from _,⟨r4,?_⟩,HNX.out,?_,HSS.out.trans r2,HBB.out.trans r4⟩
    ·have hne:Kb+1≠w.heap.size+1:=by have:=HKL.out;have:=HWs.out;omega
     have k1:=HSS.out.2 (Kb+1) _ HBS.out hne (fun cs fr e=>by injection e with _ e2 _;revert e2;decide)
     have k2:=(HSS.out.trans r2).2 (Kb+1) _ HBS.out hne (fun cs fr e=>by injection e with _ e2 _;revert e2;decide)
     exact k2.trans k1.symm
    ·show RcAt _ _ _ _ _
     rw[List.map_append,<-List.append_assoc]
     exact r1
  case done=>
   rintro D ys W' hD hys⟨hN,hR,hS,hB⟩ hK
   have HRG:=ZjZ HPW.out hys (Nat.le_refl _) hN (fun h=>absurd h (by omega))
   obtain⟨v0,b0,_⟩:=HW4.out.2.1
   have HW5:Hid (RcW w ⟨th,ek,eo,ef⟩ (rcL ls (gs.take (k+1)) ⟨th,ek,eo,ef⟩) ({ target:=.collected D,args:=#[] } :: ds) W'):=by
    show RcW _ _ _ _ _
    rw[HRW2.out,HRG]
    exact⟨hS.box HW4.out.1 (by omega),hR,Marks.more HW4.out.2.2.1 (HW4.out.2.2.1.stay hS b0) hD (by omega) hK,hB⟩
   clear hN hR hS hB hys
   gi_wp2
   refine⟨?_,?measure⟩
   (repeat apply Exists.intro)
   refine⟨⟨k+1,HKX.out,by go_num,HW5⟩,⟨⟨rfl,rfl,rfl,rfl,rfl,rfl⟩,rfl⟩⟩
   case measure=>simp[intOf];omega
  case stop=>
   rintro D c pre W' hD⟨k1,hk1,hbk2⟩⟨⟨rfl,ini,last,rfl,h4,h5,hR⟩,hS,hB⟩ hK
   obtain⟨k2,rfl,h6,h7⟩:=Backs.last hbk2
   have HRG:=ZjZ HPW.out h6 (by omega) h4 (fun h=>by simpa only[<-h7]using h5)
   obtain⟨v0,b0,_⟩:=HW4.out.2.1
   have HW5:Hid (RcW w ⟨th,ek,eo,ef⟩ (rcL ls (gs.take (k+1)) ⟨th,ek,eo,ef⟩) ({ target:=.collected D,args:=#[] } :: ds) W'):=by
    show RcW _ _ _ _ _
    rw[HRW2.out,HRG]
    exact⟨hS.box HW4.out.1 (by omega),hR,Marks.more HW4.out.2.2.1 (HW4.out.2.2.1.stay hS b0) hD (by omega) hK,hB⟩
   clear h4 h5 hR hS hB hbk2
   gi_wp2
   refine⟨?_,?measure⟩
   (repeat apply Exists.intro)
   refine⟨⟨k+1,HKX.out,by go_num,HW5⟩,⟨⟨rfl,rfl,rfl,rfl,rfl,rfl⟩,rfl⟩⟩
   case measure=>simp[intOf];omega
end Go.Proofs.YtjfmmnhcddckaaaGreat
namespace Go.Proofs.YtjfmmnhcddckaaaGreat
open Go
section
variable{P:Program}{ops:Array Oper}{Q:Exit->Act->World->Prop}{md:Region.Mode}
def nopOf(o:Oper):Oper:={ o with op:=.move (.const undef) }
def Zbr(k:Nat)(o:Oper)(ops:Array Oper):Array Oper:=ops.setIfInBounds k (nopOf o)
def Zh4(Q:Exit->Act->World->Prop)(R:Act->World->Prop):Exit->Act->World->Prop
 | .normal=>R
 |e=>Q e
theorem ZeV{R:Act->World->Prop}{a:Act}{w:World}(h:R a w):Zh4 Q R .normal a w:=h
theorem oper_wpQ{o:Oper}{a:Act}{w:World}{K:Act->World->Prop}{R:Act->World->Prop}(hh:o.wp P a w K (Zh4 Q R)):o.wp P a w K Q:=by
 unfold Oper.wp at *
 generalize (execOp a.eval o).run P w=r at *
 cases r with
 |ok n w'=>
  cases n <;> simp only[Oper.upon]at hh ⊢ <;>
   first
    |exact hh
    |exact Calls.mono hh (fun e w'' he=>by cases e <;> exact he)
 |halt x w'=>cases x <;> simp only[Oper.upon]at hh ⊢ <;> exact hh
theorem but_get{k:Nat}{o:Oper}(ho:ops[k]?=some o):(Zbr k o ops)[k]?=some (nopOf o):=by
 have:=(Array.getElem?_eq_some_iff.1 ho).1
 simp[Zbr,this]
theorem ZkU{k i:Nat}{o:Oper}(hi:i≠k):(Zbr k o ops)[i]?=ops[i]?:=by
 simp[Zbr,Ne.symm hi]
theorem but_size{k:Nat}{o:Oper}:(Zbr k o ops).size=ops.size:=by simp[Zbr]
theorem but_map{k:Nat}{o:Oper}(ho:ops[k]?=some o){T:Type}(f:Oper->T)(hf:f (nopOf o)=f o)(i:Nat):((Zbr k o ops)[i]?).map f=(ops[i]?).map f:=by
 by_cases e:i=k
 ·subst e;rw[but_get ho,ho];simp[hf]
 ·rw[ZkU e]
theorem Zhb{k:Nat}{o:Oper}(ho:ops[k]?=some o)(listed:Array Bool):Region.ready md (Zbr k o ops) listed=Region.ready md ops listed:=by
 unfold Region.ready
 rw[but_size]
 apply List.filter_congr
 intro i _
 rw[but_map ho _ rfl]
theorem Zl9{k:Nat}{o:Oper}(ho:ops[k]?=some o)(t:Array Value):yielded (Zbr k o ops) t=yielded ops t:=by
 funext j
 unfold yielded
 have h:=but_map (T:=Option Tmp) ho (fun o=>o.dst) rfl j
 have e:∀x:Option Oper,x.bind (fun o=>o.dst)=(x.map fun o=>o.dst).join:=by intro x;cases x <;> rfl
 rw[e,e,h]
theorem ZhF(hac:∀(j:Nat) (oj:Oper),ops[j]?=some oj->∀e∈oj.after,e.on<j)(listed:Array Bool)(hs:listed.size=ops.size):∀k,k<ops.size->listed.getD k true=false->Region.ready md ops listed≠[]:=by
 intro k
 induction k using Nat.strongRecOn with
 |_ k ih=>
  intro hk hl
  by_cases h:∀e∈(ops[k]).after,Region.binds md e=true->listed.getD e.on false=true
  ·intro h0
   have:k∈Region.ready md ops listed:=mem_ready.2 ⟨hl,ops[k],by simp[hk],h⟩
   rw[h0]at this
   cases this
  ·simp only[Classical.not_forall]at h
   obtain⟨e,he,_,h3⟩:=h
   have h4:=hac k ops[k] (by simp[hk]) e he
   refine ih e.on h4 (by omega) ?_
   have h5:e.on<listed.size:=by omega
   simp[Array.getD,h5]at h3 ⊢
   exact h3
theorem ZhG(listed:Array Bool)(h:∀j,j<ops.size->listed.getD j true=true):Region.ready md ops listed=[]:=by
 cases h0:Region.ready md ops listed with
 |nil=>rfl
 |cons x xs=>
  have hx:x∈Region.ready md ops listed:=by rw[h0];exact List.mem_cons_self
  obtain⟨h1,o,h2,_⟩:=mem_ready.1 hx
  rw[h x (Array.getElem?_eq_some_iff.1 h2).1]at h1
  cases h1
theorem Zc4{l:Array Bool}{j:Nat}{d:Bool}(hj:j<l.size):l.getD j d=l[j]:=by simp[Array.getD,hj]
theorem nop_wp{o:Oper}{a:Act}{w:World}{K:Act->World->Prop}(hd:o.dst=none)(h:(nopOf o).wp P a w K Q∨((nopOf o).asks P a w/\LetsOut Q)):K a w:=by
 rcases h with h|⟨h,_⟩
 ·simp[nopOf,Oper.wp,execOp,Oper.upon,hd,Act.put]at h
  exact h
 ·exfalso
  have h1:noRoomEvent∈(#[]:Array Event):=h.1
  simp at h1
def Closed(md:Region.Mode)(ops:Array Oper)(listed:Array Bool):Prop:=∀(m:Nat) (om:Oper),ops[m]?=some om->listed.getD m false=true->∀e∈om.after,Region.binds md e=true->listed.getD e.on false=true
theorem ZhU{l:Array Bool}{i j:Nat}(h:l.getD j false=true):(l.setIfInBounds i true).getD j false=true:=by
 have hj:j<l.size:=by
  rcases Nat.lt_or_ge j l.size with h'|h'
  ·exact h'
  ·rw[Array.getD,dif_neg (by omega)]at h;cases h
 rw[Zc4 hj]at h
 rw[Zc4 (by simpa using hj),Array.getElem_setIfInBounds]
 split
 ·rfl
 ·exact h
theorem Closed.set{listed:Array Bool}{i:Nat}(h:Closed md ops listed)(hi:i∈Region.ready md ops listed):Closed md ops (listed.setIfInBounds i true):=by
 intro m om hm hl e he hb
 obtain⟨_,oi,hoi,hall⟩:=mem_ready.1 hi
 by_cases e1:m=i
 ·subst e1
  rw[hm]at hoi
  injection hoi with hoi
  subst hoi
  exact ZhU (hall e he hb)
 ·refine ZhU (h m om hm ?_ e he hb)
  have hms:m<listed.size:=by
   rcases Nat.lt_or_ge m listed.size with h'|h'
   ·exact h'
   ·rw[Array.getD,dif_neg (by simp;omega)]at hl;cases hl
  rw[Zc4 (by simpa using hms),Array.getElem_setIfInBounds,if_neg (fun e2=>e1 e2.symm)]at hl
  rw[Zc4 hms]
  exact hl
theorem ZkY{k:Nat}{o:Oper}(ho:ops[k]?=some o)(hk:ops.size=k+1)(hd:o.dst=none)(hg:o.guard=none)(hw:∀j,j<k->Region.waitsFor md ops k j=true∨∃m,Region.waitsFor md ops k m=true/\Region.waitsFor md ops m j=true)
  (hac:∀(j:Nat) (oj:Oper),ops[j]?=some oj->∀e∈oj.after,e.on<j):
  ∀(fuel:Nat) (listed:Array Bool) (a:Act) (w:World),listed.size=ops.size->listed.getD k true=false->Closed md ops listed->wpAny P md (Zbr k o ops) (Zh4 Q fun a w=>wpOp P ops Q k (Q .normal) a w) fuel listed a w->wpAny P md ops Q fuel listed a w:=by
 intro fuel
 induction fuel with
 |zero=>
  intro listed a w hs hl hcl h
  have h1:=h.1
  rw[Zhb ho]at h1
  exact absurd h1 (ZhF hac listed hs k (by omega) hl)
 |succ fuel ih=>
  intro listed a w hs hl hcl h
  obtain⟨_,h2⟩:=h
  rw[Zhb ho]at h2
  refine⟨fun h0=>absurd h0 (ZhF hac listed hs k (by omega) hl),fun i hi=>?_⟩
  have h3:=h2 i hi
  by_cases e:i=k
  ·subst e
   obtain⟨_,o',ho',hall⟩:=mem_ready.1 hi
   have hlist:∀j,j<ops.size->(listed.setIfInBounds i true).getD j true=true:=by
    intro j hj
    have hjs:j<listed.size:=by omega
    by_cases e:j=i
    ·subst e;simp[Array.getD,hjs]
    ·have hwl:∀m,Region.waitsFor md ops i m=true->listed.getD m false=true:=by
      intro m hm
      obtain⟨oj,h4,e',he',hb,hon⟩:=Region.waitsFor_spec hm
      rw[ho']at h4
      injection h4 with h4
      subst h4
      have h5:=hall e' he' hb
      rwa [hon]at h5
     have h5:listed.getD j false=true:=by
      rcases hw j (by omega)with h6|⟨m,h6,h7⟩
      ·exact hwl j h6
      ·obtain⟨om,h8,e',he',hb,hon⟩:=Region.waitsFor_spec h7
       have h9:=hcl m om h8 (hwl m h6) e' he' hb
       rwa [hon]at h9
     rw[Zc4 hjs]at h5
     rw[Zc4 (by simpa using hjs),Array.getElem_setIfInBounds,if_neg (fun e2=>e e2.symm)]
     exact h5
   have h4:wpAny P md (Zbr i o ops) (Zh4 Q fun a w=>wpOp P ops Q i (Q .normal) a w) fuel (listed.setIfInBounds i true) a w:=by
    unfold wpOp at h3
    rw[but_get ho]at h3
    have hwn:Region.wanted (nopOf o) (yielded (Zbr i o ops) a.tmps)=true:=by simp[Region.wanted,nopOf,hg]
    simp only[hwn,if_true]at h3
    exact nop_wp hd h3
   have hr:Region.ready md (Zbr i o ops) (listed.setIfInBounds i true)=[]:=by rw[Zhb ho];exact ZhG _ hlist
   have h5:wpOp P ops Q i (Q .normal) a w:=by
    cases fuel with
    |zero=>exact h4.2
    |succ f=>exact h4.1 hr
   exact wpOp_mono (fun a' w' h6=>wpAny_done (ZhG _ hlist) h6 fuel) h5
  ·unfold wpOp at h3 ⊢
   rw[ZkU e,Zl9 ho]at h3
   have hK:∀a' w',wpAny P md (Zbr k o ops) (Zh4 Q fun a w=>wpOp P ops Q k (Q .normal) a w) fuel (listed.setIfInBounds i true) a' w'->wpAny P md ops Q fuel (listed.setIfInBounds i true) a' w':=fun a' w' h6=>
    ih (listed.setIfInBounds i true) a' w' (by simpa using hs) (by
     have hks:k<listed.size:=by omega
     simp[Array.getD,hks,e]at hl ⊢
     exact hl) (hcl.set hi) h6
   cases hoi:ops[i]? with
   |none=>simp only[hoi]at h3 ⊢;exact hK _ _ h3
   |some oi=>
    simp only[hoi]at h3 ⊢
    by_cases hwn:Region.wanted oi (yielded ops a.tmps)=true
    ·simp only[hwn,if_true]at h3 ⊢
     rcases h3 with h3|⟨h3,b,v,h4⟩
     ·exact .inl (Oper.wp_mono hK (oper_wpQ h3))
     ·exact .inr ⟨h3,b,v,h4⟩
    ·simp only[hwn]at h3 ⊢
     exact hK _ _ h3
def lastB(ops:Array Oper)(k:Nat):Bool:=
 (List.range k).all (fun j=>Region.waitsFor .any ops k j||(List.range k).any fun m=>Region.waitsFor .any ops k m&&Region.waitsFor .any ops m j)&&(List.range ops.size).all (fun j=>((ops[j]?).map fun o=>o.after.all fun e=>decide (e.on<j)).getD true)
theorem ZdD{id k:Nat}{o:Oper}{a:Act}{w:World}(hm:P.follows .mixedOrders=true)(ho:ops[k]?=some o)(hk:ops.size=k+1)(hd:o.dst=none)(hg:o.guard=none)(hB:lastB ops k=true){ops':Array Oper}(he:Zbr k o ops=ops'){S:World->Prop}
  (h:wpAnyH P .any ops' (Zh4 Q fun a w=>wpOp P ops Q k (Q .normal) a w) S ops'.size (Array.replicate ops'.size false) a { w with drawn:=w.drawn+1 }):(Code.region id ops true).wp P Q a w:=by
 subst he
 unfold lastB at hB
 rw[Bool.and_eq_true,List.all_eq_true,List.all_eq_true]at hB
 refine wp_region_any hm (ZkY ho hk hd hg (fun j hj=>?_) (fun j oj hj e he=>?_) _ _ _ _ (by simp) (by simp[hk]) (fun m om _ hl=>?_) ?_)
 ·have h1:=hB.1 j (List.mem_range.2 hj)
  rw[Bool.or_eq_true,List.any_eq_true]at h1
  rcases h1 with h1|⟨m,_,h1⟩
  ·exact .inl h1
  ·rw[Bool.and_eq_true]at h1
   exact .inr ⟨m,h1⟩
 ·have h1:=hB.2 j (List.mem_range.2 (Array.getElem?_eq_some_iff.1 hj).1)
  rw[hj]at h1
  simp at h1
  obtain⟨n,hn,rfl⟩:=Array.getElem_of_mem he
  exact h1 n hn
 ·simp[Array.getD]at hl
 ·have h1:=wpAny_of_held _ _ _ _ h
  rw[but_size]at h1
  exact h1
end
end Go.Proofs.YtjfmmnhcddckaaaGreat
