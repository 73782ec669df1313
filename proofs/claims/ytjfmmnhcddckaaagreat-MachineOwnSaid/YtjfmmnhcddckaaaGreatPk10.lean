import Derived.Sort.Walk0
import Derived.Laws.OwnMore
import Derived.Test.YtjfmmnhcddckaaaGreatPk01
import Derived.Test.YtjfmmnhcddckaaaGreatPk02
import Derived.Test.YtjfmmnhcddckaaaGreatPk03
import Derived.Test.YtjfmmnhcddckaaaGreatPk04
import Derived.Test.YtjfmmnhcddckaaaGreatPk06
import Derived.Test.YtjfmmnhcddckaaaGreatPk08
import Derived.Test.YtjfmmnhcddckaaaGreatPk09
set_option maxRecDepth 100000
set_option maxHeartbeats 4000000
namespace Go.Proofs.YtjfmmnhcddckaaaGreat
open Go.RowKit
def KeyV(w:World)(B:Nat)(v:Value)(ks:List Key):Prop:=∃a cap,v=.slice a ks.length cap/\(ks.length<=1000000/\ks.length<=cap)/\(ks≠[]->∃g o c,a=some ⟨g,o,none⟩/\B<=g/\w.heap[g]?=some (.cells c 9 (0,0))/\∀i (h:i<ks.length),c[o+i]?=some (.string ⟨ks[i].toArray⟩))
theorem KeyV.keep{w w':World}{B:Nat}{v:Value}{ks:List Key}(h:KeyV w B v ks)(hk:∀(g:Nat) (c:Array Value),B<=g->w.heap[g]?=some (.cells c 9 (0,0))->w'.heap[g]?=w.heap[g]?):KeyV w' B v ks:=by
 obtain⟨a,cap,e,hl,hr⟩:=h
 refine⟨a,cap,e,hl,fun hn=>?_⟩
 obtain⟨g,o,c,e1,e2,e3,e4⟩:=hr hn
 exact⟨g,o,c,e1,e2,(hk g c e2 e3).trans e3,e4⟩
theorem KeyV.onlyS{w w':World}{B:Nat}{v:Value}{ks:List Key}{R:Nat->Prop}(h:KeyV w B v ks)(o:OnlyS R w w')(hR:∀x,B<=x->x<w.heap.size->¬R x):KeyV w' B v ks:=h.keep fun g c hg hc=>by
 have hl:=(Array.getElem?_eq_some_iff.1 hc).1
 exact o.block g hl (hR g hg hl)
theorem KeyV.later{w w':World}{B:Nat}{v:Value}{ks:List Key}(h:KeyV w B v ks)(hb:Below w.heap.size w w'):KeyV w' B v ks:=h.keep fun g _ _ hc=>hb.block g (Array.getElem?_eq_some_iff.1 hc).1
theorem KeyV.lower{w:World}{B C:Nat}{v:Value}{ks:List Key}(h:KeyV w B v ks)(hC:C<=B):KeyV w C v ks:=by
 obtain⟨a,cap,e,hl,hr⟩:=h
 exact⟨a,cap,e,hl,fun hn=>by obtain⟨g,o,c,e1,e2,e3,e4⟩:=hr hn;exact⟨g,o,c,e1,Nat.le_trans hC e2,e3,e4⟩⟩
theorem KeyV.form{w:World}{B:Nat}{v:Value}{ks:List Key}(h:KeyV w B v ks):∃a cap,v=.slice a ks.length cap/\RowAt w a 1 Zai ks:=by
 obtain⟨a,cap,e,hl,hr⟩:=h
 refine⟨a,cap,e,by unfold maxLen;omega,fun hn=>?_⟩
 obtain⟨g,o,c,e1,e2,e3,e4⟩:=hr hn
 refine⟨g,o,e1,fun i hi j u hu=>?_⟩
 have hj:j<1:=(List.getElem?_eq_some_iff.1 hu).1
 obtain rfl:j=0:=by omega
 simp[Zai]at hu
 subst hu
 rw[cell_of_row w g _ _ _ _ e3,Nat.mul_one,Nat.add_zero]
 exact e4 i hi
theorem KeyV.formB{w:World}{B:Nat}{v:Value}{ks:List Key}(h:KeyV w B v ks):∃a cap,v=.slice a ks.length cap/\RowAt w a 1 Zai ks/\ks.length<=cap:=by
 obtain⟨a,cap,e,hr⟩:=h.form
 obtain⟨a',cap',e',hl,_⟩:=h
 rw[e]at e'
 injection e' with e1 _ e3
 subst e1 e3
 exact⟨a,cap,e,hr,hl.2⟩
theorem keyV_own{w:World}{B:Nat}{v:Value}{ks:List Key}(h:Zae w B 9 1 Zai v ks)(hl:ks.length<=1000000):KeyV w B v ks:=by
 obtain⟨h1,⟨rfl,h3⟩|⟨g,cap,cur,h2,h3,h4,h5,h6,h7,h8⟩⟩:=h
 ·have e:ks=[]:=List.eq_nil_of_length_eq_zero h3
  subst e
  exact⟨none,0,rfl,by simp,fun h=>absurd rfl h⟩
 ·refine⟨_,cap,h2,⟨hl,h5⟩,fun _=>⟨g,0,cur,rfl,h3,h4,fun i hi=>?_⟩⟩
  have h9:=ZaI Zat ks i 0 hi (by omega)
  rw[<-h8,Nat.mul_one,Nat.mul_one,Nat.add_zero,List.getElem?_take_of_lt hi]at h9
  rw[Nat.zero_add]
  simpa [Zai]using h9
def stepI(p:Pg)(fuel:Int)(W Bud:Nat)(z d:Int)(m:Mac):Nat × Mac:=if 0<=z then stepM p fuel W Bud z.toNat d m else (0,m)
def keysI(W:Nat)(z:Int)(m:Mac):List Key:=if 0<=z/\z<W then m.keys z.toNat else []
structure GoodM(p:Pg)(fuel:Int)(W Bud:Nat)(m:Mac):Prop where
 good:Zam p fuel=true
 small:preW p fuel<=600
 pos:0<W
 few:W<=64
 inv:∃T,InvM p fuel W Bud m T
theorem GoodM.step{p:Pg}{fuel:Int}{W Bud:Nat}{m:Mac}(h:GoodM p fuel W Bud m)(z d:Int):GoodM p fuel W Bud (stepI p fuel W Bud z d m).2:=by
 obtain⟨T,hi⟩:=h.inv
 unfold stepI
 split
 ·exact⟨h.good,h.small,h.pos,h.few,ZdX h.good h.pos hi _ _⟩
 ·exact⟨h.good,h.small,h.pos,h.few,T,hi⟩
structure MachI where
 MM:World->Nat->Nat->Pg->Int->Nat->Nat->(Nat->Prop)->Mac->Prop
 low:∀{w B b p fuel W Bud S m},MM w B b p fuel W Bud S m->B<=w.heap.size/\∀x,S x->B<=x/\x<w.heap.size
 only:∀{w w' B b p fuel W Bud S m} {R:Nat->Prop},MM w B b p fuel W Bud S m->OnlyS R w w'->(∀x,S x->¬R x)->MM w' B b p fuel W Bud S m
 new:∀(p:Pg) (a:Option Addr) (cap:Nat) (fuel:Int) (W Bud:Nat) (w:World),Zaf w a p.threads->(a=none->cap=0)->Zam p fuel=true->1<=W->W<=64->1<=Bud->Bud<=1048576 ->
  Calls Tryz.prog 14 #[.agg #[.int .i64 p.vars,.int .i64 p.mutexes,.slice a p.threads.length cap],.int .i64 fuel,.int .i64 (W:Int),.int .i64 (Bud:Int)] w fun r w'=>∃b S,r=.returned (.tuple #[.pointer (some ⟨b,0,none⟩),.int .i64 0])/\Below w.heap.size w w'/\MM w' w.heap.size b p fuel W Bud S (newM p fuel W)
 bad:∀(p:Pg) (a:Option Addr) (cap:Nat) (fuel z y:Int) (w:World),Zaf w a p.threads->(a=none->cap=0)->(Zam p fuel=false∨z<1∨64<z∨y<1∨1048576<y) ->
  Calls Tryz.prog 14 #[.agg #[.int .i64 p.vars,.int .i64 p.mutexes,.slice a p.threads.length cap],.int .i64 fuel,.int .i64 z,.int .i64 y] w fun r w'=>r=.returned (.tuple #[.pointer none,.int .i64 1])/\Below w.heap.size w w'
 step:∀{w B b p fuel W Bud S m} (z d:Int),MM w B b p fuel W Bud S m->GoodM p fuel W Bud m ->
  Calls Tryz.prog 23 #[.pointer (some ⟨b,0,none⟩),.int .i64 z,.int .i64 d] w fun r w'=>r=.returned (.int .i64 ((stepI p fuel W Bud z d m).1:Nat))/\∃S',MM w' B b p fuel W Bud S' (stepI p fuel W Bud z d m).2/\OnlyS S w w'/\∀y,S' y->S y∨w.heap.size<=y
 halted:∀{w B b p fuel W Bud S m},MM w B b p fuel W Bud S m->Calls Tryz.prog 18 #[.pointer (some ⟨b,0,none⟩)] w fun r w'=>r=.returned (.bool (haltM W m))/\∃i,w'=w.drewN i
 complete:∀{w B b p fuel W Bud S m},MM w B b p fuel W Bud S m->Calls Tryz.prog 19 #[.pointer (some ⟨b,0,none⟩)] w fun r w'=>r=.returned (.bool (haltM W m && !m.over))/\∃i,w'=w.drewN i
 keys:∀{w B b p fuel W Bud S m} (z:Int),MM w B b p fuel W Bud S m->GoodM p fuel W Bud m->Calls Tryz.prog 27 #[.pointer (some ⟨b,0,none⟩),.int .i64 z] w fun r w'=>∃v,r=.returned v/\KeyV w' w.heap.size v (keysI W z m)/\Below w.heap.size w w'
 nodes:∀{w B b p fuel W Bud S m},MM w B b p fuel W Bud S m->Calls Tryz.prog 21 #[.pointer (some ⟨b,0,none⟩)] w fun r w'=>r=.returned (.int .i64 (m.l.length:Nat))/\∃i,w'=w.drewN i
 claims:∀{w B b p fuel W Bud S m},MM w B b p fuel W Bud S m->Calls Tryz.prog 22 #[.pointer (some ⟨b,0,none⟩)] w fun r w'=>r=.returned (.int .i64 (m.cl:Nat))/\∃i,w'=w.drewN i
 blocked:∀{w B b p fuel W Bud S m},MM w B b p fuel W Bud S m->Calls Tryz.prog 28 #[.pointer (some ⟨b,0,none⟩)] w fun r w'=>r=.returned (.int .i64 (m.blk:Nat))/\∃i,w'=w.drewN i
 workers:∀{w B b p fuel W Bud S m},MM w B b p fuel W Bud S m->Calls Tryz.prog 29 #[.pointer (some ⟨b,0,none⟩)] w fun r w'=>r=.returned (.int .i64 (W:Nat))/\∃i,w'=w.drewN i
 nilStep:∀(z d:Int) (w:World),Calls Tryz.prog 23 #[.pointer none,.int .i64 z,.int .i64 d] w fun r w'=>r=.returned (.int .i64 0)/\∃i,w'=w.drewN i
 nilHalted:∀(w:World),Calls Tryz.prog 18 #[.pointer none] w fun r w'=>r=.returned (.bool true)/\∃i,w'=w.drewN i
 nilComplete:∀(w:World),Calls Tryz.prog 19 #[.pointer none] w fun r w'=>r=.returned (.bool false)/\∃i,w'=w.drewN i
 nilKeys:∀(z:Int) (w:World),Calls Tryz.prog 27 #[.pointer none,.int .i64 z] w fun r w'=>∃a cap,r=.returned (.slice a 0 cap)/\∃i,w'=w.drewN i
 nilNodes:∀(w:World),Calls Tryz.prog 21 #[.pointer none] w fun r w'=>r=.returned (.int .i64 0)/\∃i,w'=w.drewN i
 nilClaims:∀(w:World),Calls Tryz.prog 22 #[.pointer none] w fun r w'=>r=.returned (.int .i64 0)/\∃i,w'=w.drewN i
 nilBlocked:∀(w:World),Calls Tryz.prog 28 #[.pointer none] w fun r w'=>r=.returned (.int .i64 0)/\∃i,w'=w.drewN i
 nilWorkers:∀(w:World),Calls Tryz.prog 29 #[.pointer none] w fun r w'=>r=.returned (.int .i64 0)/\∃i,w'=w.drewN i
def Zbh(x:Int × Int):List Value:=[.int .i64 x.1,.int .i64 x.2]
theorem Zj6(x:Int × Int):(Zbh x).length=2:=rfl
theorem RowAt.pick{w:World}{a:Option Addr}{l:List (Int × Int)}(h:RowAt w a 2 Zbh l){k:Nat}(hk:k<l.length):∃b o,a=some ⟨b,o,none⟩/\w.cell? ⟨b,o+k*2,none⟩=some (.int .i64 l[k].1)/\w.cell? ⟨b,o+k*2+1,none⟩=some (.int .i64 l[k].2):=by
 obtain⟨b,o,rfl,hc⟩:=h.2 (by intro e;simp[e]at hk)
 have h0:=hc k hk 0 _ rfl
 have h1:=hc k hk 1 _ rfl
 exact⟨b,o,rfl,by simpa using h0,by simpa using h1⟩
structure RunI(I:MachI)(w:World)(B b:Nat)(p:Pg)(fuel:Int)(W Bud:Nat)(S:Nat->Prop)(m:Mac)(wr:World):Prop where
 mm:∃S',I.MM wr B b p fuel W Bud S' m/\∀y,S' y->S y∨w.heap.size<=y
 only:OnlyS S w wr
 good:GoodM p fuel W Bud m
section
variable{I:MachI}{w wr w':World}{B b W Bud:Nat}{p:Pg}{fuel:Int}{S:Nat->Prop}{m:Mac}
theorem RunI.start(h:I.MM w B b p fuel W Bud S m)(hg:GoodM p fuel W Bud m):RunI I w B b p fuel W Bud S m w:=⟨⟨S,h,fun _ h=>.inl h⟩,OnlyS.refl _ _,hg⟩
theorem RunI.later(h:RunI I w B b p fuel W Bud S m wr)(hb:Below wr.heap.size wr w'):RunI I w B b p fuel W Bud S m w':=by
 obtain⟨S',h1,h2⟩:=h.mm
 exact⟨⟨S',I.only (R:=fun _=>False) h1 (OnlyS.of_below hb) fun _ _ h=>h,h2⟩,h.only.trans (OnlyS.of_below hb),h.good⟩
theorem RunI.below(h:RunI I w B b p fuel W Bud S m wr){w0:World}(hb:Below w0.heap.size w0 w)(hS:∀x,S x->w0.heap.size<=x):Below w0.heap.size w0 wr:=hb.trans (h.only.below hb.size hS)
theorem RunI.step(h:RunI I w B b p fuel W Bud S m wr)(z d:Int):Calls Tryz.prog 23 #[.pointer (some ⟨b,0,none⟩),.int .i64 z,.int .i64 d] wr fun r w'=>r=.returned (.int .i64 ((stepI p fuel W Bud z d m).1:Nat))/\RunI I w B b p fuel W Bud S (stepI p fuel W Bud z d m).2 w':=by
 obtain⟨S',h1,h2⟩:=h.mm
 refine(I.step z d h1 h.good).mono fun r w' ⟨e,S2,h3,h4,h5⟩=>⟨e,⟨S2,h3,fun y hy=>?_⟩,h.only.thenS h4 fun x hx hs=>?_,h.good.step z d⟩
 ·rcases h5 y hy with h6|h6
  ·exact h2 y h6
  ·exact .inr (Nat.le_trans h.only.size h6)
 ·rcases h2 x hs with h6|h6
  ·exact h6
  ·omega
theorem RunI.halted(h:RunI I w B b p fuel W Bud S m wr):Calls Tryz.prog 18 #[.pointer (some ⟨b,0,none⟩)] wr fun r w'=>r=.returned (.bool (haltM W m))/\RunI I w B b p fuel W Bud S m w':=by
 obtain⟨S',h1,h2⟩:=h.mm
 refine(I.halted h1).mono fun r w' ⟨e,i,e2⟩=>⟨e,?_⟩
 subst e2
 exact h.later (Below.refl _ _).drewN
theorem RunI.workers(h:RunI I w B b p fuel W Bud S m wr):Calls Tryz.prog 29 #[.pointer (some ⟨b,0,none⟩)] wr fun r w'=>r=.returned (.int .i64 (W:Nat))/\RunI I w B b p fuel W Bud S m w':=by
 obtain⟨S',h1,h2⟩:=h.mm
 refine(I.workers h1).mono fun r w' ⟨e,i,e2⟩=>⟨e,?_⟩
 subst e2
 exact h.later (Below.refl _ _).drewN
theorem Zd3{l:List (Int × Int)}{j:Nat}(hj:j<l.length):listM p fuel W Bud (l.take (j+1)) m=(stepI p fuel W Bud l[j].1 l[j].2 (listM p fuel W Bud (l.take j) m)).2:=by
 unfold listM stepI
 rw[List.take_succ_eq_append_getElem hj,List.foldl_append]
 simp only[List.foldl_cons,List.foldl_nil]
 split <;> rfl
theorem turnM_snoc(i k:Nat):turnM p fuel W Bud i (List.range (k+1)) m=(stepI p fuel W Bud (k:Int) ((i:Int)+k) (turnM p fuel W Bud i (List.range k) m)).2:=by
 unfold turnM stepI
 rw[List.range_succ,List.foldl_append,if_pos (by omega),Int.toNat_natCast]
 rfl
theorem runM_go{n i:Nat}(h:haltM W m=false):runM p fuel W Bud (n+1) i m=runM p fuel W Bud n (i+1) (turnM p fuel W Bud i (List.range W) m):=by
 conv=>lhs;unfold runM
 rw[if_neg (by rw[h];simp)]
 rfl
theorem runM_stop{n i:Nat}(h:haltM W m=true):runM p fuel W Bud n i m=m:=by
 cases n with
 |zero=>rfl
 |succ n=>unfold runM;rw[if_pos h]
theorem ZjR(I:MachI){w:World}{B b W Bud:Nat}{p:Pg}{fuel:Int}{S:Nat->Prop}{m:Mac}(h:I.MM w B b p fuel W Bud S m)(hg:GoodM p fuel W Bud m)(w0:World)(hb0:Below w0.heap.size w0 w)(hB:w0.heap.size<=B)(oa:Option Addr)(oc:Nat)(l:List (Int × Int))(hrow:RowAt w0 oa 2 Zbh l)(hl:l.length<=1000)(n:Nat)(hn:n<=1000000000):
  Calls Tryz.prog 15 #[.pointer (some ⟨b,0,none⟩),.slice oa l.length oc,.int .i64 (n:Int)] w fun r w'=>r=.returned (.tuple #[])/\RunI I w B b p fuel W Bud S (runM p fuel W Bud n 0 (listM p fuel W Bud l m)) w':=by
 have hS:∀x,S x->w0.heap.size<=x:=fun x hx=>Nat.le_trans hB ((I.low h).2 x hx).1
 have HROW:Hid (∀m' wr,RunI I w B b p fuel W Bud S m' wr->RowAt wr oa 2 Zbh l):=fun m' wr hr=>hrow.later (hr.below hb0 hS)
 have HR0:=Lib.hid (RunI.start h hg)
 have hW:=hg.few
 clear h hg hb0 hB hrow hS
 go_enter Tryz.func15,Tryz.ntmps15
 go_wp2_with fail
 go_loopw [7,12] (fun _ i wr=>∃j:Nat,j<=l.length/\i=.int .i64 j/\Hid (RunI I w B b p fuel W Bud S (listM p fuel W Bud (l.take j) m) wr)) (fun _ i _=>l.length-(intOf i).toNat)
 case atStart=>exact⟨0,Nat.zero_le _,rfl,HR0⟩
 case round=>
  clear HR0
  obtain⟨j,hj,rfl,HR⟩:=hrel
  by_cases hlt:j<l.length
  ·obtain⟨pb,o,rfl,e0,e1⟩:=(HROW.out _ _ HR.out).pick hlt
   have HN:Hid ((stepI p fuel W Bud l[j].1 l[j].2 (listM p fuel W Bud (l.take j) m)).2=listM p fuel W Bud (l.take (j+1)) m):=(Zd3 hlt).symm
   have HST:=Lib.hid ((HR.out.later (Zaa wr (.cells #[.int .i64 l[j].1,.int .i64 l[j].2] 48))).step l[j].1 l[j].2)
   rw[HN.out]at HST
   generalize l[j]=x at *
   obtain⟨x1,x2⟩:=x
   dsimp only at e0 e1 HST
   clear HN HR
   go_wp2_with fail
   refine HST.out.mono ?_
   rintro r w3⟨rfl,h3⟩
   have H3:=Lib.hid h3
   clear h3
   go_wp2_with fail
   go_roundw
   case rel=>exact⟨j+1,by omega,by go_num,H3⟩
   case measure=>simp[intOf];omega
  ·obtain rfl:j=l.length:=by omega
   have HR1:Hid (RunI I w B b p fuel W Bud S (listM p fuel W Bud l m) wr):=by
    have:=HR.out
    rw[List.take_length]at this
    exact this
   clear HR HROW
   obtain⟨m1,hm1⟩:∃m1,m1=listM p fuel W Bud l m:=⟨_,rfl⟩
   rw[<-hm1]at HR1
   have HM1:=Lib.hid hm1
   clear hm1
   go_wp2_with fail
   go_loopw [8,9,35] (fun i _ _ wr2=>∃(k:Nat) (mk:Mac),k<=n/\i=.int .i64 k/\Hid (runM p fuel W Bud (n-k) k mk=runM p fuel W Bud n 0 m1)/\Hid (RunI I w B b p fuel W Bud S mk wr2)) (fun i _ _ _=>n-(intOf i).toNat)
   case atStart=>exact⟨0,m1,Nat.zero_le _,rfl,rfl,HR1⟩
   case round=>
    clear HR1
    obtain⟨k,mk,hk,rfl,HE,HR⟩:=hrel
    by_cases hkn:k<n
    ·have HH:=Lib.hid HR.out.halted
     cases hh:haltM W mk
     ·rw[hh]at HH
      have HGO:Hid (runM p fuel W Bud (n-(k+1)) (k+1) (turnM p fuel W Bud k (List.range W) mk)=runM p fuel W Bud n 0 m1):=by
       have:=HE.out
       rw[show n-k=n-(k+1)+1 by omega,runM_go hh]at this
       exact this
      clear HE hh
      go_wp2_with fail
      refine HH.out.mono ?_
      rintro r w3⟨rfl,h3⟩
      have HW3:=Lib.hid h3.workers
      clear h3 HH
      go_wp2_with fail
      refine HW3.out.mono ?_
      rintro r w4⟨rfl,h4⟩
      have H4:Hid (RunI I w B b p fuel W Bud S (turnM p fuel W Bud k (List.range 0) mk) w4):=h4
      clear h4 HW3
      go_wp2_with fail
      go_loopw [9,35] (fun _ v wr3=>∃u:Nat,u<=W/\v=.int .i64 u/\Hid (RunI I w B b p fuel W Bud S (turnM p fuel W Bud k (List.range u) mk) wr3)) (fun _ v _=>W-(intOf v).toNat)
      case atStart=>exact⟨0,Nat.zero_le _,rfl,H4⟩
      case round=>
       clear H4
       obtain⟨u,hu,rfl,HU⟩:=hrel
       by_cases hut:u<W
       ·have HS:=Lib.hid (HU.out.step (u:Int) ((k:Int)+u))
        rw[<-turnM_snoc]at HS
        clear HU
        go_wp2_with fail
        refine HS.out.mono ?_
        rintro r w5⟨rfl,h5⟩
        have H5:=Lib.hid h5
        clear h5 HS
        go_wp2_with fail
        go_roundw
        case rel=>exact⟨u+1,by omega,by go_num,H5⟩
        case measure=>simp[intOf];omega
       ·obtain rfl:u=W:=by omega
        go_wp2_with fail
        go_roundw
        case rel=>exact⟨k+1,_,by omega,by go_num,HGO,HU⟩
        case measure=>simp[intOf];omega
     ·rw[hh]at HH
      have HFIN:Hid (mk=runM p fuel W Bud n 0 m1):=by
       show _=_
       rw[<-HE.out,runM_stop hh]
      clear HE hh
      go_wp2_with fail
      refine HH.out.mono ?_
      rintro r w3⟨rfl,h3⟩
      have H3:=Lib.hid h3
      clear h3 HH
      go_wp2
      exact bodyPost_end (results_none rfl _ _ _) rfl ⟨rfl,by rw[<-HM1.out,<-HFIN.out];exact H3.out⟩
    ·obtain rfl:k=n:=by omega
     have HFIN:Hid (mk=runM p fuel W Bud k 0 m1):=by
      have:=HE.out
      rw[Nat.sub_self]at this
      exact this
     go_wp2
     exact bodyPost_end (results_none rfl _ _ _) rfl ⟨rfl,by rw[<-HM1.out,<-HFIN.out];exact HR.out⟩
end
def insK(k:Key):List Key->List Key
 | []=>[k]
 |x::l=>if k<x then k::x::l else x::insK k l
def putK(l:List Key)(k:Key):List Key:=if k∈l then l else insK k l
theorem ZiY(k:Key):∀l,(insK k l).length=l.length+1
 | []=>rfl
 |x::l=>by
  unfold insK
  split
  ·rfl
  ·simp[ZiY k l]
theorem Zmx(l:List Key)(k:Key):(putK l k).length<=l.length+1:=by
 unfold putK
 split
 ·omega
 ·rw[ZiY];omega
theorem ZiQ{k x:Key}:∀{l:List Key},x∈insK k l↔x=k∨x∈l
 | []=>by simp[insK]
 |y::l=>by
  unfold insK
  split
  ·simp
  ·rw[List.mem_cons,ZiQ,List.mem_cons]
   constructor
   ·rintro (h|h|h)
    ·exact .inr (.inl h)
    ·exact .inl h
    ·exact .inr (.inr h)
   ·rintro (h|h|h)
    ·exact .inr (.inl h)
    ·exact .inl h
    ·exact .inr (.inr h)
theorem mem_putK{l:List Key}{k x:Key}:x∈putK l k↔x=k∨x∈l:=by
 unfold putK
 split
 ·rename_i h
  exact⟨.inr,fun e=>e.elim (fun e=>e▸h) id⟩
 ·exact ZiQ
theorem ZgO{k:Key}:∀{l:List Key},l.Pairwise (· < ·)->k∉l->(insK k l).Pairwise (· < ·)
 | [],_,_=>by simp[insK]
 |y::l,h,hk=>by
  obtain⟨h1,h2⟩:=List.pairwise_cons.1 h
  unfold insK
  split
  ·rename_i hlt
   exact List.pairwise_cons.2 ⟨fun z hz=>by
    rcases List.mem_cons.1 hz with rfl|hz
    ·exact hlt
    ·exact List.lt_trans hlt (h1 z hz),h⟩
  ·rename_i hlt
   refine List.pairwise_cons.2 ⟨fun z hz=>?_,ZgO h2 (fun e=>hk (List.mem_cons_of_mem _ e))⟩
   rcases ZiQ.1 hz with rfl|hz
   ·have hle:y<=z:=by
     rcases List.le_total y z with h|h
     ·exact h
     ·exact absurd (by
       rcases List.le_iff_lt_or_eq.1 h with h|h
       ·exact h
       ·exact absurd (h▸List.mem_cons_self) hk) hlt
    rcases List.le_iff_lt_or_eq.1 hle with h|h
    ·exact h
    ·exact absurd (h▸List.mem_cons_self) hk
   ·exact h1 z hz
theorem Zlo{l:List Key}{k:Key}(h:l.Pairwise (· < ·)):(putK l k).Pairwise (· < ·):=by
 unfold putK
 split
 ·exact h
 ·rename_i hk
  exact ZgO h hk
theorem putAll(ks:List Key):∀l:List Key,l.Pairwise (· < ·)->(ks.foldl putK l).Pairwise (· < ·)/\∀x,x∈ks.foldl putK l↔x∈ks∨x∈l:=by
 induction ks with
 |nil=>intro l h;exact⟨h,fun x=>by simp⟩
 |cons k ks ih=>
  intro l h
  obtain⟨h1,h2⟩:=ih (putK l k) (Zlo h)
  refine⟨h1,fun x=>?_⟩
  rw[List.foldl_cons,h2,mem_putK,List.mem_cons]
  constructor
  ·rintro (h|h|h)
   ·exact .inl (.inr h)
   ·exact .inl (.inl h)
   ·exact .inr h
  ·rintro ((h|h)|h)
   ·exact .inr (.inl h)
   ·exact .inl h
   ·exact .inr (.inr h)
theorem ZdE(ks:List Key):ks.foldl putK []=sortK ks:=by
 obtain⟨h1,h2⟩:=putAll ks [] List.Pairwise.nil
 refine Zfy (h1.imp fun {a b} h=>?_) (h1.imp fun {a b} h e=>?_) fun x=>?_
 ·simp only[decide_eq_true_eq]
  exact List.le_of_lt h
 ·subst e
  exact List.lt_irrefl _ h
 ·rw[h2];simp
def PutP(k:Key)(l:List Key)(j:Nat)(d:Bool)(R:List Key):Prop:=
 k∉l.take j/\((d=false/\R=l.take j/\insK k l=l.take j++insK k (l.drop j))∨(d=true/\insK k l=R++l.drop j))
theorem Zj3(k:Key)(l:List Key):PutP k l 0 false []:=⟨by simp,.inl ⟨rfl,rfl,rfl⟩⟩
theorem ZiI{k:Key}{l:List Key}{j:Nat}(h:k∉l.take j)(hj:j<l.length)(hne:l[j]≠k):k∉l.take (j+1):=by
 rw[List.take_succ_eq_append_getElem hj,List.mem_append]
 rintro (e|e)
 ·exact h e
 ·exact hne (List.mem_singleton.1 e).symm
theorem putP_lt{k:Key}{l:List Key}{j:Nat}{R:List Key}(h:PutP k l j false R)(hj:j<l.length)(hne:l[j]≠k)(hlt:k<l[j]):PutP k l (j+1) true (R++[k]++[l[j]]):=by
 obtain⟨h0,⟨_,h2,h3⟩|⟨h1,_⟩⟩:=h
 ·refine⟨ZiI h0 hj hne,.inr ⟨rfl,?_⟩⟩
  rw[h3,List.drop_eq_getElem_cons hj,insK,if_pos hlt,h2]
  simp
 ·cases h1
theorem putP_ge{k:Key}{l:List Key}{j:Nat}{R:List Key}(h:PutP k l j false R)(hj:j<l.length)(hne:l[j]≠k)(hlt:¬k<l[j]):PutP k l (j+1) false (R++[l[j]]):=by
 obtain⟨h0,⟨_,h2,h3⟩|⟨h1,_⟩⟩:=h
 ·have e1:R++[l[j]]=l.take (j+1):=by rw[h2,List.take_succ_eq_append_getElem hj]
  refine⟨ZiI h0 hj hne,.inl ⟨rfl,e1,?_⟩⟩
  rw[h3,List.drop_eq_getElem_cons hj,insK,if_neg hlt,<-e1,h2,List.append_assoc]
  rfl
 ·cases h1
theorem putP_on{k:Key}{l:List Key}{j:Nat}{R:List Key}(h:PutP k l j true R)(hj:j<l.length)(hne:l[j]≠k):PutP k l (j+1) true (R++[l[j]]):=by
 obtain⟨h0,⟨h1,_⟩|⟨_,h2⟩⟩:=h
 ·cases h1
 ·refine⟨ZiI h0 hj hne,.inr ⟨rfl,?_⟩⟩
  rw[h2,List.drop_eq_getElem_cons hj]
  simp
theorem Zmw{k:Key}{l R:List Key}{d:Bool}(h:PutP k l l.length d R):putK l k=if d then R else R++[k]:=by
 obtain⟨h0,h⟩:=h
 rw[List.take_length]at h0 h
 rw[List.drop_length]at h
 unfold putK
 rw[if_neg h0]
 rcases h with ⟨rfl,h2,h3⟩|⟨rfl,h2⟩
 ·rw[h3,h2];rfl
 ·rw[h2];simp
end Go.Proofs.YtjfmmnhcddckaaaGreat
namespace Go.Proofs.YtjfmmnhcddckaaaGreat
open Go.RowKit Go.Sort
theorem put_any(B:Nat)(a:Option Addr)(cap:Nat)(ks:List Key)(k:Key)(w:World)(hl:Zae w B 9 1 Zai (.slice a ks.length cap) ks)(hm:ks.length<=900000)(hB:B<=w.heap.size):
  Calls Tryz.prog 57 #[.slice a ks.length cap,.string ⟨k.toArray⟩] w fun r w'=>∃a2 cap2,r=.returned (.slice a2 (putK ks k).length cap2)/\Zae w' B 9 1 Zai (.slice a2 (putK ks k).length cap2) (putK ks k)/\Below w.heap.size w w':=by
 obtain⟨a',cap',hv,hat,_⟩:=Zae.form hl Zat (by omega)
 injection hv with h1 _ h2
 subst h1 h2
 have HL:=Lib.hid hl
 have HA:=Lib.hid hat
 clear hl hat
 go_enter Tryz.func57,Tryz.ntmps57
 go_wp2
 go_loopw [5,6,7] (fun s5 d7 i wr=>∃(j:Nat) (d:Bool) (R:List Key),j<=ks.length/\i=.int .i64 j/\d7=.bool d/\R.length<=j+1/\Hid (PutP k ks j d R)/\Hid (Zae wr w.heap.size 9 1 Zai s5 R)/\Hid (Below w.heap.size w wr)) (fun _ _ i _=>ks.length-(intOf i).toNat)
 case atStart=>exact⟨0,false,[],Nat.zero_le _,rfl,rfl,by simp,Zj3 k ks,Za5 _ _ _ _ _,Below.refl _ _⟩
 case round=>
  obtain⟨j,d,R,hj,rfl,rfl,hR,HP,HO,HB⟩:=hrel
  by_cases hlt:j<ks.length
  ·obtain⟨b,o,rfl,c0⟩:=HA.out.str hlt
   have c1:=Zab HB.out c0
   have hji:(j:Int)<(ks.length:Int):=by omega
   have hji0:(0:Int)<=j:=by omega
   have HEQ:Hid (ks[j]=k->putK ks k=ks):=fun h=>by unfold putK;rw[if_pos (by rw[<-h];exact List.getElem_mem hlt)]
   have HLT:Hid (d=false->ks[j]≠k->k<ks[j]->PutP k ks (j+1) true (R++[k]++[ks[j]])):=fun hd h1 h2=>by subst hd;exact putP_lt HP.out hlt h1 h2
   have HGE:Hid (d=false->ks[j]≠k->¬k<ks[j]->PutP k ks (j+1) false (R++[ks[j]])):=fun hd h1 h2=>by subst hd;exact putP_ge HP.out hlt h1 h2
   have HON:Hid (d=true->ks[j]≠k->PutP k ks (j+1) true (R++[ks[j]])):=fun hd h1=>by subst hd;exact putP_on HP.out hlt h1
   have HC:Hid (∀W,Below w.heap.size w W->W.cell? ⟨b,o+j,none⟩=some (.string ⟨ks[j].toArray⟩)):=fun W h=>Zab h c0
   have hbs:=HB.out.size
   have hsz:=(Zaa wr (.cells #[.string ⟨k.toArray⟩] 9)).size
   clear c0
   generalize ks[j]=x at *
   by_cases hx:x=k
   ·have hq:(x==k)=true:=by simp[hx]
    have HE:=Lib.hid (HEQ.out hx)
    have HL2:=Lib.hid (HL.out.later HB.out)
    clear hx HLT HGE HON HEQ
    go_wp2_with fail
    go_ret
    exact⟨some ⟨b,o,none⟩,cap,(by rw[HE.out];rfl),by rw[HE.out];exact HL2.out,HB.out⟩
   ·have hq:(x==k)=false:=by simp[hx]
    have HLT2:=Lib.hid (fun h=>HLT.out h hx)
    have HGE2:=Lib.hid (fun h=>HGE.out h hx)
    have HON2:=Lib.hid (fun h=>HON.out h hx)
    clear hx HLT HGE HON HEQ
    cases d
    ·by_cases hlx:k<x
     ·have HI:=Lib.hid (HLT2.out rfl hlx)
      have hR0:R.length<=j:=by
       rcases HP.out.2 with ⟨_,h,_⟩|⟨h,_⟩
       ·rw[h,List.length_take];omega
       ·cases h
      have hd:Op.bytesLess k x=true:=by rw[bytesLess_eq];simp[hlx]
      clear hlx HLT2 HGE2 HON2
      go_wp2_with (first
       |(at_builtin;refine ZaP (f:=Zai) (n:=1) 30 9 16 (.string ByteArray.empty) Tryz.underlying30 Zcd rfl (by omega) (by omega) Zat rfl _ _ rfl w.heap.size _ (R++[k]) rfl (HO9.out.alloc _) ⟨w9.heap.size,0,none⟩ rfl x (ZaT _) (ZaH w9 (Zai x) _ _ rfl) (by simp;omega) (Nat.le_trans hb9s (Zaa _ _).size) ?_;intro v2 w2 hown2 hb2 _;have HO2:=Lib.hid hown2;have HB2:=Lib.hid (HB9.out.trans (((Zaa w9 (.cells #[.string ⟨x.toArray⟩] 9)).mono hb9s).trans hb2));clear hown2 hb2)
       |(at_builtin;refine ZaP (f:=Zai) (n:=1) 30 9 16 (.string ByteArray.empty) Tryz.underlying30 Zcd rfl (by omega) (by omega) Zat rfl _ _ rfl w.heap.size _ R rfl (HO.out.alloc _) ⟨wr.heap.size,0,none⟩ rfl k (ZaT _) (ZaH wr (Zai k) _ _ rfl) (by omega) (Nat.le_trans hbs (Zaa _ _).size) ?_;intro v9 w9 hown9 hb9 _;have HO9:=Lib.hid hown9;have HB9:=Lib.hid (HB.out.trans (((Zaa wr (.cells #[.string ⟨k.toArray⟩] 9)).mono hbs).trans hb9));have hb9s:=HB9.out.size;have c9:=HC.out w9 HB9.out;clear hown9 hb9))
      go_roundw
      case rel=>exact⟨j+1,true,R++[k]++[x],by omega,by go_num,rfl,by simp;omega,HI.out,HO2.out,HB2.out⟩
      case measure=>simp[intOf];omega
     ·have HI:=Lib.hid (HGE2.out rfl hlx)
      have hR0:R.length<=j:=by
       rcases HP.out.2 with ⟨_,h,_⟩|⟨h,_⟩
       ·rw[h,List.length_take];omega
       ·cases h
      have hd:Op.bytesLess k x=false:=by rw[bytesLess_eq];simp[hlx]
      clear hlx HLT2 HGE2 HON2
      go_wp2_with (at_builtin;refine ZaP (f:=Zai) (n:=1) 30 9 16 (.string ByteArray.empty) Tryz.underlying30 Zcd rfl (by omega) (by omega) Zat rfl _ _ rfl w.heap.size _ R rfl (HO.out.alloc _) ⟨wr.heap.size,0,none⟩ rfl x (ZaT _) (ZaH wr (Zai x) _ _ rfl) (by omega) (Nat.le_trans hbs (Zaa _ _).size) ?_;intro v9 w9 hown9 hb9 _;have HO9:=Lib.hid hown9;have HB9:=Lib.hid (HB.out.trans (((Zaa wr (.cells #[.string ⟨x.toArray⟩] 9)).mono hbs).trans hb9));clear hown9 hb9)
      go_roundw
      case rel=>exact⟨j+1,false,R++[x],by omega,by go_num,rfl,by simp;omega,HI.out,HO9.out,HB9.out⟩
      case measure=>simp[intOf];omega
    ·have HI:=Lib.hid (HON2.out rfl)
     clear HLT2 HGE2 HON2
     go_wp2_with (at_builtin;refine ZaP (f:=Zai) (n:=1) 30 9 16 (.string ByteArray.empty) Tryz.underlying30 Zcd rfl (by omega) (by omega) Zat rfl _ _ rfl w.heap.size _ R rfl (HO.out.alloc _) ⟨wr.heap.size,0,none⟩ rfl x (ZaT _) (ZaH wr (Zai x) _ _ rfl) (by omega) (Nat.le_trans hbs (Zaa _ _).size) ?_;intro v9 w9 hown9 hb9 _;have HO9:=Lib.hid hown9;have HB9:=Lib.hid (HB.out.trans (((Zaa wr (.cells #[.string ⟨x.toArray⟩] 9)).mono hbs).trans hb9));clear hown9 hb9)
     go_roundw
     case rel=>exact⟨j+1,true,R++[x],by omega,by go_num,rfl,by simp;omega,HI.out,HO9.out,HB9.out⟩
     case measure=>simp[intOf];omega
  ·obtain rfl:j=ks.length:=by omega
   have HE:=Lib.hid (Zmw HP.out)
   have hbs:=HB.out.size
   cases d
   ·have HE2:Hid (putK ks k=R++[k]):=HE.out
    go_wp2_with (at_builtin;refine ZaP (f:=Zai) (n:=1) 30 9 16 (.string ByteArray.empty) Tryz.underlying30 Zcd rfl (by omega) (by omega) Zat rfl _ _ rfl w.heap.size _ R rfl (HO.out.alloc _) ⟨wr.heap.size,0,none⟩ rfl k (ZaT _) (ZaH wr (Zai k) _ _ rfl) (by omega) (Nat.le_trans hbs (Zaa _ _).size) ?_;intro v9 w9 hown9 hb9 _;have HO9:=Lib.hid hown9;have HB9:=Lib.hid (HB.out.trans (((Zaa wr (.cells #[.string ⟨k.toArray⟩] 9)).mono hbs).trans hb9));have hb9s:=HB9.out.size;clear hown9 hb9)
    obtain⟨a2,cap2,hv2,_,_⟩:=Zae.form HO9.out Zat (by simp;omega)
    subst hv2
    go_wp2_with fail
    go_ret
    exact⟨a2,cap2,(by rw[HE2.out];rfl),by rw[HE2.out];exact ZdF HO9.out hB,HB9.out⟩
   ·have HE2:Hid (putK ks k=R):=HE.out
    obtain⟨a2,cap2,hv2,_,_⟩:=Zae.form HO.out Zat (by omega)
    subst hv2
    go_wp2_with fail
    go_ret
    exact⟨a2,cap2,(by rw[HE2.out];rfl),by rw[HE2.out];exact ZdF HO.out hB,HB.out⟩
end Go.Proofs.YtjfmmnhcddckaaaGreat
namespace Go.Proofs.YtjfmmnhcddckaaaGreat
open Go.RowKit
theorem Zhy{l m:List Key}{k:Nat}(h1:k<l.length)(h2:k<m.length)(ht:l.take k=m.take k)(he:l[k]=m[k]):l.take (k+1)=m.take (k+1):=by
 rw[List.take_succ_eq_append_getElem h1,List.take_succ_eq_append_getElem h2,ht,he]
theorem sameK_any(a a':Option Addr)(cap cap':Nat)(ks ms:List Key)(w:World)(hl:RowAt w a 1 Zai ks)(hl':RowAt w a' 1 Zai ms)(hm:ks.length<=1000000)(hm':ms.length<=1000000):
  Calls Tryz.prog 20 #[.slice a ks.length cap,.slice a' ms.length cap'] w fun r w'=>r=.returned (.bool (decide (ks=ms)))/\Below w.heap.size w w':=by
 have HL:=Lib.hid hl
 have HL':=Lib.hid hl'
 clear hl hl'
 by_cases hne:ks.length=ms.length
 case neg=>
  have hq:((ks.length:Int) != ms.length)=true:=by simp;omega
  have H:Hid (decide (ks=ms)=false):=by show _=_;simp;intro e;exact hne (by rw[e])
  clear hne
  go_enter Tryz.func20,Tryz.ntmps20
  go_wp2
  go_ret
  exact⟨Zag H.out.symm,Below.refl _ _⟩
 have HE:=Lib.hid hne
 have hq:((ks.length:Int) != ms.length)=false:=by simp[hne]
 have hm2:ks.length<=ms.length:=by omega
 have hm3:ms.length<=ks.length:=by omega
 clear hne
 go_enter Tryz.func20,Tryz.ntmps20
 go_wp2
 clear hq
 go_loopw [5] (fun i wr=>∃k:Nat,k<=ks.length/\i=.int .i64 k/\Hid (ks.take k=ms.take k)/\Hid (Below w.heap.size w wr)) (fun i _=>ks.length-(intOf i).toNat)
 case atStart=>exact⟨0,Nat.zero_le _,rfl,rfl,Below.refl _ _⟩
 case round=>
  obtain⟨k,hk,rfl,HT,HB⟩:=hrel
  by_cases hlt:k<ks.length
  ·have hlt':k<ms.length:=by omega
   obtain⟨b,o,rfl,t0⟩:=HL.out.str hlt
   obtain⟨b',o',rfl,t0'⟩:=HL'.out.str hlt'
   have c0:=Zab HB.out t0
   have c0':=Zab HB.out t0'
   clear t0 t0'
   have hx1:Hid (ks[k]=ms[k]->ks.take (k+1)=ms.take (k+1)):=fun h=>Zhy hlt hlt' HT.out h
   have hx2:Hid (ks[k]≠ms[k]->decide (ks=ms)=false):=fun h=>by simp;rintro rfl;exact h rfl
   generalize ks[k]=x at *
   generalize ms[k]=y at *
   by_cases hxy:x=y
   ·have hq:(x==y)=true:=by simp[hxy]
    have HN:=Lib.hid (hx1.out hxy)
    clear hxy hx1 hx2
    go_wp2_with fail
    go_quiet (fail)
    go_wp2
    go_roundw
    case rel=>exact⟨k+1,by omega,by go_num,HN.out,HB.out.drewN⟩
    case measure=>simp[intOf];omega
   ·have hq:(x==y)=false:=by simp[hxy]
    have HN:=Lib.hid (hx2.out hxy)
    clear hxy hx1 hx2
    go_wp2_with fail
    go_quiet (fail)
    go_wp2
    go_ret
    exact⟨Zag HN.out.symm,HB.out.drewN⟩
  ·obtain rfl:k=ks.length:=by omega
   have H:Hid (decide (ks=ms)=true):=by
    show _=_
    have:=HT.out
    rw[List.take_length,List.take_of_length_le hm3]at this
    simpa using this
   go_wp2
   go_ret
   exact⟨Zag H.out.symm,HB.out⟩
end Go.Proofs.YtjfmmnhcddckaaaGreat
namespace Go.Proofs.YtjfmmnhcddckaaaGreat
open Go.RowKit Go.Sort
theorem ins_any(a:Option Addr)(cap:Nat)(ks:List Key)(k:Key)(w:World)(hl:RowAt w a 1 Zai ks)(hm:ks.length<=900000):
  Calls Tryz.prog 38 #[.slice a ks.length cap,.string ⟨k.toArray⟩] w fun r w'=>∃a2 cap2,r=.returned (.slice a2 (putK ks k).length cap2)/\RowAt w' a2 1 Zai (putK ks k)/\Below w.heap.size w w':=by
 have HA:=Lib.hid hl
 clear hl
 go_enter Tryz.func38,Tryz.ntmps38
 go_wp2
 go_loopw [5,6,7] (fun s5 d7 i wr=>∃(j:Nat) (d:Bool) (R:List Key),j<=ks.length/\i=.int .i64 j/\d7=.bool d/\R.length<=j+1/\Hid (PutP k ks j d R)/\Hid (Zae wr w.heap.size 9 1 Zai s5 R)/\Hid (Below w.heap.size w wr)) (fun _ _ i _=>ks.length-(intOf i).toNat)
 case atStart=>exact⟨0,false,[],Nat.zero_le _,rfl,rfl,by simp,Zj3 k ks,Za5 _ _ _ _ _,Below.refl _ _⟩
 case round=>
  obtain⟨j,d,R,hj,rfl,rfl,hR,HP,HO,HB⟩:=hrel
  by_cases hlt:j<ks.length
  ·obtain⟨b,o,rfl,c0⟩:=HA.out.str hlt
   have c1:=Zab HB.out c0
   have hji:(j:Int)<(ks.length:Int):=by omega
   have hji0:(0:Int)<=j:=by omega
   have HEQ:Hid (ks[j]=k->putK ks k=ks):=fun h=>by unfold putK;rw[if_pos (by rw[<-h];exact List.getElem_mem hlt)]
   have HLT:Hid (d=false->ks[j]≠k->k<ks[j]->PutP k ks (j+1) true (R++[k]++[ks[j]])):=fun hd h1 h2=>by subst hd;exact putP_lt HP.out hlt h1 h2
   have HGE:Hid (d=false->ks[j]≠k->¬k<ks[j]->PutP k ks (j+1) false (R++[ks[j]])):=fun hd h1 h2=>by subst hd;exact putP_ge HP.out hlt h1 h2
   have HON:Hid (d=true->ks[j]≠k->PutP k ks (j+1) true (R++[ks[j]])):=fun hd h1=>by subst hd;exact putP_on HP.out hlt h1
   have HC:Hid (∀W,Below w.heap.size w W->W.cell? ⟨b,o+j,none⟩=some (.string ⟨ks[j].toArray⟩)):=fun W h=>Zab h c0
   have hbs:=HB.out.size
   have hsz:=(Zaa wr (.cells #[.string ⟨k.toArray⟩] 9)).size
   clear c0
   generalize ks[j]=x at *
   by_cases hx:x=k
   ·have hq:(x==k)=true:=by simp[hx]
    have HE:=Lib.hid (HEQ.out hx)
    have HL2:=Lib.hid (HA.out.later HB.out)
    clear hx HLT HGE HON HEQ
    go_wp2_with fail
    go_ret
    exact⟨some ⟨b,o,none⟩,cap,(by rw[HE.out];rfl),by rw[HE.out];exact HL2.out,HB.out⟩
   ·have hq:(x==k)=false:=by simp[hx]
    have HLT2:=Lib.hid (fun h=>HLT.out h hx)
    have HGE2:=Lib.hid (fun h=>HGE.out h hx)
    have HON2:=Lib.hid (fun h=>HON.out h hx)
    clear hx HLT HGE HON HEQ
    cases d
    ·by_cases hlx:k<x
     ·have HI:=Lib.hid (HLT2.out rfl hlx)
      have hR0:R.length<=j:=by
       rcases HP.out.2 with ⟨_,h,_⟩|⟨h,_⟩
       ·rw[h,List.length_take];omega
       ·cases h
      have hd:Op.bytesLess k x=true:=by rw[bytesLess_eq];simp[hlx]
      clear hlx HLT2 HGE2 HON2
      go_wp2_with (first
       |(at_builtin;refine ZaP (f:=Zai) (n:=1) 30 9 16 (.string ByteArray.empty) Tryz.underlying30 Zcd rfl (by omega) (by omega) Zat rfl _ _ rfl w.heap.size _ (R++[k]) rfl (HO9.out.alloc _) ⟨w9.heap.size,0,none⟩ rfl x (ZaT _) (ZaH w9 (Zai x) _ _ rfl) (by simp;omega) (Nat.le_trans hb9s (Zaa _ _).size) ?_;intro v2 w2 hown2 hb2 _;have HO2:=Lib.hid hown2;have HB2:=Lib.hid (HB9.out.trans (((Zaa w9 (.cells #[.string ⟨x.toArray⟩] 9)).mono hb9s).trans hb2));clear hown2 hb2)
       |(at_builtin;refine ZaP (f:=Zai) (n:=1) 30 9 16 (.string ByteArray.empty) Tryz.underlying30 Zcd rfl (by omega) (by omega) Zat rfl _ _ rfl w.heap.size _ R rfl (HO.out.alloc _) ⟨wr.heap.size,0,none⟩ rfl k (ZaT _) (ZaH wr (Zai k) _ _ rfl) (by omega) (Nat.le_trans hbs (Zaa _ _).size) ?_;intro v9 w9 hown9 hb9 _;have HO9:=Lib.hid hown9;have HB9:=Lib.hid (HB.out.trans (((Zaa wr (.cells #[.string ⟨k.toArray⟩] 9)).mono hbs).trans hb9));have hb9s:=HB9.out.size;have c9:=HC.out w9 HB9.out;clear hown9 hb9))
      go_roundw
      case rel=>exact⟨j+1,true,R++[k]++[x],by omega,by go_num,rfl,by simp;omega,HI.out,HO2.out,HB2.out⟩
      case measure=>simp[intOf];omega
     ·have HI:=Lib.hid (HGE2.out rfl hlx)
      have hR0:R.length<=j:=by
       rcases HP.out.2 with ⟨_,h,_⟩|⟨h,_⟩
       ·rw[h,List.length_take];omega
       ·cases h
      have hd:Op.bytesLess k x=false:=by rw[bytesLess_eq];simp[hlx]
      clear hlx HLT2 HGE2 HON2
      go_wp2_with (at_builtin;refine ZaP (f:=Zai) (n:=1) 30 9 16 (.string ByteArray.empty) Tryz.underlying30 Zcd rfl (by omega) (by omega) Zat rfl _ _ rfl w.heap.size _ R rfl (HO.out.alloc _) ⟨wr.heap.size,0,none⟩ rfl x (ZaT _) (ZaH wr (Zai x) _ _ rfl) (by omega) (Nat.le_trans hbs (Zaa _ _).size) ?_;intro v9 w9 hown9 hb9 _;have HO9:=Lib.hid hown9;have HB9:=Lib.hid (HB.out.trans (((Zaa wr (.cells #[.string ⟨x.toArray⟩] 9)).mono hbs).trans hb9));clear hown9 hb9)
      go_roundw
      case rel=>exact⟨j+1,false,R++[x],by omega,by go_num,rfl,by simp;omega,HI.out,HO9.out,HB9.out⟩
      case measure=>simp[intOf];omega
    ·have HI:=Lib.hid (HON2.out rfl)
     clear HLT2 HGE2 HON2
     go_wp2_with (at_builtin;refine ZaP (f:=Zai) (n:=1) 30 9 16 (.string ByteArray.empty) Tryz.underlying30 Zcd rfl (by omega) (by omega) Zat rfl _ _ rfl w.heap.size _ R rfl (HO.out.alloc _) ⟨wr.heap.size,0,none⟩ rfl x (ZaT _) (ZaH wr (Zai x) _ _ rfl) (by omega) (Nat.le_trans hbs (Zaa _ _).size) ?_;intro v9 w9 hown9 hb9 _;have HO9:=Lib.hid hown9;have HB9:=Lib.hid (HB.out.trans (((Zaa wr (.cells #[.string ⟨x.toArray⟩] 9)).mono hbs).trans hb9));clear hown9 hb9)
     go_roundw
     case rel=>exact⟨j+1,true,R++[x],by omega,by go_num,rfl,by simp;omega,HI.out,HO9.out,HB9.out⟩
     case measure=>simp[intOf];omega
  ·obtain rfl:j=ks.length:=by omega
   have HE:=Lib.hid (Zmw HP.out)
   have hbs:=HB.out.size
   cases d
   ·have HE2:Hid (putK ks k=R++[k]):=HE.out
    go_wp2_with (at_builtin;refine ZaP (f:=Zai) (n:=1) 30 9 16 (.string ByteArray.empty) Tryz.underlying30 Zcd rfl (by omega) (by omega) Zat rfl _ _ rfl w.heap.size _ R rfl (HO.out.alloc _) ⟨wr.heap.size,0,none⟩ rfl k (ZaT _) (ZaH wr (Zai k) _ _ rfl) (by omega) (Nat.le_trans hbs (Zaa _ _).size) ?_;intro v9 w9 hown9 hb9 _;have HO9:=Lib.hid hown9;have HB9:=Lib.hid (HB.out.trans (((Zaa wr (.cells #[.string ⟨k.toArray⟩] 9)).mono hbs).trans hb9));have hb9s:=HB9.out.size;clear hown9 hb9)
    obtain⟨a2,cap2,hv2,hat2,_⟩:=Zae.form HO9.out Zat (by simp;omega)
    subst hv2
    have HT2:=Lib.hid hat2
    clear hat2
    go_wp2_with fail
    go_ret
    exact⟨a2,cap2,(by rw[HE2.out];rfl),by rw[HE2.out];exact HT2.out,HB9.out⟩
   ·have HE2:Hid (putK ks k=R):=HE.out
    obtain⟨a2,cap2,hv2,hat2,_⟩:=Zae.form HO.out Zat (by omega)
    subst hv2
    have HT2:=Lib.hid hat2
    clear hat2
    go_wp2_with fail
    go_ret
    exact⟨a2,⟨cap2,(by rw[HE2.out];rfl)⟩,by rw[HE2.out];exact HT2.out,HB.out⟩
theorem Zgz{ks:List Key}{k:Key}:(putK ks k).length=ks.length↔k∈ks:=by
 unfold putK
 by_cases h:k∈ks
 ·simp[h]
 ·rw[if_neg h,ZiY]
  simp[h]
theorem among_any(a a':Option Addr)(cap cap':Nat)(ks ms:List Key)(w:World)(hl:RowAt w a 1 Zai ks)(hl':RowAt w a' 1 Zai ms)(hm:ks.length<=900000)(hm':ms.length<=900000):
  Calls Tryz.prog 24 #[.slice a ks.length cap,.slice a' ms.length cap'] w fun r w'=>r=.returned (.bool (decide (∀k∈ks,k∈ms)))/\Below w.heap.size w w':=by
 have HL:=Lib.hid hl
 have HL':=Lib.hid hl'
 clear hl hl'
 go_enter Tryz.func24,Tryz.ntmps24
 go_wp2
 go_loopw [5] (fun i wr=>∃j:Nat,j<=ks.length/\i=.int .i64 j/\Hid (∀k∈ks.take j,k∈ms)/\Hid (Below w.heap.size w wr)) (fun i _=>ks.length-(intOf i).toNat)
 case atStart=>exact⟨0,Nat.zero_le _,rfl,(by show ∀k∈ks.take 0,k∈ms;simp),Below.refl _ _⟩
 case round=>
  obtain⟨j,hj,rfl,HT,HB⟩:=hrel
  by_cases hlt:j<ks.length
  ·obtain⟨b,o,rfl,t0⟩:=HL.out.str hlt
   have c0:=Zab HB.out t0
   have HI:=Lib.hid (ins_any a' cap' ms ks[j] wr (HL'.out.later HB.out) hm')
   have HN:Hid (ks[j]∉ms->decide (∀k∈ks,k∈ms)=false):=fun h=>by
    rw[decide_eq_false_iff_not]
    exact fun h2=>h (h2 _ (List.getElem_mem hlt))
   have HY:Hid (ks[j]∈ms->∀k∈ks.take (j+1),k∈ms):=fun h k hk=>by
    rw[List.take_succ_eq_append_getElem hlt,List.mem_append]at hk
    rcases hk with hk|hk
    ·exact HT.out k hk
    ·rw[List.mem_singleton.1 hk];exact h
   clear t0
   generalize ks[j]=x at *
   go_wp2_with fail
   refine HI.out.mono ?_
   rintro r w2⟨a2,cap2,rfl,_,hb2⟩
   have HB2:=Lib.hid (HB.out.trans (hb2.mono HB.out.size))
   clear hb2
   by_cases hx:x∈ms
   ·have hq:(((putK ms x).length:Int) != (ms.length:Int))=false:=by simp[Zgz.2 hx]
    have HN2:=Lib.hid (HY.out hx)
    clear HI
    go_wp2
    go_roundw
    case rel=>exact⟨j+1,by omega,by go_num,HN2,HB2⟩
    case measure=>simp[intOf];omega
   ·have hq:(((putK ms x).length:Int) != (ms.length:Int))=true:=by
     have:=mt Zgz.1 hx
     simp
     omega
    have HN2:=Lib.hid (HN.out hx)
    clear HI
    go_wp2
    go_ret
    exact⟨Zag HN2.out.symm,HB2.out⟩
  ·obtain rfl:j=ks.length:=by omega
   have HY:Hid (decide (∀k∈ks,k∈ms)=true):=by
    have:=HT.out
    rw[List.take_length]at this
    exact decide_eq_true this
   by_cases h0:ks=[]
   ·subst h0
    go_wp2
    go_ret
    exact⟨Zag HY.out.symm,HB.out⟩
   ·have hk0:((ks.length:Int)==0)=false:=by
     rw[beq_eq_false_iff_ne]
     have:=List.length_pos_iff.2 h0
     omega
    have hms:decide (ms=[])=false:=by
     rw[decide_eq_false_iff_not]
     intro e
     obtain⟨k,hk⟩:=List.exists_mem_of_ne_nil ks h0
     have:=(of_decide_eq_true HY.out) k hk
     rw[e]at this
     cases this
    have HS:=Lib.hid (sameK_any a' none cap' 0 ms [] wr (HL'.out.later HB.out) (ZcZ _ _ _ _) (by omega) (by simp))
    rw[hms]at HS
    clear hms h0
    go_wp2_with fail
    refine HS.out.mono ?_
    rintro r w2⟨rfl,hb2⟩
    have HB2:=Lib.hid (HB.out.trans (hb2.mono HB.out.size))
    clear hb2
    go_wp2
    go_ret
    exact⟨Zag HY.out.symm,HB2.out⟩
end Go.Proofs.YtjfmmnhcddckaaaGreat
namespace Go.Proofs.YtjfmmnhcddckaaaGreat
open Go.RowKit
def Zc8(v:Value):List Value:=[v]
theorem Zej(v:Value):(Zc8 v).length=1:=rfl
theorem infoRowK:(Tryz.prog.info? 30).map (fun i=>(i.zero,i.size,i.bytes))=some (some (.slice none 0 0),1,24):=by kernel_rfl
def RowsV(w:World)(B:Nat)(v:Value)(ls:List (List Key)):Prop:=∃es:List Value,Zae w B 30 1 Zc8 v es/\es.length=ls.length/\∀i (h1:i<es.length) (h2:i<ls.length),KeyV w B es[i] ls[i]
theorem rowsV_nil(w:World)(B:Nat):RowsV w B (.slice none 0 0) []:=⟨[],Za5 _ _ _ _ _,rfl,fun _ h1 _=>absurd h1 (Nat.not_lt_zero _)⟩
theorem RowsV.later{w w':World}{B:Nat}{v:Value}{ls:List (List Key)}(h:RowsV w B v ls)(hb:Below w.heap.size w w'):RowsV w' B v ls:=by
 obtain⟨es,h1,h2,h3⟩:=h
 exact⟨es,h1.later hb,h2,fun i a c=>(h3 i a c).later hb⟩
theorem RowsV.onlyS{w w':World}{B:Nat}{v:Value}{ls:List (List Key)}{R:Nat->Prop}(h:RowsV w B v ls)(o:OnlyS R w w')(hR:∀x,B<=x->x<w.heap.size->¬R x):RowsV w' B v ls:=by
 obtain⟨es,h1,h2,h3⟩:=h
 refine⟨es,h1.keepQ fun g hg=>?_,h2,fun i a c=>(h3 i a c).onlyS o hR⟩
 obtain⟨h4,c,h5⟩:=h1.kindQ hg
 have h6:=(Array.getElem?_eq_some_iff.1 h5).1
 exact o.block g h6 (hR g h4 h6)
theorem RowsV.at_{w:World}{B:Nat}{v:Value}{ls:List (List Key)}(h:RowsV w B v ls)(hl:ls.length<=1000):∃a cap,v=.slice a ls.length cap/\∀i (hi:i<ls.length),∃b o a2 c2,a=some ⟨b,o,none⟩/\w.cell? ⟨b,o+i,none⟩=some (.slice a2 ls[i].length c2)/\RowAt w a2 1 Zai ls[i]:=by
 obtain⟨es,h1,h2,h3⟩:=h
 obtain⟨a,cap,e,hr,_⟩:=h1.form Zej (by omega)
 rw[h2]at e
 refine⟨a,cap,e,fun i hi=>?_⟩
 obtain⟨b,o,rfl,hc⟩:=hr.2 (by intro e;simp[e]at h2;omega)
 have h4:=hc i (by omega) 0 _ rfl
 rw[Nat.mul_one,Nat.add_zero]at h4
 obtain⟨a2,c2,e2,hr2⟩:=(h3 i (by omega) hi).form
 rw[e2]at h4
 exact⟨b,o,a2,c2,rfl,h4,hr2⟩
theorem RowsV.atB{w:World}{B:Nat}{v:Value}{ls:List (List Key)}(h:RowsV w B v ls)(hl:ls.length<=1000):∃a cap,v=.slice a ls.length cap/\∀i (hi:i<ls.length),∃b o a2 c2,a=some ⟨b,o,none⟩/\w.cell? ⟨b,o+i,none⟩=some (.slice a2 ls[i].length c2)/\RowAt w a2 1 Zai ls[i]/\ls[i].length<=c2:=by
 obtain⟨es,h1,h2,h3⟩:=h
 obtain⟨a,cap,e,hr,_⟩:=h1.form Zej (by omega)
 rw[h2]at e
 refine⟨a,cap,e,fun i hi=>?_⟩
 obtain⟨b,o,rfl,hc⟩:=hr.2 (by intro e;simp[e]at h2;omega)
 have h4:=hc i (by omega) 0 _ rfl
 rw[Nat.mul_one,Nat.add_zero]at h4
 obtain⟨a2,c2,e2,hr2,hb⟩:=(h3 i (by omega) hi).formB
 rw[e2]at h4
 exact⟨b,o,a2,c2,rfl,h4,hr2,hb⟩
theorem RowsV.more{w w1 w4:World}{B C:Nat}{v v4 x:Value}{ls:List (List Key)}{es:List Value}{ks:List Key}(h1:Zae w B 30 1 Zc8 v es)(h2:es.length=ls.length)(h3:∀i (h1:i<es.length) (h2:i<ls.length),KeyV w B es[i] ls[i])(hx:KeyV w1 C x ks)(hC:B<=C)(hb:Below w.heap.size w w1)(hg:w1.grownBy w4 v.ownBlock)(hv:Zae w4 B 30 1 Zc8 v4 (es++[x])):RowsV w4 B v4 (ls++[ks]):=by
 have hkv:∀{l:List Key} {u:Value},KeyV w1 B u l->KeyV w4 B u l:=fun {l u} hu=>hu.keep fun g c _ hc=>hg.block g (Array.getElem?_eq_some_iff.1 hc).1 fun e=>by
  obtain⟨_,d,hd⟩:=(h1.later hb).kindQ e.symm
  rw[hc]at hd;injection hd with hd;injection hd with _ hd
  exact absurd hd (by decide)
 refine⟨es++[x],hv,by simp[h2],fun i a c=>?_⟩
 by_cases e:i<es.length
 ·rw[List.getElem_append_left e,List.getElem_append_left (by omega)]
  exact hkv ((h3 i e (by omega)).later hb)
 ·have e2:i=es.length:=by simp at a;omega
  subst e2
  rw[List.getElem_append_right (by omega),List.getElem_append_right (by omega)]
  simpa using hkv (hx.lower hC)
def keysL(W:Nat)(m:Mac):List (List Key):=(List.range W).map m.keys
theorem ZaF(W:Nat)(m:Mac):(keysL W m).length=W:=by simp[keysL]
theorem ZeO{W:Nat}{m:Mac}{i:Nat}(h:i<(keysL W m).length):(keysL W m)[i]=m.keys i:=by simp[keysL]
theorem Zd4(W:Nat)(m:Mac):(keysL W m).flatten=keysM W m.keys:=by
 unfold keysL keysM
 rw[List.flatMap_def]
section
variable{I:MachI}{w wr w':World}{B b W Bud:Nat}{p:Pg}{fuel:Int}{S:Nat->Prop}{m:Mac}
theorem MachI.later(I:MachI)(h:I.MM w B b p fuel W Bud S m)(hb:Below w.heap.size w w'):I.MM w' B b p fuel W Bud S m:=I.only (R:=fun _=>False) h (OnlyS.of_below hb) fun _ _ h=>h
theorem Zhg(I:MachI){w:World}{B b W Bud:Nat}{p:Pg}{fuel:Int}{S:Nat->Prop}{m:Mac}(h:I.MM w B b p fuel W Bud S m)(hg:GoodM p fuel W Bud m):
  Calls Tryz.prog 17 #[.pointer (some ⟨b,0,none⟩)] w fun r w'=>∃v,r=.returned v/\RowsV w' w.heap.size v (keysL W m)/\Below w.heap.size w w':=by
 have HM:=Lib.hid h
 have HG:=Lib.hid hg
 have hW:=hg.few
 have HWK:=Lib.hid (I.workers h)
 clear h hg
 go_enter Tryz.func17,Tryz.ntmps17
 go_wp2_with fail
 refine HWK.out.mono ?_
 rintro r w2⟨rfl,i,rfl⟩
 have HB2:Hid (Below w.heap.size w (w.drewN i)):=(Below.refl _ _).drewN
 have HR2:Hid (RowsV (w.drewN i) w.heap.size (.slice none 0 0) ((keysL W m).take 0)):=rowsV_nil _ _
 generalize w.drewN i=w2 at *
 go_wp2_with fail
 go_loopw [3,4,7] (fun v _ i wr=>∃j:Nat,j<=W/\i=.int .i64 j/\Hid (RowsV wr w.heap.size v ((keysL W m).take j))/\Hid (Below w.heap.size w wr)) (fun _ _ i _=>W-(intOf i).toNat)
 case atStart=>exact⟨0,Nat.zero_le _,rfl,HR2,HB2⟩
 case round=>
  clear HR2 HB2
  obtain⟨j,hj,rfl,HR,HB⟩:=hrel
  by_cases hlt:j<W
  ·have HK:=Lib.hid (I.keys (j:Int) (MachI.later I HM.out HB.out) HG.out)
   obtain⟨es,h1,h2,h3⟩:=HR.out
   have hjl:((keysL W m).take j).length=j:=by rw[List.length_take,ZaF];omega
   have HE1:Hid (∀w1,Below wr.heap.size wr w1->Zae w1 w.heap.size 30 1 Zc8 u3 es/\w.heap.size<=w1.heap.size):=fun w1 hb=>⟨h1.later hb,Nat.le_trans HB.out.size hb.size⟩
   have hel:es.length<=1000000:=by omega
   have HEL:=Lib.hid hel
   have hkj:keysI W (j:Int) m=(keysL W m)[j]'(by rw[ZaF];exact hlt):=by
    rw[ZeO]
    unfold keysI
    rw[if_pos ⟨by omega,by omega⟩,Int.toNat_natCast]
   have HNX:Hid (∀x w1 v4 w4,KeyV w1 wr.heap.size x (keysI W (j:Int) m)->Below wr.heap.size wr w1->Zae w4 w.heap.size 30 1 Zc8 v4 (es++[x])->(w1.alloc (.cells #[x] 30)).grownBy w4 u3.ownBlock->RowsV w4 w.heap.size v4 ((keysL W m).take (j+1))/\Below w.heap.size w w4):=fun x w1 v4 w4 hx hb1 hv hgr=>by
    have hb2:Below wr.heap.size wr (w1.alloc (.cells #[x] 30)):=hb1.alloc hb1.size _
    have hb3:=HB.out.trans (hb2.mono HB.out.size)
    refine⟨?_,hb3.grown hgr hb3.size fun k hk=>(World.ownsRow.lt h1 k hk).1⟩
    rw[List.take_succ_eq_append_getElem (by rw[ZaF];exact hlt),<-hkj]
    exact RowsV.more h1 h2 h3 (hx.later (Zaa w1 _)) HB.out.size hb2 hgr hv
   clear h1 h2 h3 hjl hel hkj
   go_wp2_with fail
   refine HK.out.mono ?_
   rintro r w1⟨x,rfl,hx,hb1⟩
   have HX:=Lib.hid hx
   have HB1:=Lib.hid hb1
   obtain⟨hr2,hz2⟩:=HE1.out _ (hb1.alloc hb1.size (.cells #[x] 30))
   obtain⟨a2,c2,rfl,_⟩:=hx.form
   clear hx hb1
   go_wp2_with (at_builtin;refine ZaP (f:=Zc8) (n:=1) 42 30 24 (.slice none 0 0) Tryz.underlying42 infoRowK rfl (by omega) (by omega) Zej rfl _ _ rfl w.heap.size _ es rfl hr2 ⟨w1.heap.size,0,none⟩ rfl (.slice a2 (keysI W (j:Int) m).length c2) (by simp[Zc8,Value.oneCell']) (ZaH w1 (Zc8 _) _ _ rfl) HEL.out hz2 ?_;intro v4 w4 hown4 _ hg4;obtain⟨hr4,hb4⟩:=HNX.out _ w1 v4 w4 HX.out HB1.out hown4 hg4;have HR4:=Lib.hid hr4;have HB4:=Lib.hid hb4;clear hr4 hb4 hown4 hg4)
   go_roundw
   case rel=>exact⟨j+1,by omega,by go_num,HR4,HB4⟩
   case measure=>simp[intOf];omega
  ·obtain rfl:j=W:=by omega
   have HF:Hid (RowsV wr w.heap.size u3 (keysL j m)):=by
    have:=HR.out
    rw[List.take_of_length_le (by rw[ZaF];omega)]at this
    exact this
   clear HR
   go_wp2
   go_ret
   exact⟨_,rfl,HF.out,HB.out⟩
end
def gatK(ls:List (List Key))(i j:Nat):List Key:=(ls.take i).flatten++(ls.getD i []).take j
theorem ZgV(ls:List (List Key)):gatK ls 0 0=[]:=by simp[gatK]
theorem gatK_more{ls:List (List Key)}{i j:Nat}(hi:i<ls.length)(hj:j<ls[i].length):gatK ls i (j+1)=gatK ls i j++[ls[i][j]]:=by
 have e:ls.getD i []=ls[i]:=by simp[List.getD,hi]
 unfold gatK
 rw[e,List.take_succ_eq_append_getElem hj,List.append_assoc]
theorem gatK_next{ls:List (List Key)}{i:Nat}(hi:i<ls.length):gatK ls i ls[i].length=gatK ls (i+1) 0:=by
 have e:ls.getD i []=ls[i]:=by simp[List.getD,hi]
 unfold gatK
 rw[e,List.take_length,List.take_succ_eq_append_getElem hi]
 simp only[List.flatten_append,List.flatten_cons,List.flatten_nil,List.append_nil,List.take_zero]
theorem gatK_end(ls:List (List Key)):gatK ls ls.length 0=ls.flatten:=by simp[gatK]
theorem gatK_le(ls:List (List Key))(i j:Nat):(gatK ls i j).length<=ls.flatten.length:=by
 unfold gatK
 have h1:ls=ls.take i++ls.drop i:=(List.take_append_drop i ls).symm
 have h2:ls.flatten.length=(ls.take i).flatten.length+(ls.drop i).flatten.length:=by
  rw[<-List.length_append,<-List.flatten_append,List.take_append_drop]
 rw[List.length_append,h2]
 have h3:((ls.getD i []).take j).length<=(ls.drop i).flatten.length:=by
  by_cases h:i<ls.length
  ·have e:ls.getD i []=ls[i]:=by simp[List.getD,h]
   rw[e,List.drop_eq_getElem_cons h,List.flatten_cons,List.length_append,List.length_take]
   omega
  ·have e:ls.getD i []=[]:=by simp[List.getD,h]
   rw[e]
   simp
 omega
theorem putK_fold(l:List Key)(k:Key):(l++[k]).foldl putK []=putK (l.foldl putK []) k:=by
 rw[List.foldl_append]
 rfl
theorem sortK_le(l:List Key):(l.foldl putK []).length<=l.length:=by
 have key:∀(l acc:List Key),(l.foldl putK acc).length<=acc.length+l.length:=by
  intro l
  induction l with
  |nil=>intro acc;simp
  |cons k l ih=>
   intro acc
   rw[List.foldl_cons]
   have h1:=ih (putK acc k)
   have h2:=Zmx acc k
   rw[List.length_cons]
   omega
 have:=key l []
 simpa using this
theorem Zh1{w:World}{B:Nat}{a:Option Addr}{cap:Nat}{ls:List (List Key)}(h:RowsV w B (.slice a ls.length cap) ls)(hl:ls.length<=1000)(hf:ls.flatten.length<=100000):
  Calls Tryz.prog 16 #[.slice a ls.length cap] w fun r w'=>∃ka kc,r=.returned (.tuple #[.slice ka (sortK ls.flatten).length kc,.bool (decide ((sortK ls.flatten).length=ls.flatten.length))])/\RowAt w' ka 1 Zai (sortK ls.flatten)/\Below w.heap.size w w':=by
 have HAT:Hid (∀wr,Below w.heap.size w wr->∀i (hi:i<ls.length),∃b o a2 c2,a=some ⟨b,o,none⟩/\wr.cell? ⟨b,o+i,none⟩=some (.slice a2 ls[i].length c2)/\RowAt wr a2 1 Zai ls[i]):=fun wr hb i hi=>by
  obtain⟨a',cap',e,h2⟩:=(h.later hb).at_ hl
  injection e with e1 _ e3
  subst e1 e3
  exact h2 i hi
 have HFL:=Lib.hid hf
 clear h hf
 go_enter Tryz.func16,Tryz.ntmps16
 go_wp2_with fail
 go_loopw [4,5,6,7] (fun v c i _ wr=>∃(u m:Nat) (ka:Option Addr) (kc n:Nat),u<=ls.length/\i=.int .i64 u/\c=.int .i64 m/\v=.slice ka n kc/\m<=100000/\n<=100000/\Hid (n=((gatK ls u 0).foldl putK []).length)/\Hid ((gatK ls u 0).length=m)/\Hid (RowAt wr ka 1 Zai ((gatK ls u 0).foldl putK []))/\Hid (Below w.heap.size w wr)) (fun _ _ i _ _=>ls.length-(intOf i).toNat)
 case atStart=>exact⟨0,0,none,0,0,Nat.zero_le _,rfl,rfl,rfl,by omega,by omega,(by show 0=_;rw[ZgV];rfl),(by show _=0;rw[ZgV];rfl),(by show RowAt _ _ _ _ _;rw[ZgV];exact ZcZ _ _ _ _),Below.refl _ _⟩
 case round=>
  obtain⟨u,m,ka,kc,n,hu,rfl,rfl,rfl,hm,hn,HN,HM,HR,HB⟩:=hrel
  by_cases hut:u<ls.length
  ·have HE:Hid (gatK ls u ls[u].length=gatK ls (u+1) 0):=gatK_next hut
   have HGM:Hid (∀j (hj:j<ls[u].length),gatK ls u (j+1)=gatK ls u j++[ls[u][j]]):=fun j hj=>gatK_more hut hj
   have HAU:Hid (∀wr,Below w.heap.size w wr->∃b o a2 c2,a=some ⟨b,o,none⟩/\wr.cell? ⟨b,o+u,none⟩=some (.slice a2 ls[u].length c2)/\RowAt wr a2 1 Zai ls[u]):=fun wr hb=>HAT.out wr hb u hut
   have hul:ls[u].length<=100000:=by
    have h1:=gatK_le ls (u+1) 0
    rw[<-HE.out]at h1
    have h2:ls[u].length<=(gatK ls u ls[u].length).length:=by
     have e:ls.getD u []=ls[u]:=by simp[List.getD,hut]
     unfold gatK
     rw[e,List.length_append,List.take_length]
     omega
    have:=HFL.out
    omega
   have HGL:Hid (∀j,(gatK ls u j).length<=100000):=fun j=>Nat.le_trans (gatK_le ls u j) HFL.out
   generalize ls[u]=l at *
   go_wp2_with fail
   go_loopw [4,5,7] (fun v c i wr=>∃(j m:Nat) (ka:Option Addr) (kc n:Nat),j<=l.length/\i=.int .i64 j/\c=.int .i64 m/\v=.slice ka n kc/\m<=100000/\n<=100000/\Hid (n=((gatK ls u j).foldl putK []).length)/\Hid ((gatK ls u j).length=m)/\Hid (RowAt wr ka 1 Zai ((gatK ls u j).foldl putK []))/\Hid (Below w.heap.size w wr)) (fun _ _ i _=>l.length-(intOf i).toNat)
   case atStart=>exact⟨0,m,ka,kc,n,Nat.zero_le _,rfl,rfl,rfl,hm,hn,HN,HM,HR,HB⟩
   case round=>
    clear HN HM HR HB hm hn
    obtain⟨j,m,ka,kc,n,hj,rfl,rfl,rfl,hm,hn,HN,HM,HR,HB⟩:=hrel
    obtain⟨b,o,a2,c2,rfl,c0,hrow⟩:=HAU.out _ HB.out
    by_cases hjt:j<l.length
    ·obtain⟨b2,o2,rfl,c1⟩:=hrow.str hjt
     have hI:=ins_any ka kc ((gatK ls u j).foldl putK []) l[j] wr HR.out (by rw[<-HN.out];omega)
     rw[<-HN.out,<-putK_fold,<-HGM.out j hjt]at hI
     have HI:=Lib.hid hI
     have hm2:m+1<=100000:=by
      have:=HGL.out (j+1)
      rw[HGM.out j hjt,List.length_append,HM.out]at this
      exact this
     have HM2:Hid ((gatK ls u (j+1)).length=m+1):=by
      show _=_
      rw[HGM.out j hjt,List.length_append,HM.out]
      rfl
     obtain⟨n2,hn2⟩:∃n2,n2=((gatK ls u (j+1)).foldl putK []).length:=⟨_,rfl⟩
     have hn3:n2<=100000:=by
      have:=sortK_le (gatK ls u (j+1))
      have:=HGL.out (j+1)
      omega
     have HN2:=Lib.hid hn2
     rw[<-hn2]at HI
     clear hrow hI HN HM HR hn2
     generalize l[j]=x at *
     go_wp2_with fail
     refine HI.out.mono ?_
     rintro r w3⟨a3,c3,rfl,hr3,hb3⟩
     have HR3:=Lib.hid hr3
     have HB3:=Lib.hid (HB.out.trans (hb3.mono HB.out.size))
     clear hr3 hb3 HI c0 c1
     go_wp2_with fail
     go_roundw
     case rel=>exact⟨j+1,m+1,a3,c3,n2,by omega,by go_num,by go_num,rfl,hm2,hn3,HN2,HM2,HR3,HB3⟩
     case measure=>simp[intOf];omega
    ·obtain rfl:j=l.length:=by omega
     have HN':=HN
     have HM':=HM
     have HR':=HR
     rw[HE.out]at HN' HM' HR'
     clear HN HM HR hrow
     go_wp2_with fail
     go_roundw
     case rel=>exact⟨u+1,m,ka,kc,n,by omega,by go_num,rfl,rfl,hm,hn,HN',HM',HR',HB⟩
     case measure=>simp[intOf];omega
  ·obtain rfl:u=ls.length:=by omega
   have HN':=HN
   have HM':=HM
   have HR':=HR
   rw[gatK_end]at HN' HM' HR'
   rw[ZdE]at HN' HR'
   have hd:((n:Int)==(m:Int))=decide ((sortK ls.flatten).length=ls.flatten.length):=by
    rw[HN'.out,HM'.out]
    by_cases e:(sortK ls.flatten).length=m
    ·simp[e]
    ·have e2:(((sortK ls.flatten).length:Int)==(m:Int))=false:=by rw[beq_eq_false_iff_ne];omega
     rw[e2,decide_eq_false e]
   have HD:=Lib.hid hd
   clear hd HN HM HR
   go_wp2
   refine bodyPost_ret (v:=.tuple #[.slice ka n kc,.bool ((n:Int)==(m:Int))]) (by simp[results,Tryz.results16,go_sem]) rfl ?_
   exact⟨ka,kc,by rw[HD.out,HN'.out],HR'.out,HB.out⟩
structure KM(w:World)(B kb W:Nat)(vs:Nat->Value)(keys:Nat->List Key):Prop where
 low:B<=w.heap.size
 lowk:B<=kb
 row:∃cs,w.heap[kb]?=some (.cells cs 30 (0,0))/\cs.size=W/\∀j,j<W->cs[j]?=some (vs j)
 own:∀j,j<W->Zae w B 9 1 Zai (vs j) (keys j)
 apart:∀i j,i<W->j<W->i≠j->∀g,(vs i).ownBlock=some g->(vs j).ownBlock≠some g
def KB(kb W:Nat)(vs:Nat->Value)(x:Nat):Prop:=x=kb∨∃j,j<W/\(vs j).ownBlock=some x
section
variable{w w' w1:World}{B kb W j:Nat}{vs:Nat->Value}{keys:Nat->List Key}{R:Nat->Prop}{k:Key}{v':Value}
theorem KM.kinds(q:KM w B kb W vs keys){x:Nat}(hx:KB kb W vs x):B<=x/\∃c ty,w.heap[x]?=some (.cells c ty (0,0))/\(ty=30∨ty=9):=by
 rcases hx with rfl|⟨j,hj,hx⟩
 ·obtain⟨cs,h1,_⟩:=q.row
  exact⟨q.lowk,cs,_,h1,.inl rfl⟩
 ·obtain⟨h1,c,h2⟩:=(q.own j hj).kind hx
  exact⟨h1,c,_,h2,.inr rfl⟩
theorem KM.lt(q:KM w B kb W vs keys){x:Nat}(hx:KB kb W vs x):x<w.heap.size:=by
 obtain⟨_,c,ty,e,_⟩:=q.kinds hx
 exact(Array.getElem?_eq_some_iff.1 e).1
theorem KM.not_row(q:KM w B kb W vs keys){g:Nat}{c:Array Value}{ty:TypeId}(h:w.heap[g]?=some (.cells c ty (0,0)))(h1:ty≠30)(h2:ty≠9):¬KB kb W vs g:=fun hx=>by
 obtain⟨_,c',ty',e,e2⟩:=q.kinds hx
 rw[h]at e;injection e with e;injection e with _ e
 rcases e2 with rfl|rfl
 ·exact h1 e
 ·exact h2 e
theorem KM.onlyS(q:KM w B kb W vs keys)(o:OnlyS R w w')(hR:∀x,KB kb W vs x->¬R x):KM w' B kb W vs keys:=by
 obtain⟨cs,h1,h2⟩:=q.row
 exact⟨Nat.le_trans q.low o.size,q.lowk,⟨cs,o.row h1 (hR _ (.inl rfl)),h2⟩,fun j hj=>(q.own j hj).onlyS o fun g hg=>hR g (.inr ⟨j,hj,hg⟩),q.apart⟩
theorem KM.later(q:KM w B kb W vs keys)(hb:Below w.heap.size w w'):KM w' B kb W vs keys:=q.onlyS (R:=fun _=>False) (OnlyS.of_below hb) fun _ _ h=>h
theorem KM.cell(q:KM w B kb W vs keys)(hj:j<W):w.cell? ⟨kb,j,none⟩=some (vs j):=by
 obtain⟨cs,h1,_,h2⟩:=q.row
 rw[cell_of_row w kb j _ _ _ h1,h2 j hj]
theorem KM.start{W:Nat}(hB:B<=kb)(h:w.heap[kb]?=some (.cells (madeCells #[.slice none 0 0] W) 30 (0,0))):KM w B kb W (fun _=>.slice none 0 0) (fun _=>[]):=by
 refine⟨Nat.le_trans hB (Nat.le_of_lt (Array.getElem?_eq_some_iff.1 h).1),hB,⟨_,h,by simp[madeCells],fun j hj=>?_⟩,fun j _=>Za5 _ _ _ _ _,fun i j _ _ _ g hg=>by simp[Value.ownBlock]at hg⟩
 simp[madeCells,hj,Nat.mod_one]
theorem KM.append(q:KM w B kb W vs keys)(hj:j<W)(hown:Zae w1 B 9 1 Zai v' (keys j++[k]))(hg:w.grownBy w1 (vs j).ownBlock)(hk:v'.ownBlock=(vs j).ownBlock∨v'.ownBlock=some w.heap.size):
  w1.cell? ⟨kb,j,none⟩=some (vs j)/\w1.frozen? ⟨kb,j,none⟩=false/\KM (w1.setCell ⟨kb,j,none⟩ v') B kb W (updF vs j v') (updF keys j (keys j++[k]))/\OnlyS (KB kb W vs) w (w1.setCell ⟨kb,j,none⟩ v')/\∀x,KB kb W (updF vs j v') x->KB kb W vs x∨w.heap.size<=x:=by
 have o1:OnlyS (fun y=>(vs j).ownBlock=some y) w w1:=⟨hg.os,hg.tape,hg.output,hg.size,fun x hx hn=>hg.block x hx fun e=>hn e.symm⟩
 obtain⟨cs,h1,hsz,h2⟩:=q.row
 have hkb:∀i,i<W->(vs i).ownBlock≠some kb:=fun i hi e=>by
  obtain⟨_,c,e2⟩:=(q.own i hi).kind e
  rw[h1]at e2;injection e2 with e2;injection e2 with _ e2
  exact absurd e2 (by decide)
 have h3:w1.heap[kb]?=some (.cells cs 30 (0,0)):=o1.row h1 fun e=>hkb j hj e
 have hkb1:v'.ownBlock≠some kb:=fun e=>by
  obtain⟨_,c,e2⟩:=hown.kind e
  rw[h3]at e2;injection e2 with e2;injection e2 with _ e2
  exact absurd e2 (by decide)
 have o2:OnlyS (fun y=>y=kb) w1 (w1.setCell ⟨kb,j,none⟩ v'):=(OnlyS.refl (fun y=>y=kb) w1).setCell (p:=⟨kb,j,none⟩) rfl _
 have hnew:∀g,v'.ownBlock=some g->(vs j).ownBlock=some g∨g=w.heap.size:=fun g hgv=>by
  rcases hk with e|e
  ·exact .inl (e▸hgv)
  ·rw[e]at hgv;injection hgv with e2;exact .inr e2.symm
 refine⟨?_,?_,⟨?_,q.lowk,⟨cs.set! j v',?_,by simp[hsz],fun i hi=>?_⟩,fun i hi=>?_,fun a b ha hb hab g hga hgb=>?_⟩,?_,fun x hx=>?_⟩
 ·rw[cell_of_row w1 kb j _ _ _ h3,h2 j hj]
 ·unfold World.frozen?
  dsimp only
  rw[h3]
  rfl
 ·exact Nat.le_trans q.low (Nat.le_trans hg.size o2.size)
 ·rw[heap_setCell_same w1 kb j _ _ _ h3]
  simp
 ·by_cases e:i=j
  ·subst e
   rw[Zac]
   simp[hsz,hi]
  ·rw[Zad _ _ e,<-h2 i hi]
   simp[Ne.symm e]
 ·by_cases e:i=j
  ·subst e
   rw[Zac,Zac]
   exact hown.onlyS o2 fun g hgv e2=>hkb1 (by rw[hgv,e2])
  ·rw[Zad _ _ e,Zad _ _ e]
   refine((q.own i hi).onlyS o1 fun g hgv e2=>?_).onlyS o2 fun g hgv e2=>hkb i hi (by rw[hgv,e2])
   exact q.apart i j hi hj e g hgv e2
 ·by_cases ea:a=j
  ·subst ea
   rw[Zac]at hga
   rw[Zad _ _ (Ne.symm hab)]at hgb
   rcases hnew g hga with h4|h4
   ·exact q.apart a b ha hb hab g h4 hgb
   ·have:=q.lt (.inr ⟨b,hb,hgb⟩);omega
  ·rw[Zad _ _ ea]at hga
   by_cases eb:b=j
   ·subst eb
    rw[Zac]at hgb
    rcases hnew g hgb with h4|h4
    ·exact q.apart a b ha hb hab g hga h4
    ·have:=q.lt (.inr ⟨a,ha,hga⟩);omega
   ·rw[Zad _ _ eb]at hgb
    exact q.apart a b ha hb hab g hga hgb
 ·exact(o1.mono fun x _ hx=>.inr ⟨j,hj,hx⟩).thenS o2 fun x _ hx=>.inl hx
 ·rcases hx with rfl|⟨i,hi,hx⟩
  ·exact .inl (.inl rfl)
  ·by_cases e:i=j
   ·subst e
    rw[Zac]at hx
    rcases hnew x hx with h4|h4
    ·exact .inl (.inr ⟨i,hi,h4⟩)
    ·exact .inr (Nat.le_of_eq h4.symm)
   ·rw[Zad _ _ e]at hx
    exact .inl (.inr ⟨i,hi,hx⟩)
end
end Go.Proofs.YtjfmmnhcddckaaaGreat
namespace Go.Proofs.YtjfmmnhcddckaaaGreat
theorem good_parts{p:Pg}{fuel:Int}(h:Zam p fuel=true):Zal p=true/\0<=fuel/\fuel<=8:=by
 unfold Zam at h
 rw[Bool.and_eq_true,decide_eq_true_eq]at h
 exact h
section
variable{p:Pg}{fuel:Int}{W w B:Nat}{m:Mac}{T:List Nd}
theorem Zgv{k:Pfx}{e:Int}{es:List Ev}{s:St}(h:rep p fuel (rowK k)=(e,es,some s)):k.length<=33:=by
 have h1:=ZeD h
 have h2:=Zld p fuel (rowK k)
 rw[h]at h2
 have h3:=ZeD h2
 have h4:(rowK k).length=k.length:=by simp[rowK]
 rw[List.length_take,h4]at h3
 omega
theorem Zfc{l:List TNd}(h:TrOk p fuel l){n:TNd}(hn:n∈l):n.pre.length<=33:=by
 obtain⟨es,s,hr,_⟩:=h.row n hn
 exact Zgv hr
theorem left_short{l:List TNd}(h:TrOk p fuel l){q:Pfx}(hq:leftT l q≠0):q.length<=33:=by
 obtain⟨n,hn,e,_⟩:=Zc5 hq
 rw[<-e]
 exact Zfc h hn
theorem Zmf{l:List TNd}{wk:Nat->List Txt}(hno:NoW W wk)(hw:∀q,(∃w,w<W/\q∈wk w)->leftT l q≠0):totW W wk<=l.length:=by
 rw[<-Zck,<-List.length_map (f:=TNd.pre)]
 refine ZgH hno fun q hq=>?_
 obtain⟨v,hv,hqv⟩:=ZeR.1 (Zcf.1 hq)
 obtain⟨n,hn,e,_⟩:=Zc5 (hw q ⟨v,hv,hqv⟩)
 exact List.mem_map.2 ⟨n,hn,e⟩
theorem cost_pend:pendM W m.box<=costM p fuel W m:=Nat.le_add_right _ _
theorem cost_new(hg:Zam p fuel=true)(hle:preW p fuel<=600)(hW:0<W)(hB:1<=B):costM p fuel W (newM p fuel W)<=80400:=by
 have h1:=(new_cost (W:=W) (B:=B) hg hW hB).1
 obtain⟨h2,h3,h4⟩:=good_parts hg
 have hT4:p.threads.length<=4:=by
  unfold Zal at h2
  rw[Bool.and_eq_true,decide_eq_true_eq]at h2
  omega
 have h5:p.threads.length*(p.threads.length*fuel.toNat)<=4*(4*8):=Nat.mul_le_mul hT4 (Nat.mul_le_mul hT4 (by omega))
 have h6:=Nat.mul_le_mul (Nat.add_le_add_right h5 6) hle
 omega
theorem cost_step(hg:Zam p fuel=true)(hW:0<W)(h:InvM p fuel W B m T)(hw:w<W)(d:Int):costM p fuel W (stepM p fuel W B w d m).2<=costM p fuel W m:=(Zhz hg hW h hw d).2
end
end Go.Proofs.YtjfmmnhcddckaaaGreat
namespace Go.Proofs.YtjfmmnhcddckaaaGreat
open Go.RowKit
abbrev mcA(tb mb wb kb W:Nat)(Bud blk:Nat)(over:Bool):Array Value:=#[.pointer (some ⟨tb,0,none⟩),.pointer (some ⟨mb,0,none⟩),.pointer (some ⟨wb,0,none⟩),.slice (some ⟨kb,0,none⟩) W W,.int .i64 (Bud:Int),.bool over,.int .i64 (blk:Int)]
structure MX(p:Pg)(fuel:Int)(B b W Bud tb mb wb kb:Nat)(vs:Nat->Value)(Sp:Nat->Prop)(m:Mac)(w:World):Prop where
 lowb:B<=b
 box:w.heap[b]?=some (.cells (mcA tb mb wb kb W Bud m.blk m.over) 79 (0,0))
 pm:PM p fuel w B tb mb wb W Sp m
 km:KM w B kb W vs m.keys
 pk:∀x,Sp x->¬KB kb W vs x
 pb:¬Sp b
def MY(p:Pg)(fuel:Int)(B b W Bud tb mb wb kb:Nat)(S:Nat->Prop)(m:Mac)(w:World):Prop:=∃vs Sp,MX p fuel B b W Bud tb mb wb kb vs Sp m w/\∀x,S x↔(Sp x∨KB kb W vs x∨x=b)
def MYR(p:Pg)(fuel:Int)(B b W Bud tb mb wb kb:Nat)(S:Nat->Prop)(m:Mac)(w w':World):Prop:=∃S',MY p fuel B b W Bud tb mb wb kb S' m w'/\OnlyS S w w'/\∀x,S' x->S x∨w.heap.size<=x
section
variable{p:Pg}{fuel:Int}{B b W Bud tb mb wb kb j:Nat}{vs:Nat->Value}{Sp S R:Nat->Prop}{m m':Mac}{w w' w1:World}{k:Key}{v':Value}
theorem MX.notKB(h:MX p fuel B b W Bud tb mb wb kb vs Sp m w):¬KB kb W vs b:=h.km.not_row h.box (by decide) (by decide)
theorem MY.low(h:MY p fuel B b W Bud tb mb wb kb S m w):B<=w.heap.size/\∀x,S x->B<=x/\x<w.heap.size:=by
 obtain⟨vs,Sp,h,hS⟩:=h
 refine⟨h.km.low,fun x hx=>?_⟩
 rcases (hS x).1 hx with h1|h1|h1
 ·exact h.pm.low.2 x h1
 ·exact⟨(h.km.kinds h1).1,h.km.lt h1⟩
 ·subst h1
  exact⟨h.lowb,(Array.getElem?_eq_some_iff.1 h.box).1⟩
theorem MY.only(h:MY p fuel B b W Bud tb mb wb kb S m w)(o:OnlyS R w w')(hR:∀x,S x->¬R x):MY p fuel B b W Bud tb mb wb kb S m w':=by
 obtain⟨vs,Sp,h,hS⟩:=h
 exact⟨vs,Sp,⟨h.lowb,o.row h.box (hR b ((hS b).2 (.inr (.inr rfl)))),h.pm.only o fun x hx=>hR x ((hS x).2 (.inl hx)),h.km.onlyS o fun x hx=>hR x ((hS x).2 (.inr (.inl hx))),h.pk,h.pb⟩,hS⟩
theorem MY.later(h:MY p fuel B b W Bud tb mb wb kb S m w)(hb:Below w.heap.size w w'):MY p fuel B b W Bud tb mb wb kb S m w':=h.only (R:=fun _=>False) (OnlyS.of_below hb) fun _ _ h=>h
theorem MY.cells(h:MY p fuel B b W Bud tb mb wb kb S m w):(w.cell? ⟨b,0,none⟩=some (.pointer (some ⟨tb,0,none⟩))/\w.cell? ⟨b,1,none⟩=some (.pointer (some ⟨mb,0,none⟩))/\w.cell? ⟨b,2,none⟩=some (.pointer (some ⟨wb,0,none⟩))/\w.cell? ⟨b,3,none⟩=some (.slice (some ⟨kb,0,none⟩) W W)/\w.cell? ⟨b,4,none⟩=some (.int .i64 (Bud:Int))/\w.cell? ⟨b,5,none⟩=some (.bool m.over)/\w.cell? ⟨b,6,none⟩=some (.int .i64 (m.blk:Int)))/\∀i,w.frozen? ⟨b,i,none⟩=false:=by
 obtain⟨vs,Sp,h,hS⟩:=h
 have c:=fun i=>cell_of_row w b i _ _ _ h.box
 refine⟨⟨?_,?_,?_,?_,?_,?_,?_⟩,fun i=>?_⟩
 all_goals first|(rw[c];rfl)|(unfold World.frozen?;dsimp only;rw[h.box];rfl)
theorem MY.keysOwn(h:MY p fuel B b W Bud tb mb wb kb S m w)(hj:j<W):∃v,w.cell? ⟨kb,j,none⟩=some v/\Zae w B 9 1 Zai v (m.keys j)/\B<=w.heap.size:=by
 obtain⟨vs,Sp,h,hS⟩:=h
 exact⟨_,h.km.cell hj,h.km.own j hj,h.km.low⟩
theorem MY.parts(h:MY p fuel B b W Bud tb mb wb kb S m w){F:FuncId}{args:Array Value}{V:Ending->Prop}(hc:∀Sp,PM p fuel w B tb mb wb W Sp m->Calls Tryz.prog F args w fun r w'=>V r/\PMR p fuel B tb mb wb W Sp m' w w')(e0:m'.keys=m.keys)(e1:m'.blk=m.blk)(e2:m'.over=m.over):
  Calls Tryz.prog F args w fun r w'=>V r/\MYR p fuel B b W Bud tb mb wb kb S m' w w':=by
 obtain⟨vs,Sp,h,hS⟩:=h
 refine(hc Sp h.pm).mono fun r w' ⟨e,Sp',h1,o,h3⟩=>⟨e,fun x=>Sp' x∨KB kb W vs x∨x=b,⟨vs,Sp',⟨h.lowb,?_,h1,?_,fun x hx hk=>?_,fun hx=>?_⟩,fun _=>Iff.rfl⟩,o.mono fun x _ hx=>(hS x).2 (.inl hx),fun x hx=>?_⟩
 ·rw[e1,e2]
  exact o.row h.box h.pb
 ·rw[e0]
  exact h.km.onlyS o fun x hk hs=>h.pk x hs hk
 ·rcases h3 x hx with h4|h4
  ·exact h.pk x h4 hk
  ·have:=h.km.lt hk;omega
 ·rcases h3 b hx with h4|h4
  ·exact h.pb h4
  ·have:=(Array.getElem?_eq_some_iff.1 h.box).1;omega
 ·rcases hx with hx|hx|hx
  ·rcases h3 x hx with h4|h4
   ·exact .inl ((hS x).2 (.inl h4))
   ·exact .inr h4
  ·exact .inl ((hS x).2 (.inr (.inl hx)))
  ·exact .inl ((hS x).2 (.inr (.inr hx)))
theorem MYR.below(h:MY p fuel B b W Bud tb mb wb kb S m w)(hb:Below w.heap.size w w'):MYR p fuel B b W Bud tb mb wb kb S m w w':=⟨S,h.later hb,OnlyS.of_below hb,fun _ h=>.inl h⟩
theorem MYR.andThen{w2:World}(h:MYR p fuel B b W Bud tb mb wb kb S m w w')(k:∀S',MY p fuel B b W Bud tb mb wb kb S' m w'->MYR p fuel B b W Bud tb mb wb kb S' m' w' w2):MYR p fuel B b W Bud tb mb wb kb S m' w w2:=by
 obtain⟨S1,h1,h2,h3⟩:=h
 obtain⟨S2,k1,k2,k3⟩:=k S1 h1
 refine⟨S2,k1,h2.thenS k2 fun x hx hs=>?_,fun x hx=>?_⟩
 ·rcases h3 x hs with h4|h4
  ·exact h4
  ·omega
 ·rcases k3 x hx with h4|h4
  ·exact h3 x h4
  ·exact .inr (Nat.le_trans h2.size h4)
theorem MYR.behind{w2:World}(hb:Below w.heap.size w w')(r:MYR p fuel B b W Bud tb mb wb kb S m' w' w2):MYR p fuel B b W Bud tb mb wb kb S m' w w2:=by
 obtain⟨S',h1,h2,h3⟩:=r
 refine⟨S',h1,(OnlyS.of_below hb).trans h2,fun x hx=>(h3 x hx).imp_right fun h4=>Nat.le_trans hb.size h4⟩
theorem MYR.refl(h:MY p fuel B b W Bud tb mb wb kb S m w):MYR p fuel B b W Bud tb mb wb kb S m w w:=MYR.below h (Below.refl _ _)
theorem MYR.later(r:MYR p fuel B b W Bud tb mb wb kb S m w w1)(hb:Below w1.heap.size w1 w'):MYR p fuel B b W Bud tb mb wb kb S m w w':=r.andThen fun _ h=>MYR.below h hb
theorem MYR.call(r1:MYR p fuel B b W Bud tb mb wb kb S m w w1){F:FuncId}{args:Array Value}{V:Ending->Prop}(hc:∀Sp,PM p fuel w1 B tb mb wb W Sp m->Calls Tryz.prog F args w1 fun r w'=>V r/\PMR p fuel B tb mb wb W Sp m' w1 w')(e0:m'.keys=m.keys)(e1:m'.blk=m.blk)(e2:m'.over=m.over):
  Calls Tryz.prog F args w1 fun r w'=>V r/\MYR p fuel B b W Bud tb mb wb kb S m' w w':=by
 have r:=r1
 obtain⟨S1,h1,o1,n1⟩:=r1
 refine(h1.parts hc e0 e1 e2).mono fun e w' ⟨a,r2⟩=>⟨a,?_⟩
 obtain⟨S2,k1,k2,k3⟩:=r2
 refine⟨S2,k1,o1.thenS k2 fun x hx hs=>?_,fun x hx=>?_⟩
 ·rcases n1 x hs with h4|h4
  ·exact h4
  ·omega
 ·rcases k3 x hx with h4|h4
  ·exact n1 x h4
  ·exact .inr (Nat.le_trans o1.size h4)
theorem MYR.cells(r:MYR p fuel B b W Bud tb mb wb kb S m w w1):(w1.cell? ⟨b,0,none⟩=some (.pointer (some ⟨tb,0,none⟩))/\w1.cell? ⟨b,1,none⟩=some (.pointer (some ⟨mb,0,none⟩))/\w1.cell? ⟨b,2,none⟩=some (.pointer (some ⟨wb,0,none⟩))/\w1.cell? ⟨b,3,none⟩=some (.slice (some ⟨kb,0,none⟩) W W)/\w1.cell? ⟨b,4,none⟩=some (.int .i64 (Bud:Int))/\w1.cell? ⟨b,5,none⟩=some (.bool m.over)/\w1.cell? ⟨b,6,none⟩=some (.int .i64 (m.blk:Int)))/\∀i,w1.frozen? ⟨b,i,none⟩=false:=by
 obtain⟨S1,h1,_⟩:=r
 exact h1.cells
theorem MYR.pm(r:MYR p fuel B b W Bud tb mb wb kb S m w w1):∃Sp,PM p fuel w1 B tb mb wb W Sp m:=by
 obtain⟨S1,⟨vs,Sp,h,_⟩,_⟩:=r
 exact⟨Sp,h.pm⟩
theorem MYR.size(r:MYR p fuel B b W Bud tb mb wb kb S m w w1):w.heap.size<=w1.heap.size:=by
 obtain⟨S1,_,o,_⟩:=r
 exact o.size
def MYL(p:Pg)(fuel:Int)(B b W Bud tb mb wb kb:Nat)(S:Nat->Prop)(m:Mac)(L:List (Nat × Obj))(w w':World):Prop:=∃S',MY p fuel B b W Bud tb mb wb kb S' m w'/\OnlyS S w w'/\(∀x,S' x->S x∨w.heap.size<=x)/\∀g o,(g,o)∈L->¬S' g/\w'.heap[g]?=some o
theorem MYR.local0(r:MYR p fuel B b W Bud tb mb wb kb S m w w1):MYL p fuel B b W Bud tb mb wb kb S m [] w w1:=by
 obtain⟨S1,h1,o1,n1⟩:=r
 exact⟨S1,h1,o1,n1,fun g o h=>by cases h⟩
theorem MYL.toR{L:List (Nat × Obj)}(r:MYL p fuel B b W Bud tb mb wb kb S m L w w1):MYR p fuel B b W Bud tb mb wb kb S m w w1:=by
 obtain⟨S1,h1,o1,n1,_⟩:=r
 exact⟨S1,h1,o1,n1⟩
theorem MYL.later{L:List (Nat × Obj)}(r:MYL p fuel B b W Bud tb mb wb kb S m L w w1)(hb:Below w1.heap.size w1 w'):MYL p fuel B b W Bud tb mb wb kb S m L w w':=by
 obtain⟨S1,h1,o1,n1,l1⟩:=r
 exact⟨S1,h1.later hb,o1.trans (OnlyS.of_below hb),n1,fun g o h=>⟨(l1 g o h).1,(hb.block _ (Array.getElem?_eq_some_iff.1 (l1 g o h).2).1).trans (l1 g o h).2⟩⟩
theorem MYL.more{L:List (Nat × Obj)}(r:MYL p fuel B b W Bud tb mb wb kb S m L w w1)(hb:Below w1.heap.size w1 w'){g:Nat}{o:Obj}(hg:w1.heap.size<=g)(ho:w'.heap[g]?=some o):MYL p fuel B b W Bud tb mb wb kb S m ((g,o)::L) w w':=by
 have r2:=r.later hb
 obtain⟨S1,h1,o1,n1,l1⟩:=r
 refine⟨S1,h1.later hb,o1.trans (OnlyS.of_below hb),n1,fun g' o' h=>?_⟩
 rcases List.mem_cons.1 h with e|h
 ·injection e with e1 e2
  subst e1 e2
  exact⟨fun hs=>by have:=(h1.low.2 _ hs).2;omega,ho⟩
 ·exact⟨(l1 g' o' h).1,(hb.block _ (Array.getElem?_eq_some_iff.1 (l1 g' o' h).2).1).trans (l1 g' o' h).2⟩
theorem MYL.call{L:List (Nat × Obj)}(r1:MYL p fuel B b W Bud tb mb wb kb S m L w w1){F:FuncId}{args:Array Value}{V:Ending->Prop}(hc:∀Sp,PM p fuel w1 B tb mb wb W Sp m->Calls Tryz.prog F args w1 fun r w'=>V r/\PMR p fuel B tb mb wb W Sp m' w1 w')(e0:m'.keys=m.keys)(e1:m'.blk=m.blk)(e2:m'.over=m.over):
  Calls Tryz.prog F args w1 fun r w'=>V r/\MYL p fuel B b W Bud tb mb wb kb S m' L w w':=by
 obtain⟨S1,h1,o1,n1,l1⟩:=r1
 refine(h1.parts hc e0 e1 e2).mono fun e w' ⟨a,r2⟩=>⟨a,?_⟩
 obtain⟨S2,k1,k2,k3⟩:=r2
 refine⟨S2,k1,o1.thenS k2 fun x hx hs=>?_,fun x hx=>?_,fun g o hg=>⟨fun hs=>?_,k2.row (l1 g o hg).2 (l1 g o hg).1⟩⟩
 ·rcases n1 x hs with h4|h4
  ·exact h4
  ·omega
 ·rcases k3 x hx with h4|h4
  ·exact n1 x h4
  ·exact .inr (Nat.le_trans o1.size h4)
 ·rcases k3 g hs with h4|h4
  ·exact(l1 g o hg).1 h4
  ·have:=(Array.getElem?_eq_some_iff.1 (l1 g o hg).2).1;omega
theorem MYL.own{L:List (Nat × Obj)}(r1:MYL p fuel B b W Bud tb mb wb kb S m L w w1){F:FuncId}{args:Array Value}{V:Ending->Prop}(hc:∀S1,MY p fuel B b W Bud tb mb wb kb S1 m w1->Calls Tryz.prog F args w1 fun r w'=>V r/\MYR p fuel B b W Bud tb mb wb kb S1 m' w1 w'):
  Calls Tryz.prog F args w1 fun r w'=>V r/\MYL p fuel B b W Bud tb mb wb kb S m' L w w':=by
 obtain⟨S1,h1,o1,n1,l1⟩:=r1
 refine(hc S1 h1).mono fun e w' ⟨a,r2⟩=>⟨a,?_⟩
 obtain⟨S2,k1,k2,k3⟩:=r2
 refine⟨S2,k1,o1.thenS k2 fun x hx hs=>?_,fun x hx=>?_,fun g o hg=>⟨fun hs=>?_,k2.row (l1 g o hg).2 (l1 g o hg).1⟩⟩
 ·rcases n1 x hs with h4|h4
  ·exact h4
  ·omega
 ·rcases k3 x hx with h4|h4
  ·exact n1 x h4
  ·exact .inr (Nat.le_trans o1.size h4)
 ·rcases k3 g hs with h4|h4
  ·exact(l1 g o hg).1 h4
  ·have:=(Array.getElem?_eq_some_iff.1 (l1 g o hg).2).1;omega
theorem MYL.get{L:List (Nat × Obj)}(r:MYL p fuel B b W Bud tb mb wb kb S m L w w1){g:Nat}{o:Obj}(h:(g,o)∈L):w1.heap[g]?=some o:=by
 obtain⟨_,_,_,_,l1⟩:=r
 exact(l1 g o h).2
theorem MY.stored(h:MY p fuel B b W Bud tb mb wb kb S m w){i:Nat}{u:Value}{blk':Nat}{over':Bool}(e:(mcA tb mb wb kb W Bud m.blk m.over).setIfInBounds i u=mcA tb mb wb kb W Bud blk' over'):MYR p fuel B b W Bud tb mb wb kb S { m with blk:=blk',over:=over' } w (w.setCell ⟨b,i,none⟩ u):=by
 obtain⟨vs,Sp,h,hS⟩:=h
 have o:OnlyS (fun y=>y=b) w (w.setCell ⟨b,i,none⟩ u):=(OnlyS.refl (fun y=>y=b) w).setCell (p:=⟨b,i,none⟩) rfl _
 refine⟨S,⟨vs,Sp,⟨h.lowb,?_,?_,h.km.onlyS o fun x hx hb=>?_,h.pk,h.pb⟩,hS⟩,o.mono fun x _ hx=>(hS x).2 (.inr (.inr hx)),fun _ h=>.inl h⟩
 ·rw[heap_setCell_same w b i _ _ _ h.box]
  dsimp only
  rw[<-e]
 ·have q:=h.pm.only o fun x hx hb=>h.pb (hb▸hx)
  obtain⟨C,h',gs,Sm,Sw,wg,q,hP⟩:=q
  exact⟨C,h',gs,Sm,Sw,wg,⟨q.eb,q.ep,q.ef,q.baseC,q.base,q.own,q.right,q.tr,q.ml,q.wk,q.wx,q.lowb,q.lowg,q.mlow,q.slow,q.tm,q.tw,q.mw⟩,hP⟩
 ·subst hb
  exact h.notKB hx
theorem MY.keyed(h:MY p fuel B b W Bud tb mb wb kb S m w)(hj:j<W):∃v,w.cell? ⟨kb,j,none⟩=some v/\Zae w B 9 1 Zai v (m.keys j)/\∀v' w1,Zae w1 B 9 1 Zai v' (m.keys j++[k])->w.grownBy w1 v.ownBlock->(v'.ownBlock=v.ownBlock∨v'.ownBlock=some w.heap.size) ->
  w1.cell? ⟨kb,j,none⟩=some v/\w1.frozen? ⟨kb,j,none⟩=false/\MYR p fuel B b W Bud tb mb wb kb S { m with keys:=updF m.keys j (m.keys j++[k]) } w (w1.setCell ⟨kb,j,none⟩ v'):=by
 obtain⟨vs,Sp,h,hS⟩:=h
 refine⟨vs j,h.km.cell hj,h.km.own j hj,fun v' w1 hown hg hk=>?_⟩
 obtain⟨h1,h2,h3,h4,h5⟩:=h.km.append hj hown hg hk
 refine⟨h1,h2,fun x=>Sp x∨KB kb W (updF vs j v') x∨x=b,⟨updF vs j v',Sp,⟨h.lowb,h4.row h.box h.notKB,?_,h3,fun x hx hk=>?_,h.pb⟩,fun _=>Iff.rfl⟩,h4.mono fun x _ hx=>(hS x).2 (.inr (.inl hx)),fun x hx=>?_⟩
 ·have q:=h.pm.only h4 h.pk
  obtain⟨C,h',gs,Sm,Sw,wg,q,hP⟩:=q
  exact⟨C,h',gs,Sm,Sw,wg,⟨q.eb,q.ep,q.ef,q.baseC,q.base,q.own,q.right,q.tr,q.ml,q.wk,q.wx,q.lowb,q.lowg,q.mlow,q.slow,q.tm,q.tw,q.mw⟩,hP⟩
 ·rcases h5 x hk with h6|h6
  ·exact h.pk x hx h6
  ·have:=(h.pm.low.2 x hx).2;omega
 ·rcases hx with hx|hx|hx
  ·exact .inl ((hS x).2 (.inl hx))
  ·rcases h5 x hx with h6|h6
   ·exact .inl ((hS x).2 (.inr (.inl h6)))
   ·exact .inr h6
  ·exact .inl ((hS x).2 (.inr (.inr hx)))
end
section
variable{T:Type}{f:T->List Value}{n:Nat}
theorem RowAt.cellAt{w:World}{b o:Nat}{l:List T}(h:RowAt w (some ⟨b,o,none⟩) n f l)(hf:∀x,(f x).length=n)(hn:0<n)(j:Nat)(u:Value)(hj:(Zaq f l)[j]?=some u):w.cell? (Addr.add ⟨b,o,none⟩ j)=some u:=by
 have hjl:j<l.length*n:=by
  have:=(List.getElem?_eq_some_iff.1 hj).1
  rwa [Zar hf]at this
 obtain⟨b',o',e,hc⟩:=h.2 (by rintro rfl;simp at hjl)
 cases e
 have hi:j/n<l.length:=Nat.div_lt_of_lt_mul (by rw[Nat.mul_comm];exact hjl)
 have e:j/n*n+j%n=j:=Nat.div_add_mod' j n
 have hg:=ZaI hf l (j/n) (j%n) hi (Nat.mod_lt j hn)
 rw[e,hj]at hg
 have h1:=hc (j/n) hi (j%n) u hg.symm
 rw[Nat.add_assoc,e]at h1
 rw[ZcF]
 exact h1
theorem wp_copyR{P:Program}{w:World}{o:Oper}{a:Act}{K:Act->World->Prop}{Q:Exit->Act->World->Prop}(st et:TypeId)(bytes:Nat)(z:Value)(hu:P.underlying st=some (.slice et))
  (hinfo:(P.info? et).map (fun i=>(i.zero,i.size,i.bytes))=some (some z,n,bytes)) (hz:z.cells.size=n) (hn:0<n) (hby:bytes<=1000) (hf:∀x,(f x).length=n) (h1:∀x,∀v∈f x,v.oneCell'=true)
  (s x:Operand) (ho:o.op=.call { callee:=.builtin .append,args:=#[s,x],argTypes:=#[st,st] }) (B:Nat) (v:Value) (l:List T) (hs:a.eval s=v) (hown:Zae w B et n f v l)
  (ra:Option Addr) (rcap:Nat) (row:List T) (hx:a.eval x=.slice ra row.length rcap) (hrow:RowAt w ra n f row) (hra:ra=none->rcap=0/\row=[]) (hlen:l.length+row.length<=1000000) (hB:B<=w.heap.size)
  (h:∀v' w',Zae w' B et n f v' (l++row)->Below B w w'->w.grownBy w' v.ownBlock->K (a.put o.dst v') w'):Oper.wp P o a w K Q:=by
 obtain⟨i,hi,hzz⟩:=Option.map_eq_some_iff.1 hinfo
 simp only[Prod.mk.injEq]at hzz
 obtain⟨hiz,hisz,hiby⟩:=hzz
 have hbb:(l.length+row.length)*bytes<=140737488355328:=by
  have:(l.length+row.length)*bytes<=1000000*1000:=Nat.mul_le_mul hlen hby
  omega
 cases ra with
 |none=>
  obtain⟨rfl,rfl⟩:=hra rfl
  have hrun:=run_append_owned_none (P:=P) (w:=w) B st o.type et i n hu hi v l.length (Zaq f l) hown
  have hK:=h v w (by rw[List.append_nil];exact hown) (Below.refl _ _) ⟨rfl,rfl,rfl,Nat.le_refl _,fun _ _ _=>rfl⟩
  unfold Oper.wp
  simp[execOp,ho,resolve,invoke,builtin,hs,hx,hrun,Result.andThen]
  exact hK
 |some ad=>
  by_cases hne:row=[]
  ·subst hne
   refine wp_append_own w s x st ho B et i z n bytes hu hi hiz hisz hiby hz hn v l.length (Zaq f l) hs hown ad 0 rcap [] hx (by simp) (by simp) (by simp) (by unfold maxLen;simp at hlen;omega) (by simpa using hbb) hB ?_
   intro v' w' h2 h3 _
   refine h v' w' ?_ ((Below.refl B w).grown h3 hB (fun k hk=>(World.ownsRow.lt hown k hk).1)) h3
   unfold Zae
   simpa using h2
  ·obtain⟨b,o',e,hc⟩:=hrow.2 hne
   injection e with e
   subst e
   refine wp_append_own w s x st ho B et i z n bytes hu hi hiz hisz hiby hz hn v l.length (Zaq f l) hs hown ⟨b,o',none⟩ row.length rcap (Zaq f row) hx (by rw[Zar hf]) (fun j u hj=>hrow.cellAt hf hn j u hj)
    (cellsL_one h1 _) (by unfold maxLen;omega) hbb hB ?_
   intro v' w' h2 h3 _
   refine h v' w' ?_ ((Below.refl B w).grown h3 hB (fun k hk=>(World.ownsRow.lt hown k hk).1)) h3
   unfold Zae
   rw[List.length_append,Zcj]
   exact h2
theorem Zjm{P:Program}{w:World}{ops:Array Oper}{rest:List Oper}{o:Oper}{a:Act}{Q:Exit->Act->World->Prop}(st et:TypeId)(bytes:Nat)(z:Value)(hu:P.underlying st=some (.slice et))
  (hinfo:(P.info? et).map (fun i=>(i.zero,i.size,i.bytes))=some (some z,n,bytes)) (hz:z.cells.size=n) (hn:0<n) (hby:bytes<=1000) (hf:∀x,(f x).length=n) (h1:∀x,∀v∈f x,v.oneCell'=true) (hgd:o.guard=none)
  (s x:Operand) (ho:o.op=.call { callee:=.builtin .append,args:=#[s,x],argTypes:=#[st,st] }) (B:Nat) (v:Value) (l:List T) (hs:a.eval s=v) (hown:Zae w B et n f v l)
  (ra:Option Addr) (rcap:Nat) (row:List T) (hx:a.eval x=.slice ra row.length rcap) (hrow:RowAt w ra n f row) (hra:ra=none->rcap=0/\row=[]) (hlen:l.length+row.length<=1000000) (hB:B<=w.heap.size)
  (h:∀v' w',Zae w' B et n f v' (l++row)->Below B w w'->w.grownBy w' v.ownBlock->wpList P ops Q rest (a.put o.dst v') w'):wpList P ops Q (o::rest) a w:=
 wpList_plain hgd fun _ hK=>wp_copyR st et bytes z hu hinfo hz hn hby hf h1 s x ho B v l hs hown ra rcap row hx hrow hra hlen hB fun v' w' h2 h3 h4=>hK _ _ (h v' w' h2 h3 h4)
end
theorem OwnE.form2{w:World}{B:Nat}{v:Value}{es:List Ev}(h:OwnE w B v es)(hm:es.length<=1000000):∃a cap,v=.slice a es.length cap/\EvsAt w a es/\(a=none->cap=0/\es=[]):=by
 obtain⟨a,cap,e,he⟩:=h.form hm
 refine⟨a,cap,e,he,fun ha=>?_⟩
 subst ha
 obtain⟨h1,⟨h2,h3⟩|⟨g,cap',cur,h2,_⟩⟩:=h
 ·rw[e]at h2
  injection h2 with _ _ h4
  exact⟨h4,List.eq_nil_of_length_eq_zero h3⟩
 ·rw[e]at h2
  injection h2 with h4
  cases h4
theorem Zae.form2{T:Type}{f:T->List Value}{n:Nat}{w:World}{B:Nat}{t:TypeId}{v:Value}{l:List T}(h:Zae w B t n f v l)(hf:∀x,(f x).length=n)(hm:l.length<=1000000):∃a cap,v=.slice a l.length cap/\RowAt w a n f l/\l.length<=cap/\((a=none/\cap=0/\l=[])∨∃g,a=some ⟨g,0,none⟩):=by
 obtain⟨a,cap,e,he,h0⟩:=h.form hf hm
 obtain⟨h1,⟨h2,h3⟩|⟨g,cap',cur,h2,h3,h4,h5,h6,h7,h8⟩⟩:=h
 ·rw[e]at h2
  injection h2 with h4 _ h5
  exact⟨a,cap,e,he,by omega,.inl ⟨h4,h5,List.eq_nil_of_length_eq_zero h3⟩⟩
 ·rw[e]at h2
  injection h2 with h4' _ h5'
  subst h5'
  exact⟨a,cap,e,he,by omega,.inr ⟨g,h4'⟩⟩
theorem OwnE.at_{w:World}{B n cap:Nat}{a:Option Addr}{es:List Ev}(h:OwnE w B (.slice a n cap) es)(hm:es.length<=1000000:=by omega):EvsAt w a es:=by
 obtain⟨a',cap',e,he⟩:=h.form hm
 injection e with e
 subst e
 exact he
theorem clone_keys{w:World}{B:Nat}{v:Value}{ks:List Key}(h:Zae w B 9 1 Zai v ks)(hl:ks.length<=1000000)(_hB:B<=w.heap.size):
  Calls Tryz.prog 49 #[v] w fun r w'=>∃u,r=.returned u/\KeyV w' w.heap.size u ks/\Below w.heap.size w w':=by
 obtain⟨a,cap,rfl,hra,hle,⟨rfl,rfl,rfl⟩|⟨g,rfl⟩⟩:=Zae.form2 h Zat (by omega)
 ·have he:=fun w=>Lib.run_eql_slice_nil (P:=Tryz.prog) w 30 9 none 0 0 0 0 Tryz.underlying30
  clear h hra
  go_enter Tryz.func49,Tryz.ntmps49
  go_wp2
  go_ret
  exact⟨_,rfl,⟨none,0,rfl,by simp,fun h=>absurd rfl h⟩,Below.refl _ _⟩
 ·have HR:=Lib.hid hra
  have HL:=Lib.hid hl
  have he:=fun w=>Lib.run_eql_slice_nil (P:=Tryz.prog) w 30 9 (some ⟨g,0,none⟩) ks.length cap 0 0 Tryz.underlying30
  clear h hra hl
  go_enter Tryz.func49,Tryz.ntmps49
  have hown:Zae (w.alloc (.cells #[] 9)) w.heap.size 9 1 Zai (.slice (some ⟨w.heap.size,0,none⟩) 0 0) ([]:List Key):=by
   refine⟨by rfl,.inr ⟨w.heap.size,0,#[],rfl,Nat.le_refl _,?_,by simp,by simp,by simp,by rfl⟩⟩
   exact heap_alloc_new w _
  have hrow:=HR.out.later (Zaa w (.cells #[] 9))
  have hb1:=Zaa w (.cells #[] 9)
  have HB1:=Lib.hid hb1
  go_wp2_with (at_builtin;refine Zjm 30 9 16 (.string ByteArray.empty) Tryz.underlying30 Zcd (by rfl) (by omega) (by omega) Zat ZaT (by rfl) _ _ rfl w.heap.size _ [] rfl hown _ _ ks rfl hrow (fun h=>by cases h) (by have:=HL.out;simp;omega) (by simp) ?_;intro v5 w5 h5 hb5 hg5)
  go_ret
  exact⟨_,rfl,keyV_own (by rw[List.nil_append]at h5;exact h5) HL.out,HB1.out.trans hb5⟩
theorem tot_zero(n:Nat)(ls:Nat->List Txt):totW n ls=0↔∀j,j<n->ls j=[]:=by
 induction n with
 |zero=>simp[totW]
 |succ n ih=>
  rw[Zjw]
  constructor
  ·intro h j hj
   by_cases e:j=n
   ·subst e;exact List.eq_nil_of_length_eq_zero (by omega)
   ·exact ih.1 (by omega) j (by omega)
  ·intro h
   rw[ih.2 fun j hj=>h j (by omega),h n (by omega)]
   rfl
theorem empty_iff(W:Nat)(m:Mac):ZfO W m=(decide (totW W m.wk=0)&&decide (pendM W m.box=0)):=by
 rw[Bool.eq_iff_iff]
 unfold ZfO
 rw[List.all_eq_true,Bool.and_eq_true,decide_eq_true_eq,decide_eq_true_eq,tot_zero,Zc3]
 constructor
 ·intro h
  have h1:=fun j (hj:j<W)=>h j (List.mem_range.2 hj)
  refine⟨fun j hj=>?_,fun j hj=>?_⟩
  ·have:=h1 j hj
   rw[Bool.and_eq_true]at this
   exact List.isEmpty_iff.1 this.2
  ·have:=h1 j hj
   rw[Bool.and_eq_true]at this
   exact List.isEmpty_iff.1 this.1
 ·intro ⟨h1,h2⟩ j hj
  rw[h1 j (List.mem_range.1 hj),h2 j (List.mem_range.1 hj)]
  rfl
section
variable{p:Pg}{fuel:Int}{B b W Bud tb mb wb kb:Nat}{S:Nat->Prop}{m:Mac}{w:World}
theorem MY.pm(h:MY p fuel B b W Bud tb mb wb kb S m w):∃Sp,PM p fuel w B tb mb wb W Sp m:=by
 obtain⟨vs,Sp,h,_⟩:=h
 exact⟨Sp,h.pm⟩
theorem Zfj(h:MY p fuel B b W Bud tb mb wb kb S m w):Calls Tryz.prog 18 #[.pointer (some ⟨b,0,none⟩)] w fun r w'=>r=.returned (.bool (haltM W m))/\∃i,w'=w.drewN i:=by
 obtain⟨⟨c0,c1,c2,c3,c4,c5,c6⟩,_⟩:=h.cells
 have HW:=Lib.hid (fun k=>(h.later (Below.refl w.heap.size w).drewN (w':=w.drewN k)).pm)
 have HE:Hid (haltM W m=(m.over||(decide (totW W m.wk=0)&&decide (pendM W m.box=0)))):=by show _=_;unfold haltM;rw[empty_iff]
 clear h c3 c4 c6
 cases ho:m.over with
 |true=>
  rw[ho]at c5
  rw[ho,Bool.true_or]at HE
  go_enter Tryz.func18,Tryz.ntmps18
  go_wp2
  go_ret
  exact⟨Zag HE.out.symm,0,rfl⟩
 |false=>
  rw[ho]at c5
  rw[ho,Bool.false_or]at HE
  by_cases ht:totW W m.wk=0
  ·have HT:Hid (totW W m.wk=0):=ht
   by_cases hp:pendM W m.box=0
   ·rw[ht,hp]at HE
    have HT2:Hid (pendM W m.box=0):=hp
    clear ht hp
    go_enter Tryz.func18,Tryz.ntmps18
    go_wp2_with fail
    obtain⟨Sp,hq⟩:=HW.out 0
    refine(ZgD hq).mono ?_
    rintro r w'⟨rfl,rfl⟩
    rw[HT.out]
    go_wp2_with fail
    refine(Zj5 hq).mono ?_
    rintro r w'⟨rfl,rfl⟩
    rw[HT2.out]
    go_wp2
    go_ret
    exact⟨Zag HE.out.symm,0,rfl⟩
   ·have hq0:((pendM W m.box:Int)==0)=false:=by simp;omega
    have HQ:=Lib.hid hq0
    rw[ht,decide_eq_false hp,Bool.and_false]at HE
    clear ht hp hq0
    go_enter Tryz.func18,Tryz.ntmps18
    go_wp2_with fail
    obtain⟨Sp,hq⟩:=HW.out 0
    refine(ZgD hq).mono ?_
    rintro r w'⟨rfl,rfl⟩
    rw[HT.out]
    go_wp2_with fail
    refine(Zj5 hq).mono ?_
    rintro r w'⟨rfl,rfl⟩
    have hq0:=HQ.out
    go_wp2
    go_ret
    exact⟨Zag HE.out.symm,0,rfl⟩
  ·have hq0:((totW W m.wk:Int)==0)=false:=by simp;omega
   have HQ:=Lib.hid hq0
   rw[decide_eq_false ht,Bool.false_and]at HE
   clear ht hq0
   go_enter Tryz.func18,Tryz.ntmps18
   go_wp2_with fail
   obtain⟨Sp,hq⟩:=HW.out 0
   refine(ZgD hq).mono ?_
   rintro r w'⟨rfl,rfl⟩
   have hq0:=HQ.out
   go_wp2
   go_ret
   exact⟨Zag HE.out.symm,0,rfl⟩
theorem Zfb(h:MY p fuel B b W Bud tb mb wb kb S m w):Calls Tryz.prog 21 #[.pointer (some ⟨b,0,none⟩)] w fun r w'=>r=.returned (.int .i64 (m.l.length:Nat))/\w=w':=by
 obtain⟨⟨c0,_⟩,_⟩:=h.cells
 obtain⟨Sp,hq⟩:=h.pm
 have HQ:=Lib.hid hq
 clear h hq
 go_enter Tryz.func21,Tryz.ntmps21
 go_wp2_with fail
 refine(pm_len HQ.out).mono ?_
 rintro r w'⟨rfl,rfl⟩
 go_wp2
 go_ret
 exact⟨rfl,rfl⟩
theorem nodes_any(h:MY p fuel B b W Bud tb mb wb kb S m w):Calls Tryz.prog 21 #[.pointer (some ⟨b,0,none⟩)] w fun r w'=>r=.returned (.int .i64 (m.l.length:Nat))/\∃i,w'=w.drewN i:=(Zfb h).mono fun _ _ ⟨a,c⟩=>⟨a,0,c.symm⟩
theorem ZlH(h:MY p fuel B b W Bud tb mb wb kb S m w):Calls Tryz.prog 22 #[.pointer (some ⟨b,0,none⟩)] w fun r w'=>r=.returned (.int .i64 (m.cl:Nat))/\∃i,w'=w.drewN i:=by
 obtain⟨⟨c0,_⟩,_⟩:=h.cells
 obtain⟨Sp,hq⟩:=h.pm
 have HQ:=Lib.hid hq
 clear h hq
 go_enter Tryz.func22,Tryz.ntmps22
 go_wp2_with fail
 refine(pm_claims HQ.out).mono ?_
 rintro r w'⟨rfl,rfl⟩
 go_wp2
 go_ret
 exact⟨rfl,0,rfl⟩
theorem Zjg(h:MY p fuel B b W Bud tb mb wb kb S m w):Calls Tryz.prog 28 #[.pointer (some ⟨b,0,none⟩)] w fun r w'=>r=.returned (.int .i64 (m.blk:Nat))/\∃i,w'=w.drewN i:=by
 obtain⟨⟨c0,c1,c2,c3,c4,c5,c6⟩,_⟩:=h.cells
 clear h c0 c1 c2 c3 c4 c5
 go_enter Tryz.func28,Tryz.ntmps28
 go_wp2
 go_ret
 exact⟨rfl,0,rfl⟩
theorem Zc7(h:MY p fuel B b W Bud tb mb wb kb S m w):Calls Tryz.prog 29 #[.pointer (some ⟨b,0,none⟩)] w fun r w'=>r=.returned (.int .i64 (W:Nat))/\w'=w:=by
 obtain⟨⟨c0,c1,c2,c3,c4,c5,c6⟩,_⟩:=h.cells
 clear h c0 c1 c2 c4 c5 c6
 go_enter Tryz.func29,Tryz.ntmps29
 go_wp2
 go_ret
 exact⟨rfl,rfl⟩
theorem ZiX(W:Nat)(z:Int):isW W z=decide (0<=z/\z<W):=by
 rw[Bool.eq_iff_iff]
 simp[isW]
theorem ZlF(h:MY p fuel B b W Bud tb mb wb kb S m w)(z:Int):Calls Tryz.prog 43 #[.pointer (some ⟨b,0,none⟩),.int .i64 z] w fun r w'=>r=.returned (.bool (isW W z))/\w'=w:=by
 have HW:=Lib.hid (Zc7 h)
 clear h
 by_cases h:0<=z
 ·have hd:decide (z>=0)=true:=by simpa using h
  go_enter Tryz.func43,Tryz.ntmps43
  go_wp2_with fail
  refine HW.out.mono ?_
  rintro r w'⟨rfl,rfl⟩
  go_wp2
  go_ret
  exact⟨Zag (by simp[isW,h]),rfl⟩
 ·have hd:decide (z>=0)=false:=by simpa using h
  go_enter Tryz.func43,Tryz.ntmps43
  go_wp2
  go_ret
  exact⟨Zag (by simp[isW];omega),rfl⟩
theorem ZkP(h:MY p fuel B b W Bud tb mb wb kb S m w):Calls Tryz.prog 19 #[.pointer (some ⟨b,0,none⟩)] w fun r w'=>r=.returned (.bool (haltM W m && !m.over))/\∃i,w'=w.drewN i:=by
 obtain⟨⟨c0,c1,c2,c3,c4,c5,c6⟩,_⟩:=h.cells
 have HH:=Lib.hid (Zfj h)
 clear h c0 c1 c2 c3 c4 c6
 cases ho:m.over with
 |true=>
  rw[ho]at c5
  go_enter Tryz.func19,Tryz.ntmps19
  go_wp2
  go_ret
  exact⟨Zag (by simp),0,rfl⟩
 |false=>
  rw[ho]at c5
  go_enter Tryz.func19,Tryz.ntmps19
  go_wp2_with fail
  refine HH.out.mono ?_
  rintro r w'⟨rfl,i,rfl⟩
  go_wp2
  go_ret
  exact⟨Zag (by simp),i,rfl⟩
theorem keys_any(h:MY p fuel B b W Bud tb mb wb kb S m w)(hl:∀j,j<W->(m.keys j).length<=1000000)(z:Int):Calls Tryz.prog 27 #[.pointer (some ⟨b,0,none⟩),.int .i64 z] w fun r w'=>∃v,r=.returned v/\KeyV w' w.heap.size v (keysI W z m)/\Below w.heap.size w w':=by
 obtain⟨⟨c0,c1,c2,c3,c4,c5,c6⟩,_⟩:=h.cells
 have HI:=Lib.hid (ZlF h z)
 by_cases hz:0<=z/\z<W
 ·have hi:isW W z=true:=by rw[ZiX];exact decide_eq_true hz
  rw[hi]at HI
  obtain⟨j,rfl⟩:∃j:Nat,z=j:=⟨z.toNat,by omega⟩
  have hj:j<W:=by omega
  obtain⟨v,k0,hv,hB⟩:=h.keysOwn hj
  obtain⟨a,cap,rfl,_⟩:=Zae.form2 hv Zat (by have:=hl j hj;omega)
  have HC:=Lib.hid (clone_keys hv (hl j hj) hB)
  have HE:Hid (keysI W j m=m.keys j):=by show _=_;unfold keysI;rw[if_pos hz,Int.toNat_natCast]
  clear h hl hv hB hi c0 c1 c2 c4 c5 c6 hz
  go_enter Tryz.func27,Tryz.ntmps27
  go_wp2_with fail
  refine HI.out.mono ?_
  rintro r w'⟨rfl,rfl⟩
  go_wp2_with fail
  refine HC.out.mono ?_
  rintro r w'⟨u,rfl,hu,hb⟩
  have HU:=Lib.hid hu
  have HB:=Lib.hid hb
  clear hu hb
  go_wp2
  go_ret
  exact⟨_,rfl,by rw[HE.out];exact HU.out,HB.out⟩
 ·have hi:isW W z=false:=by rw[ZiX];exact decide_eq_false hz
  rw[hi]at HI
  have HE:Hid (keysI W z m=[]):=by show _=_;unfold keysI;rw[if_neg hz]
  clear h hl hi c0 c1 c2 c3 c4 c5 c6 hz
  go_enter Tryz.func27,Tryz.ntmps27
  go_wp2_with fail
  refine HI.out.mono ?_
  rintro r w'⟨rfl,rfl⟩
  go_wp2
  go_ret
  exact⟨_,rfl,by rw[HE.out];exact⟨none,0,rfl,by simp,fun h=>absurd rfl h⟩,Below.refl _ _⟩
end
end Go.Proofs.YtjfmmnhcddckaaaGreat
namespace Go.Proofs.YtjfmmnhcddckaaaGreat
theorem blk_ends(s0:St)(T:List Nd):(endsT s0 T).length+(blkX s0 T).length<=T.length:=by
 unfold endsT blkX
 induction T with
 |nil=>exact Nat.le_refl _
 |cons n T ih=>
  simp only[List.filter_cons,List.length_cons]
  by_cases h:(Za7 s0 n.row).all=[]
  ·simp only[h,decide_true,if_true,ne_eq,not_true,decide_false,Bool.false_and,Bool.false_eq_true,if_false,List.length_cons]
   simp only[ne_eq]at ih
   omega
  ·simp only[h,decide_false,Bool.false_eq_true,if_false,ne_eq,not_false_eq_true,decide_true,Bool.true_and]
   simp only[ne_eq]at ih
   split
   ·simp only[List.length_cons];omega
   ·omega
section
variable{p:Pg}{fuel:Int}{F:Nat}{order:List Int}{b:Int}
end
end Go.Proofs.YtjfmmnhcddckaaaGreat
