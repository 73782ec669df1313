import Derived.Test.YtjfmmnhcddckaaaGreatPk03b
import Derived.Test.YtjfmmnhcddckaaaGreatPk04
import Derived.Test.YtjfmmnhcddckaaaGreatPk04b
import Derived.Test.YtjfmmnhcddckaaaGreatPk05
import Derived.Test.YtjfmmnhcddckaaaGreatPk06
import Derived.Test.YtjfmmnhcddckaaaGreatPk08
namespace Go.Proofs.YtjfmmnhcddckaaaGreat
def MkM(W:Nat)(m:Mac)(row:List Ev)(t:Int):Prop:=
 (∃n∈m.l,row.map Ev.thread=rowK n.pre/\hasB n.todo t=true)∨∃w,w<W/\∃x∈m.box w,row.map Ev.thread=rowK x.q/\hasB x.set t=true
def LetR(W:Nat)(l:List TNd)(box:Nat->List Ltr):Prop:=∀w,w<W->∀x∈box w,∃n∈l,n.pre=x.q/\x.set=n.may
structure CoreM(p:Pg)(fuel:Int)(W:Nat)(m:Mac)(T:List Nd):Prop where
 tree:TreeR p fuel W m.l T
 work:WorkR W m.l m.wk
 letr:LetR W m.l m.box
structure KeepM(W:Nat)(m m':Mac):Prop where
 keys:m'.keys=m.keys
 blk:m'.blk=m.blk
 cl:m'.cl=m.cl
 over:m'.over=m.over
 len:m'.l.length=m.l.length
 mks:∀row t,MkM W m row t->MkM W m' row t
theorem KeepM.refl(W:Nat)(m:Mac):KeepM W m m:=⟨rfl,rfl,rfl,rfl,rfl,fun _ _ h=>h⟩
theorem KeepM.trans{W:Nat}{a b c:Mac}(h:KeepM W a b)(k:KeepM W b c):KeepM W a c:=
 ⟨k.keys.trans h.keys,k.blk.trans h.blk,k.cl.trans h.cl,k.over.trans h.over,k.len.trans h.len,fun r t x=>k.mks r t (h.mks r t x)⟩
section
variable{p:Pg}{fuel:Int}{W w:Nat}{m:Mac}{T:List Nd}
theorem Zi2{a b:Nat}{t:Int}:hasB (a|||b) t=true↔hasB a t=true∨hasB b t=true:=by
 unfold hasB
 rw[Nat.testBit_or]
 cases decide (0<=t/\t<8) <;> simp
theorem hasB_and{a b:Nat}{t:Int}:hasB (a&&&b) t=true↔hasB a t=true/\hasB b t=true:=by
 unfold hasB
 rw[Nat.testBit_and]
 cases decide (0<=t/\t<8) <;> simp
theorem Zko{n:TNd}(hn:n.Ok){s:Nat}(h:n.left≠0):({ n with todo:=n.todo|||(s&&&n.may) }:TNd).left≠0:=by
 intro e
 apply h
 have ht:n.todo|||(s&&&n.may)<256:=ZfG hn.todo (Nat.lt_of_le_of_lt Nat.and_le_right hn.may)
 apply Nat.eq_of_testBit_eq
 intro i
 have e2:({ n with todo:=n.todo|||(s&&&n.may) }:TNd).left.testBit i=false:=by rw[e,Nat.zero_testBit]
 unfold TNd.left at e2 ⊢
 dsimp only at e2
 rw[Nat.zero_testBit]
 by_cases hi:i<8
 ·rw[ZaY (wo_lt _ _ ht) hn.asl,ZaY ht hn.gone,Nat.testBit_or]at e2
  rw[ZaY (wo_lt _ _ hn.todo) hn.asl,ZaY hn.todo hn.gone]
  revert e2
  cases n.todo.testBit i <;> cases n.gone.testBit i <;> cases n.asl.testBit i <;> simp
 ·exact Nat.testBit_lt_two_pow (Nat.lt_of_lt_of_le (wo_lt _ _ (wo_lt _ _ hn.todo)) (Nat.le_trans (by decide:256<=2^8) (Nat.pow_le_pow_right (by decide) (by omega))))
theorem LetR.kin{l l':List TNd}{box:Nat->List Ltr}(h:LetR W l box)(k:∀x∈l,∃y∈l',y.pre=x.pre/\y.may=x.may):LetR W l' box:=fun w hw x hx=>by
 obtain⟨n,hn,h1,h2⟩:=h w hw x hx
 obtain⟨y,hy,h3,h4⟩:=k n hn
 exact⟨y,hy,h3.trans h1,h2.trans h4.symm⟩
theorem ZgL{l:List TNd}(tr:TrOk p fuel l){i:Nat}(hi:i<l.length){n:TNd}(e:n.pre=l[i].pre)(em:n.may=l[i].may):∀x∈l,∃y∈l.set i n,y.pre=x.pre/\y.may=x.may:=fun x hx=>by
 by_cases hp:x.pre=l[i].pre
 ·obtain⟨j,hj,rfl,e1⟩:=tr.at hx
  rw[hp,Zfi tr.nodup hi]at e1
  injection e1 with e1
  subst e1
  exact⟨n,List.mem_set hi _,e,em⟩
 ·exact⟨x,(ZbF tr.nodup hi).2 (.inr ⟨hx,hp⟩),rfl,rfl⟩
theorem markM_ok(c:CoreM p fuel W m T)(hw:w<W){n:TNd}(hn:n∈m.l){set:Nat}(hs:set<256):
  CoreM p fuel W (markM W w n.pre set m) T/\KeepM W m (markM W w n.pre set m)/\(markM W w n.pre set m).box=m.box/\∀row t,row.map Ev.thread=rowK n.pre->hasB set t=true->hasB n.may t=true->MkM W (markM W w n.pre set m) row t:=by
 obtain⟨i,hi,hin,e,ht⟩:=c.tree.mark hn hs
 have hd:=c.tree.tr.nodup
 have hok:=c.tree.tr.ok n hn
 have hlt:∀q,q≠n.pre->leftT (markT m.l n.pre set).2 q=leftT m.l q:=fun q hq=>by
  rw[e,Zcx hd hi (by rw[hin]),if_neg (by rw[hin];exact hq)]
 have hln:leftT (markT m.l n.pre set).2 n.pre=({ n with todo:=n.todo|||(set&&&n.may) }:TNd).left:=by
  rw[e,Zcx hd hi (by rw[hin]),if_pos (by rw[hin])]
 have hl0:leftT m.l n.pre=n.left:=by
  obtain⟨j,hj,h1,h2⟩:=c.tree.tr.at hn
  rw[ZbA h2 hj,h1]
 have hkin:∀x∈m.l,∃y∈(markT m.l n.pre set).2,y.pre=x.pre/\y.may=x.may:=by
  rw[e]
  exact ZgL c.tree.tr hi (by rw[hin]) (by rw[hin])
 have hlen:(markT m.l n.pre set).2.length=m.l.length:=by rw[e,List.length_set]
 have hmk:∀m':Mac,m'.l=(markT m.l n.pre set).2->m'.box=m.box->(∀row t,MkM W m row t->MkM W m' row t)/\∀row t,row.map Ev.thread=rowK n.pre->hasB set t=true->hasB n.may t=true->MkM W m' row t:=by
  intro m' h1 h2
  have hnew:({ n with todo:=n.todo|||(set&&&n.may) }:TNd)∈m'.l:=by
   rw[h1,e]
   exact List.mem_set hi _
  refine⟨fun row t hm=>?_,fun row t h3 h4 h5=>.inl ⟨_,hnew,h3,Zi2.2 (.inr (hasB_and.2 ⟨h4,h5⟩))⟩⟩
  rcases hm with ⟨x,hx,h3,h4⟩|⟨v,hv,x,hx,h3⟩
  ·by_cases hp:x.pre=n.pre
   ·refine .inl ⟨_,hnew,by rw[<-hp];exact h3,Zi2.2 (.inl ?_)⟩
    obtain⟨j,hj,h5,h6⟩:=c.tree.tr.at hx
    obtain⟨j',hj',h7,h8⟩:=c.tree.tr.at hn
    rw[hp,h8]at h6
    injection h6 with h6
    subst h6
    rw[<-h7,h5]
    exact h4
   ·refine .inl ⟨x,?_,h3,h4⟩
    rw[h1,e]
    exact(ZbF hd hi).2 (.inr ⟨hx,by rw[hin];exact hp⟩)
  ·exact .inr ⟨v,hv,x,by rw[h2];exact hx,h3⟩
 have hW:WorkR W (markT m.l n.pre set).2 m.wk∨(leftT m.l n.pre=0/\WorkX W (markT m.l n.pre set).2 m.wk n.pre):=by
  by_cases h0:leftT m.l n.pre=0
  ·exact .inr ⟨h0,c.work.off h0 hlt⟩
  ·refine .inl (c.work.same fun q=>?_)
   by_cases hq:q=n.pre
   ·subst hq
    exact⟨fun _=>h0,fun _=>by rw[hln];exact Zko hok (by rw[<-hl0];exact h0)⟩
   ·rw[hlt q hq]
 unfold markM
 by_cases hl:leftT (markT m.l n.pre set).2 n.pre≠0
 ·rw[if_pos hl]
  unfold pushM
  by_cases hh:hasM W ({ m with l:=(markT m.l n.pre set).2 }:Mac) n.pre=true
  ·rw[if_pos hh]
   obtain⟨a,b⟩:=hmk { m with l:=(markT m.l n.pre set).2 } rfl rfl
   refine⟨⟨ht,?_,c.letr.kin hkin⟩,⟨rfl,rfl,rfl,rfl,hlen,a⟩,rfl,b⟩
   rcases hW with h|⟨_,h⟩
   ·exact h
   ·obtain⟨v,hv,hq⟩:=ZeS.1 hh
    exact absurd hq (h.no v hv)
  ·rw[if_neg hh]
   obtain⟨a,b⟩:=hmk { m with l:=(markT m.l n.pre set).2,wk:=updF m.wk w (putT (m.wk w) n.pre) } rfl rfl
   refine⟨⟨ht,?_,c.letr.kin hkin⟩,⟨rfl,rfl,rfl,rfl,hlen,a⟩,rfl,b⟩
   rcases hW with h|⟨_,h⟩
   ·exact absurd (ZeS.2 ((h.iff n.pre).2 hl)) hh
   ·exact h.push hw hl
 ·rw[if_neg hl]
  obtain⟨a,b⟩:=hmk { m with l:=(markT m.l n.pre set).2 } rfl rfl
  refine⟨⟨ht,?_,c.letr.kin hkin⟩,⟨rfl,rfl,rfl,rfl,hlen,a⟩,rfl,b⟩
  rcases hW with h|⟨_,h⟩
  ·exact h
  ·exact h.none (Classical.not_not.1 hl)
theorem sendM_ok(c:CoreM p fuel W m T){v:Nat}(hv:v<W){n:TNd}(hn:n∈m.l):
  CoreM p fuel W (sendM v ⟨n.pre,n.may⟩ m) T/\KeepM W m (sendM v ⟨n.pre,n.may⟩ m)/\∀row t,row.map Ev.thread=rowK n.pre->hasB n.may t=true->MkM W (sendM v ⟨n.pre,n.may⟩ m) row t:=by
 have hb:∀u x,x∈updF m.box v (m.box v++[⟨n.pre,n.may⟩]) u↔x∈m.box u∨(u=v/\x=⟨n.pre,n.may⟩):=by
  intro u x
  by_cases e:u=v
  ·subst e;rw[Zac,List.mem_append,List.mem_singleton];exact⟨fun h=>h.imp_right fun h=>⟨rfl,h⟩,fun h=>h.imp_right And.right⟩
  ·rw[Zad _ _ e];exact⟨.inl,fun h=>h.elim id fun h=>absurd h.1 e⟩
 refine⟨⟨c.tree,c.work,fun u hu x hx=>?_⟩,⟨rfl,rfl,rfl,rfl,rfl,fun row t hm=>?_⟩,fun row t h1 h2=>.inr ⟨v,hv,_,(hb v _).2 (.inr ⟨rfl,rfl⟩),h1,h2⟩⟩
 ·rcases (hb u x).1 hx with h|⟨_,rfl⟩
  ·exact c.letr u hu x h
  ·exact⟨n,hn,rfl,rfl⟩
 ·rcases hm with h|⟨u,hu,x,hx,h⟩
  ·exact .inl h
  ·exact .inr ⟨u,hu,x,(hb u x).2 (.inl hx),h⟩
theorem TreeR.take{l:List TNd}(h:TreeR p fuel W l T){b:Nd}(hb:b∈T){k:Pfx}(hk:b.row.map Ev.thread=rowK k)(i:Nat):∃n∈l,n.pre=k.take i:=by
 have key:∀(d:Nat) (r:List Ev),(∃c∈T,c.row=r)->∀i,r.length<=i+d->∃c∈T,c.row=r.take i:=by
  intro d
  induction d with
  |zero=>intro r hr i hi;rw[List.take_of_length_le (by omega)];exact hr
  |succ d ih=>
   intro r hr i hi
   by_cases h0:r.length<=i
   ·rw[List.take_of_length_le h0];exact hr
   ·have hne:r≠[]:=fun e=>by rw[e]at h0;exact h0 (Nat.zero_le _)
    obtain⟨c,hc,e⟩:=hr
    obtain⟨a,ha,har,_⟩:=h.ok.par c hc r.dropLast (r.getLast hne) (by rw[e];exact(List.dropLast_concat_getLast hne).symm)
    have:=ih r.dropLast ⟨a,ha,har⟩ i (by rw[List.length_dropLast];omega)
    rwa [List.dropLast_eq_take,List.take_take,Nat.min_eq_left (by omega)]at this
 obtain⟨c,hc,e⟩:=key b.row.length b.row ⟨b,hb,rfl⟩ i (by omega)
 obtain⟨n,hn,r⟩:=h.bwd c hc
 refine⟨n,hn,Zmq ?_⟩
 rw[<-r.row,e,List.map_take,hk,Zgr]
end
section
variable{p:Pg}{fuel:Int}{W w B:Nat}{m:Mac}{T:List Nd}
theorem s0_ok(hg:Zam p fuel=true):(s0 p fuel).Ok fuel.toNat/\fuel.toNat<=8:=by
 unfold Zam at hg
 rw[Bool.and_eq_true,decide_eq_true_eq]at hg
 exact⟨new_ok hg.1 fuel.toNat (by omega),by omega⟩
theorem Zdu{k:Pfx}{e:Int}{es:List Ev}{s:St}(h:rep p fuel (rowK k)=(e,es,some s)):stK p fuel k=s/\evK p fuel k=es:=by
 unfold stK evK
 rw[h]
 exact⟨rfl,rfl⟩
theorem stK_ex(hg:Zam p fuel=true){k:Pfx}{es:List Ev}{z:St}(h:Ex (s0 p fuel) es z)(hk:es.map Ev.thread=rowK k):stK p fuel k=z/\evK p fuel k=es:=by
 have:=Zgw hg h
 rw[hk]at this
 exact Zdu this
theorem may_ofN{F:Nat}{y:St}(ok:y.Ok F){t:Int}(h:y.may t=true):hasB (ofN y.all) t=true:=by
 have hm:t∈y.all:=Zev.2 h
 exact(has_ofN (Ze2 ok t hm)).2 hm
theorem Zmv(hg:Zam p fuel=true)(c:CoreM p fuel W m T)(hw:w<W){b:Nd}(hb:b∈T){k:Pfx}(hk:b.row.map Ev.thread=rowK k)(i:Nat):
  CoreM p fuel W (raceM p fuel W w k m i) T/\KeepM W m (raceM p fuel W w k m i)/\∀t y,Ex (s0 p fuel) (b.row.take i) y->y.may t=true->MkM W (raceM p fuel W w k m i) (b.row.take i) t:=by
 obtain⟨n,hn,hp⟩:=c.tree.take hb hk i
 obtain⟨es,s,hr,hmay⟩:=c.tree.tr.row n hn
 have hs:=(Zdu hr).1
 obtain⟨hx,he⟩:=ZeW hr
 have hrow:(b.row.take i).map Ev.thread=rowK n.pre:=by rw[hp,Zgr,<-hk,List.map_take]
 obtain⟨j,hj,hjn,hidx⟩:=c.tree.tr.at hn
 have hown:ownT m.l n.pre=n.own:=by rw[ownT_at hidx hj,hjn]
 have ho:=c.tree.own n hn
 have hset:ofN (stK p fuel n.pre).all=n.may:=by rw[hs,hmay]
 have hmk:∀t y,Ex (s0 p fuel) (b.row.take i) y->y.may t=true->hasB n.may t=true:=by
  intro t y hy ht
  have e1:=ZgY hy hx (hrow.trans he.symm)
  rw[e1]at hy
  obtain rfl:=ZcM hy hx
  rw[hmay]
  exact may_ofN (hy.ok (s0_ok hg).1) ht
 unfold raceM
 rw[<-hp,hown,hset]
 by_cases h:n.own=(w:Int)
 ·rw[if_pos h]
  obtain⟨a1,a2,_,a4⟩:=markM_ok c hw hn (c.tree.tr.ok n hn).may
  exact⟨a1,a2,fun t y hy ht=>a4 _ t hrow (hmk t y hy ht) (hmk t y hy ht)⟩
 ·rw[if_neg h]
  obtain⟨a1,a2,a3⟩:=sendM_ok c (v:=n.own.toNat) (by omega) hn
  exact⟨a1,a2,fun t y hy ht=>a3 _ t hrow (hmk t y hy ht)⟩
theorem Zj0(hg:Zam p fuel=true)(hw:w<W){b:Nd}(hb:b∈T){k:Pfx}(hk:b.row.map Ev.thread=rowK k)(l:List Nat):∀{m:Mac},CoreM p fuel W m T ->
  CoreM p fuel W (l.foldl (raceM p fuel W w k) m) T/\KeepM W m (l.foldl (raceM p fuel W w k) m)/\∀i∈l,∀t y,Ex (s0 p fuel) (b.row.take i) y->y.may t=true->MkM W (l.foldl (raceM p fuel W w k) m) (b.row.take i) t:=by
 induction l with
 |nil=>intro m c;exact⟨c,KeepM.refl _ _,fun i hi=>by cases hi⟩
 |cons j l ih=>
  intro m c
  obtain⟨a1,a2,a3⟩:=Zmv hg c hw hb hk j
  obtain⟨b1,b2,b3⟩:=ih a1
  refine⟨b1,a2.trans b2,fun i hi t y hy ht=>?_⟩
  rcases List.mem_cons.1 hi with rfl|hi
  ·exact b2.mks _ _ (a3 t y hy ht)
  ·exact b3 i hi t y hy ht
def keysM(W:Nat)(keys:Nat->List Key):List Key:=(List.range W).flatMap keys
theorem keysM_upd(keys:Nat->List Key)(x:Key)(hw:w<W):(keysM W (updF keys w (keys w++[x]))).Perm (keysM W keys++[x]):=by
 unfold keysM
 induction W with
 |zero=>omega
 |succ n ih=>
  rw[List.range_succ,List.flatMap_append,List.flatMap_append]
  by_cases e:w=n
  ·subst e
   have e2:(List.range w).flatMap (updF keys w (keys w++[x]))=(List.range w).flatMap keys:=by
    rw[List.flatMap_def,List.flatMap_def]
    congr 1
    apply List.map_congr_left
    intro v hv
    rw[Zad _ _ (by have:=List.mem_range.1 hv;omega)]
   rw[e2]
   simp[Zac]
  ·have:=ih (by omega)
   simp only[List.flatMap_singleton]
   rw[Zad _ _ (Ne.symm e)]
   refine(this.append_right _).trans ?_
   rw[List.append_assoc,List.append_assoc]
   exact(List.perm_append_comm).append_left _
structure InvM(p:Pg)(fuel:Int)(W B:Nat)(m:Mac)(T:List Nd):Prop where
 tree:TreeR p fuel W m.l T
 letr:LetR W m.l m.box
 work:m.over=false->WorkR W m.l m.wk
 marks:MarkOk (s0 p fuel) T (MkM W m)
 cl:m.cl+1=m.l.length
 keys:(keysM W m.keys).Perm (keysT (s0 p fuel) T)
 blk:m.blk=(blkX (s0 p fuel) T).length
 bud:m.l.length<=B
structure PreM(p:Pg)(fuel:Int)(W B:Nat)(m:Mac)(T:List Nd)(nd:Nd)(k:Pfx)(asl:Nat):Prop where
 core:CoreM p fuel W m T
 mem:nd∈T
 row:nd.row.map Ev.thread=rowK k
 z:∀u,nd.z u=hasB asl u
 race:∀b∈T,b.row≠nd.row->∀z u f i,Ex (s0 p fuel) b.row z->z.next u=some f->i∈withL b.row f->∀t y,Ex (s0 p fuel) (b.row.take i) y->y.may t=true->MkM W m (b.row.take i) t
 any:∀n∈T,n.row≠nd.row->∀z t,Ex (s0 p fuel) n.row z->z.may t=true->n.z t=false->∃t',z.may t'=true/\n.z t'=false/\MkM W m n.row t'
 keys:(keysM W m.keys++if (Za7 (s0 p fuel) nd.row).all=[]then [keyB nd.row]else []).Perm (keysT (s0 p fuel) T)
 blk:m.blk+(if (Za7 (s0 p fuel) nd.row).all≠[]/\(Za7 (s0 p fuel) nd.row).all.all nd.z=true then 1 else 0)=(blkX (s0 p fuel) T).length
 cl:m.cl+1=m.l.length
 bud:m.l.length<=B
theorem Zd1{s:St}{asl:Nat}{t:Int}:t∈Za8 s asl↔s.may t=true/\hasB asl t=false:=by
 unfold Za8
 rw[List.mem_filter,Zev]
 simp
theorem PreM.open(hg:Zam p fuel=true)(hw:w<W){nd:Nd}{k:Pfx}{asl:Nat}(h:PreM p fuel W B m T nd k asl)(d:Int):
  InvM p fuel W B (endM p fuel W w k asl d ((ZbR p fuel k).foldl (raceM p fuel W w k) m)) T:=by
 obtain⟨z,hz⟩:=h.core.tree.ok.rows nd h.mem
 obtain⟨hst,hev⟩:=stK_ex hg hz h.row
 have hds:=Zi7 hz
 obtain⟨c2,k2,r2⟩:=Zj0 hg hw h.mem h.row (ZbR p fuel k) h.core
 have okz:z.Ok fuel.toNat:=hz.ok (s0_ok hg).1
 generalize (ZbR p fuel k).foldl (raceM p fuel W w k) m=m2 at *
 have hrace:∀b∈T,∀z u f i,Ex (s0 p fuel) b.row z->z.next u=some f->i∈withL b.row f->∀t y,Ex (s0 p fuel) (b.row.take i) y->y.may t=true->MkM W m2 (b.row.take i) t:=by
  intro b hb z' u f i g1 g2 g3 t y g4 g5
  by_cases e:b.row=nd.row
  ·rw[e]at g1 g3 g4 ⊢
   obtain rfl:=ZcM g1 hz
   refine r2 i ?_ t y g4 g5
   unfold ZbR
   rw[hst,hev]
   obtain⟨h1,h2,_⟩:=next_small okz g2
   refine List.mem_map.2 ⟨(i,u),ZhS.2 ⟨u.toNat,by omega,by omega,f,g2,g3⟩,rfl⟩
  ·exact k2.mks _ _ (h.race b hb e z' u f i g1 g2 g3 t y g4 g5)
 have hanyo:∀n∈T,n.row≠nd.row->∀z t,Ex (s0 p fuel) n.row z->z.may t=true->n.z t=false->∃t',z.may t'=true/\n.z t'=false/\MkM W m2 n.row t':=by
  intro n hn e z' t g1 g2 g3
  obtain⟨t',g4,g5,g6⟩:=h.any n hn e z' t g1 g2 g3
  exact⟨t',g4,g5,k2.mks _ _ g6⟩
 have hsame:∀n∈T,n.row=nd.row->n=nd:=fun n hn e=>h.core.tree.ok.uniq hn h.mem e
 have hkeys:=h.keys
 have hblk:=h.blk
 rw[<-hds]at hkeys hblk
 unfold endM
 rw[hst,hev]
 by_cases ha:z.all=[]
 ·rw[if_pos ha]
  rw[if_pos ha]at hkeys
  rw[if_neg (fun hh=>hh.1 ha)]at hblk
  refine⟨c2.tree,c2.letr,fun _=>c2.work,⟨hrace,fun n hn z' t g1 g2 g3=>?_⟩,by rw[k2.len];show m2.cl+1=_;rw[k2.cl];exact h.cl,?_,by show m2.blk=_;rw[k2.blk];omega,by rw[k2.len];exact h.bud⟩
  ·by_cases e:n.row=nd.row
   ·obtain rfl:=hsame n hn e
    obtain rfl:=ZcM g1 hz
    have:=Zev.2 g2
    rw[ha]at this
    cases this
   ·exact hanyo n hn e z' t g1 g2 g3
  ·show(keysM W (updF m2.keys w (m2.keys w++[keyB nd.row]))).Perm _
   rw[k2.keys]
   exact(keysM_upd m.keys _ hw).trans hkeys
 ·rw[if_neg ha]
  rw[if_neg ha,List.append_nil]at hkeys
  have hall:Za8 z asl=[]↔z.all.all nd.z=true:=by
   rw[List.all_eq_true,List.eq_nil_iff_forall_not_mem]
   constructor
   ·intro hh t ht
    have:=hh t
    rw[Zd1]at this
    rw[h.z t]
    by_cases e:hasB asl t=true
    ·exact e
    ·exact absurd ⟨Zev.1 ht,by simpa using e⟩ this
   ·intro hh t ht
    obtain⟨h1,h2⟩:=Zd1.1 ht
    have:=hh t (Zev.2 h1)
    rw[h.z t,h2]at this
    cases this
  by_cases hb:Za8 z asl=[]
  ·rw[if_pos hb]
   rw[if_pos ⟨ha,hall.1 hb⟩]at hblk
   refine⟨c2.tree,c2.letr,fun _=>c2.work,⟨hrace,fun n hn z' t g1 g2 g3=>?_⟩,by rw[k2.len];show m2.cl+1=_;rw[k2.cl];exact h.cl,by rw[k2.keys];exact hkeys,by show m2.blk+1=_;rw[k2.blk];exact hblk,by rw[k2.len];exact h.bud⟩
   by_cases e:n.row=nd.row
   ·obtain rfl:=hsame n hn e
    obtain rfl:=ZcM g1 hz
    have:t∈Za8 z' asl:=Zd1.2 ⟨g2,by rw[<-h.z t];exact g3⟩
    rw[hb]at this
    cases this
   ·exact hanyo n hn e z' t g1 g2 g3
  ·rw[if_neg hb]
   rw[if_neg (fun hh=>hb (hall.2 hh.2)),Nat.add_zero]at hblk
   obtain⟨x,hx⟩:∃x,x=(Za8 z asl).getD (drawN d (Za8 z asl).length) 0:=⟨_,rfl⟩
   have hxm:x∈Za8 z asl:=by
    rw[hx,Zav _ (ZcN d (List.length_pos_iff.2 hb))]
    exact List.getElem_mem _
   rw[<-hx]
   obtain⟨x1,x2⟩:=Zd1.1 hxm
   obtain⟨n,hn,hp⟩:=c2.tree.take h.mem h.row k.length
   rw[List.take_length]at hp
   subst hp
   obtain⟨es,s,hr,hmay⟩:=c2.tree.tr.row n hn
   have hs:s=z:=by rw[<-(Zdu hr).1];exact hst
   subst hs
   obtain⟨a1,a2,_,a4⟩:=markM_ok c2 hw hn (set:=ofN [x]) (Zdp _)
   refine⟨a1.tree,a1.letr,fun _=>a1.work,⟨fun b hb z' u f i g1 g2 g3 t y g4 g5=>a2.mks _ _ (hrace b hb z' u f i g1 g2 g3 t y g4 g5),fun n' hn' z' t g1 g2 g3=>?_⟩,by rw[a2.len,a2.cl,k2.len,k2.cl];exact h.cl,by rw[a2.keys,k2.keys];exact hkeys,by rw[a2.blk,k2.blk];exact hblk,by rw[a2.len,k2.len];exact h.bud⟩
   by_cases e:n'.row=nd.row
   ·obtain rfl:=hsame n' hn' e
    obtain rfl:=ZcM g1 hz
    refine⟨x,x1,by rw[h.z x];exact x2,a4 _ x h.row ?_ ?_⟩
    ·exact(has_ofN (Ze2 okz x (Zev.2 x1))).2 (by simp)
    ·rw[hmay];exact may_ofN okz x1
   ·obtain⟨t',g4,g5,g6⟩:=hanyo n' hn' e z' t g1 g2 g3
    exact⟨t',g4,g5,a2.mks _ _ g6⟩
end
section
variable{p:Pg}{fuel:Int}{W w B:Nat}{m:Mac}{T:List Nd}
theorem Zc5{l:List TNd}{q:Pfx}(h:leftT l q≠0):∃n∈l,n.pre=q/\∃i,∃hi:i<l.length,l[i]=n/\idxT l q=some i/\leftT l q=n.left:=by
 cases hx:idxT l q with
 |none=>unfold leftT at h;rw[hx]at h;exact absurd rfl h
 |some i=>
  obtain⟨hi,hp⟩:=Za0 hx
  exact⟨l[i],List.getElem_mem hi,hp,i,hi,rfl,rfl,ZbA hx hi⟩
theorem Zkp{n:TNd}(hn:n.Ok)(h:n.left≠0):bitsL n.left≠[]:=by
 intro e
 apply h
 have:=of_bits hn.left
 rw[e]at this
 rw[<-this]
 rfl
theorem rowK_snoc(q:Pfx){u:Nat}(hu:u<8):rowK (q++[UInt8.ofNat u])=rowK q++[(u:Int)]:=by
 have e:(UInt8.ofNat u).toNat=u:=UInt8.toNat_ofNat_of_lt' (by show u<256;omega)
 unfold rowK
 rw[List.map_append,List.map_singleton,e]
theorem idxT_no{l:List TNd}{k:Pfx}(h:∀n∈l,n.pre≠k):idxT l k=none:=by
 cases hx:idxT l k with
 |none=>rfl
 |some i=>
  obtain⟨hi,hp⟩:=Za0 hx
  exact absurd hp (h _ (List.getElem_mem hi))
theorem leftT_snoc{l:List TNd}{n:TNd}(h:idxT l n.pre=none)(h0:n.left=0)(k:Pfx):leftT (l++[n]) k≠0↔leftT l k≠0:=by
 have h1:=ZkA h k
 by_cases e:k=n.pre
 ·rw[if_pos e]at h1
  rw[ZbA h1 (by simp)]
  subst e
  unfold leftT
  rw[h]
  simp[h0]
 ·rw[if_neg e]at h1
  cases h2:idxT l k with
  |none=>rw[h2]at h1;unfold leftT;rw[h1,h2]
  |some j=>
   rw[h2]at h1
   obtain⟨hj,_⟩:=Za0 h2
   rw[ZbA h1 (by simp;omega),ZbA h2 hj,List.getElem_append_left hj]
theorem Zkw(hg:Zam p fuel=true)(hw:w<W)(h:InvM p fuel W B m T)(hov:m.over=false){q:Pfx}{r:List Txt}(hq:m.wk w=q::r)(hB:m.l.length<B)(d:Int):
  ∃(u asl:Nat) (l2:List TNd) (z1:St) (nd:Nd) (T':List Nd) (m2:Mac),u<8/\asl<256/\Zbc p fuel m.l q d=(0,(u:Int),asl,l2)/\l2.length=m.l.length /\
   m2=(if leftT l2 q≠0 then pushM W w q { m with wk:=updF m.wk w r,l:=l2,cl:=m.cl+1 }else { m with wk:=updF m.wk w r,l:=l2,cl:=m.cl+1 })/\m2.l=l2/\m2.box=m.box/\m2.cl=m.cl+1 /\
   intoM p fuel W w q d { m with wk:=updF m.wk w r }=openM p fuel W w (q++[UInt8.ofNat u]) asl d m2/\rep p fuel (rowK (q++[UInt8.ofNat u]))=(0,nd.row,some z1) /\
   (makeT p fuel m2.l (q++[UInt8.ofNat u]) asl w).1=0/\PreM p fuel W B { m2 with l:=(makeT p fuel m2.l (q++[UInt8.ofNat u]) asl w).2 } T' nd (q++[UInt8.ofNat u]) asl:=by
 have hwk:=h.work hov
 have hleft:leftT m.l q≠0:=(hwk.iff q).1 ⟨w,hw,by rw[hq];exact List.mem_cons_self⟩
 obtain⟨n,hn,hp,i,hi,hin,hidx,hlq⟩:=Zc5 hleft
 have hok:=h.tree.tr.ok n hn
 rw[hlq]at hleft
 have hbits:=Zkp hok hleft
 obtain⟨u,hu⟩:∃u,u=(bitsL n.left).getD (drawN d (bitsL n.left).length) 0:=⟨_,rfl⟩
 have hum:u∈bitsL n.left:=by
  rw[hu,Zav _ (ZcN d (List.length_pos_iff.2 hbits))]
  exact List.getElem_mem _
 have hu8:u<8:=(ZeK.1 hum).1
 obtain⟨g1,g2,g3⟩:=hok.left_gone (ZeP.2 hum)
 obtain⟨es,z,hr,hmay⟩:=h.tree.tr.row n hn
 obtain⟨hx,hes⟩:=ZeW hr
 obtain⟨b,hb,R⟩:=h.tree.fwd n hn
 obtain⟨zb,hxb⟩:=h.tree.ok.rows b hb
 have hbes:b.row=es:=ZgY hxb hx (R.row.trans hes.symm)
 rw[<-hbes]at hx
 have okz:z.Ok fuel.toNat:=hx.ok (s0_ok hg).1
 have hzm:z.may (u:Int)=true:=by
  rw[Za2 _ hu8]at g3
  have:=h.tree.tr.todo n hn u g3
  rw[hmay]at this
  rw[Zbf _ hu8,decide_eq_true_eq]at this
  exact Zev.1 this
 obtain⟨e,he⟩:=Zf5 hzm
 obtain⟨z1,hs⟩:=next_step he hzm
 have het:e.thread=(u:Int):=(ZaU hs).2.2
 have hnx:nextT p fuel q=z.next:=by unfold nextT;rw[<-hp,hr]
 have hclaim:Zbc p fuel m.l q d=(0,(u:Int),ZcP z.next n.asl n.gone (u:Int),m.l.set i { n with gone:=wt n.gone (u:Int) }):=by
  unfold Zbc
  rw[hidx]
  dsimp only
  rw[Zfm hi,hin,if_neg hbits,<-hu,hnx]
 obtain⟨asl,hasl⟩:∃a,a=ZcP z.next n.asl n.gone (u:Int):=⟨_,rfl⟩
 have hasl8:asl<256:=by rw[hasl];exact childN_lt _ _ _ _
 have hub:(u:Int)∉b.g:=fun hh=>by rw[R.g,g1]at hh;cases hh
 have hzb:b.z (u:Int)=false:=by rw[R.z];exact g2
 let nd:Nd:=⟨b.row++[e],hasB asl,[]⟩
 have hgrow:TreeOk (s0 p fuel) (growT T b.row (u:Int) nd):=h.tree.ok.grow hb hub hzb hx hs (x:=nd) rfl rfl fun v=>by
  show hasB asl v=true↔_
  rw[hasl,has_childN he v,R.z,R.g]
 have hx1:Ex (s0 p fuel) nd.row z1:=ZaV.2 ⟨z,hx,z1,by rw[het];exact hs,rfl⟩
 have hk:nd.row.map Ev.thread=rowK (q++[UInt8.ofNat u]):=by
  rw[rowK_snoc q hu8,List.map_append,List.map_singleton,het,R.row,hp]
 have hrep:rep p fuel (rowK (q++[UInt8.ofNat u]))=(0,nd.row,some z1):=by rw[<-hk];exact Zgw hg hx1
 obtain⟨k,hkk⟩:∃k,k=q++[UInt8.ofNat u]:=⟨_,rfl⟩
 rw[<-hkk]at hk hrep
 have hd:=h.tree.tr.nodup
 have hnp:({ n with gone:=wt n.gone (u:Int) }:TNd).pre=m.l[i].pre:=by rw[hin]
 have htr2:TrOk p fuel (m.l.set i { n with gone:=wt n.gone (u:Int) }):=h.tree.tr.set hi hnp (by rw[hin]) ⟨hok.may,hok.asl,hok.todo,wt_lt hok.gone _⟩ (h.tree.tr.todo n hn)
 have hmem2:∀x,x∈m.l.set i { n with gone:=wt n.gone (u:Int) }↔x={ n with gone:=wt n.gone (u:Int) }∨(x∈m.l/\x.pre≠n.pre):=fun x=>by
  rw[ZbF hd hi,hin]
 have hno:∀x∈m.l,x.pre≠k:=by
  intro x hx' e2
  obtain⟨c,hc,Rc⟩:=h.tree.fwd x hx'
  obtain⟨y,hy⟩:=h.tree.ok.rows c hc
  have e3:c.row=b.row++[e]:=ZgY hy hx1 (by rw[Rc.row,e2,hk])
  obtain⟨a,ha,har,hag⟩:=h.tree.ok.par c hc _ _ e3
  obtain rfl:=h.tree.ok.uniq ha hb har
  rw[het]at hag
  exact hub hag
 have hno2:idxT (m.l.set i { n with gone:=wt n.gone (u:Int) }) k=none:=idxT_no fun x hx'=>by
  rcases (hmem2 x).1 hx' with rfl|⟨hx',_⟩
  ·exact hno n hn
  ·exact hno x hx'
 have hwas:wasT (m.l.set i { n with gone:=wt n.gone (u:Int) }) k=true:=by
  unfold wasT
  rw[hkk,List.dropLast_concat,List.getLast?_concat,Zi0 hi hnp,hidx]
  dsimp only[Option.getD]
  rw[Zfm (by rw[List.length_set];exact hi),List.getElem_set_self]
  have e2:(UInt8.ofNat u).toNat=u:=UInt8.toNat_ofNat_of_lt' (by show u<256;omega)
  rw[e2]
  exact hasB_same (by omega) rfl
 have hmake:(makeT p fuel (m.l.set i { n with gone:=wt n.gone (u:Int) }) k asl w).2=m.l.set i { n with gone:=wt n.gone (u:Int) } ++ [⟨k,w,ofN z1.all,asl,0,0⟩]:=by
  unfold makeT
  rw[hrep]
  dsimp only
  rw[hno2,if_neg (by simp),if_neg (by rw[hwas];simp)]
 have hmake1:(makeT p fuel (m.l.set i { n with gone:=wt n.gone (u:Int) }) k asl w).1=0:=by
  unfold makeT
  rw[hrep]
  dsimp only
  rw[hno2,if_neg (by simp),if_neg (by rw[hwas];simp)]
 have hrows:∀c∈T,∀x,NodeR c x->(c.row=b.row↔x.pre=n.pre):=by
  intro c hc x Rc
  constructor
  ·intro e2
   apply Zmq
   rw[<-Rc.row,<-R.row,e2]
  ·intro e2
   obtain⟨y,hy⟩:=h.tree.ok.rows c hc
   exact ZgY hy hxb (by rw[Rc.row,R.row,e2])
 have hndx:NodeR nd ⟨k,w,ofN z1.all,asl,0,0⟩:=⟨hk,fun _=>rfl,fun v=>by
  show v∈([]:List Int)↔hasB 0 v=true
  unfold hasB
  rw[Nat.zero_testBit,Bool.and_false]
  simp⟩
 have hupd:NodeR (updG b.row (u:Int) b) { n with gone:=wt n.gone (u:Int) }:=⟨by rw[Za1];exact R.row,fun v=>by rw[Zfv];exact R.z v,fun v=>by
  rw[Zju,if_pos rfl,List.mem_append,List.mem_singleton,R.g]
  exact(has_wt (by omega)).symm⟩
 have hoth:∀c∈T,∀x,NodeR c x->x.pre≠n.pre->NodeR (updG b.row (u:Int) c) x:=fun c hc x Rc hne=>⟨by rw[Za1];exact Rc.row,fun v=>by rw[Zfv];exact Rc.z v,fun v=>by
  rw[Zju,if_neg (fun e2=>hne ((hrows c hc x Rc).1 e2))]
  exact Rc.g v⟩
 have htree:TreeR p fuel W (m.l.set i { n with gone:=wt n.gone (u:Int) } ++ [⟨k,w,ofN z1.all,asl,0,0⟩]) (growT T b.row (u:Int) nd):=by
  refine⟨hgrow,htr2.snoc hno2 hrep hasl8 w,by rw[growT_len,List.length_append,List.length_set,h.tree.len];rfl,fun x hx'=>?_,fun c hc=>?_,fun x hx'=>?_⟩
  ·rw[List.mem_append,List.mem_singleton,hmem2]at hx'
   rcases hx' with (rfl|⟨hx',hne⟩)|rfl
   ·exact⟨_,ZaK.2 (.inl ⟨b,hb,rfl⟩),hupd⟩
   ·obtain⟨c,hc,Rc⟩:=h.tree.fwd x hx'
    exact⟨_,ZaK.2 (.inl ⟨c,hc,rfl⟩),hoth c hc x Rc hne⟩
   ·exact⟨nd,ZaK.2 (.inr rfl),hndx⟩
  ·rcases ZaK.1 hc with ⟨a,ha,rfl⟩|rfl
   ·obtain⟨x,hx',Rx⟩:=h.tree.bwd a ha
    by_cases hne:x.pre=n.pre
    ·have:a=b:=h.tree.ok.uniq ha hb ((hrows a ha x Rx).2 hne)
     subst this
     exact⟨_,List.mem_append_left _ ((hmem2 _).2 (.inl rfl)),hupd⟩
    ·exact⟨x,List.mem_append_left _ ((hmem2 _).2 (.inr ⟨hx',hne⟩)),hoth a ha x Rx hne⟩
   ·exact⟨_,List.mem_append_right _ (List.mem_singleton.2 rfl),hndx⟩
  ·rw[List.mem_append,List.mem_singleton,hmem2]at hx'
   rcases hx' with (rfl|⟨hx',_⟩)|rfl
   ·exact h.tree.own n hn
   ·exact h.tree.own x hx'
   ·exact⟨by show(0:Int)<=w;omega,by show(w:Int)<W;omega⟩
 have hX:WorkX W (m.l.set i { n with gone:=wt n.gone (u:Int) }) (updF m.wk w r) q:=(hwk.pop hw hq).more fun x hx'=>by
  rw[Zcx hd hi hnp,if_neg (by rw[hin,hp];exact hx')]
 obtain⟨m2,hm2⟩:∃m2,m2=(if leftT (m.l.set i { n with gone:=wt n.gone (u:Int) }) q≠0 then pushM W w q { m with wk:=updF m.wk w r,l:=m.l.set i { n with gone:=wt n.gone (u:Int) },cl:=m.cl+1 }else { m with wk:=updF m.wk w r,l:=m.l.set i { n with gone:=wt n.gone (u:Int) },cl:=m.cl+1 }):=⟨_,rfl⟩
 have hf:WorkR W m2.l m2.wk/\m2.l=m.l.set i { n with gone:=wt n.gone (u:Int) }/\m2.box=m.box/\m2.keys=m.keys/\m2.blk=m.blk/\m2.cl=m.cl+1:=by
  rw[hm2]
  by_cases hl:leftT (m.l.set i { n with gone:=wt n.gone (u:Int) }) q≠0
  ·rw[if_pos hl]
   unfold pushM
   rw[if_neg (fun hh=>by
    obtain⟨v,hv,hqv⟩:=ZeS.1 hh
    exact hX.no v hv hqv)]
   exact⟨hX.push hw hl,rfl,rfl,rfl,rfl,rfl⟩
  ·rw[if_neg hl]
   exact⟨hX.none (Classical.not_not.1 hl),rfl,rfl,rfl,rfl,rfl⟩
 obtain⟨f1,f2,f3,f4,f5,f6⟩:=hf
 have hinto:intoM p fuel W w q d { m with wk:=updF m.wk w r }=openM p fuel W w k asl d m2:=by
  unfold intoM
  dsimp only
  rw[hclaim]
  dsimp only
  rw[<-hasl,hm2,hkk]
  rfl
 have hmks:∀row t,MkM W m row t->MkM W { m2 with l:=(makeT p fuel m2.l k asl w).2 } row t:=by
  intro row t hm
  rcases hm with ⟨x,hx',h1,h2⟩|⟨v,hv,x,hx',h1⟩
  ·left
   by_cases hne:x.pre=n.pre
   ·have hxn:x=n:=by
     obtain⟨j,hj,h5,h6⟩:=h.tree.tr.at hx'
     obtain⟨j',hj',h7,h8⟩:=h.tree.tr.at hn
     rw[hne,h8]at h6
     injection h6 with h6
     subst h6
     rw[<-h7,h5]
    subst hxn
    refine⟨{ x with gone:=wt x.gone (u:Int) },?_,h1,h2⟩
    show _∈(makeT p fuel m2.l k asl w).2
    rw[f2,hmake]
    exact List.mem_append_left _ ((hmem2 _).2 (.inl rfl))
   ·refine⟨x,?_,h1,h2⟩
    show _∈(makeT p fuel m2.l k asl w).2
    rw[f2,hmake]
    exact List.mem_append_left _ ((hmem2 _).2 (.inr ⟨hx',hne⟩))
  ·exact .inr ⟨v,hv,x,by show x∈m2.box v;rw[f3];exact hx',h1⟩
 have hds:Za7 (s0 p fuel) nd.row=z1:=(Zi7 hx1).symm
 have hold:∀c∈growT T b.row (u:Int) nd,c.row≠nd.row->∃a∈T,c=updG b.row (u:Int) a:=by
  intro c hc hne
  rcases ZaK.1 hc with h1|rfl
  ·exact h1
  ·exact absurd rfl hne
 have hpre:PreM p fuel W B { m2 with l:=(makeT p fuel m2.l k asl w).2 } (growT T b.row (u:Int) nd) nd k asl:=by
  refine⟨⟨?_,?_,?_⟩,ZaK.2 (.inr rfl),hk,fun _=>rfl,fun c hc hne=>?_,fun c hc hne=>?_,?_,?_,?_,?_⟩
  ·show TreeR p fuel W (makeT p fuel m2.l k asl w).2 _
   rw[f2,hmake];exact htree
  ·show WorkR W (makeT p fuel m2.l k asl w).2 m2.wk
   rw[f2]at f1 ⊢
   rw[hmake]
   refine f1.same fun x=>leftT_snoc (by exact hno2) ?_ x
   unfold TNd.left wo
   simp
  ·show LetR W (makeT p fuel m2.l k asl w).2 m2.box
   rw[f2,f3,hmake]
   refine h.letr.kin fun x hx'=>?_
   obtain⟨y,hy,h1,h2⟩:=ZgL h.tree.tr hi hnp (by rw[hin]) x hx'
   exact⟨y,List.mem_append_left _ hy,h1,h2⟩
  ·obtain⟨a,ha,rfl⟩:=hold c hc hne
   rw[Za1]
   intro z' u' f i' y1 y2 y3 t y y4 y5
   exact hmks _ _ (h.marks.race a ha z' u' f i' y1 y2 y3 t y y4 y5)
  ·obtain⟨a,ha,rfl⟩:=hold c hc hne
   rw[Za1,Zfv]
   intro z' t y1 y2 y3
   obtain⟨t',y4,y5,y6⟩:=h.marks.any a ha z' t y1 y2 y3
   exact⟨t',y4,y5,hmks _ _ y6⟩
  ·show(keysM W m2.keys++_).Perm _
   rw[f4,keys_grow]
   exact h.keys.append_right _
  ·show m2.blk+_=_
   rw[f5,blk_grow,h.blk]
  ·show m2.cl+1=(makeT p fuel m2.l k asl w).2.length
   rw[f6,f2,hmake,List.length_append,List.length_set,h.cl]
   rfl
  ·show(makeT p fuel m2.l k asl w).2.length<=B
   rw[f2,hmake,List.length_append,List.length_set]
   exact hB
 subst hkk
 exact⟨u,asl,_,z1,nd,_,m2,hu8,hasl8,by rw[hclaim,hasl],List.length_set,hm2,f2,f3,f6,hinto,hrep,by rw[f2];exact hmake1,hpre⟩
theorem intoM_ok(hg:Zam p fuel=true)(hw:w<W)(h:InvM p fuel W B m T)(hov:m.over=false){q:Pfx}{r:List Txt}(hq:m.wk w=q::r)(hB:m.l.length<B)(d:Int):
  ∃T',InvM p fuel W B (intoM p fuel W w q d { m with wk:=updF m.wk w r }) T':=by
 obtain⟨u,asl,l2,z1,nd,T',m2,_,_,_,_,_,_,_,_,h1,_,_,h2⟩:=Zkw hg hw h hov hq hB d
 rw[h1]
 exact⟨T',h2.open hg hw d⟩
end
section
variable{p:Pg}{fuel:Int}{W w B:Nat}{m:Mac}{T:List Nd}
def MkL(l:List TNd)(row:List Ev)(t:Int):Prop:=∃n∈l,row.map Ev.thread=rowK n.pre/\hasB n.todo t=true
theorem ZlE{l:List TNd}(tr:TrOk p fuel l){i:Nat}(hi:i<l.length){n:TNd}(e:n.pre=l[i].pre)(ht:∀t,hasB l[i].todo t=true->hasB n.todo t=true){row:List Ev}{t:Int}(h:MkL l row t):MkL (l.set i n) row t:=by
 obtain⟨x,hx,h1,h2⟩:=h
 by_cases hp:x.pre=l[i].pre
 ·obtain⟨j,hj,rfl,e1⟩:=tr.at hx
  rw[hp,Zfi tr.nodup hi]at e1
  injection e1 with e1
  subst e1
  exact⟨n,List.mem_set hi _,by rw[e];exact h1,ht t h2⟩
 ·exact⟨x,(ZbF tr.nodup hi).2 (.inr ⟨hx,hp⟩),h1,h2⟩
theorem ZhW(c:TreeR p fuel W m.l T){n:TNd}(hn:n∈m.l)(hw:w<W)(k:Pfx):leftT (handT m.l n.pre w).2 k=leftT m.l k:=by
 obtain⟨i,hi,hin,e,_⟩:=c.hand hn hw
 rw[e,Zcx c.tr.nodup hi (by rw[hin])]
 split
 ·rename_i hk
  rw[hk,ZbA (Zfi c.tr.nodup hi) hi,hin]
  rfl
 ·rfl
theorem readM_ok(h:InvM p fuel W B m T)(hov:m.over=false)(hw:w<W){x:Ltr}{r:List Ltr}(hb:m.box w=x::r):InvM p fuel W B (readM W w x r m) T:=by
 have hwk:=h.work hov
 obtain⟨n,hn,hp,hset⟩:=h.letr w hw x (by rw[hb];exact List.mem_cons_self)
 have hok:=h.tree.tr.ok n hn
 have hs8:x.set<256:=by rw[hset];exact hok.may
 obtain⟨i,hi,hin,e,ht⟩:=h.tree.mark hn hs8
 have hd:=h.tree.tr.nodup
 have hlt:∀q,q≠n.pre->leftT (markT m.l n.pre x.set).2 q=leftT m.l q:=fun q hq=>by
  rw[e,Zcx hd hi (by rw[hin]),if_neg (by rw[hin];exact hq)]
 have hln:leftT (markT m.l n.pre x.set).2 n.pre=({ n with todo:=n.todo|||(x.set&&&n.may) }:TNd).left:=by
  rw[e,Zcx hd hi (by rw[hin]),if_pos (by rw[hin])]
 have hl0:leftT m.l n.pre=n.left:=by
  obtain⟨j,hj,h1,h2⟩:=h.tree.tr.at hn
  rw[ZbA h2 hj,h1]
 have hkin:∀y∈m.l,∃z∈(markT m.l n.pre x.set).2,z.pre=y.pre/\z.may=y.may:=by
  rw[e]
  exact ZgL h.tree.tr hi (by rw[hin]) (by rw[hin])
 have hn2:({ n with todo:=n.todo|||(x.set&&&n.may) }:TNd)∈(markT m.l n.pre x.set).2:=by
  rw[e]
  exact List.mem_set hi _
 have hlen:(markT m.l n.pre x.set).2.length=m.l.length:=by rw[e,List.length_set]
 have hbox:∀u y,y∈updF m.box w r u->y∈m.box u:=by
  intro u y hy
  by_cases e2:u=w
  ·subst e2;rw[Zac]at hy;rw[hb];exact List.mem_cons_of_mem _ hy
  ·rwa [Zad _ _ e2]at hy
 have hL:∀row t,MkM W m row t->MkL (markT m.l n.pre x.set).2 row t∨∃v,v<W/\∃y∈updF m.box w r v,row.map Ev.thread=rowK y.q/\hasB y.set t=true:=by
  intro row t hm
  rcases hm with h1|⟨v,hv,y,hy,h1,h2⟩
  ·left
   rw[e]
   refine ZlE h.tree.tr hi (by rw[hin]) (fun t ht=>?_) h1
   rw[hin]at ht
   exact Zi2.2 (.inl ht)
  ·by_cases e2:v=w
   ·subst e2
    rw[hb]at hy
    rcases List.mem_cons.1 hy with rfl|hy
    ·refine .inl ⟨_,hn2,by rw[h1,<-hp],Zi2.2 (.inr (hasB_and.2 ⟨h2,by rw[<-hset];exact h2⟩))⟩
    ·exact .inr ⟨v,hv,y,by rw[Zac];exact hy,h1,h2⟩
   ·exact .inr ⟨v,hv,y,by rw[Zad _ _ e2];exact hy,h1,h2⟩
 have hmarks:∀m':Mac,(∀row t,MkL (markT m.l n.pre x.set).2 row t->MkL m'.l row t)->m'.box=updF m.box w r->MarkOk (s0 p fuel) T (MkM W m'):=fun m' h1 h2=>h.marks.more fun row t hm=>by
  rcases hL row t hm with h3|h3
  ·exact .inl (h1 row t h3)
  ·rw[<-h2]at h3;exact .inr h3
 have hletr:LetR W (markT m.l n.pre x.set).2 (updF m.box w r):=fun u hu y hy=>(h.letr.kin hkin) u hu y (hbox u y hy)
 unfold readM
 rw[<-hp]
 by_cases hc:leftT (markT m.l n.pre x.set).2 n.pre≠0/\hasM W m n.pre=false
 ·rw[if_pos hc]
  have h0:leftT m.l n.pre=0:=by
   apply Classical.byContradiction
   intro h0
   have:=ZeS.2 ((hwk.iff n.pre).2 h0)
   rw[hc.2]at this
   cases this
  obtain⟨i2,hi2,hin2,e2,ht2⟩:=TreeR.hand ht hn2 hw
  dsimp only at e2 ht2
  have hlh:∀k,leftT (handT (markT m.l n.pre x.set).2 n.pre w).2 k=leftT (markT m.l n.pre x.set).2 k:=fun k=>ZhW (m:={ m with l:=(markT m.l n.pre x.set).2 }) ht hn2 hw k
  have hX:WorkX W (handT (markT m.l n.pre x.set).2 n.pre w).2 m.wk n.pre:=(hwk.off h0 hlt).more fun q _=>hlh q
  unfold pushM
  rw[if_neg (fun hh=>by
   have:hasM W m n.pre=true:=hh
   rw[hc.2]at this
   cases this)]
  refine⟨ht2,hletr.kin ?_,fun _=>hX.push hw (by rw[hlh];exact hc.1),hmarks _ (fun row t hm=>?_) rfl,?_,h.keys,h.blk,?_⟩
  ·show ∀y∈(markT m.l n.pre x.set).2,∃z∈(handT (markT m.l n.pre x.set).2 n.pre w).2,_
   rw[e2]
   exact ZgL ht.tr hi2 (by rw[hin2]) (by rw[hin2])
  ·show MkL (handT (markT m.l n.pre x.set).2 n.pre w).2 row t
   rw[e2]
   exact ZlE ht.tr hi2 (by rw[hin2]) (fun t h3=>by rw[hin2]at h3;exact h3) hm
  ·show m.cl+1=(handT (markT m.l n.pre x.set).2 n.pre w).2.length
   rw[e2,List.length_set,hlen]
   exact h.cl
  ·show(handT (markT m.l n.pre x.set).2 n.pre w).2.length<=B
   rw[e2,List.length_set,hlen]
   exact h.bud
 ·rw[if_neg hc]
  refine⟨ht,hletr,fun _=>?_,hmarks _ (fun _ _ hm=>hm) rfl,by show m.cl+1=(markT m.l n.pre x.set).2.length;rw[hlen];exact h.cl,h.keys,h.blk,by show(markT m.l n.pre x.set).2.length<=B;rw[hlen];exact h.bud⟩
  by_cases h0:leftT m.l n.pre=0
  ·have hX:=hwk.off h0 hlt
   refine hX.none ?_
   apply Classical.byContradiction
   intro h1
   refine hc ⟨h1,?_⟩
   rw[Bool.eq_false_iff]
   intro hh
   exact(hwk.iff n.pre).1 (ZeS.1 hh) h0
  ·refine hwk.same fun q=>?_
   by_cases hq:q=n.pre
   ·subst hq
    exact⟨fun _=>h0,fun _=>by rw[hln];exact Zko hok (by rw[<-hl0];exact h0)⟩
   ·rw[hlt q hq]
theorem stealM_ok(h:InvM p fuel W B m T)(hov:m.over=false)(hw:w<W){v:Nat}(hv:v<W)(hvw:v≠w)(hne:m.wk v≠[]):InvM p fuel W B (ZcH w v m) T:=by
 have hwk:=h.work hov
 obtain⟨q,hq⟩:∃q,q=(m.wk v).getLast?.getD []:=⟨_,rfl⟩
 have he:m.wk v=(m.wk v).dropLast++[q]:=by
  rw[hq,List.getLast?_eq_some_getLast hne]
  exact(List.dropLast_concat_getLast hne).symm
 have hl:leftT m.l q≠0:=(hwk.iff q).1 ⟨v,hv,by rw[he];simp⟩
 obtain⟨n,hn,hp,_⟩:=Zc5 hl
 obtain⟨i,hi,hin,e,ht⟩:=h.tree.hand hn hw
 have hlh:=ZhW h.tree hn hw
 have hlen:(handT m.l n.pre w).2.length=m.l.length:=by rw[e,List.length_set]
 unfold ZcH
 rw[<-hq]
 rw[hp]at e ht hlh hlen
 refine⟨ht,h.letr.kin ?_,fun _=>(hwk.steal hw hv hvw he).same fun k=>by rw[hlh],h.marks.more fun row t hm=>?_,by show m.cl+1=(handT m.l q w).2.length;rw[hlen];exact h.cl,h.keys,h.blk,by show(handT m.l q w).2.length<=B;rw[hlen];exact h.bud⟩
 ·show ∀x∈m.l,∃y∈(handT m.l q w).2,_
  rw[e]
  exact ZgL h.tree.tr hi (by rw[hin];exact hp.symm) (by rw[hin])
 ·rcases hm with h1|h1
  ·left
   show MkL (handT m.l q w).2 row t
   rw[e]
   exact ZlE h.tree.tr hi (by rw[hin];exact hp.symm) (fun t h3=>by rw[hin]at h3;exact h3) h1
  ·exact .inr h1
theorem Zfp:ZfO W m=true↔∀w,w<W->m.box w=[]/\m.wk w=[]:=by
 unfold ZfO
 rw[List.all_eq_true]
 constructor
 ·intro h w hw
  have:=h w (List.mem_range.2 hw)
  rw[Bool.and_eq_true,List.isEmpty_iff,List.isEmpty_iff]at this
  exact this
 ·intro h w hw
  rw[Bool.and_eq_true,List.isEmpty_iff,List.isEmpty_iff]
  exact h w (List.mem_range.1 hw)
theorem Zfk(h:haltM W m=false):m.over=false/\∃w,w<W/\(m.box w≠[]∨m.wk w≠[]):=by
 unfold haltM at h
 rw[Bool.or_eq_false_iff]at h
 refine⟨h.1,Classical.byContradiction fun hn=>?_⟩
 have:ZfO W m=true:=Zfp.2 fun w hw=>by
  constructor
  ·apply Classical.byContradiction;intro h1;exact hn ⟨w,hw,.inl h1⟩
  ·apply Classical.byContradiction;intro h1;exact hn ⟨w,hw,.inr h1⟩
 rw[h.2]at this
 cases this
inductive StepK(p:Pg)(fuel:Int)(W B:Nat)(w:Nat)(d:Int)(m:Mac):Nat × Mac->Prop where
 |halt (h:haltM W m=true):StepK p fuel W B w d m (0,m)
 |idle (h:haltM W m=false) (hw:w<W) (hb:m.box w=[]) (hk:m.wk w=[]) (hv:drawN d W=w∨m.wk (drawN d W)=[]):StepK p fuel W B w d m (0,m)
 |nobody (h:haltM W m=false) (hw:W<=w):StepK p fuel W B w d m (0,m)
 |read (h:haltM W m=false) (hw:w<W) (x:Ltr) (r:List Ltr) (hb:m.box w=x::r):StepK p fuel W B w d m (1,readM W w x r m)
 |stole (h:haltM W m=false) (hw:w<W) (hb:m.box w=[]) (hk:m.wk w=[]) (hv:drawN d W≠w) (hn:m.wk (drawN d W)≠[]):StepK p fuel W B w d m (2,ZcH w (drawN d W) m)
 |over (h:haltM W m=false) (hw:w<W) (hb:m.box w=[]) (q:Pfx) (r:List Txt) (hk:m.wk w=q::r) (hB:m.l.length=B):StepK p fuel W B w d m (5,{ m with wk:=updF m.wk w r,over:=true })
 |into (h:haltM W m=false) (hw:w<W) (hb:m.box w=[]) (q:Pfx) (r:List Txt) (hk:m.wk w=q::r) (hB:m.l.length≠B):StepK p fuel W B w d m (3,intoM p fuel W w q d { m with wk:=updF m.wk w r })
theorem ZcU(h:InvM p fuel W B m T)(w:Nat)(d:Int):StepK p fuel W B w d m (stepM p fuel W B w d m):=by
 unfold stepM
 by_cases hh:haltM W m=true
 ·rw[if_pos (.inr hh)]
  exact .halt hh
 ·have hh':haltM W m=false:=by simpa using hh
  by_cases hw:W<=w
  ·rw[if_pos (.inl hw)]
   exact .nobody hh' hw
  ·rw[if_neg (by rintro (h1|h1);exact hw h1;exact hh h1)]
   have hw':w<W:=by omega
   cases hb:m.box w with
   |cons x r=>exact .read hh' hw' x r hb
   |nil=>
    cases hk:m.wk w with
    |nil=>
     dsimp only
     by_cases hv:drawN d W=w∨m.wk (drawN d W)=[]
     ·rw[if_pos hv];exact .idle hh' hw' hb hk hv
     ·rw[if_neg hv]
      exact .stole hh' hw' hb hk (fun e=>hv (.inl e)) (fun e=>hv (.inr e))
    |cons q r=>
     dsimp only
     have hl:leftT m.l q≠0:=((h.work (Zfk hh').1).iff q).1 ⟨w,hw',by rw[hk];exact List.mem_cons_self⟩
     rw[if_neg hl]
     by_cases hB:m.l.length=B
     ·rw[if_pos hB];exact .over hh' hw' hb q r hk hB
     ·rw[if_neg hB];exact .into hh' hw' hb q r hk hB
theorem ZdX(hg:Zam p fuel=true)(hW:0<W)(h:InvM p fuel W B m T)(w:Nat)(d:Int):∃T',InvM p fuel W B (stepM p fuel W B w d m).2 T':=by
 have hk:=ZcU h w d
 generalize stepM p fuel W B w d m=x at hk
 cases hk with
 |halt=>exact⟨T,h⟩
 |idle=>exact⟨T,h⟩
 |nobody=>exact⟨T,h⟩
 |read hh hw x r hb=>exact⟨T,readM_ok h (Zfk hh).1 hw hb⟩
 |stole hh hw hb hk hv hn=>exact⟨T,stealM_ok h (Zfk hh).1 hw (ZcN d hW) hv hn⟩
 |over hh hw hb q r hk hB=>exact⟨T,h.tree,h.letr,(fun h1=>by cases h1),h.marks,h.cl,h.keys,h.blk,h.bud⟩
 |into hh hw hb q r hk hB=>exact intoM_ok hg hw h (Zfk hh).1 hk (by have:=h.bud;omega) d
end
section
variable{p:Pg}{fuel:Int}{W w B:Nat}{m:Mac}{T:List Nd}
theorem ZgR(t:Int):hasB 0 t=false:=by
 unfold hasB
 rw[Nat.zero_testBit,Bool.and_false]
theorem keysM_nil(W:Nat):keysM W (fun _=>[])=[]:=by
 unfold keysM
 simp
theorem newM_pre(hg:Zam p fuel=true)(hW:0<W)(hB:1<=B):∃nd,rep p fuel (rowK [])=(0,nd.row,some (s0 p fuel))/\(makeT p fuel mac0.l [] 0 (0:Nat)).1=0/\PreM p fuel W B { mac0 with l:=(makeT p fuel mac0.l [] 0 (0:Nat)).2 } [nd] nd [] 0:=by
 let nd:Nd:=⟨[],fun _=>false,[]⟩
 have hx:Ex (s0 p fuel) [] (s0 p fuel):=rfl
 have hr:rep p fuel (rowK [])=(0,[],some (s0 p fuel)):=Zgw hg hx
 have hmake:(makeT p fuel mac0.l [] 0 (0:Nat)).2=[⟨[],0,ofN (s0 p fuel).all,0,0,0⟩]:=by
  unfold makeT
  rw[hr]
  rfl
 have htr:TrOk p fuel [⟨[],0,ofN (s0 p fuel).all,0,0,0⟩]:=by
  have:=(Zmi p fuel).snoc (k:=[]) rfl hr (asl:=0) (by omega) 0
  exact this
 have hds:Za7 (s0 p fuel) nd.row=s0 p fuel:=rfl
 have hR:NodeR nd ⟨[],0,ofN (s0 p fuel).all,0,0,0⟩:=⟨rfl,fun u=>(ZgR u).symm,fun u=>by
  show u∈([]:List Int)↔hasB 0 u=true
  rw[ZgR]
  simp⟩
 have hpre:PreM p fuel W B { mac0 with l:=(makeT p fuel mac0.l [] 0 (0:Nat)).2 } [nd] nd [] 0:=by
  refine⟨⟨?_,?_,fun v _ x hx'=>by cases hx'⟩,by simp,rfl,fun u=>(ZgR u).symm,fun b hb hne=>?_,fun b hb hne=>?_,?_,?_,?_,?_⟩
  ·show TreeR p fuel W (makeT p fuel mac0.l [] 0 (0:Nat)).2 [nd]
   rw[hmake]
   refine⟨tree_root _,htr,rfl,fun n hn=>⟨nd,by simp,?_⟩,fun b hb=>⟨_,List.mem_singleton.2 rfl,?_⟩,fun n hn=>?_⟩
   ·rw[List.mem_singleton.1 hn];exact hR
   ·rw[List.mem_singleton.1 hb];exact hR
   ·rw[List.mem_singleton.1 hn]
    exact⟨Int.le_refl _,by show(0:Int)<W;omega⟩
  ·show WorkR W (makeT p fuel mac0.l [] 0 (0:Nat)).2 fun _=>[]
   rw[hmake]
   refine⟨fun q=>⟨(fun⟨_,_,h⟩=>by cases h),fun h=>?_⟩,fun _ _=>List.nodup_nil,fun _ _ _ _ _ _ h=>by cases h⟩
   exfalso
   apply h
   cases hi:idxT [(⟨[],0,ofN (s0 p fuel).all,0,0,0⟩:TNd)] q with
   |none=>unfold leftT;rw[hi]
   |some i=>
    obtain⟨hil,_⟩:=Za0 hi
    rw[ZbA hi hil]
    obtain rfl:i=0:=by simpa using hil
    show wo (wo 0 0) 0=0
    unfold wo
    simp
  ·rw[List.mem_singleton.1 hb]at hne;exact absurd rfl hne
  ·rw[List.mem_singleton.1 hb]at hne;exact absurd rfl hne
  ·show(keysM W (fun _=>[])++_).Perm _
   rw[keysM_nil,List.nil_append]
   unfold keysT endsT
   by_cases h:(s0 p fuel).all=[]
   ·rw[if_pos (by rw[hds];exact h),List.filter_cons_of_pos (by simpa [hds]using h)]
    exact List.Perm.refl _
   ·rw[if_neg (by rw[hds];exact h),List.filter_cons_of_neg (by simpa [hds]using h)]
    exact List.Perm.refl _
  ·show 0+_=_
   unfold blkX
   by_cases h:(Za7 (s0 p fuel) nd.row).all≠[]/\(Za7 (s0 p fuel) nd.row).all.all nd.z=true
   ·rw[if_pos h,List.filter_cons_of_pos (by rw[Bool.and_eq_true,decide_eq_true_eq];exact h)]
    rfl
   ·rw[if_neg h,List.filter_cons_of_neg (by rw[Bool.and_eq_true,decide_eq_true_eq];exact h)]
    rfl
  ·show 0+1=(makeT p fuel mac0.l [] 0 (0:Nat)).2.length
   rw[hmake]
   rfl
  ·show(makeT p fuel mac0.l [] 0 (0:Nat)).2.length<=B
   rw[hmake]
   exact hB
 refine⟨nd,hr,?_,hpre⟩
 unfold makeT
 rw[hr]
 rfl
theorem ZiN(hg:Zam p fuel=true)(hW:0<W)(hB:1<=B):∃T,InvM p fuel W B (newM p fuel W) T:=by
 obtain⟨nd,_,_,h⟩:=newM_pre (W:=W) hg hW hB
 exact⟨[nd],h.open hg hW 0⟩
theorem InvM.any(hg:Zam p fuel=true)(h:InvM p fuel W B m T):(keysM W m.keys).Nodup/\(∀k∈keysM W m.keys,k∈Zau (runsW p fuel))/\m.l.length<=preW p fuel:=by
 obtain⟨ok,_⟩:=s0_ok hg
 refine⟨h.keys.nodup_iff.2 (ZgM ok h.tree.ok),fun k hk=>Zks ok h.tree.ok (h.keys.mem_iff.1 hk),?_⟩
 rw[<-h.tree.len]
 exact Zii ok h.tree.ok
theorem InvM.closed(h:InvM p fuel W B m T)(hh:haltM W m=true)(hov:m.over=false):TreeDone (s0 p fuel) T:=by
 have he:ZfO W m=true:=by
  unfold haltM at hh
  rw[hov,Bool.false_or]at hh
  exact hh
 have hE:=Zfp.1 he
 refine h.marks.done fun b hb t hm=>?_
 rcases hm with ⟨n,hn,h1,h2⟩|⟨v,hv,x,hx,_⟩
 ·obtain⟨c,hc,R⟩:=h.tree.fwd n hn
  obtain⟨zc,hzc⟩:=h.tree.ok.rows c hc
  obtain⟨zb,hzb⟩:=h.tree.ok.rows b hb
  have hcb:c=b:=h.tree.ok.uniq hc hb (ZgY hzc hzb (by rw[R.row,h1]))
  subst hcb
  have hok:=h.tree.tr.ok n hn
  have hl:n.left=0:=by
   apply Classical.byContradiction
   intro hl
   obtain⟨i,hi,hin,hidx⟩:=h.tree.tr.at hn
   have:leftT m.l n.pre≠0:=by rw[ZbA hidx hi,hin];exact hl
   obtain⟨v,hv,hq⟩:=((h.work hov).iff n.pre).2 this
   rw[(hE v hv).2]at hq
   cases hq
  obtain⟨h0,h8⟩:=ZdP h2
  obtain⟨j,rfl⟩:∃j:Nat,t=j:=⟨t.toNat,by omega⟩
  have hj:j<8:=by omega
  rw[Za2 _ hj]at h2
  have e2:n.left.testBit j=false:=by rw[hl,Nat.zero_testBit]
  unfold TNd.left at e2
  rw[ZaY (wo_lt _ _ hok.todo) hok.asl,ZaY hok.todo hok.gone,h2]at e2
  rw[R.g,R.z,Za2 _ hj,Za2 _ hj]
  revert e2
  cases n.gone.testBit j <;> cases n.asl.testBit j <;> simp
 ·rw[(hE v hv).1]at hx
  cases hx
theorem InvM.exact(hg:Zam p fuel=true)(h:InvM p fuel W B m T)(hh:haltM W m=true)(hov:m.over=false):sortK (keysM W m.keys)=sortK (Zau (runsW p fuel))/\(keysM W m.keys).length=(sortK (Zau (runsW p fuel))).length:=by
 obtain⟨ok,_⟩:=s0_ok hg
 obtain⟨h1,h2⟩:=ZlM ok h.tree.ok (h.closed hh hov)
 exact⟨(ZjK fun x=>h.keys.mem_iff).trans h1,h.keys.length_eq.trans h2⟩
theorem busy(h:InvM p fuel W B m T)(hh:haltM W m=false):∃w,w<W/\∀d,(stepM p fuel W B w d m).1≠0:=by
 obtain⟨hov,w0,hw0,hd⟩:=Zfk hh
 by_cases hb:∃w,w<W/\m.box w≠[]
 ·obtain⟨w,hw,hbw⟩:=hb
  refine⟨w,hw,fun d=>?_⟩
  have hk:=ZcU h w d
  generalize stepM p fuel W B w d m=x at hk
  cases hk with
  |halt h1=>rw[hh]at h1;cases h1
  |idle _ _ h1=>exact absurd h1 hbw
  |nobody _ h1=>omega
  |read=>simp
  |stole=>simp
  |over=>simp
  |into=>simp
 ·have hk0:m.wk w0≠[]:=hd.elim (fun h1=>absurd ⟨w0,hw0,h1⟩ hb) id
  refine⟨w0,hw0,fun d=>?_⟩
  have hk:=ZcU h w0 d
  generalize stepM p fuel W B w0 d m=x at hk
  cases hk with
  |halt h1=>rw[hh]at h1;cases h1
  |idle _ _ _ h1=>exact absurd h1 hk0
  |nobody _ h1=>omega
  |read=>simp
  |stole=>simp
  |over=>simp
  |into=>simp
end
section
variable{p:Pg}{fuel:Int}{W w B:Nat}{m:Mac}{T:List Nd}
def pendM(W:Nat)(box:Nat->List Ltr):Nat:=((List.range W).map fun w=>(box w).length).sum
theorem Zfa(box:Nat->List Ltr)(n:Nat):pendM (n+1) box=pendM n box+(box n).length:=by simp[pendM,List.range_succ]
theorem Zj7(box:Nat->List Ltr)(l:List Ltr)(hw:w<W):pendM W (updF box w l)+(box w).length=pendM W box+l.length:=by
 induction W with
 |zero=>omega
 |succ n ih=>
  rw[Zfa,Zfa]
  by_cases e:w=n
  ·subst e
   rw[Zac]
   have:pendM w (updF box w l)=pendM w box:=by
    unfold pendM
    congr 1
    apply List.map_congr_left
    intro v hv
    rw[Zad _ _ (by have:=List.mem_range.1 hv;omega)]
   omega
  ·rw[Zad _ _ (Ne.symm e)]
   have:=ih (by omega)
   omega
theorem pendM_out(box:Nat->List Ltr)(l:List Ltr)(hw:W<=w):pendM W (updF box w l)=pendM W box:=by
 unfold pendM
 congr 1
 apply List.map_congr_left
 intro v hv
 rw[Zad _ _ (by have:=List.mem_range.1 hv;omega)]
theorem Zc3{box:Nat->List Ltr}:pendM W box=0↔∀w,w<W->box w=[]:=by
 induction W with
 |zero=>exact⟨fun _ w hw=>by omega,fun _=>rfl⟩
 |succ n ih=>
  rw[Zfa]
  constructor
  ·intro h w hw
   by_cases e:w=n
   ·subst e;exact List.eq_nil_of_length_eq_zero (by omega)
   ·exact ih.1 (by omega) w (by omega)
  ·intro h
   rw[ih.2 fun w hw=>h w (by omega),h n (by omega)]
   rfl
theorem Zkm(W w:Nat)(k:Pfx)(set:Nat)(m:Mac):(markM W w k set m).box=m.box:=by
 unfold markM pushM
 split
 ·split <;> rfl
 ·rfl
theorem raceM_pend(k:Pfx)(m:Mac)(i:Nat):pendM W (raceM p fuel W w k m i).box<=pendM W m.box+1:=by
 unfold raceM
 split
 ·rw[Zkm];omega
 ·unfold sendM
  dsimp only
  by_cases h:(ownT m.l (k.take i)).toNat<W
  ·have:=Zj7 (W:=W) m.box (m.box (ownT m.l (k.take i)).toNat++[⟨k.take i,ofN (stK p fuel (k.take i)).all⟩]) h
   rw[List.length_append,List.length_singleton]at this
   omega
  ·rw[pendM_out _ _ (by omega)];omega
theorem ZhI(k:Pfx)(l:List Nat):∀m:Mac,pendM W (l.foldl (raceM p fuel W w k) m).box<=pendM W m.box+l.length:=by
 induction l with
 |nil=>intro m;exact Nat.le_refl _
 |cons i l ih=>
  intro m
  have h1:=ih (raceM p fuel W w k m i)
  have h2:=raceM_pend (p:=p) (fuel:=fuel) (W:=W) (w:=w) k m i
  rw[List.foldl_cons,List.length_cons]
  omega
theorem endM_box(k:Pfx)(asl:Nat)(d:Int)(m:Mac):(endM p fuel W w k asl d m).box=m.box:=by
 unfold endM
 split
 ·rfl
 ·split
  ·rfl
  ·exact Zkm _ _ _ _ _
theorem Zlz(p:Pg)(F:Nat):(St.new p F).fuel=p.threads.length*F:=by
 unfold St.fuel St.new
 simp[List.map_const']
theorem ZhK(hg:Zam p fuel=true)(k:Pfx):(ZbR p fuel k).length<=p.threads.length*(p.threads.length*fuel.toNat):=by
 unfold ZbR
 rw[List.length_map]
 refine Nat.le_trans (Ze8 _ _ _) ?_
 rcases hr:rep p fuel (rowK k)with ⟨e,es,_|s⟩
 ·have he:evK p fuel k=[]:=by
   unfold evK
   rw[hr]
   unfold rep comb at hr
   rw[if_pos hg]at hr
   split at hr
   ·injection hr with _ hr;injection hr with _ hr;cases hr
   ·injection hr with _ hr;injection hr with hr _;exact hr.symm
  rw[he]
  simp
 ·obtain⟨h1,h2⟩:=Zdu hr
  obtain⟨hx,_⟩:=ZeW hr
  rw[h1,h2]
  obtain⟨_,h3⟩:=ex_p hx
  have h4:=ex_len hx
  have h5:(s0 p fuel).fuel=p.threads.length*fuel.toNat:=Zlz p _
  have h6:(s0 p fuel).ts.length=p.threads.length:=by unfold s0 St.new;simp
  rw[h3,h6]
  exact Nat.mul_le_mul_left _ (by omega)
theorem into_pend(hg:Zam p fuel=true)(q:Pfx)(d:Int)(m:Mac):pendM W (intoM p fuel W w q d m).box<=pendM W m.box+p.threads.length*(p.threads.length*fuel.toNat):=by
 unfold intoM openM
 dsimp only
 rw[endM_box]
 refine Nat.le_trans (ZhI _ _ _) ?_
 have h1:=ZhK hg (q++[UInt8.ofNat (Zbc p fuel m.l q d).2.1.toNat])
 refine Nat.add_le_add ?_ h1
 dsimp only
 split
 ·unfold pushM
  split <;> exact Nat.le_refl _
 ·exact Nat.le_refl _
theorem markM_cl(W w:Nat)(k:Pfx)(set:Nat)(m:Mac):(markM W w k set m).cl=m.cl:=by
 unfold markM pushM
 split
 ·split <;> rfl
 ·rfl
theorem races_cl(k:Pfx)(l:List Nat):∀m:Mac,(l.foldl (raceM p fuel W w k) m).cl=m.cl:=by
 induction l with
 |nil=>intro m;rfl
 |cons i l ih=>
  intro m
  rw[List.foldl_cons,ih]
  unfold raceM
  split
  ·exact markM_cl _ _ _ _ _
  ·rfl
theorem endM_cl(k:Pfx)(asl:Nat)(d:Int)(m:Mac):(endM p fuel W w k asl d m).cl=m.cl:=by
 unfold endM
 split
 ·rfl
 ·split
  ·rfl
  ·exact markM_cl _ _ _ _ _
theorem ZlN(q:Pfx)(d:Int)(m:Mac):(intoM p fuel W w q d m).cl=m.cl+1:=by
 unfold intoM openM
 dsimp only
 rw[endM_cl,races_cl]
 dsimp only
 split
 ·unfold pushM
  split <;> rfl
 ·rfl
def costM(p:Pg)(fuel:Int)(W:Nat)(m:Mac):Nat:=pendM W m.box+(p.threads.length*(p.threads.length*fuel.toNat)+6)*(preW p fuel-m.l.length)
inductive CostK(p:Pg)(fuel:Int)(W:Nat)(w:Nat)(d:Int)(m m':Mac):Prop where
 |halt (h:haltM W m'=true):CostK p fuel W w d m m'
 |into (h:costM p fuel W m'+6<=costM p fuel W m):CostK p fuel W w d m m'
 |read (h:costM p fuel W m'+1<=costM p fuel W m) (hp:0<pendM W m.box):CostK p fuel W w d m m'
 |stole (hc:costM p fuel W m'=costM p fuel W m) (hb:m'.box=m.box) (hw:m.box w=[]) (hv:drawN d W≠w) (hm:m'=ZcH w (drawN d W) m) (hk:m.wk w=[]) (hn:m.wk (drawN d W)≠[]):CostK p fuel W w d m m'
 |idle (h:m'=m) (hw:m.box w=[]) (hk:m.wk w=[]) (hv:drawN d W=w∨m.wk (drawN d W)=[]):CostK p fuel W w d m m'
theorem Zhz(hg:Zam p fuel=true)(hW:0<W)(h:InvM p fuel W B m T)(hw:w<W)(d:Int):CostK p fuel W w d m (stepM p fuel W B w d m).2/\costM p fuel W (stepM p fuel W B w d m).2<=costM p fuel W m:=by
 have hk:=ZcU h w d
 obtain⟨T',h'⟩:=ZdX hg hW h w d
 generalize stepM p fuel W B w d m=x at hk h'
 cases hk with
 |halt hh=>exact⟨.halt hh,Nat.le_refl _⟩
 |nobody _ hh=>omega
 |idle _ _ hb hk hv=>exact⟨.idle rfl hb hk hv,Nat.le_refl _⟩
 |read hh _ x r hb=>
  have hb':(readM W w x r m).box=updF m.box w r:=by
   unfold readM pushM
   split
   ·split <;> rfl
   ·rfl
  have hl':(readM W w x r m).l.length=m.l.length:=by
   have h1:=h.cl
   have h2:=h'.cl
   have h3:(readM W w x r m).cl=m.cl:=by
    unfold readM pushM
    split
    ·split <;> rfl
    ·rfl
   dsimp only at h2
   omega
  have hp:=Zj7 m.box r hw
  rw[hb,List.length_cons]at hp
  have hmain:costM p fuel W (readM W w x r m)+1<=costM p fuel W m:=by
   unfold costM
   rw[hb',hl']
   omega
  refine⟨.read hmain ?_,by dsimp only;omega⟩
  ·apply Nat.pos_of_ne_zero
   intro h0
   rw[Zc3.1 h0 w hw]at hb
   cases hb
 |stole hh _ hb hk hv hn=>
  have hl':(ZcH w (drawN d W) m).l.length=m.l.length:=by
   unfold ZcH handT
   dsimp only
   split
   ·rfl
   ·rw[List.length_set]
  have hmain:costM p fuel W (ZcH w (drawN d W) m)=costM p fuel W m:=by unfold costM;rw[hl'];rfl
  exact⟨.stole hmain rfl hb hv rfl hk hn,Nat.le_of_eq hmain⟩
 |over hh _ hb q r hk hB=>
  refine⟨.halt ?_,Nat.le_refl _⟩
  unfold haltM
  rfl
 |into hh _ hb q r hk hB=>
  have h1:=into_pend (W:=W) (w:=w) hg q d { m with wk:=updF m.wk w r }
  have h2:=(h'.any hg).2.2
  dsimp only at h1 h2 h'
  have hcl:(intoM p fuel W w q d { m with wk:=updF m.wk w r }).l.length=m.l.length+1:=by
   have h3:=h.cl
   have h4:=h'.cl
   have h5:(intoM p fuel W w q d { m with wk:=updF m.wk w r }).cl=m.cl+1:=ZlN q d _
   omega
  suffices hmain:costM p fuel W (intoM p fuel W w q d { m with wk:=updF m.wk w r })+6<=costM p fuel W m from⟨.into hmain,by dsimp only;omega⟩
  unfold costM
  rw[hcl]at h2 ⊢
  obtain⟨j,hj⟩:∃j,preW p fuel-m.l.length=j+1:=⟨preW p fuel-m.l.length-1,by omega⟩
  rw[hj,show preW p fuel-(m.l.length+1)=j by omega,Nat.mul_succ]
  omega
theorem ZjD(hg:Zam p fuel=true)(hW:0<W)(h:InvM p fuel W B m T)(hw:w<W)(d:Int):CostK p fuel W w d m (stepM p fuel W B w d m).2:=(Zhz hg hW h hw d).1
end
end Go.Proofs.YtjfmmnhcddckaaaGreat
namespace Go.Proofs.YtjfmmnhcddckaaaGreat
open Go.RowKit
section
variable{w w':World}{B b n cnt g:Nat}{T:Nat->List Txt}{S R:Nat->Prop}
theorem WU.tight(h:WU w B b n cnt S T):WU w B b n (totW n T) S T:=by
 obtain⟨g,mb,cap,qs,Sq,q,hS⟩:=h.k
 refine⟨⟨g,mb,cap,qs,Sq,⟨q.low,q.lowb,q.lowm,q.box,q.row,q.cap,q.qu,q.apart,q.map.tight⟩,hS⟩,h.sort,h.no,h.short⟩
theorem WU.rowOf(h:WU w B b n cnt S T)(hg:WkB w b n g):∃cs,w.heap[g]?=some (.cells cs 129 (0,0)):=by
 obtain⟨g',mb,cap,qs,Sq,q,hS⟩:=h.k
 obtain⟨cap2,mb2,e⟩:=hg
 rw[q.box]at e
 injection e with e;injection e with e
 obtain⟨cs,h1,_⟩:=q.row
 have:g'=g:=by injection e with e;simp at e;exact e.1.1
 subst this
 exact⟨cs,h1⟩
theorem WU.boxOf(h:WU w B b n cnt S T):∃cs,w.heap[b]?=some (.cells cs 128 (0,0)):=by
 obtain⟨g',mb,cap,qs,Sq,q,hS⟩:=h.k
 exact⟨_,q.box⟩
theorem WU.onlyS(h:WU w B b n cnt S T)(hg:WkB w b n g)(ho:OnlyS R w w')(hb:¬R b)(hgR:¬R g)(hR:∀x,S x->¬R x):WU w' B b n cnt S T:=by
 obtain⟨cs0,hrow⟩:=h.rowOf hg
 obtain⟨g',mb,cap,qs,Sq,q,hS⟩:=h.k
 obtain⟨cap2,mb2,e⟩:=hg
 rw[q.box]at e
 injection e with e;injection e with e
 have hgg:g'=g:=by injection e with e;simp at e;exact e.1.1
 subst hgg
 obtain⟨cs,h6,h7⟩:=q.row
 exact⟨⟨g',mb,cap,qs,Sq,⟨Nat.le_trans q.low ho.size,q.lowb,q.lowm,ho.row q.box hb,⟨cs,ho.row h6 hgR,h7⟩,q.cap,fun j hj=>(q.qu j hj).onlyS ho fun x hx=>hR x ((hS x).2 (.inr ⟨j,hj,hx⟩)),q.apart,q.map.onlyS ho (hR _ ((hS _).2 (.inl rfl)))⟩,hS⟩,h.sort,h.no,h.short⟩
theorem WkB.only(hg:WkB w b n g)(ho:OnlyS R w w')(hb:¬R b):WkB w' b n g:=by
 obtain⟨cap,mb,e⟩:=hg
 exact⟨cap,mb,ho.row e hb⟩
theorem WU.not_kind(h:WU w B b n cnt S T){x:Nat}{d:Array Value}{ty:TypeId}(e:w.heap[x]?=some (.cells d ty (0,0)))(h1:ty≠186)(h2:ty≠278)(h3:ty≠280):¬S x:=h.k.not_row e h1 h2 h3
end
theorem TrAt.other{w w':World}{h:TrH}{gs:List Nat}{l:List TNd}{cl:Int}{C:Nat}{R:Nat->Prop}(t:TrAt h w gs l cl)(own:ZaB h.wc C h.a h.p.threads)(o:OnlyS R w w')(h1:∀x,C<=x->x<h.wc.heap.size->¬R x)(h2:∀x,TrS h gs x->¬R x):
  ∃wd:World,wd.heap.size=h.wc.heap.size/\TrAt { h with wc:=wd } w' gs l cl/\ZaB wd C h.a h.p.threads:=by
 obtain⟨b,mb',a,cap,wc,hp,hf⟩:=h
 have hwc:wc.heap.size<=w'.heap.size:=Nat.le_trans t.below.size o.size
 obtain⟨wd,hwd⟩:∃wd:World,wd={ w' with heap:=w'.heap.extract 0 wc.heap.size }:=⟨_,rfl⟩
 have hsz:wd.heap.size=wc.heap.size:=by rw[hwd];simp;omega
 have hat:∀x,x<wc.heap.size->wd.heap[x]?=w'.heap[x]?:=fun x hx=>by
  rw[hwd]
  simp only[Array.getElem?_extract]
  rw[if_pos (by omega),Nat.zero_add]
 have hown:ZaB wd C a hp.threads:=own.keep fun x h3 h4=>by
  have h4':x<wc.heap.size:=h4
  rw[hat x h4',o.block x (Nat.lt_of_lt_of_le h4' t.below.size) (h1 x h3 h4'),t.below.block x h4']
 have hth:Zaf wd a hp.threads:=by
  have hr:=Zgs (Zfl.1 t.fuel).1
  have h3:hp.threads.length<=4:=hr.1
  exact hown.at (by unfold maxLen;omega) fun l hl=>by have:=hr.2 l hl;unfold maxLen;omega
 obtain⟨D,hD,h5,h6⟩:=t.map
 have hk:∀x,TrS ⟨b,mb',a,cap,wc,hp,hf⟩ gs x->w'.heap[x]?=w.heap[x]?:=fun x hx=>o.block x (t.lt x hx) (h2 x hx)
 have hbl:Below wd.heap.size wd w':=⟨by rw[hwd],by rw[hwd],by rw[hwd],by omega,fun x hx=>(hat x (by omega)).symm⟩
 exact⟨wd,hsz,⟨hth,hbl,fun x hx=>Nat.le_trans (Nat.le_of_eq hsz) (t.low x hx),(hk _ (.inl rfl)).trans t.box,⟨D,ZfX hD (hk _ (.inr (.inl rfl))),h5,h6⟩,t.len,t.nodup,fun i h1 h2=>(hk _ (.inr (.inr (List.getElem_mem h2)))).trans (t.nodes i h1 h2),t.ok,t.fuel⟩,hown⟩
def letM(x:Ltr):Let:=⟨x.q,255⟩
def PB(C:Nat)(h:TrH)(gs:List Nat)(Sm Sw:Nat->Prop)(wb wg x:Nat):Prop:=(C<=x/\x<h.wc.heap.size)∨TrS h gs x∨Sm x∨Sw x∨x=wb∨x=wg
structure P3(p:Pg)(fuel:Int)(w:World)(B C:Nat)(h:TrH)(tb mb wb wg W:Nat)(gs:List Nat)(Sm Sw:Nat->Prop)(m:Mac):Prop where
 eb:h.b=tb
 ep:h.p=p
 ef:h.fuel=fuel
 baseC:B<=C
 base:B<=h.wc.heap.size
 own:ZaB h.wc C h.a h.p.threads
 right:Zam p fuel=true
 tr:TrAt h w gs m.l (m.cl:Int)
 ml:MU w B mb W Sm (fun j=>(m.box j).map letM)
 wk:WU w B wb W (totW W m.wk) Sw m.wk
 wx:WkB w wb W wg
 lowb:B<=wb
 lowg:B<=wg
 mlow:∀x,Sm x->¬(C<=x/\x<h.wc.heap.size)
 slow:∀x,Sw x->¬(C<=x/\x<h.wc.heap.size)
 tm:∀x,TrS h gs x->¬Sm x
 tw:∀x,TrS h gs x->¬Sw x
 mw:∀x,Sm x->¬Sw x
def PM(p:Pg)(fuel:Int)(w:World)(B tb mb wb W:Nat)(S:Nat->Prop)(m:Mac):Prop:=∃C h gs Sm Sw wg,P3 p fuel w B C h tb mb wb wg W gs Sm Sw m/\∀x,S x↔PB C h gs Sm Sw wb wg x
def PMR(p:Pg)(fuel:Int)(B tb mb wb W:Nat)(S:Nat->Prop)(m:Mac)(w w':World):Prop:=∃S',PM p fuel w' B tb mb wb W S' m/\OnlyS S w w'/\∀x,S' x->S x∨w.heap.size<=x
section
variable{p:Pg}{fuel:Int}{w w':World}{B C tb mb wb wg W:Nat}{h:TrH}{gs:List Nat}{Sm Sw S R:Nat->Prop}{m m':Mac}
theorem P3.not_wb(q:P3 p fuel w B C h tb mb wb wg W gs Sm Sw m):¬TrS h gs wb/\¬Sm wb/\¬Sw wb:=by
 obtain⟨cs,e⟩:=q.wk.boxOf
 exact⟨q.tr.not_row e (by decide) (by decide),q.ml.not_row e (by decide) (by decide) (by decide),q.wk.not_kind e (by decide) (by decide) (by decide)⟩
theorem P3.not_wg(q:P3 p fuel w B C h tb mb wb wg W gs Sm Sw m):¬TrS h gs wg/\¬Sm wg/\¬Sw wg:=by
 obtain⟨cs,e⟩:=q.wk.rowOf q.wx
 exact⟨q.tr.not_row e (by decide) (by decide),q.ml.not_row e (by decide) (by decide) (by decide),q.wk.not_kind e (by decide) (by decide) (by decide)⟩
theorem P3.lt(q:P3 p fuel w B C h tb mb wb wg W gs Sm Sw m){x:Nat}(hx:PB C h gs Sm Sw wb wg x):B<=x/\x<w.heap.size:=by
 rcases hx with ⟨h1,h2⟩|h1|h1|h1|h1|h1
 ·exact⟨Nat.le_trans q.baseC h1,Nat.lt_of_lt_of_le h2 q.tr.below.size⟩
 ·exact⟨Nat.le_trans q.base (q.tr.low _ h1),q.tr.lt _ h1⟩
 ·exact⟨(q.ml.kinds h1).1,q.ml.lt h1⟩
 ·exact⟨(q.wk.k.kinds h1).1,q.wk.k.lt h1⟩
 ·subst h1
  obtain⟨cs,e⟩:=q.wk.boxOf
  exact⟨q.lowb,(Array.getElem?_eq_some_iff.1 e).1⟩
 ·subst h1
  obtain⟨cs,e⟩:=q.wk.rowOf q.wx
  exact⟨q.lowg,(Array.getElem?_eq_some_iff.1 e).1⟩
theorem PM.low(q:PM p fuel w B tb mb wb W S m):B<=w.heap.size/\∀x,S x->B<=x/\x<w.heap.size:=by
 obtain⟨C,h,gs,Sm,Sw,wg,q,hS⟩:=q
 exact⟨q.ml.low,fun x hx=>q.lt ((hS x).1 hx)⟩
theorem P3.tree(q:P3 p fuel w B C h tb mb wb wg W gs Sm Sw m){gs':List Nat}(t:TrAt h w' gs' m'.l (m'.cl:Int))(o:OnlyS (TrS h gs) w w')(hg:∀x∈gs',x∈gs∨w.heap.size<=x)(e1:m'.box=m.box)(e2:m'.wk=m.wk):P3 p fuel w' B C h tb mb wb wg W gs' Sm Sw m':=by
 have hT:∀x,TrS h gs' x->TrS h gs x∨w.heap.size<=x:=fun x hx=>by
  rcases hx with hx|hx|hx
  ·exact .inl (.inl hx)
  ·exact .inl (.inr (.inl hx))
  ·rcases hg x hx with h1|h1
   ·exact .inl (.inr (.inr h1))
   ·exact .inr h1
 refine⟨q.eb,q.ep,q.ef,q.baseC,q.base,q.own,q.right,t,?_,?_,q.wx.only o q.not_wb.1,q.lowb,q.lowg,q.mlow,q.slow,fun x hx hs=>?_,fun x hx hs=>?_,q.mw⟩
 ·rw[e1]
  exact q.ml.onlyS o fun x hx ht=>q.tm x ht hx
 ·rw[e2]
  exact q.wk.onlyS q.wx o q.not_wb.1 q.not_wg.1 fun x hx ht=>q.tw x ht hx
 ·rcases hT x hx with h1|h1
  ·exact q.tm x h1 hs
  ·have:=q.ml.lt hs;omega
 ·rcases hT x hx with h1|h1
  ·exact q.tw x h1 hs
  ·have:=q.wk.k.lt hs;omega
theorem P3.mail(q:P3 p fuel w B C h tb mb wb wg W gs Sm Sw m){Sm':Nat->Prop}(u:MU w' B mb W Sm' (fun j=>(m'.box j).map letM))(o:OnlyS Sm w w')(hs:∀x,Sm' x->Sm x∨w.heap.size<=x)(e0:m'.l=m.l)(e1:m'.cl=m.cl)(e2:m'.wk=m.wk):∃h',P3 p fuel w' B C h' tb mb wb wg W gs Sm' Sw m'/\(∀x,TrS h' gs x↔TrS h gs x)/\h'.wc.heap.size=h.wc.heap.size:=by
 obtain⟨wd,hsz,t,hown⟩:=q.tr.other q.own o (fun x h1 h2 hm=>q.mlow x hm ⟨h1,h2⟩) q.tm
 refine⟨{ h with wc:=wd },⟨q.eb,q.ep,q.ef,q.baseC,Nat.le_trans q.base (Nat.le_of_eq hsz.symm),hown,q.right,?_,u,?_,q.wx.only o q.not_wb.2.1,q.lowb,q.lowg,fun x hx hc=>?_,fun x hx hc=>q.slow x hx ⟨hc.1,Nat.lt_of_lt_of_le hc.2 (Nat.le_of_eq hsz)⟩,fun x hx hm=>?_,q.tw,fun x hx hw=>?_⟩,fun _=>Iff.rfl,hsz⟩
 ·rw[e0,e1]
  exact t
 ·rw[e2]
  exact q.wk.onlyS q.wx o q.not_wb.2.1 q.not_wg.2.1 fun x hx hm=>q.mw x hm hx
 ·have hc2:x<h.wc.heap.size:=Nat.lt_of_lt_of_le hc.2 (Nat.le_of_eq hsz)
  rcases hs x hx with h1|h1
  ·exact q.mlow x h1 ⟨hc.1,hc2⟩
  ·have:=q.tr.below.size;omega
 ·rcases hs x hm with h1|h1
  ·exact q.tm x hx h1
  ·have:=q.tr.lt x hx;omega
 ·rcases hs x hx with h1|h1
  ·exact q.mw x h1 hw
  ·have:=q.wk.k.lt hw;omega
theorem P3.work(q:P3 p fuel w B C h tb mb wb wg W gs Sm Sw m){cnt:Nat}{Sw':Nat->Prop}(u:WU w' B wb W cnt Sw' m'.wk)(o:OnlyS Sw w w')(hs:∀x,Sw' x->Sw x∨w.heap.size<=x)(e0:m'.l=m.l)(e1:m'.cl=m.cl)(e2:m'.box=m.box):∃h',P3 p fuel w' B C h' tb mb wb wg W gs Sm Sw' m'/\(∀x,TrS h' gs x↔TrS h gs x)/\h'.wc.heap.size=h.wc.heap.size:=by
 obtain⟨wd,hsz,t,hown⟩:=q.tr.other q.own o (fun x h1 h2 hm=>q.slow x hm ⟨h1,h2⟩) q.tw
 refine⟨{ h with wc:=wd },⟨q.eb,q.ep,q.ef,q.baseC,Nat.le_trans q.base (Nat.le_of_eq hsz.symm),hown,q.right,?_,?_,u.tight,q.wx.only o q.not_wb.2.2,q.lowb,q.lowg,fun x hx hc=>q.mlow x hx ⟨hc.1,Nat.lt_of_lt_of_le hc.2 (Nat.le_of_eq hsz)⟩,fun x hx hc=>?_,q.tm,fun x hx hw=>?_,fun x hx hw=>?_⟩,fun _=>Iff.rfl,hsz⟩
 ·rw[e0,e1]
  exact t
 ·rw[e2]
  exact q.ml.onlyS o q.mw
 ·have hc2:x<h.wc.heap.size:=Nat.lt_of_lt_of_le hc.2 (Nat.le_of_eq hsz)
  rcases hs x hx with h1|h1
  ·exact q.slow x h1 ⟨hc.1,hc2⟩
  ·have:=q.tr.below.size;omega
 ·rcases hs x hw with h1|h1
  ·exact q.tw x hx h1
  ·have:=q.tr.lt x hx;omega
 ·rcases hs x hw with h1|h1
  ·exact q.mw x hx h1
  ·have:=q.ml.lt hx;omega
theorem P3.other(q:P3 p fuel w B C h tb mb wb wg W gs Sm Sw m)(o:OnlyS R w w')(hR:∀x,PB C h gs Sm Sw wb wg x->¬R x):∃h',P3 p fuel w' B C h' tb mb wb wg W gs Sm Sw m/\(∀x,TrS h' gs x↔TrS h gs x)/\h'.wc.heap.size=h.wc.heap.size:=by
 obtain⟨wd,hsz,t,hown⟩:=q.tr.other q.own o (fun x h1 h2=>hR x (.inl ⟨h1,h2⟩)) fun x hx=>hR x (.inr (.inl hx))
 exact⟨{ h with wc:=wd },⟨q.eb,q.ep,q.ef,q.baseC,Nat.le_trans q.base (Nat.le_of_eq hsz.symm),hown,q.right,t,q.ml.onlyS o fun x hx=>hR x (.inr (.inr (.inl hx))),q.wk.onlyS q.wx o (hR _ (.inr (.inr (.inr (.inr (.inl rfl)))))) (hR _ (.inr (.inr (.inr (.inr (.inr rfl)))))) fun x hx=>hR x (.inr (.inr (.inr (.inl hx)))),q.wx.only o (hR _ (.inr (.inr (.inr (.inr (.inl rfl)))))),q.lowb,q.lowg,fun x hx hc=>q.mlow x hx ⟨hc.1,Nat.lt_of_lt_of_le hc.2 (Nat.le_of_eq hsz)⟩,fun x hx hc=>q.slow x hx ⟨hc.1,Nat.lt_of_lt_of_le hc.2 (Nat.le_of_eq hsz)⟩,q.tm,q.tw,q.mw⟩,fun _=>Iff.rfl,hsz⟩
theorem PB.iff{h':TrH}(h1:∀x,TrS h' gs x↔TrS h gs x)(h2:h'.wc.heap.size=h.wc.heap.size)(x:Nat):PB C h' gs Sm Sw wb wg x↔PB C h gs Sm Sw wb wg x:=by
 unfold PB
 rw[h1,h2]
theorem PM.only(q:PM p fuel w B tb mb wb W S m)(o:OnlyS R w w')(hR:∀x,S x->¬R x):PM p fuel w' B tb mb wb W S m:=by
 obtain⟨C,h,gs,Sm,Sw,wg,q,hS⟩:=q
 obtain⟨h',q',h1,h2⟩:=q.other o fun x hx=>hR x ((hS x).2 hx)
 exact⟨C,h',gs,Sm,Sw,wg,q',fun x=>(hS x).trans (PB.iff h1 h2 x).symm⟩
theorem PM.later(q:PM p fuel w B tb mb wb W S m)(hb:Below w.heap.size w w'):PM p fuel w' B tb mb wb W S m:=q.only (R:=fun _=>False) (OnlyS.of_below hb) fun _ _ h=>h
theorem PMR.below(q:PM p fuel w B tb mb wb W S m)(hb:Below w.heap.size w w'):PMR p fuel B tb mb wb W S m w w':=⟨S,q.later hb,OnlyS.of_below hb,fun _ h=>.inl h⟩
end
theorem ZgK(box:Nat->List Ltr)(j:Nat)(l:List Ltr):(fun i=>(updF box j l i).map letM)=updF (fun i=>(box i).map letM) j (l.map letM):=by
 funext i
 by_cases e:i=j
 ·subst e;rw[Zac,Zac]
 ·rw[Zad _ _ e,Zad _ _ e]
theorem ZiK(W:Nat)(box:Nat->List Ltr):totL W (fun i=>(box i).map letM)=pendM W box:=by simp[totL,pendM]
section
variable{p:Pg}{fuel:Int}{w w':World}{B tb mb wb W:Nat}{S:Nat->Prop}{m m':Mac}
theorem PM.toTree(q:PM p fuel w B tb mb wb W S m){F:FuncId}{args:Array Value}{V:Ending->Prop}(hc:∀(h:TrH) (gs:List Nat),h.b=tb->h.p=p->h.fuel=fuel->TrAt h w gs m.l (m.cl:Int)->Calls Tryz.prog F args w fun r w'=>V r/\∃gs',TrAt h w' gs' m'.l (m'.cl:Int)/\OnlyS (TrS h gs) w w'/\∀x∈gs',x∈gs∨w.heap.size<=x)(e1:m'.box=m.box)(e2:m'.wk=m.wk):
  Calls Tryz.prog F args w fun r w'=>V r/\PMR p fuel B tb mb wb W S m' w w':=by
 obtain⟨C,h,gs,Sm,Sw,wg,q,hS⟩:=q
 refine(hc h gs q.eb q.ep q.ef q.tr).mono fun r w' ⟨e,gs',t,o,hg⟩=>⟨e,PB C h gs' Sm Sw wb wg,⟨C,h,gs',Sm,Sw,wg,q.tree t o hg e1 e2,fun _=>Iff.rfl⟩,o.mono fun x _ hx=>(hS x).2 (.inr (.inl hx)),fun x hx=>?_⟩
 rcases hx with hx|(hx|hx|hx)|hx
 ·exact .inl ((hS x).2 (.inl hx))
 ·exact .inl ((hS x).2 (.inr (.inl (.inl hx))))
 ·exact .inl ((hS x).2 (.inr (.inl (.inr (.inl hx)))))
 ·rcases hg x hx with h1|h1
  ·exact .inl ((hS x).2 (.inr (.inl (.inr (.inr h1)))))
  ·exact .inr h1
 ·exact .inl ((hS x).2 (.inr (.inr hx)))
theorem PM.toMail(q:PM p fuel w B tb mb wb W S m){F:FuncId}{args:Array Value}{V:Ending->Prop}(hc:∀Sm,MU w B mb W Sm (fun j=>(m.box j).map letM)->Calls Tryz.prog F args w fun r w'=>V r/\∃Sm',MU w' B mb W Sm' (fun j=>(m'.box j).map letM)/\OnlyS Sm w w'/\∀x,Sm' x->Sm x∨w.heap.size<=x)(e0:m'.l=m.l)(e1:m'.cl=m.cl)(e2:m'.wk=m.wk):
  Calls Tryz.prog F args w fun r w'=>V r/\PMR p fuel B tb mb wb W S m' w w':=by
 obtain⟨C,h,gs,Sm,Sw,wg,q,hS⟩:=q
 refine(hc Sm q.ml).mono fun r w' ⟨e,Sm',u,o,hs⟩=>?_
 obtain⟨h',q',t1,t2⟩:=q.mail u o hs e0 e1 e2
 refine⟨e,PB C h gs Sm' Sw wb wg,⟨C,h',gs,Sm',Sw,wg,q',fun x=>(PB.iff t1 t2 x).symm⟩,o.mono fun x _ hx=>(hS x).2 (.inr (.inr (.inl hx))),fun x hx=>?_⟩
 rcases hx with hx|hx|hx|hx
 ·exact .inl ((hS x).2 (.inl hx))
 ·exact .inl ((hS x).2 (.inr (.inl hx)))
 ·rcases hs x hx with h1|h1
  ·exact .inl ((hS x).2 (.inr (.inr (.inl h1))))
  ·exact .inr h1
 ·exact .inl ((hS x).2 (.inr (.inr (.inr hx))))
theorem PM.toWork(q:PM p fuel w B tb mb wb W S m){F:FuncId}{args:Array Value}{V:Ending->Prop}{cnt:Nat}(hc:∀Sw,WU w B wb W (totW W m.wk) Sw m.wk->Calls Tryz.prog F args w fun r w'=>V r/\WUR B wb W cnt Sw m'.wk w w')(e0:m'.l=m.l)(e1:m'.cl=m.cl)(e2:m'.box=m.box):
  Calls Tryz.prog F args w fun r w'=>V r/\PMR p fuel B tb mb wb W S m' w w':=by
 obtain⟨C,h,gs,Sm,Sw,wg,q,hS⟩:=q
 refine(hc Sw q.wk).mono fun r w' ⟨e,Sw',u,o,hs⟩=>?_
 obtain⟨h',q',t1,t2⟩:=q.work u o hs e0 e1 e2
 refine⟨e,PB C h gs Sm Sw' wb wg,⟨C,h',gs,Sm,Sw',wg,q',fun x=>(PB.iff t1 t2 x).symm⟩,o.mono fun x _ hx=>(hS x).2 (.inr (.inr (.inr (.inl hx)))),fun x hx=>?_⟩
 rcases hx with hx|hx|hx|hx|hx
 ·exact .inl ((hS x).2 (.inl hx))
 ·exact .inl ((hS x).2 (.inr (.inl hx)))
 ·exact .inl ((hS x).2 (.inr (.inr (.inl hx))))
 ·rcases hs x hx with h1|h1
  ·exact .inl ((hS x).2 (.inr (.inr (.inr (.inl h1)))))
  ·exact .inr h1
 ·exact .inl ((hS x).2 (.inr (.inr (.inr (.inr hx)))))
theorem PM.toNone(q:PM p fuel w B tb mb wb W S m){F:FuncId}{args:Array Value}{V:Ending->Prop}(hc:Calls Tryz.prog F args w fun r w'=>V r/\Below w.heap.size w w'):Calls Tryz.prog F args w fun r w'=>V r/\PMR p fuel B tb mb wb W S m w w':=hc.mono fun _ _ ⟨e,hb⟩=>⟨e,PMR.below q hb⟩
theorem Zlt(q:PM p fuel w B tb mb wb W S m){k:Pfx}(hk:k.length<=1000){set:Nat}(hs:set<256):Calls Tryz.prog 71 #[.pointer (some ⟨tb,0,none⟩),.string ⟨k.toArray⟩,.int .u8 (set:Nat)] w fun r w'=>r=.returned (.int .i64 (markT m.l k set).1)/\PMR p fuel B tb mb wb W S { m with l:=(markT m.l k set).2 } w w':=
 q.toTree (m':={ m with l:=(markT m.l k set).2 }) (fun h gs eb ep ef t=>by subst eb ep ef;exact(mark_any t hk hs).mono fun r w' ⟨e,t',o⟩=>⟨e,gs,t',o,fun _ hx=>.inl hx⟩) rfl rfl
theorem pm_hand(q:PM p fuel w B tb mb wb W S m){k:Pfx}(hk:k.length<=1000)(o:Int):Calls Tryz.prog 79 #[.pointer (some ⟨tb,0,none⟩),.string ⟨k.toArray⟩,.int .i64 o] w fun r w'=>r=.returned (.int .i64 (handT m.l k o).1)/\PMR p fuel B tb mb wb W S { m with l:=(handT m.l k o).2 } w w':=
 q.toTree (m':={ m with l:=(handT m.l k o).2 }) (fun h gs eb ep ef t=>by subst eb ep ef;exact(hand_any t hk o).mono fun r w' ⟨e,t',o⟩=>⟨e,gs,t',o,fun _ hx=>.inl hx⟩) rfl rfl
theorem pm_make(q:PM p fuel w B tb mb wb W S m){k:Pfx}(hk:k.length<=900){asl:Nat}(ha:asl<256)(own:Int)(hl:m.l.length<=1000000):Calls Tryz.prog 64 #[.pointer (some ⟨tb,0,none⟩),.string ⟨k.toArray⟩,.int .u8 (asl:Nat),.int .i64 own] w fun r w'=>r=.returned (.int .i64 (makeT p fuel m.l k asl own).1)/\PMR p fuel B tb mb wb W S { m with l:=(makeT p fuel m.l k asl own).2 } w w':=
 q.toTree (m':={ m with l:=(makeT p fuel m.l k asl own).2 }) (fun h gs eb ep ef t=>by subst eb ep ef;exact(make_any t hk ha own hl).mono fun r w' ⟨gs',e,t',o,hg⟩=>⟨e,gs',t',o,hg⟩) rfl rfl
theorem pm_claim(q:PM p fuel w B tb mb wb W S m)(hcl:m.cl<=1000000){k:Pfx}(hk:k.length<=1000)(d:Int):Calls Tryz.prog 84 #[.pointer (some ⟨tb,0,none⟩),.string ⟨k.toArray⟩,.int .i64 d] w fun r w'=>r=.returned (.tuple #[.int .i64 (Zbc p fuel m.l k d).2.1,.int .u8 ((Zbc p fuel m.l k d).2.2.1:Nat),.int .i64 (Zbc p fuel m.l k d).1])/\PMR p fuel B tb mb wb W S { m with l:=(Zbc p fuel m.l k d).2.2.2,cl:=if (Zbc p fuel m.l k d).1=0 then m.cl+1 else m.cl } w w':=
 q.toTree (m':={ m with l:=(Zbc p fuel m.l k d).2.2.2,cl:=if (Zbc p fuel m.l k d).1=0 then m.cl+1 else m.cl }) (fun h gs eb ep ef t=>by
  subst eb ep ef
  refine(claim_any t ⟨by omega,by omega⟩ hk d).mono fun r w' ⟨e,t',o⟩=>⟨e,gs,?_,o,fun _ hx=>.inl hx⟩
  dsimp only
  have e2:(((if (Zbc h.p h.fuel m.l k d).1=0 then m.cl+1 else m.cl:Nat)):Int)=if (Zbc h.p h.fuel m.l k d).1=0 then (m.cl:Int)+1 else (m.cl:Int):=by split <;> simp
  rw[e2]
  exact t') rfl rfl
theorem pm_send(q:PM p fuel w B tb mb wb W S m){j:Nat}(hj:j<W)(x:Ltr)(hk:x.q.length<=281474976710656)(hp:pendM W m.box<100000):Calls Tryz.prog 111 #[.pointer (some ⟨mb,0,none⟩),.int .i64 (j:Int),letV (letM x)] w fun r w'=>r=.returned (.int .i64 0)/\PMR p fuel B tb mb wb W S (sendM j x m) w w':=
 q.toMail (m':=sendM j x m) (fun Sm u=>(mSend_any u hj (letM x) hk (by rw[ZiK];exact hp)).mono fun r w' ⟨e,Sm',u',o,hs⟩=>⟨e,Sm',by
  show MU w' B mb W Sm' (fun i=>(updF m.box j (m.box j++[x]) i).map letM)
  rw[ZgK,List.map_append]
  exact u',o,hs⟩) rfl rfl rfl
theorem pm_take(q:PM p fuel w B tb mb wb W S m){j:Nat}(hj:j<W){x:Ltr}{r:List Ltr}(hx:m.box j=x::r)(hp:pendM W m.box<100000):Calls Tryz.prog 77 #[.pointer (some ⟨mb,0,none⟩),.int .i64 (j:Int)] w fun e w'=>e=.returned (.tuple #[letV (letM x),.bool true])/\PMR p fuel B tb mb wb W S { m with box:=updF m.box j r } w w':=
 q.toMail (m':={ m with box:=updF m.box j r }) (fun Sm u=>(mTake_any u hj (l:=letM x) (r:=r.map letM) (by show(m.box j).map letM=_;rw[hx];rfl) (by rw[ZiK];exact hp)).mono fun e w' ⟨h1,u',o⟩=>⟨h1,Sm,by
  show MU w' B mb W Sm (fun i=>(updF m.box j r i).map letM)
  rw[ZgK]
  exact u',o,fun _ hx=>.inl hx⟩) rfl rfl rfl
theorem Zj5(q:PM p fuel w B tb mb wb W S m):Calls Tryz.prog 40 #[.pointer (some ⟨mb,0,none⟩)] w fun r w'=>r=.returned (.int .i64 (pendM W m.box:Nat))/\w'=w:=by
 obtain⟨C,h,gs,Sm,Sw,wg,q,hS⟩:=q
 have:=mTotal_any q.ml
 rw[ZiK]at this
 exact this.mono fun _ _ ⟨a,b⟩=>⟨a,b.symm⟩
theorem pm_push(q:PM p fuel w B tb mb wb W S m)(hW:W<=64)(hc:totW W m.wk<100000){j:Nat}(hj:j<W){k:Pfx}(hk:k.length<=1000):Calls Tryz.prog 73 #[.pointer (some ⟨wb,0,none⟩),.int .i64 (j:Int),.string ⟨k.toArray⟩] w fun r w'=>r=.returned (.bool (!hasM W m k))/\PMR p fuel B tb mb wb W S (pushM W j k m) w w':=by
 cases hh:hasM W m k with
 |true=>
  have e:pushM W j k m=m:=by unfold pushM;rw[hh];rfl
  rw[e]
  have q':=q
  obtain⟨C,h,gs,Sm,Sw,wg,q,hS⟩:=q
  exact q'.toNone ((wPush_no q.wk (z:=(j:Int)) hk (.inr hh)).mono fun _ _ ⟨a,b⟩=>by subst b;exact⟨a,Below.refl _ _⟩)
 |false=>
  have e:pushM W j k m={ m with wk:=updF m.wk j (putT (m.wk j) k) }:=by unfold pushM;rw[hh];rfl
  rw[e]
  exact q.toWork (m':={ m with wk:=updF m.wk j (putT (m.wk j) k) }) (fun _ u=>wPush_yes u hW hc hj hk hh) rfl rfl rfl
theorem pm_pop(q:PM p fuel w B tb mb wb W S m){j:Nat}(hj:j<W){k:Pfx}{r:List Txt}(hx:m.wk j=k::r):Calls Tryz.prog 82 #[.pointer (some ⟨wb,0,none⟩),.int .i64 (j:Int)] w fun e w'=>e=.returned (.tuple #[.string ⟨k.toArray⟩,.bool true])/\PMR p fuel B tb mb wb W S { m with wk:=updF m.wk j r } w w':=
 q.toWork (m':={ m with wk:=updF m.wk j r }) (fun _ u=>wPop_any u hj hx) rfl rfl rfl
theorem pm_steal(q:PM p fuel w B tb mb wb W S m)(hW:W<=64)(hc:totW W m.wk<100000){i j:Nat}(hi:i<W)(hj:j<W)(hij:i≠j){k:Pfx}{r:List Txt}(hx:m.wk j=r++[k]):Calls Tryz.prog 81 #[.pointer (some ⟨wb,0,none⟩),.int .i64 (i:Int),.int .i64 (j:Int)] w fun e w'=>e=.returned (.tuple #[.string ⟨k.toArray⟩,.bool true])/\PMR p fuel B tb mb wb W S { m with wk:=updF (updF m.wk j r) i (putT (m.wk i) k) } w w':=
 q.toWork (m':={ m with wk:=updF (updF m.wk j r) i (putT (m.wk i) k) }) (fun _ u=>wSteal_any u hW hc hi hj hij hx) rfl rfl rfl
theorem Zj4(q:PM p fuel w B tb mb wb W S m){i j:Nat}(hij:i=j∨m.wk j=[]):Calls Tryz.prog 81 #[.pointer (some ⟨wb,0,none⟩),.int .i64 (i:Int),.int .i64 (j:Int)] w fun e w'=>e=.returned (.tuple #[.string ⟨#[]⟩,.bool false])/\w'=w:=by
 obtain⟨C,h,gs,Sm,Sw,wg,q,hS⟩:=q
 refine wSteal_no q.wk _ _ ?_
 rcases hij with e|e
 ·exact .inr (.inr (.inl (by rw[e])))
 ·exact .inr (.inr (.inr (by rw[Int.toNat_natCast];exact e)))
theorem ZgD(q:PM p fuel w B tb mb wb W S m):Calls Tryz.prog 39 #[.pointer (some ⟨wb,0,none⟩)] w fun r w'=>r=.returned (.int .i64 (totW W m.wk:Nat))/\w'=w:=by
 obtain⟨C,h,gs,Sm,Sw,wg,q,hS⟩:=q
 exact wTotal_any q.wk.k
theorem Zls(q:PM p fuel w B tb mb wb W S m){j:Nat}(hj:j<W):Calls Tryz.prog 80 #[.pointer (some ⟨wb,0,none⟩),.int .i64 (j:Int)] w fun r w'=>r=.returned (.int .i64 (m.wk j).length)/\w'=w:=by
 obtain⟨C,h,gs,Sm,Sw,wg,q,hS⟩:=q
 exact wLen_any q.wk.k hj
theorem pm_len(q:PM p fuel w B tb mb wb W S m):Calls Tryz.prog 41 #[.pointer (some ⟨tb,0,none⟩)] w fun r w'=>r=.returned (.int .i64 (m.l.length:Nat))/\w'=w:=by
 obtain⟨C,h,gs,Sm,Sw,wg,q,hS⟩:=q
 obtain rfl:=q.eb
 exact(lenT_any q.tr).mono fun _ _ ⟨a,b⟩=>⟨a,b.symm⟩
theorem pm_claims(q:PM p fuel w B tb mb wb W S m):Calls Tryz.prog 42 #[.pointer (some ⟨tb,0,none⟩)] w fun r w'=>r=.returned (.int .i64 (m.cl:Nat))/\w'=w:=by
 obtain⟨C,h,gs,Sm,Sw,wg,q,hS⟩:=q
 obtain rfl:=q.eb
 exact(claims_any q.tr).mono fun _ _ ⟨a,b⟩=>⟨a,b.symm⟩
theorem pm_owner(q:PM p fuel w B tb mb wb W S m){k:Pfx}(hk:k.length<=1000):Calls Tryz.prog 110 #[.pointer (some ⟨tb,0,none⟩),.string ⟨k.toArray⟩] w fun r w'=>r=.returned (.int .i64 (ownT m.l k))/\w'=w:=by
 obtain⟨C,h,gs,Sm,Sw,wg,q,hS⟩:=q
 obtain rfl:=q.eb
 exact(owner_any q.tr hk).mono fun _ _ ⟨a,b⟩=>⟨a,b.symm⟩
theorem pm_left(q:PM p fuel w B tb mb wb W S m){k:Pfx}(hk:k.length<=1000):Calls Tryz.prog 128 #[.pointer (some ⟨tb,0,none⟩),.string ⟨k.toArray⟩] w fun r w'=>∃v,r=.returned v/\OwnN w' w.heap.size v (ints (bitsL (leftT m.l k)))/\Below w.heap.size w w':=by
 obtain⟨C,h,gs,Sm,Sw,wg,q,hS⟩:=q
 obtain rfl:=q.eb
 exact leftT_any q.tr hk
theorem pm_at(q:PM p fuel w B tb mb wb W S m){k:Pfx}(hk:k.length<=1000){e:Int}{es:List Ev}{s:St}(hr:rep p fuel (rowK k)=(e,es,some s)):Calls Tryz.prog 65 #[.pointer (some ⟨tb,0,none⟩),.string ⟨k.toArray⟩] w fun r w'=>∃g v,r=.returned (.tuple #[.pointer (some ⟨g,0,none⟩),v,.int .i64 0])/\w.heap.size<=g/\StAt w' g s/\s.Ok fuel.toNat/\OwnE w' w.heap.size v es/\Below w.heap.size w w':=by
 obtain⟨C,h,gs,Sm,Sw,wg,q,hS⟩:=q
 obtain rfl:=q.eb
 obtain rfl:=q.ep
 obtain rfl:=q.ef
 exact at_ok q.tr hk hr
end
end Go.Proofs.YtjfmmnhcddckaaaGreat
namespace Go.Proofs.YtjfmmnhcddckaaaGreat
section
variable{p:Pg}{fuel:Int}{W w B:Nat}{m:Mac}{T:List Nd}
def turnM(p:Pg)(fuel:Int)(W B i:Nat)(ws:List Nat)(m:Mac):Mac:=ws.foldl (fun m w=>(stepM p fuel W B w ((i:Int)+w) m).2) m
def Zmr(p:Pg)(fuel:Int)(W B i:Nat)(m:Mac):Mac:=turnM p fuel W B i (List.range W) m
theorem ZjC(h:haltM W m=true)(w:Nat)(d:Int):stepM p fuel W B w d m=(0,m):=by
 unfold stepM
 rw[if_pos (.inr h)]
theorem turn_halt(i:Nat)(ws:List Nat)(h:haltM W m=true):turnM p fuel W B i ws m=m:=by
 unfold turnM
 induction ws with
 |nil=>rfl
 |cons w ws ih=>rw[List.foldl_cons,ZjC h];exact ih
theorem Zk5(hg:Zam p fuel=true)(hW:0<W)(i:Nat)(ws:List Nat):∀{m:Mac} {T:List Nd},InvM p fuel W B m T->∃T',InvM p fuel W B (turnM p fuel W B i ws m) T':=by
 unfold turnM
 induction ws with
 |nil=>intro m T h;exact⟨T,h⟩
 |cons w ws ih=>
  intro m T h
  obtain⟨T1,h1⟩:=ZdX hg hW h w ((i:Int)+w)
  exact ih h1
inductive TurnK(p:Pg)(fuel:Int)(W i:Nat)(ws:List Nat)(m m':Mac):Prop where
 |halt (h:haltM W m'=true):TurnK p fuel W i ws m m'
 |into (h:costM p fuel W m'+6<=costM p fuel W m):TurnK p fuel W i ws m m'
 |read (h:costM p fuel W m'+1<=costM p fuel W m) (hp:0<pendM W m.box):TurnK p fuel W i ws m m'
 |quiet (hc:costM p fuel W m'=costM p fuel W m) (hb:m'.box=m.box) (hw:∀w∈ws,m.box w=[]) (h0:i%W=0->m'=m/\∀w∈ws,m.wk w=[]):TurnK p fuel W i ws m m'
theorem TurnK.le{i:Nat}{ws:List Nat}{m m':Mac}(h:TurnK p fuel W i ws m m'):haltM W m'=true∨costM p fuel W m'<=costM p fuel W m:=by
 cases h with
 |halt h=>exact .inl h
 |into h=>exact .inr (by omega)
 |read h=>exact .inr (by omega)
 |quiet h=>exact .inr (by omega)
theorem draw_self{i w:Nat}(hi:i%W=0)(hw:w<W)(hs:i+w<18446744073709551616):drawN ((i:Int)+w) W=w:=by
 unfold drawN
 have h1:((i:Int)+w)%18446744073709551616=(i:Int)+w:=Int.emod_eq_of_lt (by omega) (by omega)
 rw[h1,show((i:Int)+w)=((i+w:Nat):Int) by omega,<-Int.natCast_emod,Int.toNat_natCast,Nat.add_mod,hi,Nat.zero_add,Nat.mod_mod,Nat.mod_eq_of_lt hw]
theorem turn_cost(hg:Zam p fuel=true)(hW:0<W){i:Nat}(hi:i<10000000000)(hW2:W<=1000)(ws:List Nat)(hws:∀w∈ws,w<W):∀{m:Mac} {T:List Nd},InvM p fuel W B m T->TurnK p fuel W i ws m (turnM p fuel W B i ws m):=by
 induction ws with
 |nil=>intro m T h;exact .quiet rfl rfl (fun _ hw=>by cases hw) fun _=>⟨rfl,fun _ hw=>by cases hw⟩
 |cons w ws ih=>
  intro m T h
  have hw:=hws w List.mem_cons_self
  obtain⟨T1,h1⟩:=ZdX hg hW h w ((i:Int)+w)
  have hc:=ZjD hg hW h hw ((i:Int)+w)
  have hr:=ih (fun v hv=>hws v (List.mem_cons_of_mem _ hv)) h1
  show TurnK p fuel W i (w::ws) m (turnM p fuel W B i ws (stepM p fuel W B w ((i:Int)+w) m).2)
  generalize (stepM p fuel W B w ((i:Int)+w) m).2=m1 at *
  cases hc with
  |halt hh=>rw[turn_halt i ws hh];exact .halt hh
  |into hh=>
   rcases hr.le with h2|h2
   ·exact .halt h2
   ·exact .into (by omega)
  |read hh hp=>
   cases hr with
   |halt h2=>exact .halt h2
   |into h2=>exact .into (by omega)
   |read h2=>exact .read (by omega) hp
   |quiet h2=>exact .read (by omega) hp
  |stole h2 hb hbw hv=>
   have hn:i%W≠0:=fun h0=>hv (draw_self h0 hw (by omega))
   cases hr with
   |halt h3=>exact .halt h3
   |into h3=>exact .into (by omega)
   |read h3 hp=>exact .read (by omega) (by rw[<-hb];exact hp)
   |quiet h3 h4 h5 _=>
    refine .quiet (by omega) (h4.trans hb) (fun v hv=>?_) fun h0=>absurd h0 hn
    rcases List.mem_cons.1 hv with rfl|hv
    ·exact hbw
    ·rw[<-hb];exact h5 v hv
  |idle h2 hbw hkw=>
   subst h2
   cases hr with
   |halt h3=>exact .halt h3
   |into h3=>exact .into h3
   |read h3 hp=>exact .read h3 hp
   |quiet h3 h4 h5 h6=>
    refine .quiet h3 h4 (fun v hv=>?_) fun h0=>⟨(h6 h0).1,fun v hv=>?_⟩
    ·rcases List.mem_cons.1 hv with rfl|hv
     ·exact hbw
     ·exact h5 v hv
    ·rcases List.mem_cons.1 hv with rfl|hv
     ·exact hkw
     ·exact(h6 h0).2 v hv
def leftR(W i:Nat):Nat:=(W-i%W)%W
def waitM(p:Pg)(fuel:Int)(W i:Nat)(m:Mac):Nat:=costM p fuel W m+(if pendM W m.box=0 then leftR W i else 5)
theorem round_less(hg:Zam p fuel=true)(hW:0<W)(hW6:W<=6){i:Nat}(hi:i<10000000000)(h:InvM p fuel W B m T)(hh:haltM W m=false):
  haltM W (Zmr p fuel W B i m)=true∨waitM p fuel W (i+1) (Zmr p fuel W B i m)+1<=waitM p fuel W i m:=by
 have hc:=turn_cost hg hW hi (by omega) (List.range W) (fun w hw=>List.mem_range.1 hw) h
 have hl5:∀j,leftR W j<=5:=fun j=>by
  have:=Nat.mod_lt (W-j%W) hW
  unfold leftR
  omega
 unfold Zmr
 generalize turnM p fuel W B i (List.range W) m=m' at *
 unfold waitM
 have h5:=hl5 (i+1)
 cases hc with
 |halt h1=>exact .inl h1
 |into h1=>
  right
  split <;> split <;> omega
 |read h1 hp=>
  right
  rw[if_neg (show ¬pendM W m.box=0 by omega)]
  split <;> omega
 |quiet h1 h2 h3 h4=>
  right
  have hz:pendM W m.box=0:=Zc3.2 fun w hw=>h3 w (List.mem_range.2 hw)
  rw[h2,if_pos hz,if_pos hz]
  have hn:i%W≠0:=by
   intro h0
   have he:ZfO W m=true:=Zfp.2 fun w hw=>⟨h3 w (List.mem_range.2 hw),(h4 h0).2 w (List.mem_range.2 hw)⟩
   unfold haltM at hh
   rw[he,Bool.or_true]at hh
   cases hh
  have hlt:=Nat.mod_lt i hW
  have h6:leftR W i=W-i%W:=by
   unfold leftR
   exact Nat.mod_eq_of_lt (by omega)
  have h7:leftR W (i+1)+1=leftR W i:=by
   rw[h6]
   unfold leftR
   by_cases e:i%W+1=W
   ·have:(i+1)%W=0:=by
     rw[Nat.add_mod]
     by_cases e1:W=1
     ·subst e1;exact Nat.mod_one _
     ·rw[Nat.mod_eq_of_lt (show 1<W by omega),e,Nat.mod_self]
    rw[this,Nat.sub_zero,Nat.mod_self]
    omega
   ·have:(i+1)%W=i%W+1:=by
     rw[Nat.add_mod,Nat.mod_eq_of_lt (show 1<W by omega),Nat.mod_eq_of_lt (by omega)]
    rw[this,Nat.mod_eq_of_lt (by omega)]
    omega
  omega
def runM(p:Pg)(fuel:Int)(W B:Nat):Nat->Nat->Mac->Mac
 |0,_,m=>m
 |n+1,i,m=>if haltM W m=true then m else runM p fuel W B n (i+1) (Zmr p fuel W B i m)
theorem run_ok(hg:Zam p fuel=true)(hW:0<W)(n:Nat):∀{i:Nat} {m:Mac} {T:List Nd},InvM p fuel W B m T->∃T',InvM p fuel W B (runM p fuel W B n i m) T':=by
 induction n with
 |zero=>intro i m T h;exact⟨T,h⟩
 |succ n ih=>
  intro i m T h
  unfold runM
  split
  ·exact⟨T,h⟩
  ·obtain⟨T1,h1⟩:=Zk5 hg hW i (List.range W) h
   exact ih h1
theorem run_halt(hg:Zam p fuel=true)(hW:0<W)(hW6:W<=6)(n:Nat):∀{i:Nat} {m:Mac} {T:List Nd},InvM p fuel W B m T->i+n<=10000000000->waitM p fuel W i m<n->haltM W (runM p fuel W B n i m)=true:=by
 induction n with
 |zero=>intro i m T _ _ h;omega
 |succ n ih=>
  intro i m T h hi hn
  unfold runM
  by_cases hh:haltM W m=true
  ·rw[if_pos hh];exact hh
  ·rw[if_neg hh]
   obtain⟨T1,h1⟩:=Zk5 hg hW i (List.range W) h
   rcases round_less (i:=i) hg hW hW6 (by omega) h (by simpa using hh)with h2|h2
   ·cases n with
    |zero=>exact h2
    |succ n=>
     unfold runM
     rw[if_pos h2]
     exact h2
   ·exact ih h1 (by omega) (by omega)
end
section
variable{p:Pg}{fuel:Int}{W w B:Nat}{m:Mac}{T:List Nd}
theorem InvM.wider(h:InvM p fuel W B m T){B':Nat}(hb:m.l.length<=B'):InvM p fuel W B' m T:=⟨h.tree,h.letr,h.work,h.marks,h.cl,h.keys,h.blk,hb⟩
theorem over_no(hg:Zam p fuel=true)(h:InvM p fuel W B m T)(hP:preW p fuel<=B)(hov:m.over=false)(hw:w<W){q:Pfx}{r:List Txt}(hk:m.wk w=q::r):m.l.length≠B:=by
 intro e
 obtain⟨T',h'⟩:=intoM_ok hg hw (h.wider (B':=B+1) (by omega)) hov hk (by omega) 0
 have h1:=(h'.any hg).2.2
 have h2:=h'.cl
 have h3:=ZlN (p:=p) (fuel:=fuel) (W:=W) (w:=w) q 0 { m with wk:=updF m.wk w r }
 have h4:=h.cl
 dsimp only at h3
 omega
theorem Zd2(W w:Nat)(k:Pfx)(set:Nat)(m:Mac):(markM W w k set m).keys=m.keys/\(markM W w k set m).over=m.over/\(markM W w k set m).blk=m.blk:=by
 unfold markM pushM
 split
 ·split <;> exact⟨rfl,rfl,rfl⟩
 ·exact⟨rfl,rfl,rfl⟩
theorem ZhJ(k:Pfx)(l:List Nat):∀m:Mac,(l.foldl (raceM p fuel W w k) m).keys=m.keys/\(l.foldl (raceM p fuel W w k) m).over=m.over:=by
 induction l with
 |nil=>intro m;exact⟨rfl,rfl⟩
 |cons i l ih=>
  intro m
  have h:(raceM p fuel W w k m i).keys=m.keys/\(raceM p fuel W w k m i).over=m.over:=by
   unfold raceM
   split
   ·exact⟨(Zd2 _ _ _ _ _).1,(Zd2 _ _ _ _ _).2.1⟩
   ·exact⟨rfl,rfl⟩
  rw[List.foldl_cons]
  exact⟨(ih _).1.trans h.1,(ih _).2.trans h.2⟩
def Zjj(w:Nat)(a b:Nat->List Key):Prop:=b=a∨∃x,b=updF a w (a w++[x])
theorem ZkK(k:Pfx)(asl:Nat)(d:Int)(m:Mac):Zjj w m.keys (endM p fuel W w k asl d m).keys/\(endM p fuel W w k asl d m).over=m.over:=by
 unfold endM
 split
 ·exact⟨.inr ⟨_,rfl⟩,rfl⟩
 ·split
  ·exact⟨.inl rfl,rfl⟩
  ·exact⟨.inl (Zd2 _ _ _ _ _).1,(Zd2 _ _ _ _ _).2.1⟩
theorem Zkv(q:Pfx)(d:Int)(m:Mac):Zjj w m.keys (intoM p fuel W w q d m).keys/\(intoM p fuel W w q d m).over=m.over:=by
 unfold intoM openM
 dsimp only
 have h:∀m':Mac,m'.keys=m.keys/\m'.over=m.over->∀k asl,Zjj w m.keys (endM p fuel W w k asl d ((ZbR p fuel k).foldl (raceM p fuel W w k) { m' with l:=(makeT p fuel m'.l k asl w).2 })).keys/\(endM p fuel W w k asl d ((ZbR p fuel k).foldl (raceM p fuel W w k) { m' with l:=(makeT p fuel m'.l k asl w).2 })).over=m.over:=by
  intro m' hm k asl
  obtain⟨h1,h2⟩:=ZkK (p:=p) (fuel:=fuel) (W:=W) (w:=w) k asl d ((ZbR p fuel k).foldl (raceM p fuel W w k) { m' with l:=(makeT p fuel m'.l k asl w).2 })
  obtain⟨h3,h4⟩:=ZhJ (p:=p) (fuel:=fuel) (W:=W) (w:=w) k (ZbR p fuel k) { m' with l:=(makeT p fuel m'.l k asl w).2 }
  rw[h3]at h1
  rw[h4]at h2
  rw[<-hm.1]
  exact⟨h1,h2.trans hm.2⟩
 refine h _ ?_ _ _
 split
 ·unfold pushM
  split <;> exact⟨rfl,rfl⟩
 ·exact⟨rfl,rfl⟩
theorem ZjW(x:Ltr)(r:List Ltr)(m:Mac):(readM W w x r m).keys=m.keys/\(readM W w x r m).over=m.over/\(readM W w x r m).cl=m.cl/\(readM W w x r m).blk=m.blk:=by
 unfold readM pushM
 split
 ·split <;> exact⟨rfl,rfl,rfl,rfl⟩
 ·exact⟨rfl,rfl,rfl,rfl⟩
theorem Ze7(h:InvM p fuel W B m T)(w:Nat)(d:Int):((stepM p fuel W B w d m).1=0->(stepM p fuel W B w d m).2=m)/\(stepM p fuel W B w d m).2.cl=m.cl+(if (stepM p fuel W B w d m).1=3 then 1 else 0) /\
  Zjj w m.keys (stepM p fuel W B w d m).2.keys/\((stepM p fuel W B w d m).1≠3->(stepM p fuel W B w d m).2.keys=m.keys)/\((stepM p fuel W B w d m).1=5↔(m.over=false/\(stepM p fuel W B w d m).2.over=true))/\(haltM W m=true->(stepM p fuel W B w d m).1=0)/\(stepM p fuel W B w d m).1≠4:=by
 have hk:=ZcU h w d
 generalize stepM p fuel W B w d m=x at hk
 cases hk with
 |halt hh=>exact⟨fun _=>rfl,rfl,.inl rfl,fun _=>rfl,⟨(fun h=>by simp at h),fun h=>by have:=h.1.symm.trans h.2;cases this⟩,fun _=>rfl,by simp⟩
 |idle hh=>exact⟨fun _=>rfl,rfl,.inl rfl,fun _=>rfl,⟨(fun h=>by simp at h),fun h=>by have:=h.1.symm.trans h.2;cases this⟩,fun _=>rfl,by simp⟩
 |nobody hh=>exact⟨fun _=>rfl,rfl,.inl rfl,fun _=>rfl,⟨(fun h=>by simp at h),fun h=>by have:=h.1.symm.trans h.2;cases this⟩,fun _=>rfl,by simp⟩
 |read hh hw y r hb=>
  obtain⟨h1,h2,h3,_⟩:=ZjW (W:=W) (w:=w) y r m
  refine⟨(fun h=>by simp at h),h3,.inl h1,fun _=>h1,⟨(fun h=>by simp at h),fun h=>?_⟩,(fun h=>by rw[hh]at h;cases h),by simp⟩
  have:=h.2
  dsimp only at this
  rw[h2,h.1]at this
  cases this
 |stole hh hw hb hk hv hn=>exact⟨(fun h=>by simp at h),rfl,.inl rfl,fun _=>rfl,⟨(fun h=>by simp at h),fun h=>by have:=h.1.symm.trans h.2;cases this⟩,(fun h=>by rw[hh]at h;cases h),by simp⟩
 |over hh hw hb q r hk hB=>exact⟨(fun h=>by simp at h),rfl,.inl rfl,fun _=>rfl,⟨fun _=>⟨(Zfk hh).1,rfl⟩,fun _=>rfl⟩,(fun h=>by rw[hh]at h;cases h),by simp⟩
 |into hh hw hb q r hk hB=>
  obtain⟨h1,h2⟩:=Zkv (p:=p) (fuel:=fuel) (W:=W) (w:=w) q d { m with wk:=updF m.wk w r }
  refine⟨(fun h=>by simp at h),ZlN q d _,h1,(fun h=>absurd rfl h),⟨(fun h=>by simp at h),fun h=>?_⟩,(fun h=>by rw[hh]at h;cases h),by simp⟩
  have:=h.2
  dsimp only at this
  rw[h2]at this
  have h3:=h.1
  rw[h3]at this
  cases this
theorem ZjB(hg:Zam p fuel=true)(h:InvM p fuel W B m T)(hP:preW p fuel<=B)(hov:m.over=false)(w:Nat)(d:Int):(stepM p fuel W B w d m).2.over=false:=by
 have h5:=(Ze7 h w d).2.2.2.2.1
 have hk:=ZcU h w d
 generalize stepM p fuel W B w d m=x at hk h5
 cases hk with
 |over hh hw hb q r hk hB=>exact absurd hB (over_no hg h hP hov hw hk)
 |halt=>exact hov
 |idle=>exact hov
 |nobody=>exact hov
 |read hh hw y r hb=>exact(ZjW y r m).2.1.trans hov
 |stole=>exact hov
 |into hh hw hb q r hk hB=>exact(Zkv q d _).2.trans hov
theorem step_le(hg:Zam p fuel=true)(hW:0<W)(h:InvM p fuel W B m T)(w:Nat)(d:Int):haltM W (stepM p fuel W B w d m).2=true∨costM p fuel W (stepM p fuel W B w d m).2<=costM p fuel W m:=by
 by_cases hw:w<W
 ·have:=ZjD hg hW h hw d
  cases this with
  |halt h=>exact .inl h
  |into h=>exact .inr (by omega)
  |read h=>exact .inr (by omega)
  |stole h=>exact .inr (by omega)
  |idle h=>rw[h];exact .inr (Nat.le_refl _)
 ·unfold stepM
  rw[if_pos (.inl (by omega))]
  exact .inr (Nat.le_refl _)
def listM(p:Pg)(fuel:Int)(W B:Nat)(l:List (Int × Int))(m:Mac):Mac:=l.foldl (fun m x=>if 0<=x.1 then (stepM p fuel W B x.1.toNat x.2 m).2 else m) m
theorem list_all(hg:Zam p fuel=true)(hW:0<W)(l:List (Int × Int)):∀{m:Mac} {T:List Nd},InvM p fuel W B m T->(∃T',InvM p fuel W B (listM p fuel W B l m) T')/\(haltM W (listM p fuel W B l m)=true∨costM p fuel W (listM p fuel W B l m)<=costM p fuel W m)/\(preW p fuel<=B->m.over=false->(listM p fuel W B l m).over=false):=by
 induction l with
 |nil=>intro m T h;exact⟨⟨T,h⟩,.inr (Nat.le_refl _),fun _ h=>h⟩
 |cons x l ih=>
  intro m T h
  unfold listM
  rw[List.foldl_cons]
  by_cases hx:0<=x.1
  ·rw[if_pos hx]
   obtain⟨T1,h1⟩:=ZdX hg hW h x.1.toNat x.2
   obtain⟨a1,a2,a3⟩:=ih h1
   refine⟨a1,?_,fun hP hov=>a3 hP (ZjB hg h hP hov _ _)⟩
   rcases step_le hg hW h x.1.toNat x.2 with h2|h2
   ·left
    have key:∀(l:List (Int × Int)) (m:Mac),haltM W m=true->listM p fuel W B l m=m:=by
     intro l
     induction l with
     |nil=>intro m _;rfl
     |cons y l ih2=>
      intro m hm
      unfold listM
      rw[List.foldl_cons,ZjC hm]
      have e:(if 0<=y.1 then ((0:Nat),m).2 else m)=m:=by split <;> rfl
      rw[e]
      exact ih2 m hm
    have:=key l _ h2
    unfold listM at this
    rw[this]
    exact h2
   ·rcases a2 with a2|a2
    ·exact .inl a2
    ·exact .inr (Nat.le_trans a2 h2)
  ·rw[if_neg hx]
   exact ih h
theorem turn_over(hg:Zam p fuel=true)(hW:0<W)(hP:preW p fuel<=B)(i:Nat)(ws:List Nat):∀{m:Mac} {T:List Nd},InvM p fuel W B m T->m.over=false->(turnM p fuel W B i ws m).over=false:=by
 unfold turnM
 induction ws with
 |nil=>intro m T _ h;exact h
 |cons w ws ih=>
  intro m T h hov
  obtain⟨T1,h1⟩:=ZdX hg hW h w ((i:Int)+w)
  exact ih h1 (ZjB hg h hP hov _ _)
theorem run_over(hg:Zam p fuel=true)(hW:0<W)(hP:preW p fuel<=B)(n:Nat):∀{i:Nat} {m:Mac} {T:List Nd},InvM p fuel W B m T->m.over=false->(runM p fuel W B n i m).over=false:=by
 induction n with
 |zero=>intro i m T _ h;exact h
 |succ n ih=>
  intro i m T h hov
  unfold runM
  split
  ·exact hov
  ·obtain⟨T1,h1⟩:=Zk5 hg hW i (List.range W) h
   exact ih h1 (turn_over hg hW hP i _ h hov)
theorem new_cost(hg:Zam p fuel=true)(hW:0<W)(hB:1<=B):costM p fuel W (newM p fuel W)<=(p.threads.length*(p.threads.length*fuel.toNat)+6)*preW p fuel/\(newM p fuel W).over=false:=by
 obtain⟨T,h⟩:=ZiN (W:=W) hg hW hB
 have h1:=h.cl
 have h2:pendM W (newM p fuel W).box<=p.threads.length*(p.threads.length*fuel.toNat):=by
  unfold newM openM
  rw[endM_box]
  refine Nat.le_trans (ZhI _ _ _) ?_
  have h3:pendM W mac0.box=0:=Zc3.2 fun _ _=>rfl
  have h4:=ZhK hg []
  show pendM W mac0.box+_<=_
  rw[h3,Nat.zero_add]
  exact h4
 have h5:=(h.any hg).2.2
 refine⟨?_,?_⟩
 ·unfold costM
  generalize p.threads.length*(p.threads.length*fuel.toNat)=C at *
  generalize (newM p fuel W).l.length=a at *
  generalize pendM W (newM p fuel W).box=b at *
  generalize preW p fuel=P at *
  obtain⟨j,rfl⟩:∃j,P=j+1:=⟨P-1,by omega⟩
  have h6:j+1-a<=j:=by omega
  have h7:=Nat.mul_le_mul_left (C+6) h6
  rw[Nat.mul_succ]
  omega
 ·unfold newM openM
  rw[(ZkK (p:=p) (fuel:=fuel) (W:=W) (w:=0) _ _ _ _).2,(ZhJ (p:=p) (fuel:=fuel) (W:=W) (w:=0) _ _ _).2]
  rfl
theorem Zfe(hg:Zam p fuel=true)(hW:0<W)(hW6:W<=6)(hP:preW p fuel<=B)(hB:1<=B)(l:List (Int × Int)){n:Nat}(hn:(p.threads.length*(p.threads.length*fuel.toNat)+6)*preW p fuel+5<n)(hn2:n<=10000000000):
  ∃m T,m=runM p fuel W B n 0 (listM p fuel W B l (newM p fuel W))/\InvM p fuel W B m T/\haltM W m=true/\m.over=false/\sortK (keysM W m.keys)=sortK (Zau (runsW p fuel))/\(keysM W m.keys).length=(sortK (Zau (runsW p fuel))).length/\m.cl+1=m.l.length/\m.l.length<=preW p fuel:=by
 obtain⟨T,h⟩:=ZiN (W:=W) hg hW hB
 obtain⟨h1,hov⟩:=new_cost (W:=W) hg hW hB
 obtain⟨⟨T1,h2⟩,h3,h4⟩:=list_all hg hW l h
 have h4:=h4 hP hov
 obtain⟨T2,h5⟩:=run_ok hg hW n (i:=0) h2
 have h6:=run_over hg hW hP n (i:=0) h2 h4
 have h7:haltM W (runM p fuel W B n 0 (listM p fuel W B l (newM p fuel W)))=true:=by
  rcases h3 with h3|h3
  ·have:runM p fuel W B n 0 (listM p fuel W B l (newM p fuel W))=listM p fuel W B l (newM p fuel W):=by
    cases n with
    |zero=>rfl
    |succ n=>unfold runM;rw[if_pos h3]
   rw[this]
   exact h3
  ·refine run_halt hg hW hW6 n h2 (by omega) ?_
   have h8:leftR W 0<=5:=by
    have:=Nat.mod_lt (W-0%W) hW
    unfold leftR
    omega
   unfold waitM
   split <;> omega
 obtain⟨h8,h9⟩:=h5.exact hg h7 h6
 exact⟨_,T2,rfl,h5,h7,h6,h8,h9,h5.cl,(h5.any hg).2.2⟩
end
end Go.Proofs.YtjfmmnhcddckaaaGreat
namespace Go.Proofs.YtjfmmnhcddckaaaGreat
open Go.RowKit
def Zai(k:Key):List Value:=[.string ⟨k.toArray⟩]
theorem Zat(k:Key):(Zai k).length=1:=rfl
theorem ZaT(k:Key):∀v∈Zai k,v.oneCell'=true:=by
 intro v hv
 simp[Zai]at hv
 subst hv
 rfl
theorem Zcd:(Tryz.prog.info? 9).map (fun i=>(i.zero,i.size,i.bytes))=some (some (.string ByteArray.empty),1,16):=by kernel_rfl
theorem RowAt.str{w:World}{a:Option Addr}{ks:List Key}(h:RowAt w a 1 Zai ks){j:Nat}(hj:j<ks.length):∃b o,a=some ⟨b,o,none⟩/\w.cell? ⟨b,o+j,none⟩=some (.string ⟨ks[j].toArray⟩):=by
 obtain⟨b,o,rfl,hc⟩:=h.2 (by intro e;simp[e]at hj)
 have h1:=hc j hj 0 _ rfl
 rw[Nat.mul_one,Nat.add_zero]at h1
 exact⟨b,o,rfl,h1⟩
end Go.Proofs.YtjfmmnhcddckaaaGreat
