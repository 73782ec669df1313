import Derived.Test.YtjfmmnhcddckaaaGreatPk08
namespace Go.Proofs.YtjfmmnhcddckaaaGreat
section
open List (getElem_mem isEmpty_iff length_append length_set mem_append mem_append_left mem_cons_self mem_set mem_singleton)
open Nat (le_refl le_trans zero_testBit)
def io(W:Nat)(m:Mac)(row:List Ev)(t:Int):Prop:=
 (∃n∈m.l,row.map Ev.thread=dB n.pre/\dp n.todo t=true)∨∃w,w<W/\∃x∈m.box w,row.map Ev.thread=dB x.q/\dp x.set t=true
def me(W:Nat)(l:List TNd)(box:Nat->List Ltr):Prop:=∀w,w<W->∀x∈box w,∃n∈l,n.pre=x.q/\x.set=n.may
structure CoreM(p:Pg)(fuel:Int)(W:Nat)(m:Mac)(T:List Nd):Prop where
 tree:TreeR p fuel W m.l T
 work:WorkR W m.l m.wk
 letr:me W m.l m.box
structure KeepM(W:Nat)(m m':Mac):Prop where
 keys:m'.keys=m.keys
 blk:m'.blk=m.blk
 cl:m'.cl=m.cl
 over:m'.over=m.over
 len:m'.l.length=m.l.length
 mks:∀row t,io W m row t->io W m' row t
theorem KeepM.refl(W:Nat)(m:Mac):KeepM W m m:=⟨rfl,rfl,rfl,rfl,rfl,fun _ _ h=>h⟩
theorem KeepM.trans{W:Nat}{a b c:Mac}(h:KeepM W a b)(k:KeepM W b c):KeepM W a c:=
 ⟨k.keys.trans h.keys,k.blk.trans h.blk,k.cl.trans h.cl,k.over.trans h.over,k.len.trans h.len,fun r t x=>k.mks r t (h.mks r t x)⟩
section
variable{p:Pg}{fuel:Int}{W w:Nat}{m:Mac}{T:List Nd}
theorem q'{a b:Nat}{t:Int}:dp (a|||b) t=true↔dp a t=true∨dp b t=true:=by
 unfold dp;rw[Nat.testBit_or]
 cases decide (0<=t/\t<8) <;> simp
theorem zA{a b:Nat}{t:Int}:dp (a&&&b) t=true↔dp a t=true/\dp b t=true:=by
 unfold dp;rw[Nat.testBit_and]
 cases decide (0<=t/\t<8) <;> simp
theorem yM{n:TNd}(a:n.Ok){s:Nat}(h:n.left≠0):({ n with todo:=n.todo|||(s&&&n.may) }:TNd).left≠0:=by
 intro e;apply h;have c:n.todo|||(s&&&n.may)<256:=lM a.todo (Nat.lt_of_le_of_lt Nat.and_le_right a.may);apply Nat.eq_of_testBit_eq;intro i;have b:({ n with todo:=n.todo|||(s&&&n.may) }:TNd).left.testBit i=false:=by rw[e,zero_testBit]
 unfold TNd.left at b ⊢;dsimp only at b;rw[zero_testBit]
 by_cases d:i<8
 ·rw[jm (jB _ _ c) a.asl,jm c a.gone,Nat.testBit_or]at b
  rw[jm (jB _ _ a.todo) a.asl,jm a.todo a.gone]
  revert b
  cases n.todo.testBit i <;> cases n.gone.testBit i <;> cases n.asl.testBit i <;> simp
 ·exact Nat.testBit_lt_two_pow (Nat.lt_of_lt_of_le (jB _ _ (jB _ _ a.todo)) (le_trans (by decide:256<=2^8) (Nat.pow_le_pow_right (by decide) (by omega))))
theorem me.kin{l a:List TNd}{box:Nat->List Ltr}(h:me W l box)(k:∀x∈l,∃y∈a,y.pre=x.pre/\y.may=x.may):me W a box:=fun w b x hx=>by
 obtain⟨n,c,d,e⟩:=h w b x hx;obtain⟨y,f,g,i⟩:=k n c;exact⟨y,f,g.trans d,e.trans i.symm⟩
theorem pg{l:List TNd}(b:TrOk p fuel l){i:Nat}(c:i<l.length){n:TNd}(e:n.pre=l[i].pre)(f:n.may=l[i].may):∀x∈l,∃y∈l.set i n,y.pre=x.pre/\y.may=x.may:=fun x hx=>by
 by_cases d:x.pre=l[i].pre
 ·obtain⟨j,g,rfl,a⟩:=b.at hx
  rw[d,nL b.nodup c]at a;injection a with a;subst a;exact⟨n,mem_set c _,e,f⟩
 ·exact⟨x,(mA b.nodup c).2 (.inr ⟨hx,d⟩),rfl,rfl⟩
theorem yw(c:CoreM p fuel W m T)(X:w<W){n:TNd}(D:n∈m.l){set:Nat}(Y:set<256):
  CoreM p fuel W (fT W w n.pre set m) T/\KeepM W m (fT W w n.pre set m)/\(fT W w n.pre set m).box=m.box/\∀d t,d.map Ev.thread=dB n.pre->dp set t=true->dp n.may t=true->io W (fT W w n.pre set m) d t:=by
 obtain⟨i,A,f,e,J⟩:=c.tree.mark D Y;have L:=c.tree.tr.nodup;have R:=c.tree.tr.ok n D
 have C:∀q,q≠n.pre->dt (dw m.l n.pre set).2 q=dt m.l q:=fun q s=>by
  rw[e,mC L A (by rw[f]),if_neg (by rw[f];exact s)]
 have S:dt (dw m.l n.pre set).2 n.pre=({ n with todo:=n.todo|||(set&&&n.may) }:TNd).left:=by
  rw[e,mC L A (by rw[f]),if_pos (by rw[f])]
 have U:dt m.l n.pre=n.left:=by
  obtain⟨j,V,E,M⟩:=c.tree.tr.at D;rw[jJ M V,E]
 have g:∀x∈m.l,∃y∈(dw m.l n.pre set).2,y.pre=x.pre/\y.may=x.may:=by
  rw[e];exact pg c.tree.tr A (by rw[f]) (by rw[f])
 have k:(dw m.l n.pre set).2.length=m.l.length:=by rw[e,length_set]
 have r:∀u:Mac,u.l=(dw m.l n.pre set).2->u.box=m.box->(∀d t,io W m d t->io W u d t)/\∀d t,d.map Ev.thread=dB n.pre->dp set t=true->dp n.may t=true->io W u d t:=by
  intro u E M
  have o:({ n with todo:=n.todo|||(set&&&n.may) }:TNd)∈u.l:=by
   rw[E,e];exact mem_set A _
  refine⟨fun d t Z=>?_,fun d t z F N=>.inl ⟨_,o,z,q'.2 (.inr (zA.2 ⟨F,N⟩))⟩⟩;rcases Z with ⟨x,hx,z,F⟩|⟨v,O,x,hx,z⟩
  ·by_cases P:x.pre=n.pre
   ·refine .inl ⟨_,o,by rw[<-P];exact z,q'.2 (.inl ?_)⟩
    obtain⟨j,V,N,G⟩:=c.tree.tr.at hx;obtain⟨j',aa,h7,h8⟩:=c.tree.tr.at D;rw[P,h8]at G;injection G with G;subst G;rw[<-h7,N];exact F
   ·refine .inl ⟨x,?_,z,F⟩
    rw[E,e];exact(mA L A).2 (.inr ⟨hx,by rw[f];exact P⟩)
  ·exact .inr ⟨v,O,x,by rw[M];exact hx,z⟩
 have Q:WorkR W (dw m.l n.pre set).2 m.wk∨(dt m.l n.pre=0/\WorkX W (dw m.l n.pre set).2 m.wk n.pre):=by
  by_cases H:dt m.l n.pre=0
  ·exact .inr ⟨H,c.work.off H C⟩
  ·refine .inl (c.work.same fun q=>?_)
   by_cases s:q=n.pre
   ·subst s
    exact⟨fun _=>H,fun _=>by rw[S];exact yM R (by rw[<-U];exact H)⟩
   ·rw[C q s]
 unfold fT
 by_cases B:dt (dw m.l n.pre set).2 n.pre≠0
 ·rw[if_pos B]
  unfold ey
  by_cases I:gp W ({ m with l:=(dw m.l n.pre set).2 }:Mac) n.pre=true
  ·rw[if_pos I]
   obtain⟨a,b⟩:=r { m with l:=(dw m.l n.pre set).2 } rfl rfl;refine⟨⟨J,?_,c.letr.kin g⟩,⟨rfl,rfl,rfl,rfl,k,a⟩,rfl,b⟩;rcases Q with h|⟨_,h⟩
   ·exact h
   ·obtain⟨v,O,s⟩:=pw.1 I
    exact absurd s (h.no v O)
  ·rw[if_neg I]
   obtain⟨a,b⟩:=r { m with l:=(dw m.l n.pre set).2,wk:=db m.wk w (eU (m.wk w) n.pre) } rfl rfl;refine⟨⟨J,?_,c.letr.kin g⟩,⟨rfl,rfl,rfl,rfl,k,a⟩,rfl,b⟩;rcases Q with h|⟨_,h⟩
   ·exact absurd (pw.2 ((h.iff n.pre).2 B)) I
   ·exact h.push X B
 ·rw[if_neg B]
  obtain⟨a,b⟩:=r { m with l:=(dw m.l n.pre set).2 } rfl rfl;refine⟨⟨J,?_,c.letr.kin g⟩,⟨rfl,rfl,rfl,rfl,k,a⟩,rfl,b⟩;rcases Q with h|⟨_,h⟩
  ·exact h
  ·exact h.none (Classical.not_not.1 B)
theorem DX(c:CoreM p fuel W m T){v:Nat}(d:v<W){n:TNd}(f:n∈m.l):
  CoreM p fuel W (kY v ⟨n.pre,n.may⟩ m) T/\KeepM W m (kY v ⟨n.pre,n.may⟩ m)/\∀a t,a.map Ev.thread=dB n.pre->dp n.may t=true->io W (kY v ⟨n.pre,n.may⟩ m) a t:=by
 have hb:∀u x,x∈db m.box v (m.box v++[⟨n.pre,n.may⟩]) u↔x∈m.box u∨(u=v/\x=⟨n.pre,n.may⟩):=by
  intro u x
  by_cases e:u=v
  ·subst e;rw[dg,mem_append,mem_singleton];exact⟨fun h=>h.imp_right fun h=>⟨rfl,h⟩,fun h=>h.imp_right And.right⟩
  ·rw[dh _ _ e];exact⟨.inl,fun h=>h.elim id fun h=>absurd h.1 e⟩
 refine⟨⟨c.tree,c.work,fun u b x hx=>?_⟩,⟨rfl,rfl,rfl,rfl,rfl,fun a t g=>?_⟩,fun a t i j=>.inr ⟨v,d,_,(hb v _).2 (.inr ⟨rfl,rfl⟩),i,j⟩⟩
 ·rcases (hb u x).1 hx with h|⟨_,rfl⟩
  ·exact c.letr u b x h
  ·exact⟨n,f,rfl,rfl⟩
 ·rcases g with h|⟨u,b,x,hx,h⟩
  ·exact .inl h
  ·exact .inr ⟨u,b,x,(hb u x).2 (.inl hx),h⟩
theorem TreeR.take{l:List TNd}(h:TreeR p fuel W l T){b:Nd}(hb:b∈T){k:dl}(s:b.row.map Ev.thread=dB k)(i:Nat):∃n∈l,n.pre=k.take i:=by
 have o:∀(d:Nat) (r:List Ev),(∃c∈T,c.row=r)->∀i,r.length<=i+d->∃c∈T,c.row=r.take i:=by
  intro d
  induction d with
  |zero=>intro r g i t;rw[List.take_of_length_le (by omega)];exact g
  |succ d u=>
   intro r g i t
   by_cases j:r.length<=i
   ·rw[List.take_of_length_le j];exact g
   ·have f:r≠[]:=fun e=>by rw[e]at j;exact j (Nat.zero_le _)
    obtain⟨c,m,e⟩:=g;obtain⟨a,v,q,_⟩:=h.ok.par c m r.dropLast (r.getLast f) (by rw[e];exact(List.dropLast_concat_getLast f).symm);have:=u r.dropLast ⟨a,v,q⟩ i (by rw[List.length_dropLast];omega)
    rwa [List.dropLast_eq_take,List.take_take,Nat.min_eq_left (by omega)]at this
 obtain⟨c,m,e⟩:=o b.row.length b.row ⟨b,hb,rfl⟩ i (by omega);obtain⟨n,w,r⟩:=h.bwd c m;refine⟨n,w,wG ?_⟩;rw[<-r.row,e,List.map_take,s,sE]
end
section
variable{p:Pg}{fuel:Int}{W w B:Nat}{m:Mac}{T:List Nd}
theorem lI(a:dF p fuel=true):(s0 p fuel).Ok fuel.toNat/\fuel.toNat<=8:=by
 unfold dF at a;rw[Bool.and_eq_true,decide_eq_true_eq]at a;exact⟨lN a.1 fuel.toNat (by omega),by omega⟩
theorem jV{k:dl}{e:Int}{a:List Ev}{s:St}(h:dQ p fuel (dB k)=(e,a,some s)):ir p fuel k=s/\mJ p fuel k=a:=by
 unfold ir mJ;rw[h];exact⟨rfl,rfl⟩
theorem Dw(b:dF p fuel=true){k:dl}{a:List Ev}{z:St}(h:Ex (s0 p fuel) a z)(c:a.map Ev.thread=dB k):ir p fuel k=z/\mJ p fuel k=a:=by
 have:=sK b h;rw[c]at this;exact jV this
theorem yu{F:Nat}{y:St}(b:y.Ok F){t:Int}(h:y.may t=true):dp (dn y.all) t=true:=by
 have a:t∈y.all:=jg.2 h;exact(nN (mR b t a)).2 a
theorem xc(E:dF p fuel=true)(c:CoreM p fuel W m T)(F:w<W){b:Nd}(hb:b∈T){k:dl}(B:b.row.map Ev.thread=dB k)(i:Nat):
  CoreM p fuel W (fb p fuel W w k m i) T/\KeepM W m (fb p fuel W w k m i)/\∀t y,Ex (s0 p fuel) (b.row.take i) y->y.may t=true->io W (fb p fuel W w k m i) (b.row.take i) t:=by
 obtain⟨n,g,C⟩:=c.tree.take hb B i;obtain⟨N,s,D,e⟩:=c.tree.tr.row n g;have G:=(jV D).1;obtain⟨hx,H⟩:=rn D;have a:(b.row.take i).map Ev.thread=dB n.pre:=by rw[C,sE,<-B,List.map_take]
 obtain⟨j,I,A,q⟩:=c.tree.tr.at g;have r:gL m.l n.pre=n.own:=by rw[xH q I,A]
 have O:=c.tree.own n g;have u:dn (ir p fuel n.pre).all=n.may:=by rw[G,e]
 have f:∀t y,Ex (s0 p fuel) (b.row.take i) y->y.may t=true->dp n.may t=true:=by
  intro t y d o;have J:=pA d hx (a.trans H.symm);rw[J]at d;obtain rfl:=ig d hx;rw[e];exact yu (d.ok (lI E).1) o
 unfold fb;rw[<-C,r,u]
 by_cases h:n.own=(w:Int)
 ·rw[if_pos h]
  obtain⟨x,z,_,L⟩:=yw c F g (c.tree.tr.ok n g).may;exact⟨x,z,fun t y d o=>L _ t a (f t y d o) (f t y d o)⟩
 ·rw[if_neg h]
  obtain⟨x,z,M⟩:=DX c (v:=n.own.toNat) (by omega) g;exact⟨x,z,fun t y d o=>M _ t a (f t y d o)⟩
theorem wZ(g:dF p fuel=true)(h:w<W){b:Nd}(hb:b∈T){k:dl}(n:b.row.map Ev.thread=dB k)(l:List Nat):∀{m:Mac},CoreM p fuel W m T ->
  CoreM p fuel W (l.foldl (fb p fuel W w k) m) T/\KeepM W m (l.foldl (fb p fuel W w k) m)/\∀i∈l,∀t y,Ex (s0 p fuel) (b.row.take i) y->y.may t=true->io W (l.foldl (fb p fuel W w k) m) (b.row.take i) t:=by
 induction l with
 |nil=>intro m c;exact⟨c,KeepM.refl _ _,fun i a=>by cases a⟩
 |cons j l o=>
  intro m c;obtain⟨q,r,s⟩:=xc g c h hb n j;obtain⟨u,d,v⟩:=o q;refine⟨u,r.trans d,fun i a t y e f=>?_⟩;rcases List.mem_cons.1 a with rfl|a
  ·exact d.mks _ _ (s t y e f)
  ·exact v i a t y e f
def fJ(W:Nat)(keys:Nat->List dk):List dk:=(List.range W).flatMap keys
theorem Jv(keys:Nat->List dk)(x:dk)(d:w<W):(fJ W (db keys w (keys w++[x]))).Perm (fJ W keys++[x]):=by
 unfold fJ
 induction W with
 |zero=>omega
 |succ n a=>
  rw[List.range_succ,List.flatMap_append,List.flatMap_append]
  by_cases e:w=n
  ·subst e
   have b:(List.range w).flatMap (db keys w (keys w++[x]))=(List.range w).flatMap keys:=by
    rw[List.flatMap_def,List.flatMap_def]
    congr 1
    apply List.map_congr_left;intro v c;rw[dh _ _ (by have:=List.mem_range.1 c;omega)]
   rw[b];simp[dg]
  ·have:=a (by omega)
   simp only[List.flatMap_singleton];rw[dh _ _ (Ne.symm e)];refine(this.append_right _).trans ?_;rw[List.append_assoc,List.append_assoc];exact(List.perm_append_comm).append_left _
structure InvM(p:Pg)(fuel:Int)(W B:Nat)(m:Mac)(T:List Nd):Prop where
 tree:TreeR p fuel W m.l T
 letr:me W m.l m.box
 work:m.over=false->WorkR W m.l m.wk
 marks:MarkOk (s0 p fuel) T (io W m)
 cl:m.cl+1=m.l.length
 keys:(fJ W m.keys).Perm (gi (s0 p fuel) T)
 blk:m.blk=(kf (s0 p fuel) T).length
 bud:m.l.length<=B
structure PreM(p:Pg)(fuel:Int)(W B:Nat)(m:Mac)(T:List Nd)(nd:Nd)(k:dl)(asl:Nat):Prop where
 core:CoreM p fuel W m T
 mem:nd∈T
 row:nd.row.map Ev.thread=dB k
 z:∀u,nd.z u=dp asl u
 race:∀b∈T,b.row≠nd.row->∀z u f i,Ex (s0 p fuel) b.row z->z.next u=some f->i∈gR b.row f->∀t y,Ex (s0 p fuel) (b.row.take i) y->y.may t=true->io W m (b.row.take i) t
 any:∀n∈T,n.row≠nd.row->∀z t,Ex (s0 p fuel) n.row z->z.may t=true->n.z t=false->∃t',z.may t'=true/\n.z t'=false/\io W m n.row t'
 keys:(fJ W m.keys++if (fe (s0 p fuel) nd.row).all=[]then [eE nd.row]else []).Perm (gi (s0 p fuel) T)
 blk:m.blk+(if (fe (s0 p fuel) nd.row).all≠[]/\(fe (s0 p fuel) nd.row).all.all nd.z=true then 1 else 0)=(kf (s0 p fuel) T).length
 cl:m.cl+1=m.l.length
 bud:m.l.length<=B
theorem qM{s:St}{asl:Nat}{t:Int}:t∈fu s asl↔s.may t=true/\dp asl t=false:=by
 unfold fu;rw[List.mem_filter,jg];simp
theorem PreM.open(V:dF p fuel=true)(X:w<W){D:Nd}{k:dl}{asl:Nat}(h:PreM p fuel W B m T D k asl)(d:Int):
  InvM p fuel W B (gu p fuel W w k asl d ((gS p fuel k).foldl (fb p fuel W w k) m)) T:=by
 obtain⟨z,J⟩:=h.core.tree.ok.rows D h.mem;obtain⟨P,R⟩:=Dw V J h.row;have aa:=pC J;obtain⟨E,g,r2⟩:=wZ V X h.mem h.row (gS p fuel k) h.core;have Q:z.Ok fuel.toNat:=J.ok (lI V).1;generalize (gS p fuel k).foldl (fb p fuel W w k) m=G at *
 have o:∀b∈T,∀z u f i,Ex (s0 p fuel) b.row z->z.next u=some f->i∈gR b.row f->∀t y,Ex (s0 p fuel) (b.row.take i) y->y.may t=true->io W G (b.row.take i) t:=by
  intro b hb A u f i j l v t y F H
  by_cases e:b.row=D.row
  ·rw[e]at j v F ⊢
   obtain rfl:=ig j J;refine r2 i ?_ t y F H;unfold gS;rw[P,R];obtain⟨h1,h2,_⟩:=ya Q l;refine List.mem_map.2 ⟨(i,u),oX.2 ⟨u.toNat,by omega,by omega,f,l,v⟩,rfl⟩
  ·exact g.mks _ _ (h.race b hb e A u f i j l v t y F H)
 have q:∀n∈T,n.row≠D.row->∀z t,Ex (s0 p fuel) n.row z->z.may t=true->n.z t=false->∃L,z.may L=true/\n.z L=false/\io W G n.row L:=by
  intro n C e A t j l v;obtain⟨L,F,H,Y⟩:=h.any n C e A t j l v;exact⟨L,F,H,g.mks _ _ Y⟩
 have r:∀n∈T,n.row=D.row->n=D:=fun n C e=>h.core.tree.ok.uniq C h.mem e
 have a:=h.keys;have c:=h.blk;rw[<-aa]at a c;unfold gu;rw[P,R]
 by_cases M:z.all=[]
 ·rw[if_pos M]
  rw[if_pos M]at a;rw[if_neg (fun N=>N.1 M)]at c;refine⟨E.tree,E.letr,fun _=>E.work,⟨o,fun n C A t j l v=>?_⟩,by rw[g.len];show G.cl+1=_;rw[g.cl];exact h.cl,?_,by show G.blk=_;rw[g.blk];omega,by rw[g.len];exact h.bud⟩
  ·by_cases e:n.row=D.row
   ·obtain rfl:=r n C e
    obtain rfl:=ig j J;have:=jg.2 l;rw[M]at this
    cases this
   ·exact q n C e A t j l v
  ·show(fJ W (db G.keys w (G.keys w++[eE D.row]))).Perm _
   rw[g.keys];exact(Jv m.keys _ X).trans a
 ·rw[if_neg M]
  rw[if_neg M,List.append_nil]at a
  have I:fu z asl=[]↔z.all.all D.z=true:=by
   rw[List.all_eq_true,List.eq_nil_iff_forall_not_mem]
   constructor
   ·intro N t Z
    have:=N t;rw[qM]at this;rw[h.z t]
    by_cases e:dp asl t=true
    ·exact e
    ·exact absurd ⟨jg.1 Z,by simpa using e⟩ this
   ·intro N t Z
    obtain⟨h1,h2⟩:=qM.1 Z;have:=N t (jg.2 h1);rw[h.z t,h2]at this
    cases this
  by_cases hb:fu z asl=[]
  ·rw[if_pos hb]
   rw[if_pos ⟨M,I.1 hb⟩]at c;refine⟨E.tree,E.letr,fun _=>E.work,⟨o,fun n C A t j l v=>?_⟩,by rw[g.len];show G.cl+1=_;rw[g.cl];exact h.cl,by rw[g.keys];exact a,by show G.blk+1=_;rw[g.blk];exact c,by rw[g.len];exact h.bud⟩
   by_cases e:n.row=D.row
   ·obtain rfl:=r n C e
    obtain rfl:=ig j J;have:t∈fu A asl:=qM.2 ⟨l,by rw[<-h.z t];exact v⟩;rw[hb]at this
    cases this
   ·exact q n C e A t j l v
  ·rw[if_neg hb]
   rw[if_neg (fun N=>hb (I.2 N.2)),Nat.add_zero]at c
   obtain⟨x,hx⟩:∃x,x=(fu z asl).getD (dD d (fu z asl).length) 0:=⟨_,rfl⟩
   have ab:x∈fu z asl:=by
    rw[hx,dV _ (lX d (List.length_pos_iff.2 hb))];exact getElem_mem _
   rw[<-hx];obtain⟨x1,x2⟩:=qM.1 ab;obtain⟨n,C,hp⟩:=E.tree.take h.mem h.row k.length;rw[List.take_length]at hp;subst hp;obtain⟨es,s,hr,U⟩:=E.tree.tr.row n C;have hs:s=z:=by rw[<-(jV hr).1];exact P
   subst hs;obtain⟨a1,O,_,a4⟩:=yw E X C (set:=dn [x]) (i7 _);refine⟨a1.tree,a1.letr,fun _=>a1.work,⟨fun b hb A u f i j l v t y F H=>O.mks _ _ (o b hb A u f i j l v t y F H),fun n' S A t j l v=>?_⟩,by rw[O.len,O.cl,g.len,g.cl];exact h.cl,by rw[O.keys,g.keys];exact a,by rw[O.blk,g.blk];exact c,by rw[O.len,g.len];exact h.bud⟩
   by_cases e:n'.row=D.row
   ·obtain rfl:=r n' S e
    obtain rfl:=ig j J;refine⟨x,x1,by rw[h.z x];exact x2,a4 _ x h.row ?_ ?_⟩
    ·exact(nN (mR Q x (jg.2 x1))).2 (by simp)
    ·rw[U];exact yu Q x1
   ·obtain⟨L,F,H,Y⟩:=q n' S e A t j l v
    exact⟨L,F,H,O.mks _ _ Y⟩
end
section
variable{p:Pg}{fuel:Int}{W w B:Nat}{m:Mac}{T:List Nd}
theorem pe{l:List TNd}{q:dl}(h:dt l q≠0):∃n∈l,n.pre=q/\∃i,∃a:i<l.length,l[i]=n/\ee l q=some i/\dt l q=n.left:=by
 cases hx:ee l q with
 |none=>unfold dt at h;rw[hx]at h;exact absurd rfl h
 |some i=>
  obtain⟨a,b⟩:=iQ hx;exact⟨l[i],getElem_mem a,b,i,a,rfl,rfl,jJ hx a⟩
theorem yN{n:TNd}(a:n.Ok)(h:n.left≠0):dW n.left≠[]:=by
 intro e;apply h;have:=GR a.left;rw[e]at this;rw[<-this];rfl
theorem Ep(q:dl){u:Nat}(a:u<8):dB (q++[UInt8.ofNat u])=dB q++[(u:Int)]:=by
 have e:(UInt8.ofNat u).toNat=u:=UInt8.toNat_ofNat_of_lt' (by show u<256;omega);unfold dB;rw[List.map_append,List.map_singleton,e]
theorem Kg{l:List TNd}{k:dl}(h:∀n∈l,n.pre≠k):ee l k=none:=by
 cases hx:ee l k with
 |none=>rfl
 |some i=>
  obtain⟨a,b⟩:=iQ hx;exact absurd b (h _ (getElem_mem a))
theorem Je{l:List TNd}{n:TNd}(h:ee l n.pre=none)(d:n.left=0)(k:dl):dt (l++[n]) k≠0↔dt l k≠0:=by
 have a:=zn h k
 by_cases e:k=n.pre
 ·rw[if_pos e]at a
  rw[jJ a (by simp)];subst e;unfold dt;rw[h];simp[d]
 ·rw[if_neg e]at a
  cases b:ee l k with
  |none=>rw[b]at a;unfold dt;rw[a,b]
  |some j=>
   rw[b]at a;obtain⟨c,_⟩:=iQ b;rw[jJ a (by simp;omega),jJ b c,List.getElem_append_left c]
theorem za(hg:dF p fuel=true)(hw:w<W)(h:InvM p fuel W B m T)(aE:m.over=false){q:dl}{r:List df}(hq:m.wk w=q::r)(hB:m.l.length<B)(d:Int):
  ∃(u o:Nat) (l2:List TNd) (V:St) (F:Nd) (T':List Nd) (A:Mac),u<8/\o<256/\fK p fuel m.l q d=(0,(u:Int),o,l2)/\l2.length=m.l.length /\
   A=(if dt l2 q≠0 then ey W w q { m with wk:=db m.wk w r,l:=l2,cl:=m.cl+1 }else { m with wk:=db m.wk w r,l:=l2,cl:=m.cl+1 })/\A.l=l2/\A.box=m.box/\A.cl=m.cl+1 /\
   gD p fuel W w q d { m with wk:=db m.wk w r }=jr p fuel W w (q++[UInt8.ofNat u]) o d A/\dQ p fuel (dB (q++[UInt8.ofNat u]))=(0,F.row,some V) /\
   (d' p fuel A.l (q++[UInt8.ofNat u]) o w).1=0/\PreM p fuel W B { A with l:=(d' p fuel A.l (q++[UInt8.ofNat u]) o w).2 } T' F (q++[UInt8.ofNat u]) o:=by
 have ar:=h.work aE;have I:dt m.l q≠0:=(ar.iff q).1 ⟨w,hw,by rw[hq];exact mem_cons_self⟩;obtain⟨n,hn,hp,i,hi,N,ad,aF⟩:=pe I;have O:=h.tree.tr.ok n hn;rw[aF]at I;have Q:=yN O I
 obtain⟨u,hu⟩:∃u,u=(dW n.left).getD (dD d (dW n.left).length) 0:=⟨_,rfl⟩
 have au:u∈dW n.left:=by
  rw[hu,dV _ (lX d (List.length_pos_iff.2 Q))];exact getElem_mem _
 have Z:u<8:=(oY.1 au).1;obtain⟨g1,g2,g3⟩:=O.left_gone (pj.2 au);obtain⟨es,z,hr,aA⟩:=h.tree.tr.row n hn;obtain⟨hx,aG⟩:=rn hr;obtain⟨b,hb,R⟩:=h.tree.fwd n hn;obtain⟨zb,av⟩:=h.tree.ok.rows b hb;have aB:b.row=es:=pA av hx (R.row.trans aG.symm);rw[<-aB]at hx;have aM:z.Ok fuel.toNat:=hx.ok (lI hg).1
 have aw:z.may (u:Int)=true:=by
  rw[gX _ Z]at g3;have:=h.tree.tr.todo n hn u g3;rw[aA]at this;rw[kX _ Z,decide_eq_true_eq]at this;exact jg.1 this
 obtain⟨e,he⟩:=nE aw;obtain⟨V,hs⟩:=next_step he aw;have ak:e.thread=(u:Int):=(hY hs).2.2;have aH:oW p fuel q=z.next:=by unfold oW;rw[<-hp,hr]
 have M:fK p fuel m.l q d=(0,(u:Int),gj z.next n.asl n.gone (u:Int),m.l.set i { n with gone:=wt n.gone (u:Int) }):=by
  unfold fK;rw[ad];dsimp only;rw[nP hi,N,if_neg Q,<-hu,aH]
 obtain⟨o,J⟩:∃a,a=gj z.next n.asl n.gone (u:Int):=⟨_,rfl⟩
 have S:o<256:=by rw[J];exact uL _ _ _ _
 have ax:(u:Int)∉b.g:=fun hh=>by rw[R.g,g1]at hh;cases hh
 have aI:b.z (u:Int)=false:=by rw[R.z];exact g2
 let F:Nd:=⟨b.row++[e],dp o,[]⟩
 have ao:TreeOk (s0 p fuel) (gE T b.row (u:Int) F):=h.tree.ok.grow hb ax aI hx hs (x:=F) rfl rfl fun v=>by
  show dp o v=true↔_;rw[J,zz he v,R.z,R.g]
 have al:Ex (s0 p fuel) F.row V:=ii.2 ⟨z,hx,V,by rw[ak];exact hs,rfl⟩
 have hk:F.row.map Ev.thread=dB (q++[UInt8.ofNat u]):=by
  rw[Ep q Z,List.map_append,List.map_singleton,ak,R.row,hp]
 have H:dQ p fuel (dB (q++[UInt8.ofNat u]))=(0,F.row,some V):=by rw[<-hk];exact sK hg al
 obtain⟨k,aa⟩:∃k,k=q++[UInt8.ofNat u]:=⟨_,rfl⟩
 rw[<-aa]at hk H;have hd:=h.tree.tr.nodup;have ab:({ n with gone:=wt n.gone (u:Int) }:TNd).pre=m.l[i].pre:=by rw[N]
 have aC:TrOk p fuel (m.l.set i { n with gone:=wt n.gone (u:Int) }):=h.tree.tr.set hi ab (by rw[N]) ⟨O.may,O.asl,O.todo,p5 O.gone _⟩ (h.tree.tr.todo n hn)
 have D:∀x,x∈m.l.set i { n with gone:=wt n.gone (u:Int) }↔x={ n with gone:=wt n.gone (u:Int) }∨(x∈m.l/\x.pre≠n.pre):=fun x=>by
  rw[mA hd hi,N]
 have ay:∀x∈m.l,x.pre≠k:=by
  intro x s Y;obtain⟨c,G,P⟩:=h.tree.fwd x s;obtain⟨y,hy⟩:=h.tree.ok.rows c G;have e3:c.row=b.row++[e]:=pA hy al (by rw[P.row,Y,hk]);obtain⟨a,X,aJ,az⟩:=h.tree.ok.par c G _ _ e3;obtain rfl:=h.tree.ok.uniq X hb aJ;rw[ak]at az;exact ax az
 have L:ee (m.l.set i { n with gone:=wt n.gone (u:Int) }) k=none:=Kg fun x s=>by
  rcases (D x).1 s with rfl|⟨s,_⟩
  ·exact ay n hn
  ·exact ay x s
 have ae:jS (m.l.set i { n with gone:=wt n.gone (u:Int) }) k=true:=by
  unfold jS;rw[aa,List.dropLast_concat,List.getLast?_concat,ue hi ab,ad];dsimp only[Option.getD];rw[nP (by rw[length_set];exact hi),List.getElem_set_self];have Y:(UInt8.ofNat u).toNat=u:=UInt8.toNat_ofNat_of_lt' (by show u<256;omega);rw[Y];exact Kw (by omega) rfl
 have E:(d' p fuel (m.l.set i { n with gone:=wt n.gone (u:Int) }) k o w).2=m.l.set i { n with gone:=wt n.gone (u:Int) } ++ [⟨k,w,dn V.all,o,0,0⟩]:=by
  unfold d';rw[H];dsimp only;rw[L,if_neg (by simp),if_neg (by rw[ae];simp)]
 have ac:(d' p fuel (m.l.set i { n with gone:=wt n.gone (u:Int) }) k o w).1=0:=by
  unfold d';rw[H];dsimp only;rw[L,if_neg (by simp),if_neg (by rw[ae];simp)]
 have U:∀c∈T,∀x,NodeR c x->(c.row=b.row↔x.pre=n.pre):=by
  intro c G x P
  constructor
  ·intro Y
   apply wG;rw[<-P.row,<-R.row,Y]
  ·intro Y
   obtain⟨y,hy⟩:=h.tree.ok.rows c G;exact pA hy av (by rw[P.row,R.row,Y])
 have af:NodeR F ⟨k,w,dn V.all,o,0,0⟩:=⟨hk,fun _=>rfl,fun v=>by
  show v∈([]:List Int)↔dp 0 v=true;unfold dp;rw[zero_testBit,Bool.and_false]
  simp⟩
 have ag:NodeR (fE b.row (u:Int) b) { n with gone:=wt n.gone (u:Int) }:=⟨by rw[fp];exact R.row,fun v=>by rw[jD];exact R.z v,fun v=>by
  rw[kS,if_pos rfl,mem_append,mem_singleton,R.g]
  exact(zy (by omega)).symm⟩
 have ah:∀c∈T,∀x,NodeR c x->x.pre≠n.pre->NodeR (fE b.row (u:Int) c) x:=fun c G x P C=>⟨by rw[fp];exact P.row,fun v=>by rw[jD];exact P.z v,fun v=>by
  rw[kS,if_neg (fun Y=>C ((U c G x P).1 Y))]
  exact P.g v⟩
 have ap:TreeR p fuel W (m.l.set i { n with gone:=wt n.gone (u:Int) } ++ [⟨k,w,dn V.all,o,0,0⟩]) (gE T b.row (u:Int) F):=by
  refine⟨ao,aC.snoc L H S w,by rw[zD,length_append,length_set,h.tree.len];rfl,fun x s=>?_,fun c G=>?_,fun x s=>?_⟩
  ·rw[mem_append,mem_singleton,D]at s
   rcases s with (rfl|⟨s,C⟩)|rfl
   ·exact⟨_,fS.2 (.inl ⟨b,hb,rfl⟩),ag⟩
   ·obtain⟨c,G,P⟩:=h.tree.fwd x s
    exact⟨_,fS.2 (.inl ⟨c,G,rfl⟩),ah c G x P C⟩
   ·exact⟨F,fS.2 (.inr rfl),af⟩
  ·rcases fS.1 G with ⟨a,X,rfl⟩|rfl
   ·obtain⟨x,s,Rx⟩:=h.tree.bwd a X
    by_cases C:x.pre=n.pre
    ·have:a=b:=h.tree.ok.uniq X hb ((U a X x Rx).2 C)
     subst this;exact⟨_,mem_append_left _ ((D _).2 (.inl rfl)),ag⟩
    ·exact⟨x,mem_append_left _ ((D _).2 (.inr ⟨s,C⟩)),ah a X x Rx C⟩
   ·exact⟨_,List.mem_append_right _ (List.mem_singleton.2 rfl),af⟩
  ·rw[mem_append,mem_singleton,D]at s
   rcases s with (rfl|⟨s,_⟩)|rfl
   ·exact h.tree.own n hn
   ·exact h.tree.own x s
   ·exact⟨by show(0:Int)<=w;omega,by show(w:Int)<W;omega⟩
 have hX:WorkX W (m.l.set i { n with gone:=wt n.gone (u:Int) }) (db m.wk w r) q:=(ar.pop hw hq).more fun x s=>by
  rw[mC hd hi ab,if_neg (by rw[N,hp];exact s)]
 obtain⟨A,am⟩:∃A,A=(if dt (m.l.set i { n with gone:=wt n.gone (u:Int) }) q≠0 then ey W w q { m with wk:=db m.wk w r,l:=m.l.set i { n with gone:=wt n.gone (u:Int) },cl:=m.cl+1 }else { m with wk:=db m.wk w r,l:=m.l.set i { n with gone:=wt n.gone (u:Int) },cl:=m.cl+1 }):=⟨_,rfl⟩
 have hf:WorkR W A.l A.wk/\A.l=m.l.set i { n with gone:=wt n.gone (u:Int) }/\A.box=m.box/\A.keys=m.keys/\A.blk=m.blk/\A.cl=m.cl+1:=by
  rw[am]
  by_cases hl:dt (m.l.set i { n with gone:=wt n.gone (u:Int) }) q≠0
  ·rw[if_pos hl]
   unfold ey
   rw[if_neg (fun hh=>by
    obtain⟨v,hv,aK⟩:=pw.1 hh
    exact hX.no v hv aK)]
   exact⟨hX.push hw hl,rfl,rfl,rfl,rfl,rfl⟩
  ·rw[if_neg hl]
   exact⟨hX.none (Classical.not_not.1 hl),rfl,rfl,rfl,rfl,rfl⟩
 obtain⟨f1,f2,f3,f4,f5,f6⟩:=hf
 have aq:gD p fuel W w q d { m with wk:=db m.wk w r }=jr p fuel W w k o d A:=by
  unfold gD;dsimp only;rw[M];dsimp only;rw[<-J,am,aa];rfl
 have ai:∀an t,io W m an t->io W { A with l:=(d' p fuel A.l k o w).2 } an t:=by
  intro an t hm;rcases hm with ⟨x,s,h1,h2⟩|⟨v,hv,x,s,h1⟩
  ·left
   by_cases C:x.pre=n.pre
   ·have aL:x=n:=by
     obtain⟨j,hj,h5,h6⟩:=h.tree.tr.at s;obtain⟨j',aN,h7,h8⟩:=h.tree.tr.at hn;rw[C,h8]at h6;injection h6 with h6;subst h6;rw[<-h7,h5]
    subst aL;refine⟨{ x with gone:=wt x.gone (u:Int) },?_,h1,h2⟩;show _∈(d' p fuel A.l k o w).2;rw[f2,E];exact mem_append_left _ ((D _).2 (.inl rfl))
   ·refine⟨x,?_,h1,h2⟩
    show _∈(d' p fuel A.l k o w).2;rw[f2,E];exact mem_append_left _ ((D _).2 (.inr ⟨s,C⟩))
  ·exact .inr ⟨v,hv,x,by show x∈A.box v;rw[f3];exact s,h1⟩
 have aO:fe (s0 p fuel) F.row=V:=(pC al).symm
 have aj:∀c∈gE T b.row (u:Int) F,c.row≠F.row->∃a∈T,c=fE b.row (u:Int) a:=by
  intro c G C;rcases fS.1 G with h1|rfl
  ·exact h1
  ·exact absurd rfl C
 have aD:PreM p fuel W B { A with l:=(d' p fuel A.l k o w).2 } (gE T b.row (u:Int) F) F k o:=by
  refine⟨⟨?_,?_,?_⟩,fS.2 (.inr rfl),hk,fun _=>rfl,fun c G C=>?_,fun c G C=>?_,?_,?_,?_,?_⟩
  ·show TreeR p fuel W (d' p fuel A.l k o w).2 _
   rw[f2,E];exact ap
  ·show WorkR W (d' p fuel A.l k o w).2 A.wk
   rw[f2]at f1 ⊢;rw[E];refine f1.same fun x=>Je (by exact L) ?_ x
   unfold TNd.left wo;simp
  ·show me W (d' p fuel A.l k o w).2 A.box
   rw[f2,f3,E];refine h.letr.kin fun x s=>?_
   obtain⟨y,hy,h1,h2⟩:=pg h.tree.tr hi ab (by rw[N]) x s;exact⟨y,mem_append_left _ hy,h1,h2⟩
  ·obtain⟨a,X,rfl⟩:=aj c G C
   rw[fp];intro z' u' f i' y1 y2 y3 t y y4 y5;exact ai _ _ (h.marks.race a X z' u' f i' y1 y2 y3 t y y4 y5)
  ·obtain⟨a,X,rfl⟩:=aj c G C
   rw[fp,jD];intro z' t y1 y2 y3;obtain⟨t',y4,y5,y6⟩:=h.marks.any a X z' t y1 y2 y3;exact⟨t',y4,y5,ai _ _ y6⟩
  ·show(fJ W A.keys++_).Perm _
   rw[f4,yS];exact h.keys.append_right _
  ·show A.blk+_=_
   rw[f5,AS,h.blk]
  ·show A.cl+1=(d' p fuel A.l k o w).2.length
   rw[f6,f2,E,length_append,length_set,h.cl];rfl
  ·show(d' p fuel A.l k o w).2.length<=B
   rw[f2,E,length_append,length_set];exact hB
 subst aa;exact⟨u,o,_,V,F,_,A,Z,S,by rw[M,J],length_set,am,f2,f3,f6,aq,H,by rw[f2];exact ac,aD⟩
theorem zc(c:dF p fuel=true)(e:w<W)(h:InvM p fuel W B m T)(b:m.over=false){q:dl}{r:List df}(f:m.wk w=q::r)(g:m.l.length<B)(d:Int):
  ∃a,InvM p fuel W B (gD p fuel W w q d { m with wk:=db m.wk w r }) a:=by
 obtain⟨u,k,n,o,s,a,t,_,_,_,_,_,_,_,_,i,_,_,j⟩:=za c e h b f g d;rw[i];exact⟨a,j.open c e d⟩
end
section
variable{p:Pg}{fuel:Int}{W w B:Nat}{m:Mac}{T:List Nd}
def mZ(l:List TNd)(row:List Ev)(t:Int):Prop:=∃n∈l,row.map Ev.thread=dB n.pre/\dp n.todo t=true
theorem tB{l:List TNd}(b:TrOk p fuel l){i:Nat}(c:i<l.length){n:TNd}(e:n.pre=l[i].pre)(k:∀t,dp l[i].todo t=true->dp n.todo t=true){row:List Ev}{t:Int}(h:mZ l row t):mZ (l.set i n) row t:=by
 obtain⟨x,hx,d,f⟩:=h
 by_cases g:x.pre=l[i].pre
 ·obtain⟨j,m,rfl,a⟩:=b.at hx
  rw[g,nL b.nodup c]at a;injection a with a;subst a;exact⟨n,mem_set c _,by rw[e];exact d,k t f⟩
 ·exact⟨x,(mA b.nodup c).2 (.inr ⟨hx,g⟩),d,f⟩
theorem yP(c:TreeR p fuel W m.l T){n:TNd}(d:n∈m.l)(f:w<W)(k:dl):dt (eO m.l n.pre w).2 k=dt m.l k:=by
 obtain⟨i,b,a,e,_⟩:=c.hand d f;rw[e,mC c.tr.nodup b (by rw[a])]
 split
 ·rename_i g
  rw[g,jJ (nL c.tr.nodup b) b,a];rfl
 ·rfl
theorem Fi(h:InvM p fuel W B m T)(aa:m.over=false)(V:w<W){x:Ltr}{r:List Ltr}(hb:m.box w=x::r):InvM p fuel W B (gd W w x r m) T:=by
 have A:=h.work aa;obtain⟨n,Z,hp,G⟩:=h.letr w V x (by rw[hb];exact mem_cons_self);have O:=h.tree.tr.ok n Z;have ab:x.set<256:=by rw[G];exact O.may
 obtain⟨i,N,b,e,D⟩:=h.tree.mark Z ab;have hd:=h.tree.tr.nodup
 have J:∀q,q≠n.pre->dt (dw m.l n.pre x.set).2 q=dt m.l q:=fun q X=>by
  rw[e,mC hd N (by rw[b]),if_neg (by rw[b];exact X)]
 have ac:dt (dw m.l n.pre x.set).2 n.pre=({ n with todo:=n.todo|||(x.set&&&n.may) }:TNd).left:=by
  rw[e,mC hd N (by rw[b]),if_pos (by rw[b])]
 have ad:dt m.l n.pre=n.left:=by
  obtain⟨j,hj,g,E⟩:=h.tree.tr.at Z;rw[jJ E hj,g]
 have S:∀y∈m.l,∃z∈(dw m.l n.pre x.set).2,z.pre=y.pre/\z.may=y.may:=by
  rw[e];exact pg h.tree.tr N (by rw[b]) (by rw[b])
 have L:({ n with todo:=n.todo|||(x.set&&&n.may) }:TNd)∈(dw m.l n.pre x.set).2:=by
  rw[e];exact mem_set N _
 have c:(dw m.l n.pre x.set).2.length=m.l.length:=by rw[e,length_set]
 have U:∀u y,y∈db m.box w r u->y∈m.box u:=by
  intro u y o
  by_cases s:u=w
  ·subst s;rw[dg]at o;rw[hb];exact List.mem_cons_of_mem _ o
  ·rwa [dh _ _ s]at o
 have hL:∀a t,io W m a t->mZ (dw m.l n.pre x.set).2 a t∨∃v,v<W/\∃y∈db m.box w r v,a.map Ev.thread=dB y.q/\dp y.set t=true:=by
  intro a t H;rcases H with g|⟨v,hv,y,o,g,E⟩
  ·left
   rw[e];refine tB h.tree.tr N (by rw[b]) (fun t D=>?_) g;rw[b]at D;exact q'.2 (.inl D)
  ·by_cases s:v=w
   ·subst s
    rw[hb]at o;rcases List.mem_cons.1 o with rfl|o
    ·refine .inl ⟨_,L,by rw[g,<-hp],q'.2 (.inr (zA.2 ⟨E,by rw[<-G];exact E⟩))⟩
    ·exact .inr ⟨v,hv,y,by rw[dg];exact o,g,E⟩
   ·exact .inr ⟨v,hv,y,by rw[dh _ _ s];exact o,g,E⟩
 have f:∀Y:Mac,(∀a t,mZ (dw m.l n.pre x.set).2 a t->mZ Y.l a t)->Y.box=db m.box w r->MarkOk (s0 p fuel) T (io W Y):=fun Y g E=>h.marks.more fun a t H=>by
  rcases hL a t H with I|I
  ·exact .inl (g a t I)
  ·rw[<-E]at I;exact .inr I
 have C:me W (dw m.l n.pre x.set).2 (db m.box w r):=fun u hu y o=>(h.letr.kin S) u hu y (U u y o)
 unfold gd;rw[<-hp]
 by_cases M:dt (dw m.l n.pre x.set).2 n.pre≠0/\gp W m n.pre=false
 ·rw[if_pos M]
  have F:dt m.l n.pre=0:=by
   apply Classical.byContradiction;intro F;have:=pw.2 ((A.iff n.pre).2 F);rw[M.2]at this
   cases this
  obtain⟨i2,P,d,s,Q⟩:=TreeR.hand D L V;dsimp only at s Q;have R:∀k,dt (eO (dw m.l n.pre x.set).2 n.pre w).2 k=dt (dw m.l n.pre x.set).2 k:=fun k=>yP (m:={ m with l:=(dw m.l n.pre x.set).2 }) D L V k
  have hX:WorkX W (eO (dw m.l n.pre x.set).2 n.pre w).2 m.wk n.pre:=(A.off F J).more fun q _=>R q
  unfold ey
  rw[if_neg (fun hh=>by
   have:gp W m n.pre=true:=hh;rw[M.2]at this
   cases this)]
  refine⟨Q,C.kin ?_,fun _=>hX.push V (by rw[R];exact M.1),f _ (fun a t H=>?_) rfl,?_,h.keys,h.blk,?_⟩
  ·show ∀y∈(dw m.l n.pre x.set).2,∃z∈(eO (dw m.l n.pre x.set).2 n.pre w).2,_
   rw[s];exact pg D.tr P (by rw[d]) (by rw[d])
  ·show mZ (eO (dw m.l n.pre x.set).2 n.pre w).2 a t
   rw[s];exact tB D.tr P (by rw[d]) (fun t I=>by rw[d]at I;exact I) H
  ·show m.cl+1=(eO (dw m.l n.pre x.set).2 n.pre w).2.length
   rw[s,length_set,c];exact h.cl
  ·show(eO (dw m.l n.pre x.set).2 n.pre w).2.length<=B
   rw[s,length_set,c];exact h.bud
 ·rw[if_neg M]
  refine⟨D,C,fun _=>?_,f _ (fun _ _ H=>H) rfl,by show m.cl+1=(dw m.l n.pre x.set).2.length;rw[c];exact h.cl,h.keys,h.blk,by show(dw m.l n.pre x.set).2.length<=B;rw[c];exact h.bud⟩
  by_cases F:dt m.l n.pre=0
  ·have hX:=A.off F J
   refine hX.none ?_;apply Classical.byContradiction;intro g;refine M ⟨g,?_⟩;rw[Bool.eq_false_iff];intro hh;exact(A.iff n.pre).1 (pw.1 hh) F
  ·refine A.same fun q=>?_
   by_cases X:q=n.pre
   ·subst X
    exact⟨fun _=>F,fun _=>by rw[ac];exact yM O (by rw[<-ad];exact F)⟩
   ·rw[J q X]
theorem Dr(h:InvM p fuel W B m T)(r:m.over=false)(g:w<W){v:Nat}(z:v<W)(s:v≠w)(c:m.wk v≠[]):InvM p fuel W B (iW w v m) T:=by
 have d:=h.work r
 obtain⟨q,A⟩:∃q,q=(m.wk v).getLast?.getD []:=⟨_,rfl⟩
 have C:m.wk v=(m.wk v).dropLast++[q]:=by
  rw[A,List.getLast?_eq_some_getLast c];exact(List.dropLast_concat_getLast c).symm
 have H:dt m.l q≠0:=(d.iff q).1 ⟨v,z,by rw[C];simp⟩;obtain⟨n,D,j,_⟩:=pe H;obtain⟨i,E,b,e,F⟩:=h.tree.hand D g;have f:=yP h.tree D g;have a:(eO m.l n.pre w).2.length=m.l.length:=by rw[e,length_set]
 unfold iW;rw[<-A];rw[j]at e F f a;refine⟨F,h.letr.kin ?_,fun _=>(d.steal g z s C).same fun k=>by rw[f],h.marks.more fun u t I=>?_,by show m.cl+1=(eO m.l q w).2.length;rw[a];exact h.cl,h.keys,h.blk,by show(eO m.l q w).2.length<=B;rw[a];exact h.bud⟩
 ·show ∀x∈m.l,∃y∈(eO m.l q w).2,_
  rw[e];exact pg h.tree.tr E (by rw[b];exact j.symm) (by rw[b])
 ·rcases I with o|o
  ·left
   show mZ (eO m.l q w).2 u t;rw[e];exact tB h.tree.tr E (by rw[b];exact j.symm) (fun t G=>by rw[b]at G;exact G) o
  ·exact .inr o
theorem uB:lW W m=true↔∀w,w<W->m.box w=[]/\m.wk w=[]:=by
 unfold lW;rw[List.all_eq_true]
 constructor
 ·intro h w a
  have:=h w (List.mem_range.2 a);rw[Bool.and_eq_true,isEmpty_iff,isEmpty_iff]at this;exact this
 ·intro h w a
  rw[Bool.and_eq_true,isEmpty_iff,isEmpty_iff];exact h w (List.mem_range.1 a)
theorem px(h:el W m=false):m.over=false/\∃w,w<W/\(m.box w≠[]∨m.wk w≠[]):=by
 unfold el at h;rw[Bool.or_eq_false_iff]at h;refine⟨h.1,Classical.byContradiction fun b=>?_⟩
 have:lW W m=true:=uB.2 fun w c=>by
  constructor
  ·apply Classical.byContradiction;intro a;exact b ⟨w,c,.inl a⟩
  ·apply Classical.byContradiction;intro a;exact b ⟨w,c,.inr a⟩
 rw[h.2]at this
 cases this
inductive StepK(p:Pg)(fuel:Int)(W B:Nat)(w:Nat)(d:Int)(m:Mac):Nat × Mac->Prop where
 |halt (h:el W m=true):StepK p fuel W B w d m (0,m)
 |idle (h:el W m=false) (hw:w<W) (hb:m.box w=[]) (hk:m.wk w=[]) (hv:dD d W=w∨m.wk (dD d W)=[]):StepK p fuel W B w d m (0,m)
 |nobody (h:el W m=false) (hw:W<=w):StepK p fuel W B w d m (0,m)
 |read (h:el W m=false) (hw:w<W) (x:Ltr) (r:List Ltr) (hb:m.box w=x::r):StepK p fuel W B w d m (1,gd W w x r m)
 |stole (h:el W m=false) (hw:w<W) (hb:m.box w=[]) (hk:m.wk w=[]) (hv:dD d W≠w) (hn:m.wk (dD d W)≠[]):StepK p fuel W B w d m (2,iW w (dD d W) m)
 |over (h:el W m=false) (hw:w<W) (hb:m.box w=[]) (q:dl) (r:List df) (hk:m.wk w=q::r) (hB:m.l.length=B):StepK p fuel W B w d m (5,{ m with wk:=db m.wk w r,over:=true })
 |into (h:el W m=false) (hw:w<W) (hb:m.box w=[]) (q:dl) (r:List df) (hk:m.wk w=q::r) (hB:m.l.length≠B):StepK p fuel W B w d m (3,gD p fuel W w q d { m with wk:=db m.wk w r })
theorem qj(h:InvM p fuel W B m T)(w:Nat)(d:Int):StepK p fuel W B w d m (ej p fuel W B w d m):=by
 unfold ej
 by_cases g:el W m=true
 ·rw[if_pos (.inr g)]
  exact .halt g
 ·have a:el W m=false:=by simpa using g
  by_cases j:W<=w
  ·rw[if_pos (.inl j)]
   exact .nobody a j
  ·rw[if_neg (by rintro (k|k);exact j k;exact g k)]
   have b:w<W:=by omega
   cases hb:m.box w with
   |cons x r=>exact .read a b x r hb
   |nil=>
    cases c:m.wk w with
    |nil=>
     dsimp only
     by_cases f:dD d W=w∨m.wk (dD d W)=[]
     ·rw[if_pos f];exact .idle a b hb c f
     ·rw[if_neg f]
      exact .stole a b hb c (fun e=>f (.inl e)) (fun e=>f (.inr e))
    |cons q r=>
     dsimp only;have n:dt m.l q≠0:=((h.work (px a).1).iff q).1 ⟨w,b,by rw[c];exact mem_cons_self⟩;rw[if_neg n]
     by_cases i:m.l.length=B
     ·rw[if_pos i];exact .over a b hb q r c i
     ·rw[if_neg i];exact .into a b hb q r c i
theorem nn(e:dF p fuel=true)(f:0<W)(h:InvM p fuel W B m T)(w:Nat)(d:Int):∃g,InvM p fuel W B (ej p fuel W B w d m).2 g:=by
 have a:=qj h w d;generalize ej p fuel W B w d m=x at a
 cases a with
 |halt=>exact⟨T,h⟩
 |idle=>exact⟨T,h⟩
 |nobody=>exact⟨T,h⟩
 |read b c x r hb=>exact⟨T,Fi h (px b).1 c hb⟩
 |stole b c hb a i j=>exact⟨T,Dr h (px b).1 c (lX d f) i j⟩
 |over b c hb q r a k=>exact⟨T,h.tree,h.letr,(fun l=>by cases l),h.marks,h.cl,h.keys,h.blk,h.bud⟩
 |into b c hb q r a k=>exact zc e c h (px b).1 a (by have:=h.bud;omega) d
end
section
variable{p:Pg}{fuel:Int}{W w B:Nat}{m:Mac}{T:List Nd}
theorem ui(t:Int):dp 0 t=false:=by
 unfold dp;rw[zero_testBit,Bool.and_false]
theorem Jw(W:Nat):fJ W (fun _=>[])=[]:=by
 unfold fJ;simp
theorem yg(w:dF p fuel=true)(A:0<W)(y:1<=B):∃c,dQ p fuel (dB [])=(0,c.row,some (s0 p fuel))/\(d' p fuel ic.l [] 0 (0:Nat)).1=0/\PreM p fuel W B { ic with l:=(d' p fuel ic.l [] 0 (0:Nat)).2 } [c] c [] 0:=by
 let c:Nd:=⟨[],fun _=>false,[]⟩
 have hx:Ex (s0 p fuel) [] (s0 p fuel):=rfl;have j:dQ p fuel (dB [])=(0,[],some (s0 p fuel)):=sK w hx
 have a:(d' p fuel ic.l [] 0 (0:Nat)).2=[⟨[],0,dn (s0 p fuel).all,0,0,0⟩]:=by
  unfold d';rw[j];rfl
 have r:TrOk p fuel [⟨[],0,dn (s0 p fuel).all,0,0,0⟩]:=by
  have:=(vE p fuel).snoc (k:=[]) rfl j (asl:=0) (by omega) 0;exact this
 have e:fe (s0 p fuel) c.row=s0 p fuel:=rfl
 have t:NodeR c ⟨[],0,dn (s0 p fuel).all,0,0,0⟩:=⟨rfl,fun u=>(ui u).symm,fun u=>by
  show u∈([]:List Int)↔dp 0 u=true;rw[ui]
  simp⟩
 have g:PreM p fuel W B { ic with l:=(d' p fuel ic.l [] 0 (0:Nat)).2 } [c] c [] 0:=by
  refine⟨⟨?_,?_,fun v _ x s=>by cases s⟩,by simp,rfl,fun u=>(ui u).symm,fun b hb d=>?_,fun b hb d=>?_,?_,?_,?_,?_⟩
  ·show TreeR p fuel W (d' p fuel ic.l [] 0 (0:Nat)).2 [c]
   rw[a];refine⟨vD _,r,rfl,fun n m=>⟨c,by simp,?_⟩,fun b hb=>⟨_,List.mem_singleton.2 rfl,?_⟩,fun n m=>?_⟩
   ·rw[List.mem_singleton.1 m];exact t
   ·rw[List.mem_singleton.1 hb];exact t
   ·rw[List.mem_singleton.1 m]
    exact⟨Int.le_refl _,by show(0:Int)<W;omega⟩
  ·show WorkR W (d' p fuel ic.l [] 0 (0:Nat)).2 fun _=>[]
   rw[a];refine⟨fun q=>⟨(fun⟨_,_,h⟩=>by cases h),fun h=>?_⟩,fun _ _=>List.nodup_nil,fun _ _ _ _ _ _ h=>by cases h⟩
   exfalso
   apply h
   cases o:ee [(⟨[],0,dn (s0 p fuel).all,0,0,0⟩:TNd)] q with
   |none=>unfold dt;rw[o]
   |some i=>
    obtain⟨f,_⟩:=iQ o;rw[jJ o f];obtain rfl:i=0:=by simpa using f
    show wo (wo 0 0) 0=0;unfold wo;simp
  ·rw[List.mem_singleton.1 hb]at d;exact absurd rfl d
  ·rw[List.mem_singleton.1 hb]at d;exact absurd rfl d
  ·show(fJ W (fun _=>[])++_).Perm _
   rw[Jw,List.nil_append];unfold gi je
   by_cases h:(s0 p fuel).all=[]
   ·rw[if_pos (by rw[e];exact h),List.filter_cons_of_pos (by simpa [e]using h)]
    exact List.Perm.refl _
   ·rw[if_neg (by rw[e];exact h),List.filter_cons_of_neg (by simpa [e]using h)]
    exact List.Perm.refl _
  ·show 0+_=_
   unfold kf
   by_cases h:(fe (s0 p fuel) c.row).all≠[]/\(fe (s0 p fuel) c.row).all.all c.z=true
   ·rw[if_pos h,List.filter_cons_of_pos (by rw[Bool.and_eq_true,decide_eq_true_eq];exact h)]
    rfl
   ·rw[if_neg h,List.filter_cons_of_neg (by rw[Bool.and_eq_true,decide_eq_true_eq];exact h)]
    rfl
  ·show 0+1=(d' p fuel ic.l [] 0 (0:Nat)).2.length
   rw[a];rfl
  ·show(d' p fuel ic.l [] 0 (0:Nat)).2.length<=B
   rw[a];exact y
 refine⟨c,j,?_,g⟩;unfold d';rw[j];rfl
theorem tu(a:dF p fuel=true)(b:0<W)(c:1<=B):∃T,InvM p fuel W B (gM p fuel W) T:=by
 obtain⟨d,_,_,h⟩:=yg (W:=W) a b c;exact⟨[d],h.open a b 0⟩
theorem InvM.any(c:dF p fuel=true)(h:InvM p fuel W B m T):(fJ W m.keys).Nodup/\(∀k∈fJ W m.keys,k∈eD (ek p fuel))/\m.l.length<=dM p fuel:=by
 obtain⟨b,_⟩:=lI c;refine⟨h.keys.nodup_iff.2 (tU b h.tree.ok),fun k d=>tT b h.tree.ok (h.keys.mem_iff.1 d),?_⟩;rw[<-h.tree.len];exact ne b h.tree.ok
theorem InvM.closed(h:InvM p fuel W B m T)(f:el W m=true)(d:m.over=false):TreeDone (s0 p fuel) T:=by
 have G:lW W m=true:=by
  unfold el at f;rw[d,Bool.false_or]at f;exact f
 have D:=uB.1 G;refine h.marks.done fun b hb t H=>?_
 rcases H with ⟨n,k,I,o⟩|⟨v,q,x,hx,_⟩
 ·obtain⟨c,E,R⟩:=h.tree.fwd n k
  obtain⟨L,w⟩:=h.tree.ok.rows c E;obtain⟨M,y⟩:=h.tree.ok.rows b hb;have A:c=b:=h.tree.ok.uniq E hb (pA w y (by rw[R.row,I]));subst A;have a:=h.tree.tr.ok n k
  have r:n.left=0:=by
   apply Classical.byContradiction;intro r;obtain⟨i,J,C,e⟩:=h.tree.tr.at k;have:dt m.l n.pre≠0:=by rw[jJ e J,C];exact r
   obtain⟨v,q,F⟩:=((h.work d).iff n.pre).2 this;rw[(D v q).2]at F
   cases F
  obtain⟨N,O⟩:=lh o
  obtain⟨j,rfl⟩:∃j:Nat,t=j:=⟨t.toNat,by omega⟩
  have s:j<8:=by omega
  rw[gX _ s]at o;have u:n.left.testBit j=false:=by rw[r,zero_testBit]
  unfold TNd.left at u;rw[jm (jB _ _ a.todo) a.asl,jm a.todo a.gone,o]at u;rw[R.g,R.z,gX _ s,gX _ s]
  revert u
  cases n.gone.testBit j <;> cases n.asl.testBit j <;> simp
 ·rw[(D v q).1]at hx
  cases hx
theorem InvM.exact(b:dF p fuel=true)(h:InvM p fuel W B m T)(c:el W m=true)(a:m.over=false):dG (fJ W m.keys)=dG (eD (ek p fuel))/\(fJ W m.keys).length=(dG (eD (ek p fuel))).length:=by
 obtain⟨d,_⟩:=lI b;obtain⟨e,f⟩:=yT d h.tree.ok (h.closed c a);exact⟨(wm fun x=>h.keys.mem_iff).trans e,h.keys.length_eq.trans f⟩
end
section
variable{p:Pg}{fuel:Int}{W w B:Nat}{m:Mac}{T:List Nd}
def dT(W:Nat)(box:Nat->List Ltr):Nat:=((List.range W).map fun w=>(box w).length).sum
theorem td(box:Nat->List Ltr)(n:Nat):dT (n+1) box=dT n box+(box n).length:=by simp[dT,List.range_succ]
theorem xC(box:Nat->List Ltr)(l:List Ltr)(c:w<W):dT W (db box w l)+(box w).length=dT W box+l.length:=by
 induction W with
 |zero=>omega
 |succ n a=>
  rw[td,td]
  by_cases e:w=n
  ·subst e
   rw[dg]
   have:dT w (db box w l)=dT w box:=by
    unfold dT
    congr 1
    apply List.map_congr_left;intro v b;rw[dh _ _ (by have:=List.mem_range.1 b;omega)]
   omega
  ·rw[dh _ _ (Ne.symm e)]
   have:=a (by omega);omega
theorem Gn(box:Nat->List Ltr)(l:List Ltr)(b:W<=w):dT W (db box w l)=dT W box:=by
 unfold dT
 congr 1
 apply List.map_congr_left;intro v a;rw[dh _ _ (by have:=List.mem_range.1 a;omega)]
theorem oQ{box:Nat->List Ltr}:dT W box=0↔∀w,w<W->box w=[]:=by
 induction W with
 |zero=>exact⟨fun _ w a=>by omega,fun _=>rfl⟩
 |succ n b=>
  rw[td]
  constructor
  ·intro h w a
   by_cases e:w=n
   ·subst e;exact List.eq_nil_of_length_eq_zero (by omega)
   ·exact b.1 (by omega) w (by omega)
  ·intro h
   rw[b.2 fun w a=>h w (by omega),h n (by omega)];rfl
theorem yy(W w:Nat)(k:dl)(set:Nat)(m:Mac):(fT W w k set m).box=m.box:=by
 unfold fT ey
 split
 ·split <;> rfl
 ·rfl
theorem Fz(k:dl)(m:Mac)(i:Nat):dT W (fb p fuel W w k m i).box<=dT W m.box+1:=by
 unfold fb
 split
 ·rw[yy];omega
 ·unfold kY
  dsimp only
  by_cases h:(gL m.l (k.take i)).toNat<W
  ·have:=xC (W:=W) m.box (m.box (gL m.l (k.take i)).toNat++[⟨k.take i,dn (ir p fuel (k.take i)).all⟩]) h
   rw[length_append,List.length_singleton]at this;omega
  ·rw[Gn _ _ (by omega)];omega
theorem wX(k:dl)(l:List Nat):∀m:Mac,dT W (l.foldl (fb p fuel W w k) m).box<=dT W m.box+l.length:=by
 induction l with
 |nil=>intro m;exact le_refl _
 |cons i l a=>
  intro m;have b:=a (fb p fuel W w k m i);have c:=Fz (p:=p) (fuel:=fuel) (W:=W) (w:=w) k m i;rw[List.foldl_cons,List.length_cons];omega
theorem Aj(k:dl)(asl:Nat)(d:Int)(m:Mac):(gu p fuel W w k asl d m).box=m.box:=by
 unfold gu
 split
 ·rfl
 ·split
  ·rfl
  ·exact yy _ _ _ _ _
theorem Hj(p:Pg)(F:Nat):(St.new p F).fuel=p.threads.length*F:=by
 unfold St.fuel St.new;simp[List.map_const']
theorem w0(b:dF p fuel=true)(k:dl):(gS p fuel k).length<=p.threads.length*(p.threads.length*fuel.toNat):=by
 unfold gS;rw[List.length_map];refine le_trans (qA _ _ _) ?_
 rcases hr:dQ p fuel (dB k)with ⟨e,i,_|s⟩
 ·have c:mJ p fuel k=[]:=by
   unfold mJ;rw[hr];unfold dQ iz at hr;rw[if_pos b]at hr
   split at hr
   ·injection hr with _ hr;injection hr with _ hr;cases hr
   ·injection hr with _ hr;injection hr with hr _;exact hr.symm
  rw[c];simp
 ·obtain⟨d,f⟩:=jV hr
  obtain⟨hx,_⟩:=rn hr;rw[d,f];obtain⟨_,g⟩:=Lm hx;have j:=pB hx;have l:(s0 p fuel).fuel=p.threads.length*fuel.toNat:=Hj p _;have h:(s0 p fuel).ts.length=p.threads.length:=by unfold s0 St.new;simp
  rw[g,h];exact Nat.mul_le_mul_left _ (by omega)
theorem JM(a:dF p fuel=true)(q:dl)(d:Int)(m:Mac):dT W (gD p fuel W w q d m).box<=dT W m.box+p.threads.length*(p.threads.length*fuel.toNat):=by
 unfold gD jr;dsimp only;rw[Aj];refine le_trans (wX _ _ _) ?_;have b:=w0 a (q++[UInt8.ofNat (fK p fuel m.l q d).2.1.toNat]);refine Nat.add_le_add ?_ b;dsimp only
 split
 ·unfold ey
  split <;> exact le_refl _
 ·exact le_refl _
theorem yx(W w:Nat)(k:dl)(set:Nat)(m:Mac):(fT W w k set m).cl=m.cl:=by
 unfold fT ey
 split
 ·split <;> rfl
 ·rfl
theorem Fw(k:dl)(l:List Nat):∀m:Mac,(l.foldl (fb p fuel W w k) m).cl=m.cl:=by
 induction l with
 |nil=>intro m;rfl
 |cons i l a=>
  intro m;rw[List.foldl_cons,a];unfold fb
  split
  ·exact yx _ _ _ _ _
  ·rfl
theorem LK(k:dl)(asl:Nat)(d:Int)(m:Mac):(gu p fuel W w k asl d m).cl=m.cl:=by
 unfold gu
 split
 ·rfl
 ·split
  ·rfl
  ·exact yx _ _ _ _ _
theorem tX(q:dl)(d:Int)(m:Mac):(gD p fuel W w q d m).cl=m.cl+1:=by
 unfold gD jr;dsimp only;rw[LK,Fw];dsimp only
 split
 ·unfold ey
  split <;> rfl
 ·rfl
def eG(p:Pg)(fuel:Int)(W:Nat)(m:Mac):Nat:=dT W m.box+(p.threads.length*(p.threads.length*fuel.toNat)+6)*(dM p fuel-m.l.length)
inductive CostK(p:Pg)(fuel:Int)(W:Nat)(w:Nat)(d:Int)(m m':Mac):Prop where
 |halt (h:el W m'=true):CostK p fuel W w d m m'
 |into (h:eG p fuel W m'+6<=eG p fuel W m):CostK p fuel W w d m m'
 |read (h:eG p fuel W m'+1<=eG p fuel W m) (hp:0<dT W m.box):CostK p fuel W w d m m'
 |stole (hc:eG p fuel W m'=eG p fuel W m) (hb:m'.box=m.box) (hw:m.box w=[]) (hv:dD d W≠w) (hm:m'=iW w (dD d W) m) (hk:m.wk w=[]) (hn:m.wk (dD d W)≠[]):CostK p fuel W w d m m'
 |idle (h:m'=m) (hw:m.box w=[]) (hk:m.wk w=[]) (hv:dD d W=w∨m.wk (dD d W)=[]):CostK p fuel W w d m m'
theorem vV(i:dF p fuel=true)(u:0<W)(h:InvM p fuel W B m T)(s:w<W)(d:Int):CostK p fuel W w d m (ej p fuel W B w d m).2/\eG p fuel W (ej p fuel W B w d m).2<=eG p fuel W m:=by
 have b:=qj h w d;obtain⟨E,f⟩:=nn i u h w d;generalize ej p fuel W B w d m=x at b f
 cases b with
 |halt e=>exact⟨.halt e,le_refl _⟩
 |nobody _ e=>omega
 |idle _ _ hb b k=>exact⟨.idle rfl hb b k,le_refl _⟩
 |read e _ x r hb=>
  have n:(gd W w x r m).box=db m.box w r:=by
   unfold gd ey
   split
   ·split <;> rfl
   ·rfl
  have c:(gd W w x r m).l.length=m.l.length:=by
   have t:=h.cl;have g:=f.cl
   have v:(gd W w x r m).cl=m.cl:=by
    unfold gd ey
    split
    ·split <;> rfl
    ·rfl
   dsimp only at g;omega
  have y:=xC m.box r s;rw[hb,List.length_cons]at y
  have a:eG p fuel W (gd W w x r m)+1<=eG p fuel W m:=by
   unfold eG;rw[n,c];omega
  refine⟨.read a ?_,by dsimp only;omega⟩
  ·apply Nat.pos_of_ne_zero
   intro z;rw[oQ.1 z w s]at hb
   cases hb
 |stole e _ hb b k A=>
  have c:(iW w (dD d W) m).l.length=m.l.length:=by
   unfold iW eO;dsimp only
   split
   ·rfl
   ·rw[length_set]
  have a:eG p fuel W (iW w (dD d W) m)=eG p fuel W m:=by unfold eG;rw[c];rfl
  exact⟨.stole a rfl hb k rfl b A,Nat.le_of_eq a⟩
 |over e _ hb q r b C=>
  refine⟨.halt ?_,le_refl _⟩;unfold el;rfl
 |into e _ hb q r b C=>
  have t:=JM (W:=W) (w:=w) i q d { m with wk:=db m.wk w r };have g:=(f.any i).2.2;dsimp only at t g f
  have o:(gD p fuel W w q d { m with wk:=db m.wk w r }).l.length=m.l.length+1:=by
   have v:=h.cl;have F:=f.cl;have G:(gD p fuel W w q d { m with wk:=db m.wk w r }).cl=m.cl+1:=tX q d _;omega
  suffices a:eG p fuel W (gD p fuel W w q d { m with wk:=db m.wk w r })+6<=eG p fuel W m from⟨.into a,by dsimp only;omega⟩
  unfold eG;rw[o]at g ⊢
  obtain⟨j,D⟩:∃j,dM p fuel-m.l.length=j+1:=⟨dM p fuel-m.l.length-1,by omega⟩
  rw[D,show dM p fuel-(m.l.length+1)=j by omega,Nat.mul_succ];omega
theorem vW(a:dF p fuel=true)(b:0<W)(h:InvM p fuel W B m T)(c:w<W)(d:Int):CostK p fuel W w d m (ej p fuel W B w d m).2:=(vV a b h c d).1
end
end
section
open Go.RowKit
open Nat (le_of_eq le_trans lt_of_lt_of_le)
section
variable{w w':World}{B b n cnt g:Nat}{T:Nat->List df}{S R:Nat->Prop}
theorem WU.tight(h:WU w B b n cnt S T):WU w B b n (dS n T) S T:=by
 obtain⟨g,mb,a,c,d,q,e⟩:=h.k;refine⟨⟨g,mb,a,c,d,⟨q.low,q.lowb,q.lowm,q.box,q.row,q.cap,q.qu,q.apart,q.map.tight⟩,e⟩,h.sort,h.no,h.short⟩
theorem WU.rowOf(h:WU w B b n cnt S T)(d:kM w b n g):∃a,w.heap[g]?=some (.cells a 129 (0,0)):=by
 obtain⟨f,mb,j,m,o,q,p⟩:=h.k;obtain⟨c,l,e⟩:=d;rw[q.box]at e;injection e with e;injection e with e;obtain⟨a,i,_⟩:=q.row;have:f=g:=by injection e with e;simp at e;exact e.1.1
 subst this;exact⟨a,i⟩
theorem WU.boxOf(h:WU w B b n cnt S T):∃a,w.heap[b]?=some (.cells a 128 (0,0)):=by
 obtain⟨d,mb,c,e,f,q,g⟩:=h.k;exact⟨_,q.box⟩
theorem WU.onlyS(h:WU w B b n cnt S T)(l:kM w b n g)(a:OnlyS R w w')(hb:¬R b)(d:¬R g)(m:∀x,S x->¬R x):WU w' B b n cnt S T:=by
 obtain⟨A,r⟩:=h.rowOf l;obtain⟨o,mb,f,t,u,q,c⟩:=h.k;obtain⟨s,C,e⟩:=l;rw[q.box]at e;injection e with e;injection e with e;have i:o=g:=by injection e with e;simp at e;exact e.1.1
 subst i;obtain⟨v,y,z⟩:=q.row;exact⟨⟨o,mb,f,t,u,⟨le_trans q.low a.size,q.lowb,q.lowm,a.row q.box hb,⟨v,a.row y d,z⟩,q.cap,fun j p=>(q.qu j p).onlyS a fun x hx=>m x ((c x).2 (.inr ⟨j,p,hx⟩)),q.apart,q.map.onlyS a (m _ ((c _).2 (.inl rfl)))⟩,c⟩,h.sort,h.no,h.short⟩
theorem kM.only(c:kM w b n g)(d:OnlyS R w w')(hb:¬R b):kM w' b n g:=by
 obtain⟨a,mb,e⟩:=c;exact⟨a,mb,d.row e hb⟩
theorem WU.not_kind(h:WU w B b n cnt S T){x:Nat}{d:Array Value}{a:TypeId}(e:w.heap[x]?=some (.cells d a (0,0)))(h1:a≠186)(h2:a≠278)(c:a≠280):¬S x:=h.k.not_row e h1 h2 c
end
theorem TrAt.other{w w':World}{h:TrH}{gs:List Nat}{l:List TNd}{cl:Int}{C:Nat}{R:Nat->Prop}(t:TrAt h w gs l cl)(own:im h.wc C h.a h.p.threads)(o:OnlyS R w w')(h1:∀x,C<=x->x<h.wc.heap.size->¬R x)(h2:∀x,eS h gs x->¬R x):
  ∃c:World,c.heap.size=h.wc.heap.size/\TrAt { h with wc:=c } w' gs l cl/\im c C h.a h.p.threads:=by
 obtain⟨b,n,a,q,wc,k,y⟩:=h;have G:wc.heap.size<=w'.heap.size:=le_trans t.below.size o.size
 obtain⟨c,d⟩:∃c:World,c={ w' with heap:=w'.heap.extract 0 wc.heap.size }:=⟨_,rfl⟩
 have g:c.heap.size=wc.heap.size:=by rw[d];simp;omega
 have j:∀x,x<wc.heap.size->c.heap[x]?=w'.heap[x]?:=fun x hx=>by
  rw[d];simp only[Array.getElem?_extract];rw[if_pos (by omega),Nat.zero_add]
 have f:im c C a k.threads:=own.keep fun x u z=>by
  have e:x<wc.heap.size:=z;rw[j x e,o.block x (lt_of_lt_of_le e t.below.size) (h1 x u e),t.below.block x e]
 have r:dI c a k.threads:=by
  have v:=wH (ul.1 t.fuel).1;have u:k.threads.length<=4:=v.1;exact f.at (by unfold maxLen;omega) fun l A=>by have:=v.2 l A;unfold maxLen;omega
 obtain⟨D,B,E,F⟩:=t.map;have m:∀x,eS ⟨b,n,a,q,wc,k,y⟩ gs x->w'.heap[x]?=w.heap[x]?:=fun x hx=>o.block x (t.lt x hx) (h2 x hx)
 have s:Below c.heap.size c w':=⟨by rw[d],by rw[d],by rw[d],by omega,fun x hx=>(j x (by omega)).symm⟩
 exact⟨c,g,⟨r,s,fun x hx=>le_trans (le_of_eq g) (t.low x hx),(m _ (.inl rfl)).trans t.box,⟨D,qg B (m _ (.inr (.inl rfl))),E,F⟩,t.len,t.nodup,fun i h1 h2=>(m _ (.inr (.inr (List.getElem_mem h2)))).trans (t.nodes i h1 h2),t.ok,t.fuel⟩,f⟩
def gT(x:Ltr):Let:=⟨x.q,255⟩
def PB(C:Nat)(h:TrH)(gs:List Nat)(Sm Sw:Nat->Prop)(wb wg x:Nat):Prop:=(C<=x/\x<h.wc.heap.size)∨eS h gs x∨Sm x∨Sw x∨x=wb∨x=wg
structure P3(p:Pg)(fuel:Int)(w:World)(B C:Nat)(h:TrH)(tb mb wb wg W:Nat)(gs:List Nat)(Sm Sw:Nat->Prop)(m:Mac):Prop where
 eb:h.b=tb
 ep:h.p=p
 ef:h.fuel=fuel
 baseC:B<=C
 base:B<=h.wc.heap.size
 own:im h.wc C h.a h.p.threads
 right:dF p fuel=true
 tr:TrAt h w gs m.l (m.cl:Int)
 ml:MU w B mb W Sm (fun j=>(m.box j).map gT)
 wk:WU w B wb W (dS W m.wk) Sw m.wk
 wx:kM w wb W wg
 lowb:B<=wb
 lowg:B<=wg
 mlow:∀x,Sm x->¬(C<=x/\x<h.wc.heap.size)
 slow:∀x,Sw x->¬(C<=x/\x<h.wc.heap.size)
 tm:∀x,eS h gs x->¬Sm x
 tw:∀x,eS h gs x->¬Sw x
 mw:∀x,Sm x->¬Sw x
def PM(p:Pg)(fuel:Int)(w:World)(B tb mb wb W:Nat)(S:Nat->Prop)(m:Mac):Prop:=∃C h gs Sm Sw wg,P3 p fuel w B C h tb mb wb wg W gs Sm Sw m/\∀x,S x↔PB C h gs Sm Sw wb wg x
def gP(p:Pg)(fuel:Int)(B tb mb wb W:Nat)(S:Nat->Prop)(m:Mac)(w w':World):Prop:=∃b,PM p fuel w' B tb mb wb W b m/\OnlyS S w w'/\∀x,b x->S x∨w.heap.size<=x
section
variable{p:Pg}{fuel:Int}{w w':World}{B C tb mb wb wg W:Nat}{h:TrH}{gs:List Nat}{Sm Sw S R:Nat->Prop}{m m':Mac}
theorem P3.not_wb(q:P3 p fuel w B C h tb mb wb wg W gs Sm Sw m):¬eS h gs wb/\¬Sm wb/\¬Sw wb:=by
 obtain⟨a,e⟩:=q.wk.boxOf;exact⟨q.tr.not_row e (by decide) (by decide),q.ml.not_row e (by decide) (by decide) (by decide),q.wk.not_kind e (by decide) (by decide) (by decide)⟩
theorem P3.not_wg(q:P3 p fuel w B C h tb mb wb wg W gs Sm Sw m):¬eS h gs wg/\¬Sm wg/\¬Sw wg:=by
 obtain⟨a,e⟩:=q.wk.rowOf q.wx;exact⟨q.tr.not_row e (by decide) (by decide),q.ml.not_row e (by decide) (by decide) (by decide),q.wk.not_kind e (by decide) (by decide) (by decide)⟩
theorem P3.lt(q:P3 p fuel w B C h tb mb wb wg W gs Sm Sw m){x:Nat}(hx:PB C h gs Sm Sw wb wg x):B<=x/\x<w.heap.size:=by
 rcases hx with ⟨a,b⟩|a|a|a|a|a
 ·exact⟨le_trans q.baseC a,lt_of_lt_of_le b q.tr.below.size⟩
 ·exact⟨le_trans q.base (q.tr.low _ a),q.tr.lt _ a⟩
 ·exact⟨(q.ml.kinds a).1,q.ml.lt a⟩
 ·exact⟨(q.wk.k.kinds a).1,q.wk.k.lt a⟩
 ·subst a
  obtain⟨c,e⟩:=q.wk.boxOf;exact⟨q.lowb,(Array.getElem?_eq_some_iff.1 e).1⟩
 ·subst a
  obtain⟨c,e⟩:=q.wk.rowOf q.wx;exact⟨q.lowg,(Array.getElem?_eq_some_iff.1 e).1⟩
theorem PM.low(q:PM p fuel w B tb mb wb W S m):B<=w.heap.size/\∀x,S x->B<=x/\x<w.heap.size:=by
 obtain⟨C,h,gs,Sm,Sw,wg,q,a⟩:=q;exact⟨q.ml.low,fun x hx=>q.lt ((a x).1 hx)⟩
theorem P3.tree(q:P3 p fuel w B C h tb mb wb wg W gs Sm Sw m){b:List Nat}(t:TrAt h w' b m'.l (m'.cl:Int))(o:OnlyS (eS h gs) w w')(f:∀x∈b,x∈gs∨w.heap.size<=x)(g:m'.box=m.box)(i:m'.wk=m.wk):P3 p fuel w' B C h tb mb wb wg W b Sm Sw m':=by
 have e:∀x,eS h b x->eS h gs x∨w.heap.size<=x:=fun x hx=>by
  rcases hx with hx|hx|hx
  ·exact .inl (.inl hx)
  ·exact .inl (.inr (.inl hx))
  ·rcases f x hx with a|a
   ·exact .inl (.inr (.inr a))
   ·exact .inr a
 refine⟨q.eb,q.ep,q.ef,q.baseC,q.base,q.own,q.right,t,?_,?_,q.wx.only o q.not_wb.1,q.lowb,q.lowg,q.mlow,q.slow,fun x hx c=>?_,fun x hx c=>?_,q.mw⟩
 ·rw[g]
  exact q.ml.onlyS o fun x hx d=>q.tm x d hx
 ·rw[i]
  exact q.wk.onlyS q.wx o q.not_wb.1 q.not_wg.1 fun x hx d=>q.tw x d hx
 ·rcases e x hx with a|a
  ·exact q.tm x a c
  ·have:=q.ml.lt c;omega
 ·rcases e x hx with a|a
  ·exact q.tw x a c
  ·have:=q.wk.k.lt c;omega
theorem P3.mail(q:P3 p fuel w B C h tb mb wb wg W gs Sm Sw m){c:Nat->Prop}(u:MU w' B mb W c (fun j=>(m'.box j).map gT))(o:OnlyS Sm w w')(g:∀x,c x->Sm x∨w.heap.size<=x)(s:m'.l=m.l)(v:m'.cl=m.cl)(y:m'.wk=m.wk):∃i,P3 p fuel w' B C i tb mb wb wg W gs c Sw m'/\(∀x,eS i gs x↔eS h gs x)/\i.wc.heap.size=h.wc.heap.size:=by
 obtain⟨z,b,t,f⟩:=q.tr.other q.own o (fun x a A d=>q.mlow x d ⟨a,A⟩) q.tm;refine⟨{ h with wc:=z },⟨q.eb,q.ep,q.ef,q.baseC,le_trans q.base (le_of_eq b.symm),f,q.right,?_,u,?_,q.wx.only o q.not_wb.2.1,q.lowb,q.lowg,fun x hx e=>?_,fun x hx e=>q.slow x hx ⟨e.1,lt_of_lt_of_le e.2 (le_of_eq b)⟩,fun x hx d=>?_,q.tw,fun x hx r=>?_⟩,fun _=>Iff.rfl,b⟩
 ·rw[s,v]
  exact t
 ·rw[y]
  exact q.wk.onlyS q.wx o q.not_wb.2.1 q.not_wg.2.1 fun x hx d=>q.mw x d hx
 ·have n:x<h.wc.heap.size:=lt_of_lt_of_le e.2 (le_of_eq b)
  rcases g x hx with a|a
  ·exact q.mlow x a ⟨e.1,n⟩
  ·have:=q.tr.below.size;omega
 ·rcases g x d with a|a
  ·exact q.tm x hx a
  ·have:=q.tr.lt x hx;omega
 ·rcases g x hx with a|a
  ·exact q.mw x a r
  ·have:=q.wk.k.lt r;omega
theorem P3.work(q:P3 p fuel w B C h tb mb wb wg W gs Sm Sw m){cnt:Nat}{c:Nat->Prop}(u:WU w' B wb W cnt c m'.wk)(o:OnlyS Sw w w')(f:∀x,c x->Sw x∨w.heap.size<=x)(k:m'.l=m.l)(n:m'.cl=m.cl)(r:m'.box=m.box):∃g,P3 p fuel w' B C g tb mb wb wg W gs Sm c m'/\(∀x,eS g gs x↔eS h gs x)/\g.wc.heap.size=h.wc.heap.size:=by
 obtain⟨s,b,t,e⟩:=q.tr.other q.own o (fun x a v y=>q.slow x y ⟨a,v⟩) q.tw;refine⟨{ h with wc:=s },⟨q.eb,q.ep,q.ef,q.baseC,le_trans q.base (le_of_eq b.symm),e,q.right,?_,?_,u.tight,q.wx.only o q.not_wb.2.2,q.lowb,q.lowg,fun x hx d=>q.mlow x hx ⟨d.1,lt_of_lt_of_le d.2 (le_of_eq b)⟩,fun x hx d=>?_,q.tm,fun x hx i=>?_,fun x hx i=>?_⟩,fun _=>Iff.rfl,b⟩
 ·rw[k,n]
  exact t
 ·rw[r]
  exact q.ml.onlyS o q.mw
 ·have j:x<h.wc.heap.size:=lt_of_lt_of_le d.2 (le_of_eq b)
  rcases f x hx with a|a
  ·exact q.slow x a ⟨d.1,j⟩
  ·have:=q.tr.below.size;omega
 ·rcases f x i with a|a
  ·exact q.tw x hx a
  ·have:=q.tr.lt x hx;omega
 ·rcases f x i with a|a
  ·exact q.mw x hx a
  ·have:=q.ml.lt hx;omega
theorem P3.other(q:P3 p fuel w B C h tb mb wb wg W gs Sm Sw m)(o:OnlyS R w w')(b:∀x,PB C h gs Sm Sw wb wg x->¬R x):∃e,P3 p fuel w' B C e tb mb wb wg W gs Sm Sw m/\(∀x,eS e gs x↔eS h gs x)/\e.wc.heap.size=h.wc.heap.size:=by
 obtain⟨f,a,t,d⟩:=q.tr.other q.own o (fun x g i=>b x (.inl ⟨g,i⟩)) fun x hx=>b x (.inr (.inl hx))
 exact⟨{ h with wc:=f },⟨q.eb,q.ep,q.ef,q.baseC,le_trans q.base (le_of_eq a.symm),d,q.right,t,q.ml.onlyS o fun x hx=>b x (.inr (.inr (.inl hx))),q.wk.onlyS q.wx o (b _ (.inr (.inr (.inr (.inr (.inl rfl)))))) (b _ (.inr (.inr (.inr (.inr (.inr rfl)))))) fun x hx=>b x (.inr (.inr (.inr (.inl hx)))),q.wx.only o (b _ (.inr (.inr (.inr (.inr (.inl rfl)))))),q.lowb,q.lowg,fun x hx c=>q.mlow x hx ⟨c.1,lt_of_lt_of_le c.2 (le_of_eq a)⟩,fun x hx c=>q.slow x hx ⟨c.1,lt_of_lt_of_le c.2 (le_of_eq a)⟩,q.tm,q.tw,q.mw⟩,fun _=>Iff.rfl,a⟩
theorem PB.iff{a:TrH}(h1:∀x,eS a gs x↔eS h gs x)(h2:a.wc.heap.size=h.wc.heap.size)(x:Nat):PB C a gs Sm Sw wb wg x↔PB C h gs Sm Sw wb wg x:=by
 unfold PB;rw[h1,h2]
theorem PM.only(q:PM p fuel w B tb mb wb W S m)(o:OnlyS R w w')(b:∀x,S x->¬R x):PM p fuel w' B tb mb wb W S m:=by
 obtain⟨C,h,gs,Sm,Sw,wg,q,a⟩:=q;obtain⟨c,d,e,f⟩:=q.other o fun x hx=>b x ((a x).2 hx)
 exact⟨C,c,gs,Sm,Sw,wg,d,fun x=>(a x).trans (PB.iff e f x).symm⟩
theorem PM.later(q:PM p fuel w B tb mb wb W S m)(hb:Below w.heap.size w w'):PM p fuel w' B tb mb wb W S m:=q.only (R:=fun _=>False) (OnlyS.of_below hb) fun _ _ h=>h
theorem gP.below(q:PM p fuel w B tb mb wb W S m)(hb:Below w.heap.size w w'):gP p fuel B tb mb wb W S m w w':=⟨S,q.later hb,OnlyS.of_below hb,fun _ h=>.inl h⟩
end
end
section
open Go.Proofs.Tryz Go.RowKit
theorem yK(box:Nat->List Ltr)(j:Nat)(l:List Ltr):(fun i=>(db box j l i).map gT)=db (fun i=>(box i).map gT) j (l.map gT):=by
 funext i
 by_cases e:i=j
 ·subst e;rw[dg,dg]
 ·rw[dh _ _ e,dh _ _ e]
theorem tc(W:Nat)(box:Nat->List Ltr):fh W (fun i=>(box i).map gT)=dT W box:=by simp[fh,dT]
section
variable{p:Pg}{fuel:Int}{w w':World}{B tb mb wb W:Nat}{S:Nat->Prop}{m m':Mac}
theorem PM.toTree(q:PM p fuel w B tb mb wb W S m){F:FuncId}{args:Array Value}{V:Ending->Prop}(n:∀(h:TrH) (d:List Nat),h.b=tb->h.p=p->h.fuel=fuel->TrAt h w d m.l (m.cl:Int)->Calls prog F args w fun r w'=>V r/\∃a,TrAt h w' a m'.l (m'.cl:Int)/\OnlyS (eS h d) w w'/\∀x∈a,x∈d∨w.heap.size<=x)(s:m'.box=m.box)(u:m'.wk=m.wk):
  Calls prog F args w fun r w'=>V r/\gP p fuel B tb mb wb W S m' w w':=by
 obtain⟨C,h,d,g,i,j,q,c⟩:=q
 refine(n h d q.eb q.ep q.ef q.tr).mono fun r w' ⟨e,a,t,o,k⟩=>⟨e,PB C h a g i wb j,⟨C,h,a,g,i,j,q.tree t o k s u,fun _=>Iff.rfl⟩,o.mono fun x _ hx=>(c x).2 (.inr (.inl hx)),fun x hx=>?_⟩
 rcases hx with hx|(hx|hx|hx)|hx
 ·exact .inl ((c x).2 (.inl hx))
 ·exact .inl ((c x).2 (.inr (.inl (.inl hx))))
 ·exact .inl ((c x).2 (.inr (.inl (.inr (.inl hx)))))
 ·rcases k x hx with f|f
  ·exact .inl ((c x).2 (.inr (.inl (.inr (.inr f)))))
  ·exact .inr f
 ·exact .inl ((c x).2 (.inr (.inr hx)))
theorem PM.toMail(q:PM p fuel w B tb mb wb W S m){F:FuncId}{args:Array Value}{V:Ending->Prop}(n:∀b,MU w B mb W b (fun j=>(m.box j).map gT)->Calls prog F args w fun r w'=>V r/\∃a,MU w' B mb W a (fun j=>(m'.box j).map gT)/\OnlyS b w w'/\∀x,a x->b x∨w.heap.size<=x)(s:m'.l=m.l)(t:m'.cl=m.cl)(v:m'.wk=m.wk):
  Calls prog F args w fun r w'=>V r/\gP p fuel B tb mb wb W S m' w w':=by
 obtain⟨C,h,f,b,g,i,q,c⟩:=q;refine(n b q.ml).mono fun r w' ⟨e,a,u,o,k⟩=>?_
 obtain⟨y,z,t1,t2⟩:=q.mail u o k s t v;refine⟨e,PB C h f a g wb i,⟨C,y,f,a,g,i,z,fun x=>(PB.iff t1 t2 x).symm⟩,o.mono fun x _ hx=>(c x).2 (.inr (.inr (.inl hx))),fun x hx=>?_⟩;rcases hx with hx|hx|hx|hx
 ·exact .inl ((c x).2 (.inl hx))
 ·exact .inl ((c x).2 (.inr (.inl hx)))
 ·rcases k x hx with d|d
  ·exact .inl ((c x).2 (.inr (.inr (.inl d))))
  ·exact .inr d
 ·exact .inl ((c x).2 (.inr (.inr (.inr hx))))
theorem PM.toWork(q:PM p fuel w B tb mb wb W S m){F:FuncId}{args:Array Value}{V:Ending->Prop}{cnt:Nat}(k:∀c,WU w B wb W (dS W m.wk) c m.wk->Calls prog F args w fun r w'=>V r/\kh B wb W cnt c m'.wk w w')(n:m'.l=m.l)(s:m'.cl=m.cl)(t:m'.box=m.box):
  Calls prog F args w fun r w'=>V r/\gP p fuel B tb mb wb W S m' w w':=by
 obtain⟨C,h,f,g,c,i,q,a⟩:=q;refine(k c q.wk).mono fun r w' ⟨e,b,u,o,j⟩=>?_
 obtain⟨v,y,t1,t2⟩:=q.work u o j n s t;refine⟨e,PB C h f g b wb i,⟨C,v,f,g,b,i,y,fun x=>(PB.iff t1 t2 x).symm⟩,o.mono fun x _ hx=>(a x).2 (.inr (.inr (.inr (.inl hx)))),fun x hx=>?_⟩;rcases hx with hx|hx|hx|hx|hx
 ·exact .inl ((a x).2 (.inl hx))
 ·exact .inl ((a x).2 (.inr (.inl hx)))
 ·exact .inl ((a x).2 (.inr (.inr (.inl hx))))
 ·rcases j x hx with d|d
  ·exact .inl ((a x).2 (.inr (.inr (.inr (.inl d)))))
  ·exact .inr d
 ·exact .inl ((a x).2 (.inr (.inr (.inr (.inr hx)))))
theorem PM.toNone(q:PM p fuel w B tb mb wb W S m){F:FuncId}{args:Array Value}{V:Ending->Prop}(a:Calls prog F args w fun r w'=>V r/\Below w.heap.size w w'):Calls prog F args w fun r w'=>V r/\gP p fuel B tb mb wb W S m w w':=a.mono fun _ _ ⟨e,hb⟩=>⟨e,gP.below q hb⟩
theorem s7(q:PM p fuel w B tb mb wb W S m){k:dl}(a:k.length<=1000){set:Nat}(b:set<256):Calls prog 71 #[.pointer (some ⟨tb,0,none⟩),.string ⟨k.toArray⟩,.int .u8 (set:Nat)] w fun r w'=>r=.returned (.int .i64 (dw m.l k set).1)/\gP p fuel B tb mb wb W S { m with l:=(dw m.l k set).2 } w w':=
 q.toTree (m':={ m with l:=(dw m.l k set).2 }) (fun h c d f g t=>by subst d f g;exact(Ir t a b).mono fun r w' ⟨e,i,o⟩=>⟨e,c,i,o,fun _ hx=>.inl hx⟩) rfl rfl
theorem xA(q:PM p fuel w B tb mb wb W S m){k:dl}(a:k.length<=1000)(o:Int):Calls prog 79 #[.pointer (some ⟨tb,0,none⟩),.string ⟨k.toArray⟩,.int .i64 o] w fun r w'=>r=.returned (.int .i64 (eO m.l k o).1)/\gP p fuel B tb mb wb W S { m with l:=(eO m.l k o).2 } w w':=
 q.toTree (m':={ m with l:=(eO m.l k o).2 }) (fun h b c d f t=>by subst c d f;exact(Kx t a o).mono fun r w' ⟨e,g,o⟩=>⟨e,b,g,o,fun _ hx=>.inl hx⟩) rfl rfl
theorem F8(q:PM p fuel w B tb mb wb W S m){k:dl}(b:k.length<=900){asl:Nat}(c:asl<256)(own:Int)(d:m.l.length<=1000000):Calls prog 64 #[.pointer (some ⟨tb,0,none⟩),.string ⟨k.toArray⟩,.int .u8 (asl:Nat),.int .i64 own] w fun r w'=>r=.returned (.int .i64 (d' p fuel m.l k asl own).1)/\gP p fuel B tb mb wb W S { m with l:=(d' p fuel m.l k asl own).2 } w w':=
 q.toTree (m':={ m with l:=(d' p fuel m.l k asl own).2 }) (fun h s f g i t=>by subst f g i;exact(Iy t b c own d).mono fun r w' ⟨a,e,j,o,n⟩=>⟨e,a,j,o,n⟩) rfl rfl
theorem Gc(q:PM p fuel w B tb mb wb W S m)(n:m.cl<=1000000){k:dl}(a:k.length<=1000)(d:Int):Calls prog 84 #[.pointer (some ⟨tb,0,none⟩),.string ⟨k.toArray⟩,.int .i64 d] w fun r w'=>r=.returned (.tuple #[.int .i64 (fK p fuel m.l k d).2.1,.int .u8 ((fK p fuel m.l k d).2.2.1:Nat),.int .i64 (fK p fuel m.l k d).1])/\gP p fuel B tb mb wb W S { m with l:=(fK p fuel m.l k d).2.2.2,cl:=if (fK p fuel m.l k d).1=0 then m.cl+1 else m.cl } w w':=
 q.toTree (m':={ m with l:=(fK p fuel m.l k d).2.2.2,cl:=if (fK p fuel m.l k d).1=0 then m.cl+1 else m.cl }) (fun h b c f g t=>by
  subst c f g
  refine(Mr t ⟨by omega,by omega⟩ a d).mono fun r w' ⟨e,i,o⟩=>⟨e,b,?_,o,fun _ hx=>.inl hx⟩
  dsimp only
  have j:(((if (fK h.p h.fuel m.l k d).1=0 then m.cl+1 else m.cl:Nat)):Int)=if (fK h.p h.fuel m.l k d).1=0 then (m.cl:Int)+1 else (m.cl:Int):=by split <;> simp
  rw[j]
  exact i) rfl rfl
theorem F6(q:PM p fuel w B tb mb wb W S m){j:Nat}(b:j<W)(x:Ltr)(c:x.q.length<=281474976710656)(d:dT W m.box<100000):Calls prog 111 #[.pointer (some ⟨mb,0,none⟩),.int .i64 (j:Int),gC (gT x)] w fun r w'=>r=.returned (.int .i64 0)/\gP p fuel B tb mb wb W S (kY j x m) w w':=
 q.toMail (m':=kY j x m) (fun h u=>(IK u b (gT x) c (by rw[tc];exact d)).mono fun r w' ⟨e,a,f,o,g⟩=>⟨e,a,by
  show MU w' B mb W a (fun i=>(db m.box j (m.box j++[x]) i).map gT);rw[yK,List.map_append]
  exact f,o,g⟩) rfl rfl rfl
theorem F3(q:PM p fuel w B tb mb wb W S m){j:Nat}(b:j<W){x:Ltr}{r:List Ltr}(hx:m.box j=x::r)(c:dT W m.box<100000):Calls prog 77 #[.pointer (some ⟨mb,0,none⟩),.int .i64 (j:Int)] w fun e w'=>e=.returned (.tuple #[gC (gT x),.bool true])/\gP p fuel B tb mb wb W S { m with box:=db m.box j r } w w':=
 q.toMail (m':={ m with box:=db m.box j r }) (fun a u=>(IJ u b (l:=gT x) (r:=r.map gT) (by show(m.box j).map gT=_;rw[hx];rfl) (by rw[tc];exact c)).mono fun e w' ⟨d,f,o⟩=>⟨d,a,by
  show MU w' B mb W a (fun i=>(db m.box j r i).map gT);rw[yK]
  exact f,o,fun _ hx=>.inl hx⟩) rfl rfl rfl
theorem xz(q:PM p fuel w B tb mb wb W S m):Calls prog 40 #[.pointer (some ⟨mb,0,none⟩)] w fun r w'=>r=.returned (.int .i64 (dT W m.box:Nat))/\w'=w:=by
 obtain⟨C,h,c,d,e,f,q,g⟩:=q;have:=IH q.ml;rw[tc]at this
 exact this.mono fun _ _ ⟨a,b⟩=>⟨a,b.symm⟩
theorem xx(q:PM p fuel w B tb mb wb W S m)(f:W<=64)(g:dS W m.wk<100000){j:Nat}(i:j<W){k:dl}(d:k.length<=1000):Calls prog 73 #[.pointer (some ⟨wb,0,none⟩),.int .i64 (j:Int),.string ⟨k.toArray⟩] w fun r w'=>r=.returned (.bool (!gp W m k))/\gP p fuel B tb mb wb W S (ey W j k m) w w':=by
 cases c:gp W m k with
 |true=>
  have e:ey W j k m=m:=by unfold ey;rw[c];rfl
  rw[e];have l:=q;obtain⟨C,h,n,o,s,t,q,v⟩:=q;exact l.toNone ((Ca q.wk (z:=(j:Int)) d (.inr c)).mono fun _ _ ⟨a,b⟩=>by subst b;exact⟨a,Below.refl _ _⟩)
 |false=>
  have e:ey W j k m={ m with wk:=db m.wk j (eU (m.wk j) k) }:=by unfold ey;rw[c];rfl
  rw[e];exact q.toWork (m':={ m with wk:=db m.wk j (eU (m.wk j) k) }) (fun _ u=>B9 u f g i d c) rfl rfl rfl
theorem xy(q:PM p fuel w B tb mb wb W S m){j:Nat}(a:j<W){k:dl}{r:List df}(hx:m.wk j=k::r):Calls prog 82 #[.pointer (some ⟨wb,0,none⟩),.int .i64 (j:Int)] w fun e w'=>e=.returned (.tuple #[.string ⟨k.toArray⟩,.bool true])/\gP p fuel B tb mb wb W S { m with wk:=db m.wk j r } w w':=
 q.toWork (m':={ m with wk:=db m.wk j r }) (fun _ u=>Cb u a hx) rfl rfl rfl
theorem F5(q:PM p fuel w B tb mb wb W S m)(b:W<=64)(c:dS W m.wk<100000){i j:Nat}(d:i<W)(f:j<W)(a:i≠j){k:dl}{r:List df}(hx:m.wk j=r++[k]):Calls prog 81 #[.pointer (some ⟨wb,0,none⟩),.int .i64 (i:Int),.int .i64 (j:Int)] w fun e w'=>e=.returned (.tuple #[.string ⟨k.toArray⟩,.bool true])/\gP p fuel B tb mb wb W S { m with wk:=db (db m.wk j r) i (eU (m.wk i) k) } w w':=
 q.toWork (m':={ m with wk:=db (db m.wk j r) i (eU (m.wk i) k) }) (fun _ u=>B8 u b c d f a hx) rfl rfl rfl
theorem F4(q:PM p fuel w B tb mb wb W S m){i j:Nat}(a:i=j∨m.wk j=[]):Calls prog 81 #[.pointer (some ⟨wb,0,none⟩),.int .i64 (i:Int),.int .i64 (j:Int)] w fun e w'=>e=.returned (.tuple #[.string ⟨#[]⟩,.bool false])/\w'=w:=by
 obtain⟨C,h,b,c,d,f,q,g⟩:=q;refine B7 q.wk _ _ ?_;rcases a with e|e
 ·exact .inr (.inr (.inl (by rw[e])))
 ·exact .inr (.inr (.inr (by rw[Int.toNat_natCast];exact e)))
theorem sY(q:PM p fuel w B tb mb wb W S m):Calls prog 39 #[.pointer (some ⟨wb,0,none⟩)] w fun r w'=>r=.returned (.int .i64 (dS W m.wk:Nat))/\w'=w:=by
 obtain⟨C,h,a,b,c,d,q,e⟩:=q;exact B6 q.wk.k
theorem sZ(q:PM p fuel w B tb mb wb W S m){j:Nat}(a:j<W):Calls prog 80 #[.pointer (some ⟨wb,0,none⟩),.int .i64 (j:Int)] w fun r w'=>r=.returned (.int .i64 (m.wk j).length)/\w'=w:=by
 obtain⟨C,h,b,c,d,e,q,f⟩:=q;exact Cd q.wk.k a
theorem F9(q:PM p fuel w B tb mb wb W S m):Calls prog 41 #[.pointer (some ⟨tb,0,none⟩)] w fun r w'=>r=.returned (.int .i64 (m.l.length:Nat))/\w'=w:=by
 obtain⟨C,h,c,d,e,f,q,g⟩:=q;obtain rfl:=q.eb
 exact(Jc q.tr).mono fun _ _ ⟨a,b⟩=>⟨a,b.symm⟩
theorem Gb(q:PM p fuel w B tb mb wb W S m):Calls prog 42 #[.pointer (some ⟨tb,0,none⟩)] w fun r w'=>r=.returned (.int .i64 (m.cl:Nat))/\w'=w:=by
 obtain⟨C,h,c,d,e,f,q,g⟩:=q;obtain rfl:=q.eb
 exact(Mq q.tr).mono fun _ _ ⟨a,b⟩=>⟨a,b.symm⟩
theorem F7(q:PM p fuel w B tb mb wb W S m){k:dl}(c:k.length<=1000):Calls prog 110 #[.pointer (some ⟨tb,0,none⟩),.string ⟨k.toArray⟩] w fun r w'=>r=.returned (.int .i64 (gL m.l k))/\w'=w:=by
 obtain⟨C,h,d,e,f,g,q,i⟩:=q;obtain rfl:=q.eb
 exact(Gs q.tr c).mono fun _ _ ⟨a,b⟩=>⟨a,b.symm⟩
theorem Ga(q:PM p fuel w B tb mb wb W S m){k:dl}(a:k.length<=1000):Calls prog 128 #[.pointer (some ⟨tb,0,none⟩),.string ⟨k.toArray⟩] w fun r w'=>∃v,r=.returned v/\dC w' w.heap.size v (ex (dW (dt m.l k)))/\Below w.heap.size w w':=by
 obtain⟨C,h,b,c,d,e,q,f⟩:=q;obtain rfl:=q.eb;exact Jg q.tr a
theorem Gd(q:PM p fuel w B tb mb wb W S m){k:dl}(b:k.length<=1000){e:Int}{a:List Ev}{s:St}(c:dQ p fuel (dB k)=(e,a,some s)):Calls prog 65 #[.pointer (some ⟨tb,0,none⟩),.string ⟨k.toArray⟩] w fun r w'=>∃g v,r=.returned (.tuple #[.pointer (some ⟨g,0,none⟩),v,.int .i64 0])/\w.heap.size<=g/\di w' g s/\s.Ok fuel.toNat/\dr w' w.heap.size v a/\Below w.heap.size w w':=by
 obtain⟨C,h,d,f,i,j,q,l⟩:=q;obtain rfl:=q.eb;obtain rfl:=q.ep;obtain rfl:=q.ef;exact uU q.tr b c
end
end
section
open Nat (add_mod le_refl mod_eq_of_lt mod_lt)
section
variable{p:Pg}{fuel:Int}{W w B:Nat}{m:Mac}{T:List Nd}
def iq(p:Pg)(fuel:Int)(W B i:Nat)(a:List Nat)(m:Mac):Mac:=a.foldl (fun m w=>(ej p fuel W B w ((i:Int)+w) m).2) m
def qw(p:Pg)(fuel:Int)(W B i:Nat)(m:Mac):Mac:=iq p fuel W B i (List.range W) m
theorem vU(h:el W m=true)(w:Nat)(d:Int):ej p fuel W B w d m=(0,m):=by
 unfold ej;rw[if_pos (.inr h)]
theorem Cn(i:Nat)(a:List Nat)(h:el W m=true):iq p fuel W B i a m=m:=by
 unfold iq
 induction a with
 |nil=>rfl
 |cons w a b=>rw[List.foldl_cons,vU h];exact b
theorem r7(b:dF p fuel=true)(c:0<W)(i:Nat)(a:List Nat):∀{m:Mac} {T:List Nd},InvM p fuel W B m T->∃d,InvM p fuel W B (iq p fuel W B i a m) d:=by
 unfold iq
 induction a with
 |nil=>intro m T h;exact⟨T,h⟩
 |cons w a e=>
  intro m T h;obtain⟨g,f⟩:=nn b c h w ((i:Int)+w);exact e f
inductive TurnK(p:Pg)(fuel:Int)(W i:Nat)(ws:List Nat)(m m':Mac):Prop where
 |halt (h:el W m'=true):TurnK p fuel W i ws m m'
 |into (h:eG p fuel W m'+6<=eG p fuel W m):TurnK p fuel W i ws m m'
 |read (h:eG p fuel W m'+1<=eG p fuel W m) (hp:0<dT W m.box):TurnK p fuel W i ws m m'
 |quiet (hc:eG p fuel W m'=eG p fuel W m) (hb:m'.box=m.box) (hw:∀w∈ws,m.box w=[]) (h0:i%W=0->m'=m/\∀w∈ws,m.wk w=[]):TurnK p fuel W i ws m m'
theorem TurnK.le{i:Nat}{a:List Nat}{m m':Mac}(h:TurnK p fuel W i a m m'):el W m'=true∨eG p fuel W m'<=eG p fuel W m:=by
 cases h with
 |halt h=>exact .inl h
 |into h=>exact .inr (by omega)
 |read h=>exact .inr (by omega)
 |quiet h=>exact .inr (by omega)
theorem LP{i w:Nat}(a:i%W=0)(b:w<W)(d:i+w<18446744073709551616):dD ((i:Int)+w) W=w:=by
 unfold dD;have c:((i:Int)+w)%18446744073709551616=(i:Int)+w:=Int.emod_eq_of_lt (by omega) (by omega);rw[c,show((i:Int)+w)=((i+w:Nat):Int) by omega,<-Int.natCast_emod,Int.toNat_natCast,add_mod,a,Nat.zero_add,Nat.mod_mod,mod_eq_of_lt b]
theorem Co(s:dF p fuel=true)(t:0<W){i:Nat}(D:i<10000000000)(C:W<=1000)(d:List Nat)(k:∀w∈d,w<W):∀{m:Mac} {T:List Nd},InvM p fuel W B m T->TurnK p fuel W i d m (iq p fuel W B i d m):=by
 induction d with
 |nil=>intro m T h;exact .quiet rfl rfl (fun _ f=>by cases f) fun _=>⟨rfl,fun _ f=>by cases f⟩
 |cons w d x=>
  intro m T h;have f:=k w List.mem_cons_self;obtain⟨E,y⟩:=nn s t h w ((i:Int)+w);have z:=vW s t h f ((i:Int)+w);have l:=x (fun v a=>k v (List.mem_cons_of_mem _ a)) y;show TurnK p fuel W i (w::d) m (iq p fuel W B i d (ej p fuel W B w ((i:Int)+w) m).2);generalize (ej p fuel W B w ((i:Int)+w) m).2=F at *
  cases z with
  |halt n=>rw[Cn i d n];exact .halt n
  |into n=>
   rcases l.le with c|c
   ·exact .halt c
   ·exact .into (by omega)
  |read n g=>
   cases l with
   |halt c=>exact .halt c
   |into c=>exact .into (by omega)
   |read c=>exact .read (by omega) g
   |quiet c=>exact .read (by omega) g
  |stole c hb e a=>
   have A:i%W≠0:=fun j=>a (LP j f (by omega))
   cases l with
   |halt b=>exact .halt b
   |into b=>exact .into (by omega)
   |read b g=>exact .read (by omega) (by rw[<-hb];exact g)
   |quiet b o q _=>
    refine .quiet (by omega) (o.trans hb) (fun v a=>?_) fun j=>absurd j A
    rcases List.mem_cons.1 a with rfl|a
    ·exact e
    ·rw[<-hb];exact q v a
  |idle c e r=>
   subst c
   cases l with
   |halt b=>exact .halt b
   |into b=>exact .into b
   |read b g=>exact .read b g
   |quiet b o q u=>
    refine .quiet b o (fun v a=>?_) fun j=>⟨(u j).1,fun v a=>?_⟩
    ·rcases List.mem_cons.1 a with rfl|a
     ·exact e
     ·exact q v a
    ·rcases List.mem_cons.1 a with rfl|a
     ·exact r
     ·exact(u j).2 v a
def kD(W i:Nat):Nat:=(W-i%W)%W
def ot(p:Pg)(fuel:Int)(W i:Nat)(m:Mac):Nat:=eG p fuel W m+(if dT W m.box=0 then kD W i else 5)
theorem Es(l:dF p fuel=true)(c:0<W)(x:W<=6){i:Nat}(n:i<10000000000)(h:InvM p fuel W B m T)(d:el W m=false):
  el W (qw p fuel W B i m)=true∨ot p fuel W (i+1) (qw p fuel W B i m)+1<=ot p fuel W i m:=by
 have o:=Co l c n (by omega) (List.range W) (fun w a=>List.mem_range.1 a) h
 have f:∀j,kD W j<=5:=fun j=>by
  have:=mod_lt (W-j%W) c;unfold kD;omega
 unfold qw;generalize iq p fuel W B i (List.range W) m=z at *;unfold ot;have A:=f (i+1)
 cases o with
 |halt b=>exact .inl b
 |into b=>
  right
  split <;> split <;> omega
 |read b C=>
  right
  rw[if_neg (show ¬dT W m.box=0 by omega)]
  split <;> omega
 |quiet b q g r=>
  right
  have k:dT W m.box=0:=oQ.2 fun w a=>g w (List.mem_range.2 a)
  rw[q,if_pos k,if_pos k]
  have D:i%W≠0:=by
   intro s
   have t:lW W m=true:=uB.2 fun w a=>⟨g w (List.mem_range.2 a),(r s).2 w (List.mem_range.2 a)⟩
   unfold el at d;rw[t,Bool.or_true]at d
   cases d
  have y:=mod_lt i c
  have u:kD W i=W-i%W:=by
   unfold kD;exact mod_eq_of_lt (by omega)
  have E:kD W (i+1)+1=kD W i:=by
   rw[u];unfold kD
   by_cases e:i%W+1=W
   ·have:(i+1)%W=0:=by
     rw[add_mod]
     by_cases v:W=1
     ·subst v;exact Nat.mod_one _
     ·rw[mod_eq_of_lt (show 1<W by omega),e,Nat.mod_self]
    rw[this,Nat.sub_zero,Nat.mod_self];omega
   ·have:(i+1)%W=i%W+1:=by
     rw[add_mod,mod_eq_of_lt (show 1<W by omega),mod_eq_of_lt (by omega)]
    rw[this,mod_eq_of_lt (by omega)];omega
  omega
def fF(p:Pg)(fuel:Int)(W B:Nat):Nat->Nat->Mac->Mac
 |0,_,m=>m
 |n+1,i,m=>if el W m=true then m else fF p fuel W B n (i+1) (qw p fuel W B i m)
theorem D6(a:dF p fuel=true)(b:0<W)(n:Nat):∀{i:Nat} {m:Mac} {T:List Nd},InvM p fuel W B m T->∃c,InvM p fuel W B (fF p fuel W B n i m) c:=by
 induction n with
 |zero=>intro i m T h;exact⟨T,h⟩
 |succ n d=>
  intro i m T h;unfold fF
  split
  ·exact⟨T,h⟩
  ·obtain⟨f,e⟩:=r7 a b i (List.range W) h
   exact d e
theorem D'(d:dF p fuel=true)(e:0<W)(c:W<=6)(n:Nat):∀{i:Nat} {m:Mac} {T:List Nd},InvM p fuel W B m T->i+n<=10000000000->ot p fuel W i m<n->el W (fF p fuel W B n i m)=true:=by
 induction n with
 |zero=>intro i m T _ _ h;omega
 |succ n f=>
  intro i m T h j k;unfold fF
  by_cases a:el W m=true
  ·rw[if_pos a];exact a
  ·rw[if_neg a]
   obtain⟨l,g⟩:=r7 d e i (List.range W) h;rcases Es (i:=i) d e c (by omega) h (by simpa using a)with b|b
   ·cases n with
    |zero=>exact b
    |succ n=>
     unfold fF;rw[if_pos b];exact b
   ·exact f g (by omega) (by omega)
end
section
variable{p:Pg}{fuel:Int}{W w B:Nat}{m:Mac}{T:List Nd}
theorem InvM.wider(h:InvM p fuel W B m T){B':Nat}(hb:m.l.length<=B'):InvM p fuel W B' m T:=⟨h.tree,h.letr,h.work,h.marks,h.cl,h.keys,h.blk,hb⟩
theorem GH(c:dF p fuel=true)(h:InvM p fuel W B m T)(j:dM p fuel<=B)(b:m.over=false)(f:w<W){q:dl}{r:List df}(g:m.wk w=q::r):m.l.length≠B:=by
 intro e;obtain⟨k,d⟩:=zc c f (h.wider (B':=B+1) (by omega)) b g (by omega) 0;have n:=(d.any c).2.2;have o:=d.cl;have i:=tX (p:=p) (fuel:=fuel) (W:=W) (w:=w) q 0 { m with wk:=db m.wk w r };have s:=h.cl;dsimp only at i;omega
theorem qO(W w:Nat)(k:dl)(set:Nat)(m:Mac):(fT W w k set m).keys=m.keys/\(fT W w k set m).over=m.over/\(fT W w k set m).blk=m.blk:=by
 unfold fT ey
 split
 ·split <;> exact⟨rfl,rfl,rfl⟩
 ·exact⟨rfl,rfl,rfl⟩
theorem wY(k:dl)(l:List Nat):∀m:Mac,(l.foldl (fb p fuel W w k) m).keys=m.keys/\(l.foldl (fb p fuel W w k) m).over=m.over:=by
 induction l with
 |nil=>intro m;exact⟨rfl,rfl⟩
 |cons i l a=>
  intro m
  have h:(fb p fuel W w k m i).keys=m.keys/\(fb p fuel W w k m i).over=m.over:=by
   unfold fb
   split
   ·exact⟨(qO _ _ _ _ _).1,(qO _ _ _ _ _).2.1⟩
   ·exact⟨rfl,rfl⟩
  rw[List.foldl_cons];exact⟨(a _).1.trans h.1,(a _).2.trans h.2⟩
def rR(w:Nat)(a b:Nat->List dk):Prop:=b=a∨∃x,b=db a w (a w++[x])
theorem Ai(k:dl)(asl:Nat)(d:Int)(m:Mac):rR w m.keys (gu p fuel W w k asl d m).keys/\(gu p fuel W w k asl d m).over=m.over:=by
 unfold gu
 split
 ·exact⟨.inr ⟨_,rfl⟩,rfl⟩
 ·split
  ·exact⟨.inl rfl,rfl⟩
  ·exact⟨.inl (qO _ _ _ _ _).1,(qO _ _ _ _ _).2.1⟩
theorem y'(q:dl)(d:Int)(m:Mac):rR w m.keys (gD p fuel W w q d m).keys/\(gD p fuel W w q d m).over=m.over:=by
 unfold gD jr;dsimp only
 have h:∀b:Mac,b.keys=m.keys/\b.over=m.over->∀k a,rR w m.keys (gu p fuel W w k a d ((gS p fuel k).foldl (fb p fuel W w k) { b with l:=(d' p fuel b.l k a w).2 })).keys/\(gu p fuel W w k a d ((gS p fuel k).foldl (fb p fuel W w k) { b with l:=(d' p fuel b.l k a w).2 })).over=m.over:=by
  intro b c k a;obtain⟨e,f⟩:=Ai (p:=p) (fuel:=fuel) (W:=W) (w:=w) k a d ((gS p fuel k).foldl (fb p fuel W w k) { b with l:=(d' p fuel b.l k a w).2 });obtain⟨g,i⟩:=wY (p:=p) (fuel:=fuel) (W:=W) (w:=w) k (gS p fuel k) { b with l:=(d' p fuel b.l k a w).2 };rw[g]at e;rw[i]at f;rw[<-c.1];exact⟨e,f.trans c.2⟩
 refine h _ ?_ _ _
 split
 ·unfold ey
  split <;> exact⟨rfl,rfl⟩
 ·exact⟨rfl,rfl⟩
theorem wR(x:Ltr)(r:List Ltr)(m:Mac):(gd W w x r m).keys=m.keys/\(gd W w x r m).over=m.over/\(gd W w x r m).cl=m.cl/\(gd W w x r m).blk=m.blk:=by
 unfold gd ey
 split
 ·split <;> exact⟨rfl,rfl,rfl,rfl⟩
 ·exact⟨rfl,rfl,rfl,rfl⟩
theorem Db(h:InvM p fuel W B m T)(w:Nat)(d:Int):((ej p fuel W B w d m).1=0->(ej p fuel W B w d m).2=m)/\(ej p fuel W B w d m).2.cl=m.cl+(if (ej p fuel W B w d m).1=3 then 1 else 0) /\
  rR w m.keys (ej p fuel W B w d m).2.keys/\((ej p fuel W B w d m).1≠3->(ej p fuel W B w d m).2.keys=m.keys)/\((ej p fuel W B w d m).1=5↔(m.over=false/\(ej p fuel W B w d m).2.over=true))/\(el W m=true->(ej p fuel W B w d m).1=0)/\(ej p fuel W B w d m).1≠4:=by
 have c:=qj h w d;generalize ej p fuel W B w d m=x at c
 cases c with
 |halt b=>exact⟨fun _=>rfl,rfl,.inl rfl,fun _=>rfl,⟨(fun h=>by simp at h),fun h=>by have:=h.1.symm.trans h.2;cases this⟩,fun _=>rfl,by simp⟩
 |idle b=>exact⟨fun _=>rfl,rfl,.inl rfl,fun _=>rfl,⟨(fun h=>by simp at h),fun h=>by have:=h.1.symm.trans h.2;cases this⟩,fun _=>rfl,by simp⟩
 |nobody b=>exact⟨fun _=>rfl,rfl,.inl rfl,fun _=>rfl,⟨(fun h=>by simp at h),fun h=>by have:=h.1.symm.trans h.2;cases this⟩,fun _=>rfl,by simp⟩
 |read b f y r hb=>
  obtain⟨e,g,i,_⟩:=wR (W:=W) (w:=w) y r m;refine⟨(fun h=>by simp at h),i,.inl e,fun _=>e,⟨(fun h=>by simp at h),fun h=>?_⟩,(fun h=>by rw[b]at h;cases h),by simp⟩;have:=h.2;dsimp only at this;rw[g,h.1]at this
  cases this
 |stole b f hb c k l=>exact⟨(fun h=>by simp at h),rfl,.inl rfl,fun _=>rfl,⟨(fun h=>by simp at h),fun h=>by have:=h.1.symm.trans h.2;cases this⟩,(fun h=>by rw[b]at h;cases h),by simp⟩
 |over b f hb q r c j=>exact⟨(fun h=>by simp at h),rfl,.inl rfl,fun _=>rfl,⟨fun _=>⟨(px b).1,rfl⟩,fun _=>rfl⟩,(fun h=>by rw[b]at h;cases h),by simp⟩
 |into b f hb q r c j=>
  obtain⟨e,g⟩:=y' (p:=p) (fuel:=fuel) (W:=W) (w:=w) q d { m with wk:=db m.wk w r };refine⟨(fun h=>by simp at h),tX q d _,e,(fun h=>absurd rfl h),⟨(fun h=>by simp at h),fun h=>?_⟩,(fun h=>by rw[b]at h;cases h),by simp⟩;have:=h.2;dsimp only at this;rw[g]at this;have i:=h.1;rw[i]at this
  cases this
theorem vT(i:dF p fuel=true)(h:InvM p fuel W B m T)(j:dM p fuel<=B)(b:m.over=false)(w:Nat)(d:Int):(ej p fuel W B w d m).2.over=false:=by
 have k:=(Db h w d).2.2.2.2.1;have c:=qj h w d;generalize ej p fuel W B w d m=x at c k
 cases c with
 |over f e hb q r c g=>exact absurd g (GH i h j b e c)
 |halt=>exact b
 |idle=>exact b
 |nobody=>exact b
 |read f e y r hb=>exact(wR y r m).2.1.trans b
 |stole=>exact b
 |into f e hb q r c g=>exact(y' q d _).2.trans b
theorem Dh(a:dF p fuel=true)(b:0<W)(h:InvM p fuel W B m T)(w:Nat)(d:Int):el W (ej p fuel W B w d m).2=true∨eG p fuel W (ej p fuel W B w d m).2<=eG p fuel W m:=by
 by_cases c:w<W
 ·have:=vW a b h c d
  cases this with
  |halt h=>exact .inl h
  |into h=>exact .inr (by omega)
  |read h=>exact .inr (by omega)
  |stole h=>exact .inr (by omega)
  |idle h=>rw[h];exact .inr (le_refl _)
 ·unfold ej
  rw[if_pos (.inl (by omega))];exact .inr (le_refl _)
def gh(p:Pg)(fuel:Int)(W B:Nat)(l:List (Int × Int))(m:Mac):Mac:=l.foldl (fun m x=>if 0<=x.1 then (ej p fuel W B x.1.toNat x.2 m).2 else m) m
theorem I4(c:dF p fuel=true)(i:0<W)(l:List (Int × Int)):∀{m:Mac} {T:List Nd},InvM p fuel W B m T->(∃o,InvM p fuel W B (gh p fuel W B l m) o)/\(el W (gh p fuel W B l m)=true∨eG p fuel W (gh p fuel W B l m)<=eG p fuel W m)/\(dM p fuel<=B->m.over=false->(gh p fuel W B l m).over=false):=by
 induction l with
 |nil=>intro m T h;exact⟨⟨T,h⟩,.inr (le_refl _),fun _ h=>h⟩
 |cons x l j=>
  intro m T h;unfold gh;rw[List.foldl_cons]
  by_cases hx:0<=x.1
  ·rw[if_pos hx]
   obtain⟨t,q⟩:=nn c i h x.1.toNat x.2;obtain⟨r,a,s⟩:=j q;refine⟨r,?_,fun k d=>s k (vT c h k d _ _)⟩;rcases Dh c i h x.1.toNat x.2 with b|b
   ·left
    have f:∀(l:List (Int × Int)) (m:Mac),el W m=true->gh p fuel W B l m=m:=by
     intro l
     induction l with
     |nil=>intro m _;rfl
     |cons y l g=>
      intro m n;unfold gh;rw[List.foldl_cons,vU n]
      have e:(if 0<=y.1 then ((0:Nat),m).2 else m)=m:=by split <;> rfl
      rw[e];exact g m n
    have:=f l _ b;unfold gh at this;rw[this];exact b
   ·rcases a with a|a
    ·exact .inl a
    ·exact .inr (Nat.le_trans a b)
  ·rw[if_neg hx]
   exact j h
theorem Cm(c:dF p fuel=true)(d:0<W)(e:dM p fuel<=B)(i:Nat)(a:List Nat):∀{m:Mac} {T:List Nd},InvM p fuel W B m T->m.over=false->(iq p fuel W B i a m).over=false:=by
 unfold iq
 induction a with
 |nil=>intro m T _ h;exact h
 |cons w a f=>
  intro m T h b;obtain⟨j,g⟩:=nn c d h w ((i:Int)+w);exact f g (vT c h e b _ _)
theorem D5(b:dF p fuel=true)(c:0<W)(d:dM p fuel<=B)(n:Nat):∀{i:Nat} {m:Mac} {T:List Nd},InvM p fuel W B m T->m.over=false->(fF p fuel W B n i m).over=false:=by
 induction n with
 |zero=>intro i m T _ h;exact h
 |succ n e=>
  intro i m T h a;unfold fF
  split
  ·exact a
  ·obtain⟨g,f⟩:=r7 b c i (List.range W) h
   exact e f (Cm b c d i _ h a)
theorem ye(c:dF p fuel=true)(d:0<W)(e:1<=B):eG p fuel W (gM p fuel W)<=(p.threads.length*(p.threads.length*fuel.toNat)+6)*dM p fuel/\(gM p fuel W).over=false:=by
 obtain⟨T,h⟩:=tu (W:=W) c d e;have k:=h.cl
 have m:dT W (gM p fuel W).box<=p.threads.length*(p.threads.length*fuel.toNat):=by
  unfold gM jr;rw[Aj];refine Nat.le_trans (wX _ _ _) ?_;have f:dT W ic.box=0:=oQ.2 fun _ _=>rfl
  have g:=w0 c [];show dT W ic.box+_<=_;rw[f,Nat.zero_add];exact g
 have n:=(h.any c).2.2;refine⟨?_,?_⟩
 ·unfold eG
  generalize p.threads.length*(p.threads.length*fuel.toNat)=C at *;generalize (gM p fuel W).l.length=a at *;generalize dT W (gM p fuel W).box=b at *;generalize dM p fuel=P at *
  obtain⟨j,rfl⟩:∃j,P=j+1:=⟨P-1,by omega⟩
  have i:j+1-a<=j:=by omega
  have o:=Nat.mul_le_mul_left (C+6) i;rw[Nat.mul_succ];omega
 ·unfold gM jr
  rw[(Ai (p:=p) (fuel:=fuel) (W:=W) (w:=0) _ _ _ _).2,(wY (p:=p) (fuel:=fuel) (W:=W) (w:=0) _ _ _).2];rfl
theorem IC(a:dF p fuel=true)(b:0<W)(g:W<=6)(k:dM p fuel<=B)(o:1<=B)(l:List (Int × Int)){n:Nat}(w:(p.threads.length*(p.threads.length*fuel.toNat)+6)*dM p fuel+5<n)(v:n<=10000000000):
  ∃m T,m=fF p fuel W B n 0 (gh p fuel W B l (gM p fuel W))/\InvM p fuel W B m T/\el W m=true/\m.over=false/\dG (fJ W m.keys)=dG (eD (ek p fuel))/\(fJ W m.keys).length=(dG (eD (ek p fuel))).length/\m.cl+1=m.l.length/\m.l.length<=dM p fuel:=by
 obtain⟨T,h⟩:=tu (W:=W) a b o;obtain⟨x,j⟩:=ye (W:=W) a b o;obtain⟨⟨y,e⟩,c,f⟩:=I4 a b l h;have f:=f k j;obtain⟨t,d⟩:=D6 a b n (i:=0) e;have q:=D5 a b k n (i:=0) e f
 have r:el W (fF p fuel W B n 0 (gh p fuel W B l (gM p fuel W)))=true:=by
  rcases c with c|c
  ·have:fF p fuel W B n 0 (gh p fuel W B l (gM p fuel W))=gh p fuel W B l (gM p fuel W):=by
    cases n with
    |zero=>rfl
    |succ n=>unfold fF;rw[if_pos c]
   rw[this];exact c
  ·refine D' a b g n e (by omega) ?_
   have s:kD W 0<=5:=by
    have:=mod_lt (W-0%W) b;unfold kD;omega
   unfold ot
   split <;> omega
 obtain⟨s,u⟩:=d.exact a r q;exact⟨_,t,rfl,d,r,q,s,u,d.cl,(d.any a).2.2⟩
end
end
section
open Go.Proofs.Tryz Go.RowKit
def du(k:dk):List Value:=[.string ⟨k.toArray⟩]
theorem fP(k:dk):(du k).length=1:=rfl
theorem jo(k:dk):∀v∈du k,v.oneCell'=true:=by
 intro v a;simp[du]at a;subst a;rfl
theorem ju:(prog.info? 9).map (fun i=>(i.zero,i.size,i.bytes))=some (some (.string ByteArray.empty),1,16):=by kernel_rfl
theorem en.str{w:World}{a:Option Addr}{ks:List dk}(h:en w a 1 du ks){j:Nat}(c:j<ks.length):∃b o,a=some ⟨b,o,none⟩/\w.cell? ⟨b,o+j,none⟩=some (.string ⟨ks[j].toArray⟩):=by
 obtain⟨b,o,rfl,f⟩:=h.2 (by intro e;simp[e]at c);have d:=f j c 0 _ rfl;rw[Nat.mul_one,Nat.add_zero]at d;exact⟨b,o,rfl,d⟩
def fO(w:World)(B:Nat)(v:Value)(ks:List dk):Prop:=∃a b,v=.slice a ks.length b/\(ks.length<=1000000/\ks.length<=b)/\(ks≠[]->∃g o c,a=some ⟨g,o,none⟩/\B<=g/\w.heap[g]?=some (.cells c 9 (0,0))/\∀i (h:i<ks.length),c[o+i]?=some (.string ⟨ks[i].toArray⟩))
theorem fO.keep{w w':World}{B:Nat}{v:Value}{ks:List dk}(h:fO w B v ks)(i:∀(g:Nat) (c:Array Value),B<=g->w.heap[g]?=some (.cells c 9 (0,0))->w'.heap[g]?=w.heap[g]?):fO w' B v ks:=by
 obtain⟨a,b,e,j,k⟩:=h;refine⟨a,b,e,j,fun l=>?_⟩;obtain⟨g,o,c,m,d,f,n⟩:=k l;exact⟨g,o,c,m,d,(i g c d f).trans f,n⟩
theorem fO.onlyS{w w':World}{B:Nat}{v:Value}{ks:List dk}{R:Nat->Prop}(h:fO w B v ks)(o:OnlyS R w w')(b:∀x,B<=x->x<w.heap.size->¬R x):fO w' B v ks:=h.keep fun g c d e=>by
 have a:=(Array.getElem?_eq_some_iff.1 e).1;exact o.block g a (b g d a)
theorem fO.later{w w':World}{B:Nat}{v:Value}{ks:List dk}(h:fO w B v ks)(hb:Below w.heap.size w w'):fO w' B v ks:=h.keep fun g _ _ a=>hb.block g (Array.getElem?_eq_some_iff.1 a).1
theorem fO.lower{w:World}{B C:Nat}{v:Value}{ks:List dk}(h:fO w B v ks)(d:C<=B):fO w C v ks:=by
 obtain⟨a,b,e,f,i⟩:=h;exact⟨a,b,e,f,fun j=>by obtain⟨g,o,c,k,l,m,n⟩:=i j;exact⟨g,o,c,k,Nat.le_trans d l,m,n⟩⟩
theorem fO.form{w:World}{B:Nat}{v:Value}{ks:List dk}(h:fO w B v ks):∃a b,v=.slice a ks.length b/\en w a 1 du ks:=by
 obtain⟨a,b,e,q,f⟩:=h;refine⟨a,b,e,by unfold maxLen;omega,fun k=>?_⟩;obtain⟨g,o,c,l,r,m,n⟩:=f k;refine⟨g,o,l,fun i p j u d=>?_⟩;have s:j<1:=(List.getElem?_eq_some_iff.1 d).1;obtain rfl:j=0:=by omega
 simp[du]at d;subst d;rw[cell_of_row w g _ _ _ _ m,Nat.mul_one,Nat.add_zero];exact n i p
theorem tV{w:World}{B:Nat}{v:Value}{ks:List dk}(h:dc w B 9 1 du v ks)(j:ks.length<=1000000):fO w B v ks:=by
 obtain⟨o,⟨rfl,a⟩|⟨g,b,c,k,a,l,m,p,q,n⟩⟩:=h
 ·have e:ks=[]:=List.eq_nil_of_length_eq_zero a
  subst e;exact⟨none,0,rfl,by simp,fun h=>absurd rfl h⟩
 ·refine⟨_,b,k,⟨j,m⟩,fun _=>⟨g,0,c,rfl,a,l,fun i d=>?_⟩⟩
  have f:=ik fP ks i 0 d (by omega);rw[<-n,Nat.mul_one,Nat.mul_one,Nat.add_zero,List.getElem?_take_of_lt d]at f;rw[Nat.zero_add];simpa [du]using f
def fQ(p:Pg)(fuel:Int)(W Bud:Nat)(z d:Int)(m:Mac):Nat × Mac:=if 0<=z then ej p fuel W Bud z.toNat d m else (0,m)
def jb(W:Nat)(z:Int)(m:Mac):List dk:=if 0<=z/\z<W then m.keys z.toNat else []
structure GoodM(p:Pg)(fuel:Int)(W Bud:Nat)(m:Mac):Prop where
 good:dF p fuel=true
 small:dM p fuel<=600
 pos:0<W
 few:W<=64
 inv:∃T,InvM p fuel W Bud m T
theorem GoodM.step{p:Pg}{fuel:Int}{W Bud:Nat}{m:Mac}(h:GoodM p fuel W Bud m)(z d:Int):GoodM p fuel W Bud (fQ p fuel W Bud z d m).2:=by
 obtain⟨T,a⟩:=h.inv;unfold fQ
 split
 ·exact⟨h.good,h.small,h.pos,h.few,nn h.good h.pos a _ _⟩
 ·exact⟨h.good,h.small,h.pos,h.few,T,a⟩
structure MachI where
 MM:World->Nat->Nat->Pg->Int->Nat->Nat->(Nat->Prop)->Mac->Prop
 low:∀{w B b p fuel W Bud S m},MM w B b p fuel W Bud S m->B<=w.heap.size/\∀x,S x->B<=x/\x<w.heap.size
 only:∀{w w' B b p fuel W Bud S m} {R:Nat->Prop},MM w B b p fuel W Bud S m->OnlyS R w w'->(∀x,S x->¬R x)->MM w' B b p fuel W Bud S m
 new:∀(p:Pg) (a:Option Addr) (cap:Nat) (fuel:Int) (W Bud:Nat) (w:World),dI w a p.threads->(a=none->cap=0)->dF p fuel=true->1<=W->W<=64->1<=Bud->Bud<=1048576 ->
  Calls prog 14 #[.agg #[.int .i64 p.vars,.int .i64 p.mutexes,.slice a p.threads.length cap],.int .i64 fuel,.int .i64 (W:Int),.int .i64 (Bud:Int)] w fun r w'=>∃b S,r=.returned (.tuple #[.pointer (some ⟨b,0,none⟩),.int .i64 0])/\Below w.heap.size w w'/\MM w' w.heap.size b p fuel W Bud S (gM p fuel W)
 bad:∀(p:Pg) (a:Option Addr) (cap:Nat) (fuel z y:Int) (w:World),dI w a p.threads->(a=none->cap=0)->(dF p fuel=false∨z<1∨64<z∨y<1∨1048576<y) ->
  Calls prog 14 #[.agg #[.int .i64 p.vars,.int .i64 p.mutexes,.slice a p.threads.length cap],.int .i64 fuel,.int .i64 z,.int .i64 y] w fun r w'=>r=.returned (.tuple #[.pointer none,.int .i64 1])/\Below w.heap.size w w'
 step:∀{w B b p fuel W Bud S m} (z d:Int),MM w B b p fuel W Bud S m->GoodM p fuel W Bud m ->
  Calls prog 23 #[.pointer (some ⟨b,0,none⟩),.int .i64 z,.int .i64 d] w fun r w'=>r=.returned (.int .i64 ((fQ p fuel W Bud z d m).1:Nat))/\∃S',MM w' B b p fuel W Bud S' (fQ p fuel W Bud z d m).2/\OnlyS S w w'/\∀y,S' y->S y∨w.heap.size<=y
 halted:∀{w B b p fuel W Bud S m},MM w B b p fuel W Bud S m->Calls prog 18 #[.pointer (some ⟨b,0,none⟩)] w fun r w'=>r=.returned (.bool (el W m))/\∃i,w'=w.drewN i
 complete:∀{w B b p fuel W Bud S m},MM w B b p fuel W Bud S m->Calls prog 19 #[.pointer (some ⟨b,0,none⟩)] w fun r w'=>r=.returned (.bool (el W m && !m.over))/\∃i,w'=w.drewN i
 keys:∀{w B b p fuel W Bud S m} (z:Int),MM w B b p fuel W Bud S m->GoodM p fuel W Bud m->Calls prog 27 #[.pointer (some ⟨b,0,none⟩),.int .i64 z] w fun r w'=>∃v,r=.returned v/\fO w' w.heap.size v (jb W z m)/\Below w.heap.size w w'
 nodes:∀{w B b p fuel W Bud S m},MM w B b p fuel W Bud S m->Calls prog 21 #[.pointer (some ⟨b,0,none⟩)] w fun r w'=>r=.returned (.int .i64 (m.l.length:Nat))/\∃i,w'=w.drewN i
 claims:∀{w B b p fuel W Bud S m},MM w B b p fuel W Bud S m->Calls prog 22 #[.pointer (some ⟨b,0,none⟩)] w fun r w'=>r=.returned (.int .i64 (m.cl:Nat))/\∃i,w'=w.drewN i
 blocked:∀{w B b p fuel W Bud S m},MM w B b p fuel W Bud S m->Calls prog 28 #[.pointer (some ⟨b,0,none⟩)] w fun r w'=>r=.returned (.int .i64 (m.blk:Nat))/\∃i,w'=w.drewN i
 workers:∀{w B b p fuel W Bud S m},MM w B b p fuel W Bud S m->Calls prog 29 #[.pointer (some ⟨b,0,none⟩)] w fun r w'=>r=.returned (.int .i64 (W:Nat))/\∃i,w'=w.drewN i
 nilStep:∀(z d:Int) (w:World),Calls prog 23 #[.pointer none,.int .i64 z,.int .i64 d] w fun r w'=>r=.returned (.int .i64 0)/\∃i,w'=w.drewN i
 nilHalted:∀(w:World),Calls prog 18 #[.pointer none] w fun r w'=>r=.returned (.bool true)/\∃i,w'=w.drewN i
 nilComplete:∀(w:World),Calls prog 19 #[.pointer none] w fun r w'=>r=.returned (.bool false)/\∃i,w'=w.drewN i
 nilKeys:∀(z:Int) (w:World),Calls prog 27 #[.pointer none,.int .i64 z] w fun r w'=>∃a cap,r=.returned (.slice a 0 cap)/\∃i,w'=w.drewN i
 nilNodes:∀(w:World),Calls prog 21 #[.pointer none] w fun r w'=>r=.returned (.int .i64 0)/\∃i,w'=w.drewN i
 nilClaims:∀(w:World),Calls prog 22 #[.pointer none] w fun r w'=>r=.returned (.int .i64 0)/\∃i,w'=w.drewN i
 nilBlocked:∀(w:World),Calls prog 28 #[.pointer none] w fun r w'=>r=.returned (.int .i64 0)/\∃i,w'=w.drewN i
 nilWorkers:∀(w:World),Calls prog 29 #[.pointer none] w fun r w'=>r=.returned (.int .i64 0)/\∃i,w'=w.drewN i
end
end Go.Proofs.YtjfmmnhcddckaaaGreat
