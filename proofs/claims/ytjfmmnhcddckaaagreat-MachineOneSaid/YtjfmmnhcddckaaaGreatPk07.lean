import Derived.RangeFuncNested
import Derived.RangeFuncBound
import Derived.RangeFuncCalls
import Derived.RangeFuncLeaves
import Derived.RangeFuncBox
import Derived.Shelf.Abstract
import Derived.Shelf.RegionOpen
import Derived.OwnWalkIn
import Derived.TacticsInMore
import Derived.LoopNIn
import Derived.LoopIn
import Derived.Sort.QuietIn
import Derived.Lib.AppendStr
import Derived.Sort.KeysCollected
import Derived.Test.YtjfmmnhcddckaaaGreatPk06
set_option maxRecDepth 100000
set_option maxHeartbeats 4000000
namespace Go.Proofs.YtjfmmnhcddckaaaGreat
section
open Go.RowKit
theorem ei.one{w:World}{a:Option Addr}{l:List Ev}(h:ei w a l){k:Nat}(c:k<l.length):∃b o,a=some ⟨b,o,none⟩/\w.cell? ⟨b,o+k*4,none⟩=some (.int .i64 (dd l k).thread)/\w.cell? ⟨b,o+k*4+1,none⟩=some (.int .i64 (dd l k).kind) /\
  w.cell? ⟨b,o+k*4+2,none⟩=some (.int .i64 (dd l k).obj)/\w.cell? ⟨b,o+k*4+3,none⟩=some (.bool (dd l k).fail):=by
 obtain⟨b,o,rfl,d⟩:=h.2 (by intro e;simp[e]at c);refine⟨b,o,rfl,?_⟩;rw[gt c];exact d k c
end
section
open List (foldl_append foldl_cons getElem?_eq_none length_cons pairwise_cons)
open Nat (le_of_not_lt le_refl)
def dN(m:List (List Ev))(e:Ev):Nat:=top (fun i=>i+1) (fun i=>(m.getD i []).any fun x=>dj x e) m.length
def dO(e:Ev):List Ev->List Ev
 | []=>[e]
 |x::r=>if e.thread<x.thread then e::x::r else x::dO e r
def ez(m:List (List Ev))(n:Nat)(e:Ev):List (List Ev):=if n<m.length then m.set n (dO e (m.getD n []))else m++[[e]]
def eZ(m:List (List Ev))(e:Ev):List (List Ev):=ez m (dN m e) e
def dU(l:List Ev):List (List Ev):=l.foldl eZ []
theorem qQ(l:List Ev)(e:Ev):dU (l++[e])=eZ (dU l) e:=by unfold dU;rw[foldl_append];rfl
theorem lR(m:List (List Ev))(e:Ev):dN m e<=m.length:=nh fun _ a _=>a
theorem yH{m:List (List Ev)}{e:Ev}{i:Nat}(a:i<m.length)(h:∃x∈m.getD i [],dj x e=true):i<dN m e:=
 ni (f:=fun i=>i+1) (q:=fun i=>(m.getD i []).any fun x=>dj x e) a (List.any_eq_true.2 h)
theorem yF{m:List (List Ev)}{e:Ev}{i:Nat}(h:dN m e=i+1):∃x∈m.getD i [],dj x e=true:=by
 rcases sd (f:=fun i=>i+1) (q:=fun i=>(m.getD i []).any fun x=>dj x e) (n:=m.length)with a|⟨j,_,b,c⟩
 ·have d:dN m e=0:=a
  omega
 ·have d:dN m e=j+1:=c
  obtain rfl:i=j:=by omega
  exact List.any_eq_true.1 b
theorem tN{m:List (List Ev)}{e:Ev}{i:Nat}(c:dN m e<=i){x:Ev}(hx:x∈m.getD i []):dj x e=false:=by
 cases b:dj x e
 ·rfl
 ·exfalso
  by_cases a:i<m.length
  ·have:=yH a ⟨x,hx,b⟩
   omega
  ·simp[List.getD,getElem?_eq_none (le_of_not_lt a)]at hx
theorem vK{f:Nat->Nat}{q r:Nat->Bool}{n:Nat}(h:∀i,i<n->q i=r i):top f q n=top f r n:=by
 induction n with
 |zero=>rfl
 |succ n a=>rw[oz,oz,a (fun i b=>h i (by omega)),h n (by omega)]
theorem lQ{e x:Ev}{r:List Ev}:x∈dO e r↔x=e∨x∈r:=by
 induction r with
 |nil=>simp[dO]
 |cons y r a=>
  unfold dO
  split
  ·simp
  ·rw[List.mem_cons,a,List.mem_cons]
   constructor
   ·rintro (h|h|h) <;> simp[h]
   ·rintro (h|h|h) <;> simp[h]
theorem qX(e:Ev)(r:List Ev):(dO e r).length=r.length+1:=by
 induction r with
 |nil=>rfl
 |cons y r a=>
  unfold dO
  split
  ·rfl
  ·rw[length_cons,a,length_cons]
theorem J0(e:Ev)(r:List Ev):∃a b,r=a++b/\dO e r=a++e::b:=by
 induction r with
 |nil=>exact⟨[],[],rfl,rfl⟩
 |cons y r c=>
  unfold dO
  split
  ·exact⟨[],y::r,rfl,rfl⟩
  ·obtain⟨a,b,d,f⟩:=c
   exact⟨y::a,b,by rw[d];rfl,by rw[f];rfl⟩
theorem jL{e x:Ev}(r:List Ev)(h:e.thread<x.thread):dO e (x::r)=e::x::r:=by rw[dO,if_pos h]
theorem jd{e x:Ev}(r:List Ev)(h:¬e.thread<x.thread):dO e (x::r)=x::dO e r:=by rw[dO,if_neg h]
theorem zj{e f:Ev}(h:e.thread≠f.thread)(r:List Ev):dO e (dO f r)=dO f (dO e r):=by
 induction r with
 |nil=>
  rcases (by omega:e.thread<f.thread∨f.thread<e.thread)with c|c
  ·have:¬f.thread<e.thread:=by omega
   simp[dO,c,this]
  ·have:¬e.thread<f.thread:=by omega
   simp[dO,c,this]
 |cons x r d=>
  by_cases b:e.thread<x.thread
  ·by_cases a:f.thread<x.thread
   ·rw[jL r b,jL r a]
    rcases (by omega:e.thread<f.thread∨f.thread<e.thread)with c|c
    ·rw[jL _ c,jd _ (by omega),jL r a]
    ·rw[jd _ (by omega),jL r b,jL _ c]
   ·rw[jL r b,jd r a,jL _ b,jd _ (by omega),jd r a]
  ·by_cases a:f.thread<x.thread
   ·rw[jd r b,jL r a,jL _ a,jd _ (by omega),jd r b]
   ·rw[jd r b,jd r a,jd _ b,jd _ a,d]
theorem xn(m:List (List Ev))(n:Nat)(e:Ev):(ez m n e).length=if n<m.length then m.length else m.length+1:=by
 unfold ez
 split <;> simp
theorem yG{m:List (List Ev)}{n:Nat}{e f:Ev}(d:dj e f=false):dN (ez m n e) f=dN m f:=by
 unfold dN;rw[xn]
 by_cases h:n<m.length
 ·rw[if_pos h]
  refine vK fun i g=>?_
  have b:(ez m n e).getD i []=if i=n then dO e (m.getD n [])else m.getD i []:=by
   unfold ez;rw[if_pos h,gr _ _ _ _ _ h]
  rw[b]
  split
  ·rename_i c
   subst c;rw[Bool.eq_iff_iff,List.any_eq_true,List.any_eq_true]
   constructor
   ·rintro⟨x,hx,a⟩
    rcases lQ.1 hx with rfl|hx
    ·rw[d]at a;cases a
    ·exact⟨x,hx,a⟩
   ·rintro⟨x,hx,a⟩
    exact⟨x,lQ.2 (.inr hx),a⟩
  ·rfl
 ·rw[if_neg h,oz]
  have b:ez m n e=m++[[e]]:=by unfold ez;rw[if_neg h]
  rw[b,if_neg]
  ·refine vK fun i g=>?_
   simp[List.getD,List.getElem?_append_left g]
  ·simp[List.getD,d]
theorem FK{m:List (List Ev)}{n k:Nat}{e f:Ev}(j:n<=m.length)(l:k<=m.length)(h:e.thread≠f.thread):ez (ez m n e) k f=ez (ez m k f) n e:=by
 by_cases a:n<m.length
 ·by_cases b:k<m.length
  ·have d:ez m n e=m.set n (dO e (m.getD n [])):=by unfold ez;rw[if_pos a]
   have g:ez m k f=m.set k (dO f (m.getD k [])):=by unfold ez;rw[if_pos b]
   rw[d,g];unfold ez;rw[if_pos (by simpa using b),if_pos (by simpa using a),gr _ _ _ _ _ a,gr _ _ _ _ _ b]
   by_cases c:n=k
   ·subst c
    rw[if_pos rfl,if_pos rfl,List.set_set,List.set_set,zj h]
   ·rw[if_neg (fun e=>c e.symm),if_neg c,List.set_comm _ _ c]
  ·have d:ez m n e=m.set n (dO e (m.getD n [])):=by unfold ez;rw[if_pos a]
   have g:ez m k f=m++[[f]]:=by unfold ez;rw[if_neg b]
   rw[d,g];unfold ez;rw[if_neg (by simpa using b),if_pos (by simp;omega),List.set_append_left _ _ a];simp[List.getD,List.getElem?_append_left a]
 ·by_cases b:k<m.length
  ·have d:ez m n e=m++[[e]]:=by unfold ez;rw[if_neg a]
   have g:ez m k f=m.set k (dO f (m.getD k [])):=by unfold ez;rw[if_pos b]
   rw[d,g];unfold ez;rw[if_pos (by simp;omega),if_neg (by simpa using a),List.set_append_left _ _ b];simp[List.getD,List.getElem?_append_left b]
  ·obtain rfl:n=m.length:=by omega
   obtain rfl:k=m.length:=by omega
   have d:ez m m.length e=m++[[e]]:=by unfold ez;rw[if_neg a]
   have g:ez m m.length f=m++[[f]]:=by unfold ez;rw[if_neg a]
   rw[d,g];unfold ez;rw[if_pos (by simp),if_pos (by simp),List.set_append_right _ _ (le_refl _),List.set_append_right _ _ (le_refl _)];have i:=zj (Ne.symm h) [];simp only[dO]at i;simp[List.getD,dO,i]
theorem IQ:pZ dU:=by
 intro x y e f a;have b:dj f e=false:=by rw[lo];exact a
 have c:e.thread≠f.thread:=by
  intro h;rw[mK h]at a
  cases a
 unfold dU;rw[foldl_append,foldl_append,foldl_cons,foldl_cons,foldl_cons,foldl_cons]
 congr 1
 generalize x.foldl eZ []=m
 have d:eZ (eZ m e) f=ez (ez m (dN m e) e) (dN m f) f:=by
  show ez (eZ m e) (dN (eZ m e) f) f=_;have:dN (eZ m e) f=dN m f:=yG a;rw[this];rfl
 have g:eZ (eZ m f) e=ez (ez m (dN m f) f) (dN m e) e:=by
  show ez (eZ m f) (dN (eZ m f) e) e=_;have:dN (eZ m f) e=dN m e:=yG b;rw[this];rfl
 rw[d,g];exact FK (lR m e) (lR m f) c
theorem DL(m:List (List Ev))(e:Ev):eh (eZ m e).flatten (m.flatten++[e]):=by
 unfold eZ ez
 by_cases h:dN m e<m.length
 ·rw[if_pos h]
  have a:∀i,dN m e<=i->∀x∈m.getD i [],dj e x=false:=fun i k x hx=>by rw[lo];exact tN k hx
  generalize dN m e=n at *
  have q:m=m.take n++m.getD n []::m.drop (n+1):=by
   conv=>lhs;rw[<-List.take_append_drop n m,List.drop_eq_getElem_cons h]
   rw[dV _ h]
  have r:m.set n (dO e (m.getD n []))=m.take n++dO e (m.getD n [])::m.drop (n+1):=by
   rw[List.set_eq_take_append_cons_drop,if_pos h]
  obtain⟨l,g,p,k⟩:=J0 e (m.getD n [])
  have s:∀f∈g++(m.drop (n+1)).flatten,dj e f=false:=by
   intro f b;rcases List.mem_append.1 b with b|b
   ·exact a n (le_refl _) f (by rw[p];exact List.mem_append_right _ b)
   ·obtain⟨y,d,o⟩:=List.mem_flatten.1 b
    obtain⟨j,t,c⟩:=List.mem_iff_getElem.1 d;rw[List.length_drop]at t;rw[List.getElem_drop]at c;refine a (n+1+j) (by omega) f ?_;rw[dV _ (by omega),c];exact o
  have u:=sy e (g++(m.drop (n+1)).flatten) ((m.take n).flatten++l) s
  have v:(m.set n (dO e (m.getD n []))).flatten=(m.take n).flatten++l++e::(g++(m.drop (n+1)).flatten):=by
   rw[r,k];simp
  have w:m.flatten=(m.take n).flatten++l++(g++(m.drop (n+1)).flatten):=by
   conv=>lhs;rw[q]
   rw[List.flatten_append,List.flatten_cons,p];simp
  rw[v,w];exact u
 ·rw[if_neg h,List.flatten_append]
  exact eh.refl _
theorem sx(l:List Ev):eh (dU l).flatten l:=by
 have:∀n (l:List Ev),l.length=n->eh (dU l).flatten l:=by
  intro n
  induction n with
  |zero=>
   intro l c;obtain rfl:=List.eq_nil_of_length_eq_zero c;exact eh.refl _
  |succ n f=>
   intro l c;have b:l≠[]:=by rintro rfl;simp at c
   obtain⟨d,e,rfl⟩:∃d e,l=d++[e]:=⟨l.dropLast,l.getLast b,(List.dropLast_concat_getLast b).symm⟩
   rw[qQ];exact(DL _ e).trans ((wq _ _ e).2 (f d (by simpa using c)))
 exact this _ l rfl
theorem tL(a b:List Ev):dU a=dU b↔eh a b:=by
 constructor
 ·intro h
  have c:=sx a;rw[h]at c;exact c.symm.trans (sx b)
 ·intro h
  exact oE _ a b dU rfl h IQ
structure LvOk(m:List (List Ev)):Prop where
 full:∀i,i<m.length->m.getD i []≠[]
 apart:∀i,i<m.length->(m.getD i []).Pairwise fun a b=>dj a b=false
 rise:∀i,i<m.length->(m.getD i []).Pairwise fun a b=>a.thread<b.thread
 on:∀i,i+1<m.length->∀e∈m.getD (i+1) [],∃x∈m.getD i [],dj x e=true
theorem J2{R:Ev->Ev->Prop}{e:Ev}{r:List Ev}(h:r.Pairwise R)(h1:∀x∈r,R x e)(h2:∀x∈r,R e x):(dO e r).Pairwise R:=by
 induction r with
 |nil=>simp[dO]
 |cons y r a=>
  rw[pairwise_cons]at h;unfold dO
  split
  ·rw[pairwise_cons,pairwise_cons]
   exact⟨h2,h⟩
  ·rw[pairwise_cons]
   refine⟨fun x hx=>?_,a h.2 (fun x hx=>h1 x (by simp[hx])) (fun x hx=>h2 x (by simp[hx]))⟩;rcases lQ.1 hx with rfl|hx
   ·exact h1 y (by simp)
   ·exact h.1 x hx
theorem J1{e:Ev}{r:List Ev}(h:r.Pairwise fun a b=>a.thread<b.thread)(h1:∀x∈r,x.thread≠e.thread):(dO e r).Pairwise fun a b=>a.thread<b.thread:=by
 induction r with
 |nil=>simp[dO]
 |cons y r d=>
  have g:=h1 y (by simp);have f:=h;rw[pairwise_cons]at h;unfold dO
  split
  ·rename_i c
   rw[pairwise_cons];refine⟨fun x hx=>?_,f⟩;rcases List.mem_cons.1 hx with rfl|hx
   ·exact c
   ·have:=h.1 x hx
    omega
  ·rw[pairwise_cons]
   refine⟨fun x hx=>?_,d h.2 (fun x hx=>h1 x (by simp[hx]))⟩;rcases lQ.1 hx with rfl|hx
   ·omega
   ·exact h.1 x hx
theorem mU{m:List (List Ev)}{e:Ev}(i:Nat):(eZ m e).getD i []=if i=dN m e then dO e (m.getD i [])else m.getD i []:=by
 unfold eZ ez
 by_cases h:dN m e<m.length
 ·rw[if_pos h,gr _ _ _ _ _ h]
  split
  ·rename_i a;rw[a]
  ·rfl
 ·have d:dN m e=m.length:=by have:=lR m e;omega
  rw[if_neg h,d]
  by_cases a:i=m.length
  ·subst a
   rw[if_pos rfl];simp[List.getD,dO]
  ·rw[if_neg a]
   rcases Nat.lt_or_gt_of_ne a with c|b
   ·simp[List.getD,List.getElem?_append_left c]
   ·simp[List.getD,List.getElem?_append_right (Nat.le_of_lt b),getElem?_eq_none (Nat.le_of_lt b),show i-m.length≠0 by omega]
theorem Bk(m:List (List Ev))(e:Ev):(eZ m e).length=if dN m e<m.length then m.length else m.length+1:=xn m _ e
theorem J3(e:Ev)(r:List Ev):dO e r≠[]:=by
 intro h;have:=qX e r;rw[h]at this;simp at this
theorem LvOk.add{m:List (List Ev)}(h:LvOk m)(e:Ev):LvOk (eZ m e):=by
 have t:=lR m e;have n:=Bk m e
 have f:∀i,i<(eZ m e).length->i≠dN m e->i<m.length:=by
  intro i d a;rw[n]at d
  split at d <;> omega
 have b:∀x∈m.getD (dN m e) [],dj x e=false/\dj e x=false/\x.thread≠e.thread:=by
  intro x hx;have o:=tN (le_refl _) hx;refine⟨o,by rw[lo];exact o,fun q=>?_⟩;rw[mK q]at o
  cases o
 have j:∀(R:Ev->Ev->Prop),(∀i,i<m.length->(m.getD i []).Pairwise R)->(m.getD (dN m e) []).Pairwise R:=by
  intro R r
  by_cases p:dN m e<m.length
  ·exact r _ p
  ·have:m.getD (dN m e) []=[]:=by simp[List.getD,getElem?_eq_none (le_of_not_lt p)]
   rw[this];exact List.Pairwise.nil
 refine⟨fun i d=>?_,fun i d=>?_,fun i d=>?_,fun i d x hx=>?_⟩
 ·rw[mU]
  split
  ·exact J3 _ _
  ·rename_i a;exact h.full i (f i d a)
 ·rw[mU]
  split
  ·rename_i k
   subst k;exact J2 (j _ h.apart) (fun x hx=>(b x hx).1) (fun x hx=>(b x hx).2.1)
  ·rename_i a;exact h.apart i (f i d a)
 ·rw[mU]
  split
  ·rename_i k
   subst k;exact J1 (j _ h.rise) (fun x hx=>(b x hx).2.2)
  ·rename_i a;exact h.rise i (f i d a)
 ·have c:∀y∈m.getD i [],y∈(eZ m e).getD i []:=by
   intro y g;rw[mU]
   split
   ·exact lQ.2 (.inr g)
   ·exact g
  rw[mU]at hx
  split at hx
  ·rename_i k
   rcases lQ.1 hx with rfl|hx
   ·obtain⟨y,g,l⟩:=yF k.symm
    exact⟨y,c y g,l⟩
   ·have p:i+1<m.length:=by
     apply Classical.byContradiction;intro s;simp[List.getD,getElem?_eq_none (le_of_not_lt s)]at hx
    obtain⟨y,g,l⟩:=h.on i p x hx;exact⟨y,c y g,l⟩
  ·rename_i a
   obtain⟨y,g,l⟩:=h.on i (f _ d a) x hx;exact⟨y,c y g,l⟩
theorem yE(l:List Ev):LvOk (dU l):=by
 have:∀(y:List Ev) (m:List (List Ev)),LvOk m->LvOk (y.foldl eZ m):=by
  intro y
  induction y with
  |nil=>intro m h;exact h
  |cons e y b=>intro m h;exact b _ (h.add e)
 exact this l [] ⟨fun i a=>by simp at a,fun i a=>by simp at a,fun i a=>by simp at a,fun i a=>by simp at a⟩
theorem K2(m:List (List Ev))(e:Ev):(eZ m e).flatten.length=m.flatten.length+1:=by
 unfold eZ ez
 by_cases h:dN m e<m.length
 ·rw[if_pos h]
  generalize dN m e=n at *
  have a:m=m.take n++m.getD n []::m.drop (n+1):=by
   conv=>lhs;rw[<-List.take_append_drop n m,List.drop_eq_getElem_cons h]
   rw[dV _ h]
  rw[List.set_eq_take_append_cons_drop,if_pos h]
  conv=>rhs;rw[a]
  simp only[List.flatten_append,List.flatten_cons,List.length_append,qX];omega
 ·rw[if_neg h]
  simp
theorem tM(l:List Ev):(dU l).flatten.length=l.length:=by
 have:∀(y:List Ev) (m:List (List Ev)),(y.foldl eZ m).flatten.length=m.flatten.length+y.length:=by
  intro y
  induction y with
  |nil=>intro m;simp
  |cons e y a=>intro m;rw[foldl_cons,a,K2,length_cons];omega
 have h:=this l [];rw[List.flatten_nil,List.length_nil,Nat.zero_add]at h;exact h
theorem yp{l:List Ev}{e:Ev}(h:e∈(dU l).flatten):e∈l:=by
 have:∀(y:List Ev) (m:List (List Ev)),e∈(y.foldl eZ m).flatten->e∈m.flatten∨e∈y:=by
  intro y
  induction y with
  |nil=>intro m h;exact .inl h
  |cons f y k=>
   intro m h;rcases k _ h with h|h
   ·obtain⟨g,c,a⟩:=List.mem_flatten.1 h
    obtain⟨i,n,j⟩:=List.mem_iff_getElem.1 c;have d:(eZ m f).getD i []=g:=by rw[dV _ n,j]
    rw[mU]at d
    split at d
    ·rw[<-d]at a
     rcases lQ.1 a with rfl|a
     ·exact .inr (by simp)
     ·refine .inl (List.mem_flatten.2 ?_)
      by_cases b:i<m.length
      ·rw[dV _ b]at a
       exact⟨_,List.getElem_mem b,a⟩
      ·simp[List.getD,getElem?_eq_none (le_of_not_lt b)]at a
    ·rw[<-d]at a
     refine .inl (List.mem_flatten.2 ?_)
     by_cases b:i<m.length
     ·rw[dV _ b]at a
      exact⟨_,List.getElem_mem b,a⟩
     ·simp[List.getD,getElem?_eq_none (le_of_not_lt b)]at a
   ·exact .inr (by simp[h])
 rcases this l [] h with h|h
 ·simp at h
 ·exact h
end
section
open Go.Lib (hid)
open Go.Proofs.Tryz Go.RowKit
theorem ub{e:Ev}:∀(a:List Ev) (k:Nat),k<=a.length->(∀j (h:j<a.length),j<k->a[j].thread<e.thread)->(∀h:k<a.length,e.thread<a[k].thread)->dO e a=kE a k e
 | [],0,_,_,_=>rfl
 |x::r,0,_,_,h=>by
  have d:=h (by simp);rw[jL r (by simpa using d)];rfl
 |x::r,k+1,f,c,h=>by
  have g:=c 0 (by simp) (by omega);rw[jd r (by simp at g;omega),ub r k (by simpa using f) (fun j i l=>by have:=c (j+1) (by simpa using i) (by omega);simpa using this) (fun b=>by have:=h (by simpa using b);simpa using this)];rfl
def mf(B:Nat)(w:World)(v:Value)(c:List Ev)(r:Ending)(w':World):Prop:=
 ∃b,r=.returned b/\dr w' B b c/\Below B w w'/\w.grownBy w' v.ownBlock/\(∀g,b.ownBlock=some g->v.ownBlock=some g∨w.heap.size<=g)
theorem uk{w w':World}(h:Below w.heap.size w w')(row:Option Nat):w.grownBy w' row:=⟨h.os,h.tape,h.output,h.size,fun k a _=>h.block k a⟩
theorem mf.from{B:Nat}{w a w':World}{v:Value}{b:List Ev}{r:Ending}(h:mf B a v b r w')(hb:Below w.heap.size w a)(c:B<=w.heap.size):mf B w v b r w':=by
 obtain⟨d,e,f,i,j,k⟩:=h;exact⟨d,e,f,(hb.mono c).trans i,(uk hb _).trans j,fun g l=>(k g l).imp id (fun h=>Nat.le_trans hb.size h)⟩
theorem zd(B:Nat)(v:Value)(k:Nat)(b:List Ev)(e:Ev)(w:World)(h:k<=b.length)(i:b.length<=1000)(f:B<=w.heap.size)(a:dr w B v b):
  Calls prog 193 #[v,.int .i64 k,.slice (some ⟨w.heap.size,0,none⟩) 1 1] (w.alloc (.cells #[.int .i64 e.thread,.int .i64 e.kind,.int .i64 e.obj,.bool e.fail] 112)) (mf B w v (kE b k e)):=by
 have hb:=da w (.cells #[.int .i64 e.thread,.int .i64 e.kind,.int .i64 e.obj,.bool e.fail] 112);refine(JR B v k w.heap.size b e _ _ _ h i (Nat.le_trans f hb.size) (a.later hb) (heap_alloc_new w _) (fun j u l=>by simpa [eg]using l) (fun e=>by have:=(World.ownsRow.lt a _ e).2;omega)).mono ?_;rintro r s⟨m,n,o,p,q,c⟩;refine mf.from ⟨m,n,o,p,q,fun g d=>?_⟩ hb f;rcases c with c|c
 ·left;rw[<-c];exact d
 ·right;rw[c]at d;injection d with d;omega
theorem Jj(B:Nat)(v:Value)(c:List Ev)(e:Ev)(w:World)(u:B<=w.heap.size)(O:c.length<=1000)(f:dr w B v c)(p:∀x∈c,x.thread≠e.thread):
  Calls prog 168 #[v,.agg #[.int .i64 e.thread,.int .i64 e.kind,.int .i64 e.obj,.bool e.fail]] w (mf B w v (dO e c)):=by
 obtain⟨a,g,rfl,q⟩:=dr.form f (by omega);have P:=hid f;have S:=hid q;have T:=hid p;clear f q p;have s:=hid (eo.new w e);have l:=da w (.cells #[.int .i64 e.thread,.int .i64 e.kind,.int .i64 e.obj,.bool e.fail] 112);go_enter func168,ntmps168;go_wp2_with fail;generalize w.alloc (.cells #[.int .i64 e.thread,.int .i64 e.kind,.int .i64 e.obj,.bool e.fail] 112)=Q at *
 go_loopw [5] (fun i wr=>∃k:Nat,k<=c.length/\i=.int .i64 k/\Hid (∀j (h:j<c.length),j<k->c[j].thread<e.thread)/\Hid (Below Q.heap.size Q wr)) (fun i _=>c.length-(intOf i).toNat)
 case atStart=>exact⟨0,Nat.zero_le _,rfl,(fun j _ h=>absurd h (by omega)),Below.refl _ _⟩
 case round=>
  obtain⟨k,y,rfl,z,n⟩:=hrel
  by_cases L:k<c.length
  ·obtain⟨b,o,rfl,t0,t1,t2,t3⟩:=S.out.one L
   have d:=l.trans (n.out.mono l.size);have d0:=de d t0;obtain⟨U,V,X,Y⟩:=(s.out.later n.out).cells;have A:=hid d;clear t0 t1 t2 t3 d;have M:decide ((k:Int)<(c.length:Int))=true:=by simp;omega
   have aa:(k:Int)<(c.length:Int):=by omega
   have R:(0:Int)<=k:=by omega
   by_cases t:(dd c k).thread<e.thread
   ·have Z:decide ((dd c k).thread<e.thread)=true:=by simp;omega
    have N:Hid (∀j (h:j<c.length),j<k+1->c[j].thread<e.thread):=fun j h hj=>by
     by_cases e':j=k
     ·subst e'
      rw[<-gt h];exact t
     ·exact z.out j h (by omega)
    go_wp2_with fail
    go_quiet (fail)
    go_wp2
    go_roundw
    case rel=>exact⟨k+1,by omega,by go_num,N,n.out.drewN⟩
    case measure=>simp[intOf];omega
   ·have Z:decide ((dd c k).thread<e.thread)=false:=by simp;omega
    have C:Hid (dO e c=kE c k e):=ub c k y z.out (fun h=>by
     have h1:=T.out c[k] (List.getElem_mem h);rw[gt h]at t
     omega)
    have D:Hid (∀W,Below w.heap.size w W->Calls prog 193 #[.slice (some ⟨b,o,none⟩) c.length g,.int .i64 k,.slice (some ⟨W.heap.size,0,none⟩) 1 1] (W.alloc (.cells #[.int .i64 e.thread,.int .i64 e.kind,.int .i64 e.obj,.bool e.fail] 112)) (mf B w (.slice (some ⟨b,o,none⟩) c.length g) (dO e c))):=fun W m=>by
     rw[C.out];exact(zd B _ k c e W y O (Nat.le_trans u m.size) (P.out.later m)).mono fun r E h=>h.from m u
    go_wp2_with fail
    go_quiet (fail)
    go_wp2_with fail
    refine(D.out _ A.out.drewN).mono ?_;rintro r E⟨F,rfl,G,H,I,J⟩;go_wp2;go_ret;exact⟨F,rfl,G,H,I,J⟩
  ·obtain rfl:k=c.length:=by omega
   have d:=l.trans (n.out.mono l.size);obtain⟨U,V,X,Y⟩:=(s.out.later n.out).cells;have A:=hid d;have M:decide ((c.length:Int)<(c.length:Int))=false:=by simp
   have C:Hid (dO e c=kE c c.length e):=ub c c.length y z.out (fun h=>absurd h (by omega))
   have D:Hid (∀W,Below w.heap.size w W->Calls prog 193 #[.slice a c.length g,.int .i64 c.length,.slice (some ⟨W.heap.size,0,none⟩) 1 1] (W.alloc (.cells #[.int .i64 e.thread,.int .i64 e.kind,.int .i64 e.obj,.bool e.fail] 112)) (mf B w (.slice a c.length g) (dO e c))):=fun W m=>by
    rw[C.out];exact(zd B _ c.length c e W y O (Nat.le_trans u m.size) (P.out.later m)).mono fun r E h=>h.from m u
   clear d;go_wp2_with fail
   go_quiet (fail)
   go_wp2_with fail
   refine(D.out _ A.out.drewN).mono ?_;rintro r E⟨F,rfl,G,H,I,J⟩;go_wp2;go_ret;exact⟨F,rfl,G,H,I,J⟩
end
section
open Go.RowKit
structure Sl where
 a:Option Addr
 n:Nat
 c:Nat
instance:Inhabited Sl:=⟨⟨none,0,0⟩⟩
def gc(s:Sl):Value:=.slice s.a s.n s.c
def ia(s:Sl):List Value:=[.slice s.a s.n s.c]
theorem oD(s:Sl):(ia s).length=1:=rfl
theorem wn(s:Sl):∀v∈ia s,v.oneCell'=true:=by
 intro v a;simp[ia]at a;subst a;rfl
def iT(w:World)(a:Option Addr)(m:List (List Ev)):Prop:=
 ∃b:List Sl,b.length=m.length/\en w a 1 ia b/\∀i (h:i<b.length),b[i].n=(m.getD i []).length/\ei w b[i].a (m.getD i [])/\(b[i].a=none->b[i].c=0)/\b[i].n<=b[i].c
theorem iT.later{w w':World}{a:Option Addr}{m:List (List Ev)}(h:iT w a m)(hb:Below w.heap.size w w'):iT w' a m:=by
 obtain⟨d,e,f,b⟩:=h;exact⟨d,e,f.later hb,fun i c=>⟨(b i c).1,(b i c).2.1.later hb,(b i c).2.2⟩⟩
structure OwnLv(w:World)(B:Nat)(v:Value)(ss:List Sl)(m:List (List Ev)):Prop where
 len:ss.length=m.length
 outer:dc w B 95 1 ia v ss
 inner:∀i (h:i<ss.length),dr w B (gc ss[i]) (m.getD i [])
 apart:∀i j (hi:i<ss.length) (hj:j<ss.length),i≠j->(gc ss[i]).ownBlock=none∨(gc ss[i]).ownBlock≠(gc ss[j]).ownBlock
theorem OwnLv.later{w w':World}{B:Nat}{v:Value}{ss:List Sl}{m:List (List Ev)}(h:OwnLv w B v ss m)(hb:Below w.heap.size w w'):OwnLv w' B v ss m:=
 ⟨h.len,h.outer.later hb,fun i a=>(h.inner i a).later hb,h.apart⟩
theorem oS(w:World)(B:Nat):OwnLv w B (.slice none 0 0) [] []:=⟨rfl,iF _ _ _ _ _,fun i a=>absurd a (by simp),fun i _ a=>absurd a (by simp)⟩
theorem dr.sl{w:World}{B:Nat}{s:Sl}{f:List Ev}(h:dr w B (gc s) f)(k:f.length<=1000000):s.n=f.length/\ei w s.a f/\(s.a=none->s.c=0)/\s.n<=s.c:=by
 have j:=h;obtain⟨a,o,e,l⟩:=dr.form h k;unfold gc at e;injection e with e1 e2 e3;refine⟨e2,by rw[e1];exact l,fun m=>?_,?_⟩
 ·obtain⟨_,⟨b,_⟩|⟨g,d,i,b,_⟩⟩:=j
  ·unfold gc at b
   injection b
  ·unfold gc at b
   injection b with b;rw[m]at b
   cases b
 ·obtain⟨_,⟨b,_⟩|⟨g,d,i,b,_,_,p,_⟩⟩:=j
  ·unfold gc at b
   injection b with _ h3 h4;omega
  ·unfold gc at b
   injection b with _ h3 h4;omega
theorem OwnLv.form{w:World}{B:Nat}{v:Value}{ss:List Sl}{m:List (List Ev)}(h:OwnLv w B v ss m)(j:m.length<=1000)(e:∀i,i<m.length->(m.getD i []).length<=1000):
  ∃a b,v=.slice a m.length b/\iT w a m/\(a=none->b=0):=by
 obtain⟨a,b,d,f,g⟩:=dc.form h.outer oD (by rw[h.len];omega);rw[h.len]at d;refine⟨a,b,d,⟨ss,h.len,f,fun i c=>?_⟩,g⟩;exact dr.sl (h.inner i c) (by have:=e i (by rw[<-h.len];exact c);omega)
end
section
open Go.Proofs.Tryz Go.RowKit
theorem ei.cellAt{w:World}{b o:Nat}{a:List Ev}(h:ei w (some ⟨b,o,none⟩) a)(j:Nat)(u:Value)(g:(dy a)[j]?=some u):w.cell? (Addr.add ⟨b,o,none⟩ j)=some u:=by
 have f:j<a.length*4:=by
  have:=(List.getElem?_eq_some_iff.1 g).1;rw[iy]at this;exact this
 obtain⟨r,s,e,k⟩:=h.2 (by rintro rfl;simp at f);injection e with e;injection e with e1 e2;subst e1 e2;have i:j/4<a.length:=by omega
 have c:=pF a (j/4) (j%4) i (by omega);rw[show j/4*4+j%4=j by omega,g]at c
 have l:Addr.add ⟨b,o,none⟩ j=⟨b,o+j,none⟩:=by unfold Addr.add;split <;> simp_all
 rw[l];obtain⟨m,n,p,q⟩:=k (j/4) i
 rcases (by omega:j%4=0∨j%4=1∨j%4=2∨j%4=3)with d|d|d|d <;> rw[d]at c <;> simp[eg]at c <;> subst c
 ·rw[<-m];congr 2;omega
 ·rw[<-n];congr 2;omega
 ·rw[<-p];congr 2;omega
 ·rw[<-q];congr 2;omega
theorem BG{w:World}{o:Oper}{a:Act}{K:Act->World->Prop}{Q:Exit->Act->World->Prop}(s x:Operand)
  (C:o.op=.call { callee:=.builtin .append,args:=#[s,x],argTypes:=#[95,95] }) (B:Nat) (v:Value) (f:List Ev) (D:a.eval s=v) (c:dr w B v f)
  (z:Option Addr) (d:Nat) (row:List Ev) (hx:a.eval x=.slice z row.length d) (g:ei w z row) (I:z=none->d=0/\row=[])
  (L:f.length+row.length<=1000000) (A:B<=w.heap.size)
  (h:∀n l,dr l B n (f++row)->Below B w l->K (a.put o.dst n) l):Oper.wp prog o a w K Q:=by
 have m:(prog.info? 112).map (fun i=>(i.zero,i.size,i.bytes))=some (some (.agg #[.int .i64 0,.int .i64 0,.int .i64 0,.bool false]),4,32):=by kernel_rfl
 obtain⟨i,E,p⟩:=Option.map_eq_some_iff.1 m;simp only[Prod.mk.injEq]at p;obtain⟨J,q,r⟩:=p
 cases z with
 |none=>
  obtain⟨rfl,rfl⟩:=I rfl;have y:=run_append_owned_none (P:=prog) (w:=w) B 95 o.type 112 i 4 underlying95 E v f.length (dy f) c;have hK:=h v w (by rw[List.append_nil];exact c) (Below.refl _ _);unfold Oper.wp;simp[execOp,C,resolve,invoke,builtin,D,hx,y,Result.andThen];exact hK
 |some M=>
  by_cases t:row=[]
  ·subst t
   refine wp_append_own w s x 95 C B 112 i (.agg #[.int .i64 0,.int .i64 0,.int .i64 0,.bool false]) 4 32 underlying95 E J q r rfl (by decide) v f.length (dy f) D c M 0 d [] hx (by simp) (by simp) (by simp) (by unfold maxLen;omega) (by omega) A ?_;intro n l F G _;refine h n l ?_ ((Below.refl B w).grown G A (fun k H=>(World.ownsRow.lt c k H).1));unfold dr;simpa using F
  ·obtain⟨b,N,e,R⟩:=g.2 t
   injection e with e;subst e
   refine wp_append_own w s x 95 C B 112 i (.agg #[.int .i64 0,.int .i64 0,.int .i64 0,.bool false]) 4 32 underlying95 E J q r rfl (by decide) v f.length (dy f) D c ⟨b,N,none⟩ row.length d (dy row) hx (by rw[iy]) (fun j u O=>g.cellAt j u O)
    (pE _) (by unfold maxLen;omega) (by omega) A ?_
   intro n l F G _;refine h n l ?_ ((Below.refl B w).grown G A (fun k H=>(World.ownsRow.lt c k H).1));unfold dr;rw[List.length_append,lm];exact F
theorem BK{w:World}{d:Array Oper}{rest:List Oper}{o:Oper}{a:Act}{Q:Exit->Act->World->Prop}(l:o.guard=none)(s x:Operand)
  (n:o.op=.call { callee:=.builtin .append,args:=#[s,x],argTypes:=#[95,95] }) (B:Nat) (v:Value) (i:List Ev) (p:a.eval s=v) (e:dr w B v i)
  (j:Option Addr) (b:Nat) (row:List Ev) (hx:a.eval x=.slice j row.length b) (f:ei w j row) (m:j=none->b=0/\row=[])
  (g:i.length+row.length<=1000000) (q:B<=w.heap.size)
  (h:∀k c,dr c B k (i++row)->Below B w c->wpList prog d Q rest (a.put o.dst k) c):wpList prog d Q (o::rest) a w:=
 wpList_plain l fun _ hK=>BG s x n B v i p e j b row hx f m g q fun k c r t=>hK _ _ (h k c r t)
theorem xO(w W:World)(h:W.heap=(w.alloc (.cells #[] 112)).heap):dr W w.heap.size (.slice (some ⟨w.heap.size,0,none⟩) 0 0) []:=by
 have e:(w.alloc (.cells #[] 112)).ownsRow w.heap.size 112 4 (.slice (some ⟨w.heap.size,0,none⟩) 0 0) 0 []:=World.ownsRow_made w #[] 0 (Nat.le_refl _) (by simp[maxLen]) rfl;obtain⟨d,a|⟨g,b,c,a,f,i,j⟩⟩:=e
 ·exact⟨d,.inl a⟩
 ·exact⟨d,.inr ⟨g,b,c,a,f,by rw[h];exact i,j⟩⟩
end
section
open Go.RowKit
theorem iT.one{w:World}{a:Option Addr}{m:List (List Ev)}(h:iT w a m){k:Nat}(s:k<m.length):
  ∃b o d g,a=some ⟨b,o,none⟩/\w.cell? ⟨b,o+k,none⟩=some (.slice d (m.getD k []).length g)/\ei w d (m.getD k [])/\(d=none->g=0):=by
 obtain⟨i,t,j,l⟩:=h;have c:k<i.length:=by omega
 obtain⟨b,o,rfl,n⟩:=j.2 (by intro e;simp[e]at c);have f:=n k c 0 _ rfl;rw[Nat.mul_one,Nat.add_zero]at f;obtain⟨p,q,r,_⟩:=l k c;rw[p]at f;exact⟨b,o,_,_,rfl,f,q,r⟩
theorem Lr{w:World}{l:List Ev}(h:ei w none l):l=[]:=by
 apply Classical.byContradiction;intro a;obtain⟨b,o,e,_⟩:=h.2 a
 cases e
theorem K3(m:List (List Ev)){k:Nat}(a:k<m.length):(m.take (k+1)).flatten=(m.take k).flatten++m.getD k []:=by
 rw[List.take_add_one,List.getElem?_eq_getElem a,List.flatten_append,dV _ a];simp
theorem zS(m:List (List Ev))(k:Nat):(m.take k).flatten.length<=m.flatten.length:=by
 conv=>rhs;rw[<-List.take_append_drop k m]
 rw[List.flatten_append,List.length_append];omega
theorem te{w:World}{B B':Nat}{t:TypeId}{n m:Nat}{v:Value}{xs:List Value}(h:w.ownsRow B t n v m xs)(e:B'<=B):w.ownsRow B' t n v m xs:=by
 obtain⟨d,a|⟨g,b,c,a,f,i⟩⟩:=h
 ·exact⟨d,.inl a⟩
 ·exact⟨d,.inr ⟨g,b,c,a,Nat.le_trans e f,i⟩⟩
def vb(w:World)(l:List Ev)(r:Ending)(w':World):Prop:=∃v,r=.returned v/\dr w' w.heap.size v l/\Below w.heap.size w w'

end
section
open Go.Lib (hid)
open Go.Proofs.Tryz Go.RowKit
theorem Ns(x e:Ev)(g:Nat)(w:World)(hb:eo w g e):
  Calls prog 192 #[.agg #[.int .i64 x.thread,.int .i64 x.kind,.int .i64 x.obj,.bool x.fail],.pointer (some ⟨g,0,none⟩)] w fun r c=>r=.returned (.bool (dj x e))/\Below w.heap.size w c:=by
 have a:=da w (.cells #[.int .i64 x.thread,.int .i64 x.kind,.int .i64 x.obj,.bool x.fail] 112);obtain⟨f,h,i,j⟩:=(hb.later a).cells;obtain⟨d0,d1,d2,d3⟩:=(eo.new w x).cells;clear hb;go_enter func192,ntmps192;go_wp2_with fail;refine(ry x e _).mono ?_;rintro r c⟨rfl,b⟩;have d:=a.trans (b.mono a.size);go_wp2;go_ret;exact⟨rfl,d⟩
def NC(a:List Ev)(e:Ev)(w:World)(r:Ending)(w':World):Prop:=∃z:Int,r=.returned (.int .i64 z)/\decide (0<=z)=a.any (fun x=>dj x e)/\Below w.heap.size w w'
theorem Ke(a:Option Addr)(cap:Nat)(d:List Ev)(e:Ev)(g:Nat)(w:World)(p:ei w a d)(hb:eo w g e):
  Calls prog 215 #[.slice a d.length cap,.func (.func 192) #[] #[.pointer (some ⟨g,0,none⟩)]] w (NC d e w):=by
 have D:=p.1;unfold maxLen at D;have E:=hid p;have F:=hid hb;clear p hb;go_enter func215,ntmps215;go_wp2
 go_loopw [8] (fun i wr=>∃k:Nat,k<=d.length/\i=.int .i64 k/\Hid (∀j (h:j<d.length),j<k->dj d[j] e=false)/\Below w.heap.size w wr) (fun i _=>d.length-(intOf i).toNat)
 case atStart=>exact⟨0,Nat.zero_le _,rfl,(fun j _ h=>absurd h (by omega)),Below.refl _ _⟩
 case round=>
  obtain⟨k,J,rfl,u,c⟩:=hrel
  by_cases f:k<d.length
  ·obtain⟨b,o,rfl,v⟩:=E.out.2 (by intro e;simp[e]at f)
   obtain⟨y,z,A,B⟩:=v k f;have d0:=de c y;have d1:=de c z;have d2:=de c A;have d3:=de c B;have G:=hid (F.out.later c);have q:Hid (dj d[k] e=true->d.any (fun x=>dj x e)=true):=fun h=>List.any_eq_true.2 ⟨_,List.getElem_mem f,h⟩
   have s:Hid (dj d[k] e=false->∀j (h:j<d.length),j<k+1->dj d[j] e=false):=fun h j t I=>by
    by_cases H:j=k
    ·subst H;exact h
    ·exact u.out j t (by omega)
   clear v y z A B;generalize d[k]=x at *;go_wp2_with fail;refine(Ns x e g _ G.out).mono ?_;rintro r L⟨rfl,m⟩;have n:=c.trans (m.mono c.size);clear m
   cases C:dj x e
   ·have l:=hid (s.out C)
    clear q s;go_wp2
    go_roundw
    case rel=>exact⟨k+1,by omega,by go_num,l,n⟩
    case measure=>simp[intOf];omega
   ·have l:=hid (q.out C)
    clear q s;go_wp2;go_ret;exact⟨k,rfl,by rw[l.out];simp,n⟩
  ·have l:Hid (d.any (fun x=>dj x e)=false):=by
    show _=_;rw[List.any_eq_false];intro x hx;obtain⟨j,t,rfl⟩:=List.mem_iff_getElem.1 hx;rw[u.out j t (by omega)];simp
   obtain rfl:k=d.length:=by omega
   go_wp2;go_ret;exact⟨-1,rfl,by rw[l.out];simp,c⟩
theorem L9(a:Option Addr)(cap:Nat)(b:List Ev)(e:Ev)(g:Nat)(w:World)(d:ei w a b)(hb:eo w g e):
  Calls prog 191 #[.slice a b.length cap,.func (.func 192) #[] #[.pointer (some ⟨g,0,none⟩)]] w fun r f=>r=.returned (.bool (b.any fun x=>dj x e))/\Below w.heap.size w f:=by
 have H:=hid (Ke a cap b e g w d hb);clear d hb;go_enter func191,ntmps191;go_wp2_with fail;refine H.out.mono ?_;rintro r f⟨z,rfl,h,c⟩;have i:=hid h;clear h;go_wp2;go_ret;exact⟨dE i.out,c⟩
end
section
open Go.RowKit Go.Shelf
def jT{T:Type}(f:Nat->T)(k:Nat):List T:=(List.range k).map f
theorem rY{T:Type}(f:Nat->T)(k:Nat):jT f (k+1)=jT f k++[f k]:=by simp[jT,List.range_succ]
theorem Ce{T:Type}(f:Nat->T)(k:Nat):(jT f k).length=k:=by simp[jT]
def fD(n k:Nat)(a:List (Fin n)):Prop:=a.map (fun q=>q.val)=jT (fun k=>n-1-k) k
theorem A7(n:Nat):fD n 0 []:=rfl
theorem fD.len{n k:Nat}{a:List (Fin n)}(h:fD n k a):a.length=k:=by
 have:=congrArg List.length h;simpa [Ce]using this
theorem fD.snoc{n k:Nat}{a:List (Fin n)}(h:fD n k a){q:Fin n}(b:q.val=n-1-k):fD n (k+1) (a++[q]):=by
 unfold fD at *;rw[List.map_append,h,rY];simp[b]
theorem fD.mem{n k:Nat}{a:List (Fin n)}(h:fD n k a){j:Nat}(f:n-k<=j)(b:j<n)(g:k<=n):(⟨j,b⟩:Fin n)∈a:=by
 have c:j∈a.map (fun q=>q.val):=by
  unfold fD at h;rw[h];unfold jT;rw[List.mem_map];exact⟨n-1-j,by rw[List.mem_range];omega,by omega⟩
 obtain⟨q,d,e⟩:=List.mem_map.1 c;have:q=⟨j,b⟩:=Fin.ext e;rw[<-this];exact d
theorem dm.keptRow{w w':World}{g:Nat}{t:TypeId}{xs:List Value}{row:Option Nat}(h:dm w g t xs)(b:w.grownBy w' row)(c:∀r,row=some r->∃o:Obj,w.heap[r]?=some o/\o.isCells=false):dm w' g t xs:=by
 refine(b.block g h.lt fun e=>?_).trans h;obtain⟨o,a,d⟩:=c g e.symm;unfold dm at h;rw[h]at a
 cases a
 cases d
end
section
open Go.Lib (hid)
open Go.Proofs.Tryz Go.RowKit Go.Shelf
open List (cons_append length_cons length_nil nil_append push_toArray size_toArray)
attribute [local go_sem] Oper.semAt_some
def rJ(b:List Sl)(q:Fin b.length):Array Value:=#[.int .i64 (q.val:Int),.slice b[q.val].a b[q.val].n b[q.val].c]
theorem M7(F:Fence)(n:Nat)(Q:F.fn 214)(D:F.round=none)(Y:1<=n)(l Bs n₀:Nat)(a:Option Addr)(cap:Nat)(f:List Sl)(A:f.length<=1000)(E:Bs<n₀)
  (J M:List (Fin f.length)->World->Prop)
  (R:∀d x W,J d W->d.length<f.length->YieldAt F (n-1) prog l (rJ f x) W fun e r=>(e=.returned (.bool true)/\J (d++[x]) r/\Below n₀ W r)∨(e=.returned (.bool false)/\M (d++[x]) r))
  (W:World) (G:W.cell? ⟨Bs,0,none⟩=some (.slice a f.length cap)) (w:en W a 1 ia f) (hb:0<f.length->∀b o,a=some ⟨b,o,none⟩->b<n₀) (S:J [] W):
  CallsIn F n prog 214 #[.func (.yield l) #[] #[],.pointer (some ⟨Bs,0,none⟩)] W fun e r=>(∃v,e=.returned v) /\
   ((∃N,fD f.length f.length N/\J N r)∨(∃d,(∃k,k<=f.length/\fD f.length k d)/\M d r)):=by
 refine callsIn_of_wp func214 rfl Q ?_ D;simp only[ntmps214,size_toArray,length_cons,length_nil,Nat.reduceAdd,Nat.reduceSub,Array.replicate_succ,Array.replicate_zero,push_toArray,List.append_toArray,nil_append,cons_append]
 gi_wp2
 gi_loopw [3] (fun i wr=>∃(k:Nat) (z:Int) (d:List (Fin f.length)),k<=f.length/\i=.int .i64 z/\Hid (z=(f.length:Int)-1-k)/\Hid (fD f.length k d)/\J d wr/\Below n₀ W wr) (fun i _=>(intOf i+1).toNat)
 case atStart=>exact⟨0,_,[],Nat.zero_le _,rfl,(by show _=_;omega),A7 _,S,Below.refl _ _⟩
 case round=>
  obtain⟨k,z,d,Z,rfl,O,B,s,j⟩:=hrel;have X:=(j.cell (p:=⟨Bs,0,none⟩) E).trans G
  by_cases t:k<f.length
  ·obtain⟨b,o,rfl,g⟩:=w.2 (by intro e;simp[e]at t)
   have H:=hb (by omega) b o rfl
   obtain⟨q,C⟩:∃q:Nat,q=f.length-1-k:=⟨_,rfl⟩
   obtain rfl:z=(q:Int):=by have:=O.out;omega
   have m:q<f.length:=by omega
   have c0:wr.cell? ⟨b,o+q,none⟩=some (.slice f[q].a f[q].n f[q].c):=by
    have h:=(j.cell (p:=⟨b,o+q*1+0,none⟩) H).trans (g q m 0 _ rfl);rw[Nat.mul_one,Nat.add_zero]at h;exact h
   obtain⟨fn,P,assign,body,T,U⟩:=R d ⟨q,m⟩ wr s (by rw[B.out.len];exact t);dsimp only[rJ]at T;have V:=hid C;have u:Hid (fD f.length (k+1) (d++[⟨q,m⟩])):=B.out.snoc C;clear g C
   gi_wp2
   refine U.mono ?_;rintro e W3 (⟨rfl,I,L⟩|⟨rfl,y⟩)
   ·gi_wp2
    go_roundw
    case rel=>exact⟨k+1,(q:Int)-1,_,by omega,by go_num,(by show _=_;have:=V.out;omega),u,I,j.trans L⟩
    case measure=>simp[intOf]
   ·gi_wp2
    refine bodyPost_ret (results_none rfl _ _ _) rfl ?_;exact⟨⟨_,rfl⟩,.inr ⟨_,⟨k+1,by omega,u.out⟩,y⟩⟩
  ·obtain rfl:k=f.length:=by omega
   obtain rfl:z=-1:=by have:=O.out;omega
   gi_wp2
   go_end0
   exact⟨⟨_,rfl⟩,.inl ⟨_,B.out,s⟩⟩
theorem M6(F:Fence)(n:Nat)(d:F.fn 190)(c:F.round=none)(a:Option Addr)(b cap:Nat)(w:World):
  CallsIn F n prog 190 #[.slice a b cap] w fun e f=>e=.returned (.func (.func 214) #[] #[.pointer (some ⟨w.heap.size,0,none⟩)])/\f=w.alloc (.cells #[.slice a b cap] 178):=by
 refine callsIn_of_wp func190 rfl d ?_ c;simp only[ntmps190,size_toArray,length_cons,length_nil,Nat.reduceAdd,Nat.reduceSub,Array.replicate_succ,Array.replicate_zero,push_toArray,List.append_toArray,nil_append,cons_append]
 gi_wp2
 go_ret;exact⟨rfl,rfl⟩
theorem M5(F:Fence)(n:Nat)(m:F.fn 214)(f:F.round=none)(q:1<=n)(Bs n₀:Nat)(a:Option Addr)(cap:Nat)(c:List Sl)(d:c.length<=1000)(w:World)(g:Bs<n₀)(hn₀:n₀<=w.heap.size)
  (r:w.cell? ⟨Bs,0,none⟩=some (.slice a c.length cap)) (e:en w a 1 ia c) (hb:0<c.length->∀b o,a=some ⟨b,o,none⟩->b<n₀):
  SeqStopsK F n prog 214 #[.pointer (some ⟨Bs,0,none⟩)] (rJ c) (Below n₀) (fun s=>fD c.length c.length s) (fun h=>∃k,k<=c.length/\fD c.length k h) c.length w:=fun l J t W j _ _ u v=>by
 have i:=(j.cell (p:=⟨Bs,0,none⟩) (show Bs<w.heap.size by omega)).trans r;exact M7 F n m f q l Bs n₀ a cap c d g J t u W i (e.later j) hb v
attribute [local go_sem] Oper.semAt_some
def li(m:List (List Ev))(e:Ev)(i:Nat):Bool:=(m.getD i []).any fun x=>dj x e
theorem IT{m:List (List Ev)}{e:Ev}{q:Nat}(d:q<m.length)(h:li m e q=true)(h2:∀j,q<j->j<m.length->li m e j=false):dN m e=q+1:=by
 have l:q<dN m e:=ni (f:=fun i=>i+1) (q:=fun i=>(m.getD i []).any fun x=>dj x e) d h;rcases sd (f:=fun i=>i+1) (q:=fun i=>(m.getD i []).any fun x=>dj x e) (n:=m.length)with g|⟨j,k,a,b⟩
 ·have:dN m e=0:=g
  omega
 ·have o:dN m e=j+1:=b
  by_cases p:j=q
  ·omega
  ·have c:=h2 j (by omega) k
   unfold li at c;rw[c]at a
   cases a
theorem IS{m:List (List Ev)}{e:Ev}(h:∀j,j<m.length->li m e j=false):dN m e=0:=by
 rcases sd (f:=fun i=>i+1) (q:=fun i=>(m.getD i []).any fun x=>dj x e) (n:=m.length)with c|⟨j,d,a,_⟩
 ·exact c
 ·have b:=h j d
  unfold li at b;rw[b]at a
  cases a
def mX(m:List (List Ev))(e:Ev){n:Nat}(a:List (Fin n)):Prop:=∀q∈a,li m e q.val=false
theorem mX.snoc{m:List (List Ev)}{e:Ev}{n:Nat}{a:List (Fin n)}(h:mX m e a){q:Fin n}(b:li m e q.val=false):mX m e (a++[q]):=by
 intro x hx;rcases List.mem_append.1 hx with hx|hx
 ·exact h x hx
 ·simp at hx
  rw[hx];exact b
theorem JB{W a:World}(h:Below W.heap.size W a):KeepsOthers W a:=⟨h.size,fun k _ b _=>(h.block k (Array.getElem?_eq_some_iff.1 b).1).trans b⟩
theorem I'(a:Option Addr)(cap:Nat)(m:List (List Ev))(e:Ev)(w:World)(hl:iT w a m)(hm:m.length<=1000):
  Calls prog 167 #[.slice a m.length cap,.agg #[.int .i64 e.thread,.int .i64 e.kind,.int .i64 e.obj,.bool e.fail]] w fun r w'=>r=.returned (.int .i64 (dN m e))/\Below w.heap.size w w':=by
 obtain⟨f,u,E,R⟩:=hl;have ai:=hid R;have G:=hid u;clear R;have aj:f.length<=1000:=by omega
 rw[<-u];clear u hm;refine(callsIn_wide (n:=3)).1 ?_;have h1:1<=3:=by omega
 refine callsIn_of_wp_marks func167 rfl trivial ?_ rfl;simp only[ntmps167,size_toArray,length_cons,length_nil,Nat.reduceAdd,Nat.reduceSub,Array.replicate_succ,Array.replicate_zero,push_toArray,List.append_toArray,nil_append,cons_append];have H:=eH w (.cells #[.int .i64 e.thread,.int .i64 e.kind,.int .i64 e.obj,.bool e.fail] 112) (.cells #[.int .i64 0] 3);have ak:((w.alloc (.cells #[.int .i64 e.thread,.int .i64 e.kind,.int .i64 e.obj,.bool e.fail] 112)).alloc (.cells #[.int .i64 0] 3)).heap.size=w.heap.size+1+1:=by simp
 have al:Hid (eo ((w.alloc (.cells #[.int .i64 e.thread,.int .i64 e.kind,.int .i64 e.obj,.bool e.fail] 112)).alloc (.cells #[.int .i64 0] 3)) w.heap.size e):=(eo.new w e).later (da _ _);have HR:Hid (dm ((w.alloc (.cells #[.int .i64 e.thread,.int .i64 e.kind,.int .i64 e.obj,.bool e.fail] 112)).alloc (.cells #[.int .i64 0] 3)) (w.heap.size+1) 3 [.int .i64 0]):=heap_alloc2_new w _ _
 gi_wp2_with fail
 generalize (w.alloc (.cells #[.int .i64 e.thread,.int .i64 e.kind,.int .i64 e.obj,.bool e.fail] 112)).alloc (.cells #[.int .i64 0] 3)=C at *;refine⟨trivial,?_⟩;refine(M6 Fence.wide _ trivial rfl _ _ _ _).mono ?_;rintro r w'⟨rfl,rfl⟩;have I:=da C (.cells #[.slice a f.length cap] 178);have i:Below w.heap.size w (C.alloc (.cells #[.slice a f.length cap] 178)):=H.trans (I.mono H.size);have S:(C.alloc (.cells #[.slice a f.length cap] 178)).cell? ⟨C.heap.size,0,none⟩=some (.slice a f.length cap):=by simp
 have P:=E.later i
 have am:0<f.length->∀b o,a=some ⟨b,o,none⟩->b<C.heap.size+1:=by
  rintro h b o rfl;obtain⟨b',o',e,hc⟩:=E.2 (by intro e;rw[e]at h;simp at h)
  cases e
  have h2:b<w.heap.size:=fs (hc 0 h 0 _ rfl);have:=H.size;omega
 have T:=hid (HR.out.later I);have ae:=hid (al.out.later I);have u:(C.alloc (.cells #[.slice a f.length cap] 178)).heap.size=C.heap.size+1:=by simp
 gi_wp2
 generalize C.alloc (.cells #[.slice a f.length cap] 178)=Wl at *;rw[ak]at S u
 refine wpIn_rangeFunc_ownH rfl h1 (gf:=214) (lb:=#[.pointer (some ⟨w.heap.size+1+1,0,none⟩)]) rfl trivial (enters_of func214 (by kernel_rfl) rfl)
  (M5 Fence.wide (3-1) trivial rfl (by omega) (w.heap.size+1+1) (w.heap.size+1+1+1) a cap f aj Wl (by omega) (by omega) S P (fun h b o hb=>by have:=am h b o hb;omega)) belowK_t (belowK_b (by omega)) (Below.refl _ _) (fun _=>rfl)
  (fun g W=>mX m e g/\Below Wl.heap.size Wl W)
  (fun c g W=>(c=.ret/\∃l d,g=l++[d]/\mX m e l/\li m e d.val=true/\dm W (w.heap.size+1) 3 [.int .i64 ((d.val:Int)+1)])/\Below w.heap.size w W)
  (OwnFrom.and (ownFrom_pure _ (fun g=>mX m e g)) (ownFrom_below (Nat.le_refl _) (by omega)))
  (fun c=>OwnFrom.and (Own.from (fun s A B an hs hg hr=>by obtain⟨hc,l,d,Q,e2,e3,e4⟩:=hs;exact⟨hc,l,d,Q,e2,e3,e4.keptRow hg hr⟩) _) (ownFrom_below (Nat.le_refl _) (by omega)))
  ⟨(fun q hq=>absurd hq (by simp)),Below.refl _ _⟩
  (fun x J _=>J={ tmps:=#[.slice a f.length cap,.agg #[.int .i64 e.thread,.int .i64 e.kind,.int .i64 e.obj,.bool e.fail],undef,.pointer (some ⟨w.heap.size,0,none⟩),.pointer (some ⟨w.heap.size+1,0,none⟩),.int .i64 (x.val:Int),.slice f[x.val].a f[x.val].n f[x.val].c,.slice a f.length cap,.func (.func 214) #[] #[.pointer (some ⟨w.heap.size+1+1,0,none⟩)],.int .i64 (x.val:Int),.slice f[x.val].a f[x.val].n f[x.val].c,undef,undef,undef,undef,undef],defers:=[] })
  (fun x J _ X Y an hs hg hr=>hs)
  ?assign ?body ?done ?stop
 case assign=>
  rintro l1 g x W K⟨F,t⟩ hK;dsimp only[rJ]
  gi_wp2
  exact hK _ _ ((KeepsOthers.refl W).from _) (Below.refl _ W) ⟨F,t⟩ rfl
 case body=>
  rintro l1 g x J W hl⟨r,hr⟩⟨F,t⟩ rfl U;have HX:=hid (ae.out.later t);have L:=hid (T.out.later t);have M:=i.trans (t.mono i.size);obtain⟨V,Z,_⟩:=ai.out x.val x.isLt;have HC:=hid (L9 f[x.val].a f[x.val].c (m.getD x.val []) e w.heap.size W (Z.later M) HX.out);rw[<-V]at HC;have HN:=hid F;have hf:=L.out.frozen 0;have hz:=L.out.cell 0;clear F V Z
  gi_wp2_with fail
  refine⟨trivial,?_⟩;refine(callsIn_wide.2 HC.out).mono ?_;rintro r W2⟨rfl,z⟩;have aa:KeepsOthers W W2:=JB z;have ab:=t.trans (z.mono t.size);have af:=i.trans (ab.mono i.size);have v:=hid (L.out.later z);have av:=v.out.frozen 0;have aw:W2.cell? ⟨w.heap.size+1,0,none⟩=some (.int .i64 0):=v.out.cell 0;have ah:(x.val:Int)<1000:=by have:=x.isLt;omega
  have ax:(0:Int)<=x.val:=by omega
  clear hf hz
  cases hd:(m.getD x.val []).any fun x=>dj x e
  ·have ao:Hid (mX m e (g++[x])):=HN.out.snoc hd
   clear hd
   gi_wp2
   exact⟨aa.from _,z.mono (by have:=t.size;omega),ao.out,ab⟩
  ·have HD:Hid (li m e x.val=true):=hd
   clear hd
   gi_wp2
   refine⟨(aa.trans (KeepsOthers.setCell _ _ _)).from _,⟨rfl,g,x,rfl,HN.out,HD.out,?_⟩,af.setCell (p:=⟨w.heap.size+1,0,none⟩) (by simp) _⟩;exact dm.set v.out 0 _
 case done=>
  rintro D ys W hD ac⟨F,t⟩ hK;have HZ:=hid (T.out.later t);have M:=i.trans (t.mono i.size);have z0:W.cell? ⟨w.heap.size+1,0,none⟩=some (.int .i64 0):=HZ.out.cell 0;have f0:=HZ.out.frozen 0
  have N:Hid (dN m e=0):=IS fun j hj=>by
   have ap:j<f.length:=by rw[G.out];exact hj
   exact F _ (ac.mem (j:=j) (by omega) ap (Nat.le_refl _))
  clear F ac
  gi_wp2
  have O:=(KeepsOthers.setCell W ⟨w.heap.size+1,0,none⟩ (.int .i64 0)).same D _ hK rfl;have hM:dm (W.setCell ⟨w.heap.size+1,0,none⟩ (.int .i64 0)) (w.heap.size+1) 3 [.int .i64 0]:=dm.set HZ.out 0 _;have y0:=(hM.keptRow (grownBy_putObj' _ D (.deferred none)) (fun r e=>by cases e;exact⟨_,O,rfl⟩)).cell 0;refine⟨by simp,.inl ⟨_,_,rfl,run_takeDeferred O,?_⟩⟩;refine⟨.int .i64 0,?_,(by rw[N.out];rfl),(M.setCell (p:=⟨w.heap.size+1,0,none⟩) (by simp) _).trans (belowK_b (w:=w) (Nat.le_refl _) _ D _ _ (by omega) O rfl rfl)⟩;simp[results,Tryz.f167,go_sem,y0]
 case stop=>
  rintro D c g W hD⟨k,hk,y⟩⟨⟨rfl,l,d,Q,e2,e3,e4⟩,t⟩ hK
  have N:Hid (dN m e=d.val+1):=by
   have ag:=y.len;rw[Q,List.length_append,List.length_singleton]at ag;have ad:g.map (fun q=>q.val)=jT (fun k=>f.length-1-k) k:=y
   obtain⟨k',rfl⟩:∃k',k=k'+1:=⟨l.length,by omega⟩
   rw[Q,List.map_append,rY]at ad;obtain⟨h5,h6⟩:=List.append_inj' ad rfl;have ay:d.val=f.length-1-k':=by simpa using h6
   have aq:fD f.length k' l:=h5;have U:=d.isLt;refine IT (by rw[<-G.out];exact U) e3 fun j hj ar=>?_
   have au:j<f.length:=by rw[G.out];exact ar
   exact e2 _ (aq.mem (j:=j) (by omega) au (by omega))
  clear Q e2 e3 y
  gi_wp2
  have y0:=(e4.keptRow (grownBy_putObj' _ D (.deferred none)) (fun r e=>by cases e;exact⟨_,hK,rfl⟩)).cell 0;refine⟨by simp,.inl ⟨_,_,rfl,run_takeDeferred hK,?_⟩⟩;refine⟨.int .i64 ((d.val:Int)+1),?_,(by rw[N.out];rfl),t.trans (belowK_b (w:=w) (Nat.le_refl _) W D _ _ (by omega) hK rfl rfl)⟩;simp[results,Tryz.f167,go_sem,y0]
end
section
open Go.Lib (hid)
open Go.Proofs.Tryz Go.RowKit
open List (getElem_set_ne length_append length_set length_take take_length)
theorem zl:(prog.info? 95).map (fun i=>(i.zero,i.size,i.bytes))=some (some (.slice none 0 0),1,24):=by kernel_rfl
theorem qe:95≠112:=by decide
theorem mn{w:World}{B B' n k m m':Nat}{t d:TypeId}{v f:Value}{xs b:List Value}(h:w.ownsRow B t n v m xs)(l:w.ownsRow B' d k f m' b)(c:t≠d):v.ownBlock=none∨v.ownBlock≠f.ownBlock:=by
 obtain⟨_,⟨rfl,_⟩|⟨g,r,s,rfl,_,o,_⟩⟩:=h
 ·exact .inl rfl
 ·right
  obtain⟨_,⟨rfl,_⟩|⟨p,i,j,rfl,_,a,_⟩⟩:=l
  ·simp[Value.ownBlock]
  ·intro e
   injection e with e;have q:g=p:=e;subst q;rw[o]at a;injection a with a;injection a with _ h2;exact c h2
theorem OwnLv.more{w w':World}{B:Nat}{v k:Value}{ss:List Sl}{m:List (List Ev)}(h:OwnLv w B v ss m)(l:dc w' B 95 1 ia k (ss++[⟨none,0,0⟩]))(n:w.grownBy w' v.ownBlock):
  OwnLv w' B k (ss++[⟨none,0,0⟩]) (m++[[]]):=by
 refine⟨by simp[h.len],l,fun i f=>?_,fun i j f o g=>?_⟩
 ·by_cases a:i<ss.length
  ·have b:(ss++[(⟨none,0,0⟩:Sl)])[i]=ss[i]:=List.getElem_append_left a
   have c:(m++[[]]).getD i []=m.getD i []:=by simp[List.getD,List.getElem?_append_left (show i<m.length by rw[<-h.len];exact a)]
   rw[b,c];refine World.ownsRow.kept (h.inner i a) n ?_;exact mn (h.inner i a) h.outer (Ne.symm qe)
  ·have d:i=ss.length:=by simp at f;omega
   subst d;have b:(ss++[(⟨none,0,0⟩:Sl)])[ss.length]=⟨none,0,0⟩:=by simp
   have c:(m++[[]]).getD ss.length []=[]:=by rw[h.len];simp[List.getD]
   rw[b,c];exact qF _ _
 ·by_cases a:i<ss.length
  ·have b:(ss++[(⟨none,0,0⟩:Sl)])[i]=ss[i]:=List.getElem_append_left a
   rw[b]
   by_cases e:j<ss.length
   ·have c:(ss++[(⟨none,0,0⟩:Sl)])[j]=ss[j]:=List.getElem_append_left e
    rw[c];exact h.apart i j a e g
   ·have d:j=ss.length:=by simp at o;omega
    subst d;have c:(ss++[(⟨none,0,0⟩:Sl)])[ss.length]=⟨none,0,0⟩:=by simp
    rw[c]
    cases hb:(gc ss[i]).ownBlock
    ·exact .inl rfl
    ·exact .inr (by simp[gc,Value.ownBlock])
  ·have d:i=ss.length:=by simp at f;omega
   subst d
   left
   have b:(ss++[(⟨none,0,0⟩:Sl)])[ss.length]=⟨none,0,0⟩:=by simp
   rw[b];rfl
theorem MC(ss:List Sl)(n:Nat)(s:Sl):(dA ia ss).set n (.slice s.a s.n s.c)=dA ia (ss.set n s):=by
 induction ss generalizing n with
 |nil=>rfl
 |cons x ss b=>
  cases n with
  |zero=>rfl
  |succ n=>
   show ia x++_=_;simp only[dA,List.flatMap_cons,List.set_cons_succ]at *;rw[<-b];rfl
theorem OwnLv.put{w l:World}{B g N cap n:Nat}{ss:List Sl}{m:List (List Ev)}{s':Sl}{o:List Ev}(h:OwnLv w B (.slice (some ⟨g,0,none⟩) N cap) ss m)(J:N=m.length)(_hn:n<N)(u:n<ss.length)
  (L:dr l B (gc s') o) (H:w.grownBy l (gc ss[n]).ownBlock) (hb:∀b,(gc s').ownBlock=some b->(gc ss[n]).ownBlock=some b∨w.heap.size<=b):
  OwnLv (l.setCell ⟨g,n,none⟩ (.slice s'.a s'.n s'.c)) B (.slice (some ⟨g,0,none⟩) N cap) (ss.set n s') (m.set n o)/\(l.cell? ⟨g,n,none⟩).isSome=true/\l.frozen? ⟨g,n,none⟩=false:=by
 have k:l.ownsRow B 95 1 (.slice (some ⟨g,0,none⟩) N cap) ss.length (dA ia ss):=World.ownsRow.kept h.outer H (mn h.outer (h.inner n u) qe);have y:ss.length=N:=by rw[h.len,J]
 rw[y]at k;have v:=k.stored n (.slice s'.a s'.n s'.c);rw[MC]at v;have F:l.grownBy (l.setCell ⟨g,n,none⟩ (.slice s'.a s'.n s'.c)) (some g):=v.2;have p:∀{D:Value} {E:List Ev},dr l B D E->dr (l.setCell ⟨g,n,none⟩ (.slice s'.a s'.n s'.c)) B D E:=fun {D E} I=>World.ownsRow.kept I F (mn I k (Ne.symm qe))
 have z:∀i (d:i<ss.length),i≠n->dr l B (gc ss[i]) (m.getD i []):=fun i d f=>World.ownsRow.kept (h.inner i d) H (h.apart i n d u f)
 refine⟨⟨by simp[h.len],?_,fun i d=>?_,fun i j d x f=>?_⟩,?_,k.frozenAt n⟩
 ·unfold dc
  rw[length_set,y];exact v.1
 ·simp only[length_set]at d
  by_cases e:n=i
  ·subst e
   have s:(ss.set n s')[n]'(by simpa using d)=s':=by simp
   have q:(m.set n o).getD n []=o:=by simp[List.getD,show n<m.length by omega]
   rw[s,q];exact p L
  ·have s:(ss.set n s')[i]'(by simpa using d)=ss[i]:=getElem_set_ne e _
   have q:(m.set n o).getD i []=m.getD i []:=by simp[List.getD,List.getElem?_set_ne e]
   rw[s,q];exact p (z i d (fun A=>e A.symm))
 ·simp only[length_set]at d x
  have r:∀i (d:i<ss.length),i≠n->(gc s').ownBlock=none∨(gc s').ownBlock≠(gc ss[i]).ownBlock:=fun i d f=>by
   cases G:(gc s').ownBlock with
   |none=>exact .inl rfl
   |some b=>
    right
    intro e;rcases hb b G with t|t
    ·rcases h.apart n i u d (fun e=>f e.symm)with C|C
     ·rw[t]at C;cases C
     ·exact C (t.trans e)
    ·have:=(World.ownsRow.lt (h.inner i d) b e.symm).2
     omega
  by_cases e:n=i
  ·subst e
   have s:(ss.set n s')[n]'(by simpa using d)=s':=by simp
   have q:(ss.set n s')[j]'(by simpa using x)=ss[j]:=getElem_set_ne f _;rw[s,q];exact r j x (fun e=>f e.symm)
  ·have s:(ss.set n s')[i]'(by simpa using d)=ss[i]:=getElem_set_ne e _
   rw[s]
   by_cases A:n=j
   ·subst A
    have q:(ss.set n s')[n]'(by simpa using x)=s':=by simp
    rw[q];rcases r i d f with t|t
    ·cases M:(gc ss[i]).ownBlock
     ·exact .inl rfl
     ·right;rw[t];simp
    ·exact .inr (fun e=>t e.symm)
   ·have q:(ss.set n s')[j]'(by simpa using x)=ss[j]:=getElem_set_ne A _
    rw[q];exact h.apart i j d x f
 ·rw[k.cellAt n (by omega),List.getElem?_eq_getElem (by rw[gF oD];omega)]
  rfl
theorem OwnLv.cell{w:World}{B g N cap n:Nat}{ss:List Sl}{m:List (List Ev)}(h:OwnLv w B (.slice (some ⟨g,0,none⟩) N cap) ss m)(f:N=m.length)(d:n<ss.length):w.cell? ⟨g,n,none⟩=some (.slice ss[n].a ss[n].n ss[n].c):=by
 have e:ss.length=N:=by rw[h.len,f]
 have b:w.ownsRow B 95 1 (.slice (some ⟨g,0,none⟩) N cap) ss.length (dA ia ss):=h.outer;rw[e]at b;rw[b.cellAt n (by omega)];have:=ik oD ss n 0 d (by omega);rw[Nat.mul_one,Nat.add_zero]at this;rw[this];rfl
def ix(m:List (List Ev))(n:Nat):List (List Ev):=if n<m.length then m else m++[[]]
theorem Bl(m:List (List Ev))(e:Ev):eZ m e=(ix m (dN m e)).set (dN m e) (dO e ((ix m (dN m e)).getD (dN m e) [])):=by
 have b:=lR m e;unfold eZ ez ix
 by_cases h:dN m e<m.length
 ·rw[if_pos h,if_pos h]
 ·have a:dN m e=m.length:=by omega
  rw[if_neg h,if_neg h,a];simp[List.getD,dO]
theorem rj(m:List (List Ev))(n:Nat):(ix m n).getD n []=m.getD n []:=by
 unfold ix
 by_cases h:n<m.length
 ·rw[if_pos h]
 ·rw[if_neg h]
  simp only[List.getD];rw[List.getElem?_eq_none (Nat.le_of_not_lt h)]
  by_cases a:n=m.length
  ·subst a;simp
  ·rw[List.getElem?_eq_none (by simp;omega)]
theorem IR{m:List (List Ev)}{e x:Ev}(hx:x∈m.getD (dN m e) []):x.thread≠e.thread:=by
 intro b;have a:=tN (Nat.le_refl _) hx;rw[mK b]at a
 cases a
theorem qR(l:List Ev)(i:Nat):((dU l).getD i []).length<=l.length:=by
 rw[<-tM l]
 by_cases h:i<(dU l).length
 ·rw[dV _ h]
  exact List.Sublist.length_le (List.sublist_flatten_of_mem (List.getElem_mem h))
 ·simp[List.getD,List.getElem?_eq_none (Nat.le_of_not_lt h)]
theorem oZ(l:List Ev):(dU l).length<=l.length:=by
 have:∀n (l:List Ev),l.length=n->(dU l).length<=l.length:=by
  intro n
  induction n with
  |zero=>
   intro l b;obtain rfl:=List.eq_nil_of_length_eq_zero b;exact Nat.le_refl _
  |succ n d=>
   intro l b;have a:l≠[]:=by rintro rfl;simp at b
   obtain⟨c,e,rfl⟩:∃c e,l=c++[e]:=⟨l.dropLast,l.getLast a,(List.dropLast_concat_getLast a).symm⟩
   have f:=d c (by simpa using b);rw[qQ,Bk,length_append,List.length_singleton]
   split <;> omega
 exact this _ l rfl
def eQ(l:List Ev):Bool:=decide (l.length<=200)&&dJ l
def ed(l:List Ev):List (List Ev):=if eQ l then dU l else []
theorem zX(a:Option Addr)(cap:Nat)(l:List Ev)(w:World)(n:ei w a l):
  Calls prog 120 #[.slice a l.length cap] w fun r D=>r=.returned (.bool (eQ l))/\Below w.heap.size w D:=by
 have E:=n.1;unfold maxLen at E;have F:=hid n;clear n
 by_cases m:l.length<=200
 case neg=>
  have p:Hid (eQ l=false):=by show _=_;unfold eQ;simp;omega
  have G:decide ((200:Int)<(l.length:Int))=true:=by simp;omega
  have t:200<l.length:=by omega
  clear m;go_enter func120,ntmps120;go_wp2;go_ret;exact⟨dE p.out.symm,Below.refl _ _⟩
 have G:decide ((200:Int)<(l.length:Int))=false:=by simp;omega
 have t:¬ 200<l.length:=by omega
 go_enter func120,ntmps120;go_wp2
 go_loopw [10] (fun i wr=>∃k:Nat,k<=l.length/\i=.int .i64 k/\Hid (dJ (l.take k)=true)/\Below w.heap.size w wr) (fun i _=>l.length-(intOf i).toNat)
 case atStart=>exact⟨0,Nat.zero_le _,rfl,rfl,Below.refl _ _⟩
 case round=>
  obtain⟨k,H,rfl,u,hb⟩:=hrel
  by_cases c:k<l.length
  ·obtain⟨b,o,rfl,v⟩:=F.out.2 (by intro e;simp[e]at c)
   obtain⟨y,z,A,B⟩:=v k c;have d0:=de hb y;have d1:=de hb z;have d2:=de hb A;have d3:=de hb B;have q:=hid (sH l k c);have d:Hid (eM l[k]=false->eQ l=false):=fun h=>by unfold eQ;rw[sI c h];simp
   have f:=hb.alloc hb.size (.cells #[.int .i64 l[k].thread,.int .i64 l[k].kind,.int .i64 l[k].obj,.bool l[k].fail] 112);clear v y z A B;generalize l[k]=x at *;go_wp2_with fail;refine(uy x _).mono ?_;rintro r I⟨rfl,g⟩;have j:=f.trans (g.mono f.size);clear f g
   cases C:eM x
   ·have s:=hid (d.out C)
    clear d q;go_wp2;go_ret;exact⟨dE s.out.symm,j⟩
   ·have s:Hid (dJ (l.take (k+1))=true):=by show _=_;rw[q.out,u.out,C];rfl
    clear d q;go_wp2
    go_roundw
    case rel=>exact⟨k+1,by omega,by go_num,s,j⟩
    case measure=>simp[intOf];omega
  ·obtain rfl:k=l.length:=by omega
   have p:Hid (eQ l=true):=by have h:=u.out;rw[take_length]at h;show _=_;unfold eQ;rw[h];simp;omega
   go_wp2;go_ret;exact⟨dE p.out.symm,hb⟩
theorem MK{w w':World}{B g n m:Nat}{t:TypeId}{v:Value}{e:Ev}{xs:List Value}(h:eo w g e)(d:w.ownsRow B t n v m xs)(c:t≠112)(f:w.grownBy w' v.ownBlock):eo w' g e:=by
 refine(f.block g h.lt fun a=>?_).trans h;obtain⟨_,⟨rfl,_⟩|⟨b,j,k,rfl,_,hb,_⟩⟩:=d
 ·cases a
 ·injection a with a
  have i:g=b:=a;subst i;rw[show w.heap[g]?=_ from h]at hb;injection hb with hb;injection hb with _ h2;exact c h2.symm
def Bu(B:Nat)(w:World)(m:List (List Ev))(r:Ending)(w':World):Prop:=∃v b,r=.returned v/\OwnLv w' B v b m/\Below B w w'
theorem I6(a:Option Addr)(cap:Nat)(l:List Ev)(w:World)(hl:ei w a l):
  Calls prog 122 #[.slice a l.length cap] w (Bu w.heap.size w (ed l)):=by
 have hm:=hl.1;unfold maxLen at hm;have HL:=hid hl;have t:=hid (zX a cap l w hl);clear hl
 cases A:eQ l
 ·have HE:Hid (ed l=[]):=by show _=_;unfold ed;rw[A];rfl
  rw[A]at t;clear A;go_enter func122,ntmps122;go_wp2_with fail;refine t.out.mono ?_;rintro r w1⟨rfl,D⟩;clear t;go_wp2;go_ret;exact⟨_,[],rfl,by rw[HE.out];exact oS _ _,D⟩
 have av:l.length<=200:=by unfold eQ at A;simp at A;exact A.1
 have HE:Hid (ed l=dU l):=by show _=_;unfold ed;rw[A];rfl
 rw[A]at t;clear A;go_enter func122,ntmps122;go_wp2_with fail;refine t.out.mono ?_;rintro r w1⟨rfl,D⟩;clear t;go_wp2_with fail
 go_loopw [3,12] (fun v i wr=>∃(k:Nat) (B:List Sl),k<=l.length/\i=.int .i64 k/\Hid (OwnLv wr w.heap.size v B (dU (l.take k)))/\Hid (Below w.heap.size w wr)) (fun _ i _=>l.length-(intOf i).toNat)
 case atStart=>exact⟨0,[],Nat.zero_le _,rfl,oS _ _,D⟩
 case round=>
  clear D;obtain⟨k,B,hk,rfl,Y,H⟩:=hrel
  by_cases O:k<l.length
  ·obtain⟨b,o,rfl,t0,t1,t2,t3⟩:=HL.out.one O
   have d0:=de H.out t0;have d1:=de H.out t1;have d2:=de H.out t2;have d3:=de H.out t3
   have HT:Hid (dU (l.take (k+1))=eZ (dU (l.take k)) (dd l k)):=by
    show _=_;rw[<-qQ,gt O,List.take_add_one,List.getElem?_eq_getElem O];rfl
   have az:(dU (l.take k)).length<=k:=by have:=oZ (l.take k);rw[length_take]at this;omega
   have HS:Hid (∀i,((dU (l.take k)).getD i []).length<=200):=fun i=>by have:=qR (l.take k) i;rw[length_take]at this;omega
   obtain⟨a2,L,rfl,aa,ah⟩:=OwnLv.form Y.out (by omega) (fun i _=>by have:=HS.out i;omega);have ab:=hid aa;clear t0 t1 t2 t3 aa ah;generalize dU (l.take k)=m at *;generalize dd l k=e at *;go_wp2_with fail;have E:=da wr (.cells #[.int .i64 e.thread,.int .i64 e.kind,.int .i64 e.obj,.bool e.fail] 112);have ac:=hid (eo.new wr e);generalize wr.alloc (.cells #[.int .i64 e.thread,.int .i64 e.kind,.int .i64 e.obj,.bool e.fail] 112)=W0 at *;refine(I' a2 L m e W0 (ab.out.later E) (by omega)).mono ?_;rintro r C⟨rfl,P⟩;have Q:=E.trans (P.mono E.size);have d:=hid (Y.out.later Q);have R:=hid (H.out.trans (Q.mono H.out.size));have S:=hid (ac.out.later P);have aA:=lR m e;have HA:=hid (Bl m e);have HO:Hid (∀x∈m.getD (dN m e) [],x.thread≠e.thread):=fun x hx=>IR hx
   have aw:wr.heap.size<C.heap.size:=S.out.lt;have ax:wr.heap.size<=C.heap.size:=by omega
   clear Y H ab ac E P Q d0 d1 d2 d3;generalize dN m e=n at *
   go_upto_if 22 with (fail)
   go_cut [3] (fun s3 wx=>∃(g N s:Nat) (j:List Sl),s3=.slice (some ⟨g,0,none⟩) N s/\n<N/\N<=300/\Hid (N=(ix m n).length/\OwnLv wx w.heap.size s3 j (ix m n))/\Hid (eo wx wr.heap.size e)/\Hid (Below w.heap.size w wx))
   case first=>
    by_cases F:n<m.length
    ·have hq:((n:Int)==(m.length:Int))=false:=by simp;omega
     have u:Hid (ix m n=m):=by show _=_;unfold ix;rw[if_pos F]
     obtain⟨g,y,hv,_,_⟩:=dc.block d.out.outer (by intro e;have:=d.out.len;rw[e]at this;simp at this;omega);injection hv with hv1 hv2 hv3;subst hv1;clear hv2 hv3;go_wp2_with fail
     go_meet
     exact⟨g,m.length,L,B,rfl,F,by omega,⟨by rw[u.out],by rw[u.out];exact d.out⟩,S.out,R.out⟩
    ·have M:n=m.length:=by omega
     have hq:((n:Int)==(m.length:Int))=true:=by simp;omega
     have u:Hid (ix m n=m++[[]]):=by show _=_;unfold ix;rw[if_neg F]
     have ai:=hid M;have G:w.heap.size<=C.heap.size:=R.out.size;have aB:B.length<=1000:=by have:=d.out.len;omega
     clear F M
     go_wp2_with (at_builtin;refine iU (f:=ia) (n:=1) 178 95 24 (.slice none 0 0) underlying178 zl rfl (by omega) (by omega) oD rfl _ _ rfl w.heap.size _ B rfl (d.out.outer.alloc _) ⟨C.heap.size,0,none⟩ rfl ⟨none,0,0⟩ (wn _) (gw C (ia ⟨none,0,0⟩) _ _ rfl) (by omega) (by simp;omega) ?_;intro v' I h1 q X;obtain⟨g,y,hv,_,_⟩:=dc.block h1 (by simp);rw[length_append,List.length_singleton]at hv;subst hv)
     go_meet
     have aj:Below w.heap.size C I:=(da C _).mono G |>.trans q;have ak:OwnLv I w.heap.size (.slice (some ⟨g,0,none⟩) (B.length+1) y) (B++[⟨none,0,0⟩]) (m++[[]]):=OwnLv.more (d.out.later (da C _)) h1 X;exact⟨g,B.length+1,y,_,rfl,by have:=d.out.len;have:=ai.out;omega,by have:=d.out.len;omega,⟨by rw[u.out];simp[d.out.len],by rw[u.out];exact ak⟩,MK (S.out.later (da C _)) (d.out.outer.alloc _) qe X,R.out.trans aj⟩
   case rest=>
    obtain⟨g,N,s,j,rfl,ad,au,J,al,ae⟩:=hcut;have T:n<j.length:=by rw[J.out.2.len,<-J.out.1];exact ad
    have G:w.heap.size<=wc.heap.size:=ae.out.size;have x0:=OwnLv.cell J.out.2 J.out.1 T;obtain⟨c0,c1,c2,c3⟩:=al.out.cells;have aC:(n:Int)<(N:Int):=by omega
    have ay:(0:Int)<=n:=by omega
    have af:Hid (dr wc w.heap.size (gc j[n]) (m.getD n [])):=by
     have h:=J.out.2.inner n T;rw[rj]at h;exact h
    have V:Hid (∀W,Below wc.heap.size wc W->Calls prog 168 #[.slice j[n].a j[n].n j[n].c,.agg #[.int .i64 e.thread,.int .i64 e.kind,.int .i64 e.obj,.bool e.fail]] W fun r I=>
      ∃s':Sl,r=.returned (.slice s'.a s'.n s'.c)/\Below w.heap.size w I/\(∃ag,I.cell? ⟨g,n,none⟩=some ag)/\I.frozen? ⟨g,n,none⟩=false/\OwnLv (I.setCell ⟨g,n,none⟩ (.slice s'.a s'.n s'.c)) w.heap.size (.slice (some ⟨g,0,none⟩) N s) (j.set n s') (eZ m e)):=fun W Z=>by
     refine(Jj w.heap.size (gc j[n]) (m.getD n []) e W (Nat.le_trans G Z.size) (by have:=HS.out n;omega) (af.out.later Z) HO.out).mono ?_;rintro r I⟨v',rfl,q,X,h4,h5⟩;obtain⟨a',z,am,_⟩:=dr.form q (by rw[qX];have:=HS.out n;omega);subst am;obtain⟨p1,p2,p3⟩:=OwnLv.put (J.out.2) J.out.1 ad T (s':=⟨a',(dO e (m.getD n [])).length,z⟩) q ((uk Z _).trans h4) (fun b hb=>(h5 b hb).imp id (fun h=>Nat.le_trans Z.size h));rw[HA.out,rj];exact⟨⟨a',_,z⟩,rfl,ae.out.trans ((Z.mono G).trans X),Option.isSome_iff_exists.1 p2,p3,p1⟩
    clear af;go_wp2_with fail
    go_region_with ((go_simp;go_at_call 168;refine(V.out _ (Below.refl _ _).drew).mono ?_;rintro r w3⟨s',rfl,q1,⟨ag,q2⟩,q3,q4⟩;have an:=hid q4;have ao:=hid q1;clear q1 q4))
    all_goals
     have ap:Hid (OwnLv (w3.setCell ⟨g,n,none⟩ (.slice s'.a s'.n s'.c)) w.heap.size (.slice (some ⟨g,0,none⟩) N s) (j.set n s') (dU (l.take (k+1)))):=by
      show OwnLv _ _ _ _ _;rw[HT.out];exact an.out
     have aq:w.heap.size<=g:=by
      obtain⟨_,⟨q,_⟩|⟨b',z,aD,q,X,_⟩⟩:=J.out.2.outer
      ·cases q
      ·injection q with q
       injection q with q;injection q with q;rw[q];exact X
     go_wp2
     go_roundw
     case rel=>exact⟨k+1,_,by omega,by go_num,ap,(ao.out).setCell (p:=⟨g,n,none⟩) aq _⟩
     case measure=>simp[intOf];omega
  ·obtain rfl:k=l.length:=by omega
   have U:=Y.out;rw[take_length,<-HE.out]at U;have ar:=hid U;clear U Y;go_wp2;go_ret;exact⟨_,B,rfl,ar.out,H.out⟩
theorem Ef{w:World}{g n c:Nat}{ns:List Int}(h:dm w g 5 (ns.map (Value.int .u8)))(b:n=ns.length):(convert 56 9 (.slice (some ⟨g,0,none⟩) n c)).run prog w=.ok (.string (dY ns)) w:=by
 subst b;rw[run_convert_bytes_string w _ _ 5 _ _ _ underlying56 underlying5 underlying9]
 have a:=run_loadCells_list (P:=prog) w ⟨g,0,none⟩ (ns.map (Value.int .u8)) (fun j u d=>by
  have e:Addr.add ⟨g,0,none⟩ j=⟨g,j,none⟩:=by
   unfold Addr.add
   split
   ·rename_i f;subst f;rfl
   ·simp
  rw[e,h.cell]
  exact d)
 rw[List.length_map]at a;rw[run_bytesToString w _ _ _ ns a,rh];have e:ByteArray.empty.data=#[]:=rfl;rw[e,Array.empty_append];rfl
theorem jY{a b:ByteArray}(h:a=b):Ending.returned (.string a)=.returned (.string b):=by rw[h]
theorem Lw(a:Option Addr)(cap:Nat)(l:List Ev)(w:World)(G:ei w a l)(hm:l.length<=1000000):
  Calls prog 166 #[.slice a l.length cap] w fun r Q=>r=.returned (.string (dY (eR l)))/\Below w.heap.size w Q:=by
 have B:=lJ (P:=prog) 56 5 (.int .u8 0) 1 1 underlying56 (by kernel_rfl) l.length (by omega) (by omega);have R:=hid G;clear G;go_enter func166,ntmps166;go_wp2
 go_loopw [11] (fun i wr=>∃k:Nat,k<=l.length/\i=.int .i64 k/\Hid ((l.take k).all eM=true)/\Hid (dm wr w.heap.size 5 (iw (fun e=>.int .u8 (eY e)) (.int .u8 0) l k))/\Below w.heap.size w wr) (fun i _=>l.length-(intOf i).toNat)
 case atStart=>
  refine⟨0,Nat.zero_le _,rfl,rfl,?_,da _ _⟩;show dm _ _ _ _;rw[us];have:=dm.made w 5 (.int .u8 0) l.length;simpa using this
 case round=>
  clear B;obtain⟨k,S,rfl,H,z,hb⟩:=hrel
  by_cases c:k<l.length
  ·obtain⟨b,o,rfl,I⟩:=R.out.2 (by intro e;simp[e]at c)
   obtain⟨J,L,M,N⟩:=I k c;have d0:=de hb J;have d1:=de hb L;have d2:=de hb M;have d3:=de hb N;have hz:=z.out.lt;clear I J L M N;have T:=hid (List.take_succ_eq_append_getElem c:l.take (k+1)=l.take k++[l[k]]);have U:=hid (ut (fun e=>.int .u8 (eY e)) (.int .u8 0) l k c);have V:=hid (List.getElem_mem c);have s:=hid (eo.new wr l[k]);have t:=hid (z.out.later (da wr (.cells #[.int .i64 l[k].thread,.int .i64 l[k].kind,.int .i64 l[k].obj,.bool l[k].fail] 112)));have j:Below w.heap.size w (wr.alloc (.cells #[.int .i64 l[k].thread,.int .i64 l[k].kind,.int .i64 l[k].obj,.bool l[k].fail] 112)):=hb.alloc hb.size _;clear z;generalize l[k]=x at *;go_wp2_with fail;generalize wr.alloc (.cells #[.int .i64 x.thread,.int .i64 x.kind,.int .i64 x.obj,.bool x.fail] 112)=W1 at *;generalize wr.heap.size=E at *;clear d0 d1 d2 d3;refine(uy x _).mono ?_;rintro r W⟨rfl,d⟩;have f:=hid (s.out.later d);have u:=hid (t.out.later d);have m:Below w.heap.size w W:=j.trans (d.mono j.size);clear s t j d hb;obtain⟨X,Y,Z,x3⟩:=f.out.cells;have lx:=f.out.lt
   cases q:eM x
   ·have A:Hid (eR l=[]):=by
     show _=_;unfold eR;rw[if_neg];intro h;rw[List.all_eq_true]at h;rw[h x V.out]at q
     cases q
    clear q f;go_wp2;go_ret;exact⟨jY (by rw[A.out];rfl),m⟩
   ·have A:=hid q
    clear q;go_wp2_with fail;refine(CB x A.out _).mono ?_;rintro r w3⟨rfl,n⟩;have g:=hid (u.out.later n);have C:Below w.heap.size w w3:=m.trans (n.mono m.size);have aa:=g.out.frozen k;have D:=g.out.cell k
    obtain⟨y,O⟩:∃y,(iw (fun e=>.int .u8 (eY e)) (.int .u8 0) l k)[k]?=some y:=⟨_,List.getElem?_eq_getElem (by rw[Ld _ _ _ _ S];exact c)⟩
    rw[O]at D;have v:=hid (g.out.set k (.int .u8 (eY x)));rw[U.out]at v;have F:=C.setCell (p:=⟨w.heap.size,k,none⟩) (Nat.le_refl _) (.int .u8 (eY x));clear O u g f X Y Z x3 n;go_wp2
    go_roundw
    case rel=>exact⟨k+1,by omega,by go_num,(by show _=_;rw[T.out,List.all_append,H.out];simp[A.out]),v,F⟩
    case measure=>simp[intOf];omega
  ·obtain rfl:k=l.length:=by omega
   have ab:(convert 56 9 (.slice (some ⟨w.heap.size,0,none⟩) l.length l.length)).run prog wr=.ok (.string (dY (l.map eY))) wr:=by
    have h:=z.out;rw[uu]at h;refine Ef (ns:=l.map eY) ?_ (by simp);rw[List.map_map];exact h
   have HP:Hid (eR l=l.map eY):=by
    show _=_;unfold eR;have h:=H.out;rw[take_length]at h;rw[if_pos h]
   go_wp2;go_ret;exact⟨jY (by rw[HP.out]),hb⟩
def gB(row:List Ev):List Int:=(row.length:Int)::eR row
def iE(m:List (List Ev)):List Int:=m.flatMap gB++[0]
theorem sW(row:List Ev):(eR row).length<=row.length:=by
 unfold eR
 split
 ·simp
 ·simp
theorem FW(row:List Ev):∀n∈eR row,0<=n/\n<256:=by
 intro n a;unfold eR at a
 split at a
 ·rename_i h
  obtain⟨e,b,rfl⟩:=List.mem_map.1 a;exact uA (List.all_eq_true.1 h e b)
 ·simp at a
theorem C7(ns:List Int)(h:∀n∈ns,0<=n/\n<256):Lib.strCells (dY ns)=ns.map (Value.int .u8):=by
 unfold Lib.strCells dY;simp only[List.map_map];refine List.map_congr_left fun n a=>?_
 obtain⟨b,c⟩:=h n a;simp only[Function.comp]
 congr 1
 have:(UInt8.ofNat n.toNat).toNat=n.toNat:=by rw[UInt8.toNat_ofNat'];omega
 rw[this];omega
theorem kL(ns:List Int):(dY ns).size=ns.length:=by
 show(dY ns).data.size=_;simp[dY]
theorem tO(m:List (List Ev))(k:Nat):((m.take k).flatMap gB).length<=k+m.flatten.length:=by
 have h:∀(m:List (List Ev)),(m.flatMap gB).length<=m.length+m.flatten.length:=by
  intro m
  induction m with
  |nil=>simp
  |cons r m b=>
   rw[List.flatMap_cons,length_append,List.flatten_cons,length_append,List.length_cons];have:=sW r;have e:(gB r).length=(eR r).length+1:=rfl;omega
 have a:=h (m.take k);have c:=zS m k;rw[length_take]at a;omega
theorem DA(a:Option Addr)(cap:Nat)(m:List (List Ev))(w:World)(O:iT w a m)(hm:m.length<=1000000)(P:m.flatten.length<=1000000)(j:∀i,(m.getD i []).length<=255):
  Calls prog 121 #[.slice a m.length cap] w fun r Z=>r=.returned (.string (dY (iE m)))/\Below w.heap.size w Z:=by
 have HL:=hid O;have HF:=hid P;have B:=hid j;clear O P j;obtain⟨i0,D,u⟩:=Option.map_eq_some_iff.1 (show(prog.info? 5).map (fun i=>(i.zero,i.size,i.bytes))=some (some (.int .u8 0),1,1) by kernel_rfl);simp only[Prod.mk.injEq]at u;obtain⟨E,F,G⟩:=u;go_enter func121,ntmps121;go_wp2
 go_loopw [3,8] (fun v i wr=>∃(k:Nat) (e:List Int),k<=m.length/\i=.int .i64 k/\Hid (e=(m.take k).flatMap gB)/\e.length<=2000000/\Hid (iJ wr w.heap.size v e)/\Hid (Below w.heap.size w wr)) (fun _ i _=>m.length-(intOf i).toNat)
 case atStart=>exact⟨0,[],Nat.zero_le _,rfl,rfl,by simp,World.ownsRow_nil _ _ _ _,Below.refl _ _⟩
 case round=>
  obtain⟨k,e,Q,rfl,R,aa,S,t⟩:=hrel
  by_cases n:k<m.length
  ·obtain⟨b,o,sa,sc,rfl,t0,T,hn⟩:=HL.out.one n
   have c0:=de t.out t0;have HE:=hid T;have hL:=B.out k
   have HT:Hid ((m.take (k+1)).flatMap gB=(m.take k).flatMap gB++((((m.getD k []).length:Nat):Int)::eR (m.getD k []))):=by
    show _=_;rw[List.take_add_one,List.getElem?_eq_getElem n,List.flatMap_append,dV _ n];simp[gB]
   have H:Hid (((m.take (k+1)).flatMap gB).length<=2000000):=by
    have:=tO m (k+1);have:=HF.out;show _<=_;omega
   have I:=hid (sW (m.getD k []));have J:=hid (FW (m.getD k []));clear t0 T hn;generalize m.getD k []=c at *
   have hw:IntKind.u8.wrap (c.length:Int)=c.length:=by
    simp[IntKind.wrap,IntKind.bits,IntKind.signed];omega
   have p:=t.out.size
   go_wp2_with (at_builtin;refine rV rfl _ _ rfl w.heap.size _ e rfl (S.out.alloc _) ⟨wr.heap.size,0,none⟩ 1 1 rfl [(c.length:Int)] rfl (uO wr [(c.length:Int)] _ _ rfl) (by omega) (by simp;omega) ?_;intro U V d f)
   have x:=hid d;have g:=(t.out.alloc p _).trans f;clear d f;refine(Lw sa sc c V (HE.out.later g) (by omega)).mono ?_;rintro r W⟨rfl,q⟩;have y:Hid (W.ownsRow w.heap.size 5 1 U (e++[(c.length:Int)]).length ((e++[(c.length:Int)]).map (Value.int .u8))):=nz x.out q;have z:=hid (g.trans (q.mono g.size));have l:=z.out.size;have s:(dY (eR c)).size=(eR c).length:=kL _;have ab:=I.out;clear g q x
   go_wp2_with (at_builtin;refine Lib.wpList_append_own_string _ rfl _ _ 56 9 rfl w.heap.size 5 i0 underlying56 underlying9 D E F G _ _ _ rfl y.out (dY (eR c)) rfl (by simp[s];unfold maxLen;omega) (by simp[s];omega) l ?_;intro v2 X C Y _)
   have L:Hid (Below w.heap.size w X):=z.out.trans ((Below.refl _ W).grown Y l (fun k Q=>(World.ownsRow.lt y.out k Q).1))
   have M:Hid (iJ X w.heap.size v2 (e++[(c.length:Int)]++eR c)):=by
    show iJ _ _ _ _;unfold iJ;rw[C7 _ J.out,s]at C;rw[length_append,List.map_append];exact C
   have A:Hid (e++[(c.length:Int)]++eR c=(m.take (k+1)).flatMap gB):=by
    show _=_;rw[HT.out,R.out];simp
   clear C Y
   go_roundw
   case rel=>exact⟨k+1,e++[(c.length:Int)]++eR c,by omega,by go_num,A,by rw[A.out];exact H.out,M,L⟩
   case measure=>simp[intOf];omega
  ·obtain rfl:k=m.length:=by omega
   have HS:Hid (iE m=e++[0]):=by
    show _=_;have h:=R.out;rw[take_length]at h;unfold iE;rw[h]
   have p:=t.out.size
   go_wp2_with (at_builtin;refine rV rfl _ _ rfl w.heap.size _ e rfl (S.out.alloc _) ⟨wr.heap.size,0,none⟩ 1 1 rfl [0] rfl (uO wr [0] _ _ rfl) (by omega) (by simp;omega) ?_;intro U V d f;have ac:=wE d (by simp);have N:=hid ((t.out.alloc p _).trans f);clear d f)
   go_ret;exact⟨jY (by rw[HS.out]),N.out⟩
end
section
open Go.RowKit
theorem CS{T:Type}{m m':List (List T)}{k:Nat}(b:k<m.length)(a:k<m'.length)(h:m.take k=m'.take k)(c:m.getD k []=m'.getD k []):m.take (k+1)=m'.take (k+1):=by
 rw[List.take_add_one,List.take_add_one,h,List.getElem?_eq_getElem b,List.getElem?_eq_getElem a];rw[dV _ b,dV _ a]at c;rw[c]
end
section
open Go.Lib (hid)
open Go.Proofs.Tryz Go.RowKit
def gU(l:List Ev):List Int:=if eQ l then iE (dU l)else []
def lL(m:List (List Ev)):List Int:=if ed m.flatten=m then iE m else []
theorem qS(l:List Ev):(ed l).length<=200:=by
 unfold ed
 cases h:eQ l
 ·simp
 ·simp only[if_pos]
  have:=oZ l;unfold eQ at h;simp at h;omega
theorem pd(l:List Ev)(i:Nat):((ed l).getD i []).length<=200:=by
 unfold ed
 cases h:eQ l
 ·simp[List.getD]
 ·simp only[if_pos]
  have:=qR l i;unfold eQ at h;simp at h;omega
theorem yJ(l:List Ev):(ed l).flatten.length<=200:=by
 unfold ed
 cases h:eQ l
 ·simp
 ·simp only[if_pos]
  have:=tM l;unfold eQ at h;simp at h;omega
theorem OwnLv.formF{w:World}{B:Nat}{v:Value}{ss:List Sl}{l:List Ev}(h:OwnLv w B v ss (ed l)):∃a b,v=.slice a (ed l).length b/\iT w a (ed l)/\(a=none->b=0):=
 OwnLv.form h (by have:=qS l;omega) (fun i _=>by have:=pd l i;omega)
theorem yW(a:Option Addr)(cap:Nat)(l:List Ev)(w:World)(k:ei w a l):
  Calls prog 75 #[.slice a l.length cap] w fun r t=>r=.returned (.string (dY (gU l)))/\Below w.heap.size w t:=by
 have b:=hid (zX a cap l w k);have u:=hid k;clear k
 cases e:eQ l
 ·have n:Hid (gU l=[]):=by show _=_;unfold gU;rw[e];rfl
  rw[e]at b;clear e;go_enter func75,ntmps75;go_wp2_with fail;refine b.out.mono ?_;rintro r p⟨rfl,c⟩;clear b;go_wp2;go_ret;exact⟨jY (by rw[n.out];rfl),c⟩
 ·have n:Hid (gU l=iE (ed l)):=by show _=_;unfold gU ed;rw[e];rfl
  rw[e]at b;clear e;go_enter func75,ntmps75;go_wp2_with fail;refine b.out.mono ?_;rintro r p⟨rfl,c⟩;clear b;go_wp2_with fail;refine(I6 a cap l p (u.out.later c)).mono ?_;rintro r x⟨v,z,rfl,q,f⟩;obtain⟨y,j,rfl,g,_⟩:=OwnLv.formF q;have s:=hid (DA y j (ed l) x g (by have:=qS l;omega) (by have:=yJ l;omega) (fun i=>by have:=pd l i;omega));have d:=c.trans (f.mono c.size);clear q g c f;generalize ed l=m at *;go_wp2_with fail;refine s.out.mono ?_;rintro r A⟨rfl,h⟩;have o:=d.trans (h.mono d.size);clear s d h;go_wp2;go_ret;exact⟨jY (by rw[n.out]),o⟩
end
section
open Go.RowKit
def ny:Nat->List UInt8->List (List Ev)
 |0,_=>[]
 |_+1,[]=>[]
 |n+1,c::r=>if c.toNat=0 then []else sO (r.take c.toNat)::ny n (r.drop c.toNat)

def Ny(a b:List Ev):Prop:=dJ a=true/\dJ b=true/\eh a b
def gx(ns:List Int):List UInt8:=ns.map fun n=>UInt8.ofNat n.toNat
theorem Cj(a b:List Int):gx (a++b)=gx a++gx b:=by simp[gx]
theorem Ci(a:List Int):(gx a).length=a.length:=by simp[gx]
def Bv(m:List (List Ev)):Prop:=∀a∈m,1<=a.length/\a.length<=255/\a.all eM=true
theorem Lq{row:List Ev}(h:row.all eM=true):rq (gx (row.map eY))=row:=by
 unfold rq gx;rw[List.map_map,List.map_map]
 conv=>rhs;rw[<-List.map_id row]
 refine List.map_congr_left fun e b=>?_
 have a:=List.all_eq_true.1 h e b;obtain⟨d,f⟩:=uA a;simp only[Function.comp,id];have c:(UInt8.ofNat (eY e).toNat).toNat=(eY e).toNat:=by rw[UInt8.toNat_ofNat'];omega
 rw[c,show(((eY e).toNat:Nat):Int)=eY e by omega,Lx a]
theorem xw{row:List Ev}(h:row.all eM=true):eR row=row.map eY:=by unfold eR;rw[if_pos h]
theorem Fk{row:List Ev}(h:row.all eM=true):sO (gx (eR row))=row:=by
 rw[xw h];have a:=Lq h;unfold sO wS;rw[a,if_pos h]
theorem xD:∀(m:List (List Ev)) (n:Nat),Bv m->m.length<=n->ny n (gx (iE m))=m
 | [],0,_,_=>rfl
 | [],n+1,_,_=>by
  show ny (n+1) [0]=[];unfold ny;rfl
 |row::m,0,_,h=>by simp at h
 |row::m,n+1,a,h=>by
  obtain⟨g,i,b⟩:=a row (by simp)
  have d:gx (iE (row::m))=UInt8.ofNat row.length::(gx (eR row)++gx (iE m)):=by
   unfold iE gB gx;simp
  have e:(UInt8.ofNat row.length).toNat=row.length:=by rw[UInt8.toNat_ofNat'];omega
  have c:(gx (eR row)).length=row.length:=by rw[Ci,xw b,List.length_map]
  rw[d,ny,e,if_neg (by omega),List.take_left' c,List.drop_left' c,Fk b,xD m n (fun r f=>a r (by simp[f])) (by simpa using h)]
theorem wI(l:List Ev):dJ l=l.all eM:=rfl
theorem IP{l:List Ev}(d:dJ l=true)(j:l.length<=200):Bv (dU l):=by
 intro h b;obtain⟨i,f,rfl⟩:=List.mem_iff_getElem.1 b;have a:=(yE l).full i f;have c:=qR l i;rw[dV _ f]at a c;refine⟨List.length_pos_iff.2 a,by omega,List.all_eq_true.2 fun e g=>?_⟩;rw[wI]at d;exact List.all_eq_true.1 d e (yp (List.mem_flatten.2 ⟨_,b,g⟩))
theorem qT{l:List Ev}(a:dJ l=true)(b:l.length<=200):gU l=iE (dU l):=by
 unfold gU eQ;rw[a];simp[b]
theorem JA{l:List Ev}(a:dJ l=false):gU l=[]:=by
 unfold gU eQ;rw[a];simp
theorem xE{l:List Ev}(a:dJ l=true)(b:l.length<=200):ny 200 (gx (gU l))=dU l:=by
 rw[qT a b];exact xD _ _ (IP a b) (by have:=oZ l;omega)
theorem Dz(m:List (List Ev)):gx (iE m)≠[]:=by
 unfold iE;rw[Cj];simp[gx]
theorem Jz{a b:List Ev}(d:dJ a=true)(e:a.length<=200)(c:b.length<=200):gx (gU a)=gx (gU b)↔Ny a b:=by
 constructor
 ·intro h
  cases hb:dJ b
  ·rw[JA hb,qT d e]at h
   exact absurd h (Dz _)
  ·refine⟨d,hb,(tL a b).1 ?_⟩
   rw[<-xE d e,<-xE hb c,h]
 ·rintro⟨_,hb,f⟩
  rw[qT d e,qT hb c,(tL a b).2 f]
end
section
open Go.RowKit Go.Maps Go.Sort
def jN:List (List UInt8)->List (List UInt8)
 | []=>[]
 |x::l=>if x∈l then jN l else x::jN l
theorem nD{x:List UInt8}:∀{l:List (List UInt8)},x∈jN l↔x∈l
 | []=>Iff.rfl
 |y::l=>by
  unfold jN
  split
  ·rename_i h
   rw[nD,List.mem_cons];exact⟨.inr,fun e=>e.elim (fun e=>e▸h) id⟩
  ·rw[List.mem_cons,List.mem_cons,nD]
theorem nB:∀l:List (List UInt8),(jN l).Nodup
 | []=>List.nodup_nil
 |y::l=>by
  unfold jN
  split
  ·exact nB l
  ·rename_i h
   exact List.nodup_cons.2 ⟨fun e=>h (nD.1 e),nB l⟩
theorem Ar:∀l:List (List UInt8),(jN l).length<=l.length
 | []=>Nat.le_refl _
 |y::l=>by
  unfold jN;have:=Ar l
  split
  ·simp;omega
  ·simp;omega
abbrev dk:=List UInt8
def dG(ks:List dk):List dk:=(jN ks).mergeSort (fun x y=>decide (x<=y))
theorem wi{ks L:List dk}(h1:L.Pairwise (fun x y=>decide (x<=y)=true))(h2:L.Nodup)(d:∀x,x∈L↔x∈ks):L=dG ks:=by
 have e:L.Perm (dG ks):=by
  refine((List.perm_ext_iff_of_nodup h2 ?_).2 fun x=>?_).trans (List.mergeSort_perm _ _).symm
  ·exact(nB _)
  ·rw[d,nD]
 have f:∀a b c:dk,decide (a<=b)=true->decide (b<=c)=true->decide (a<=c)=true:=fun a b c h1 h2=>by simp only[decide_eq_true_eq]at *;exact List.le_trans h1 h2
 have g:∀a b:dk,(decide (a<=b)||decide (b<=a))=true:=fun a b=>by simp only[Bool.or_eq_true,decide_eq_true_eq];exact List.le_total a b
 refine List.Perm.eq_of_pairwise (le:=fun a b=>decide (a<=b)=true) (fun a b _ _ h1 h2=>?_) h1 (List.pairwise_mergeSort f g _) e;simp only[decide_eq_true_eq]at h1 h2;exact List.le_antisymm h1 h2
theorem DF{ks ss:List dk}(h2:ss.Nodup)(d:∀x,x∈ss↔x∈ks):ss.mergeSort (fun x y=>decide (x<=y))=dG ks:=by
 have e:∀a b c:dk,decide (a<=b)=true->decide (b<=c)=true->decide (a<=c)=true:=fun a b c f h2=>by simp only[decide_eq_true_eq]at *;exact List.le_trans f h2
 have g:∀a b:dk,(decide (a<=b)||decide (b<=a))=true:=fun a b=>by simp only[Bool.or_eq_true,decide_eq_true_eq];exact List.le_total a b
 refine wi (List.pairwise_mergeSort e g _) ((List.mergeSort_perm ss _).nodup_iff.2 h2) fun x=>?_
 rw[(List.mergeSort_perm ss _).mem_iff];exact d x
theorem yn{ks:List dk}{x:dk}:x∈dG ks↔x∈ks:=by
 unfold dG;rw[(List.mergeSort_perm _ _).mem_iff,nD]
theorem wj(ks:List dk):(dG ks).length<=ks.length:=by
 unfold dG;rw[List.length_mergeSort];exact Ar _
def eE(row:List Ev):dk:=gx (gU row)
def eD(a:rS):List dk:=a.map fun x=>eE x.2
theorem DG(ks:List dk):(dG ks).length=(jN ks).length:=by
 unfold dG;rw[List.length_mergeSort]
end
section
structure PN where
 st:St
 z:Nat
 go:Nat
 gone:Nat
def PN.left(n:PN):List Int:=(ex (dW n.go)).filter fun t=>!(dp n.gone t||dp n.z t)
def PN.awake(n:PN):List Int:=n.st.all.filter fun t=>!dp n.z t
def dX:PN:=⟨⟨⟨0,0,[]⟩,[],[],[]⟩,0,0,0⟩
structure Xp where
 path:List PN
 row:List Ev
 order:List Int
 choices:Nat
 keys:List dk
 nodes:Nat
 runs:Nat
 blocked:Nat
def pick(o:List Int)(c:Nat)(l:List Int):Int:=if l.length=1 then l.getD 0 0 else l.getD (if c<o.length then (o.getD c 0).toNat%l.length else 0) 0
def fH(c:Nat)(l:List Int):Nat:=if l.length=1 then c else c+1
def kC(path:List PN)(i:Nat):List PN:=path.set i { path.getD i dX with go:=dn (path.getD i dX).st.all }
def fU(path:List PN)(rs:List (Nat × Int)):List PN:=rs.foldl (fun p r=>kC p r.1) path
theorem Iv(path:List PN)(rs:List (Nat × Int))(r:Nat × Int):fU path (rs++[r])=kC (fU path rs) r.1:=by
 unfold fU;rw[List.foldl_append];rfl
theorem tJ(path:List PN)(i:Nat):(kC path i).length=path.length:=by unfold kC;rw[List.length_set]
theorem mB(rs:List (Nat × Int)):∀a:List PN,(fU a rs).length=a.length:=by
 induction rs with
 |nil=>intro a;rfl
 |cons r rs b=>intro a;exact(b _).trans (tJ _ _)
def eu(x:Xp)(s:St):List (Nat × Int):=iu s.next x.row s.ts.length
def fY(x:Xp)(s:St)(z:Nat):Xp:=
 let path:=fU x.path (eu x s)
 let n:PN:=⟨s,z,0,0⟩
 if n.awake≠[]then { x with nodes:=x.nodes+1,path:=path++[{ n with go:=dn [pick x.order x.choices n.awake] }],choices:=fH x.choices n.awake }
 else if gG s.all z then { x with nodes:=x.nodes+1,path:=path++[n],blocked:=x.blocked+1 }
 else { x with nodes:=x.nodes+1,path:=path++[n],runs:=x.runs+1,keys:=x.keys++[eE x.row] }
def fI(path:List PN):Nat->Option Nat
 |0=>none
 |k+1=>if (path.getD k dX).left≠[]then some k else fI path k
def dH(x:Xp):Xp:=match fI x.path x.path.length with
 |some k=>{ x with path:=x.path.take (k+1),row:=x.row.take k }
 |none=>{ x with path:=x.path.take 1,row:=x.row.take 0 }
def eF(x:Xp):Bool:=(fI x.path x.path.length).isSome
def eV(x:Xp):PN:=x.path.getD (x.path.length-1) dX
def gO(x:Xp):Xp:=
 let n:=eV x
 let t:=pick x.order x.choices n.left
 fY { x with choices:=fH x.choices n.left,path:=x.path.set (x.path.length-1) { n with gone:=wt n.gone t },row:=x.row++[(n.st.step t).2.1] } (n.st.step t).2.2 (gj n.st.next n.z n.gone t)
def jc:Nat->Xp->Xp
 |0,x=>dH x
 |n+1,x=>if eF x then jc n (gO (dH x))else dH x
def lT(s:St)(order:List Int):Xp:=fY ⟨[],[],order,0,[],0,0,0⟩ s 0
def dx(s:St)(order:List Int)(a:Int):Xp:=jc (a.toNat-1) (lT s order)
theorem tR{path:List PN}:∀{k j:Nat},fI path k=some j->j<k/\(path.getD j dX).left≠[]/\∀i,j<i->i<k->(path.getD i dX).left=[]:=by
 intro k
 induction k with
 |zero=>intro j h;cases h
 |succ k c=>
  intro j h;unfold fI at h
  split at h
  ·rename_i a
   injection h with h;subst h;exact⟨by omega,a,fun i d b=>by omega⟩
  ·rename_i a
   obtain⟨d,b,f⟩:=c h;refine⟨by omega,b,fun i g l=>?_⟩
   by_cases e:i=k
   ·subst e
    exact Classical.not_not.1 a
   ·exact f i g (by omega)
theorem tQ{path:List PN}:∀{k:Nat},fI path k=none->∀i,i<k->(path.getD i dX).left=[]:=by
 intro k
 induction k with
 |zero=>intro _ i a;omega
 |succ k b=>
  intro h i a;unfold fI at h
  split at h
  ·cases h
  ·rename_i c
   by_cases e:i=k
   ·subst e
    exact Classical.not_not.1 c
   ·exact b h i (by omega)
theorem pz{A:Type}(l:List A){i k:Nat}(h:i<k)(d:A):(l.take k).getD i d=l.getD i d:=by
 rw[List.getD_eq_getElem?_getD,List.getD_eq_getElem?_getD,List.getElem?_take_of_lt h]
theorem Ni(x:Xp):eF (dH x)=eF x:=by
 unfold eF dH
 cases h:fI x.path x.path.length with
 |some k=>
  obtain⟨d,b,_⟩:=tR h;show(fI (x.path.take (k+1)) (x.path.take (k+1)).length).isSome=true;rw[List.length_take,Nat.min_eq_left (by omega)];unfold fI;rw[if_pos (by rw[pz _ (by omega)];exact b)];rfl
 |none=>
  show(fI (x.path.take 1) (x.path.take 1).length).isSome=false;have c:=tQ h;rw[List.length_take];rcases Nat.lt_or_ge 0 x.path.length with a|a
  ·rw[Nat.min_eq_left (by omega)]
   unfold fI fI;rw[if_neg (by rw[pz _ (by omega),c 0 a];simp)];rfl
  ·rw[Nat.min_eq_right (by omega),show x.path.length=0 by omega]
   rfl
theorem yA(x:Xp)(s:St)(z:Nat):(fY x s z).nodes=x.nodes+1:=by
 unfold fY;dsimp only
 repeat' split
 all_goals rfl
theorem py(x:Xp):(gO x).nodes=x.nodes+1:=yA _ _ _
theorem nZ(x:Xp):(dH x).nodes=x.nodes/\(dH x).runs=x.runs/\(dH x).keys=x.keys/\(dH x).blocked=x.blocked/\(dH x).order=x.order/\(dH x).choices=x.choices:=by
 unfold dH
 split <;> exact⟨rfl,rfl,rfl,rfl,rfl,rfl⟩
theorem JK(n:Nat):∀x:Xp,eF (jc n x)=true->(jc n x).nodes=x.nodes+n:=by
 induction n with
 |zero=>intro x _;exact(nZ x).1
 |succ n a=>
  intro x h;unfold jc at h ⊢
  split at h
  ·rename_i hx
   rw[if_pos hx,a _ h,py,(nZ x).1];omega
  ·rename_i hx
   rw[Ni]at h;exact absurd h hx
end
end Go.Proofs.YtjfmmnhcddckaaaGreat
