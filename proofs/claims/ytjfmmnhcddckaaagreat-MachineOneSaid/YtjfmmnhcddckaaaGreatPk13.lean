import Derived.Deep.MidRow
import Derived.Test.YtjfmmnhcddckaaaGreatPk12
set_option maxRecDepth 100000
set_option maxHeartbeats 8000000
namespace Go.Proofs.YtjfmmnhcddckaaaGreat
section
open Go.Lib (hid)
open Go.Proofs.Tryz Go.RowKit
open List (append_nil filter_eq_self length_map length_take setIfInBounds_toArray set_cons_succ set_cons_zero take_take)
open Nat (le_refl le_trans mul_one zero_le)
theorem dC.block{w:World}{B:Nat}{v:Value}{l:List Int}(h:dC w B v l)(c:l≠[]):∃g a,v=.slice (some ⟨g,0,none⟩) l.length a/\B<=g/\g<w.heap.size:=by
 obtain⟨i,⟨_,b⟩|⟨g,a,f,d,b,e,_⟩⟩:=h
 ·exact absurd (List.length_eq_zero_iff.1 b) c
 ·exact⟨g,a,d,b,(Array.getElem?_eq_some_iff.1 e).1⟩
theorem nA{w:World}{B n cap:Nat}{a:Option Addr}{l:List Int}(h:dC w B (.slice a n cap) l):l.length=n:=by
 obtain⟨d,⟨b,e⟩|⟨g,cap,c,b,_⟩⟩:=h
 ·injection b with _ b;omega
 ·injection b with _ b;omega
theorem xN{w:World}{B g n cap:Nat}{l:List Int}(h:dC w B (.slice (some ⟨g,0,none⟩) n cap) l):n<=cap:=by
 have d:=nA h;obtain⟨e,⟨a,_⟩|⟨f,b,c,a,i,j,k,_⟩⟩:=h
 ·cases a
 ·injection a with e1 e2 e3
  omega
theorem tj{w:World}{B g n cap:Nat}{l:List Int}(h:dC w B (.slice (some ⟨g,0,none⟩) n cap) l)(k:Nat)(x:Int):dC (w.setCell ⟨g,k,none⟩ (.int .i64 x)) B (.slice (some ⟨g,0,none⟩) n cap) (l.set k x):=by
 have a:=nA h;have b:w.ownsRow B 3 1 (.slice (some ⟨g,0,none⟩) n cap) n (l.map (Value.int .i64)):=by rw[<-a];rw[<-a]at h;exact h
 have c:=(b.stored k (.int .i64 x)).1;unfold dC;rw[List.length_set,a,List.map_set];exact c
theorem xM{B g n cap:Nat}(xs:List Int):∀{w:World} {l:List Int} (k:Nat),dC w B (.slice (some ⟨g,0,none⟩) n cap) l->∃a,dC (w.setCells g k (xs.map (Value.int .i64))) B (.slice (some ⟨g,0,none⟩) n cap) a/\a.take k=l.take k:=by
 induction xs with
 |nil=>intro w l k h;exact⟨l,h,rfl⟩
 |cons x xs b=>
  intro w l k h;obtain⟨a,c,d⟩:=b (k+1) (tj h k x);refine⟨a,c,?_⟩;have:=congrArg (List.take k) d;rw[take_take,take_take,Nat.min_eq_left (by omega),List.take_set_of_le (by omega)]at this;exact this
theorem xL{w:World}{B g n cap:Nat}{l:List Int}(h:dC w B (.slice (some ⟨g,0,none⟩) n cap) l){k:Nat}(o:k<=n):dC w B (.slice (some ⟨g,0,none⟩) k cap) (l.take k):=by
 have p:=nA h;obtain⟨q,⟨b,_⟩|⟨r,d,c,b,e,f,s,i,j,m⟩⟩:=h
 ·cases b
 ·injection b with e1 e2 e3
  injection e1 with e1;injection e1 with e1;subst e1 e3;have a:(l.take k).length=k:=by rw[length_take];omega
  refine⟨by simp,.inr ⟨g,cap,c,by rw[a],e,f,by omega,i,j,?_⟩⟩;have:=congrArg (List.take k) m;rw[take_take,mul_one,Nat.min_eq_left (by omega),<-List.map_take]at this;rw[mul_one,a];exact this
theorem AZ{B g:Nat}(c:B<=g)(b:List Value):∀{a w:World} (k:Nat),Below B a w->Below B a (w.setCells g k b):=by
 induction b with
 |nil=>intro a w k h;exact h
 |cons v b d=>intro a w k h;exact d (k+1) (h.setCell (p:=⟨g,k,none⟩) c v)
theorem kx{w:World}{B g n cap:Nat}{l:List Int}(h:dC w B (.slice (some ⟨g,0,none⟩) n cap) l){k:Nat}(e:k<n):w.cell? ⟨g,k,none⟩=some (.int .i64 (l.getD k 0))/\w.frozen? ⟨g,k,none⟩=false:=by
 have f:=nA h;obtain⟨m,⟨a,_⟩|⟨o,d,j,a,p,b,q,r,s,i⟩⟩:=h
 ·cases a
 ·injection a with e1 e2 e3
  injection e1 with e1;injection e1 with e1;subst e1;have c:(l.map (Value.int .i64))[k]?=some (.int .i64 l[k]):=by simp[f,e]
  rw[<-i,List.getElem?_take_of_lt (by omega)]at c;rw[dV _ (by omega)];refine⟨?_,by simp[World.frozen?,b]⟩;simp[World.cell?,b];simpa using c
theorem vh:∀w,(zeroValue 3).run prog w=.ok (.int .i64 0) w:=(zero_of_info (P:=prog) (t:=3) (v:=.int .i64 0) (n:=1) (by kernel_rfl)).1
theorem wy(w:World)(g k n:Nat):w.setCells g k (List.replicate n (.int .i64 0))=w.setCells g k ((List.replicate n (0:Int)).map (Value.int .i64)):=by rw[List.map_replicate]
def oe(P:Int->Bool)(l:List Int)(z:Int):Prop:=(z=-1/\∀x∈l,P x=false)∨∃k,∃h:k<l.length,z=(k:Int)/\P l[k]=true/\∀j (h:j<l.length),j<k->P l[j]=false
theorem ri(P:Int->Bool)(l:List Int){k:Nat}(h:k<l.length):((l.take (k+1)).filter fun x=>!P x)=((l.take k).filter fun x=>!P x)++if P l[k]=true then []else [l[k]]:=by
 rw[List.take_succ_eq_append_getElem h,List.filter_append]
 congr 1
 cases a:P l[k] <;> simp[a]
def jk(P:Int->Bool)(l a:List Int)(m k:Nat):Prop:=a.take m=((l.take k).filter fun x=>!P x)/\∀i,k<=i->a.getD i 0=l.getD i 0
theorem jk.skip{P:Int->Bool}{l a:List Int}{m k:Nat}(h:jk P l a m k)(b:k<l.length)(c:P l[k]=true):jk P l a m (k+1):=by
 refine⟨?_,fun i d=>h.2 i (by omega)⟩;rw[ri P l b,if_pos c,append_nil];exact h.1
theorem jk.keep{P:Int->Bool}{l a:List Int}{m k:Nat}(h:jk P l a m k)(b:k<l.length)(d:a.length=l.length)(e:m<k)(c:P l[k]=false):jk P l (a.set m l[k]) (m+1) (k+1):=by
 refine⟨?_,fun i f=>?_⟩
 ·rw[ri P l b,if_neg (by rw[c];exact Bool.false_ne_true),<-h.1,List.take_succ_eq_append_getElem (by rw[List.length_set];omega),List.take_set_of_le (le_refl _),List.getElem_set_self]
 ·rw[gr _ _ _ _ _ (by omega),if_neg (by omega)]
  exact h.2 i (by omega)
theorem Kd(z:Nat)(P:Int->Bool)(a:Option Addr)(cap:Nat)(l:List Int)(w:World)(m:iB w a l)
  (u:∀t,Calls prog 70 #[.int .u8 z,.int .i64 t] w fun r n=>r=.returned (.bool (P t))/\w=n):
  Calls prog 112 #[.slice a l.length cap,.func (.func 70) #[.int .u8 z] #[]] w fun r n=>(∃z:Int,r=.returned (.int .i64 z)/\oe P l z)/\w=n:=by
 have A:=m.1;unfold maxLen at A;have B:=hid m;have C:=hid u;clear m u;go_enter func112,ntmps112;go_wp2
 go_loopw [8] (fun i wr=>∃k:Nat,k<=l.length/\i=.int .i64 k/\Hid (∀j (h:j<l.length),j<k->P l[j]=false)/\wr=w) (fun i _=>l.length-(intOf i).toNat)
 case atStart=>exact⟨0,zero_le _,rfl,(fun j _ h=>absurd h (by omega)),rfl⟩
 case round=>
  obtain⟨k,E,rfl,p,rfl⟩:=hrel
  by_cases c:k<l.length
  ·obtain⟨b,o,rfl,v⟩:=B.out.2 (by intro e;simp[e]at c)
   have F:=v k c;have q:Hid (P l[k]=true->oe P l (k:Int)):=fun h=>.inr ⟨k,c,rfl,h,fun j d g=>p.out j d g⟩
   have s:Hid (P l[k]=false->∀j (h:j<l.length),j<k+1->P l[j]=false):=fun h j d g=>by
    by_cases D:j=k
    ·subst D;exact h
    ·exact p.out j d (by omega)
   clear v;generalize l[k]=x at *;go_wp2_with fail;refine(C.out x).mono ?_;rintro r G⟨rfl,rfl⟩
   cases y:P x
   ·have f:=hid (s.out y)
    clear q s;go_wp2
    go_roundw
    case rel=>exact⟨k+1,by omega,by go_num,f,by trivial⟩
    case measure=>simp[intOf];omega
   ·have f:=hid (q.out y)
    clear q s;go_wp2;go_ret;exact⟨⟨k,rfl,f.out⟩,rfl⟩
  ·have f:Hid (oe P l (-1)):=.inl ⟨rfl,fun x hx=>by
    obtain⟨j,d,rfl⟩:=List.mem_iff_getElem.1 hx
    exact p.out j d (by omega)⟩
   obtain rfl:k=l.length:=by omega
   go_wp2;go_ret;exact⟨⟨-1,rfl,f.out⟩,rfl⟩
theorem Ap(z:Nat)(P:Int->Bool)(B:Nat)(a:Option Addr)(cap:Nat)(l:List Int)(w:World)(J:dC w B (.slice a l.length cap) l)(hm:l.length<=1000)(_hB:B<=w.heap.size)
  (L:∀W t,Below B w W->Calls prog 70 #[.int .u8 z,.int .i64 t] W fun r H=>r=.returned (.bool (P t))/\W=H):
  Calls prog 68 #[.slice a l.length cap,.func (.func 70) #[.int .u8 z] #[]] w fun r H=>∃v,r=.returned v/\dC H B v (l.filter fun x=>!P x)/\Below B w H:=by
 obtain⟨a',G,e,A,_⟩:=J.form (by omega);injection e with e1 _ e2;subst e1 e2;have X:=hid (Kd z P a cap l w A (fun t=>L w t (Below.refl _ _)));have I:=hid J;have HF:=hid L;clear J L A;go_enter func68,ntmps68;go_wp2_with fail;refine X.out.mono ?_;rintro r w1⟨⟨z,rfl,hz⟩,rfl⟩;clear X;rcases hz with ⟨rfl,n⟩|⟨s,q,rfl,C,o⟩
 ·have HE:Hid ((l.filter fun x=>!P x)=l):=by
   show _=_;rw[filter_eq_self];intro x hx;rw[n x hx];rfl
  clear n;go_wp2;go_ret;exact⟨_,rfl,by rw[HE.out];exact I.out,Below.refl _ _⟩
 ·obtain⟨g,G,e,D,ab⟩:=I.out.block (by intro e;simp[e]at q)
  injection e with e1 _ e2;subst e1 e2;have hq:((s:Int) == -1)=false:=by simp
  have HD:Hid (jk P l l s (s+1)):=by
   refine⟨?_,fun _ _=>rfl⟩;rw[ri P l q,if_pos C,append_nil]
   symm
   rw[filter_eq_self];intro x hx;obtain⟨j,M,rfl⟩:=List.mem_iff_getElem.1 hx;rw[length_take]at M;rw[List.getElem_take,o j (by omega) (by omega)];rfl
  have S:s+1<=l.length:=q;have ac:l.length<=cap:=xN I.out;clear C o;go_wp2
  go_loopw [5,6] (fun i j wr=>∃(m k:Nat) (b:List Int),m<k/\k<=l.length/\i=.int .i64 m/\j=.int .i64 k/\Hid (jk P l b m k)/\Hid (dC wr B (.slice (some ⟨g,0,none⟩) l.length cap) b)/\Below B w wr) (fun _ j _=>l.length-(intOf j).toNat)
  case atStart=>exact⟨s,s+1,l,by omega,S,rfl,by go_num,HD,I,Below.refl _ _⟩
  case round=>
   obtain⟨m,k,b,T,hk,rfl,rfl,u,c,d⟩:=hrel
   by_cases f:k<l.length
   ·obtain⟨c0,f0⟩:=kx c.out f
    obtain⟨c1,f1⟩:=kx c.out (show m<l.length by omega);have Y:b.getD k 0=l[k]:=by rw[u.out.2 k (le_refl _),dV _ f]
    have E:Hid (b.length=l.length):=nA c.out;rw[Y]at c0;have N:Hid (P l[k]=true->jk P l b m (k+1)):=fun h=>u.out.skip f h
    have O:Hid (P l[k]=false->jk P l (b.set m l[k]) (m+1) (k+1)):=fun h=>u.out.keep f E.out T h
    clear Y u E;generalize l[k]=x at *;generalize b.getD m 0=y at *;go_wp2_with fail;refine(HF.out _ x d).mono ?_;rintro r w2⟨rfl,rfl⟩
    cases Z:P x
    ·have Q:=hid (O.out Z)
     have U:=hid (tj c.out m x);have V:=d.setCell (p:=⟨g,m,none⟩) D (.int .i64 x);clear N O;go_wp2
     go_roundw
     case rel=>exact⟨m+1,k+1,_,by omega,by omega,by go_num,by go_num,Q,U,V⟩
     case measure=>simp[intOf];omega
    ·have Q:=hid (N.out Z)
     clear N O;go_wp2
     go_roundw
     case rel=>exact⟨m,k+1,b,by omega,by omega,rfl,by go_num,Q,c,d⟩
     case measure=>simp[intOf];omega
   ·obtain rfl:k=l.length:=by omega
    have F:∀W,W=wr->∀R,(Builtin.clear_ #[108] R #[.slice (some ⟨g,m,none⟩) (l.length-m) (cap-m)]).run prog W=.ok (.tuple #[]) (W.setCells g m (List.replicate (l.length-m) (.int .i64 0))):=by
     rintro W rfl R;exact Lib.run_clear_slice W _ _ R _ underlying108 vh rfl rfl g m _ _ (by omega) (fun j M=>by rw[(kx c.out (show m+j<l.length by omega)).1];rfl) (fun j M=>(kx c.out (show m+j<l.length by omega)).2)
    have aa:=F _ rfl;clear F
    have HR:Hid (dC (wr.setCells g m (List.replicate (l.length-m) (.int .i64 0))) B (.slice (some ⟨g,0,none⟩) m cap) (l.filter fun x=>!P x)/\Below B w (wr.setCells g m (List.replicate (l.length-m) (.int .i64 0)))):=by
     rw[wy];obtain⟨l',h1,h2⟩:=xM (List.replicate (l.length-m) (0:Int)) m c.out;have h3:=xL h1 (show m<=l.length by omega);rw[h2,u.out.1,List.take_length]at h3;exact⟨h3,AZ D _ _ d⟩
    have ad:m<cap:=by omega
    clear u c;go_wp2;go_ret;exact⟨_,rfl,HR.out.1,HR.out.2⟩
theorem Kc(p:Option Addr)(P:Int->Bool)(a:Option Addr)(cap:Nat)(l:List Int)(w:World)(m:iB w a l)
  (v:∀t,Calls prog 133 #[.int .i64 t,.pointer p] w fun r n=>r=.returned (.bool (P t))/\w=n):
  Calls prog 112 #[.slice a l.length cap,.func (.func 133) #[] #[.pointer p]] w fun r n=>(∃z:Int,r=.returned (.int .i64 z)/\oe P l z)/\w=n:=by
 have B:=m.1;unfold maxLen at B;have C:=hid m;have D:=hid v;clear m v;go_enter func112,ntmps112;go_wp2
 go_loopw [8] (fun i wr=>∃k:Nat,k<=l.length/\i=.int .i64 k/\Hid (∀j (h:j<l.length),j<k->P l[j]=false)/\wr=w) (fun i _=>l.length-(intOf i).toNat)
 case atStart=>exact⟨0,zero_le _,rfl,(fun j _ h=>absurd h (by omega)),rfl⟩
 case round=>
  obtain⟨k,F,rfl,q,rfl⟩:=hrel
  by_cases c:k<l.length
  ·obtain⟨b,o,rfl,y⟩:=C.out.2 (by intro e;simp[e]at c)
   have G:=y k c;have s:Hid (P l[k]=true->oe P l (k:Int)):=fun h=>.inr ⟨k,c,rfl,h,fun j d g=>q.out j d g⟩
   have u:Hid (P l[k]=false->∀j (h:j<l.length),j<k+1->P l[j]=false):=fun h j d g=>by
    by_cases E:j=k
    ·subst E;exact h
    ·exact q.out j d (by omega)
   clear y;generalize l[k]=x at *;go_wp2_with fail;refine(D.out x).mono ?_;rintro r H⟨rfl,rfl⟩
   cases A:P x
   ·have f:=hid (u.out A)
    clear s u;go_wp2
    go_roundw
    case rel=>exact⟨k+1,by omega,by go_num,f,by trivial⟩
    case measure=>simp[intOf];omega
   ·have f:=hid (s.out A)
    clear s u;go_wp2;go_ret;exact⟨⟨k,rfl,f.out⟩,rfl⟩
  ·have f:Hid (oe P l (-1)):=.inl ⟨rfl,fun x hx=>by
    obtain⟨j,d,rfl⟩:=List.mem_iff_getElem.1 hx
    exact q.out j d (by omega)⟩
   obtain rfl:k=l.length:=by omega
   go_wp2;go_ret;exact⟨⟨-1,rfl,f.out⟩,rfl⟩
theorem LR(p:Option Addr)(P:Int->Bool)(B:Nat)(a:Option Addr)(cap:Nat)(l:List Int)(w:World)(J:dC w B (.slice a l.length cap) l)(hm:l.length<=1000)(_hB:B<=w.heap.size)
  (L:∀W t,Below B w W->Calls prog 133 #[.int .i64 t,.pointer p] W fun r H=>r=.returned (.bool (P t))/\W=H):
  Calls prog 68 #[.slice a l.length cap,.func (.func 133) #[] #[.pointer p]] w fun r H=>∃v,r=.returned v/\dC H B v (l.filter fun x=>!P x)/\Below B w H:=by
 obtain⟨a',G,e,A,_⟩:=J.form (by omega);injection e with e1 _ e2;subst e1 e2;have X:=hid (Kc p P a cap l w A (fun t=>L w t (Below.refl _ _)));have I:=hid J;have HF:=hid L;clear J L A;go_enter func68,ntmps68;go_wp2_with fail;refine X.out.mono ?_;rintro r w1⟨⟨z,rfl,hz⟩,rfl⟩;clear X;rcases hz with ⟨rfl,n⟩|⟨s,q,rfl,C,o⟩
 ·have HE:Hid ((l.filter fun x=>!P x)=l):=by
   show _=_;rw[filter_eq_self];intro x hx;rw[n x hx];rfl
  clear n;go_wp2;go_ret;exact⟨_,rfl,by rw[HE.out];exact I.out,Below.refl _ _⟩
 ·obtain⟨g,G,e,D,ab⟩:=I.out.block (by intro e;simp[e]at q)
  injection e with e1 _ e2;subst e1 e2;have hq:((s:Int) == -1)=false:=by simp
  have HD:Hid (jk P l l s (s+1)):=by
   refine⟨?_,fun _ _=>rfl⟩;rw[ri P l q,if_pos C,append_nil]
   symm
   rw[filter_eq_self];intro x hx;obtain⟨j,M,rfl⟩:=List.mem_iff_getElem.1 hx;rw[length_take]at M;rw[List.getElem_take,o j (by omega) (by omega)];rfl
  have S:s+1<=l.length:=q;have ac:l.length<=cap:=xN I.out;clear C o;go_wp2
  go_loopw [5,6] (fun i j wr=>∃(m k:Nat) (b:List Int),m<k/\k<=l.length/\i=.int .i64 m/\j=.int .i64 k/\Hid (jk P l b m k)/\Hid (dC wr B (.slice (some ⟨g,0,none⟩) l.length cap) b)/\Below B w wr) (fun _ j _=>l.length-(intOf j).toNat)
  case atStart=>exact⟨s,s+1,l,by omega,S,rfl,by go_num,HD,I,Below.refl _ _⟩
  case round=>
   obtain⟨m,k,b,T,hk,rfl,rfl,u,c,d⟩:=hrel
   by_cases f:k<l.length
   ·obtain⟨c0,f0⟩:=kx c.out f
    obtain⟨c1,f1⟩:=kx c.out (show m<l.length by omega);have Y:b.getD k 0=l[k]:=by rw[u.out.2 k (le_refl _),dV _ f]
    have E:Hid (b.length=l.length):=nA c.out;rw[Y]at c0;have N:Hid (P l[k]=true->jk P l b m (k+1)):=fun h=>u.out.skip f h
    have O:Hid (P l[k]=false->jk P l (b.set m l[k]) (m+1) (k+1)):=fun h=>u.out.keep f E.out T h
    clear Y u E;generalize l[k]=x at *;generalize b.getD m 0=y at *;go_wp2_with fail;refine(HF.out _ x d).mono ?_;rintro r w2⟨rfl,rfl⟩
    cases Z:P x
    ·have Q:=hid (O.out Z)
     have U:=hid (tj c.out m x);have V:=d.setCell (p:=⟨g,m,none⟩) D (.int .i64 x);clear N O;go_wp2
     go_roundw
     case rel=>exact⟨m+1,k+1,_,by omega,by omega,by go_num,by go_num,Q,U,V⟩
     case measure=>simp[intOf];omega
    ·have Q:=hid (N.out Z)
     clear N O;go_wp2
     go_roundw
     case rel=>exact⟨m,k+1,b,by omega,by omega,rfl,by go_num,Q,c,d⟩
     case measure=>simp[intOf];omega
   ·obtain rfl:k=l.length:=by omega
    have F:∀W,W=wr->∀R,(Builtin.clear_ #[108] R #[.slice (some ⟨g,m,none⟩) (l.length-m) (cap-m)]).run prog W=.ok (.tuple #[]) (W.setCells g m (List.replicate (l.length-m) (.int .i64 0))):=by
     rintro W rfl R;exact Lib.run_clear_slice W _ _ R _ underlying108 vh rfl rfl g m _ _ (by omega) (fun j M=>by rw[(kx c.out (show m+j<l.length by omega)).1];rfl) (fun j M=>(kx c.out (show m+j<l.length by omega)).2)
    have aa:=F _ rfl;clear F
    have HR:Hid (dC (wr.setCells g m (List.replicate (l.length-m) (.int .i64 0))) B (.slice (some ⟨g,0,none⟩) m cap) (l.filter fun x=>!P x)/\Below B w (wr.setCells g m (List.replicate (l.length-m) (.int .i64 0)))):=by
     rw[wy];obtain⟨l',h1,h2⟩:=xM (List.replicate (l.length-m) (0:Int)) m c.out;have h3:=xL h1 (show m<=l.length by omega);rw[h2,u.out.1,List.take_length]at h3;exact⟨h3,AZ D _ _ d⟩
    have ad:m<cap:=by omega
    clear u c;go_wp2;go_ret;exact⟨_,rfl,HR.out.1,HR.out.2⟩
theorem Gw{w:World}{B N cap:Nat}{a:Option Addr}{rs:List (Nat × Int)}{t:TypeId}(h:dc w B t 2 eN (.slice a N cap) rs){k:Nat}(e:k<rs.length):∃g,a=some ⟨g,0,none⟩/\w.cell? ⟨g,k*2,none⟩=some (.int .i64 (rs[k].1:Nat))/\w.cell? ⟨g,k*2+1,none⟩=some (.int .i64 rs[k].2):=by
 obtain⟨o,⟨_,b⟩|⟨g,d,n,f,p,i,q,r,s,l⟩⟩:=h
 ·omega
 ·injection f with e1 e2 e3
  have c:∀j,j<2->w.cell? ⟨g,k*2+j,none⟩=(eN rs[k])[j]?:=by
   intro j m;have b:=ik mv rs k j e m;rw[<-l,List.getElem?_take_of_lt (by omega)]at b;rw[<-b];simp[World.cell?,i]
  exact⟨g,e1,c 0 (by omega),c 1 (by omega)⟩
theorem GA{w:World}{B A:Nat}{v:Value}{l:List Ev}(h:dr w B v l)(e:A<=B):dr w A v l:=by
 obtain⟨d,a|⟨g,b,c,a,f,i,j⟩⟩:=h
 ·exact⟨d,.inl a⟩
 ·exact⟨d,.inr ⟨g,b,c,a,le_trans e f,i,j⟩⟩
theorem Fx{nx:Int->Option Ev}{l:List Ev}{n:Nat}:∀r∈iu nx l n,r.1<l.length:=by
 intro r a;obtain⟨k,_,_,f,_,b⟩:=oX.1 (show(r.1,r.2)∈_ from a);exact(tE.1 b).1
section
variable{p:Pg}{fuel:Int}{B b W Bud tb mb wb kb:Nat}{S:Nat->Prop}{m:Mac}{w:World}
structure OpnR(p:Pg)(fuel:Int)(B b W Bud tb mb wb kb:Nat)(S:Nat->Prop)(m:Mac)(L:Nat->Prop)(g:Nat)(z1:St)(er rv:Value)(es:List Ev)(RS:List (Nat × Int))(w wr:World):Prop where
 k:kk p fuel B b W Bud tb mb wb kb S m L w wr
 st:di wr g z1
 ev:dr wr w.heap.size er es
 rc:dc wr w.heap.size 137 2 eN rv RS
 lg:L g
 le:∀y,er.ownBlock=some y->L y
 lr:∀y,rv.ownBlock=some y->L y
theorem OpnR.later{L:Nat->Prop}{g:Nat}{z1:St}{a c:Value}{d:List Ev}{e:List (Nat × Int)}{wr w':World}(h:OpnR p fuel B b W Bud tb mb wb kb S m L g z1 a c d e w wr)(hb:Below wr.heap.size wr w'):OpnR p fuel B b W Bud tb mb wb kb S m L g z1 a c d e w w':=
 ⟨h.k.later hb,h.st.later hb,h.ev.later hb,h.rc.later hb,h.lg,h.le,h.lr⟩
theorem OpnR.own{L:Nat->Prop}{g:Nat}{z1:St}{f i:Value}{j:List Ev}{l:List (Nat × Int)}{wr:World}{m':Mac}(h:OpnR p fuel B b W Bud tb mb wb kb S m L g z1 f i j l w wr){F:FuncId}{args:Array Value}{V:Ending->Prop}(q:∀n,MY p fuel B b W Bud tb mb wb kb n m wr->Calls prog F args wr fun r c=>V r/\dz p fuel B b W Bud tb mb wb kb n m' wr c):
  Calls prog F args wr fun r c=>V r/\OpnR p fuel B b W Bud tb mb wb kb S m' L g z1 f i j l w c:=
 (h.k.own q).mono fun _ _ ⟨e,k,o⟩=>⟨e,k,h.st.onlyS o (fun a=>a h.lg),h.ev.onlyS o (fun y d a=>a (h.le y d)),h.rc.onlyS o (fun y d a=>a (h.lr y d)),h.lg,h.le,h.lr⟩
theorem xU(h:MY p fuel B b W Bud tb mb wb kb S m w)(hg:dF p fuel=true)(hW:W<=64){j:Nat}(hj:j<W){k:dl}{asl:Nat}(ha:asl<256)(d:Int){z1:St}{H:Nd}{T:List Nd}
  (hr:dQ p fuel (dB k)=(0,H.row,some z1)) (aZ:(d' p fuel m.l k asl j).1=0) (z:PreM p fuel W Bud { m with l:=(d' p fuel m.l k asl j).2 } T H k asl) (hT:T.length<=600) (a0:dT W m.box<=90000) (hl:m.l.length<=1000000):
  Calls prog 36 #[.pointer (some ⟨b,0,none⟩),.int .i64 (j:Int),.string ⟨k.toArray⟩,.int .u8 (asl:Nat),.int .i64 d] w fun r G=>r=.returned (.tuple #[])/\dz p fuel B b W Bud tb mb wb kb S (jr p fuel W j k asl d m) w G:=by
 obtain⟨⟨c0,c1,c2,c3,c4,c5,c6⟩,_⟩:=h.cells;have bR:=sJ hr;have aF:=(lI hg).1;obtain⟨a3,bF⟩:=rn hr;have ac:z1.Ok fuel.toNat:=a3.ok aF;have ab:=EC hr;have an:H.row.length=k.length:=by rw[qy hr,mo]
 obtain⟨m0,J⟩:∃m0:Mac,m0={ m with l:=(d' p fuel m.l k asl j).2 }:=⟨_,rfl⟩
 have au:kN m0.l k asl:=by rw[J];exact Iz aZ hr
 rw[<-J]at z;have a5:=hid ((dz.refl h).call (m':=m0) (fun Sp q=>by rw[J];exact F8 q (by omega) ha j hl) (by rw[J]) (by rw[J]) (by rw[J]))
 have a6:Hid (∀V,dz p fuel B b W Bud tb mb wb kb S m0 w V->Calls prog 65 #[.pointer (some ⟨tb,0,none⟩),.string ⟨k.toArray⟩] V fun r G=>∃g v,r=.returned (.tuple #[.pointer (some ⟨g,0,none⟩),v,.int .i64 0])/\V.heap.size<=g/\di G g z1/\dr G V.heap.size v H.row/\Below V.heap.size V G):=fun V r=>by
  obtain⟨Sp,q⟩:=r.pm
  exact(Gd q (by omega) hr).mono fun r G ⟨g,v,e,F,h2,_,h3,h4⟩=>⟨g,v,e,F,h2,h3,h4⟩
 have bC:dT W m0.box<=90000:=by rw[J];exact a0
 obtain⟨D,aw⟩:∃D,D=iu z1.next H.row z1.ts.length:=⟨_,rfl⟩
 have ah:gS p fuel k=D.map Prod.fst:=by
  unfold gS;rw[(jV hr).1,(jV hr).2,aw]
 have a7:iv H.row=H.row:=by unfold iv;rw[if_pos ab]
 have bU:D.length<=132:=by
  have:=Fv hg hr ac.len4;rw[ah,length_map]at this;exact this
 obtain⟨I,Q⟩:∃I:Nat->Mac,I=fun i=>((gS p fuel k).take i).foldl (fb p fuel W j k) m0:=⟨_,rfl⟩
 have C:Hid (∀i,CoreM p fuel W (I i) T/\KeepM W m0 (I i)):=fun i=>by
  obtain⟨a1,a2,_⟩:=wZ hg hj z.mem z.row ((gS p fuel k).take i) z.core;rw[Q];exact⟨a1,a2⟩
 have a9:Hid (∀i,dT W (I i).box<100000):=fun i=>by
  have F:=Gl hg hj z.mem z.row ((gS p fuel k).take i) z.core
  have h2:((gS p fuel k).take i).length<=132:=by
   rw[ah,length_take,length_map];omega
  rw[Q];dsimp only;omega
 have aO:Hid (∀i {V:World} {S1:Nat->Prop},MY p fuel B b W Bud tb mb wb kb S1 (I i) V->dS W (I i).wk<100000):=fun i V S1 h=>by
  obtain⟨Sp,q⟩:=h.pm;have F:=vm q.noW (fun q hq=>((C.out i).1.work.iff q).1 hq);have h2:=(C.out i).1.tree.len;omega
 have ba:Hid (∀i,kN (I i).l k asl):=fun i=>by
  rw[Q];exact au.races _
 have av:Hid (∀i (hi:i<D.length),I (i+1)=fb p fuel W j k (I i) D[i].1):=fun i hi=>by
  rw[Q];dsimp only;rw[ah,List.take_succ_eq_append_getElem (by rw[length_map];exact hi),List.foldl_append,List.getElem_map];rfl
 have aG:Hid (∀i (A:Nat),∃v,v<W/\gL (I i).l (k.take A)=(v:Nat)/\dw (I i).l (k.take A) 255=dw (I i).l (k.take A) (dn (ir p fuel (k.take A)).all)/\(k.take A).length<=33):=fun i A=>Bc hg (C.out i).1 z.mem z.row A
 have Z:Hid (jr p fuel W j k asl d m=gu p fuel W j k asl d (I D.length)):=by
  show _=_;unfold jr;rw[Q,<-J];dsimp only;rw[List.take_of_length_le (by rw[ah,length_map];exact le_refl _)]
 have bb:Hid (∀i (hi:i<D.length),D[i].1<k.length):=fun i hi=>by
  rw[<-an];exact Fx _ (by rw[<-aw];exact List.getElem_mem hi)
 have bc:Hid (I 0=m0):=by show _=_;rw[Q];rfl
 have bd:Hid (∀i,((I i).keys j).length<=600/\(I i).blk<=600):=fun i=>by
  obtain⟨b1,b2,_⟩:=FY z hj;rw[(C.out i).2.keys,(C.out i).2.blk];omega
 have ad:=hid ac;have O:=hid hr;have bV:=hid an
 have be:Hid (∀V g a c,di V g z1->ei V a H.row->Calls prog 66 #[.pointer (some ⟨g,0,none⟩),.slice a H.row.length c] V fun r G=>∃rv,r=.returned rv/\dc G V.heap.size 137 2 eN rv D/\Below V.heap.size V G):=fun V g a c F h2=>by
  have:=wW F ac ac.len4 a c H.row h2 (by omega);unfold pU at this;rw[a7,<-aw]at this;exact this
 have h4:=mS ac;have bW:H.row.length<=33:=by omega
 clear h hg hT J z au aZ a0 hl hr a3 bF ac aF ab an aw ah a7 Q bC c1 c2 c3 c4 c5 c6;go_enter func36,ntmps36;go_wp2_with fail;refine a5.out.mono ?_;rintro r w1⟨rfl,r1⟩;have R1:=hid r1;obtain⟨⟨c0,_⟩,_⟩:=r1.cells;clear r1 a5;go_wp2_with fail;refine(a6.out w1 R1.out).mono ?_;rintro r w2⟨g,er,rfl,bf,aP,aQ,bg⟩;obtain⟨ea,ec,rfl,aH,_⟩:=aQ.form2 (by omega);have aI:=hid (be.out w2 g ea ec aP aH);have ai:=hid aP;have aR:=hid aQ;have aj:=hid bg;have bh:=hid bf;clear aP aQ aH bg bf a6 be c0;go_wp2_with fail;refine aI.out.mono ?_;rintro r w3⟨rv,rfl,ax,ae⟩;obtain⟨ra,rc,rfl,_,bX,_⟩:=dc.form2 ax mv (by omega);have bi:Hid (Below w1.heap.size w1 w3):=aj.out.trans (ae.mono aj.out.size);have aS:=R1.out.size
 obtain⟨L,hL⟩:∃L:Nat->Prop,L=fun x=>x=g∨(Value.slice ea H.row.length ec).ownBlock=some x∨(Value.slice ra D.length rc).ownBlock=some x:=⟨_,rfl⟩
 have HO:Hid (OpnR p fuel B b W Bud tb mb wb kb S (I 0) L g z1 (.slice ea H.row.length ec) (.slice ra D.length rc) H.row D w w3):=by
  refine⟨?_,ai.out.later ae,?_,?_,by rw[hL];exact .inl rfl,fun y hy=>by rw[hL];exact .inr (.inl hy),fun y hy=>by rw[hL];exact .inr (.inr hy)⟩
  ·rw[bc.out]
   refine R1.out.beside bi.out fun x hx=>?_
   rw[hL]at hx;rcases hx with rfl|hx|hx
   ·exact⟨bh.out,(ai.out.later ae).lt⟩
   ·have:=World.ownsRow.lt (aR.out.later ae) x hx
    exact this
   ·have:=World.ownsRow.lt ax x hx
    exact⟨le_trans aj.out.size this.1,this.2⟩
  ·exact GA (aR.out.later ae) aS
  ·exact xI ax (le_trans aS aj.out.size)
 clear hL ax ae bi aI ai aR aj bh R1 aS bc;go_wp2_with fail
 go_loopw [38] (fun i wr=>∃q:Nat,q<=D.length/\i=.int .i64 q/\Hid (OpnR p fuel B b W Bud tb mb wb kb S (I q) L g z1 (.slice ea H.row.length ec) (.slice ra D.length rc) H.row D w wr)) (fun i _=>D.length-(intOf i).toNat)
 case atStart=>exact⟨0,zero_le _,rfl,HO.out⟩
 case round=>
  obtain⟨q,hq,rfl,M⟩:=hrel
  by_cases aT:q<D.length
  ·obtain⟨g2,rfl,d0,d1⟩:=Gw M.out.rc aT
   have bY:=bb.out q aT;have bj:=hid (av.out q aT);generalize D[q].1=A at *;generalize D[q].2=Tt at *;obtain⟨v,hv,ho,hs,bk⟩:=aG.out q A;have bl:=da wr (.cells #[.int .i64 (A:Nat),.int .i64 Tt] 137);have e0:(wr.alloc (.cells #[.int .i64 (A:Nat),.int .i64 Tt] 137)).cell? ⟨wr.heap.size,0,none⟩=some (.int .i64 (A:Nat)):=by rw[World.cell?_alloc_new];rfl
   have bm:=hid (M.out.later bl)
   have HA:=hid (bm.out.own (m':=I (q+1)) (fun S1 F=>by
    rw[bj.out]
    exact Nc F hW (aO.out q F) (a9.out q) hj (by omega) hv ho hs))
   have hcut:(⟨k.toArray⟩:ByteArray).extract 0 A=⟨(k.take A).toArray⟩:=rB k A;have bZ:(⟨k.toArray⟩:ByteArray).size=k.length:=by simp[ByteArray.size]
   have b0:(q:Int)<(D.length:Int):=by omega
   have b3:(A:Int)<=(k.length:Int):=by omega
   clear bl M bm ho hs hv bk bj;go_wp2_with fail;refine HA.out.mono ?_;rintro r w5⟨rfl,h5⟩;have bG:=hid h5;clear h5;go_wp2
   go_roundw
   case rel=>exact⟨q+1,by omega,by go_num,bG.out⟩
   case measure=>simp[intOf];omega
  ·obtain rfl:q=D.length:=by omega
   have aJ:=hid (lu M.out.st ad.out)
   have bn:dS W (I D.length).wk<100000:=by
    obtain⟨S1,F,_⟩:=M.out.k;exact aO.out _ F
   have aK:=hid bn;have aL:=hid (ba.out D.length);have aM:=hid (C.out D.length).1.tree;have P:=hid (bd.out D.length);generalize I D.length=E at *;clear aO ba C bd a9 aG av bb HO bn;go_wp2_with fail;refine aJ.out.mono ?_;rintro r w4⟨v4,rfl,aU,aV⟩;obtain⟨a4,c4,rfl,_,_⟩:=aU.form (by omega);have aN:=hid (Ap asl (dp asl) wr.heap.size a4 c4 z1.all w4 aU (by omega) aV.size (fun W' t _=>nO ha t W'));have bo:=hid aV;clear aU aV aJ;go_wp2_with fail;refine aN.out.mono ?_;rintro r N⟨v8,rfl,ak,bp⟩;have ak:dC N wr.heap.size v8 (fu z1 asl):=ak;have bH:(fu z1 asl).length<=8:=le_trans (List.length_filter_le _ _) (by omega);obtain⟨a8,c8,rfl,_,_⟩:=ak.form (by omega);have ay:Hid (Below wr.heap.size wr N):=bo.out.trans bp;have af:=hid (M.out.later ay.out);have az:=hid ak
   have aA:Hid (∀x∈fu z1 asl,x∈z1.all/\(0<=x/\x<8)/\dp asl x=false):=fun x hx=>by
    have F:=List.mem_filter.1 hx;exact⟨F.1,mR ad.out x F.1,by simpa using F.2⟩
   have aB:Hid (fu z1 asl=[]->gG z1.all asl=false->gu p fuel W j k asl d E={ E with keys:=db E.keys j (E.keys j++[eE H.row]) }):=fun F h2=>LB O.out F h2
   have aC:Hid (fu z1 asl=[]->gG z1.all asl=true->gu p fuel W j k asl d E={ E with blk:=E.blk+1 }):=fun F h2=>LG O.out F h2
   have aW:Hid (fu z1 asl≠[]->gu p fuel W j k asl d E=fT W j k (dn [(fu z1 asl).getD (dD d (fu z1 asl).length) 0]) E):=fun F=>Lz O.out F
   have aX:Hid (∀x∈fu z1 asl,dt (dw E.l k (dn [x])).2 k≠0):=fun x hx=>LA aM.out aL.out O.out (aA.out x hx).1 (aA.out x hx).2.1 (aA.out x hx).2.2
   generalize fu z1 asl=AW at *;clear ak bp aN aL aM O aA bo
   by_cases hA:AW=[]
   ·have ag:=hid (AR (some ⟨g,0,none⟩) z1.all (mR ad.out) (by omega) ha N (lu af.out.st ad.out))
    have ao:Hid (∀V,Below N.heap.size N V->Calls prog 75 #[.slice ea H.row.length ec] V fun r G=>r=.returned (.string ⟨(eE H.row).toArray⟩)/\Below V.heap.size V G):=fun V hb=>yW ea ec H.row V (dr.at_ (af.out.ev.later hb) (by omega))
    have R8:=hid af.out.k.toR;subst hA;clear az af M ay aW aX ad bH
    cases hb:gG z1.all asl
    ·rw[hb]at ag
     have HF:=hid (aB.out rfl hb);clear aB aC hb;go_wp2_with fail;refine ag.out.mono ?_;rintro r w9⟨rfl,R⟩;have R9:=hid (R8.out.later R);have bI:Hid (∀V,Below w9.heap.size w9 V->Calls prog 75 #[.slice ea H.row.length ec] V fun r G=>r=.returned (.string ⟨(eE H.row).toArray⟩)/\Below V.heap.size V G):=fun V hb=>ao.out V (R.trans (hb.mono R.size))
     clear R R8 ao ag;generalize eE H.row=K0 at *;obtain⟨kv,al,bq⟩:=R9.out.keyed hj K0;obtain⟨ka,kc,rfl,_,_⟩:=dc.form2 (al _ (Below.refl _ _)).2.2.1 fP (by have:=P.out.1;omega);have bJ:=hid bq
     have U:Hid (∀V,Below w9.heap.size w9 V->V.cell? ⟨kb,j,none⟩=some (.slice ka (E.keys j).length kc)/\V.cell? ⟨b,3,none⟩=some (.slice (some ⟨kb,0,none⟩) W W)):=fun V hb=>⟨(al V hb).1,(al V hb).2.1⟩
     have br:Hid (∀V,Below w9.heap.size w9 V->dc V B 9 1 du (.slice ka (E.keys j).length kc) (E.keys j)/\B<=V.heap.size):=fun V hb=>(al V hb).2.2
     have bk:=P.out.1;have b4:(j:Int)<(W:Int):=by omega
     have aa:Below w9.heap.size w9 w9.drew:=(Below.refl _ _).drew;clear al bq P R9;have s:=U.out w9.drew aa;go_wp2_with fail;refine m7 (S:=fun V=>V.cell? ⟨kb,j,none⟩=some (.slice ka (E.keys j).length kc)/\V.cell? ⟨b,3,none⟩=some (.slice (some ⟨kb,0,none⟩) W W)) (k:=17) (by kernel_rfl) ?_;refine dK 0 (v:=?_) [17] rfl (by kernel_rfl) (by kernel_rfl) (fun _ _ _ h=>h) s ?_ ?_
     rotate_left
     ·intro w hSw
      try dsimp only at hSw
      go_simp
      with_reducible rfl
     try simp only[Act.put,setIfInBounds_toArray]
     refine dK 1 (v:=?_) [17] rfl (by kernel_rfl) (by kernel_rfl) (fun _ _ _ h=>h) s ?_ ?_
     rotate_left
     ·intro w hSw
      try dsimp only at hSw
      go_simp
      with_reducible rfl
     try simp only[Act.put]
     refine dK 2 (v:=?_) [17] rfl (by kernel_rfl) (by kernel_rfl) (fun _ _ _ h=>h) s ?_ ?_
     rotate_left
     ·intro w hSw
      try dsimp only at hSw
      go_simp
      with_reducible rfl
     try simp only[Act.put]
     refine dK 3 (v:=?_) [17] rfl (by kernel_rfl) (by kernel_rfl) (fun _ _ _ h=>h) s ?_ ?_
     rotate_left
     ·intro w hSw
      try dsimp only at hSw
      go_simp
      with_reducible rfl
     try simp only[Act.put]
     refine dK 4 (v:=?_) [17] rfl (by kernel_rfl) (by kernel_rfl) (fun _ _ _ h=>h) s ?_ ?_
     rotate_left
     ·intro w hSw
      try dsimp only at hSw
      go_simp
      with_reducible rfl
     try simp only[Act.put]
     refine dK 5 (v:=?_) [17] rfl (by kernel_rfl) (by kernel_rfl) (fun _ _ _ h=>h) s ?_ ?_
     rotate_left
     ·intro w hSw
      try dsimp only at hSw
      go_simp
      with_reducible rfl
     try simp only[Act.put]
     refine dK 6 (v:=?_) [17] rfl (by kernel_rfl) (by kernel_rfl) (fun _ _ _ h=>h) s ?_ ?_
     rotate_left
     ·intro w hSw
      try dsimp only at hSw
      go_simp
      with_reducible rfl
     try simp only[Act.put]
     refine dK 7 (v:=?_) [17] rfl (by kernel_rfl) (by kernel_rfl) (fun _ _ _ h=>h) s ?_ ?_
     rotate_left
     ·intro w hSw
      try dsimp only at hSw
      go_simp
      with_reducible rfl
     try simp only[Act.put]
     refine dK 8 (v:=?_) [17] rfl (by kernel_rfl) (by kernel_rfl) (fun _ _ _ h=>h) s ?_ ?_
     rotate_left
     ·intro w hSw
      try dsimp only at hSw
      go_simp
      with_reducible rfl
     try simp only[Act.put]
     refine dK 9 (v:=?_) [17] rfl (by kernel_rfl) (by kernel_rfl) (fun _ _ _ h=>h) s ?_ ?_
     rotate_left
     ·intro w hSw
      try dsimp only at hSw
      go_simp
      with_reducible rfl
     try simp only[Act.put]
     refine dK 10 (v:=?_) [17] rfl (by kernel_rfl) (by kernel_rfl) (fun _ _ _ h=>h) s ?_ ?_
     rotate_left
     ·intro w hSw
      try dsimp only at hSw
      go_simp
      with_reducible rfl
     try simp only[Act.put]
     refine dK 11 (v:=?_) [17] rfl (by kernel_rfl) (by kernel_rfl) (fun _ _ _ h=>h) s ?_ ?_
     rotate_left
     ·intro w hSw
      try dsimp only at hSw
      go_simp
      with_reducible rfl
     try simp only[Act.put]
     refine dK 12 (v:=?_) [17] rfl (by kernel_rfl) (by kernel_rfl) (fun _ _ _ h=>h) s ?_ ?_
     rotate_left
     ·intro w hSw
      try dsimp only at hSw
      go_simp
      with_reducible rfl
     try simp only[Act.put]
     refine fg (i:=13) (by kernel_rfl) rfl (fun K hK=>?_)
     go_simp
     refine(bI.out _ aa).mono ?_;rintro r am⟨rfl,bD⟩;have ap:=aa.trans (bD.mono aa.size);have aD:=ap.trans ((da am (.cells #[.string ⟨K0.toArray⟩] 9)).mono ap.size);refine hK.out _ _ (fun _=>U.out _ ap) ?_;clear hK K
     try simp only[Act.put,setIfInBounds_toArray,set_cons_zero,set_cons_succ]
     refine fg (i:=14) (by kernel_rfl) rfl (fun K hK=>?_)
     go_simp
     refine hK.out _ _ (fun _=>U.out _ aD) ?_;clear hK K
     try simp only[Act.put,setIfInBounds_toArray,set_cons_zero,set_cons_succ]
     refine fg (i:=15) (by kernel_rfl) rfl (fun K hK=>?_);refine lG (f:=du) (n:=1) 30 9 16 (.string ByteArray.empty) underlying30 ju (by rfl) (by omega) (by omega) fP (by rfl) _ _ (by rfl) B _ (E.keys j) (by rfl) (br.out _ aD).1 ⟨am.heap.size,0,none⟩ (by rfl) K0 (jo _) (gw am (du K0) _ _ rfl) (by omega) (br.out _ aD).2 ?_;intro v6 w6 h6 b5 bK bL;obtain⟨g6,bS,bs,_,_⟩:=dc.block h6 (by simp);rw[List.length_append,List.length_singleton]at bs;subst bs;have X:=hid (bJ.out _ _ _ aD h6 bK bL);have bM:=X.out.2.2.1;have b6:=X.out.1;refine hK.out _ _ (fun _=>⟨X.out.1,X.out.2.1⟩) ?_;clear hK K
     try simp only[Act.put,setIfInBounds_toArray]
     refine fg (i:=16) (by kernel_rfl) rfl (fun K hK=>?_)
     go_simp
     refine hK.out _ _ (fun _=>⟨X.out.1,X.out.2.1⟩) ?_;clear hK K
     try simp only[Act.put,setIfInBounds_toArray,set_cons_zero,set_cons_succ]
     refine fg (i:=17) (by kernel_rfl) rfl (fun K hK=>?_)
     go_simp
     refine hK.out _ _ (fun h=>absurd rfl h) ?_;clear hK K
     try simp only[Act.put,setIfInBounds_toArray,set_cons_zero,set_cons_succ]
     refine m9 (by kernel_rfl) ?_ _;clear s;go_wp2;exact bodyPost_end (results_none rfl _ _ _) rfl ⟨rfl,by rw[Z.out,HF.out];exact X.out.2.2.2⟩
    ·rw[hb]at ag
     have HF:=hid (aC.out rfl hb);clear aB aC hb ao;go_wp2_with fail;refine ag.out.mono ?_;rintro r w9⟨rfl,R⟩;have R9:=hid (R8.out.later R);obtain⟨⟨_,_,_,_,_,_,c6⟩,f6⟩:=R9.out.cells;have bM:=f6 6;have b7:=P.out.2;have ai:Hid (dz p fuel B b W Bud tb mb wb kb S { E with blk:=E.blk+1 } w (w9.setCell ⟨b,6,none⟩ (.int .i64 ((E.blk:Int)+1)))):=R9.out.andThen fun S' h=>h.stored (i:=6) (u:=.int .i64 ((E.blk:Int)+1)) (blk':=E.blk+1) (over':=E.over) (by rw[show Value.int .i64 ((E.blk:Int)+1)=.int .i64 ((E.blk+1:Nat):Int)from by rw[Int.natCast_add];rfl];rfl)
     clear R R8 ag f6 R9;go_wp2;exact bodyPost_end (results_none rfl _ _ _) rfl ⟨rfl,by rw[Z.out,HF.out];exact ai.out⟩
   ·have aq:0<AW.length:=List.length_pos_iff.2 hA
    have hK:=lX d aq;obtain⟨g8,bT,e8,bt,ar⟩:=az.out.block hA;injection e8 with e8 _ e9;subst e8 e9;obtain⟨aY,_⟩:=kx az.out hK;have bu:AW.getD (dD d AW.length) 0∈AW:=by rw[dV _ hK];exact List.getElem_mem hK
    have HF:=hid (aW.out hA);have bv:=aX.out _ bu
    have bw:Hid (∀V,Calls prog 72 #[.int .i64 d,.int .i64 (AW.length:Int)] V fun r G=>r=.returned (.int .i64 (dD d AW.length:Nat))/\V=G):=fun V=>(tA d aq (by omega) V).mono fun _ _ ⟨a,c⟩=>⟨a,c.symm⟩
    generalize dD d AW.length=K at *;generalize AW.getD K 0=x at *
    obtain⟨m3,Y⟩:∃m3:Mac,m3={ E with l:=(dw E.l k (dn [x])).2 }:=⟨_,rfl⟩
    have bE:Hid (jr p fuel W j k asl d m=ey W j k m3):=by
     show _=_;rw[Z.out,HF.out];unfold fT;rw[if_pos bv,Y]
    have K8:Hid (kk p fuel B b W Bud tb mb wb kb S E (fun y=>y=g8) w N):=M.out.k.toR.beside (ay.out.mono (le_refl _)) fun y hy=>by
     subst hy;exact⟨bt,ar⟩
    have bx:Hid (∀V,Below N.heap.size N V->Calls prog 71 #[.pointer (some ⟨tb,0,none⟩),.string ⟨k.toArray⟩,.int .u8 (dn [x]:Nat)] V fun r G=>r=.returned (.int .i64 (dw E.l k (dn [x])).1)/\dz p fuel B b W Bud tb mb wb kb S m3 w G/\(G.cell? ⟨b,0,none⟩=some (.pointer (some ⟨tb,0,none⟩))/\G.cell? ⟨g8,K,none⟩=some (.int .i64 x))):=fun V hb=>
     ((K8.out.later hb).own (m':=m3) (fun S1 F=>F.parts (m':=m3) (fun Sp q=>by rw[Y];exact s7 q (by omega) (i7 [x])) (by rw[Y]) (by rw[Y]) (by rw[Y]))).mono fun r G ⟨e,F,o⟩=>⟨e,F.toR,F.toR.cells.1.1,by
      rw[World.cell?_of_block (w:=V) (a:=⟨g8,K,none⟩) (o.block g8 (Nat.lt_of_lt_of_le ar hb.size) (fun hn=>hn rfl))]
      exact de hb aY⟩
    have bz:Hid (Calls prog 37 #[.slice (some ⟨N.heap.size,0,none⟩) 1 1] (N.alloc (.cells #[.int .i64 x] 3)).drew fun r G=>r=.returned (.int .u8 (dn [x]:Nat))/\(N.alloc (.cells #[.int .i64 x] 3)).drew=G):=by
     refine ky (some ⟨N.heap.size,0,none⟩) 1 [x] (N.alloc (.cells #[.int .i64 x] 3)).drew ⟨by simp[maxLen],fun _=>⟨N.heap.size,0,rfl,fun i hi=>?_⟩⟩ (by simp);obtain rfl:i=0:=by simp at hi;omega
     show(N.alloc (.cells #[.int .i64 x] 3)).cell? _=_;rw[World.cell?_alloc_new];rfl
    have U:Hid (∀V,Below N.heap.size N V->V.cell? ⟨b,0,none⟩=some (.pointer (some ⟨tb,0,none⟩))/\V.cell? ⟨g8,K,none⟩=some (.int .i64 x)):=fun V hb=>⟨(af.out.k.toR.later hb).cells.1.1,de hb aY⟩
    have bN:=U.out _ (Below.refl _ _);have b8:(K:Int)<(AW.length:Int):=by omega
    have bO:Hid (dS W m3.wk<100000):=by show _;rw[Y];exact aK.out
    clear hA aq bu bv aB aC aW aX HF Y K8 af M ay az bt ar aY ad P aK Z;obtain⟨d0,d1⟩:=bN;go_wp2_with fail
    go_cut [] (fun wx=>Hid (dz p fuel B b W Bud tb mb wb kb S m3 w wx))
    case first=>
     go_region_held3 (fun V=>V.cell? ⟨b,0,none⟩=some (.pointer (some ⟨tb,0,none⟩))/\V.cell? ⟨g8,K,none⟩=some (.int .i64 x))
      (first|with_reducible exact bP|(refine U.out _ ?_;repeat(first|with_reducible exact Below.refl _ _|with_reducible refine Below.drew ?_|with_reducible refine Below.alloc ?_ (by simp) _)))
      (first
       |(go_at_call 72;(refine(bw.out _).mono ?_);rintro r G ⟨rfl,rfl⟩)
       |(go_at_call 37;(with_reducible refine bz.out.mono ?_);rintro r G ⟨rfl,rfl⟩)
       |(go_at_call 71;(refine(bx.out _ (by repeat(first|with_reducible exact Below.refl _ _|with_reducible refine Below.drew ?_|with_reducible refine Below.alloc ?_ (by simp) _))).mono ?_);rintro r am⟨rfl,bA,bP⟩;have aE:=hid bA;clear bA))
     all_goals go_wp2_with fail
     all_goals go_meet
     all_goals exact aE
    case rest=>
     have aE:=hcut;clear hcut bx bz bw U d0 d1;generalize wc=am at *;obtain⟨⟨_,_,c2,_⟩,_⟩:=aE.out.cells;have HP:=hid (aE.out.call (m':=ey W j k m3) (fun Sp q=>xx q hW bO.out hj (by omega)) (nu _ _ _ _).1 (nu _ _ _ _).2.1 (nu _ _ _ _).2.2);go_wp2_with fail;refine HP.out.mono ?_;rintro r b9⟨rfl,bB⟩;have bQ:=hid bB;clear bB;go_wp2;exact bodyPost_end (results_none rfl _ _ _) rfl ⟨rfl,by rw[bE.out];exact bQ.out⟩
end
section
variable{w:World}{B C b n:Nat}
theorem MU.lower{S:Nat->Prop}{T:Nat->List Let}(h:MU w B b n S T)(a:C<=B):MU w C b n S T:=by
 obtain⟨g,c,d,e,f,i,q,j,k⟩:=h;exact⟨g,c,d,e,f,i,⟨⟨le_trans a q.mr.low,le_trans a q.mr.lowb,le_trans a q.mr.lowg,q.mr.box,q.mr.row,fun x hx=>⟨le_trans a (q.mr.link x hx).1,(q.mr.link x hx).2⟩⟩,q.sub,q.nodup,q.apart,q.first,q.last,q.count,q.chain⟩,j,k⟩
theorem WU.lower{cnt:Nat}{S:Nat->Prop}{T:Nat->List df}(h:WU w B b n cnt S T)(a:C<=B):WU w C b n cnt S T:=by
 obtain⟨g,d,c,e,f,q,i⟩:=h.k;exact⟨⟨g,d,c,e,f,⟨le_trans a q.low,le_trans a q.lowb,le_trans a q.lowm,q.box,q.row,q.cap,fun j l=>(q.qu j l).lower a,q.apart,q.map⟩,i⟩,h.sort,h.no,h.short⟩
end
theorem Gq{p:Pg}{fuel:Int}{W B C:Nat}{d c k:World}{h:TrH}{l m:Nat->Prop}{g:Nat}(w:dF p fuel=true)(q:h.p=p)(z:h.fuel=fuel)(e:B<=C)(r:C<=h.wc.heap.size)(A:im h.wc C h.a p.threads)(t:TrAt h d [] [] 0)
  (i:Below d.heap.size d c) (u:MU c d.heap.size (d.heap.size+1) W l (fun _=>[])) (s:∀y,l y->d.heap.size<=y)
  (j:Below c.heap.size c k) (v:WU k c.heap.size (c.heap.size+1) W 0 m (fun _=>[])) (n:∀y,m y->c.heap.size<=y) (F:c.heap.size<=g) (hx:kM k (c.heap.size+1) W g):
  PM p fuel k B h.b (d.heap.size+1) (c.heap.size+1) W (PB C h [] l m (c.heap.size+1) g) ic:=by
 have D:=t.below.size;have G:=i.size;have o:B<=d.heap.size:=le_trans e (le_trans r D);refine⟨C,h,[],l,m,g,⟨rfl,q,z,e,le_trans e r,by rw[q];exact A,w,(t.later i).later j,(u.lower o).later j,?_,hx,by omega,by omega,fun x hx E=>?_,fun x hx E=>?_,fun x hx f=>?_,fun x hx f=>?_,fun x hx f=>?_⟩,fun x=>Iff.rfl⟩
 ·have:=v.lower (C:=B) (by omega)
  rw[show dS W ic.wk=0 from vI W];exact this
 ·have:=s x hx;omega
 ·have:=n x hx;omega
 ·have:=s x f
  have:=t.lt x hx;omega
 ·have:=n x f
  have:=t.lt x hx;omega
 ·have:=n x f
  have:=u.lt hx;omega
theorem Hs{p:Pg}{fuel:Int}{W Bud B c mb d:Nat}{f:Nat->Prop}{a:World}(q:PM p fuel a B c mb d W f ic):
  MY p fuel B (a.heap.size+1) W Bud c mb d a.heap.size (fun x=>f x∨KB a.heap.size W (fun _=>.slice none 0 0) x∨x=a.heap.size+1) ic ((a.alloc (.cells (madeCells #[.slice none 0 0] W) 30)).alloc (.cells (lf c mb d a.heap.size W Bud 0 false) 79)):=by
 have b:=q.low;have i:=da a (.cells (madeCells #[.slice none 0 0] W) 30);have k:(a.alloc (.cells (madeCells #[.slice none 0 0] W) 30)).heap.size=a.heap.size+1:=World.size_alloc _ _;have e:=da (a.alloc (.cells (madeCells #[.slice none 0 0] W) 30)) (.cells (lf c mb d a.heap.size W Bud 0 false) 79);have g:KM (a.alloc (.cells (madeCells #[.slice none 0 0] W) 30)) B a.heap.size W (fun _=>.slice none 0 0) (fun _=>[]):=KM.start b.1 (heap_alloc_new a _)
 have l:∀x,KB a.heap.size W (fun _=>Value.slice none 0 0) x->x=a.heap.size:=fun x hx=>by
  rcases hx with h|⟨j,_,h⟩
  ·exact h
  ·simp[Value.ownBlock]at h
 refine⟨fun _=>.slice none 0 0,f,⟨by omega,?_,(q.later i).later e,g.later e,fun x hx g=>?_,fun hx=>?_⟩,fun x=>Iff.rfl⟩
 ·have:=heap_alloc_new (a.alloc (.cells (madeCells #[.slice none 0 0] W) 30)) (.cells (lf c mb d a.heap.size W Bud 0 false) 79)
  rw[k]at this;exact this
 ·have:=(b.2 x hx).2
  have:=l x g;omega
 ·have:=(b.2 _ hx).2
  omega
theorem Hz(p:Pg)(a:Option Addr)(cap:Nat)(fuel z y:Int)(w:World)(m:dI w a p.threads)(n:a=none->cap=0)(e:dF p fuel=false∨z<1∨64<z∨y<1∨1048576<y):
  Calls prog 14 #[.agg #[.int .i64 p.vars,.int .i64 p.mutexes,.slice a p.threads.length cap],.int .i64 fuel,.int .i64 z,.int .i64 y] w fun r q=>r=.returned (.tuple #[.pointer none,.int .i64 1])/\Below w.heap.size w q:=by
 have c:Below w.heap.size w (w.alloc (.cells #[.int .i64 p.vars,.int .i64 p.mutexes,.slice a p.threads.length cap] 24)):=da w _;have j:=hid (yf p a cap fuel (w.alloc (.cells #[.int .i64 p.vars,.int .i64 p.mutexes,.slice a p.threads.length cap] 24)) (m.later c) n);clear m n;go_enter func14,ntmps14;go_wp2_with fail;generalize w.alloc (.cells #[.int .i64 p.vars,.int .i64 p.mutexes,.slice a p.threads.length cap] 24)=u at *;refine j.out.mono ?_;rintro r v g;unfold pX at g
 by_cases i:dF p fuel=true
 case neg=>
  rw[if_neg i]at g;obtain⟨rfl,d⟩:=g;have k:=hid (c.trans (d.mono c.size));clear c d i e j;go_wp2;go_ret2;exact⟨rfl,k.out⟩
 rw[if_pos i]at g;obtain⟨h,rfl,_,_,_,_,d,_⟩:=g;have k:=hid (c.trans (d.mono c.size))
 have s:decide (z<1)=true∨(decide (z<1)=false/\decide (z>64)=true)∨(decide (z<1)=false/\decide (z>64)=false/\decide (y<1)=true)∨(decide (z<1)=false/\decide (z>64)=false/\decide (y<1)=false/\decide (y>1048576)=true):=by
  rcases e with f|f|f|f|f
  ·rw[i]at f;cases f
  all_goals(simp only[decide_eq_true_eq,decide_eq_false_iff_not];omega)
 generalize h.b=hb at *;clear c d i e j;rcases s with l|⟨l,o⟩|⟨l,o,t⟩|⟨l,o,t,x⟩
 all_goals go_wp2
 all_goals go_ret2
 all_goals exact⟨rfl,k.out⟩
theorem HU(p:Pg)(a:Option Addr)(cap:Nat)(fuel:Int)(W Bud:Nat)(w:World)(Z:dI w a p.threads)(ha:a=none->cap=0)(hg:dF p fuel=true)(h1:1<=W)(q:W<=64)(Q:1<=Bud)(aa:Bud<=1048576):
  Calls prog 14 #[.agg #[.int .i64 p.vars,.int .i64 p.mutexes,.slice a p.threads.length cap],.int .i64 fuel,.int .i64 (W:Int),.int .i64 (Bud:Int)] w fun r f=>∃b A mb wb kb S,r=.returned (.tuple #[.pointer (some ⟨b,0,none⟩),.int .i64 0])/\Below w.heap.size w f/\MY p fuel w.heap.size b W Bud A mb wb kb S (gM p fuel W) f:=by
 have d:Below w.heap.size w (w.alloc (.cells #[.int .i64 p.vars,.int .i64 p.mutexes,.slice a p.threads.length cap] 24)):=da w _;have HN:=hid (yf p a cap fuel (w.alloc (.cells #[.int .i64 p.vars,.int .i64 p.mutexes,.slice a p.threads.length cap] 24)) (Z.later d) ha);have R:∀V:World,(Instr.makeSlice 42 (.int .i64 (W:Int)) (.int .i64 (W:Int))).run prog V=.ok (.slice (some ⟨V.heap.size,0,none⟩) W W) (V.alloc (.cells (madeCells #[.slice none 0 0] (W*1)) 30)):=lJ (P:=prog) 42 30 (.slice none 0 0) 1 24 underlying42 (by kernel_rfl) W (by omega) (by omega);have L:=hid hg;have q1:decide ((W:Int)<1)=false:=by simp;omega
 have q2:decide ((W:Int)>64)=false:=by simp;omega
 have q3:decide ((Bud:Int)<1)=false:=by simp;omega
 have q4:decide ((Bud:Int)>1048576)=false:=by simp;omega
 clear Z ha hg;go_enter func14,ntmps14;go_wp2_with fail;generalize w.alloc (.cells #[.int .i64 p.vars,.int .i64 p.mutexes,.slice a p.threads.length cap] 24)=W1 at *;refine HN.out.mono ?_;rintro r M O;unfold pX at O;rw[if_pos L.out]at O;obtain⟨h,rfl,ep,ef,hC,ht,C,ho⟩:=O;have s:=hid (d.trans (C.mono d.size));have HM:=hid (IL h1 q M);have D:=d.size;generalize E:h.b=A at *;clear d C HN;go_wp2_with fail;refine HM.out.mono ?_;rintro r N⟨rfl,i,Sm,hu,F⟩;have HK:=hid (Cc h1 q N);have t:=hid (s.out.trans (i.mono s.out.size));have J:=i.size;clear HM;go_wp2_with fail;refine HK.out.mono ?_;rintro r o⟨rfl,u,Sw,hv,G,g,H,T,I⟩;have v:=Gq L.out ep ef D hC ho ht i hu F u hv G H I;rw[E]at v;have c:=Hs (Bud:=Bud) v;have y:=hid (t.out.trans (u.mono t.out.size));have z:Hid (Below w.heap.size w ((o.alloc (.cells (madeCells #[.slice none 0 0] W) 30)).alloc (.cells (lf A (M.heap.size+1) (N.heap.size+1) o.heap.size W Bud 0 false) 79))):=y.out.trans ((eH _ _ _).mono y.out.size);obtain⟨nd,l,m,n⟩:=yg (B:=Bud) L.out h1 Q
 have U:Hid (∀V,V=((o.alloc (.cells (madeCells #[.slice none 0 0] W) 30)).alloc (.cells (lf A (M.heap.size+1) (N.heap.size+1) o.heap.size W Bud 0 false) 79))->Calls prog 36 #[.pointer (some ⟨o.heap.size+1,0,none⟩),.int .i64 0,.string ⟨#[]⟩,.int .u8 0,.int .i64 0] V fun r f=>r=.returned (.tuple #[])/\∃S,MY p fuel w.heap.size (o.heap.size+1) W Bud A (M.heap.size+1) (N.heap.size+1) o.heap.size S (gM p fuel W) f/\Below w.heap.size w f):=fun V e=>by
  subst e
  refine(xU c L.out q (j:=0) (by omega) (k:=[]) (asl:=0) (by omega) 0 l m n (by simp) ?_ (by show(0:Nat)<=_;omega)).mono fun r f ⟨e,S',k1,k2,k3⟩=>⟨e,S',k1,z.out.trans ?_⟩
  ·have:dT W ic.box=0:=by rw[oQ];exact fun _ _=>rfl
   omega
  ·have hl:=c.low
   exact k2.below z.out.size fun x hx=>(hl.2 x hx).1
 have X:Hid (∀V,Calls prog 37 #[.slice none 0 0] V fun r f=>r=.returned (.int .u8 0)/\V=f):=fun V=>ky none 0 [] V ⟨by simp[maxLen],fun h=>absurd rfl h⟩ (by simp)
 rw[mul_one]at R;clear HK i hu F u hv G H T I v c s t y z ht ho hC ep ef E l m n D J;go_wp2_with fail;refine(X.out _).mono ?_;rintro r f⟨rfl,rfl⟩;go_wp2_with fail;refine(U.out _ rfl).mono ?_;rintro r w6⟨rfl,S,c,hB⟩;have Y:=hid c;have HB:=hid hB;clear c hB;go_wp2;go_ret2;exact⟨_,_,_,_,_,S,rfl,HB.out,Y.out⟩
theorem Ee{w:World}{g:Nat}{x:Int}(c:w.cell? ⟨g,0,none⟩=some (.int .u8 x)):(convert 56 9 (.slice (some ⟨g,0,none⟩) 1 1)).run prog w=.ok (.string (dY [x])) w:=by
 rw[run_convert_bytes_string w _ _ 5 _ _ _ underlying56 underlying5 underlying9];have d:=run_loadCells_list (P:=prog) w ⟨g,0,none⟩ ([x].map (Value.int .u8)) (by intro j u a;match j with|0=>(simp at a;subst a;exact c)|j+1=>simp at a);have b:=run_bytesToString w ⟨g,0,none⟩ _ 1 [x] d;rw[rh]at b;have e:ByteArray.empty.data=#[]:=rfl;rw[e,Array.empty_append]at b;exact b
theorem MI(w:World)(x:Int):(w.alloc (.cells #[.int .u8 x] 5)).cell? ⟨w.heap.size,0,none⟩=some (.int .u8 x):=by
 rw[World.cell?_alloc_new];rfl
section
variable{p:Pg}{fuel:Int}{B b W Bud tb mb wb kb:Nat}{S:Nat->Prop}{m:Mac}{w:World}
theorem KN(h:MY p fuel B b W Bud tb mb wb kb S m w){j:Nat}(N:j<W){q:df}{r:List df}(hx:m.wk j=q::r)(G:q.length<=1000)(H:dt m.l q≠0)(I:m.l.length=Bud)(d:Int):
  Calls prog 46 #[.pointer (some ⟨b,0,none⟩),.int .i64 (j:Int),.int .i64 d] w fun e n=>e=.returned (.tuple #[.int .i64 5,.bool true])/\dz p fuel B b W Bud tb mb wb kb S { m with wk:=db m.wk j r,over:=true } w n:=by
 obtain⟨⟨O,P,Q,R,T,J,U⟩,_⟩:=h.cells
 obtain⟨g,f⟩:∃g:Mac,g={ m with wk:=db m.wk j r }:=⟨_,rfl⟩
 have L:=hid ((dz.refl h).call (m':=g) (fun Sp X=>by rw[f];exact xy X N hx) (by rw[f]) (by rw[f]) (by rw[f]));have Y:Hid (decide (dt g.l q≠0)=true):=by show _=_;rw[f];exact decide_eq_true H
 have Z:Hid (g.l.length=Bud):=by show _=_;rw[f];exact I
 have HE:Hid ({ m with wk:=db m.wk j r,over:=true }={ g with over:=true }):=by show _=_;rw[f]
 have HQ:=hid G;clear h hx G H I f O P R T J U;go_enter func46,ntmps46;go_wp2_with fail;refine L.out.mono ?_;rintro e z⟨rfl,A⟩;have M:=hid A
 have s:Hid (Calls prog 83 #[.pointer (some ⟨b,0,none⟩),.string ⟨q.toArray⟩] z fun r n=>r=.returned (.bool true)/\Below z.heap.size z n):=by
  obtain⟨S1,C,_⟩:=A
  exact(sv C HQ.out).mono fun _ _ ⟨a,c⟩=>⟨by rw[a,Y.out],c⟩
 clear A Q L;go_wp2_with fail;refine s.out.mono ?_;rintro e o⟨rfl,t⟩;have y:=hid (M.out.later t)
 have v:Hid (∀V,Below o.heap.size o V->Calls prog 21 #[.pointer (some ⟨b,0,none⟩)] V fun r n=>r=.returned (.int .i64 (Bud:Nat))/\V=n):=fun V hb=>by
  obtain⟨S1,C,_⟩:=y.out.later hb
  exact(tp C).mono fun _ _ ⟨a,c⟩=>⟨by rw[a,Z.out],c⟩
 have k:Hid (∀V,Below o.heap.size o V->V.cell? ⟨b,4,none⟩=some (.int .i64 (Bud:Int))):=fun V hb=>(y.out.later hb).cells.1.2.2.2.2.1
 clear t M s;have d4:=k.out _ (Below.refl _ _);have E:decide ((Bud:Int)>=(Bud:Int))=true:=by simp
 go_wp2_with fail
 go_cut [32] (fun c wx=>c=.bool true/\Hid (dz p fuel B b W Bud tb mb wb kb S g w wx))
 case first=>
  have x:Hid (∀V,Below o.heap.size o V->Hid (dz p fuel B b W Bud tb mb wb kb S g w V)):=fun V hb=>y.out.later hb
  go_region_held3 (fun V=>V.cell? ⟨b,4,none⟩=some (.int .i64 (Bud:Int)))
   (first|(refine k.out _ ?_;repeat(first|with_reducible exact Below.refl _ _|with_reducible refine Below.drew ?_)))
   (first
    |(go_at_call 21;(refine(v.out _ (by repeat(first|with_reducible exact Below.refl _ _|with_reducible refine Below.drew ?_))).mono ?_);rintro r n ⟨rfl,rfl⟩))
  all_goals go_wp2_with fail
  all_goals go_meet
  all_goals exact⟨by first|rfl|simp,x.out _ (by repeat(first|with_reducible exact Below.refl _ _|with_reducible refine Below.drew ?_))⟩
 case rest=>
  obtain⟨rfl,D⟩:=hcut;clear v k d4 E y;generalize wc=w3 at *;obtain⟨⟨_,_,_,_,_,J,_⟩,f5⟩:=D.out.cells;have aa:=f5 5;have F:Hid (dz p fuel B b W Bud tb mb wb kb S { g with over:=true } w (w3.setCell ⟨b,5,none⟩ (.bool true))):=D.out.andThen fun S' h=>h.stored (i:=5) (u:=.bool true) (blk':=g.blk) (over':=true) rfl
  clear f5 D;go_wp2;go_ret2;exact⟨rfl,by rw[HE.out];exact F.out⟩
theorem KP(h:MY p fuel B b W Bud tb mb wb kb S m w)(G:dF p fuel=true)(hW:W<=64)(H:dM p fuel<=600){j:Nat}(E:j<W){T:List Nd}(hI:InvM p fuel W Bud m T)(I:m.over=false){q:df}{r:List df}(hx:m.wk j=q::r)(hq:q.length<=900)(hl:dt m.l q≠0)(hB:m.l.length<Bud)(hc:dS W m.wk<100000)(J:dT W m.box<=90000)(d:Int):
  Calls prog 46 #[.pointer (some ⟨b,0,none⟩),.int .i64 (j:Int),.int .i64 d] w fun e n=>e=.returned (.tuple #[.int .i64 3,.bool true])/\dz p fuel B b W Bud tb mb wb kb S (gD p fuel W j q d { m with wk:=db m.wk j r }) w n:=by
 obtain⟨⟨c0,c1,c2,c3,c4,c5,c6⟩,_⟩:=h.cells;obtain⟨u,C,l2,z1,nd,T',m2,hu,ad,L,M,N,x,y,ae,s,z,O,o⟩:=za G E hI I hx hB d;obtain⟨_,_,ah⟩:=tW G hI E;have af:=hI.cl
 obtain⟨v,f⟩:∃v:Mac,v={ m with wk:=db m.wk j r }:=⟨_,rfl⟩
 obtain⟨A,i⟩:∃A:Mac,A={ m with wk:=db m.wk j r,l:=l2,cl:=m.cl+1 }:=⟨_,rfl⟩
 have HP:=hid ((dz.refl h).call (m':=v) (fun Sp qq=>by rw[f];exact xy qq E hx) (by rw[f]) (by rw[f]) (by rw[f]));have HL:Hid (decide (dt v.l q≠0)=true):=by show _=_;rw[f];exact decide_eq_true hl
 have HN:Hid (v.l.length=m.l.length):=by show _=_;rw[f]
 have P:Hid (∀V,dz p fuel B b W Bud tb mb wb kb S v w V->Calls prog 84 #[.pointer (some ⟨tb,0,none⟩),.string ⟨q.toArray⟩,.int .i64 d] V fun r n=>r=.returned (.tuple #[.int .i64 (u:Nat),.int .u8 (C:Nat),.int .i64 0])/\dz p fuel B b W Bud tb mb wb kb S A w n):=fun V hv=>
  hv.call (m':=A) (fun Sp qq=>by
   have g:=Gc qq (by rw[f];show m.cl<=_;omega) (k:=q) (by omega) d;have e:fK p fuel v.l q d=(0,(u:Int),C,l2):=by rw[f];exact L
   rw[e]at g;dsimp only at g;rw[if_pos rfl]at g;rw[i];rw[f]at g
   exact g) (by rw[i,f]) (by rw[i,f]) (by rw[i,f])
 have Q:dS W A.wk<100000:=by
  rw[i];show dS W (db m.wk j r)<100000;have:=vG E (ls:=m.wk) (k:=q) (l:=r) (by rw[hx]);omega
 have R:Hid (∀{V:World} {t:Nat->Prop},MY p fuel B b W Bud tb mb wb kb t A V->Calls prog 78 #[.pointer (some ⟨b,0,none⟩),.int .i64 (j:Int),.string ⟨q.toArray⟩] V fun r n=>(∃bb,r=.returned (.bool bb))/\dz p fuel B b W Bud tb mb wb kb t m2 V n):=fun g=>by
  refine(tv g hW Q E (by omega)).mono fun r n ⟨a,c⟩=>⟨⟨_,a⟩,?_⟩
  rw[N,<-i];have e:A.l=l2:=by rw[i]
  rw[e]at c;exact c
 have U:Hid (∀{V:World} {t:Nat->Prop},MY p fuel B b W Bud tb mb wb kb t m2 V->Calls prog 36 #[.pointer (some ⟨b,0,none⟩),.int .i64 (j:Int),.string ((⟨q.toArray⟩:ByteArray)++dY [(u:Int)]),.int .u8 (C:Nat),.int .i64 d] V fun e n=>e=.returned (.tuple #[])/\dz p fuel B b W Bud tb mb wb kb t (gD p fuel W j q d { m with wk:=db m.wk j r }) V n):=fun {V t} g=>by
  have e:(⟨q.toArray⟩:ByteArray)++dY [(u:Int)]=⟨(q++[UInt8.ofNat u]).toArray⟩:=by
   apply ByteArray.ext;simp[dY]
  rw[e,s];exact xU g G hW E ad d z O o (le_trans (ne (lI G).1 o.core.tree.ok) H) (by rw[y];exact J) (by rw[x,M];omega)
 have HQ:=hid hq;have ai:=hB;have X:decide ((m.l.length:Int)>=(Bud:Int))=false:=by simp;omega
 have ak:IntKind.u8.wrap (u:Int)=u:=IntWalk.u8_in _ (by omega)
 have hz:¬ 9223372036854775807<(⟨q.toArray⟩:ByteArray).size+(dY [(u:Int)]).size:=by
  simp[ByteArray.size,dY];omega
 generalize gD p fuel W j q d { m with wk:=db m.wk j r }=mF at *;generalize m.l.length=NN at *;clear h G hx hq hl hB f i hI I L M N x y ae s z O o Q hc J H ah af c0 c1 c3 c4 c5 c6;go_enter func46,ntmps46;go_wp2_with fail;refine HP.out.mono ?_;rintro e w1⟨rfl,r1⟩;have R1:=hid r1
 have Y:Hid (Calls prog 83 #[.pointer (some ⟨b,0,none⟩),.string ⟨q.toArray⟩] w1 fun r n=>r=.returned (.bool true)/\Below w1.heap.size w1 n):=by
  obtain⟨t,g,_⟩:=r1
  exact(sv g (by have:=HQ.out;omega)).mono fun _ _ ⟨a,c⟩=>⟨by rw[a,HL.out],c⟩
 clear r1 c2 HP;go_wp2_with fail;refine Y.out.mono ?_;rintro e F⟨rfl,Z⟩;have R2:=hid (R1.out.later Z)
 have aa:Hid (∀V,Below F.heap.size F V->Calls prog 21 #[.pointer (some ⟨b,0,none⟩)] V fun r n=>r=.returned (.int .i64 (NN:Nat))/\V=n):=fun V hb=>by
  obtain⟨t,g,_⟩:=R2.out.later hb
  exact(tp g).mono fun _ _ ⟨a,c⟩=>⟨by rw[a,HN.out],c⟩
 have D:Hid (∀V,Below F.heap.size F V->V.cell? ⟨b,4,none⟩=some (.int .i64 (Bud:Int))):=fun V hb=>(R2.out.later hb).cells.1.2.2.2.2.1
 clear Z R1 Y HN;have d4:=D.out _ (Below.refl _ _);go_wp2_with fail
 go_cut [32] (fun c wx=>c=.bool false/\Hid (dz p fuel B b W Bud tb mb wb kb S v w wx))
 case first=>
  have ag:Hid (∀V,Below F.heap.size F V->Hid (dz p fuel B b W Bud tb mb wb kb S v w V)):=fun V hb=>R2.out.later hb
  go_region_held3 (fun V=>V.cell? ⟨b,4,none⟩=some (.int .i64 (Bud:Int)))
   (first|(refine D.out _ ?_;repeat(first|with_reducible exact Below.refl _ _|with_reducible refine Below.drew ?_)))
   (first
    |(go_at_call 21;(refine(aa.out _ (by repeat(first|with_reducible exact Below.refl _ _|with_reducible refine Below.drew ?_))).mono ?_);rintro r n ⟨rfl,rfl⟩))
  all_goals go_wp2_with fail
  all_goals go_meet
  all_goals exact⟨by first|rfl|(simp;exact ai)|simp[X],ag.out _ (by repeat(first|with_reducible exact Below.refl _ _|with_reducible refine Below.drew ?_))⟩
 case rest=>
  obtain⟨rfl,R3⟩:=hcut;clear aa D d4 X R2;generalize wc=w3 at *;obtain⟨⟨c0,_⟩,_⟩:=R3.out.cells;have ab:=hid (P.out w3 R3.out);go_wp2_with fail;refine ab.out.mono ?_;rintro e w4⟨rfl,r4⟩;have R4:=hid r4;have ac:=hid (r4.local0.own (fun t g=>R.out g));clear r4 c0 ab P R3;go_wp2_with fail;refine ac.out.mono ?_;rintro e w5⟨⟨bb,rfl⟩,r5⟩;have R5:=hid r5.toR;have aj:=hid ((R5.out.later (da w5 (.cells #[.int .u8 (u:Int)] 5))).local0.own (fun t g=>U.out g));have al:=Ee (MI w5 (u:Int));clear r5 ac R U R4 R5;go_wp2_with fail;refine aj.out.mono ?_;rintro e w6⟨rfl,r6⟩;have R6:=hid r6.toR;clear r6;go_wp2;go_ret2;exact⟨rfl,R6.out⟩
end
def kW:Nat->FuncId
 |0=>44
 |1=>45
 |_=>46
theorem oB{b n:Nat}{j d D:Int}{w:World}{Post:World->Prop}(h:n<=2)
  (h1:Calls prog 43 #[.pointer (some ⟨b,0,none⟩),.int .i64 j] w fun r a=>r=.returned (.bool true)/\w=a)
  (h2:Calls prog 18 #[.pointer (some ⟨b,0,none⟩)] w fun r a=>r=.returned (.bool false)/\Below w.heap.size w a)
  (u:∀k,k<n->∀V,Below w.heap.size w V->Calls prog (kW k) #[.pointer (some ⟨b,0,none⟩),.int .i64 j,.int .i64 d] V fun r a=>r=.returned (.tuple #[.int .i64 0,.bool false])/\Below w.heap.size w a)
  (v:∀V,Below w.heap.size w V->Calls prog (kW n) #[.pointer (some ⟨b,0,none⟩),.int .i64 j,.int .i64 d] V fun r a=>r=.returned (.tuple #[.int .i64 D,.bool true])/\Post a):
  Calls prog 23 #[.pointer (some ⟨b,0,none⟩),.int .i64 j,.int .i64 d] w fun r a=>r=.returned (.int .i64 D)/\Post a:=by
 have z:=hid h1;have A:=hid h2;have x:=hid u;have q:=hid v;have y:=hid h;clear h1 h2 u v h;go_enter func23,ntmps23;go_wp2_with fail;refine z.out.mono ?_;rintro r a⟨rfl,rfl⟩;go_wp2_with fail;refine A.out.mono ?_;rintro r B⟨rfl,m⟩;have s:=hid m;clear m;go_wp2_with fail
 go_loopw [26] (fun i wr=>∃k:Nat,k<=n/\i=.int .i64 k/\Hid (Below w.heap.size w wr)) (fun i _=>3-(intOf i).toNat)
 case atStart=>exact⟨0,zero_le _,rfl,s.out⟩
 case round=>
  obtain⟨k,C,rfl,l⟩:=hrel;have t:k=0∨k=1∨k=2:=by have:=y.out;omega
  rcases t with rfl|rfl|rfl
  ·have o:∀a,(Instr.index 86 (.agg #[.func (.func 44) #[.pointer (some ⟨b,0,none⟩)] #[],.func (.func 45) #[.pointer (some ⟨b,0,none⟩)] #[],.func (.func 46) #[.pointer (some ⟨b,0,none⟩)] #[]]) (.int .i64 0)).run prog a=.ok (.func (.func 44) #[.pointer (some ⟨b,0,none⟩)] #[]) a:=fun a=>oH a 0 underlying86 underlying85 rfl (by kernel_rfl) (by omega) rfl
   by_cases h:n=0
   ·subst h
    have c:=hid (q.out wr l.out);unfold kW at c;go_wp2_with fail;refine c.out.mono ?_;rintro r p⟨rfl,e⟩;have g:=hid e;clear e;go_wp2;go_ret;exact⟨rfl,g.out⟩
   ·have f:=hid (x.out 0 (by omega) wr l.out)
    unfold kW at f;go_wp2_with fail;refine f.out.mono ?_;rintro r p⟨rfl,e⟩;have g:=hid e;clear e;go_wp2
    go_roundw
    case rel=>exact⟨1,by omega,by go_num,g.out⟩
    case measure=>simp[intOf]
  ·have o:∀a,(Instr.index 86 (.agg #[.func (.func 44) #[.pointer (some ⟨b,0,none⟩)] #[],.func (.func 45) #[.pointer (some ⟨b,0,none⟩)] #[],.func (.func 46) #[.pointer (some ⟨b,0,none⟩)] #[]]) (.int .i64 1)).run prog a=.ok (.func (.func 45) #[.pointer (some ⟨b,0,none⟩)] #[]) a:=fun a=>oH a 1 underlying86 underlying85 rfl (by kernel_rfl) (by omega) rfl
   by_cases h:n=1
   ·subst h
    have c:=hid (q.out wr l.out);unfold kW at c;go_wp2_with fail;refine c.out.mono ?_;rintro r p⟨rfl,e⟩;have g:=hid e;clear e;go_wp2;go_ret;exact⟨rfl,g.out⟩
   ·have f:=hid (x.out 1 (by omega) wr l.out)
    unfold kW at f;go_wp2_with fail;refine f.out.mono ?_;rintro r p⟨rfl,e⟩;have g:=hid e;clear e;go_wp2
    go_roundw
    case rel=>exact⟨2,by omega,by go_num,g.out⟩
    case measure=>simp[intOf]
  ·have o:∀a,(Instr.index 86 (.agg #[.func (.func 44) #[.pointer (some ⟨b,0,none⟩)] #[],.func (.func 45) #[.pointer (some ⟨b,0,none⟩)] #[],.func (.func 46) #[.pointer (some ⟨b,0,none⟩)] #[]]) (.int .i64 2)).run prog a=.ok (.func (.func 46) #[.pointer (some ⟨b,0,none⟩)] #[]) a:=fun a=>oH a 2 underlying86 underlying85 rfl (by kernel_rfl) (by omega) rfl
   have h:n=2:=by have:=y.out;omega
   subst h;have c:=hid (q.out wr l.out);unfold kW at c;go_wp2_with fail;refine c.out.mono ?_;rintro r p⟨rfl,e⟩;have g:=hid e;clear e;go_wp2;go_ret;exact⟨rfl,g.out⟩
theorem Df{b:Nat}{z d:Int}{w:World}(h1:Calls prog 43 #[.pointer (some ⟨b,0,none⟩),.int .i64 z] w fun r a=>r=.returned (.bool false)/\w=a):Calls prog 23 #[.pointer (some ⟨b,0,none⟩),.int .i64 z,.int .i64 d] w fun r a=>r=.returned (.int .i64 0)/\Below w.heap.size w a:=by
 go_enter func23,ntmps23;go_wp2_with fail;refine h1.mono ?_;rintro r a⟨rfl,rfl⟩;go_wp2;go_ret;exact⟨rfl,Below.refl _ _⟩
theorem Di{b:Nat}{z d:Int}{w:World}(h1:Calls prog 43 #[.pointer (some ⟨b,0,none⟩),.int .i64 z] w fun r a=>r=.returned (.bool true)/\w=a)
  (h2:Calls prog 18 #[.pointer (some ⟨b,0,none⟩)] w fun r a=>r=.returned (.bool true)/\Below w.heap.size w a):Calls prog 23 #[.pointer (some ⟨b,0,none⟩),.int .i64 z,.int .i64 d] w fun r a=>r=.returned (.int .i64 0)/\Below w.heap.size w a:=by
 go_enter func23,ntmps23;go_wp2_with fail;refine h1.mono ?_;rintro r a⟨rfl,rfl⟩;go_wp2_with fail;refine h2.mono ?_;rintro r a⟨rfl,hb⟩;have c:=hid hb;clear hb;go_wp2;go_ret;exact⟨rfl,c.out⟩
section
variable{p:Pg}{fuel:Int}{B b W Bud tb mb wb kb:Nat}{S:Nat->Prop}{m:Mac}{w:World}
theorem Hu(h:MY p fuel B b W Bud tb mb wb kb S m w)(g:GoodM p fuel W Bud m)(N:eG p fuel W m<=80400)(z d:Int):
  Calls prog 23 #[.pointer (some ⟨b,0,none⟩),.int .i64 z,.int .i64 d] w fun r f=>r=.returned (.int .i64 ((fQ p fuel W Bud z d m).1:Nat))/\dz p fuel B b W Bud tb mb wb kb S (fQ p fuel W Bud z d m).2 w f:=by
 obtain⟨T,H⟩:=g.inv
 by_cases Y:0<=z/\z<W
 case neg=>
  have e:fQ p fuel W Bud z d m=(0,m):=by
   unfold fQ
   split
   ·unfold ej
    rw[if_pos (.inl (by omega))]
   ·rfl
  have Z:fo W z=false:=by rw[qU];exact decide_eq_false Y
  have O:=tC h z;rw[Z]at O;rw[e]
  exact(Df (O.mono fun _ _ ⟨a,c⟩=>⟨a,c.symm⟩)).mono fun _ _ ⟨a,c⟩=>⟨a,dz.below h c⟩
 obtain⟨j,rfl⟩:∃j:Nat,z=j:=⟨z.toNat,by omega⟩
 have A:j<W:=by omega
 have Z:fo W (j:Int)=true:=by rw[qU];exact decide_eq_true Y
 have O:=tC h (j:Int);rw[Z]at O
 have t:Calls prog 43 #[.pointer (some ⟨b,0,none⟩),.int .i64 (j:Int)] w fun r f=>r=.returned (.bool true)/\w=f:=O.mono fun _ _ ⟨a,c⟩=>⟨a,c.symm⟩
 have U:=uj h
 have eI:fQ p fuel W Bud (j:Int) d m=ej p fuel W Bud j d m:=by
  unfold fQ;rw[if_pos Y.1,Int.toNat_natCast]
 rw[eI]
 cases I:el W m with
 |true=>
  have e:ej p fuel W Bud j d m=(0,m):=by
   unfold ej;rw[if_pos (.inr I)]
  rw[I]at U;rw[e]
  exact(Di t (U.mono fun _ _ ⟨a,i,c⟩=>⟨a,by subst c;exact(Below.refl _ _).drewN⟩)).mono fun _ _ ⟨a,c⟩=>⟨a,dz.below h c⟩
 |false=>
  rw[I]at U
  have u:Calls prog 18 #[.pointer (some ⟨b,0,none⟩)] w fun r f=>r=.returned (.bool false)/\Below w.heap.size w f:=U.mono fun _ _ ⟨a,i,c⟩=>⟨a,by subst c;exact(Below.refl _ _).drewN⟩
  have P:m.over=false:=by
   unfold el at I
   cases ho:m.over with
   |true=>rw[ho]at I;simp at I
   |false=>rfl
  have Q:=H.work P;have ag:dT W m.box<=80400:=le_trans L0 N;have ae:=(tW g.good H A).2.2
  have L:dS W m.wk<100000:=by
   obtain⟨Sp,q⟩:=h.pm;have h3:=vm q.noW (fun q hq=>(Q.iff q).1 hq);have:=g.small;omega
  have s:∀v,v<W->∀q∈m.wk v,q.length<=33/\dt m.l q≠0:=fun v J q hq=>by
   have h4:=(Q.iff q).1 ⟨v,J,hq⟩;exact⟨Jd H.tree.tr h4,h4⟩
  have y:¬(W<=j∨el W m=true):=by
   rw[I];intro X;rcases X with X|X
   ·omega
   ·cases X
  cases o:m.box j with
  |cons x r=>
   have e:ej p fuel W Bud j d m=(1,gd W j x r m):=by
    unfold ej;rw[if_neg y,o]
   obtain⟨hs,R,_⟩:=Ja H.letr H.tree.tr A (x:=x) (by rw[o];exact List.mem_cons_self);rw[e];refine oB (n:=0) (D:=1) (Post:=fun f=>dz p fuel B b W Bud tb mb wb kb S (gd W j x r m) w f) (by omega) t u (fun k hk=>by omega) fun V hb=>?_
   exact(Hv (h.later hb) g.few L (by omega) A d o (by omega) hs).mono fun _ _ ⟨a,c⟩=>⟨a,dz.behind hb c⟩
  |nil=>
   have M:∀V,Below w.heap.size w V->Calls prog (kW 0) #[.pointer (some ⟨b,0,none⟩),.int .i64 (j:Int),.int .i64 d] V fun r f=>r=.returned (.tuple #[.int .i64 0,.bool false])/\Below w.heap.size w f:=fun V hb=>
    (Fg (h.later hb) A d o).mono fun _ _ ⟨a,c⟩=>⟨a,hb.trans (c.mono hb.size)⟩
   cases C:m.wk j with
   |nil=>
    by_cases J:dD d W=j∨m.wk (dD d W)=[]
    ·have e:ej p fuel W Bud j d m=(0,m):=by
      unfold ej;rw[if_neg y,o];dsimp only;rw[C];dsimp only;rw[if_pos J]
     rw[e];refine oB (n:=1) (D:=0) (Post:=fun f=>dz p fuel B b W Bud tb mb wb kb S m w f) (by omega) t u (fun k hk=>?_) fun V hb=>?_
     ·obtain rfl:k=0:=by omega
      exact M
     ·exact(Dq (h.later hb) g.few A d C J).mono fun _ _ ⟨a,c⟩=>⟨a,dz.below h (hb.trans (c.mono hb.size))⟩
    ·have e:ej p fuel W Bud j d m=(2,iW j (dD d W) m):=by
      unfold ej;rw[if_neg y,o];dsimp only;rw[C];dsimp only;rw[if_neg J]
     have aa:dD d W≠j:=fun h=>J (.inl h)
     have E:m.wk (dD d W)≠[]:=fun h=>J (.inr h)
     have ab:dD d W<W:=lX d (by omega)
     have ac:((m.wk (dD d W)).getLast?.getD []).length<=1000:=by
      rw[List.getLast?_eq_some_getLast E];have:=(s _ ab _ (List.getLast_mem E)).1;show((m.wk (dD d W)).getLast E).length<=1000;omega
     rw[e];refine oB (n:=1) (D:=2) (Post:=fun f=>dz p fuel B b W Bud tb mb wb kb S (iW j (dD d W) m) w f) (by omega) t u (fun k hk=>?_) fun V hb=>?_
     ·obtain rfl:k=0:=by omega
      exact M
     ·exact(Dp (h.later hb) g.few L A d C aa E ac).mono fun _ _ ⟨a,c⟩=>⟨a,dz.behind hb c⟩
   |cons q r=>
    obtain⟨R,F⟩:=s j A q (by rw[C];exact List.mem_cons_self)
    have G:∀k,k<2->∀V,Below w.heap.size w V->Calls prog (kW k) #[.pointer (some ⟨b,0,none⟩),.int .i64 (j:Int),.int .i64 d] V fun r f=>r=.returned (.tuple #[.int .i64 0,.bool false])/\Below w.heap.size w f:=fun k hk=>by
     have ad:k=0∨k=1:=by omega
     rcases ad with rfl|rfl
     ·exact M
     ·exact fun V hb=>(Ds (h.later hb) A d (by rw[C];simp)).mono fun _ _ ⟨a,c⟩=>⟨a,by subst c;exact hb⟩
    have af:=H.bud
    by_cases hB:m.l.length=Bud
    ·have e:ej p fuel W Bud j d m=(5,{ m with wk:=db m.wk j r,over:=true }):=by
      unfold ej;rw[if_neg y,o];dsimp only;rw[C];dsimp only;rw[if_neg F,if_pos hB]
     rw[e];refine oB (n:=2) (D:=5) (Post:=fun f=>dz p fuel B b W Bud tb mb wb kb S { m with wk:=db m.wk j r,over:=true } w f) (by omega) t u G fun V hb=>?_
     exact(KN (h.later hb) A C (by omega) F hB d).mono fun _ _ ⟨a,c⟩=>⟨a,dz.behind hb c⟩
    ·have e:ej p fuel W Bud j d m=(3,gD p fuel W j q d { m with wk:=db m.wk j r }):=by
      unfold ej;rw[if_neg y,o];dsimp only;rw[C];dsimp only;rw[if_neg F,if_neg hB]
     rw[e];refine oB (n:=2) (D:=3) (Post:=fun f=>dz p fuel B b W Bud tb mb wb kb S (gD p fuel W j q d { m with wk:=db m.wk j r }) w f) (by omega) t u G fun V hb=>?_
     exact(KP (h.later hb) g.good g.few g.small A H P C (by omega) F (by omega) L (by omega) d).mono fun _ _ ⟨a,c⟩=>⟨a,dz.behind hb c⟩
end
end
section
open Go.Proofs.Tryz Go.RowKit
theorem x6(w:World):Calls prog 29 #[.pointer none] w fun r a=>r=.returned (.int .i64 0)/\a=w:=by
 go_enter func29,ntmps29;go_wp2;go_ret;exact⟨rfl,rfl⟩
theorem x7(z:Int)(w:World):Calls prog 43 #[.pointer none,.int .i64 z] w fun r a=>r=.returned (.bool false)/\a=w:=by
 by_cases h:0<=z
 ·have b:decide (z>=0)=true:=by simpa using h
  have c:decide (z<0)=false:=by simp;omega
  go_enter func43,ntmps43;go_wp2_with fail;refine(x6 _).mono ?_;rintro r a⟨rfl,rfl⟩;go_wp2;go_ret;exact⟨rfl,rfl⟩
 ·have b:decide (z>=0)=false:=by simpa using h
  go_enter func43,ntmps43;go_wp2;go_ret;exact⟨rfl,rfl⟩
theorem G1(z d:Int)(w:World):Calls prog 23 #[.pointer none,.int .i64 z,.int .i64 d] w fun r a=>r=.returned (.int .i64 0)/\∃i,a=w.drewN i:=by
 go_enter func23,ntmps23;go_wp2_with fail;refine(x7 z _).mono ?_;rintro r a⟨rfl,rfl⟩;go_wp2;go_ret;exact⟨rfl,0,rfl⟩
theorem G4(w:World):Calls prog 18 #[.pointer none] w fun r a=>r=.returned (.bool true)/\∃i,a=w.drewN i:=by
 go_enter func18,ntmps18;go_wp2;go_ret;exact⟨rfl,0,rfl⟩
theorem G5(w:World):Calls prog 19 #[.pointer none] w fun r a=>r=.returned (.bool false)/\∃i,a=w.drewN i:=by
 go_enter func19,ntmps19;go_wp2;go_ret;exact⟨rfl,0,rfl⟩
theorem G3(z:Int)(w:World):Calls prog 27 #[.pointer none,.int .i64 z] w fun r c=>∃a b,r=.returned (.slice a 0 b)/\∃i,c=w.drewN i:=by
 go_enter func27,ntmps27;go_wp2_with fail;refine(x7 z _).mono ?_;rintro r c⟨rfl,rfl⟩;go_wp2;go_ret;exact⟨_,_,rfl,0,rfl⟩
theorem G2(w:World):Calls prog 21 #[.pointer none] w fun r a=>r=.returned (.int .i64 0)/\∃i,a=w.drewN i:=by
 go_enter func21,ntmps21;go_wp2;go_ret;exact⟨rfl,0,rfl⟩
theorem G6(w:World):Calls prog 22 #[.pointer none] w fun r a=>r=.returned (.int .i64 0)/\∃i,a=w.drewN i:=by
 go_enter func22,ntmps22;go_wp2;go_ret;exact⟨rfl,0,rfl⟩
theorem G7(w:World):Calls prog 28 #[.pointer none] w fun r a=>r=.returned (.int .i64 0)/\∃i,a=w.drewN i:=by
 go_enter func28,ntmps28;go_wp2;go_ret;exact⟨rfl,0,rfl⟩
def pY(w:World)(B b:Nat)(p:Pg)(fuel:Int)(W Bud:Nat)(S:Nat->Prop)(m:Mac):Prop:=(∃a c d e,MY p fuel B b W Bud a c d e S m w)/\(dM p fuel<=600->eG p fuel W m<=80400)
theorem ID{w:World}{B b W Bud:Nat}{p:Pg}{fuel:Int}{S:Nat->Prop}{m:Mac}(z d:Int)(h:pY w B b p fuel W Bud S m)(g:GoodM p fuel W Bud m):
  Calls prog 23 #[.pointer (some ⟨b,0,none⟩),.int .i64 z,.int .i64 d] w fun r f=>r=.returned (.int .i64 ((fQ p fuel W Bud z d m).1:Nat))/\∃a,pY f B b p fuel W Bud a (fQ p fuel W Bud z d m).2/\OnlyS S w f/\∀y,a y->S y∨w.heap.size<=y:=by
 obtain⟨⟨j,k,l,n,o⟩,c⟩:=h
 refine(Hu o g (c g.small) z d).mono fun r f ⟨e,a,q,s,t⟩=>⟨e,a,⟨⟨j,k,l,n,q⟩,fun i=>?_⟩,s,t⟩
 obtain⟨T,u⟩:=g.inv;unfold fQ
 split
 ·by_cases v:z.toNat<W
  ·exact Nat.le_trans (LZ g.good g.pos u v d) (c i)
  ·have e:ej p fuel W Bud z.toNat d m=(0,m):=by
    unfold ej;rw[if_pos (.inl (by omega))]
   rw[e];exact c i
 ·exact c i
theorem IF{w:World}{B b W Bud:Nat}{p:Pg}{fuel:Int}{S:Nat->Prop}{m:Mac}(z:Int)(h:pY w B b p fuel W Bud S m)(g:GoodM p fuel W Bud m):
  Calls prog 27 #[.pointer (some ⟨b,0,none⟩),.int .i64 z] w fun r a=>∃v,r=.returned v/\fO a w.heap.size v (jb W z m)/\Below w.heap.size w a:=by
 obtain⟨⟨f,i,k,l,c⟩,_⟩:=h;obtain⟨T,d⟩:=g.inv;exact Js c (fun j e=>by have:=(tW g.good d e).1;have:=g.small;omega) z
theorem IE(p:Pg)(a:Option Addr)(cap:Nat)(fuel:Int)(W Bud:Nat)(w:World)(j:dI w a p.threads)(k:a=none->cap=0)(g:dF p fuel=true)(h1:1<=W)(d:W<=64)(c:1<=Bud)(f:Bud<=1048576):
  Calls prog 14 #[.agg #[.int .i64 p.vars,.int .i64 p.mutexes,.slice a p.threads.length cap],.int .i64 fuel,.int .i64 (W:Int),.int .i64 (Bud:Int)] w fun r i=>∃b S,r=.returned (.tuple #[.pointer (some ⟨b,0,none⟩),.int .i64 0])/\Below w.heap.size w i/\pY i w.heap.size b p fuel W Bud S (gM p fuel W):=
 (HU p a cap fuel W Bud w j k g h1 d c f).mono fun _ _ ⟨b,l,m,n,o,S,e,hb,h⟩=>⟨b,S,e,hb,⟨l,m,n,o,h⟩,fun q=>L1 (B:=Bud) g q h1 c⟩
def IG:MachI where
 MM:=pY
 low:=fun⟨⟨_,_,_,_,h⟩,_⟩=>h.low
 only:=fun⟨⟨b,d,e,f,h⟩,g⟩ o i=>⟨⟨b,d,e,f,h.only o i⟩,g⟩
 new:=IE
 bad:=Hz
 step:=ID
 halted:=fun⟨⟨_,_,_,_,h⟩,_⟩=>uj h
 complete:=fun⟨⟨_,_,_,_,h⟩,_⟩=>L' h
 keys:=IF
 nodes:=fun⟨⟨_,_,_,_,h⟩,_⟩=>Ha h
 claims:=fun⟨⟨_,_,_,_,h⟩,_⟩=>Ik h
 blocked:=fun⟨⟨_,_,_,_,h⟩,_⟩=>MN h
 workers:=fun⟨⟨_,_,_,_,h⟩,_⟩=>(p7 h).mono fun _ _ ⟨a,c⟩=>⟨a,0,c⟩
 nilStep:=G1
 nilHalted:=G4
 nilComplete:=G5
 nilKeys:=G3
 nilNodes:=G2
 nilClaims:=G6
 nilBlocked:=G7
 nilWorkers:=fun w=>(x6 w).mono fun _ _ ⟨a,c⟩=>⟨a,0,c⟩
end
section
open Go.Lib (hid)
open Go.Proofs.Tryz Go.RowKit
def om:Ins:=⟨2,0,0,0⟩
def gq:Pg:=⟨1,0,[[om],[om]]⟩
theorem BT(w:World):ip (w.alloc (.cells #[.int .i64 2,.int .i64 0,.int .i64 0,.int .i64 0] 63)) (some ⟨w.heap.size,0,none⟩) [om]:=by
 refine⟨by simp[maxLen],fun _=>⟨w.heap.size,0,rfl,fun i a=>?_⟩⟩;have b:i<1:=a;obtain rfl:i=0:=by omega
 simp[om]
theorem BR(w:World)(c:Addr)(h:ip w (some c) [om]):dI (w.alloc (.cells #[.slice (some c) 1 1,.slice (some c) 1 1] 64)) (some ⟨w.heap.size,0,none⟩) gq.threads:=by
 refine⟨by simp[maxLen,gq],fun _=>⟨w.heap.size,0,rfl,fun i a=>?_⟩⟩;have b:i<2:=a;obtain rfl|rfl:i=0∨i=1:=by omega
 ·exact⟨some c,1,by simp[gq],h.later (da _ _),fun e=>by cases e⟩
 ·exact⟨some c,1,by simp[gq],h.later (da _ _),fun e=>by cases e⟩
theorem BS:dF gq 1=true/\dM gq 1<=600:=by decide +kernel
def p8:Mac:=gM gq 1 2
def rX:Mac:=(fQ gq 1 2 100 1 0 p8).2
def rW:Mac:=(fQ gq 1 2 100 1 0 rX).2
def vn:Mac:=(fQ gq 1 2 100 2 0 rW).2
def kq:Mac:=fF gq 1 2 100 50 0 (gh gq 1 2 100 [] vn)
theorem BV:el 2 p8=false/\(fQ gq 1 2 100 1 0 p8).1=2/\(fQ gq 1 2 100 1 0 rX).1=3/\(fQ gq 1 2 100 2 0 rW).1=0:=by decide +kernel
theorem BU:el 2 kq=true/\kq.over=false/\((gN 2 kq).flatten.foldl dZ []).length=2/\(gN 2 kq).flatten.length=2/\kq.l.length=5/\kq.cl=4/\kq.blk=0:=by decide +kernel
section
variable{I:MachI}{w wr w':World}{B b W Bud:Nat}{p:Pg}{fuel:Int}{S:Nat->Prop}{m:Mac}
theorem RunI.run(h:RunI I w B b p fuel W Bud S m wr)(q:∀x,S x->B<=x)(c:World)(i:Below c.heap.size c w)(j:c.heap.size<=B)(f:Option Addr)(k:Nat)(l:List (Int × Int))(d:en c f 2 ku l)(s:l.length<=1000)(n:Nat)(t:n<=1000000000):
  Calls prog 15 #[.pointer (some ⟨b,0,none⟩),.slice f l.length k,.int .i64 (n:Int)] wr fun r w'=>r=.returned (.tuple #[])/\RunI I w B b p fuel W Bud S (fF p fuel W Bud n 0 (gh p fuel W Bud l m)) w':=by
 obtain⟨E,u,o⟩:=h.mm
 refine(wF I u h.good c (h.below i fun x hx=>Nat.le_trans j (q x hx)) j f k l d s n t).mono fun r w' ⟨e,g⟩=>⟨e,?_⟩
 obtain⟨v,z,A⟩:=g.mm;refine⟨⟨v,z,fun y C=>?_⟩,h.only.thenS g.only fun x hx D=>?_,g.good⟩
 ·rcases A y C with a|a
  ·exact o y a
  ·exact .inr (Nat.le_trans h.only.size a)
 ·rcases o x D with a|a
  ·exact a
  ·omega
theorem RunI.all(h:RunI I w B b p fuel W Bud S m wr):Calls prog 17 #[.pointer (some ⟨b,0,none⟩)] wr fun r w'=>∃v,r=.returned v/\il w' wr.heap.size v (gN W m)/\RunI I w B b p fuel W Bud S m w':=by
 obtain⟨d,a,f⟩:=h.mm
 exact(Bh I a h.good).mono fun r w' ⟨v,e,c,hb⟩=>⟨v,e,c,h.later hb⟩
theorem RunI.complete(h:RunI I w B b p fuel W Bud S m wr):Calls prog 19 #[.pointer (some ⟨b,0,none⟩)] wr fun r w'=>r=.returned (.bool (el W m && !m.over))/\RunI I w B b p fuel W Bud S m w':=by
 obtain⟨d,a,f⟩:=h.mm
 refine(I.complete a).mono fun r w' ⟨e,i,c⟩=>⟨e,?_⟩
 subst c;exact h.later (Below.refl _ _).drewN
theorem RunI.nodes(h:RunI I w B b p fuel W Bud S m wr):Calls prog 21 #[.pointer (some ⟨b,0,none⟩)] wr fun r w'=>r=.returned (.int .i64 (m.l.length:Nat))/\RunI I w B b p fuel W Bud S m w':=by
 obtain⟨d,a,f⟩:=h.mm
 refine(I.nodes a).mono fun r w' ⟨e,i,c⟩=>⟨e,?_⟩
 subst c;exact h.later (Below.refl _ _).drewN
theorem RunI.claims(h:RunI I w B b p fuel W Bud S m wr):Calls prog 22 #[.pointer (some ⟨b,0,none⟩)] wr fun r w'=>r=.returned (.int .i64 (m.cl:Nat))/\RunI I w B b p fuel W Bud S m w':=by
 obtain⟨d,a,f⟩:=h.mm
 refine(I.claims a).mono fun r w' ⟨e,i,c⟩=>⟨e,?_⟩
 subst c;exact h.later (Below.refl _ _).drewN
theorem RunI.blocked(h:RunI I w B b p fuel W Bud S m wr):Calls prog 28 #[.pointer (some ⟨b,0,none⟩)] wr fun r w'=>r=.returned (.int .i64 (m.blk:Nat))/\RunI I w B b p fuel W Bud S m w':=by
 obtain⟨d,a,f⟩:=h.mm
 refine(I.blocked a).mono fun r w' ⟨e,i,c⟩=>⟨e,?_⟩
 subst c;exact h.later (Below.refl _ _).drewN
theorem yh(I:MachI)(p:Pg)(a:Option Addr)(cap:Nat)(fuel:Int)(W Bud:Nat)(w:World)(g:dI w a p.threads)(h:a=none->cap=0)(c:dF p fuel=true)(i:dM p fuel<=600)(h1:1<=W)(h2:W<=64)(d:1<=Bud)(j:Bud<=1048576):
  Calls prog 14 #[.agg #[.int .i64 p.vars,.int .i64 p.mutexes,.slice a p.threads.length cap],.int .i64 fuel,.int .i64 (W:Int),.int .i64 (Bud:Int)] w fun r w'=>∃b S,r=.returned (.tuple #[.pointer (some ⟨b,0,none⟩),.int .i64 0])/\Below w.heap.size w w'/\(∀x,S x->w.heap.size<=x)/\RunI I w' w.heap.size b p fuel W Bud S (gM p fuel W) w':=by
 refine(I.new p a cap fuel W Bud w g h c h1 h2 d j).mono fun r w' ⟨b,S,e,hb,f⟩=>⟨b,S,e,hb,fun x hx=>((I.low f).2 x hx).1,RunI.start f ⟨c,i,h1,h2,tu c h1 d⟩⟩
end
theorem rK(I:MachI)(w:World):Calls prog 10 #[] w fun r w'=>r=.returned (.bool true)/\Below w.heap.size w w':=by
 have hc:=BT w;have U:=BR (w.alloc (.cells #[.int .i64 2,.int .i64 0,.int .i64 0,.int .i64 0] 63)) ⟨w.heap.size,0,none⟩ hc;have s:=eH w (.cells #[.int .i64 2,.int .i64 0,.int .i64 0,.int .i64 0] 63) (.cells #[.slice (some ⟨w.heap.size,0,none⟩) 1 1,.slice (some ⟨w.heap.size,0,none⟩) 1 1] 64);rw[World.size_alloc]at U;have V:=hid U;have k:=hid s;obtain⟨g1,g2⟩:=BS;obtain⟨a1,a2,a3,a4⟩:=BV;have t:=hid BU
 have l:Hid (∀W,Below ((w.alloc (.cells #[.int .i64 2,.int .i64 0,.int .i64 0,.int .i64 0] 63)).alloc (.cells #[.slice (some ⟨w.heap.size,0,none⟩) 1 1,.slice (some ⟨w.heap.size,0,none⟩) 1 1] 64)).heap.size ((w.alloc (.cells #[.int .i64 2,.int .i64 0,.int .i64 0,.int .i64 0] 63)).alloc (.cells #[.slice (some ⟨w.heap.size,0,none⟩) 1 1,.slice (some ⟨w.heap.size,0,none⟩) 1 1] 64)) W ->
   Calls prog 14 #[.agg #[.int .i64 1,.int .i64 0,.slice (some ⟨w.heap.size+1,0,none⟩) 2 2],.int .i64 1,.int .i64 2,.int .i64 100] W (fun r w'=>∃b S,r=.returned (.tuple #[.pointer (some ⟨b,0,none⟩),.int .i64 0])/\Below W.heap.size W w'/\(∀x,S x->W.heap.size<=x)/\RunI I w' W.heap.size b gq 1 2 100 S p8 w') /\
   Calls prog 14 #[.agg #[.int .i64 1,.int .i64 0,.slice (some ⟨w.heap.size+1,0,none⟩) 2 2],.int .i64 1,.int .i64 0,.int .i64 100] W fun r w'=>r=.returned (.tuple #[.pointer none,.int .i64 1])/\Below W.heap.size W w'):=fun W hb=>
  ⟨yh I gq (some ⟨w.heap.size+1,0,none⟩) 2 1 2 100 W (V.out.later hb) (fun e=>by cases e) g1 g2 (by omega) (by omega) (by omega) (by omega),I.bad gq (some ⟨w.heap.size+1,0,none⟩) 2 1 0 100 W (V.out.later hb) (fun e=>by cases e) (.inr (.inl (by omega)))⟩
 have aa:Hid (∀W,Calls prog 14 #[.agg #[.int .i64 0,.int .i64 0,.slice none 0 0],.int .i64 1,.int .i64 1,.int .i64 100] W fun r w'=>r=.returned (.tuple #[.pointer none,.int .i64 1])/\Below W.heap.size W w'):=fun W=>I.bad ⟨0,0,[]⟩ none 0 1 1 100 W ⟨by simp[maxLen],fun h=>absurd rfl h⟩ (fun _=>rfl) (.inl (by decide))
 have A1:=hid a1;have A2:=hid a2;have A3:=hid a3;have A4:=hid a4;clear hc U s g1 g2 a1 a2 a3 a4 V;go_enter func10,ntmps10;generalize ab:((w.alloc (.cells #[.int .i64 2,.int .i64 0,.int .i64 0,.int .i64 0] 63)).alloc (.cells #[.slice (some ⟨w.heap.size,0,none⟩) 1 1,.slice (some ⟨w.heap.size,0,none⟩) 1 1] 64))=f at *;have g:=da f (.cells #[.int .i64 1,.int .i64 0,.slice (some ⟨w.heap.size+1,0,none⟩) 2 2] 24)
 have HP:Hid (∀W,Below f.heap.size f W->W.heap[f.heap.size]?=(f.alloc (.cells #[.int .i64 1,.int .i64 0,.slice (some ⟨w.heap.size+1,0,none⟩) 2 2] 24)).heap[f.heap.size]?->W.cell? ⟨f.heap.size,0,none⟩=some (.int .i64 1)/\W.cell? ⟨f.heap.size,1,none⟩=some (.int .i64 0)/\W.cell? ⟨f.heap.size,2,none⟩=some (.slice (some ⟨w.heap.size+1,0,none⟩) 2 2)):=fun W _ e=>by
  have p:W.heap[f.heap.size]?=some (.cells #[.int .i64 1,.int .i64 0,.slice (some ⟨w.heap.size+1,0,none⟩) 2 2] 24 (0,0)):=e.trans (heap_alloc_new f _);exact⟨by rw[cell_of_row W _ 0 _ _ _ p];rfl,by rw[cell_of_row W _ 1 _ _ _ p];rfl,by rw[cell_of_row W _ 2 _ _ _ p];rfl⟩
 go_wp2_with fail
 refine((l.out _ g).1).mono ?_;rintro r j⟨b,S,rfl,m,hS,u⟩;have d:=g.trans (m.mono g.size);obtain⟨p0,p1,p2⟩:=HP.out j d (m.block _ (by simp));have HS:=hid hS;have y:=hid u;have z:Hid (Below w.heap.size w j):=k.out.trans (d.mono k.out.size);have A:Hid (w.heap.size<=(f.alloc (.cells #[.int .i64 1,.int .i64 0,.slice (some ⟨w.heap.size+1,0,none⟩) 2 2] 24)).heap.size):=Nat.le_trans k.out.size g.size;generalize (f.alloc (.cells #[.int .i64 1,.int .i64 0,.slice (some ⟨w.heap.size+1,0,none⟩) 2 2] 24)).heap.size=B at *;have C:=hid (l.out j d).2;clear m hS u d l g HP ab;go_wp2_with fail;refine C.out.mono ?_;rintro r W4⟨rfl,D⟩;have E:=hid (y.out.later D);clear D C y p0 p1 p2;go_wp2_with fail;refine(aa.out W4).mono ?_;rintro r W5⟨rfl,F⟩;have G:=hid (E.out.later F);have a:=hid G.out.halted;rw[A1.out]at a;clear F E;go_wp2_with fail;refine a.out.mono ?_;rintro r W6⟨rfl,h6⟩
 have a:Hid (Calls prog 23 #[.pointer (some ⟨b,0,none⟩),.int .i64 1,.int .i64 0] W6 fun r w'=>r=.returned (.int .i64 2)/\RunI I j B b gq 1 2 100 S rX w'):=by
  have h:=h6.step 1 0;rw[A2.out]at h;exact h
 clear h6 G;go_wp2_with fail;refine a.out.mono ?_;rintro r W7⟨rfl,h7⟩
 have a:Hid (Calls prog 23 #[.pointer (some ⟨b,0,none⟩),.int .i64 1,.int .i64 0] W7 fun r w'=>r=.returned (.int .i64 3)/\RunI I j B b gq 1 2 100 S rW w'):=by
  have h:=h7.step 1 0;rw[A3.out]at h;exact h
 clear h7;go_wp2_with fail;refine a.out.mono ?_;rintro r W8⟨rfl,h8⟩
 have a:Hid (Calls prog 23 #[.pointer (some ⟨b,0,none⟩),.int .i64 2,.int .i64 0] W8 fun r w'=>r=.returned (.int .i64 0)/\RunI I j B b gq 1 2 100 S vn w'):=by
  have h:=h8.step 2 0;rw[A4.out]at h;exact h
 clear h8;go_wp2_with fail;refine a.out.mono ?_;rintro r W9⟨rfl,h9⟩;have a:Hid (Calls prog 15 #[.pointer (some ⟨b,0,none⟩),.slice none 0 0,.int .i64 50] W9 fun r w'=>r=.returned (.tuple #[])/\RunI I j B b gq 1 2 100 S kq w'):=h9.run HS.out w z.out A.out none 0 [] (oI _ _ _ _) (by simp) 50 (by omega);clear h9;go_wp2_with fail;refine a.out.mono ?_;rintro r ad⟨rfl,H⟩;have a:=hid H.all;clear H;obtain⟨e1,p,X,e4,e5,e6,e7⟩:=t.out;rw[sT]at X;have c:(gN 2 kq).length=2:=rfl;have q:=hid (And.intro e1 (And.intro p (And.intro e5 (And.intro e6 e7))));have n:=hid (And.intro X e4);clear e1 p X e4 e5 e6 e7 t;generalize kq=m4 at *;go_wp2_with fail;refine a.out.mono ?_;rintro r ae⟨v,rfl,Y,J⟩;obtain⟨af,ag,o,_⟩:=Y.at_ (by rw[c];omega);have Z:=zP (o▸Y) (by rw[c];omega) (by rw[n.out.2];omega);rw[n.out.1,n.out.2,c]at Z;rw[c]at o;subst o;have HG:=hid Z;have L:=hid J;clear Y Z J a c;go_wp2_with fail;refine HG.out.mono ?_;rintro r ah⟨ka,kc,rfl,_,i⟩;have M:=L.out.later i;have a:=hid M.halted;rw[q.out.1]at a;clear M i L HG;go_wp2_with fail;refine a.out.mono ?_;rintro r ai⟨rfl,N⟩;have a:=hid N.complete;rw[q.out.1,q.out.2.1]at a;clear N;go_wp2_with fail;refine a.out.mono ?_;rintro r aj⟨rfl,O⟩;have a:=hid O.nodes;rw[q.out.2.2.1]at a;clear O;go_wp2_with fail;refine a.out.mono ?_;rintro r ak⟨rfl,P⟩;have a:=hid P.claims;rw[q.out.2.2.2.1]at a;clear P;go_wp2_with fail;refine a.out.mono ?_;rintro r al⟨rfl,Q⟩;have a:=hid Q.workers;clear Q;go_wp2_with fail;refine a.out.mono ?_;rintro r am⟨rfl,R⟩;have a:=hid R.blocked;rw[q.out.2.2.2.2]at a;clear R;go_wp2_with fail;refine a.out.mono ?_;rintro r ac⟨rfl,T⟩;have HF:Hid (Below w.heap.size w ac):=T.below z.out fun x hx=>Nat.le_trans A.out (HS.out x hx)
 clear T a;go_wp2;go_ret;exact⟨rfl,HF.out⟩
end
section
open Go.RowKit

end
end Go.Proofs.YtjfmmnhcddckaaaGreat
