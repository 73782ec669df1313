import Derived.Laws.CopyRow
import Derived.Laws.Externs
import Derived.Lib.Overlaps
import Derived.Lib.AppendZeros
import Derived.Lib.AppendZerosOnto
import Derived.Shelf.Spec.SlicesInsert
import Derived.Shelf.Spec.SlicesInsertGrow
import Derived.Test.YtjfmmnhcddckaaaGreatPk05
set_option maxRecDepth 100000
set_option maxHeartbeats 4000000
namespace Go.Proofs.YtjfmmnhcddckaaaGreat
section
open Go.Lib (hid)
open Go.Proofs.Tryz Go.RowKit
structure QOk(w:World)(B b:Nat)(pre:Nat->df)(ids:List Nat)(vs:Nat->Value)(pl:Nat->Nat->Int)(ls:Nat->List Nat):Prop where
 qr:QR w B b pre ids vs pl ls
 ok:∀s,s<2->SideOk pre (pl s) (ls s) s
 perm:(ls 0).Perm (ls 1)
section
variable{w w' w'':World}{B b:Nat}{pre:Nat->df}{ids:List Nat}{vs:Nat->Value}{pl pl1 pl2:Nat->Nat->Int}{ls:Nat->List Nat}{s t:Nat}
theorem QOk.both(q:QOk w B b pre ids vs pl ls)(a:s<2)(c:t<2):(ls s).Perm (ls t):=by
 rcases eA a with rfl|rfl <;> rcases eA c with rfl|rfl
 ·exact List.Perm.refl _
 ·exact q.perm
 ·exact q.perm.symm
 ·exact List.Perm.refl _
def rO(B b:Nat)(pre:Nat->df)(ids:List Nat)(vs:Nat->Value)(ls:Nat->List Nat)(s x:Nat)(w w':World):Prop:=
 ∃a d c,QOk w' B b pre ids a d c/\(x::c s).Perm (ls s)/\OnlyS (QS b ids vs) w w'/\∀y,QS b ids a y↔QS b ids vs y
theorem sR{c:Value}(f:s<2)(d:c.ownBlock=(vs s).ownBlock){y:Nat}:QS b ids (db vs s c) y↔QS b ids vs y:=by
 have a:∀t,(db vs s c t).ownBlock=(vs t).ownBlock:=fun t=>by
  by_cases e:t=s
  ·subst e;rw[dg];exact d
  ·rw[dh _ _ e]
 unfold QS;rw[a,a]
theorem Hx(q:QOk w B b pre ids vs pl ls)(f:s<2)(g:t<2)(a:s≠t){x:Nat}{v1 v2:Value}{c d:List Nat}(n:QR w' B b pre ids (db (db vs s v1) t v2) pl2 (db (db ls s c) t d))(h:SideOk pre (pl1 s) c s)(i:SideOk pre (pl2 t) d t)
  (p:∀k,k≠t->pl2 k=pl1 k) (j:(x::c).Perm (ls s)) (l:(x::d).Perm ((db ls s c) t)) (r:v1.ownBlock=(vs s).ownBlock) (u:v2.ownBlock=(db vs s v1 t).ownBlock) (o:OnlyS (QS b ids vs) w w'):rO B b pre ids vs ls s x w w':=by
 rw[dh _ _ (Ne.symm a)]at l;have m:c.Perm d:=(j.trans ((q.both f g).trans l.symm)).cons_inv;refine⟨_,_,_,⟨n,fun k v=>?_,?_⟩,?_,o,fun y=>(sR g u).trans (sR f r)⟩
 ·by_cases e:k=t
  ·subst e;rw[dg];exact i
  ·obtain rfl:k=s:=by omega
   rw[dh _ _ e,dg,p k e];exact h
 ·rcases eA f with rfl|rfl <;> rcases eA g with rfl|rfl
  ·exact absurd rfl a
  ·rw[dg,dh _ _ (by omega),dg];exact m
  ·rw[dg,dh _ _ (by omega),dg];exact m.symm
  ·exact absurd rfl a
 ·rw[dh _ _ a,dg];exact j
theorem yi(q:QOk w B b pre ids vs pl ls)(e:s<2)(f:t<2)(a:s≠t){m:Nat}(z:(ls s).length=m+1):
  Calls prog 169 #[.func (.func 170) #[eW b s] #[],.func (.func 171) #[eW b t] #[]] w fun r w'=>r=.returned (.string ⟨(pre ((ls s).getD 0 0)).toArray⟩)/\rO B b pre ids vs ls s ((ls s).getD 0 0) w w':=by
 have T:=hid (CX q.qr e (q.ok s e) z);have c:(ls s).getD 0 0∈ls t:=(q.both e f).subset (nQ (by omega));obtain⟨j,U,o⟩:=yt c;have p:(ls t).length=m+1:=by rw[<-(q.both e f).length_eq,z]
 have u:=q.qr.sub t f _ c
 have V:Hid (∀g i pl1 l,QR g B b pre ids (db vs s i) pl1 (db ls s l)->(∀k,k≠s->pl1 k=pl k)->Calls prog 171 #[eW b t,.pointer (some ⟨(ls s).getD 0 0,0,none⟩)] g fun r w'=>r=.returned (.tuple #[])/\kP B b pre ids (db vs s i) pl1 (db ls s l) t ((ls s).getD 0 0) g w'):=fun g i pl1 l n W=>by
  refine LO n f (by rw[dh _ _ (Ne.symm a),W t (Ne.symm a)];exact q.ok t f) (m:=m) (j:=j) (by rw[dh _ _ (Ne.symm a)];exact p) (by omega) (by rw[dh _ _ (Ne.symm a)];exact o)
 have Q:=hid q;have A:=hid u;clear z c U o p q u;generalize (ls s).getD 0 0=F at *;go_enter func169,ntmps169;go_wp2_with fail;refine T.out.mono ?_;rintro r g⟨rfl,i,pl1,l,G,v,H,I,J,L⟩;have C:=hid (V.out g i pl1 l G H);have D:=hid v;have X:=hid I;have Y:=hid J;have M:=hid L;clear G v H I J L;go_wp2_with fail;refine C.out.mono ?_;rintro r Z⟨rfl,v2,pl2,l2,n,x,N,O,P,R⟩;have ct:=(n.cellI A.out).1;have HR:Hid (rO B b pre ids vs ls s F w Z):=Hx Q.out e f a n D.out x N X.out O M.out R (Y.out.thenS P fun y _ h=>(sR e M.out).1 h);clear n x N O P R
 obtain⟨S,d⟩:∃S,S=pre F:=⟨_,rfl⟩
 have E:=hid d;rw[<-d]at ct;clear d;go_wp2;go_ret;exact⟨by rw[<-E.out];rfl,HR.out⟩
def QU(w:World)(B b:Nat)(S:Nat->Prop)(T:List df):Prop:=∃pre ids vs pl ls,QOk w B b pre ids vs pl ls/\((ls 0).map pre).Perm T/\∀x,QS b ids vs x↔S x
theorem QU.perm{S:Nat->Prop}{T a:List df}(h:QU w B b S T)(p:T.Perm a):QU w B b S a:=by
 obtain⟨pre,ids,vs,pl,ls,q,c,d⟩:=h;exact⟨pre,ids,vs,pl,ls,q,c.trans p,d⟩
theorem QU.onlyS{S R:Nat->Prop}{T:List df}(h:QU w B b S T)(c:OnlyS R w w')(d:∀x,S x->¬R x):QU w' B b S T:=by
 obtain⟨pre,ids,vs,pl,ls,q,e,a⟩:=h;exact⟨pre,ids,vs,pl,ls,⟨q.qr.onlyS c fun x hx=>d x ((a x).1 hx),q.ok,q.perm⟩,e,a⟩
theorem QU.later{S:Nat->Prop}{T:List df}(h:QU w B b S T)(hb:Below w.heap.size w w'):QU w' B b S T:=by
 obtain⟨pre,ids,vs,pl,ls,q,a,c⟩:=h;exact⟨pre,ids,vs,pl,ls,⟨q.qr.later hb,q.ok,q.perm⟩,a,c⟩
theorem QU.kinds{S:Nat->Prop}{T:List df}(h:QU w B b S T){x:Nat}(hx:S x):B<=x/\∃c a,w.heap[x]?=some (.cells c a (0,0))/\(a=186∨a=278∨a=280):=by
 obtain⟨pre,ids,vs,pl,ls,q,e,d⟩:=h;exact q.qr.kinds ((d x).2 hx)
theorem QU.lt{S:Nat->Prop}{T:List df}(h:QU w B b S T){x:Nat}(hx:S x):x<w.heap.size:=by
 obtain⟨_,c,a,e,_⟩:=h.kinds hx;exact(Array.getElem?_eq_some_iff.1 e).1
theorem QU.low{S:Nat->Prop}{T:List df}(h:QU w B b S T):B<=w.heap.size:=by
 obtain⟨pre,ids,vs,pl,ls,q,a,c⟩:=h;exact q.qr.low
def uZ(B b:Nat)(S:Nat->Prop)(T:List df)(s:Nat)(w:World)(r:Ending)(w':World):Prop:=
 ∃k c,r=.returned (.tuple #[.string ⟨k.toArray⟩,.bool true])/\(k::c).Perm T/\(∀y∈T,(if s=1 then gb k y else gb y k)=false)/\QU w' B b S c/\OnlyS S w w'
theorem vP{S:Nat->Prop}{T:List df}(q:QOk w B b pre ids vs pl ls)(h1:((ls 0).map pre).Perm T)(h2:∀x,QS b ids vs x↔S x)(c:s<2)(g:rO B b pre ids vs ls s ((ls s).getD 0 0) w w'):uZ B b S T s w (.returned (.tuple #[.string ⟨(pre ((ls s).getD 0 0)).toArray⟩,.bool true])) w':=by
 obtain⟨d,e,a,f,p,o,h⟩:=g;refine⟨_,(a 0).map pre,rfl,?_,fun y i=>?_,⟨pre,ids,d,e,a,f,List.Perm.refl _,fun x=>(h x).trans (h2 x)⟩,o.mono fun x _ hx=>(h2 x).1 hx⟩
 ·have j:((ls s).getD 0 0::a 0).Perm (ls 0):=((f.both (t:=s) (s:=0) (by omega) c).cons _).trans (p.trans (q.both c (by omega)))
  exact(j.map pre).trans h1
 ·obtain⟨z,k,rfl⟩:=List.mem_map.1 (h1.symm.subset i)
  have:=(q.ok s c).top ((q.both (by omega) c).subset k);unfold dR at this;exact this
theorem qB{S:Nat->Prop}{T:List df}(h:QU w B b S T):Calls prog 125 #[.pointer (some ⟨b,0,none⟩)] w fun r w'=>r=.returned (.int .i64 T.length)/\w=w':=by
 obtain⟨pre,ids,vs,pl,ls,q,c,e⟩:=h;obtain⟨a,i,f⟩:=q.qr.sliceV (s:=0) (by omega);have g:=q.qr.cellB (s:=0) (by omega);have d:(ls 0).length=T.length:=by rw[<-c.length_eq,List.length_map]
 rw[f,d]at g;clear q d c e;go_enter func125,ntmps125;go_wp2;go_ret;exact⟨rfl,rfl⟩
theorem FD{S:Nat->Prop}{T:List df}(h:QU w B b S T)(d:T≠[]):Calls prog 127 #[.pointer (some ⟨b,0,none⟩)] w (uZ B b S T 0 w):=by
 have j:=hid (qB h);obtain⟨pre,ids,vs,pl,ls,q,c,e⟩:=h;have x:0<T.length:=List.length_pos_iff.2 d
 obtain⟨m,f⟩:∃m,(ls 0).length=m+1:=⟨(ls 0).length-1,by have:=c.length_eq;rw[List.length_map]at this;omega⟩
 have k:Hid (Calls prog 169 #[.func (.func 170) #[.agg #[.pointer (some ⟨b,0,none⟩),.int .i64 0]] #[],.func (.func 171) #[.agg #[.pointer (some ⟨b,0,none⟩),.int .i64 1]] #[]] w _):=yi q (s:=0) (t:=1) (by omega) (by omega) (by omega) f;have l:=hid (fun w' n=>vP (s:=0) (w':=w') q c e (by omega) n);have y:((T.length:Int)==0)=false:=by rw[beq_eq_false_iff_ne];omega
 have z:∀(g:Fn) (first a:Array Value) (w:World),(Instr.makeFunc g first a).run prog w=.ok (.func g first a) w:=fun _ _ _ _=>rfl
 clear q c e f d;generalize (ls 0).getD 0 0=o at *;generalize pre o=p at *;go_enter func127,ntmps127;go_wp2_with fail;refine j.out.mono ?_;rintro r w'⟨rfl,rfl⟩;go_wp2_with fail;refine k.out.mono ?_;rintro r w'⟨rfl,i⟩;have u:=hid (l.out w' i);clear i;go_wp2;refine bodyPost_ret (v:=.tuple #[.string ⟨p.toArray⟩,.bool true]) (by simp[results,results127,go_sem]) rfl ?_;exact u.out
theorem FB{S:Nat->Prop}{T:List df}(h:QU w B b S T)(d:T≠[]):Calls prog 126 #[.pointer (some ⟨b,0,none⟩)] w (uZ B b S T 1 w):=by
 have j:=hid (qB h);obtain⟨pre,ids,vs,pl,ls,q,c,e⟩:=h;have x:0<T.length:=List.length_pos_iff.2 d
 obtain⟨m,f⟩:∃m,(ls 1).length=m+1:=⟨(ls 1).length-1,by have:=c.length_eq;rw[List.length_map]at this;have:=q.perm.length_eq;omega⟩
 have k:Hid (Calls prog 169 #[.func (.func 170) #[.agg #[.pointer (some ⟨b,0,none⟩),.int .i64 1]] #[],.func (.func 171) #[.agg #[.pointer (some ⟨b,0,none⟩),.int .i64 0]] #[]] w _):=yi q (s:=1) (t:=0) (by omega) (by omega) (by omega) f;have l:=hid (fun w' n=>vP (s:=1) (w':=w') q c e (by omega) n);have y:((T.length:Int)==0)=false:=by rw[beq_eq_false_iff_ne];omega
 have z:∀(g:Fn) (first a:Array Value) (w:World),(Instr.makeFunc g first a).run prog w=.ok (.func g first a) w:=fun _ _ _ _=>rfl
 clear q c e f d;generalize (ls 1).getD 0 0=o at *;generalize pre o=p at *;go_enter func126,ntmps126;go_wp2_with fail;refine j.out.mono ?_;rintro r w'⟨rfl,rfl⟩;go_wp2_with fail;refine k.out.mono ?_;rintro r w'⟨rfl,i⟩;have u:=hid (l.out w' i);clear i;go_wp2;refine bodyPost_ret (v:=.tuple #[.string ⟨p.toArray⟩,.bool true]) (by simp[results,results126,go_sem]) rfl ?_;exact u.out
theorem FA{S:Nat->Prop}(h:QU w B b S []):Calls prog 126 #[.pointer (some ⟨b,0,none⟩)] w fun r w'=>r=.returned (.tuple #[.string ⟨#[]⟩,.bool false])/\w=w':=by
 have a:=hid (qB h);clear h;go_enter func126,ntmps126;go_wp2_with fail;refine a.out.mono ?_;rintro r w'⟨rfl,rfl⟩;go_wp2;refine bodyPost_ret (v:=.tuple #[.string ⟨#[]⟩,.bool false]) (by simp[results,results126,go_sem]) rfl ?_;exact⟨rfl,rfl⟩
end
section
variable{w w' w'':World}{B b:Nat}{pre:Nat->df}{ids:List Nat}{vs:Nat->Value}{pl pl1 pl2:Nat->Nat->Int}{ls:Nat->List Nat}{s t:Nat}
theorem QR.newItem(q:QR w B b pre ids vs pl ls)(k:df){o:Obj}(c:o=.cells #[.string ⟨k.toArray⟩,.int .i64 0,.int .i64 0] 280):QR (w.alloc o) B b (db pre w.heap.size k) (w.heap.size::ids) vs (fun s=>db (pl s) w.heap.size 0) ls:=by
 subst c;have a:=q.later (da w (.cells #[.string ⟨k.toArray⟩,.int .i64 0,.int .i64 0] 280));refine⟨a.low,a.lowb,a.box,a.row,a.len,a.apart,fun x hx=>?_,fun s d x hx=>List.mem_cons_of_mem _ (q.sub s d x hx)⟩
 by_cases e:x=w.heap.size
 ·subst e
  refine⟨q.low,?_⟩;rw[heap_alloc_new];simp[pi,db]
 ·rcases List.mem_cons.1 hx with h|h
  ·exact absurd h e
  ·obtain⟨f,g⟩:=a.item x h
   refine⟨f,?_⟩;rw[g];simp[pi,db,e]
theorem DR{pre a:Nat->df}{p b:Nat->Int}{l:List Nat}(h:SideOk pre p l s)(h1:∀x∈l,a x=pre x)(h2:∀x∈l,b x=p x):SideOk a b l s:=by
 refine⟨h.nodup,fun j c=>?_,fun k e d=>?_⟩
 ·rw[h2 _ (nQ c)];exact h.pos j c
 ·have:=h.heap k e d
  unfold dR at *;rw[h1 _ (nQ d),h1 _ (nQ (by omega))];exact this
def pV(B b:Nat)(pre:Nat->df)(ids:List Nat)(vs:Nat->Value)(ls:Nat->List Nat)(x z:Nat)(w:World)(k:Nat)(wr:World):Prop:=
 ∃c d a,QR wr B b pre ids c d a/\(∀s,s<2->SideOk pre (d s) (a s) s)/\(∀s,s<k->(a s).Perm (x::ls s))/\(∀s,k<=s->s<2->a s=ls s)/\OnlyS (QS b ids vs) w wr/\∀y,QS b ids c y->QS b ids vs y∨z<=y
theorem FO{x z k:Nat}(j:k<2){d:Nat->Value}{f:Nat->Nat->Int}{a:Nat->List Nat}(r:∀s,s<2->SideOk pre (f s) (a s) s)(h1:∀s,s<k->(a s).Perm (x::ls s))(h2:∀s,k<=s->s<2->a s=ls s)(o:OnlyS (QS b ids vs) w w')(D:w.heap.size=z)(l:∀y,QS b ids d y->QS b ids vs y∨z<=y)
  (h:vd B b pre ids d f a k x w'.heap.size w' w''):pV B b pre ids vs ls x z w (k+1) w'':=by
 obtain⟨E,pl2,F,q,g,t,p,u,v⟩:=h;refine⟨_,_,_,q,fun s m=>?_,fun s m=>?_,fun s C i=>?_,?_,fun y n=>?_⟩
 ·by_cases e:s=k
  ·subst e;rw[dg];exact g
  ·rw[dh _ _ e,t s e];exact r s m
 ·by_cases e:s=k
  ·subst e;rw[dg,<-h2 s (Nat.le_refl _) j];exact p
  ·rw[dh _ _ e];exact h1 s (by omega)
 ·rw[dh _ _ (by omega)];exact h2 s (by omega) i
 ·refine o.thenS u fun y n A=>?_
  rcases l y A with c|c
  ·exact c
  ·omega
 ·rcases xd j v n with c|c
  ·exact l y c
  ·right
   have:=o.size;omega
theorem FP{S:Nat->Prop}{T:List df}{x z:Nat}{f:df}{u:World}(hx:pre x=f)(s:((ls 0).map pre).Perm T)(g:(ls 0).Perm (ls 1))(h:pV B b pre (x::ids) vs ls x z w 2 w')(hb:Below u.heap.size u w)(i:u.heap.size<=x)(j:u.heap.size<=z)(e:∀y,QS b ids vs y->S y):∃m,QU w' B b m (f::T)/\OnlyS S u w'/\∀y,m y->S y∨u.heap.size<=y:=by
 obtain⟨d,k,l,q,t,n,_,o,v⟩:=h;have p:=n 0 (by omega);have A:=n 1 (by omega)
 have r:∀y,QS b (x::ids) vs y->S y∨u.heap.size<=y:=fun y a=>by
  rcases a with a|a|a|a
  ·exact .inl (e y (.inl a))
  ·exact .inl (e y (.inr (.inl a)))
  ·exact .inl (e y (.inr (.inr (.inl a))))
  ·rcases List.mem_cons.1 a with rfl|a
   ·exact .inr i
   ·exact .inl (e y (.inr (.inr (.inr a))))
 refine⟨QS b (x::ids) d,⟨pre,_,d,k,l,⟨q,t,p.trans ((g.cons x).trans A.symm)⟩,?_,fun _=>Iff.rfl⟩,(OnlyS.of_below hb).thenS o fun y a h=>?_,fun y a=>?_⟩
 ·refine(p.map pre).trans ?_
  rw[List.map_cons,hx];exact s.cons f
 ·rcases r y h with c|c
  ·exact c
  ·omega
 ·rcases v y a with c|c
  ·exact r y c
  ·exact .inr (Nat.le_trans j c)
theorem FC{S:Nat->Prop}{T:List df}(h:QU w B b S T)(k:df)(J:k.length<=281474976710656)(hT:T.length<100000):Calls prog 164 #[.pointer (some ⟨b,0,none⟩),.string ⟨k.toArray⟩] w fun r w'=>r=.returned (.tuple #[])/\∃L,QU w' B b L (k::T)/\OnlyS S w w'/\∀y,L y->S y∨w.heap.size<=y:=by
 obtain⟨pre,ids,vs,pl,ls,q,u,A⟩:=h;have U:=hid (uG k w J);have D:(ls 0).length=T.length:=by rw[<-u.length_eq,List.length_map]
 have Z:(ls 1).length=T.length:=by rw[<-q.perm.length_eq,D]
 have Q:=hid q;have V:=hid u;have W:=hid A;clear q u A J;go_enter func164,ntmps164;go_wp2_with fail;refine U.out.mono ?_;rintro r d⟨rfl,c⟩
 have f:∀s,s<2->∀y∈ls s,y≠d.heap.size:=fun s g y i e=>by
  have u:=Q.out.qr.lt (x:=y) (.inr (.inr (.inr (Q.out.qr.sub s g y i))));have A:=c.size;omega
 have m:=hid f
 have n:Hid (pV B b (db pre d.heap.size k) (d.heap.size::ids) vs ls d.heap.size (d.alloc (.cells #[.string ⟨k.toArray⟩,.int .i64 0,.int .i64 0] 280)).heap.size (d.alloc (.cells #[.string ⟨k.toArray⟩,.int .i64 0,.int .i64 0] 280)) 0 (d.alloc (.cells #[.string ⟨k.toArray⟩,.int .i64 0,.int .i64 0] 280))):=by
  refine⟨vs,_,ls,(Q.out.qr.later c).newItem k rfl,fun s g=>DR (Q.out.ok s g) (fun y i=>dh _ _ (f s g y i)) (fun y i=>dh _ _ (f s g y i)),fun s g=>absurd g (Nat.not_lt_zero _),fun _ _ _=>rfl,OnlyS.refl _ _,fun _ h=>.inl h⟩
 have o:Hid (Below w.heap.size w (d.alloc (.cells #[.string ⟨k.toArray⟩,.int .i64 0,.int .i64 0] 280))):=c.alloc c.size _;have E:=hid c.size;clear c f;go_wp2_with fail;generalize (d.alloc (.cells #[.string ⟨k.toArray⟩,.int .i64 0,.int .i64 0] 280))=v at *;generalize d.heap.size=x at *
 go_loopw [5,12] (fun t5 t12 wr=>∃j:Nat,j<=2/\t12=.int .i64 j/\Hid (pV B b (db pre x k) (x::ids) vs ls x v.heap.size v j wr)) (fun _ t12 _=>2-(intOf t12).toNat)
 case atStart=>exact⟨0,Nat.zero_le _,rfl,n⟩
 case round=>
  clear n;obtain⟨j,hj,rfl,C⟩:=hrel
  by_cases a:j<2
  ·obtain⟨F,G,p,M,l,N,z,O,P⟩:=C.out
   have t:(p j).length<100000:=by rw[z j (Nat.le_refl _) a];rcases eA a with rfl|rfl <;> omega
   have X:=hid (Ko M a (l j a) (x:=x) (List.mem_cons_self) (by rw[z j (Nat.le_refl _) a];exact fun h=>m.out j a x h rfl) t);have H:Hid (∀w'',vd B b (db pre x k) (x::ids) F G p j x wr.heap.size wr w''->pV B b (db pre x k) (x::ids) vs ls x v.heap.size v (j+1) w''):=fun w'' h=>FO a l N z O rfl P h
   clear M l N z O P t C;go_wp2_with fail;refine X.out.mono ?_;rintro r Y⟨rfl,R⟩;have I:=hid (H.out Y R);clear R;go_wp2_with fail
   go_roundw
   case rel=>exact⟨j+1,by omega,by go_num,I⟩
   case measure=>simp[intOf];omega
  ·obtain rfl:j=2:=by omega
   go_wp2;refine bodyPost_end (results_none rfl _ _ _) rfl ⟨rfl,FP (dg _ _ _) ?_ Q.out.perm C.out o.out E.out o.out.size fun y h=>(W.out y).1 h⟩;rw[List.map_congr_left fun y i=>dh _ _ (m.out 0 (by omega) y i)];exact V.out
theorem FE(w:World):Calls prog 63 #[] w fun r w'=>r=.returned (.pointer (some ⟨w.heap.size,0,none⟩))/\Below w.heap.size w w'/\∃S,QU w' w.heap.size w.heap.size S []/\∀y,S y->w.heap.size<=y:=by
 go_enter func63,ntmps63;go_wp2;go_ret;refine⟨rfl,da _ _,QS w.heap.size [] fun _=>.slice none 0 0,⟨fun _=>[],[],fun _=>.slice none 0 0,fun _ _=>0,fun _=>[],⟨⟨by rw[World.size_alloc];omega,Nat.le_refl _,heap_alloc_new w _,fun s b=>iF _ _ _ _ _,fun s b=>Nat.zero_le _,(fun x h _=>by cases h),(fun x h=>by cases h),(fun s b x h=>by cases h)⟩,fun s b=>⟨List.nodup_nil,fun j c=>absurd c (Nat.not_lt_zero _),fun k _ h=>absurd h (Nat.not_lt_zero _)⟩,List.Perm.refl _⟩,List.Perm.refl _,fun _=>Iff.rfl⟩,fun y a=>?_⟩;rcases a with rfl|a|a|a
 ·exact Nat.le_refl _
 ·cases a
 ·cases a
 ·cases a
end
theorem QU.not_row{w:World}{B b:Nat}{S:Nat->Prop}{T:List df}(q:QU w B b S T){g:Nat}{c:Array Value}{a:TypeId}(h:w.heap[g]?=some (.cells c a (0,0)))(h1:a≠186)(h2:a≠278)(d:a≠280):¬S g:=fun hx=>by
 obtain⟨_,j,i,e,f⟩:=q.kinds hx;rw[h]at e;injection e with e;injection e with _ e;rcases f with rfl|rfl|rfl
 ·exact h1 e
 ·exact h2 e
 ·exact d e
end
section
open Go.Proofs.Tryz Go.RowKit Go.Maps
theorem pP:Keyed prog 9:=string_keyed underlying9
theorem uS{k:df}(h:k.length<=1000):keyOf prog 9 (.string ⟨k.toArray⟩)=some (.string k):=by
 have:=WideMaps.keyOf_string_mk (P:=prog) underlying9 (s:=⟨k.toArray⟩) (by unfold maxLen;simp[ByteArray.size];omega);simpa using this
theorem ML{k:TypeId}{R:Value->Option (DataW Unit × List MemPlace)}{b n:Nat}{D:DataW Unit}{w w':World}(h:w.ownsMap prog k R b n D)(e:w'.heap[b]?=w.heap[b]?):w'.ownsMap prog k R b n D:=by
 obtain⟨a,c,d,f⟩:=h;exact⟨a,c,e.trans d,f⟩
structure BM(w:World)(mb n:Nat)(f:df->Bool):Prop where
 map:∃M:DataW Unit,w.ownsMap prog 9 (plainElem prog 4) mb n M/\∀k,k.length<=1000->M.atKey (.string k) (.lit (.bool false))=.lit (.bool (f k))
section
variable{w w':World}{mb n:Nat}{f:df->Bool}
end
structure SM(w:World)(mb n:Nat)(f:df->Bool)(c:Nat):Prop where
 map:∃M:DataW Unit,w.ownsMap prog 9 (plainElem prog 4) mb n M/\(∀k,k.length<=1000->M.atKey (.string k) (.lit (.bool false))=.lit (.bool (f k)))/\(∀k,k.length<=1000->has M (.string k)=f k)/\size M=c/\∀kl,has M kl=true->∃k,kl=.string k/\k.length<=1000
section
variable{w w':World}{mb n c:Nat}{f:df->Bool}
end
theorem GC(w:World):(zeroValue 3).run prog w=.ok (.int .i64 0) w:=by kernel_rfl
theorem GB{n:Nat}(h:n<=1000000):(Lit.int .i64 (n:Int)).wf=true:=by
 simp[Lit.wf,IntKind.min,IntKind.max,IntKind.signed,IntKind.bits];omega
theorem xQ{n:Nat}(h:n<=1000000):plainElem (H:=Unit) prog 3 (.int .i64 (n:Int))=some (.lit (.int .i64 (n:Int)),[]):=plainElem_int underlying3 (GB h)
structure IM(w:World)(mb n:Nat)(f:df->Bool)(c:Nat):Prop where
 map:∃M:DataW Unit,w.ownsMap prog 9 (plainElem prog 3) mb n M/\(∀k,k.length<=1000->has M (.string k)=f k)/\size M=c
section
variable{w w':World}{mb n c:Nat}{f:df->Bool}
theorem IM.start(W:World):IM (W.alloc (.map #[] 0)) W.heap.size 0 (fun _=>false) 0:=⟨⟨.map [],World.ownsMap_made W _ _ _,fun _ _=>rfl,rfl⟩⟩
theorem IM.keep(o:IM w mb n f c)(h:w'.heap[mb]?=w.heap[mb]?):IM w' mb n f c:=by
 obtain⟨M,a,r⟩:=o.map;exact⟨⟨M,ML a h,r⟩⟩
theorem IM.lt(o:IM w mb n f c):mb<w.heap.size:=by
 obtain⟨M,a,_⟩:=o.map;exact a.lt
theorem IM.later(o:IM w mb n f c)(hb:Below w.heap.size w w'):IM w' mb n f c:=o.keep (hb.block _ o.lt)
theorem IM.onlyS(o:IM w mb n f c){S:Nat->Prop}(a:OnlyS S w w')(h:¬S mb):IM w' mb n f c:=o.keep (a.block _ o.lt h)
theorem IM.congr(o:IM w mb n f c){g:df->Bool}{d:Nat}(h:∀k,f k=g k)(e:c=d):IM w mb n g d:=by
 have:f=g:=funext h;rw[<-this,<-e];exact o
theorem IM.tight(o:IM w mb n f c):IM w mb c f c:=by
 obtain⟨M,⟨b,d,e,F,_,rfl⟩,g,a⟩:=o.map;refine⟨⟨_,⟨b,d,e,F,?_,rfl⟩,g,a⟩⟩;rw[<-a];simp[Maps.size,length_sorted]
theorem IM.not_cells(o:IM w mb n f c){d:Array Value}{a:TypeId}{z:Nat × Nat}(h:w.heap[mb]?=some (.cells d a z)):False:=by
 obtain⟨M,⟨e,g,b,_⟩,_⟩:=o.map;rw[b]at h;cases h
theorem IM.look(o:IM w mb n f c){k:df}(a:k.length<=1000):∃v,(Instr.lookup 125 (.map (some mb)) (.string ⟨k.toArray⟩) true).run prog w=.ok (.tuple #[v,.bool (f k)]) w:=by
 obtain⟨M,d,e,_⟩:=o.map;obtain⟨v,g,b,_⟩:=d.look_ok pP underlying125 (GC w) (xQ (n:=0) (by omega)) (uS a);rw[e k a]at b;exact⟨v,b⟩
theorem IM.put(o:IM w mb n f c)(r:n<=1000000){k:df}(b:k.length<=1000){x:Nat}(hx:x<=1000000):
  ∃w',(Instr.mapUpdate 125 (.map (some mb)) (.string ⟨k.toArray⟩) (.int .i64 (x:Int))).run prog w=.ok () w'/\IM w' mb (n+1) (fun q=>if q=k then true else f q) (if f k=true then c else c+1)/\OnlyS (fun y=>y=mb) w w':=by
 obtain⟨M,d,i,j⟩:=o.map;obtain⟨w',l,h,a⟩:=d.update pP underlying125 (by unfold maxLen;omega) (uS b) (xQ hx)
 have m:OnlyS (fun y=>y=mb) w w':=⟨a.os,a.tape,a.output,a.size,fun k b hb=>a.block k b (fun e=>hb (by simpa using e))⟩
 refine⟨w',l,⟨⟨_,h,fun q p=>?_,by rw[size_put (d.tidy pP),i k b,j]⟩⟩,m⟩
 by_cases e:q=k
 ·subst e
  rw[if_pos rfl,has_put_same d.isMap (by simp[WideAt.IsKeyLit])]
 ·rw[if_neg e,has_put_other (by intro g;injection g with g;exact e g),i q p]
theorem IM.drop(o:IM w mb n f c){k:df}(b:k.length<=1000)(i:TypeId):
  ∃w',(Builtin.delete_ #[125,9] i #[.map (some mb),.string ⟨k.toArray⟩]).run prog w=.ok (.tuple #[]) w'/\IM w' mb n (fun q=>if q=k then false else f q) (if f k=true then c-1 else c)/\OnlyS (fun y=>y=mb) w w':=by
 obtain⟨M,j,l,p⟩:=o.map;obtain⟨w',r,g,s⟩:=j.drop pP underlying125 (uS b) i;have a:=s.grown
 have t:OnlyS (fun y=>y=mb) w w':=⟨a.os,a.tape,a.output,a.size,fun k b hb=>a.block k b (fun e=>hb (by simpa using e))⟩
 have m:=size_del (k:=.string k) (j.tidy pP);rw[l k b,p]at m
 refine⟨w',r,⟨⟨_,g,fun q u=>?_,by cases h:f k <;> simp[h]at m ⊢ <;> omega⟩⟩,t⟩
 by_cases e:q=k
 ·subst e
  rw[if_pos rfl,has_del_same]
 ·rw[if_neg e,has_del_other (by intro d;injection d with d;exact e d),l q u]
theorem IM.len(o:IM w mb n f c)(a:TypeId):(Builtin.len_ #[125] a #[.map (some mb)]).run prog w=.ok (.int .i64 (c:Nat)) w:=by
 obtain⟨M,b,_,rfl⟩:=o.map;exact b.len underlying125 a
end
end
section
def fo(n:Nat)(z:Int):Bool:=decide (0<=z)&&decide (z<n)
theorem JL{n:Nat}{z:Int}(h:fo n z=true):∃j:Nat,j<n/\z=j:=by
 unfold fo at h;simp only[Bool.and_eq_true,decide_eq_true_eq]at h;exact⟨z.toNat,by omega,by omega⟩
def fd(n:Nat)(ls:Nat->List df)(s:df):Bool:=(List.range n).any fun j=>decide (s∈ls j)
theorem pu{n:Nat}{ls:Nat->List df}{s:df}:fd n ls s=true↔∃j,j<n/\s∈ls j:=by
 unfold fd;simp
def dS(n:Nat)(ls:Nat->List df):Nat:=((List.range n).map fun j=>(ls j).length).sum
theorem vH(n:Nat)(ls:Nat->List df):dS (n+1) ls=dS n ls+(ls n).length:=by simp[dS,List.range_succ]
def g9(n:Nat)(ls:Nat->List df):List df:=(List.range n).flatMap ls
theorem la{n:Nat}{ls:Nat->List df}{s:df}:s∈g9 n ls↔fd n ls s=true:=by
 rw[pu];unfold g9;rw[List.mem_flatMap];exact⟨fun⟨j,a,b⟩=>⟨j,List.mem_range.1 a,b⟩,fun⟨j,a,b⟩=>⟨j,List.mem_range.2 a,b⟩⟩
theorem l7(n:Nat)(ls:Nat->List df):g9 (n+1) ls=g9 n ls++ls n:=by
 unfold g9;rw[List.range_succ,List.flatMap_append];simp
theorem lw(n:Nat)(ls:Nat->List df):(g9 n ls).length=dS n ls:=by
 induction n with
 |zero=>rfl
 |succ n a=>rw[l7,List.length_append,a,vH]
theorem Nm{n j:Nat}(ls:Nat->List df)(l:List df)(h:n<=j):g9 n (db ls j l)=g9 n ls:=by
 induction n with
 |zero=>rfl
 |succ n a=>rw[l7,l7,a (by omega),dh _ _ (by omega)]
theorem uX{n j:Nat}(ls:Nat->List df)(d:j<n):∃R,(g9 n ls).Perm (ls j++R)/\∀l,(g9 n (db ls j l)).Perm (l++R):=by
 induction n with
 |zero=>omega
 |succ n a=>
  by_cases e:j=n
  ·subst e
   refine⟨g9 j ls,?_,fun l=>?_⟩
   ·rw[l7];exact List.perm_append_comm
   ·rw[l7,Nm _ _ (Nat.le_refl _),dg];exact List.perm_append_comm
  ·obtain⟨R,b,c⟩:=a (by omega)
   refine⟨R++ls n,?_,fun l=>?_⟩
   ·rw[l7,<-List.append_assoc];exact b.append_right _
   ·rw[l7,dh _ _ (Ne.symm e),<-List.append_assoc];exact(c l).append_right _
section
variable{n:Nat}{ls:Nat->List df}
theorem rM{j:Nat}(a:j<n)(s:df):(g9 n (db ls j (eU (ls j) s))).Perm (s::g9 n ls):=by
 obtain⟨R,b,c⟩:=uX ls a;exact(c _).trans (((lK (ls j) s).append_right R).trans ((b.symm.cons s)))
theorem rN{j:Nat}(a:j<n){k:df}{l:List df}(e:(ls j).Perm (k::l)):(g9 n ls).Perm (k::g9 n (db ls j l)):=by
 obtain⟨R,b,c⟩:=uX ls a;exact b.trans ((e.append_right R).trans ((c l).symm.cons k))
theorem uY{i k:Nat}(c:i<n)(d:k<n)(a:i≠k){x:df}{l:List df}(e:(ls k).Perm (x::l)):(g9 n (db (db ls k l) i (eU (ls i) x))).Perm (g9 n ls):=by
 have b:=rM (ls:=db ls k l) c x;rw[dh _ _ a]at b;exact b.trans (rN d e).symm
def ji(n:Nat)(ls:Nat->List df):Prop:=(g9 n ls).Nodup
theorem Bf(n:Nat):g9 n (fun _=>[])=[]:=by
 induction n with
 |zero=>rfl
 |succ n a=>rw[l7,a];rfl
theorem Hd(n:Nat):ji n (fun _=>[]):=by
 unfold ji;rw[Bf];exact List.nodup_nil
theorem Kv(n:Nat)(s:df):fd n (fun _=>[]) s=false:=by
 rw[Bool.eq_false_iff];intro h;obtain⟨_,_,h⟩:=pu.1 h
 cases h
theorem vI(n:Nat):dS n (fun _=>[])=0:=by
 rw[<-lw,Bf];rfl
theorem Kt{j:Nat}(a:j<n)(s t:df):fd n (db ls j (eU (ls j) s)) t=(decide (t=s)||fd n ls t):=by
 rw[Bool.eq_iff_iff,<-la,(rM a s).mem_iff,List.mem_cons,Bool.or_eq_true,decide_eq_true_eq,la]
theorem Hc{j:Nat}(b:j<n){s:df}(h:ji n ls)(c:fd n ls s=false):ji n (db ls j (eU (ls j) s)):=by
 unfold ji;rw[(rM b s).nodup_iff,List.nodup_cons];refine⟨fun a=>?_,h⟩;rw[la,c]at a
 cases a
theorem Cv{j:Nat}(a:j<n)(s:df):dS n (db ls j (eU (ls j) s))=dS n ls+1:=by
 rw[<-lw,(rM a s).length_eq,List.length_cons,lw]
theorem x'{j:Nat}(b:j<n){k:df}{l:List df}(h:ji n ls)(e:(ls j).Perm (k::l)):ji n (db ls j l)/\fd n (db ls j l) k=false:=by
 have a:=(rN b e).nodup_iff.1 h;rw[List.nodup_cons]at a;refine⟨a.2,?_⟩;rw[Bool.eq_false_iff];exact fun c=>a.1 (la.2 c)
theorem Ku{j:Nat}(a:j<n){k:df}{l:List df}(h:ji n ls)(e:(ls j).Perm (k::l))(t:df):fd n (db ls j l) t=(!decide (t=k)&&fd n ls t):=by
 have c:=x' a h e
 by_cases b:t=k
 ·subst b
  rw[c.2];simp
 ·rw[Bool.eq_iff_iff,Bool.and_eq_true,<-la,<-la,(rN a e).mem_iff,List.mem_cons]
  simp[b]
theorem vG{j:Nat}(a:j<n){k:df}{l:List df}(e:(ls j).Perm (k::l)):dS n ls=dS n (db ls j l)+1:=by
 rw[<-lw,(rN a e).length_eq,List.length_cons,lw]
theorem Hb{i k:Nat}(b:i<n)(c:k<n)(a:i≠k){x:df}{l:List df}(h:ji n ls)(e:(ls k).Perm (x::l)):ji n (db (db ls k l) i (eU (ls i) x)):=(uY b c a e).nodup_iff.2 h
theorem Ks{i k:Nat}(b:i<n)(c:k<n)(a:i≠k){x:df}{l:List df}(e:(ls k).Perm (x::l))(t:df):fd n (db (db ls k l) i (eU (ls i) x)) t=fd n ls t:=by
 rw[Bool.eq_iff_iff,<-la,(uY b c a e).mem_iff,la]
theorem Cu{i k:Nat}(b:i<n)(c:k<n)(a:i≠k){x:df}{l:List df}(e:(ls k).Perm (x::l)):dS n (db (db ls k l) i (eU (ls i) x))=dS n ls:=by
 rw[<-lw,(uY b c a e).length_eq,lw]
theorem Jb{j:Nat}(a:j<n):(ls j).length<=dS n ls:=by
 obtain⟨R,b,_⟩:=uX ls a;rw[<-lw,b.length_eq,List.length_append];omega
end
end
section
open Go.Lib (hid)
open Go.Proofs.Tryz Go.RowKit
open Nat (le_trans)
structure WM(w:World)(B b g mb n cap cnt:Nat)(qs:Nat->Nat)(Sq:Nat->Nat->Prop)(T:Nat->List df)(f:df->Bool)(c:Nat):Prop where
 low:B<=w.heap.size
 lowb:B<=b
 lowm:B<=mb
 box:w.heap[b]?=some (.cells #[.slice (some ⟨g,0,none⟩) n cap,.map (some mb)] 128 (0,0))
 row:∃cs,w.heap[g]?=some (.cells cs 129 (0,0))/\∀j,j<n->cs[j]?=some (.pointer (some ⟨qs j,0,none⟩))
 cap:n<=cap
 qu:∀j,j<n->QU w B (qs j) (Sq j) (T j)
 apart:∀i j,i<n->j<n->i≠j->∀x,Sq i x->¬Sq j x
 map:IM w mb cnt f c
section
variable{w w':World}{B b g mb n cap cnt c:Nat}{qs:Nat->Nat}{Sq:Nat->Nat->Prop}{T:Nat->List df}{f:df->Bool}
theorem WM.later(q:WM w B b g mb n cap cnt qs Sq T f c)(hb:Below w.heap.size w w'):WM w' B b g mb n cap cnt qs Sq T f c:=by
 obtain⟨d,a,e⟩:=q.row;exact⟨le_trans q.low hb.size,q.lowb,q.lowm,(hb.block _ (Array.getElem?_eq_some_iff.1 q.box).1).trans q.box,⟨d,(hb.block _ (Array.getElem?_eq_some_iff.1 a).1).trans a,e⟩,q.cap,fun j h=>(q.qu j h).later hb,q.apart,q.map.later hb⟩
theorem WM.cellB(q:WM w B b g mb n cap cnt qs Sq T f c):w.cell? ⟨b,0,none⟩=some (.slice (some ⟨g,0,none⟩) n cap)/\w.cell? ⟨b,1,none⟩=some (.map (some mb)):=by
 rw[cell_of_row w b 0 _ _ _ q.box,cell_of_row w b 1 _ _ _ q.box];exact⟨rfl,rfl⟩
theorem WM.cellR(q:WM w B b g mb n cap cnt qs Sq T f c){j:Nat}(a:j<n):w.cell? ⟨g,j,none⟩=some (.pointer (some ⟨qs j,0,none⟩)):=by
 obtain⟨h,d,e⟩:=q.row;rw[cell_of_row w g j _ _ _ d,e j a]
theorem WM.queue(q:WM w B b g mb n cap cnt qs Sq T f c){j:Nat}(u:j<n){t:Nat->Prop}{A:List df}(C:QU w' B (qs j) t A)(o:OnlyS (Sq j) w w')(H:∀y,t y->Sq j y∨w.heap.size<=y):WM w' B b g mb n cap cnt qs (db Sq j t) (db T j A) f c:=by
 obtain⟨I,D,J⟩:=q.row;have p:=q.qu j u
 have s:∀k,k<n->k≠j->∀x,t x->Sq k x->False:=fun k m z x l a=>by
  rcases H x l with E|E
  ·exact q.apart j k u m (Ne.symm z) x E a
  ·have:=(q.qu k m).lt a
   omega
 refine⟨C.low,q.lowb,q.lowm,o.row q.box (p.not_row q.box (by decide) (by decide) (by decide)),⟨I,o.row D (p.not_row D (by decide) (by decide) (by decide)),J⟩,q.cap,fun k m=>?_,fun i k F m r x l a=>?_,q.map.onlyS o fun h=>?_⟩
 ·by_cases e:k=j
  ·subst e;rw[dg,dg];exact C
  ·rw[dh _ _ e,dh _ _ e]
   exact(q.qu k m).onlyS o fun x l a=>q.apart k j m u e x l a
 ·by_cases v:i=j
  ·subst v
   rw[dg]at l;rw[dh _ _ (Ne.symm r)]at a;exact s k m (Ne.symm r) x l a
  ·rw[dh _ _ v]at l
   by_cases G:k=j
   ·subst G
    rw[dg]at a;exact s i F v x a l
   ·rw[dh _ _ G]at a
    exact q.apart i k F m r x l a
 ·obtain⟨_,d,L,e,_⟩:=p.kinds h
  exact q.map.not_cells e
theorem WM.mapped(q:WM w B b g mb n cap cnt qs Sq T f c){a c':Nat}{f':df->Bool}(m:IM w' mb a f' c')(o:OnlyS (fun y=>y=mb) w w'):WM w' B b g mb n cap a qs Sq T f' c':=by
 obtain⟨p,i,r⟩:=q.row;refine⟨le_trans q.low o.size,q.lowb,q.lowm,o.row q.box fun e=>?_,⟨p,o.row i fun e=>?_,r⟩,q.cap,fun j k=>(q.qu j k).onlyS o fun x hx e=>?_,q.apart,m⟩
 ·have h:=q.box
  rw[e]at h;exact q.map.not_cells h
 ·rw[e]at i
  exact q.map.not_cells i
 ·obtain⟨_,d,s,l,_⟩:=(q.qu j k).kinds hx
  rw[e]at l;exact q.map.not_cells l
def WK(w:World)(B b n cnt:Nat)(S:Nat->Prop)(T:Nat->List df)(f:df->Bool)(c:Nat):Prop:=∃g mb cap qs Sq,WM w B b g mb n cap cnt qs Sq T f c/\∀x,S x↔(x=mb∨∃j,j<n/\Sq j x)
variable{S:Nat->Prop}
theorem WK.kinds(h:WK w B b n cnt S T f c){x:Nat}(hx:S x):B<=x/\((∃e i,w.heap[x]?=some (.map e i))∨∃d a,w.heap[x]?=some (.cells d a (0,0))/\(a=186∨a=278∨a=280)):=by
 obtain⟨g,mb,cap,qs,Sq,q,k⟩:=h;rcases (k x).1 hx with rfl|⟨j,l,hx⟩
 ·obtain⟨M,⟨e,i,m,_⟩,_⟩:=q.map.map
  exact⟨q.lowm,.inl ⟨e,i,m⟩⟩
 ·obtain⟨o,p⟩:=(q.qu j l).kinds hx
  exact⟨o,.inr p⟩
theorem WK.not_row(h:WK w B b n cnt S T f c){g:Nat}{d:Array Value}{i:TypeId}(e:w.heap[g]?=some (.cells d i (0,0)))(h1:i≠186)(h2:i≠278)(j:i≠280):¬S g:=fun hx=>by
 rcases (h.kinds hx).2 with ⟨m,o,a⟩|⟨p,l,a,k⟩
 ·rw[e]at a;cases a
 ·rw[e]at a;injection a with a;injection a with _ a
  rcases k with rfl|rfl|rfl
  ·exact h1 a
  ·exact h2 a
  ·exact j a
theorem WK.lt(h:WK w B b n cnt S T f c){x:Nat}(hx:S x):x<w.heap.size:=by
 rcases (h.kinds hx).2 with ⟨e,g,a⟩|⟨i,d,a,j⟩
 ·exact(Array.getElem?_eq_some_iff.1 a).1
 ·exact(Array.getElem?_eq_some_iff.1 a).1
theorem WK.perm(h:WK w B b n cnt S T f c){a:Nat->List df}(p:∀j,j<n->(T j).Perm (a j)):WK w B b n cnt S a f c:=by
 obtain⟨g,mb,cap,qs,Sq,q,e⟩:=h;exact⟨g,mb,cap,qs,Sq,⟨q.low,q.lowb,q.lowm,q.box,q.row,q.cap,fun j d=>(q.qu j d).perm (p j d),q.apart,q.map⟩,e⟩
theorem WK.congr(h:WK w B b n cnt S T f c){f':df->Bool}{c':Nat}(e:∀k,f k=f' k)(a:c=c'):WK w B b n cnt S T f' c':=by
 have:f=f':=funext e;rw[<-this,<-a];exact h
def WR(B b n cnt:Nat)(S:Nat->Prop)(T:Nat->List df)(f:df->Bool)(c:Nat)(w w':World):Prop:=∃d,WK w' B b n cnt d T f c/\OnlyS S w w'/\∀y,d y->S y∨w.heap.size<=y
theorem WK.as(h:WM w B b g mb n cap cnt qs Sq T f c):WK w B b n cnt (fun x=>x=mb∨∃j,j<n/\Sq j x) T f c:=⟨g,mb,cap,qs,Sq,h,fun _=>Iff.rfl⟩
end
section
variable{w:World}{B b g mb n cap cnt c:Nat}{qs:Nat->Nat}{Sq:Nat->Nat->Prop}{T:Nat->List df}{f:df->Bool}{S:Nat->Prop}
theorem lD(h:WK w B b n cnt S T f c)(z:Int):Calls prog 117 #[.pointer (some ⟨b,0,none⟩),.int .i64 z] w fun r w'=>r=.returned (.bool (fo n z))/\w'=w:=by
 obtain⟨g,mb,cap,qs,Sq,q,a⟩:=h;have e:=q.cellB.1;clear q a
 by_cases h:0<=z
 ·have d:decide (z>=0)=true:=by simpa using h
  go_enter func117,ntmps117;go_wp2;go_ret;exact⟨by simp[fo,h],rfl⟩
 ·have d:decide (z>=0)=false:=by simpa using h
  go_enter func117,ntmps117;go_wp2;go_ret;exact⟨by simp[fo];omega,rfl⟩
theorem vr(h:WK w B b n cnt S T f c){k:df}(a:k.length<=1000):Calls prog 118 #[.pointer (some ⟨b,0,none⟩),.string ⟨k.toArray⟩] w fun r w'=>r=.returned (.bool (f k))/\w'=w:=by
 obtain⟨g,mb,cap,qs,Sq,q,d⟩:=h;have e:=q.cellB.2;obtain⟨v,i⟩:=q.map.look a;clear q d;go_enter func118,ntmps118;go_wp2;go_ret;exact⟨rfl,rfl⟩
theorem B6(h:WK w B b n cnt S T f c):Calls prog 39 #[.pointer (some ⟨b,0,none⟩)] w fun r w'=>r=.returned (.int .i64 (c:Nat))/\w'=w:=by
 obtain⟨g,mb,cap,qs,Sq,q,d⟩:=h;have e:=q.cellB.2;have i:∀a,(Builtin.len_ #[125] a #[.map (some mb)]).run prog w=.ok (.int .i64 (c:Nat)) w:=fun a=>q.map.len a
 clear q d;go_enter func39,ntmps39;go_wp2;go_ret;exact⟨rfl,rfl⟩
theorem Cd(h:WK w B b n cnt S T f c){j:Nat}(a:j<n):Calls prog 80 #[.pointer (some ⟨b,0,none⟩),.int .i64 (j:Int)] w fun r w'=>r=.returned (.int .i64 (T j).length)/\w'=w:=by
 have i:=lD h (j:Int);rw[show fo n (j:Int)=true by simp[fo,a]]at i;obtain⟨g,mb,cap,qs,Sq,q,k⟩:=h;have d:=hid q.cellB.1;have e:=hid (q.cellR a);have l:=hid (qB (q.qu j a));clear q k;go_enter func80,ntmps80;go_wp2_with fail;refine i.mono ?_;rintro r w'⟨rfl,rfl⟩;have m:=d.out;have o:=e.out;go_wp2_with fail;refine l.out.mono ?_;rintro r w'⟨rfl,rfl⟩;go_wp2;go_ret;exact⟨rfl,rfl⟩
end
section
variable{w w':World}{B b g mb n cap cnt c:Nat}{qs:Nat->Nat}{Sq:Nat->Nat->Prop}{T:Nat->List df}{f:df->Bool}{S:Nat->Prop}
theorem WK.tot(h:WK w B b n cnt S T f c):c<=cnt:=by
 obtain⟨g,mb,cap,qs,Sq,q,d⟩:=h;obtain⟨M,a,_,rfl⟩:=q.map.map;exact a.size_le
theorem zM(h:WK w B b n cnt S T f c)(hn:n<=64){j:Nat}(o:j<n){k:df}(M:k.length<=1000)(N:(T j).length<100000)(O:cnt<=1000000){f':df->Bool}{c':Nat}(G:∀q,(if q=k then true else f q)=f' q)(v:(if f k=true then c else c+1)=c'):
  Calls prog 119 #[.pointer (some ⟨b,0,none⟩),.int .i64 (j:Int),.string ⟨k.toArray⟩] w fun r w'=>r=.returned (.tuple #[])/\WR B b n (cnt+1) S (db T j (k::T j)) f' c' w w':=by
 obtain⟨g,mb,cap,qs,Sq,q,l⟩:=h;have E:=hid q.cellB.1;have F:=hid (q.cellR o);have P:=hid (FC (q.qu j o) k (by omega) N)
 have Q:Hid (∀a p,QU a B (qs j) p (k::T j)->OnlyS (Sq j) w a->(∀y,p y->Sq j y∨w.heap.size<=y)->a.cell? ⟨b,1,none⟩=some (.map (some mb))/\∀m,Below a.heap.size a m->m.cell? ⟨b,1,none⟩=some (.map (some mb)) /\
   ∃s,(Instr.mapUpdate 125 (.map (some mb)) (.string ⟨k.toArray⟩) (.int .i64 (j:Int))).run prog m=.ok () s/\WR B b n (cnt+1) S (db T j (k::T j)) f' c' w s):=fun a p z t u=>by
  have H:=q.queue o z t u;refine⟨H.cellB.2,fun m hb=>?_⟩;have C:=H.later hb;obtain⟨s,A,D,I⟩:=C.map.put O M (x:=j) (by omega);replace D:=D.congr G v;refine⟨C.cellB.2,s,A,_,WK.as (C.mapped D I),((t.mono fun y _ d=>(l y).2 (.inr ⟨j,o,d⟩)).trans (OnlyS.of_below hb)).trans (I.mono fun y _ d=>(l y).2 (.inl d)),fun y d=>?_⟩;rcases d with d|⟨i,J,d⟩
  ·exact .inl ((l y).2 (.inl d))
  ·by_cases e:i=j
   ·subst e
    rw[dg]at d;exact(u y d).imp (fun h=>(l y).2 (.inr ⟨i,J,h⟩)) id
   ·rw[dh _ _ e]at d
    exact .inl ((l y).2 (.inr ⟨i,J,d⟩))
 have Y:j<cap:=Nat.lt_of_lt_of_le o q.cap;have R:Hid (∀a,Calls prog 102 #[.string ⟨k.toArray⟩] a fun r w'=>r=.returned (.string ⟨k.toArray⟩)/\Below a.heap.size a w'):=fun a=>uG k a (by omega)
 clear q l G v;have U:=E.out;have V:=F.out;go_enter func119,ntmps119;go_wp2_with fail;refine P.out.mono ?_;rintro r a⟨rfl,p,z,t,u⟩;obtain⟨d1,L⟩:=Q.out a p z t u;have W:=hid L;clear z t u L U V;go_wp2_with fail
 go_region_with (go_at_call 102;refine(R.out _).mono ?_;rintro r m⟨rfl,hb⟩;obtain⟨d2,s,Z,A⟩:=W.out m ⟨hb.os,hb.tape,hb.output,hb.size,hb.block⟩;have X:=hid A;clear A hb)
 all_goals(go_wp2;exact bodyPost_end (results_none rfl _ _ _) rfl ⟨rfl,X.out⟩)
end
structure WU(w:World)(B b n cnt:Nat)(S:Nat->Prop)(T:Nat->List df):Prop where
 k:WK w B b n cnt S T (fd n T) (dS n T)
 sort:∀j,j<n->gH (T j)
 no:ji n T
 short:∀j,j<n->∀s∈T j,s.length<=1000
def kh(B b n cnt:Nat)(S:Nat->Prop)(T:Nat->List df)(w w':World):Prop:=∃c,WU w' B b n cnt c T/\OnlyS S w w'/\∀y,c y->S y∨w.heap.size<=y
section
variable{w w':World}{B b n cnt:Nat}{T:Nat->List df}{S:Nat->Prop}
theorem WU.len(h:WU w B b n cnt S T){j:Nat}(a:j<n):(T j).length<=cnt:=le_trans (Jb a) h.k.tot
theorem WR.mk{f:df->Bool}{c:Nat}{e U:Nat->List df}(h:WR B b n cnt S e f c w w')(p:∀j,j<n->(e j).Perm (U j))(g:∀k,f k=fd n U k)(i:c=dS n U)(l:∀j,j<n->gH (U j))(a:ji n U)(d:∀j,j<n->∀s∈U j,s.length<=1000):kh B b n cnt S U w w':=by
 obtain⟨m,o,q,r⟩:=h;exact⟨m,⟨(o.perm p).congr g i,l,a,d⟩,q,r⟩
theorem qD{j:Nat}{U:Nat->List df}{l a:List df}(p:l.Perm a)(e:∀i,i<n->i≠j->(T i).Perm (U i)):∀i,i<n->(db T j l i).Perm (db U j a i):=fun i b=>by
 by_cases h:i=j
 ·subst h;rw[dg,dg];exact p
 ·rw[dh _ _ h,dh _ _ h];exact e i b h
theorem l6{j:Nat}{l:List df}{P:List df->Prop}(h:∀i,i<n->P (T i))(a:P l):∀i,i<n->P (db T j l i):=fun i b=>by
 by_cases e:i=j
 ·subst e;rw[dg];exact a
 ·rw[dh _ _ e];exact h i b
theorem WU.push(h:WU w B b n cnt S T){j:Nat}(a:j<n){k:df}(d:k.length<=1000)(c:fd n T k=false)(f:WR B b n (cnt+1) S (db T j (k::T j)) (fun q=>if q=k then true else fd n T q) (dS n T+1) w w'):kh B b n (cnt+1) S (db T j (eU (T j) k)) w w':=by
 refine f.mk (qD (lK _ _).symm fun _ _ _=>List.Perm.refl _) (fun q=>?_) (Cv a k).symm (l6 h.sort (xh (h.sort j a) k)) (Hc a h.no c) (l6 (P:=fun l=>∀s∈l,s.length<=1000) h.short fun s c=>?_)
 ·rw[Kt a]
  by_cases e:q=k <;> simp[e]
 ·rcases List.mem_cons.1 ((lK _ _).subset c)with rfl|c
  ·exact d
  ·exact h.short j a s c
theorem Ca(h:WU w B b n cnt S T){z:Int}{k:df}(f:k.length<=1000)(c:fo n z=false∨fd n T k=true):Calls prog 73 #[.pointer (some ⟨b,0,none⟩),.int .i64 z,.string ⟨k.toArray⟩] w fun r w'=>r=.returned (.bool false)/\w'=w:=by
 have a:=lD h.k z;have d:=vr h.k f;clear h
 cases e:fo n z
 ·rw[e]at a
  clear d c;go_enter func73,ntmps73;go_wp2_with fail;refine a.mono ?_;rintro r w'⟨rfl,rfl⟩;go_wp2;go_ret;exact⟨rfl,rfl⟩
 ·rw[e]at a
  rw[c.resolve_left (by rw[e];simp)]at d;clear c;go_enter func73,ntmps73;go_wp2_with fail;refine a.mono ?_;rintro r w'⟨rfl,rfl⟩;go_wp2_with fail;refine d.mono ?_;rintro r w'⟨rfl,rfl⟩;go_wp2;go_ret;exact⟨rfl,rfl⟩
theorem B9(h:WU w B b n cnt S T)(i:n<=64)(l:cnt<100000){j:Nat}(a:j<n){k:df}(c:k.length<=1000)(d:fd n T k=false):Calls prog 73 #[.pointer (some ⟨b,0,none⟩),.int .i64 (j:Int),.string ⟨k.toArray⟩] w fun r w'=>r=.returned (.bool true)/\kh B b n (cnt+1) S (db T j (eU (T j) k)) w w':=by
 have e:=lD h.k (j:Int);rw[show fo n (j:Int)=true by simp[fo,a]]at e;have f:=vr h.k c;rw[d]at f;have m:=hid (zM h.k i a c (Nat.lt_of_le_of_lt (h.len a) l) (by omega) (f':=fun q=>if q=k then true else fd n T q) (c':=dS n T+1) (fun _=>rfl) (by rw[d];simp));have o:Hid (∀w',WR B b n (cnt+1) S (db T j (k::T j)) (fun q=>if q=k then true else fd n T q) (dS n T+1) w w'->kh B b n (cnt+1) S (db T j (eU (T j) k)) w w'):=fun w' p=>h.push a c d p
 clear h;go_enter func73,ntmps73;go_wp2_with fail;refine e.mono ?_;rintro r w'⟨rfl,rfl⟩;go_wp2_with fail;refine f.mono ?_;rintro r w'⟨rfl,rfl⟩;go_wp2_with fail;refine m.out.mono ?_;rintro r s⟨rfl,g⟩;have t:=hid (o.out s g);clear g;go_wp2;go_ret;exact⟨rfl,t.out⟩
theorem WU.pop(h:WU w B b n cnt S T){j:Nat}(d:j<n){k:df}{l:List df}(r:T j=k::l){g mb cap:Nat}{qs:Nat->Nat}{t:Nat->Nat->Prop}(q:WM w B b g mb n cap cnt qs t T (fd n T) (dS n T))(f:∀x,S x↔(x=mb∨∃j,j<n/\t j x)){u:World}{v:List df}(p:v.Perm l)(H:QU u B (qs j) (t j) v)(E:OnlyS (t j) w u):
  u.cell? ⟨b,1,none⟩=some (.map (some mb))/\∃m,(∀I,(Builtin.delete_ #[125,9] I #[.map (some mb),.string ⟨k.toArray⟩]).run prog u=.ok (.tuple #[]) m)/\kh B b n cnt S (db T j l) w m:=by
 have z:=q.queue d H E fun y c=>.inl c
 have o:k∈T j:=by rw[r];exact List.mem_cons_self
 refine⟨z.cellB.2,?_⟩;obtain⟨m,J,L,F⟩:=z.map.drop (h.short j d k o) 0;refine⟨m,fun _=>J,?_⟩;have A:(T j).Perm (k::l):=by rw[r]
 have C:fd n T k=true:=pu.2 ⟨j,d,o⟩
 have D:WR B b n cnt S (db T j v) (fun q=>if q=k then false else fd n T q) (if fd n T k=true then dS n T-1 else dS n T) w m:=by
  refine⟨_,WK.as (z.mapped L F),(E.mono fun y _ c=>(f y).2 (.inr ⟨j,d,c⟩)).trans (F.mono fun y _ c=>(f y).2 (.inl c)),fun y c=>?_⟩;rcases c with c|⟨i,G,c⟩
  ·exact .inl ((f y).2 (.inl c))
  ·by_cases e:i=j
   ·subst e
    rw[dg]at c;exact .inl ((f y).2 (.inr ⟨i,G,c⟩))
   ·rw[dh _ _ e]at c
    exact .inl ((f y).2 (.inr ⟨i,G,c⟩))
 refine D.mk (qD p fun _ _ _=>List.Perm.refl _) (fun q=>?_) ?_ (l6 h.sort (r▸h.sort j d:gH (k::l)).tail) (x' d h.no A).1 (l6 (P:=fun l=>∀s∈l,s.length<=1000) h.short fun s C=>h.short j d s (by rw[r];exact List.mem_cons_of_mem _ C))
 ·rw[Ku d h.no A]
  by_cases e:q=k <;> simp[e]
 ·rw[if_pos C,vG d A,Nat.add_sub_cancel]
theorem Cb(h:WU w B b n cnt S T){j:Nat}(a:j<n){k:df}{l:List df}(c:T j=k::l):Calls prog 82 #[.pointer (some ⟨b,0,none⟩),.int .i64 (j:Int)] w fun r w'=>r=.returned (.tuple #[.string ⟨k.toArray⟩,.bool true])/\kh B b n cnt S (db T j l) w w':=by
 have o:=lD h.k (j:Int);rw[show fo n (j:Int)=true by simp[fo,a]]at o;obtain⟨g,s,I,y,J,q,u⟩:=h.k;have i:=hid q.cellB.1;have m:=hid (q.cellR a)
 have z:Hid (Calls prog 127 #[.pointer (some ⟨y j,0,none⟩)] w fun r d=>r=.returned (.tuple #[.string ⟨k.toArray⟩,.bool true])/\d.cell? ⟨b,1,none⟩=some (.map (some s))/\∃f,(∀A,(Builtin.delete_ #[125,9] A #[.map (some s),.string ⟨k.toArray⟩]).run prog d=.ok (.tuple #[]) f)/\kh B b n cnt S (db T j l) w f):=
  (FD (q.qu j a) (by rw[c];simp)).mono fun r d ⟨L,M,e,p,t,C,D⟩=>by
   rw[c]at p t;obtain⟨rfl,E⟩:=DD (c▸h.sort j a) p t;exact⟨e,h.pop a c q u E C D⟩
 clear q u h;go_enter func82,ntmps82;go_wp2_with fail;refine o.mono ?_;rintro r w'⟨rfl,rfl⟩;have F:=i.out;have G:=m.out;go_wp2_with fail;refine z.out.mono ?_;rintro r d⟨rfl,d1,f,N,x⟩;have H:=hid x;clear F G x;go_wp2;refine bodyPost_ret (v:=.tuple #[.string ⟨k.toArray⟩,.bool true]) (by simp[results,results82,go_sem]) rfl ?_;exact⟨rfl,H.out⟩
end
section
variable{w w':World}{B b n cnt:Nat}{T:Nat->List df}{S:Nat->Prop}
theorem Dn(p:Option Addr)(z y:Int)(w:World)(h:Calls prog 117 #[.pointer p,.int .i64 z] w fun r w'=>r=.returned (.bool false)/\w'=w):Calls prog 81 #[.pointer p,.int .i64 z,.int .i64 y] w fun r w'=>r=.returned (.tuple #[.string ⟨#[]⟩,.bool false])/\w'=w:=by
 have a:=hid h;clear h;go_enter func81,ntmps81;go_wp2_with fail;refine a.out.mono ?_;rintro r w'⟨rfl,rfl⟩;go_wp2;refine bodyPost_ret (v:=.tuple #[.string ⟨#[]⟩,.bool false]) (by simp[results,results81,go_sem]) rfl ?_;exact⟨rfl,rfl⟩
theorem B7(h:WU w B b n cnt S T)(z y:Int)(a:fo n z=false∨fo n y=false∨z=y∨T y.toNat=[]):Calls prog 81 #[.pointer (some ⟨b,0,none⟩),.int .i64 z,.int .i64 y] w fun r w'=>r=.returned (.tuple #[.string ⟨#[]⟩,.bool false])/\w'=w:=by
 have c:=lD h.k z;have d:=lD h.k y
 cases i:fo n z
 ·rw[i]at c
  exact Dn _ _ _ _ c
 ·rw[i]at c
  cases f:fo n y
  ·rw[f]at d
   clear h a;go_enter func81,ntmps81;go_wp2_with fail;refine c.mono ?_;rintro r w'⟨rfl,rfl⟩;go_wp2_with fail;refine d.mono ?_;rintro r w'⟨rfl,rfl⟩;go_wp2;refine bodyPost_ret (v:=.tuple #[.string ⟨#[]⟩,.bool false]) (by simp[results,results81,go_sem]) rfl ?_;exact⟨rfl,rfl⟩
  ·rw[f]at d
   have a:=(a.resolve_left (by rw[i];simp)).resolve_left (by rw[f];simp)
   by_cases e:z=y
   ·subst e
    clear h a;go_enter func81,ntmps81;go_wp2_with fail;refine c.mono ?_;rintro r w'⟨rfl,rfl⟩;go_wp2_with fail;refine d.mono ?_;rintro r w'⟨rfl,rfl⟩;go_wp2;refine bodyPost_ret (v:=.tuple #[.string ⟨#[]⟩,.bool false]) (by simp[results,results81,go_sem]) rfl ?_;exact⟨rfl,rfl⟩
   ·have o:=a.resolve_left e
    obtain⟨k,p,rfl⟩:=JL f;rw[Int.toNat_natCast]at o;obtain⟨g,A,u,C,D,q,s⟩:=h.k;have l:=hid q.cellB.1;have m:=hid (q.cellR p);have j:=q.qu k p;rw[o]at j;have t:=hid (FA j);have x:(z==(k:Int))=false:=by rw[beq_eq_false_iff_ne];exact e
    clear q s h j a i f;go_enter func81,ntmps81;go_wp2_with fail;refine c.mono ?_;rintro r w'⟨rfl,rfl⟩;go_wp2_with fail;refine d.mono ?_;rintro r w'⟨rfl,rfl⟩;have E:=l.out;have F:=m.out;go_wp2_with fail;refine t.out.mono ?_;rintro r w'⟨rfl,rfl⟩;go_wp2;refine bodyPost_ret (v:=.tuple #[.string ⟨#[]⟩,.bool false]) (by simp[results,results81,go_sem]) rfl ?_;exact⟨rfl,rfl⟩
theorem WU.steal(h:WU w B b n cnt S T){i j:Nat}(m:i<n)(c:j<n)(d:i≠j){k:df}{l:List df}(z:T j=l++[k]){g mb cap:Nat}{qs:Nat->Nat}{o:Nat->Nat->Prop}(q:WM w B b g mb n cap cnt qs o T (fd n T) (dS n T))(G:∀x,S x↔(x=mb∨∃j,j<n/\o j x)){r:World}{e:List df}(p:e.Perm l)(J:QU r B (qs j) (o j) e)(H:OnlyS (o j) w r):
  WK r B b n cnt S (db T j e) (fd n T) (dS n T)/\k.length<=1000/\fd n T k=true/\∀A,WR B b n (cnt+1) S (db (db T j e) i (k::db T j e i)) (fd n T) (dS n T) r A->kh B b n (cnt+1) S (db (db T j l) i (eU (T i) k)) w A:=by
 have I:=q.queue c J H fun y t=>.inl t
 rw[qc]at I;have f:k∈T j:=by rw[z];simp
 have C:(T j).Perm (k::l):=by rw[z];exact List.perm_append_singleton _ _
 refine⟨⟨g,mb,cap,qs,o,I,G⟩,h.short j c k f,pu.2 ⟨j,c,f⟩,fun A L=>?_⟩;have v:OnlyS S w r:=H.mono fun y _ t=>(G y).2 (.inr ⟨j,c,t⟩)
 have D:WR B b n (cnt+1) S (db (db T j e) i (k::db T j e i)) (fd n T) (dS n T) w A:=by
  obtain⟨M,N,O,Q⟩:=L;exact⟨M,N,v.trans O,fun y t=>(Q y t).imp id fun R=>le_trans v.size R⟩
 have E:gH l:=(z▸h.sort j c:gH (l++[k])).init;refine D.mk (qD ?_ fun U F _=>qD p (fun _ _ _=>List.Perm.refl _) U F) (fun q=>(Ks m c d C q).symm) (Cu m c d C).symm (l6 (l6 h.sort E) (xh (h.sort i m) k)) (Hb m c d h.no C) (l6 (P:=fun l=>∀s∈l,s.length<=1000) (l6 (P:=fun l=>∀s∈l,s.length<=1000) h.short fun s u=>h.short j c s (by rw[z];simp[u])) fun s u=>?_)
 ·rw[dh _ _ d]
  exact(lK _ _).symm
 ·rcases List.mem_cons.1 ((lK _ _).subset u)with rfl|u
  ·exact h.short j c _ f
  ·exact h.short i m s u
theorem B8(h:WU w B b n cnt S T)(E:n<=64)(F:cnt<100000){i j:Nat}(m:i<n)(a:j<n)(d:i≠j){k:df}{l:List df}(o:T j=l++[k]):Calls prog 81 #[.pointer (some ⟨b,0,none⟩),.int .i64 (i:Int),.int .i64 (j:Int)] w fun r w'=>r=.returned (.tuple #[.string ⟨k.toArray⟩,.bool true])/\kh B b n (cnt+1) S (db (db T j l) i (eU (T i) k)) w w':=by
 have A:=lD h.k (i:Int);rw[show fo n (i:Int)=true by simp[fo,m]]at A;have C:=lD h.k (j:Int);rw[show fo n (j:Int)=true by simp[fo,a]]at C;obtain⟨g,Z,X,G,Sq,q,D⟩:=h.k;have y:=hid q.cellB.1;have z:=hid (q.cellR a);have f:=Nat.lt_of_le_of_lt (h.len m) F
 have H:Hid (Calls prog 126 #[.pointer (some ⟨G j,0,none⟩)] w fun r x=>r=.returned (.tuple #[.string ⟨k.toArray⟩,.bool true])/\Calls prog 119 #[.pointer (some ⟨b,0,none⟩),.int .i64 (i:Int),.string ⟨k.toArray⟩] x fun r s=>r=.returned (.tuple #[])/\kh B b n (cnt+1) S (db (db T j l) i (eU (T i) k)) w s):=
  (FB (q.qu j a) (by rw[o];simp)).mono fun r x ⟨I,T',e,p,t,J,L⟩=>by
   rw[o]at p t;obtain⟨rfl,M⟩:=DC (o▸h.sort j a) p t;obtain⟨N,u,c,O⟩:=h.steal m a d o q D M J L;refine⟨e,(zM N E m u (by rw[dh _ _ d];exact f) (by omega) (f':=fd n T) (c':=dS n T) (fun q=>?_) (by rw[if_pos c])).mono fun r s ⟨P,Q⟩=>⟨P,O s Q⟩⟩
   by_cases e:q=I
   ·subst e;rw[if_pos rfl,c]
   ·rw[if_neg e]
 have Y:((i:Int)==(j:Int))=false:=by rw[beq_eq_false_iff_ne];omega
 clear q D h f;go_enter func81,ntmps81;go_wp2_with fail;refine A.mono ?_;rintro r w'⟨rfl,rfl⟩;go_wp2_with fail;refine C.mono ?_;rintro r w'⟨rfl,rfl⟩;have R:=y.out;have U:=z.out;go_wp2_with fail;refine H.out.mono ?_;rintro r x⟨rfl,u⟩;have V:=hid u;clear R U u;go_wp2_with fail;refine V.out.mono ?_;rintro r s⟨rfl,c⟩;have W:=hid c;clear c;go_wp2;refine bodyPost_ret (v:=.tuple #[.string ⟨k.toArray⟩,.bool true]) (by simp[results,results81,go_sem]) rfl ?_;exact⟨rfl,W.out⟩
end
section
variable{w w':World}{B b mb:Nat}
theorem xI{w:World}{B C:Nat}{t:TypeId}{n:Nat}{X:Type}{f:X->List Value}{v:Value}{l:List X}(h:dc w B t n f v l)(e:C<=B):dc w C t n f v l:=by
 obtain⟨d,a|⟨g,b,c,a,i,j⟩⟩:=h
 ·exact⟨d,.inl a⟩
 ·exact⟨d,.inr ⟨g,b,c,a,le_trans e i,j⟩⟩
theorem QU.lower{S:Nat->Prop}{T:List df}(h:QU w B b S T){C:Nat}(a:C<=B):QU w C b S T:=by
 obtain⟨c,d,e,f,g,q,i,j⟩:=h;exact⟨c,d,e,f,g,⟨⟨le_trans a q.qr.low,le_trans a q.qr.lowb,q.qr.box,fun s k=>xI (q.qr.row s k) a,q.qr.len,q.qr.apart,fun x hx=>⟨le_trans a (q.qr.item x hx).1,(q.qr.item x hx).2⟩,q.qr.sub⟩,q.ok,q.perm⟩,i,j⟩
theorem J6:(prog.info? 129).map (fun i=>(i.zero,i.size,i.bytes))=some (some (.pointer none),1,8):=by kernel_rfl
structure NewI(w:World)(b mb:Nat)(v:Value)(qs:List Nat)(Sq:Nat->Nat->Prop)(wr:World):Prop where
 lowb:w.heap.size<=b
 lowm:w.heap.size<=mb
 below:Below w.heap.size w wr
 box:wr.heap[b]?=some (.cells #[v,.map (some mb)] 128 (0,0))
 row:dc wr w.heap.size 129 1 gW v qs
 qu:∀j,j<qs.length->QU wr w.heap.size (qs.getD j 0) (Sq j) []
 apart:∀i j,i<qs.length->j<qs.length->i≠j->∀x,Sq i x->¬Sq j x
 map:IM wr mb 0 (fun _=>false) 0
theorem NewI.grow{wr m:World}{v:Value}{qs:List Nat}{T:Nat->Nat->Prop}(h:NewI w b mb v qs T wr)(hb:Below wr.heap.size wr m){z:Nat->Prop}(q1:QU m wr.heap.size wr.heap.size z [])(U:∀y,z y->wr.heap.size<=y):
  m.cell? ⟨b,0,none⟩=some v/\(m.alloc (.cells #[.pointer (some ⟨wr.heap.size,0,none⟩)] 129)).cell? ⟨b,0,none⟩=some v/\dc (m.alloc (.cells #[.pointer (some ⟨wr.heap.size,0,none⟩)] 129)) w.heap.size 129 1 gW v qs/\w.heap.size<=(m.alloc (.cells #[.pointer (some ⟨wr.heap.size,0,none⟩)] 129)).heap.size /\
  ∀o l,dc l w.heap.size 129 1 gW o (qs++[wr.heap.size])->(m.alloc (.cells #[.pointer (some ⟨wr.heap.size,0,none⟩)] 129)).grownBy l v.ownBlock->l.cell? ⟨b,0,none⟩=some v/\l.frozen? ⟨b,0,none⟩=false/\NewI w b mb o (qs++[wr.heap.size]) (db T qs.length z) (l.setCell ⟨b,0,none⟩ o):=by
 have f:Below wr.heap.size wr (m.alloc (.cells #[.pointer (some ⟨wr.heap.size,0,none⟩)] 129)):=hb.alloc hb.size _;have V:QU (m.alloc (.cells #[.pointer (some ⟨wr.heap.size,0,none⟩)] 129)) w.heap.size wr.heap.size z []:=(q1.later (da _ _)).lower h.below.size;have aa:∀y,z y->y<(m.alloc (.cells #[.pointer (some ⟨wr.heap.size,0,none⟩)] 129)).heap.size:=fun y A=>V.lt A
 have s:=(f.block _ (Array.getElem?_eq_some_iff.1 h.box).1).trans h.box;have n:=h.row.later f;refine⟨?_,?_,n,le_trans h.below.size f.size,fun o l E r=>?_⟩
 ·rw[cell_of_row m b 0 _ _ _ ((hb.block _ (Array.getElem?_eq_some_iff.1 h.box).1).trans h.box)];rfl
 ·rw[cell_of_row _ b 0 _ _ _ s];rfl
 generalize (m.alloc (.cells #[.pointer (some ⟨wr.heap.size,0,none⟩)] 129))=N at *
 have L:OnlyS (fun y=>v.ownBlock=some y) N l:=⟨r.os,r.tape,r.output,r.size,fun k B hn=>r.block k B fun e=>hn e.symm⟩
 have F:∀{x:Nat} {c:Array Value} {O:TypeId},N.heap[x]?=some (.cells c O (0,0))->O≠129->v.ownBlock≠some x:=fun hx P e=>by
  obtain⟨_,W,a⟩:=n.kindQ e;rw[hx]at a;injection a with a;injection a with _ a;exact P a
 have d:l.heap[b]?=_:=L.row s (F s (by decide));have t:OnlyS (fun y=>y=b) l (l.setCell ⟨b,0,none⟩ o):=(OnlyS.refl (fun y=>y=b) l).setCell (p:=⟨b,0,none⟩) rfl o
 have G:∀{x:Nat} {S:Nat->Prop},QU N w.heap.size x S []->QU (l.setCell ⟨b,0,none⟩ o) w.heap.size x S []:=fun {x S} q=>by
  have X:QU l w.heap.size x S []:=q.onlyS L fun y A e=>by
   obtain⟨_,c,O,M,e3⟩:=q.kinds A;refine F M ?_ e
   rcases e3 with rfl|rfl|rfl <;> decide
  refine X.onlyS t fun y A e=>?_
  subst e;exact X.not_row d (by decide) (by decide) (by decide) A
 have H:=h.map.later f
 have I:IM l mb 0 (fun _=>false) 0:=H.onlyS L fun e=>by
  obtain⟨_,W,a⟩:=n.kindQ e;exact H.not_cells a
 have Y:=(h.below.trans (f.mono h.below.size)).trans (L.below (le_trans h.below.size f.size) fun k B=>(n.kindQ B).1)
 have Q:∀j,j<qs.length->(qs++[wr.heap.size]).getD j 0=qs.getD j 0:=fun j C=>by
  simp[List.getD,List.getElem?_append_left C]
 have R:(qs++[wr.heap.size]).getD qs.length 0=wr.heap.size:=by simp[List.getD]
 refine⟨by rw[cell_of_row _ b 0 _ _ _ d];rfl,by simp[World.frozen?,d],⟨h.lowb,h.lowm,Y.trans (t.below Y.size fun k B=>by subst B;exact h.lowb),?_,?_,fun j C=>?_,fun i j hi C J x D u=>?_,I.onlyS t fun e=>?_⟩⟩
 ·rw[heap_setCell_same _ b 0 _ _ _ d];rfl
 ·refine E.keepQ fun g r=>Below.heap_setCell _ _ _ _ fun e=>?_
  obtain⟨_,W,a⟩:=E.kindQ r;rw[e,d]at a;injection a with a;injection a with _ a;exact absurd a (by decide)
 ·rw[List.length_append,List.length_singleton]at C
  by_cases e:j=qs.length
  ·subst e
   rw[R,dg];exact G V
  ·rw[Q j (by omega),dh _ _ e]
   exact G ((h.qu j (by omega)).later f)
 ·rw[List.length_append,List.length_singleton]at hi C
  by_cases Z:i=qs.length
  ·subst Z
   rw[dg]at D;rw[dh _ _ (Ne.symm J)]at u;have h3:=(h.qu j (by omega)).lt u;have h4:=U x D;omega
  ·rw[dh _ _ Z]at D
   by_cases M:j=qs.length
   ·subst M
    rw[dg]at u;have h3:=(h.qu i (by omega)).lt D;have h4:=U x u;omega
   ·rw[dh _ _ M]at u
    exact h.apart i j (by omega) (by omega) J x D u
 ·subst e
  exact I.not_cells d
def kM(w:World)(b n g:Nat):Prop:=∃c mb,w.heap[b]?=some (.cells #[.slice (some ⟨g,0,none⟩) n c,.map (some mb)] 128 (0,0))
theorem NewI.done{wr:World}{v:Value}{qs:List Nat}{e:Nat->Nat->Prop}(h:NewI w b mb v qs e wr)(o:qs≠[]):∃S,WU wr w.heap.size b qs.length 0 S (fun _=>[])/\(∀y,S y->w.heap.size<=y)/\∃g,w.heap.size<=g/\g<wr.heap.size/\kM wr b qs.length g:=by
 obtain⟨t,⟨f,d⟩|⟨g,cap,c,f,d,i,p,u,z,l⟩⟩:=h.row
 ·exact absurd (List.eq_nil_of_length_eq_zero d) o
 have a:=h.box;rw[f]at a
 have m:WK wr w.heap.size b qs.length 0 (fun x=>x=mb∨∃j,j<qs.length/\e j x) (fun _=>[]) (fd qs.length fun _=>[]) (dS qs.length fun _=>[]):=by
  refine WK.as (g:=g) (cap:=cap) (qs:=fun j=>qs.getD j 0) ⟨h.below.size,h.lowb,h.lowm,a,⟨c,i,fun j n=>?_⟩,p,h.qu,h.apart,h.map.congr (fun k=>(Kv _ k).symm) (vI _).symm⟩;rw[ph,Nat.mul_one]at l
  have:(c.toList.take qs.length)[j]?=some (.pointer (some ⟨qs.getD j 0,0,none⟩)):=by
   rw[l];simp[List.getD,n]
  rw[List.getElem?_take_of_lt n]at this;simpa using this
 exact⟨_,⟨m,fun j _=>List.Pairwise.nil,Hd _,fun j _ s q=>by cases q⟩,fun y r=>(m.kinds r).1,g,d,(Array.getElem?_eq_some_iff.1 i).1,cap,mb,a⟩
end
theorem Cc{n:Nat}(h1:1<=n)(O:n<=64)(w:World):Calls prog 35 #[.int .i64 (n:Int)] w fun r w'=>r=.returned (.tuple #[.pointer (some ⟨w.heap.size+1,0,none⟩),.int .i64 0])/\Below w.heap.size w w'/\∃S,WU w' w.heap.size (w.heap.size+1) n 0 S (fun _=>[])/\(∀y,S y->w.heap.size<=y)/\∃g,w.heap.size<=g/\g<w'.heap.size/\kM w' (w.heap.size+1) n g:=by
 have P:decide ((n:Int)<1)=false:=decide_eq_false (by omega);have Q:decide ((64:Int)<(n:Int))=false:=decide_eq_false (by omega)
 have l:Hid (NewI w (w.heap.size+1) w.heap.size (.slice none 0 0) [] (fun _ _=>False) ((w.alloc (.map #[] 0)).alloc (.cells #[.slice none 0 0,.map (some w.heap.size)] 128))):=by
  have m:=heap_alloc_new (w.alloc (.map #[] 0)) (.cells #[.slice none 0 0,.map (some w.heap.size)] 128);rw[World.size_alloc]at m;exact⟨by omega,Nat.le_refl _,eH w _ _,m,iF _ _ _ _ _,fun j E=>absurd E (Nat.not_lt_zero _),fun i j H=>absurd H (Nat.not_lt_zero _),(IM.start w).later (da _ _)⟩
 have z:=@run_makeMap prog;go_enter func35,ntmps35;go_wp2_with fail;clear z;generalize ((w.alloc (.map #[] 0)).alloc (.cells #[.slice none 0 0,.map (some w.heap.size)] 128))=T at *
 go_loopw [15] (fun i wr=>∃(j:Nat) (v:Value) (c:List Nat) (F:Nat->Nat->Prop),j<=n/\i=.int .i64 j/\Hid (c.length=j)/\Hid (NewI w (w.heap.size+1) w.heap.size v c F wr)) (fun i _=>n-(intOf i).toNat)
 case atStart=>exact⟨0,_,[],_,Nat.zero_le _,rfl,rfl,l⟩
 case round=>
  clear l;obtain⟨j,v,c,F,E,rfl,u,h⟩:=hrel
  by_cases R:j<n
  ·have U:wr.cell? ⟨w.heap.size+1,0,none⟩=some v:=by rw[cell_of_row wr _ 0 _ _ _ h.out.box];rfl
   have o:c.length<=1000000:=by have:=u.out;omega
   have A:=hid o;have I:Hid (∀d,Below wr.heap.size wr d->∀k,QU d wr.heap.size wr.heap.size k []->(∀y,k y->wr.heap.size<=y)->_):=fun d hb k x J=>h.out.grow hb x J
   clear o;go_wp2_with fail
   go_region_law ((first
    |(refine lG (f:=gW) (n:=1) 126 129 8 (.pointer none) underlying126 J6 (by rfl) (by omega) (by omega) nI (by rfl) (.tmp 21) (.tmp 23) (by rfl) w.heap.size v c (by rfl) B ⟨d.heap.size,0,none⟩ (by rfl) wr.heap.size (y7 _) (gw d (gW wr.heap.size) _ _ rfl) A.out C ?_;intro V L a _ p _;obtain⟨W,G,q,_,_⟩:=dc.block a (by simp);rw[List.length_append,List.length_singleton]at q;subst q;obtain⟨X,f3,s⟩:=M _ L a p;have D:=hid s;clear s a p)
    |(go_simp;go_wp2_with (go_at_call 63;refine(FE _).mono ?_;rintro r d⟨rfl,b,k,x,t⟩;obtain⟨Y,Z,B,C,M⟩:=I.out d ⟨b.os,b.tape,b.output,b.size,b.block⟩ k x t;clear b x t))))
   all_goals(
    go_wp2
    go_roundw
    case rel=>exact⟨j+1,_,c++[wr.heap.size],_,by omega,by go_num,by show(c++[wr.heap.size]).length=j+1;rw[List.length_append,u.out];rfl,D⟩
    case measure=>simp[intOf];omega)
  ·obtain rfl:j=n:=by omega
   have N:Hid (Below w.heap.size w wr/\∃S,WU wr w.heap.size (w.heap.size+1) j 0 S (fun _=>[])/\(∀y,S y->w.heap.size<=y)/\∃g,w.heap.size<=g/\g<wr.heap.size/\kM wr (w.heap.size+1) j g):=⟨h.out.below,by
    have:=h.out.done (fun e=>by have:=u.out;rw[e]at this;simp at this;omega);rw[u.out]at this
    exact this⟩
   clear h;go_wp2;refine bodyPost_ret (v:=.tuple #[.pointer (some ⟨w.heap.size+1,0,none⟩),.int .i64 0]) (by simp[results,results35,go_sem]) rfl ?_;exact⟨rfl,N.out⟩
end
section
open Go.RowKit
theorem Eb(row:List Int):∀{s:St},(s.run row).1=0->(s.run row).2.1.length=row.length:=by
 induction row with
 |nil=>intro s _;rfl
 |cons u row c=>
  intro s h
  by_cases b:(s.step u).1=0
  ·rw[St.run,if_pos b]at h ⊢
   by_cases a:((s.step u).2.2.run row).1=0
   ·rw[if_pos a]
    simp[c a]
   ·rw[if_neg a]at h;exact absurd h a
  ·rw[St.run,if_neg b]at h;exact absurd h b
theorem qy{p:Pg}{fuel:Int}{row:List Int}{e:Int}{a:List Ev}{s:St}(h:dQ p fuel row=(e,a,some s)):a.length=row.length:=by
 obtain⟨_,_,b,c⟩:=qx h;rw[<-c];exact Eb row b
theorem Kw{n:Nat}{t u:Int}(h:0<=u/\u<8)(e:t=u):dp (wt n u) t=true:=by
 subst e
 obtain⟨k,rfl⟩:∃k:Nat,t=k:=⟨t.toNat,by omega⟩
 rw[gX _ (by omega),sh (by omega)];simp
theorem Ij{n:Nat}(_:n<256){x:Int}(h:x∈ex (dW n)):dp n x=true:=by
 have:=yr n x;rw[<-this];simpa using h
theorem TNd.Ok.left_gone{n:TNd}(h:n.Ok){x:Int}(hx:x∈ex (dW n.left)):dp n.gone x=false/\dp n.asl x=false/\dp n.todo x=true:=by
 have b:=Ij h.left hx;unfold dp at b;rw[Bool.and_eq_true,decide_eq_true_eq]at b
 obtain⟨k,rfl⟩:∃k:Nat,x=k:=⟨x.toNat,by omega⟩
 have a:n.left.testBit k=true:=b.2;have c:k<8:=by omega
 unfold TNd.left at a;rw[jm (jB _ _ h.todo) h.asl,jm h.todo h.gone]at a;simp only[Bool.and_eq_true,Bool.not_eq_true']at a;rw[gX _ c,gX _ c,gX _ c];exact⟨a.1.2,a.2,a.1.1⟩
end
section
def jK(l:List Ev)(t:Int):Nat->Option Nat
 |0=>none
 |n+1=>if (dd l n).thread=t then some n else jK l t n
theorem yQ{l:List Ev}{t:Int}:∀{n j:Nat},jK l t n=some j->j<n/\(dd l j).thread=t:=by
 intro n
 induction n with
 |zero=>intro j h;cases h
 |succ n a=>
  intro j h;rw[jK]at h
  split at h
  ·rename_i b
   injection h with h;subst h;exact⟨Nat.lt_succ_self _,b⟩
  ·have:=a h
   exact⟨by omega,this.2⟩
def pf(l:List Ev)(t:Int)(i:Nat):Bool:=match jK l t l.length with
 |none=>false
 |some j=>hb l i j
def sQ(l:List Ev)(e:Ev)(i:Nat):Bool:=decide ((dd l i).thread≠e.thread)&&dj (dd l i) e && !pf l e.thread i
def gR(l:List Ev)(e:Ev):List Nat:=(List.range l.length).filter (sQ l e)
theorem tE{l:List Ev}{e:Ev}{i:Nat}:i∈gR l e↔i<l.length/\(dd l i).thread≠e.thread/\dj (dd l i) e=true/\pf l e.thread i=false:=by
 unfold gR sQ;rw[List.mem_filter,List.mem_range,Bool.and_eq_true,Bool.and_eq_true,decide_eq_true_eq,Bool.not_eq_true'];exact⟨fun h=>⟨h.1,h.2.1.1,h.2.1.2,h.2.2⟩,fun h=>⟨h.1,⟨h.2.1,h.2.2.1⟩,h.2.2.2⟩⟩
def fV(t:Int)(dP:List Nat):List (Nat × Int):=dP.map fun i=>(i,t)
def iu(nx:Int->Option Ev)(l:List Ev)(n:Nat):List (Nat × Int):=(List.range n).flatMap fun(t:Nat)=>match nx (t:Int)with
 |none=>[]
 |some e=>fV (t:Int) (gR l e)
theorem qz(nx:Int->Option Ev)(l:List Ev)(n:Nat):iu nx l (n+1)=iu nx l n++match nx n with
  |none=>[]
  |some e=>fV (n:Int) (gR l e):=by
 unfold iu;rw[List.range_succ,List.flatMap_append];simp
theorem BZ(l:List Ev)(e:Ev):(gR l e).length<=l.length:=by
 unfold gR;refine Nat.le_trans (List.length_filter_le _ _) ?_;rw[List.length_range];exact Nat.le_refl _
theorem qA(nx:Int->Option Ev)(l:List Ev)(n:Nat):(iu nx l n).length<=n*l.length:=by
 induction n with
 |zero=>exact Nat.zero_le _
 |succ n a=>
  rw[qz,List.length_append,Nat.add_mul,Nat.one_mul]
  have h:(match nx n with
   |none=>[]
   |some e=>fV (n:Int) (gR l e)).length<=l.length:=by
   split
   ·exact Nat.zero_le _
   ·unfold fV
    rw[List.length_map];exact BZ _ _
  omega
theorem oX{nx:Int->Option Ev}{l:List Ev}{i:Nat}{u:Int}:∀{n:Nat},(i,u)∈iu nx l n↔∃k:Nat,k<n/\u=(k:Int)/\∃f,nx u=some f/\i∈gR l f:=by
 intro n
 induction n with
 |zero=>simp[iu]
 |succ n c=>
  rw[qz,List.mem_append,c]
  constructor
  ·rintro (⟨k,d,h⟩|h)
   ·exact⟨k,by omega,h⟩
   ·cases a:nx (n:Int)with
    |none=>rw[a]at h;cases h
    |some f=>
     rw[a]at h;obtain⟨j,g,e⟩:=List.mem_map.1 h;injection e with e1 e2;subst e1 e2;exact⟨n,by omega,rfl,f,a,g⟩
  ·rintro⟨k,d,rfl,f,a,b⟩
   by_cases e:k=n
   ·subst e
    right
    rw[a];exact List.mem_map.2 ⟨i,b,rfl⟩
   ·exact .inl ⟨k,by omega,rfl,f,a,b⟩
abbrev rS:=List (St × List Ev)
def St.pre:Nat->St->Nat
 |0,_=>1
 |n+1,s=>1+(s.all.map fun t=>St.pre n (s.step t).2.2).sum
def St.runs:Nat->St->List Ev->List (St × List Ev)
 |0,s,a=>[(s,a)]
 |n+1,s,a=>if s.all=[]then [(s,a)]else s.all.flatMap fun t=>St.runs n (s.step t).2.2 (a++[(s.step t).2.1])
theorem sX(n:Nat)(s:St):1<=s.pre n:=by
 cases n with
 |zero=>exact Nat.le_refl _
 |succ n=>unfold St.pre;omega
theorem Nl{s:St}{t:Int}(h:t∈s.all):∃i,s.step t=(0,s.ev t i,s.do_ t i)/\(s.do_ t i).fuel+1=s.fuel:=by
 unfold St.all at h;have a:=(List.mem_filter.1 h).2;rcases s.step_cases t with ⟨i,b,_,e⟩|⟨e,d,c⟩
 ·exact⟨i,e,St.fuel_do b⟩
 ·exfalso
  unfold St.may at a
  cases b:s.ins t with
  |none=>rw[b]at a;cases a
  |some i=>
   have:=St.step_may b (by unfold St.may;exact a);rw[this]at c;injection c with c _;omega
theorem rL{s:St}{t:Int}(h:t∈s.all):∃e a,s.step t=(0,e,a)/\a.fuel+1=s.fuel:=by
 obtain⟨i,b,c⟩:=Nl h;exact⟨_,_,b,c⟩
theorem Bd{s:St}(h:s.fuel=0):s.all=[]:=by
 apply Classical.byContradiction;intro a;obtain⟨t,b⟩:=List.exists_mem_of_ne_nil _ a;obtain⟨_,_,_,c⟩:=rL b;omega
theorem St.all_len(s:St):s.all.length<=s.ts.length:=by
 unfold St.all;exact Nat.le_trans (List.length_filter_le _ _) (by simp)
theorem mE{F:Nat}{s:St}(b:s.Ok F):s.fuel<=32:=by
 have h:∀l:List Nat,(∀x∈l,x<=8)->l.sum<=8*l.length:=by
  intro l
  induction l with
  |nil=>intro _;simp
  |cons a l e=>
   intro h;have g:=h a (by simp);have c:=e fun x hx=>h x (by simp[hx])
   simp only[List.sum_cons,List.length_cons];omega
 have c:=h (s.ts.map Thr.fuel) (fun x hx=>by
  obtain⟨y,f,rfl⟩:=List.mem_map.1 hx;have:=(b.thr y f).2.2;have:=b.f8
  omega)
 have i:=b.len;have d:=b.right;unfold dL at d;rw[Bool.and_eq_true,decide_eq_true_eq]at d;unfold St.fuel;rw[List.length_map]at c;omega
def jH(n:Nat)(s:St)(j:Nat):Nat:=((s.all.take j).map fun t=>St.pre n (s.step t).2.2).sum
def jX(n:Nat)(s:St)(row:List Ev)(j:Nat):List (St × List Ev):=(s.all.take j).flatMap fun t=>St.runs n (s.step t).2.2 (row++[(s.step t).2.1])
theorem FZ(n:Nat)(s:St){j:Nat}(h:j<s.all.length):jH n s (j+1)=jH n s j+St.pre n (s.step s.all[j]).2.2:=by
 unfold jH;rw[List.take_succ_eq_append_getElem h,List.map_append,List.sum_append];simp
theorem D2(n:Nat)(s:St)(row:List Ev){j:Nat}(h:j<s.all.length):jX n s row (j+1)=jX n s row j++St.runs n (s.step s.all[j]).2.2 (row++[(s.step s.all[j]).2.1]):=by
 unfold jX;rw[List.take_succ_eq_append_getElem h,List.flatMap_append];simp
theorem F0(n:Nat)(s:St):St.pre (n+1) s=1+jH n s s.all.length:=by
 unfold jH;rw[List.take_length];rfl
theorem D3(n:Nat)(s:St)(row:List Ev)(h:s.all≠[]):St.runs (n+1) s row=jX n s row s.all.length:=by
 unfold jX;rw[List.take_length];show(if s.all=[]then _ else _)=_;rw[if_neg h]
theorem oG(n:Nat)(s:St)(row:List Ev)(h:s.all=[]):St.runs n s row=[(s,row)]/\St.pre n s=1:=by
 cases n with
 |zero=>exact⟨rfl,rfl⟩
 |succ n=>
  refine⟨?_,?_⟩
  ·show(if s.all=[]then _ else _)=_
   rw[if_pos h]
  ·unfold St.pre
   rw[h];rfl
theorem C4{T:Type}(l:List T)(f g:T->Nat)(h:∀x∈l,f x<=g x):(l.map f).sum<=(l.map g).sum:=by
 induction l with
 |nil=>simp
 |cons a l b=>
  have c:=h a (by simp);have d:=b fun x hx=>h x (by simp[hx])
  simp only[List.map_cons,List.sum_cons];omega
theorem wB(n:Nat):∀(s:St) (a:List Ev),(s.runs n a).length<=s.pre n:=by
 induction n with
 |zero=>intro s a;exact Nat.le_refl _
 |succ n b=>
  intro s a;show(if s.all=[]then _ else _:List (St × List Ev)).length<=_;unfold St.pre
  split
  ·simp
  ·rw[List.length_flatMap]
   have:=C4 s.all (fun t=>(St.runs n (s.step t).2.2 (a++[(s.step t).2.1])).length) (fun t=>St.pre n (s.step t).2.2) (fun t _=>b _ _);omega
def s0(p:Pg)(fuel:Int):St:=St.new p fuel.toNat
def gA(p:Pg)(fuel:Int):Prop:=dL p=true/\0<=fuel/\fuel<=8
instance (p:Pg) (fuel:Int):Decidable (gA p fuel):=inferInstanceAs (Decidable (_/\_))
def dM(p:Pg)(fuel:Int):Nat:=(s0 p fuel).pre 33
def ek(p:Pg)(fuel:Int):List (St × List Ev):=(s0 p fuel).runs 33 []
end
section
open Go.Proofs.Tryz Go.RowKit
theorem CB(e:Ev)(h:eM e=true)(w:World):Calls prog 189 #[.agg #[.int .i64 e.thread,.int .i64 e.kind,.int .i64 e.obj,.bool e.fail]] w fun r b=>r=.returned (.int .u8 (eY e))/\Below w.heap.size w b:=by
 have a:=kZ h;clear h;obtain⟨t,k,o,f⟩:=e;dsimp only at a ⊢;obtain⟨c,d,g,i,j,l⟩:=a;unfold eY
 cases f
 ·go_enter func189,ntmps189
  go_wp2;go_ret;refine⟨?_,da _ _⟩;simp
 ·go_enter func189,ntmps189
  go_wp2;go_ret;refine⟨?_,da _ _⟩;simp
theorem Fe(e:Ev)(h:eM e=true)(w:World):Calls prog 184 #[.agg #[.int .i64 e.thread,.int .i64 e.kind,.int .i64 e.obj,.bool e.fail]] w fun r b=>r=.returned (.int .i64 (eY e))/\Below w.heap.size w b:=by
 have a:=kZ h;clear h;obtain⟨t,k,o,f⟩:=e;dsimp only at a ⊢;obtain⟨c,d,g,i,j,l⟩:=a;unfold eY
 cases f
 ·go_enter func184,ntmps184
  go_wp2;go_ret;refine⟨?_,da _ _⟩;simp
 ·go_enter func184,ntmps184
  go_wp2;go_ret;refine⟨?_,da _ _⟩;simp
def dY(ns:List Int):ByteArray:=⟨(ns.map fun n=>UInt8.ofNat n.toNat).toArray⟩
theorem rh(ns:List Int)(s:ByteArray):ns.foldl (fun r n=>r.push (UInt8.ofNat n.toNat)) s=⟨s.data++(ns.map fun n=>UInt8.ofNat n.toNat).toArray⟩:=by
 induction ns generalizing s with
 |nil=>simp
 |cons n ns a=>
  rw[List.foldl_cons,a];simp[ByteArray.push]
def iJ(w:World)(B:Nat)(v:Value)(ns:List Int):Prop:=w.ownsRow B 5 1 v ns.length (ns.map (Value.int .u8))
theorem iJ.alloc{w:World}{B:Nat}{v:Value}{ns:List Int}(h:iJ w B v ns)(o:Obj):iJ (w.alloc o) B v ns:=World.ownsRow.alloc h o
theorem iJ.slice{w:World}{B:Nat}{v:Value}{ns:List Int}(h:iJ w B v ns)(d:ns≠[]):∃g a,v=.slice (some ⟨g,0,none⟩) ns.length a/\∀j u,(ns.map (Value.int .u8))[j]?=some u->w.cell? (Addr.add ⟨g,0,none⟩ j)=some u:=by
 obtain⟨f,b|⟨g,a,c,b,i,k,l,m,n,o⟩⟩:=h
 ·exact absurd (List.eq_nil_of_length_eq_zero b.2) d
 ·refine⟨g,a,b,?_⟩
  exact World.ownsRow.cells (base:=B) (e:=5) (size:=1) ⟨f,.inr ⟨g,a,c,b,i,k,l,m,n,o⟩⟩ (by rw[b];rfl)
theorem wE{w:World}{B:Nat}{v:Value}{ns:List Int}(h:iJ w B v ns)(b:ns≠[]):(convert 56 9 v).run prog w=.ok (.string (dY ns)) w:=by
 obtain⟨g,d,rfl,c⟩:=h.slice b;rw[run_convert_bytes_string w _ _ 5 _ _ _ underlying56 underlying5 underlying9];have a:=run_loadCells_list (P:=prog) w ⟨g,0,none⟩ (ns.map (Value.int .u8)) c;rw[List.length_map]at a;rw[run_bytesToString w _ _ _ ns a,rh];have e:ByteArray.empty.data=#[]:=rfl;rw[e,Array.empty_append];rfl
theorem uO(w:World)(ms:List Int)(t:TypeId)(g:Nat)(a:g=w.heap.size):∀j u,(ms.map (Value.int .u8))[j]?=some u->(w.alloc (.cells (ms.map (Value.int .u8)).toArray t)).cell? (Addr.add ⟨g,0,none⟩ j)=some u:=by
 subst a;intro j u b
 have e:Addr.add ⟨w.heap.size,0,none⟩ j=⟨w.heap.size,j,none⟩:=by
  unfold Addr.add
  split
  ·rename_i c;subst c;rfl
  ·simp
 rw[e,World.cell?_alloc_new];simpa using b
theorem rV{w:World}{g:Array Oper}{rest:List Oper}{o:Oper}{a:Act}{Q:Exit->Act->World->Prop}(q:o.guard=none)(s x:Operand)
  (D:o.op=.call { callee:=.builtin .append,args:=#[s,x],argTypes:=#[56,56] }) (B:Nat) (v:Value) (ns:List Int) (E:a.eval s=v) (b:iJ w B v ns)
  (p:Addr) (m c:Nat) (hx:a.eval x=.slice (some p) m c) (ms:List Int) (z:ms.length=m) (d:∀j u,(ms.map (Value.int .u8))[j]?=some u->w.cell? (p.add j)=some u)
  (C:ns.length+m<=1000000000) (A:B<=w.heap.size)
  (h:∀n f,iJ f B n (ns++ms)->Below B w f->wpList prog g Q rest (a.put o.dst n) f):wpList prog g Q (o::rest) a w:=by
 have e:(prog.info? 5).map (fun i=>(i.zero,i.size,i.bytes))=some (some (.int .u8 0),1,1):=by kernel_rfl
 obtain⟨i,F,l⟩:=Option.map_eq_some_iff.1 e;simp only[Prod.mk.injEq]at l;obtain⟨G,r,t⟩:=l
 refine wpList_append_own w q s x 56 D B 5 i (.int .u8 0) 1 1 underlying56 F G r t rfl (by decide) v ns.length (ns.map (Value.int .u8)) E b p m c (ms.map (Value.int .u8)) hx (by simp[z]) d
  (by intro u H;obtain⟨y,_,rfl⟩:=List.mem_map.1 H;rfl) (by unfold maxLen;omega) (by omega) A ?_
 intro n f I J _;refine h n f ?_ ((Below.refl B w).grown J A (fun k L=>(World.ownsRow.lt b k L).1));unfold iJ;rw[List.length_append,List.map_append,z];exact I
end
section
open Go.RowKit
def rq(s:List UInt8):List Ev:=s.map fun b=>uz b.toNat
def wS(s:List UInt8):Bool:=(rq s).all eM
def sO(s:List UInt8):List Ev:=if wS s then rq s else []
theorem set4(a b:List Value)(d z1 e f v0 v1 v2 c:Value)(n:Nat)(g:n=a.length):
  ((((a++d::z1::e::f::b).set n v0).set (n+1) v1).set (n+2) v2).set (n+3) c=a++v0::v1::v2::c::b:=by
 subst g;rw[List.set_append_right _ _ (by omega),List.set_append_right _ _ (by omega),List.set_append_right _ _ (by omega),List.set_append_right _ _ (by omega)];rw[show a.length-a.length=0 by omega,show a.length+1-a.length=1 by omega,show a.length+2-a.length=2 by omega,show a.length+3-a.length=3 by omega];rfl
end
section
open Go.Proofs.Tryz Go.RowKit
def gg(b:Array Value)(o:Nat)(c:List Value):Array Value:=(b.toList.take o++c++b.toList.drop (o+c.length)).toArray
theorem oM{a:Array Value}{o:Nat}{b:List Value}(h:o+b.length<=a.size):(gg a o b).size=a.size:=by
 simp[gg];omega
theorem qp{P:Program}(w:World)(p s u elem:TypeId)(k g o h d:Nat)(l:Addr)(ns e:Nat)(a:Array Value)(t:TypeId)(b:List Value)
  (x:P.underlying p=some (.slice elem)) (q:(P.info? elem).map (·.size)=some k)
  (y:w.heap[g]?=some (.cells a t (0,0))) (n:b.length=Nat.min ns h*k) (r:o+b.length<=a.size)
  (f:∀j v,b[j]?=some v->w.cell? (l.add j)=some v) (h1:∀v∈b,v.oneCell'=true):
  (Builtin.copy_ #[p,s] u #[.slice (some ⟨g,o,none⟩) h d,.slice (some l) ns e]).run P w=.ok (goInt (Nat.min ns h)) (w.setRow g (gg a o b)):=by
 cases m:P.info? elem with
 |none=>simp[m]at q
 |some i=>
  have z:i.size=k:=by simpa [m]using q
  have A:=run_loadCells_list (P:=P) w l b f;have c:=run_storeCells_at P g o t b 0 a w y (by omega) h1;rw[Nat.add_zero]at c;simp[Builtin.copy_,run_underlying x,Builtin.lenOf,Builtin.firstCells,sizeOf,typeInfo,m,z,<-n,A,c,gg]
theorem pD:(prog.info? 112).map (·.size)=some 4:=by kernel_rfl
theorem Lt(w:World):(Go.sizeOf 112).run prog w=.ok 4 w:=by
 obtain⟨i,a,b⟩:=Option.map_eq_some_iff.1 pD;simp[sizeOf,typeInfo,a,b]
theorem ud:(prog.info? 112).map (fun i=>(i.zero,i.size,i.bytes))=some (some (.agg #[.int .i64 0,.int .i64 0,.int .i64 0,.bool false]),4,32):=by kernel_rfl
theorem ke(x:Ev):(eg x).length=4:=rfl
theorem rr(x:Ev):∀v∈eg x,v.oneCell'=true:=by
 intro v a;simp[eg]at a
 rcases a with rfl|rfl|rfl|rfl <;> rfl
theorem Af(l:List Ev)(n:Nat):dy (l.take n)=(dy l).take (n*4):=by
 by_cases h:n<=l.length
 ·have e:dy l=dy (l.take n)++dy (l.drop n):=by rw[<-lm,List.take_append_drop]
  rw[e,List.take_left' (by rw[iy,List.length_take];omega)]
 ·rw[List.take_of_length_le (l:=l) (by omega),List.take_of_length_le (by rw[iy];omega)]
theorem Ag(l:List Ev)(n:Nat):dy (l.drop n)=(dy l).drop (n*4):=by
 by_cases h:n<=l.length
 ·have e:dy l=dy (l.take n)++dy (l.drop n):=by rw[<-lm,List.take_append_drop]
  rw[e,List.drop_left' (by rw[iy,List.length_take];omega)]
 ·have e:l.drop n=[]:=List.drop_eq_nil_of_le (by omega)
  rw[e,List.drop_eq_nil_of_le (by rw[iy];omega)];rfl
theorem FF(X Y Z E:List Value)(p n:Nat)(a:X.length=p+E.length)(d:n=p+E.length+Y.length):
  ((X++(Y++Z)).take p++E++(X++(Y++Z)).drop (p+E.length)).take n=X.take p++(E++Y):=by
 have b:(X++(Y++Z)).take p=X.take p:=List.take_append_of_le_length (by omega);have c:(X++(Y++Z)).drop (p+E.length)=Y++Z:=List.drop_left' a;rw[b,c];have e:X.take p++E++(Y++Z)=(X.take p++(E++Y))++Z:=by simp
 rw[e,List.take_left'];simp only[List.length_append,List.length_take];omega
theorem DS{b:Array Value}{a:List Ev}{e:Ev}{i c:Nat}(m:i<=a.length)(j:b.size=c*4)(g:a.length+1<=c)(k:b.toList.take (a.length*4)=dy a):
  (gg (gg b ((i+1)*4) (dy (a.drop i))) (i*4) (eg e)).toList.take ((a.length+1)*4)=dy (a.take i++e::a.drop i):=by
 have d:b.toList.length=c*4:=by simpa using j
 have f:(dy (a.drop i)).length=(a.length-i)*4:=by rw[iy,List.length_drop]
 have h:=FF (b.toList.take ((i+1)*4)) (dy (a.drop i)) (b.toList.drop ((i+1)*4+(dy (a.drop i)).length)) (eg e) (i*4) ((a.length+1)*4)
  (by rw[List.length_take,d,ke];omega) (by rw[f,ke];omega)
 have l:(b.toList.take ((i+1)*4)).take (i*4)=dy (a.take i):=by
  rw[Af,<-k,List.take_take,List.take_take,Nat.min_eq_left (by omega),Nat.min_eq_left (by omega)]
 rw[l]at h;rw[lm,show dy (e::a.drop i)=eg e++dy (a.drop i)from rfl,<-h];simp[gg]
end
section
open Go.Lib (hid)
open Go.Proofs.Tryz Go.RowKit
open List (length_append length_drop take_left')
open Nat (min_def zero_add)
theorem GD(w:World)(a b o f g lb h:Nat)(d:a≠b)(x y:Array Value)(i j:TypeId)(c:w.heap[a]?=some (.cells x i (0,0)))(hb:w.heap[b]?=some (.cells y j (0,0)))(k:y.size≠0):
  (callFunc 216 #[.slice (some ⟨a,0,none⟩) f g,.slice (some ⟨b,o,none⟩) lb h]).run prog w=.ok (.value (.bool false)) w:=by
 rw[run_callFunc_extern func216 (by kernel_rfl) (by kernel_rfl) (by kernel_rfl) (e:=Extern.SlicesOverlaps.overlaps #[95,95] #[4]) (by kernel_rfl),
  Lib.run_overlaps_apart w 95 4 112 underlying95 4 Lt ⟨a,0,none⟩ ⟨b,o,none⟩ f g lb h d i j x.size y.size (by simp[World.shape?,c]) (by simp[World.shape?,hb]) k (by simp[World.frozen?,c]) (by simp[World.frozen?,c])]
 rfl
theorem JP(b n c i l:Nat)(g:List Ev)(e:Ev)(w:World)(a x:Array Value)(E:TypeId)(O:n=g.length)(hi:i<n)(N:n+1<=c)(Q:c<=maxLen)(z:l≠b)
  (y:w.heap[b]?=some (.cells a 112 (0,0))) (C:a.size=c*4) (R:a.toList.take (n*4)=dy g) (hx:w.heap[l]?=some (.cells x E (0,0))) (J:∀(j:Nat) (v:Value),(eg e)[j]?=some v->x[j]?=some v):
  Calls prog 193 #[.slice (some ⟨b,0,none⟩) n c,.int .i64 i,.slice (some ⟨l,0,none⟩) 1 1] w fun r S=>
   r=.returned (.slice (some ⟨b,0,none⟩) (n+1) c)/\S=(w.drew.setRow b (gg a ((i+1)*4) (dy (g.drop i)))).setRow b (gg (gg a ((i+1)*4) (dy (g.drop i))) (i*4) (eg e)):=by
 have T:¬((i:Int)=(n:Int)):=by omega
 unfold maxLen at Q;have L:∀o F G,(callFunc 216 #[.slice (some ⟨l,0,none⟩) 1 1,.slice (some ⟨b,o,none⟩) F G]).run prog w=.ok (.value (.bool false)) w:=fun o F G=>GD w l b o 1 1 F G z x a E _ hx y (by omega)
 have h:(dy (g.drop i)).length=(n-i)*4:=by rw[iy,length_drop,O]
 have U:IntKind.i64.wrap ((i:Int)+1)=(i:Int)+1:=by rw[IntKind.wrap_i64];omega
 have V:IntKind.i64.wrap ((n:Int)+1)=(n:Int)+1:=by rw[IntKind.wrap_i64];omega
 have W:(0:Int)<=(i:Int)+1:=by omega
 have X:i<=n:=by omega
 have Y:¬(c=i+1):=by omega
 have Z:(i:Int)<=(n:Int)+1:=by omega
 have aa:¬(c=i):=by omega
 have ab:((i:Int)+1).toNat=i+1:=by omega
 have f:∀j v,(dy g)[j]?=some v->w.cell? ⟨b,j,none⟩=some v:=fun j v m=>by
  have M:j<n*4:=by have:=(List.getElem?_eq_some_iff.1 m).1;rw[iy]at this;omega
  rw[<-R,List.getElem?_take_of_lt M]at m;simp[World.cell?,y];simpa using m
 have d:∀p q H,(Builtin.copy_ #[95,95] p #[.slice (some ⟨b,(i+1)*4,none⟩) (n-i) q,.slice (some ⟨b,i*4,none⟩) (n+1-i) H]).run prog w.drew=.ok (goInt (Nat.min (n+1-i) (n-i))) (w.drew.setRow b (gg a ((i+1)*4) (dy (g.drop i)))):=fun p q H=>
  qp w.drew _ _ p 112 4 b ((i+1)*4) (n-i) q ⟨b,i*4,none⟩ (n+1-i) H a _ (dy (g.drop i)) underlying95 pD y (by rw[h];simp only[min_def];split <;> omega) (by rw[h];omega)
   (fun j v m=>by rw[jP];exact f _ v (by rw[Ag,List.getElem?_drop]at m;exact m)) (fun v I=>pE _ v I)
 obtain⟨s,u⟩:∃s,s=gg a ((i+1)*4) (dy (g.drop i)):=⟨_,rfl⟩
 have P:s.size=c*4:=by rw[u,oM (by rw[h];omega),C]
 rw[<-u]at d ⊢
 obtain⟨t,k⟩:∃t,t=w.drew.setRow b s:=⟨_,rfl⟩
 have A:t.heap[b]?=some (.cells s 112 (0,0)):=by rw[k];exact setRow_heap _ _ _ _ _ _ y
 have B:t.heap[l]?=some (.cells x E (0,0)):=by rw[k,setRow_other _ _ _ _ z];exact hx
 have D:∀p q,(Builtin.copy_ #[95,95] p #[.slice (some ⟨b,i*4,none⟩) (n+1-i) q,.slice (some ⟨l,0,none⟩) 1 1]).run prog t=.ok (goInt (Nat.min 1 (n+1-i))) (t.setRow b (gg s (i*4) (eg e))):=fun p q=>
  qp t _ _ p 112 4 b (i*4) (n+1-i) q ⟨l,0,none⟩ 1 1 s _ (eg e) underlying95 pD A (by rw[ke];simp only[min_def];split <;> omega) (by rw[ke];omega)
   (fun j v m=>by rw[jP,zero_add];simp[World.cell?,B];exact J j v m) (fun v I=>rr e v I)
 rw[<-k]at d ⊢;clear u k O y hx A B f h;go_enter func193,ntmps193
 go_wp2_with (simp only[L])
 go_region_law (refine step_copy_runI rfl _ _ 95 95 rfl _ _ (by simp[Act.eval,Act.put]) (by simp[Act.eval,Act.put]) (d _ _ _) ?_)
 go_wp2_with (at_builtin;refine wpList_copy_runI _ rfl _ _ 95 95 rfl _ _ rfl rfl (D _ _) ?_)
 go_ret;exact⟨rfl,rfl⟩
def NE(w:World)(n:Nat)(a:List Ev)(r:Ending)(w':World):Prop:=
 ∃G C,r=.returned (.slice (some ⟨w.heap.size,0,none⟩) (n+1) G)/\n+1<=G/\G<=maxLen/\w'.os=w.os/\w'.tape=w.tape/\w'.output=w.output/\w'.heap=(w.alloc (.cells C 112)).heap/\C.size=G*4/\C.toList.take ((n+1)*4)=dy a
theorem JQ(b n c i S:Nat)(d:List Ev)(e:Ev)(w:World)(T x:Array Value)(tx:TypeId)(hn:n=d.length)(hi:i<n)(Q:c<n+1)(au:n<=c)(hc:n<=1000000)
  (hg:w.heap[b]?=some (.cells T 112 (0,0))) (ht:T.toList.take (n*4)=dy d) (hx:w.heap[S]?=some (.cells x tx (0,0))) (aj:∀(j:Nat) (v:Value),(eg e)[j]?=some v->x[j]?=some v):
  Calls prog 193 #[.slice (some ⟨b,0,none⟩) n c,.int .i64 i,.slice (some ⟨S,0,none⟩) 1 1] w (NE w n (d.take i++e::d.drop i)):=by
 obtain⟨i0,U,V⟩:=Option.map_eq_some_iff.1 ud;simp only[Prod.mk.injEq]at V;obtain⟨X,Y,L⟩:=V;have av:¬((i:Int)=(n:Int)):=by omega
 have aw:(c:Int)<(n:Int)+1:=by omega
 have y:(dy (d.drop i)).length=(n-i)*4:=by rw[iy,length_drop,hn]
 have l:∀j v,(dy d)[j]?=some v->w.cell? ⟨b,j,none⟩=some v:=fun j v p=>by
  have ak:j<n*4:=by have:=(List.getElem?_eq_some_iff.1 p).1;rw[iy]at this;omega
  rw[<-ht,List.getElem?_take_of_lt ak]at p;simp[World.cell?,hg];simpa using p
 have al:b<w.heap.size:=(Array.getElem?_eq_some_iff.1 hg).1;have am:S<w.heap.size:=(Array.getElem?_eq_some_iff.1 hx).1;have Z:(n:Int)+1-(i:Int)=((n+1-i:Nat):Int):=by omega
 have M:i+(n+1-i)=n+1:=by omega
 have r:(dy (d.take i)).length=i*4:=by rw[iy,List.length_take];omega
 have D:(Builtin.firstCells i0.size i (.slice (some ⟨b,0,none⟩) i c)).run prog w.drew=.ok (dy (d.take i)).toArray w.drew:=by
  rw[Y]
  exact run_firstCells_some w.drew 4 i ⟨b,0,none⟩ i c (dy (d.take i)) r (fun j v p=>by
   rw[jP,zero_add];rw[Af,List.getElem?_take]at p
   split at p
   ·exact l j v p
   ·cases p)
 obtain⟨G,hG⟩:∃G,G=grownCap w (n+1) c 112:=⟨_,rfl⟩
 have an:n+1<=G:=by rw[hG];exact grownCap_ge w _ _ _
 have aa:G<=maxLen:=by rw[hG];exact grownCap_le_maxLen w (n+1) c 112 (by unfold maxLen;omega)
 have ap:G<=9223372036854775807:=by unfold maxLen at aa;omega
 obtain⟨f,o⟩:∃f:Array Value,f=(dy (d.take i)).toArray++Builtin.zeroCells (Value.agg #[.int .i64 0,.int .i64 0,.int .i64 0,.bool false]).cells (n+1-i)++Builtin.zeroCells (Value.agg #[.int .i64 0,.int .i64 0,.int .i64 0,.bool false]).cells (G-(n+1)):=⟨_,rfl⟩
 have ab:∀u,(Builtin.append_ #[95,3] u #[.slice (some ⟨b,0,none⟩) i c,.int .i64 ((n:Int)+1-(i:Int))]).run prog w =
   .ok (.slice (some ⟨w.heap.size,0,none⟩) (n+1) G) (w.drew.alloc (.cells f 112)):=fun u=>by
  have h:=Lib.run_append_grow_zeros w 95 3 u 112 i0 _ .i64 .i64 underlying95 underlying3 U X (some ⟨b,0,none⟩) i c (dy (d.take i)) D (n+1-i) (by omega) (by omega) (by omega) (by omega) (by rw[L];omega) (by rw[L,M];exact growslice_fits Q (by omega));rw[M,<-hG,<-o]at h;rw[Z];exact h
 have N:f.size=G*4:=by
  rw[o];simp[Builtin.zeroCells,Value.cells,r];omega
 have ac:f.toList.take (i*4)=dy (d.take i):=by
  rw[o];simp only[Array.toList_append,List.append_assoc];rw[take_left' r]
 obtain⟨A,g⟩:∃A,A=w.drew.alloc (.cells f 112):=⟨_,rfl⟩
 rw[<-g]at ab;have O:A.heap[w.heap.size]?=some (.cells f 112 (0,0)):=by rw[g];exact heap_alloc_new w.drew _
 have z:∀k,k<w.heap.size->A.heap[k]?=w.heap[k]?:=fun k hk=>by rw[g];exact heap_alloc_old w.drew _ hk
 obtain⟨q,B⟩:∃q,q=gg f (i*4) (eg e):=⟨_,rfl⟩
 have E:q.size=G*4:=by rw[B,oM (by rw[ke];omega),N]
 have ag:∀(W:World),W.heap=A.heap->∀u I,(Builtin.copy_ #[95,95] u #[.slice (some ⟨w.heap.size,i*4,none⟩) (n+1-i) I,.slice (some ⟨S,0,none⟩) 1 1]).run prog W=.ok (goInt (Nat.min 1 (n+1-i))) (W.setRow w.heap.size q):=fun W J u I=>by
  rw[B]
  exact qp W _ _ u 112 4 w.heap.size (i*4) (n+1-i) I ⟨S,0,none⟩ 1 1 f _ (eg e) underlying95 pD (by rw[J];exact O) (by rw[ke];simp only[min_def];split <;> omega) (by rw[ke];omega)
   (fun j v p=>by rw[jP,zero_add];simp[World.cell?,J,z S am,hx];exact aj j v p) (fun v hv=>rr e v hv)
 obtain⟨m,C⟩:∃m,m=gg q ((i+1)*4) (dy (d.drop i)):=⟨_,rfl⟩
 have F:m.size=G*4:=by rw[C,oM (by rw[y];omega),E]
 obtain⟨t,s⟩:∃t,t=A.setRow w.heap.size q:=⟨_,rfl⟩
 have ad:t.heap[w.heap.size]?=some (.cells q 112 (0,0)):=by rw[s];exact setRow_heap _ _ _ _ _ _ O
 have ae:∀k,k<w.heap.size->t.heap[k]?=w.heap[k]?:=fun k hk=>by rw[s,setRow_other _ _ _ _ (by omega)];exact z k hk
 have ah:∀(W:World),W.heap=t.heap->∀u I sc,(Builtin.copy_ #[95,95] u #[.slice (some ⟨w.heap.size,(i+1)*4,none⟩) (n-i) I,.slice (some ⟨b,i*4,none⟩) (n-i) sc]).run prog W=.ok (goInt (Nat.min (n-i) (n-i))) (W.setRow w.heap.size m):=fun W J u I sc=>by
  rw[C]
  exact qp W _ _ u 112 4 w.heap.size ((i+1)*4) (n-i) I ⟨b,i*4,none⟩ (n-i) sc q _ (dy (d.drop i)) underlying95 pD (by rw[J];exact ad) (by rw[y];simp only[min_def];split <;> omega) (by rw[y];omega)
   (fun j v p=>by
    rw[jP];have h1:=l (i*4+j) v (by rw[Ag,List.getElem?_drop]at p;exact p);rw[<-h1]
    exact World.cell?_of_block (by rw[J];exact ae b al)) (fun v hv=>pE _ v hv)
 have H:m.toList.take ((n+1)*4)=dy (d.take i++e::d.drop i):=by
  have ax:f.toList.length=G*4:=by simpa using N
  have ai:q.toList=dy (d.take i)++eg e++f.toList.drop (i*4+4):=by
   rw[B,<-ac];simp[gg,ke]
  rw[C,lm,show dy (e::d.drop i)=eg e++dy (d.drop i)from rfl]
  have af:q.toList.take ((i+1)*4)=dy (d.take i)++eg e:=by
   rw[ai,take_left'];rw[length_append,r,ke];omega
  have e1:(gg q ((i+1)*4) (dy (d.drop i))).toList=(dy (d.take i)++(eg e++dy (d.drop i)))++q.toList.drop ((i+1)*4+(dy (d.drop i)).length):=by
   unfold gg;rw[af];simp
  rw[e1,take_left'];rw[length_append,length_append,r,ke,y];omega
 have ay:¬(G=i):=by omega
 have aq:¬(G=i+1):=by omega
 have az:¬(c=i):=by omega
 have aA:IntKind.i64.wrap ((i:Int)+1)=(i:Int)+1:=by rw[IntKind.wrap_i64];omega
 have aB:IntKind.i64.wrap ((n:Int)+1)=(n:Int)+1:=by rw[IntKind.wrap_i64];omega
 have aC:IntKind.i64.wrap ((n:Int)+1-(i:Int))=(n:Int)+1-(i:Int):=by rw[IntKind.wrap_i64];omega
 have af:(0:Int)<=(i:Int)+1:=by omega
 have aD:i<=n:=by omega
 have aE:((i:Int)+1).toNat=i+1:=by omega
 have aF:(i:Int)<=(n:Int)+1:=by omega
 have ao:∀W:World,W.heap=t.heap->(W.setRow w.heap.size m).heap=(w.alloc (.cells m 112)).heap:=fun W J=>by
  have h0:(W.setRow w.heap.size m).heap=(t.setRow w.heap.size m).heap:=by unfold World.setRow;simp only[J]
  rw[h0,s,g,setRow_setRow];have h1:(w.drew.alloc (.cells f 112)).setRow w.heap.size m=w.drew.alloc (.cells m 112):=uW w.drew _ _ _;rw[h1];rfl
 have P:t.os=w.os/\t.tape=w.tape/\t.output=w.output:=by rw[s,g];exact⟨rfl,rfl,rfl⟩
 have R:t=A.setRow w.heap.size q:=s;have ar:A.os=w.os/\A.tape=w.tape/\A.output=w.output:=by rw[g];exact⟨rfl,rfl,rfl⟩
 clear Z M D o hG ac B C g s ad ae O z l ht hg hx hn y r N E U X Y L
 have hP:Hid (n+1<=G/\G<=maxLen/\m.size=G*4/\m.toList.take ((n+1)*4)=dy (d.take i++e::d.drop i)):=⟨an,aa,F,H⟩
 clear F H;go_enter func193,ntmps193
 go_wp2_with (first
  |(at_builtin;refine Lib.wpList_append_run _ rfl _ _ _ _ rfl _ _ rfl rfl _ _ (ab _) ?_)
  |(at_builtin;refine wpList_copy_runI _ rfl _ _ 95 95 rfl _ _ rfl rfl (ag _ rfl _ _) ?_))
 rw[<-R]at *
 go_region_law (refine step_copy_runI rfl _ _ 95 95 rfl (.slice (some ⟨w.heap.size,(i+1)*4,none⟩) (n-i) (G-(i+1))) (.slice (some ⟨b,i*4,none⟩) (n-i) (c-i)) (by simp[Act.eval,Act.put]) (by simp[Act.eval,Act.put]) (ah (World.drew t) rfl 3 (G-(i+1)) (c-i)) ?_)
 go_wp2;go_ret;exact⟨G,m,rfl,hP.out.1,hP.out.2.1,P.1,P.2.1,P.2.2,ao _ rfl,hP.out.2.2.1,hP.out.2.2.2⟩
def kE(b:List Ev)(i:Nat)(e:Ev):List Ev:=b.take i++e::b.drop i
theorem nK(a:List Ev)(i:Nat)(e:Ev):(kE a i e).length=a.length+1:=by
 unfold kE;rw[length_append,List.length_cons,List.length_take,length_drop];omega
def Bw(B:Nat)(w:World)(v:Value)(b:List Ev)(r:Ending)(w':World):Prop:=
 ∃a,r=.returned a/\dr w' B a b/\Below B w w'/\w.grownBy w' v.ownBlock/\(a.ownBlock=v.ownBlock∨a.ownBlock=some w.heap.size)
theorem ze(B:Nat)(a:Option Addr)(n c i:Nat)(f:List Ev)(e:Ev)(w:World)(x:Array Value)(J:TypeId)(t:n=f.length)(P:n<=1000000)(y:B<=w.heap.size)(F:a=none->c=0)(O:n<=c)(L:a=none∨∃b,a=some ⟨b,0,none⟩)
  (g:dr w B (.slice a n c) f) (hx:w.heap[i]?=some (.cells x J (0,0))) (m:∀(j:Nat) (v:Value),(eg e)[j]?=some v->x[j]?=some v):
  Calls prog 193 #[.slice a n c,.int .i64 n,.slice (some ⟨i,0,none⟩) 1 1] w (Bw B w (.slice a n c) (kE f n e)):=by
 have G:kE f n e=f++[e]:=by unfold kE;rw[t,List.take_length,List.drop_length]
 rw[G];obtain⟨H,o,p⟩:=Option.map_eq_some_iff.1 ud;simp only[Prod.mk.injEq]at p;obtain⟨q,r,s⟩:=p
 have z:Hid (w.ownsRow B 112 4 (.slice a n c) n (dy f)):=by
  have h:w.ownsRow B 112 4 (.slice a n c) f.length (dy f):=g;rw[<-t]at h;exact h
 have d:∀j u,(eg e)[j]?=some u->w.cell? ((⟨i,0,none⟩:Addr).add j)=some u:=fun j v M=>by rw[jP,zero_add];simp[World.cell?,hx];exact m j v M
 have I:=hid t;clear g hx m t G;go_enter func193,ntmps193;rcases L with rfl|⟨b,rfl⟩
 ·obtain rfl:c=0:=F rfl
  obtain rfl:n=0:=by omega
  go_wp2_with (at_builtin;refine wpList_append_own_at _ rfl _ _ 95 rfl B 112 H _ 4 32 underlying95 o q r s rfl (by decide) _ _ _ rfl z.out ⟨i,0,none⟩ 1 1 (eg e) rfl rfl d (rr e) (by unfold maxLen;omega) (by omega) y ?_;intro A N C l _ D)
  go_ret;exact⟨A,rfl,(by unfold dr;rw[length_append,lm,<-I.out];exact C),(Below.refl B w).grown l y (fun k E=>(World.ownsRow.lt z.out k E).1),l,D⟩
 ·go_wp2_with (at_builtin;refine wpList_append_own_at _ rfl _ _ 95 rfl B 112 H _ 4 32 underlying95 o q r s rfl (by decide) _ _ _ rfl z.out ⟨i,0,none⟩ 1 1 (eg e) rfl rfl d (rr e) (by unfold maxLen;omega) (by omega) y ?_;intro A N C l _ D)
  all_goals
   go_ret;exact⟨A,rfl,(by unfold dr;rw[length_append,lm,<-I.out];exact C),(Below.refl B w).grown l y (fun k E=>(World.ownsRow.lt z.out k E).1),l,D⟩
theorem DU(w:World)(b:Nat)(c d:Array Value):w.grownBy ((w.drew.setRow b c).setRow b d) (some b):=
 ⟨rfl,rfl,rfl,by simp,fun k _ a=>by rw[setRow_other _ _ _ _ (fun e=>a (by rw[e])),setRow_other _ _ _ _ (fun e=>a (by rw[e]))];rfl⟩
theorem JR(B:Nat)(v:Value)(i n:Nat)(a:List Ev)(e:Ev)(w:World)(x:Array Value)(o:TypeId)(Z:i<=a.length)(hm:a.length<=1000)(p:B<=w.heap.size)
  (b:dr w B v a) (hx:w.heap[n]?=some (.cells x o (0,0))) (m:∀(j:Nat) (v:Value),(eg e)[j]?=some v->x[j]?=some v) (O:v.ownBlock≠some n):
  Calls prog 193 #[v,.int .i64 i,.slice (some ⟨n,0,none⟩) 1 1] w (Bw B w v (kE a i e)):=by
 have P:w.ownsRow B 112 4 v a.length (dy a):=b;obtain⟨h1,⟨A,u⟩|⟨g,c,f,A,u,y,M,N,z,D⟩⟩:=P
 ·obtain rfl:i=a.length:=by omega
  subst A;have h:=ze B none 0 0 n a e w x o u.symm (by omega) p (fun _=>rfl) (Nat.le_refl _) (.inl rfl) b hx m;rw[u];exact h
 ·subst A
  by_cases H:i=a.length
  ·subst H
   exact ze B (some ⟨g,0,none⟩) a.length c n a e w x o rfl (by omega) p (by simp) M (.inr ⟨g,rfl⟩) b hx m
  ·have s:i<a.length:=by omega
   have I:n≠g:=fun e=>O (by rw[e];rfl)
   have X:g<w.heap.size:=(Array.getElem?_eq_some_iff.1 y).1
   by_cases d:a.length+1<=c
   ·refine(JP g a.length c i n a e w f x o rfl s d N I y z D hx m).mono ?_
    rintro r E⟨rfl,rfl⟩;have l:=DU w g (gg f ((i+1)*4) (dy (a.drop i))) (gg (gg f ((i+1)*4) (dy (a.drop i))) (i*4) (eg e));have J:(dy (a.drop i)).length=(a.length-i)*4:=by rw[iy,length_drop]
    have t:(gg f ((i+1)*4) (dy (a.drop i))).size=c*4:=by rw[oM (by rw[J,z];omega),z]
    have L:(gg (gg f ((i+1)*4) (dy (a.drop i))) (i*4) (eg e)).size=c*4:=by rw[oM (by rw[ke,t];omega),t]
    refine⟨_,rfl,?_,(Below.refl B w).grown l p (fun k q=>(World.ownsRow.lt b k q).1),l,.inl rfl⟩;refine⟨by rw[iy],.inr ⟨g,c,_,by rw[nK],u,setRow_heap _ _ _ _ _ _ (setRow_heap _ _ _ _ _ _ y),by rw[nK];exact d,N,L,?_⟩⟩;rw[nK];exact DS (by omega) z d D
   ·refine(JQ g a.length c i n a e w f x o rfl s (by omega) M (by omega) y D hx m).mono ?_
    rintro r E⟨G,C,rfl,Q,R,S,T,U,F,V,W⟩;have Y:E.heap.size=w.heap.size+1:=by rw[F];simp
    have l:w.grownBy E (some g):=⟨S,T,U,by omega,fun k q _=>by rw[F];exact heap_alloc_old w _ q⟩
    refine⟨_,rfl,?_,(Below.refl B w).grown l p (fun k q=>(World.ownsRow.lt b k q).1),l,.inr rfl⟩;refine⟨by rw[iy],.inr ⟨w.heap.size,G,C,by rw[nK],p,by rw[F];exact heap_alloc_new w _,by rw[nK];exact Q,R,V,?_⟩⟩;rw[nK];exact W
end
end Go.Proofs.YtjfmmnhcddckaaaGreat
