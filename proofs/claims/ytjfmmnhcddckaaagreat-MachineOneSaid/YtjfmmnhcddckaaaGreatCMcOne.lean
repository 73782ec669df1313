/-
  MachineOne: a machine of one worker finds what the plain worker finds, in as many Runs, whatever the draws: the law answers true, and its arguments read as they did.
  For every input, whatever its size and however its parts share memory; nothing is asked of it but what the statement's own form asks.
-/
import Derived.ChangeMaps5
import Derived.SizedLaws
import Derived.Test.YtjfmmnhcddckaaaGreatPk17
set_option maxRecDepth 100000
namespace Go.Proofs.YtjfmmnhcddckaaaGreat
section
open Go.Proofs.Tryz Go.RowKit Go.Deep Go.Joins Go.WideShapes Go.ChangeShapes
section
variable{H:Type}{enc:TypeId × Value->H}{W:World}{base:Nat}{spare:Nat->Bool}{held:Bool}
theorem JS{fuel:Nat}{b:List Value}{x:DataW H × List MemPlace}(h:DataW.trod enc prog W base spare held fuel 63 b=some x):
  ∃i:Ins,b=[.int .i64 i.kind,.int .i64 i.r,.int .i64 i.x,.int .i64 i.n]:=by
 obtain⟨f,n,_,_,a,d,c⟩:=DataW.trod_struct underlying63 h;have s:b.length=4:=a.trans (by kernel_rfl);have e:f.length=4:=d.trans rfl
 match b,s,f,e with
 | [c0,c1,c2,c3],_,[x0,x1,x2,x3],_=>
  have t:prog.cellsOf 3=1:=by kernel_rfl
  have u:prog.cellsOf 2=1:=by kernel_rfl
  have g:=c 0 _ rfl;have j:=c 1 _ rfl;have k:=c 2 _ rfl;have l:=c 3 _ rfl;simp[t,u]at g j k l;obtain⟨v,m,_⟩:=DataW.trod_int underlying3 g;obtain⟨w,o,_⟩:=DataW.trod_int underlying3 j;obtain⟨y,p,_⟩:=DataW.trod_int underlying3 k;obtain⟨z,q,_⟩:=DataW.trod_int underlying2 l;simp at m o p q;exact⟨⟨v,w,y,z⟩,by simp[m,o,p,q]⟩
theorem Me{fuel:Nat}{z:List Value}{x:DataW H × List MemPlace}(h:DataW.trod enc prog W base spare held fuel 64 z=some x):
  ∃(a:Option Addr) (l:List Ins) (c:Nat),z=[.slice a l.length c]/\ip W a l/\(a=none->c=0):=by
 rcases open_slice underlying64 h with ⟨rfl,_⟩|⟨a,e,c,m,n,D,Q,rfl,_,R,S,p,_,I⟩
 ·exact⟨none,[],0,rfl,⟨by simp[maxLen],fun h=>absurd rfl h⟩,fun _=>rfl⟩
 ·have J:prog.cellsOf 63=4:=by kernel_rfl
  have O:e<=m:=by rw[p];split <;> omega
  obtain⟨l,q,hx⟩:=rk e (fun i (y:Ins)=>∀j v,[Value.int .i64 y.kind,.int .i64 y.r,.int .i64 y.x,.int .i64 y.n][j]?=some v->W.cell? (a.add (i*4+j))=some v) (fun i f=>by
   obtain⟨P,A,L⟩:=I i (by omega);rw[J]at A;obtain⟨y,rfl⟩:=JS L;obtain⟨_,_,t⟩:=World.cells?_some A;refine⟨y,fun j v B=>?_⟩;have M:j<4:=by have:=(List.getElem?_eq_some_iff.1 B).1;simpa using this
   rw[<-add_add,t j M];exact B)
  refine⟨some a,l,c,by rw[q],⟨by omega,fun u=>?_⟩,fun h=>by cases h⟩;have g:0<l.length:=List.length_pos_iff.2 u;have N:=hx 0 l[0] (List.getElem?_eq_getElem g) 0 _ rfl;have w:=World.cell?_spot N;have k:a.spot=none:=by simpa [Addr.add]using w
  obtain⟨b,o,s⟩:=a;subst k;refine⟨b,o,rfl,fun i f=>?_⟩;have d:=hx i l[i] (List.getElem?_eq_getElem f);have C:=d 0 _ rfl;have E:=d 1 _ rfl;have F:=d 2 _ rfl;have G:=d 3 _ rfl;simp only[jP,<-Nat.add_assoc,Nat.add_zero]at C E F G;exact⟨C,E,F,G⟩
theorem CD{fuel:Nat}{z:List Value}{x:DataW H × List MemPlace}(h:DataW.trod enc prog W base spare held fuel 22 z=some x):
  ∃(a:Option Addr) (f:List (List Ins)) (e:Nat),z=[.slice a f.length e]/\dI W a f/\(a=none->e=0):=by
 rcases open_slice underlying22 h with ⟨rfl,_⟩|⟨a,g,e,m,n,D,L,rfl,_,M,N,t,_,B⟩
 ·exact⟨none,[],0,rfl,⟨by simp[maxLen],fun h=>absurd rfl h⟩,fun _=>rfl⟩
 ·have C:prog.cellsOf 64=1:=by kernel_rfl
  have I:g<=m:=by rw[t];split <;> omega
  obtain⟨f,u,hx⟩:=rk g (fun i (l:List Ins)=>∃c d,W.cell? (a.add i)=some (.slice c l.length d)/\ip W c l/\(c=none->d=0)) (fun i j=>by
   obtain⟨J,A,E⟩:=B i (by omega);rw[C]at A;obtain⟨c,l,d,rfl,q,r⟩:=Me E;obtain⟨_,_,v⟩:=World.cells?_some A;have:=v 0 (by omega);rw[add_add]at this
   exact⟨l,c,d,by simpa using this,q,r⟩)
  refine⟨some a,f,e,by rw[u],⟨by omega,fun w=>?_⟩,fun h=>by cases h⟩;have k:0<f.length:=List.length_pos_iff.2 w;obtain⟨c,d,F,_⟩:=hx 0 f[0] (List.getElem?_eq_getElem k);have y:=World.cell?_spot F;have p:a.spot=none:=by simpa [Addr.add]using y
  obtain⟨b,o,s⟩:=a;subst p;refine⟨b,o,rfl,fun i j=>?_⟩;obtain⟨c,d,q,r,G⟩:=hx i f[i] (List.getElem?_eq_getElem j);rw[jP]at q;exact⟨c,d,q,r,G⟩
theorem FU{r:Reach}{g:Nat}{v:Value}{d:DataW H}{p:List MemPlace}(i:Value.okWide prog W r g 24 v)(h:DataW.Trod enc prog W base spare held 24 v d p):
  ∃(q:Pg) (a:Option Addr) (b:Nat),v=kw q a b/\dI W a q.threads/\(a=none->b=0):=by
 obtain⟨w,x,y,z,A,B,n,rfl,_,_,j,k,l⟩:=open_agg3 underlying24 (by kernel_rfl) (by kernel_rfl) i h;obtain⟨m,c,_⟩:=DataW.trod_int underlying3 j;obtain⟨o,e,_⟩:=DataW.trod_int underlying3 k;obtain⟨a,s,b,f,t,u⟩:=CD l;simp at c e f;subst c e f;exact⟨⟨m,o,s⟩,a,b,rfl,t,u⟩
end
section
variable{H:Type}{enc:TypeId × Value->H}{W:World}{base:Nat}{spare:Nat->Bool}{held:Bool}
theorem B3{n:Int}(h:(Lit.int .i64 n).wf=true):iP n:=by
 simp[Lit.wf,IntKind.min,IntKind.max,IntKind.signed,IntKind.bits]at h;unfold iP;omega
theorem JN{r:Reach}{a:Nat}{v:Value}{d:DataW H}{p:List MemPlace}(b:Value.okWide prog W r a 3 v)(h:DataW.Trod enc prog W base spare held 3 v d p):
  ∃n:Int,v=.int .i64 n/\iP n:=by
 obtain⟨n,e,_,_,c⟩:=open_int underlying3 b h;exact⟨n,e,B3 c⟩
end
end
section
open Go.RowKit Go.Deep Go.Joins Go.WideShapes Go.ChangeShapes
section
variable{H:Type}{enc:TypeId × Value->H}{W:World}{base:Nat}{spare:Nat->Bool}{held:Bool}
end
end
section
open Go.Proofs.Tryz Go.RowKit Go.Deep Go.Joins Go.WideShapes Go.ChangeShapes Go.ChangeAt
section
variable{H:Type}{enc:TypeId × Value->H}{W:World}{base:Nat}{spare:Nat->Bool}{held:Bool}
theorem Ej{T:Type}{f:T->List Value}(P:T->DataW H->Prop){n:Nat}(hn:0<n)(w:∀x,(f x).length=n){st I:TypeId}(E:prog.underlying st=some (.slice I))(e4:prog.cellsOf I=n)
  (ho:∀q S (x:DataW H × List MemPlace),DataW.trod enc prog W base spare held q I S=some x->∃y:T,S=f y/\P y x.1)
  {r:Reach} {b0:Nat} {v:Value} {d:DataW H} {p:List MemPlace} (F:Value.okWide prog W r b0 st v) (h:DataW.Trod enc prog W base spare held st v d p):
  ∃(a:Option Addr) (l:List T) (c:Nat),v=.slice a l.length c/\en W a n f l/\(a=none->c=0)/\(∀y∈l,∃U sp V,d=.slice U sp/\V∈U/\P y V):=by
 obtain⟨a,z,c,rfl⟩:=okWide_slice E F;obtain⟨q,hf⟩:=h;rcases open_slice E hf with ⟨e,_⟩|⟨G,Y,Z,m,k,D,Pl,e,_,hl,hm,L,t,hi⟩
 ·simp[Value.cells]at e
  obtain⟨rfl,rfl,rfl⟩:=e;exact⟨none,[],0,rfl,oI _ _ _ _,fun _=>rfl,by simp⟩
 ·simp[Value.cells]at e
  obtain⟨rfl,rfl,rfl⟩:=e
  have aa:z<=m:=by rw[L];split <;> omega
  obtain⟨l,M,hx⟩:=rk z (fun i (y:T)=>P y (D i)/\∀j v,(f y)[j]?=some v->W.cell? (G.add (i*n+j))=some v) (fun i g=>by
   obtain⟨ab,X,ht⟩:=hi i (by omega);rw[e4]at X;obtain⟨y,rfl,J⟩:=ho _ _ _ ht;obtain⟨_,_,N⟩:=World.cells?_some X;refine⟨y,J,fun j v F=>?_⟩;have hj:j<n:=by have:=(List.getElem?_eq_some_iff.1 F).1;rw[w]at this;exact this
   rw[<-add_add,N j hj];exact F)
  refine⟨some G,l,c,by rw[M],⟨by omega,fun O=>?_⟩,by simp,fun y J=>?_⟩
  ·have B:0<l.length:=List.length_pos_iff.2 O
   have Q:0<(f l[0]).length:=by rw[w];exact hn
   have h0:=(hx 0 l[0] (List.getElem?_eq_getElem B)).2 0 _ (List.getElem?_eq_getElem Q);have R:=World.cell?_spot h0;have C:G.spot=none:=by simpa [Addr.add]using R
   obtain⟨b,o,s⟩:=G;subst C;refine⟨b,o,rfl,fun i g j u E=>?_⟩;have A:=(hx i l[i] (List.getElem?_eq_getElem g)).2 j u E;simp only[jP,<-Nat.add_assoc]at A;exact A
  ·obtain⟨i,g,rfl⟩:=List.getElem_of_mem J
   have hp:=(hx i l[i] (List.getElem?_eq_getElem g)).1;injection t with t _;refine⟨_,_,D i,t,List.mem_map.2 ⟨i,List.mem_range.2 (by omega),rfl⟩,hp⟩
end
section
variable{H:Type}{enc:TypeId × Value->H}{W:World}{base:Nat}{spare:Nat->Bool}{held:Bool}
theorem Gi{fuel:Nat}{b:List Value}{x:DataW H × List MemPlace}(h:DataW.trod enc prog W base spare held fuel 48 b=some x):
  ∃o:Int × Int,b=ku o:=by
 obtain⟨e,n,_,_,a,c,f⟩:=DataW.trod_struct underlying48 h;have l:b.length=2:=a.trans (by kernel_rfl);have d:e.length=2:=c.trans rfl
 match b,l,e,d with
 | [c0,c1],_,[x0,x1],_=>
  have m:prog.cellsOf 3=1:=by kernel_rfl
  have g:=f 0 _ rfl;have i:=f 1 _ rfl;simp[m]at g i;obtain⟨p,j,_⟩:=DataW.trod_int underlying3 g;obtain⟨q,k,_⟩:=DataW.trod_int underlying3 i;simp at j k;exact⟨(p,q),by simp[ku,j,k]⟩
variable{r:Reach}{b0:Nat}{v:Value}{d:DataW H}{p:List MemPlace}
theorem Gf(c:Value.okWide prog W r b0 25 v)(h:DataW.Trod enc prog W base spare held 25 v d p):
  ∃(a:Option Addr) (l:List (Int × Int)) (b:Nat),v=.slice a l.length b/\en W a 2 ku l/\(a=none->b=0):=by
 obtain⟨a,l,b,e,f,g,_⟩:=Ej (fun(_:Int × Int) _=>True) (by omega) Gj underlying25 (by kernel_rfl) (fun _ _ _ h=>by obtain⟨o,h⟩:=Gi h;exact⟨o,h,trivial⟩) c h;exact⟨a,l,b,e,f,g⟩
end
end
end Go.Proofs.YtjfmmnhcddckaaaGreat
namespace Go.Proofs.YtjfmmnhcddckaaaGreat.machineOne
open Go.ChangeShapes Go.WideShapes Go.ChangeAt Go.RowKit
theorem own:ownKnob Tryz.prog.godebug=none:=by kernel_rfl
theorem laidOut:laidOutB Tryz.prog=true:=by kernel_rfl
theorem lifted(os:Os)(started:os.Started)(H:Type)(enc:TypeId × Value->H):
  ReturnsInHanded {} Tryz.checked os 9 .any (Rows.machineOneSpec.pre6 enc Tryz.prog Tryz.f9 Rows.machineOneRow.domain false) (Rows.machineOneSpec.post enc Tryz.prog Tryz.f9 false true false false):=by
 refine returnsInHanded_of_change (C:=Tryz.checked) own started (by kernel_rfl) Tryz.func9
  (ChangeSpec.witness6 (enc:=enc) (C:=Tryz.checked) false ⟨#[],#[.agg #[.int .i64 0,.int .i64 0,.slice none 0 0],.int .i64 0,.slice none 0 0,.slice none 0 0],[]⟩ 8 (by kernel_rfl) (by kernel_rfl) (by kernel_rfl) (by kernel_rfl)) ?_
 intro W base args ds gs before hval0 hW hcnd _
 have hval:∀(j:Nat) t v,Tryz.f9.params[j]?=some t->args[j]?=some v->Value.okWide Tryz.prog W .any base t v:=hval0
 have hW':=hW
 obtain⟨p,q,hA0,hV,rfl,hfz,hnd⟩:=hW
 have hA:DataW.TrodAll enc Tryz.prog W 0 (fun _=>true) true Tryz.f9.params.toList args.toList ds p:=hA0
 rw[Tryz.params9]at hA hval
 obtain⟨v0,vs0,d0,ds0,p0,q0,hargs,rfl,rfl,h0,r0⟩:=trodAll_cons hA
 obtain⟨v1,vs1,d1,ds1,p1,q1,rfl,rfl,rfl,h1,r1⟩:=trodAll_cons r0
 obtain⟨v2,vs2,d2,ds2,p2,q2,rfl,rfl,rfl,h2,r2⟩:=trodAll_cons r1
 obtain⟨v3,vs3,d3,ds3,p3,q3,rfl,rfl,rfl,h3,r3⟩:=trodAll_cons r2
 obtain⟨rfl,rfl,rfl⟩:=trodAll_nil r3
 obtain rfl:args=#[v0,v1,v2,v3]:=by cases args;simp_all
 obtain⟨rfl,rfl⟩:=trodVars_none hV
 have k0:=h0
 have lt0:∀x∈p0,x.block<W.heap.size:=by obtain⟨m,hm⟩:=k0;exact DataW.trod_lt m _ _ _ hm
 have k1:=h1
 have lt1:∀x∈p1,x.block<W.heap.size:=by obtain⟨m,hm⟩:=k1;exact DataW.trod_lt m _ _ _ hm
 have k2:=h2
 have lt2:∀x∈p2,x.block<W.heap.size:=by obtain⟨m,hm⟩:=k2;exact DataW.trod_lt m _ _ _ hm
 have k3:=h3
 have lt3:∀x∈p3,x.block<W.heap.size:=by obtain⟨m,hm⟩:=k3;exact DataW.trod_lt m _ _ _ hm
 obtain⟨pg0,a0,cap0,rfl,hx0,hn0⟩:=FU (hval 0 24 v0 rfl rfl) h0
 obtain⟨n1,rfl,hx1⟩:=JN (hval 1 3 v1 rfl rfl) h1
 obtain⟨a2,l2,cap2,rfl,hx2,hn2⟩:=Gf (hval 2 25 v2 rfl rfl) h2
 obtain⟨a3,ns3,cap3,rfl,hx3,hr3,hn3⟩:=MH (hval 3 56 v3 rfl rfl) h3
 clear hA0 hval0
 refine(machineOne_of IG Lh pg0 a0 cap0 n1 a2 l2 cap2 a3 ns3 cap3 W hx0 hn0 hx2 hx3 (MG hx3 hn3) hr3).mono fun e W' ⟨he,bel⟩=>?_
 subst he
 exact⟨_,rfl,_,_,_,[],_,[],hW',trodAll_mk1 (shut_bool Tryz.underlying4 _),(trodAll_cons_mk (Below.trod laidOut (by kernel_rfl) (of_decide_eq_true (by kernel_rfl)) k0 bel lt0) (trodAll_cons_mk (Below.trod laidOut (by kernel_rfl) (of_decide_eq_true (by kernel_rfl)) k1 bel lt1) (trodAll_cons_mk (Below.trod laidOut (by kernel_rfl) (of_decide_eq_true (by kernel_rfl)) k2 bel lt2) (trodAll_cons_mk (Below.trod laidOut (by kernel_rfl) (of_decide_eq_true (by kernel_rfl)) k3 bel lt3) trodAll_mk0)))),rfl,bel.frame _,fun h=>by cases h⟩
theorem over:Rows.machineOneRow.holds Tryz.pinned (OpenSpec.ofChange Rows.machineOneSpec):=
 OpenClaim.holds_of_wide 9 Tryz.f9 rfl rfl rfl rfl rfl rfl rfl ⟨rfl,rfl,rfl,rfl,rfl⟩ rfl rfl rfl rfl rfl (by kernel_rfl) Tryz.func9 (by kernel_rfl)
  (of_decide_eq_true (by kernel_rfl)) (by unfold Func.isWrapper;first|(rw[if_pos (by decide +kernel)];kernel_rfl)|(rw[if_neg (by decide +kernel)];exact⟨rfl,rfl⟩))
  (fun os started H enc _=>lifted os started H enc)
theorem proved:Rows.MachineOneSaid:=over
end Go.Proofs.YtjfmmnhcddckaaaGreat.machineOne
