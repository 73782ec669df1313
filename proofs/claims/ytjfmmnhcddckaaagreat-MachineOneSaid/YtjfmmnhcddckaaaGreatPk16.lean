import Derived.OwnWalk
import Derived.Test.YtjfmmnhcddckaaaGreatPk15
set_option maxRecDepth 100000
set_option maxHeartbeats 8000000
namespace Go.Proofs.YtjfmmnhcddckaaaGreat
section
open Go.Lib (hid)
open Go.Proofs.Tryz Go.RowKit
theorem DY(a C:Option Addr)(cap t:Nat)(ks ms:List dk)(w:World)(D:en w a 1 du ks)(m:en w C 1 du ms)(L:ks.length<=1000000)(G:ms.length<=1000000):
  Calls prog 20 #[.slice a ks.length cap,.slice C ms.length t] w fun r w'=>r=.returned (.bool (decide (ks=ms)))/\∃i,w'=w.drewN i:=by
 have F:=hid D;have A:=hid m;clear D m
 by_cases d:ks.length=ms.length
 case neg=>
  have u:((ks.length:Int) != ms.length)=true:=by simp;omega
  have H:Hid (decide (ks=ms)=false):=by show _=_;simp;intro e;exact d (by rw[e])
  clear d;go_enter func20,ntmps20;go_wp2;go_ret;exact⟨dE H.out.symm,0,rfl⟩
 have M:=hid d;have u:((ks.length:Int) != ms.length)=false:=by simp[d]
 have I:ks.length<=ms.length:=by omega
 have B:ms.length<=ks.length:=by omega
 clear d;go_enter func20,ntmps20;go_wp2;clear u
 go_loopw [5] (fun i wr=>∃k:Nat,k<=ks.length/\i=.int .i64 k/\Hid (ks.take k=ms.take k)/\Hid (Below w.heap.size w wr)/\∃q,wr=w.drewN q) (fun i _=>ks.length-(intOf i).toNat)
 case atStart=>exact⟨0,Nat.zero_le _,rfl,rfl,Below.refl _ _,0,rfl⟩
 case round=>
  obtain⟨k,N,rfl,E,v,q,n⟩:=hrel;have g:=hid n;clear n
  by_cases p:k<ks.length
  ·have f:k<ms.length:=by omega
   obtain⟨b,o,rfl,t0⟩:=F.out.str p;obtain⟨O,P,rfl,s⟩:=A.out.str f;have Q:=de v.out t0;have J:=de v.out s;clear t0 s;have j:Hid (ks[k]=ms[k]->ks.take (k+1)=ms.take (k+1)):=fun h=>CY p f E.out h
   have l:Hid (ks[k]≠ms[k]->decide (ks=ms)=false):=fun h=>by simp;rintro rfl;exact h rfl
   generalize ks[k]=x at *;generalize ms[k]=y at *
   by_cases c:x=y
   ·have u:(x==y)=true:=by simp[c]
    have z:=hid (j.out c);clear c j l;go_wp2_with fail
    go_quiet (fail)
    go_wp2
    go_roundw
    case rel=>exact⟨k+1,by omega,by go_num,z.out,v.out.drewN,q+nq,by rw[g.out,World.drewN_drewN]⟩
    case measure=>simp[intOf];omega
   ·have u:(x==y)=false:=by simp[c]
    have z:=hid (l.out c);clear c j l;go_wp2_with fail
    go_quiet (fail)
    go_wp2;go_ret;exact⟨dE z.out.symm,q+nq,by rw[g.out,World.drewN_drewN]⟩
  ·obtain rfl:k=ks.length:=by omega
   have H:Hid (decide (ks=ms)=true):=by
    show _=_;have:=E.out;rw[List.take_length,List.take_of_length_le B]at this;simpa using this
   go_wp2;go_ret;exact⟨dE H.out.symm,q,g.out⟩
theorem zW(a:Option Addr)(n b:Nat)(w:World):Calls prog 12 #[.slice a n b] w fun r w'=>r=.returned (.bool (decide (n<=400)))/\w'=w:=by
 go_enter func12,ntmps12;go_wp2;go_ret;exact⟨by simp;omega,rfl⟩
section
variable{I:MachI}{w wr w':World}{B b W Bud:Nat}{p:Pg}{fuel:Int}{S:Nat->Prop}{m:Mac}
theorem KK(h:gA p fuel):dF p fuel=true:=by
 obtain⟨a,b,c⟩:=h;unfold dF;simp[a,b,c]
end
section
variable{p:Pg}{fuel:Int}{W Bud:Nat}{m:Mac}
end
theorem Er{p:Pg}{fuel:Int}(a:gA p fuel)(c:dM p fuel<=600):(p.threads.length*(p.threads.length*fuel.toNat)+6)*dM p fuel+5<100000:=by
 have b:p.threads.length<=4:=by
  have h:=a.1;unfold dL at h;simp only[Bool.and_eq_true,decide_eq_true_eq]at h;omega
 have e:=a.2;have d:p.threads.length*(p.threads.length*fuel.toNat)<=4*(4*8):=Nat.mul_le_mul b (Nat.mul_le_mul b (by omega));have f:=Nat.mul_le_mul (Nat.add_le_add_right d 6) c;omega
theorem KS{w:World}{B W:Nat}{v:Value}{m:Mac}(b:il w B v (gN W m))(h:W<=64)(f:(fJ W m.keys).length<=100000):
  Calls prog 16 #[v] w fun r w'=>∃d g,r=.returned (.tuple #[.slice d (dG (fJ W m.keys)).length g,.bool (decide ((dG (fJ W m.keys)).length=(fJ W m.keys).length))])/\en w' d 1 du (dG (fJ W m.keys))/\Below w.heap.size w w':=by
 obtain⟨a,c,e,_⟩:=b.at_ (by rw[nH];omega);subst e;have:=zP b (by rw[nH];omega) (by rw[yV];exact f);rw[yV]at this;exact this
end
section
open Go.Proofs.Tryz Go.RowKit
structure OneM(I:MachI)(w:World)(B b:Nat)(p:Pg)(fuel:Int)(W U:Nat)(m:Mac)(wr:World):Prop where
 mm:∃S,I.MM wr B b p fuel W U S m
 good:GoodM p fuel W U m
 low:w.heap.size<=B
 below:Below w.heap.size w wr
structure OneG(I:MachI)(w:World)(B b:Nat)(p:Pg)(fuel:Int)(W U:Nat)(m:Mac)(G:Nat)(o:Obj)(wr:World):Prop where
 mm:∃S,I.MM wr B b p fuel W U S m/\¬S G
 good:GoodM p fuel W U m
 low:w.heap.size<=B
 below:Below w.heap.size w wr
 box:wr.heap[G]?=some o
section
variable{I:MachI}{w wr w' w1:World}{B b W U G:Nat}{m:Mac}{p:Pg}{fuel:Int}{o:Obj}{S:Nat->Prop}
theorem RunI.one(h:RunI I w1 B b p fuel W U S m wr)(a:∀x,S x->w.heap.size<=x)(hb:Below w.heap.size w w1)(c:w.heap.size<=B):OneM I w B b p fuel W U m wr:=by
 obtain⟨d,e,_⟩:=h.mm;exact⟨⟨d,e⟩,h.good,c,h.below hb a⟩
theorem OneM.later(h:OneM I w B b p fuel W U m wr)(hb:Below wr.heap.size wr w'):OneM I w B b p fuel W U m w':=by
 obtain⟨a,c⟩:=h.mm;exact⟨⟨a,I.later c hb⟩,h.good,h.low,h.below.trans (hb.mono h.below.size)⟩
theorem OneM.all(h:OneM I w B b p fuel W U m wr):Calls prog 17 #[.pointer (some ⟨b,0,none⟩)] wr fun r w'=>∃v,r=.returned v/\il w' wr.heap.size v (gN W m)/\Below wr.heap.size wr w':=by
 obtain⟨c,a⟩:=h.mm;exact Bh I a h.good
theorem OneM.keys(h:OneM I w B b p fuel W U m wr)(z:Int):Calls prog 27 #[.pointer (some ⟨b,0,none⟩),.int .i64 z] wr fun r w'=>∃v,r=.returned v/\fO w' wr.heap.size v (jb W z m)/\Below wr.heap.size wr w':=by
 obtain⟨c,a⟩:=h.mm;exact I.keys z a h.good
end
def iL(w:World)(a:Option Addr)(ns:List Int):Prop:=
 ns.length<=maxLen/\(ns≠[]->∃b o,a=some ⟨b,o,none⟩/\∀i (h:i<ns.length),w.cell? ⟨b,o+i,none⟩=some (.int .u8 ns[i]))
theorem iL.later{w w':World}{a:Option Addr}{ns:List Int}(h:iL w a ns)(hb:Below w.heap.size w w'):iL w' a ns:=by
 refine⟨h.1,fun c=>?_⟩;obtain⟨b,o,rfl,d⟩:=h.2 c;exact⟨b,o,rfl,fun i e=>de hb (d i e)⟩
open Go.Deep Go.Joins Go.WideShapes Go.ChangeShapes
section
variable{H:Type}{enc:TypeId × Value->H}{W:World}{base:Nat}{spare:Nat->Bool}{held:Bool}
theorem B0{n:Int}(h:(Lit.int .u8 n).wf=true):0<=n/\n<256:=by
 simp[Lit.wf,IntKind.min,IntKind.max,IntKind.signed,IntKind.bits]at h;omega
theorem MF{r:Reach}{A:Nat}{v:Value}{d:DataW H}{p:List MemPlace}(B:Value.okWide prog W r A 56 v)(h:DataW.Trod enc prog W base spare held 56 v d p):
  ∃(a:Option Addr) (k:List Int) (f:Nat),v=.slice a k.length f/\iL W a k/\∀n∈k,0<=n/\n<256:=by
 obtain⟨a,c,f,rfl⟩:=okWide_slice underlying56 B;obtain⟨w,C⟩:=h;rcases open_ints underlying56 underlying5 (by kernel_rfl) C with ⟨e,_⟩|⟨l,x,y,m,e,_,L,M,D,_,u,E⟩
 ·simp[Value.cells]at e
  obtain⟨rfl,rfl,rfl⟩:=e;exact⟨none,[],0,rfl,⟨by simp[maxLen],fun h=>absurd rfl h⟩,by simp⟩
 ·simp[Value.cells]at e
  obtain⟨rfl,rfl,rfl⟩:=e
  have I:c<=m.length:=by rw[D];split <;> omega
  have g:(m.take c).length=c:=by simp;omega
  refine⟨some l,m.take c,f,by rw[g],⟨by rw[g];omega,fun q=>?_⟩,fun n F=>B0 (E n (List.mem_of_mem_take F))⟩
  have z:0<c:=by
   rcases Nat.eq_zero_or_pos c with h|h
   ·subst h;simp at q
   ·exact h
  have G:=u 0 (by omega);have t:=World.cell?_spot G;have j:l.spot=none:=by simpa [Addr.add]using t
  obtain⟨b,o,s⟩:=l;subst j;refine⟨b,o,rfl,fun i N=>?_⟩;have J:i<c:=by omega
  have:=u i (by omega);rw[jP,dV _ (by omega)]at this;rw[this];simp
end
end
section
open Go.Proofs.Tryz Go.RowKit Go.Deep Go.Joins Go.WideShapes Go.ChangeShapes
section
variable{H:Type}{enc:TypeId × Value->H}{W:World}{base:Nat}{spare:Nat->Bool}{held:Bool}
theorem MH{r:Reach}{j:Nat}{v:Value}{d:DataW H}{p:List MemPlace}(k:Value.okWide prog W r j 56 v)(h:DataW.Trod enc prog W base spare held 56 v d p):
  ∃(a:Option Addr) (c:List Int) (b:Nat),v=.slice a c.length b/\iL W a c/\(∀n∈c,0<=n/\n<256)/\(a=none->b=0):=by
 obtain⟨a,c,b,rfl,l,m⟩:=MF k h;refine⟨a,c,b,rfl,l,m,fun o=>?_⟩;subst o;obtain⟨f,q⟩:=h;rcases open_ints underlying56 underlying5 (by kernel_rfl) q with ⟨e,_⟩|⟨s,g,i,t,e,_⟩
 ·simp[Value.cells]at e
  omega
 ·simp[Value.cells]at e
end
def jy(n:Int):List Value:=[.int .u8 n]
theorem pO(n:Int):(jy n).length=1:=rfl
theorem uP(n:Int):∀v∈jy n,v.oneCell'=true:=by
 intro v a;rw[List.mem_singleton.1 a];rfl
theorem uc:(prog.info? 5).map (fun i=>(i.zero,i.size,i.bytes))=some (some (.int .u8 0),1,1):=by kernel_rfl
theorem ME{w:World}{a:Option Addr}{ns:List Int}(h:iL w a ns):en w a 1 jy ns:=by
 refine⟨h.1,fun e=>?_⟩;obtain⟨b,o,rfl,f⟩:=h.2 e;refine⟨b,o,rfl,fun i g j u c=>?_⟩
 have d:j=0:=by
  rcases Nat.lt_or_ge j 1 with h|h
  ·omega
  ·rw[List.getElem?_eq_none (by rw[pO];exact h)]at c;cases c
 subst d;injection c with c;subst c;rw[Nat.mul_one,Nat.add_zero];exact f i g
theorem Eo{w:World}{a:Option Addr}{ns:List Int}(h:en w a 1 jy ns):iL w a ns:=by
 refine⟨h.1,fun c=>?_⟩;obtain⟨b,o,rfl,d⟩:=h.2 c;refine⟨b,o,rfl,fun i e=>?_⟩;have:=d i e 0 _ rfl;rw[Nat.mul_one,Nat.add_zero]at this;exact this
theorem ti{w:World}{B:Nat}{v:Value}{ns:List Int}(h:dc w B 5 1 jy v ns)(f:ns.length<=1000000):∃a b,v=.slice a ns.length b/\iL w a ns/\∀x,a=some x->x.block<w.heap.size:=by
 obtain⟨a,b,rfl,i,_⟩:=h.form pO f;refine⟨a,b,rfl,Eo i,fun x hx=>?_⟩;subst hx;obtain⟨_,⟨d,_⟩|⟨g,c,k,d,_,j,_⟩⟩:=h
 ·cases d
 ·injection d with e
  injection e with e;rw[e];exact(Array.getElem?_eq_some_iff.1 j).1
theorem tf{w:World}{B g:Nat}(a:B<=g)(h:w.heap[g]?=some (.cells #[] 5 (0,0))):dc w B 5 1 jy (.slice (some ⟨g,0,none⟩) 0 0) []:=
 ⟨rfl,.inr ⟨g,0,#[],rfl,a,h,Nat.le_refl _,by simp[maxLen],rfl,rfl⟩⟩
end
section
open Go.RowKit
def fN(w:World)(b:Nat)(a:Array Value):Prop:=w.heap[b]?=some (.cells a 58 (0,0))
theorem fN.later{w w':World}{b:Nat}{a:Array Value}(h:fN w b a)(hb:Below w.heap.size w w'):fN w' b a:=(hb.block b (Array.getElem?_eq_some_iff.1 h).1).trans h
theorem fN.at_{w:World}{b:Nat}{a:Array Value}(h:fN w b a)(j:Nat){v:Value}(c:a[j]?=some v):w.cell? ⟨b,j,none⟩=some v:=by rw[cell_of_row w b j _ _ _ h,c]
theorem MG{w:World}{a:Option Addr}{ns:List Int}{cap:Nat}(h:iL w a ns)(d:a=none->cap=0):a=none->cap=0/\ns=[]:=fun c=>⟨d c,Classical.byContradiction fun b=>by
 obtain⟨_,_,e,_⟩:=h.2 b;rw[c]at e
 cases e⟩
theorem sm{P:Program}{o:Oper}{a:Act}{c E:Prop}{_:Decidable c}{K:Act->World->Prop}{Q:Exit->Act->World->Prop}(w:World)(h:if c then Oper.wp P o a w K Q else E):if c then Oper.wp P o a w K Q else E:=h
theorem I2(w:World):dc (w.alloc (.cells #[] 5)) w.heap.size 5 1 jy (.slice (some ⟨w.heap.size,0,none⟩) 0 0) []:=tf (Nat.le_refl _) (heap_alloc_new w _)
theorem I3(w:World):dc (w.alloc (.cells #[] 5)).drew w.heap.size 5 1 jy (.slice (some ⟨w.heap.size,0,none⟩) 0 0) []:=I2 w
theorem I0(w:World):dc ((w.alloc (.cells #[] 5)).alloc (.cells #[.slice none 0 0,.int .i64 0,.int .i64 0,.int .i64 0,.bool false] 58)) w.heap.size 5 1 jy (.slice (some ⟨w.heap.size,0,none⟩) 0 0) []:=
 tf (Nat.le_refl _) (((da (w.alloc (.cells #[] 5)) (.cells #[.slice none 0 0,.int .i64 0,.int .i64 0,.int .i64 0,.bool false] 58)).block w.heap.size (by simp)).trans (heap_alloc_new w _))
theorem I1(w:World):dc ((w.alloc (.cells #[] 5)).alloc (.cells #[.slice none 0 0,.int .i64 0,.int .i64 0,.int .i64 0,.bool false] 58)).drew w.heap.size 5 1 jy (.slice (some ⟨w.heap.size,0,none⟩) 0 0) []:=I0 w
theorem IY(w:World):dc ((w.alloc (.cells #[.slice none 0 0,.int .i64 0,.int .i64 0,.int .i64 0,.bool false] 58)).alloc (.cells #[] 5)) w.heap.size 5 1 jy (.slice (some ⟨w.heap.size+1,0,none⟩) 0 0) []:=by
 have:=heap_alloc_new (w.alloc (.cells #[.slice none 0 0,.int .i64 0,.int .i64 0,.int .i64 0,.bool false] 58)) (.cells #[] 5);rw[World.size_alloc]at this;exact tf (Nat.le_succ _) this
theorem EI(w:World):fN ((w.alloc (.cells #[] 5)).alloc (.cells #[.slice none 0 0,.int .i64 0,.int .i64 0,.int .i64 0,.bool false] 58)) (w.heap.size+1) #[.slice none 0 0,.int .i64 0,.int .i64 0,.int .i64 0,.bool false]:=by
 have:=heap_alloc_new (w.alloc (.cells #[] 5)) (.cells #[.slice none 0 0,.int .i64 0,.int .i64 0,.int .i64 0,.bool false] 58);rw[World.size_alloc]at this;exact this
theorem EF(w:World):fN ((w.alloc (.cells #[.slice none 0 0,.int .i64 0,.int .i64 0,.int .i64 0,.bool false] 58)).alloc (.cells #[] 5)) w.heap.size #[.slice none 0 0,.int .i64 0,.int .i64 0,.int .i64 0,.bool false]:=((da (w.alloc (.cells #[.slice none 0 0,.int .i64 0,.int .i64 0,.int .i64 0,.bool false] 58)) (.cells #[] 5)).block w.heap.size (by simp)).trans (heap_alloc_new w _)
theorem fN.grown{w w':World}{g:Nat}{row:Option Nat}{b:Array Value}(h:fN w g b)(c:w.grownBy w' row)(a:some g≠row):fN w' g b:=(c.block g (Array.getElem?_eq_some_iff.1 h).1 a).trans h
theorem IZ(w:World):dc ((w.alloc (.cells #[.slice none 0 0,.int .i64 0,.int .i64 0,.int .i64 0,.bool false] 58)).alloc (.cells #[] 5)).drew w.heap.size 5 1 jy (.slice (some ⟨w.heap.size+1,0,none⟩) 0 0) []:=IY w
theorem EJ(w:World):fN ((w.alloc (.cells #[] 5)).alloc (.cells #[.slice none 0 0,.int .i64 0,.int .i64 0,.int .i64 0,.bool false] 58)).drew (w.heap.size+1) #[.slice none 0 0,.int .i64 0,.int .i64 0,.int .i64 0,.bool false]:=EI w
theorem EG(w:World):fN ((w.alloc (.cells #[.slice none 0 0,.int .i64 0,.int .i64 0,.int .i64 0,.bool false] 58)).alloc (.cells #[] 5)).drew w.heap.size #[.slice none 0 0,.int .i64 0,.int .i64 0,.int .i64 0,.bool false]:=EF w
theorem fN.lt{w:World}{g:Nat}{a:Array Value}(h:fN w g a):g<w.heap.size:=(Array.getElem?_eq_some_iff.1 h).1
theorem EH{w a:World}(h:((w.alloc (.cells #[] 5)).alloc (.cells #[.slice none 0 0,.int .i64 0,.int .i64 0,.int .i64 0,.bool false] 58)).drew.grownBy a (Value.ownBlock (.slice (some ⟨w.heap.size,0,none⟩) 0 0))):fN a (w.heap.size+1) #[.slice none 0 0,.int .i64 0,.int .i64 0,.int .i64 0,.bool false]:=(EJ w).grown h (by intro e;injection e with e;exact absurd e (Nat.succ_ne_self _))
theorem EE{w a:World}(h:((w.alloc (.cells #[.slice none 0 0,.int .i64 0,.int .i64 0,.int .i64 0,.bool false] 58)).alloc (.cells #[] 5)).drew.grownBy a (Value.ownBlock (.slice (some ⟨w.heap.size+1,0,none⟩) 0 0))):fN a w.heap.size #[.slice none 0 0,.int .i64 0,.int .i64 0,.int .i64 0,.bool false]:=(EG w).grown h (by intro e;injection e with e;exact absurd e (Nat.succ_ne_self _).symm)
theorem fN.five{w:World}{g:Nat}{v0 v1 v2 a b:Value}(h:fN w g #[v0,v1,v2,a,b]):(w.cell? ⟨g,0,none⟩=some v0/\w.cell? ⟨g,1,none⟩=some v1/\w.cell? ⟨g,2,none⟩=some v2/\w.cell? ⟨g,3,none⟩=some a/\w.cell? ⟨g,4,none⟩=some b)/\(∀j,j<5->w.frozen? ⟨g,j,none⟩=false):=
 ⟨⟨h.at_ 0 rfl,h.at_ 1 rfl,h.at_ 2 rfl,h.at_ 3 rfl,h.at_ 4 rfl⟩,fun j _=>by unfold World.frozen?;dsimp only;rw[show w.heap[g]?=_ from h];rfl⟩
abbrev qm(w:World)(g:Nat)(v0 v1 v2 a b:Value):World:=((((w.setCell ⟨g,0,none⟩ v0).setCell ⟨g,1,none⟩ v1).setCell ⟨g,2,none⟩ v2).setCell ⟨g,3,none⟩ a).setCell ⟨g,4,none⟩ b
theorem A5{B g:Nat}{a w:World}(h:Below B a w)(b:B<=g)(v0 v1 v2 c d:Value):Below B a (qm w g v0 v1 v2 c d):=
 ((((h.setCell (p:=⟨g,0,none⟩) b v0).setCell (p:=⟨g,1,none⟩) b v1).setCell (p:=⟨g,2,none⟩) b v2).setCell (p:=⟨g,3,none⟩) b c).setCell (p:=⟨g,4,none⟩) b d
theorem oK{w:World}{g j:Nat}{a:Array Value}(h:fN w g a)(v:Value):fN (w.setCell ⟨g,j,none⟩ v) g (a.setIfInBounds j v):=by
 have b:g<w.heap.size:=(Array.getElem?_eq_some_iff.1 h).1;unfold fN at *;unfold World.setCell;simp[b,Array.getElem_modify,(Array.getElem?_eq_some_iff.1 h).2]
theorem EB{w:World}{g:Nat}{c d e f i:Value}(h:fN w g #[c,d,e,f,i])(v0 v1 v2 a b:Value):fN (qm w g v0 v1 v2 a b) g #[v0,v1,v2,a,b]:=oK (oK (oK (oK (oK h v0) v1) v2) a) b
theorem Em{w:World}{B g:Nat}{v:Value}{ks:List dk}(h:dc w B 9 1 du v ks)(b:g<B)(v0 v1 v2 c d:Value):dc (qm w g v0 v1 v2 c d) B 9 1 du v ks:=
 ownsRow_setCell_below (a:=⟨g,4,none⟩) (ownsRow_setCell_below (a:=⟨g,3,none⟩) (ownsRow_setCell_below (a:=⟨g,2,none⟩) (ownsRow_setCell_below (a:=⟨g,1,none⟩) (ownsRow_setCell_below (a:=⟨g,0,none⟩) h b v0) b v1) b v2) b c) b d
theorem zY(p:Pg)(fuel b:Int)(order:List Int)(a:gA p fuel)(f:dM p fuel<=600):(dx (s0 p fuel) order b).nodes<=600/\(dx (s0 p fuel) order b).runs<=600/\(dx (s0 p fuel) order b).blocked<=600/\(dG (dx (s0 p fuel) order b).keys).length=(dx (s0 p fuel) order b).runs:=by
 have c:(s0 p fuel).Ok fuel.toNat:=lN a.1 fuel.toNat (by have:=a.2;omega);obtain⟨g,d,e,_,h,_⟩:=pG (order:=order) (b:=b) c;refine⟨by omega,by omega,by omega,?_⟩;rw[su e,d]
end
section
open Go.Lib (hid)
open Go.Proofs.Tryz Go.RowKit
open List (length_nil nil_append)
structure ExplI:Prop where
 yes:∀(p:Pg) (a:Option Addr) (cap:Nat) (fuel budget:Int) (oa:Option Addr) (oc:Nat) (order:List Int) (w:World) (_:dI w a p.threads) (_:iL w oa order) (_:∀x,oa=some x->x.block<w.heap.size) (_:∀n∈order,0<=n/\n<256) (_:order.length<=1000) (_:gA p fuel) (_:dM p fuel<=600),
  Calls prog 30 #[.agg #[.int .i64 p.vars,.int .i64 p.mutexes,.slice a p.threads.length cap],.int .i64 fuel,.int .i64 budget,.slice oa order.length oc] w fun r w'=>∃ka kc,r=.returned (.tuple #[.agg #[.slice ka (dx (s0 p fuel) order budget).runs kc,.int .i64 ((dx (s0 p fuel) order budget).nodes:Nat),.int .i64 ((dx (s0 p fuel) order budget).runs:Nat),.int .i64 ((dx (s0 p fuel) order budget).blocked:Nat),.bool (!eF (dx (s0 p fuel) order budget))],.int .i64 0]) /\
   dc w' w.heap.size 9 1 du (.slice ka (dx (s0 p fuel) order budget).runs kc) (dG (dx (s0 p fuel) order budget).keys)/\Below w.heap.size w w'
theorem Lk{p:Pg}{fuel b:Int}{order:List Int}(a:gA p fuel)(hb:(dM p fuel:Int)<=b):dG (dx (s0 p fuel) order b).keys=dG (eD (ek p fuel))/\(dx (s0 p fuel) order b).runs=(dG (eD (ek p fuel))).length/\(dx (s0 p fuel) order b).nodes<=dM p fuel/\eF (dx (s0 p fuel) order b)=false:=by
 have d:(s0 p fuel).Ok fuel.toNat:=lN a.1 fuel.toNat (by have:=a.2;omega);obtain⟨f,g,_,_,_,e,_⟩:=pG (order:=order) (b:=b) d;have c:=LF (order:=order) d hb;exact⟨(e c).1,by rw[g,(e c).2],f,c⟩
def ve(p:Pg)(fuel b:Int)(order:List Int)(w:World)(s e:Value)(w':World):Prop:=
 ∃g v,s=.pointer (some ⟨g,0,none⟩)/\e=.int .i64 0/\w.heap.size<=g/\fN w' g #[v,.int .i64 ((dx (s0 p fuel) order b).nodes:Nat),.int .i64 ((dx (s0 p fuel) order b).runs:Nat),.int .i64 ((dx (s0 p fuel) order b).blocked:Nat),.bool (!eF (dx (s0 p fuel) order b))]/\fO w' w.heap.size v (dG (dx (s0 p fuel) order b).keys)/\Below w.heap.size w w'
theorem Lj{p:Pg}{fuel b:Int}{order:List Int}{W a:World}{B:Nat}{e:Option Addr}{f:Nat}(c:gA p fuel)(d:dM p fuel<=600)(g:dc a B 9 1 du (.slice e (dx (s0 p fuel) order b).runs f) (dG (dx (s0 p fuel) order b).keys))(h:W.heap.size<=B)(hb:Below W.heap.size W a):
  ve p fuel b order W (.pointer (some ⟨a.heap.size,0,none⟩)) (.int .i64 0) (a.alloc (.cells #[.slice e (dx (s0 p fuel) order b).runs f,.int .i64 ((dx (s0 p fuel) order b).nodes:Nat),.int .i64 ((dx (s0 p fuel) order b).runs:Nat),.int .i64 ((dx (s0 p fuel) order b).blocked:Nat),.bool (!eF (dx (s0 p fuel) order b))] 58)):=by
 have i:=zY p fuel b order c d;exact⟨_,_,rfl,rfl,hb.size,heap_alloc_new a _,((tV g (by omega)).lower h).later (da a _),hb.alloc hb.size _⟩
theorem Li{p:Pg}{fuel b:Int}{order:List Int}{W a:World}{B g:Nat}{e:Option Addr}{f:Nat}{i j k l m:Value}(c:gA p fuel)(d:dM p fuel<=600)(n:fN a g #[i,j,k,l,m])(o:dc a B 9 1 du (.slice e (dx (s0 p fuel) order b).runs f) (dG (dx (s0 p fuel) order b).keys))(q:g<B)(h:W.heap.size<=g)(r:W.heap.size<=B)(hb:Below W.heap.size W a):
  ve p fuel b order W (.pointer (some ⟨g,0,none⟩)) (.int .i64 0) (qm a g (.slice e (dx (s0 p fuel) order b).runs f) (.int .i64 ((dx (s0 p fuel) order b).nodes:Nat)) (.int .i64 ((dx (s0 p fuel) order b).runs:Nat)) (.int .i64 ((dx (s0 p fuel) order b).blocked:Nat)) (.bool (!eF (dx (s0 p fuel) order b)))):=by
 have s:=zY p fuel b order c d;exact⟨g,_,rfl,rfl,h,EB n _ _ _ _ _,(tV (Em o q _ _ _ _ _) (by omega)).lower r,A5 hb h _ _ _ _ _⟩
theorem Jr{m:Mac}:(jb 1 0 m).length=(fJ 1 m.keys).length:=by
 simp[jb,fJ]
theorem OneM.runK{I:MachI}{w wr d:World}{B b W U:Nat}{m:Mac}{p:Pg}{fuel:Int}(h:OneM I w B b p fuel W U m wr)(hb:Below wr.heap.size wr d)(f:Option Addr)(k:Nat)(l:List (Int × Int))(a:en w f 2 ku l)(o:l.length<=1000)(n:Nat)(q:n<=1000000000):
  Calls prog 15 #[.pointer (some ⟨b,0,none⟩),.slice f l.length k,.int .i64 (n:Int)] d fun r g=>r=.returned (.tuple #[])/\OneM I w B b p fuel W U (fF p fuel W U n 0 (gh p fuel W U l m)) g/\∃R:Nat->Prop,OnlyS R d g/\∀x,R x->x<wr.heap.size:=by
 obtain⟨s,i⟩:=h.mm;have j:=h.later hb
 refine(wF I (I.later i hb) h.good w j.below h.low f k l a o n q).mono fun r g ⟨e,c⟩=>⟨e,?_,s,c.only,fun x hx=>((I.low i).2 x hx).2⟩
 obtain⟨t,u,v⟩:=c.mm;exact⟨⟨t,u⟩,c.good,h.low,j.below.trans (c.only.below j.below.size fun x hx=>Nat.le_trans h.low ((I.low i).2 x hx).1)⟩
theorem machineOne_of(I:MachI)(E:ExplI)(p:Pg)(a:Option Addr)(cap:Nat)(fuel:Int)(oa:Option Addr)(ol:List (Int × Int))(oc:Nat)(ob:Option Addr)(ns:List Int)(Q:Nat)(w:World)(hp:dI w a p.threads)(ha:a=none->cap=0)(y:en w oa 2 ku ol)(T:iL w ob ns)(aC:ob=none->Q=0/\ns=[])(aD:∀n∈ns,0<=n/\n<256):
  Calls prog 9 #[.agg #[.int .i64 p.vars,.int .i64 p.mutexes,.slice a p.threads.length cap],.int .i64 fuel,.slice oa ol.length oc,.slice ob ns.length Q] w fun r L=>r=.returned (.bool true)/\Below w.heap.size w L:=by
 have HP:=hid hp;have HA:=hid ha
 have ag:Hid (∀W,Below (w.alloc (.cells #[.int .i64 p.vars,.int .i64 p.mutexes,.slice a p.threads.length cap] 24)).heap.size (w.alloc (.cells #[.int .i64 p.vars,.int .i64 p.mutexes,.slice a p.threads.length cap] 24)) W->W.cell? ⟨w.heap.size,0,none⟩=some (.int .i64 p.vars)/\W.cell? ⟨w.heap.size,1,none⟩=some (.int .i64 p.mutexes)/\W.cell? ⟨w.heap.size,2,none⟩=some (.slice a p.threads.length cap)):=fun W hb=>⟨de hb (by simp),de hb (by simp),de hb (by simp)⟩
 have aE:Below w.heap.size w (w.alloc (.cells #[.int .i64 p.vars,.int .i64 p.mutexes,.slice a p.threads.length cap] 24)):=da w _;have ao:=hid y;have aS:=y.1;unfold maxLen at aS;have aT:=hid T;have au:=hid aC;have aF:=hid aD;have aV:=T.1;unfold maxLen at aV;clear hp ha y T aC aD;go_enter func9,ntmps9;go_wp2_with fail;generalize w.alloc (.cells #[.int .i64 p.vars,.int .i64 p.mutexes,.slice a p.threads.length cap] 24)=W1 at *;refine(rK I W1).mono ?_;rintro r W2⟨rfl,H⟩;obtain⟨c0,c1,c2⟩:=ag.out W2 H;have s:=aE.trans (H.mono aE.size);go_wp2_with fail;refine(DK p a cap fuel W2 (HP.out.later s)).mono ?_;rintro r W3⟨rfl,aw⟩;have ah:=H.trans (aw.mono H.size);have o:=s.trans (aw.mono s.size);clear c0 c1 c2 H s aw
 cases hf:jF p fuel
 ·clear hf
  go_wp2_with fail
  refine(rK I _).mono ?_;rintro r w3⟨rfl,s⟩;go_wp2;go_ret;exact⟨rfl,o.trans (s.mono o.size)⟩
 obtain⟨_,z,t⟩:=DJ hf;clear hf
 by_cases U:ol.length<=400
 case neg=>
  have q4:decide (ol.length<=400)=false:=decide_eq_false U;have G:=hid (zW oa ol.length oc W3);rw[q4]at G;clear q4 U;go_wp2_with fail;refine G.out.mono ?_;rintro r L⟨rfl,rfl⟩;go_wp2_with fail;refine(rK I _).mono ?_;rintro r w3⟨rfl,s⟩;go_wp2;go_ret;exact⟨rfl,o.trans (s.mono o.size)⟩
 have G:Hid (Calls prog 12 #[.slice oa ol.length oc] W3 fun r L=>r=.returned (.bool true)/\L=W3):=by
  have h:=zW oa ol.length oc W3;rw[decide_eq_true U]at h;exact h
 go_wp2_with fail
 refine G.out.mono ?_;rintro r L⟨rfl,e3⟩;replace e3:=e3.symm;subst e3;clear G;obtain⟨c0,c1,c2⟩:=ag.out _ ah
 by_cases hl:300<ns.length
 ·go_wp2_with fail
  refine(rK I _).mono ?_;rintro r w3⟨rfl,s⟩;go_wp2;go_ret;exact⟨rfl,o.trans (s.mono o.size)⟩
 have hg:=KK z;have HG:=hid hg;have HN:Hid (Calls prog 14 #[.agg #[.int .i64 p.vars,.int .i64 p.mutexes,.slice a p.threads.length cap],.int .i64 fuel,.int .i64 1,.int .i64 600] W3 _):=yh I p a cap fuel 1 600 W3 (HP.out.later o) HA.out hg t (by omega) (by omega) (by omega) (by omega);go_wp2_with fail;refine HN.out.mono ?_;rintro r j⟨b,S,rfl,A,hS,aG⟩;have C:=ah.trans (A.mono ah.size);have ax:=o.trans (A.mono o.size);have HM:Hid (OneM I w W3.heap.size b p fuel 1 600 (gM p fuel 1) j):=aG.one (fun x hx=>Nat.le_trans o.size (hS x hx)) ax o.size;have ai:=hid ax;have aH:=hid C;clear c0 c1 c2 HN A hS aG ah o hg;obtain⟨c0,c1,c2⟩:=ag.out _ C
 go_upto_region 4 with (fail)
 clear c0 c1 c2;have O:Hid (∀W,Below j.heap.size j W->(W.cell? ⟨w.heap.size,0,none⟩=some (.int .i64 p.vars)/\W.cell? ⟨w.heap.size,1,none⟩=some (.int .i64 p.mutexes)/\W.cell? ⟨w.heap.size,2,none⟩=some (.slice a p.threads.length cap))):=fun W hb=>ag.out W (aH.out.trans (hb.mono aH.out.size))
 have V:Hid (∀W,Below j.heap.size j W->en W ob 1 jy ns):=fun W hb=>ME (aT.out.later (ai.out.trans (hb.mono ai.out.size)))
 have aI:Hid (∀W,Below j.heap.size j W->dI W a p.threads):=fun W hb=>HP.out.later (ai.out.trans (hb.mono ai.out.size))
 have aU:ns.length<=300:=by omega
 have ap:(dM p fuel:Int)<=600:=by omega
 clear hl C ax
 go_cut [11,12] (fun s9 aW wx=>ve p fuel 600 ns j s9 aW wx)
 case first=>
  go_wp2_with fail
  go_region_held3 (fun W=>(W.cell? ⟨w.heap.size,0,none⟩=some (.int .i64 p.vars)/\W.cell? ⟨w.heap.size,1,none⟩=some (.int .i64 p.mutexes)/\W.cell? ⟨w.heap.size,2,none⟩=some (.slice a p.threads.length cap)))
   (first|with_reducible exact O.out _ (Below.refl _ _)|with_reducible exact O.out _ J|with_reducible exact O.out _ d|with_reducible exact O.out _ (J.alloc J.size _)|with_reducible exact O.out _ (d.alloc d.size _)|with_reducible exact O.out _ (A5 J (by first|omega|exact Nat.le_refl _) _ _ _ _ _)|with_reducible exact O.out _ (Below.refl _ _).drew|with_reducible exact O.out _ (da j _).drew|with_reducible exact O.out _ (eH j _ _).drew)
   (first
    |((first|with_reducible refine sm ((j.alloc (.cells #[] 5)).drew) ?_);refine sq 56 5 1 (.int .u8 0) underlying56 uc (by rfl) (by omega) (by omega) pO uP (by rfl) (.tmp 43) (.tmp 44) (by rfl) j.heap.size _ [] (by rfl) (I3 j) ob Q ns (by rfl) (V.out _ (da j (.cells #[] 5)).drew) au.out (by simp only[length_nil];omega) (by simp <;> omega) ?_;intro v1 P l hb aj;obtain⟨av,ac,D,q,F⟩:=ti l (by simp only[nil_append];omega);rw[nil_append]at D q;subst D;have N:=hid (And.intro q F);have d:Below j.heap.size j P:=Below.trans (da j (.cells #[] 5)).drew hb;have aJ:=d.size;have ak:Hid True:=trivial;clear l hb q F)
    |((first|with_reducible refine sm (((j.alloc (.cells #[] 5)).alloc (.cells #[.slice none 0 0,.int .i64 0,.int .i64 0,.int .i64 0,.bool false] 58)).drew) ?_);refine sq 56 5 1 (.int .u8 0) underlying56 uc (by rfl) (by omega) (by omega) pO uP (by rfl) (.tmp 43) (.tmp 44) (by rfl) j.heap.size _ [] (by rfl) (I1 j) ob Q ns (by rfl) (V.out _ (eH j (.cells #[] 5) (.cells #[.slice none 0 0,.int .i64 0,.int .i64 0,.int .i64 0,.bool false] 58)).drew) au.out (by simp only[length_nil];omega) (by simp <;> omega) ?_;intro v1 P l hb aj;obtain⟨av,ac,D,q,F⟩:=ti l (by simp only[nil_append];omega);rw[nil_append]at D q;subst D;have N:=hid (And.intro q F);have d:Below j.heap.size j P:=Below.trans (eH j (.cells #[] 5) (.cells #[.slice none 0 0,.int .i64 0,.int .i64 0,.int .i64 0,.bool false] 58)).drew hb;have aJ:=d.size;have ak:=hid (EH aj);clear l hb q F)
    |((first|with_reducible refine sm (((j.alloc (.cells #[.slice none 0 0,.int .i64 0,.int .i64 0,.int .i64 0,.bool false] 58)).alloc (.cells #[] 5)).drew) ?_);refine sq 56 5 1 (.int .u8 0) underlying56 uc (by rfl) (by omega) (by omega) pO uP (by rfl) (.tmp 43) (.tmp 44) (by rfl) j.heap.size _ [] (by rfl) (IZ j) ob Q ns (by rfl) (V.out _ (eH j (.cells #[.slice none 0 0,.int .i64 0,.int .i64 0,.int .i64 0,.bool false] 58) (.cells #[] 5)).drew) au.out (by simp only[length_nil];omega) (by simp <;> omega) ?_;intro v1 P l hb aj;obtain⟨av,ac,D,q,F⟩:=ti l (by simp only[nil_append];omega);rw[nil_append]at D q;subst D;have N:=hid (And.intro q F);have d:Below j.heap.size j P:=Below.trans (eH j (.cells #[.slice none 0 0,.int .i64 0,.int .i64 0,.int .i64 0,.bool false] 58) (.cells #[] 5)).drew hb;have aJ:=d.size;have ak:=hid (EE aj);clear l hb q F)
    |(go_at_call 30;((with_reducible refine(E.yes p a cap fuel 600 av ac ns P (aI.out _ d) N.out.1 N.out.2 aF.out (by omega) z t).mono ?_);rintro r w7⟨ka,kc,rfl,k,hb⟩;have ay:=hid k;have J:=d.trans (hb.mono d.size);(first|(have al:=hid (ak.out.later hb);obtain⟨⟨x0,x1,x2,x3,x4⟩,f⟩:=al.out.five;have f0:=f 0 (by omega);have f1:=f 1 (by omega);have f2:=f 2 (by omega);have f3:=f 3 (by omega);have f4:=f 4 (by omega);clear f)|skip);clear k hb))
    |(go_at_call 30;((with_reducible refine(E.yes p a cap fuel 600 av ac ns (P.alloc (.cells #[.slice none 0 0,.int .i64 0,.int .i64 0,.int .i64 0,.bool false] 58)) (aI.out _ (d.alloc d.size (.cells #[.slice none 0 0,.int .i64 0,.int .i64 0,.int .i64 0,.bool false] 58))) (N.out.1.later (da P _)) (fun x hx=>Nat.lt_of_lt_of_le (N.out.2 x hx) (da P (.cells #[.slice none 0 0,.int .i64 0,.int .i64 0,.int .i64 0,.bool false] 58)).size) aF.out (by omega) z t).mono ?_);rintro r w7⟨ka,kc,rfl,k,hb⟩;have ay:=hid k;have J:=(d.alloc d.size (.cells #[.slice none 0 0,.int .i64 0,.int .i64 0,.int .i64 0,.bool false] 58)).trans (hb.mono (d.alloc d.size (.cells #[.slice none 0 0,.int .i64 0,.int .i64 0,.int .i64 0,.bool false] 58)).size);(first|(have al:=hid ((show fN (P.alloc (.cells #[.slice none 0 0,.int .i64 0,.int .i64 0,.int .i64 0,.bool false] 58)) P.heap.size #[.slice none 0 0,.int .i64 0,.int .i64 0,.int .i64 0,.bool false]from heap_alloc_new P _).later hb);obtain⟨⟨x0,x1,x2,x3,x4⟩,f⟩:=al.out.five;have f0:=f 0 (by omega);have f1:=f 1 (by omega);have f2:=f 2 (by omega);have f3:=f 3 (by omega);have f4:=f 4 (by omega);clear f)|skip);clear k hb)))
  all_goals go_wp2_with fail
  all_goals go_meet
  all_goals first
   |with_reducible refine Lj z t ay.out ?_ J
   |with_reducible refine Li z t al.out ay.out ?_ ?_ ?_ J
  all_goals first
   |omega
   |exact ak.out.lt
   |(rw[World.size_alloc];omega)
 case rest=>
  obtain⟨g,v,rfl,rfl,aK,X,k,aq⟩:=hcut;obtain⟨e1,e2,e3,e4⟩:=Lk (order:=ns) z ap;rw[e1]at k;rw[e2,e4]at X;have ar:=hid X;have Z:=hid k;have aX:=hid aK;have hk:=(Jy t).1;obtain⟨m,_,hm,_,hh,ho,hs,hl,_⟩:=IC (p:=p) (fuel:=fuel) (W:=1) (B:=600) HG.out (by omega) (by omega) t (by omega) ol (n:=100000) (Er z t) (by omega);have HK:=hid hk;have HX:=hid (And.intro hh (And.intro ho (And.intro hs hl)));have az:=HM.out.runK aq oa oc ol ao.out (by omega) 100000 (by omega);rw[<-hm]at az;have aL:=hid az;clear e1 e2 e3 e4 X k aq hm hh ho hs hl hk HM z t ap aU az aK;generalize (dx (s0 p fuel) ns 600).nodes=ND at *;generalize (dx (s0 p fuel) ns 600).blocked=NB at *;go_wp2_with fail;refine aL.out.mono ?_;rintro r W6⟨rfl,h6,R,Y,aA⟩;have aa:Hid (fN W6 g _):=hid (Y.row ar.out fun e=>absurd (aA _ e) (by have:=aX.out;omega));have ab:=hid (Z.out.onlyS Y fun x h1 h2 h3=>absurd (aA _ h3) (by omega));have H6:=hid h6;have O:=hid h6.all;clear h6 Y aA aL ar Z;go_wp2_with fail;refine O.out.mono ?_;rintro r W7⟨v2,rfl,aM,A⟩;have hG:=KS aM (by omega) (by rw[HX.out.2.2.2];have:=HK.out;omega);rw[HX.out.2.2.1,HX.out.2.2.2,decide_eq_true rfl]at hG;have H7:=hid (H6.out.later A);have aN:=hid hG;have ad:=hid (aa.out.later A);have ae:=hid (ab.out.later A);clear aM A hG H6 O aa ab;go_wp2_with fail;refine aN.out.mono ?_;rintro r M⟨kb,aO,rfl,aP,C⟩;have H8:=hid (H7.out.later C);have u:=hid (ad.out.later C);have af:=ae.out.later C;obtain⟨ka,kc,e5,aQ⟩:=af.form;subst e5
  have G:Hid (∀W,Below M.heap.size M W->W.cell? ⟨g,0,none⟩=some (.slice ka (dG (eD (ek p fuel))).length kc)/\W.cell? ⟨g,2,none⟩=some (.int .i64 ((dG (eD (ek p fuel))).length:Nat))/\W.cell? ⟨g,4,none⟩=some (.bool true)):=fun W hb=>⟨(u.out.later hb).at_ 0 rfl,(u.out.later hb).at_ 2 rfl,(u.out.later hb).at_ 4 rfl⟩
  have aY:Hid (∀W,Below M.heap.size M W->Calls prog 19 #[.pointer (some ⟨b,0,none⟩)] W fun r L=>r=.returned (.bool true)/\Below M.heap.size M L):=fun W hb=>by
   obtain⟨S1,h1⟩:=(H8.out.later hb).mm
   refine(I.complete h1).mono fun r L ⟨e,i,e2⟩=>⟨by rw[e,HX.out.1,HX.out.2.1];rfl,?_⟩
   subst e2;exact hb.drewN
  have aZ:Hid (∀W,Below M.heap.size M W->Calls prog 20 #[.slice kb (dG (eD (ek p fuel))).length aO,.slice ka (dG (eD (ek p fuel))).length kc] W fun r L=>r=.returned (.bool true)/\Below M.heap.size M L):=fun W hb=>by
   have hk:=HK.out;have h:=DY kb ka aO kc (dG (eD (ek p fuel))) (dG (eD (ek p fuel))) W (aP.later hb) (aQ.later hb) (by omega) (by omega);rw[decide_eq_true rfl]at h
   refine h.mono fun r L ⟨e,i,e2⟩=>⟨e,?_⟩
   subst e2;exact hb.drewN
  have a0:Hid (∀W,Below M.heap.size M W->Calls prog 27 #[.pointer (some ⟨b,0,none⟩),.int .i64 0] W fun r L=>∃a c,r=.returned (.slice a (dG (eD (ek p fuel))).length c)/\Below M.heap.size M L):=fun W hb=>by
   refine((H8.out.later hb).keys 0).mono fun r L ⟨v,e,hv,H⟩=>?_
   obtain⟨a3,c3,e3,_⟩:=hv.form;rw[Jr,HX.out.2.2.2]at e3;exact⟨a3,c3,by rw[e,e3],hb.trans (H.mono hb.size)⟩
  have aR:=hid H8.out.below;have a1:=hid HK.out;clear aP aQ C af H7 H8 aN ad ae u HK HX HG;generalize (dG (eD (ek p fuel))).length=n at *;have q9:((n:Int)==(n:Int))=true:=by simp
  have c9:=G.out _ (Below.refl _ _);go_wp2_with fail
  go_region_held3 (fun W=>W.cell? ⟨g,0,none⟩=some (.slice ka n kc)/\W.cell? ⟨g,2,none⟩=some (.int .i64 (n:Nat))/\W.cell? ⟨g,4,none⟩=some (.bool true))
   (first|with_reducible exact G.out _ (Below.refl _ _)|with_reducible exact G.out _ aB|with_reducible exact G.out _ am|with_reducible exact G.out _ an|with_reducible exact G.out _ am.drew|with_reducible exact G.out _ aB.drew|with_reducible exact G.out _ an.drew|with_reducible exact G.out _ (Below.refl _ _).drew)
   (first
    |(go_at_call 19;(refine(aY.out _ (by first|with_reducible exact Below.refl _ _|with_reducible exact(Below.refl _ _).drew)).mono ?_);rintro r w1 ⟨rfl,an⟩)
    |(go_at_call 20;(refine(aZ.out _ (by first|with_reducible exact an|with_reducible exact an.drew)).mono ?_);rintro r w2 ⟨rfl,am⟩)
    |(go_at_call 27;(refine(a0.out _ (by first|with_reducible exact am|with_reducible exact am.drew)).mono ?_);rintro r w3 ⟨a3,c3,rfl,aB⟩))
  all_goals go_wp2_with fail
  all_goals go_ret
  all_goals exact⟨rfl,aR.out.trans (aB.mono aR.out.size)⟩
theorem MT{a W w':World}(h1:Below a.heap.size a W)(hb:Below W.heap.size W w'):Below a.heap.size a w':=h1.trans (hb.mono h1.size)
structure NodeAt(w:World)(b o sb:Nat)(n:PN):Prop where
 c0:w.cell? ⟨b,o,none⟩=some (.pointer (some ⟨sb,0,none⟩))
 c1:w.cell? ⟨b,o+1,none⟩=some (.int .u8 (n.z:Nat))
 c2:w.cell? ⟨b,o+2,none⟩=some (.int .u8 (n.go:Nat))
 c3:w.cell? ⟨b,o+3,none⟩=some (.int .u8 (n.gone:Nat))
theorem NodeAt.later{w w':World}{b o a:Nat}{n:PN}(h:NodeAt w b o a n)(hb:Below w.heap.size w w'):NodeAt w' b o a n:=⟨de hb h.c0,de hb h.c1,de hb h.c2,de hb h.c3⟩
theorem M8{F b o j:Nat}{n:PN}{w:World}(h:NodeAt w b o j n)(x:di w j n.st)(s:n.st.Ok F)(y:n.z<256):
  Calls prog 87 #[.pointer (some ⟨b,o,none⟩)] w fun r e=>∃v,r=.returned v/\dC e w.heap.size v n.awake/\Below w.heap.size w e:=by
 have J:=mS s;have m:Hid (∀W,Below w.heap.size w W->Calls prog 69 #[.pointer (some ⟨j,0,none⟩)] W fun r e=>∃v,r=.returned v/\dC e W.heap.size v n.st.all/\Below W.heap.size W e):=fun W hb=>lu (x.later hb) s
 have q:Hid (∀W,Below w.heap.size w W->W.cell? ⟨b,o,none⟩=some (.pointer (some ⟨j,0,none⟩))/\W.cell? ⟨b,o+1,none⟩=some (.int .u8 (n.z:Nat))):=fun W hb=>⟨de hb h.c0,de hb h.c1⟩
 have p:Hid (∀W a f,Below w.heap.size w W->dC W w.heap.size (.slice a n.st.all.length f) n.st.all->Calls prog 68 #[.slice a n.st.all.length f,.func (.func 70) #[.int .u8 n.z] #[]] W fun r e=>∃v,r=.returned v/\dC e w.heap.size v n.awake/\Below w.heap.size w e):=fun W a f hb C=>
  (Ap n.z (dp n.z) w.heap.size a f n.st.all W C (by omega) hb.size (fun D t _=>nO y t D)).mono fun r e ⟨v,E,G,H⟩=>⟨v,E,G,hb.trans H⟩
 have I:=q.out w (Below.refl _ _);obtain⟨M,N⟩:=I;clear h x y s;generalize n.st.all=L at *;generalize n.awake=A at *;generalize n.z=Z at *;have c:Below w.heap.size w w.drew:=(Below.refl _ _).drew;go_enter func87,ntmps87;go_wp2_with fail
 go_region_held3 (fun W=>W.cell? ⟨b,o,none⟩=some (.pointer (some ⟨j,0,none⟩))/\W.cell? ⟨b,o+1,none⟩=some (.int .u8 (Z:Int)))
  (first|exact q.out _ c|exact q.out _ g|exact q.out _ d)
  (first
   |(go_at_call 69;((with_reducible refine(m.out _ c).mono ?_);rintro r O⟨v,rfl,i,k⟩;obtain⟨P,B,rfl,_,_⟩:=i.form (by omega);have g:=MT c k;have u:=hid (qE i c.size);clear i k c))
   |(go_at_call 68;((with_reducible refine(p.out _ _ _ g u.out).mono ?_);rintro r Q ⟨R,rfl,l,d⟩)))
 all_goals first
  |(go_ret;exact⟨_,rfl,l,d⟩)
  |(go_wp2;go_ret;exact⟨_,rfl,l,d⟩)
theorem Jh{b o d x:Nat}{n:PN}{w:World}(h:NodeAt w b o d n)(hx:w.cell? ⟨x,0,none⟩=some (.pointer (some ⟨b,o,none⟩)))(e:n.z<256)(f:n.gone<256)(t:Int):
  Calls prog 133 #[.int .i64 t,.pointer (some ⟨x,0,none⟩)] w fun r a=>r=.returned (.bool (dp n.gone t||dp n.z t))/\w=a:=by
 obtain⟨_,g,_,i⟩:=h;generalize n.z=Z at *;generalize n.gone=G at *;go_enter func133,ntmps133;go_wp2_with fail;refine(nO f t _).mono ?_;rintro r a⟨rfl,rfl⟩
 cases c:dp G t
 ·go_wp2_with fail
  refine(nO e t _).mono ?_;rintro r a⟨rfl,rfl⟩;go_wp2;go_ret;exact⟨dE (by simp[c]),rfl⟩
 ·go_wp2
  go_ret;exact⟨dE (by simp[c]),rfl⟩
theorem x9{b o F:Nat}{n:PN}{w:World}(h:NodeAt w b o F n)(H:n.z<256)(l:n.go<256)(I:n.gone<256):
  Calls prog 89 #[.pointer (some ⟨b,o,none⟩)] w fun r c=>∃v,r=.returned v/\dC c w.heap.size v n.left/\Below w.heap.size w c:=by
 have m:=da w (.cells #[.pointer (some ⟨b,o,none⟩)] 166);have f:=mP n.go;have k:=h.later m;have p:(w.alloc (.cells #[.pointer (some ⟨b,o,none⟩)] 166)).cell? ⟨w.heap.size,0,none⟩=some (.pointer (some ⟨b,o,none⟩)):=by rw[World.cell?_alloc_new];rfl
 have i:(w.alloc (.cells #[.pointer (some ⟨b,o,none⟩)] 166)).heap.size=w.heap.size+1:=World.size_alloc _ _;have U:=k.c2
 have u:Hid (∀W,Below (w.heap.size+1) (w.alloc (.cells #[.pointer (some ⟨b,o,none⟩)] 166)) W->NodeAt W b o F n/\W.cell? ⟨w.heap.size,0,none⟩=some (.pointer (some ⟨b,o,none⟩))):=fun W hb=>by
  rw[<-i]at hb;exact⟨k.later hb,de hb p⟩
 have s:Hid (∀W a d,Below (w.heap.size+1) (w.alloc (.cells #[.pointer (some ⟨b,o,none⟩)] 166)) W->dC W (w.heap.size+1) (.slice a (ex (dW n.go)).length d) (ex (dW n.go))->Calls prog 68 #[.slice a (ex (dW n.go)).length d,.func (.func 133) #[] #[.pointer (some ⟨w.heap.size,0,none⟩)]] W fun r c=>∃v,r=.returned v/\dC c (w.heap.size+1) v n.left/\Below (w.heap.size+1) (w.alloc (.cells #[.pointer (some ⟨b,o,none⟩)] 166)) c):=fun W a d hb P=>
  (LR (some ⟨w.heap.size,0,none⟩) (fun t=>dp n.gone t||dp n.z t) (w.heap.size+1) a d (ex (dW n.go)) W P (by rw[j6];omega) (by have:=hb.size;omega) (fun J t q=>Jh (u.out J (hb.trans q)).1 (u.out J (hb.trans q)).2 H I t)).mono fun r c ⟨v,k,Q,R⟩=>⟨v,k,Q,hb.trans R⟩
 have T:(ex (dW n.go)).length<=8:=by rw[j6];exact f
 have g:Hid (∀W,Calls prog 130 #[.int .u8 n.go] W fun r c=>∃v,r=.returned v/\dC c W.heap.size v (ex (dW n.go))/\Below W.heap.size W c):=fun W=>oF l W
 clear h k H l I f u;generalize ex (dW n.go)=L at *;generalize n.left=A at *;generalize n.go=G at *;go_enter func89,ntmps89;go_wp2_with fail;refine(g.out _).mono ?_;rintro r M⟨v,rfl,j,e⟩;obtain⟨V,N,rfl,_,_⟩:=j.form (by omega);have x:=hid (qE (A:=w.heap.size+1) j (by rw[i];exact Nat.le_refl _));have y:Below (w.heap.size+1) (w.alloc (.cells #[.pointer (some ⟨b,o,none⟩)] 166)) M:=by rw[i]at e;exact e
 have O:M.cell? ⟨w.heap.size,0,none⟩=some (.pointer (some ⟨b,o,none⟩)):=de e p;clear j e g;go_wp2_with fail;refine(s.out _ _ _ y x.out).mono ?_;rintro r S⟨X,rfl,B,C⟩;have D:Below w.heap.size w S:=m.trans (C.mono (by omega));have E:=qE (A:=w.heap.size) B (by omega);go_wp2;go_ret;exact⟨_,rfl,E,D⟩
end
section
open Go.Proofs.Tryz Go.RowKit
def fA(x:Nat × PN):List Value:=[.pointer (some ⟨x.1,0,none⟩),.int .u8 (x.2.z:Nat),.int .u8 (x.2.go:Nat),.int .u8 (x.2.gone:Nat)]
theorem k6(x:Nat × PN):(fA x).length=4:=rfl
theorem F2(x:Nat × PN):∀v∈fA x,v.oneCell'=true:=by
 intro v a;simp[fA]at a
 rcases a with rfl|rfl|rfl|rfl <;> rfl
theorem J7:(prog.info? 168).map (fun i=>(i.zero,i.size,i.bytes))=some (some (.agg #[.pointer none,.int .u8 0,.int .u8 0,.int .u8 0]),4,16):=by kernel_rfl
theorem kU:168≠97:=by decide
theorem qd:168≠112:=by decide
theorem ov:168≠9:=by decide
theorem kT:168≠163:=by decide
theorem nc:97≠112:=by decide
theorem kV:97≠9:=by decide
theorem ox:97≠163:=by decide
theorem vB:112≠9:=by decide
theorem vC:112≠163:=by decide
theorem vz:9≠163:=by decide
def Ty(w:World)(B:Nat)(row:Option Nat)(t:TypeId):Prop:=∀r,row=some r->B<=r/\∃a,w.heap[r]?=some (.cells a t (0,0))
theorem i6{w:World}{B n m:Nat}{t:TypeId}{v:Value}{xs:List Value}(h:w.ownsRow B t n v m xs):Ty w B v.ownBlock t:=by
 intro r b;obtain⟨_,⟨rfl,_⟩|⟨g,d,a,rfl,hb,c,_⟩⟩:=h
 ·simp[Value.ownBlock]at b
 ·have:g=r:=by simpa [Value.ownBlock]using b
  subst this;exact⟨hb,a,c⟩
theorem fX{w w':World}{B B' n m:Nat}{t d:TypeId}{v:Value}{xs:List Value}{row:Option Nat}(h:w.ownsRow B t n v m xs)(f:w.grownBy w' row)(i:Ty w B' row d)(b:t≠d):w'.ownsRow B t n v m xs:=by
 refine h.kept f ?_;obtain⟨_,⟨rfl,_⟩|⟨g,j,k,rfl,_,c,_⟩⟩:=h
 ·exact .inl rfl
 ·right
  intro e;obtain⟨_,l,a⟩:=i g e.symm;rw[c]at a;injection a with a;injection a with _ h2;exact b h2
theorem iD{w w':World}{B b:Nat}{s:St}{d:TypeId}{row:Option Nat}(h:di w b s)(f:w.grownBy w' row)(g:Ty w B row d)(c:d≠163):di w' b s:=by
 refine(f.block b h.lt fun e=>?_).trans h;obtain⟨_,i,a⟩:=g b e.symm;rw[show w.heap[b]?=_ from h]at a;injection a with a;injection a with _ h2;exact c h2.symm
theorem jf{w w':World}{B:Nat}{a:TypeId}{row:Option Nat}(b:w.grownBy w' row)(c:Ty w B row a)(d:B<=w.heap.size):Below B w w':=(Below.refl B w).grown b d fun k e=>(c k e).1
theorem lj(w:World)(g j:Nat)(v:Value):w.grownBy (w.setCell ⟨g,j,none⟩ v) (some g):=⟨rfl,rfl,rfl,by simp[World.setCell],fun k _ a=>heap_setCell_other w ⟨g,j,none⟩ k v (fun e=>a (by simp[e]))⟩
def mG(pv rv kv a:Value)(x:Xp):Array Value:=#[pv,rv,a,.int .i64 (x.choices:Nat),kv,.int .i64 (x.nodes:Nat),.int .i64 (x.runs:Nat),.int .i64 (x.blocked:Nat),.bool false]
structure XM(w:World)(B xb:Nat)(pv rv kv:Value)(oa:Option Addr)(oc:Nat)(ps:List (Nat × PN))(x:Xp):Prop where
 low:B<=xb
 blk:w.heap[xb]?=some (.cells (mG pv rv kv (.slice oa x.order.length oc) x) 97 (0,0))
 eq:ps.map Prod.snd=x.path
 path:dc w B 168 4 fA pv ps
 row:dr w B rv x.row
 keys:dc w B 9 1 du kv x.keys
 ord:iL w oa x.order
 ordB:∀a,oa=some a->a.block<B
 sts:∀q∈ps,di w q.1 q.2.st
section
variable{w w':World}{B xb oc:Nat}{pv rv kv:Value}{oa:Option Addr}{ps:List (Nat × PN)}{x:Xp}
theorem XM.lt(h:XM w B xb pv rv kv oa oc ps x):xb<w.heap.size:=(Array.getElem?_eq_some_iff.1 h.blk).1
theorem XM.cell(h:XM w B xb pv rv kv oa oc ps x){j:Nat}{v:Value}(a:(mG pv rv kv (.slice oa x.order.length oc) x)[j]?=some v):w.cell? ⟨xb,j,none⟩=some v/\w.frozen? ⟨xb,j,none⟩=false:=by
 refine⟨by rw[cell_of_row w xb j _ _ _ h.blk,a],by simp[World.frozen?,h.blk]⟩
theorem XM.cells(h:XM w B xb pv rv kv oa oc ps x):w.cell? ⟨xb,0,none⟩=some pv/\w.cell? ⟨xb,1,none⟩=some rv/\w.cell? ⟨xb,2,none⟩=some (.slice oa x.order.length oc)/\w.cell? ⟨xb,3,none⟩=some (.int .i64 (x.choices:Nat)) /\
  w.cell? ⟨xb,4,none⟩=some kv/\w.cell? ⟨xb,5,none⟩=some (.int .i64 (x.nodes:Nat))/\w.cell? ⟨xb,6,none⟩=some (.int .i64 (x.runs:Nat))/\w.cell? ⟨xb,7,none⟩=some (.int .i64 (x.blocked:Nat))/\w.cell? ⟨xb,8,none⟩=some (.bool false):=
 ⟨(h.cell rfl).1,(h.cell rfl).1,(h.cell rfl).1,(h.cell rfl).1,(h.cell rfl).1,(h.cell rfl).1,(h.cell rfl).1,(h.cell rfl).1,(h.cell rfl).1⟩
theorem XM.frozen(h:XM w B xb pv rv kv oa oc ps x)(j:Nat):w.frozen? ⟨xb,j,none⟩=false:=by simp[World.frozen?,h.blk]
theorem XM.ty(h:XM w B xb pv rv kv oa oc ps x):Ty w B (some xb) 97:=by
 intro r a;injection a with a;subst a;exact⟨h.low,_,h.blk⟩
theorem XM.later(h:XM w B xb pv rv kv oa oc ps x)(hb:Below w.heap.size w w'):XM w' B xb pv rv kv oa oc ps x:=
 ⟨h.low,(hb.block xb h.lt).trans h.blk,h.eq,h.path.later hb,h.row.later hb,h.keys.later hb,h.ord.later hb,h.ordB,fun q a=>(h.sts q a).later hb⟩
theorem XM.drew(h:XM w B xb pv rv kv oa oc ps x):XM w.drew B xb pv rv kv oa oc ps x:=⟨h.low,h.blk,h.eq,h.path,h.row,h.keys,h.ord,h.ordB,h.sts⟩
theorem kK{ns:List Int}(h:iL w oa ns)(c:∀a,oa=some a->a.block<B)(hb:Below B w w'):iL w' oa ns:=by
 refine⟨h.1,fun d=>?_⟩;obtain⟨b,o,rfl,e⟩:=h.2 d;exact⟨b,o,rfl,fun i f=>by rw[hb.cell (p:=⟨b,o+i,none⟩) (show b<B from c ⟨b,o,none⟩ rfl)];exact e i f⟩
theorem XM.set(h:XM w B xb pv rv kv oa oc ps x)(i:B<=w.heap.size)(j:Nat)(v:Value){c d e:Value}{a:List (Nat × PN)}{b:Xp}
  (k:(mG pv rv kv (.slice oa x.order.length oc) x).setIfInBounds j v=mG c d e (.slice oa b.order.length oc) b) (l:b.order=x.order) (m:a.map Prod.snd=b.path)
  (n:dc w B 168 4 fA c a) (o:dr w B d b.row) (p:dc w B 9 1 du e b.keys) (r:∀q∈a,di w q.1 q.2.st):XM (w.setCell ⟨xb,j,none⟩ v) B xb c d e oa oc a b:=by
 have f:=lj w xb j v;have g:=h.ty;refine⟨h.low,?_,m,fX n f g kU,fX o f g (Ne.symm nc),fX p f g (Ne.symm kV),?_,h.ordB,fun q s=>iD (r q s) f g ox⟩
 ·have:=heap_setCell_same w xb j _ _ v h.blk
  rw[k]at this;exact this
 ·rw[l]
  exact kK h.ord h.ordB (jf f g i)
theorem XM.setNodes(h:XM w B xb pv rv kv oa oc ps x)(a:B<=w.heap.size)(n:Nat):XM (w.setCell ⟨xb,5,none⟩ (.int .i64 (n:Int))) B xb pv rv kv oa oc ps { x with nodes:=n }:=h.set a 5 _ rfl rfl h.eq h.path h.row h.keys h.sts
theorem XM.setRuns(h:XM w B xb pv rv kv oa oc ps x)(a:B<=w.heap.size)(n:Nat):XM (w.setCell ⟨xb,6,none⟩ (.int .i64 (n:Int))) B xb pv rv kv oa oc ps { x with runs:=n }:=h.set a 6 _ rfl rfl h.eq h.path h.row h.keys h.sts
theorem XM.setBlocked(h:XM w B xb pv rv kv oa oc ps x)(a:B<=w.heap.size)(n:Nat):XM (w.setCell ⟨xb,7,none⟩ (.int .i64 (n:Int))) B xb pv rv kv oa oc ps { x with blocked:=n }:=h.set a 7 _ rfl rfl h.eq h.path h.row h.keys h.sts
theorem XM.setChoices(h:XM w B xb pv rv kv oa oc ps x)(a:B<=w.heap.size)(n:Nat):XM (w.setCell ⟨xb,3,none⟩ (.int .i64 (n:Int))) B xb pv rv kv oa oc ps { x with choices:=n }:=h.set a 3 _ rfl rfl h.eq h.path h.row h.keys h.sts
theorem XM.setPath(h:XM w B xb pv rv kv oa oc ps x)(c:B<=w.heap.size){b:Value}{a:List (Nat × PN)}(d:dc w B 168 4 fA b a)(e:∀q∈a,di w q.1 q.2.st):XM (w.setCell ⟨xb,0,none⟩ b) B xb b rv kv oa oc a { x with path:=a.map Prod.snd }:=h.set c 0 _ rfl rfl rfl d h.row h.keys e
theorem XM.setRow(h:XM w B xb pv rv kv oa oc ps x)(b:B<=w.heap.size){a:Value}{r:List Ev}(c:dr w B a r):XM (w.setCell ⟨xb,1,none⟩ a) B xb pv a kv oa oc ps { x with row:=r }:=h.set b 1 _ rfl rfl h.eq h.path c h.keys h.sts
theorem XM.morePath(h:XM w B xb pv rv kv oa oc ps x)(k:B<=w.heap.size){i:Value}{q:Nat × PN}(o:dc w' B 168 4 fA i (ps++[q]))(d:w.grownBy w' pv.ownBlock)(p:di w q.1 q.2.st):
  XM (w'.setCell ⟨xb,0,none⟩ i) B xb i rv kv oa oc (ps++[q]) { x with path:=x.path++[q.2] }:=by
 have g:=i6 h.path;have hb:=jf d g k
 have s:XM w' B xb (.slice none 0 0) rv kv oa oc [] { x with path:=[] }->XM (w'.setCell ⟨xb,0,none⟩ i) B xb i rv kv oa oc (ps++[q]) { x with path:=x.path++[q.2] }:=fun t=>by
  have:=t.setPath (Nat.le_trans k d.size) o (fun r a=>by
   rcases List.mem_append.1 a with a|a
   ·exact iD (h.sts r a) d g kT
   ·rw[List.mem_singleton.1 a];exact iD p d g kT)
  rw[List.map_append,h.eq]at this;exact this
 have j:w'.heap[xb]?=some (.cells (mG pv rv kv (.slice oa x.order.length oc) x) 97 (0,0)):=by
  refine(d.block xb h.lt fun e=>?_).trans h.blk;obtain⟨_,u,f⟩:=g xb e.symm;rw[h.blk]at f;injection f with f;injection f with _ h2;exact kU h2.symm
 have l:dr w' B rv x.row:=fX h.row d g (Ne.symm qd);have m:dc w' B 9 1 du kv x.keys:=fX h.keys d g (Ne.symm ov)
 have n:∀r∈ps++[q],di w' r.1 r.2.st:=fun r a=>by
  rcases List.mem_append.1 a with a|a
  ·exact iD (h.sts r a) d g kT
  ·rw[List.mem_singleton.1 a];exact iD p d g kT
 have b:=lj w' xb 0 i
 have c:Ty w' B (some xb) 97:=by
  intro r a;injection a with a;subst a;exact⟨h.low,_,j⟩
 clear s;refine⟨h.low,?_,by rw[List.map_append,h.eq];rfl,fX o b c kU,fX l b c (Ne.symm nc),fX m b c (Ne.symm kV),?_,h.ordB,fun r a=>iD (n r a) b c ox⟩
 ·exact heap_setCell_same w' xb 0 _ _ i j
 ·exact kK (kK h.ord h.ordB hb) h.ordB (jf b c (Nat.le_trans k d.size))
theorem XM.moreRow(h:XM w B xb pv rv kv oa oc ps x)(m:B<=w.heap.size){f:Value}{r:List Ev}(n:dr w' B f r)(d:w.grownBy w' rv.ownBlock):XM (w'.setCell ⟨xb,1,none⟩ f) B xb pv f kv oa oc ps { x with row:=r }:=by
 have g:=i6 h.row;have hb:=jf d g m
 have j:w'.heap[xb]?=some (.cells (mG pv rv kv (.slice oa x.order.length oc) x) 97 (0,0)):=by
  refine(d.block xb h.lt fun e=>?_).trans h.blk;obtain⟨_,o,c⟩:=g xb e.symm;rw[h.blk]at c;injection c with c;injection c with _ h2;exact nc h2
 have k:dc w' B 168 4 fA pv ps:=fX h.path d g qd;have l:dc w' B 9 1 du kv x.keys:=fX h.keys d g (Ne.symm vB);have a:=lj w' xb 1 f
 have b:Ty w' B (some xb) 97:=by
  intro r i;injection i with i;subst i;exact⟨h.low,_,j⟩
 refine⟨h.low,?_,h.eq,fX k a b kU,fX n a b (Ne.symm nc),fX l a b (Ne.symm kV),?_,h.ordB,fun r i=>iD (iD (h.sts r i) d g vC) a b ox⟩
 ·exact heap_setCell_same w' xb 1 _ _ f j
 ·exact kK (kK h.ord h.ordB hb) h.ordB (jf a b (Nat.le_trans m d.size))
theorem XM.moreKeys(h:XM w B xb pv rv kv oa oc ps x)(m:B<=w.heap.size){f:Value}{ks:List dk}(n:dc w' B 9 1 du f ks)(d:w.grownBy w' kv.ownBlock):XM (w'.setCell ⟨xb,4,none⟩ f) B xb pv rv f oa oc ps { x with keys:=ks }:=by
 have g:=i6 h.keys;have hb:=jf d g m
 have j:w'.heap[xb]?=some (.cells (mG pv rv kv (.slice oa x.order.length oc) x) 97 (0,0)):=by
  refine(d.block xb h.lt fun e=>?_).trans h.blk;obtain⟨_,o,c⟩:=g xb e.symm;rw[h.blk]at c;injection c with c;injection c with _ h2;exact kV h2
 have k:dc w' B 168 4 fA pv ps:=fX h.path d g ov;have l:dr w' B rv x.row:=fX h.row d g vB;have a:=lj w' xb 4 f
 have b:Ty w' B (some xb) 97:=by
  intro r i;injection i with i;subst i;exact⟨h.low,_,j⟩
 refine⟨h.low,?_,h.eq,fX k a b kU,fX l a b (Ne.symm nc),fX n a b (Ne.symm kV),?_,h.ordB,fun r i=>iD (iD (h.sts r i) d g vz) a b ox⟩
 ·exact heap_setCell_same w' xb 4 _ _ f j
 ·exact kK (kK h.ord h.ordB hb) h.ordB (jf a b (Nat.le_trans m d.size))
theorem F1{i:Nat}(a:i<ps.length)(j:Nat)(v:Value){q:Nat × PN}(b:(fA ps[i]).set j v=fA q)(c:j<4):(dA fA ps).set (i*4+j) v=dA fA (ps.set i q):=by
 induction ps generalizing i with
 |nil=>simp at a
 |cons y ps d=>
  cases i with
  |zero=>
   simp only[dA,List.flatMap_cons,List.set_cons_zero,Nat.zero_mul,Nat.zero_add,List.getElem_cons_zero]at *;rw[<-b,List.set_append_left _ _ (by rw[k6];exact c)]
  |succ i=>
   have:=d (i:=i) (by simpa using a) (by simpa using b);simp only[dA,List.flatMap_cons,List.set_cons_succ]at *;rw[<-this,List.set_append_right _ _ (by rw[k6];omega),k6]
   congr 2
   omega
theorem XM.put{g N cap:Nat}(h:XM w B xb (.slice (some ⟨g,0,none⟩) N cap) rv kv oa oc ps x)(p:B<=w.heap.size){i:Nat}(n:i<ps.length)(j:Nat)(v:Value){q:PN}(s:(fA ps[i]).set j v=fA (ps[i].1,q))(t:j<4)(l:q.st=ps[i].2.st):
  XM (w.setCell ⟨g,i*4+j,none⟩ v) B xb (.slice (some ⟨g,0,none⟩) N cap) rv kv oa oc (ps.set i (ps[i].1,q)) { x with path:=x.path.set i q }:=by
 have d:=i6 h.path
 have o:ps.length=N:=by
  obtain⟨_,⟨b,_⟩|⟨_,_,_,b,_⟩⟩:=h.path
  ·cases b
  ·injection b with _ b
   exact b.symm
 have u:w.ownsRow B 168 4 (.slice (some ⟨g,0,none⟩) N cap) N (dA fA ps):=by
  have b:w.ownsRow B 168 4 (.slice (some ⟨g,0,none⟩) N cap) ps.length (dA fA ps):=h.path;rw[o]at b;exact b
 obtain⟨b,f⟩:=u.stored (i*4+j) v;rw[F1 n j v s t]at b
 have m:dc (w.setCell ⟨g,i*4+j,none⟩ v) B 168 4 fA (.slice (some ⟨g,0,none⟩) N cap) (ps.set i (ps[i].1,q)):=by
  unfold dc;rw[List.length_set,o];exact b
 refine⟨h.low,(f.block xb h.lt fun e=>?_).trans h.blk,?_,m,fX h.row f d (Ne.symm qd),fX h.keys f d (Ne.symm ov),kK h.ord h.ordB (jf f d p),h.ordB,fun r k=>?_⟩
 ·obtain⟨_,y,c⟩:=d xb e.symm
  rw[h.blk]at c;injection c with c;injection c with _ h2;exact kU h2.symm
 ·show(ps.set i (ps[i].1,q)).map Prod.snd=x.path.set i q
  rw[List.map_set,h.eq]
 ·refine iD ?_ f d kT
  rcases List.mem_or_eq_of_mem_set k with k|rfl
  ·exact h.sts r k
  ·show di w ps[i].1 q.st
   rw[l];exact h.sts _ (List.getElem_mem n)
theorem XM.node{g N cap:Nat}(h:XM w B xb (.slice (some ⟨g,0,none⟩) N cap) rv kv oa oc ps x){i:Nat}(f:i<ps.length):NodeAt w g (i*4) ps[i].1 ps[i].2/\∀j,j<4->w.frozen? ⟨g,i*4+j,none⟩=false:=by
 obtain⟨n,⟨b,_⟩|⟨o,e,m,b,p,c,q,r,s,k⟩⟩:=h.path
 ·cases b
 ·injection b with e1 e2 e3
  injection e1 with e1;injection e1 with e1;subst e1
  have a:∀j,j<4->w.cell? ⟨g,i*4+j,none⟩=(fA ps[i])[j]?:=by
   intro j l;have d:=ik k6 ps i j f l;rw[<-k,List.getElem?_take_of_lt (by omega)]at d;rw[<-d];simp[World.cell?,c]
  exact⟨⟨a 0 (by omega),a 1 (by omega),a 2 (by omega),a 3 (by omega)⟩,fun j _=>by simp[World.frozen?,c]⟩
theorem Gt{T:Type}{f:T->List Value}{n g N cap k:Nat}{t:TypeId}{l:List T}(e:∀y,(f y).length=n)(h:dc w B t n f (.slice (some ⟨g,0,none⟩) N cap) l)(u:k<=N):dc w B t n f (.slice (some ⟨g,0,none⟩) k cap) (l.take k):=by
 obtain⟨v,⟨b,_⟩|⟨x,j,c,b,m,o,z,p,q,r⟩⟩:=h
 ·cases b
 ·injection b with e1 e2 e3
  injection e1 with e1;injection e1 with e1;subst e1 e3;have a:(l.take k).length=k:=by rw[List.length_take];omega
  refine⟨by rw[gF e],.inr ⟨g,cap,c,by rw[a],m,o,by omega,p,q,?_⟩⟩;have i:=congrArg (List.take (k*n)) r;have d:k*n<=l.length*n:=Nat.mul_le_mul_right n (by omega);rw[List.take_take,Nat.min_eq_left d]at i;rw[a,i];have s:dA f l=dA f (l.take k)++dA f (l.drop k):=by rw[<-pN,List.take_append_drop]
  rw[s,List.take_left' (by rw[gF e,a])]
theorem xG{T:Type}{f:T->List Value}{n N cap k:Nat}{a:Option Addr}{t:TypeId}{l:List T}(e:∀y,(f y).length=n)(h:dc w B t n f (.slice a N cap) l)(g:k<=N):dc w B t n f (.slice a k cap) (l.take k):=by
 have c:=h;obtain⟨m,⟨b,i⟩|⟨o,d,j,b,p⟩⟩:=h
 ·injection b with e1 e2 e3
  subst e1 e2 e3;obtain rfl:k=0:=by omega
  obtain rfl:=List.length_eq_zero_iff.1 i;exact c
 ·injection b with e1 e2 e3
  subst e1;exact Gt e c g
theorem Gz{N cap k:Nat}{a:Option Addr}{l:List Ev}(h:dr w B (.slice a N cap) l)(b:k<=N):dr w B (.slice a k cap) (l.take k):=
 xG (f:=eg) (fun _=>rfl) (show dc w B 112 4 eg (.slice a N cap) l from h) b
theorem xK{T:Type}{f:T->List Value}{n N cap:Nat}{a:Option Addr}{t:TypeId}{l:List T}(h:dc w B t n f (.slice a N cap) l):l.length=N/\N<=cap:=by
 obtain⟨e,⟨b,g⟩|⟨i,c,d,b,j,k,m,_⟩⟩:=h
 ·injection b with e1 e2 e3
  omega
 ·injection b with e1 e2 e3
  omega
end
end
section
open Go.RowKit
def jI(x:Xp)(s:St):Xp:={ x with nodes:=x.nodes+1,path:=fU x.path (eu x s) }
def jM(x:Xp)(s:St)(z:Nat):Xp:={ fY x s z with path:=fU x.path (eu x s) }
def fj(x:Xp)(s:St)(z:Nat):PN:=if (PN.awake ⟨s,z,0,0⟩)≠[]then ⟨s,z,dn [pick x.order x.choices (PN.awake ⟨s,z,0,0⟩)],0⟩else ⟨s,z,0,0⟩
theorem Ix(x:Xp)(s:St)(z:Nat):fY x s z={ jM x s z with path:=(jM x s z).path++[fj x s z] }:=by
 unfold jM fj fY;dsimp only
 split
 ·rfl
 ·split <;> rfl
theorem KC{x:Xp}{s:St}{z:Nat}(h:(PN.awake ⟨s,z,0,0⟩)≠[]):jM x s z={ jI x s with choices:=fH x.choices (PN.awake ⟨s,z,0,0⟩) }/\fj x s z=⟨s,z,dn [pick x.order x.choices (PN.awake ⟨s,z,0,0⟩)],0⟩:=by
 unfold jM fj fY jI;dsimp only;rw[if_pos h,if_pos h];exact⟨rfl,rfl⟩
theorem KA{x:Xp}{s:St}{z:Nat}(h:(PN.awake ⟨s,z,0,0⟩)=[])(hb:gG s.all z=true):jM x s z={ jI x s with blocked:=x.blocked+1 }/\fj x s z=⟨s,z,0,0⟩:=by
 unfold jM fj fY jI;dsimp only;rw[if_neg (by rw[h];simp),if_pos hb,if_neg (by rw[h];simp)];exact⟨rfl,rfl⟩
theorem Kz{x:Xp}{s:St}{z:Nat}(h:(PN.awake ⟨s,z,0,0⟩)=[])(hb:gG s.all z=false):jM x s z={ jI x s with runs:=x.runs+1,keys:=x.keys++[eE x.row] }/\fj x s z=⟨s,z,0,0⟩:=by
 unfold jM fj fY jI;dsimp only;rw[if_neg (by rw[h];simp),if_neg (by rw[hb];exact Bool.false_ne_true),if_neg (by rw[h];simp)];exact⟨rfl,rfl⟩
def eP(w:World)(nb sb:Nat)(n:PN):Prop:=w.heap[nb]?=some (.cells #[.pointer (some ⟨sb,0,none⟩),.int .u8 (n.z:Nat),.int .u8 (n.go:Nat),.int .u8 (n.gone:Nat)] 168 (0,0))
theorem eP.lt{w:World}{nb sb:Nat}{n:PN}(h:eP w nb sb n):nb<w.heap.size:=(Array.getElem?_eq_some_iff.1 h).1
theorem eP.later{w w':World}{nb sb:Nat}{n:PN}(h:eP w nb sb n)(hb:Below w.heap.size w w'):eP w' nb sb n:=(hb.block nb h.lt).trans h
theorem eP.cells{w:World}{nb sb:Nat}{n:PN}(h:eP w nb sb n):w.cell? ⟨nb,0,none⟩=some (.pointer (some ⟨sb,0,none⟩))/\w.cell? ⟨nb,1,none⟩=some (.int .u8 (n.z:Nat))/\w.cell? ⟨nb,2,none⟩=some (.int .u8 (n.go:Nat))/\w.cell? ⟨nb,3,none⟩=some (.int .u8 (n.gone:Nat)):=by
 refine⟨?_,?_,?_,?_⟩ <;> (rw[cell_of_row w nb _ _ _ _ h];rfl)
theorem eP.node{w:World}{nb sb:Nat}{n:PN}(h:eP w nb sb n):NodeAt w nb 0 sb n:=⟨h.cells.1,h.cells.2.1,h.cells.2.2.1,h.cells.2.2.2⟩
theorem eP.frozen{w:World}{nb sb:Nat}{n:PN}(h:eP w nb sb n)(j:Nat):w.frozen? ⟨nb,j,none⟩=false:=by simp[World.frozen?,show w.heap[nb]?=_ from h]
theorem eP.new(w:World)(sb:Nat)(n:PN):eP (w.alloc (.cells #[.pointer (some ⟨sb,0,none⟩),.int .u8 (n.z:Nat),.int .u8 (n.go:Nat),.int .u8 (n.gone:Nat)] 168)) w.heap.size sb n:=heap_alloc_new w _
theorem eP.setGo{w:World}{nb sb:Nat}{n:PN}(h:eP w nb sb n)(g:Nat):eP (w.setCell ⟨nb,2,none⟩ (.int .u8 (g:Nat))) nb sb { n with go:=g }:=heap_setCell_same w nb 2 _ _ _ h
section
variable{w w':World}{B xb oc nb sb:Nat}{pv rv kv:Value}{oa:Option Addr}{ps:List (Nat × PN)}{x:Xp}{n:PN}
theorem XM.box(h:XM w B xb pv rv kv oa oc ps x)(f:B<=w.heap.size)(b:eP w nb sb n)(hb:B<=nb)(g:pv.ownBlock≠some nb)(j:Nat)(v:Value):XM (w.setCell ⟨nb,j,none⟩ v) B xb pv rv kv oa oc ps x:=by
 have a:=lj w nb j v
 have c:Ty w B (some nb) 168:=by
  intro r d;injection d with d;subst d;exact⟨hb,_,b⟩
 refine⟨h.low,(a.block xb h.lt fun e=>?_).trans h.blk,h.eq,World.ownsRow.kept h.path a (.inr g),fX h.row a c (Ne.symm qd),fX h.keys a c (Ne.symm ov),kK h.ord h.ordB (jf a c f),h.ordB,fun q i=>iD (h.sts q i) a c kT⟩;injection e with e;subst e;rw[show eP w xb sb n↔_ from Iff.rfl,eP,h.blk]at b;injection b with b;injection b with _ h2;exact kU h2.symm
theorem eP.only(h:eP w nb sb n)(b:Only xb w w')(a:nb≠xb):eP w' nb sb n:=(b.block nb h.lt a).trans h
theorem eP.setX(h:eP w nb sb n)(a:nb≠xb)(j:Nat)(v:Value):eP (w.setCell ⟨xb,j,none⟩ v) nb sb n:=h.only ((Only.refl xb w).setCell j v) a
theorem di.onlyX{s:St}(h:di w sb s)(b:Only xb w w')(a:sb≠xb):di w' sb s:=(b.block sb h.lt a).trans h
theorem XM.ne_st{s:St}(h:XM w B xb pv rv kv oa oc ps x)(a:di w sb s):sb≠xb:=by
 rintro rfl;rw[di,h.blk]at a;injection a with a;injection a with _ h2;exact ox h2
theorem eP.ne_st{b:Nat}{s:St}(h:eP w nb sb n)(a:di w b s):b≠nb:=by
 rintro rfl;rw[di,show w.heap[b]?=_ from h]at a;injection a with a;injection a with _ h2;exact kT h2
theorem XM.own_lt(h:XM w B xb pv rv kv oa oc ps x):∀k,pv.ownBlock=some k->k<w.heap.size:=fun k a=>(World.ownsRow.lt h.path k a).2
end
end
section
open Go.Lib (hid)
open Go.Proofs.Tryz Go.RowKit
theorem Gg{o:List Int}{c:Nat}{l:List Int}(h:l.length=1):pick o c l=l.getD 0 0/\fH c l=c:=by
 unfold pick fH;rw[if_pos h,if_pos h];exact⟨rfl,rfl⟩
theorem Gh{o:List Int}{c:Nat}{l:List Int}(h:l.length≠1):fH c l=c+1/\(c<o.length->pick o c l=l.getD ((o.getD c 0).toNat%l.length) 0)/\(¬c<o.length->pick o c l=l.getD 0 0):=by
 unfold pick fH;rw[if_neg h,if_neg h];exact⟨rfl,fun a=>by rw[if_pos a],fun a=>by rw[if_neg a]⟩
theorem AG{w:World}{B d E A cap:Nat}{F G H:Value}{I a:Option Addr}{ps:List (Nat × PN)}{x:Xp}{l:List Int}(h:XM w B d F G H I E ps x)(X:B<=w.heap.size)(u:dC w A (.slice a l.length cap) l)(i:l≠[])(hm:l.length<=1000)(hc:x.choices<=1000000)(_ho:x.order.length<=1000)(j:∀n∈x.order,0<=n/\n<256):
  Calls prog 88 #[.pointer (some ⟨d,0,none⟩),.slice a l.length cap] w fun r U=>r=.returned (.int .i64 (pick x.order x.choices l))/\XM U B d F G H I E ps { x with choices:=fH x.choices l }/\Only d w U:=by
 obtain⟨g,W,e,aa,ab⟩:=u.block i;injection e with e1 _ e2;subst e1 e2;have s:0<l.length:=List.length_pos_iff.2 i;have b:∀k,k<l.length->w.cell? ⟨g,k,none⟩=some (.int .i64 (l.getD k 0)):=fun k P=>(kx u P).1
 have R:g≠d:=by
  rintro rfl;obtain⟨_,cs,p⟩:=i6 u g rfl;rw[h.blk]at p;injection p with p;injection p with _ h2;exact absurd h2 (by decide)
 by_cases v:l.length=1
 ·obtain⟨C,D⟩:=Gg (o:=x.order) (c:=x.choices) v
  have c0:=b 0 (by omega);have Y:((l.length:Int)==1)=true:=by simp[v]
  have J:=hid C;have N:Hid (XM w B d F G H I E ps { x with choices:=fH x.choices l }):=by rw[D];exact h
  clear h u i b j C D v;generalize l.getD 0 0=y at *;go_enter func88,ntmps88;go_wp2;go_ret;exact⟨by rw[J.out];rfl,N.out,Only.refl _ _⟩
 ·obtain⟨C,D,Q⟩:=Gh (o:=x.order) (c:=x.choices) v
  have Y:((l.length:Int)==1)=false:=by simp;omega
  obtain⟨_,_,x2,x3,_⟩:=h.cells;have f3:=h.frozen 3
  have N:Hid (∀q,XM ((w.drewN q).setCell ⟨d,3,none⟩ (.int .i64 ((x.choices:Int)+1))) B d F G H I E ps { x with choices:=fH x.choices l }):=fun q=>by
   rw[C];have:=(show XM (w.drewN q) B d F G H I E ps x from⟨h.low,h.blk,h.eq,h.path,h.row,h.keys,h.ord,h.ordB,h.sts⟩).setChoices X (x.choices+1);exact this
  have V:Hid (∀q,Only d w ((w.drewN q).setCell ⟨d,3,none⟩ (.int .i64 ((x.choices:Int)+1)))):=fun q=>(show Only d w (w.drewN q)from⟨rfl,rfl,rfl,Nat.le_refl _,fun _ _ _=>rfl⟩).setCell 3 _
  have O:Hid (∀q k,k<l.length->((w.drewN q).setCell ⟨d,3,none⟩ (.int .i64 ((x.choices:Int)+1))).cell? ⟨g,k,none⟩=some (.int .i64 (l.getD k 0))):=fun q k P=>by
   rw[World.cell?_of_block (w:=w.drewN q) (a:=⟨g,k,none⟩) (Below.heap_setCell _ _ _ _ R)];exact b k P
  by_cases f:x.choices<x.order.length
  ·have J:=hid (D f)
   obtain⟨ob,oo,rfl,L⟩:=h.ord.2 (by intro e;simp[e]at f);have ac:=L x.choices f;obtain⟨v0,v1⟩:=j _ (List.getElem_mem f);have S:(x.order.getD x.choices 0).toNat%l.length<l.length:=Nat.mod_lt _ s;have M:x.order.getD x.choices 0=x.order[x.choices]:=dV _ f
   have ad:(x.order[x.choices]).tmod (l.length:Int)=(((x.order.getD x.choices 0).toNat%l.length:Nat):Int):=by
    rw[M];generalize x.order[x.choices]=z at *
    obtain⟨k,rfl⟩:∃k:Nat,z=k:=⟨z.toNat,by omega⟩
    rw[Int.toNat_natCast];rfl
   have t:Hid (∀q,((w.drewN q).setCell ⟨d,3,none⟩ (.int .i64 ((x.choices:Int)+1))).cell? ⟨g,(x.order.getD x.choices 0).toNat%l.length,none⟩=some (.int .i64 (l.getD ((x.order.getD x.choices 0).toNat%l.length) 0))):=fun q=>O.out q _ S
   clear h u i b j C D Q v L M O;generalize (x.order.getD x.choices 0).toNat%l.length=m at *;generalize l.getD m 0=y at *;generalize x.order[x.choices]=z at *;generalize x.order.length=Z at *;generalize x.choices=ch at *;go_enter func88,ntmps88;go_wp2_with fail
   go_quiet (fail)
   generalize nq=q1 at *;go_wp2_with fail
   go_quiet (fail)
   have T:=t.out (q1+nq);go_wp2;go_ret;exact⟨by rw[J.out];rfl,N.out _,V.out _⟩
  ·have J:=hid (Q f)
   have t:Hid (∀q,((w.drewN q).setCell ⟨d,3,none⟩ (.int .i64 ((x.choices:Int)+1))).cell? ⟨g,0,none⟩=some (.int .i64 (l.getD 0 0))):=fun q=>O.out q 0 s
   clear h u i b j C D Q v O;generalize l.getD 0 0=y at *;generalize x.order.length=Z at *;generalize x.choices=ch at *;go_enter func88,ntmps88;go_wp2_with fail
   go_quiet (fail)
   have T:=t.out nq;go_wp2;go_ret;exact⟨by rw[J.out];rfl,N.out _,V.out _⟩
def ij(x:Xp)(k:Nat):Xp:={ x with path:=x.path.take (k+1),row:=x.row.take k }
theorem LW{x:Xp}{k:Nat}(h:fI x.path x.path.length=some k):dH x=ij x k/\eF x=true:=by
 unfold dH eF;rw[h];exact⟨rfl,rfl⟩
theorem LX{x:Xp}(h:fI x.path x.path.length=none):dH x=ij x 0/\eF x=false:=by
 unfold dH eF;rw[h];exact⟨rfl,rfl⟩
def m6(B b:Nat)(c:Option Addr)(d:Nat)(y:Xp)(w:World):Prop:=∃e f g h,XM w B b e f g c d h y
theorem zL{w:World}{B a N:Nat}{pv rv P:Value}{O:Option Addr}{ps:List (Nat × PN)}{x:Xp}(h:XM w B a pv rv P O N ps x)(hB:B<=w.heap.size)(hl:x.path.length<=1000)(hr:x.row.length<=1000)
  (al:x.path.length<=x.row.length+1) (ak:x.row.length<=x.path.length) (l:∀n∈x.path,n.z<256/\n.go<256/\n.gone<256):
  Calls prog 52 #[.pointer (some ⟨a,0,none⟩)] w fun r w'=>r=.returned (.bool (eF x))/\m6 B a O N (dH x) w'/\Below B w w':=by
 have u:ps.length=x.path.length:=by rw[<-h.eq,List.length_map]
 obtain⟨pa,c,rfl,_,_⟩:=dc.form2 h.path k6 (by omega);obtain⟨y,s,rfl,_,_⟩:=h.row.form2 (by omega);rw[u]at h;have H:Hid (∀k,fI x.path x.path.length=some k->dH x=ij x k/\eF x=true):=fun k A=>LW A
 have I:Hid (fI x.path x.path.length=none->dH x=ij x 0/\eF x=false):=fun A=>LX A
 have J:Hid (∀k,k<x.path.length->fI x.path (k+1)=if (x.path.getD k dX).left≠[]then some k else fI x.path k):=fun k _=>rfl
 have HZ:Hid (fI x.path 0=none):=rfl
 have M:Hid (∀k,k<x.path.length->(x.path.getD k dX).z<256/\(x.path.getD k dX).go<256/\(x.path.getD k dX).gone<256):=fun k A=>by
  rw[dV _ A];exact l _ (List.getElem_mem A)
 have U:Hid (ps.map Prod.snd=x.path):=h.eq;have HL:Hid (fI x.path x.path.length=fI x.path x.path.length):=rfl;obtain⟨x0,_⟩:=h.cells
 have hcut:ij x x.path.length={ x with path:=x.path,row:=x.row }:=by
  unfold ij;rw[List.take_of_length_le (by omega),List.take_of_length_le (by omega)]
 have ab:Hid (XM w B a (.slice pa x.path.length c) (.slice y x.row.length s) P O N (ps.take (x.path.length+1)) (ij x x.path.length)):=by
  rw[hcut,List.take_of_length_le (by omega)];exact h
 have ac:Hid (x.path.length<=c):=(xK h.path).2;have ad:Hid (x.row.length<=s):=(xK (f:=eg) (T:=Ev) h.row).2
 have ae:Hid (x.path.length≠0->∃g,pa=some ⟨g,0,none⟩):=fun hn=>by
  obtain⟨g,an,e,_⟩:=h.path.block (by intro e;rw[e]at u;simp at u;omega);injection e with e;exact⟨g,e⟩
 clear h l u hcut;go_enter func52,ntmps52;go_wp2
 go_loopw [3] (fun z wr=>∃(i:Int) (k pn Q:Nat),k<=x.path.length/\pn<=c/\Q<=s/\k<=pn/\k<=Q+1/\(k:Int)<=i+1/\i+1<=k/\z=.int .i64 i/\Hid (fI x.path x.path.length=fI x.path k) /\
  Hid (XM wr B a (.slice pa pn c) (.slice y Q s) P O N (ps.take (k+1)) (ij x k))/\Hid (Below B w wr)) (fun z _=>(intOf z+1).toNat)
 case atStart=>exact⟨(x.path.length:Int)-1,x.path.length,x.path.length,x.row.length,Nat.le_refl _,ac.out,ad.out,Nat.le_refl _,by omega,by omega,by omega,rfl,rfl,ab,Below.refl _ _⟩
 case round=>
  obtain⟨i,k,pn,Q,A,ao,ap,af,aq,ar,au,rfl,C,t,D⟩:=hrel
  by_cases ag:k=0
  ·subst ag
   obtain rfl:i=-1:=by omega
   have R:Hid (dH x=ij x 0/\eF x=false):=I.out (C.out.trans HZ.out);clear C;go_wp2;go_ret;exact⟨by rw[R.out.2];rfl,⟨_,_,_,_,by rw[R.out.1];exact t.out⟩,D.out⟩
  ·obtain⟨m,rfl⟩:∃m,k=m+1:=⟨k-1,by omega⟩
   obtain rfl:i=m:=by omega
   have V:B<=wr.heap.size:=Nat.le_trans hB D.out.size;obtain⟨g,hg⟩:=ae.out (by omega);subst hg;obtain⟨x0,x1,_⟩:=t.out.cells;have f0:=t.out.frozen 0
   have W:dc wr B 168 4 fA (.slice (some ⟨g,0,none⟩) (m+1) c) (ps.take (m+1)):=by
    have:=xG k6 t.out.path (k:=m+1) af
    rwa [List.take_take,Nat.min_eq_left (by omega)]at this
   have d:Hid (XM (wr.setCell ⟨a,0,none⟩ (.slice (some ⟨g,0,none⟩) (m+1) c)) B a (.slice (some ⟨g,0,none⟩) (m+1) c) (.slice y Q s) P O N (ps.take (m+1)) { ij x (m+1)with path:=(ps.take (m+1)).map Prod.snd }):=
    t.out.setPath V W fun q hq=>t.out.sts q (List.mem_of_mem_take (i:=m+1) (by rw[List.take_take,Nat.min_eq_left (by omega)];exact hq))
   obtain⟨_,y1,_⟩:=d.out.cells;have f1:=d.out.frozen 1;have ah:B<=(wr.setCell ⟨a,0,none⟩ (.slice (some ⟨g,0,none⟩) (m+1) c)).heap.size:=by simp[World.setCell];exact V
   have X:=Gz d.out.row (k:=m) (by omega)
   have j:Hid (XM ((wr.setCell ⟨a,0,none⟩ (.slice (some ⟨g,0,none⟩) (m+1) c)).setCell ⟨a,1,none⟩ (.slice y m s)) B a (.slice (some ⟨g,0,none⟩) (m+1) c) (.slice y m s) P O N (ps.take (m+1)) (ij x m)):=by
    have:=d.out.setRow ah X
    have e:{ ({ ij x (m+1)with path:=(ps.take (m+1)).map Prod.snd }:Xp)with row:=({ ij x (m+1)with path:=(ps.take (m+1)).map Prod.snd }:Xp).row.take m }=ij x m:=by
     unfold ij;dsimp only;rw[List.take_take,Nat.min_eq_left (by omega),List.map_take,U.out]
    rw[e]at this;exact this
   have E:Hid (Below B w ((wr.setCell ⟨a,0,none⟩ (.slice (some ⟨g,0,none⟩) (m+1) c)).setCell ⟨a,1,none⟩ (.slice y m s))):=(D.out.setCell (p:=⟨a,0,none⟩) t.out.low _).setCell (p:=⟨a,1,none⟩) t.out.low _;obtain⟨z0,_⟩:=j.out.cells
   have F:m<(ps.take (m+1)).length:=by
    have h1:=congrArg List.length U.out;rw[List.length_map]at h1;rw[List.length_take];omega
   have b:=(j.out.node F).1
   have Y:(ps.take (m+1))[m].2=x.path.getD m dX:=by
    have h1:((ps.take (m+1)).map Prod.snd).getD m dX=(ij x m).path.getD m dX:=by rw[j.out.eq]
    rw[show(ij x m).path=x.path.take (m+1)from rfl,pz _ (by omega)]at h1;rw[<-h1,List.getD_eq_getElem?_getD,List.getElem?_map,List.getElem?_eq_getElem F];rfl
   rw[Y]at b;obtain⟨b1,b2,b3⟩:=M.out m (by omega);have o:=hid (x9 b b1 b2 b3)
   have av:(x.path.getD m dX).left.length<=8:=by
    unfold PN.left;refine Nat.le_trans (List.length_filter_le _ _) ?_;rw[j6];exact mP _
   have HS:=J.out m (by omega);have HY:Hid ((x.path.getD m dX).left≠[]->dH x=ij x m/\eF x=true):=fun ai=>H.out m (by rw[C.out,HS,if_pos ai])
   have HN:Hid ((x.path.getD m dX).left=[]->fI x.path x.path.length=fI x.path m):=fun he=>by rw[C.out,HS,if_neg (by rw[he];simp)]
   clear C t d W X b Y b1 b2 b3 HS F;generalize (x.path.getD m dX).left=L at *;generalize aj:((wr.setCell ⟨a,0,none⟩ (.slice (some ⟨g,0,none⟩) (m+1) c)).setCell ⟨a,1,none⟩ (.slice y m s))=W2 at *;go_wp2_with fail;refine o.out.mono ?_;rintro r w3⟨v,rfl,hv,G⟩;obtain⟨a3,c3,rfl,_,_⟩:=hv.form (by omega);have Z:=hid (j.out.later G);have aa:Hid (Below B w w3):=E.out.trans (G.mono (Nat.le_trans hB E.out.size));clear j E hv G o aj
   by_cases S:L=[]
   ·have C:=hid (HN.out S)
    subst S;clear HY HN;go_wp2
    go_roundw
    case rel=>exact⟨(m:Int)-1,m,m+1,m,by omega,by omega,by omega,by omega,by omega,by omega,by omega,rfl,C,Z,aa⟩
    case measure=>simp[intOf]
   ·have R:=hid (HY.out S)
    have am:0<L.length:=List.length_pos_iff.2 S;clear HY HN S;go_wp2;go_ret;exact⟨by rw[R.out.2];rfl,⟨_,_,_,_,by rw[R.out.1];exact Z.out⟩,aa.out⟩
end
end Go.Proofs.YtjfmmnhcddckaaaGreat
