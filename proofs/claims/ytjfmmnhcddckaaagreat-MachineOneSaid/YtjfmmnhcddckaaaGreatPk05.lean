import Derived.Deep.RegionLaw
import Derived.Test.YtjfmmnhcddckaaaGreatPk04b
set_option maxRecDepth 100000
set_option maxHeartbeats 4000000
namespace Go.Proofs.YtjfmmnhcddckaaaGreat
section
open Go.Lib (hid)
open Go.Proofs.Tryz Go.RowKit
section
variable{w w':World}{B b g n:Nat}{ids:List Nat}{le:Nat->Let}{nx:Nat->Option Nat}{cx:Nat->Value}{tot:Int}{ls:Nat->List Nat}{S:Nat->Prop}{T:Nat->List Let}
def u5(B b n:Nat)(S:Nat->Prop)(T:Nat->List Let)(j:Nat)(l:Let)(w w':World):Prop:=
 ∃c,MU w' B b n c (db T j (T j++[l]))/\OnlyS S w w'/\∀y,c y->S y∨w.heap.size<=y
theorem DW(q:MOk w B b g n ids le nx cx (fh n T:Nat) ls)(h1:∀j,j<n->(ls j).map le=T j)(h2:∀x,MS b g ids x↔S x){j:Nat}(t:j<n){l:Let}{u W p:World}(hb:Below u.heap.size u W)(F:u.heap.size<=W.heap.size)
  (v:mV B b g n ids le (fh n T:Nat) ls j l W p):u5 B b n S T j l u (p.setCell ⟨b,1,none⟩ (.int .i64 ((fh n T:Nat)+1)))/\p.cell? ⟨b,1,none⟩=some (.int .i64 (fh n T:Nat))/\p.frozen? ⟨b,1,none⟩=false:=by
 obtain⟨x,f,r,s,hx,a,z,A,o⟩:=v;obtain⟨m,C⟩:=a.mr.storeT ((fh n T:Nat)+1)
 have D:((fh n T:Nat):Int)+1=(fh n (db T j (T j++[l])):Nat):=by
  have:=vJ T (T j++[l]) t;rw[List.length_append,List.length_singleton]at this;omega
 refine⟨⟨MS b g (x::ids),⟨g,x::ids,f,r,s,db ls j (ls j++[x]),?_,fun k d=>?_,fun _=>Iff.rfl⟩,?_,fun y c=>?_⟩,a.mr.cellB.2,a.mr.frozen (.inl rfl) 1⟩
 ·rw[<-D]
  exact⟨m,a.sub,a.nodup,a.apart,a.first,a.last,a.count,a.chain⟩
 ·have i:∀k,k<n->(ls k).map f=T k:=fun k d=>by
   rw[<-h1 k d];exact List.map_congr_left fun y c=>A y (q.sub k d y c)
  by_cases e:k=j
  ·subst e
   rw[dg,dg,List.map_append,i k d,List.map_singleton,z]
  ·rw[dh _ _ e,dh _ _ e,i k d]
 ·refine((OnlyS.of_below hb).trans (o.mono fun y _ c=>(h2 y).1 c)).thenS C fun y c E=>?_
  rcases E with h|h|h
  ·exact(h2 y).1 (.inl h)
  ·exact(h2 y).1 (.inr (.inl h))
  ·rcases List.mem_cons.1 h with rfl|h
   ·omega
   ·exact(h2 y).1 (.inr (.inr h))
 ·rcases c with h|h|h
  ·exact .inl ((h2 y).1 (.inl h))
  ·exact .inl ((h2 y).1 (.inr (.inl h)))
  ·rcases List.mem_cons.1 h with rfl|h
   ·exact .inr (by omega)
   ·exact .inl ((h2 y).1 (.inr (.inr h)))
theorem IK(h:MU w B b n S T){j:Nat}(m:j<n)(l:Let)(A:l.s.length<=281474976710656)(Q:fh n T<100000):
  Calls prog 111 #[.pointer (some ⟨b,0,none⟩),.int .i64 j,gC l] w fun r w'=>r=.returned (.int .i64 0)/\u5 B b n S T j l w w':=by
 obtain⟨g,ids,le,nx,cx,ls,q,t,C⟩:=h;have f:Below w.heap.size w (w.alloc (.cells #[.string ⟨l.s.toArray⟩,.int .u8 l.set] 146)):=da w _;have o:(w.alloc (.cells #[.string ⟨l.s.toArray⟩,.int .u8 l.set] 146)).heap[w.heap.size]?=some (.cells #[.string ⟨l.s.toArray⟩,.int .u8 l.set] 146 (0,0)):=heap_alloc_new w _;have F:=hid (zx (q.keep (q.mr.later f)) m);have G:=hid (uG l.s (w.alloc (.cells #[.string ⟨l.s.toArray⟩,.int .u8 l.set] 146)) A);have v:(ls j).length=(T j).length:=by rw[<-t j m,List.length_map]
 have x:=r' T m;have H:Hid (∀W,Below w.heap.size w W->Calls prog 163 #[.pointer (some ⟨g,j*3,none⟩),gC l] W fun r w'=>r=.returned (.tuple #[])/\mV B b g n ids le (fh n T:Nat) ls j l W w'):=fun W hb=>Hw (q.keep (q.mr.later hb)) m l (by omega)
 have I:Hid (∀W,Below w.heap.size w W->W.cell? ⟨b,0,none⟩=some (.slice (some ⟨g,0,none⟩) n n)):=fun W hb=>(q.mr.later hb).cellB.1
 have J:Hid (∀W d,Below w.heap.size w W->mV B b g n ids le (fh n T:Nat) ls j l W d->u5 B b n S T j l w (d.setCell ⟨b,1,none⟩ (.int .i64 ((fh n T:Nat)+1)))/\d.cell? ⟨b,1,none⟩=some (.int .i64 (fh n T:Nat))/\d.frozen? ⟨b,1,none⟩=false):=fun W d hb L=>DW q t C m hb hb.size L
 have O:(j:Int)<(n:Int):=by omega
 have u:=hid o;have p:=hid f;clear q t C v x o f A;generalize fh n T=R at *;go_enter func111,ntmps111;go_wp2_with fail;refine F.out.mono ?_;rintro r w'⟨rfl,rfl⟩;have P:(w.alloc (.cells #[.string ⟨l.s.toArray⟩,.int .u8 l.set] 146)).cell? ⟨w.heap.size,0,none⟩=some (.string ⟨l.s.toArray⟩):=by rw[cell_of_row _ _ 0 _ _ _ u.out];rfl
 go_wp2_with fail
 refine G.out.mono ?_;rintro r e⟨rfl,i⟩;have a:e.heap[w.heap.size]?=some (.cells #[.string ⟨l.s.toArray⟩,.int .u8 l.set] 146 (0,0)):=(i.block _ (Array.getElem?_eq_some_iff.1 u.out).1).trans u.out;have k:=heap_setCell_same e w.heap.size 0 _ _ (.string ⟨l.s.toArray⟩) a;have d0:e.cell? ⟨w.heap.size,0,none⟩=some (.string ⟨l.s.toArray⟩):=by rw[cell_of_row _ _ 0 _ _ _ a];rfl
 have f0:e.frozen? ⟨w.heap.size,0,none⟩=false:=by simp[World.frozen?,a]
 have d1:(e.setCell ⟨w.heap.size,0,none⟩ (.string ⟨l.s.toArray⟩)).cell? ⟨w.heap.size,0,none⟩=some (.string ⟨l.s.toArray⟩):=by rw[cell_of_row _ _ 0 _ _ _ k];rfl
 have d2:(e.setCell ⟨w.heap.size,0,none⟩ (.string ⟨l.s.toArray⟩)).cell? ⟨w.heap.size,1,none⟩=some (.int .u8 l.set):=by rw[cell_of_row _ _ 1 _ _ _ k];rfl
 have c:Below w.heap.size w (e.setCell ⟨w.heap.size,0,none⟩ (.string ⟨l.s.toArray⟩)):=(p.out.trans (i.mono p.out.size)).setCell (Nat.le_refl _) _;have U:=I.out _ c;have y:=hid (H.out _ c.drew);have z:=hid (fun d=>J.out _ d c.drew);clear i a k c;go_wp2_with fail
 go_region_with (go_at_call 163;refine y.out.mono ?_;rintro r M⟨rfl,D⟩;obtain⟨E,V,f5⟩:=z.out M D;have N:=hid E;clear D E)
 all_goals go_wp2
 all_goals go_ret
 all_goals exact⟨rfl,N.out⟩
def Bn(B b n:Nat)(S:Nat->Prop)(T:Nat->List Let)(j:Nat)(r:List Let)(w w':World):Prop:=MU w' B b n S (db T j r)/\OnlyS S w w'
theorem IJ(h:MU w B b n S T){j:Nat}(A:j<n){l:Let}{r:List Let}(C:T j=l::r)(G:fh n T<100000):
  Calls prog 77 #[.pointer (some ⟨b,0,none⟩),.int .i64 j] w fun e w'=>e=.returned (.tuple #[gC l,.bool true])/\Bn B b n S T j r w w':=by
 obtain⟨g,ids,le,nx,cx,ls,q,H,I⟩:=h;have i:Below w.heap.size w (w.alloc (.cells #[.string ⟨#[]⟩,.int .u8 0] 146)):=da w _;have a:¬MS b g ids w.heap.size:=fun h=>Nat.lt_irrefl _ (q.mr.lt h)
 have o:=H j A;rw[C]at o;obtain⟨x,f,u,rfl,rfl⟩:=List.map_eq_cons_iff.1 o;have d:=q.keep (q.mr.later i);have O:=hid (yC d A);rw[u,List.length_cons]at O;have D:=vJ T (f.map le) A;rw[C,List.length_cons]at D
 obtain⟨t,P⟩:∃t,fh n T=t+1:=⟨fh n T-1,by have:=r' T A;rw[C,List.length_cons]at this;omega⟩
 have M:f.length<=t:=by have:=r' T A;rw[C,List.length_cons,List.length_map]at this;omega
 have E:fh n (db T j (f.map le))=t:=by omega
 rw[P]at d;have ct:=d.mr.cellB.2;have ft:=d.mr.frozen (.inl rfl) 1;obtain⟨J,L⟩:=d.mr.storeT (t:Nat);have cb:=J.cellB.1
 have Q:MOk ((w.alloc (.cells #[.string ⟨#[]⟩,.int .u8 0] 146)).setCell ⟨b,1,none⟩ (.int .i64 (t:Nat))) B b g n ids le nx cx (t:Nat) ls:=⟨J,d.sub,d.nodup,d.apart,d.first,d.last,d.count,d.chain⟩
 have Z:=hid (Ht Q A u (by omega));have aa:(j:Int)<(n:Int):=by omega
 have F:=L.row (heap_alloc_new w _) a
 have HE:Hid (∀W,pS B b g n ids le nx (t:Nat) ls j f ((w.alloc (.cells #[.string ⟨#[]⟩,.int .u8 0] 146)).setCell ⟨b,1,none⟩ (.int .i64 (t:Nat))) W->W.heap[w.heap.size]?=some (.cells #[.string ⟨#[]⟩,.int .u8 0] 146 (0,0))/\Bn B b n S T j (f.map le) w ((W.setCell ⟨w.heap.size,0,none⟩ (.string ⟨(le x).s.toArray⟩)).setCell ⟨w.heap.size,1,none⟩ (.int .u8 (le x).set))):=by
  rintro W⟨N,R,U⟩;have c:=U.row F a;refine⟨c,⟨g,ids,le,nx,N,db ls j f,?_,fun k hk=>?_,I⟩,?_⟩
  ·rw[E]
   exact R.keep (R.mr.onlyS (((OnlyS.refl (fun z=>z=w.heap.size) _).setCell (p:=⟨w.heap.size,0,none⟩) rfl (.string ⟨(le x).s.toArray⟩)).setCell (p:=⟨w.heap.size,1,none⟩) rfl (.int .u8 (le x).set)) fun z hz e=>a (e▸hz))
  ·by_cases e:k=j
   ·subst e;rw[dg,dg]
   ·rw[dh _ _ e,dh _ _ e,H k hk]
  ·exact tk ((((OnlyS.of_below i).trans L).trans U).mono fun y _ hy=>(I y).1 hy) (Nat.le_refl _) _ _
 have ab:t<100000:=by omega
 clear q d Q J L H I i a o C F D E u M P G;generalize f.map le=V at *;generalize f.length=m at *;go_enter func77,ntmps77;go_wp2_with fail;refine O.out.mono ?_;rintro r w'⟨rfl,rfl⟩;have ac:(((m+1:Nat):Int)==0)=false:=by rw[beq_eq_false_iff_ne];omega
 go_wp2_with fail
 refine Z.out.mono ?_;rintro r w3⟨rfl,X⟩;obtain⟨c,Y⟩:=HE.out w3 X;obtain⟨x0,y0,x1,y1,V,r1,_⟩:=uR c (.string ⟨(le x).s.toArray⟩) (.int .u8 (le x).set);have HR:=hid Y;clear X Y c;go_wp2;refine bodyPost_ret (v:=.tuple #[gC (le x),.bool true]) (by simp[results,results77,go_sem,V,r1]) rfl ?_;exact⟨rfl,HR.out⟩
theorem take_zero(p:Option Addr)(z:Int)(w:World)(h:Calls prog 123 #[.pointer p,.int .i64 z] (w.alloc (.cells #[.string ⟨#[]⟩,.int .u8 0] 146)) fun r w'=>r=.returned (.int .i64 0)/\w.alloc (.cells #[.string ⟨#[]⟩,.int .u8 0] 146)=w'):
  Calls prog 77 #[.pointer p,.int .i64 z] w fun e w'=>e=.returned (.tuple #[gC nG,.bool false])/\Below w.heap.size w w':=by
 have a:=hid h;have b:=hid (da w (.cells #[.string ⟨#[]⟩,.int .u8 0] 146));clear h;go_enter func77,ntmps77;go_wp2_with fail;refine a.out.mono ?_;rintro r w'⟨rfl,rfl⟩;go_wp2;refine bodyPost_ret (v:=.tuple #[gC nG,.bool false]) (by simp[results,results77,go_sem,nG]) rfl ?_;exact⟨rfl,b.out⟩
theorem II(h:MU w B b n S T){j:Nat}(a:j<n)(c:T j=[]):
  Calls prog 77 #[.pointer (some ⟨b,0,none⟩),.int .i64 j] w fun e w'=>e=.returned (.tuple #[gC nG,.bool false])/\Below w.heap.size w w':=
 take_zero _ _ w (by have:=IN (h.later (da w (.cells #[.string ⟨#[]⟩,.int .u8 0] 146))) a;rw[c]at this;exact this)
def lY(p:Nat):Value:=if p%3=2 then .int .i64 0 else .pointer none
theorem IA(n:Nat):madeCells #[.pointer none,.pointer none,.int .i64 0] (n*3)=jx (n*3) lY:=by
 refine LV _ _ (by simp[madeCells]) fun i a=>?_
 have b:i%3=0∨i%3=1∨i%3=2:=by omega
 unfold madeCells lY;rw[Array.getElem?_map,Array.getElem?_range,if_pos a];show some (#[Value.pointer none,.pointer none,.int .i64 0][i%3]!)=_
 rcases b with h|h|h <;> rw[h] <;> rfl
theorem IL{n:Nat}(h1:1<=n)(b:n<=64)(w:World):Calls prog 34 #[.int .i64 n] w fun r w'=>r=.returned (.tuple #[.pointer (some ⟨w.heap.size+1,0,none⟩),.int .i64 0])/\Below w.heap.size w w'/\∃S,MU w' w.heap.size (w.heap.size+1) n S (fun _=>[])/\∀y,S y->w.heap.size<=y:=by
 have c:∀W:World,(Instr.makeSlice 122 (.int .i64 (n:Int)) (.int .i64 (n:Int))).run prog W=.ok (.slice (some ⟨W.heap.size,0,none⟩) n n) (W.alloc (.cells (madeCells #[.pointer none,.pointer none,.int .i64 0] (n*3)) 211)):=lJ (P:=prog) 122 211 (.agg #[.pointer none,.pointer none,.int .i64 0]) 3 24 underlying122 (by kernel_rfl) n (by omega) (by omega);have f:=hid (IA n);have d:decide ((n:Int)<1)=false:=decide_eq_false (by omega);have e:decide ((64:Int)<(n:Int))=false:=decide_eq_false (by omega);clear h1 b;go_enter func34,ntmps34;go_wp2;refine bodyPost_ret (v:=.tuple #[.pointer (some ⟨w.heap.size+1,0,none⟩),.int .i64 0]) (by simp[results,results34,go_sem]) rfl ?_;rw[f.out];refine⟨rfl,eH w _ _,_,⟨w.heap.size,[],fun _=>nG,fun _=>none,lY,fun _=>[],⟨?_,(fun j _ x hx=>by cases hx),fun _ _=>List.nodup_nil,(fun j k _ _ _ x hx=>by cases hx),fun j _=>?_,fun j _=>?_,fun j _=>?_,fun j _ i g=>absurd g (Nat.not_lt_zero _)⟩,fun _ _=>rfl,fun _=>Iff.rfl⟩,fun y a=>?_⟩
 ·have h:fh n (fun _=>([]:List Let))=0:=by
   clear f c d e
   induction n with
   |zero=>rfl
   |succ n l=>rw[ng,l];rfl
  have m:=heap_alloc_new w (.cells (jx (n*3) lY) 211);have hb:=heap_alloc_new (w.alloc (.cells (jx (n*3) lY) 211)) (.cells #[.slice (some ⟨w.heap.size,0,none⟩) n n,.int .i64 0] 124);rw[World.size_alloc]at hb;refine⟨by simp;omega,by omega,Nat.le_refl _,?_,?_,fun x hx=>by cases hx⟩
  ·rw[h];exact hb
  ·exact((da _ _).block _ (by simp)).trans m
 ·unfold lY;rw[if_neg (by omega)];rfl
 ·unfold lY;rw[if_neg (by omega)];rfl
 ·unfold lY;rw[if_pos (by omega)];rfl
 ·rcases a with rfl|rfl|a
  ·omega
  ·exact Nat.le_refl _
  ·cases a
end
end
section
structure Ahd{α:Type}(lt:α->α->Bool):Prop where
 asym:∀a b,lt a b=true->lt b a=false
 trans:∀a b c,lt b a=false->lt c b=false->lt c a=false
section
variable{α:Type}{lt:α->α->Bool}{n:Nat}{f:Nat->α}
def gJ(lt:α->α->Bool)(n:Nat)(f:Nat->α):Prop:=∀k,1<=k->k<n->lt (f k) (f ((k-1)/2))=false
def hJ(lt:α->α->Bool)(n:Nat)(f:Nat->α)(j:Nat):Prop:=(∀k,1<=k->k<n->k≠j->lt (f k) (f ((k-1)/2))=false)/\(1<=j->∀k,1<=k->k<n->(k-1)/2=j->lt (f k) (f ((j-1)/2))=false)
def ko(lt:α->α->Bool)(n:Nat)(f:Nat->α)(i:Nat):Prop:=(∀k,1<=k->k<n->k≠i->(k-1)/2≠i->lt (f k) (f ((k-1)/2))=false)/\(1<=i->∀k,1<=k->k<n->(k-1)/2=i->lt (f k) (f ((i-1)/2))=false)
def jn(f:Nat->α)(i j:Nat):Nat->α:=fun k=>if k=i then f j else if k=j then f i else f k
theorem mi(i j:Nat):jn f i j i=f j:=by simp[jn]
theorem mh(i j:Nat):jn f i j j=f i:=by
 unfold jn
 split
 ·rename_i h;rw[h]
 ·simp
theorem iV{i j k:Nat}(h1:k≠i)(h2:k≠j):jn f i j k=f k:=by simp[jn,h1,h2]
theorem vu(h:hJ lt n f 0):gJ lt n f:=fun k a b=>h.1 k a b (by omega)
theorem vw{j:Nat}(h:hJ lt n f j)(e:lt (f j) (f ((j-1)/2))=false):gJ lt n f:=fun k b c=>by
 by_cases a:k=j
 ·rw[a];exact e
 ·exact h.1 k b c a
theorem Cf(o:Ahd lt){j:Nat}(h:hJ lt n f j)(s:1<=j)(v:j<n)(e:lt (f j) (f ((j-1)/2))=true):hJ lt n (jn f ((j-1)/2) j) ((j-1)/2):=by
 obtain⟨p,l⟩:∃p,p=(j-1)/2:=⟨_,rfl⟩
 rw[<-l]at e ⊢;have u:p<j:=by omega
 obtain⟨g,i⟩:=h;have i:=i s;rw[<-l]at i
 constructor
 ·intro k b c m
  by_cases a:k=j
  ·subst a
   rw[mh,<-l,mi];exact o.asym _ _ e
  ·rw[iV m a]
   by_cases q:(k-1)/2=p
   ·rw[q,mi]
    have:=g k b c a;rw[q]at this;exact o.trans _ _ _ (o.asym _ _ e) this
   ·by_cases r:(k-1)/2=j
    ·rw[r,mh]
     exact i k b c r
    ·rw[iV q r]
     exact g k b c a
 ·intro t k b c m
  have d:lt (f p) (f ((p-1)/2))=false:=g p t (by omega) (by omega);rw[iV (k:=(p-1)/2) (by omega) (by omega)]
  by_cases a:k=j
  ·subst a
   rw[mh];exact d
  ·rw[iV (by omega) a]
   have:=g k b c a;rw[m]at this;exact o.trans _ _ _ d this
theorem uC(o:Ahd lt){i c:Nat}(h:ko lt n f i)(v:c=2*i+1∨c=2*i+2)(p:c<n)(r:∀d,1<=d->d<n->(d-1)/2=i->lt (f d) (f c)=false)(e:lt (f c) (f i)=true):
  ko lt n (jn f i c) c/\lt (jn f i c c) (jn f i c ((c-1)/2))=false:=by
 have j:(c-1)/2=i:=by omega
 have u:i<c:=by omega
 obtain⟨m,s⟩:=h;refine⟨⟨?_,?_⟩,?_⟩
 ·intro k b g l t
  by_cases a:k=i
  ·subst a
   rw[mi,iV (by omega) (by omega)];exact s b c (by omega) p j
  ·rw[iV a l]
   by_cases q:(k-1)/2=i
   ·rw[q,mi]
    exact r k b g q
   ·rw[iV q t]
    exact m k b g a q
 ·intro _ k b g l
  rw[j,mi,iV (by omega) (by omega)];have:=m k b g (by omega) (by omega);rw[l]at this;exact this
 ·rw[j,mh,mi]
  exact o.asym _ _ e
theorem ru{i:Nat}(h:ko lt n f i)(c:∀d,1<=d->d<n->(d-1)/2=i->lt (f d) (f i)=false):hJ lt n f i:=by
 refine⟨fun k a b e=>?_,h.2⟩
 by_cases q:(k-1)/2=i
 ·rw[q];exact c k a b q
 ·exact h.1 k a b e q
theorem AI(o:Ahd lt){i:Nat}(h:¬ 2*i+2<n∨lt (f (2*i+2)) (f (2*i+1))=false):∀d,1<=d->d<n->(d-1)/2=i->lt (f d) (f (2*i+1))=false:=by
 intro d d1 d2 d3;obtain rfl|rfl:d=2*i+1∨d=2*i+2:=by omega
 ·cases hb:lt (f (2*i+1)) (f (2*i+1))
  ·rfl
  ·exact(o.asym _ _ hb).symm.trans hb |> fun h=>by cases h
 ·rcases h with h|h
  ·omega
  ·exact h
theorem Mv(o:Ahd lt){i:Nat}(h:lt (f (2*i+2)) (f (2*i+1))=true):∀d,1<=d->d<n->(d-1)/2=i->lt (f d) (f (2*i+2))=false:=by
 intro d d1 d2 d3;obtain rfl|rfl:d=2*i+1∨d=2*i+2:=by omega
 ·exact o.asym _ _ h
 ·cases hb:lt (f (2*i+2)) (f (2*i+2))
  ·rfl
  ·exact(o.asym _ _ hb).symm.trans hb |> fun h=>by cases h
theorem Ki(o:Ahd lt)(h:gJ lt n f):∀k,k<n->lt (f k) (f 0)=false:=by
 intro k
 induction k using Nat.strongRecOn with
 |ind k a=>
  intro b
  by_cases c:k=0
  ·subst c
   cases hb:lt (f 0) (f 0)
   ·rfl
   ·exact(o.asym _ _ hb).symm.trans hb |> fun h=>by cases h
  ·have d:=h k (by omega) b
   have e:=a ((k-1)/2) (by omega) (by omega);exact o.trans _ _ _ e d
theorem Kk(h:gJ lt n f):hJ lt (n+1) f n:=⟨fun k a b c=>h k a (by omega),fun _ k a b c=>by omega⟩
theorem Km(h:gJ lt (n+1) f):gJ lt n f:=fun k a b=>h k a (by omega)
theorem zs(o:Ahd lt)(h:gJ lt (n+1) f){i:Nat}:ko lt n (jn f i n) i:=by
 refine⟨fun k b e c g=>?_,fun j k b e c=>?_⟩
 ·rw[iV c (by omega),iV g (by omega)]
  exact h k b (by omega)
 ·rw[iV (by omega) (by omega),iV (by omega) (by omega)]
  have d:=h k b (by omega);rw[c]at d;exact o.trans _ _ _ (h i j (by omega)) d
theorem zt{g:Nat->α}(h:gJ lt n f)(e:∀k,k<n->f k=g k):gJ lt n g:=fun k b a=>by rw[<-e k a,<-e _ (by omega)];exact h k b a
theorem Cg{g:Nat->α}{j:Nat}(i:j<n)(h:hJ lt n f j)(e:∀k,k<n->f k=g k):hJ lt n g j:=
 ⟨fun k b a c=>by rw[<-e k a,<-e _ (by omega)];exact h.1 k b a c,fun d k b a c=>by rw[<-e k a,<-e _ (by omega)];exact h.2 d k b a c⟩
theorem pt{g:Nat->α}{i:Nat}(l:i<=n)(h:ko lt n f i)(e:∀k,k<n->f k=g k):ko lt n g i:=
 ⟨fun k b a c d=>by rw[<-e k a,<-e _ (by omega)];exact h.1 k b a c d,fun j k b a c=>by rw[<-e k a,<-e _ (by omega)];exact h.2 j k b a c⟩
end
def eX(l:List Nat)(i j:Nat):List Nat:=(l.set i (l.getD j 0)).set j (l.getD i 0)
theorem sj(l:List Nat)(i j:Nat):(eX l i j).length=l.length:=by simp[eX]
theorem CZ{l:List Nat}{i j:Nat}(a:i<l.length)(b:j<l.length):(eX l i j).Perm l:=by
 have h:=Array.swap_perm (xs:=l.toArray) (i:=i) (j:=j) (by simpa using a) (by simpa using b);rw[List.swap_toArray]at h;have c:=Array.perm_iff_toList_perm.1 h;simpa [eX,List.getD,a,b]using c
theorem iC{l:List Nat}{i j:Nat}(c:i<l.length)(d:j<l.length)(k:Nat):(eX l i j).getD k 0=jn (fun k=>l.getD k 0) i j k:=by
 unfold eX jn
 by_cases b:k=j
 ·subst b
  by_cases a:k=i
  ·subst a;simp[List.getD,c]
  ·simp[List.getD,d,a]
 ·by_cases a:k=i
  ·subst a;simp[List.getD,c,Ne.symm b]
  ·simp[List.getD,b,a,Ne.symm b,Ne.symm a]
def gb(a b:df):Bool:=if a.length=b.length then decide (a<b)else decide (b.length<a.length)
theorem l9:Ahd gb:=by
 refine⟨fun a b h=>?_,fun a b c d f=>?_⟩
 ·unfold gb at *
  by_cases e:a.length=b.length
  ·rw[if_pos e]at h
   rw[if_pos e.symm];simp only[decide_eq_true_eq,decide_eq_false_iff_not]at *;exact fun j=>List.lt_irrefl _ (List.lt_trans h j)
  ·rw[if_neg e]at h
   rw[if_neg (Ne.symm e)];simp only[decide_eq_true_eq,decide_eq_false_iff_not]at *;omega
 ·unfold gb at *
  by_cases g:b.length=a.length <;> by_cases i:c.length=b.length
  ·rw[if_pos g]at d
   rw[if_pos i]at f;rw[if_pos (i.trans g)];simp only[decide_eq_false_iff_not]at *;exact List.not_lt.2 (List.le_trans (List.not_lt.1 d) (List.not_lt.1 f))
  ·rw[if_pos g]at d
   rw[if_neg i]at f;rw[if_neg (by omega)];simp only[decide_eq_false_iff_not]at *;omega
  ·rw[if_neg g]at d
   rw[if_pos i]at f;rw[if_neg (by omega)];simp only[decide_eq_false_iff_not]at *;omega
  ·rw[if_neg g]at d
   rw[if_neg i]at f;simp only[decide_eq_false_iff_not]at *;rw[if_neg (by omega)];simp only[decide_eq_false_iff_not]at *;omega
theorem Bj{a b:df}(h1:gb a b=false)(h2:gb b a=false):a=b:=by
 unfold gb at *
 by_cases e:a.length=b.length
 ·rw[if_pos e]at h1
  rw[if_pos e.symm]at h2;simp only[decide_eq_false_iff_not]at *;exact List.le_antisymm (List.not_lt.1 h2) (List.not_lt.1 h1)
 ·rw[if_neg e]at h1
  rw[if_neg (Ne.symm e)]at h2;simp only[decide_eq_false_iff_not]at *;omega
def eU:List df->df->List df
 | [],s=>[s]
 |x::l,s=>if gb s x=true then s::x::l else x::eU l s
theorem lK(l:List df)(s:df):(eU l s).Perm (s::l):=by
 induction l with
 |nil=>exact List.Perm.refl _
 |cons x l a=>
  unfold eU
  split
  ·exact List.Perm.refl _
  ·exact(a.cons x).trans (List.Perm.swap _ _ _)
def gH(l:List df):Prop:=l.Pairwise fun x y=>gb y x=false
theorem Bi(a:df):gb a a=false:=by
 cases h:gb a a
 ·rfl
 ·have:=l9.asym _ _ h
  rw[h]at this;exact this
theorem xh{l:List df}(h:gH l)(s:df):gH (eU l s):=by
 induction l with
 |nil=>unfold eU gH;simp
 |cons x l b=>
  unfold gH at h;rw[List.pairwise_cons]at h;unfold eU
  split
  ·rename_i e
   unfold gH;rw[List.pairwise_cons,List.pairwise_cons];refine⟨fun y a=>?_,h.1,h.2⟩;rcases List.mem_cons.1 a with rfl|a
   ·exact l9.asym _ _ e
   ·exact l9.trans _ _ _ (l9.asym _ _ e) (h.1 y a)
  ·rename_i e
   unfold gH;rw[List.pairwise_cons];refine⟨fun y a=>?_,b h.2⟩;have:=(lK l s).subset a;rcases List.mem_cons.1 this with rfl|a
   ·simpa using e
   ·exact h.1 y a
theorem DD{l b:List df}{k x:df}(h:gH (x::l))(p:(k::b).Perm (x::l))(c:∀y∈x::l,gb y k=false):k=x/\b.Perm l:=by
 have a:k∈x::l:=p.subset (List.mem_cons_self);unfold gH at h;rw[List.pairwise_cons]at h
 have d:gb k x=false:=by
  rcases List.mem_cons.1 a with rfl|f
  ·exact Bi _
  ·exact h.1 k f
 have e:k=x:=Bj d (c x (List.mem_cons_self));subst e;exact⟨rfl,p.cons_inv⟩
theorem DC{l c:List df}{k x:df}(h:gH (l++[x]))(p:(k::c).Perm (l++[x]))(d:∀y∈l++[x],gb k y=false):k=x/\c.Perm l:=by
 have b:k∈l++[x]:=p.subset (List.mem_cons_self);unfold gH at h;rw[List.pairwise_append]at h
 have f:gb x k=false:=by
  rcases List.mem_append.1 b with a|a
  ·exact h.2.2 k a x (by simp)
  ·simp at a;subst a;exact Bi _
 have e:k=x:=Bj (d x (by simp)) f;subst e;exact⟨rfl,(p.trans (List.perm_append_singleton _ _)).cons_inv⟩
theorem gH.tail{l:List df}{x:df}(h:gH (x::l)):gH l:=(List.pairwise_cons.1 h).2
theorem gH.init{l:List df}{x:df}(h:gH (l++[x])):gH l:=(List.pairwise_append.1 h).1
end
section
open Go.RowKit
def dR(pre:Nat->df)(s:Nat)(x y:Nat):Bool:=if s=1 then gb (pre y) (pre x)else gb (pre x) (pre y)
theorem js(pre:Nat->df)(s:Nat):Ahd (dR pre s):=by
 unfold dR
 by_cases h:s=1
 ·simp only[h,if_true]
  exact⟨fun a b h=>l9.asym _ _ h,fun a b c d e=>l9.trans _ _ _ e d⟩
 ·simp only[h,if_false]
  exact⟨fun a b h=>l9.asym _ _ h,fun a b c d e=>l9.trans _ _ _ d e⟩
def gW(g:Nat):List Value:=[.pointer (some ⟨g,0,none⟩)]
theorem nI(g:Nat):(gW g).length=1:=rfl
theorem y7(g:Nat):∀v∈gW g,v.oneCell'=true:=by
 intro v a;simp[gW]at a;subst a;rfl
theorem ph(l:List Nat):dA gW l=l.map fun g=>Value.pointer (some ⟨g,0,none⟩):=by
 induction l with
 |nil=>rfl
 |cons a l b=>show gW a++dA gW l=_;rw[b];rfl
def pi(pre:Nat->df)(pl:Nat->Nat->Int)(x:Nat):Array Value:=#[.string ⟨(pre x).toArray⟩,.int .i64 (pl 0 x),.int .i64 (pl 1 x)]
structure QR(w:World)(B b:Nat)(pre:Nat->df)(ids:List Nat)(vs:Nat->Value)(pl:Nat->Nat->Int)(ls:Nat->List Nat):Prop where
 low:B<=w.heap.size
 lowb:B<=b
 box:w.heap[b]?=some (.cells #[vs 0,vs 1] 186 (0,0))
 row:∀s,s<2->dc w B 278 1 gW (vs s) (ls s)
 len:∀s,s<2->(ls s).length<=100000
 apart:∀x,(vs 0).ownBlock=some x->(vs 1).ownBlock=some x->False
 item:∀x∈ids,B<=x/\w.heap[x]?=some (.cells (pi pre pl x) 280 (0,0))
 sub:∀s,s<2->∀x∈ls s,x∈ids
def QS(b:Nat)(ids:List Nat)(vs:Nat->Value)(x:Nat):Prop:=x=b∨(vs 0).ownBlock=some x∨(vs 1).ownBlock=some x∨x∈ids
section
variable{w w':World}{B b:Nat}{pre:Nat->df}{ids:List Nat}{vs:Nat->Value}{pl:Nat->Nat->Int}{ls:Nat->List Nat}
theorem eA{s:Nat}(h:s<2):s=0∨s=1:=by omega
theorem QS.own{s:Nat}(a:s<2){x:Nat}(h:(vs s).ownBlock=some x):QS b ids vs x:=by
 rcases eA a with rfl|rfl
 ·exact .inr (.inl h)
 ·exact .inr (.inr (.inl h))
theorem QR.kinds(q:QR w B b pre ids vs pl ls){x:Nat}(hx:QS b ids vs x):B<=x/\∃c e,w.heap[x]?=some (.cells c e (0,0))/\(e=186∨e=278∨e=280):=by
 rcases hx with rfl|hx|hx|hx
 ·exact⟨q.lowb,_,_,q.box,.inl rfl⟩
 ·obtain⟨a,c,d⟩:=(q.row 0 (by omega)).kindQ hx
  exact⟨a,c,_,d,.inr (.inl rfl)⟩
 ·obtain⟨a,c,d⟩:=(q.row 1 (by omega)).kindQ hx
  exact⟨a,c,_,d,.inr (.inl rfl)⟩
 ·obtain⟨a,d⟩:=q.item x hx
  exact⟨a,_,_,d,.inr (.inr rfl)⟩
theorem QR.lt(q:QR w B b pre ids vs pl ls){x:Nat}(hx:QS b ids vs x):x<w.heap.size:=by
 obtain⟨_,c,a,h,_⟩:=q.kinds hx;exact(Array.getElem?_eq_some_iff.1 h).1
theorem QR.keep(q:QR w B b pre ids vs pl ls)(d:B<=w'.heap.size)(a:∀x,QS b ids vs x->w'.heap[x]?=w.heap[x]?):QR w' B b pre ids vs pl ls:=
 ⟨d,q.lowb,(a _ (.inl rfl)).trans q.box,fun s c=>(q.row s c).keepQ fun g e=>a g (.own c e),q.len,q.apart,fun x hx=>⟨(q.item x hx).1,(a x (.inr (.inr (.inr hx)))).trans (q.item x hx).2⟩,q.sub⟩
theorem QR.later(q:QR w B b pre ids vs pl ls)(hb:Below w.heap.size w w'):QR w' B b pre ids vs pl ls:=
 q.keep (Nat.le_trans q.low hb.size) fun x hx=>hb.block x (q.lt hx)
theorem QR.drew(q:QR w B b pre ids vs pl ls):QR w.drew B b pre ids vs pl ls:=q.keep q.low fun _ _=>rfl
theorem QR.onlyS{S:Nat->Prop}(q:QR w B b pre ids vs pl ls)(a:OnlyS S w w')(c:∀x,QS b ids vs x->¬S x):QR w' B b pre ids vs pl ls:=
 q.keep (Nat.le_trans q.low a.size) fun x hx=>a.block x (q.lt hx) (c x hx)
theorem QR.cellB(q:QR w B b pre ids vs pl ls){s:Nat}(a:s<2):w.cell? ⟨b,s,none⟩=some (vs s):=by
 rw[cell_of_row w b s _ _ _ q.box]
 rcases eA a with rfl|rfl <;> rfl
theorem QR.cellI(q:QR w B b pre ids vs pl ls){x:Nat}(hx:x∈ids):w.cell? ⟨x,0,none⟩=some (.string ⟨(pre x).toArray⟩)/\∀s,s<2->w.cell? ⟨x,1+s,none⟩=some (.int .i64 (pl s x)):=
 ⟨by rw[cell_of_row w x 0 _ _ _ (q.item x hx).2];rfl,fun s a=>by rw[cell_of_row w x _ _ _ _ (q.item x hx).2];rcases eA a with rfl|rfl <;> rfl⟩
theorem QR.cellR(q:QR w B b pre ids vs pl ls){s:Nat}(k:s<2)(l:ls s≠[]):∃g a,vs s=.slice (some ⟨g,0,none⟩) (ls s).length a/\(vs s).ownBlock=some g/\g<w.heap.size/\w.frozen? ⟨g,0,none⟩=false/\(∀j,w.frozen? ⟨g,j,none⟩=false)/\∀j,j<(ls s).length->w.cell? ⟨g,j,none⟩=some (.pointer (some ⟨(ls s).getD j 0,0,none⟩)):=by
 obtain⟨m,⟨d,f⟩|⟨g,a,e,d,f,c,n,o,p,h⟩⟩:=q.row s k
 ·exact absurd (List.eq_nil_of_length_eq_zero f) l
 ·refine⟨g,a,d,by rw[d];rfl,(Array.getElem?_eq_some_iff.1 c).1,by simp[World.frozen?,c],fun j=>by simp[World.frozen?,c],fun j i=>?_⟩
  rw[cell_of_row w g j _ _ _ c];rw[ph,Nat.mul_one]at h
  have:(e.toList.take (ls s).length)[j]?=some (.pointer (some ⟨(ls s).getD j 0,0,none⟩)):=by
   rw[h];simp[List.getD,i]
  rw[List.getElem?_take_of_lt i]at this;simpa using this
theorem QR.storeR(q:QR w B b pre ids vs pl ls){s:Nat}(l:s<2){i x g:Nat}(I:i<(ls s).length)(hx:x∈ids)(d:(vs s).ownBlock=some g):QR (w.setCell ⟨g,i,none⟩ (.pointer (some ⟨x,0,none⟩))) B b pre ids vs pl (db ls s ((ls s).set i x))/\OnlyS (QS b ids vs) w (w.setCell ⟨g,i,none⟩ (.pointer (some ⟨x,0,none⟩))):=by
 have C:QS b ids vs g:=.own l d;have h:=q.row s l;obtain⟨H,c,o⟩:=h.kindQ d;have j:∀y,y≠g->(w.setCell ⟨g,i,none⟩ (.pointer (some ⟨x,0,none⟩))).heap[y]?=w.heap[y]?:=fun y a=>Below.heap_setCell _ _ _ _ a
 refine⟨⟨by rw[World.size_setCell];exact q.low,q.lowb,(j _ ?_).trans q.box,fun t f=>?_,fun t f=>?_,q.apart,fun y a=>⟨(q.item y a).1,(j y ?_).trans (q.item y a).2⟩,fun t f y a=>?_⟩,(OnlyS.refl _ _).setCell (p:=⟨g,i,none⟩) C _⟩
 ·rintro rfl
  have:=q.box;rw[o]at this;injection this with this;injection this with _ this;exact absurd this (by decide)
 ·by_cases e:t=s
  ·subst e
   rw[dg];obtain⟨r,⟨k,u⟩|⟨v,m,n,k,u,D,E,F,G,z⟩⟩:=h
   ·rw[k]at d;simp[Value.ownBlock]at d
   ·rw[k]at d;simp[Value.ownBlock]at d;subst d
    refine⟨by rw[gF nI],.inr ⟨v,m,n.setIfInBounds i (.pointer (some ⟨x,0,none⟩)),by rw[List.length_set];exact k,u,?_,by rw[List.length_set];exact E,F,by simp[G],?_⟩⟩
    ·rw[heap_setCell_same w v i _ _ _ D]
    ·rw[ph]at z ⊢
     rw[List.length_set,List.map_set,<-z,Nat.mul_one,Array.toList_setIfInBounds,List.take_set]
  ·rw[dh _ _ e]
   refine(q.row t f).keepQ fun y a=>j y ?_
   rintro rfl
   rcases eA l with rfl|rfl <;> rcases eA f with rfl|rfl
   ·exact e rfl
   ·exact q.apart y d a
   ·exact q.apart y a d
   ·exact e rfl
 ·by_cases e:t=s
  ·subst e;rw[dg,List.length_set];exact q.len t f
  ·rw[dh _ _ e];exact q.len t f
 ·rintro rfl
  have:=(q.item y a).2;rw[o]at this;injection this with this;injection this with _ this;exact absurd this (by decide)
 ·by_cases e:t=s
  ·subst e
   rw[dg]at a;rcases List.mem_or_eq_of_mem_set a with r|rfl
   ·exact q.sub t f y r
   ·exact hx
  ·rw[dh _ _ e]at a
   exact q.sub t f y a
def ib(pl:Nat->Nat->Int)(s x:Nat)(v:Int):Nat->Nat->Int:=db pl s (db (pl s) x v)
theorem QR.storeP(q:QR w B b pre ids vs pl ls){s:Nat}(h:s<2){x:Nat}(hx:x∈ids)(v:Int):QR (w.setCell ⟨x,1+s,none⟩ (.int .i64 v)) B b pre ids vs (ib pl s x v) ls/\OnlyS (QS b ids vs) w (w.setCell ⟨x,1+s,none⟩ (.int .i64 v))/\w.frozen? ⟨x,1+s,none⟩=false:=by
 have a:=(q.item x hx).2;have d:∀y,y≠x->(w.setCell ⟨x,1+s,none⟩ (.int .i64 v)).heap[y]?=w.heap[y]?:=fun y f=>Below.heap_setCell _ _ _ _ f
 refine⟨⟨by rw[World.size_setCell];exact q.low,q.lowb,(d _ ?_).trans q.box,fun t i=>(q.row t i).keepQ fun y f=>d y ?_,q.len,q.apart,fun y f=>⟨(q.item y f).1,?_⟩,q.sub⟩,(OnlyS.refl _ _).setCell (p:=⟨x,1+s,none⟩) (.inr (.inr (.inr hx))) _,by simp[World.frozen?,a]⟩
 ·rintro rfl
  have:=q.box;rw[a]at this;injection this with this;injection this with _ this;exact absurd this (by decide)
 ·rintro rfl
  obtain⟨_,c,g⟩:=(q.row t i).kindQ f;rw[a]at g;injection g with g;injection g with _ g;exact absurd g (by decide)
 ·by_cases e:y=x
  ·subst e
   rw[heap_setCell_same w y (1+s) _ _ _ a]
   rcases eA h with rfl|rfl <;> simp[pi,ib,db]
  ·rw[d y e,(q.item y f).2]
   rcases eA h with rfl|rfl <;> simp[pi,ib,db,e]
end
end
section
open Go.Proofs.Tryz Go.RowKit
theorem yL:∀(x y:List UInt8),Op.bytesLess x y=decide (x<y)
 | [],[]=>by rfl
 | [],b::y=>by simp[Op.bytesLess]
 |a::x,[]=>by simp[Op.bytesLess]
 |a::x,b::y=>by
  simp only[Op.bytesLess,yL x y]
  by_cases h:a<b <;> by_cases e:a=b <;> simp_all[List.cons_lt_cons_iff]
theorem xe(a b:df)(w:World):Calls prog 248 #[.string ⟨a.toArray⟩,.string ⟨b.toArray⟩] w fun r d=>r=.returned (.bool (gb a b))/\w=d:=by
 have g:(⟨a.toArray⟩:ByteArray).size=a.length:=by simp[ByteArray.size]
 have i:(⟨b.toArray⟩:ByteArray).size=b.length:=by simp[ByteArray.size]
 by_cases e:a.length=b.length
 ·have c:Hid (gb a b=Op.bytesLess a b):=by show _=_;unfold gb;rw[if_pos e,yL]
  have f:((a.length:Int)==b.length)=true:=by simp[e]
  go_enter func248,ntmps248;go_wp2;go_ret;exact⟨by rw[c.out];rfl,rfl⟩
 ·have c:Hid (gb a b=decide (b.length<a.length)):=by show _=_;unfold gb;rw[if_neg e]
  have f:((a.length:Int)==b.length)=false:=by simpa using fun h=>e (by omega)
  go_enter func248,ntmps248;go_wp2;go_ret;exact⟨by rw[c.out];rfl,rfl⟩
section
variable{w:World}{B b:Nat}{pre:Nat->df}{ids:List Nat}{vs:Nat->Value}{pl:Nat->Nat->Int}{ls:Nat->List Nat}
abbrev eW(b s:Nat):Value:=.agg #[.pointer (some ⟨b,0,none⟩),.int .i64 s]
theorem QR.sliceV(q:QR w B b pre ids vs pl ls){s:Nat}(d:s<2):∃a c,vs s=.slice a (ls s).length c:=by
 obtain⟨a,c,h,_⟩:=(q.row s d).form nI (by have:=q.len s d;omega);exact⟨a,c,h⟩
theorem rt(q:QR w B b pre ids vs pl ls){s:Nat}(d:s<2):Calls prog 243 #[eW b s] w fun r e=>r=.returned (.int .i64 (ls s).length)/\Below w.heap.size w e:=by
 obtain⟨a,h,f⟩:=q.sliceV d;have c:Below w.heap.size w (w.alloc (.cells #[.pointer (some ⟨b,0,none⟩),.int .i64 s] 261)):=da w _;have g:=(q.later c).cellB d;rw[f]at g;have i:(s:Int)<2:=by omega
 clear q;unfold eW;go_enter func243,ntmps243;go_wp2
 go_quiet (fail)
 go_wp2;go_ret;exact⟨rfl,c.drewN⟩
theorem pH(q:QR w B b pre ids vs pl ls){s:Nat}(u:s<2){i k:Nat}(z:i<(ls s).length)(J:k<(ls s).length):Calls prog 244 #[eW b s,.int .i64 i,.int .i64 k] w fun r N=>r=.returned (.bool (dR pre s ((ls s).getD i 0) ((ls s).getD k 0)))/\Below w.heap.size w N:=by
 have t:ls s≠[]:=fun e=>by rw[e]at z;exact absurd z (Nat.not_lt_zero _)
 have f:Below w.heap.size w (w.alloc (.cells #[.pointer (some ⟨b,0,none⟩),.int .i64 s] 261)):=da w _;have p:=q.later f;obtain⟨g,Q,O,_,_,_,_,F⟩:=p.cellR u t;have G:=p.cellB u;rw[O]at G;have A:=F i z;have C:=F k J;have L:(ls s).getD i 0∈ids:=q.sub s u _ (by simp[List.getD,z]);have M:(ls s).getD k 0∈ids:=q.sub s u _ (by simp[List.getD,J]);have D:=(p.cellI L).1;have E:=(p.cellI M).1;have R:(i:Int)<(ls s).length:=by omega
 have S:(k:Int)<(ls s).length:=by omega
 generalize (ls s).getD i 0=x at *;generalize (ls s).getD k 0=y at *;clear q p F t L M;generalize (ls s).length=n at *;have T:(s:Int)<2:=by omega
 have m:(w.alloc (.cells #[.pointer (some ⟨b,0,none⟩),.int .i64 s] 261)).cell? ⟨w.heap.size,1,none⟩=some (.int .i64 s):=by simp
 by_cases j:s=1
 case neg=>
  have H:Hid (dR pre s x y=gb (pre x) (pre y)):=by show _=_;unfold dR;rw[if_neg j]
  have P:((s:Int)==1)=false:=by simpa using fun h=>j (by omega)
  clear j;unfold eW;go_enter func244,ntmps244;go_wp2
  go_quiet (fail)
  obtain⟨l,d⟩:∃l,l=(w.alloc (.cells #[.pointer (some ⟨b,0,none⟩),.int .i64 s] 261)).drewN nq:=⟨_,rfl⟩
  have o:Below w.heap.size w l:=by rw[d];exact f.drewN
  have c:∀a v,(w.alloc (.cells #[.pointer (some ⟨b,0,none⟩),.int .i64 s] 261)).cell? a=some v->l.cell? a=some v:=fun a v h=>by rw[d];exact h
  replace A:=c _ _ A;replace C:=c _ _ C;replace D:=c _ _ D;replace E:=c _ _ E;replace m:=c _ _ m;rw[<-d];clear d f G c;go_wp2
  go_quiet ((go_at_call 248;exact Calls.quiet_of_same ((xe (pre x) (pre y) _).mono fun _ _ ⟨j,I⟩=>⟨j,I.symm⟩)))
  go_wp2;go_ret;exact⟨by rw[H.out];rfl,o.drewN⟩
 case pos=>
  have H:Hid (dR pre s x y=gb (pre y) (pre x)):=by show _=_;unfold dR;rw[if_pos j]
  have P:((s:Int)==1)=true:=by simp[j]
  clear j;unfold eW;go_enter func244,ntmps244;go_wp2
  go_quiet (fail)
  obtain⟨l,d⟩:∃l,l=(w.alloc (.cells #[.pointer (some ⟨b,0,none⟩),.int .i64 s] 261)).drewN nq:=⟨_,rfl⟩
  have o:Below w.heap.size w l:=by rw[d];exact f.drewN
  have c:∀a v,(w.alloc (.cells #[.pointer (some ⟨b,0,none⟩),.int .i64 s] 261)).cell? a=some v->l.cell? a=some v:=fun a v h=>by rw[d];exact h
  replace A:=c _ _ A;replace C:=c _ _ C;replace D:=c _ _ D;replace E:=c _ _ E;replace m:=c _ _ m;rw[<-d];clear d f G c;go_wp2
  go_quiet ((go_at_call 248;exact Calls.quiet_of_same ((xe (pre y) (pre x) _).mono fun _ _ ⟨j,I⟩=>⟨j,I.symm⟩)))
  go_wp2;go_ret;exact⟨by rw[H.out];rfl,o.drewN⟩
end
end
section
open Go.Lib (hid)
open Go.Proofs.Tryz Go.RowKit
section
variable{w:World}{B b:Nat}{pre:Nat->df}{ids:List Nat}{vs:Nat->Value}{pl:Nat->Nat->Int}{ls:Nat->List Nat}
theorem zR(q:QR w B b pre ids vs pl ls){x:Nat}(hx:x∈ids)(j:Nat):w.frozen? ⟨x,j,none⟩=false:=by simp[World.frozen?,(q.item x hx).2]
theorem QR.swap(q:QR w B b pre ids vs pl ls){s:Nat}(a:s<2){i k g:Nat}(c:i<(ls s).length)(d:k<(ls s).length)(e:(vs s).ownBlock=some g):
  QR ((w.setCell ⟨g,i,none⟩ (.pointer (some ⟨(ls s).getD k 0,0,none⟩))).setCell ⟨g,k,none⟩ (.pointer (some ⟨(ls s).getD i 0,0,none⟩))) B b pre ids vs pl (db ls s (eX (ls s) i k)) /\
  OnlyS (QS b ids vs) w ((w.setCell ⟨g,i,none⟩ (.pointer (some ⟨(ls s).getD k 0,0,none⟩))).setCell ⟨g,k,none⟩ (.pointer (some ⟨(ls s).getD i 0,0,none⟩))):=by
 have h:(ls s).getD i 0∈ids:=q.sub s a _ (by simp[List.getD,c]);have j:(ls s).getD k 0∈ids:=q.sub s a _ (by simp[List.getD,d]);obtain⟨l,m⟩:=q.storeR a c j e;obtain⟨f,n⟩:=l.storeR a (i:=k) (x:=(ls s).getD i 0) (g:=g) (by rw[dg,List.length_set];exact d) h e;rw[dg,ou]at f;exact⟨f,m.trans n⟩
theorem QR.not_other(q:QR w B b pre ids vs pl ls){x:Nat}{c:Array Value}{a:TypeId}(h:w.heap[x]?=some (.cells c a (0,0)))(h1:a≠186)(h2:a≠278)(d:a≠280):¬QS b ids vs x:=fun hx=>by
 obtain⟨_,i,g,e,f⟩:=q.kinds hx;rw[h]at e;injection e with e;injection e with _ e;rcases f with rfl|rfl|rfl
 ·exact h1 e
 ·exact h2 e
 ·exact d e
theorem QR.row_item(q:QR w B b pre ids vs pl ls){s:Nat}(a:s<2){g y:Nat}(d:(vs s).ownBlock=some g)(e:y∈ids):g≠y:=by
 rintro rfl;obtain⟨_,c,f⟩:=(q.row s a).kindQ d;have:=(q.item g e).2;rw[f]at this;injection this with this;injection this with _ this;exact absurd this (by decide)
theorem nV(q:QR w B b pre ids vs pl ls){s:Nat}(d:s<2){i k:Nat}(u:i<(ls s).length)(R:k<(ls s).length):Calls prog 247 #[eW b s,.int .i64 i,.int .i64 k] w fun r w'=>r=.returned (.tuple #[])/\QR w' B b pre ids vs (ib (ib pl s ((ls s).getD k 0) i) s ((ls s).getD i 0) k) (db ls s (eX (ls s) i k))/\OnlyS (QS b ids vs) w w':=by
 have D:ls s≠[]:=fun e=>by rw[e]at u;exact absurd u (Nat.not_lt_zero _)
 have l:Below w.heap.size w (w.alloc (.cells #[.pointer (some ⟨b,0,none⟩),.int .i64 s] 261)):=da w _;have z:=q.later l;have E:(w.alloc (.cells #[.pointer (some ⟨b,0,none⟩),.int .i64 s] 261)).cell? ⟨w.heap.size,1,none⟩=some (.int .i64 s):=by simp
 obtain⟨g,ad,hv,M,ae,_,S,T⟩:=z.cellR d D;have c0:=z.cellB d;rw[hv]at c0;have U:=T i u;have N:=T k R;have O:(ls s).getD i 0∈ids:=q.sub s d _ (by simp[List.getD,u]);have P:(ls s).getD k 0∈ids:=q.sub s d _ (by simp[List.getD,R]);have af:(i:Int)<(ls s).length:=by omega
 have ag:(k:Int)<(ls s).length:=by omega
 have ah:(s:Int)<2:=by omega
 have fi:=S i;have fk:=S k;obtain⟨_,V,j⟩:=(z.row s d).kindQ M
 have f:i<V.size/\k<V.size:=by
  rw[cell_of_row _ g i _ _ _ j]at U;rw[cell_of_row _ g k _ _ _ j]at N;exact⟨(Array.getElem?_eq_some_iff.1 U).1,(Array.getElem?_eq_some_iff.1 N).1⟩
 have h:∀n,((w.alloc (.cells #[.pointer (some ⟨b,0,none⟩),.int .i64 s] 261)).drewN n).heap[g]?=some (.cells V 278 (0,0)):=fun n=>j
 have L:∀n,(((w.alloc (.cells #[.pointer (some ⟨b,0,none⟩),.int .i64 s] 261)).drewN n).setCell ⟨g,i,none⟩ (.pointer (some ⟨(ls s).getD k 0,0,none⟩))).cell? ⟨g,k,none⟩=some (.pointer (some ⟨(ls s).getD k 0,0,none⟩)):=fun n=>by
  by_cases e:k=i
  ·subst e;exact qn _ g k _ (h n) f.1
  ·exact(wA _ g i k _ (h n) e).trans N
 have F:=hid (fun W (qW:QR W B b pre ids vs pl ls)=>qW.swap d u R M)
 have G:Hid (∀n,((((w.alloc (.cells #[.pointer (some ⟨b,0,none⟩),.int .i64 s] 261)).drewN n).setCell ⟨g,i,none⟩ (.pointer (some ⟨(ls s).getD k 0,0,none⟩))).setCell ⟨g,k,none⟩ (.pointer (some ⟨(ls s).getD i 0,0,none⟩))).cell? ⟨g,i,none⟩=some (.pointer (some ⟨(ls s).getD k 0,0,none⟩))/\((((w.alloc (.cells #[.pointer (some ⟨b,0,none⟩),.int .i64 s] 261)).drewN n).setCell ⟨g,i,none⟩ (.pointer (some ⟨(ls s).getD k 0,0,none⟩))).setCell ⟨g,k,none⟩ (.pointer (some ⟨(ls s).getD i 0,0,none⟩))).cell? ⟨g,k,none⟩=some (.pointer (some ⟨(ls s).getD i 0,0,none⟩))):=fun n=>by
  have X:=heap_setCell_same _ g i _ _ (.pointer (some ⟨(ls s).getD k 0,0,none⟩)) (h n);refine⟨?_,qn _ g k _ X (by simp[f.2])⟩
  by_cases e:i=k
  ·subst e;exact qn _ g i _ X (by simp[f.2])
  ·exact(wA _ g k i _ X e).trans (qn _ g i _ (h n) f.1)
 have Q:=hid z;have H:Hid ((w.alloc (.cells #[.pointer (some ⟨b,0,none⟩),.int .i64 s] 261)).heap[w.heap.size]?=some (.cells #[.pointer (some ⟨b,0,none⟩),.int .i64 s] 261 (0,0))):=heap_alloc_new w _;generalize (ls s).getD i 0=x at *;generalize (ls s).getD k 0=y at *;unfold eW;clear q T D S z j f h;go_enter func247,ntmps247;go_wp2
 go_quiet (fail)
 go_wp2_with fail
 go_region
 obtain⟨A,Y⟩:=F.out ((w.alloc (.cells #[.pointer (some ⟨b,0,none⟩),.int .i64 s] 261)).drewN (nq+1)) (Q.out.keep Q.out.low fun _ _=>rfl);obtain⟨aa,I⟩:=G.out (nq+1);have c:OnlyS (QS b ids vs) w _:=OnlyS.trans (OnlyS.of_below (l.drewN (n:=nq+1))) Y;have m:=Q.out.not_other H.out (by decide) (by decide) (by decide);have J:=Y.cell (a:=⟨w.heap.size,1,none⟩) (v:=.int .i64 s) E m;clear E U N fi fk c0 L F G H Y l Q;generalize ((((w.alloc (.cells #[.pointer (some ⟨b,0,none⟩),.int .i64 s] 261)).drewN (nq+1)).setCell ⟨g,i,none⟩ (.pointer (some ⟨y,0,none⟩))).setCell ⟨g,k,none⟩ (.pointer (some ⟨x,0,none⟩)))=C at *;have ab:=A.row_item d M P;have ai:=A.row_item d M O;obtain⟨Z,o,f4⟩:=A.storeP d P i;have cy:=(A.cellI P).2 s d;have ac:w.heap.size≠y:=fun e=>m (.inr (.inr (.inr (e▸P))))
 have aj:w.heap.size≠x:=fun e=>m (.inr (.inr (.inr (e▸O))))
 have ak:(C.setCell ⟨y,1+s,none⟩ (.int .i64 i)).drew.cell? ⟨w.heap.size,1,none⟩=some (.int .i64 s):=(kJ _ ac _ _ _).trans J;have al:(C.setCell ⟨y,1+s,none⟩ (.int .i64 i)).drew.cell? ⟨g,k,none⟩=some (.pointer (some ⟨x,0,none⟩)):=(kJ _ ab _ _ _).trans I;have Q4:Hid (QR (C.setCell ⟨y,1+s,none⟩ (.int .i64 i)).drew B b pre ids vs (ib pl s y i) (db ls s (eX (ls s) i k))):=Z.keep Z.low fun _ _=>rfl
 have p:Hid (OnlyS (QS b ids vs) w (C.setCell ⟨y,1+s,none⟩ (.int .i64 i)).drew):=⟨(c.trans o).os,(c.trans o).tape,(c.trans o).output,(c.trans o).size,(c.trans o).block⟩
 clear A Z c o;go_wp2_with fail
 go_region
 clear aa J I cy f4;generalize (C.setCell ⟨y,1+s,none⟩ (.int .i64 i)).drew=W4 at *;obtain⟨q5,t,f5⟩:=Q4.out.storeP d O k;have cx:=(Q4.out.cellI O).2 s d;have Q5:Hid (QR (W4.setCell ⟨x,1+s,none⟩ (.int .i64 k)).drew B b pre ids vs (ib (ib pl s y i) s x k) (db ls s (eX (ls s) i k))):=q5.keep q5.low fun _ _=>rfl
 have O5:Hid (OnlyS (QS b ids vs) w (W4.setCell ⟨x,1+s,none⟩ (.int .i64 k)).drew):=⟨(p.out.trans t).os,(p.out.trans t).tape,(p.out.trans t).output,(p.out.trans t).size,(p.out.trans t).block⟩
 clear q5 t Q4 p;go_wp2_with fail
 go_region
 go_wp2;refine bodyPost_end (results_none rfl _ _ _) rfl ⟨rfl,Q5.out,O5.out⟩
end
def pW(p:Nat->Int)(l:List Nat):Prop:=∀j,j<l.length->p (l.getD j 0)=j
structure MvR(B b:Nat)(pre:Nat->df)(ids:List Nat)(vs:Nat->Value)(pl:Nat->Nat->Int)(ls:Nat->List Nat)(s n:Nat)(w:World)(pl':Nat->Nat->Int)(l':List Nat)(w':World):Prop where
 qr:QR w' B b pre ids vs pl' (db ls s l')
 perm:l'.Perm (ls s)
 pos:pW (pl' s) l'
 oth:∀t,t≠s->pl' t=pl t
 rest:∀k,n<=k->l'.getD k 0=(ls s).getD k 0
 only:OnlyS (QS b ids vs) w w'
theorem uo{l:List Nat}(h:l.Nodup){i j:Nat}(a:i<l.length)(b:j<l.length)(e:l.getD i 0=l.getD j 0):i=j:=by
 simp only[List.getD,List.getElem?_eq_getElem a,List.getElem?_eq_getElem b,Option.getD_some]at e;exact(List.getElem_inj h).1 e
section
variable{w w' w'':World}{B b:Nat}{pre:Nat->df}{ids:List Nat}{vs:Nat->Value}{pl pl':Nat->Nat->Int}{ls:Nat->List Nat}{s n:Nat}{l':List Nat}
theorem MvR.refl(q:QR w B b pre ids vs pl ls)(a:pW (pl s) (ls s)):MvR B b pre ids vs pl ls s n w pl (ls s) w:=
 ⟨by rw[qc];exact q,List.Perm.refl _,a,fun _ _=>rfl,fun _ _=>rfl,OnlyS.refl _ _⟩
theorem MvR.later(m:MvR B b pre ids vs pl ls s n w pl' l' w')(hb:Below w'.heap.size w' w''):MvR B b pre ids vs pl ls s n w pl' l' w'':=
 ⟨m.qr.later hb,m.perm,m.pos,m.oth,m.rest,m.only.trans (OnlyS.of_below hb)⟩
theorem MvR.nodup(m:MvR B b pre ids vs pl ls s n w pl' l' w')(h:(ls s).Nodup):l'.Nodup:=m.perm.nodup_iff.2 h
theorem MvR.len(m:MvR B b pre ids vs pl ls s n w pl' l' w'):l'.length=(ls s).length:=m.perm.length_eq
theorem MvR.swap(m:MvR B b pre ids vs pl ls s n w pl' l' w')(_hs:s<2)(p:(ls s).Nodup){i k:Nat}(g:i<l'.length)(f:k<l'.length)(r:i<n)(u:k<n)
  (q:QR w'' B b pre ids vs (ib (ib pl' s (l'.getD k 0) i) s (l'.getD i 0) k) (db (db ls s l') s (eX l' i k))) (o:OnlyS (QS b ids vs) w' w''):
  MvR B b pre ids vs pl ls s n w (ib (ib pl' s (l'.getD k 0) i) s (l'.getD i 0) k) (eX l' i k) w'':=by
 rw[ou]at q;have d:=m.nodup p;refine⟨q,(CZ g f).trans m.perm,fun j a=>?_,fun t h=>?_,fun j a=>?_,m.only.trans o⟩
 ·rw[sj]at a
  rw[iC g f];unfold ib;rw[dg,dg]
  by_cases l:j=i
  ·subst l
   rw[mi]
   by_cases c:l'.getD k 0=l'.getD j 0
   ·have:=uo d f a c
    rw[c,dg,this]
   ·rw[dh _ _ c,dg]
  ·by_cases c:j=k
   ·subst c
    rw[mh,dg]
   ·rw[iV l c,dh _ _ (fun e=>l (uo d a g e)),dh _ _ (fun e=>c (uo d a f e))]
    exact m.pos j a
 ·unfold ib
  rw[dh _ _ h,dh _ _ h];exact m.oth t h
 ·rw[iC g f,iV (by omega) (by omega)]
  exact m.rest j a
abbrev kI(b s:Nat):Value:=.iface 261 (eW b s)
theorem tD(b s N:Nat)(w:World)(h:0<N):Sem.run prog (method N 261 (eW b s) "Len") w=.ok (243,eW b s) w:=by
 cases N with
 |zero=>omega
 |succ N=>kernel_rfl
theorem ym(b s N:Nat)(w:World)(h:0<N):Sem.run prog (method N 261 (eW b s) "Less") w=.ok (244,eW b s) w:=by
 cases N with
 |zero=>omega
 |succ N=>kernel_rfl
theorem qJ(b s N:Nat)(w:World)(h:0<N):Sem.run prog (method N 261 (eW b s) "Swap") w=.ok (247,eW b s) w:=by
 cases N with
 |zero=>omega
 |succ N=>kernel_rfl
theorem Ib(b s N:Nat)(w:World)(h:0<N):Sem.run prog (method N 261 (eW b s) "Push") w=.ok (246,eW b s) w:=by
 cases N with
 |zero=>omega
 |succ N=>kernel_rfl
theorem yl(b s N:Nat)(w:World)(h:0<N):Sem.run prog (method N 261 (eW b s) "Pop") w=.ok (245,eW b s) w:=by
 cases N with
 |zero=>omega
 |succ N=>kernel_rfl
theorem vx(q:QR w B b pre ids vs pl ls)(t:s<2)(I:(ls s).Nodup)(J:pW (pl s) (ls s))(Y:n<=(ls s).length){j:Nat}(R:j<n)(L:hJ (dR pre s) n (fun k=>(ls s).getD k 0) j):
  Calls prog 213 #[kI b s,.int .i64 j] w fun r w'=>r=.returned (.tuple #[])/\∃pl' l',MvR B b pre ids vs pl ls s n w pl' l' w'/\gJ (dR pre s) n (fun k=>l'.getD k 0):=by
 have l:Hid (MvR B b pre ids vs pl ls s n w pl (ls s) w):=MvR.refl q J;have m:=hid L;have P:=q.len s t;have S:=hid I;have U:=ym b s;have V:=qJ b s;clear q J L I;go_enter func213,ntmps213;go_wp2_with fail
 go_loopw [1,4] (fun A T wr=>∃(k:Nat) (pl':Nat->Nat->Int) (l':List Nat),k<n/\A=.int .i64 k/\Hid (MvR B b pre ids vs pl ls s n w pl' l' wr)/\Hid (hJ (dR pre s) n (fun k=>l'.getD k 0) k)) (fun A T _=>(intOf A).toNat)
 case atStart=>exact⟨j,pl,ls s,R,rfl,l,m⟩
 case round=>
  clear l m;obtain⟨k,pl',l',M,rfl,g,C⟩:=hrel;have a:k<l'.length:=by rw[g.out.len];omega
  obtain⟨p,c⟩:∃p,p=(k-1)/2:=⟨_,rfl⟩
  have Q:((k:Int)-1).tdiv 2=(p:Nat):=by
   subst c
   by_cases u:k=0
   ·subst u;decide
   ·rw[Int.tdiv_eq_ediv_of_nonneg (by omega)];omega
  have W:IntKind.i64.wrap (p:Int)=p:=IntWalk.i64_in _ (by omega)
  by_cases u:k=0
  ·subst u
   obtain rfl:p=0:=by omega
   have D:=hid (vu C.out);clear c;go_wp2;refine bodyPost_end (results_none rfl _ _ _) rfl ⟨rfl,pl',l',g.out,D.out⟩
  ·have X:p<k:=by omega
   have d:p<l'.length:=by omega
   have Z:((p:Int)==(k:Int))=false:=by rw[beq_eq_false_iff_ne];omega
   have N:=hid (pH g.out.qr t (i:=k) (k:=p) (by rw[dg];exact a) (by rw[dg];exact d));rw[dg]at N;clear u;have f:=hid c;clear c;go_wp2_with fail;refine N.out.mono ?_;rintro r w2⟨rfl,o⟩
   cases v:dR pre s (l'.getD k 0) (l'.getD p 0)
   ·have D:Hid (gJ (dR pre s) n (fun k=>l'.getD k 0)):=vw C.out (by rw[<-f.out];exact v)
    have e:=hid (g.out.later o);clear v;go_wp2;refine bodyPost_end (results_none rfl _ _ _) rfl ⟨rfl,pl',l',e.out,D.out⟩
   ·have e:=hid (g.out.later o)
    have O:=hid (nV e.out.qr t (i:=p) (k:=k) (by rw[dg];exact d) (by rw[dg];exact a));rw[dg]at O
    have F:Hid (hJ (dR pre s) n (fun x=>(eX l' p k).getD x 0) p):=by
     have h:=Cf (js pre s) C.out (by omega) M (by rw[<-f.out];exact v);rw[<-f.out]at h;exact Cg (by omega) h fun x _=>(iC d a x).symm
    have G:=hid (fun E y z=>e.out.swap (w'':=E) t S.out d a (by omega) M y z);clear v;go_wp2_with fail;refine O.out.mono ?_;rintro r E⟨rfl,y,z⟩;have H:=hid (G.out E y z);clear y z;go_wp2_with fail
    go_roundw
    case rel=>exact⟨p,_,_,by omega,rfl,H,F⟩
    case measure=>simp[intOf];omega
end
section
variable{w w' w'':World}{B b:Nat}{pre:Nat->df}{ids:List Nat}{vs:Nat->Value}{pl pl':Nat->Nat->Int}{ls:Nat->List Nat}{s n i0:Nat}{l':List Nat}
def BA(B b:Nat)(pre:Nat->df)(ids:List Nat)(vs:Nat->Value)(pl:Nat->Nat->Int)(ls:Nat->List Nat)(s n i0:Nat)(w:World)(r:Ending)(w':World):Prop:=
 ∃d pl' l',r=.returned (.bool d)/\MvR B b pre ids vs pl ls s n w pl' l' w'/\(d=true->gJ (dR pre s) n fun k=>l'.getD k 0)/\(d=false->hJ (dR pre s) n (fun k=>l'.getD k 0) i0)
theorem rx{k:Nat}(d:i0<=k)(m:MvR B b pre ids vs pl ls s n w pl' l' w')(c:hJ (dR pre s) n (fun x=>l'.getD x 0) k)(h:i0<k->1<=k->dR pre s (l'.getD k 0) (l'.getD ((k-1)/2) 0)=false):BA B b pre ids vs pl ls s n i0 w (.returned (.bool (decide (i0<k)))) w':=by
 refine⟨_,pl',l',rfl,m,fun a=>?_,fun a=>?_⟩
 ·have a:i0<k:=by simpa using a
  exact vw c (h a (by omega))
 ·have a:¬i0<k:=by simpa using a
  obtain rfl:k=i0:=by omega
  exact c
theorem Am(q:QR w B b pre ids vs pl ls)(p:s<2)(hd:(ls s).Nodup)(hp:pW (pl s) (ls s))(hn:n<=(ls s).length)(hj:i0<=n)(hu:ko (dR pre s) n (fun k=>(ls s).getD k 0) i0):
  Calls prog 218 #[kI b s,.int .i64 i0,.int .i64 n] w (BA B b pre ids vs pl ls s n i0 w):=by
 have R:Hid (MvR B b pre ids vs pl ls s n w pl (ls s) w):=MvR.refl q hp;have S:=hid hu;have aa:=q.len s p;have W:=hid hd;have ab:=ym b s;have ac:=qJ b s;clear q hp hu hd;go_enter func218,ntmps218;go_wp2_with fail
 go_loopw [7,8,9,10] (fun X t8 t9 t10 wr=>∃(k:Nat) (pl':Nat->Nat->Int) (l':List Nat),i0<=k/\k<=n/\X=.int .i64 k/\Hid (MvR B b pre ids vs pl ls s n w pl' l' wr)/\Hid (ko (dR pre s) n (fun k=>l'.getD k 0) k)/\Hid (i0<k->1<=k->dR pre s (l'.getD k 0) (l'.getD ((k-1)/2) 0)=false)) (fun X _ _ _ _=>n-(intOf X).toNat)
 case atStart=>exact⟨i0,pl,ls s,Nat.le_refl _,hj,rfl,R,S,fun h=>absurd h (Nat.lt_irrefl _)⟩
 case round=>
  clear R S;obtain⟨k,pl',l',D,hk,rfl,t,L,V⟩:=hrel
  by_cases h1:2*k+1<n
  ·have ad:k<l'.length:=by rw[t.out.len];omega
   by_cases h2:2*k+2<n
   ·have Y:Hid (Calls prog 244 #[eW b s,.int .i64 (2*(k:Int)+1+1),.int .i64 (2*(k:Int)+1)] wr fun r w'=>r=.returned (.bool (dR pre s (l'.getD (2*k+2) 0) (l'.getD (2*k+1) 0)))/\Below wr.heap.size wr w'):=by
     have h:=pH t.out.qr p (i:=2*k+2) (k:=2*k+1) (by rw[dg,t.out.len];omega) (by rw[dg,t.out.len];omega);have e2:(((2*k+2:Nat)):Int)=2*(k:Int)+1+1:=by omega
     have e1:(((2*k+1:Nat)):Int)=2*(k:Int)+1:=by omega
     rw[dg,e2,e1]at h;exact h
    go_wp2_with fail
    refine Y.out.mono ?_;rintro r w2⟨rfl,Z⟩;have E:=hid (t.out.later Z)
    cases T:dR pre s (l'.getD (2*k+2) 0) (l'.getD (2*k+1) 0)
    ·go_wp2_with fail
     obtain⟨c,F⟩:∃c,c=2*k+1:=⟨_,rfl⟩
     have g:(c:Int)=2*(k:Int)+1:=by omega
     have j:c<n:=by omega
     have a:c<l'.length:=by rw[t.out.len];omega
     have l:Hid (∀d,1<=d->d<n->(d-1)/2=k->dR pre s (l'.getD d 0) (l'.getD c 0)=false):=by rw[F];exact AI (js pre s) (f:=fun x=>l'.getD x 0) (.inr T)
     have u:Hid (c=2*k+1∨c=2*k+2):=by show _∨_;omega
     have U:k<c:=by omega
     rw[<-g];clear F g;have G:=hid (pH E.out.qr p (i:=c) (k:=k) (by rw[dg];exact a) (by rw[dg];omega));rw[dg]at G;refine G.out.mono ?_;rintro r w4⟨rfl,v⟩;have e:=hid (E.out.later v)
     cases o:dR pre s (l'.getD c 0) (l'.getD k 0)
     ·have M:Hid (hJ (dR pre s) n (fun x=>l'.getD x 0) k):=ru L.out fun d d1 d2 d3=>(js pre s).trans _ _ _ o (l.out d d1 d2 d3)
      clear o;go_wp2;go_ret;exact rx D e.out M.out V.out
     ·have H:=hid (nV e.out.qr p (i:=k) (k:=c) (by rw[dg];omega) (by rw[dg];exact a))
      rw[dg]at H
      have m:Hid (ko (dR pre s) n (fun x=>(eX l' k c).getD x 0) c/\dR pre s ((eX l' k c).getD c 0) ((eX l' k c).getD ((c-1)/2) 0)=false):=by
       have h:=uC (js pre s) L.out u.out j l.out o;refine⟨pt (by omega) h.1 fun x _=>(iC (by omega) a x).symm,?_⟩;rw[iC (by omega) a,iC (by omega) a];exact h.2
      have y:=hid (fun N O P=>e.out.swap (w'':=N) p W.out (i:=k) (k:=c) (by rw[e.out.len];omega) a (by omega) j O P);clear o;go_wp2_with fail;refine H.out.mono ?_;rintro r Q⟨rfl,I,J⟩;have z:=hid (y.out Q I J);have A:Hid (i0<c->1<=c->dR pre s ((eX l' k c).getD c 0) ((eX l' k c).getD ((c-1)/2) 0)=false):=fun _ _=>m.out.2
      have C:=hid m.out.1;clear I J;go_wp2_with fail
      go_roundw
      case rel=>exact⟨c,_,_,by omega,by omega,rfl,z,C,A⟩
      case measure=>simp[intOf];omega
    ·go_wp2_with fail
     obtain⟨c,F⟩:∃c,c=2*k+2:=⟨_,rfl⟩
     have g:(c:Int)=2*(k:Int)+1+1:=by omega
     have j:c<n:=by omega
     have a:c<l'.length:=by rw[t.out.len];omega
     have l:Hid (∀d,1<=d->d<n->(d-1)/2=k->dR pre s (l'.getD d 0) (l'.getD c 0)=false):=by rw[F];exact Mv (js pre s) (f:=fun x=>l'.getD x 0) T
     have u:Hid (c=2*k+1∨c=2*k+2):=by show _∨_;omega
     have U:k<c:=by omega
     rw[<-g];clear F g;have G:=hid (pH E.out.qr p (i:=c) (k:=k) (by rw[dg];exact a) (by rw[dg];omega));rw[dg]at G;refine G.out.mono ?_;rintro r w4⟨rfl,v⟩;have e:=hid (E.out.later v)
     cases o:dR pre s (l'.getD c 0) (l'.getD k 0)
     ·have M:Hid (hJ (dR pre s) n (fun x=>l'.getD x 0) k):=ru L.out fun d d1 d2 d3=>(js pre s).trans _ _ _ o (l.out d d1 d2 d3)
      clear o;go_wp2;go_ret;exact rx D e.out M.out V.out
     ·have H:=hid (nV e.out.qr p (i:=k) (k:=c) (by rw[dg];omega) (by rw[dg];exact a))
      rw[dg]at H
      have m:Hid (ko (dR pre s) n (fun x=>(eX l' k c).getD x 0) c/\dR pre s ((eX l' k c).getD c 0) ((eX l' k c).getD ((c-1)/2) 0)=false):=by
       have h:=uC (js pre s) L.out u.out j l.out o;refine⟨pt (by omega) h.1 fun x _=>(iC (by omega) a x).symm,?_⟩;rw[iC (by omega) a,iC (by omega) a];exact h.2
      have y:=hid (fun N O P=>e.out.swap (w'':=N) p W.out (i:=k) (k:=c) (by rw[e.out.len];omega) a (by omega) j O P);clear o;go_wp2_with fail;refine H.out.mono ?_;rintro r Q⟨rfl,I,J⟩;have z:=hid (y.out Q I J);have A:Hid (i0<c->1<=c->dR pre s ((eX l' k c).getD c 0) ((eX l' k c).getD ((c-1)/2) 0)=false):=fun _ _=>m.out.2
      have C:=hid m.out.1;clear I J;go_wp2_with fail
      go_roundw
      case rel=>exact⟨c,_,_,by omega,by omega,rfl,z,C,A⟩
      case measure=>simp[intOf];omega
   ·go_wp2_with fail
    obtain⟨c,F⟩:∃c,c=2*k+1:=⟨_,rfl⟩
    have g:(c:Int)=2*(k:Int)+1:=by omega
    have j:c<n:=by omega
    have a:c<l'.length:=by rw[t.out.len];omega
    have l:Hid (∀d,1<=d->d<n->(d-1)/2=k->dR pre s (l'.getD d 0) (l'.getD c 0)=false):=by rw[F];exact AI (js pre s) (f:=fun x=>l'.getD x 0) (.inl h2)
    have u:Hid (c=2*k+1∨c=2*k+2):=by show _∨_;omega
    have U:k<c:=by omega
    rw[<-g];clear F g;have G:=hid (pH t.out.qr p (i:=c) (k:=k) (by rw[dg];exact a) (by rw[dg];omega));rw[dg]at G;refine G.out.mono ?_;rintro r w4⟨rfl,v⟩;have e:=hid (t.out.later v)
    cases o:dR pre s (l'.getD c 0) (l'.getD k 0)
    ·have M:Hid (hJ (dR pre s) n (fun x=>l'.getD x 0) k):=ru L.out fun d d1 d2 d3=>(js pre s).trans _ _ _ o (l.out d d1 d2 d3)
     clear o;go_wp2;go_ret;exact rx D e.out M.out V.out
    ·have H:=hid (nV e.out.qr p (i:=k) (k:=c) (by rw[dg];omega) (by rw[dg];exact a))
     rw[dg]at H
     have m:Hid (ko (dR pre s) n (fun x=>(eX l' k c).getD x 0) c/\dR pre s ((eX l' k c).getD c 0) ((eX l' k c).getD ((c-1)/2) 0)=false):=by
      have h:=uC (js pre s) L.out u.out j l.out o;refine⟨pt (by omega) h.1 fun x _=>(iC (by omega) a x).symm,?_⟩;rw[iC (by omega) a,iC (by omega) a];exact h.2
     have y:=hid (fun N O P=>e.out.swap (w'':=N) p W.out (i:=k) (k:=c) (by rw[e.out.len];omega) a (by omega) j O P);clear o;go_wp2_with fail;refine H.out.mono ?_;rintro r Q⟨rfl,I,J⟩;have z:=hid (y.out Q I J);have A:Hid (i0<c->1<=c->dR pre s ((eX l' k c).getD c 0) ((eX l' k c).getD ((c-1)/2) 0)=false):=fun _ _=>m.out.2
     have C:=hid m.out.1;clear I J;go_wp2_with fail
     go_roundw
     case rel=>exact⟨c,_,_,by omega,by omega,rfl,z,C,A⟩
     case measure=>simp[intOf];omega
  ·have M:Hid (hJ (dR pre s) n (fun x=>l'.getD x 0) k):=ru L.out fun d d1 d2 d3=>by omega
   go_wp2;go_ret;exact rx D t.out M.out V.out
end
theorem J':(prog.info? 278).map (fun i=>(i.zero,i.size,i.bytes))=some (some (.pointer none),1,8):=by kernel_rfl
theorem Dl{w:World}{m:Array Oper}{o:Oper}{a:Act}{K:Act->World->Prop}{Q:Exit->Act->World->Prop}{E:Prop}(p:o.guard=none)(s x:Operand)
  (q:o.op=.call { callee:=.builtin .append,args:=#[s,x],argTypes:=#[183,183] }) (B:Nat) (v:Value) (l:List Nat) (r:a.eval s=v) (d:dc w B 278 1 gW v l)
  (k:Addr) (hx:a.eval x=.slice (some k) 1 1) (y:Nat) (e:w.cell? k=some (.pointer (some ⟨y,0,none⟩))) (g:l.length<=1000000) (t:B<=w.heap.size)
  (h:∀b c,dc c B 278 1 gW b (l++[y])->w.grownBy c v.ownBlock->(b.ownBlock=v.ownBlock∨b.ownBlock=some w.heap.size)->K (a.put o.dst b) c):if Region.wanted o (yielded m a.tmps)=true then Oper.wp prog o a w K Q else E:=by
 refine lG (f:=gW) (n:=1) 183 278 8 (.pointer none) underlying183 J' rfl (by omega) (by omega) nI p s x q B v l r d k hx y (y7 y) ?_ g t ?_
 ·intro j u i
  cases j with
  |zero=>
   injection i with i;rw[<-i];exact e
  |succ j=>simp[gW]at i
 ·intro b c z _ A C
  exact h b c z A C
theorem Bb(v:Value)(w:World):(Instr.typeAssert (.iface 278 v) 20 278 false).run prog w=.ok v w:=by kernel_rfl
section
variable{w w7:World}{B b:Nat}{pre:Nat->df}{ids:List Nat}{vs:Nat->Value}{pl:Nat->Nat->Int}{ls:Nat->List Nat}
theorem QR.grow(q:QR w B b pre ids vs pl ls){s:Nat}(h:s<2){x:Nat}(hx:x∈ids)(I:(ls s).length<100000){o:Obj}{i:Value}(u:dc w7 B 278 1 gW i (ls s++[x]))(p:(w.alloc o).grownBy w7 (vs s).ownBlock)
  (d:i.ownBlock=(vs s).ownBlock∨i.ownBlock=some (w.alloc o).heap.size):
  QR (w7.setCell ⟨b,s,none⟩ i) B b pre ids (db vs s i) pl (db ls s (ls s++[x]))/\OnlyS (QS b ids vs) w (w7.setCell ⟨b,s,none⟩ i)/\w7.frozen? ⟨b,s,none⟩=false/\w7.cell? ⟨b,s,none⟩=some (vs s):=by
 have H:(w.alloc o).heap.size=w.heap.size+1:=World.size_alloc _ _;have l:∀y,y<w.heap.size->(w.alloc o).heap[y]?=w.heap[y]?:=fun y a=>(da w o).block y a
 have C:b<w.heap.size:=q.lt (.inl rfl)
 have n:∀t,t<2->(vs t).ownBlock≠some b:=fun t g e=>by
  obtain⟨_,c,F⟩:=(q.row t g).kindQ e;have:=q.box;rw[F]at this;injection this with this;injection this with _ this;exact absurd this (by decide)
 have f:w7.heap[b]?=some (.cells #[vs 0,vs 1] 186 (0,0)):=by
  rw[p.block b (by omega) (fun e=>n s h e.symm),l b C];exact q.box
 have z:∀y,y<w.heap.size->y≠b->(vs s).ownBlock≠some y->(w7.setCell ⟨b,s,none⟩ i).heap[y]?=w.heap[y]?:=fun y j k G=>by
  rw[Below.heap_setCell _ _ _ _ k,p.block y (by omega) (fun e=>G e.symm),l y j]
 have r:w.heap.size<=w7.heap.size:=by have:=p.size;omega
 have D:∀y,i.ownBlock=some y->y≠b:=by
  rintro y a rfl;rcases d with d|d
  ·rw[d]at a;exact n s h a
  ·rw[d]at a;injection a with a;omega
 refine⟨⟨by rw[World.size_setCell];exact Nat.le_trans q.low r,q.lowb,?_,fun t g=>?_,fun t g=>?_,fun y j k=>?_,fun y a=>⟨(q.item y a).1,?_⟩,fun t g y a=>?_⟩,⟨p.os,p.tape,p.output,by rw[World.size_setCell];exact r,fun y a E=>z y a (fun e=>E (.inl e)) fun e=>E (.own h e)⟩,by simp[World.frozen?,f],?_⟩
 ·rw[heap_setCell_same w7 b s _ _ _ f]
  rcases eA h with rfl|rfl <;> simp[db]
 ·by_cases e:t=s
  ·subst e
   rw[dg,dg];exact u.keepQ fun y a=>Below.heap_setCell _ _ _ _ (D y a)
  ·rw[dh _ _ e,dh _ _ e]
   refine(q.row t g).keepQ fun y a=>z y (q.lt (.own g a)) (fun v=>n t g (v▸a)) fun v=>?_
   rcases eA h with rfl|rfl <;> rcases eA g with rfl|rfl
   ·exact e rfl
   ·exact q.apart y v a
   ·exact q.apart y a v
   ·exact e rfl
 ·by_cases e:t=s
  ·subst e;rw[dg,List.length_append];simp;omega
  ·rw[dh _ _ e];exact q.len t g
 ·have m:∀t y,t<2->(vs t).ownBlock=some y->some (w.alloc o).heap.size≠some y:=fun t y g a e=>by
   injection e with e;have:=q.lt (x:=y) (.own g a);omega
  rcases eA h with rfl|rfl
  ·rw[dg]at j
   rw[dh _ _ (by omega)]at k;rcases d with d|d
   ·exact q.apart y (d▸j) k
   ·exact m 1 y (by omega) k (d▸j)
  ·rw[dg]at k
   rw[dh _ _ (by omega)]at j;rcases d with d|d
   ·exact q.apart y j (d▸k)
   ·exact m 0 y (by omega) j (d▸k)
 ·refine(z y (q.lt (.inr (.inr (.inr a)))) (fun e=>?_) (fun e=>q.row_item h e a rfl)).trans (q.item y a).2
  subst e;have:=(q.item y a).2;rw[q.box]at this;injection this with this;injection this with _ this;exact absurd this (by decide)
 ·by_cases e:t=s
  ·subst e
   rw[dg,List.mem_append,List.mem_singleton]at a;rcases a with a|rfl
   ·exact q.sub t g y a
   ·exact hx
  ·rw[dh _ _ e]at a
   exact q.sub t g y a
 ·rw[cell_of_row w7 b s _ _ _ f]
  rcases eA h with rfl|rfl <;> rfl
theorem LI(q:QR w B b pre ids vs pl ls){s:Nat}(p:s<2){x:Nat}(hx:x∈ids)(hl:(ls s).length<100000){z:Nat}(hz:z<=w.heap.size):Calls prog 246 #[eW b s,.iface 278 (.pointer (some ⟨x,0,none⟩))] w fun r w'=>r=.returned (.tuple #[]) /\
  ∃C,QR w' B b pre ids (db vs s C) (ib pl s x (ls s).length) (db ls s (ls s++[x]))/\OnlyS (QS b ids vs) w w'/\(C.ownBlock=(vs s).ownBlock∨∃y,C.ownBlock=some y/\z<=y):=by
 have t:Below w.heap.size w (w.alloc (.cells #[.pointer (some ⟨b,0,none⟩),.int .i64 s] 261)):=da w _;have Y:=q.later t;have L:(w.alloc (.cells #[.pointer (some ⟨b,0,none⟩),.int .i64 s] 261)).cell? ⟨w.heap.size,0,none⟩=some (.pointer (some ⟨b,0,none⟩)):=by simp
 have M:(w.alloc (.cells #[.pointer (some ⟨b,0,none⟩),.int .i64 s] 261)).cell? ⟨w.heap.size,1,none⟩=some (.int .i64 s):=by simp
 have ak:(s:Int)<2:=by omega
 have cx:=(Y.cellI hx).2 s p;have fx:=zR Y hx (1+s);have I:=hid Y;have N:Hid ((w.alloc (.cells #[.pointer (some ⟨b,0,none⟩),.int .i64 s] 261)).heap[w.heap.size]?=some (.cells #[.pointer (some ⟨b,0,none⟩),.int .i64 s] 261 (0,0))):=heap_alloc_new w _;have u:=I.out.not_other N.out (by decide) (by decide) (by decide);have O:Hid (∀W,Below (w.alloc (.cells #[.pointer (some ⟨b,0,none⟩),.int .i64 s] 261)).heap.size (w.alloc (.cells #[.pointer (some ⟨b,0,none⟩),.int .i64 s] 261)) W->W.frozen? ⟨x,1+s,none⟩=false):=fun W hb=>zR (I.out.later hb) hx _
 have has:=Bb (.pointer (some ⟨x,0,none⟩));unfold eW;clear q Y;go_enter func246,ntmps246;go_wp2_with fail;have o:w.heap.size≠x:=fun e=>u (.inr (.inr (.inr (e▸hx))))
 have j:Hid (∀W,Below (w.alloc (.cells #[.pointer (some ⟨b,0,none⟩),.int .i64 s] 261)).heap.size (w.alloc (.cells #[.pointer (some ⟨b,0,none⟩),.int .i64 s] 261)) W->W.cell? ⟨w.heap.size,0,none⟩=some (.pointer (some ⟨b,0,none⟩))/\W.cell? ⟨w.heap.size,1,none⟩=some (.int .i64 s)):=fun W hb=>⟨de hb L,de hb M⟩
 have F:Below (w.alloc (.cells #[.pointer (some ⟨b,0,none⟩),.int .i64 s] 261)).heap.size (w.alloc (.cells #[.pointer (some ⟨b,0,none⟩),.int .i64 s] 261)) (w.alloc (.cells #[.pointer (some ⟨b,0,none⟩),.int .i64 s] 261)).drew:=(Below.refl _ _).drew
 go_region_held3 (fun W=>W.cell? ⟨w.heap.size,0,none⟩=some (.pointer (some ⟨b,0,none⟩))/\W.cell? ⟨w.heap.size,1,none⟩=some (.int .i64 s))
  (first|with_reducible exact j.out _ F|with_reducible exact j.out _ c|with_reducible exact P)
  (first|(go_at_call 243;((with_reducible refine(rt I.out.drew p).mono ?_);rintro r g⟨rfl,Q⟩;have c:Below (w.alloc (.cells #[.pointer (some ⟨b,0,none⟩),.int .i64 s] 261)).heap.size (w.alloc (.cells #[.pointer (some ⟨b,0,none⟩),.int .i64 s] 261)) g:=Below.trans F Q;have aa:=de c cx;have ab:=O.out g c;have P:(g.setCell ⟨x,1+s,none⟩ (.int .i64 (ls s).length)).cell? ⟨w.heap.size,0,none⟩=some (.pointer (some ⟨b,0,none⟩))/\(g.setCell ⟨x,1+s,none⟩ (.int .i64 (ls s).length)).cell? ⟨w.heap.size,1,none⟩=some (.int .i64 s):=⟨(kJ g o _ _ _).trans (j.out g c).1,(kJ g o _ _ _).trans (j.out g c).2⟩)))
 obtain⟨q4,o4,_⟩:=(I.out.later c).storeP p hx ((ls s).length:Int);have d0:=(kJ g o (1+s) 0 (.int .i64 (ls s).length)).trans (j.out g c).1;have d1:=(kJ g o (1+s) 1 (.int .i64 (ls s).length)).trans (j.out g c).2;have O4:Hid (OnlyS (QS b ids vs) w (g.setCell ⟨x,1+s,none⟩ (.int .i64 (ls s).length))):=OnlyS.trans (OnlyS.of_below (t.trans (c.mono t.size))) o4;have J:=hid q4;have X:w.heap.size<(g.setCell ⟨x,1+s,none⟩ (.int .i64 (ls s).length)).heap.size:=World.block_lt_of_cell? _ _ d0;clear q4 o4 j F c P aa ab Q L M cx fx O N t I o has;generalize g.setCell ⟨x,1+s,none⟩ (.int .i64 (ls s).length)=f at *;generalize w.heap.size=E at *;obtain⟨Z,m,G⟩:=J.out.sliceV p;have H:=J.out.cellB p;rw[G]at H;have R:=hid G;have n:=da f (.cells #[.pointer (some ⟨x,0,none⟩)] 278);have T:=de n d0;have U:=de n d1;have ac:=de n H
 have ad:Hid (dc (f.alloc (.cells #[.pointer (some ⟨x,0,none⟩)] 278)).drew B 278 1 gW (.slice Z (ls s).length m) (ls s)):=by
  have:=((J.out.later n).row s p).keepQ (w':=(f.alloc (.cells #[.pointer (some ⟨x,0,none⟩)] 278)).drew) fun _ _=>rfl
  rw[G]at this;exact this
 have ae:(f.alloc (.cells #[.pointer (some ⟨x,0,none⟩)] 278)).drew.cell? ⟨f.heap.size,0,none⟩=some (.pointer (some ⟨x,0,none⟩)):=by
  show(f.alloc (.cells #[.pointer (some ⟨x,0,none⟩)] 278)).cell? _=_;simp
 have af:B<=(f.alloc (.cells #[.pointer (some ⟨x,0,none⟩)] 278)).drew.heap.size:=Nat.le_trans J.out.low n.size;have ag:Hid (∀(C:Value) (w7:World),dc w7 B 278 1 gW C (ls s++[x])->(f.alloc (.cells #[.pointer (some ⟨x,0,none⟩)] 278)).grownBy w7 (vs s).ownBlock->(C.ownBlock=(vs s).ownBlock∨C.ownBlock=some (f.alloc (.cells #[.pointer (some ⟨x,0,none⟩)] 278)).heap.size)->_):=fun C w7 h1 h2 h3=>J.out.grow p hx hl h1 h2 h3
 have al:E≠b:=fun e=>u (.inl e)
 have a:f.drew.cell? ⟨E,0,none⟩=some (.pointer (some ⟨b,0,none⟩))/\f.drew.cell? ⟨E,1,none⟩=some (.int .i64 s)/\f.drew.cell? ⟨b,s,none⟩=some (.slice Z (ls s).length m):=⟨d0,d1,H⟩
 have hA5:(f.alloc (.cells #[.pointer (some ⟨x,0,none⟩)] 278)).drew.cell? ⟨E,0,none⟩=some (.pointer (some ⟨b,0,none⟩))/\(f.alloc (.cells #[.pointer (some ⟨x,0,none⟩)] 278)).drew.cell? ⟨E,1,none⟩=some (.int .i64 s)/\(f.alloc (.cells #[.pointer (some ⟨x,0,none⟩)] 278)).drew.cell? ⟨b,s,none⟩=some (.slice Z (ls s).length m):=⟨T,U,ac⟩
 go_wp2_with fail
 refine m7 (S:=fun W=>W.cell? ⟨E,0,none⟩=some (.pointer (some ⟨b,0,none⟩))/\W.cell? ⟨E,1,none⟩=some (.int .i64 s)/\W.cell? ⟨b,s,none⟩=some (.slice Z (ls s).length m)) (k:=18) (by kernel_rfl) ?_;refine dK 0 (v:=?_) [18] rfl (by kernel_rfl) (by kernel_rfl) (fun _ _ _ h=>h) a ?_ ?_
 rotate_left
 ·intro w hSw
  try dsimp only at hSw
  go_simp
  with_reducible rfl
 try simp only[Act.put,List.setIfInBounds_toArray]
 refine dK 1 (v:=?_) [18] rfl (by kernel_rfl) (by kernel_rfl) (fun _ _ _ h=>h) a ?_ ?_
 rotate_left
 ·intro w hSw
  try dsimp only at hSw
  go_simp
  with_reducible rfl
 try simp only[Act.put]
 refine dK 2 (v:=?_) [18] rfl (by kernel_rfl) (by kernel_rfl) (fun _ _ _ h=>h) a ?_ ?_
 rotate_left
 ·intro w hSw
  try dsimp only at hSw
  go_simp
  with_reducible rfl
 try simp only[Act.put]
 refine dK 3 (v:=?_) [18] rfl (by kernel_rfl) (by kernel_rfl) (fun _ _ _ h=>h) a ?_ ?_
 rotate_left
 ·intro w hSw
  try dsimp only at hSw
  go_simp
  with_reducible rfl
 try simp only[Act.put]
 refine dK 4 (v:=?_) [18] rfl (by kernel_rfl) (by kernel_rfl) (fun _ _ _ h=>h) a ?_ ?_
 rotate_left
 ·intro w hSw
  try dsimp only at hSw
  go_simp
  with_reducible rfl
 try simp only[Act.put]
 refine dK 5 (v:=?_) [18] rfl (by kernel_rfl) (by kernel_rfl) (fun _ _ _ h=>h) a ?_ ?_
 rotate_left
 ·intro w hSw
  try dsimp only at hSw
  go_simp
  with_reducible rfl
 try simp only[Act.put]
 refine dK 6 (v:=?_) [18] rfl (by kernel_rfl) (by kernel_rfl) (fun _ _ _ h=>h) a ?_ ?_
 rotate_left
 ·intro w hSw
  try dsimp only at hSw
  go_simp
  with_reducible rfl
 try simp only[Act.put]
 refine dK 7 (v:=?_) [18] rfl (by kernel_rfl) (by kernel_rfl) (fun _ _ _ h=>h) a ?_ ?_
 rotate_left
 ·intro w hSw
  try dsimp only at hSw
  go_simp
  with_reducible rfl
 try simp only[Act.put]
 refine dK 8 (v:=?_) [18] rfl (by kernel_rfl) (by kernel_rfl) (fun _ _ _ h=>h) a ?_ ?_
 rotate_left
 ·intro w hSw
  try dsimp only at hSw
  go_simp
  with_reducible rfl
 try simp only[Act.put]
 refine dK 9 (v:=?_) [18] rfl (by kernel_rfl) (by kernel_rfl) (fun _ _ _ h=>h) a ?_ ?_
 rotate_left
 ·intro w hSw
  try dsimp only at hSw
  go_simp
  with_reducible rfl
 try simp only[Act.put]
 refine dK 10 (v:=?_) [18] rfl (by kernel_rfl) (by kernel_rfl) (fun _ _ _ h=>h) a ?_ ?_
 rotate_left
 ·intro w hSw
  try dsimp only at hSw
  go_simp
  with_reducible rfl
 try simp only[Act.put]
 refine dK 11 (v:=?_) [18] rfl (by kernel_rfl) (by kernel_rfl) (fun _ _ _ h=>h) a ?_ ?_
 rotate_left
 ·intro w hSw
  try dsimp only at hSw
  go_simp
  with_reducible rfl
 try simp only[Act.put]
 refine dK 12 (v:=?_) [18] rfl (by kernel_rfl) (by kernel_rfl) (fun _ _ _ h=>h) a ?_ ?_
 rotate_left
 ·intro w hSw
  try dsimp only at hSw
  go_simp
  with_reducible rfl
 try simp only[Act.put]
 refine dK 15 (v:=?_) [16,17,18] rfl (by kernel_rfl) (by kernel_rfl) (fun _ _ _ h=>h) a ?_ ?_
 rotate_left
 ·intro w hSw
  try dsimp only at hSw
  go_simp
  with_reducible rfl
 try simp only[Act.put]
 refine dK 16 (v:=?_) [17,18] rfl (by kernel_rfl) (by kernel_rfl) (fun _ _ _ h=>h) a ?_ ?_
 rotate_left
 ·intro w hSw
  try dsimp only at hSw
  go_simp
  with_reducible rfl
 try simp only[Act.put]
 refine fg (i:=13) (by kernel_rfl) rfl (fun K hK=>?_)
 go_simp
 refine hK.out _ _ (fun _=>hA5) ?_;clear hK K
 try simp only[Act.put,List.setIfInBounds_toArray,List.set_cons_zero,List.set_cons_succ]
 refine fg (i:=14) (by kernel_rfl) rfl (fun K hK=>?_);refine Dl (by rfl) (.tmp 26) (.tmp 28) (by rfl) B _ (ls s) (by rfl) ad.out ⟨f.heap.size,0,none⟩ (by rfl) x ae (by omega) af ?_;intro v7 w7 l d A;obtain⟨b7,c7,D,_⟩:=dc.form l nI (by rw[List.length_append,List.length_singleton];omega);rw[List.length_append,List.length_singleton]at D;subst D;rw[<-R.out]at d A;have ah:=ag.out _ w7 l ⟨d.os,d.tape,d.output,d.size,d.block⟩ A;have V:=d.cell T (fun e=>u (.own p e.symm));have d17:=d.cell U (fun e=>u (.own p e.symm));obtain⟨q8,o8,f8,c8⟩:=ah;rw[R.out]at c8;have Q8:=hid q8;have O8:=hid o8;have ai:=hid A;clear q8 o8 l d A;refine hK.out _ _ (fun _=>⟨V,d17,c8⟩) ?_;clear hK K
 try simp only[Act.put,List.setIfInBounds_toArray]
 refine fg (i:=17) (by kernel_rfl) rfl (fun K hK=>?_)
 go_simp
 refine hK.out _ _ (fun _=>⟨V,d17,c8⟩) ?_;clear hK K
 try simp only[Act.put,List.setIfInBounds_toArray,List.set_cons_zero,List.set_cons_succ]
 refine fg (i:=18) (by kernel_rfl) rfl (fun K hK=>?_)
 go_simp
 refine hK.out _ _ (fun h=>absurd rfl h) ?_;clear hK K
 try simp only[Act.put,List.setIfInBounds_toArray,List.set_cons_zero,List.set_cons_succ]
 refine m9 (by kernel_rfl) ?_ _;go_wp2
 have aj:(Value.slice b7 ((ls s).length+1) c7).ownBlock=(vs s).ownBlock∨∃y,(Value.slice b7 ((ls s).length+1) c7).ownBlock=some y/\z<=y:=ai.out.imp id fun h=>⟨_,h,Nat.le_trans hz (Nat.le_trans (Nat.le_of_lt X) n.size)⟩
 refine bodyPost_end (results_none rfl _ _ _) rfl ⟨rfl,_,Q8.out,O4.out.trans O8.out,aj⟩
end
end
section
open Go.Proofs.Tryz Go.RowKit
section
variable{w:World}{B b:Nat}{pre:Nat->df}{ids:List Nat}{vs:Nat->Value}{pl:Nat->Nat->Int}{ls:Nat->List Nat}
theorem QR.rowC(q:QR w B b pre ids vs pl ls){s:Nat}(i:s<2){m:Nat}(e:(ls s).length=m+1):∃g a c,vs s=.slice (some ⟨g,0,none⟩) (m+1) a/\B<=g/\w.heap[g]?=some (.cells c 278 (0,0))/\m+1<=a/\a<=maxLen/\c.size=a/\c.toList.take (m+1)=(ls s).map fun x=>Value.pointer (some ⟨x,0,none⟩):=by
 obtain⟨l,⟨f,h⟩|⟨g,a,c,f,h,j,n,k,o,d⟩⟩:=q.row s i
 ·omega
 ·rw[ph]at d
  rw[e,Nat.mul_one]at d;exact⟨g,a,c,by rw[<-e];exact f,h,j,by omega,k,by omega,d⟩
theorem QR.shrink(q:QR w B b pre ids vs pl ls){s:Nat}(h:s<2){m g cap:Nat}(l:(ls s).length=m+1)(A:vs s=.slice (some ⟨g,0,none⟩) (m+1) cap):
  QR ((w.setCell ⟨g,m,none⟩ (.pointer none)).setCell ⟨b,s,none⟩ (.slice (some ⟨g,0,none⟩) m cap)) B b pre ids (db vs s (.slice (some ⟨g,0,none⟩) m cap)) pl (db ls s (ls s).dropLast) /\
  OnlyS (QS b ids vs) w ((w.setCell ⟨g,m,none⟩ (.pointer none)).setCell ⟨b,s,none⟩ (.slice (some ⟨g,0,none⟩) m cap)):=by
 obtain⟨I,D,z,o,E,x,J,F,G,H⟩:=q.rowC h l;rw[A]at o;injection o with e1 _ n;injection e1 with e1;injection e1 with e1;subst e1 n;have i:(vs s).ownBlock=some g:=by rw[A];rfl
 have r:∀t,t<2->(vs t).ownBlock≠some b:=fun t f e=>by
  obtain⟨_,c,x⟩:=(q.row t f).kindQ e;have:=q.box;rw[x]at this;injection this with this;injection this with _ this;exact absurd this (by decide)
 have u:g≠b:=fun e=>r s h (e▸i)
 have C:∀y,y≠g->y≠b->((w.setCell ⟨g,m,none⟩ (.pointer none)).setCell ⟨b,s,none⟩ (.slice (some ⟨g,0,none⟩) m cap)).heap[y]?=w.heap[y]?:=fun y j k=>by
  rw[Below.heap_setCell _ _ _ _ k,Below.heap_setCell _ _ _ _ j]
 have v:(w.setCell ⟨g,m,none⟩ (.pointer none)).heap[b]?=some (.cells #[vs 0,vs 1] 186 (0,0)):=(Below.heap_setCell _ _ _ _ (Ne.symm u)).trans q.box;refine⟨⟨by rw[World.size_setCell,World.size_setCell];exact q.low,q.lowb,?_,fun t f=>?_,fun t f=>?_,fun y j k=>?_,fun y d=>⟨(q.item y d).1,?_⟩,fun t f y d=>?_⟩,((OnlyS.refl _ _).setCell (p:=⟨g,m,none⟩) (.own h i) _).setCell (p:=⟨b,s,none⟩) (.inl rfl) _⟩
 ·rw[heap_setCell_same _ b s _ _ _ v]
  rcases eA h with rfl|rfl <;> simp[db]
 ·by_cases e:t=s
  ·subst e
   rw[dg,dg];refine⟨by rw[gF nI],.inr ⟨g,cap,z.setIfInBounds m (.pointer none),by rw[List.length_dropLast,l];rfl,E,?_,by rw[List.length_dropLast,l];omega,F,by simp[G],?_⟩⟩
   ·rw[Below.heap_setCell _ _ _ _ u,heap_setCell_same w g m _ _ _ x]
   ·rw[ph,List.length_dropLast,l,Nat.mul_one,Array.toList_setIfInBounds,Nat.add_sub_cancel,List.take_set_of_le (Nat.le_refl m),List.dropLast_eq_take,List.map_take,<-H,List.take_take,l,Nat.add_sub_cancel,Nat.min_eq_left (by omega)]
  ·rw[dh _ _ e,dh _ _ e]
   refine(q.row t f).keepQ fun y d=>C y (fun n=>?_) fun n=>r t f (n▸d)
   subst n
   rcases eA h with rfl|rfl <;> rcases eA f with rfl|rfl
   ·exact e rfl
   ·exact q.apart y i d
   ·exact q.apart y d i
   ·exact e rfl
 ·by_cases e:t=s
  ·subst e;rw[dg,List.length_dropLast];have:=q.len t f;omega
  ·rw[dh _ _ e];exact q.len t f
 ·rcases eA h with rfl|rfl
  ·rw[dg]at j
   rw[dh _ _ (by omega)]at k;exact q.apart y (by rw[i];exact j) k
  ·rw[dg]at k
   rw[dh _ _ (by omega)]at j;exact q.apart y j (by rw[i];exact k)
 ·refine(C y (fun e=>q.row_item h i d e.symm) (fun e=>?_)).trans (q.item y d).2
  subst e;have:=(q.item y d).2;rw[q.box]at this;injection this with this;injection this with _ this;exact absurd this (by decide)
 ·by_cases e:t=s
  ·subst e
   rw[dg]at d;exact q.sub t f y ((List.dropLast_sublist _).subset d)
  ·rw[dh _ _ e]at d
   exact q.sub t f y d
theorem LJ(q:QR w B b pre ids vs pl ls){s:Nat}(i:s<2){m:Nat}(k:(ls s).length=m+1):Calls prog 245 #[eW b s] w fun r G=>r=.returned (.iface 278 (.pointer (some ⟨(ls s).getD m 0,0,none⟩))) /\
  ∃H,QR G B b pre ids (db vs s H) pl (db ls s (ls s).dropLast)/\OnlyS (QS b ids vs) w G/\H.ownBlock=(vs s).ownBlock:=by
 have l:ls s≠[]:=fun e=>by rw[e]at k;simp at k
 have A:=q.len s i;rw[k]at A;have f:Below w.heap.size w (w.alloc (.cells #[.pointer (some ⟨b,0,none⟩),.int .i64 s] 261)):=da w _;have c:=q.later f;have C:(w.alloc (.cells #[.pointer (some ⟨b,0,none⟩),.int .i64 s] 261)).cell? ⟨w.heap.size,0,none⟩=some (.pointer (some ⟨b,0,none⟩)):=by simp
 have D:(w.alloc (.cells #[.pointer (some ⟨b,0,none⟩),.int .i64 s] 261)).cell? ⟨w.heap.size,1,none⟩=some (.int .i64 s):=by simp
 obtain⟨g,a,U,y,_,o,M,_,_,_⟩:=c.rowC i k;obtain⟨g',N,p,z,V,_,I,J⟩:=c.cellR i l;rw[y]at p;injection p with e1 e3 e2;clear e3;injection e1 with e1;injection e1 with e1;subst e1 e2;have L:=c.cellB i;rw[y]at L;have cm:=J m (by omega);have fm:=I m;have W:(s:Int)<2:=by omega
 have t:=c.not_other (heap_alloc_new w _) (by decide) (by decide) (by decide);have h:w.heap.size≠g:=fun e=>t (.own i (e▸z))
 have u:b≠g:=fun e=>by
  have d:=o;rw[<-e,c.box]at d;injection d with d;injection d with _ d;exact absurd d (by decide)
 have O:(w.alloc (.cells #[.pointer (some ⟨b,0,none⟩),.int .i64 s] 261)).frozen? ⟨b,s,none⟩=false:=by simp only[World.frozen?,c.box];simp
 have E:Hid (∀n,QR ((((w.alloc (.cells #[.pointer (some ⟨b,0,none⟩),.int .i64 s] 261)).drewN n).setCell ⟨g,m,none⟩ (.pointer none)).setCell ⟨b,s,none⟩ (.slice (some ⟨g,0,none⟩) m a)) B b pre ids (db vs s (.slice (some ⟨g,0,none⟩) m a)) pl (db ls s (ls s).dropLast)/\OnlyS (QS b ids vs) w ((((w.alloc (.cells #[.pointer (some ⟨b,0,none⟩),.int .i64 s] 261)).drewN n).setCell ⟨g,m,none⟩ (.pointer none)).setCell ⟨b,s,none⟩ (.slice (some ⟨g,0,none⟩) m a))):=fun n=>by
  have P:QR ((w.alloc (.cells #[.pointer (some ⟨b,0,none⟩),.int .i64 s] 261)).drewN n) B b pre ids vs pl ls:=c.keep c.low fun _ _=>rfl
  obtain⟨Q,d⟩:=P.shrink i k y;exact⟨Q,OnlyS.trans (OnlyS.of_below f.drewN) d⟩
 have R:Hid ((Value.slice (some ⟨g,0,none⟩) m a).ownBlock=(vs s).ownBlock):=by show _=_;rw[z];rfl
 have F:∀n j v,j≠s->(((w.alloc (.cells #[.pointer (some ⟨b,0,none⟩),.int .i64 s] 261)).drewN n).setCell ⟨g,m,none⟩ v).cell? ⟨w.heap.size,j,none⟩=(w.alloc (.cells #[.pointer (some ⟨b,0,none⟩),.int .i64 s] 261)).cell? ⟨w.heap.size,j,none⟩:=fun n j v _=>kJ _ h m j v
 have X:∀n,(((w.alloc (.cells #[.pointer (some ⟨b,0,none⟩),.int .i64 s] 261)).drewN n).setCell ⟨g,m,none⟩ (.pointer none)).cell? ⟨w.heap.size,0,none⟩=some (.pointer (some ⟨b,0,none⟩)):=fun n=>(kJ _ h m 0 _).trans C
 have Y:∀n,(((w.alloc (.cells #[.pointer (some ⟨b,0,none⟩),.int .i64 s] 261)).drewN n).setCell ⟨g,m,none⟩ (.pointer none)).cell? ⟨w.heap.size,1,none⟩=some (.int .i64 s):=fun n=>(kJ _ h m 1 _).trans D
 have Z:∀n,(((w.alloc (.cells #[.pointer (some ⟨b,0,none⟩),.int .i64 s] 261)).drewN n).setCell ⟨g,m,none⟩ (.pointer none)).cell? ⟨b,s,none⟩=some (.slice (some ⟨g,0,none⟩) (m+1) a):=fun n=>(kJ _ u m s _).trans L
 have aa:∀n,(((w.alloc (.cells #[.pointer (some ⟨b,0,none⟩),.int .i64 s] 261)).drewN n).setCell ⟨g,m,none⟩ (.pointer none)).frozen? ⟨b,s,none⟩=false:=fun n=>(World.frozen?_of_block (Below.heap_setCell _ _ _ _ u)).trans O
 clear F q c J I l o t y k z f;generalize (ls s).getD m 0=x at *;go_enter func245,ntmps245;go_wp2
 go_quiet (fail)
 go_wp2
 go_region
 go_wp2;go_ret;obtain⟨S,T⟩:=E.out (nq+1)
 trace_state
 exact⟨rfl,_,S,T,R.out⟩
end
end
section
open Go.Lib (hid)
open Go.Proofs.Tryz Go.RowKit
structure SideOk(pre:Nat->df)(p:Nat->Int)(l:List Nat)(s:Nat):Prop where
 nodup:l.Nodup
 pos:pW p l
 heap:gJ (dR pre s) l.length fun k=>l.getD k 0
theorem SideOk.top{pre:Nat->df}{p:Nat->Int}{l:List Nat}{s:Nat}(h:SideOk pre p l s){y:Nat}(a:y∈l):dR pre s y (l.getD 0 0)=false:=by
 obtain⟨k,b,rfl⟩:=yt a;exact Ki (js pre s) h.heap k b
theorem zN{l:List Nat}{x k:Nat}(h:k<l.length):(l++[x]).getD k 0=l.getD k 0:=by simp[List.getD,List.getElem?_append_left h]
theorem KQ{l:List Nat}{x:Nat}:(l++[x]).getD l.length 0=x:=by simp[List.getD]
theorem zO{l:List Nat}{m k:Nat}(b:l.length=m+1)(h:k<m):l.dropLast.getD k 0=l.getD k 0:=by
 have a:k<l.dropLast.length:=by rw[List.length_dropLast];omega
 simp only[List.getD,List.getElem?_eq_getElem a,List.getElem?_eq_getElem (by omega:k<l.length),Option.getD_some,List.getElem_dropLast]
theorem DI{l:List Nat}{m:Nat}(b:l.length=m+1):l.dropLast++[l.getD m 0]=l:=by
 have a:l≠[]:=fun e=>by rw[e]at b;simp at b
 have h:=List.dropLast_concat_getLast a
 have e:l.getLast a=l.getD m 0:=by
  rw[List.getLast_eq_getElem];simp[List.getD,b]
 rw[<-e];exact h
theorem xd{b:Nat}{ids:List Nat}{vs:Nat->Value}{s:Nat}(i:s<2){d:Value}{z:Nat}(a:d.ownBlock=(vs s).ownBlock∨∃y,d.ownBlock=some y/\z<=y){x:Nat}(hx:QS b ids (db vs s d) x):QS b ids vs x∨z<=x:=by
 have c:∀t,t<2->(db vs s d t).ownBlock=some x->QS b ids vs x∨z<=x:=fun t f h=>by
  by_cases e:t=s
  ·subst e
   rw[dg]at h;rcases a with a|⟨y,a,g⟩
   ·exact .inl (.own f (a▸h))
   ·rw[a]at h;injection h with h;subst h;exact .inr g
  ·rw[dh _ _ e]at h
   exact .inl (.own f h)
 rcases hx with hx|hx|hx|hx
 ·exact .inl (.inl hx)
 ·exact c 0 (by omega) hx
 ·exact c 1 (by omega) hx
 ·exact .inl (.inr (.inr (.inr hx)))
section
variable{w w' w'':World}{B b:Nat}{pre:Nat->df}{ids:List Nat}{vs:Nat->Value}{pl pl1 pl2:Nat->Nat->Int}{ls:Nat->List Nat}{s n n2:Nat}{l1 l2:List Nat}
theorem MvR.trans(a:MvR B b pre ids vs pl ls s n w pl1 l1 w')(c:MvR B b pre ids vs pl1 (db ls s l1) s n2 w' pl2 l2 w''){k:Nat}(g:(ls s).length<=k):MvR B b pre ids vs pl ls s k w pl2 l2 w'':=by
 have e:=c.qr;have d:=c.perm;rw[ou]at e;rw[dg]at d;refine⟨e,d.trans a.perm,c.pos,fun t f=>(c.oth t f).trans (a.oth t f),fun j h=>?_,a.only.trans c.only⟩;have i:l2.length=(ls s).length:=(d.trans a.perm).length_eq;simp only[List.getD,List.getElem?_eq_none (by omega:l2.length<=j),List.getElem?_eq_none (by omega:(ls s).length<=j)]
theorem MvR.last{m:Nat}(a:MvR B b pre ids vs pl ls s n w pl1 l1 w')(g:(ls s).length=m+1)(h:(ls s).Nodup)(i:gJ (dR pre s) m fun k=>l1.getD k 0):SideOk pre (pl1 s) l1.dropLast s/\(l1.getD m 0::l1.dropLast).Perm (ls s):=by
 have d:l1.length=m+1:=a.len.trans g;have c:l1.dropLast.length=m:=by rw[List.length_dropLast];omega
 refine⟨⟨(a.nodup h).sublist (List.dropLast_sublist _),fun j e=>?_,?_⟩,?_⟩
 ·rw[c]at e
  rw[zO d e];exact a.pos j (by omega)
 ·rw[c]
  exact zt i fun k l=>(zO d l).symm
 ·have f:(l1.getD m 0::l1.dropLast).Perm (l1.dropLast++[l1.getD m 0]):=(List.perm_append_singleton _ _).symm
  rw[DI d]at f;exact f.trans a.perm
def vd(B b:Nat)(pre:Nat->df)(ids:List Nat)(vs:Nat->Value)(pl:Nat->Nat->Int)(ls:Nat->List Nat)(s x z:Nat)(w w':World):Prop:=
 ∃d c e,QR w' B b pre ids (db vs s d) c (db ls s e)/\SideOk pre (c s) e s/\(∀t,t≠s->c t=pl t)/\e.Perm (x::ls s)/\OnlyS (QS b ids vs) w w'/\(d.ownBlock=(vs s).ownBlock∨∃y,d.ownBlock=some y/\z<=y)
theorem Ko(q:QR w B b pre ids vs pl ls)(A:s<2)(F:SideOk pre (pl s) (ls s) s){x:Nat}(hx:x∈ids)(d:x∉ls s)(O:(ls s).length<100000):
  Calls prog 187 #[kI b s,.iface 278 (.pointer (some ⟨x,0,none⟩))] w fun r w'=>r=.returned (.tuple #[])/\vd B b pre ids vs pl ls s x w.heap.size w w':=by
 have P:=hid (LI q A hx O (z:=w.heap.size) (Nat.le_refl _));have c:=hid F;have X:Hid (∀y,QS b ids vs y->y<w.heap.size):=fun y i=>q.lt i
 have Y:=Ib b s;have Z:=tD b s;clear q F;go_enter func187,ntmps187;go_wp2_with fail;refine P.out.mono ?_;rintro r p⟨rfl,G,C,H,I⟩;have a:((db ls s (ls s++[x])) s).length=(ls s).length+1:=by rw[dg,List.length_append];rfl
 have Q:Hid (Calls prog 243 #[eW b s] p fun r w'=>r=.returned (.int .i64 ((ls s).length+1))/\Below p.heap.size p w'):=by
  have h:=rt C A;rw[a]at h;exact h
 have R:Hid (∀l,Below p.heap.size p l->Calls prog 213 #[kI b s,.int .i64 (ls s).length] l fun r w'=>r=.returned (.tuple #[])/\∃f u,MvR B b pre ids (db vs s G) (ib pl s x (ls s).length) (db ls s (ls s++[x])) s ((ls s).length+1) l f u w'/\gJ (dR pre s) ((ls s).length+1) (fun k=>u.getD k 0)):=fun l hb=>by
  refine vx (C.later hb) A ?_ ?_ (by rw[a];exact Nat.le_refl _) (Nat.lt_succ_self _) ?_
  ·rw[dg,List.nodup_append]
   exact⟨c.out.nodup,by simp,fun y i z v=>by simp at v;subst v;rintro rfl;exact d i⟩
  ·rw[dg]
   intro j S;rw[List.length_append,List.length_singleton]at S;unfold ib;rw[dg]
   by_cases e:j=(ls s).length
   ·subst e
    rw[KQ,dg]
   ·rw[zN (by omega),dh _ _ (fun T=>d (by rw[<-T];exact nQ (by omega)))]
    exact c.out.pos j (by omega)
  ·rw[dg]
   exact Kk (zt c.out.heap fun k U=>(zN U).symm)
 have V:=hid H;have J:=hid I;clear C H I a;go_wp2_with fail;refine Q.out.mono ?_;rintro r l⟨rfl,g⟩;have D:=hid g;go_wp2_with fail;refine(R.out l g).mono ?_;rintro r w4⟨rfl,f,u,m,L⟩;have n:=hid m;have W:=hid L;clear g m L;go_wp2;refine bodyPost_end (results_none rfl _ _ _) rfl ⟨rfl,G,f,u,?_,?_,?_,?_,?_,J.out⟩
 ·have:=n.out.qr
  rw[ou]at this;exact this
 ·have o:=n.out.perm
  rw[dg]at o;have E:u.length=(ls s).length+1:=by rw[o.length_eq,List.length_append];rfl
  refine⟨o.nodup_iff.2 ?_,n.out.pos,by rw[E];exact W.out⟩;rw[List.nodup_append];exact⟨c.out.nodup,by simp,fun y i z v=>by simp at v;subst v;rintro rfl;exact d i⟩
 ·intro t M
  rw[n.out.oth t M];unfold ib;rw[dh _ _ M]
 ·have o:=n.out.perm
  rw[dg]at o;exact o.trans (List.perm_append_singleton _ _)
 ·refine(V.out.trans (OnlyS.of_below D.out)).thenS n.out.only fun y i h=>?_
  rcases xd A J.out h with N|N
  ·exact N
  ·omega
def kP(B b:Nat)(pre:Nat->df)(ids:List Nat)(vs:Nat->Value)(pl:Nat->Nat->Int)(ls:Nat->List Nat)(s x:Nat)(w w':World):Prop:=
 ∃e c d,QR w' B b pre ids (db vs s e) c (db ls s d)/\SideOk pre (c s) d s/\(∀t,t≠s->c t=pl t)/\(x::d).Perm (ls s)/\OnlyS (QS b ids vs) w w'/\e.ownBlock=(vs s).ownBlock
theorem zp(a:MvR B b pre ids vs pl ls s n w pl1 l1 w')(e:s<2){m:Nat}(c:(ls s).length=m+1)(f:(ls s).Nodup)(g:gJ (dR pre s) m fun k=>l1.getD k 0){x:Nat}(hx:l1.getD m 0=x):
  Calls prog 245 #[eW b s] w' fun r w''=>r=.returned (.iface 278 (.pointer (some ⟨x,0,none⟩)))/\kP B b pre ids vs pl ls s x w w'':=by
 have h:l1.length=m+1:=a.len.trans c;refine(LJ a.qr e (m:=m) (by rw[dg];exact h)).mono ?_;rintro r w''⟨rfl,i,q,o,j⟩;rw[dg]at q ⊢;rw[ou]at q;obtain⟨l,d⟩:=a.last c f g;rw[hx]at d;rw[hx];exact⟨rfl,i,pl1,l1.dropLast,q,l,a.oth,d,a.only.trans o,j⟩
theorem Kp(q:QR w B b pre ids vs pl ls)(a:s<2)(c:SideOk pre (pl s) (ls s) s){m:Nat}(p:(ls s).length=m+1):
  Calls prog 194 #[kI b s] w fun r w'=>r=.returned (.iface 278 (.pointer (some ⟨(ls s).getD 0 0,0,none⟩)))/\kP B b pre ids vs pl ls s ((ls s).getD 0 0) w w':=by
 have v:=q.len s a;rw[p]at v
 have G:Hid (Calls prog 243 #[eW b s] w fun r w'=>r=.returned (.int .i64 ((m:Int)+1))/\Below w.heap.size w w'):=by
  have h:=rt q a;rw[p]at h;exact h
 have H:Hid (∀e,Below w.heap.size w e->Calls prog 247 #[eW b s,.int .i64 0,.int .i64 m] e fun r w'=>r=.returned (.tuple #[])/\∃pl1,MvR B b pre ids vs pl ls s (m+1) w pl1 (eX (ls s) 0 m) w'):=fun e hb=>by
  have I:MvR B b pre ids vs pl ls s (m+1) w pl (ls s) e:=(MvR.refl q c.pos).later hb;refine(nV (q.later hb) a (i:=0) (k:=m) (by omega) (by omega)).mono ?_;rintro r g⟨rfl,J,L⟩;exact⟨rfl,_,I.swap a c.nodup (by omega) (by omega) (by omega) (by omega) (by rw[qc];exact J) L⟩
 have x:Hid (∀g pl1,MvR B b pre ids vs pl ls s (m+1) w pl1 (eX (ls s) 0 m) g->Calls prog 218 #[kI b s,.int .i64 0,.int .i64 m] g fun r w'=>∃d pl2 l2,r=.returned (.bool d)/\MvR B b pre ids vs pl ls s (m+1) w pl2 l2 w'/\gJ (dR pre s) m (fun k=>l2.getD k 0)/\l2.getD m 0=(ls s).getD 0 0):=fun g pl1 j=>by
  refine(Am j.qr a (n:=m) (i0:=0) (by rw[dg];exact j.nodup c.nodup) (by rw[dg];exact j.pos) (by rw[dg,sj];omega) (Nat.zero_le _) ?_).mono ?_
  ·rw[dg]
   refine pt (Nat.zero_le _) (zs (js pre s) (n:=m) (f:=fun k=>(ls s).getD k 0) (by have:=c.heap;rw[p]at this;exact this) (i:=0)) fun k _=>(iC (by omega) (by omega) k).symm
  ·rintro r l⟨d,pl2,l2,rfl,z,t,u⟩
   refine⟨d,pl2,l2,rfl,j.trans z (by omega),?_,?_⟩
   ·cases d
    ·exact vu (u rfl)
    ·exact t rfl
   ·have:=z.rest m (Nat.le_refl _)
    rw[dg,iC (by omega) (by omega),mh]at this;exact this
 have M:Hid (∀l pl2 l2,MvR B b pre ids vs pl ls s (m+1) w pl2 l2 l->gJ (dR pre s) m (fun k=>l2.getD k 0)->l2.getD m 0=(ls s).getD 0 0->_):=fun l pl2 l2 t u N=>zp (w':=l) t a p c.nodup u N
 have P:=yl b s;have Q:=tD b s;have R:=qJ b s;clear q c;generalize (ls s).getD 0 0=S at *;go_enter func194,ntmps194;go_wp2_with fail;refine G.out.mono ?_;rintro r e⟨rfl,o⟩;go_wp2_with fail;refine(H.out e o).mono ?_;rintro r g⟨rfl,pl1,A⟩;have j:=hid A;clear A o;go_wp2_with fail;refine(x.out g pl1 j.out).mono ?_;rintro r l⟨d,pl2,l2,rfl,C,D,E⟩;have y:=hid (M.out l pl2 l2 C D E);clear C D E;go_wp2_with fail;refine y.out.mono ?_;rintro r T⟨rfl,F⟩;have O:=hid F;clear F;go_wp2;go_ret;exact⟨rfl,O.out⟩
theorem Kn(q:QR w B b pre ids vs pl ls)(u:s<2)(l:SideOk pre (pl s) (ls s) s){i m:Nat}(C:(ls s).length=m+1)(R:i<=m):
  Calls prog 195 #[kI b s,.int .i64 i] w fun r w'=>r=.returned (.iface 278 (.pointer (some ⟨(ls s).getD i 0,0,none⟩)))/\kP B b pre ids vs pl ls s ((ls s).getD i 0) w w':=by
 have M:=q.len s u;rw[C]at M
 have S:Hid (Calls prog 243 #[eW b s] w fun r w'=>r=.returned (.int .i64 ((m:Int)+1))/\Below w.heap.size w w'):=by
  have h:=rt q u;rw[C]at h;exact h
 have aa:=yl b s;have ab:=tD b s;have ac:=qJ b s;have E:Hid (∀c n pl2 l2,MvR B b pre ids vs pl ls s n w pl2 l2 c->gJ (dR pre s) m (fun k=>l2.getD k 0)->l2.getD m 0=(ls s).getD i 0->_):=fun c n pl2 l2 G H X=>zp (n:=n) (w':=c) G u C l.nodup H X
 by_cases o:i=m
 ·have N:Hid (∀a,Below w.heap.size w a->_):=fun a hb=>E.out a (m+1) pl (ls s) ((MvR.refl q l.pos).later hb) (by have:=l.heap;rw[C]at this;exact Km this) (by rw[o])
  have Y:((m:Int)==(i:Int))=true:=by simp[o]
  clear q l o E;generalize (ls s).getD i 0=Z at *;go_enter func195,ntmps195;go_wp2_with fail;refine S.out.mono ?_;rintro r a⟨rfl,p⟩;have e:=hid (N.out a p);go_wp2_with fail;refine e.out.mono ?_;rintro r I⟨rfl,v⟩;have H5:=hid v;clear v;go_wp2;go_ret;exact⟨rfl,H5.out⟩
 have HS:Hid (∀a,Below w.heap.size w a->Calls prog 247 #[eW b s,.int .i64 i,.int .i64 m] a fun r w'=>r=.returned (.tuple #[])/\∃pl1,MvR B b pre ids vs pl ls s (m+1) w pl1 (eX (ls s) i m) w'):=fun a hb=>by
  have M2:MvR B b pre ids vs pl ls s (m+1) w pl (ls s) a:=(MvR.refl q l.pos).later hb;refine(nV (q.later hb) u (i:=i) (k:=m) (by omega) (by omega)).mono ?_;rintro r y⟨rfl,q3,o3⟩;exact⟨rfl,_,M2.swap u l.nodup (by omega) (by omega) (by omega) (by omega) (by rw[qc];exact q3) o3⟩
 have O:Hid (∀y pl1,MvR B b pre ids vs pl ls s (m+1) w pl1 (eX (ls s) i m) y->Calls prog 218 #[kI b s,.int .i64 i,.int .i64 m] y fun r w'=>∃d pl2 l2,r=.returned (.bool d)/\MvR B b pre ids vs pl ls s (m+1) w pl2 l2 w'/\(d=true->gJ (dR pre s) m (fun k=>l2.getD k 0))/\(d=false->hJ (dR pre s) m (fun k=>l2.getD k 0) i)/\l2.getD m 0=(ls s).getD i 0):=fun y pl1 z=>by
  refine(Am z.qr u (n:=m) (i0:=i) (by rw[dg];exact z.nodup l.nodup) (by rw[dg];exact z.pos) (by rw[dg,sj];omega) R ?_).mono ?_
  ·rw[dg]
   refine pt R (zs (js pre s) (n:=m) (f:=fun k=>(ls s).getD k 0) (by have:=l.heap;rw[C]at this;exact this) (i:=i)) fun k _=>(iC (by omega) (by omega) k).symm
  ·rintro r c⟨d,pl2,l2,rfl,t,G,H⟩
   refine⟨d,pl2,l2,rfl,z.trans t (by omega),G,H,?_⟩;have:=t.rest m (Nat.le_refl _);rw[dg,iC (by omega) (by omega),mh]at this;exact this
 have P:Hid (∀c pl2 l2,MvR B b pre ids vs pl ls s (m+1) w pl2 l2 c->hJ (dR pre s) m (fun k=>l2.getD k 0) i->l2.getD m 0=(ls s).getD i 0->Calls prog 213 #[kI b s,.int .i64 i] c fun r w'=>r=.returned (.tuple #[])/\∃g x,MvR B b pre ids vs pl ls s (m+1) w g x w'/\gJ (dR pre s) m (fun k=>x.getD k 0)/\x.getD m 0=(ls s).getD i 0):=fun c pl2 l2 t hu A=>by
  refine(vx t.qr u (n:=m) (j:=i) (by rw[dg];exact t.nodup l.nodup) (by rw[dg];exact t.pos) (by rw[dg,t.len];omega) (by omega) (by rw[dg];exact hu)).mono ?_;rintro r I⟨rfl,g,x,T,v⟩;refine⟨rfl,g,x,t.trans T (by omega),v,?_⟩;have:=T.rest m (Nat.le_refl _);rw[dg]at this;exact this.trans A
 have Y:((m:Int)==(i:Int))=false:=by rw[beq_eq_false_iff_ne];omega
 clear q l o;generalize (ls s).getD i 0=Z at *;go_enter func195,ntmps195;go_wp2_with fail;refine S.out.mono ?_;rintro r a⟨rfl,p⟩;go_wp2_with fail;refine(HS.out a p).mono ?_;rintro r y⟨rfl,pl1,U⟩;have z:=hid U;clear U p;go_wp2_with fail;refine(O.out y pl1 z.out).mono ?_;rintro r c⟨d,pl2,l2,rfl,F,J,u4,A⟩
 cases d
 ·have Q:=hid (P.out c pl2 l2 F (u4 rfl) A)
  clear F J u4 A;go_wp2_with fail;refine Q.out.mono ?_;rintro r I⟨rfl,g,x,V,v,W⟩;have e:=hid (E.out I (m+1) g x V v W);clear V v W;go_wp2_with fail;refine e.out.mono ?_;rintro r w6⟨rfl,D⟩;have L:=hid D;clear D;go_wp2;go_ret;exact⟨rfl,L.out⟩
 ·have e:=hid (E.out c (m+1) pl2 l2 F (J rfl) A)
  clear F J u4 A;go_wp2_with fail;refine e.out.mono ?_;rintro r w6⟨rfl,D⟩;have L:=hid D;clear D;go_wp2;go_ret;exact⟨rfl,L.out⟩
end
section
variable{w w' w'':World}{B b:Nat}{pre:Nat->df}{ids:List Nat}{vs:Nat->Value}{pl pl1 pl2:Nat->Nat->Int}{ls:Nat->List Nat}{s:Nat}
theorem kP.before{x:Nat}(hb:Below w.heap.size w w')(h:kP B b pre ids vs pl ls s x w' w''):kP B b pre ids vs pl ls s x w w'':=by
 obtain⟨c,a,d,e,f,g,i,j,k⟩:=h;exact⟨c,a,d,e,f,g,i,OnlyS.after hb j,k⟩
theorem CX(q:QR w B b pre ids vs pl ls)(f:s<2)(c:SideOk pre (pl s) (ls s) s){m:Nat}(d:(ls s).length=m+1):
  Calls prog 170 #[eW b s] w fun r w'=>r=.returned (.pointer (some ⟨(ls s).getD 0 0,0,none⟩))/\kP B b pre ids vs pl ls s ((ls s).getD 0 0) w w':=by
 have a:Below w.heap.size w (w.alloc (.cells #[.pointer (some ⟨b,0,none⟩),.int .i64 s] 261)):=da w _;have g:=hid (Kp (q.later a) f c d);have has:=Bb (.pointer (some ⟨(ls s).getD 0 0,0,none⟩));have h:=hid a;clear q c d a;generalize (ls s).getD 0 0=j at *;go_enter func170,ntmps170;go_wp2_with fail;refine g.out.mono ?_;rintro r k⟨rfl,e⟩;have i:=hid (e.before h.out);clear e;go_wp2;go_ret;exact⟨rfl,i.out⟩
theorem LO(q:QR w B b pre ids vs pl ls)(d:s<2)(e:SideOk pre (pl s) (ls s) s){m j x:Nat}(h:(ls s).length=m+1)(i:j<=m)(hx:(ls s).getD j 0=x):
  Calls prog 171 #[eW b s,.pointer (some ⟨x,0,none⟩)] w fun r w'=>r=.returned (.tuple #[])/\kP B b pre ids vs pl ls s x w w':=by
 have a:Below w.heap.size w (w.alloc (.cells #[.pointer (some ⟨b,0,none⟩),.int .i64 s] 261)):=da w _;have k:=q.later a;have c:x∈ids:=q.sub s d x (hx▸nQ (by omega));have o:=(k.cellI c).2 s d;have f:=e.pos j (by omega);rw[hx]at f;rw[f]at o;have u:(w.alloc (.cells #[.pointer (some ⟨b,0,none⟩),.int .i64 s] 261)).cell? ⟨w.heap.size,0,none⟩=some (.pointer (some ⟨b,0,none⟩)):=by simp
 have v:(w.alloc (.cells #[.pointer (some ⟨b,0,none⟩),.int .i64 s] 261)).cell? ⟨w.heap.size,1,none⟩=some (.int .i64 s):=by simp
 have y:(s:Int)<2:=by omega
 have p:Hid (∀W,Below w.heap.size w W->Calls prog 195 #[kI b s,.int .i64 j] W fun r w'=>r=.returned (.iface 278 (.pointer (some ⟨x,0,none⟩)))/\kP B b pre ids vs pl ls s x w w'):=fun W hb=>by
  refine(Kn (q.later hb) d e h i).mono ?_;rintro r z⟨rfl,l⟩;rw[hx]at l ⊢;exact⟨rfl,l.before hb⟩
 have g:Below w.heap.size w (w.alloc (.cells #[.pointer (some ⟨b,0,none⟩),.int .i64 s] 261)).drew:=a.drew;clear q k e h a hx f i c;go_enter func171,ntmps171;go_wp2_with fail
 go_region_with (go_at_call 195;refine(p.out _ g).mono ?_;rintro r A⟨rfl,n⟩;have t:=hid n;clear n)
 all_goals go_wp2
 all_goals refine bodyPost_end (results_none rfl _ _ _) rfl ⟨rfl,t.out⟩
end
end
end Go.Proofs.YtjfmmnhcddckaaaGreat
