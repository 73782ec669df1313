import Derived.Test.YtjfmmnhcddckaaaGreatPk10
set_option maxRecDepth 100000
set_option maxHeartbeats 4000000
namespace Go.Proofs.YtjfmmnhcddckaaaGreat
section
open Go.Lib (hid)
open Go.Proofs.Tryz Go.RowKit
section
variable{p:Pg}{fuel:Int}{B b W Bud tb mb wb kb:Nat}{S:Nat->Prop}{m:Mac}{w:World}
theorem Nc(h:MY p fuel B b W Bud tb mb wb kb S m w)(Q:W<=64)(s:dS W m.wk<100000)(t:dT W m.box<100000){j:Nat}(R:j<W){k:dl}(g:k.length<=1000){v:Nat}(T:v<W)(u:gL m.l k=(v:Nat)){set:Nat}(x:dw m.l k 255=dw m.l k set):
  Calls prog 67 #[.pointer (some ⟨b,0,none⟩),.int .i64 (j:Int),.string ⟨k.toArray⟩] w fun r C=>r=.returned (.tuple #[])/\dz p fuel B b W Bud tb mb wb kb S (if gL m.l k=j then fT W j k set m else kY (gL m.l k).toNat ⟨k,set⟩ m) w C:=by
 obtain⟨⟨c0,U,D,E,F,G,H⟩,_⟩:=h.cells;obtain⟨I,y⟩:=h.pm;have z:=hid (F7 y g);rw[u]at z ⊢;rw[Int.toNat_natCast]
 by_cases i:v=j
 ·subst i
  have A:((v:Int) != (v:Int))=false:=by simp
  obtain⟨d,a⟩:∃d:Mac,d={ m with l:=(dw m.l k set).2 }:=⟨_,rfl⟩
  have J:=hid (h.parts (m':=d) (fun I q=>by rw[a,<-x];exact s7 q g (by omega:255<256)) (by rw[a]) (by rw[a]) (by rw[a]));have V:=hid g;have X:Hid (dS W d.wk<100000):=by show _;rw[a];exact s
  have Y:Hid ((if dt d.l k≠0 then ey W v k d else d)=fT W v k set m):=by show _=_;unfold fT;rw[a]
  clear h y g s t x u a U D E F G H;go_enter func67,ntmps67;go_wp2_with fail;refine z.out.mono ?_;rintro r Z⟨rfl,e⟩;have e:=e.symm;subst e;go_wp2_with fail;refine J.out.mono ?_;rintro r L⟨rfl,f⟩;obtain⟨M,o,N,O⟩:=f
  have c:Hid (dz p fuel B b W Bud tb mb wb kb S d w L):=⟨M,o,N,O⟩
  have HP:=hid (c.out.local0.own (m':=fT W v k set m) (fun M o=>(tv o Q X.out R V.out).mono fun r C ⟨e,h2⟩=>⟨e,by rw[<-Y.out];exact h2⟩));clear o N O J;go_wp2_with fail;refine HP.out.mono ?_;rintro r w2⟨rfl,f⟩;have n:=hid f.toR;clear f;go_wp2;exact bodyPost_end (results_none rfl _ _ _) rfl ⟨rfl,by first|exact n.out|(rw[if_pos rfl];exact n.out)⟩
 ·have A:((v:Int) != (j:Int))=true:=by simp;omega
  have P:=hid (h.parts (m':=kY v ⟨k,set⟩ m) (fun I q=>F6 q T ⟨k,set⟩ (by show k.length<=_;omega) t) rfl rfl rfl);have HN:Hid (¬(v:Int)=(j:Int)):=by show ¬_;omega
  unfold gC gT at P;clear h y g s t x u D E F G H i;go_enter func67,ntmps67;go_wp2_with fail;refine z.out.mono ?_;rintro r Z⟨rfl,e⟩;have e:=e.symm;subst e;go_wp2_with fail;refine P.out.mono ?_;rintro r L⟨rfl,f⟩;have c:=hid f;clear f;go_wp2;exact bodyPost_ret (results_none rfl _ _ _) rfl ⟨rfl,by first|exact c.out|(rw[if_neg HN.out];exact c.out)⟩
theorem Fh{W j:Nat}{x:Ltr}{r:List Ltr}{m:Mac}(h:dt (dw m.l x.q x.set).2 x.q≠0/\gp W m x.q=false):
  gd W j x r m={ ey W j x.q { m with box:=db m.box j r,l:=(dw m.l x.q x.set).2 }with l:=(eO (dw m.l x.q x.set).2 x.q j).2 }:=by
 unfold gd ey;rw[if_pos h];have e:gp W m x.q=false:=h.2;unfold gp at *;dsimp only at *;rw[e];rfl
theorem Fj{W j:Nat}{x:Ltr}{r:List Ltr}{m:Mac}(h:¬(dt (dw m.l x.q x.set).2 x.q≠0/\gp W m x.q=false)):
  gd W j x r m=if dt (dw m.l x.q x.set).2 x.q≠0 then ey W j x.q { m with box:=db m.box j r,l:=(dw m.l x.q x.set).2 }else { m with box:=db m.box j r,l:=(dw m.l x.q x.set).2 }:=by
 unfold gd;rw[if_neg h]
 split
 ·rename_i a
  have b:gp W m x.q=true:=by
   cases e:gp W m x.q
   ·exact absurd ⟨a,e⟩ h
   ·rfl
  unfold ey;unfold gp at *;dsimp only at *;rw[b];rfl
 ·rfl
theorem Fg(h:MY p fuel B b W Bud tb mb wb kb S m w){j:Nat}(i:j<W)(d:Int)(hx:m.box j=[]):Calls prog 44 #[.pointer (some ⟨b,0,none⟩),.int .i64 (j:Int),.int .i64 d] w fun r a=>r=.returned (.tuple #[.int .i64 0,.bool false])/\Below w.heap.size w a:=by
 obtain⟨⟨k,l,n,o,s,t,u⟩,_⟩:=h.cells;obtain⟨x,c⟩:=h.pm
 have f:Calls prog 77 #[.pointer (some ⟨mb,0,none⟩),.int .i64 (j:Int)] w fun e a=>e=.returned (.tuple #[gC nG,.bool false])/\Below w.heap.size w a:=by
  obtain⟨C,h,y,z,A,D,q,E⟩:=c;exact II q.ml i (by show(m.box j).map gT=_;rw[hx];rfl)
 have v:=hid f;clear h c f k n o s t u hx;go_enter func44,ntmps44;go_wp2_with fail;refine v.out.mono ?_;rintro r F⟨rfl,hb⟩;have g:=hid hb;clear l hb;unfold gC;go_wp2;go_ret2;exact⟨rfl,g.out.trans ((da _ _).mono g.out.size)⟩
theorem Hv(h:MY p fuel B b W Bud tb mb wb kb S m w)(hW:W<=64)(V:dS W m.wk<100000)(F:dT W m.box<100000){j:Nat}(X:j<W)(d:Int){x:Ltr}{r:List Ltr}(hx:m.box j=x::r)(N:x.q.length<=1000)(O:dw m.l x.q 255=dw m.l x.q x.set):
  Calls prog 44 #[.pointer (some ⟨b,0,none⟩),.int .i64 (j:Int),.int .i64 d] w fun e k=>e=.returned (.tuple #[.int .i64 1,.bool true])/\dz p fuel B b W Bud tb mb wb kb S (gd W j x r m) w k:=by
 have R0:=hid (dz.refl h);obtain⟨⟨H,s,t,u,v,y,z⟩,_⟩:=h.cells;have Y:=hid N
 obtain⟨n,c⟩:∃n:Mac,n={ m with box:=db m.box j r }:=⟨_,rfl⟩
 obtain⟨a,f⟩:∃a:Mac,a={ m with box:=db m.box j r,l:=(dw m.l x.q x.set).2 }:=⟨_,rfl⟩
 have Z:=hid (R0.out.call (m':=n) (fun A q=>by rw[c];exact F3 q X hx F) (by rw[c]) (by rw[c]) (by rw[c]));have HC:Hid (dS W a.wk<100000):=by show _;rw[f];exact V
 have P:Hid (a.keys=n.keys/\a.blk=n.blk/\a.over=n.over):=by show _;rw[c,f];exact⟨rfl,rfl,rfl⟩
 have T:Hid (∀{w:World} {A:Nat->Prop},PM p fuel w B tb mb wb W A n->Calls prog 71 #[.pointer (some ⟨tb,0,none⟩),.string ⟨x.q.toArray⟩,.int .u8 255] w fun r k=>r=.returned (.int .i64 (dw m.l x.q 255).1)/\gP p fuel B tb mb wb W A a w k):=fun q=>by
  have i:=s7 q N (by omega:255<256);rw[c]at i;rw[f];have e:(dw ({ m with box:=db m.box j r }:Mac).l x.q 255)=dw m.l x.q x.set:=O;rw[e]at i;rw[O];exact i
 have G:Hid (dt a.l x.q≠0/\gp W a x.q=false->gd W j x r m={ ey W j x.q a with l:=(eO a.l x.q j).2 }):=by
  show _->_;rw[f];exact Fh
 have U:Hid (¬(dt a.l x.q≠0/\gp W a x.q=false)->gd W j x r m=if dt a.l x.q≠0 then ey W j x.q a else a):=by
  show _->_;rw[f];exact Fj
 clear h H t u v y z hx N O V F c f;go_enter func44,ntmps44;go_wp2_with fail;refine Z.out.mono ?_;rintro e I⟨rfl,r1⟩;have J:=hid (r1.local0.more (da I (.cells #[.string ⟨x.q.toArray⟩,.int .u8 255] 146)) (Nat.le_refl _) (heap_alloc_new I _));clear r1 s Z;unfold gC gT;go_wp2_with fail;generalize I.heap.size=g at *;generalize (I.alloc (.cells #[.string ⟨x.q.toArray⟩,.int .u8 255] 146))=w2 at *;obtain⟨⟨H,s,t,u,v,y,z⟩,_⟩:=J.out.toR.cells;obtain⟨L,M⟩:=tP (J.out.get (List.mem_singleton.2 rfl))
 have HM:Hid (∀o,Below w2.heap.size w2 o->Calls prog 71 #[.pointer (some ⟨tb,0,none⟩),.string ⟨x.q.toArray⟩,.int .u8 255] o fun r k=>r=.returned (.int .i64 (dw m.l x.q 255).1)/\gQ p fuel B b W Bud tb mb wb kb S a [(g,(.cells #[.string ⟨x.q.toArray⟩,.int .u8 255] 146 (0,0)))] w k):=fun o hb=>
  (J.out.later hb).call (fun A q=>T.out q) P.out.1 P.out.2.1 P.out.2.2
 clear s t u v y z
 go_cut [] (fun wx=>Hid (gQ p fuel B b W Bud tb mb wb kb S a [(g,(.cells #[.string ⟨x.q.toArray⟩,.int .u8 255] 146 (0,0)))] w wx))
 case first=>
  go_wp2_with fail
  go_region_with (go_at_call 71;refine(HM.out _ (by first|with_reducible exact Below.refl _ _|with_reducible exact(Below.refl _ _).drew|with_reducible exact(Below.refl _ _).drewN)).mono ?_;rintro e w3⟨rfl,r3⟩;have C:=hid r3;clear r3)
  all_goals go_wp2_with fail
  all_goals go_meet
  all_goals exact C
 case rest=>
 have C:=hcut;clear hcut HM H L M J;generalize wc=w3 at *;obtain⟨L,M⟩:=tP (C.out.get (List.mem_singleton.2 rfl));have HP:=hid (C.out.own (m':=if dt a.l x.q≠0 then ey W j x.q a else a) (fun S1 i=>tv i hW HC.out X Y.out));go_wp2_with fail;refine HP.out.mono ?_;rintro e w4⟨rfl,r4⟩;have D:=hid r4;clear r4 HP L M C
 by_cases hb:dt a.l x.q≠0/\gp W a x.q=false
 ·have E:(decide (dt a.l x.q≠0) && !gp W a x.q)=true:=by rw[hb.2,decide_eq_true hb.1];rfl
  have Q:=hid (G.out hb);rw[E];rw[if_pos hb.1]at D
  have HL:Hid ((ey W j x.q a).l=a.l):=by show _=_;unfold ey;split <;> rfl
  obtain⟨⟨H,s,t,u,v,y,z⟩,_⟩:=D.out.toR.cells;obtain⟨L,M⟩:=tP (D.out.get (List.mem_singleton.2 rfl))
  have HH:Hid (∀o,Below w4.heap.size w4 o->Calls prog 79 #[.pointer (some ⟨tb,0,none⟩),.string ⟨x.q.toArray⟩,.int .i64 (j:Int)] o fun r k=>r=.returned (.int .i64 (eO a.l x.q j).1)/\gQ p fuel B b W Bud tb mb wb kb S { ey W j x.q a with l:=(eO a.l x.q j).2 } [(g,(.cells #[.string ⟨x.q.toArray⟩,.int .u8 255] 146 (0,0)))] w k):=fun o hb=>
   (D.out.later hb).call (m':={ ey W j x.q a with l:=(eO a.l x.q j).2 }) (fun A q=>by have i:=xA q Y.out j;rw[HL.out]at i;exact i) rfl rfl rfl
  clear hb E s t u v y z;go_wp2_with fail
  go_region_with (go_at_call 79;refine(HH.out _ (by first|with_reducible exact Below.refl _ _|with_reducible exact(Below.refl _ _).drew|with_reducible exact(Below.refl _ _).drewN)).mono ?_;rintro e w5⟨rfl,r5⟩;have R:=hid r5.toR;clear r5)
  all_goals go_wp2
  all_goals go_ret2
  all_goals exact⟨rfl,by rw[Q.out];exact R.out⟩
 ·have E:(decide (dt a.l x.q≠0) && !gp W a x.q)=false:=by
   cases hh:gp W a x.q
   ·rw[decide_eq_false fun hl=>hb ⟨hl,hh⟩];rfl
   ·simp
  have Q:=hid (U.out hb);rw[E];clear hb E;have R:=hid D.out.toR;go_wp2;go_ret2;exact⟨rfl,by rw[Q.out];exact R.out⟩
theorem Ds(h:MY p fuel B b W Bud tb mb wb kb S m w){j:Nat}(e:j<W)(d:Int)(hx:m.wk j≠[]):Calls prog 45 #[.pointer (some ⟨b,0,none⟩),.int .i64 (j:Int),.int .i64 d] w fun r a=>r=.returned (.tuple #[.int .i64 0,.bool false])/\a=w:=by
 obtain⟨⟨f,g,s,i,k,l,o⟩,_⟩:=h.cells;obtain⟨t,c⟩:=h.pm;have q:=hid (sZ c e)
 have u:decide (((m.wk j).length:Int)>0)=true:=by
  have:=List.length_pos_iff.2 hx;simp;omega
 clear h c f g i k l o;go_enter func45,ntmps45;go_wp2_with fail;refine q.out.mono ?_;rintro r a⟨rfl,rfl⟩;generalize ((m.wk j).length:Int)=n at *;go_wp2;go_ret2;exact⟨rfl,rfl⟩
theorem Dq(h:MY p fuel B b W Bud tb mb wb kb S m w)(F:W<=64){j:Nat}(o:j<W)(d:Int)(hx:m.wk j=[])(l:dD d W=j∨m.wk (dD d W)=[]):Calls prog 45 #[.pointer (some ⟨b,0,none⟩),.int .i64 (j:Int),.int .i64 d] w fun r f=>r=.returned (.tuple #[.int .i64 0,.bool true])/\Below w.heap.size w f:=by
 have H:=hid h;obtain⟨⟨q,s,G,t,u,x,y⟩,_⟩:=h.cells;obtain⟨z,k⟩:=h.pm;have n:=hid (sZ k o)
 have A:Hid (∀V,Below w.heap.size w V->Calls prog 29 #[.pointer (some ⟨b,0,none⟩)] V fun r f=>r=.returned (.int .i64 (W:Nat))/\V=f):=fun V hb=>(p7 (h.later hb)).mono fun _ _ ⟨a,c⟩=>⟨a,c.symm⟩
 have C:Hid (∀V,Calls prog 72 #[.int .i64 d,.int .i64 (W:Int)] V fun r f=>r=.returned (.int .i64 (dD d W:Nat))/\V=f):=fun V=>(tA d (by omega) (by omega) V).mono fun _ _ ⟨a,c⟩=>⟨a,c.symm⟩
 have g:Hid (∀V,Below w.heap.size w V->V.cell? ⟨b,2,none⟩=some (.pointer (some ⟨wb,0,none⟩))):=fun V hb=>(h.later hb).cells.1.2.2.1
 have D:Hid (∀V,Below w.heap.size w V->Calls prog 81 #[.pointer (some ⟨wb,0,none⟩),.int .i64 (j:Int),.int .i64 (dD d W:Nat)] V fun e f=>e=.returned (.tuple #[.string ⟨#[]⟩,.bool false])/\Below w.heap.size w f):=fun V hb=>by
  obtain⟨z,k⟩:=(h.later hb).pm
  exact(F4 k (l.imp_left Eq.symm)).mono fun _ _ ⟨a,c⟩=>⟨a,by subst c;exact hb⟩
 rw[hx]at n;clear h k q s t u x y hx l;generalize dD d W=v at *;go_enter func45,ntmps45;go_wp2_with fail;refine n.out.mono ?_;rintro r f⟨rfl,rfl⟩;go_wp2_with fail
 go_region_held3 (fun V=>V.cell? ⟨b,2,none⟩=some (.pointer (some ⟨wb,0,none⟩)))
  (first|with_reducible exact g.out _ (Below.refl _ _)|with_reducible exact g.out _ (Below.refl _ _).drew|with_reducible exact g.out _ i)
  (first
   |(go_at_call 29;(refine(A.out _ (by first|with_reducible exact Below.refl _ _|with_reducible exact(Below.refl _ _).drew|with_reducible exact(Below.refl _ _).drewN)).mono ?_);rintro r f ⟨rfl,rfl⟩)
   |(go_at_call 72;(refine(C.out _).mono ?_);rintro r f ⟨rfl,rfl⟩)
   |(go_at_call 81;(refine(D.out _ (by first|with_reducible exact Below.refl _ _|with_reducible exact(Below.refl _ _).drew|with_reducible exact(Below.refl _ _).drewN)).mono ?_);rintro r I⟨rfl,E⟩;have i:=E))
 all_goals go_wp2
 all_goals go_ret2
 all_goals exact⟨rfl,i⟩
theorem Dp(h:MY p fuel B b W Bud tb mb wb kb S m w)(Q:W<=64)(R:dS W m.wk<100000){j:Nat}(H:j<W)(d:Int)(hx:m.wk j=[])(I:dD d W≠j)(u:m.wk (dD d W)≠[])(x:((m.wk (dD d W)).getLast?.getD []).length<=1000):Calls prog 45 #[.pointer (some ⟨b,0,none⟩),.int .i64 (j:Int),.int .i64 d] w fun r g=>r=.returned (.tuple #[.int .i64 2,.bool true])/\dz p fuel B b W Bud tb mb wb kb S (iW j (dD d W) m) w g:=by
 have T:=hid (dz.refl h);obtain⟨⟨J,y,z,A,C,D,E⟩,_⟩:=h.cells;obtain⟨L,M⟩:=h.pm;have N:=hid (sZ M H);have G:dD d W<W:=lX d (by omega)
 obtain⟨k,i⟩:∃k,k=(m.wk (dD d W)).getLast?.getD []:=⟨_,rfl⟩
 have o:m.wk (dD d W)=(m.wk (dD d W)).dropLast++[k]:=by
  rw[i,List.getLast?_eq_some_getLast u];exact(List.dropLast_concat_getLast u).symm
 obtain⟨n,f⟩:∃n:Mac,n={ m with wk:=db (db m.wk (dD d W) (m.wk (dD d W)).dropLast) j (eU (m.wk j) k) }:=⟨_,rfl⟩
 have U:Hid (∀V,Below w.heap.size w V->Calls prog 29 #[.pointer (some ⟨b,0,none⟩)] V fun r g=>r=.returned (.int .i64 (W:Nat))/\V=g):=fun V hb=>(p7 (h.later hb)).mono fun _ _ ⟨a,c⟩=>⟨a,c.symm⟩
 have X:Hid (∀V,Calls prog 72 #[.int .i64 d,.int .i64 (W:Int)] V fun r g=>r=.returned (.int .i64 (dD d W:Nat))/\V=g):=fun V=>(tA d (by omega) (by omega) V).mono fun _ _ ⟨a,c⟩=>⟨a,c.symm⟩
 have s:Hid (∀V,Below w.heap.size w V->V.cell? ⟨b,2,none⟩=some (.pointer (some ⟨wb,0,none⟩))):=fun V hb=>(h.later hb).cells.1.2.2.1
 have Y:Hid (∀V,Below w.heap.size w V->Calls prog 81 #[.pointer (some ⟨wb,0,none⟩),.int .i64 (j:Int),.int .i64 (dD d W:Nat)] V fun e g=>e=.returned (.tuple #[.string ⟨k.toArray⟩,.bool true])/\dz p fuel B b W Bud tb mb wb kb S n w g):=fun V hb=>
  (T.out.later hb).call (m':=n) (fun L q=>by rw[f];exact F5 q Q R H G (Ne.symm I) o) (by rw[f]) (by rw[f]) (by rw[f])
 have Z:Hid (iW j (dD d W) m={ n with l:=(eO n.l k j).2 }):=by show _=_;unfold iW;rw[f,<-i]
 rw[<-i]at x;have HK:=hid x;rw[hx]at N;clear h M J y A C D E hx I u x i o f;generalize iW j (dD d W) m=m2 at *;generalize dD d W=v at *;go_enter func45,ntmps45;go_wp2_with fail;refine N.out.mono ?_;rintro r g⟨rfl,rfl⟩;go_wp2_with fail
 go_region_held3 (fun V=>V.cell? ⟨b,2,none⟩=some (.pointer (some ⟨wb,0,none⟩)))
  (first|with_reducible exact s.out _ (Below.refl _ _)|with_reducible exact s.out _ (Below.refl _ _).drew|with_reducible exact t)
  (first
   |(go_at_call 29;(refine(U.out _ (by first|with_reducible exact Below.refl _ _|with_reducible exact(Below.refl _ _).drew|with_reducible exact(Below.refl _ _).drewN)).mono ?_);rintro r g ⟨rfl,rfl⟩)
   |(go_at_call 72;(refine(X.out _).mono ?_);rintro r g ⟨rfl,rfl⟩)
   |(go_at_call 81;(refine(Y.out _ (by first|with_reducible exact Below.refl _ _|with_reducible exact(Below.refl _ _).drew|with_reducible exact(Below.refl _ _).drewN)).mono ?_);rintro r w1⟨rfl,F⟩;have O:=hid F;have t:=(dz.cells F).1.2.2.1;clear F))
 all_goals clear t z
 obtain⟨⟨J,y,z,A,C,D,E⟩,_⟩:=O.out.cells;have HH:=hid (O.out.call (m':={ n with l:=(eO n.l k j).2 }) (fun L q=>xA q HK.out j) rfl rfl rfl);clear y z A C D E;go_wp2_with fail;refine HH.out.mono ?_;rintro r w2⟨rfl,P⟩;have R2:=hid P;clear P;go_wp2;go_ret2;exact⟨rfl,by rw[Z.out];exact R2.out⟩
end
end
section
open Go.Proofs.Tryz Go.RowKit
def kk(p:Pg)(fuel:Int)(B b W Bud tb mb wb kb:Nat)(S:Nat->Prop)(m:Mac)(L:Nat->Prop)(w w':World):Prop:=∃a,MY p fuel B b W Bud tb mb wb kb a m w'/\OnlyS S w w'/\(∀x,a x->S x∨w.heap.size<=x)/\∀x,L x->¬a x/\x<w'.heap.size
section
variable{p:Pg}{fuel:Int}{B b W Bud tb mb wb kb:Nat}{S L:Nat->Prop}{m m':Mac}{w w1 w2 w':World}
theorem dz.beside(r:dz p fuel B b W Bud tb mb wb kb S m w w1)(hb:Below w1.heap.size w1 w2)(a:∀x,L x->w1.heap.size<=x/\x<w2.heap.size):kk p fuel B b W Bud tb mb wb kb S m L w w2:=by
 obtain⟨d,c,e,f⟩:=r;exact⟨d,c.later hb,e.trans (OnlyS.of_below hb),f,fun x hx=>⟨fun g=>by have:=(c.low.2 x g).2;have:=(a x hx).1;omega,(a x hx).2⟩⟩
theorem kk.toR(r:kk p fuel B b W Bud tb mb wb kb S m L w w1):dz p fuel B b W Bud tb mb wb kb S m w w1:=by
 obtain⟨a,c,d,e,_⟩:=r;exact⟨a,c,d,e⟩
theorem kk.later(r:kk p fuel B b W Bud tb mb wb kb S m L w w1)(hb:Below w1.heap.size w1 w'):kk p fuel B b W Bud tb mb wb kb S m L w w':=by
 obtain⟨c,d,e,f,a⟩:=r;exact⟨c,d.later hb,e.trans (OnlyS.of_below hb),f,fun x hx=>⟨(a x hx).1,Nat.lt_of_lt_of_le (a x hx).2 hb.size⟩⟩
theorem kk.own(l:kk p fuel B b W Bud tb mb wb kb S m L w w1){F:FuncId}{args:Array Value}{V:Ending->Prop}(n:∀d,MY p fuel B b W Bud tb mb wb kb d m w1->Calls prog F args w1 fun r w'=>V r/\dz p fuel B b W Bud tb mb wb kb d m' w1 w'):
  Calls prog F args w1 fun r w'=>V r/\kk p fuel B b W Bud tb mb wb kb S m' L w w'/\OnlyS (fun x=>¬L x) w1 w':=by
 obtain⟨d,o,i,j,f⟩:=l
 refine(n d o).mono fun e w' ⟨a,q⟩=>⟨a,?_⟩
 obtain⟨s,t,g,k⟩:=q;refine⟨⟨s,t,i.thenS g fun x hx h=>?_,fun x hx=>?_,fun x hx=>⟨fun h=>?_,Nat.lt_of_lt_of_le (f x hx).2 g.size⟩⟩,g.mono fun x _ hx u=>(f x u).1 hx⟩
 ·rcases j x h with c|c
  ·exact c
  ·omega
 ·rcases k x hx with c|c
  ·exact j x c
  ·exact .inr (Nat.le_trans i.size c)
 ·rcases k x h with c|c
  ·exact(f x hx).1 c
  ·have:=(f x hx).2;omega
theorem dz.keyed{j:Nat}(r:dz p fuel B b W Bud tb mb wb kb S m w w1)(i:j<W)(k:dk):∃v,(∀V,Below w1.heap.size w1 V->V.cell? ⟨kb,j,none⟩=some v/\V.cell? ⟨b,3,none⟩=some (.slice (some ⟨kb,0,none⟩) W W)/\dc V B 9 1 du v (m.keys j)/\B<=V.heap.size) /\
  ∀V d u,Below w1.heap.size w1 V->dc u B 9 1 du d (m.keys j++[k])->V.grownBy u v.ownBlock->(d.ownBlock=v.ownBlock∨d.ownBlock=some V.heap.size) ->
   u.cell? ⟨kb,j,none⟩=some v/\u.cell? ⟨b,3,none⟩=some (.slice (some ⟨kb,0,none⟩) W W)/\u.frozen? ⟨kb,j,none⟩=false/\dz p fuel B b W Bud tb mb wb kb S { m with keys:=db m.keys j (m.keys j++[k]) } w (u.setCell ⟨kb,j,none⟩ d):=by
 have D:=r;obtain⟨M,h,N,O⟩:=r;obtain⟨v,E,_,_⟩:=h.keysOwn i
 have n:∀V,Below w1.heap.size w1 V->∀f,V.cell? ⟨kb,j,none⟩=some f->f=v:=fun V hb f g=>by
  have:=de hb E;rw[g]at this;injection this
 refine⟨v,fun V hb=>?_,fun V d u hb x o y=>?_⟩
 ·obtain⟨f,g,q,s⟩:=(h.later hb).keysOwn i
  obtain rfl:=n V hb f g;exact⟨g,(h.later hb).cells.1.2.2.2.1,q,s⟩
 ·have z:=h.later hb
  obtain⟨f,g,q,s⟩:=z.keyed (k:=k) i;obtain rfl:=n V hb f g;obtain⟨F,G,P⟩:=s d u x o y;refine⟨F,?_,G,(D.later hb).andThen fun Q H=>?_⟩
  ·obtain⟨R,T,C,_⟩:=z
   have t:u.heap[b]?=V.heap[b]?:=o.block b (Array.getElem?_eq_some_iff.1 C.box).1 fun e=>by
    obtain⟨_,c,l⟩:=q.kind e.symm;rw[C.box]at l;injection l with l;injection l with _ h9;exact absurd h9 (by decide)
   rw[World.cell?_of_block (w:=V) (a:=⟨b,3,none⟩) t];exact(h.later hb).cells.1.2.2.2.1
  ·obtain⟨I,J,U,L⟩:=H.keyed (k:=k) i
   obtain rfl:=n V hb I J;exact(L d u x o y).2.2
end
end
section
open List (flatMap_cons mem_cons_of_mem mem_cons_self mem_singleton)
open Nat (le_refl)
abbrev Gp:=Ev × List (Nat × Nat)
def hH:List Gp->Ev->Nat × Nat->List Gp
 | [],e,p=>[(e,[p])]
 |g::a,e,p=>if g.1=e then (g.1,g.2++[p])::a else g::hH a e p
def fB(l:List Ev):Nat->List Gp
 |0=>[]
 |n+1=>hH (fB l n) (dd l n) (n,num l n)
def ie(l:List Ev)(n:Nat)(t u:Int):Nat:=match jK l t n with
 |none=>0
 |some j=>clk l j u
def mq(a:Nat)(ps:List (Nat × Nat)):List Nat:=((ps.filter fun p=>decide (a<p.2)).map (·.1)).reverse
def fG(ls:Int->Int->Nat)(gs:List Gp)(e:Ev):List Nat:=
 gs.flatMap fun g=>if g.1.thread≠e.thread/\dj g.1 e=true then mq (ls e.thread g.1.thread) g.2 else []
def l8(gs:List Gp):List Nat:=gs.flatMap fun g=>g.2.map (·.1)
theorem Nn(gs:List Gp)(e:Ev)(p:Nat × Nat):(l8 (hH gs e p)).Perm (l8 gs++[p.1]):=by
 induction gs with
 |nil=>exact List.Perm.refl _
 |cons g gs a=>
  unfold hH
  split
  ·unfold l8
   rw[flatMap_cons,flatMap_cons,List.map_append];simp only[List.map_cons,List.map_nil,List.append_assoc];exact List.Perm.append_left _ List.perm_append_comm
  ·unfold l8 at *
   rw[flatMap_cons,flatMap_cons,List.append_assoc];exact List.Perm.append_left _ a
theorem Bg(l:List Ev)(n:Nat):(l8 (fB l n)).Perm (List.range n):=by
 induction n with
 |zero=>exact List.Perm.refl _
 |succ n a=>
  rw[List.range_succ];exact(Nn _ _ _).trans (List.Perm.append_right _ a)
def mg(l:List Ev)(n:Nat)(g:Gp):Prop:=(∀p∈g.2,dd l p.1=g.1/\p.2=num l p.1/\p.1<n)/\g.2.Pairwise (fun a b=>a.2<b.2)
theorem mg.mono{l:List Ev}{n m:Nat}{g:Gp}(h:mg l n g)(b:n<=m):mg l m g:=
 ⟨fun p a=>⟨(h.1 p a).1,(h.1 p a).2.1,Nat.lt_of_lt_of_le (h.1 p a).2.2 b⟩,h.2⟩
theorem GW{l:List Ev}{i n:Nat}(h:i<n)(a:(dd l i).thread=(dd l n).thread):num l i<num l n:=by
 unfold num;rw[a];have b:cnt (dq l (dd l n).thread) (i+1)<=cnt (dq l (dd l n).thread) n:=lp _ h;have c:cnt (dq l (dd l n).thread) n<cnt (dq l (dd l n).thread) (n+1):=l3 _ (Nat.lt_succ_self n) (by unfold dq;simp);omega
theorem KL{l:List Ev}{n:Nat}(gs:List Gp)(h:∀g∈gs,mg l n g):∀g∈hH gs (dd l n) (n,num l n),mg l (n+1) g:=by
 induction gs with
 |nil=>
  intro g d;rw[hH,mem_singleton]at d;subst d;refine⟨fun p c=>?_,List.pairwise_singleton _ _⟩;rw[mem_singleton]at c;subst c;exact⟨rfl,rfl,Nat.lt_succ_self _⟩
 |cons g gs f=>
  intro x hx;unfold hH at hx
  split at hx
  ·rename_i e
   rcases List.mem_cons.1 hx with rfl|hx
   ·have d:=h g mem_cons_self
    refine⟨fun p c=>?_,?_⟩
    ·rcases List.mem_append.1 c with c|c
     ·exact⟨(d.1 p c).1,(d.1 p c).2.1,Nat.lt_succ_of_lt (d.1 p c).2.2⟩
     ·rw[mem_singleton]at c
      subst c;exact⟨e.symm,rfl,Nat.lt_succ_self _⟩
    ·rw[List.pairwise_append]
     refine⟨d.2,List.pairwise_singleton _ _,fun a i b hb=>?_⟩;rw[mem_singleton]at hb;subst hb;obtain⟨j,k,m⟩:=d.1 a i;rw[k];exact GW m (by rw[j,e])
   ·exact(h x (mem_cons_of_mem _ hx)).mono (Nat.le_succ _)
  ·rcases List.mem_cons.1 hx with rfl|hx
   ·exact(h x mem_cons_self).mono (Nat.le_succ _)
   ·exact f (fun y o=>h y (mem_cons_of_mem _ o)) x hx
theorem zE(l:List Ev)(n:Nat):∀g∈fB l n,mg l n g:=by
 induction n with
 |zero=>intro g a;cases a
 |succ n b=>exact KL _ b
def kt(l:List Ev)(n:Nat)(e:Ev)(i:Nat):Bool:=decide ((dd l i).thread≠e.thread)&&dj (dd l i) e&&decide (ie l n e.thread (dd l i).thread<num l i)
def iY(l:List Ev)(n:Nat)(e:Ev):List Nat:=(List.range n).filter (kt l n e)
theorem Fs{l:List Ev}{n:Nat}{e:Ev}{g:Gp}(h:mg l n g):
  (if g.1.thread≠e.thread/\dj g.1 e=true then mq (ie l n e.thread g.1.thread) g.2 else []).Perm ((g.2.map (·.1)).filter (kt l n e)):=by
 by_cases a:g.1.thread≠e.thread/\dj g.1 e=true
 ·rw[if_pos a]
  refine(List.reverse_perm _).trans ?_
  have:(g.2.map (·.1)).filter (kt l n e)=(g.2.filter fun p=>decide (ie l n e.thread g.1.thread<p.2)).map (·.1):=by
   rw[List.filter_map]
   congr 1
   apply List.filter_congr;intro p b;obtain⟨c,f,_⟩:=h.1 p b;show kt l n e p.1=_;unfold kt;rw[c,<-f,a.2,decide_eq_true a.1];rfl
  rw[this]
 ·rw[if_neg a]
  have:(g.2.map (·.1)).filter (kt l n e)=[]:=by
   rw[List.filter_eq_nil_iff];intro i j d;obtain⟨p,b,rfl⟩:=List.mem_map.1 j;obtain⟨c,_,_⟩:=h.1 p b;unfold kt at d;rw[c,Bool.and_eq_true,Bool.and_eq_true,decide_eq_true_eq]at d;exact a d.1
  rw[this]
theorem sP(l:List Ev)(n:Nat)(e:Ev):(fG (ie l n) (fB l n) e).Perm (iY l n e):=by
 have b:∀a:List Gp,(∀g∈a,mg l n g)->(fG (ie l n) a e).Perm ((l8 a).filter (kt l n e)):=by
  intro a
  induction a with
  |nil=>intro _;exact List.Perm.refl _
  |cons g a c=>
   intro h;unfold fG l8 at *;rw[flatMap_cons,flatMap_cons,List.filter_append];exact List.Perm.append (Fs (h g mem_cons_self)) (c fun x hx=>h x (mem_cons_of_mem _ hx))
 exact(b _ (zE l n)).trans ((Bg l n).filter _)
theorem Fo(l:List Ev)(n:Nat)(e:Ev){L:List Nat}(h1:L.Perm (fG (ie l n) (fB l n) e))(h2:L.Pairwise (·<=·)):L=iY l n e:=by
 have c:=h1.trans (sP l n e);have d:(iY l n e).Pairwise (·<=·):=(List.Pairwise.filter _ (List.pairwise_lt_range (n:=n))).imp fun h=>Nat.le_of_lt h
 exact c.eq_of_pairwise (le:=(·<=·)) (fun a b _ _ f g=>Nat.le_antisymm f g) h2 d
theorem Ae{l:List Ev}{n i:Nat}(h:i<n):dd (l.take n) i=dd l i:=by
 unfold dd;simp[List.getD,List.getElem?_take_of_lt h]
theorem Jl{l:List Ev}{t:Int}{n:Nat}:∀{m:Nat},m<=n->jK (l.take n) t m=jK l t m:=by
 intro m
 induction m with
 |zero=>intro _;rfl
 |succ m a=>
  intro h;rw[jK,jK,Ae (by omega),a (by omega)]
theorem BX{l:List Ev}{n:Nat}(e:Ev)(f:n<=l.length):gR (l.take n) e=iY l n e:=by
 unfold gR iY;have b:(l.take n).length=n:=by rw[List.length_take,Nat.min_eq_left f]
 rw[b];apply List.filter_congr;intro i g;have c:=List.mem_range.1 g;unfold sQ kt;rw[Ae c]
 congr 1
 unfold pf ie;rw[b,Jl (le_refl n)]
 cases o:jK l e.thread n with
 |none=>
  show(!false)=decide (0<num l i)
  have:0<num l i:=by
   unfold num;rw[gY];have:dq l (dd l i).thread i=true:=by unfold dq;simp
   rw[this];simp
  simp[this]
 |some j=>
  obtain⟨d,_⟩:=yQ o;show(!(hb (l.take n) i j))=decide (clk l j (dd l i).thread<num l i)
  have p:hb (l.take n) i j=hb l i j:=by
   have:=uh (l:=l.take n) (m:=l.drop n) i (k:=j) (by rw[b];exact d);rw[List.take_append_drop]at this;exact this.symm
  rw[p]
  cases a:hb l i j
  ·have:¬num l i<=clk l j (dd l i).thread:=fun h=>by rw[<-lS,a]at h;cases h
   simp;omega
  ·have:=lS.1 a
   simp;omega
theorem BY(l:List Ev)(e:Ev):gR l e=iY l l.length e:=by
 have:=BX (l:=l) (n:=l.length) e (le_refl _)
 rwa [List.take_length]at this
theorem Fy{l:List Ev}{n:Nat}{e:Ev}{i:Nat}(h:i∈iY l n e):i<n:=List.mem_range.1 (List.mem_filter.1 h).1
theorem xa(l:List Ev)(n:Nat)(e:Ev):(iY l n e).length<=n:=by
 have:=List.length_filter_le (kt l n e) (List.range n);unfold iY
 rwa [List.length_range]at this
theorem Fq(l:List Ev)(n:Nat)(e:Ev):(fG (ie l n) (fB l n) e).length<=n:=by
 rw[(sP l n e).length_eq];exact xa l n e
theorem Fp{l:List Ev}{n:Nat}{e:Ev}{i:Nat}(h:i∈fG (ie l n) (fB l n) e):i<n:=Fy ((sP l n e).mem_iff.1 h)
theorem Nv(gs:List Gp)(e:Ev)(p:Nat × Nat):(hH gs e p).length<=gs.length+1:=by
 induction gs with
 |nil=>exact le_refl _
 |cons g gs a=>
  unfold hH
  split
  ·simp
  ·simp only[List.length_cons];omega
theorem zC(l:List Ev)(n:Nat):(fB l n).length<=n:=by
 induction n with
 |zero=>exact le_refl _
 |succ n a=>
  have:=Nv (fB l n) (dd l n) (n,num l n);show(hH _ _ _).length<=_;omega
theorem zB(l:List Ev)(n:Nat):∀g∈fB l n,g.2.length<=n:=by
 intro g b;have a:=(Bg l n).length_eq;rw[List.length_range]at a;rw[<-a]
 have c:(g.2.map (·.1)).Sublist (l8 (fB l n)):=by
  have d:=List.sublist_flatten_of_mem (List.mem_map.2 ⟨g,b,rfl⟩:g.2.map (·.1)∈(fB l n).map fun g=>g.2.map (·.1))
  rwa [<-List.flatMap_def]at d
 simpa using c.length_le
theorem Nx{gs:List Gp}{e:Ev}{p:Nat × Nat}{k:Nat}(a:k<gs.length)(b:∀i (h:i<k),(gs[i]'(by omega)).1≠e)(c:gs[k].1=e):hH gs e p=gs.set k (gs[k].1,gs[k].2++[p]):=by
 induction gs generalizing k with
 |nil=>simp at a
 |cons g gs d=>
  cases k with
  |zero=>
   unfold hH;rw[if_pos (by simpa using c)];rfl
  |succ k=>
   unfold hH;rw[if_neg (by simpa using b 0 (by omega))];rw[List.set_cons_succ]
   congr 1
   exact d (by simpa using a) (fun i h=>by simpa using b (i+1) (by omega)) (by simpa using c)
theorem Nu{gs:List Gp}{e:Ev}{p:Nat × Nat}(a:∀x∈gs,x.1≠e):hH gs e p=gs++[(e,[p])]:=by
 induction gs with
 |nil=>rfl
 |cons g gs b=>
  unfold hH;rw[if_neg (a g mem_cons_self),b fun x hx=>a x (mem_cons_of_mem _ hx)];rfl
theorem Jk(l:List Ev)(n:Nat)(t u:Int):ie l (n+1) t u=if (dd l n).thread=t then clk l n u else ie l n t u:=by
 unfold ie;rw[jK]
 by_cases h:(dd l n).thread=t
 ·rw[if_pos h,if_pos h]
 ·rw[if_neg h,if_neg h]
theorem K9{ps:List (Nat × Nat)}{c:Nat}:∀{k:Nat},ps.Pairwise (fun a b=>b.2<a.2)->k<=ps.length->(∀i (_:i<k),c<(ps.getD i (0,0)).2)->(k<ps.length->(ps.getD k (0,0)).2<=c)->ps.filter (fun p=>decide (c<p.2))=ps.take k:=by
 induction ps with
 |nil=>intro k _ e _ _;simp
 |cons p ps l=>
  intro k d e f g;rw[List.pairwise_cons]at d
  cases k with
  |zero=>
   have j:p.2<=c:=by simpa using g (by simp)
   rw[List.take_zero,List.filter_eq_nil_iff];intro x hx m;rw[decide_eq_true_eq]at m;rcases List.mem_cons.1 hx with rfl|hx
   ·omega
   ·have:=d.1 x hx;omega
  |succ k=>
   have j:c<p.2:=by simpa using f 0 (by omega)
   rw[List.filter_cons_of_pos (by simpa using j),List.take_succ_cons]
   congr 1
   exact l d.2 (by simpa using e) (fun i h=>by simpa using f (i+1) (by omega)) (fun h=>by simpa using g (by simpa using h))
theorem Fr{ps:List (Nat × Nat)}{c k:Nat}(d:ps.Pairwise (fun a b=>a.2<b.2))(e:k<=ps.length)(h1:∀i (_:i<k),c<(ps.reverse.getD i (0,0)).2)(h2:k<ps.length->(ps.reverse.getD k (0,0)).2<=c):mq c ps=(ps.reverse.take k).map (·.1):=by
 unfold mq;rw[<-List.map_reverse,<-List.filter_reverse,K9 (k:=k) (List.pairwise_reverse.2 d) (by rw[List.length_reverse];exact e) h1 (by rw[List.length_reverse];exact h2)]
structure Mk where
 e:Ev
 c:Nat->Nat
def nC(l:List Ev)(k:Nat):Mk:=⟨dd l k,fun t=>clk l k t⟩
def kn(ms:List Mk)(e:Ev)(t:Nat):Nat:=ms.foldl (fun a m=>if dj m.e e then max a (m.c t)else a) 0
theorem Jp(ms:List Mk)(m:Mk)(e:Ev)(t:Nat):kn (ms++[m]) e t=if dj m.e e then max (kn ms e t) (m.c t)else kn ms e t:=by
 unfold kn;rw[List.foldl_append];rfl
theorem Jo(ms:List Mk)(e:Ev)(t k:Nat)(h:k<ms.length):kn (ms.take (k+1)) e t=if dj ms[k].e e then max (kn (ms.take k) e t) (ms[k].c t)else kn (ms.take k) e t:=by
 rw[List.take_succ_eq_append_getElem h,Jp]
theorem K1(ms:List Mk)(e:Ev)(t a:Nat):a<=ms.foldl (fun a m=>if dj m.e e then max a (m.c t)else a) a/\∀m∈ms,dj m.e e=true->m.c t<=ms.foldl (fun a m=>if dj m.e e then max a (m.c t)else a) a:=by
 induction ms generalizing a with
 |nil=>exact⟨le_refl _,fun m h=>by cases h⟩
 |cons x ms g=>
  rw[List.foldl_cons]
  by_cases hx:dj x.e e=true
  ·rw[if_pos hx]
   obtain⟨i,f⟩:=g (max a (x.c t));refine⟨by omega,fun m b d=>?_⟩;rcases List.mem_cons.1 b with rfl|b
   ·omega
   ·exact f m b d
  ·rw[if_neg hx]
   obtain⟨i,f⟩:=g a;refine⟨i,fun m b d=>?_⟩;rcases List.mem_cons.1 b with rfl|b
   ·exact absurd d hx
   ·exact f m b d
theorem KZ(ms:List Mk)(e:Ev)(t a b:Nat)(d:a<=b)(h:∀m∈ms,dj m.e e=true->m.c t<=b):ms.foldl (fun a m=>if dj m.e e then max a (m.c t)else a) a<=b:=by
 induction ms generalizing a with
 |nil=>exact d
 |cons x ms f=>
  rw[List.foldl_cons];refine f _ ?_ (fun m g=>h m (by simp[g]))
  split
  ·rename_i hx
   have:=h x (by simp) hx;omega
  ·exact d
def lA(l:List Ev)(n:Nat)(ms:List Mk):Prop:=
 ms.length<=n/\(∀m∈ms,∃i,i<n/\m=nC l i)/\∀i,i<n->∃j,i<=j/\j<n/\dd l j=dd l i/\nC l j∈ms
theorem IU(l:List Ev):lA l 0 []:=⟨le_refl _,fun m h=>(by cases h),fun i h=>(by omega)⟩
theorem lA.kn{l:List Ev}{n:Nat}{ms:List Mk}(h:lA l n ms)(t:Nat):kn ms (dd l n) t=top (fun i=>clk l i t) (fun i=>dj (dd l i) (dd l n)) n:=by
 apply Nat.le_antisymm
 ·refine KZ ms _ t 0 _ (Nat.zero_le _) fun m a b=>?_
  obtain⟨i,c,rfl⟩:=h.2.1 m a;exact ni (f:=fun i=>clk l i t) (q:=fun i=>dj (dd l i) (dd l n)) c b
 ·refine nh fun i c b=>?_
  obtain⟨j,d,g,e,a⟩:=h.2.2 i c;refine Nat.le_trans (AA (uf d (by rw[e])) t) ?_;exact(K1 ms (dd l n) t 0).2 _ a (by show dj (dd l j) _=true;rw[e];exact b)
theorem lA.clk{l:List Ev}{n:Nat}{ms:List Mk}(h:lA l n ms)(t:Nat):clk l n t=Proofs.YtjfmmnhcddckaaaGreat.kn ms (dd l n) t+if (dd l n).thread=(t:Int)then 1 else 0:=by
 rw[Ay,h.kn]
def gV:List Mk->Mk->List Mk
 | [],m=>[m]
 |x::a,m=>if x.e=m.e then m::a else x::gV a m
theorem JF{ms:List Mk}{m:Mk}{k:Nat}(b:k<ms.length)(c:∀i (h:i<k),(ms[i]'(by omega)).e≠m.e)(a:ms[k].e=m.e):gV ms m=ms.set k m:=by
 induction ms generalizing k with
 |nil=>simp at b
 |cons x ms f=>
  unfold gV
  cases k with
  |zero=>
   simp only[List.getElem_cons_zero]at a;rw[if_pos a];rfl
  |succ k=>
   have d:=c 0 (by omega);simp only[List.getElem_cons_zero]at d;rw[if_neg d,List.set_cons_succ]
   congr 1
   refine f (by simpa using b) (fun i g=>?_) (by simpa using a);have:=c (i+1) (by omega);simpa using this
theorem JD{ms:List Mk}{m:Mk}(a:∀x∈ms,x.e≠m.e):gV ms m=ms++[m]:=by
 induction ms with
 |nil=>rfl
 |cons x ms b=>
  unfold gV;rw[if_neg (a x (by simp)),b (fun y c=>a y (by simp[c]))];rfl
theorem JE(ms:List Mk)(m:Mk):(gV ms m).length<=ms.length+1:=by
 induction ms with
 |nil=>simp[gV]
 |cons x ms a=>
  unfold gV
  split
  ·simp
  ·simpa using a
theorem yq(ms:List Mk)(m:Mk):m∈gV ms m:=by
 induction ms with
 |nil=>simp[gV]
 |cons x ms a=>unfold gV;split <;> simp[a]
theorem GQ{ms:List Mk}{m x:Mk}(h:x∈gV ms m):x=m∨x∈ms:=by
 induction ms with
 |nil=>simp[gV]at h;exact .inl h
 |cons y ms a=>
  unfold gV at h
  split at h
  ·rcases List.mem_cons.1 h with h|h
   ·exact .inl h
   ·exact .inr (by simp[h])
  ·rcases List.mem_cons.1 h with h|h
   ·exact .inr (by simp[h])
   ·rcases a h with h|h
    ·exact .inl h
    ·exact .inr (by simp[h])
theorem Ii{ms:List Mk}{m x:Mk}(h:x∈ms)(a:x.e≠m.e):x∈gV ms m:=by
 induction ms with
 |nil=>cases h
 |cons y ms b=>
  unfold gV;rcases List.mem_cons.1 h with rfl|h
  ·rw[if_neg a]
   simp
  ·split
   ·simp[h]
   ·simp[b h]
theorem lA.keep{l:List Ev}{n:Nat}{ms:List Mk}(h:lA l n ms):lA l (n+1) (gV ms (nC l n)):=by
 refine⟨Nat.le_trans (JE _ _) (by have:=h.1;omega),fun m a=>?_,fun i f=>?_⟩
 ·rcases GQ a with rfl|a
  ·exact⟨n,by omega,rfl⟩
  ·obtain⟨i,f,e⟩:=h.2.1 m a
   exact⟨i,by omega,e⟩
 ·by_cases c:i=n
  ·subst c
   exact⟨i,le_refl _,f,rfl,yq _ _⟩
  ·obtain⟨j,d,k,g,a⟩:=h.2.2 i (by omega)
   by_cases b:dd l j=dd l n
   ·exact⟨n,by omega,by omega,by rw[<-g,b],yq _ _⟩
   ·exact⟨j,d,by omega,g,Ii a b⟩
end
section
open Go.Lib (hid)
open Go.Proofs.Tryz Go.RowKit
open List (getElem?_set getElem_set_ne getElem_set_self length_set)
def i8(m:Mk):List Value:=eg m.e++fR (fun t=>(m.c t:Int))
theorem lP(m:Mk):(i8 m).length=8:=rfl
theorem H9(m:Mk):∀v∈i8 m,v.oneCell'=true:=by
 intro v a;simp[i8,eg,fR]at a
 rcases a with rfl|rfl|rfl|rfl|rfl|rfl|rfl|rfl <;> rfl
theorem en.mk{w:World}{a:Option Addr}{ms:List Mk}(h:en w a 8 i8 ms)(k:Nat)(d:k<ms.length):∃b o,a=some ⟨b,o,none⟩ /\
  (w.cell? ⟨b,o+k*8,none⟩=some (.int .i64 ms[k].e.thread)/\w.cell? ⟨b,o+k*8+1,none⟩=some (.int .i64 ms[k].e.kind)/\w.cell? ⟨b,o+k*8+2,none⟩=some (.int .i64 ms[k].e.obj)/\w.cell? ⟨b,o+k*8+3,none⟩=some (.bool ms[k].e.fail)) /\
  (w.cell? ⟨b,o+k*8+4,none⟩=some (.int .i64 (ms[k].c 0))/\w.cell? ⟨b,o+k*8+5,none⟩=some (.int .i64 (ms[k].c 1))/\w.cell? ⟨b,o+k*8+6,none⟩=some (.int .i64 (ms[k].c 2))/\w.cell? ⟨b,o+k*8+7,none⟩=some (.int .i64 (ms[k].c 3))):=by
 obtain⟨b,o,rfl,f⟩:=h.2 (by intro e;simp[e]at d);exact⟨b,o,rfl,⟨f k d 0 _ rfl,f k d 1 _ rfl,f k d 2 _ rfl,f k d 3 _ rfl⟩,f k d 4 _ rfl,f k d 5 _ rfl,f k d 6 _ rfl,f k d 7 _ rfl⟩
theorem dm.only{w w':World}{g b:Nat}{t:TypeId}{xs:List Value}(h:dm w g t xs)(a:Only b w w')(hb:g≠b):dm w' g t xs:=(a.block g h.lt hb).trans h
theorem dm.four{w:World}{g:Nat}{t:TypeId}{c:Nat->Int}(h:dm w g t (fR c)):w.cell? ⟨g,0,none⟩=some (.int .i64 (c 0))/\w.cell? ⟨g,1,none⟩=some (.int .i64 (c 1))/\w.cell? ⟨g,2,none⟩=some (.int .i64 (c 2))/\w.cell? ⟨g,3,none⟩=some (.int .i64 (c 3)):=
 ⟨by rw[h.cell];rfl,by rw[h.cell];rfl,by rw[h.cell];rfl,by rw[h.cell];rfl⟩
theorem yk(w:World)(t:TypeId)(c:Nat->Int):dm (w.alloc (.cells #[.int .i64 (c 0),.int .i64 (c 1),.int .i64 (c 2),.int .i64 (c 3)] t)) w.heap.size t (fR c):=heap_alloc_new w _
def k9(f c:Nat->Nat)(j:Nat):Nat->Int:=fun t=>if t<j then (if f t<c t then (c t:Int)else (f t:Int))else (f t:Int)
theorem Ia(f c:Nat->Nat)(j:Nat)(h:j<4):(fR (k9 f c j)).set j (.int .i64 (if f j<c j then (c j:Int)else (f j:Int)))=fR (k9 f c (j+1)):=by
 rw[GU _ _ h];apply xY;intro t _;unfold k9
 by_cases e:t=j
 ·subst e
  rw[if_pos rfl,if_pos (show t<t+1 by omega)]
 ·rw[if_neg e]
  by_cases a:t<j
  ·rw[if_pos a,if_pos (show t<j+1 by omega)]
  ·rw[if_neg a,if_neg (show ¬t<j+1 by omega)]
theorem MV{a W w':World}(h1:Below a.heap.size a W)(hb:Below W.heap.size W w'):Below a.heap.size a w':=h1.trans (hb.mono h1.size)
def jj(w:World)(e:Ev)(c:Nat->Int)(a:Nat)(w':World):Prop:=
 eo w' a e/\dm w' (a+1) 193 (fR fun _=>0)/\dm w' (a+1+1) 193 (fR c)/\Below a w w'
theorem jj.later{w a w':World}{e:Ev}{c:Nat->Int}{b:Nat}(h:jj w e c b a)(hb:Below a.heap.size a w'):jj w e c b w':=
 ⟨h.1.later hb,h.2.1.later hb,h.2.2.1.later hb,h.2.2.2.trans (hb.mono (by have:=h.2.2.1.lt;omega))⟩
theorem jj.set{w b:World}{e:Ev}{c:Nat->Int}{a:Nat}(h:jj w e c a b)(j:Nat)(d:Nat->Int)(v:Value)(g:(fR c).set j v=fR d):jj w e d a (b.setCell ⟨a+1+1,j,none⟩ v):=by
 have f:Only (a+1+1) b (b.setCell ⟨a+1+1,j,none⟩ v):=(Only.refl _ _).setCell _ _;refine⟨h.1.only f (by omega),h.2.1.only f (by omega),?_,h.2.2.2.setCell (p:=⟨a+1+1,j,none⟩) (by show a<=a+1+1;omega) v⟩;rw[<-g];exact h.2.2.1.set j v
theorem Im(a b:Nat):(if a<b then (b:Int)else (a:Int))=max (a:Int) (b:Int):=by split <;> omega
theorem Jn(a:Option Addr)(cap:Nat)(ms:List Mk)(e:Ev)(w:World)(L:en w a 8 i8 ms):
  Calls prog 157 #[.slice a ms.length cap,.agg #[.int .i64 e.thread,.int .i64 e.kind,.int .i64 e.obj,.bool e.fail]] w fun r d=>
   r=.returned (.agg #[.int .i64 (kn ms e 0),.int .i64 (kn ms e 1),.int .i64 (kn ms e 2),.int .i64 (kn ms e 3)])/\Below w.heap.size w d:=by
 have hm:=L.1;unfold maxLen at hm;have HL:=hid L;clear L
 have V:Hid (jj w e (fun t=>(kn (ms.take 0) e t:Int)) w.heap.size (((w.alloc (.cells #[.int .i64 e.thread,.int .i64 e.kind,.int .i64 e.obj,.bool e.fail] 112)).alloc (.cells #[.int .i64 0,.int .i64 0,.int .i64 0,.int .i64 0] 193)).alloc (.cells #[.int .i64 0,.int .i64 0,.int .i64 0,.int .i64 0] 193))):=by
  have b1:=eo.new w e;have W:=yk (w.alloc (.cells #[.int .i64 e.thread,.int .i64 e.kind,.int .i64 e.obj,.bool e.fail] 112)) 193 (fun _=>0);have X:=yk ((w.alloc (.cells #[.int .i64 e.thread,.int .i64 e.kind,.int .i64 e.obj,.bool e.fail] 112)).alloc (.cells #[.int .i64 0,.int .i64 0,.int .i64 0,.int .i64 0] 193)) 193 (fun _=>0);simp only[World.size_alloc]at W X;exact⟨(b1.later (eH _ _ _)),W.later (da _ _),X,((eH w _ _).alloc (by simp;omega) _)⟩
 go_enter func157,ntmps157;go_wp2
 go_loopw [11] (fun i wr=>∃k:Nat,k<=ms.length/\i=.int .i64 k/\Hid (jj w e (fun t=>(kn (ms.take k) e t:Int)) w.heap.size wr)) (fun i _=>ms.length-(intOf i).toNat)
 case atStart=>exact⟨0,Nat.zero_le _,rfl,V⟩
 case round=>
  clear V;obtain⟨k,hk,rfl,A⟩:=hrel
  by_cases E:k<ms.length
  ·obtain⟨b,o,rfl,hx,hc⟩:=HL.out.mk k E
   have l:=hid (fun t=>Jo ms e t k E);have hb:=A.out.2.2.2;obtain⟨Y,Z,e2,e3⟩:=A.out.1.cells;obtain⟨x0,x1,x2,x3⟩:=hx;obtain⟨G,H,I,J⟩:=hc;have g0:=de hb x0;have g1:=de hb x1;have g2:=de hb x2;have g3:=de hb x3;have C:=hid (And.intro (de hb G) (And.intro (de hb H) (And.intro (de hb I) (de hb J))));clear x0 x1 x2 x3 G H I J;generalize ms[k]=m at *
   have M:Hid (∀d,Below wr.heap.size wr d->d.cell? ⟨b,o+k*8,none⟩=some (.int .i64 m.e.thread)/\d.cell? ⟨b,o+k*8+1,none⟩=some (.int .i64 m.e.kind)/\d.cell? ⟨b,o+k*8+2,none⟩=some (.int .i64 m.e.obj)/\d.cell? ⟨b,o+k*8+3,none⟩=some (.bool m.e.fail) /\
     d.cell? ⟨w.heap.size,0,none⟩=some (.int .i64 e.thread)/\d.cell? ⟨w.heap.size,1,none⟩=some (.int .i64 e.kind)/\d.cell? ⟨w.heap.size,2,none⟩=some (.int .i64 e.obj)/\d.cell? ⟨w.heap.size,3,none⟩=some (.bool e.fail)/\Below wr.heap.size wr d):=by
    intro d h;exact⟨de h g0,de h g1,de h g2,de h g3,de h Y,de h Z,de h e2,de h e3,h⟩
   have s:Below wr.heap.size wr wr.drew:=(Below.refl _ _).drew
   obtain⟨D,N⟩:∃D,dj m.e e=D:=⟨_,rfl⟩
   have u:Hid (∀d,Calls prog 135 #[.agg #[.int .i64 m.e.thread,.int .i64 m.e.kind,.int .i64 m.e.obj,.bool m.e.fail],.agg #[.int .i64 e.thread,.int .i64 e.kind,.int .i64 e.obj,.bool e.fail]] d fun r R=>r=.returned (.bool D)/\Below d.heap.size d R):=fun d=>by rw[<-N];exact ry m.e e d
   have n:=hid N;clear N Y Z e2 e3 g0 g1 g2 g3;go_wp2_with fail
   go_region_held3 (fun d=>d.cell? ⟨b,o+k*8,none⟩=some (.int .i64 m.e.thread)/\d.cell? ⟨b,o+k*8+1,none⟩=some (.int .i64 m.e.kind)/\d.cell? ⟨b,o+k*8+2,none⟩=some (.int .i64 m.e.obj)/\d.cell? ⟨b,o+k*8+3,none⟩=some (.bool m.e.fail) /\
     d.cell? ⟨w.heap.size,0,none⟩=some (.int .i64 e.thread)/\d.cell? ⟨w.heap.size,1,none⟩=some (.int .i64 e.kind)/\d.cell? ⟨w.heap.size,2,none⟩=some (.int .i64 e.obj)/\d.cell? ⟨w.heap.size,3,none⟩=some (.bool e.fail)/\Below wr.heap.size wr d) (first|exact M.out _ s|exact M.out _ f)
    (first|(go_at_call 135;((with_reducible refine(u.out _).mono ?_);rintro r S⟨rfl,F⟩;have f:=MV s F;clear s)))
   have x:=hid (A.out.later f);have y:=hid (And.intro (de f C.out.1) (And.intro (de f C.out.2.1) (And.intro (de f C.out.2.2.1) (de f C.out.2.2.2))));clear A C f hb M
   cases D
   ·have O:Hid (jj w e (fun t=>(kn (ms.take (k+1)) e t:Int)) w.heap.size S):=by
     have h:(fun t=>(kn (ms.take (k+1)) e t:Int))=fun t=>(kn (ms.take k) e t:Int):=by
      funext t
      rw[l.out t,n.out,if_neg (by simp)]
     show jj _ _ _ _ _;rw[h];exact x.out
    clear l n u y;go_wp2
    go_roundw
    case rel=>exact⟨k+1,by omega,by go_num,O⟩
    case measure=>simp[intOf];omega
   ·have Q:Hid (∀t,k9 (fun t=>kn (ms.take k) e t) m.c 4 t=if t<4 then (kn (ms.take (k+1)) e t:Int)else kn (ms.take k) e t):=by
     intro t;unfold k9
     split
     ·rw[l.out t,n.out,if_pos rfl]
      simp only[Nat.max_def]
      split <;> split <;> omega
     ·rfl
    clear l n u;obtain⟨G,H,I,J⟩:=y.out;go_wp2
    go_loopw [26] (fun j T=>∃q:Nat,q<=4/\j=.int .i64 q/\Hid (jj w e (k9 (fun t=>kn (ms.take k) e t) m.c q) w.heap.size T)) (fun j _=>4-(intOf j).toNat)
    case atStart=>exact⟨0,by omega,rfl,x⟩
    case round=>
     clear G H I J y x;obtain⟨q,hq,rfl,B⟩:=hrel
     by_cases z:q<4
     ·have U:wr.cell? ⟨w.heap.size+1+1,q,none⟩=some (.int .i64 (kn (ms.take k) e q)):=by
       rw[B.out.2.2.1.cell,kz _ z];unfold k9;rw[if_neg (by omega)]
      have hf:=B.out.2.2.1.frozen q;have HS:Hid (jj w e (k9 (fun t=>kn (ms.take k) e t) m.c (q+1)) w.heap.size (wr.setCell ⟨w.heap.size+1+1,q,none⟩ (.int .i64 (if kn (ms.take k) e q<m.c q then (m.c q:Int)else (kn (ms.take k) e q:Int))))):=B.out.set q _ _ (Ia _ _ _ z);clear B Q;have aa:=fun w=>D9 (P:=prog) w (t:=193) (elem:=3) (fun t=>(m.c t:Int)) q underlying193 underlying3 rfl (by kernel_rfl) z
      go_wp2
      go_roundw
      case rel=>first|exact⟨q+1,by omega,by go_num,HS⟩|exact⟨q+1,by omega,by go_num,by have h:=HS;rw[Im]at h;exact h⟩
      case measure=>simp[intOf];omega
     ·obtain rfl:q=4:=by omega
      have O:Hid (jj w e (fun t=>(kn (ms.take (k+1)) e t:Int)) w.heap.size wr):=by
       have h:=B.out;have h2:fR (k9 (fun t=>kn (ms.take k) e t) m.c 4)=fR (fun t=>(kn (ms.take (k+1)) e t:Int)):=xY fun t ht=>by rw[Q.out t,if_pos ht]
       exact⟨h.1,h.2.1,by rw[<-h2];exact h.2.2.1,h.2.2.2⟩
      clear B Q;go_wp2
      go_roundw
      case rel=>exact⟨k+1,by omega,by go_num,O⟩
      case measure=>simp[intOf];omega
  ·obtain rfl:k=ms.length:=by omega
   have g:Hid (jj w e (fun t=>(kn ms e t:Int)) w.heap.size wr):=by have h:=A.out;rw[List.take_length]at h;exact h
   clear A;obtain⟨c0,c1,c2,c3⟩:=g.out.2.2.1.four;obtain⟨z0,z1,z2,z3⟩:=g.out.2.1.four;have f0:=g.out.2.1.frozen 0;have f1:=g.out.2.1.frozen 1;have f2:=g.out.2.1.frozen 2;have f3:=g.out.2.1.frozen 3;have hb:=g.out.2.2.2;go_wp2;refine bodyPost_ret (v:=.agg #[.int .i64 (kn ms e 0),.int .i64 (kn ms e 1),.int .i64 (kn ms e 2),.int .i64 (kn ms e 3)]) ?_ rfl ⟨rfl,?_⟩
   ·simp[results,results157,go_sem,z0,z1,z2,z3]
   ·exact(((hb.setCell (p:=⟨w.heap.size+1,0,none⟩) (by simp) _).setCell (p:=⟨w.heap.size+1,1,none⟩) (by simp) _).setCell (p:=⟨w.heap.size+1,2,none⟩) (by simp) _).setCell (p:=⟨w.heap.size+1,3,none⟩) (by simp) _
def hO(w:World)(B:Nat)(v:Value)(ms:List Mk):Prop:=dc w B 239 8 i8 v ms
theorem hO.cells{w:World}{B g cap:Nat}{ms:List Mk}(h:hO w B (.slice (some ⟨g,0,none⟩) ms.length cap) ms)(k:Nat)(b:k<ms.length):
  (w.cell? ⟨g,k*8,none⟩=some (.int .i64 ms[k].e.thread)/\w.cell? ⟨g,k*8+1,none⟩=some (.int .i64 ms[k].e.kind)/\w.cell? ⟨g,k*8+2,none⟩=some (.int .i64 ms[k].e.obj)/\w.cell? ⟨g,k*8+3,none⟩=some (.bool ms[k].e.fail)) /\
  (w.cell? ⟨g,k*8+4,none⟩=some (.int .i64 (ms[k].c 0))/\w.cell? ⟨g,k*8+5,none⟩=some (.int .i64 (ms[k].c 1))/\w.cell? ⟨g,k*8+6,none⟩=some (.int .i64 (ms[k].c 2))/\w.cell? ⟨g,k*8+7,none⟩=some (.int .i64 (ms[k].c 3))):=by
 have a:∀j,j<8->w.cell? ⟨g,k*8+j,none⟩=(i8 ms[k])[j]?:=fun j d=>by
  rw[World.ownsRow.cellAt h _ (by omega),ik lP ms k j b d]
 exact⟨⟨a 0 (by omega),a 1 (by omega),a 2 (by omega),a 3 (by omega)⟩,a 4 (by omega),a 5 (by omega),a 6 (by omega),a 7 (by omega)⟩
theorem hO.frozen{w:World}{B g cap:Nat}{ms:List Mk}(h:hO w B (.slice (some ⟨g,0,none⟩) ms.length cap) ms)(j:Nat):w.frozen? ⟨g,j,none⟩=false:=World.ownsRow.frozenAt h j
theorem DV(ms:List Mk)(m:Mk)(k:Nat)(h:k<ms.length):((((((((dA i8 ms).set (k*8) (.int .i64 m.e.thread)).set (k*8+1) (.int .i64 m.e.kind)).set (k*8+2) (.int .i64 m.e.obj)).set (k*8+3) (.bool m.e.fail)).set (k*8+4) (.int .i64 (m.c 0))).set (k*8+5) (.int .i64 (m.c 1))).set (k*8+6) (.int .i64 (m.c 2))).set (k*8+7) (.int .i64 (m.c 3))=dA i8 (ms.set k m):=by
 apply nX lP (by omega)
 ·simp only[length_set]
  exact gF lP ms
 ·intro i f j g
  have b:i<ms.length:=by simpa using f
  have a:(dA i8 ms).length=ms.length*8:=gF lP ms
  by_cases d:i=k
  ·subst d
   rw[getElem_set_self]
   rcases (by omega:j=0∨j=1∨j=2∨j=3∨j=4∨j=5∨j=6∨j=7)with rfl|rfl|rfl|rfl|rfl|rfl|rfl|rfl <;> simp[i8,eg,fR,a,getElem?_set] <;> omega
  ·rw[getElem_set_ne (by omega)]
   simp only[getElem?_set];rw[if_neg (by omega),if_neg (by omega),if_neg (by omega),if_neg (by omega),if_neg (by omega),if_neg (by omega),if_neg (by omega),if_neg (by omega)];exact ik lP ms i j b g
theorem hO.set8{w:World}{B g cap:Nat}{ms:List Mk}(h:hO w B (.slice (some ⟨g,0,none⟩) ms.length cap) ms)(m:Mk)(k:Nat)(b:k<ms.length):
  hO ((((((((w.setCell ⟨g,k*8,none⟩ (.int .i64 m.e.thread)).setCell ⟨g,k*8+1,none⟩ (.int .i64 m.e.kind)).setCell ⟨g,k*8+2,none⟩ (.int .i64 m.e.obj)).setCell ⟨g,k*8+3,none⟩ (.bool m.e.fail)).setCell ⟨g,k*8+4,none⟩ (.int .i64 (m.c 0))).setCell ⟨g,k*8+5,none⟩ (.int .i64 (m.c 1))).setCell ⟨g,k*8+6,none⟩ (.int .i64 (m.c 2))).setCell ⟨g,k*8+7,none⟩ (.int .i64 (m.c 3)))
   B (.slice (some ⟨g,0,none⟩) ms.length cap) (ms.set k m) /\
  Below B w ((((((((w.setCell ⟨g,k*8,none⟩ (.int .i64 m.e.thread)).setCell ⟨g,k*8+1,none⟩ (.int .i64 m.e.kind)).setCell ⟨g,k*8+2,none⟩ (.int .i64 m.e.obj)).setCell ⟨g,k*8+3,none⟩ (.bool m.e.fail)).setCell ⟨g,k*8+4,none⟩ (.int .i64 (m.c 0))).setCell ⟨g,k*8+5,none⟩ (.int .i64 (m.c 1))).setCell ⟨g,k*8+6,none⟩ (.int .i64 (m.c 2))).setCell ⟨g,k*8+7,none⟩ (.int .i64 (m.c 3))):=by
 have a:B<=g:=(World.ownsRow.lt h g rfl).1
 constructor
 ·unfold hO dc
  rw[<-DV ms m k b,length_set];have d:=(World.ownsRow.stored h (k*8) (.int .i64 m.e.thread)).1;have f:=(World.ownsRow.stored d (k*8+1) (.int .i64 m.e.kind)).1;have i:=(World.ownsRow.stored f (k*8+2) (.int .i64 m.e.obj)).1;have j:=(World.ownsRow.stored i (k*8+3) (.bool m.e.fail)).1;have l:=(World.ownsRow.stored j (k*8+4) (.int .i64 (m.c 0))).1;have n:=(World.ownsRow.stored l (k*8+5) (.int .i64 (m.c 1))).1;have o:=(World.ownsRow.stored n (k*8+6) (.int .i64 (m.c 2))).1;exact(World.ownsRow.stored o (k*8+7) (.int .i64 (m.c 3))).1
 ·exact((((((((Below.refl B w).setCell (p:=⟨g,_,none⟩) a _).setCell (p:=⟨g,_,none⟩) a _).setCell (p:=⟨g,_,none⟩) a _).setCell (p:=⟨g,_,none⟩) a _).setCell (p:=⟨g,_,none⟩) a _).setCell (p:=⟨g,_,none⟩) a _).setCell (p:=⟨g,_,none⟩) a _).setCell (p:=⟨g,_,none⟩) a _
def NA(B:Nat)(w:World)(ms:List Mk)(r:Ending)(w':World):Prop:=∃v,r=.returned v/\hO w' B v ms/\Below B w w'
def rP(w:World)(g:Nat)(m:Mk):Prop:=dm w g 239 (i8 m)
theorem rP.cells{w:World}{g:Nat}{m:Mk}(h:rP w g m):w.cell? ⟨g,0,none⟩=some (.int .i64 m.e.thread)/\w.cell? ⟨g,1,none⟩=some (.int .i64 m.e.kind)/\w.cell? ⟨g,2,none⟩=some (.int .i64 m.e.obj)/\w.cell? ⟨g,3,none⟩=some (.bool m.e.fail) /\
  w.cell? ⟨g,4,none⟩=some (.int .i64 (m.c 0))/\w.cell? ⟨g,5,none⟩=some (.int .i64 (m.c 1))/\w.cell? ⟨g,6,none⟩=some (.int .i64 (m.c 2))/\w.cell? ⟨g,7,none⟩=some (.int .i64 (m.c 3)):=
 ⟨by rw[dm.cell h];rfl,by rw[dm.cell h];rfl,by rw[dm.cell h];rfl,by rw[dm.cell h];rfl,by rw[dm.cell h];rfl,by rw[dm.cell h];rfl,by rw[dm.cell h];rfl,by rw[dm.cell h];rfl⟩
theorem H'(w:World)(m:Mk):rP (w.alloc (.cells #[.int .i64 m.e.thread,.int .i64 m.e.kind,.int .i64 m.e.obj,.bool m.e.fail,.int .i64 (m.c 0),.int .i64 (m.c 1),.int .i64 (m.c 2),.int .i64 (m.c 3)] 239)) w.heap.size m:=heap_alloc_new w _
theorem J9:(prog.info? 239).map (fun i=>(i.zero,i.size,i.bytes))=some (some (.agg #[.int .i64 0,.int .i64 0,.int .i64 0,.bool false,.int .i64 0,.int .i64 0,.int .i64 0,.int .i64 0]),8,64):=by kernel_rfl
theorem JC(B:Nat)(v:Value)(ms:List Mk)(m:Mk)(w:World)(l:hO w B v ms)(E:B<=w.heap.size)(I:ms.length<=1000000):
  Calls prog 158 #[v,.agg #[.int .i64 m.e.thread,.int .i64 m.e.kind,.int .i64 m.e.obj,.bool m.e.fail,.int .i64 (m.c 0),.int .i64 (m.c 1),.int .i64 (m.c 2),.int .i64 (m.c 3)]] w (NA B w (gV ms m)):=by
 obtain⟨a,p,rfl,_,_⟩:=l.form lP I;have F:=hid (And.intro (H' w m) (And.intro (dc.alloc l (.cells #[.int .i64 m.e.thread,.int .i64 m.e.kind,.int .i64 m.e.obj,.bool m.e.fail,.int .i64 (m.c 0),.int .i64 (m.c 1),.int .i64 (m.c 2),.int .i64 (m.c 3)] 239)) (da w (.cells #[.int .i64 m.e.thread,.int .i64 m.e.kind,.int .i64 m.e.obj,.bool m.e.fail,.int .i64 (m.c 0),.int .i64 (m.c 1),.int .i64 (m.c 2),.int .i64 (m.c 3)] 239))));clear l;go_enter func158,ntmps158;go_wp2
 go_loopw [8] (fun i wr=>∃k:Nat,k<=ms.length/\i=.int .i64 k/\Hid (∀j (h:j<k) (J:j<ms.length),(ms[j]).e≠m.e)/\Hid (rP wr w.heap.size m/\hO wr B (.slice a ms.length p) ms/\Below w.heap.size w wr)) (fun i _=>ms.length-(intOf i).toNat)
 case atStart=>exact⟨0,Nat.zero_le _,rfl,(fun j h=>absurd h (by omega)),F⟩
 case round=>
  clear F;obtain⟨k,R,rfl,s,b⟩:=hrel;obtain⟨S,T,U,V,W,X,Y,Z⟩:=b.out.1.cells;have hb:=b.out.2.2
  by_cases o:k<ms.length
  ·obtain⟨g,u,G,hg,Q⟩:=b.out.2.1.block (by intro e;simp[e]at o)
   obtain⟨rfl,rfl⟩:a=some ⟨g,0,none⟩/\p=u:=by simpa using G
   clear G;obtain⟨⟨x0,x1,x2,x3⟩,L,M,N,O⟩:=b.out.2.1.cells k o;have t:=sA ms[k].e m.e
   by_cases r:ms[k].e=m.e
   ·have d:decide (ms[k].e=m.e)=true:=by simp[r]
    rw[d]at t;have z:=hid (JF o (fun i y=>s.out i y (by omega)) r);obtain⟨f0,f1,f2,f3⟩:=And.intro (b.out.2.1.frozen (k*8)) (And.intro (b.out.2.1.frozen (k*8+1)) (And.intro (b.out.2.1.frozen (k*8+2)) (b.out.2.1.frozen (k*8+3))));obtain⟨f4,f5,f6,f7⟩:=And.intro (b.out.2.1.frozen (k*8+4)) (And.intro (b.out.2.1.frozen (k*8+5)) (And.intro (b.out.2.1.frozen (k*8+6)) (b.out.2.1.frozen (k*8+7))));have H:Hid (∀n,_/\_):=fun n=>hO.set8 (w:=wr.drewN n) b.out.2.1 m k o
    clear r d s b;generalize ms[k]=x at *;go_wp2
    go_quiet (fail)
    go_wp2;go_ret;refine⟨.slice (some ⟨g,0,none⟩) ms.length p,rfl,?_,?_⟩
    ·rw[z.out]
     exact(H.out nq).1
    ·exact(hb.mono E).drewN.trans (H.out nq).2
   ·have d:decide (ms[k].e=m.e)=false:=by simpa using r
    rw[d]at t
    have A:Hid (∀j (h:j<k+1) (J:j<ms.length),(ms[j]).e≠m.e):=by
     intro j hj C
     by_cases e:j=k
     ·subst e;exact r
     ·exact s.out j (by omega) C
    clear r d s L M N O;generalize ms[k]=x at *;go_wp2
    go_quiet (fail)
    go_wp2
    go_roundw
    case rel=>exact⟨k+1,by omega,by go_num,A,b.out.1,b.out.2.1,hb.drewN⟩
    case measure=>simp[intOf];omega
  ·obtain rfl:k=ms.length:=by omega
   have z:=hid (JD (ms:=ms) (m:=m) (fun x hx=>by
    obtain⟨i,y,rfl⟩:=List.mem_iff_getElem.1 hx
    exact s.out i y y))
   have hz:=hb.size
   go_wp2_with (at_builtin;refine iU (f:=i8) (n:=8) 235 239 64 (.agg #[.int .i64 0,.int .i64 0,.int .i64 0,.bool false,.int .i64 0,.int .i64 0,.int .i64 0,.int .i64 0]) underlying235 J9 rfl (by omega) (by omega) lP rfl (.tmp 25) (.tmp 27) rfl B _ ms rfl (dc.alloc b.out.2.1 _) ⟨wr.heap.size,0,none⟩ rfl m (H9 m) (gw wr (i8 m) _ _ rfl) (by omega) (by simp;omega) ?_;intro P w2 q D _)
   go_ret;exact⟨P,rfl,by rw[z.out];exact q,((hb.mono E).trans (da _ _ |>.mono (by omega))).trans D⟩
theorem AM(a:Option Addr)(cap:Nat)(l:List Ev)(w:World)(m:ei w a l):
  Calls prog 156 #[.slice a l.length cap] w fun r A=>r=.returned (.bool (dJ l))/\Below w.heap.size w A:=by
 have B:=m.1;unfold maxLen at B;have C:=hid m;clear m;go_enter func156,ntmps156;go_wp2
 go_loopw [7] (fun i wr=>∃k:Nat,k<=l.length/\i=.int .i64 k/\Hid (dJ (l.take k)=true)/\Below w.heap.size w wr) (fun i _=>l.length-(intOf i).toNat)
 case atStart=>exact⟨0,Nat.zero_le _,rfl,rfl,Below.refl _ _⟩
 case round=>
  obtain⟨k,E,rfl,q,hb⟩:=hrel
  by_cases c:k<l.length
  ·obtain⟨b,o,rfl,s⟩:=C.out.2 (by intro e;simp[e]at c)
   obtain⟨t,u,v,y⟩:=s k c;have d0:=de hb t;have d1:=de hb u;have d2:=de hb v;have d3:=de hb y;have n:=hid (sH l k c);have d:Hid (eM l[k]=false->dJ l=false):=fun h=>sI c h
   have f:=hb.alloc hb.size (.cells #[.int .i64 l[k].thread,.int .i64 l[k].kind,.int .i64 l[k].obj,.bool l[k].fail] 112);clear s t u v y;generalize l[k]=x at *;go_wp2_with fail;refine(uy x _).mono ?_;rintro r F⟨rfl,g⟩;have j:=f.trans (g.mono f.size);clear f g
   cases z:eM x
   ·have p:=hid (d.out z)
    clear d n;go_wp2;go_ret;exact⟨dE p.out.symm,j⟩
   ·have p:Hid (dJ (l.take (k+1))=true):=by show _=_;rw[n.out,q.out,z];rfl
    clear d n;go_wp2
    go_roundw
    case rel=>exact⟨k+1,by omega,by go_num,p,j⟩
    case measure=>simp[intOf];omega
  ·obtain rfl:k=l.length:=by omega
   have D:Hid (dJ l=true):=by have h:=q.out;rw[List.take_length]at h;exact h
   go_wp2;go_ret;exact⟨dE D.out.symm,hb⟩
def fL(c:Nat->Nat):List Value:=fR (fun t=>(c t:Int))
theorem gZ(c:Nat->Nat):(fL c).length=4:=rfl
def iG(l:List Ev):List (Nat->Nat):=if dJ l then (List.range l.length).map (fun(k t:Nat)=>clk l k t)else []
theorem uJ{l:List Ev}(h:dJ l=true):iG l=(List.range l.length).map (fun(k t:Nat)=>clk l k t):=if_pos h
theorem nW{l:List Ev}(h:dJ l=true):(iG l).length=l.length:=by rw[uJ h];simp
theorem AD{l:List Ev}(h:dJ l=true){k:Nat}(a:k<l.length):(iG l)[k]'(by rw[nW h];exact a)=fun t:Nat=>clk l k t:=by
 simp[uJ h]
theorem AC{l:List Ev}(h:dJ l=false):iG l=[]:=by unfold iG;rw[if_neg (by simp[h])]
def j9(l:List Ev)(k:Nat):List (Nat->Nat):=(List.range l.length).map fun i=>if i<k then (fun t:Nat=>clk l i t)else fun _=>0
theorem kF(l:List Ev)(k:Nat):(j9 l k).length=l.length:=by simp[j9]
theorem re{l:List Ev}{k i:Nat}(h:i<l.length):(j9 l k)[i]'(by rw[kF];exact h)=if i<k then (fun t:Nat=>clk l i t)else fun _=>0:=by simp[j9]
theorem KD{l:List Ev}(h:dJ l=true):j9 l l.length=iG l:=by
 rw[uJ h];unfold j9;apply List.map_congr_left;intro i a;rw[if_pos (by simpa using a)]
theorem Ky(l:List Ev):dA fL (j9 l 0)=List.replicate (l.length*4) (.int .i64 0):=by
 symm
 apply nX gZ (by omega)
 ·rw[kF];simp
 ·intro i a j b
  rw[kF]at a;rw[re a,if_neg (by omega)];rw[List.getElem?_replicate,if_pos (by omega)]
  rcases (by omega:j=0∨j=1∨j=2∨j=3)with rfl|rfl|rfl|rfl <;> rfl
theorem D8{P:Program}(t e:TypeId)(z:Value)(k bytes:Nat)(d:P.underlying t=some (.slice e))(b:(P.info? e).map (fun i=>(i.zero,i.size,i.bytes))=some (some z,k,bytes))
  (n:Nat) (a:bytes*n<=281474976710656) (c:n<=9223372036854775807) (w:World):
  (Instr.makeSlice t (.int .i64 (n:Int)) (.int .i64 (n:Int))).run P w=.ok (.slice (some ⟨w.heap.size,0,none⟩) n n) (w.alloc (.cells (madeCells z.cells (n*k)) e)):=lJ t e z k bytes d b n a c w
theorem IB(n:Nat):(madeCells #[.int .i64 0,.int .i64 0,.int .i64 0,.int .i64 0] (n*4))=(List.replicate (n*4) (.int .i64 0)).toArray:=by
 unfold madeCells;apply Array.ext
 ·simp
 ·intro i a b
  simp;have:i%4=0∨i%4=1∨i%4=2∨i%4=3:=by omega
  rcases this with h|h|h|h <;> simp[h]
theorem Ms(a:List (Nat->Nat))(k t v:Nat)(l:k<a.length)(m:t<4):(dA fL a).set (k*4+t) (.int .i64 (v:Int))=dA fL (a.set k fun j=>if j=t then v else a[k] j):=by
 have c:(dA fL a).length=a.length*4:=gF gZ a;apply nX gZ (by omega)
 ·simp only[length_set]
  exact c
 ·intro i h j d
  have e:i<a.length:=by simpa using h
  have g:=ik gZ a i j e d
  by_cases f:i=k
  ·subst f
   rw[getElem_set_self,getElem?_set]
   by_cases b:j=t
   ·subst b
    rw[if_pos rfl,if_pos (by omega)];unfold fL;rw[kz _ d];simp
   ·rw[if_neg (by omega),g]
    unfold fL;rw[kz _ d,kz _ d];simp[b]
  ·rw[getElem_set_ne (by omega),getElem?_set,if_neg (by omega),g]
theorem AF{a b:List (Nat->Nat)}(d:a.length=b.length)(h:∀i (f:i<a.length) (g:i<b.length) t,t<4->a[i] t=b[i] t):dA fL a=dA fL b:=by
 apply nX gZ (by omega)
 ·rw[gF gZ,d]
 ·intro i e j c
  rw[ik gZ a i j (by omega) c];unfold fL;rw[kz _ c,kz _ c,h i (by omega) e j c]
theorem AE(a:List (Nat->Nat))(k:Nat)(c:Nat->Nat)(h:k<a.length):
  ((((dA fL a).set (k*4) (.int .i64 (c 0))).set (k*4+1) (.int .i64 (c 1))).set (k*4+2) (.int .i64 (c 2))).set (k*4+3) (.int .i64 (c 3))=dA fL (a.set k c):=by
 have b:(dA fL a).length=a.length*4:=gF gZ a;apply nX gZ (by omega)
 ·simp only[length_set]
  exact b
 ·intro i f j g
  have d:i<a.length:=by simpa using f
  by_cases e:i=k
  ·subst e
   rw[getElem_set_self]
   rcases (by omega:j=0∨j=1∨j=2∨j=3)with rfl|rfl|rfl|rfl <;> simp[fL,fR,b,getElem?_set] <;> omega
  ·rw[getElem_set_ne (by omega)]
   simp only[getElem?_set];rw[if_neg (by omega),if_neg (by omega),if_neg (by omega),if_neg (by omega)];exact ik gZ a i j d g
theorem Mg(q:Nat->Bool)(n:Nat):cnt q n<=n:=by
 induction n with
 |zero=>exact Nat.le_refl _
 |succ n a=>rw[gY];split <;> omega
theorem Mo(l:List Ev)(k:Nat)(t:Int):clk l k t<=k+1:=Mg _ _
def fC(w:World)(g:Nat)(a:List (Nat->Nat)):Prop:=dm w g 193 (dA fL a)
theorem fC.cell{w:World}{g:Nat}{a:List (Nat->Nat)}(h:fC w g a){k t:Nat}(c:k<a.length)(b:t<4):w.cell? ⟨g,k*4+t,none⟩=some (.int .i64 (a[k] t)):=by
 rw[dm.cell h,ik gZ a k t c b];exact kz _ b
theorem fC.four{w:World}{g:Nat}{a:List (Nat->Nat)}(h:fC w g a){k:Nat}(b:k<a.length):(w.cell? ⟨g,k*4,none⟩=some (.int .i64 (a[k] 0))/\w.cell? ⟨g,k*4+1,none⟩=some (.int .i64 (a[k] 1))/\w.cell? ⟨g,k*4+2,none⟩=some (.int .i64 (a[k] 2))/\w.cell? ⟨g,k*4+3,none⟩=some (.int .i64 (a[k] 3))) /\
  w.frozen? ⟨g,k*4,none⟩=false/\w.frozen? ⟨g,k*4+1,none⟩=false/\w.frozen? ⟨g,k*4+2,none⟩=false/\w.frozen? ⟨g,k*4+3,none⟩=false:=
 ⟨⟨h.cell (t:=0) b (by omega),h.cell b (by omega),h.cell b (by omega),h.cell b (by omega)⟩,dm.frozen h _,dm.frozen h _,dm.frozen h _,dm.frozen h _⟩
theorem fC.later{w w':World}{g:Nat}{a:List (Nat->Nat)}(h:fC w g a)(hb:Below w.heap.size w w'):fC w' g a:=dm.later h hb
theorem fC.below{w w':World}{B g:Nat}{a:List (Nat->Nat)}(h:fC w g a)(hb:Below B w w')(b:g<B):fC w' g a:=(hb.block g b).trans h
theorem fC.set4{w:World}{g:Nat}{a:List (Nat->Nat)}(h:fC w g a){k:Nat}(b:k<a.length)(c:Nat->Nat):
  fC ((((w.setCell ⟨g,k*4,none⟩ (.int .i64 (c 0))).setCell ⟨g,k*4+1,none⟩ (.int .i64 (c 1))).setCell ⟨g,k*4+2,none⟩ (.int .i64 (c 2))).setCell ⟨g,k*4+3,none⟩ (.int .i64 (c 3))) g (a.set k c):=by
 unfold fC;rw[<-AE a k c b];exact dm.set (dm.set (dm.set (dm.set h _ _) _ _) _ _) _ _
theorem fC.set1{w:World}{g:Nat}{a:List (Nat->Nat)}(h:fC w g a){k t:Nat}(b:k<a.length)(c:t<4)(v:Nat):fC (w.setCell ⟨g,k*4+t,none⟩ (.int .i64 (v:Int))) g (a.set k fun j=>if j=t then v else a[k] j):=by
 unfold fC;rw[<-Ms a k t v b c];exact dm.set h _ _
theorem fC.congr{w:World}{g:Nat}{a b:List (Nat->Nat)}(h:fC w g a)(c:a.length=b.length)(h2:∀i (d:i<a.length) (h2:i<b.length) t,t<4->a[i] t=b[i] t):fC w g b:=by
 unfold fC;rw[<-AF c h2];exact h
theorem hO.only{w w':World}{B g:Nat}{v:Value}{ms:List Mk}(h:hO w B v ms)(a:Only g w w')(b:g<B):hO w' B v ms:=dc.only h a b
theorem hO.later{w w':World}{B:Nat}{v:Value}{ms:List Mk}(h:hO w B v ms)(hb:Below w.heap.size w w'):hO w' B v ms:=dc.later h hb
def vg(a:World)(l:List Ev)(k:Nat)(v:Value)(wr:World):Prop:=
 fC wr a.heap.size (j9 l k)/\(∃b,hO wr (a.heap.size+1) v b/\lA l k b)/\Below a.heap.size a wr
theorem Mm(a:Option Addr)(cap:Nat)(l:List Ev)(w:World)(Z:ei w a l)(hm:l.length<=1000):
  Calls prog 105 #[.slice a l.length cap] w fun r w'=>∃a' C,r=.returned (.slice a' (iG l).length C)/\en w' a' 4 fL (iG l)/\Below w.heap.size w w':=by
 have HL:=hid Z
 cases W:dJ l
 ·have HE:=hid (AC W)
  have HC:=hid (AM a cap l w Z);clear Z;go_enter func105,ntmps105;go_wp2_with fail;refine HC.out.mono ?_;rw[W];rintro r d⟨rfl,hb⟩;clear HC W;go_wp2;go_ret;exact⟨none,0,by rw[HE.out];rfl,by rw[HE.out];exact oI _ _ _ _,hb⟩
 ·have HR:=hid W
  have HC:=hid (AM a cap l w Z);have F:(prog.info? 193).map (fun i=>(i.zero,i.size,i.bytes))=some (some (.agg #[.int .i64 0,.int .i64 0,.int .i64 0,.int .i64 0]),4,32):=by kernel_rfl
  have aj:=D8 (P:=prog) 198 193 (.agg #[.int .i64 0,.int .i64 0,.int .i64 0,.int .i64 0]) 4 32 underlying198 F l.length (by omega) (by omega);clear Z F;go_enter func105,ntmps105;go_wp2_with fail;refine HC.out.mono ?_;rw[W];rintro r d⟨rfl,hb⟩;clear HC W
  have H0:Hid (vg d l 0 (.slice none 0 0) (d.alloc (.cells (madeCells #[.int .i64 0,.int .i64 0,.int .i64 0,.int .i64 0] (l.length*4)) 193))):=by
   refine⟨?_,⟨[],iF _ _ _ _ _,IU l⟩,da _ _⟩;unfold fC;rw[Ky,IB];exact heap_alloc_new _ _
  go_wp2_with fail
  go_loopw [4,15] (fun v i wr=>∃k:Nat,k<=l.length/\i=.int .i64 k/\Hid (vg d l k v wr)) (fun _ i _=>l.length-(intOf i).toNat)
  case atStart=>exact⟨0,Nat.zero_le _,rfl,H0⟩
  case round=>
   clear H0 aj;obtain⟨k,hk,rfl,H⟩:=hrel
   by_cases p:k<l.length
   ·obtain⟨b,o,rfl,hc⟩:=HL.out.2 (by intro e;simp[e]at p)
    obtain⟨n,D,s⟩:=H.out.2.1;obtain⟨a',C,rfl,L,_⟩:=D.form lP (by have:=s.1;omega);have A:Below w.heap.size w wr:=hb.trans (H.out.2.2.mono hb.size);obtain⟨c0,c1,c2,c3⟩:=hc k p;have d0:=de A c0;have d1:=de A c1;have d2:=de A c2;have d3:=de A c3;have hx:=kZ (oJ HR.out p);have HX:Hid (dd l k=l[k]):=gt p;clear hc c0 c1 c2 c3;generalize l[k]=x at *;obtain⟨xt,f,g,m⟩:=x;dsimp only at hx d0 d1 d2 d3
    obtain⟨c,rfl⟩:∃c:Nat,xt=c:=⟨xt.toNat,by omega⟩
    have aa:c<4:=by omega
    clear hx;have HA:=hid (And.intro D (And.intro s L));have V:=hid s;clear D s L;have I:=da wr (.cells #[.int .i64 (c:Int),.int .i64 f,.int .i64 g,.bool m] 112);have ab:Hid (eo (wr.alloc (.cells #[.int .i64 (c:Int),.int .i64 f,.int .i64 g,.bool m] 112)) wr.heap.size ⟨c,f,g,m⟩):=eo.new wr ⟨c,f,g,m⟩;go_wp2_with fail;generalize wr.alloc (.cells #[.int .i64 (c:Int),.int .i64 f,.int .i64 g,.bool m] 112)=W2 at *;refine(Jn a' C n ⟨c,f,g,m⟩ W2 (HA.out.2.2.later I)).mono ?_;rintro r w3⟨rfl,Q⟩;have M:=hid (ab.out.later Q);have J:=I.trans (Q.mono I.size);have R:=hid (H.out.1.later J);have ac:=hid (HA.out.1.later J);have ad:=hid HA.out.2.1;have S:=H.out.2.2.trans (J.mono H.out.2.2.size);have ae:Hid (∀t:Nat,clk l k t=kn n ⟨c,f,g,m⟩ t+if (c:Int)=(t:Int)then 1 else 0):=fun t=>by have h:=V.out.clk t;rw[HX.out]at h;exact h
    have ak:=hid H.out.1;clear ab I Q J H HA;obtain⟨⟨p0,p1,p2,p3⟩,f0,f1,f2,f3⟩:=R.out.four (k:=k) (by rw[kF];exact p);have ap:d.heap.size<wr.heap.size:=dm.lt ak.out;have q:Only d.heap.size w3 ((((w3.setCell ⟨d.heap.size,k*4,none⟩ (.int .i64 (kn n ⟨c,f,g,m⟩ 0))).setCell ⟨d.heap.size,k*4+1,none⟩ (.int .i64 (kn n ⟨c,f,g,m⟩ 1))).setCell ⟨d.heap.size,k*4+2,none⟩ (.int .i64 (kn n ⟨c,f,g,m⟩ 2))).setCell ⟨d.heap.size,k*4+3,none⟩ (.int .i64 (kn n ⟨c,f,g,m⟩ 3))):=((((Only.refl _ _).setCell _ _).setCell _ _).setCell _ _).setCell _ _;have y:=hid (R.out.set4 (k:=k) (by rw[kF];exact p) (kn n ⟨c,f,g,m⟩));have E:=hid (M.out.only q (by omega));have af:=hid (ac.out.only q (by omega));have T:Below d.heap.size d ((((w3.setCell ⟨d.heap.size,k*4,none⟩ (.int .i64 (kn n ⟨c,f,g,m⟩ 0))).setCell ⟨d.heap.size,k*4+1,none⟩ (.int .i64 (kn n ⟨c,f,g,m⟩ 1))).setCell ⟨d.heap.size,k*4+2,none⟩ (.int .i64 (kn n ⟨c,f,g,m⟩ 2))).setCell ⟨d.heap.size,k*4+3,none⟩ (.int .i64 (kn n ⟨c,f,g,m⟩ 3))):=S.trans (q.below (Nat.le_refl _) S.size);clear R M ac q;go_wp2_with fail;generalize ((((w3.setCell ⟨d.heap.size,k*4,none⟩ (.int .i64 (kn n ⟨c,f,g,m⟩ 0))).setCell ⟨d.heap.size,k*4+1,none⟩ (.int .i64 (kn n ⟨c,f,g,m⟩ 1))).setCell ⟨d.heap.size,k*4+2,none⟩ (.int .i64 (kn n ⟨c,f,g,m⟩ 2))).setCell ⟨d.heap.size,k*4+3,none⟩ (.int .i64 (kn n ⟨c,f,g,m⟩ 3)))=W4 at *;clear p0 p1 p2 p3 f0 f1 f2 f3 S;obtain⟨e0,e1,X,Y⟩:=E.out.cells;have q0:=y.out.cell (k:=k) (t:=c) (by rw[length_set,kF];exact p) aa;rw[getElem_set_self]at q0;have qf:=dm.frozen y.out (k*4+c);have aq:kn n ⟨c,f,g,m⟩ c<=2000:=by have h1:=ae.out c;have h2:=Mo l k c;omega
    have ar:(c:Int)<4:=by omega
    have ao:(0:Int)<=c:=by omega
    have al:IntKind.i64.wrap ((kn n ⟨c,f,g,m⟩ c:Int)+1)=(kn n ⟨c,f,g,m⟩ c:Int)+1:=IntWalk.i64_in _ (by omega)
    go_still_tail 10,(by kernel_rfl)
    have z:Hid (fC (W4.setCell ⟨d.heap.size,k*4+c,none⟩ (.int .i64 ((kn n ⟨c,f,g,m⟩ c:Int)+1))).drew d.heap.size (j9 l (k+1))):=by
     have h1:=y.out.set1 (k:=k) (t:=c) (by rw[length_set,kF];exact p) aa (kn n ⟨c,f,g,m⟩ c+1);show fC (W4.setCell _ _) _ _;rw[Int.natCast_add]at h1;refine fC.congr h1 (by simp[kF]) fun i h3 h4 t ht=>?_
     have h5:i<l.length:=by rw[kF]at h4;exact h4
     rw[re h5]
     by_cases e:i=k
     ·subst e
      simp only[getElem_set_self];rw[if_pos (show i<i+1 by omega),ae.out t]
      by_cases X:t=c
      ·subst X
       simp
      ·rw[if_neg X,if_neg (by omega)]
       rfl
     ·rw[getElem_set_ne (by omega),getElem_set_ne (by omega),re h5]
      by_cases Y:i<k
      ·rw[if_pos Y,if_pos (show i<k+1 by omega)]
      ·rw[if_neg Y,if_neg (show ¬i<k+1 by omega)]
    have q:Only d.heap.size W4 (W4.setCell ⟨d.heap.size,k*4+c,none⟩ (.int .i64 ((kn n ⟨c,f,g,m⟩ c:Int)+1))).drew:=((Only.refl _ _).setCell _ _).drew;have N:=hid (E.out.only q (by omega));have ag:=hid (af.out.only q (by omega));have ah:=T.trans (q.below (Nat.le_refl _) T.size);clear y E af q T;go_wp2_with fail;clear q0 qf e0 e1 X Y al;generalize (W4.setCell ⟨d.heap.size,k*4+c,none⟩ (.int .i64 ((kn n ⟨c,f,g,m⟩ c:Int)+1))).drew=W5 at *;obtain⟨e0,e1,X,Y⟩:=N.out.cells;have O:k<(j9 l (k+1)).length:=by rw[kF];exact p
    have ai:(j9 l (k+1))[k]=fun t:Nat=>clk l k t:=by rw[re p,if_pos (by omega)]
    obtain⟨⟨p0,p1,p2,p3⟩,_⟩:=z.out.four O;rw[ai]at p0 p1 p2 p3;have am:Hid ((⟨⟨c,f,g,m⟩,fun t:Nat=>clk l k t⟩:Mk)=nC l k):=by show _=_;unfold nC;rw[HX.out]
    clear ai O
    go_still_tail 7,(by kernel_rfl)
    go_wp2_with fail
    refine(JC (d.heap.size+1) _ n ⟨⟨c,f,g,m⟩,fun t:Nat=>clk l k t⟩ W5.drew ag.out (by have:=dm.lt z.out;show _<W5.heap.size;exact this) (by have:=ad.out.1;omega)).mono ?_;rintro r w6⟨v6,rfl,G,U⟩
    have an:Hid (vg d l (k+1) v6 w6):=by
     refine⟨fC.below (w:=W5.drew) (B:=d.heap.size+1) z.out U (by omega),⟨gV n (nC l k),?_,ad.out.keep⟩,ah.drew.trans (U.mono (by omega))⟩;rw[<-am.out];exact G
    clear z N ag ah U G e0 e1 X Y p0 p1 p2 p3;go_wp2
    go_roundw
    case rel=>exact⟨k+1,by omega,by go_num,an⟩
    case measure=>simp[intOf];omega
   ·obtain rfl:k=l.length:=by omega
    have HF:Hid (en wr (some ⟨d.heap.size,0,none⟩) 4 fL (iG l)):=by
     have h:=H.out.1;rw[KD HR.out]at h;refine⟨by rw[nW HR.out];unfold maxLen;omega,fun _=>⟨d.heap.size,0,rfl,fun i hi j u hj=>?_⟩⟩;rw[Nat.zero_add,dm.cell h,ik gZ _ i j hi (by have:=(List.getElem?_eq_some_iff.1 hj).1;simpa [fL,fR]using this)];exact hj
    have A:Below w.heap.size w wr:=hb.trans (H.out.2.2.mono hb.size);clear H;go_wp2;go_ret;exact⟨_,_,by rw[nW HR.out];rfl,HF.out,A⟩
end
section
open Go.Proofs.Tryz Go.RowKit
open List (getElem_append_left getElem_set_ne length_set)
structure Sp where
 a:Option Addr
 n:Nat
 c:Nat
instance:Inhabited Sp:=⟨⟨none,0,0⟩⟩
def eL(s:Sp):Value:=.slice s.a s.n s.c
def fW(p:Nat × Nat):List Value:=[.int .i64 p.1,.int .i64 p.2]
theorem xB(p:Nat × Nat):(fW p).length=2:=rfl
theorem Ge(p:Nat × Nat):∀v∈fW p,v.oneCell'=true:=by
 intro v a;simp[fW]at a
 rcases a with rfl|rfl <;> rfl
def fZ(x:Ev × Sp):List Value:=[.int .i64 x.1.thread,.int .i64 x.1.kind,.int .i64 x.1.obj,.bool x.1.fail,.slice x.2.a x.2.n x.2.c]
theorem rg(x:Ev × Sp):(fZ x).length=5:=rfl
theorem KI(x:Ev × Sp):∀v∈fZ x,v.oneCell'=true:=by
 intro v a;simp[fZ]at a
 rcases a with rfl|rfl|rfl|rfl|rfl <;> rfl
theorem Ka:(prog.info? 245).map (fun i=>(i.zero,i.size,i.bytes))=some (some (.agg #[.int .i64 0,.int .i64 0,.int .i64 0,.bool false,.slice none 0 0]),5,56):=by kernel_rfl
theorem J8:(prog.info? 242).map (fun i=>(i.zero,i.size,i.bytes))=some (some (.agg #[.int .i64 0,.int .i64 0]),2,16):=by kernel_rfl
theorem lE:245≠242:=by decide
theorem mj{w:World}{B B' n k m m':Nat}{t d:TypeId}{v f:Value}{xs b:List Value}(h:w.ownsRow B t n v m xs)(l:w.ownsRow B' d k f m' b)(c:t≠d):v.ownBlock=none∨v.ownBlock≠f.ownBlock:=by
 obtain⟨_,⟨rfl,_⟩|⟨g,r,s,rfl,_,o,_⟩⟩:=h
 ·exact .inl rfl
 ·right
  obtain⟨_,⟨rfl,_⟩|⟨p,i,j,rfl,_,a,_⟩⟩:=l
  ·simp[Value.ownBlock]
  ·intro e
   injection e with e;have q:g=p:=e;subst q;rw[o]at a;injection a with a;injection a with _ h2;exact c h2
structure OwnG(w:World)(B:Nat)(v:Value)(xs:List (Ev × Sp))(gs:List Gp):Prop where
 len:xs.length=gs.length
 evs:∀i (h:i<xs.length) (h':i<gs.length),xs[i].1=gs[i].1
 outer:dc w B 245 5 fZ v xs
 inner:∀i (h:i<xs.length) (h':i<gs.length),dc w B 242 2 fW (eL xs[i].2) gs[i].2
 apart:∀i j (hi:i<xs.length) (hj:j<xs.length),i≠j->(eL xs[i].2).ownBlock=none∨(eL xs[i].2).ownBlock≠(eL xs[j].2).ownBlock
theorem OwnG.later{w w':World}{B:Nat}{v:Value}{xs:List (Ev × Sp)}{gs:List Gp}(h:OwnG w B v xs gs)(hb:Below w.heap.size w w'):OwnG w' B v xs gs:=
 ⟨h.len,h.evs,h.outer.later hb,fun i a b=>(h.inner i a b).later hb,h.apart⟩
theorem Gy(w:World)(B:Nat):OwnG w B (.slice none 0 0) [] []:=⟨rfl,fun i a=>absurd a (by simp),iF _ _ _ _ _,fun i a=>absurd a (by simp),fun i _ a=>absurd a (by simp)⟩
theorem OwnG.only{w w':World}{B g:Nat}{v:Value}{xs:List (Ev × Sp)}{gs:List Gp}(h:OwnG w B v xs gs)(a:Only g w w')(b:g<B):OwnG w' B v xs gs:=
 ⟨h.len,h.evs,h.outer.only a b,fun i c d=>(h.inner i c d).only a b,h.apart⟩
theorem OwnG.kept{w w':World}{B:Nat}{v:Value}{xs:List (Ev × Sp)}{gs:List Gp}{row:Option Nat}(h:OwnG w B v xs gs)(j:w.grownBy w' row)(k:∀r,row=some r->∀t l,w.heap[r]?=some (.cells l t (0,0))->t≠245/\t≠242):OwnG w' B v xs gs:=by
 have a:∀{t:TypeId} {n m:Nat} {b:Value} {c:List Value},(t=245∨t=242)->w.ownsRow B t n b m c->w'.ownsRow B t n b m c:=by
  intro t n m b c o f;refine f.kept j ?_;obtain⟨_,⟨rfl,_⟩|⟨g,s,u,rfl,_,d,_⟩⟩:=f
  ·exact .inl rfl
  ·right
   intro e;have:=k g e.symm _ _ d;rcases o with rfl|rfl
   ·exact this.1 rfl
   ·exact this.2 rfl
 exact⟨h.len,h.evs,a (.inl rfl) h.outer,fun i p q=>a (.inr rfl) (h.inner i p q),h.apart⟩
theorem OwnG.more{w w':World}{B:Nat}{v o:Value}{xs:List (Ev × Sp)}{gs:List Gp}{e:Ev}{s:Sp}{ps:List (Nat × Nat)}(h:OwnG w B v xs gs)(q:dc w' B 245 5 fZ o (xs++[(e,s)]))(r:w.grownBy w' v.ownBlock)
  (t:dc w' B 242 2 fW (eL s) ps) (hb:∀b,(eL s).ownBlock=some b->∀i (h:i<xs.length),(eL xs[i].2).ownBlock≠some b):
  OwnG w' B o (xs++[(e,s)]) (gs++[(e,ps)]):=by
 have p:=h.len;refine⟨by simp[h.len],fun i f k=>?_,q,fun i f k=>?_,fun i j f k n=>?_⟩
 ·by_cases a:i<xs.length
  ·rw[getElem_append_left a,getElem_append_left (show i<gs.length by omega)]
   exact h.evs i a _
  ·have d:i=xs.length:=by simp at f;omega
   subst d;simp[p]
 ·by_cases a:i<xs.length
  ·have g:(xs++[(e,s)])[i]=xs[i]:=getElem_append_left a
   have l:(gs++[(e,ps)])[i]=gs[i]'(by omega):=getElem_append_left (show i<gs.length by omega);rw[g,l];exact World.ownsRow.kept (h.inner i a (by omega)) r (mj (h.inner i a (by omega)) h.outer (Ne.symm lE))
  ·have d:i=xs.length:=by simp at f;omega
   subst d;simp only[List.getElem_concat_length,p];exact t
 ·by_cases a:i<xs.length
  ·have g:(xs++[(e,s)])[i]=xs[i]:=getElem_append_left a
   rw[g]
   by_cases c:j<xs.length
   ·rw[getElem_append_left c]
    exact h.apart i j a c n
   ·have d:j=xs.length:=by simp at k;omega
    subst d;have l:(xs++[(e,s)])[xs.length]=(e,s):=by simp
    rw[l]
    cases m:(eL s).ownBlock with
    |none=>cases x:(eL xs[i].2).ownBlock with
     |none=>exact .inl rfl
     |some b=>exact .inr (by simp)
    |some b=>exact .inr (hb b m i a)
  ·have d:i=xs.length:=by simp at f;omega
   subst d;have c:j<xs.length:=by simp at k;omega
   have g:(xs++[(e,s)])[xs.length]=(e,s):=by simp
   rw[g,getElem_append_left c]
   cases m:(eL s).ownBlock with
   |none=>exact .inl rfl
   |some b=>exact .inr fun u=>hb b m j c u.symm
theorem KH{xs:List (Ev × Sp)}{n:Nat}(b:n<xs.length)(s:Sp):(dA fZ xs).set (n*5+4) (.slice s.a s.n s.c)=dA fZ (xs.set n (xs[n].1,s)):=by
 induction xs generalizing n with
 |nil=>simp at b
 |cons x xs d=>
  cases n with
  |zero=>rfl
  |succ n=>
   have:=d (n:=n) (by simpa using b);have e:(n+1)*5+4=(n*5+4)+5:=by omega
   simp only[dA,List.flatMap_cons,List.set_cons_succ,List.getElem_cons_succ]at *;rw[<-this,e];rfl
theorem OwnG.put{w p:World}{B g N cap n:Nat}{xs:List (Ev × Sp)}{gs:List Gp}{s':Sp}{ps:List (Nat × Nat)}(h:OwnG w B (.slice (some ⟨g,0,none⟩) N cap) xs gs)(s:n<xs.length)(t:n<gs.length)
  (G:dc p B 242 2 fW (eL s') ps) (D:w.grownBy p (eL xs[n].2).ownBlock) (hb:∀b,(eL s').ownBlock=some b->(eL xs[n].2).ownBlock=some b∨w.heap.size<=b):
  OwnG (p.setCell ⟨g,n*5+4,none⟩ (.slice s'.a s'.n s'.c)) B (.slice (some ⟨g,0,none⟩) N cap) (xs.set n (xs[n].1,s')) (gs.set n (gs[n].1,ps))/\(p.cell? ⟨g,n*5+4,none⟩).isSome=true/\p.frozen? ⟨g,n*5+4,none⟩=false:=by
 have J:=h.len;have d:p.ownsRow B 245 5 (.slice (some ⟨g,0,none⟩) N cap) xs.length (dA fZ xs):=World.ownsRow.kept h.outer D (mj h.outer (h.inner n s t) lE)
 have E:xs.length=N:=by
  obtain⟨_,⟨k,_⟩|⟨_,_,_,k,_⟩⟩:=d
  ·cases k
  ·injection k with _ k
   exact k.symm
 rw[E]at d;have r:=d.stored (n*5+4) (.slice s'.a s'.n s'.c);rw[KH s s']at r;have A:p.grownBy (p.setCell ⟨g,n*5+4,none⟩ (.slice s'.a s'.n s'.c)) (some g):=r.2;have o:∀{x:Value} {y:List (Nat × Nat)},dc p B 242 2 fW x y->dc (p.setCell ⟨g,n*5+4,none⟩ (.slice s'.a s'.n s'.c)) B 242 2 fW x y:=fun {x y} F=>World.ownsRow.kept F A (mj F d (Ne.symm lE))
 refine⟨⟨by simp[h.len],fun i f m=>?_,?_,fun i f m=>?_,fun i j f m l=>?_⟩,?_,d.frozenAt _⟩
 ·simp only[length_set]at f m
  by_cases e:n=i
  ·subst e
   simp[h.evs n s t]
  ·rw[getElem_set_ne e,getElem_set_ne e]
   exact h.evs i f m
 ·unfold dc
  rw[length_set,E];exact r.1
 ·simp only[length_set]at f m
  by_cases e:n=i
  ·subst e
   simp only[List.getElem_set_self];exact o G
  ·rw[getElem_set_ne e,getElem_set_ne e]
   exact o (World.ownsRow.kept (h.inner i f m) D (h.apart i n f s (fun u=>e u.symm)))
 ·simp only[length_set]at f m
  have q:∀i (f:i<xs.length),i≠n->(eL s').ownBlock=none∨(eL s').ownBlock≠(eL xs[i].2).ownBlock:=fun i f l=>by
   cases C:(eL s').ownBlock with
   |none=>exact .inl rfl
   |some b=>
    right
    intro e;rcases hb b C with k|k
    ·rcases h.apart n i s f (fun e=>l e.symm)with v|v
     ·rw[k]at v;cases v
     ·exact v (k.trans e)
    ·have:=(World.ownsRow.lt (h.inner i f (by omega)) b e.symm).2
     omega
  by_cases e:n=i
  ·subst e
   have z:(xs.set n (xs[n].1,s'))[j]'(by simpa using m)=xs[j]:=getElem_set_ne l _;rw[z,List.getElem_set_self];exact q j m (fun e=>l e.symm)
  ·have H:(xs.set n (xs[n].1,s'))[i]'(by simpa using f)=xs[i]:=getElem_set_ne e _
   rw[H]
   by_cases u:n=j
   ·subst u
    rw[List.getElem_set_self];rcases q i f l with k|k
    ·cases I:(eL xs[i].2).ownBlock
     ·exact .inl rfl
     ·right;rw[k];simp
    ·exact .inr (fun e=>k e.symm)
   ·have z:(xs.set n (xs[n].1,s'))[j]'(by simpa using m)=xs[j]:=getElem_set_ne u _
    rw[z];exact h.apart i j f m l
 ·rw[d.cellAt _ (by omega),List.getElem?_eq_getElem (by rw[gF rg];omega)]
  rfl
theorem OwnG.cell{w:World}{B g N cap n j:Nat}{xs:List (Ev × Sp)}{gs:List Gp}(h:OwnG w B (.slice (some ⟨g,0,none⟩) N cap) xs gs)(d:n<xs.length)(e:j<5):w.cell? ⟨g,n*5+j,none⟩=(fZ xs[n])[j]?:=by
 have b:w.ownsRow B 245 5 (.slice (some ⟨g,0,none⟩) N cap) xs.length (dA fZ xs):=h.outer
 have f:xs.length=N:=by
  obtain⟨_,⟨c,_⟩|⟨_,_,_,c,_⟩⟩:=b
  ·cases c
  ·injection c with _ c
   exact c.symm
 rw[f]at b;rw[b.cellAt _ (by omega),ik rg xs n j d e]
theorem OwnG.form{w:World}{B:Nat}{v:Value}{xs:List (Ev × Sp)}{gs:List Gp}(h:OwnG w B v xs gs):(v=.slice none 0 0/\gs=[])∨∃g a,v=.slice (some ⟨g,0,none⟩) gs.length a/\B<=g/\g<w.heap.size:=by
 have c:=h.len;obtain⟨_,⟨b,i⟩|⟨g,a,f,b,d,e,_⟩⟩:=h.outer
 ·exact .inl ⟨b,List.eq_nil_of_length_eq_zero (by omega)⟩
 ·exact .inr ⟨g,a,by rw[b,c],d,(Array.getElem?_eq_some_iff.1 e).1⟩
end
section
open Go.RowKit
open List (length_set set_append_left)
open Nat (le_trans)
def gv(l:List Ev)(n:Nat):List (Nat->Nat):=(List.range 4).map fun(t u:Nat)=>ie l n t u
theorem lZ(l:List Ev)(n:Nat):(gv l n).length=4:=rfl
theorem uD(l:List Ev)(n t:Nat)(h:t<4):(gv l n)[t]'(by rw[lZ];exact h)=fun(u:Nat)=>ie l n t u:=by simp[gv]
theorem LY(l:List Ev)(n a:Nat)(_:a<4)(c:(dd l n).thread=a):dA fL (gv l (n+1))=dA fL ((gv l n).set a fun(u:Nat)=>clk l n u):=by
 refine AF (by simp[lZ]) fun i d g t f=>?_
 have b:i<4:=d;rw[uD l (n+1) i b];show ie l (n+1) i t=_;rw[Jk,c]
 by_cases e:a=i
 ·subst e
  simp
 ·rw[if_neg (by omega),List.getElem_set_ne e,uD l n i b]
def gI(w:World)(P:Nat)(b:List (Nat->Nat))(v:Value):Prop:=dm w P 197 (dA fL b++[v])
structure PastM(w:World)(P B:Nat)(cs:List (Nat->Nat))(v:Value)(xs:List (Ev × Sp))(gs:List Gp):Prop where
 blk:gI w P cs v
 own:OwnG w B v xs gs
 lt:P<B
 le:B<=w.heap.size
 four:cs.length=4
theorem PastM.later{w w':World}{P B:Nat}{a:List (Nat->Nat)}{v:Value}{xs:List (Ev × Sp)}{gs:List Gp}(h:PastM w P B a v xs gs)(hb:Below w.heap.size w w'):PastM w' P B a v xs gs:=
 ⟨h.blk.later hb,h.own.later hb,h.lt,le_trans h.le hb.size,h.four⟩
theorem PastM.congr{w:World}{P B:Nat}{b a:List (Nat->Nat)}{v:Value}{xs:List (Ev × Sp)}{gs:List Gp}(h:PastM w P B b v xs gs)(c:a.length=4)(d:dA fL a=dA fL b):PastM w P B a v xs gs:=
 ⟨by unfold gI;rw[d];exact h.blk,h.own,h.lt,h.le,c⟩
theorem gI.num{w:World}{P:Nat}{a:List (Nat->Nat)}{v:Value}(h:gI w P a v){t u:Nat}(d:t<a.length)(b:u<4):w.cell? ⟨P,t*4+u,none⟩=some (.int .i64 (a[t] u)):=by
 have c:=dm.cell h (t*4+u);have e:=ik gZ a t u d b;rw[List.getElem?_append_left (by rw[gF gZ];omega),e]at c;rw[c];exact kz _ b
theorem gI.slice{w:World}{P:Nat}{a:List (Nat->Nat)}{v:Value}(h:gI w P a v)(c:a.length=4):w.cell? ⟨P,16,none⟩=some v:=by
 have b:=dm.cell h 16;rw[List.getElem?_append_right (by rw[gF gZ];omega),gF gZ,c]at b;exact b
theorem gI.frozen{w:World}{P:Nat}{a:List (Nat->Nat)}{v:Value}(h:gI w P a v)(j:Nat):w.frozen? ⟨P,j,none⟩=false:=dm.frozen h j
theorem gI.set4{w:World}{P:Nat}{a:List (Nat->Nat)}{v:Value}(h:gI w P a v){k:Nat}(e:k<a.length)(c:Nat->Nat):
  gI ((((w.setCell ⟨P,k*4,none⟩ (.int .i64 (c 0))).setCell ⟨P,k*4+1,none⟩ (.int .i64 (c 1))).setCell ⟨P,k*4+2,none⟩ (.int .i64 (c 2))).setCell ⟨P,k*4+3,none⟩ (.int .i64 (c 3))) P (a.set k c) v:=by
 have d:=dm.set (dm.set (dm.set (dm.set h (k*4) (.int .i64 (c 0))) (k*4+1) (.int .i64 (c 1))) (k*4+2) (.int .i64 (c 2))) (k*4+3) (.int .i64 (c 3));have b:(dA fL a).length=a.length*4:=gF gZ a;unfold gI;rw[<-AE a k c e];rw[set_append_left _ _ (by rw[b];omega),set_append_left _ _ (by rw[length_set,b];omega),set_append_left _ _ (by rw[length_set,length_set,b];omega),set_append_left _ _ (by rw[length_set,length_set,length_set,b];omega)]at d;exact d
theorem gI.put{w:World}{P:Nat}{a:List (Nat->Nat)}{v:Value}(h:gI w P a v)(d:a.length=4)(b:Value):gI (w.setCell ⟨P,16,none⟩ b) P a b:=by
 have c:=dm.set h 16 b;unfold gI;rw[List.set_append_right _ _ (by rw[gF gZ];omega),gF gZ,d]at c;exact c
structure Aside(P B:Nat)(w w':World):Prop where
 os:w'.os=w.os
 tape:w'.tape=w.tape
 output:w'.output=w.output
 size:w.heap.size<=w'.heap.size
 low:∀k,k<B->k≠P->w'.heap[k]?=w.heap[k]?
 keep:∀(k:Nat) (cs:Array Value) (t:TypeId) (fr:Nat × Nat),w.heap[k]?=some (Obj.cells cs t fr)->t≠197->t≠245->t≠242->w'.heap[k]?=some (Obj.cells cs t fr)
theorem Aside.trans{P B:Nat}{a b c:World}(h:Aside P B a b)(k:Aside P B b c):Aside P B a c:=
 ⟨k.os.trans h.os,k.tape.trans h.tape,k.output.trans h.output,le_trans h.size k.size,fun i d e=>(k.low i d e).trans (h.low i d e),fun i f t g n j l m=>k.keep i f t g (h.keep i f t g n j l m) j l m⟩
theorem Aside.of_below{P B:Nat}{w w':World}(h:Below w.heap.size w w')(b:B<=w.heap.size):Aside P B w w':=
 ⟨h.os,h.tape,h.output,h.size,fun k c _=>h.block k (Nat.lt_of_lt_of_le c b),fun k _ _ _ a _ _ _=>(h.block k (Array.getElem?_eq_some_iff.1 a).1).trans a⟩
theorem Aside.of_only{P B q:Nat}{w w':World}(h:Only q w w')(m:B<=q∨q=P)(d:B<=w.heap.size)(f:∀a t b,w.heap[q]?=some (Obj.cells a t b)->t=197∨t=245∨t=242):Aside P B w w':=
 ⟨h.os,h.tape,h.output,h.size,fun k g n=>h.block k (Nat.lt_of_lt_of_le g d) (by omega),fun k a t b c i j l=>by
  refine(h.block k (Array.getElem?_eq_some_iff.1 c).1 fun e=>?_).trans c;subst e;rcases f a t b c with e|e|e
  ·exact i e
  ·exact j e
  ·exact l e⟩
theorem Aside.of_grown{P B:Nat}{w w':World}{row:Option Nat}(hb:Below B w w')(h:w.grownBy w' row)(d:∀q,row=some q->∀a t b,w.heap[q]?=some (Obj.cells a t b)->t=197∨t=245∨t=242):Aside P B w w':=
 ⟨hb.os,hb.tape,hb.output,hb.size,fun k f _=>hb.block k f,fun k a t b c g i j=>by
  refine(h.block k (Array.getElem?_eq_some_iff.1 c).1 fun e=>?_).trans c;rcases d k e.symm a t b c with e|e|e
  ·exact g e
  ·exact i e
  ·exact j e⟩
theorem nr{w:World}{B n m:Nat}{t:TypeId}{v:Value}{i:List Value}(h:w.ownsRow B t n v m i){q:Nat}(a:v.ownBlock=some q):∀d c f,w.heap[q]?=some (Obj.cells d c f)->c=t:=by
 intro d c f b;obtain⟨_,⟨rfl,_⟩|⟨g,k,l,rfl,_,j,_⟩⟩:=h
 ·cases a
 ·injection a with a
  have e:g=q:=a;subst e;rw[j]at b;injection b with b;injection b with _ h2;exact h2.symm
theorem OwnG.cell_grown{w c:World}{B g N cap n i j:Nat}{xs:List (Ev × Sp)}{gs:List Gp}(h:OwnG w B (.slice (some ⟨g,0,none⟩) N cap) xs gs)(e:n<xs.length)(f:i<xs.length)(k:j<5)(l:w.grownBy c (eL xs[n].2).ownBlock):c.cell? ⟨g,i*5+j,none⟩=(fZ xs[i])[j]?:=by
 have a:c.ownsRow B 245 5 (.slice (some ⟨g,0,none⟩) N cap) xs.length (dA fZ xs):=World.ownsRow.kept h.outer l (mj h.outer (h.inner n e (by rw[<-h.len];exact e)) lE)
 have m:xs.length=N:=by
  obtain⟨_,⟨b,_⟩|⟨_,_,_,b,_⟩⟩:=a
  ·cases b
  ·injection b with _ b
   exact b.symm
 rw[m]at a;rw[a.cellAt _ (by omega),ik rg xs i j f k]
theorem PastM.last{w:World}{P B:Nat}{d:List (Nat->Nat)}{v:Value}{xs:List (Ev × Sp)}{gs:List Gp}(h:PastM w P B d v xs gs){k:Nat}(e:k<4)(c:Nat->Nat):
  PastM ((((w.setCell ⟨P,k*4,none⟩ (.int .i64 (c 0))).setCell ⟨P,k*4+1,none⟩ (.int .i64 (c 1))).setCell ⟨P,k*4+2,none⟩ (.int .i64 (c 2))).setCell ⟨P,k*4+3,none⟩ (.int .i64 (c 3))) P B (d.set k c) v xs gs /\
   Aside P B w ((((w.setCell ⟨P,k*4,none⟩ (.int .i64 (c 0))).setCell ⟨P,k*4+1,none⟩ (.int .i64 (c 1))).setCell ⟨P,k*4+2,none⟩ (.int .i64 (c 2))).setCell ⟨P,k*4+3,none⟩ (.int .i64 (c 3))):=by
 have b:Only P w ((((w.setCell ⟨P,k*4,none⟩ (.int .i64 (c 0))).setCell ⟨P,k*4+1,none⟩ (.int .i64 (c 1))).setCell ⟨P,k*4+2,none⟩ (.int .i64 (c 2))).setCell ⟨P,k*4+3,none⟩ (.int .i64 (c 3))):=((((Only.refl _ _).setCell _ _).setCell _ _).setCell _ _).setCell _ _;refine⟨⟨h.blk.set4 (by rw[h.four];exact e) c,h.own.only b h.lt,h.lt,le_trans h.le b.size,by rw[length_set];exact h.four⟩,Aside.of_only b (.inr rfl) h.le fun f t g a=>?_⟩;have hb:w.heap[P]?=_:=h.blk;rw[hb]at a;injection a with a;injection a with _ h2;exact .inl h2.symm
theorem PastM.put{w x f:World}{P B g N cap k:Nat}{r:List (Nat->Nat)}{xs:List (Ev × Sp)}{gs:List Gp}{s':Sp}{p:Nat × Nat}(h:PastM w P B r (.slice (some ⟨g,0,none⟩) N cap) xs gs)(s:Below w.heap.size w x)(y:k<xs.length)(l:k<gs.length)
  (G:dc f B 242 2 fW (eL s') (gs[k].2++[p])) (m:Below B x f) (d:x.grownBy f (eL xs[k].2).ownBlock) (i:(eL s').ownBlock=(eL xs[k].2).ownBlock∨(eL s').ownBlock=some x.heap.size):
  PastM (f.setCell ⟨g,k*5+4,none⟩ (.slice s'.a s'.n s'.c)) P B r (.slice (some ⟨g,0,none⟩) N cap) (xs.set k (xs[k].1,s')) (gs.set k (gs[k].1,gs[k].2++[p]))/\Aside P B w (f.setCell ⟨g,k*5+4,none⟩ (.slice s'.a s'.n s'.c)) /\
   (f.cell? ⟨g,k*5+4,none⟩).isSome=true/\f.frozen? ⟨g,k*5+4,none⟩=false:=by
 have j:=h.later s
 obtain⟨H,I,J⟩:=j.own.put y l G d (fun b hb=>by
  rcases i with e|e
  ·exact .inl (e.symm.trans hb)
  ·rw[e]at hb
   injection hb with hb
   exact .inr (by omega))
 have D:B<=g:=by
  rcases j.own.form with ⟨e,_⟩|⟨M,O,e,Q,_⟩
  ·cases e
  ·injection e with e;injection e with e;injection e with e;omega
 have v:f.ownsRow B 245 5 (.slice (some ⟨g,0,none⟩) N cap) xs.length (dA fZ xs):=World.ownsRow.kept j.own.outer d (mj j.own.outer (j.own.inner k y l) lE);have o:Only g f (f.setCell ⟨g,k*5+4,none⟩ (.slice s'.a s'.n s'.c)):=(Only.refl _ _).setCell _ _;have E:P≠g:=by have:=h.lt;omega
 have u:B<=f.heap.size:=le_trans j.le m.size;refine⟨⟨?_,H,h.lt,le_trans u o.size,h.four⟩,?_,I,J⟩
 ·have F:dm f P _ _:=(m.block P h.lt).trans j.blk
  exact(o.block P (dm.lt F) E).trans F
 ·refine((Aside.of_below s h.le).trans (Aside.of_grown m d fun q L r t z C=>?_)).trans (Aside.of_only o (.inl D) u fun r t z C=>?_)
  ·exact .inr (.inr (nr (j.own.inner k y l) L r t z C))
  ·exact .inr (.inl (nr v (q:=g) rfl r t z C))
theorem PastM.new{w o c:World}{P B:Nat}{k:List (Nat->Nat)}{v g:Value}{xs:List (Ev × Sp)}{gs:List Gp}{e:Ev}{s:Sp}{q:Nat}{p:Nat × Nat}(h:PastM w P B k v xs gs)(m:Below w.heap.size w o)
  (x:dc o B 242 2 fW (eL s) [p]) (r:(eL s).ownBlock=some q) (F:w.heap.size<=q)
  (C:dc c B 245 5 fZ g (xs++[(e,s)])) (d:Below B o c) (a:o.grownBy c v.ownBlock):
  PastM (c.setCell ⟨P,16,none⟩ g) P B k g (xs++[(e,s)]) (gs++[(e,[p])])/\Aside P B w (c.setCell ⟨P,16,none⟩ g):=by
 have l:=h.later m;have u:dc c B 242 2 fW (eL s) [p]:=World.ownsRow.kept x a (mj x l.own.outer (Ne.symm lE))
 have D:=l.own.more C a u (fun b hb i y E=>by
  rw[r]at hb;injection hb with hb;subst hb;have:=(World.ownsRow.lt (h.own.inner i y (by rw[<-h.own.len];exact y)) _ E).2
  omega)
 have f:Only P c (c.setCell ⟨P,16,none⟩ g):=(Only.refl _ _).setCell _ _;have n:B<=c.heap.size:=le_trans l.le d.size;have z:gI c P k v:=(d.block P h.lt).trans l.blk;refine⟨⟨z.put h.four g,D.only f h.lt,h.lt,le_trans n f.size,h.four⟩,?_⟩;refine((Aside.of_below m h.le).trans (Aside.of_grown d a fun q r k t A j=>?_)).trans (Aside.of_only f (.inr rfl) n fun G t A j=>?_)
 ·exact .inr (.inl (nr l.own.outer r k t A j))
 ·have hb:c.heap[P]?=_:=z
  rw[hb]at j;injection j with j;injection j with _ h2;exact .inl h2.symm
end
section
open Go.Proofs.Tryz Go.RowKit
def eN(r:Nat × Int):List Value:=[.int .i64 r.1,.int .i64 r.2]
theorem mv(r:Nat × Int):(eN r).length=2:=rfl
theorem wU(r:Nat × Int):∀v∈eN r,v.oneCell'=true:=by
 intro v a;simp[eN]at a
 rcases a with rfl|rfl <;> rfl
theorem zm:(prog.info? 137).map (fun i=>(i.zero,i.size,i.bytes))=some (some (.agg #[.int .i64 0,.int .i64 0]),2,16):=by kernel_rfl
end
section
open Go.Lib (hid)
open Go.Proofs.Tryz Go.RowKit Go.Shelf
attribute [local go_sem] Oper.semAt_some
def rI(ps:List (Nat × Nat))(q:Fin ps.length):Array Value:=#[.int .i64 (q.val:Int),.agg #[.int .i64 (ps[q.val].1:Nat),.int .i64 (ps[q.val].2:Nat)]]
def kO(n a:Nat)(A B:World):Prop:=Below n A B/\B.heap[a]?=A.heap[a]?
theorem yY{n a:Nat}{A B C:World}(h:kO n a A B)(k:kO n a B C):kO n a A C:=⟨h.1.trans k.1,k.2.trans h.2⟩
theorem kO.refl(n a:Nat)(A:World):kO n a A A:=⟨Below.refl _ _,rfl⟩
theorem M4(F:Fence)(n:Nat)(R:F.fn 185)(G:F.round=none)(hn:1<=n)(l Bs n₀:Nat)(a:Option Addr)(cap:Nat)(ps:List (Nat × Nat))(C:ps.length<=1000)
  (J N:List (Fin ps.length)->World->Prop)
  (S:∀c x W,J c W->c.length<ps.length->YieldAt F (n-1) prog l (rI ps x) W fun e m=>(e=.returned (.bool true)/\J (c++[x]) m/\kO n₀ Bs W m)∨(e=.returned (.bool false)/\N (c++[x]) m))
  (W:World) (r:dm W Bs 243 [.slice a ps.length cap]) (y:en W a 2 fW ps) (hb:0<ps.length->∀b o,a=some ⟨b,o,none⟩->b<n₀) (T:J [] W):
  CallsIn F n prog 185 #[.func (.yield l) #[] #[],.pointer (some ⟨Bs,0,none⟩)] W fun e m=>(∃v,e=.returned v) /\
   ((∃O,fD ps.length ps.length O/\J O m)∨(∃c,(∃k,k<=ps.length/\fD ps.length k c)/\N c m)):=by
 refine callsIn_of_wp func185 rfl R ?_ G;have A:=r.cell 0;simp only[List.getElem?_cons_zero]at A;simp only[ntmps185,List.size_toArray,List.length_cons,List.length_nil,Nat.reduceAdd,Nat.reduceSub,Array.replicate_succ,Array.replicate_zero,List.push_toArray,List.append_toArray,List.nil_append,List.cons_append]
 gi_wp2
 gi_loopw [3] (fun i wr=>∃(k:Nat) (z:Int) (c:List (Fin ps.length)),k<=ps.length/\i=.int .i64 z/\Hid (z=(ps.length:Int)-1-k)/\Hid (fD ps.length k c)/\J c wr/\kO n₀ Bs W wr) (fun i _=>(intOf i+1).toNat)
 case atStart=>exact⟨0,_,[],Nat.zero_le _,rfl,(by show _=_;omega),A7 _,T,kO.refl _ _ _⟩
 case round=>
  obtain⟨k,z,c,hk,rfl,P,D,s,f⟩:=hrel;have H:=dm.cell (f.2.trans r:dm wr Bs 243 _) 0;simp only[List.getElem?_cons_zero]at H
  by_cases t:k<ps.length
  ·obtain⟨b,o,rfl,d⟩:=y.2 (by intro e;simp[e]at t)
   have I:=hb (by omega) b o rfl
   obtain⟨q,E⟩:∃q:Nat,q=ps.length-1-k:=⟨_,rfl⟩
   obtain rfl:z=(q:Int):=by have:=P.out;omega
   have g:q<ps.length:=by omega
   have h:∀j u,(fW ps[q])[j]?=some u->wr.cell? ⟨b,o+q*2+j,none⟩=some u:=fun j u U=>(f.1.cell (p:=⟨b,o+q*2+j,none⟩) I).trans (d q g j u U)
   have V:=h 0 _ rfl;have c1:=h 1 _ rfl;rw[Nat.add_zero]at V;obtain⟨fn,Q,assign,body,X,Y⟩:=S c ⟨q,g⟩ wr s (by rw[D.out.len];exact t);dsimp only[rI]at X;have Z:=hid E;have w:Hid (fD ps.length (k+1) (c++[⟨q,g⟩])):=D.out.snoc E;clear h d E
   gi_wp2
   refine Y.mono ?_;rintro e W3 (⟨rfl,L,M⟩|⟨rfl,B⟩)
   ·gi_wp2
    go_roundw
    case rel=>exact⟨k+1,(q:Int)-1,_,by omega,by go_num,(by show _=_;have:=Z.out;omega),w,L,yY f M⟩
    case measure=>simp[intOf]
   ·gi_wp2
    refine bodyPost_ret (results_none rfl _ _ _) rfl ?_;exact⟨⟨_,rfl⟩,.inr ⟨_,⟨k+1,by omega,w.out⟩,B⟩⟩
  ·obtain rfl:k=ps.length:=by omega
   obtain rfl:z=-1:=by have:=P.out;omega
   gi_wp2
   go_end0
   exact⟨⟨_,rfl⟩,.inl ⟨_,D.out,s⟩⟩
theorem M3(F:Fence)(n:Nat)(d:F.fn 159)(c:F.round=none)(a:Option Addr)(b cap:Nat)(w:World):
  CallsIn F n prog 159 #[.slice a b cap] w fun e f=>e=.returned (.func (.func 185) #[] #[.pointer (some ⟨w.heap.size,0,none⟩)])/\f=w.alloc (.cells #[.slice a b cap] 243):=by
 refine callsIn_of_wp func159 rfl d ?_ c;simp only[ntmps159,List.size_toArray,List.length_cons,List.length_nil,Nat.reduceAdd,Nat.reduceSub,Array.replicate_succ,Array.replicate_zero,List.push_toArray,List.append_toArray,List.nil_append,List.cons_append]
 gi_wp2
 go_ret;exact⟨rfl,rfl⟩
theorem MZ(F:Fence)(n:Nat)(h:F.fn 185)(e:F.round=none)(i:1<=n)(Bs n₀:Nat)(a:Option Addr)(cap:Nat)(ps:List (Nat × Nat))(c:ps.length<=1000)(w:World)
  (j:dm w Bs 243 [.slice a ps.length cap]) (d:en w a 2 fW ps) (hb:0<ps.length->∀b o,a=some ⟨b,o,none⟩->b<n₀):
  SeqStopsK F n prog 185 #[.pointer (some ⟨Bs,0,none⟩)] (rI ps) (kO n₀ Bs) (fun m=>fD ps.length ps.length m) (fun f=>∃k,k<=ps.length/\fD ps.length k f) ps.length w:=fun l J p W g _ _ q r=>
 M4 F n h e i l Bs n₀ a cap ps c J p q W (j.later g) (d.later g) hb r
end
end Go.Proofs.YtjfmmnhcddckaaaGreat
