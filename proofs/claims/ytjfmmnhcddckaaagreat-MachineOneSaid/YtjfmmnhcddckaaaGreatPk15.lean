import Derived.Test.YtjfmmnhcddckaaaGreatPk13
import Derived.Test.YtjfmmnhcddckaaaGreatPk14
set_option maxRecDepth 100000
set_option maxHeartbeats 8000000
namespace Go.Proofs.YtjfmmnhcddckaaaGreat
section
open Go.Lib (hid)
open Go.Proofs.Tryz Go.RowKit
open List (length_append length_take take_length take_succ_eq_append_getElem)
open Nat (le_trans zero_le)
theorem OwnLv.keptBy{w w':World}{B B' g j:Nat}{b:TypeId}{v c:Value}{ss:List Sl}{m:List (List Ev)}{xs:List Value}(h:OwnLv w B v ss m)(d:w.ownsRow B' b g c j xs)(h1:95≠b)(h2:112≠b)(e:w.grownBy w' c.ownBlock):OwnLv w' B v ss m:=
 ⟨h.len,World.ownsRow.kept h.outer e (mn h.outer d h1),fun i f=>World.ownsRow.kept (h.inner i f) e (mn (h.inner i f) d h2),h.apart⟩
def dP(l:List Ev)(k:Nat):List Int:=(List.range k).map fun i=>(iH l i:Int)
theorem mQ(l:List Ev)(k:Nat):(dP l k).length=k:=by simp[dP]
theorem M9(l:List Ev)(k:Nat):dP l (k+1)=dP l k++[(iH l k:Int)]:=by simp[dP,List.range_succ]
theorem M'(l:List Ev)(k:Nat){i:Nat}(h:i<(dP l k).length):(dP l k)[i]=iH l i:=by simp[dP]
theorem tY:95≠3:=by decide
theorem JO:112≠3:=by decide
def jQ(e:Ev)(L:List Ev)(j:Nat)(d:Bool)(R:List Ev):Prop:=
 (d=false/\R=L.take j/\dO e L=L.take j++dO e (L.drop j))∨(d=true/\dO e L=R++L.drop j)
theorem JU(e:Ev)(L:List Ev):jQ e L 0 false []:=.inl ⟨rfl,rfl,rfl⟩
theorem JW{e:Ev}{L:List Ev}{j:Nat}{R:List Ev}(h:jQ e L j false R)(b:j<L.length)(a:e.thread<(dd L j).thread):jQ e L (j+1) true (R++[e]++[dd L j]):=by
 rcases h with ⟨_,c,d⟩|⟨f,_⟩
 ·right
  refine⟨rfl,?_⟩;rw[d,List.drop_eq_getElem_cons b,<-gt b,jL _ a,c];simp
 ·cases f
theorem JX{e:Ev}{L:List Ev}{j:Nat}{R:List Ev}(h:jQ e L j false R)(a:j<L.length)(b:¬e.thread<(dd L j).thread):jQ e L (j+1) false (R++[dd L j]):=by
 rcases h with ⟨_,c,d⟩|⟨f,_⟩
 ·left
  have g:R++[dd L j]=L.take (j+1):=by rw[c,take_succ_eq_append_getElem a,gt a]
  refine⟨rfl,g,?_⟩;rw[d,List.drop_eq_getElem_cons a,<-gt a,jd _ b,take_succ_eq_append_getElem a,<-gt a];simp
 ·cases f
theorem JV{e:Ev}{L:List Ev}{j:Nat}{R:List Ev}(h:jQ e L j true R)(a:j<L.length):jQ e L (j+1) true (R++[dd L j]):=by
 rcases h with ⟨b,_⟩|⟨_,c⟩
 ·cases b
 ·right
  refine⟨rfl,?_⟩;rw[c,List.drop_eq_getElem_cons a,gt a];simp
theorem JY{e:Ev}{L R:List Ev}{d:Bool}(h:jQ e L L.length d R):(d=false->R++[e]=dO e L)/\(d=true->R=dO e L):=by
 rcases h with ⟨a,b,c⟩|⟨a,b⟩
 ·subst a
  refine⟨fun _=>?_,fun h=>(by cases h)⟩;rw[c,b,List.drop_length,take_length];rfl
 ·subst a
  refine⟨fun h=>(by cases h),fun _=>?_⟩;rw[b,List.drop_length,List.append_nil]
theorem wM(a:Option Addr)(cap:Nat)(l:List Ev)(w:World)(hl:ei w a l):
  Calls prog 98 #[.slice a l.length cap] w (Bu w.heap.size w (ed l)):=by
 have hm:=hl.1;unfold maxLen at hm;have HL:=hid hl;have H:=hid (sC a cap l w hl);clear hl
 cases hr:dJ l
 ·have HE:Hid (ed l=[]):=by show _=_;unfold ed eQ;rw[hr];simp
  rw[hr]at H;clear hr;go_enter func98,ntmps98;go_wp2_with fail;refine H.out.mono ?_;rintro r w1⟨rfl,P⟩;clear H;go_wp2;go_ret;exact⟨_,[],rfl,by rw[HE.out];exact oS _ _,P⟩
 rw[hr]at H
 by_cases ao:l.length<=200
 case neg=>
  have HE:Hid (ed l=[]):=by
   have h:decide (l.length<=200)=false:=by simp;omega
   show _=_;unfold ed eQ;rw[h];simp
  have hq:decide ((200:Int)<(l.length:Int))=true:=by simp;omega
  have aE:200<l.length:=by omega
  clear hr ao;go_enter func98,ntmps98;go_wp2_with fail;refine H.out.mono ?_;rintro r w1⟨rfl,P⟩;clear H;go_wp2;go_ret;exact⟨_,[],rfl,by rw[HE.out];exact oS _ _,P⟩
 have HE:Hid (ed l=dU l):=by show _=_;unfold ed eQ;rw[hr];simp[ao]
 have hq:decide ((200:Int)<(l.length:Int))=false:=by simp;omega
 have aE:¬ 200<l.length:=by omega
 clear hr;go_enter func98,ntmps98;go_wp2_with fail;refine H.out.mono ?_;rintro r w1⟨rfl,P⟩;clear H;go_wp2_with fail;clear hq aE
 go_loopw [3,4,5] (fun v3 v4 i wr=>∃(k:Nat) (ss:List Sl) (a3:Option Addr) (c3:Nat) (a4:Option Addr) (c4:Nat),k<=l.length/\i=.int .i64 k/\v3=.slice a3 k c3/\v4=.slice a4 (dU (l.take k)).length c4/\Hid (dC wr w.heap.size v3 (dP l k))/\Hid (OwnLv wr w.heap.size v4 ss (dU (l.take k)))/\Hid (Below w.heap.size w wr)) (fun _ _ i _=>l.length-(intOf i).toNat)
 case atStart=>exact⟨0,[],none,0,none,0,zero_le _,rfl,rfl,rfl,oR _ _,oS _ _,P⟩
 case round=>
  clear P;obtain⟨k,ss,a3,c3,a4,c4,hk,rfl,rfl,rfl,HN,HV,HB⟩:=hrel
  by_cases aF:k<l.length
  ·obtain⟨b,o,rfl,t0,t1,t2,t3⟩:=HL.out.one aF
   have HT:=hid (yD l aF);have bB:(dU (l.take k)).length<=k:=by have:=oZ (l.take k);rw[length_take]at this;omega
   have HS:Hid (∀i,((dU (l.take k)).getD i []).length<=200):=fun i=>by have:=qR (l.take k) i;rw[length_take]at this;omega
   have aG:=hid (Ip l (dd l k) hk);have aH:Hid (iH l k=dN (dU (l.take k)) (dd l k)):=rfl;have aI:Hid (∀j,ja l (dd l k) (j+1)=if dj (dd l j) (dd l k)then max (ja l (dd l k) j) (iH l j+1)else ja l (dd l k) j):=fun j=>Io l _ j
   have aJ:Hid (∀j,j<=k->ja l (dd l k) j<=201):=fun j hj=>nh fun i hi _=>by have:=Ba l (show i<l.length by omega);show iH l i+1<=201;omega
   have a2:Hid (∀j,j<l.length->iH l j<=200):=fun j hj=>by have:=Ba l hj;omega
   have HZ:Hid (ja l (dd l k) 0=0):=rfl;obtain⟨bC,bD,Q,U,_⟩:=dC.form HN.out (by rw[mQ];omega);rw[mQ]at Q;injection Q with Q _ hc3;subst Q hc3;have aK:=hid U;have I:=hid (And.intro t0 (And.intro t1 (And.intro t2 t3)));have aL:=lR (dU (l.take k)) (dd l k);clear t0 t1 t2 t3 U;generalize dU (l.take k)=m at *;generalize aM:dd l k=e at *;have bE:=hid aM;clear aM;go_wp2_with fail
   go_loopw [6,7] (fun s6 i a5=>∃(j N:Nat),j<=k/\i=.int .i64 j/\s6=.int .i64 (N:Int)/\Hid (N=ja l e j)/\Hid (Below wr.heap.size wr a5)) (fun _ i _=>k-(intOf i).toNat)
   case atStart=>exact⟨0,0,zero_le _,rfl,rfl,HZ.out.symm,Below.refl _ _⟩
   case round=>
    obtain⟨j,N,hj,rfl,rfl,V,F⟩:=hrel;have X:=hid (HB.out.trans (F.out.mono HB.out.size))
    by_cases a6:j<k
    ·obtain⟨b9,o9,e9,x0,x1,x2,x3⟩:=HL.out.one (show j<l.length by omega)
     injection e9 with e9;injection e9 with e9 e10;subst e9 e10;have a7:(j:Int)<(l.length:Int):=by omega
     have aZ:(0:Int)<=j:=by omega
     have bF:(k:Int)<(l.length:Int):=by omega
     have bw:(j:Int)<(k:Int):=by omega
     have bG:N<=201:=by rw[V.out];exact aJ.out j (by omega)
     have bH:=a2.out j (by omega);have aN:=hid (aI.out j);obtain⟨b3,o3,rfl,U⟩:=aK.out.2 (by intro h;have:=mQ l k;rw[h]at this;simp at this;omega);have q3:=de F.out (U j (by rw[mQ];exact a6));rw[M']at q3;clear U;generalize iH l j=A at *;generalize dd l j=x at *
     have HQ:Hid (∀W,Below wr.heap.size wr W->(W.cell? ⟨b,o+j*4,none⟩=some (.int .i64 x.thread)/\W.cell? ⟨b,o+j*4+1,none⟩=some (.int .i64 x.kind)/\W.cell? ⟨b,o+j*4+2,none⟩=some (.int .i64 x.obj)/\W.cell? ⟨b,o+j*4+3,none⟩=some (.bool x.fail))/\(W.cell? ⟨b,o+k*4,none⟩=some (.int .i64 e.thread)/\W.cell? ⟨b,o+k*4+1,none⟩=some (.int .i64 e.kind)/\W.cell? ⟨b,o+k*4+2,none⟩=some (.int .i64 e.obj)/\W.cell? ⟨b,o+k*4+3,none⟩=some (.bool e.fail))/\W.cell? ⟨b3,o3+j,none⟩=some (.int .i64 (A:Int))):=fun W G=>by
      have h:=X.out.trans (G.mono X.out.size);exact⟨⟨de h x0,de h x1,de h x2,de h x3⟩,⟨de h I.out.1,de h I.out.2.1,de h I.out.2.2.1,de h I.out.2.2.2⟩,de G q3⟩
     have aj:Below wr.heap.size wr wr.drew:=(Below.refl _ _).drew;clear x0 x1 x2 x3 q3;go_wp2_with fail
     go_region_held3 (fun W=>(W.cell? ⟨b,o+j*4,none⟩=some (.int .i64 x.thread)/\W.cell? ⟨b,o+j*4+1,none⟩=some (.int .i64 x.kind)/\W.cell? ⟨b,o+j*4+2,none⟩=some (.int .i64 x.obj)/\W.cell? ⟨b,o+j*4+3,none⟩=some (.bool x.fail))/\(W.cell? ⟨b,o+k*4,none⟩=some (.int .i64 e.thread)/\W.cell? ⟨b,o+k*4+1,none⟩=some (.int .i64 e.kind)/\W.cell? ⟨b,o+k*4+2,none⟩=some (.int .i64 e.obj)/\W.cell? ⟨b,o+k*4+3,none⟩=some (.bool e.fail))/\W.cell? ⟨b3,o3+j,none⟩=some (.int .i64 (A:Int))) (first|exact HQ.out _ aj|exact HQ.out _ af)
      (first|(go_at_call 154;((with_reducible refine(Fb x e _).mono ?_);rintro r bI⟨rfl,a0⟩;have af:=aj.trans (a0.mono aj.size);clear aj)))
     have ap:=hid (F.out.trans (af.mono F.out.size));have q4:=(HQ.out _ af).2.2
     cases hd:dj x e
     ·have Y:Hid (N=ja l e (j+1)):=by have h:=aN.out;rw[hd]at h;show _=_;rw[V.out,h];rfl
      clear hd;go_wp2
      go_roundw
      case rel=>exact⟨j+1,N,by omega,by go_num,rfl,Y.out,ap.out⟩
      case measure=>simp[intOf];omega
     ·have Y:Hid (max N (A+1)=ja l e (j+1)):=by have h:=aN.out;rw[hd]at h;show _=_;rw[h,V.out];rfl
      have bJ:IntKind.i64.wrap ((A:Int)+1)=(A:Int)+1:=IntWalk.i64_in _ (by omega);clear hd;go_wp2
      go_roundw
      case rel=>exact⟨j+1,max N (A+1),by omega,by go_num,by congr 1;omega,Y.out,ap.out⟩
      case measure=>simp[intOf];omega
    ·obtain rfl:j=k:=by omega
     have av:=hid (HN.out.later F.out);have aO:=hid (HV.out.later F.out);have a8:=X.out.size;have ba:(dP l j).length=j:=mQ l j;have aP:Hid (N=dN m e):=by show _=_;rw[V.out];exact aG.out
     have bb:dN m e<=m.length:=aL;rw[<-aP.out]at aH bb;clear aG aI aJ HZ aK HN HV V aL
     go_upto_if 53 with (at_builtin;refine p6 rfl _ _ rfl w.heap.size _ (dP l j) rfl (av.out.alloc _) ⟨wr.heap.size,0,none⟩ 1 1 rfl [(N:Int)] rfl (qG wr [(N:Int)] _ _ rfl) (by rw[ba];omega) (by simp;omega) ?_;intro v9 J h9 t aQ;have B:Hid (OwnLv J w.heap.size (.slice a4 m.length c4) ss m):=OwnLv.keptBy (aO.out.later (da wr _)) (av.out.alloc _) tY JO aQ;have Z:Hid (dC J w.heap.size v9 (dP l (j+1))):=(by show dC _ _ _ _;rw[M9,aH.out];exact h9);have z:Hid (Below w.heap.size w J):=(X.out.trans ((da wr _).mono a8)).trans t;clear h9 t aQ)
     obtain⟨a9,c9,aR,_,_⟩:=dC.form Z.out (by rw[mQ];omega);rw[mQ]at aR;subst aR;clear av aO X HB F
     go_cut [4] (fun s4 wx=>∃(g M E:Nat) (C:List Sl),s4=.slice (some ⟨g,0,none⟩) M E/\N<M/\M<=300/\Hid (M=(ix m N).length/\OwnLv wx w.heap.size s4 C (ix m N))/\Hid (dC wx w.heap.size (.slice a9 (j+1) c9) (dP l (j+1)))/\Hid (Below w.heap.size w wx))
     case first=>
      by_cases ak:N<m.length
      ·have hq:((N:Int)==(m.length:Int))=false:=by simp;omega
       have aa:Hid (ix m N=m):=by show _=_;unfold ix;rw[if_pos ak]
       obtain⟨g,ag,hv,_,_⟩:=dc.block B.out.outer (by intro h;have:=B.out.len;rw[h]at this;simp at this;omega);injection hv with hv1 hv2 Q;subst hv1;clear hv2 Q;go_wp2_with fail
       go_meet
       exact⟨g,m.length,c4,ss,rfl,ak,by omega,⟨by rw[aa.out],by rw[aa.out];exact B.out⟩,Z.out,z.out⟩
      ·have aq:N=m.length:=by omega
       have hq:((N:Int)==(m.length:Int))=true:=by simp;omega
       have aa:Hid (ix m N=m++[[]]):=by show _=_;unfold ix;rw[if_neg ak]
       have Y:=hid aq;have bc:w.heap.size<=J.heap.size:=z.out.size;have bK:ss.length<=1000:=by have:=B.out.len;omega
       clear ak aq
       go_wp2_with (at_builtin;refine iU (f:=ia) (n:=1) 178 95 24 (.slice none 0 0) underlying178 zl rfl (by omega) (by omega) oD rfl _ _ rfl w.heap.size _ ss rfl (B.out.outer.alloc _) ⟨J.heap.size,0,none⟩ rfl ⟨none,0,0⟩ (wn _) (gw J (ia ⟨none,0,0⟩) _ _ rfl) (by omega) (by simp;omega) ?_;intro v' w' h1 h2 h3;obtain⟨g,ag,hv,_,_⟩:=dc.block h1 (by simp);rw[length_append,List.length_singleton]at hv;subst hv)
       go_meet
       have bd:Below w.heap.size J w':=(da J _).mono bc |>.trans h2;have be:OwnLv w' w.heap.size (.slice (some ⟨g,0,none⟩) (ss.length+1) ag) (ss++[⟨none,0,0⟩]) (m++[[]]):=OwnLv.more (B.out.later (da J _)) h1 h3;have bf:dC w' w.heap.size (.slice a9 (j+1) c9) (dP l (j+1)):=World.ownsRow.kept (Z.out.alloc _) h3 (mn (Z.out.alloc (.cells #[.slice none 0 0] 95)) (B.out.outer.alloc _) (Ne.symm tY));exact⟨g,ss.length+1,ag,_,rfl,by have:=B.out.len;have:=Y.out;omega,by have:=B.out.len;omega,⟨by rw[aa.out];simp[B.out.len],by rw[aa.out];exact be⟩,bf,z.out.trans bd⟩
     case rest=>
      obtain⟨g,M,E,C,rfl,aS,bv,T,aT,al⟩:=hcut;clear B Z z;have aw:N<C.length:=by rw[T.out.2.len,<-T.out.1];exact aS
      have x0:=OwnLv.cell T.out.2 T.out.1 aw;have am:=T.out.2.inner N aw;rw[rj]at am;have bg:=HS.out N
      obtain⟨L,hL⟩:∃L,L=m.getD N []:=⟨_,rfl⟩
      rw[<-hL]at am bg;obtain⟨ax,aU,_,_⟩:=dr.sl am (by omega);rw[ax]at x0;have bh:=hid aU;have bi:=hid hL;have bM:=hid ax;clear am ax aU hL;have aV:∀W,Below wc.heap.size wc W->W.cell? ⟨g,N,none⟩=some (.slice C[N].a L.length C[N].c):=fun W G=>de G x0
      have ay:=hid aV;have bN:(N:Int)<(M:Int):=by omega
      have bx:(0:Int)<=N:=by omega
      have a7:(j:Int)<(l.length:Int):=by omega
      have aZ:(0:Int)<=j:=by omega
      have aW:Hid (∀W,Below wc.heap.size wc W->W.cell? ⟨b,o+j*4,none⟩=some (.int .i64 e.thread)/\W.cell? ⟨b,o+j*4+1,none⟩=some (.int .i64 e.kind)/\W.cell? ⟨b,o+j*4+2,none⟩=some (.int .i64 e.obj)/\W.cell? ⟨b,o+j*4+3,none⟩=some (.bool e.fail)):=fun W G=>by
       have h:=al.out.trans (G.mono al.out.size);exact⟨de h I.out.1,de h I.out.2.1,de h I.out.2.2.1,de h I.out.2.2.2⟩
      clear aV x0;go_wp2_with fail
      go_loopw [8,9,10] (fun s8 s9 i wr=>∃(q:Nat) (d:Bool) (R:List Ev),q<=L.length/\i=.int .i64 q/\s9=.bool d/\R.length<=q+1/\Hid (jQ e L q d R)/\Hid (dr wr wc.heap.size s8 R)/\Hid (Below wc.heap.size wc wr)) (fun _ _ i _=>L.length-(intOf i).toNat)
      case atStart=>exact⟨0,false,[],zero_le _,rfl,rfl,by simp,JU e L,qF _ _,Below.refl _ _⟩
      case round=>
       obtain⟨q,d,R,hq,rfl,rfl,bO,HI,HO,u⟩:=hrel;have g0:=ay.out _ u.out;have bP:=u.out.size
       by_cases an:q<L.length
       ·obtain⟨bL,oL,az,y0,y1,y2,y3⟩:=bh.out.one an
        rw[az]at g0;have z0:=de u.out y0;have z1:=de u.out y1;have z2:=de u.out y2;have z3:=de u.out y3;obtain⟨e0,e1,e2,e3⟩:=aW.out _ u.out;have bQ:(q:Int)<(L.length:Int):=by omega
        have bz:(0:Int)<=q:=by omega
        have bj:Hid (d=false->e.thread<(dd L q).thread->jQ e L (q+1) true (R++[e]++[dd L q])):=fun hd h=>by subst hd;exact JW HI.out an h
        have bk:Hid (d=false->¬e.thread<(dd L q).thread->jQ e L (q+1) false (R++[dd L q])):=fun hd h=>by subst hd;exact JX HI.out an h
        have bl:Hid (d=true->jQ e L (q+1) true (R++[dd L q])):=fun hd=>by subst hd;exact JV HI.out an
        have S:Hid (∀n,dr (wr.drewN n) wc.heap.size u8 R/\Below wc.heap.size wc (wr.drewN n)):=fun n=>⟨HO.out,u.out.drewN⟩
        have a1:Hid (∀W,Below wc.heap.size wc W->W.cell? ⟨g,N,none⟩=some (.slice (some ⟨bL,oL,none⟩) L.length C[N].c)/\W.cell? ⟨bL,oL+q*4,none⟩=some (.int .i64 (dd L q).thread)/\W.cell? ⟨bL,oL+q*4+1,none⟩=some (.int .i64 (dd L q).kind)/\W.cell? ⟨bL,oL+q*4+2,none⟩=some (.int .i64 (dd L q).obj)/\W.cell? ⟨bL,oL+q*4+3,none⟩=some (.bool (dd L q).fail)):=fun W G=>⟨by have h:=ay.out _ G;rw[az]at h;exact h,de G y0,de G y1,de G y2,de G y3⟩
        clear y0 y1 y2 y3 az;generalize dd L q=y at *
        cases d
        ·by_cases ab:e.thread<y.thread
         ·have bm:decide (e.thread<y.thread)=true:=by simp[ab]
          have ac:=hid (bj.out rfl ab)
          have bn:R.length<=q:=by
           rcases HI.out with ⟨_,h,_⟩|⟨h,_⟩
           ·rw[h,length_take];omega
           ·cases h
          clear ab;go_wp2_with fail
          go_quiet (fail)
          have ad:=hid (S.out nq).1;have D:=hid (S.out nq).2
          go_wp2_with (first
           |(at_builtin;refine m8 rfl _ _ rfl _ _ (R++[e]) rfl (ae.out.alloc _) ⟨J.heap.size,0,none⟩ rfl y (nU J y _ _ rfl) (by simp;omega) (le_trans z.out.size (da _ _).size) ?_;intro v2 w2 ai aX;have bo:=hid ai;have F:=hid ((z.out.alloc z.out.size _).trans aX);clear ai aX)
           |(at_builtin;refine m8 rfl _ _ rfl _ _ R rfl (ad.out.alloc _) ⟨wr.heap.size,0,none⟩ rfl e (nU (wr.drewN nq) e _ _ rfl) (by omega) (le_trans D.out.size (da _ _).size) ?_;intro v9 J s t;have ae:=hid s;have z:=hid ((D.out.alloc D.out.size _).trans t);obtain⟨p0,p1,p2,p3,p4⟩:=a1.out _ z.out;clear s t))
          go_roundw
          case rel=>exact⟨q+1,true,R++[e]++[y],by omega,by go_num,rfl,by simp;omega,ac.out,bo.out,F.out⟩
          case measure=>simp[intOf];omega
         ·have bm:decide (e.thread<y.thread)=false:=by simp;omega
          have ac:=hid (bk.out rfl ab)
          have bn:R.length<=q:=by
           rcases HI.out with ⟨_,h,_⟩|⟨h,_⟩
           ·rw[h,length_take];omega
           ·cases h
          clear ab;go_wp2_with fail
          go_quiet (fail)
          have ad:=hid (S.out nq).1;have D:=hid (S.out nq).2
          go_wp2_with (at_builtin;refine m8 rfl _ _ rfl _ _ R rfl (ad.out.alloc _) ⟨wr.heap.size,0,none⟩ rfl y (nU (wr.drewN nq) y _ _ rfl) (by omega) (le_trans D.out.size (da _ _).size) ?_;intro v9 J s t;have ae:=hid s;have z:=hid ((D.out.alloc D.out.size _).trans t);clear s t)
          go_roundw
          case rel=>exact⟨q+1,false,R++[y],by omega,by go_num,rfl,by simp;omega,ac.out,ae.out,z.out⟩
          case measure=>simp[intOf];omega
        ·have ac:=hid (bl.out rfl)
         go_wp2_with fail
         go_quiet (fail)
         have ad:=hid (S.out nq).1;have D:=hid (S.out nq).2
         go_wp2_with (at_builtin;refine m8 rfl _ _ rfl _ _ R rfl (ad.out.alloc _) ⟨wr.heap.size,0,none⟩ rfl y (nU (wr.drewN nq) y _ _ rfl) (by omega) (le_trans D.out.size (da _ _).size) ?_;intro v9 J s t;have ae:=hid s;have z:=hid ((D.out.alloc D.out.size _).trans t);clear s t)
         go_roundw
         case rel=>exact⟨q+1,true,R++[y],by omega,by go_num,rfl,by simp;omega,ac.out,ae.out,z.out⟩
         case measure=>simp[intOf];omega
       ·obtain rfl:q=L.length:=by omega
        obtain⟨bp,bq⟩:=JY HI.out;have aC:=hid bp;have aD:=hid bq;have aY:w.heap.size<=wc.heap.size:=al.out.size;have ar:Hid (C.length=M):=by show _=_;rw[T.out.2.len,<-T.out.1]
        have au:Hid (∀(W:World) (v:Value),dr W wc.heap.size v (dO e L)->Below wc.heap.size wc W->∃s':Sl,v=.slice s'.a s'.n s'.c/\(∃aA,W.cell? ⟨g,N,none⟩=some aA)/\W.frozen? ⟨g,N,none⟩=false/\OwnLv (W.setCell ⟨g,N,none⟩ (.slice s'.a s'.n s'.c)) w.heap.size (.slice (some ⟨g,0,none⟩) M E) (C.set N s') (dU (l.take (j+1)))/\dC (W.setCell ⟨g,N,none⟩ (.slice s'.a s'.n s'.c)) w.heap.size (.slice a9 (j+1) c9) (dP l (j+1))/\Below w.heap.size w (W.setCell ⟨g,N,none⟩ (.slice s'.a s'.n s'.c))):=fun W v hv G=>by
         obtain⟨a',ah,br,_⟩:=dr.form hv (by rw[qX];omega);subst br;obtain⟨p1,p2,p3⟩:=OwnLv.put T.out.2 T.out.1 aS aw (s':=⟨a',(dO e L).length,ah⟩) (te hv aY) (uk G _) (fun b hb=>.inr (World.ownsRow.lt hv b hb).1);have bs:C.length=M:=by rw[T.out.2.len,<-T.out.1]
         have O:W.ownsRow w.heap.size 95 1 (.slice (some ⟨g,0,none⟩) M E) C.length (dA ia C):=T.out.2.outer.later G;rw[bs]at O;have bt:=O.stored N (.slice a' (dO e L).length ah);have bu:w.heap.size<=g:=(World.ownsRow.lt O g rfl).1;refine⟨⟨a',(dO e L).length,ah⟩,rfl,Option.isSome_iff_exists.1 p2,p3,?_,World.ownsRow.kept (aT.out.later G) bt.2 (mn (aT.out.later G) O (Ne.symm tY)),(al.out.trans (G.mono aY)).setCell (p:=⟨g,N,none⟩) bu _⟩;rw[HT.out,Bl,<-aP.out,rj,<-bi.out];exact p1
        cases d
        ·obtain⟨e0,e1,e2,e3⟩:=aW.out _ u.out
         have aB:=hid (aC.out rfl);have bA:R.length<=200+1:=by omega
         go_wp2_with (at_builtin;refine m8 rfl _ _ rfl _ _ R rfl (HO.out.alloc _) ⟨wr.heap.size,0,none⟩ rfl e (nU wr e _ _ rfl) (by omega) (le_trans u.out.size (da _ _).size) ?_;intro v9 J s t;rw[aB.out]at s;obtain⟨s9,rfl,⟨aA,q2⟩,q3,q4,q5,q6⟩:=au.out _ _ s ((u.out.alloc u.out.size _).trans t);have p0:=ay.out _ ((u.out.alloc u.out.size _).trans t);have Q4:=hid q4;have Q5:=hid q5;have Q6:=hid q6;clear s t q4 q5 q6)
         go_roundw
         case rel=>exact⟨j+1,_,a9,c9,_,E,by omega,by go_num,rfl,by rw[<-Q4.out.len,List.length_set,ar.out],Q5.out,Q4.out,Q6.out⟩
         case measure=>simp[intOf];omega
        ·have aB:=hid (aD.out rfl)
         have s:=HO.out;rw[aB.out]at s;obtain⟨s9,rfl,⟨aA,q2⟩,q3,q4,q5,q6⟩:=au.out _ _ s u.out;have Q4:=hid q4;have Q5:=hid q5;have Q6:=hid q6;clear s q4 q5 q6;go_wp2_with fail
         go_roundw
         case rel=>exact⟨j+1,_,a9,c9,_,E,by omega,by go_num,rfl,by rw[<-Q4.out.len,List.length_set,ar.out],Q5.out,Q4.out,Q6.out⟩
         case measure=>simp[intOf];omega
  ·obtain rfl:k=l.length:=by omega
   rw[take_length]at HV ⊢;clear HN;go_wp2;go_ret;exact⟨_,ss,rfl,by rw[HE.out];exact HV.out,HB.out⟩
theorem EQ(a:Option Addr)(cap:Nat)(m:List (List Ev))(w:World)(u:iT w a m)(J:m.length<=1000000)(h:m.flatten.length<=1000000):
  Calls prog 182 #[.slice a m.length cap] w (vb w m.flatten):=by
 have D:=hid u;have E:=hid h;clear u h;go_enter func182,ntmps182;go_wp2
 go_loopw [3,4] (fun s i wr=>∃k:Nat,k<=m.length/\i=.int .i64 k/\Hid (vb w (m.take k).flatten (.returned s) wr)) (fun _ i _=>m.length-(intOf i).toNat)
 case atStart=>exact⟨0,zero_le _,rfl,⟨_,rfl,qF _ _,Below.refl _ _⟩⟩
 case round=>
  obtain⟨k,L,rfl,F⟩:=hrel;obtain⟨s,j,v,hb⟩:=F.out;injection j with j;subst j;have l:=hid v
  by_cases d:k<m.length
  ·obtain⟨b,o,x,y,rfl,z,n,A⟩:=D.out.one d
   have M:=de hb z;have G:=hid (n.later hb);have B:=hid (K3 m d);have f:=zS m (k+1);have h:=E.out;rw[B.out,length_append]at f
   have g:x=none->y=0/\m.getD k []=[]:=fun e=>⟨A e,by subst e;exact Lr n⟩
   have p:=hid g;have q:=hb.size;have c:(m.take k).flatten.length+(m.getD k []).length<=1000000:=by omega
   clear f g n A z v h;generalize m.getD k []=r at *
   go_wp2_with (at_builtin;refine BK rfl _ _ rfl w.heap.size _ _ rfl l.out x y r rfl G.out p.out c q ?_;intro H N C I;have t:=hid C;clear C)
   go_roundw
   case rel=>exact⟨k+1,by omega,by go_num,by rw[B.out];exact⟨H,rfl,t.out,hb.trans I⟩⟩
   case measure=>simp[intOf];omega
  ·obtain rfl:k=m.length:=by omega
   rw[take_length]at l;go_wp2;go_ret;exact⟨_,rfl,l.out,hb⟩
theorem E6(a S:Option Addr)(cap L:Nat)(m m':List (List Ev))(w:World)(T:iT w a m)(B:iT w S m')(hm:m.length<=1000000)(ad:m'.length<=1000000)(U:∀i,(m.getD i []).length<=1000000)(C:∀i,(m'.getD i []).length<=1000000):
  Calls prog 183 #[.slice a m.length cap,.slice S m'.length L] w fun r w'=>r=.returned (.bool (decide (m=m')))/\Below w.heap.size w w':=by
 have HL:=hid T;have N:=hid B;have M:=hid U;have O:=hid C;clear T B U C
 by_cases f:m.length=m'.length
 case neg=>
  have A:((m.length:Int) != m'.length)=true:=by simp;omega
  have H:Hid (decide (m=m')=false):=by show _=_;simp;intro e;exact f (by rw[e])
  clear f;go_enter func183,ntmps183;go_wp2;go_ret;exact⟨dE H.out.symm,Below.refl _ _⟩
 have HE:=hid f;have A:((m.length:Int) != m'.length)=false:=by simp[f]
 have ae:m.length<=m'.length:=by omega
 have af:m'.length<=m.length:=by omega
 clear f;go_enter func183,ntmps183;go_wp2;clear A
 go_loopw [5] (fun i wr=>∃k:Nat,k<=m.length/\i=.int .i64 k/\Hid (m.take k=m'.take k)/\Hid (Below w.heap.size w wr)) (fun i _=>m.length-(intOf i).toNat)
 case atStart=>exact⟨0,zero_le _,rfl,rfl,Below.refl _ _⟩
 case round=>
  obtain⟨k,hk,rfl,V,t⟩:=hrel
  by_cases D:k<m.length
  ·have u:k<m'.length:=by omega
   obtain⟨b,o,sa,sc,rfl,t0,q,_⟩:=HL.out.one D;obtain⟨b',o',ag,ah,rfl,E,F,_⟩:=N.out.one u;have W:=de t.out t0;have G:=de t.out E;have P:=hid (q.later t.out);have Q:=hid (F.later t.out);have y:Hid (m.getD k []=m'.getD k []->m.take (k+1)=m'.take (k+1)):=fun h=>CS D u V.out h
   have s:Hid (m.getD k []≠m'.getD k []->decide (m=m')=false):=fun h=>by simp;rintro rfl;exact h rfl
   have ai:=M.out k;have aa:=O.out k;clear t0 E q F;generalize m.getD k []=x at *;generalize m'.getD k []=d at *
   by_cases g:x.length=d.length
   case neg=>
    have A:((x.length:Int) != d.length)=true:=by simp;omega
    have v:=hid (s.out (fun e=>g (by rw[e])));clear g y s;go_wp2_with fail
    go_quiet (fail)
    go_wp2;go_ret;exact⟨dE v.out.symm,t.out.drewN⟩
   have A:((x.length:Int) != d.length)=false:=by simp[g]
   have ab:x.length<=d.length:=by omega
   have ac:d.length<=x.length:=by omega
   have R:=hid g;clear g;go_wp2_with fail
   go_quiet (fail)
   go_wp2_with fail
   clear A
   go_loopw [6] (fun i w2=>∃j:Nat,j<=x.length/\i=.int .i64 j/\Hid (x.take j=d.take j)/\Hid (Below wr.heap.size wr w2)) (fun i _=>x.length-(intOf i).toNat)
   case atStart=>exact⟨0,zero_le _,rfl,rfl,(Below.refl _ _).drewN⟩
   case round=>
    obtain⟨j,hj,rfl,X,c⟩:=hrel;have d0:=de c.out W;have aj:=de c.out G;have I:=hid (t.out.trans (c.out.mono t.out.size));clear W G
    by_cases z:j<x.length
    ·have n:j<d.length:=by omega
     obtain⟨xb,xo,rfl,Y,Z,x2,x3⟩:=P.out.one z;obtain⟨yb,yo,rfl,y0,y1,y2,y3⟩:=Q.out.one n;have e0:=de c.out Y;have e1:=de c.out Z;have e2:=de c.out x2;have e3:=de c.out x3;have f0:=de c.out y0;have f1:=de c.out y1;have f2:=de c.out y2;have f3:=de c.out y3;clear Y Z x2 x3 y0 y1 y2 y3;have J:=sA (dd x j) (dd d j)
     by_cases q:dd x j=dd d j
     ·have l:decide (dd x j=dd d j)=true:=by simp[q]
      rw[l]at J
      have v:Hid (x.take (j+1)=d.take (j+1)):=by
       show _=_;rw[take_succ_eq_append_getElem z,take_succ_eq_append_getElem n,X.out,<-gt z,<-gt n,q]
      clear q l;generalize dd x j=p at *;generalize dd d j=p' at *;go_wp2_with fail
      go_quiet (fail)
      go_wp2
      go_roundw
      case rel=>exact⟨j+1,by omega,by go_num,v,c.out.drewN⟩
      case measure=>simp[intOf];omega
     ·have l:decide (dd x j=dd d j)=false:=by simpa using q
      rw[l]at J;have v:Hid (decide (m=m')=false):=s.out (fun e=>q (by rw[e]));clear q l;generalize dd x j=p at *;generalize dd d j=p' at *;go_wp2_with fail
      go_quiet (fail)
      go_wp2;go_ret;exact⟨dE v.out.symm,I.out.drewN⟩
    ·obtain rfl:j=x.length:=by omega
     have v:Hid (m.take (k+1)=m'.take (k+1)):=by
      have h:=X.out;rw[take_length,R.out,take_length]at h;exact y.out h
     clear y s;go_wp2
     go_roundw
     case rel=>exact⟨k+1,by omega,by go_num,v,I.out⟩
     case measure=>simp[intOf];omega
  ·obtain rfl:k=m.length:=by omega
   have M:Hid (decide (m=m')=true):=by
    show _=_;have h:=V.out;rw[take_length,HE.out,take_length]at h;simp[h]
   go_wp2;go_ret;exact⟨dE M.out.symm,t.out⟩
theorem I8(l:List Ev)(i:Nat)(a:i<(ed l).length):(ed l).getD i []≠[]:=by
 unfold ed at *
 split at a
 ·rw[if_pos (by assumption)]
  exact(yE l).full i a
 ·simp at a
theorem I9{m:List (List Ev)}(h:eQ m.flatten=false):ed m.flatten≠m:=by
 intro e;have a:ed m.flatten=[]:=by unfold ed;rw[h];rfl
 rw[a]at e;subst e
 revert h
 decide
theorem E7(a:Option Addr)(cap:Nat)(m:List (List Ev))(w:World)(P:iT w a m)(hm:m.length<=1000000)(S:m.flatten.length<=1000000)(p:∀i,(m.getD i []).length<=1000000):
  Calls prog 152 #[.slice a m.length cap] w fun r T=>r=.returned (.bool (decide (ed m.flatten=m)))/\Below w.heap.size w T:=by
 have HL:=hid P;have HF:=hid S;have HC:Hid (∀W,Below w.heap.size w W->Calls prog 182 #[.slice a m.length cap] W (vb W m.flatten)):=fun W U=>EQ a cap m W (P.later U) hm S
 have t:Hid (∀i,i<m.length->m.getD i []=[]->decide (ed m.flatten=m)=false):=fun i hi h=>by
  simp only[decide_eq_false_iff_not];intro e;refine I8 m.flatten i (by rw[e];exact hi) ?_;rw[e];exact h
 have f:Hid (eQ m.flatten=false->decide (ed m.flatten=m)=false):=fun h=>by simp only[decide_eq_false_iff_not];exact I9 h
 have A:Hid (∀Q j W,iT W Q (ed m.flatten)->Below w.heap.size w W->Calls prog 183 #[.slice Q (ed m.flatten).length j,.slice a m.length cap] W fun r T=>r=.returned (.bool (decide (ed m.flatten=m)))/\Below W.heap.size W T):=fun Q j W R U=>
  E6 Q a j cap (ed m.flatten) m W R (P.later U) (by have:=qS m.flatten;omega) hm (fun i=>by have:=pd m.flatten i;omega) p
 clear P S p
 obtain⟨D,hD⟩:∃D,D=decide (ed m.flatten=m):=⟨_,rfl⟩
 rw[<-hD]at t f A ⊢;clear hD;go_enter func152,ntmps152;go_wp2
 go_loopw [3] (fun i wr=>∃k:Nat,k<=m.length/\i=.int .i64 k/\Hid (Below w.heap.size w wr)) (fun i _=>m.length-(intOf i).toNat)
 case atStart=>exact⟨0,zero_le _,rfl,Below.refl _ _⟩
 case round=>
  obtain⟨k,hk,rfl,x⟩:=hrel
  by_cases u:k<m.length
  ·obtain⟨b,o,sa,sc,rfl,c0,_,_⟩:=HL.out.one u
   have c1:=de x.out c0;have v:=hid (t.out k u);clear c0
   by_cases y:m.getD k []=[]
   ·have z:=hid (v.out y)
    have V:(((m.getD k []).length:Int)==0)=true:=by rw[y];rfl
    clear y v;generalize m.getD k []=X at *;go_wp2;go_ret;exact⟨dE z.out.symm,x.out⟩
   ·have V:(((m.getD k []).length:Int)==0)=false:=by
     have:=List.length_pos_iff.2 y;simp;exact y
    clear y v;generalize m.getD k []=X at *;go_wp2
    go_roundw
    case rel=>exact⟨k+1,by omega,by go_num,x.out⟩
    case measure=>simp[intOf];omega
  ·obtain rfl:k=m.length:=by omega
   have B:=hid (HC.out _ x.out);have Y:=x.out.size;clear t HC u;go_wp2_with fail;refine B.out.mono ?_;rintro r w1⟨v1,rfl,R,C⟩;have c:=x.out.trans (C.mono Y);obtain⟨a1,s,rfl,E⟩:=dr.form R HF.out;have F:=hid E;clear R E B C;have G:Hid (eQ m.flatten=(decide (m.flatten.length<=200)&&dJ m.flatten)):=rfl;generalize m.flatten=q at *
   by_cases L:q.length<=200
   case neg=>
    have V:decide ((q.length:Int)<=200)=false:=by simp;omega
    have H:decide (q.length<=200)=false:=by simp;omega
    have z:=hid (f.out (by rw[G.out,H];rfl));clear L f;go_wp2;go_ret;exact⟨dE z.out.symm,c⟩
   have V:decide ((q.length:Int)<=200)=true:=by simp;omega
   have H:decide (q.length<=200)=true:=by simp;omega
   have n:=hid (sC a1 s q w1 F.out)
   cases p:dJ q
   ·have z:=hid (f.out (by rw[G.out,p];simp))
    rw[p]at n;clear f p;go_wp2_with fail;refine n.out.mono ?_;rintro r w2⟨rfl,g⟩;have d:=c.trans (g.mono c.size);go_wp2;go_ret;exact⟨dE z.out.symm,d⟩
   ·rw[p]at n
    clear f p;go_wp2_with fail;refine n.out.mono ?_;rintro r w2⟨rfl,g⟩;have d:=c.trans (g.mono c.size);have Z:=hid (wM a1 s q w2 (F.out.later g));clear g;go_wp2_with fail;refine Z.out.mono ?_;rintro r w3⟨v3,ss,rfl,h3,I⟩;obtain⟨a3,M,rfl,J,_⟩:=OwnLv.formF h3;have l:=d.trans (I.mono d.size);have N:=hid (A.out a3 M w3 J l);clear J h3 I;go_wp2_with fail;refine N.out.mono ?_;rintro r w4⟨rfl,aa⟩;have O:=l.trans (aa.mono l.size);go_wp2;go_ret;exact⟨rfl,O⟩
theorem Eg{w:World}{B:Nat}{v:Value}{ns:List Int}(h:iJ w B v ns):(convert 56 9 v).run prog w=.ok (.string (dY ns)) w:=by
 by_cases c:ns=[]
 ·subst c
  obtain⟨i,⟨a,e⟩|⟨g,b,f,a,e,j,k,l,m,n⟩⟩:=h
  ·subst a
   rw[run_convert_bytes_string w _ _ 5 _ _ _ underlying56 underlying5 underlying9];simp[Conv.bytesToString,dY];rfl
  ·subst a
   rw[run_convert_bytes_string w _ _ 5 _ _ _ underlying56 underlying5 underlying9];have d:=run_loadCells_list (P:=prog) w ⟨g,0,none⟩ ([].map (Value.int .u8)) (by simp);rw[List.length_map]at d;have hb:=run_bytesToString w ⟨g,0,none⟩ _ b [] d;exact hb
 ·exact wE h c
theorem Fa(a:Option Addr)(cap:Nat)(l:List Ev)(w:World)(D:ei w a l)(hm:l.length<=1000000):
  Calls prog 153 #[.slice a l.length cap] w fun r N=>r=.returned (.string (dY (eR l)))/\Below w.heap.size w N:=by
 have O:=hid D;clear D;go_enter func153,ntmps153;go_wp2
 go_loopw [3,4] (fun v i wr=>∃(k:Nat) (f:List Int),k<=l.length/\i=.int .i64 k/\Hid ((l.take k).all eM=true)/\Hid (f=(l.take k).map eY)/\f.length=k/\iJ wr w.heap.size v f/\Below w.heap.size w wr) (fun _ i _=>l.length-(intOf i).toNat)
 case atStart=>exact⟨0,[],zero_le _,rfl,rfl,rfl,rfl,World.ownsRow_nil _ _ _ _,Below.refl _ _⟩
 case round=>
  obtain⟨k,f,hk,rfl,E,F,Y,g,hb⟩:=hrel;have y:=hid g;clear g
  by_cases d:k<l.length
  ·obtain⟨b,o,rfl,G⟩:=O.out.2 (by intro e;simp[e]at d)
   obtain⟨H,I,J,L⟩:=G k d;have d0:=de hb H;have d1:=de hb I;have d2:=de hb J;have d3:=de hb L;clear G H I J L;have A:=hid (take_succ_eq_append_getElem d:l.take (k+1)=l.take k++[l[k]])
   have P:Hid (f++[eY l[k]]=(l.take (k+1)).map eY):=by
    show _=_;rw[take_succ_eq_append_getElem d,List.map_append,<-F.out];rfl
   have Q:=hid (List.getElem_mem d);generalize l[k]=x at *;go_wp2_with fail;refine(wN x _).mono ?_;rintro r R⟨rfl,c⟩;have t:=hid (nz y.out c);have j:Below w.heap.size w R:=hb.trans (c.mono hb.size);have S:=de c d0;have T:=de c d1;have U:=de c d2;have V:=de c d3;clear y hb c d0 d1 d2 d3
   cases q:eM x
   ·have s:Hid (eR l=[]):=by
     show _=_;unfold eR;rw[if_neg];intro h;rw[List.all_eq_true]at h;rw[h x Q.out]at q
     cases q
    clear q;go_wp2;go_ret;exact⟨jY (by rw[s.out];rfl),j⟩
   ·have s:=hid q
    clear q;go_wp2_with fail;refine(Fe x s.out _).mono ?_;rintro r z⟨rfl,m⟩;have n:=nz t.out m;have u:Below w.heap.size w z:=j.trans (m.mono j.size);have bd:=uA s.out;have Z:IntKind.u8.wrap (eY x)=eY x:=IntWalk.u8_in _ (by omega);have W:=u.size;clear S T U V t m
    go_wp2_with (at_builtin;refine rV rfl (.tmp 17) (.tmp 24) rfl w.heap.size _ f rfl (iJ.alloc n _) ⟨z.heap.size,0,none⟩ 1 1 rfl [eY x] rfl (uO z [eY x] _ _ rfl) (by omega) (by simp;omega) ?_;intro v1 w4 p B)
    have C:=(u.alloc W _).trans B
    go_roundw
    case rel=>exact⟨k+1,f++[eY x],by omega,by go_num,(by show _=_;rw[A.out,List.all_append,E.out];simp[s.out]),P,by simp;omega,p,C⟩
    case measure=>simp[intOf];omega
  ·obtain rfl:k=l.length:=by omega
   have aa:=Eg y.out
   have X:Hid (eR l=f):=by
    show _=_;unfold eR;have h:=E.out;have M:=F.out;rw[take_length]at h M;rw[if_pos h,M]
   go_wp2;go_ret;exact⟨jY (by rw[X.out]),hb⟩
theorem rF(a b:List Int):dY a++dY b=dY (a++b):=by
 apply ByteArray.ext;simp[dY]
theorem Dy(m:List (List Ev)){k:Nat}(a:k<m.length):(m.take (k+1)).flatMap gB=(m.take k).flatMap gB++([((m.getD k []).length:Int)]++eR (m.getD k [])):=by
 rw[take_succ_eq_append_getElem a,List.flatMap_append,dV _ a];simp[gB]
theorem qt{w:World}{g:Nat}{x:Int}(d:w.cell? ⟨g,0,none⟩=some (.int .u8 x)):(convert 56 9 (.slice (some ⟨g,0,none⟩) 1 1)).run prog w=.ok (.string (dY [x])) w:=by
 rw[run_convert_bytes_string w _ _ 5 _ _ _ underlying56 underlying5 underlying9];have f:=run_loadCells_list (P:=prog) w ⟨g,0,none⟩ ([x].map (Value.int .u8)) (by intro j u b;match j with|0=>(simp at b;subst b;exact d)|j+1=>simp at b);have c:=run_bytesToString w ⟨g,0,none⟩ _ 1 [x] f;rw[rh]at c;have e:ByteArray.empty.data=#[]:=rfl;rw[e,Array.empty_append]at c;exact c
theorem rE(w:World)(x:Int):(w.alloc (.cells #[.int .u8 x] 5)).cell? ⟨w.heap.size,0,none⟩=some (.int .u8 x):=by
 rw[World.cell?_alloc_new];rfl
theorem E8(a:Option Addr)(cap:Nat)(m:List (List Ev))(w:World)(H:iT w a m)(hm:m.length<=1000000)(X:m.flatten.length<=1000000)(Y:∀i,(m.getD i []).length<=1000000):
  Calls prog 97 #[.slice a m.length cap] w fun r I=>r=.returned (.string (dY (lL m)))/\Below w.heap.size w I:=by
 have HL:=hid H;have B:=hid (E7 a cap m w H hm X Y);have C:Hid (lL m=if decide (ed m.flatten=m)=true then iE m else []):=by show _=_;unfold lL;simp
 have J:Hid (decide (ed m.flatten=m)=true->∀i,(m.getD i []).length<=200):=fun h i=>by
  have:=pd m.flatten i;rw[of_decide_eq_true h]at this;omega
 have y:Hid (∀k,((m.take k).flatMap gB).length<=2000000):=fun k=>by
  by_cases hk:k<=m.length
  ·have:=tO m k;omega
  ·have:=tO m m.length
   rw[take_length]at this;rw[List.take_of_length_le (by omega)];omega
 clear H X Y;generalize decide (ed m.flatten=m)=D at *
 cases D
 ·have l:Hid (lL m=[]):=by show _=_;rw[C.out];rfl
  clear J C;go_enter func97,ntmps97;go_wp2_with fail;refine B.out.mono ?_;rintro r w1⟨rfl,g⟩;clear B;go_wp2;go_ret;exact⟨jY (by rw[l.out];rfl),g⟩
 ·have l:Hid (lL m=iE m):=by show _=_;rw[C.out];rfl
  have L:=hid (J.out rfl);clear J C;go_enter func97,ntmps97;go_wp2_with fail;refine B.out.mono ?_;rintro r w1⟨rfl,g⟩;clear B;go_wp2_with fail
  go_loopw [3,4] (fun s i wr=>∃k:Nat,k<=m.length/\i=.int .i64 k/\s=.string (dY ((m.take k).flatMap gB))/\Hid (Below w.heap.size w wr)) (fun _ i _=>m.length-(intOf i).toNat)
  case atStart=>exact⟨0,zero_le _,rfl,rfl,g⟩
  case round=>
   clear g;obtain⟨k,hk,rfl,rfl,v⟩:=hrel
   by_cases z:k<m.length
   ·obtain⟨b,o,E,F,rfl,Z,A,_⟩:=HL.out.one z
    have c1:=de v.out Z;have M:=hid (A.later v.out);have HT:=hid (Dy m z);have aa:=L.out k;have ab:=y.out k;have ac:=sW (m.getD k []);clear Z A;generalize (m.take k).flatMap gB=n at *;generalize m.getD k []=c at *;have p:Below wr.heap.size wr wr.drew:=(Below.refl _ _).drew;have q:Below wr.heap.size wr (wr.alloc (.cells #[.int .u8 (c.length:Int)] 5)).drew:=(da wr _).drew;have ad:IntKind.u8.wrap (c.length:Int)=c.length:=IntWalk.u8_in _ (by omega);have N:Hid ((convert 56 9 (.slice (some ⟨wr.heap.size,0,none⟩) 1 1)).run prog (wr.alloc (.cells #[.int .u8 (c.length:Int)] 5)).drew=.ok (.string (dY [(c.length:Int)])) (wr.alloc (.cells #[.int .u8 (c.length:Int)] 5)).drew):=qt (rE wr _);have O:Hid (∀W:World,(convert 56 9 (.slice (some ⟨W.heap.size,0,none⟩) 1 1)).run prog (W.alloc (.cells #[.int .u8 (c.length:Int)] 5))=.ok (.string (dY [(c.length:Int)])) (W.alloc (.cells #[.int .u8 (c.length:Int)] 5))):=fun W=>qt (rE W _)
    have P:Hid (∀W,Below (wr.alloc (.cells #[.int .u8 (c.length:Int)] 5)).drew.heap.size (wr.alloc (.cells #[.int .u8 (c.length:Int)] 5)).drew W->(convert 56 9 (.slice (some ⟨wr.heap.size,0,none⟩) 1 1)).run prog W=.ok (.string (dY [(c.length:Int)])) W):=fun W x=>qt (de x (show(wr.alloc (.cells #[.int .u8 (c.length:Int)] 5)).drew.cell? ⟨wr.heap.size,0,none⟩=_ from rE wr _))
    have f:Hid (∀W,Below wr.heap.size wr W->Calls prog 153 #[.slice E c.length F] W fun r I=>r=.returned (.string (dY (eR c)))/\Below W.heap.size W I):=fun W x=>Fa E F c W (M.out.later x) (by omega)
    have G:Hid (∀W,Below wr.heap.size wr W->W.cell? ⟨b,o+k,none⟩=some (.slice E c.length F)):=fun W x=>de x c1
    have j:Hid (dY n++(dY [(c.length:Int)]++dY (eR c))=dY ((m.take (k+1)).flatMap gB)):=by show _=_;rw[rF,rF,<-HT.out]
    have ae:(k:Int)<(m.length:Int):=by omega
    have Q:¬ 9223372036854775807<(dY [(c.length:Int)]).size+(dY (eR c)).size:=by rw[kL,kL];simp;omega
    have af:¬ 9223372036854775807<(dY n).size+(dY [(c.length:Int)]++dY (eR c)).size:=by rw[rF,kL,kL,length_append];simp;omega
    have ag:¬ 9223372036854775807<(dY n).size+((dY [(c.length:Int)]).size+(dY (eR c)).size):=by rw[kL,kL,kL];simp;omega
    have ah:=N.out;have ai:=O.out;clear HT
    obtain⟨S2,t⟩:∃S2,S2=dY ((m.take (k+1)).flatMap gB):=⟨_,rfl⟩
    rw[<-t]at j;have R:=hid t;clear t;go_wp2_with fail;have k2:(wr.alloc (.cells #[.int .u8 (c.length:Int)] 5)).cell? ⟨b,o+k,none⟩=some (.slice E c.length F):=G.out _ (da wr _)
    go_region_with (first
     |(go_simp;go_at_call 153;((with_reducible refine(f.out _ p).mono ?_);rintro r S⟨rfl,e⟩;have d:=p.trans (e.mono p.size);have T:=G.out _ d;have aj:=G.out _ (d.alloc d.size (.cells #[.int .u8 (c.length:Int)] 5))))
     |(go_simp;go_at_call 153;((with_reducible refine(f.out _ q).mono ?_);rintro r S⟨rfl,e⟩;have d:=q.trans (e.mono q.size);have T:=G.out _ d;have ak:=P.out _ e)))
    all_goals
     have u:=hid (v.out.trans (d.mono v.out.size));have U:=hid (u.out.alloc u.out.size (.cells #[.int .u8 (c.length:Int)] 5));rw[j.out];go_wp2
     go_roundw
     case rel=>exact⟨k+1,by omega,by go_num,by rw[R.out],(by first|exact u.out|exact U.out)⟩
     case measure=>simp[intOf];omega
   ·obtain rfl:k=m.length:=by omega
    rw[take_length];have al:=qt (rE wr 0);have V:Below w.heap.size w (wr.alloc (.cells #[.int .u8 0] 5)):=v.out.alloc v.out.size _;have Q:¬ 9223372036854775807<(dY (m.flatMap gB)).size+(dY [0]).size:=by have h:=y.out m.length;rw[take_length]at h;rw[kL,kL];simp only[List.length_singleton];omega
    have j:Hid (dY (m.flatMap gB)++dY [0]=dY (iE m)):=by show _=_;rw[rF];rfl
    go_wp2;go_ret;exact⟨jY (by rw[l.out,<-j.out]),V⟩
theorem I7{l:List Ev}(b:eQ l=true):ed (dU l).flatten=dU l:=by
 have c:dJ l=true/\l.length<=200:=by
  unfold eQ at b;simp at b;exact⟨b.2,b.1⟩
 have d:eQ (dU l).flatten=true:=by
  unfold eQ;rw[tM];simp only[Bool.and_eq_true,decide_eq_true_eq];refine⟨c.2,?_⟩;have h:=c.1;unfold dJ at *;exact List.all_eq_true.2 fun e f=>List.all_eq_true.1 h e (yp f)
 unfold ed;rw[if_pos d];exact(tL _ _).2 (sx l)
theorem FV(l:List Ev)(a:eQ l=true):lL (ed l)=gU l:=by
 have b:ed l=dU l:=by unfold ed;rw[if_pos a]
 unfold lL gU;rw[b,I7 a,if_pos rfl,if_pos a]
theorem E9(a:Option Addr)(cap:Nat)(l:List Ev)(w:World)(u:ei w a l):
  Calls prog 58 #[.slice a l.length cap] w fun r C=>r=.returned (.string (dY (gU l)))/\Below w.heap.size w C:=by
 have D:=u.1;unfold maxLen at D;have b:=hid (sC a cap l w u);have E:=hid u;clear u;have j:Hid (eQ l=(decide (l.length<=200)&&dJ l)):=rfl;have n:Hid (eQ l=false->gU l=[]):=fun h=>by unfold gU;rw[h];rfl
 have e:Hid (eQ l=true->lL (ed l)=gU l):=FV l
 cases f:dJ l
 ·have d:=hid (n.out (by rw[j.out,f];simp))
  rw[f]at b;clear f e n;go_enter func58,ntmps58;go_wp2_with fail;refine b.out.mono ?_;rintro r x⟨rfl,c⟩;clear b;go_wp2;go_ret;exact⟨jY (by rw[d.out];rfl),c⟩
 rw[f]at b
 by_cases g:l.length<=200
 case neg=>
  have d:=hid (n.out (by rw[j.out,f];simp;omega));have F:decide ((200:Int)<(l.length:Int))=true:=by simp;omega
  have z:200<l.length:=by omega
  clear f e n g;go_enter func58,ntmps58;go_wp2_with fail;refine b.out.mono ?_;rintro r x⟨rfl,c⟩;clear b;go_wp2;go_ret;exact⟨jY (by rw[d.out];rfl),c⟩
 have d:=hid (e.out (by rw[j.out,f];simp;omega));have F:decide ((200:Int)<(l.length:Int))=false:=by simp;omega
 have z:¬ 200<l.length:=by omega
 clear f e n g;go_enter func58,ntmps58;go_wp2_with fail;refine b.out.mono ?_;rintro r x⟨rfl,c⟩;clear b;have o:=hid (wM a cap l x (E.out.later c));go_wp2_with fail;refine o.out.mono ?_;rintro r G⟨v,I,rfl,B,p⟩;obtain⟨H,t,rfl,q,_⟩:=OwnLv.formF B;have y:=hid (E8 H t (ed l) G q (by have:=qS l;omega) (by have:=yJ l;omega) (fun i=>by have:=pd l i;omega));rw[d.out]at y;have k:=c.trans (p.mono c.size);clear B q c p o d;generalize ed l=m at *;go_wp2_with fail;refine y.out.mono ?_;rintro r J⟨rfl,s⟩;have A:=k.trans (s.mono k.size);clear y k s;go_wp2;go_ret;exact⟨rfl,A⟩
structure SumV where
 k:List dk
 r:Nat
 c:Nat
 st:Nat
def vR(x:SumV)(a:Option Addr)(b:Nat):Array Value:=#[.slice a x.k.length b,.int .i64 (x.r:Int),.int .i64 (x.c:Int),.int .i64 (x.st:Int)]
def eJ(w:World)(mb B:Nat)(x:SumV):Prop:=∃a b,w.heap[mb]?=some (.cells (vR x a b) 32 (0,0))/\dc w B 9 1 du (.slice a x.k.length b) x.k
def kp(x:SumV):Prop:=x.k.length<=x.c/\x.r<=x.c/\x.st<=x.c
def kj(n:Nat)(s:St)(row:List Ev)(most:Nat)(x y:SumV):Prop:=
 (x.c+s.pre n<=most->y.c=x.c+s.pre n/\y.k=(eD (s.runs n row)).foldl dZ x.k/\y.r=x.r+(s.runs n row).length/\y.st=x.st+iN (s.runs n row)) /\
  (most<x.c+s.pre n->most<y.c)/\(most<=x.c->y.c=x.c+1)/\(x.c<most->y.c<=most+4*n+1)/\kp y
section
variable{w:World}{mb B:Nat}{x:SumV}
theorem eJ.cells(h:eJ w mb B x):∃a b,(w.cell? ⟨mb,0,none⟩=some (.slice a x.k.length b)/\w.cell? ⟨mb,1,none⟩=some (.int .i64 (x.r:Int))/\w.cell? ⟨mb,2,none⟩=some (.int .i64 (x.c:Int))/\w.cell? ⟨mb,3,none⟩=some (.int .i64 (x.st:Int))) /\
  (w.frozen? ⟨mb,0,none⟩=false/\w.frozen? ⟨mb,1,none⟩=false/\w.frozen? ⟨mb,2,none⟩=false/\w.frozen? ⟨mb,3,none⟩=false)/\dc w B 9 1 du (.slice a x.k.length b) x.k:=by
 obtain⟨a,b,f,g⟩:=h
 have d:∀j,w.cell? ⟨mb,j,none⟩=(vR x a b)[j]?:=fun j=>by
  unfold World.cell?;dsimp only;rw[f];rfl
 have e:∀j,w.frozen? ⟨mb,j,none⟩=false:=fun j=>by
  unfold World.frozen?;dsimp only;rw[f];rfl
 exact⟨a,b,⟨d 0,d 1,d 2,d 3⟩,⟨e 0,e 1,e 2,e 3⟩,g⟩
theorem eJ.lt(h:eJ w mb B x):mb<w.heap.size:=by
 obtain⟨_,_,a,_⟩:=h;exact(Array.getElem?_eq_some_iff.1 a).1
theorem eJ.later{w':World}(h:eJ w mb B x)(hb:Below w.heap.size w w'):eJ w' mb B x:=by
 have a:=h.lt;obtain⟨b,c,d,e⟩:=h;exact⟨b,c,(hb.block mb a).trans d,e.later hb⟩
theorem qv{w:World}{B:Nat}{v:Value}{ks:List dk}(h:dc w B 9 1 du v ks)(b:mb<B)(j:Nat)(u:Value):dc (w.setCell ⟨mb,j,none⟩ u) B 9 1 du v ks:=ownsRow_setCell_below (a:=⟨mb,j,none⟩) h b u
theorem eJ.setC(h:eJ w mb B x)(a:mb<B)(n:Nat):eJ (w.setCell ⟨mb,2,none⟩ (.int .i64 (n:Int))) mb B { x with c:=n }:=by
 obtain⟨b,d,e,f⟩:=h;exact⟨b,d,by rw[heap_setCell_same w mb 2 _ _ _ e];rfl,qv f a _ _⟩
theorem eJ.setR(h:eJ w mb B x)(a:mb<B)(n:Nat):eJ (w.setCell ⟨mb,1,none⟩ (.int .i64 (n:Int))) mb B { x with r:=n }:=by
 obtain⟨b,c,d,e⟩:=h;exact⟨b,c,by rw[heap_setCell_same w mb 1 _ _ _ d];rfl,qv e a _ _⟩
theorem eJ.setS(h:eJ w mb B x)(a:mb<B)(n:Nat):eJ (w.setCell ⟨mb,3,none⟩ (.int .i64 (n:Int))) mb B { x with st:=n }:=by
 obtain⟨b,c,d,e⟩:=h;exact⟨b,c,by rw[heap_setCell_same w mb 3 _ _ _ d];rfl,qv e a _ _⟩
theorem eJ.setK(h:eJ w mb B x)(b:mb<B){a:Option Addr}{c:Nat}{ks:List dk}(d:dc w B 9 1 du (.slice a ks.length c) ks):eJ (w.setCell ⟨mb,0,none⟩ (.slice a ks.length c)) mb B { x with k:=ks }:=by
 obtain⟨f,g,e,i⟩:=h;exact⟨a,c,by rw[heap_setCell_same w mb 0 _ _ _ e];rfl,qv d b _ _⟩
end
theorem ei.onlyB{w w':World}{mb:Nat}{a:Option Addr}{l:List Ev}(h:ei w a l)(d:Only mb w w')(f:∀o,a=some o->o.block≠mb):ei w' a l:=by
 refine⟨h.1,fun g=>?_⟩;obtain⟨b,o,rfl,k⟩:=h.2 g;have hb:=f _ rfl;refine⟨b,o,rfl,fun i m=>?_⟩;obtain⟨n,p,q,r⟩:=k i m
 have c:∀{j:Nat} {v:Value},w.cell? ⟨b,j,none⟩=some v->w'.cell? ⟨b,j,none⟩=some v:=fun {j v} e=>by
  rw[World.cell?_of_block (w:=w) (a:=⟨b,j,none⟩) (d.block b (fs e) hb)];exact e
 exact⟨c n,c p,c q,c r⟩
def Br(W0:World)(F B mb n most:Nat):Prop:=
 ∀(s:St) (d:List Ev) (w:World) (b i:Nat) (a:Option Addr) (h f:Nat) (g:Option Addr) (e:Nat) (x:SumV),s.Ok F->s.fuel<=n->d.length+n<=100->dv w b i a h f s->dI W0 a s.p.threads->Below W0.heap.size W0 w->ei w g d->(g=none->e=0/\d=[])->(∀o,g=some o->o.block≠mb) ->
  eJ w mb B x->kp x->x.c<=5000->B<=w.heap.size->b≠mb->i≠mb ->
  Calls prog 32 #[.pointer (some ⟨mb,0,none⟩),.pointer (some ⟨b,0,none⟩),.slice g d.length e,.int .i64 (most:Int)] w fun r j=>r=.returned (.tuple #[])/\∃y,eJ j mb B y/\kj n s d most x y/\Only mb w j
theorem A6{x:SumV}(h:kp x):kp { x with c:=x.c+1 }:=by
 obtain⟨a,b,d⟩:=h;exact⟨by show _<=x.c+1;exact Nat.le_succ_of_le a,Nat.le_succ_of_le b,Nat.le_succ_of_le d⟩
theorem xR{B mb:Nat}(n most:Nat)(s:St)(row:List Ev)(w:World)(b:Nat)(g:Option Addr)(a:Nat)(x:SumV)(i:mb<B)(d:eJ w mb B x)(hb:kp x)(l:x.c<=5000)(hx:most<=x.c):
  Calls prog 32 #[.pointer (some ⟨mb,0,none⟩),.pointer (some ⟨b,0,none⟩),.slice g row.length a,.int .i64 (most:Int)] w fun r f=>r=.returned (.tuple #[])/\∃y,eJ f mb B y/\kj n s row most x y/\Only mb w f:=by
 obtain⟨m,o,⟨p,q,t,u⟩,⟨f0,f1,f2,f3⟩,_⟩:=d.cells;have e:=hid (d.setC i (x.c+1));have v:IntKind.i64.wrap ((x.c:Int)+1)=(x.c:Int)+1:=IntWalk.i64_in _ (by omega);have z:decide ((most:Int)<(x.c:Int)+1)=true:=by simp;omega
 have j:Hid (kj n s row most x { x with c:=x.c+1 }):=by
  have:=sX n s;exact⟨fun h=>by omega,fun _=>by show most<x.c+1;omega,fun _=>rfl,fun h=>by omega,A6 hb⟩
 have k:Hid (Only mb w (w.setCell ⟨mb,2,none⟩ (.int .i64 ((x.c:Int)+1)))):=(Only.refl mb w).setCell 2 _;clear d hb;go_enter func32,ntmps32;go_wp2_with fail;refine bodyPost_ret (results_none rfl _ _ _) rfl ?_;exact⟨rfl,_,e.out,j.out,k.out⟩
theorem E3(F:Nat){w:World}{b f:Nat}{a:Option Addr}{cap c:Nat}{s:St}(h:dv w b f a cap c s)(d:dI w a s.p.threads)(g:s.Ok F)(t:Int):
  Calls prog 59 #[.pointer (some ⟨b,0,none⟩),.int .i64 t] w fun r i=>∃e:Ev,r=.returned (.tuple #[.agg #[.int .i64 e.thread,.int .i64 e.kind,.int .i64 e.obj,.bool e.fail],.bool (s.next t).isSome])/\Below w.heap.size w i:=
 (mp h d g t).mono fun _ _ ⟨j,k⟩=>⟨(s.next t).getD iR,j,k⟩
theorem xS{W0:World}{F B mb:Nat}(n most:Nat)(s:St)(row:List Ev)(w:World)(b tb:Nat)(a:Option Addr)(cap t:Nat)(Z:Option Addr)(u:Nat)(x:SumV)(ok:s.Ok F)(E:s.all=[])(hr:dv w b tb a cap t s)(ab:dI W0 a s.p.threads)(L:Below W0.heap.size W0 w)(ac:W0.heap.size<=mb)(he:ei w Z row)(aB:∀o,Z=some o->o.block≠mb)
  (hs:eJ w mb B x) (hb:kp x) (hc:x.c<=5000) (hB:B<=w.heap.size) (hm:mb<B) (M:b≠mb) (N:tb≠mb) (hx:x.c<most) (aS:most<=1000):
  Calls prog 32 #[.pointer (some ⟨mb,0,none⟩),.pointer (some ⟨b,0,none⟩),.slice Z row.length u,.int .i64 (most:Int)] w fun r j=>r=.returned (.tuple #[])/\∃y,eJ j mb B y/\kj n s row most x y/\Only mb w j:=by
 obtain⟨ka,kc,⟨c0,c1,c2,c3⟩,⟨f0,f1,f2,f3⟩,_⟩:=hs.cells;have ad:Hid (eJ (w.setCell ⟨mb,2,none⟩ (.int .i64 ((x.c:Int)+1))) mb B { x with c:=x.c+1 }):=hs.setC hm (x.c+1);have hw:IntKind.i64.wrap ((x.c:Int)+1)=(x.c:Int)+1:=IntWalk.i64_in _ (by omega);have hq:decide ((most:Int)<(x.c:Int)+1)=false:=by simp;omega
 have O:Hid (Only mb w (w.setCell ⟨mb,2,none⟩ (.int .i64 ((x.c:Int)+1)))):=(Only.refl mb w).setCell 2 _;have P:=hid (hr.other M N 2 (.int .i64 ((x.c:Int)+1)));have ae:Hid (∀W,Only mb w W->dI W a s.p.threads):=fun W ho=>ab.later (L.trans (ho.below ac L.size))
 have aC:Hid (∀W,Only mb w W->ei W Z row):=fun W ho=>he.onlyB ho aB
 have af:=hid ok;have Q:=hid E;have aT:=hb.1;have m:=hb.2.1;have aU:=hb.2.2;have aV:(w.setCell ⟨mb,2,none⟩ (.int .i64 ((x.c:Int)+1))).heap.size=w.heap.size:=by simp[World.setCell]
 have h4:=ok.len4;clear hs hr ab he ok E L;go_enter func32,ntmps32;go_wp2_with fail;generalize w.setCell ⟨mb,2,none⟩ (.int .i64 ((x.c:Int)+1))=W1 at *;refine(wO P.out (ae.out W1 O.out) af.out).mono ?_;rintro r W2⟨va,rfl,R,m⟩;rw[Q.out]at R;obtain⟨aa,ca,rfl,_,_⟩:=dC.form R (by simp);have aD:Hid (Only mb w W2):=O.out.trans (.of_below m);have l:=hid (ad.out.later m);have aE:=hid (P.out.later m);have aW:=m.size;obtain⟨aX,aY,⟨d0,d1,d2,d3⟩,⟨g0,g1,g2,g3⟩,_⟩:=l.out.cells;have aZ:IntKind.i64.wrap ((x.r:Int)+1)=(x.r:Int)+1:=IntWalk.i64_in _ (by omega);have ag:Hid (eJ (W2.setCell ⟨mb,1,none⟩ (.int .i64 ((x.r:Int)+1))) mb B { x with c:=x.c+1,r:=x.r+1 }):=l.out.setR hm (x.r+1);have ah:Hid (Only mb w (W2.setCell ⟨mb,1,none⟩ (.int .i64 ((x.r:Int)+1)))):=aD.out.setCell 1 _;have aF:=hid (aE.out.other M N 1 (.int .i64 ((x.r:Int)+1)));have a0:(W2.setCell ⟨mb,1,none⟩ (.int .i64 ((x.r:Int)+1))).heap.size=W2.heap.size:=by simp[World.setCell]
 simp only[List.length_nil];clear ad O P R c0 c1 c2 c3 f0 f1 f2 f3;go_wp2_with fail;generalize W2.setCell ⟨mb,1,none⟩ (.int .i64 ((x.r:Int)+1))=z at *;obtain⟨ai,aj,⟨i0,i1,i2,i3⟩,⟨j0,j1,j2,j3⟩,v⟩:=ag.out.cells;have ay:=hid v;clear v d0 d1 d2 d3 g0 g1 g2 g3;have G:Hid (∀W,Only mb w W->Calls prog 58 #[.slice Z row.length u] W fun r j=>r=.returned (.string ⟨(eE row).toArray⟩)/\Below W.heap.size W j):=fun W h=>E9 Z u row W (aC.out W h)
 have aG:B<=z.heap.size:=by omega
 have az:Only mb w z.drew:=ah.out.drew;have ak:Below z.heap.size z z.drew:=(Below.refl _ _).drew;have H:Hid (∀W,Below z.heap.size z W->Calls prog 57 #[.slice ai x.k.length aj,.string ⟨(eE row).toArray⟩] W fun r j=>∃a2 f,r=.returned (.slice a2 (dZ x.k (eE row)).length f)/\dc j B 9 1 du (.slice a2 (dZ x.k (eE row)).length f) (dZ x.k (eE row))/\Below W.heap.size W j):=fun W h=>FI B ai aj x.k (eE row) W (ay.out.later h) (by omega) (le_trans aG h.size)
 have al:Hid (∀W a2 f,Below z.heap.size z W->dc W B 9 1 du (.slice a2 (dZ x.k (eE row)).length f) (dZ x.k (eE row))->eJ (W.setCell ⟨mb,0,none⟩ (.slice a2 (dZ x.k (eE row)).length f)) mb B { x with c:=x.c+1,r:=x.r+1,k:=dZ x.k (eE row) }):=fun W a2 f h ho=>(ag.out.later h).setK hm ho
 have am:Hid ((dZ x.k (eE row)).length<=x.c+1):=by have:=xp x.k (eE row);show _<=_;omega
 have an:Hid ((eD [(s,row)]).foldl dZ x.k=dZ x.k (eE row)):=rfl;generalize eE row=K at *;generalize dZ x.k K=I at *
 go_upto_region 5 with (fail)
 go_cut [] (fun wx=>Hid (eJ wx mb B { x with c:=x.c+1,r:=x.r+1,k:=I })/\Hid (Only mb w wx)/\Hid (dv wx b tb a cap t s))
 case first=>
  go_wp2_with fail
  go_region_with (first
   |(go_simp;go_at_call 58;((with_reducible refine(G.out _ az).mono ?_);rintro r w5⟨rfl,aH⟩;have A:=ak.trans (aH.mono ak.size);have a1:=de A i0))
   |(go_simp;go_at_call 57;((with_reducible refine(H.out _ A).mono ?_);rintro r w6⟨a6,c6,rfl,ao,aI⟩;have q:=A.trans (aI.mono A.size);have a3:=de q i0;have a4:=(q.frozen (p:=⟨mb,0,none⟩) (by show mb<_;omega)).trans j0;have aJ:=hid ao;clear ao)))
  all_goals
   have aK:=hid (al.out _ _ _ q aJ.out);have aL:Hid (Only mb w (w6.setCell ⟨mb,0,none⟩ (.slice a6 I.length c6))):=(ah.out.trans (.of_below q)).setCell 0 _;have aM:Hid (dv (w6.setCell ⟨mb,0,none⟩ (.slice a6 I.length c6)) b tb a cap t s):=(aF.out.later q).other M N 0 _;go_wp2_with fail
   go_meet
   exact⟨aK.out,aL.out,aM.out⟩
 case rest=>
  obtain⟨aN,ap,aO⟩:=hcut;clear i0 i1 i2 i3 j0 j1 j2 j3 G H al
  have aA:Hid (iN [(s,row)]=if jl s then 1 else 0):=by show _=_;unfold iN;cases h:jl s <;> simp[h]
  have aP:Hid (jl s=lC s s.ts.length):=rfl;have a5:W0.heap.size<=mb:=ac
  have aq:Hid (∀C,C=x.st+(if jl s then 1 else 0)->kj n s row most x { x with c:=x.c+1,r:=x.r+1,k:=I,st:=C }):=fun C ar=>by
   obtain⟨h1,h2⟩:=oG n s row Q.out;unfold kj;rw[h1,h2];refine⟨fun _=>⟨rfl,an.out.symm,rfl,?_⟩,fun h=>by omega,fun h=>by omega,fun _=>by show x.c+1<=_;omega,?_⟩
   ·rw[aA.out];exact ar
   ·refine⟨am.out,by show x.r+1<=x.c+1;omega,?_⟩
    show C<=x.c+1;rw[ar]
    split <;> omega
  have a7:IntKind.i64.wrap ((x.st:Int)+1)=(x.st:Int)+1:=IntWalk.i64_in _ (by omega);clear an am Q;generalize wc=W7 at *;go_wp2_with fail
  go_loopw [9,10] (fun s9 i wr=>∃k:Nat,k<=s.ts.length/\i=.int .i64 k/\s9=.bool (lC s k)/\Hid (Below W7.heap.size W7 wr)) (fun _ i _=>s.ts.length-(intOf i).toNat)
  case atStart=>exact⟨0,zero_le _,rfl,rfl,Below.refl _ _⟩
  case round=>
   obtain⟨k,hk,rfl,rfl,J⟩:=hrel;have S:=hid (aO.out.later J.out);have p3:=S.out.prog.2;have a8:=S.out.lt.1
   by_cases a9:k<s.ts.length
   ·have HN:=hid (E3 F S.out (ae.out wr (ap.out.trans (.of_below J.out))) af.out k)
    have au:=hid (B5 s k);have av:=J.out.size;go_wp2_with fail;refine HN.out.mono ?_;rintro r w8⟨e,rfl,T⟩;have aw:=hid ((J.out.trans (T.mono av)).alloc (J.out.trans (T.mono av)).size (.cells #[.int .i64 e.thread,.int .i64 e.kind,.int .i64 e.obj,.bool e.fail] 112));clear T HN p3;generalize (s.next k).isSome=d at *;generalize lC s k=g at *
    cases g
    ·have l:Hid (lC s (k+1)=d):=by show _=_;rw[au.out];simp
     go_wp2_with fail
     go_roundw
     case rel=>exact⟨k+1,by omega,by go_num,by rw[l.out],aw.out⟩
     case measure=>simp[intOf];omega
    ·have l:Hid (lC s (k+1)=true):=by show _=_;rw[au.out];simp
     go_wp2_with fail
     go_roundw
     case rel=>exact⟨k+1,by omega,by go_num,by rw[l.out],aw.out⟩
     case measure=>simp[intOf];omega
   ·obtain rfl:k=s.ts.length:=by omega
    have U:=hid (aN.out.later J.out);have ax:Hid (Only mb w wr):=ap.out.trans (.of_below J.out);obtain⟨ba,bb,⟨i0,i1,i2,i3⟩,⟨j0,j1,j2,j3⟩,_⟩:=U.out.cells;rw[<-aP.out]
    cases D:jl s
    ·have V:=hid (aq.out x.st (by rw[D];rfl))
     clear D;go_wp2_with fail
     go_loopw [13] (fun i j=>i=.int .i64 0/\Hid (eJ j mb B { x with c:=x.c+1,r:=x.r+1,k:=I })/\Hid (Only mb w j)) (fun _ _=>0)
     case atStart=>exact⟨rfl,U.out,ax.out⟩
     case round=>
      obtain⟨rfl,X,Y⟩:=hrel;go_wp2_with fail
      go_end0
      exact⟨rfl,_,X.out,V.out,Y.out⟩
    ·have V:=hid (aq.out (x.st+1) (by rw[D];rfl))
     have aQ:Hid (eJ (wr.setCell ⟨mb,3,none⟩ (.int .i64 ((x.st:Int)+1))) mb B { x with c:=x.c+1,r:=x.r+1,k:=I,st:=x.st+1 }):=U.out.setS hm (x.st+1);have aR:Hid (Only mb w (wr.setCell ⟨mb,3,none⟩ (.int .i64 ((x.st:Int)+1)))):=ax.out.setCell 3 _;clear D;go_wp2_with fail
     go_loopw [13] (fun i j=>i=.int .i64 0/\Hid (eJ j mb B { x with c:=x.c+1,r:=x.r+1,k:=I,st:=x.st+1 })/\Hid (Only mb w j)) (fun _ _=>0)
     case atStart=>exact⟨rfl,aQ.out,aR.out⟩
     case round=>
      obtain⟨rfl,X,Y⟩:=hrel;go_wp2_with fail
      go_end0
      exact⟨rfl,_,X.out,V.out,Y.out⟩
end
section
open Go.Proofs.Tryz Go.RowKit
theorem BF{w:World}{o:Oper}{a:Act}{K:Act->World->Prop}{Q:Exit->Act->World->Prop}(s x:Operand)
  (D:o.op=.call { callee:=.builtin .append,args:=#[s,x],argTypes:=#[95,95] }) (B:Nat) (v:Value) (f:List Ev) (E:a.eval s=v) (c:dr w B v f)
  (A:Option Addr) (d:Nat) (row:List Ev) (hx:a.eval x=.slice A row.length d) (l:ei w A row) (I:A=none->d=0/\row=[])
  (L:f.length+row.length<=1000000) (C:B<=w.heap.size)
  (h:∀n g,dr g B n (f++row)->Below B w g->w.grownBy g v.ownBlock->K (a.put o.dst n) g):Oper.wp prog o a w K Q:=by
 have m:(prog.info? 112).map (fun i=>(i.zero,i.size,i.bytes))=some (some (.agg #[.int .i64 0,.int .i64 0,.int .i64 0,.bool false]),4,32):=by kernel_rfl
 obtain⟨i,F,q⟩:=Option.map_eq_some_iff.1 m;simp only[Prod.mk.injEq]at q;obtain⟨J,r,t⟩:=q
 cases A with
 |none=>
  obtain⟨rfl,rfl⟩:=I rfl;have z:=run_append_owned_none (P:=prog) (w:=w) B 95 o.type 112 i 4 underlying95 F v f.length (dy f) c;have hK:=h v w (by rw[List.append_nil];exact c) (Below.refl _ _) ⟨rfl,rfl,rfl,Nat.le_refl _,fun _ _ _=>rfl⟩;unfold Oper.wp;simp[execOp,D,resolve,invoke,builtin,E,hx,z,Result.andThen];exact hK
 |some M=>
  by_cases y:row=[]
  ·subst y
   refine wp_append_own w s x 95 D B 112 i (.agg #[.int .i64 0,.int .i64 0,.int .i64 0,.bool false]) 4 32 underlying95 F J r t rfl (by decide) v f.length (dy f) E c M 0 d [] hx (by simp) (by simp) (by simp) (by unfold maxLen;omega) (by omega) C ?_;intro n g G p _;refine h n g ?_ ((Below.refl B w).grown p C (fun k H=>(World.ownsRow.lt c k H).1)) p;unfold dr;simpa using G
  ·obtain⟨b,N,e,R⟩:=l.2 y
   injection e with e;subst e
   refine wp_append_own w s x 95 D B 112 i (.agg #[.int .i64 0,.int .i64 0,.int .i64 0,.bool false]) 4 32 underlying95 F J r t rfl (by decide) v f.length (dy f) E c ⟨b,N,none⟩ row.length d (dy row) hx (by rw[iy]) (fun j u O=>l.cellAt j u O)
    (pE _) (by unfold maxLen;omega) (by omega) C ?_
   intro n g G p _;refine h n g ?_ ((Below.refl B w).grown p C (fun k H=>(World.ownsRow.lt c k H).1)) p;unfold dr;rw[List.length_append,lm];exact G
theorem oC{w:World}{c:Array Oper}{o:Oper}{a:Act}{K:Act->World->Prop}{Q:Exit->Act->World->Prop}{E:Prop}(k:o.guard=none)(s x:Operand)
  (n:o.op=.call { callee:=.builtin .append,args:=#[s,x],argTypes:=#[95,95] }) (B:Nat) (v:Value) (g:List Ev) (p:a.eval s=v) (d:dr w B v g)
  (i:Option Addr) (b:Nat) (row:List Ev) (hx:a.eval x=.slice i row.length b) (e:ei w i row) (l:i=none->b=0/\row=[])
  (f:g.length+row.length<=1000000) (q:B<=w.heap.size)
  (h:∀m j,dr j B m (g++row)->Below B w j->w.grownBy j v.ownBlock->K (a.put o.dst m) j):if Region.wanted o (yielded c a.tmps)=true then Oper.wp prog o a w K Q else E:=by
 have r:Region.wanted o (yielded c a.tmps)=true:=by simp[Region.wanted,k]
 rw[if_pos r];exact BF s x n B v g p d i b row hx e l f q h
theorem uw(w:World)(e:Ev):ei (w.alloc (.cells #[.int .i64 e.thread,.int .i64 e.kind,.int .i64 e.obj,.bool e.fail] 112)) (some ⟨w.heap.size,0,none⟩) [e]:=by
 refine⟨by simp[maxLen],fun _=>⟨w.heap.size,0,rfl,fun i a=>?_⟩⟩;obtain rfl:i=0:=by simp at a;omega
 simp
theorem ei.grown{w w':World}{g:Nat}{l:List Ev}{row:Option Nat}(h:ei w (some ⟨g,0,none⟩) l)(f:w.grownBy w' row)(c:some g≠row):ei w' (some ⟨g,0,none⟩) l:=by
 refine⟨h.1,fun j=>?_⟩;obtain⟨b,o,e,k⟩:=h.2 j
 cases e
 refine⟨g,0,rfl,fun i m=>?_⟩;obtain⟨d,n,p,q⟩:=k i m;have a:∀o,w'.cell? ⟨g,o,none⟩=w.cell? ⟨g,o,none⟩:=fun o=>World.cell?_of_block (f.block g (fs d) c)
 exact⟨(a _).trans d,(a _).trans n,(a _).trans p,(a _).trans q⟩
structure Ways(W:World)(e:Ev):Prop where
 a:dr (W.alloc (.cells #[] 112)).drew W.heap.size (.slice (some ⟨W.heap.size,0,none⟩) 0 0) []
 b:dr ((W.alloc (.cells #[] 112)).alloc (.cells #[.int .i64 e.thread,.int .i64 e.kind,.int .i64 e.obj,.bool e.fail] 112)).drew W.heap.size (.slice (some ⟨W.heap.size,0,none⟩) 0 0) []
 bt:ei ((W.alloc (.cells #[] 112)).alloc (.cells #[.int .i64 e.thread,.int .i64 e.kind,.int .i64 e.obj,.bool e.fail] 112)).drew (some ⟨W.heap.size+1,0,none⟩) [e]
 c:dr ((W.alloc (.cells #[.int .i64 e.thread,.int .i64 e.kind,.int .i64 e.obj,.bool e.fail] 112)).alloc (.cells #[] 112)).drew W.heap.size (.slice (some ⟨W.heap.size+1,0,none⟩) 0 0) []
 ct:ei ((W.alloc (.cells #[.int .i64 e.thread,.int .i64 e.kind,.int .i64 e.obj,.bool e.fail] 112)).alloc (.cells #[] 112)).drew (some ⟨W.heap.size,0,none⟩) [e]
theorem vo(W:World)(e:Ev):Ways W e:=by
 have d:dr (W.alloc (.cells #[] 112)) W.heap.size (.slice (some ⟨W.heap.size,0,none⟩) 0 0) []:=xO W _ rfl
 have i:dr ((W.alloc (.cells #[.int .i64 e.thread,.int .i64 e.kind,.int .i64 e.obj,.bool e.fail] 112)).alloc (.cells #[] 112)) (W.heap.size+1) (.slice (some ⟨W.heap.size+1,0,none⟩) 0 0) []:=by
  have:=xO (W.alloc (.cells #[.int .i64 e.thread,.int .i64 e.kind,.int .i64 e.obj,.bool e.fail] 112)) _ rfl
  rwa [World.size_alloc]at this
 have f:=uw (W.alloc (.cells #[] 112)) e;rw[World.size_alloc]at f;have j:=(uw W e).later (da _ (.cells #[] 112));refine⟨d,dr.alloc d _,f,?_,j⟩;obtain⟨h,a|⟨g,b,c,a,l,k⟩⟩:=i
 ·exact⟨h,.inl a⟩
 ·exact⟨h,.inr ⟨g,b,c,a,by omega,k⟩⟩
end
section
open Go.RowKit
def lz(n:Nat)(s:St)(row:List Ev)(most:Nat)(x:SumV)(j:Nat)(y:SumV):Prop:=
 (x.c+jH n s j<=most->y.c=x.c+jH n s j/\y.k=(eD (jX n s row j)).foldl dZ x.k/\y.r=x.r+(jX n s row j).length/\y.st=x.st+iN (jX n s row j)) /\
  (most<x.c+jH n s j->most<y.c)/\y.c<=most+4*n+1+j/\kp y
theorem GJ{n:Nat}{s:St}{row:List Ev}{most:Nat}{x:SumV}(h:x.c<=most)(hb:kp x):lz n s row most x 0 x:=by
 have a:jH n s 0=0:=rfl;have b:jX n s row 0=[]:=rfl;unfold lz;rw[a,b];exact⟨fun _=>⟨rfl,rfl,rfl,rfl⟩,fun h=>by omega,by omega,hb⟩
theorem C6(a b:rS):iN (a++b)=iN a+iN b:=by
 unfold iN;rw[List.filter_append,List.length_append]
theorem Ju(a b:rS):eD (a++b)=eD a++eD b:=List.map_append
theorem GK{n:Nat}{s:St}{row:List Ev}{most:Nat}{x y z:SumV}{j:Nat}{e:Ev}{s1:St}(h:lz n s row most x j y)(a:j<s.all.length)(b:s.step s.all[j]=(0,e,s1))(k:kj n s1 (row++[e]) most y z):lz n s row most x (j+1) z:=by
 have l:jH n s (j+1)=jH n s j+s1.pre n:=by have h:=FZ n s a;rw[b]at h;exact h
 have m:jX n s row (j+1)=jX n s row j++s1.runs n (row++[e]):=by have h:=D2 n s row a;rw[b]at h;exact h
 have i:=sX n s1;obtain⟨f,o,F,_⟩:=h;obtain⟨p,q,g,r,t⟩:=k;unfold lz;rw[l,m];refine⟨fun u=>?_,fun u=>?_,?_,t⟩
 ·obtain⟨v,w,A,B⟩:=f (by omega)
  obtain⟨G,C,D,E⟩:=p (by omega);refine⟨by omega,?_,?_,?_⟩
  ·rw[C,w,Ju,List.foldl_append]
  ·rw[D,A,List.length_append];omega
  ·rw[E,B,C6];omega
 ·by_cases d:most<x.c+jH n s j
  ·have:=o d
   have:=g (by omega);omega
  ·obtain⟨v,_⟩:=f (by omega)
   exact q (by omega)
 ·by_cases d:y.c<most
  ·have:=r d
   omega
  ·have:=g (by omega)
   omega
theorem GL{n:Nat}{s:St}{row:List Ev}{most:Nat}{x y:SumV}(hx:x.c<most)(a:s.all≠[])(m:s.all.length<=4)(h:lz n s row most { x with c:=x.c+1 } s.all.length y):kj (n+1) s row most x y:=by
 have f:=F0 n s;have g:=D3 n s row a;obtain⟨b,d,o,i⟩:=h;unfold kj;rw[g,f];dsimp only at b d;refine⟨fun e=>?_,fun e=>d (by omega),fun e=>by omega,fun _=>by omega,i⟩;obtain⟨p,j,k,l⟩:=b (by omega);exact⟨by omega,j,k,l⟩
theorem Gv{w:World}{B:Nat}{v:Value}{l:List Ev}(h:dr w B v l)(i:l.length<=1000000):∃a b,v=.slice a l.length b/\ei w a l/\(a=none->b=0/\l=[])/\∀o,a=some o->B<=o.block:=by
 obtain⟨a,b,d,j⟩:=dr.form h i;refine⟨a,b,d,j,?_⟩;obtain⟨m,⟨c,e⟩|⟨g,f,k,c,e,_⟩⟩:=h
 ·rw[d]at c
  injection c with h1 h2 h3;subst h1;refine⟨fun _=>⟨h3,List.length_eq_zero_iff.1 e⟩,fun o h=>by cases h⟩
 ·rw[d]at c
  injection c with h1 h2 h3;subst h1;exact⟨fun h=>(by cases h),fun o h=>by injection h with h;subst h;exact e⟩
end
section
open Go.Lib (hid)
open Go.Proofs.Tryz Go.RowKit
open Nat (le_refl zero_add)
theorem GF{W0:World}{F B mb:Nat}(n most:Nat)(ih:Br W0 F B mb n most)(s:St)(row:List Ev)(w:World)(b tb:Nat)(a:Option Addr)(cap a5:Nat)(Z:Option Addr)(u:Nat)(x:SumV)(ok:s.Ok F)(A:s.all≠[])(hf:s.fuel<=n+1)(hl:row.length+(n+1)<=100)(hr:dv w b tb a cap a5 s)(am:dI W0 a s.p.threads)(N:Below W0.heap.size W0 w)(aE:W0.heap.size<=mb)(he:ei w Z row)(aF:Z=none->u=0/\row=[])(bb:∀o,Z=some o->o.block≠mb)
  (hs:eJ w mb B x) (hb:kp x) (hB:B<=w.heap.size) (hm:mb<B) (aG:b≠mb) (aH:tb≠mb) (hx:x.c<most) (bG:most<=1000):
  Calls prog 32 #[.pointer (some ⟨mb,0,none⟩),.pointer (some ⟨b,0,none⟩),.slice Z row.length u,.int .i64 (most:Int)] w fun r w'=>r=.returned (.tuple #[])/\∃y,eJ w' mb B y/\kj (n+1) s row most x y/\Only mb w w':=by
 obtain⟨ka,kc,⟨c0,c1,c2,c3⟩,⟨f0,f1,f2,f3⟩,_⟩:=hs.cells;have aI:Hid (eJ (w.setCell ⟨mb,2,none⟩ (.int .i64 ((x.c:Int)+1))) mb B { x with c:=x.c+1 }):=hs.setC hm (x.c+1);have hw:IntKind.i64.wrap ((x.c:Int)+1)=(x.c:Int)+1:=IntWalk.i64_in _ (by omega);have hq:decide ((most:Int)<(x.c:Int)+1)=false:=by simp;omega
 have ab:Hid (Only mb w (w.setCell ⟨mb,2,none⟩ (.int .i64 ((x.c:Int)+1)))):=(Only.refl mb w).setCell 2 _;have aJ:=hid hr;have bc:=hr.lt;have aK:Hid (∀W,Only mb w W->dI W a s.p.threads):=fun W ho=>am.later (N.trans (ho.below aE N.size))
 have bd:=hid am;have be:Hid (∀W,Only mb w W->Below W0.heap.size W0 W):=fun W ho=>N.trans (ho.below aE N.size)
 have bf:Hid (∀W,Only mb w W->ei W Z row):=fun W ho=>he.onlyB ho bb
 have an:=hid aF;have ao:=hid ok;have bg:=hid ih;have bh:=hid A;have bi:=hb.1;have bj:=hb.2.1;have bk:=hb.2.2;have ap:(w.setCell ⟨mb,2,none⟩ (.int .i64 ((x.c:Int)+1))).heap.size=w.heap.size:=by simp[World.setCell]
 have h4:=ok.len4;have bl:s.all.length<=4:=Nat.le_trans s.all_len h4;have bm:Hid (1<=s.ts.length):=by have h1:=s.all_len;have h2:=List.length_pos_iff.2 A;show _<=_;omega
 have bL:((s.all.length:Int)==0)=false:=by have:=List.length_pos_iff.2 A;simp;exact A
 have bM:mb<w.heap.size:=by omega
 clear hs hr am he ok A N ih aF hb;go_enter func32,ntmps32;go_wp2_with fail;generalize w.setCell ⟨mb,2,none⟩ (.int .i64 ((x.c:Int)+1))=W1 at *;refine(wO (aJ.out.only ab.out aG aH) (aK.out W1 ab.out) ao.out).mono ?_;rintro r W2⟨va,rfl,aq,G⟩;obtain⟨aa,ca,rfl,_,_⟩:=dC.form aq (by omega);have aL:=hid aq;have bn:Hid (Only mb w W2):=ab.out.trans (.of_below G);have bo:=hid (aI.out.later G);have ar:=G.size;clear aI ab aq c0 c1 c2 c3 f0 f1 f2 f3 G;go_wp2_with fail
 go_loopw [13] (fun i wr=>∃(j:Nat) (y:SumV),j<=s.all.length/\i=.int .i64 j/\Hid (lz n s row most { x with c:=x.c+1 } j y)/\Hid (eJ wr mb B y)/\Hid (Only mb w wr)/\Hid (Only mb W2 wr)) (fun i _=>s.all.length-(intOf i).toNat)
 case atStart=>exact⟨0,_,Nat.zero_le _,rfl,GJ (by show x.c+1<=most;omega) (A6 ⟨bi,bj,bk⟩),bo.out,bn.out,Only.refl _ _⟩
 case round=>
  obtain⟨j,y,hj,rfl,HJ,au,D,H⟩:=hrel;have bN:=D.out.size;have bH:=H.out.size
  by_cases O:j<s.all.length
  ·have ag:=List.getElem_mem O
   obtain⟨e,s1,P,bp⟩:=rL ag;have X:Hid (∀z,kj n s1 (row++[e]) most y z->lz n s row most { x with c:=x.c+1 } (j+1) z):=fun z hz=>GK HJ.out O P hz
   have aM:∀g,(Value.slice aa s.all.length ca).ownBlock=some g->¬g=mb:=by
    intro g hg;have:=(World.ownsRow.lt aL.out g hg).1;omega
   obtain⟨_,_,bq,aN,_⟩:=dC.form (aL.out.onlyS (OnlyS.of_only (S:=fun k=>k=mb) H.out rfl) aM) (by omega);injection bq with hv1 _ hv3;subst hv1 hv3;obtain⟨ba,oa,rfl,aO⟩:=aN.2 (by intro e;rw[e]at O;simp at O);have ct:=aO j O;have aP:=hid P;have ah:s1.Ok F:=by have h:=ao.out.step_ok s.all[j];rw[P]at h;exact h
   have aQ:s1.p=s.p:=by
    have h:(s.step s.all[j]).2.2.p=s.p:=by
     rcases s.step_cases s.all[j]with ⟨i,_,_,e⟩|⟨e,_,e'⟩
     ·rw[e];rfl
     ·rw[e']
    rw[P]at h;exact h
   have ai:=hid ah;have aR:=hid aQ;have br:=hid (aJ.out.only D.out aG aH);have aS:Hid (y.c<=5000):=by have:=HJ.out.2.2.1;show _<=_;omega
   have aT:Hid (kp y):=HJ.out.2.2.2;clear aO aN aM P ag ah aQ;generalize s.all[j]=t at *;go_wp2_with fail;refine(Fc br.out bm.out h4).mono ?_;rintro r W3⟨nb,bs,bu,rfl,aU,aj,aV,m⟩;have aW:=hid aV;have aX:Hid (Only mb w W3):=D.out.trans (.of_below m);have av:=m.size;have bv:=de m ct;clear aV;go_wp2_with fail;refine(EP aW.out (aK.out W3 aX.out) ao.out t).mono ?_;rintro r C⟨rfl,aw,aY⟩;rw[aP.out]at aw ⊢;rw[qk];have ac:Below wr.heap.size wr C:=m.trans (aY.below aU aj m.size);have aZ:=hid aw;clear aw aY aX aW m bv;go_wp2_with fail;have ax:=hid (eo.new C e);have Q:Below wr.heap.size wr (C.alloc (.cells #[.int .i64 e.thread,.int .i64 e.kind,.int .i64 e.obj,.bool e.fail] 112)):=ac.alloc ac.size _;have a0:=hid (aZ.out.later (da C (.cells #[.int .i64 e.thread,.int .i64 e.kind,.int .i64 e.obj,.bool e.fail] 112)));have bI:C.heap.size<(C.alloc (.cells #[.int .i64 e.thread,.int .i64 e.kind,.int .i64 e.obj,.bool e.fail] 112)).heap.size:=by simp
   have bJ:=ac.size;clear aZ ac;generalize C.alloc (.cells #[.int .i64 e.thread,.int .i64 e.kind,.int .i64 e.obj,.bool e.fail] 112)=d at *;have bK:=Q.size
   obtain⟨I,ad⟩:∃l,l=row++[e]:=⟨_,rfl⟩
   have bw:I.length=row.length+1:=by rw[ad];simp
   have Y:Hid (∀(W:World) (v:Value),Below d.heap.size d W->dr W d.heap.size v (row++[e])->∃a9 c9,v=.slice a9 I.length c9/\Calls prog 32 #[.pointer (some ⟨mb,0,none⟩),.pointer (some ⟨nb,0,none⟩),.slice a9 I.length c9,.int .i64 (most:Int)] W fun r w'=>r=.returned (.tuple #[])/\∃z,eJ w' mb B z/\lz n s row most { x with c:=x.c+1 } (j+1) z/\Only mb w w'/\Only mb W2 w'/\eo w' C.heap.size e):=by
    intro W v ay ak;rw[<-ad]at ak;obtain⟨a9,c9,hv,bx,aD,a6⟩:=Gv ak (by omega);have V:Below wr.heap.size wr W:=Q.trans (ay.mono Q.size);have az:Only mb w W:=D.out.trans (.of_below V);have a8:=ax.out.later ay;refine⟨a9,c9,hv,(bg.out s1 I W nb bs a cap bu a9 c9 y ai.out (by omega) (by omega) (a0.out.later ay) (by rw[aR.out];exact bd.out) (be.out W az) bx aD (fun o h=>by have:=a6 o h;omega) (au.out.later V) aT.out aS.out (by have:=az.size;omega) (by omega) (by omega)).mono ?_⟩;rintro r w'⟨rfl,z,h1,h2,h3⟩;rw[ad]at h2;exact⟨rfl,z,h1,X.out z h2,az.trans h3,(H.out.trans (.of_below V)).trans h3,a8.only h3 (by omega)⟩
   have HQ:Hid (∀W:World,Below d.heap.size d W->W.cell? ⟨C.heap.size,0,none⟩=some (.int .i64 e.thread)/\W.cell? ⟨C.heap.size,1,none⟩=some (.int .i64 e.kind)/\W.cell? ⟨C.heap.size,2,none⟩=some (.int .i64 e.obj)/\W.cell? ⟨C.heap.size,3,none⟩=some (.bool e.fail)):=fun W h=>(ax.out.later h).cells
   have aA:Hid (∀W:World,Below d.heap.size d W->ei W Z row):=fun W h=>bf.out W (D.out.trans (.of_below (Q.trans (h.mono Q.size))))
   have bz:Below d.heap.size d d.drew:=(Below.refl _ _).drew;have ae:Below d.heap.size d (d.alloc (.cells #[] 112)).drew:=(da d _).drew;have bA:Below d.heap.size d (d.alloc (.cells #[.int .i64 e.thread,.int .i64 e.kind,.int .i64 e.obj,.bool e.fail] 112)).drew:=(da d _).drew;have J:Below d.heap.size d ((d.alloc (.cells #[] 112)).alloc (.cells #[.int .i64 e.thread,.int .i64 e.kind,.int .i64 e.obj,.bool e.fail] 112)).drew:=(eH d _ _).drew;have L:Below d.heap.size d ((d.alloc (.cells #[.int .i64 e.thread,.int .i64 e.kind,.int .i64 e.obj,.bool e.fail] 112)).alloc (.cells #[] 112)).drew:=(eH d _ _).drew;have R:=hid (vo d e);have aB:([]:List Ev).length+row.length<=1000000:=by simp;omega
   have al:row.length+[e].length<=1000000:=by simp;omega
   clear ad bw ax a0 aP bp X aS aT au D H ai aR aU aj ct bc;go_wp2_with fail
   go_region_held3 (fun W=>W.cell? ⟨C.heap.size,0,none⟩=some (.int .i64 e.thread)/\W.cell? ⟨C.heap.size,1,none⟩=some (.int .i64 e.kind)/\W.cell? ⟨C.heap.size,2,none⟩=some (.int .i64 e.obj)/\W.cell? ⟨C.heap.size,3,none⟩=some (.bool e.fail))
    (first|exact HQ.out _ bz|exact HQ.out _ ae|exact HQ.out _ bA|exact HQ.out _ J|exact HQ.out _ L|exact HQ.out _ f|exact HQ.out _ (f.alloc f.size _)|exact HQ.out _ af|exact bB.out)
    (first
     |(refine oC (w:=(d.alloc (.cells #[] 112)).drew) (by rfl) (.tmp 98) (.tmp 99) (by rfl) d.heap.size _ [] (by rfl) R.out.a Z u row (by rfl) (aA.out _ ae) an.out aB ae.size ?_;intro v6 M h6 q E;have H6:Hid (dr M d.heap.size v6 row):=h6;have f:Below d.heap.size d M:=ae.trans q;clear h6 q E)
     |(refine oC (w:=((d.alloc (.cells #[] 112)).alloc (.cells #[.int .i64 e.thread,.int .i64 e.kind,.int .i64 e.obj,.bool e.fail] 112)).drew) (by rfl) (.tmp 98) (.tmp 99) (by rfl) d.heap.size _ [] (by rfl) R.out.b Z u row (by rfl) (aA.out _ J) an.out aB J.size ?_;intro v6 M h6 q E;have H6:Hid (dr M d.heap.size v6 row):=h6;have f:Below d.heap.size d M:=J.trans q;have a1:=hid (R.out.bt.grown E (by simp[Value.ownBlock]));clear h6 q E)
     |(refine oC (w:=((d.alloc (.cells #[.int .i64 e.thread,.int .i64 e.kind,.int .i64 e.obj,.bool e.fail] 112)).alloc (.cells #[] 112)).drew) (by rfl) (.tmp 98) (.tmp 99) (by rfl) d.heap.size _ [] (by rfl) R.out.c Z u row (by rfl) (aA.out _ L) an.out aB L.size ?_;intro v6 M h6 q E;have H6:Hid (dr M d.heap.size v6 row):=h6;have f:Below d.heap.size d M:=L.trans q;have a1:=hid (R.out.ct.grown E (by simp[Value.ownBlock]));clear h6 q E)
     |(refine oC (w:=M) (by rfl) (.tmp 100) (.tmp 102) (by rfl) d.heap.size _ row (by rfl) H6.out (some ⟨_,0,none⟩) 1 [e] (by rfl) a1.out (by intro h;cases h) al f.size ?_;intro v7 w7 h7 T _;have af:Below d.heap.size d w7:=f.trans T;obtain⟨a7,c7,aC,U⟩:=Y.out w7 v7 af h7;subst aC;have a2:=hid U;clear h7 T U)
     |(refine oC (w:=M.alloc (.cells #[.int .i64 e.thread,.int .i64 e.kind,.int .i64 e.obj,.bool e.fail] 112)) (by rfl) (.tmp 100) (.tmp 102) (by rfl) d.heap.size _ row (by rfl) (dr.alloc H6.out _) (some ⟨M.heap.size,0,none⟩) 1 [e] (by rfl) (uw M e) (by intro h;cases h) al (f.alloc f.size _).size ?_;intro v7 w7 h7 T _;have af:Below d.heap.size d w7:=(f.alloc f.size _).trans T;obtain⟨a7,c7,aC,U⟩:=Y.out w7 v7 af h7;subst aC;have a2:=hid U;clear h7 T U)
     |(go_at_call 32;((with_reducible refine a2.out.mono ?_);rintro r w8⟨rfl,z,ap,ar,av,a3,a4⟩;have bC:=hid ap;have bD:=hid ar;have bE:=hid av;have bF:=hid a3;have bB:=hid a4.cells;clear ap ar av a3 a4)))
   all_goals go_wp2_with fail
   all_goals go_roundw
   all_goals first
    |exact⟨j+1,z,by omega,by go_num,bD.out,bC.out,bE.out,bF.out⟩
    |(simp[intOf];omega)
  ·obtain rfl:j=s.all.length:=by omega
   have HP:=hid (GL hx bh.out bl HJ.out);go_wp2_with fail
   go_end0
   exact⟨rfl,_,au.out,HP.out,D.out⟩
theorem GI{W0:World}{F B mb most:Nat}(q:W0.heap.size<=mb)(u:mb<B)(e:most<=1000):∀n,Br W0 F B mb n most:=by
 intro n
 induction n with
 |zero=>
  intro s g w b z a i f r d x A G H C j k D y l t hb v E m o
  by_cases h:x.c<most
  ·exact xS 0 most s g w b z a i f r d x A (Bd (by omega)) C j k q D l t hb v E u m o h e
  ·exact xR 0 most s g w b r d x u t hb v (by omega)
 |succ n I=>
  intro s g w b z a i f r d x A G H C j k D y l t hb v E m o
  by_cases h:x.c<most
  ·by_cases p:s.all=[]
   ·exact xS (n+1) most s g w b z a i f r d x A p C j k q D l t hb v E u m o h e
   ·exact GF n most I s g w b z a i f r d x A p G H C j k q D y l t hb E u m o h e
  ·exact xR (n+1) most s g w b r d x u t hb v (by omega)
def jR:Value:=.agg #[.slice none 0 0,.int .i64 0,.int .i64 0,.int .i64 0]
def mc(w:World)(B:Nat)(v:Value)(ks:List dk):Prop:=dc w B 9 1 du v ks
theorem mc.base{w:World}{B B':Nat}{v:Value}{ks:List dk}(h:mc w B v ks)(hb:B'<=B):mc w B' v ks:=by
 obtain⟨d,a|⟨g,b,c,a,f,e⟩⟩:=h
 ·exact⟨d,.inl a⟩
 ·exact⟨d,.inr ⟨g,b,c,a,by omega,e⟩⟩
def pT(p:Pg)(fuel:Int)(most:Nat)(w:World)(r:Ending)(w':World):Prop:=
 (if gA p fuel then (dM p fuel<=most/\∃v,r=.returned (.tuple #[.agg #[v,.int .i64 ((ek p fuel).length:Nat),.int .i64 (dM p fuel:Nat),.int .i64 (iN (ek p fuel):Nat)],.int .i64 0])/\mc w' w.heap.size v (dG (eD (ek p fuel))))∨(most<dM p fuel/\r=.returned (.tuple #[jR,.int .i64 5]))
 else r=.returned (.tuple #[jR,.int .i64 1]))/\Below w.heap.size w w'
theorem C5(w:World)(o:Obj):∀j,j<4->((w.alloc o).alloc (.cells #[.slice none 0 0,.int .i64 0,.int .i64 0,.int .i64 0] 32)).cell? ⟨w.heap.size+1,j,none⟩=#[Value.slice none 0 0,.int .i64 0,.int .i64 0,.int .i64 0][j]?/\((w.alloc o).alloc (.cells #[.slice none 0 0,.int .i64 0,.int .i64 0,.int .i64 0] 32)).frozen? ⟨w.heap.size+1,j,none⟩=false:=by
 intro j a;have h:=heap_alloc_new (w.alloc o) (.cells #[.slice none 0 0,.int .i64 0,.int .i64 0,.int .i64 0] 32);rw[World.size_alloc]at h;refine⟨?_,?_⟩
 ·unfold World.cell?
  dsimp only;rw[h];rfl
 ·unfold World.frozen?
  dsimp only;rw[h];rfl
def lH(w:World)(g:Nat)(v0 v1 v2 a:Value):World:=(((w.setCell ⟨g,0,none⟩ v0).setCell ⟨g,1,none⟩ v1).setCell ⟨g,2,none⟩ v2).setCell ⟨g,3,none⟩ a
theorem El{w:World}{B g:Nat}{v:Value}{ks:List dk}(h:mc w B v ks)(b:g<B)(v0 v1 v2 c:Value):mc (lH w g v0 v1 v2 c) B v ks:=
 ownsRow_setCell_below (a:=⟨g,3,none⟩) (ownsRow_setCell_below (a:=⟨g,2,none⟩) (ownsRow_setCell_below (a:=⟨g,1,none⟩) (ownsRow_setCell_below (a:=⟨g,0,none⟩) h b v0) b v1) b v2) b c
theorem Ff(p:Pg)(a:Option Addr)(cap:Nat)(fuel:Int)(most:Nat)(w:World)(hp:dI w a p.threads)(D:most<=1000):
  Calls prog 13 #[.agg #[.int .i64 p.vars,.int .i64 p.mutexes,.slice a p.threads.length cap],.int .i64 fuel,.int .i64 (most:Int)] w (pT p fuel most w):=by
 have HP:=hid hp;clear hp;go_enter func13,ntmps13;go_wp2_with fail;have i:Below w.heap.size w ((w.alloc (.cells #[.int .i64 p.vars,.int .i64 p.mutexes,.slice a p.threads.length cap] 24)).alloc (.cells #[.slice none 0 0,.int .i64 0,.int .i64 0,.int .i64 0] 32)):=eH w _ _;have ai:((w.alloc (.cells #[.int .i64 p.vars,.int .i64 p.mutexes,.slice a p.threads.length cap] 24)).alloc (.cells #[.slice none 0 0,.int .i64 0,.int .i64 0,.int .i64 0] 32)).heap.size=w.heap.size+2:=by rw[World.size_alloc,World.size_alloc]
 have d:=C5 w (.cells #[.int .i64 p.vars,.int .i64 p.mutexes,.slice a p.threads.length cap] 24);generalize ((w.alloc (.cells #[.int .i64 p.vars,.int .i64 p.mutexes,.slice a p.threads.length cap] 24)).alloc (.cells #[.slice none 0 0,.int .i64 0,.int .i64 0,.int .i64 0] 32))=m at *
 have J:Hid (∀W,Below m.heap.size m W->(W.cell? ⟨w.heap.size+1,0,none⟩=some (.slice none 0 0)/\W.cell? ⟨w.heap.size+1,1,none⟩=some (.int .i64 0)/\W.cell? ⟨w.heap.size+1,2,none⟩=some (.int .i64 0)/\W.cell? ⟨w.heap.size+1,3,none⟩=some (.int .i64 0))/\W.frozen? ⟨w.heap.size+1,0,none⟩=false/\W.frozen? ⟨w.heap.size+1,1,none⟩=false/\W.frozen? ⟨w.heap.size+1,2,none⟩=false/\W.frozen? ⟨w.heap.size+1,3,none⟩=false):=fun W h=>
  have T:w.heap.size+1<m.heap.size:=by omega
  ⟨⟨de h (d 0 (by omega)).1,de h (d 1 (by omega)).1,de h (d 2 (by omega)).1,de h (d 3 (by omega)).1⟩,(h.frozen (p:=⟨w.heap.size+1,0,none⟩) T).trans (d 0 (by omega)).2,(h.frozen (p:=⟨w.heap.size+1,1,none⟩) T).trans (d 1 (by omega)).2,(h.frozen (p:=⟨w.heap.size+1,2,none⟩) T).trans (d 2 (by omega)).2,(h.frozen (p:=⟨w.heap.size+1,3,none⟩) T).trans (d 3 (by omega)).2⟩
 have j:Hid (∀v0 v1 v2 v3 (W:World),Below m.heap.size m W->Below w.heap.size w (lH W (w.heap.size+1) v0 v1 v2 v3)):=fun v0 v1 v2 v3 W h=>
  ((((i.trans (h.mono i.size)).setCell (p:=⟨w.heap.size+1,0,none⟩) (by show _<=w.heap.size+1;omega) _).setCell (p:=⟨w.heap.size+1,1,none⟩) (by show _<=w.heap.size+1;omega) _).setCell (p:=⟨w.heap.size+1,2,none⟩) (by show _<=w.heap.size+1;omega) _).setCell (p:=⟨w.heap.size+1,3,none⟩) (by show _<=w.heap.size+1;omega) _
 have g:Hid (∀r w',pT p fuel most w r w'↔(if gA p fuel then (dM p fuel<=most/\∃v,r=.returned (.tuple #[.agg #[v,.int .i64 ((ek p fuel).length:Nat),.int .i64 (dM p fuel:Nat),.int .i64 (iN (ek p fuel):Nat)],.int .i64 0])/\mc w' w.heap.size v (dG (eD (ek p fuel))))∨(most<dM p fuel/\r=.returned (.tuple #[jR,.int .i64 5]))
  else r=.returned (.tuple #[jR,.int .i64 1]))/\Below w.heap.size w w'):=fun _ _=>Iff.rfl
 clear d
 by_cases n:gA p fuel
 ·obtain⟨U,h0,h8⟩:=n
  obtain⟨F,rfl⟩:∃F:Nat,fuel=F:=⟨fuel.toNat,by omega⟩
  have L:Hid (gA p (F:Int)):=⟨U,h0,h8⟩
  have M:Hid (St.Ok F (s0 p (F:Int))):=by have h:=lN U F (by omega);exact h
  refine(E4 p a cap F m (HP.out.later i) U (by omega)).mono ?_;rintro r f⟨b,tb,s,rfl,hb,aj,u,e⟩;have aa:Hid (dv f b tb a cap s (s0 p (F:Int))):=u;have ak:=u.lt;have ab:=hid ((HP.out.later i).later e);clear u U h0 h8;go_wp2_with fail
  have N:eJ (f.alloc (.cells #[.slice none 0 0,.int .i64 0,.int .i64 0,.int .i64 0] 32)) f.heap.size (f.heap.size+1) ⟨[],0,0,0⟩:=⟨none,0,heap_alloc_new f _,iF _ _ _ _ _⟩
  have x:=da f (.cells #[.slice none 0 0,.int .i64 0,.int .i64 0,.int .i64 0] 32);have al:(f.alloc (.cells #[.slice none 0 0,.int .i64 0,.int .i64 0,.int .i64 0] 32)).heap.size=f.heap.size+1:=World.size_alloc _ _;generalize f.alloc (.cells #[.slice none 0 0,.int .i64 0,.int .i64 0,.int .i64 0] 32)=W4 at *;have hf:=mE M.out
  have O:kp ⟨[],0,0,0⟩:=⟨le_refl _,le_refl _,le_refl _⟩
  have V:=hid (GI (W0:=f) (F:=F) (B:=f.heap.size+1) (mb:=f.heap.size) (most:=most) (le_refl _) (Nat.lt_succ_self _) D 33 (s0 p (F:Int)) [] W4 b tb a cap s none 0 ⟨[],0,0,0⟩ M.out (by omega) (by simp) (aa.out.later x) ab.out x (Ab _ _) (fun _=>⟨rfl,rfl⟩) (fun o h=>by cases h) N O (by simp) (by omega) (by omega) (by omega));have ac:([]:List Ev).length=0:=rfl;rw[ac]at V;clear N O;refine V.out.mono ?_;rintro r t⟨rfl,y,z,ad,ae⟩;have A:Below m.heap.size m t:=e.trans ((x.trans (ae.below (le_refl _) (by omega))).mono e.size);have af:dM p (F:Int)=(s0 p (F:Int)).pre 33:=rfl;obtain⟨E,G,_,_,_⟩:=ad;rw[<-af]at E G;dsimp only at E G;rw[zero_add]at E G;obtain⟨H,I,⟨d0,d1,d2,d3⟩,⟨g0,g1,g2,g3⟩,l⟩:=z.cells;obtain⟨⟨X,Y,Z,x3⟩,f0,f1,f2,f3⟩:=J.out t A;have am:f.heap.size≠w.heap.size+1:=by have:=e.size;omega
  by_cases C:dM p (F:Int)<=most
  ·obtain⟨e1,e2,e3,e4⟩:=E C
   have P:y.k=dG (eD (ek p (F:Int))):=by rw[e2];exact sT _
   have Q:y.r=(ek p (F:Int)).length:=by rw[e3];exact zero_add _
   have R:y.st=iN (ek p (F:Int)):=by rw[e4];exact zero_add _
   have hq:decide (most<y.c)=false:=by simp;omega
   have ag:Hid (mc t (f.heap.size+1) (.slice H y.k.length I) y.k):=l
   have q:Hid (pT p (F:Int) most w (.returned (.tuple #[.agg #[.slice H y.k.length I,.int .i64 (y.r:Int),.int .i64 (y.c:Int),.int .i64 (y.st:Int)],.int .i64 0])) (lH t (w.heap.size+1) (.slice H y.k.length I) (.int .i64 (y.r:Int)) (.int .i64 (y.c:Int)) (.int .i64 (y.st:Int)))):=by
    refine(g.out _ _).2 ⟨?_,j.out _ _ _ _ t A⟩;rw[if_pos L.out];refine .inl ⟨C,.slice H y.k.length I,by rw[Q,R,e1],?_⟩;rw[<-P];exact(El ag.out (by have:=e.size;omega) _ _ _ _).base (by have:=e.size;omega)
   unfold lH at q;clear z E G l e1 e2 e3 e4 P Q R C g;go_wp2_with fail;refine bodyPost_ret (v:=.tuple #[.agg #[.slice H y.k.length I,.int .i64 (y.r:Int),.int .i64 (y.c:Int),.int .i64 (y.st:Int)],.int .i64 0]) (by simp[results,results13,go_sem,X,Y,Z,x3]) rfl ?_;exact q.out
  ·have S:=G (by omega)
   have hq:decide (most<y.c)=true:=by simp;omega
   have q:Hid (pT p (F:Int) most w (.returned (.tuple #[jR,.int .i64 5])) (lH t (w.heap.size+1) (.slice none 0 0) (.int .i64 0) (.int .i64 0) (.int .i64 0))):=by
    refine(g.out _ _).2 ⟨?_,j.out _ _ _ _ t A⟩;rw[if_pos L.out];exact .inr ⟨by omega,rfl⟩
   unfold lH at q;clear z E G l S g;go_wp2_with fail;refine bodyPost_ret (v:=.tuple #[jR,.int .i64 5]) (by simp[results,results13,go_sem,jR,X,Y,Z,x3]) rfl ?_;exact q.out
 ·have V:=hid (E5 p a cap fuel m (HP.out.later i) n)
  have ah:=hid n;clear n;refine V.out.mono ?_;rintro r f⟨rfl,e⟩;obtain⟨⟨X,Y,Z,x3⟩,f0,f1,f2,f3⟩:=J.out f e
  have q:Hid (pT p fuel most w (.returned (.tuple #[jR,.int .i64 1])) (lH f (w.heap.size+1) (.slice none 0 0) (.int .i64 0) (.int .i64 0) (.int .i64 0))):=by
   refine(g.out _ _).2 ⟨?_,j.out _ _ _ _ f e⟩;rw[if_neg ah.out]
  unfold lH at q;clear g;go_wp2_with fail;refine bodyPost_ret (v:=.tuple #[jR,.int .i64 1]) (by simp[results,results13,go_sem,jR,X,Y,Z,x3]) rfl ?_;exact q.out
def kG(p:Pg):Bool:=p.threads.all (fun l=>decide (l.length<=50))&&decide (p.threads.length<=20)
theorem Le(p:Pg)(a:Option Addr)(cap:Nat)(w:World)(j:dI w a p.threads):
  Calls prog 25 #[kw p a cap] w fun r u=>r=.returned (.bool (kG p))/\Below w.heap.size w u:=by
 obtain⟨V,M,d⟩:=p;unfold kw;dsimp only at *;have v:=j.1;unfold maxLen at v;have x:=hid j;clear j;go_enter func25,ntmps25;go_wp2
 go_loop [3] (fun i=>∃k:Nat,k<=d.length/\i=.int .i64 k/\Hid ((d.take k).all (fun l=>decide (l.length<=50))=true)) (fun i=>d.length-(intOf i).toNat)
 case atStart=>exact⟨0,Nat.zero_le _,rfl,rfl⟩
 case round=>
  obtain⟨k,B,rfl,f⟩:=hrel
  by_cases g:k<d.length
  ·obtain⟨b,o,rfl,q⟩:=x.out.2 (by intro e;simp[e]at g)
   obtain⟨c,t,y,s,_⟩:=q k g;have z:=fs y;dsimp only at z;have m:(d.take (k+1))=d.take k++[d[k]]:=List.take_succ_eq_append_getElem g;have n:=s.1;unfold maxLen at n;clear s q
   by_cases A:50<d[k].length
   ·have h:Hid (kG ⟨V,M,d⟩=false):=by
     show _=_;unfold kG;dsimp only;rw[Bool.and_eq_false_iff,List.all_eq_false];exact .inl ⟨d[k],List.getElem_mem _,by simp;omega⟩
    clear m;go_wp2;go_ret;exact⟨dE h.out.symm,da _ _⟩
   ·have h:Hid ((d.take (k+1)).all (fun l=>decide (l.length<=50))=true):=by
     show _=_;rw[m,List.all_append,f.out];simp;omega
    clear m;go_wp2
    go_round
    case rel=>exact⟨k+1,by omega,by go_num,h⟩
    case measure=>simp[intOf];omega
  ·obtain rfl:k=d.length:=by omega
   have h:Hid (kG ⟨V,M,d⟩=decide (d.length<=20)):=by
    show _=_;have:=f.out;rw[List.take_length]at this;unfold kG;dsimp only;rw[this,Bool.true_and]
   go_wp2;go_ret;exact⟨dE (by rw[h.out];simp;omega),da _ _⟩
def jF(p:Pg)(fuel:Int):Bool:=kG p&&dL p&&decide (0<=fuel/\fuel<=8)&&decide (dM p fuel<=600)
theorem DJ{p:Pg}{fuel:Int}(h:jF p fuel=true):kG p=true/\gA p fuel/\dM p fuel<=600:=by
 unfold jF at h;simp only[Bool.and_eq_true,decide_eq_true_eq]at h;exact⟨h.1.1.1,⟨h.1.1.2,h.1.2⟩,h.2⟩
theorem DK(p:Pg)(a:Option Addr)(cap:Nat)(fuel:Int)(w:World)(o:dI w a p.threads):
  Calls prog 11 #[.agg #[.int .i64 p.vars,.int .i64 p.mutexes,.slice a p.threads.length cap],.int .i64 fuel] w fun r j=>r=.returned (.bool (jF p fuel))/\Below w.heap.size w j:=by
 have J:=hid o;have L:Hid (∀W,Below w.heap.size w W->Calls prog 25 #[.agg #[.int .i64 p.vars,.int .i64 p.mutexes,.slice a p.threads.length cap]] W fun r j=>r=.returned (.bool (kG p))/\Below W.heap.size W j):=fun W h=>Le p a cap W (o.later h)
 have M:Hid (∀W,Below w.heap.size w W->Calls prog 26 #[.agg #[.int .i64 p.vars,.int .i64 p.mutexes,.slice a p.threads.length cap]] W fun r j=>r=.returned (.bool (dL p))/\Below W.heap.size W j):=fun W h=>sM p a cap W (o.later h)
 have k:Hid (jF p fuel=(kG p&&dL p&&decide (0<=fuel/\fuel<=8)&&decide (dM p fuel<=600))):=rfl;have g:Below w.heap.size w (w.alloc (.cells #[.int .i64 p.vars,.int .i64 p.mutexes,.slice a p.threads.length cap] 24)):=da w _;clear o;go_enter func11,ntmps11;go_wp2_with fail;refine(L.out _ g).mono ?_;rintro r t⟨rfl,d⟩;have e:=g.trans (d.mono g.size);have B:t.cell? ⟨w.heap.size,0,none⟩=some (.int .i64 p.vars):=de d (by simp);have C:t.cell? ⟨w.heap.size,1,none⟩=some (.int .i64 p.mutexes):=de d (by simp);have D:t.cell? ⟨w.heap.size,2,none⟩=some (.slice a p.threads.length cap):=de d (by simp);clear g
 cases q:kG p
 ·have c:Hid (jF p fuel=false):=by show _=_;rw[k.out,q];rfl
  clear q;go_wp2_with fail;go_ret;exact⟨dE c.out.symm,e⟩
 ·have x:=hid q
  clear q;go_wp2_with fail;refine(M.out _ e).mono ?_;rintro r N⟨rfl,f⟩;have b:=e.trans (f.mono e.size);have d2:=de f B;have d3:=de f C;have d4:=de f D;clear d e f B C D
  cases s:dL p
  ·have c:Hid (jF p fuel=false):=by show _=_;rw[k.out,s];simp
   clear s;go_wp2_with fail;go_ret;exact⟨dE c.out.symm,b⟩
  ·have m:=hid s
   clear s
   by_cases E:fuel<0
   ·have O:decide (fuel<0)=true:=by simpa using E
    have c:Hid (jF p fuel=false):=by show _=_;rw[k.out];simp;intro _ _ h;omega
    go_wp2_with fail
    go_ret;exact⟨dE c.out.symm,b⟩
   ·have O:decide (fuel<0)=false:=by simpa using E
    by_cases F:8<fuel
    ·have P:decide (8<fuel)=true:=by simpa using F
     have c:Hid (jF p fuel=false):=by show _=_;rw[k.out];simp;intro _ _ _ h;omega
     go_wp2_with fail
     go_ret;exact⟨dE c.out.symm,b⟩
    ·have P:decide (8<fuel)=false:=by simpa using F
     have y:Hid (gA p fuel):=⟨m.out,by omega,by omega⟩
     have z:=hid (Ff p a cap fuel 600 N (J.out.later b) (by omega))
     have G:Hid (jF p fuel=decide (dM p fuel<=600)):=by
      show _=_;rw[k.out,x.out,m.out];have:decide (0<=fuel/\fuel<=8)=true:=by simp;omega
      rw[this];rfl
     go_wp2_with fail
     refine z.out.mono ?_;rintro r H⟨h,A⟩;rw[if_pos y.out]at h;have i:=b.trans (A.mono b.size);have n:=i.size;rcases h with ⟨l,v,rfl,I⟩|⟨l,rfl⟩
     ·have c:Hid (jF p fuel=true):=by show _=_;rw[G.out];simpa using l
      obtain⟨Q,R,rfl,_⟩:=dc.form I fP (by have:=wj (eD (ek p fuel));have:(eD (ek p fuel)).length=(ek p fuel).length:=List.length_map _;have:=wB 33 (s0 p fuel) [];unfold dM at l;unfold ek at *;omega);clear l I;generalize (dG (eD (ek p fuel))).length=S at *;generalize (ek p fuel).length=T at *;generalize iN (ek p fuel)=U at *;generalize dM p fuel=V at *;have u:Hid (Below w.heap.size w (H.alloc (.cells #[.slice Q S R,.int .i64 (T:Int),.int .i64 (V:Int),.int .i64 (U:Int)] 32))):=i.alloc n _;go_wp2_with fail;go_ret;exact⟨dE c.out.symm,u.out⟩
     ·have c:Hid (jF p fuel=false):=by show _=_;rw[G.out];simp;omega
      have u:Hid (Below w.heap.size w (H.alloc (.cells #[.slice none 0 0,.int .i64 0,.int .i64 0,.int .i64 0] 32))):=i.alloc n _;unfold jR;clear l;go_wp2_with fail;go_ret;exact⟨dE c.out.symm,u.out⟩
end
section
open Go.RowKit
theorem Jy{p:Pg}{fuel:Int}{n:Nat}(h:dM p fuel<=n):(dG (eD (ek p fuel))).length<=n/\(ek p fuel).length<=n/\iN (ek p fuel)<=n:=by
 have a:=wj (eD (ek p fuel));have b:(eD (ek p fuel)).length=(ek p fuel).length:=List.length_map _;have c:(ek p fuel).length<=dM p fuel:=wB 33 (s0 p fuel) []
 have d:iN (ek p fuel)<=(ek p fuel).length:=by
  unfold iN;exact Nat.le_trans (List.length_filter_le _ _) (Nat.le_refl _)
 omega
end
end Go.Proofs.YtjfmmnhcddckaaaGreat
