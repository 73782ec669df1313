import Derived.Shelf.SortG.Plain
import Derived.Shelf.SlicesG.In.CompactS
import Derived.Shelf.SortG.SortNone
import Derived.Sort.OwnSorted
import Derived.Sort.EveryDepth
import Derived.Test.YtjfmmnhcddckaaaGreatPk16
set_option maxRecDepth 100000
set_option maxHeartbeats 16000000
namespace Go.Proofs.YtjfmmnhcddckaaaGreat
section
open Go.Lib (hid)
open Go.Proofs.Tryz Go.RowKit
open List (getElem_mem length_append length_map length_singleton setIfInBounds_toArray set_cons_succ set_cons_zero)
open Nat (le_trans)
theorem Gx{w:World}{B N cap:Nat}{a:Option Addr}{rs:List (Nat × Int)}{t:TypeId}(h:dc w B t 2 eN (.slice a N cap) rs){k:Nat}(e:k<rs.length):∃g,a=some ⟨g,0,none⟩/\w.cell? ⟨g,k*2,none⟩=some (.int .i64 (rs[k].1:Nat))/\w.cell? ⟨g,k*2+1,none⟩=some (.int .i64 rs[k].2):=by
 obtain⟨o,⟨_,b⟩|⟨g,d,n,f,p,i,q,r,s,l⟩⟩:=h
 ·omega
 ·injection f with e1 e2 e3
  have c:∀j,j<2->w.cell? ⟨g,k*2+j,none⟩=(eN rs[k])[j]?:=by
   intro j m;have b:=ik mv rs k j e m;rw[<-l,List.getElem?_take_of_lt (by omega)]at b;rw[<-b];simp[World.cell?,i]
  exact⟨g,e1,c 0 (by omega),c 1 (by omega)⟩
theorem Ck:168≠137:=by decide
theorem Iu{rs:List (Nat × Int)}{p:List PN}{i:Nat}(a:i<p.length)(b:∀r∈rs,r.1<p.length):((fU p rs).getD i dX).st=(p.getD i dX).st:=by
 rw[yz rs p i a b]
 split <;> rfl
theorem Iw{ps:List (Nat × PN)}{i:Nat}(a:i<ps.length):(ps.map Prod.snd).getD i dX=ps[i].2:=by
 rw[List.getD_eq_getElem?_getD,List.getElem?_map,List.getElem?_eq_getElem a];rfl
theorem yB{w:World}{B c oc F o z:Nat}{pv rv kv:Value}{oa:Option Addr}{ps:List (Nat × PN)}{x:Xp}{s:St}(h:XM w B c pv rv kv oa oc ps x)(hB:B<=w.heap.size)(hs:di w o s)(ok:s.Ok F)(hz:z<256)
  (aV:x.path.length=x.row.length) (b2:x.row.length<=100) (ao:dJ x.row=true) (aW:∀n∈x.path,n.st.Ok F) (hc:x.choices<=100000) (cJ:x.nodes<=100000) (cK:x.runs<=100000) (cL:x.blocked<=100000) (cM:x.keys.length<=100000) (ho:x.order.length<=1000) (bx:∀n∈x.order,0<=n/\n<256):
  Calls prog 51 #[.pointer (some ⟨c,0,none⟩),.pointer (some ⟨o,0,none⟩),.int .u8 (z:Nat)] w fun r w'=>r=.returned (.tuple #[])/\m6 B c oa oc (fY x s z) w'/\Below B w w':=by
 have aJ:ps.length=x.path.length:=by rw[<-h.eq,length_map]
 obtain⟨pa,pc,rfl,_,_⟩:=dc.form2 h.path k6 (by omega);obtain⟨ra,rc,rfl,_,_⟩:=h.row.form2 (by omega);obtain⟨ka,kc,rfl,_,_⟩:=dc.form2 h.keys fP (by omega);rw[aJ]at h;obtain⟨_,_,_,_,_,x5,_⟩:=h.cells;have f5:=h.frozen 5;have a5:=h.ne_st hs;have aw:Hid (XM (w.setCell ⟨c,5,none⟩ (.int .i64 ((x.nodes:Int)+1))) B c (.slice pa x.path.length pc) (.slice ra x.row.length rc) (.slice ka x.keys.length kc) oa oc ps { x with nodes:=x.nodes+1 }):=h.setNodes hB (x.nodes+1);have a6:Hid (di (w.setCell ⟨c,5,none⟩ (.int .i64 ((x.nodes:Int)+1))) o s):=hs.onlyX ((Only.refl c w).setCell 5 _) a5;have bz:Hid (Below B w (w.setCell ⟨c,5,none⟩ (.int .i64 ((x.nodes:Int)+1)))):=(Below.refl B w).setCell (p:=⟨c,5,none⟩) h.low _;obtain⟨_,y1,_⟩:=aw.out.cells;have aK:=hid (wW a6.out ok ok.len4 ra rc x.row (aw.out.row.at_ (by show x.row.length<=_;omega)) (by omega))
 have ap:Hid (iu s.next (iv x.row) s.ts.length=eu x s):=by
  show _=_;unfold iv eu;rw[if_pos ao]
 have cN:(eu x s).length<=400:=by
  have t:=qA s.next x.row s.ts.length;have h2:=ok.len4;have h3:s.ts.length*x.row.length<=4*100:=Nat.mul_le_mul h2 b2;unfold eu;omega
 have bA:Hid (∀r∈eu x s,r.1<x.path.length):=fun r hr=>by rw[aV];exact nt r hr
 have cd:=hid aW;have af:=hid ok;have ce:=hid bx;have cO:=hid a5;have ax:=h.low
 have cf:Hid (x.path.length≠0->∃g,pa=some ⟨g,0,none⟩):=fun hn=>by
  obtain⟨g,bB,e,_⟩:=h.path.block (by intro e;rw[e]at aJ;simp at aJ;omega);injection e with e;exact⟨g,e⟩
 have cP:=aw.out.lt;unfold pU at aK;rw[ap.out]at aK;clear h hs ok ao aW bx ap a5;generalize bC:w.setCell ⟨c,5,none⟩ (.int .i64 ((x.nodes:Int)+1))=W1 at *;have cQ:w.heap.size<=W1.heap.size:=by rw[<-bC];simp[World.setCell]
 have cB:x.path.length<=x.row.length:=by omega
 have cC:x.row.length<=x.path.length:=by omega
 have cD:ps.length<=x.path.length:=by omega
 clear aV aJ;go_enter func51,ntmps51;go_wp2_with fail;refine aK.out.mono ?_;rintro r W2⟨cR,rfl,a7,aL⟩;obtain⟨a2,c2,rfl,_,cS,_⟩:=dc.form2 a7 mv (by omega)
 have b3:Hid (dc W2 B 137 2 eN (.slice a2 (eu x s).length c2) (eu x s)):=by
  obtain⟨k1,k2|⟨g,bB,cg,k2,k3,k4⟩⟩:=a7
  ·exact⟨k1,.inl k2⟩
  ·exact⟨k1,.inr ⟨g,bB,cg,k2,by omega,k4⟩⟩
 have ch:Hid (XM W2 B c (.slice pa x.path.length pc) (.slice ra x.row.length rc) (.slice ka x.keys.length kc) oa oc ps { x with nodes:=x.nodes+1,path:=fU x.path ((eu x s).take 0) }):=aw.out.later aL;have ci:=hid (a6.out.later aL);have bD:Hid (Below B w W2):=bz.out.trans (aL.mono (by omega));clear a7 aL aw a6 bz aK y1 bC;have cT:B<=W2.heap.size:=le_trans hB bD.out.size;go_wp2_with fail
 go_loopw [27] (fun i wr=>∃k:Nat,k<=(eu x s).length/\i=.int .i64 k/\Hid (∃m,XM wr B c (.slice pa x.path.length pc) (.slice ra x.row.length rc) (.slice ka x.keys.length kc) oa oc m { x with nodes:=x.nodes+1,path:=fU x.path ((eu x s).take k) }) /\
  Hid (dc wr B 137 2 eN (.slice a2 (eu x s).length c2) (eu x s))/\Hid (di wr o s)/\Hid (Below B w wr)) (fun i _=>(eu x s).length-(intOf i).toNat)
 case atStart=>exact⟨0,Nat.zero_le _,rfl,⟨ps,ch.out⟩,b3.out,ci.out,bD.out⟩
 case round=>
  obtain⟨k,hk,rfl,bE,ap,HS,HB⟩:=hrel;obtain⟨m,hX⟩:=bE.out;have HX:=hid hX;have cj:B<=wr.heap.size:=le_trans hB HB.out.size;clear hX bE
  by_cases a9:k<(eu x s).length
  ·obtain⟨g2,rfl,cE,_⟩:=Gx ap.out a9
   have ba:=bA.out _ (getElem_mem a9);obtain⟨g,rfl⟩:=cf.out (by omega)
   have bF:Hid (fU x.path ((eu x s).take (k+1))=kC (fU x.path ((eu x s).take k)) (eu x s)[k].1):=by
    show _=_;rw[List.take_succ_eq_append_getElem a9,Iv]
   have ck:m.length=x.path.length:=by
    have:=congrArg List.length HX.out.eq;rw[length_map]at this;rw[this];exact mB _ _
   have aM:=Iu (rs:=(eu x s).take k) ba (fun r hr=>bA.out r (List.mem_of_mem_take hr));have aj:=cd.out _ (by rw[dV dX ba];exact getElem_mem ba:x.path.getD (eu x s)[k].1 dX∈x.path);rw[<-aM]at aj;have ah:(eu x s)[k].1<m.length:=by omega
   have aN:(fU x.path ((eu x s).take k)).getD (eu x s)[k].1 dX=m[(eu x s)[k].1].2:=by
    rw[<-Iw ah,HX.out.eq]
   generalize (eu x s)[k].1=A at *;generalize (eu x s)[k].2=T at *;generalize fU x.path ((eu x s).take k)=MP at *;generalize aX:fU x.path ((eu x s).take (k+1))=bG at *;have cl:=hid aX;clear aX;obtain⟨aE,b4⟩:=HX.out.node ah;rw[<-aN]at aE;have bb:=HX.out.sts _ (getElem_mem ah);rw[<-aN]at bb
   obtain⟨SB,bH⟩:∃SB,SB=m[A].1:=⟨_,rfl⟩
   have aF:=aE;have aG:=bb;rw[<-bH]at aF aG;have bI:=(HX.out.cells).1;have h4:=mS aj;have H:=da wr (.cells #[.int .i64 (A:Nat),.int .i64 T] 137);have d0:=de H bI;have d1:(wr.alloc (.cells #[.int .i64 (A:Nat),.int .i64 T] 137)).cell? ⟨wr.heap.size,0,none⟩=some (.int .i64 (A:Nat)):=by rw[World.cell?_alloc_new];rfl
   have d2:=(aF.later H).c0;have bJ:Hid (∀q,Calls prog 69 #[.pointer (some ⟨SB,0,none⟩)] ((wr.alloc (.cells #[.int .i64 (A:Nat),.int .i64 T] 137)).drewN q) fun r w'=>∃v,r=.returned v/\dC w' ((wr.alloc (.cells #[.int .i64 (A:Nat),.int .i64 T] 137)).drewN q).heap.size v (MP.getD A dX).st.all/\Below ((wr.alloc (.cells #[.int .i64 (A:Nat),.int .i64 T] 137)).drewN q).heap.size ((wr.alloc (.cells #[.int .i64 (A:Nat),.int .i64 T] 137)).drewN q) w'):=fun q=>lu (show di ((wr.alloc (.cells #[.int .i64 (A:Nat),.int .i64 T] 137)).drewN q) SB (MP.getD A dX).st from aG.later H.drewN) aj
   have bK:∀q,Below wr.heap.size wr ((wr.alloc (.cells #[.int .i64 (A:Nat),.int .i64 T] 137)).drewN q):=fun q=>H.drewN
   have bL:=hid bK;have cU:(A:Int)<x.path.length:=by omega
   obtain⟨G,hG⟩:∃G,G=dn (MP.getD A dX).st.all:=⟨_,rfl⟩
   have bM:Hid (∀W,Below wr.heap.size wr W->(∃bc,XM (W.setCell ⟨g,A*4+2,none⟩ (.int .u8 (G:Nat))) B c (.slice (some ⟨g,0,none⟩) x.path.length pc) (.slice ra x.row.length rc) (.slice ka x.keys.length kc) oa oc bc { x with nodes:=x.nodes+1,path:=bG })/\W.frozen? ⟨g,A*4+2,none⟩=false/\(W.cell? ⟨g,A*4+2,none⟩).isSome=true/\dc (W.setCell ⟨g,A*4+2,none⟩ (.int .u8 (G:Nat))) B 137 2 eN (.slice (some ⟨g2,0,none⟩) (eu x s).length c2) (eu x s)/\di (W.setCell ⟨g,A*4+2,none⟩ (.int .u8 (G:Nat))) o s/\Below B w (W.setCell ⟨g,A*4+2,none⟩ (.int .u8 (G:Nat)))):=by
    intro W hb;have t:=HX.out.later hb;have ht:=i6 t.path;have bN:=lj W g (A*4+2) (.int .u8 (G:Nat));have ai:B<=W.heap.size:=le_trans cj hb.size;have cm:B<=g:=(ht g rfl).1;refine⟨⟨m.set A (m[A].1,{ m[A].2 with go:=G }),?_⟩,(t.node ah).2 2 (by omega),?_,fX (ap.out.later hb) bN ht (Ne.symm Ck),iD (HS.out.later hb) bN ht kT,(HB.out.trans (hb.mono (le_trans hB HB.out.size))).setCell (p:=⟨g,A*4+2,none⟩) cm _⟩
    ·have h2:=t.put ai ah 2 (.int .u8 (G:Nat)) (q:={ m[A].2 with go:=G }) rfl (by omega) rfl
     have e:MP.set A { m[A].2 with go:=G }=bG:=by
      rw[bF.out];unfold kC;rw[hG,aN]
     rw[<-e];exact h2
    ·rw[((t.node ah).1).c2];rfl
   clear bF ck aM aN aE b4 bb aG aF bI H bK aj bH HX ah;go_wp2_with fail
   go_quiet (fail)
   go_wp2_with fail
   refine(bJ.out nq).mono ?_;rintro r w3⟨v3,rfl,bO,bP⟩;obtain⟨a3,c3,rfl,bQ,_⟩:=bO.form (by omega)
   have bd:Hid (Calls prog 37 #[.slice a3 (MP.getD A dX).st.all.length c3] w3 fun r w'=>r=.returned (.int .u8 (G:Nat))/\w3=w'):=by
    rw[hG];exact ky a3 c3 _ w3 bQ (by omega)
   have bR:Below wr.heap.size wr w3:=(bL.out nq).trans (bP.mono (bL.out nq).size);obtain⟨⟨bc,bS⟩,g0,g1,be,bf,bg⟩:=bM.out w3 bR;obtain⟨cV,cF⟩:=Option.isSome_iff_exists.1 g1;have cn:=hid bS;have be:=hid be;have bf:=hid bf;have bg:=hid bg;clear bS bO bP bQ bJ bM hG g1 bR;generalize (MP.getD A dX).st.all=AL at *;go_wp2_with fail;refine bd.out.mono ?_;rintro r w'⟨rfl,rfl⟩;go_wp2
   go_roundw
   case rel=>exact⟨k+1,by omega,by go_num,⟨bc,by rw[cl.out];exact cn.out⟩,be,bf,bg⟩
   case measure=>simp[intOf];omega
  ·obtain rfl:k=(eu x s).length:=by omega
   have bh:Hid (XM wr B c (.slice pa x.path.length pc) (.slice ra x.row.length rc) (.slice ka x.keys.length kc) oa oc m (jI x s)):=by
    have t:=HX.out;rw[List.take_length]at t;exact t
   have bT:∀k,(Value.slice pa x.path.length pc).ownBlock=some k->k<wr.heap.size:=bh.out.own_lt;have H:=da wr (.cells #[.pointer (some ⟨o,0,none⟩),.int .u8 (z:Nat),.int .u8 0,.int .u8 0] 168);have bi:=hid (bh.out.later H);have bj:=hid (HS.out.later H);have ak:Hid (eP (wr.alloc (.cells #[.pointer (some ⟨o,0,none⟩),.int .u8 (z:Nat),.int .u8 0,.int .u8 0] 168)) wr.heap.size o ⟨s,z,0,0⟩):=eP.new wr o ⟨s,z,0,0⟩;have bk:Hid (Below B w (wr.alloc (.cells #[.pointer (some ⟨o,0,none⟩),.int .u8 (z:Nat),.int .u8 0,.int .u8 0] 168))):=HB.out.trans (H.mono (le_trans hB HB.out.size));have bU:=hid (M8 ak.out.node bj.out af.out hz)
   have cW:(PN.awake ⟨s,z,0,0⟩).length<=8:=by
    have:=mS af.out;unfold PN.awake;exact le_trans (List.length_filter_le _ _) (by show s.all.length<=8;omega)
   have co:B<=wr.heap.size:=le_trans hB HB.out.size;clear HX bh ap HS H;go_wp2_with fail;refine bU.out.mono ?_;rintro r W8⟨v8,rfl,bl,ay⟩;obtain⟨a8,c8,rfl,_,_⟩:=bl.form (by omega);have ac:=hid (bi.out.later ay);have ad:=hid (bj.out.later ay);have O:=hid (ak.out.later ay);have ae:Hid (Below B w W8):=bk.out.trans (ay.mono (le_trans hB bk.out.size));have bm:=hid bl;have aO:B<=W8.heap.size:=le_trans hB ae.out.size;have az:wr.heap.size≠c:=by have:=ac.out.lt;intro e;have t:=bi.out.blk;rw[<-e,show(wr.alloc (.cells #[.pointer (some ⟨o,0,none⟩),.int .u8 (z:Nat),.int .u8 0,.int .u8 0] 168)).heap[wr.heap.size]?=_ from ak.out]at t;injection t with t;injection t with _ h2;exact kU h2
   have bn:(Value.slice pa x.path.length pc).ownBlock≠some wr.heap.size:=fun e=>by have:=bT _ e;omega
   obtain⟨J,al⟩:∃J,J=wr.heap.size:=⟨_,rfl⟩
   have aY:B<=J:=by rw[al];exact co
   rw[<-al]at az bn ⊢;have O:Hid (eP W8 J o ⟨s,z,0,0⟩):=by rw[al];exact O.out
   clear bi bj ak bk bl ay bU bT al HB;generalize aZ:PN.awake ⟨s,z,0,0⟩=AW at *;have ab:Hid (AW=PN.awake ⟨s,z,0,0⟩):=aZ.symm;clear aZ
   go_upto_if 54 with (fail)
   go_cut [54] (fun cX wx=>(∃bo bp,XM wx B c (.slice pa x.path.length pc) (.slice ra x.row.length rc) bp oa oc bo (jM x s z))/\Hid (eP wx J o (fj x s z))/\Hid (di wx o s)/\Hid (Below B w wx))
   case first=>
    have cp:Hid (∀y,y∈x.order->0<=y/\y<256):=ce
    by_cases hA:AW=[]
    ·have aP:(PN.awake ⟨s,z,0,0⟩)=[]:=ab.out.symm.trans hA
     have aq:Hid (Calls prog 74 #[.pointer (some ⟨o,0,none⟩),.int .u8 z] W8 fun r w'=>r=.returned (.bool (gG s.all z))/\Below W8.heap.size W8 w'):=
      AR (some ⟨o,0,none⟩) s.all (mR af.out) (by have:=mS af.out;omega) hz W8 (lu ad.out af.out)
     clear ab bm;subst hA
     cases hb:gG s.all z
     ·obtain⟨e1,e2⟩:=Kz (x:=x) aP hb
      have aA:=hid e1;have aB:=hid e2;rw[hb]at aq;clear e1 e2 aP hb;go_wp2_with fail;refine aq.out.mono ?_;rintro r E⟨rfl,L⟩;have M:=hid (ac.out.later L);have Z:=hid (ad.out.later L);have U:=hid (O.out.later L);have X:Hid (Below B w E):=ae.out.trans (L.mono aO);have aC:B<=E.heap.size:=le_trans hB X.out.size;have q6:E.cell? ⟨c,6,none⟩=some (.int .i64 (x.runs:Nat)):=M.out.cells.2.2.2.2.2.2.1;have g6:=M.out.frozen 6;have D:Hid (XM (E.setCell ⟨c,6,none⟩ (.int .i64 ((x.runs:Int)+1))) B c (.slice pa x.path.length pc) (.slice ra x.row.length rc) (.slice ka x.keys.length kc) oa oc m { jI x s with runs:=x.runs+1 }):=M.out.setRuns aC (x.runs+1);have Y:Hid (Only c E (E.setCell ⟨c,6,none⟩ (.int .i64 ((x.runs:Int)+1)))):=(Only.refl c E).setCell 6 _;have Q:=hid (Z.out.onlyX Y.out (M.out.ne_st Z.out));have d:=hid (U.out.only Y.out az);have V:Hid (Below B w (E.setCell ⟨c,6,none⟩ (.int .i64 ((x.runs:Int)+1)))):=X.out.setCell (p:=⟨c,6,none⟩) ax _;clear M Z U X L ac ad O ae aq Y;generalize b5:E.setCell ⟨c,6,none⟩ (.int .i64 ((x.runs:Int)+1))=R at *;go_wp2_with fail;clear b5 q6 g6;have ag:B<=R.heap.size:=le_trans hB V.out.size;have am:Below R.heap.size R R.drew:=(Below.refl _ _).drew
      have ar:Hid (∀W,Below R.heap.size R W->W.cell? ⟨c,4,none⟩=some (.slice ka x.keys.length kc)/\W.cell? ⟨c,1,none⟩=some (.slice ra x.row.length rc)):=fun W hb=>⟨de hb D.out.cells.2.2.2.2.1,de hb D.out.cells.2.1⟩
      have cq:Hid (∀W,Below R.heap.size R W->Calls prog 75 #[.slice ra x.row.length rc] W fun r w'=>r=.returned (.string ⟨(eE x.row).toArray⟩)/\Below W.heap.size W w'):=fun W hb=>yW ra rc x.row W ((D.out.row.at_ (by show x.row.length<=_;omega)).later hb)
      have cY:Hid (du (eE x.row)=[.string ⟨(eE x.row).toArray⟩]):=rfl;generalize eE x.row=K0 at *
      have aH:Hid (∀W v6 C,Below R.heap.size R W->dc C B 9 1 du v6 (x.keys++[K0])->W.grownBy C (Value.slice ka x.keys.length kc).ownBlock->(∃bo bp,XM (C.setCell ⟨c,4,none⟩ v6) B c (.slice pa x.path.length pc) (.slice ra x.row.length rc) bp oa oc bo (jM x s z))/\eP (C.setCell ⟨c,4,none⟩ v6) J o ⟨s,z,0,0⟩/\di (C.setCell ⟨c,4,none⟩ v6) o s/\Below B w (C.setCell ⟨c,4,none⟩ v6)/\C.cell? ⟨c,4,none⟩=some (.slice ka x.keys.length kc)/\C.cell? ⟨c,1,none⟩=some (.slice ra x.row.length rc)/\C.frozen? ⟨c,4,none⟩=false):=by
       intro W v6 C hb aQ I;have t:=D.out.later hb;have ai:B<=W.heap.size:=le_trans ag hb.size;have ht:=i6 t.keys;have h2:=t.moreKeys ai aQ I
       have au:C.heap[c]?=W.heap[c]?:=I.block c t.lt fun e=>by
        obtain⟨_,cs,N⟩:=ht c e.symm;rw[t.blk]at N;injection N with N;injection N with _ h2;exact kV h2
       have b6:eP C J o ⟨s,z,0,0⟩:=by
        refine(I.block J (d.out.later hb).lt fun e=>?_).trans (d.out.later hb);obtain⟨_,cs,N⟩:=ht J e.symm;rw[show W.heap[J]?=_ from d.out.later hb]at N;injection N with N;injection N with _ h2;exact ov h2
       have aM:di C o s:=iD (Q.out.later hb) I ht vz;have b7:o≠c:=t.ne_st (Q.out.later hb);refine⟨⟨m,_,by rw[aA.out];exact h2⟩,b6.setX az 4 _,aM.onlyX ((Only.refl c C).setCell 4 _) b7,((V.out.trans (hb.mono ag)).trans (jf I ht ai)).setCell (p:=⟨c,4,none⟩) ax _,?_,?_,?_⟩
       ·rw[World.cell?_of_block (w:=W) (a:=⟨c,4,none⟩) au];exact t.cells.2.2.2.2.1
       ·rw[World.cell?_of_block (w:=W) (a:=⟨c,1,none⟩) au];exact t.cells.2.1
       ·rw[World.frozen?_of_block (w:=W) (a:=⟨c,4,none⟩) au];exact t.frozen 4
      have bv:Hid (∀W,Below R.heap.size R W->dc W B 9 1 du (.slice ka x.keys.length kc) x.keys):=fun W hb=>(D.out.later hb).keys
      clear D d Q;have b:=ar.out R.drew am;refine m7 (S:=fun W=>W.cell? ⟨c,4,none⟩=some (.slice ka x.keys.length kc)/\W.cell? ⟨c,1,none⟩=some (.slice ra x.row.length rc)) (k:=16) (by kernel_rfl) ?_;refine dK 0 (v:=?_) [16] rfl (by kernel_rfl) (by kernel_rfl) (fun _ _ _ h=>h) b ?_ ?_
      rotate_left
      ·intro w hSw
       try dsimp only at hSw
       go_simp
       with_reducible rfl
      try simp only[Act.put,setIfInBounds_toArray]
      refine dK 1 (v:=?_) [16] rfl (by kernel_rfl) (by kernel_rfl) (fun _ _ _ h=>h) b ?_ ?_
      rotate_left
      ·intro w hSw
       try dsimp only at hSw
       go_simp
       with_reducible rfl
      try simp only[Act.put]
      refine dK 2 (v:=?_) [16] rfl (by kernel_rfl) (by kernel_rfl) (fun _ _ _ h=>h) b ?_ ?_
      rotate_left
      ·intro w hSw
       try dsimp only at hSw
       go_simp
       with_reducible rfl
      try simp only[Act.put]
      refine dK 3 (v:=?_) [16] rfl (by kernel_rfl) (by kernel_rfl) (fun _ _ _ h=>h) b ?_ ?_
      rotate_left
      ·intro w hSw
       try dsimp only at hSw
       go_simp
       with_reducible rfl
      try simp only[Act.put]
      refine dK 4 (v:=?_) [16] rfl (by kernel_rfl) (by kernel_rfl) (fun _ _ _ h=>h) b ?_ ?_
      rotate_left
      ·intro w hSw
       try dsimp only at hSw
       go_simp
       with_reducible rfl
      try simp only[Act.put]
      refine dK 5 (v:=?_) [16] rfl (by kernel_rfl) (by kernel_rfl) (fun _ _ _ h=>h) b ?_ ?_
      rotate_left
      ·intro w hSw
       try dsimp only at hSw
       go_simp
       with_reducible rfl
      try simp only[Act.put]
      refine dK 6 (v:=?_) [16] rfl (by kernel_rfl) (by kernel_rfl) (fun _ _ _ h=>h) b ?_ ?_
      rotate_left
      ·intro w hSw
       try dsimp only at hSw
       go_simp
       with_reducible rfl
      try simp only[Act.put]
      refine dK 7 (v:=?_) [16] rfl (by kernel_rfl) (by kernel_rfl) (fun _ _ _ h=>h) b ?_ ?_
      rotate_left
      ·intro w hSw
       try dsimp only at hSw
       go_simp
       with_reducible rfl
      try simp only[Act.put]
      refine dK 8 (v:=?_) [16] rfl (by kernel_rfl) (by kernel_rfl) (fun _ _ _ h=>h) b ?_ ?_
      rotate_left
      ·intro w hSw
       try dsimp only at hSw
       go_simp
       with_reducible rfl
      try simp only[Act.put]
      refine dK 9 (v:=?_) [16] rfl (by kernel_rfl) (by kernel_rfl) (fun _ _ _ h=>h) b ?_ ?_
      rotate_left
      ·intro w hSw
       try dsimp only at hSw
       go_simp
       with_reducible rfl
      try simp only[Act.put]
      refine fg (i:=10) (by kernel_rfl) rfl (fun K hK=>?_)
      go_simp
      refine(cq.out _ am).mono ?_;rintro r bq⟨rfl,b8⟩;have aI:=am.trans (b8.mono am.size);have aa:=aI.trans ((da bq (.cells #[.string ⟨K0.toArray⟩] 9)).mono aI.size);refine hK.out _ _ (fun _=>ar.out _ aI) ?_;clear hK K
      try simp only[Act.put,setIfInBounds_toArray,set_cons_zero,set_cons_succ]
      refine fg (i:=11) (by kernel_rfl) rfl (fun K hK=>?_)
      go_simp
      refine hK.out _ _ (fun _=>ar.out _ aa) ?_;clear hK K
      try simp only[Act.put,setIfInBounds_toArray,set_cons_zero,set_cons_succ]
      refine fg (i:=12) (by kernel_rfl) rfl (fun K hK=>?_);refine lG (f:=du) (n:=1) 30 9 16 (.string ByteArray.empty) underlying30 ju (by rfl) (by omega) (by omega) fP (by rfl) _ _ (by rfl) B _ x.keys (by rfl) (bv.out _ aa) ⟨bq.heap.size,0,none⟩ (by rfl) K0 (jo _) (gw bq (du K0) _ _ rfl) (by omega) (le_trans ag aa.size) ?_;intro v6 C h6 cr I ct;obtain⟨g6,b9,aD,_,_⟩:=dc.block h6 (by simp);rw[length_append,length_singleton]at aD;subst aD;have l:=hid (aH.out _ _ _ aa h6 I);have br:=l.out.2.2.2.2.2.2;have aR:=l.out.2.2.2.2.1;refine hK.out _ _ (fun _=>⟨l.out.2.2.2.2.1,l.out.2.2.2.2.2.1⟩) ?_;clear hK K
      try simp only[Act.put,setIfInBounds_toArray]
      refine fg (i:=13) (by kernel_rfl) rfl (fun K hK=>?_)
      go_simp
      refine hK.out _ _ (fun _=>⟨l.out.2.2.2.2.1,l.out.2.2.2.2.2.1⟩) ?_;clear hK K
      try simp only[Act.put,setIfInBounds_toArray,set_cons_zero,set_cons_succ]
      refine fg (i:=14) (by kernel_rfl) rfl (fun K hK=>?_)
      go_simp
      refine hK.out _ _ (fun _=>⟨l.out.2.2.2.2.1,l.out.2.2.2.2.2.1⟩) ?_;clear hK K
      try simp only[Act.put,setIfInBounds_toArray,set_cons_zero,set_cons_succ]
      refine fg (i:=15) (by kernel_rfl) rfl (fun K hK=>?_)
      go_simp
      refine hK.out _ _ (fun _=>⟨l.out.2.2.2.2.1,l.out.2.2.2.2.2.1⟩) ?_;clear hK K
      try simp only[Act.put,setIfInBounds_toArray,set_cons_zero,set_cons_succ]
      refine fg (i:=16) (by kernel_rfl) rfl (fun K hK=>?_)
      go_simp
      refine hK.out _ _ (fun h=>absurd rfl h) ?_;clear hK K
      try simp only[Act.put,setIfInBounds_toArray,set_cons_zero,set_cons_succ]
      refine m9 (by kernel_rfl) ?_ _;clear b aR br;go_wp2
      go_meet
      exact⟨l.out.1,by rw[aB.out];exact l.out.2.1,l.out.2.2.1,l.out.2.2.2.1⟩
     ·obtain⟨e1,e2⟩:=KA (x:=x) aP hb
      have aA:=hid e1;have aB:=hid e2;rw[hb]at aq;clear e1 e2 aP hb;go_wp2_with fail;refine aq.out.mono ?_;rintro r E⟨rfl,L⟩;have M:=hid (ac.out.later L);have Z:=hid (ad.out.later L);have U:=hid (O.out.later L);have X:Hid (Below B w E):=ae.out.trans (L.mono aO);have aC:B<=E.heap.size:=le_trans hB X.out.size;have q7:E.cell? ⟨c,7,none⟩=some (.int .i64 (x.blocked:Nat)):=M.out.cells.2.2.2.2.2.2.2.1;have g7:=M.out.frozen 7;have D:Hid (XM (E.setCell ⟨c,7,none⟩ (.int .i64 ((x.blocked:Int)+1))) B c (.slice pa x.path.length pc) (.slice ra x.row.length rc) (.slice ka x.keys.length kc) oa oc m { jI x s with blocked:=x.blocked+1 }):=M.out.setBlocked aC (x.blocked+1);have Y:Hid (Only c E (E.setCell ⟨c,7,none⟩ (.int .i64 ((x.blocked:Int)+1)))):=(Only.refl c E).setCell 7 _;have Q:=hid (Z.out.onlyX Y.out (M.out.ne_st Z.out));have d:=hid (U.out.only Y.out az);have V:Hid (Below B w (E.setCell ⟨c,7,none⟩ (.int .i64 ((x.blocked:Int)+1)))):=X.out.setCell (p:=⟨c,7,none⟩) ax _;clear M Z U X L ac ad O ae aq Y;go_wp2_with fail
      go_meet
      exact⟨⟨m,_,by rw[aA.out];exact D.out⟩,by rw[aB.out];exact d,Q,V⟩
    ·obtain⟨e1,e2⟩:=KC (x:=x) (s:=s) (z:=z) (by rw[<-ab.out];exact hA)
     rw[<-ab.out]at e1 e2;have aA:=hid e1;have aB:=hid e2;have cG:0<AW.length:=List.length_pos_iff.2 hA;have bV:=hid (AG ac.out aO bm.out hA (by omega) (show x.choices<=1000000 by omega) ho cp.out);generalize hP:pick x.order x.choices AW=P at *
     have a0:Hid (Calls prog 88 #[.pointer (some ⟨c,0,none⟩),.slice a8 AW.length c8] W8 fun r w'=>r=.returned (.int .i64 P)/\XM w' B c (.slice pa x.path.length pc) (.slice ra x.row.length rc) (.slice ka x.keys.length kc) oa oc m { jI x s with choices:=fH x.choices AW }/\Only c W8 w'):=by
      have t:=bV.out;rw[show(jI x s).order=x.order from rfl,show(jI x s).choices=x.choices from rfl,hP]at t;exact t
     clear e1 e2 hA bV hP ab;go_wp2_with fail;refine a0.out.mono ?_;rintro r E⟨rfl,bW,aS⟩;have M:=hid bW;have L:Below B W8 E:=aS.below ax aO;have X:Hid (Below B w E):=ae.out.trans L;have aC:B<=E.heap.size:=le_trans hB X.out.size;have Z:=hid (ad.out.onlyX aS (ac.out.ne_st ad.out));have U:=hid (O.out.only aS az);have H:=da E (.cells #[.int .i64 P] 3);have D:=hid (M.out.later H);have Q:=hid (Z.out.later H);have d:=hid (U.out.later H);have V:Hid (Below B w (E.alloc (.cells #[.int .i64 P] 3))):=X.out.trans (H.mono aC);have ag:B<=(E.alloc (.cells #[.int .i64 P] 3)).heap.size:=le_trans hB V.out.size
     have a1:iB (E.alloc (.cells #[.int .i64 P] 3)) (some ⟨E.heap.size,0,none⟩) [P]:=⟨by simp[maxLen],fun _=>⟨E.heap.size,0,rfl,fun i hi=>by
      obtain rfl:i=0:=by simpa using hi
      rw[World.cell?_alloc_new];rfl⟩⟩
     have bd:Hid (Calls prog 37 #[.slice (some ⟨E.heap.size,0,none⟩) 1 1] (E.alloc (.cells #[.int .i64 P] 3)) fun r w'=>r=.returned (.int .u8 (dn [P]:Nat))/\(E.alloc (.cells #[.int .i64 P] 3))=w'):=ky (some ⟨E.heap.size,0,none⟩) 1 [P] _ a1 (by simp);have ca:=hid (D.out.box ag d.out aY bn 2 (.int .u8 (dn [P]:Nat)));have bw:=hid (d.out.setGo (dn [P]));have cH:=d.out.cells.2.2.1;have cI:=d.out.frozen 2;have cb:Hid (di ((E.alloc (.cells #[.int .i64 P] 3)).setCell ⟨J,2,none⟩ (.int .u8 (dn [P]:Nat))) o s):=Q.out.onlyX ((Only.refl J _).setCell 2 _) (d.out.ne_st Q.out);have cc:Hid (Below B w ((E.alloc (.cells #[.int .i64 P] 3)).setCell ⟨J,2,none⟩ (.int .u8 (dn [P]:Nat)))):=V.out.setCell (p:=⟨J,2,none⟩) aY _;clear ac ad O ae M X Z U H D Q d V a1 bW aS L a0;generalize dn [P]=OP at *;go_wp2_with fail;refine bd.out.mono ?_;rintro r w'⟨rfl,rfl⟩;go_wp2_with fail
     go_meet
     exact⟨⟨m,_,by rw[aA.out];exact ca.out⟩,by rw[aB.out];exact bw,cb,cc⟩
   case rest=>
    obtain⟨⟨av,cv,bs⟩,a4,bX,bY⟩:=hcut;have aT:Hid (XM wc.drew B c (.slice pa x.path.length pc) (.slice ra x.row.length rc) cv oa oc av (jM x s z)):=bs.drew;have bZ:Hid (di wc.drew o s):=bX;have an:Hid (eP wc.drew J o (fj x s z)):=a4;have bt:Hid (Below B w wc.drew):=bY.out.drew
    have b0:Hid ((fj x s z).st=s):=by
     show _=_;unfold fj
     split <;> rfl
    have b1:=hid (Ix x s z)
    have cZ:av.length<=x.path.length:=by
     have t:=congrArg List.length bs.eq;rw[length_map]at t;rw[t];exact Nat.le_of_eq (mB _ _)
    clear ac ad O ae bm bs bX a4 bY ab;go_wp2_with fail;refine m7 (S:=fun W=>W.cell? ⟨c,0,none⟩=some (.slice pa x.path.length pc)/\W.cell? ⟨J,0,none⟩=some (.pointer (some ⟨o,0,none⟩))/\W.cell? ⟨J,1,none⟩=some (.int .u8 ((fj x s z).z:Nat))/\W.cell? ⟨J,2,none⟩=some (.int .u8 ((fj x s z).go:Nat))/\W.cell? ⟨J,3,none⟩=some (.int .u8 ((fj x s z).gone:Nat))) (k:=10) (by kernel_rfl) ?_;generalize wc.drew=wd at *;have bu:B<=wd.heap.size:=le_trans hB bt.out.size
    have ar:Hid (∀W,Below wd.heap.size wd W->W.cell? ⟨c,0,none⟩=some (.slice pa x.path.length pc)/\W.cell? ⟨J,0,none⟩=some (.pointer (some ⟨o,0,none⟩))/\W.cell? ⟨J,1,none⟩=some (.int .u8 ((fj x s z).z:Nat))/\W.cell? ⟨J,2,none⟩=some (.int .u8 ((fj x s z).go:Nat))/\W.cell? ⟨J,3,none⟩=some (.int .u8 ((fj x s z).gone:Nat))):=fun W hb=>⟨de hb aT.out.cells.1,(an.out.later hb).cells⟩
    have aH:Hid (∀W v6 C,Below wd.heap.size wd W->dc C B 168 4 fA v6 (av++[(o,fj x s z)])->W.grownBy C (Value.slice pa x.path.length pc).ownBlock->m6 B c oa oc (fY x s z) (C.setCell ⟨c,0,none⟩ v6)/\Below B w (C.setCell ⟨c,0,none⟩ v6)/\(C.cell? ⟨c,0,none⟩=some (.slice pa x.path.length pc)/\C.frozen? ⟨c,0,none⟩=false)/\(C.heap[J]?=W.heap[J]?∨True)):=by
     intro W v6 C hb aQ I;have t:=aT.out.later hb;have ai:B<=W.heap.size:=le_trans bu hb.size;have ht:=i6 t.path;have h2:=t.morePath ai aQ I (by show di W o (fj x s z).st;rw[b0.out];exact bZ.out.later hb)
     have au:C.heap[c]?=W.heap[c]?:=I.block c t.lt fun e=>by
      obtain⟨_,cs,N⟩:=ht c e.symm;rw[t.blk]at N;injection N with N;injection N with _ h2;exact kU h2.symm
     refine⟨⟨_,_,_,_,by rw[b1.out];exact h2⟩,((bt.out.trans (hb.mono bu)).trans (jf I ht ai)).setCell (p:=⟨c,0,none⟩) ax _,⟨?_,?_⟩,.inr trivial⟩
     ·rw[World.cell?_of_block (w:=W) (a:=⟨c,0,none⟩) au];exact t.cells.1
     ·rw[World.frozen?_of_block (w:=W) (a:=⟨c,0,none⟩) au];exact t.frozen 0
    have cw:Hid (∀W v6 C,Below wd.heap.size wd W->dc C B 168 4 fA v6 (av++[(o,fj x s z)])->W.grownBy C (Value.slice pa x.path.length pc).ownBlock->C.cell? ⟨J,0,none⟩=some (.pointer (some ⟨o,0,none⟩))/\C.cell? ⟨J,1,none⟩=some (.int .u8 ((fj x s z).z:Nat))/\C.cell? ⟨J,2,none⟩=some (.int .u8 ((fj x s z).go:Nat))/\C.cell? ⟨J,3,none⟩=some (.int .u8 ((fj x s z).gone:Nat))):=by
     intro W v6 C hb aQ I;have cx:eP C J o (fj x s z):=(I.block J (an.out.later hb).lt (fun e=>bn e.symm)).trans (an.out.later hb);exact cx.cells
    have cy:Hid (∀W,Below wd.heap.size wd W->dc W B 168 4 fA (.slice pa x.path.length pc) av):=fun W hb=>(aT.out.later hb).path
    have cz:Hid (∀W:World,(∀j u,(fA (o,fj x s z))[j]?=some u->(W.alloc (.cells (fA (o,fj x s z)).toArray 168)).cell? (Addr.add ⟨W.heap.size,0,none⟩ j)=some u)):=fun W=>gw W (fA (o,fj x s z)) _ _ rfl
    have b:=ar.out wd (Below.refl _ _);have aa:=da wd (.cells (fA (o,fj x s z)).toArray 168);clear aT bZ an bt b0 b1;refine dK 0 (v:=?_) [10] rfl (by kernel_rfl) (by kernel_rfl) (fun _ _ _ h=>h) b ?_ ?_
    rotate_left
    ·intro w hSw
     try dsimp only at hSw
     go_simp
     with_reducible rfl
    try simp only[Act.put,setIfInBounds_toArray]
    refine dK 1 (v:=?_) [10] rfl (by kernel_rfl) (by kernel_rfl) (fun _ _ _ h=>h) b ?_ ?_
    rotate_left
    ·intro w hSw
     try dsimp only at hSw
     go_simp
     with_reducible rfl
    try simp only[Act.put]
    refine dK 2 (v:=?_) [10] rfl (by kernel_rfl) (by kernel_rfl) (fun _ _ _ h=>h) b ?_ ?_
    rotate_left
    ·intro w hSw
     try dsimp only at hSw
     go_simp
     with_reducible rfl
    try simp only[Act.put]
    refine dK 3 (v:=?_) [10] rfl (by kernel_rfl) (by kernel_rfl) (fun _ _ _ h=>h) b ?_ ?_
    rotate_left
    ·intro w hSw
     try dsimp only at hSw
     go_simp
     with_reducible rfl
    try simp only[Act.put]
    refine dK 4 (v:=?_) [10] rfl (by kernel_rfl) (by kernel_rfl) (fun _ _ _ h=>h) b ?_ ?_
    rotate_left
    ·intro w hSw
     try dsimp only at hSw
     go_simp
     with_reducible rfl
    try simp only[Act.put]
    refine dK 5 (v:=?_) [10] rfl (by kernel_rfl) (by kernel_rfl) (fun _ _ _ h=>h) b ?_ ?_
    rotate_left
    ·intro w hSw
     try dsimp only at hSw
     go_simp
     with_reducible rfl
    try simp only[Act.put]
    refine fg (i:=6) (by kernel_rfl) rfl (fun K hK=>?_)
    go_simp
    refine hK.out _ _ (fun _=>ar.out _ aa) ?_;clear hK K
    try simp only[Act.put,setIfInBounds_toArray,set_cons_zero,set_cons_succ]
    refine fg (i:=7) (by kernel_rfl) rfl (fun K hK=>?_);refine lG (f:=fA) (n:=4) 94 168 16 (.agg #[.pointer none,.int .u8 0,.int .u8 0,.int .u8 0]) underlying94 J7 (by rfl) (by omega) (by omega) k6 (by rfl) _ _ (by rfl) B _ av (by rfl) (cy.out _ aa) ⟨wd.heap.size,0,none⟩ (by rfl) (o,fj x s z) (F2 _) (cz.out wd) (by omega) (le_trans bu aa.size) ?_;intro v6 C h6 cr I ct;have l:=hid (aH.out _ _ _ aa h6 I);have cA:=hid (cw.out _ _ _ aa h6 I);obtain⟨g6,b9,aD,_,_⟩:=dc.block h6 (by simp);rw[length_append,length_singleton]at aD;subst aD;have br:=l.out.2.2.1.2;have aR:=l.out.2.2.1.1;have aU:=And.intro aR cA.out;refine hK.out _ _ (fun _=>aU) ?_;clear hK K
    try simp only[Act.put,setIfInBounds_toArray]
    refine fg (i:=8) (by kernel_rfl) rfl (fun K hK=>?_)
    go_simp
    refine hK.out _ _ (fun _=>aU) ?_;clear hK K
    try simp only[Act.put,setIfInBounds_toArray,set_cons_zero,set_cons_succ]
    refine fg (i:=9) (by kernel_rfl) rfl (fun K hK=>?_)
    go_simp
    refine hK.out _ _ (fun _=>aU) ?_;clear hK K
    try simp only[Act.put,setIfInBounds_toArray,set_cons_zero,set_cons_succ]
    refine fg (i:=10) (by kernel_rfl) rfl (fun K hK=>?_)
    go_simp
    refine hK.out _ _ (fun h=>absurd rfl h) ?_;clear hK K
    try simp only[Act.put,setIfInBounds_toArray,set_cons_zero,set_cons_succ]
    refine m9 (by kernel_rfl) ?_ _;clear b aR br aU;go_wp2
    go_end0
    exact⟨rfl,l.out.1,l.out.2.1⟩
theorem BB:∃Z:Array Value,Z=eB (fun _=>0)/\∀w,(zeroValue 163).run prog w=.ok (.agg Z) w:=
 ⟨_,rfl,(zero_of_info (P:=prog) (t:=163) (v:=.agg (eB fun _=>0)) (n:=156) (by kernel_rfl)).1⟩
theorem L2{s:St}{b:Nat}{w:World}(h:di w b s):
  Calls prog 91 #[.pointer (some ⟨b,0,none⟩)] w fun r j=>r=.returned (.pointer (some ⟨w.heap.size,0,none⟩))/\w.alloc (.cells (eB (eT s)) 163)=j:=by
 obtain⟨Z,e,n⟩:=BB;have f:(prog.info? 163).map (·.size)=some 156:=by kernel_rfl
 have d:(eB (eT s)).size=156:=kA _;have a:=GZ (eT s);have c:Z.size=156:=by rw[e,kA]
 have g:w.heap[b]?=some (.cells (eB (eT s)) 163 (0,0)):=h;clear e h;generalize eB (eT s)=X at *;have i:Hid ((prog.info? 163).map (·.size)=some X.size):=by rw[d];exact f
 have k:=hid g;have l:Hid (Z.size=X.size):=by show _=_;rw[d,c]
 have m:=hid a;clear f d c g a;go_enter func91,ntmps91
 go_wp2_with (first
  |(refine wpList_load_row rfl 163 (.tmp 7) rfl b rfl 163 X (0,0) _ k.out underlying163 rfl i.out ?_)
  |(refine wpList_store_row rfl 163 (.tmp 3) (.tmp 8) rfl w.heap.size X rfl rfl 163 Z (heap_alloc_last w _) i.out l.out m.out ?_;rw[World.setRow_alloc_new]))
 go_ret;exact⟨rfl,rfl⟩
theorem Kl(w:World)(s:St):di (w.alloc (.cells (eB (eT s)) 163)) w.heap.size s:=heap_alloc_new w _
theorem KO{w:World}{B d oc F:Nat}{pv rv kv:Value}{oa:Option Addr}{ps:List (Nat × PN)}{x:Xp}{e:Ev}{s1:St}(h:XM w B d pv rv kv oa oc ps x)(hB:B<=w.heap.size)
  (bA:x.path.length=x.row.length+1) (b0:x.row.length<=90) (U:dJ (x.row++[e])=true) (O:∀n∈x.path,n.st.Ok F) (ak:∀n∈x.path,n.z<256/\n.go<256/\n.gone<256) (hl:(eV x).left≠[]) (aa:(eV x).st.step (pick x.order x.choices (eV x).left)=(0,e,s1))
  (hc:x.choices<=90000) (b6:x.nodes<=90000) (b7:x.runs<=90000) (b8:x.blocked<=90000) (b9:x.keys.length<=90000) (ho:x.order.length<=1000) (a5:∀n∈x.order,0<=n/\n<256):
  Calls prog 53 #[.pointer (some ⟨d,0,none⟩)] w fun r w'=>r=.returned (.tuple #[])/\m6 B d oa oc (gO x) w'/\Below B w w':=by
 have ap:ps.length=x.path.length:=by rw[<-h.eq,length_map]
 obtain⟨pa,pc,rfl,_,_⟩:=dc.form2 h.path k6 (by omega);obtain⟨Y,Z,rfl,_,_⟩:=h.row.form2 (by omega)
 obtain⟨m,a6⟩:∃m,m=x.row.length:=⟨_,rfl⟩
 have hm:x.path.length=m+1:=by omega
 rw[ap,hm]at h;obtain⟨g,ca,e0,_⟩:=h.path.block (by intro e;rw[e]at ap;simp at ap;omega);injection e0 with e0 e01 e02;subst e0;clear e01 e02;have G:m<ps.length:=by omega
 have C:=(h.node G).1
 have o:ps[m].2=eV x:=by
  unfold eV;have D:(ps.map Prod.snd).getD m dX=x.path.getD m dX:=by rw[h.eq]
  rw[hm,Nat.add_sub_cancel,<-D,List.getD_eq_getElem?_getD,List.getElem?_map,List.getElem?_eq_getElem G];rfl
 have aN:eV x∈x.path:=by
  rw[<-o,<-h.eq];exact List.mem_map.2 ⟨_,getElem_mem G,rfl⟩
 obtain⟨x0,_⟩:=h.cells;obtain⟨b1,b2,b3⟩:=ak _ aN;have aq:=O _ aN;rw[o]at C
 obtain⟨E,ar⟩:∃E,E=ps[m].1:=⟨_,rfl⟩
 rw[<-ar]at C;have aO:=h.sts _ (getElem_mem G);rw[o,<-ar]at aO
 have cb:(eV x).left.length<=8:=by
  unfold PN.left;refine le_trans (List.length_filter_le _ _) ?_;rw[j6];exact mP _
 have I:ps[m]=(E,eV x):=by rw[ar,<-o]
 generalize hL:eV x=n at *;have al:Hid (∀W,Below w.heap.size w W->Calls prog 89 #[.pointer (some ⟨g,m*4,none⟩)] W fun r w'=>∃v,r=.returned v/\dC w' W.heap.size v n.left/\Below W.heap.size W w'):=fun W hb=>x9 (C.later hb) b1 b2 b3
 have HX:=hid h;have a7:=hid aO;have ad:=hid aq
 have a8:Hid (∀W ab ac y,XM W B d (.slice (some ⟨g,0,none⟩) (m+1) pc) ab ac oa oc ps y->NodeAt W g (m*4) E n):=fun W ab ac y hx=>by
  have D:=(hx.node G).1;rw[I]at D;exact D
 have a9:Hid (∀W ab ac y,XM W B d (.slice (some ⟨g,0,none⟩) (m+1) pc) ab ac oa oc ps y->W.frozen? ⟨g,m*4+3,none⟩=false):=fun W ab ac y hx=>(hx.node G).2 3 (by omega)
 have ba:Hid (∀W,XM W B d (.slice (some ⟨g,0,none⟩) (m+1) pc) (.slice Y x.row.length Z) kv oa oc ps { x with choices:=fH x.choices n.left }->B<=W.heap.size->XM (W.setCell ⟨g,m*4+3,none⟩ (.int .u8 (wt n.gone (pick x.order x.choices n.left):Nat))) B d (.slice (some ⟨g,0,none⟩) (m+1) pc) (.slice Y x.row.length Z) kv oa oc (ps.set m (E,{ n with gone:=wt n.gone (pick x.order x.choices n.left) })) { x with choices:=fH x.choices n.left,path:=x.path.set m { n with gone:=wt n.gone (pick x.order x.choices n.left) } }):=fun W hx au=>by
  have D:=hx.put au G 3 (.int .u8 (wt n.gone (pick x.order x.choices n.left):Nat)) (q:={ n with gone:=wt n.gone (pick x.order x.choices n.left) }) (by rw[I];rfl) (by omega) (by rw[I]);rw[I]at D;exact D
 have b4:Hid (∀q∈ps.set m (E,{ n with gone:=wt n.gone (pick x.order x.choices n.left) }),q.2.st.Ok F):=fun q hq=>by
  rcases List.mem_or_eq_of_mem_set hq with hq|rfl
  ·exact O _ (by rw[<-h.eq];exact List.mem_map.2 ⟨q,hq,rfl⟩)
  ·exact aq
 have cc:Hid ((ps.set m (E,{ n with gone:=wt n.gone (pick x.order x.choices n.left) })).map Prod.snd=x.path.set m { n with gone:=wt n.gone (pick x.order x.choices n.left) }):=by
  show _=_;rw[List.map_set,h.eq]
 have bb:Hid (gO x=fY { x with choices:=fH x.choices n.left,path:=x.path.set m { n with gone:=wt n.gone (pick x.order x.choices n.left) },row:=x.row++[e] } s1 (gj n.st.next n.z n.gone (pick x.order x.choices n.left))):=by
  show _=_;unfold gO;rw[hL];dsimp only;rw[aa,show x.path.length-1=m by omega]
 have bK:Hid ((x.path.set m { n with gone:=wt n.gone (pick x.order x.choices n.left) }).length=(x.row++[e]).length):=by
  show _=_;rw[List.length_set,length_append,length_singleton];omega
 have bB:Hid (∀y∈x.path.set m { n with gone:=wt n.gone (pick x.order x.choices n.left) },y.st.Ok F):=fun y hy=>by
  rcases List.mem_or_eq_of_mem_set hy with hy|rfl
  ·exact O y hy
  ·exact aq
 have bL:Hid (x.path.length=m+1):=hm;have cd:=hid a6;have am:=hid aa;have bM:=hid U;have bc:=hid a5;have bN:=hid hl;have bd:=h.low;have b5:m<=90:=by omega
 clear C o I aO aq h O ak bA aa U hm a6 ap a5 aN hl hL ar G;go_enter func53,ntmps53;go_wp2_with fail
 go_quiet (fail)
 have av:Below w.heap.size w (w.drewN nq):=(Below.refl _ _).drewN;have be:=hid (al.out _ av);have bf:Hid (XM (w.drewN nq) B d (.slice (some ⟨g,0,none⟩) (m+1) pc) (.slice Y x.row.length Z) kv oa oc ps x):=HX.out.later av;have bg:=hid (a7.out.later av);have bh:Hid (Below B w (w.drewN nq)):=(Below.refl _ _).drewN;have bO:B<=(w.drewN nq).heap.size:=hB;clear av al HX a7 x0;generalize w.drewN nq=W1 at *;go_wp2_with fail;refine be.out.mono ?_;rintro r W2⟨v2,rfl,aP,aw⟩;obtain⟨a2,c2,rfl,_,_⟩:=aP.form (by omega);have aQ:=hid (bf.out.later aw);have aR:=hid (bg.out.later aw);have aS:Hid (Below B w W2):=bh.out.trans (aw.mono bO);have bi:B<=W2.heap.size:=le_trans hB aS.out.size;have bj:=hid (AG aQ.out bi aP bN.out (by omega) (by omega) ho bc.out);have bC:E≠d:=aQ.out.ne_st aR.out;clear bf bg bh aw be aP;go_wp2_with fail;refine bj.out.mono ?_;rintro r W3⟨rfl,aT,aU⟩;have bk:=hid aT;have aV:=hid (aR.out.onlyX aU bC);have aW:Hid (Below B w W3):=aS.out.trans (aU.below bd bi);have bP:B<=W3.heap.size:=le_trans hB aW.out.size;have bQ:=a8.out W3 _ _ _ aT;obtain⟨n0,n1,n2,n3⟩:=bQ
 have bl:Hid (∀W,Below W3.heap.size W3 W->Calls prog 90 #[.pointer (some ⟨E,0,none⟩),.int .u8 n.z,.int .u8 n.gone,.int .i64 (pick x.order x.choices n.left)] W fun r w'=>r=.returned (.int .u8 (gj n.st.next n.z n.gone (pick x.order x.choices n.left):Nat))/\Below W.heap.size W w'):=fun W hb=>
  AJ (some ⟨E,0,none⟩) n.st.next b1 b3 _ W (fun W' bR t=>oV ((aV.out.later hb).later bR) ad.out t)
 have ax:Hid (∀W,Below W3.heap.size W3 W->W.cell? ⟨g,m*4,none⟩=some (.pointer (some ⟨E,0,none⟩))/\W.cell? ⟨g,m*4+1,none⟩=some (.int .u8 (n.z:Nat))/\W.cell? ⟨g,m*4+3,none⟩=some (.int .u8 (n.gone:Nat))):=fun W hb=>⟨de hb n0,de hb n1,de hb n3⟩
 have P:Below W3.heap.size W3 W3.drew:=(Below.refl _ _).drew;clear aQ aR aS bj aU aT;go_wp2_with fail
 go_region_held3 (fun W=>W.cell? ⟨g,m*4,none⟩=some (.pointer (some ⟨E,0,none⟩))/\W.cell? ⟨g,m*4+1,none⟩=some (.int .u8 (n.z:Nat))/\W.cell? ⟨g,m*4+3,none⟩=some (.int .u8 (n.gone:Nat)))
  (first|exact ax.out _ P|exact ax.out _ J)
  (first|(go_at_call 90;((with_reducible refine(bl.out _ P).mono ?_);rintro r H⟨rfl,bD⟩;have J:=P.trans (bD.mono P.size))))
 go_wp2_with fail
 refine(p9 b3 _ _).mono ?_;rintro r w'⟨rfl,rfl⟩;have L:=hid (bk.out.later J);have aC:=hid (aV.out.later J);have ae:Hid (Below B w H):=aW.out.trans (J.mono bP);have bE:B<=H.heap.size:=le_trans hB ae.out.size;obtain⟨_,_,bS⟩:=ax.out _ J;have nf:=a9.out _ _ _ _ L.out;have Q:=hid (ba.out H L.out bE);have bT:B<=g:=(i6 L.out.path g rfl).1;have af:Hid (Below B w (H.setCell ⟨g,m*4+3,none⟩ (.int .u8 (wt n.gone (pick x.order x.choices n.left):Nat)))):=ae.out.setCell (p:=⟨g,m*4+3,none⟩) bT _;have aD:Hid (di (H.setCell ⟨g,m*4+3,none⟩ (.int .u8 (wt n.gone (pick x.order x.choices n.left):Nat))) E n.st):=iD aC.out (lj H g (m*4+3) _) (i6 L.out.path) kT
 have bF:(H.setCell ⟨g,m*4+3,none⟩ (.int .u8 (wt n.gone (pick x.order x.choices n.left):Nat))).cell? ⟨g,m*4,none⟩=some (.pointer (some ⟨E,0,none⟩)):=by
  have bU:m<(ps.set m (E,{ n with gone:=wt n.gone (pick x.order x.choices n.left) })).length:=by
   have:=congrArg List.length Q.out.eq;rw[length_map]at this;rw[this];show m<(x.path.set m _).length;rw[List.length_set,bL.out];omega
  have D:=(Q.out.node bU).1.c0;rw[List.getElem_set_self]at D;exact D
 have bm:=hid (L2 aD.out);clear bk aV aW L aC ae ba a9 a8 ax bl;generalize pick x.order x.choices n.left=T at *;generalize bG:H.setCell ⟨g,m*4+3,none⟩ (.int .u8 (wt n.gone T:Nat))=s at *;go_wp2_with fail;refine bm.out.mono ?_;rintro r w'⟨rfl,rfl⟩;clear bG bm bS nf;have bH:B<=s.heap.size:=le_trans hB af.out.size;have an:di (s.alloc (.cells (eB (eT n.st)) 163)) s.heap.size n.st:=Kl s n.st;have aX:=hid (vX an ad.out T);rw[am.out,qk]at aX;have a4:(s.alloc (.cells (eB (eT n.st)) 163)).heap.size=s.heap.size+1:=World.size_alloc _ _;have aE:=da s (.cells (eB (eT n.st)) 163)
 have bI:Hid (s1.Ok F):=by
  have:=ad.out.step_ok T;rw[am.out]at this;exact this
 obtain⟨nb,aY⟩:∃nb,nb=s.heap.size:=⟨_,rfl⟩
 go_wp2_with fail
 refine aX.out.mono ?_;rintro r b⟨rfl,aF,aG⟩;have ag:Below s.heap.size s b:=aE.trans (aG.below (Nat.le_refl _) (by omega));have ah:=hid (Q.out.later ag);have ai:Hid (Below B w b):=af.out.trans (ag.mono bH);have bJ:B<=b.heap.size:=le_trans hB ai.out.size;have ao:di b nb s1:=by rw[aY];exact aF
 have aH:Hid ((Value.slice Y x.row.length Z).ownBlock≠some b.heap.size):=fun e0=>by
  have:=(World.ownsRow.lt ah.out.row _ e0).2;omega
 have R:=da b (.cells #[.int .i64 e.thread,.int .i64 e.kind,.int .i64 e.obj,.bool e.fail] 112);have aI:=hid (ah.out.later R);have aJ:=hid (ao.later R);have aj:Hid (eo (b.alloc (.cells #[.int .i64 e.thread,.int .i64 e.kind,.int .i64 e.obj,.bool e.fail] 112)) b.heap.size e):=eo.new b e;have aK:Hid (Below B w (b.alloc (.cells #[.int .i64 e.thread,.int .i64 e.kind,.int .i64 e.obj,.bool e.fail] 112))):=ai.out.trans (R.mono bJ);clear Q aD af an aX aE aF aG ag ah ai ao R bF;rw[<-aY];clear aY a4;go_wp2_with fail;refine m7 (S:=fun W=>W.cell? ⟨d,1,none⟩=some (.slice Y x.row.length Z)/\W.cell? ⟨b.heap.size,0,none⟩=some (.int .i64 e.thread)/\W.cell? ⟨b.heap.size,1,none⟩=some (.int .i64 e.kind)/\W.cell? ⟨b.heap.size,2,none⟩=some (.int .i64 e.obj)/\W.cell? ⟨b.heap.size,3,none⟩=some (.bool e.fail)) (k:=10) (by kernel_rfl) ?_
 obtain⟨N,bn⟩:∃N,N=b.heap.size:=⟨_,rfl⟩
 rw[<-bn]at aj aH ⊢;have ay:Hid (XM (b.alloc (.cells #[.int .i64 e.thread,.int .i64 e.kind,.int .i64 e.obj,.bool e.fail] 112)).drew B d (.slice (some ⟨g,0,none⟩) (m+1) pc) (.slice Y x.row.length Z) kv oa oc (ps.set m (E,{ n with gone:=wt n.gone T })) { x with choices:=fH x.choices n.left,path:=x.path.set m { n with gone:=wt n.gone T } }):=aI.out.drew;have aZ:Hid (di (b.alloc (.cells #[.int .i64 e.thread,.int .i64 e.kind,.int .i64 e.obj,.bool e.fail] 112)).drew nb s1):=aJ;have az:Hid (eo (b.alloc (.cells #[.int .i64 e.thread,.int .i64 e.kind,.int .i64 e.obj,.bool e.fail] 112)).drew N e):=aj;have bo:Hid (Below B w (b.alloc (.cells #[.int .i64 e.thread,.int .i64 e.kind,.int .i64 e.obj,.bool e.fail] 112)).drew):=aK.out.drew;clear aI aJ aj aK;generalize (b.alloc (.cells #[.int .i64 e.thread,.int .i64 e.kind,.int .i64 e.obj,.bool e.fail] 112)).drew=V at *;clear bn;have a0:B<=V.heap.size:=le_trans hB bo.out.size
 have a1:Hid (∀W,Below V.heap.size V W->W.cell? ⟨d,1,none⟩=some (.slice Y x.row.length Z)/\W.cell? ⟨N,0,none⟩=some (.int .i64 e.thread)/\W.cell? ⟨N,1,none⟩=some (.int .i64 e.kind)/\W.cell? ⟨N,2,none⟩=some (.int .i64 e.obj)/\W.cell? ⟨N,3,none⟩=some (.bool e.fail)):=fun W hb=>⟨de hb ay.out.cells.2.1,(az.out.later hb).cells⟩
 have aL:Hid (∀W v6 l,Below V.heap.size V W->dc l B 112 4 eg v6 (x.row++[e])->W.grownBy l (Value.slice Y x.row.length Z).ownBlock->XM (l.setCell ⟨d,1,none⟩ v6) B d (.slice (some ⟨g,0,none⟩) (m+1) pc) v6 kv oa oc (ps.set m (E,{ n with gone:=wt n.gone T })) { x with choices:=fH x.choices n.left,path:=x.path.set m { n with gone:=wt n.gone T },row:=x.row++[e] }/\di (l.setCell ⟨d,1,none⟩ v6) nb s1/\Below B w (l.setCell ⟨d,1,none⟩ v6)/\(l.cell? ⟨d,1,none⟩=some (.slice Y x.row.length Z)/\l.frozen? ⟨d,1,none⟩=false)):=by
  intro W v6 l hb bp A;have D:=ay.out.later hb;have au:B<=W.heap.size:=le_trans a0 hb.size;have ht:=i6 D.row;have h2:=D.moreRow au (show dr l B v6 (x.row++[e])from bp) A
  have bq:l.heap[d]?=W.heap[d]?:=A.block d D.lt fun e=>by
   obtain⟨_,cs,aA⟩:=ht d e.symm;rw[D.blk]at aA;injection aA with aA;injection aA with _ h2;exact nc h2
  have aa:di l nb s1:=iD (aZ.out.later hb) A ht vC;have a3:nb≠d:=D.ne_st (aZ.out.later hb);refine⟨h2,aa.onlyX ((Only.refl d l).setCell 1 _) a3,((bo.out.trans (hb.mono a0)).trans (jf A ht au)).setCell (p:=⟨d,1,none⟩) bd _,?_,?_⟩
  ·rw[World.cell?_of_block (w:=W) (a:=⟨d,1,none⟩) bq];exact D.cells.2.1
  ·rw[World.frozen?_of_block (w:=W) (a:=⟨d,1,none⟩) bq];exact D.frozen 1
 have br:Hid (∀W v6 l,Below V.heap.size V W->dc l B 112 4 eg v6 (x.row++[e])->W.grownBy l (Value.slice Y x.row.length Z).ownBlock->((Value.slice Y x.row.length Z).ownBlock≠some N)->l.cell? ⟨N,0,none⟩=some (.int .i64 e.thread)/\l.cell? ⟨N,1,none⟩=some (.int .i64 e.kind)/\l.cell? ⟨N,2,none⟩=some (.int .i64 e.obj)/\l.cell? ⟨N,3,none⟩=some (.bool e.fail)):=by
  intro W v6 l hb bp A a3;have bV:eo l N e:=(A.block N (az.out.later hb).lt (fun e=>a3 e.symm)).trans (az.out.later hb);exact bV.cells
 have bs:Hid (∀W,Below V.heap.size V W->dc W B 112 4 eg (.slice Y x.row.length Z) x.row):=fun W hb=>(ay.out.later hb).row
 have bt:Hid (∀W:World,(∀j u,(eg e)[j]?=some u->(W.alloc (.cells (eg e).toArray 112)).cell? (Addr.add ⟨W.heap.size,0,none⟩ j)=some u)):=fun W=>gw W (eg e) _ _ rfl
 have c:=a1.out V (Below.refl _ _);have X:=da V (.cells (eg e).toArray 112);clear ay aZ az;refine dK 0 (v:=?_) [10] rfl (by kernel_rfl) (by kernel_rfl) (fun _ _ _ h=>h) c ?_ ?_
 rotate_left
 ·intro w hSw
  try dsimp only at hSw
  go_simp
  with_reducible rfl
 try simp only[Act.put,setIfInBounds_toArray]
 refine dK 1 (v:=?_) [10] rfl (by kernel_rfl) (by kernel_rfl) (fun _ _ _ h=>h) c ?_ ?_
 rotate_left
 ·intro w hSw
  try dsimp only at hSw
  go_simp
  with_reducible rfl
 try simp only[Act.put]
 refine dK 2 (v:=?_) [10] rfl (by kernel_rfl) (by kernel_rfl) (fun _ _ _ h=>h) c ?_ ?_
 rotate_left
 ·intro w hSw
  try dsimp only at hSw
  go_simp
  with_reducible rfl
 try simp only[Act.put]
 refine dK 3 (v:=?_) [10] rfl (by kernel_rfl) (by kernel_rfl) (fun _ _ _ h=>h) c ?_ ?_
 rotate_left
 ·intro w hSw
  try dsimp only at hSw
  go_simp
  with_reducible rfl
 try simp only[Act.put]
 refine dK 4 (v:=?_) [10] rfl (by kernel_rfl) (by kernel_rfl) (fun _ _ _ h=>h) c ?_ ?_
 rotate_left
 ·intro w hSw
  try dsimp only at hSw
  go_simp
  with_reducible rfl
 try simp only[Act.put]
 refine dK 5 (v:=?_) [10] rfl (by kernel_rfl) (by kernel_rfl) (fun _ _ _ h=>h) c ?_ ?_
 rotate_left
 ·intro w hSw
  try dsimp only at hSw
  go_simp
  with_reducible rfl
 try simp only[Act.put]
 refine fg (i:=6) (by kernel_rfl) rfl (fun K hK=>?_)
 go_simp
 refine hK.out _ _ (fun _=>a1.out _ X) ?_;clear hK K
 try simp only[Act.put,setIfInBounds_toArray,set_cons_zero,set_cons_succ]
 refine fg (i:=7) (by kernel_rfl) rfl (fun K hK=>?_)
 refine lG (f:=eg) (n:=4) 95 112 32 (.agg #[.int .i64 0,.int .i64 0,.int .i64 0,.bool false]) underlying95 ud (by rfl) (by omega) (by omega) (fun _=>rfl) (by rfl) _ _ (by rfl) B _ x.row (by rfl) (bs.out _ X) ⟨V.heap.size,0,none⟩ (by rfl) e (fun v hv=>by simp[eg]at hv;rcases hv with rfl|rfl|rfl|rfl <;> rfl) (bt.out V) (by omega) (le_trans a0 X.size) ?_
 intro v6 l h6 ce A cf;obtain⟨g6,aM,bu,_,_⟩:=dc.block h6 (by simp);rw[length_append,length_singleton]at bu;subst bu;have M:=hid (aL.out _ _ _ X h6 A);have bW:=M.out.2.2.2.2;have bv:=M.out.2.2.2.1;have aB:=And.intro bv (br.out _ _ _ X h6 A aH.out);refine hK.out _ _ (fun _=>aB) ?_;clear hK K
 try simp only[Act.put,setIfInBounds_toArray]
 refine fg (i:=8) (by kernel_rfl) rfl (fun K hK=>?_)
 go_simp
 refine hK.out _ _ (fun _=>aB) ?_;clear hK K
 try simp only[Act.put,setIfInBounds_toArray,set_cons_zero,set_cons_succ]
 refine fg (i:=9) (by kernel_rfl) rfl (fun K hK=>?_)
 go_simp
 refine hK.out _ _ (fun _=>aB) ?_;clear hK K
 try simp only[Act.put,setIfInBounds_toArray,set_cons_zero,set_cons_succ]
 refine fg (i:=10) (by kernel_rfl) rfl (fun K hK=>?_)
 go_simp
 refine hK.out _ _ (fun h=>absurd rfl h) ?_;clear hK K
 try simp only[Act.put,setIfInBounds_toArray,set_cons_zero,set_cons_succ]
 refine m9 (by kernel_rfl) ?_ _
 have bw:=hid (yB (F:=F) (z:=gj n.st.next n.z n.gone T) M.out.1 (le_trans hB M.out.2.2.1.size) M.out.2.1 bI.out (uL _ _ _ _) bK.out (by rw[length_append,length_singleton];omega) bM.out bB.out (show fH x.choices n.left<=100000 by unfold fH;split <;> omega) (show x.nodes<=100000 by omega) (show x.runs<=100000 by omega) (show x.blocked<=100000 by omega) (show x.keys.length<=100000 by omega) ho bc.out)
 have bX:Hid (Below B w (l.setCell ⟨d,1,none⟩ (.slice (some ⟨g6,0,none⟩) (x.row.length+1) aM))):=M.out.2.2.1;clear c bv bW aB a1 aL br bs bt X M;generalize gj n.st.next n.z n.gone T=CH at *;generalize l.setCell ⟨d,1,none⟩ (.slice (some ⟨g6,0,none⟩) (x.row.length+1) aM)=W7 at *;go_wp2_with fail;refine bw.out.mono ?_;rintro r W8⟨rfl,bx,bz⟩;have bY:Hid (m6 B d oa oc (gO x) W8):=by rw[bb.out];exact bx
 have bZ:Hid (Below B w W8):=bX.out.trans bz;clear bw bb bx bz;go_wp2
 go_end0
 exact⟨rfl,bY.out,bZ.out⟩
end
section
theorem AK(x:Xp)(s:St)(z:Nat):(fY x s z).choices<=x.choices+1:=by
 unfold fY;dsimp only
 repeat' split
 ·show fH _ _<=_
  unfold fH
  split <;> omega
 ·exact Nat.le_succ _
 ·exact Nat.le_succ _
theorem MB(x:Xp):(gO x).choices<=x.choices+2:=by
 have h:=AK { x with choices:=fH x.choices (eV x).left,path:=x.path.set (x.path.length-1) { eV x with gone:=wt (eV x).gone (pick x.order x.choices (eV x).left) },row:=x.row++[((eV x).st.step (pick x.order x.choices (eV x).left)).2.1] } ((eV x).st.step (pick x.order x.choices (eV x).left)).2.2 (gj (eV x).st.next (eV x).z (eV x).gone (pick x.order x.choices (eV x).left))
 have a:fH x.choices (eV x).left<=x.choices+1:=by unfold fH;split <;> omega
 refine Nat.le_trans h ?_;show fH _ _+1<=_;omega
theorem xT(x:Xp)(s:St)(z:Nat):(fY x s z).order=x.order:=by
 unfold fY;dsimp only
 repeat' split
 all_goals rfl
theorem GM(x:Xp):(gO x).order=x.order:=xT _ _ _
theorem yZ{y:Xp}{n:Nat}(h:eF y=false∨n=0):jc n y=dH y:=by
 rcases h with h|rfl
 ·cases n with
  |zero=>rfl
  |succ n=>unfold jc;rw[h];rfl
 ·rfl
theorem JI{y:Xp}{b:Nat}(h:eF y=true)(hb:y.nodes<b):jc (b-y.nodes) y=jc (b-(gO (dH y)).nodes) (gO (dH y)):=by
 rw[py,(nZ y).1]
 obtain⟨m,a⟩:∃m,b-y.nodes=m+1:=⟨b-y.nodes-1,by omega⟩
 rw[a,show b-(y.nodes+1)=m by omega];show(if eF y then _ else _)=_;rw[h];rfl
section
variable{F:Nat}{s0':St}{x:Xp}{T:List Nd}{M C:List Ev->Int->Prop}
theorem InvX.facts(a:s0'.Ok F)(h:InvX s0' x T M C):x.row.length<=32/\dJ x.row=true/\(∀n∈x.path,n.st.Ok F)/\∀n∈x.path,n.z<256/\n.go<256/\n.gone<256:=by
 have g:=mE a;obtain⟨_,_,_,hx,_⟩:=h.last;have j:=pB hx;refine⟨by omega,rm a hx,fun n c=>?_,fun n c=>?_⟩
 ·obtain⟨i,b,rfl⟩:=List.mem_iff_getElem.1 c
  obtain⟨_,_,_,hx,_⟩:=h.at_ i b;rw[dV _ b]at hx;exact hx.ok a
 ·obtain⟨i,b,rfl⟩:=List.mem_iff_getElem.1 c
  obtain⟨_,_,_,_,d,e,f,_⟩:=h.at_ i b;rw[dV _ b]at d e f;exact⟨d,e,f⟩
theorem InvX.goes(f:s0'.Ok F)(h:InvX s0' x T M C)(j:(eV x).left≠[]):∃e d,(eV x).st.step (pick x.order x.choices (eV x).left)=(0,e,d)/\dJ (x.row++[e])=true:=by
 obtain⟨m,k,b,c,_,_,_,_,_,g⟩:=h.last;have l:=ta x.order x.choices j;obtain⟨t1,_,_⟩:=qL.1 l;have a:=h.may m k (eV x).st _ (by rw[b];exact c) (by rw[b];exact(g _).2 t1);obtain⟨e,n⟩:=nE a;obtain⟨d,i⟩:=next_step n a;exact⟨e,d,i,rm f (Ll c i)⟩
end
theorem InvX.bounds{p:Pg}{fuel:Int}{F:Nat}{x:Xp}{T:List Nd}{M C:List Ev->Int->Prop}(a:(s0 p fuel).Ok F)(h:InvX (s0 p fuel) x T M C):x.nodes<=dM p fuel/\x.runs<=dM p fuel/\x.blocked<=dM p fuel/\x.keys.length<=dM p fuel:=by
 have b:=ne a h.ok;have c:=rG (s0 p fuel) T;have d:=h.nodes;have e:=h.runs;have f:=h.blk;have g:x.keys.length=(je (s0 p fuel) T).length:=by rw[h.keys];unfold gi;rw[List.length_map]
 omega
theorem LC(s:St)(order:List Int)(b:Int):dx s order b=jc (b.toNat-(lT s order).nodes) (lT s order):=by rw[ur];rfl
end
end Go.Proofs.YtjfmmnhcddckaaaGreat
namespace Go.Proofs
open Go.Shelf
def Tryz.sortStr_ren : Go.Shelf.Ren := ⟨fun | 54 => 54 | 64 => 94 | 65 => 93 | 78 => 149 | 79 => 150 | 80 => 140 | 81 => 141 | 82 => 142 | 83 => 143 | 84 => 144 | 85 => 145 | 61 => 146 | 86 => 147 | 87 => 148 | 93 => 176 | 89 => 177 | 90 => 178 | 94 => 179 | 95 => 180 | 69 => 181 | 97 => 204 | n => n, fun | 25 => 30 | 26 => 9 | 3 => 3 | 51 => 26 | 0 => 0 | 67 => 232 | 69 => 208 | 4 => 4 | 61 => 224 | 60 => 223 | 44 => 229 | 5 => 5 | 9 => 9 | 75 => 266 | 79 => 270 | 83 => 290 | 84 => 291 | n => n, fun | n => n⟩
theorem Tryz.sortStr : Go.Proofs.SlLaysN.n54 Tryz.prog Tryz.sortStr_ren := {
  mixed := by kernel_rfl
  f54 := ⟨Tryz.f54.name, by decide, Tryz.func54.trans (congrArg some (by kernel_rfl))⟩
  f61 := ⟨Tryz.f146.name, by decide, Tryz.func146.trans (congrArg some (by kernel_rfl))⟩
  f64 := Tryz.func94.trans (congrArg some (by kernel_rfl))
  f65 := ⟨Tryz.f93.name, by decide, Tryz.func93.trans (congrArg some (by kernel_rfl))⟩
  f69 := ⟨Tryz.f181.name, by decide, Tryz.func181.trans (congrArg some (by kernel_rfl))⟩
  f78 := Tryz.func149.trans (congrArg some (by kernel_rfl))
  f79 := Tryz.func150.trans (congrArg some (by kernel_rfl))
  f80 := ⟨Tryz.f140.name, by decide, Tryz.func140.trans (congrArg some (by kernel_rfl))⟩
  f81 := ⟨Tryz.f141.name, by decide, Tryz.func141.trans (congrArg some (by kernel_rfl))⟩
  f82 := ⟨Tryz.f142.name, by decide, Tryz.func142.trans (congrArg some (by kernel_rfl))⟩
  f83 := ⟨Tryz.f143.name, by decide, Tryz.func143.trans (congrArg some (by kernel_rfl))⟩
  f84 := ⟨Tryz.f144.name, by decide, Tryz.func144.trans (congrArg some (by kernel_rfl))⟩
  f85 := ⟨Tryz.f145.name, by decide, Tryz.func145.trans (congrArg some (by kernel_rfl))⟩
  f86 := ⟨Tryz.f147.name, by decide, Tryz.func147.trans (congrArg some (by kernel_rfl))⟩
  f87 := ⟨Tryz.f148.name, by decide, Tryz.func148.trans (congrArg some (by kernel_rfl))⟩
  f89 := Tryz.func177.trans (congrArg some (by kernel_rfl))
  f90 := Tryz.func178.trans (congrArg some (by kernel_rfl))
  f93 := ⟨Tryz.f176.name, by decide, Tryz.func176.trans (congrArg some (by kernel_rfl))⟩
  f94 := ⟨Tryz.f179.name, by decide, Tryz.func179.trans (congrArg some (by kernel_rfl))⟩
  f95 := ⟨Tryz.f180.name, by decide, Tryz.func180.trans (congrArg some (by kernel_rfl))⟩
  f97 := ⟨Tryz.f204.name, by decide, Tryz.func204.trans (congrArg some (by kernel_rfl))⟩
  t0 := Tryz.underlying0
  a0 := Tryz.isAgg0
  z0 := Tryz.sizeOf0
  v0 := Tryz.zeroValue0
  t3 := Tryz.underlying3
  a3 := Tryz.isAgg3
  z3 := Tryz.sizeOf3
  v3 := Tryz.zeroValue3
  t4 := Tryz.underlying4
  a4 := Tryz.isAgg4
  z4 := Tryz.sizeOf4
  v4 := Tryz.zeroValue4
  t5 := Tryz.underlying5
  a5 := Tryz.isAgg5
  z5 := Tryz.sizeOf5
  v5 := Tryz.zeroValue5
  t9 := Tryz.underlying9
  a9 := Tryz.isAgg9
  z9 := Tryz.sizeOf9
  v9 := Tryz.zeroValue9
  t25 := Tryz.underlying30
  a25 := Tryz.isAgg30
  z25 := Tryz.sizeOf30
  v25 := Tryz.zeroValue30
  t26 := Tryz.underlying9
  a26 := Tryz.isAgg9
  z26 := Tryz.sizeOf9
  v26 := Tryz.zeroValue9
  t44 := Tryz.underlying229
  a44 := Tryz.isAgg229
  z44 := Tryz.sizeOf229
  v44 := Tryz.zeroValue229
  t51 := Tryz.underlying26
  a51 := Tryz.isAgg26
  z51 := Tryz.sizeOf26
  v51 := Tryz.zeroValue26
  t60 := Tryz.underlying223
  a60 := Tryz.isAgg223
  z60 := Tryz.sizeOf223
  v60 := Tryz.zeroValue223
  t61 := Tryz.underlying224
  a61 := Tryz.isAgg224
  z61 := Tryz.sizeOf224
  v61 := Tryz.zeroValue224
  t67 := Tryz.underlying232
  a67 := Tryz.isAgg232
  z67 := Tryz.sizeOf232
  v67 := Tryz.zeroValue232
  t69 := Tryz.underlying208
  a69 := Tryz.isAgg208
  z69 := Tryz.sizeOf208
  v69 := Tryz.zeroValue208
  t75 := Tryz.underlying266
  a75 := Tryz.isAgg266
  z75 := Tryz.sizeOf266
  v75 := Tryz.zeroValue266
  t79 := Tryz.underlying270
  a79 := Tryz.isAgg270
  z79 := Tryz.sizeOf270
  v79 := Tryz.zeroValue270
  t83 := Tryz.underlying290
  a83 := Tryz.isAgg290
  z83 := Tryz.sizeOf290
  v83 := Tryz.zeroValue290
  t84 := Tryz.underlying291
  a84 := Tryz.isAgg291
  z84 := Tryz.sizeOf291
  v84 := Tryz.zeroValue291 }
def Tryz.compactStr_ren : Go.Shelf.Ren := ⟨fun | 44 => 55 | n => n, fun | 25 => 30 | 26 => 9 | 3 => 3 | 4 => 4 | 0 => 0 | n => n, fun | n => n⟩
theorem Tryz.compactStr : Go.Proofs.SlLaysN.n44 Tryz.prog Tryz.compactStr_ren := {
  mixed := by kernel_rfl
  f44 := ⟨Tryz.f55.name, by decide, Tryz.func55.trans (congrArg some (by kernel_rfl))⟩
  t0 := Tryz.underlying0
  a0 := Tryz.isAgg0
  z0 := Tryz.sizeOf0
  v0 := Tryz.zeroValue0
  t3 := Tryz.underlying3
  a3 := Tryz.isAgg3
  z3 := Tryz.sizeOf3
  v3 := Tryz.zeroValue3
  t4 := Tryz.underlying4
  a4 := Tryz.isAgg4
  z4 := Tryz.sizeOf4
  v4 := Tryz.zeroValue4
  t25 := Tryz.underlying30
  a25 := Tryz.isAgg30
  z25 := Tryz.sizeOf30
  v25 := Tryz.zeroValue30
  t26 := Tryz.underlying9
  a26 := Tryz.isAgg9
  z26 := Tryz.sizeOf9
  v26 := Tryz.zeroValue9
  i26 := by kernel_rfl }
end Go.Proofs
namespace Go.Proofs.YtjfmmnhcddckaaaGreat
section
open Go.Proofs.Tryz Go.RowKit Go.Shelf Go.Sort Go.Lib
theorem sk(ks:List dk):dA du ks=ks.map encStr:=by
 induction ks with
 |nil=>rfl
 |cons k ks a=>
  show du k++dA du ks=_;rw[a];rfl
theorem tS{ks:List dk}:(ks.mergeSort fun x y=>decide (x<=y)).length=ks.length:=List.length_mergeSort _
theorem DB{w:World}{B:Nat}{a:Option Addr}{n cap:Nat}{ks:List dk}(h:dc w B 9 1 du (.slice a n cap) ks)(q:ks.length<=1000000):
  Calls prog 54 #[.slice a n cap] w fun r b=>r=.returned (.tuple #[])/\dc b B 9 1 du (.slice a n cap) (ks.mergeSort fun x y=>decide (x<=y))/\w.grownBy b (Value.slice a n cap).ownBlock:=by
 obtain⟨s,⟨c,d⟩|⟨g,i,p,c,d,e,j,k,l,f⟩⟩:=h
 ·injection c with e1 e2 e3
  subst e1 e2 e3;obtain rfl:=List.length_eq_zero_iff.1 d;refine(AnyG.slices_Sort_string_none Tryz.sortStr none 0 w).mono ?_;rintro r b⟨rfl,rfl⟩;exact⟨rfl,(by rw[List.mergeSort_nil];exact iF _ _ _ _ _),⟨rfl,rfl,rfl,Nat.le_refl _,fun _ _ _=>rfl⟩⟩
 ·injection c with e1 e2 e3
  subst e1 e2 e3;rw[sk]at f;have o:=holds_of_block (ss:=ks) e (by simpa using f);refine(AnyG.slices_Sort_string Tryz.sortStr g 0 cap ks w o (Array.getElem?_eq_some_iff.1 e).1 (by omega)).mono ?_;rintro r b⟨rfl,m,t,rfl⟩;refine⟨rfl,?_,grownBy_sorted _⟩;unfold dc;rw[sk,tS];exact ownsRow_sorted (ss:=ks) tS d e j k l
theorem Ma{ks:List dk}(h:ks.Nodup):Lib.compact ks=ks:=by
 refine compact_all ks fun j a=>?_
 unfold keeps;rw[decide_eq_true_eq]
 by_cases c:j=0
 ·exact .inl c
 ·right
  intro e;have d:ks.toArray[j]! = ks[j]:=by simp[getElem!_pos,a]
  have f:ks.toArray[j-1]! = ks[j-1]'(by omega):=by
   have:j-1<ks.length:=by omega
   simp[getElem!_pos,this]
  rw[d,f]at e
  have b:=(List.nodup_iff_pairwise_ne.1 h)
  rw[List.pairwise_iff_getElem]at b;exact b (j-1) j (by omega) a (by omega) e.symm
theorem Mb{w:World}{B:Nat}{a:Option Addr}{n cap:Nat}{ks:List dk}(h:dc w B 9 1 du (.slice a n cap) ks)(s:ks.length<=1000000)(k:ks.Nodup):
  Calls prog 55 #[.slice a n cap] w fun r b=>r=.returned (.slice a n cap)/\dc b B 9 1 du (.slice a n cap) ks/\w.grownBy b (Value.slice a n cap).ownBlock:=by
 have d:=h;obtain⟨t,⟨c,l⟩|⟨g,j,p,c,l,m,o,u,v,f⟩⟩:=h
 ·injection c with e1 e2 e3
  subst e1 e2 e3;refine(calls_of_every_depth fun D=>AnySG.slices_Compact_string_empty_in Tryz.compactStr D none 0 w).mono ?_;rintro r b⟨rfl,rfl⟩;exact⟨rfl,d,⟨rfl,rfl,rfl,Nat.le_refl _,fun _ _ _=>rfl⟩⟩
 ·injection c with e1 e2 e3
  subst e1 e2 e3;rw[sk]at f;have i:=holds_of_block (ss:=ks) m (by simpa using f);refine(calls_of_every_depth fun D=>AnySG.slices_Compact_string_in Tryz.compactStr D g 0 cap ks w i (by omega) o).mono ?_;rintro r b⟨rfl,q,rfl⟩;rw[Ma k,Nat.sub_self,List.replicate_zero,List.append_nil];have e:putRow encStr (Sort.ahead w q) g 0 ks.toArray=Sort.ahead w q:=putRow_self encStr (Sort.ahead w q) g 0 ks.toArray (holds_ahead encStr w q g 0 ks.toArray i);rw[e];exact⟨rfl,d,⟨rfl,rfl,rfl,Nat.le_refl _,fun _ _ _=>rfl⟩⟩
end
section
open Go.Lib (hid)
open Go.Proofs.Tryz Go.RowKit
def Bz(p:Pg)(fuel a:Int)(order:List Int)(w:World)(r:Ending)(w':World):Prop:=
 (if gA p fuel then ∃v,r=.returned (.tuple #[.agg #[v,.int .i64 ((dx (s0 p fuel) order a).nodes:Nat),.int .i64 ((dx (s0 p fuel) order a).runs:Nat),.int .i64 ((dx (s0 p fuel) order a).blocked:Nat),.bool (!eF (dx (s0 p fuel) order a))],.int .i64 0])/\dc w' w.heap.size 9 1 du v (dG (dx (s0 p fuel) order a).keys)
 else r=.returned (.tuple #[.agg #[.slice none 0 0,.int .i64 0,.int .i64 0,.int .i64 0,.bool false],.int .i64 1]))/\Below w.heap.size w w'
def Lp(a b d e:Value)(x:Xp)(c:Bool):Array Value:=#[a,b,e,.int .i64 (x.choices:Nat),d,.int .i64 (x.nodes:Nat),.int .i64 (x.runs:Nat),.int .i64 (x.blocked:Nat),.bool c]
theorem Gu{T:Type}{f:T->List Value}{n:Nat}{w:World}{B A:Nat}{t:TypeId}{v:Value}{l:List T}(h:w.ownsRow B t n v l.length (dA f l))(i:A<=B):dc w A t n f v l:=by
 obtain⟨d,a|⟨g,b,c,a,j,e⟩⟩:=h
 ·exact⟨d,.inl a⟩
 ·exact⟨d,.inr ⟨g,b,c,a,by omega,e⟩⟩
def ly(w:World)(a:Nat)(b d e f:Value)(x:Xp)(c:Bool):Prop:=w.heap[a]?=some (.cells (Lp b d e f x c) 97 (0,0))
theorem ly.cells{w:World}{a:Nat}{d e b f:Value}{x:Xp}{c:Bool}(h:ly w a d e b f x c):w.cell? ⟨a,4,none⟩=some b/\w.cell? ⟨a,5,none⟩=some (.int .i64 (x.nodes:Nat))/\w.cell? ⟨a,6,none⟩=some (.int .i64 (x.runs:Nat))/\w.cell? ⟨a,7,none⟩=some (.int .i64 (x.blocked:Nat))/\w.cell? ⟨a,8,none⟩=some (.bool c):=by
 refine⟨?_,?_,?_,?_,?_⟩ <;> (rw[cell_of_row w a _ _ _ _ h];rfl)
theorem ly.frozen{w:World}{a:Nat}{b d e f:Value}{x:Xp}{c:Bool}(h:ly w a b d e f x c)(j:Nat):w.frozen? ⟨a,j,none⟩=false:=by simp[World.frozen?,show w.heap[a]?=_ from h]
theorem ly.kept{w w':World}{B b n m:Nat}{v d f g i:Value}{xs:List Value}{x:Xp}{c:Bool}(h:ly w b d f g i x c)(j:w.ownsRow B 9 n v m xs)(k:w.grownBy w' v.ownBlock):ly w' b d f g i x c:=by
 refine(k.block b (Array.getElem?_eq_some_iff.1 h).1 fun e=>?_).trans h;obtain⟨_,l,a⟩:=i6 j b e.symm;rw[show w.heap[b]?=_ from h]at a;injection a with a;injection a with _ h2;exact kV h2
theorem Lg(p:Pg)(a:Option Addr)(cap:Nat)(fuel d:Int)(Q:Option Addr)(oc:Nat)(order:List Int)(w:World)(hp:dI w a p.threads)(al:iL w Q order)(aI:∀x,Q=some x->x.block<w.heap.size)(aJ:∀n∈order,0<=n/\n<256)(ho:order.length<=1000)(am:gA p fuel->dM p fuel<=600):
  Calls prog 30 #[.agg #[.int .i64 p.vars,.int .i64 p.mutexes,.slice a p.threads.length cap],.int .i64 fuel,.int .i64 d,.slice Q order.length oc] w (Bz p fuel d order w):=by
 have au:=eH w (.cells #[.int .i64 p.vars,.int .i64 p.mutexes,.slice a p.threads.length cap] 24) (.cells #[.slice none 0 0,.int .i64 0,.int .i64 0,.int .i64 0,.bool false] 58);have ab:((w.alloc (.cells #[.int .i64 p.vars,.int .i64 p.mutexes,.slice a p.threads.length cap] 24)).alloc (.cells #[.slice none 0 0,.int .i64 0,.int .i64 0,.int .i64 0,.bool false] 58)).heap.size=w.heap.size+2:=by simp[World.size_alloc]
 have an:=hid (tt p a cap fuel _ (hp.later au));go_enter func30,ntmps30;go_wp2_with fail;refine an.out.mono ?_;rintro r f hn;unfold mY at hn
 obtain⟨u,ae⟩:(if gA p fuel then ∃g,r=.returned (.tuple #[.pointer (some ⟨g,0,none⟩),.int .i64 0])/\w.heap.size<=g/\di f g (s0 p fuel)else r=.returned (.tuple #[.pointer none,.int .i64 1]))/\Below (w.heap.size+2) ((w.alloc (.cells #[.int .i64 p.vars,.int .i64 p.mutexes,.slice a p.threads.length cap] 24)).alloc (.cells #[.slice none 0 0,.int .i64 0,.int .i64 0,.int .i64 0,.bool false] 58)) f:=by
  rw[ab]at hn
  by_cases k:gA p fuel
  ·rw[if_pos k]
   have ac:dL p=true/\0<=fuel/\fuel<=8:=k;rw[if_pos ac]at hn;obtain⟨g,h1,h2,h3,h4⟩:=hn;exact⟨⟨g,h1,by omega,h3⟩,h4⟩
  ·rw[if_neg k]
   have ac:¬(dL p=true/\0<=fuel/\fuel<=8):=k;rw[if_neg ac]at hn;exact hn
 have R:f.heap[w.heap.size+1]?=some (.cells #[.slice none 0 0,.int .i64 0,.int .i64 0,.int .i64 0,.bool false] 58 (0,0)):=by
  rw[ae.block _ (by omega)];have:=heap_alloc_new (w.alloc (.cells #[.int .i64 p.vars,.int .i64 p.mutexes,.slice a p.threads.length cap] 24)) (.cells #[.slice none 0 0,.int .i64 0,.int .i64 0,.int .i64 0,.bool false] 58);rw[World.size_alloc]at this;exact this
 have O:Hid (Below w.heap.size w f):=au.trans (ae.mono (by omega));have bI:w.heap.size+2<=f.heap.size:=by have:=ae.size;rw[ab]at this;exact this
 have bJ:=hid R;have bf:=hid al;have aK:=hid aI;have aL:=hid aJ;have bg:=hid am
 have aM:Hid (∀r w',Bz p fuel d order w r w'↔(if gA p fuel then ∃v,r=.returned (.tuple #[.agg #[v,.int .i64 ((dx (s0 p fuel) order d).nodes:Nat),.int .i64 ((dx (s0 p fuel) order d).runs:Nat),.int .i64 ((dx (s0 p fuel) order d).blocked:Nat),.bool (!eF (dx (s0 p fuel) order d))],.int .i64 0])/\dc w' w.heap.size 9 1 du v (dG (dx (s0 p fuel) order d).keys)
 else r=.returned (.tuple #[.agg #[.slice none 0 0,.int .i64 0,.int .i64 0,.int .i64 0,.bool false],.int .i64 1]))/\Below w.heap.size w w'):=fun r w'=>Iff.rfl
 clear hn au ab hp al aI aJ am an ae
 by_cases k:gA p fuel
 ·rw[if_pos k]at u
  obtain⟨sg,rfl,bK,S⟩:=u;have ok:(s0 p fuel).Ok fuel.toNat:=lN k.1 fuel.toNat (by have:=k.2;omega);have E:=hid ok;have bi:=hid k;have bL:=bg.out k;obtain⟨T0,M0,C0,aN⟩:=zU ok order;have bj:=hid aN;have af:=da f (.cells #[.slice none 0 0,.slice none 0 0,.slice Q order.length oc,.int .i64 0,.slice none 0 0,.int .i64 0,.int .i64 0,.int .i64 0,.bool false] 97)
  have aO:Hid (XM (f.alloc (.cells #[.slice none 0 0,.slice none 0 0,.slice Q order.length oc,.int .i64 0,.slice none 0 0,.int .i64 0,.int .i64 0,.int .i64 0,.bool false] 97)) f.heap.size f.heap.size (.slice none 0 0) (.slice none 0 0) (.slice none 0 0) Q oc [] ⟨[],[],order,0,[],0,0,0⟩):=
   ⟨Nat.le_refl _,heap_alloc_new f _,rfl,iF _ _ _ _ _,iF _ _ _ _ eg,iF _ _ _ _ _,kK ((bf.out)) aK.out (O.out.trans (af.mono O.out.size)),fun x hx=>Nat.lt_of_lt_of_le (aK.out x hx) O.out.size,fun q hq=>by cases hq⟩
  have aP:=hid (di.later S af);have av:Hid (Below f.heap.size f (f.alloc (.cells #[.slice none 0 0,.slice none 0 0,.slice Q order.length oc,.int .i64 0,.slice none 0 0,.int .i64 0,.int .i64 0,.int .i64 0,.bool false] 97))):=af;have aQ:=hid (yB (F:=fuel.toNat) (z:=0) aO.out av.out.size aP.out ok (by omega) rfl (by show 0<=100;omega) rfl (fun n hn=>by cases hn) (by show 0<=_;omega) (by show 0<=_;omega) (by show 0<=_;omega) (by show 0<=_;omega) (by show 0<=_;omega) ho aL.out);have aR:Hid (∀W,Calls prog 37 #[.slice none 0 0] W fun r w'=>r=.returned (.int .u8 0)/\W=w'):=fun W=>ky none 0 [] W ⟨by simp[maxLen],fun h=>absurd rfl h⟩ (by simp)
  clear S ok k af aO aP aN
  obtain⟨l,aw⟩:∃l,l=f.heap.size:=⟨_,rfl⟩
  go_wp2_with fail
  refine(aR.out _).mono ?_;rintro r w'⟨rfl,rfl⟩;go_wp2_with fail;refine aQ.out.mono ?_;rintro r W4⟨rfl,aS,aT⟩;have bk:Hid (Below f.heap.size f W4):=av.out.trans aT;have bl:Hid (m6 f.heap.size l Q oc (lT (s0 p fuel) order) W4):=by rw[aw];exact aS
  rw[<-aw];clear aQ aR av aS aT aw;have bM:=ur (s0 p fuel) order;go_wp2_with fail
  go_loopw [28] (fun z wr=>∃y:Xp,Hid (∃T M C,InvX (s0 p fuel) y T M C)/\Hid (m6 f.heap.size l Q oc y wr)/\Hid (y.choices<=2*y.nodes)/\Hid (y.order=order)/\Hid (jc (d.toNat-y.nodes) y=dx (s0 p fuel) order d)/\Hid (Below f.heap.size f wr)) (fun _ wr=>601-(intOf ((wr.cell? ⟨l,5,none⟩).getD undef)).toNat)
  case atStart=>exact⟨_,⟨_,_,_,bj.out⟩,bl.out,(by show _<=_;have:=AK ⟨[],[],order,0,[],0,0,0⟩ (s0 p fuel) 0;have h2:(lT (s0 p fuel) order).choices<=0+1:=this;omega),xT _ _ _,(LC _ _ _).symm,bk.out⟩
  case round=>
   obtain⟨y,HI,HE,ax,ay,U,HB⟩:=hrel;obtain⟨T,M,C,hI⟩:=HI.out;obtain⟨pv,rv,kv,ps,hX⟩:=HE.out;have bm:f.heap.size<=wr.heap.size:=HB.out.size;obtain⟨f1,f2,f3,f4⟩:=hI.facts E.out;obtain⟨n1,n2,n3,n4⟩:=hI.bounds E.out;have bN:=hI.plen;have aU:=hid (zL hX bm (by omega) (by omega) (by omega) (by omega) f4);have aV:=hX.cells.2.2.2.2.2.1;have t:=hid (hI.back);have bn:Hid (wr.cell? ⟨l,5,none⟩=some (.int .i64 (y.nodes:Nat))):=aV;clear hX f1 f2 f3 f4 hI HI HE aV;go_wp2_with fail;refine aU.out.mono ?_;rintro r W5⟨rfl,aW,aX⟩;have ag:=hid aW;have V:Hid (Below f.heap.size f W5):=HB.out.trans aX;obtain⟨g1,g2,g3,g4,g5,g6⟩:=nZ y;clear aU aW aX HB
   cases ha:eF y
   case' false=>have X:Hid (dx (s0 p fuel) order d=dH y):=U.out.symm.trans (yZ (.inl ha))
   case' true=>
    obtain⟨bo,bp,bq,br,P⟩:=ag.out;have c5:W5.cell? ⟨l,5,none⟩=some (.int .i64 (y.nodes:Nat)):=by rw[<-g1];exact P.cells.2.2.2.2.2.1
    by_cases bO:(y.nodes:Int)<d
    case pos=>
     obtain⟨e,s1,S,aY⟩:=t.out.goes E.out (pQ ha);obtain⟨f1,f2,f3,f4⟩:=t.out.facts E.out;have J:=t.out.plen;have bs:=ax.out;have ah:=ay.out;have aZ:=hid (KO P V.out.size J (by omega) aY f3 f4 (pQ ha) S (by rw[g6];omega) (by rw[g1];omega) (by rw[g2];omega) (by rw[g4];omega) (by rw[g3];omega) (by rw[g5,ah];exact ho) (by rw[g5,ah];exact aL.out));obtain⟨T1,M1,C1,a0⟩:=t.out.go E.out (pQ ha);have bt:=hid a0
     have bu:Hid ((gO (dH y)).choices<=2*(gO (dH y)).nodes):=by
      show _<=_;have h1:=MB (dH y);rw[py];omega
     have bv:Hid ((gO (dH y)).order=order):=by show _=_;rw[GM,g5];exact ah
     have bw:Hid (jc (d.toNat-(gO (dH y)).nodes) (gO (dH y))=dx (s0 p fuel) order d):=by
      show _=_;rw[<-JI ha (by omega)];exact U.out
     have bx:Hid ((gO (dH y)).nodes=y.nodes+1):=by show _=_;rw[py,g1]
     clear P S aY f1 f2 f3 f4 J bs ah a0 ax ay U t ag g1 g2 g3 g4 g5 g6;go_wp2_with fail;refine aZ.out.mono ?_;rintro r W6⟨rfl,az,Y⟩;have bz:=hid az;have ai:Hid (Below f.heap.size f W6):=V.out.trans Y
     have bA:Hid (W6.cell? ⟨l,5,none⟩=some (.int .i64 ((y.nodes+1:Nat):Int))):=by
      obtain⟨_,_,_,_,h9⟩:=az;rw[<-bx.out];exact h9.cells.2.2.2.2.2.1
     clear aZ az Y c5;go_wp2
     go_roundw
     case rel=>exact⟨gO (dH y),⟨_,_,_,bt.out⟩,bz,bu,bv,bw,ai⟩
     case measure=>
      rw[bA.out,bn.out];simp[intOf];omega
    case' neg=>have X:Hid (dx (s0 p fuel) order d=dH y):=U.out.symm.trans (yZ (.inr (by omega)))
   all_goals
    obtain⟨bo,bp,bq,br,P⟩:=ag.out;obtain⟨f1,f2,f3,f4⟩:=t.out.facts E.out;obtain⟨p1,p2,p3,p4⟩:=t.out.bounds E.out;have J:=t.out.plen;have ao:=hid (zL P V.out.size (by omega) (by omega) (by omega) (by omega) f4);have L:=hid (pG (order:=order) (b:=d) E.out);rw[X.out]at L;have bh:Hid (eF (dH y)=eF (dx (s0 p fuel) order d)):=by show _=_;rw[X.out]
    have HZ:=hid (nZ (dH y));clear P f1 f2 f3 f4 J t ag ax ay U p1 p2 p3 g1 g2 g3 g4 g5 g6;go_wp2_with fail;refine ao.out.mono ?_;rintro r W6⟨rfl,⟨a1,a2,bP,bQ,s⟩,Y⟩;have ai:Hid (Below f.heap.size f W6):=V.out.trans Y;obtain⟨z1,z2,z3,z4,z5,z6⟩:=HZ.out;have bG:(dH (dH y)).keys.length<=600:=by rw[z3];omega
    obtain⟨m,o,rfl,_,_,_⟩:=dc.form2 s.keys fP (by omega)
    obtain⟨kn,aA⟩:∃kn,kn=(dH (dH y)).keys.length:=⟨_,rfl⟩
    rw[<-aA]at s;have q4:=s.cells.2.2.2.2.1;have q8:=s.cells.2.2.2.2.2.2.2.2;have g8:=s.frozen 8
    obtain⟨c,hc⟩:∃c,c=eF (dH y):=⟨_,rfl⟩
    rw[<-hc];have a3:=lj W6 l 8 (.bool (!c));have aB:Hid (ly (W6.setCell ⟨l,8,none⟩ (.bool (!c))) l a1 a2 (.slice m kn o) (.slice Q (dH (dH y)).order.length oc) (dH (dH y)) (!c)):=heap_setCell_same W6 l 8 _ _ _ s.blk;have aj:Hid (dc (W6.setCell ⟨l,8,none⟩ (.bool (!c))) f.heap.size 9 1 du (.slice m kn o) (dH (dH y)).keys):=fX s.keys a3 s.ty (Ne.symm kV);have aC:Hid (Below f.heap.size f (W6.setCell ⟨l,8,none⟩ (.bool (!c)))):=ai.out.setCell (p:=⟨l,8,none⟩) s.low _;have a4:Hid (f.heap.size<=l):=s.low;have a5:=hid (DB aj.out (by omega));obtain⟨r4,_⟩:=aB.out.cells;have bB:=hid hc;have bR:=hid aA;clear s ao Y a3 hc aA V ai;generalize bC:W6.setCell ⟨l,8,none⟩ (.bool (!c))=W7 at *;go_wp2_with fail;refine a5.out.mono ?_;rintro r W8⟨rfl,ak,aD⟩;clear q4 q8 g8 bC;have aE:=hid (aB.out.kept aj.out aD)
    have ap:((dH (dH y)).keys.mergeSort fun x y=>decide (x<=y)).Nodup:=by
     rw[(List.mergeSort_perm _ _).nodup_iff,z3];exact L.out.2.2.1
    have aF:Hid (Below f.heap.size f W8):=aC.out.trans (jf aD (i6 aj.out) aC.out.size);have a6:=hid (Mb ak (by rw[tS];omega) ap);obtain⟨s4,_⟩:=aE.out.cells;clear a5 aB aj aC aD r4;go_wp2_with fail;refine a6.out.mono ?_;rintro r W9⟨rfl,a7,aG⟩;have Z:=hid (aE.out.kept ak aG);have a8:Hid (Below f.heap.size f W9):=aF.out.trans (jf aG (i6 ak) aF.out.size);obtain⟨t4,t5,t6,t7,t8⟩:=Z.out.cells;have u4:=Z.out.frozen 4;have aq:Hid (ly (W9.setCell ⟨l,4,none⟩ (.slice m kn o)) l a1 a2 (.slice m kn o) (.slice Q (dH (dH y)).order.length oc) (dH (dH y)) (!c)):=heap_setCell_same W9 l 4 _ _ _ Z.out
    have a9:Ty W9 f.heap.size (some l) 97:=by
     intro r D;injection D with D;subst D;exact⟨a4.out,_,Z.out⟩
    have ar:Hid (dc (W9.setCell ⟨l,4,none⟩ (.slice m kn o)) f.heap.size 9 1 du (.slice m kn o) ((dH (dH y)).keys.mergeSort fun x y=>decide (x<=y))):=fX a7 (lj W9 l 4 _) a9 (Ne.symm kV);have ad:Hid (Below f.heap.size f (W9.setCell ⟨l,4,none⟩ (.slice m kn o))):=a8.out.setCell (p:=⟨l,4,none⟩) a4.out _;have B:(W9.setCell ⟨l,4,none⟩ (.slice m kn o)).heap[w.heap.size+1]?=some (.cells #[.slice none 0 0,.int .i64 0,.int .i64 0,.int .i64 0,.bool false] 58 (0,0)):=(ad.out.block _ (by omega)).trans R;obtain⟨v4,v5,v6,v7,v8⟩:=aq.out.cells;rw[z1]at v5;rw[z2]at v6;rw[z4]at v7;clear a6 ak aG a7 a9 s4 Z a8 aE aF ap t5 t6 t7 t8 z1 z2 z4 z5 z6 HZ;generalize bH:W9.setCell ⟨l,4,none⟩ (.slice m kn o)=i at *;have D:=fun j=>cell_of_row i (w.heap.size+1) j _ _ _ B
    have x0:i.cell? ⟨w.heap.size+1,0,none⟩=some (.slice none 0 0):=D 0;have x1:i.cell? ⟨w.heap.size+1,1,none⟩=some (.int .i64 0):=D 1;have x2:i.cell? ⟨w.heap.size+1,2,none⟩=some (.int .i64 0):=D 2;have x3:i.cell? ⟨w.heap.size+1,3,none⟩=some (.int .i64 0):=D 3;have x4:i.cell? ⟨w.heap.size+1,4,none⟩=some (.bool false):=D 4;have N:∀j,i.frozen? ⟨w.heap.size+1,j,none⟩=false:=fun j=>by simp[World.frozen?,B]
    have k0:=N 0;have k1:=N 1;have k2:=N 2;have k3:=N 3;have k4:=N 4;generalize ba:(dH y).nodes=G at *;generalize bb:(dH y).runs=H at *;generalize bc:(dH y).blocked=I at *
    have aH:Hid (Below w.heap.size w (((((i.setCell ⟨w.heap.size+1,0,none⟩ (.slice m kn o)).setCell ⟨w.heap.size+1,1,none⟩ (.int .i64 (G:Int))).setCell ⟨w.heap.size+1,2,none⟩ (.int .i64 (H:Int))).setCell ⟨w.heap.size+1,3,none⟩ (.int .i64 (I:Int))).setCell ⟨w.heap.size+1,4,none⟩ (.bool (!c)))):=
     (((((O.out.trans (ad.out.mono O.out.size)).setCell (p:=⟨w.heap.size+1,0,none⟩) (by show _<=w.heap.size+1;omega) _).setCell (p:=⟨w.heap.size+1,1,none⟩) (by show _<=w.heap.size+1;omega) _).setCell (p:=⟨w.heap.size+1,2,none⟩) (by show _<=w.heap.size+1;omega) _).setCell (p:=⟨w.heap.size+1,3,none⟩) (by show _<=w.heap.size+1;omega) _).setCell (p:=⟨w.heap.size+1,4,none⟩) (by show _<=w.heap.size+1;omega) _
    have aa:w.heap.size+1<f.heap.size:=by omega
    have bD:Hid (dc (((((i.setCell ⟨w.heap.size+1,0,none⟩ (.slice m kn o)).setCell ⟨w.heap.size+1,1,none⟩ (.int .i64 (G:Int))).setCell ⟨w.heap.size+1,2,none⟩ (.int .i64 (H:Int))).setCell ⟨w.heap.size+1,3,none⟩ (.int .i64 (I:Int))).setCell ⟨w.heap.size+1,4,none⟩ (.bool (!c))) w.heap.size 9 1 du (.slice m kn o) (dG (dx (s0 p fuel) order d).keys)):=by
     have h1:=ownsRow_setCell_below (ownsRow_setCell_below (ownsRow_setCell_below (ownsRow_setCell_below (ownsRow_setCell_below ar.out (a:=⟨w.heap.size+1,0,none⟩) aa (.slice m kn o)) (a:=⟨w.heap.size+1,1,none⟩) aa (.int .i64 (G:Int))) (a:=⟨w.heap.size+1,2,none⟩) aa (.int .i64 (H:Int))) (a:=⟨w.heap.size+1,3,none⟩) aa (.int .i64 (I:Int))) (a:=⟨w.heap.size+1,4,none⟩) aa (.bool (!c));have h2:=Gu (A:=w.heap.size) h1 (by omega);rw[X.out,Jq L.out.2.2.1,<-z3];exact h2
    have bE:Hid (Ending.returned (.tuple #[.agg #[.slice m kn o,.int .i64 (G:Int),.int .i64 (H:Int),.int .i64 (I:Int),.bool (!c)],.int .i64 0])=.returned (.tuple #[.agg #[.slice m kn o,.int .i64 ((dx (s0 p fuel) order d).nodes:Nat),.int .i64 ((dx (s0 p fuel) order d).runs:Nat),.int .i64 ((dx (s0 p fuel) order d).blocked:Nat),.bool (!eF (dx (s0 p fuel) order d))],.int .i64 0])):=by
     show _=_;rw[bB.out,bh.out,X.out,ba,bb,bc]
    have bd:=heap_setCell_same _ (w.heap.size+1) 4 _ _ (.bool (!c)) (heap_setCell_same _ (w.heap.size+1) 3 _ _ (.int .i64 (I:Int)) (heap_setCell_same _ (w.heap.size+1) 2 _ _ (.int .i64 (H:Int)) (heap_setCell_same _ (w.heap.size+1) 1 _ _ (.int .i64 (G:Int)) (heap_setCell_same i (w.heap.size+1) 0 _ _ (.slice m kn o) B))));have be:(((((i.setCell ⟨w.heap.size+1,0,none⟩ (.slice m kn o)).setCell ⟨w.heap.size+1,1,none⟩ (.int .i64 (G:Int))).setCell ⟨w.heap.size+1,2,none⟩ (.int .i64 (H:Int))).setCell ⟨w.heap.size+1,3,none⟩ (.int .i64 (I:Int))).setCell ⟨w.heap.size+1,4,none⟩ (.bool (!c))).heap[w.heap.size+1]?=some (.cells #[.slice m kn o,.int .i64 (G:Int),.int .i64 (H:Int),.int .i64 (I:Int),.bool (!c)] 58 (0,0)):=bd;have hy:=fun j=>cell_of_row _ (w.heap.size+1) j _ _ _ be
    have y0:(((((i.setCell ⟨w.heap.size+1,0,none⟩ (.slice m kn o)).setCell ⟨w.heap.size+1,1,none⟩ (.int .i64 (G:Int))).setCell ⟨w.heap.size+1,2,none⟩ (.int .i64 (H:Int))).setCell ⟨w.heap.size+1,3,none⟩ (.int .i64 (I:Int))).setCell ⟨w.heap.size+1,4,none⟩ (.bool (!c))).cell? ⟨w.heap.size+1,0,none⟩=some (.slice m kn o):=hy 0;have y1:(((((i.setCell ⟨w.heap.size+1,0,none⟩ (.slice m kn o)).setCell ⟨w.heap.size+1,1,none⟩ (.int .i64 (G:Int))).setCell ⟨w.heap.size+1,2,none⟩ (.int .i64 (H:Int))).setCell ⟨w.heap.size+1,3,none⟩ (.int .i64 (I:Int))).setCell ⟨w.heap.size+1,4,none⟩ (.bool (!c))).cell? ⟨w.heap.size+1,1,none⟩=some (.int .i64 (G:Int)):=hy 1;have y2:(((((i.setCell ⟨w.heap.size+1,0,none⟩ (.slice m kn o)).setCell ⟨w.heap.size+1,1,none⟩ (.int .i64 (G:Int))).setCell ⟨w.heap.size+1,2,none⟩ (.int .i64 (H:Int))).setCell ⟨w.heap.size+1,3,none⟩ (.int .i64 (I:Int))).setCell ⟨w.heap.size+1,4,none⟩ (.bool (!c))).cell? ⟨w.heap.size+1,2,none⟩=some (.int .i64 (H:Int)):=hy 2;have y3:(((((i.setCell ⟨w.heap.size+1,0,none⟩ (.slice m kn o)).setCell ⟨w.heap.size+1,1,none⟩ (.int .i64 (G:Int))).setCell ⟨w.heap.size+1,2,none⟩ (.int .i64 (H:Int))).setCell ⟨w.heap.size+1,3,none⟩ (.int .i64 (I:Int))).setCell ⟨w.heap.size+1,4,none⟩ (.bool (!c))).cell? ⟨w.heap.size+1,3,none⟩=some (.int .i64 (I:Int)):=hy 3;have y4:(((((i.setCell ⟨w.heap.size+1,0,none⟩ (.slice m kn o)).setCell ⟨w.heap.size+1,1,none⟩ (.int .i64 (G:Int))).setCell ⟨w.heap.size+1,2,none⟩ (.int .i64 (H:Int))).setCell ⟨w.heap.size+1,3,none⟩ (.int .i64 (I:Int))).setCell ⟨w.heap.size+1,4,none⟩ (.bool (!c))).cell? ⟨w.heap.size+1,4,none⟩=some (.bool (!c)):=hy 4;clear aq ar ad D N B z3 L ba bb bc bd be hy;go_wp2_with fail;generalize (((((i.setCell ⟨w.heap.size+1,0,none⟩ (.slice m kn o)).setCell ⟨w.heap.size+1,1,none⟩ (.int .i64 (G:Int))).setCell ⟨w.heap.size+1,2,none⟩ (.int .i64 (H:Int))).setCell ⟨w.heap.size+1,3,none⟩ (.int .i64 (I:Int))).setCell ⟨w.heap.size+1,4,none⟩ (.bool (!c)))=bS at *;clear x0 x1 x2 x3 x4 k0 k1 k2 k3 k4 v4 v5 v6 v7 v8;refine bodyPost_ret (v:=.tuple #[.agg #[.slice m kn o,.int .i64 (G:Int),.int .i64 (H:Int),.int .i64 (I:Int),.bool (!c)],.int .i64 0]) (by simp[results,results30,go_sem,y0,y1,y2,y3,y4]) rfl ?_;exact(aM.out _ _).2 ⟨by rw[if_pos bi.out];exact⟨_,bE.out,bD.out⟩,aH.out⟩
 ·rw[if_neg k]at u
  subst u
  have aH:Hid (Below w.heap.size w (((((f.setCell ⟨w.heap.size+1,0,none⟩ (.slice none 0 0)).setCell ⟨w.heap.size+1,1,none⟩ (.int .i64 0)).setCell ⟨w.heap.size+1,2,none⟩ (.int .i64 0)).setCell ⟨w.heap.size+1,3,none⟩ (.int .i64 0)).setCell ⟨w.heap.size+1,4,none⟩ (.bool false))):=
   ((((O.out.setCell (p:=⟨w.heap.size+1,0,none⟩) (by show _<=w.heap.size+1;omega) _).setCell (p:=⟨w.heap.size+1,1,none⟩) (by show _<=w.heap.size+1;omega) _).setCell (p:=⟨w.heap.size+1,2,none⟩) (by show _<=w.heap.size+1;omega) _).setCell (p:=⟨w.heap.size+1,3,none⟩) (by show _<=w.heap.size+1;omega) _).setCell (p:=⟨w.heap.size+1,4,none⟩) (by show _<=w.heap.size+1;omega) _
  have D:=fun j=>cell_of_row f (w.heap.size+1) j _ _ _ R
  have x0:f.cell? ⟨w.heap.size+1,0,none⟩=some (.slice none 0 0):=D 0;have x1:f.cell? ⟨w.heap.size+1,1,none⟩=some (.int .i64 0):=D 1;have x2:f.cell? ⟨w.heap.size+1,2,none⟩=some (.int .i64 0):=D 2;have x3:f.cell? ⟨w.heap.size+1,3,none⟩=some (.int .i64 0):=D 3;have x4:f.cell? ⟨w.heap.size+1,4,none⟩=some (.bool false):=D 4;have N:∀j,f.frozen? ⟨w.heap.size+1,j,none⟩=false:=fun j=>by simp[World.frozen?,R]
  have f0:=N 0;have f1:=N 1;have f2:=N 2;have f3:=N 3;have f4:=N 4;have bF:=hid k;clear D N R k;go_wp2_with fail;refine bodyPost_ret (v:=.tuple #[.agg #[.slice none 0 0,.int .i64 0,.int .i64 0,.int .i64 0,.bool false],.int .i64 1]) (by simp[results,results30,go_sem,x0,x1,x2,x3,x4]) rfl ?_;exact(aM.out _ _).2 ⟨by rw[if_neg bF.out],aH.out⟩
end
section
open Go.Proofs.Tryz Go.RowKit
theorem Lf(p:Pg)(a:Option Addr)(cap:Nat)(fuel c:Int)(h:Option Addr)(q:Nat)(order:List Int)(w:World)(u:dI w a p.threads)(e:iL w h order)(m:∀x,h=some x->x.block<w.heap.size)(o:∀n∈order,0<=n/\n<256)(y:order.length<=1000)(d:gA p fuel)(f:dM p fuel<=600):
  Calls prog 30 #[.agg #[.int .i64 p.vars,.int .i64 p.mutexes,.slice a p.threads.length cap],.int .i64 fuel,.int .i64 c,.slice h order.length q] w fun r k=>∃i j,r=.returned (.tuple #[.agg #[.slice i (dx (s0 p fuel) order c).runs j,.int .i64 ((dx (s0 p fuel) order c).nodes:Nat),.int .i64 ((dx (s0 p fuel) order c).runs:Nat),.int .i64 ((dx (s0 p fuel) order c).blocked:Nat),.bool (!eF (dx (s0 p fuel) order c))],.int .i64 0]) /\
   dc k w.heap.size 9 1 du (.slice i (dx (s0 p fuel) order c).runs j) (dG (dx (s0 p fuel) order c).keys)/\Below w.heap.size w k:=by
 refine(Lg p a cap fuel c h q order w u e m o y (fun _=>f)).mono ?_;rintro r k⟨s,z⟩;rw[if_pos d]at s;obtain⟨v,t,l⟩:=s;have A:(s0 p fuel).Ok fuel.toNat:=lN d.1 fuel.toNat (by have:=d.2;omega);obtain⟨D,B,C,_⟩:=pG (order:=order) (b:=c) A;have g:(dG (dx (s0 p fuel) order c).keys).length=(dx (s0 p fuel) order c).runs:=by rw[su C,B]
 obtain⟨i,j,rfl,_⟩:=l.form fP (by omega);rw[g]at t l;exact⟨i,j,t,l,z⟩
end
section
theorem Lh:ExplI:=⟨Lf⟩
end
end Go.Proofs.YtjfmmnhcddckaaaGreat
