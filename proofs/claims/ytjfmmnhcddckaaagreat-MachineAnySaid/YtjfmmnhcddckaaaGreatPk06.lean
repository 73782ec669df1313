import Derived.Maps.OwnOps
import Derived.Maps.OwnSet
import Derived.Maps.Views
import Derived.BigQuiet
import Derived.BigRegion
import Derived.Deep.RegionWith
import Derived.Deep.RegionLaw
import Derived.Test.YtjfmmnhcddckaaaGreatPk01
import Derived.Test.YtjfmmnhcddckaaaGreatPk03
import Derived.Test.YtjfmmnhcddckaaaGreatPk04b
import Derived.Test.YtjfmmnhcddckaaaGreatPk05
set_option maxRecDepth 100000
set_option maxHeartbeats 2000000
namespace Go.Proofs.YtjfmmnhcddckaaaGreat
open Go.RowKit
structure SideOk(pre:Nat->Txt)(p:Nat->Int)(l:List Nat)(s:Nat):Prop where
 nodup:l.Nodup
 pos:PosOk p l
 heap:HeapF (ltQ pre s) l.length fun k=>l.getD k 0
theorem SideOk.top{pre:Nat->Txt}{p:Nat->Int}{l:List Nat}{s:Nat}(h:SideOk pre p l s){y:Nat}(hy:y∈l):ltQ pre s y (l.getD 0 0)=false:=by
 obtain⟨k,hk,rfl⟩:=mem_getD hy
 exact heap_top (ZbY pre s) h.heap k hk
theorem ZfL{l:List Nat}{x k:Nat}(h:k<l.length):(l++[x]).getD k 0=l.getD k 0:=by simp[List.getD,List.getElem?_append_left h]
theorem ZkH{l:List Nat}{x:Nat}:(l++[x]).getD l.length 0=x:=by simp[List.getD]
theorem ZeU{l:List Nat}{m k:Nat}(hm:l.length=m+1)(h:k<m):l.dropLast.getD k 0=l.getD k 0:=by
 have h1:k<l.dropLast.length:=by rw[List.length_dropLast];omega
 simp only[List.getD,List.getElem?_eq_getElem h1,List.getElem?_eq_getElem (by omega:k<l.length),Option.getD_some,List.getElem_dropLast]
theorem snoc_last{l:List Nat}{m:Nat}(hm:l.length=m+1):l.dropLast++[l.getD m 0]=l:=by
 have hne:l≠[]:=fun e=>by rw[e]at hm;simp at hm
 have h:=List.dropLast_concat_getLast hne
 have e:l.getLast hne=l.getD m 0:=by
  rw[List.getLast_eq_getElem]
  simp[List.getD,hm]
 rw[<-e]
 exact h
theorem qs_upd{b:Nat}{ids:List Nat}{vs:Nat->Value}{s:Nat}(hs:s<2){v':Value}{z:Nat}(hv:v'.ownBlock=(vs s).ownBlock∨∃y,v'.ownBlock=some y/\z<=y){x:Nat}(hx:QS b ids (updF vs s v') x):QS b ids vs x∨z<=x:=by
 have key:∀t,t<2->(updF vs s v' t).ownBlock=some x->QS b ids vs x∨z<=x:=fun t ht h=>by
  by_cases e:t=s
  ·subst e
   rw[Zac]at h
   rcases hv with hv|⟨y,hv,hy⟩
   ·exact .inl (.own ht (hv▸h))
   ·rw[hv]at h;injection h with h;subst h;exact .inr hy
  ·rw[Zad _ _ e]at h
   exact .inl (.own ht h)
 rcases hx with hx|hx|hx|hx
 ·exact .inl (.inl hx)
 ·exact key 0 (by omega) hx
 ·exact key 1 (by omega) hx
 ·exact .inl (.inr (.inr (.inr hx)))
section
variable{w w' w'':World}{B b:Nat}{pre:Nat->Txt}{ids:List Nat}{vs:Nat->Value}{pl pl1 pl2:Nat->Nat->Int}{ls:Nat->List Nat}{s n n2:Nat}{l1 l2:List Nat}
theorem MvR.trans(a:MvR B b pre ids vs pl ls s n w pl1 l1 w')(c:MvR B b pre ids vs pl1 (updF ls s l1) s n2 w' pl2 l2 w''){k:Nat}(hk:(ls s).length<=k):MvR B b pre ids vs pl ls s k w pl2 l2 w'':=by
 have hq:=c.qr
 have hp:=c.perm
 rw[Zex]at hq
 rw[Zac]at hp
 refine⟨hq,hp.trans a.perm,c.pos,fun t ht=>(c.oth t ht).trans (a.oth t ht),fun j hj=>?_,a.only.trans c.only⟩
 have h1:l2.length=(ls s).length:=(hp.trans a.perm).length_eq
 simp only[List.getD,List.getElem?_eq_none (by omega:l2.length<=j),List.getElem?_eq_none (by omega:(ls s).length<=j)]
theorem MvR.last{m:Nat}(a:MvR B b pre ids vs pl ls s n w pl1 l1 w')(hm:(ls s).length=m+1)(hd:(ls s).Nodup)(hh:HeapF (ltQ pre s) m fun k=>l1.getD k 0):SideOk pre (pl1 s) l1.dropLast s/\(l1.getD m 0::l1.dropLast).Perm (ls s):=by
 have hl:l1.length=m+1:=a.len.trans hm
 have hdl:l1.dropLast.length=m:=by rw[List.length_dropLast];omega
 refine⟨⟨(a.nodup hd).sublist (List.dropLast_sublist _),fun j hj=>?_,?_⟩,?_⟩
 ·rw[hdl]at hj
  rw[ZeU hl hj]
  exact a.pos j (by omega)
 ·rw[hdl]
  exact ZgP hh fun k hk=>(ZeU hl hk).symm
 ·have h1:(l1.getD m 0::l1.dropLast).Perm (l1.dropLast++[l1.getD m 0]):=(List.perm_append_singleton _ _).symm
  rw[snoc_last hl]at h1
  exact h1.trans a.perm
def HPushR(B b:Nat)(pre:Nat->Txt)(ids:List Nat)(vs:Nat->Value)(pl:Nat->Nat->Int)(ls:Nat->List Nat)(s x z:Nat)(w w':World):Prop:=
 ∃v' pl' l',QR w' B b pre ids (updF vs s v') pl' (updF ls s l')/\SideOk pre (pl' s) l' s/\(∀t,t≠s->pl' t=pl t)/\l'.Perm (x::ls s)/\OnlyS (QS b ids vs) w w'/\(v'.ownBlock=(vs s).ownBlock∨∃y,v'.ownBlock=some y/\z<=y)
theorem ZkE(q:QR w B b pre ids vs pl ls)(hs:s<2)(ok:SideOk pre (pl s) (ls s) s){x:Nat}(hx:x∈ids)(hxn:x∉ls s)(hl:(ls s).length<100000):
  Calls Tryz.prog 187 #[endI b s,.iface 278 (.pointer (some ⟨x,0,none⟩))] w fun r w'=>r=.returned (.tuple #[])/\HPushR B b pre ids vs pl ls s x w.heap.size w w':=by
 have HP:=Lib.hid (Zl2 q hs hx hl (z:=w.heap.size) (Nat.le_refl _))
 have HOK:=Lib.hid ok
 have HLT:Hid (∀y,QS b ids vs y->y<w.heap.size):=fun y hy=>q.lt hy
 have hmp:=meth_push b s
 have hml:=ZiO b s
 clear q ok
 go_enter Tryz.func187,Tryz.ntmps187
 go_wp2_with fail
 refine HP.out.mono ?_
 rintro r w2⟨rfl,v',q2,o2,hv⟩
 have hlen:((updF ls s (ls s++[x])) s).length=(ls s).length+1:=by rw[Zac,List.length_append];rfl
 have HL:Hid (Calls Tryz.prog 243 #[endV b s] w2 fun r w'=>r=.returned (.int .i64 ((ls s).length+1))/\Below w2.heap.size w2 w'):=by
  have h:=Zeb q2 hs
  rw[hlen]at h
  exact h
 have HU:Hid (∀w3,Below w2.heap.size w2 w3->Calls Tryz.prog 213 #[endI b s,.int .i64 (ls s).length] w3 fun r w'=>r=.returned (.tuple #[])/\∃pl' l',MvR B b pre ids (updF vs s v') (plPut pl s x (ls s).length) (updF ls s (ls s++[x])) s ((ls s).length+1) w3 pl' l' w'/\HeapF (ltQ pre s) ((ls s).length+1) (fun k=>l'.getD k 0)):=fun w3 hb=>by
  refine up_any (q2.later hb) hs ?_ ?_ (by rw[hlen];exact Nat.le_refl _) (Nat.lt_succ_self _) ?_
  ·rw[Zac,List.nodup_append]
   exact⟨HOK.out.nodup,by simp,fun y hy z hz=>by simp at hz;subst hz;rintro rfl;exact hxn hy⟩
  ·rw[Zac]
   intro j hj
   rw[List.length_append,List.length_singleton]at hj
   unfold plPut
   rw[Zac]
   by_cases e:j=(ls s).length
   ·subst e
    rw[ZkH,Zac]
   ·rw[ZfL (by omega),Zad _ _ (fun e2=>hxn (by rw[<-e2];exact Zd7 (by omega)))]
    exact HOK.out.pos j (by omega)
  ·rw[Zac]
   exact heap_snoc (ZgP HOK.out.heap fun k hk=>(ZfL hk).symm)
 have O2:=Lib.hid o2
 have HV:=Lib.hid hv
 clear q2 o2 hv hlen
 go_wp2_with fail
 refine HL.out.mono ?_
 rintro r w3⟨rfl,hb3⟩
 have HB3:=Lib.hid hb3
 go_wp2_with fail
 refine(HU.out w3 hb3).mono ?_
 rintro r w4⟨rfl,pl',l',m,hh⟩
 have HM:=Lib.hid m
 have HH:=Lib.hid hh
 clear hb3 m hh
 go_wp2
 refine bodyPost_end (results_none rfl _ _ _) rfl ⟨rfl,v',pl',l',?_,?_,?_,?_,?_,HV.out⟩
 ·have:=HM.out.qr
  rw[Zex]at this
  exact this
 ·have hp:=HM.out.perm
  rw[Zac]at hp
  have hl':l'.length=(ls s).length+1:=by rw[hp.length_eq,List.length_append];rfl
  refine⟨hp.nodup_iff.2 ?_,HM.out.pos,by rw[hl'];exact HH.out⟩
  rw[List.nodup_append]
  exact⟨HOK.out.nodup,by simp,fun y hy z hz=>by simp at hz;subst hz;rintro rfl;exact hxn hy⟩
 ·intro t ht
  rw[HM.out.oth t ht]
  unfold plPut
  rw[Zad _ _ ht]
 ·have hp:=HM.out.perm
  rw[Zac]at hp
  exact hp.trans (List.perm_append_singleton _ _)
 ·refine(O2.out.trans (OnlyS.of_below HB3.out)).thenS HM.out.only fun y hy h=>?_
  rcases qs_upd hs HV.out h with h1|h1
  ·exact h1
  ·omega
def HPopR(B b:Nat)(pre:Nat->Txt)(ids:List Nat)(vs:Nat->Value)(pl:Nat->Nat->Int)(ls:Nat->List Nat)(s x:Nat)(w w':World):Prop:=
 ∃v' pl' l',QR w' B b pre ids (updF vs s v') pl' (updF ls s l')/\SideOk pre (pl' s) l' s/\(∀t,t≠s->pl' t=pl t)/\(x::l').Perm (ls s)/\OnlyS (QS b ids vs) w w'/\v'.ownBlock=(vs s).ownBlock
theorem hpop_end(a:MvR B b pre ids vs pl ls s n w pl1 l1 w')(hs:s<2){m:Nat}(hm:(ls s).length=m+1)(hd:(ls s).Nodup)(hh:HeapF (ltQ pre s) m fun k=>l1.getD k 0){x:Nat}(hx:l1.getD m 0=x):
  Calls Tryz.prog 245 #[endV b s] w' fun r w''=>r=.returned (.iface 278 (.pointer (some ⟨x,0,none⟩)))/\HPopR B b pre ids vs pl ls s x w w'':=by
 have hl:l1.length=m+1:=a.len.trans hm
 refine(endPop_any a.qr hs (m:=m) (by rw[Zac];exact hl)).mono ?_
 rintro r w''⟨rfl,v',q,o,hv⟩
 rw[Zac]at q ⊢
 rw[Zex]at q
 obtain⟨h1,h2⟩:=a.last hm hd hh
 rw[hx]at h2
 rw[hx]
 exact⟨rfl,v',pl1,l1.dropLast,q,h1,a.oth,h2,a.only.trans o,hv⟩
theorem ZlT(q:QR w B b pre ids vs pl ls)(hs:s<2)(ok:SideOk pre (pl s) (ls s) s){m:Nat}(hm:(ls s).length=m+1):
  Calls Tryz.prog 194 #[endI b s] w fun r w'=>r=.returned (.iface 278 (.pointer (some ⟨(ls s).getD 0 0,0,none⟩)))/\HPopR B b pre ids vs pl ls s ((ls s).getD 0 0) w w':=by
 have hml:=q.len s hs
 rw[hm]at hml
 have HL:Hid (Calls Tryz.prog 243 #[endV b s] w fun r w'=>r=.returned (.int .i64 ((m:Int)+1))/\Below w.heap.size w w'):=by
  have h:=Zeb q hs
  rw[hm]at h
  exact h
 have HS:Hid (∀w2,Below w.heap.size w w2->Calls Tryz.prog 247 #[endV b s,.int .i64 0,.int .i64 m] w2 fun r w'=>r=.returned (.tuple #[])/\∃pl1,MvR B b pre ids vs pl ls s (m+1) w pl1 (swpL (ls s) 0 m) w'):=fun w2 hb=>by
  have M2:MvR B b pre ids vs pl ls s (m+1) w pl (ls s) w2:=(MvR.refl q ok.pos).later hb
  refine(ZbZ (q.later hb) hs (i:=0) (k:=m) (by omega) (by omega)).mono ?_
  rintro r w3⟨rfl,q3,o3⟩
  exact⟨rfl,_,M2.swap hs ok.nodup (by omega) (by omega) (by omega) (by omega) (by rw[Zih];exact q3) o3⟩
 have HDN:Hid (∀w3 pl1,MvR B b pre ids vs pl ls s (m+1) w pl1 (swpL (ls s) 0 m) w3->Calls Tryz.prog 218 #[endI b s,.int .i64 0,.int .i64 m] w3 fun r w'=>∃d pl2 l2,r=.returned (.bool d)/\MvR B b pre ids vs pl ls s (m+1) w pl2 l2 w'/\HeapF (ltQ pre s) m (fun k=>l2.getD k 0)/\l2.getD m 0=(ls s).getD 0 0):=fun w3 pl1 M3=>by
  refine(down_any M3.qr hs (n:=m) (i0:=0) (by rw[Zac];exact M3.nodup ok.nodup) (by rw[Zac];exact M3.pos) (by rw[Zac,Zim];omega) (Nat.zero_le _) ?_).mono ?_
  ·rw[Zac]
   refine ZcA (Nat.zero_le _) (ZkD (ZbY pre s) (n:=m) (f:=fun k=>(ls s).getD k 0) (by have:=ok.heap;rw[hm]at this;exact this) (i:=0)) fun k _=>(Zba (by omega) (by omega) k).symm
  ·rintro r w4⟨d,pl2,l2,rfl,M4,h1,h2⟩
   refine⟨d,pl2,l2,rfl,M3.trans M4 (by omega),?_,?_⟩
   ·cases d
    ·exact up_zero (h2 rfl)
    ·exact h1 rfl
   ·have:=M4.rest m (Nat.le_refl _)
    rw[Zac,Zba (by omega) (by omega),Zgl]at this
    exact this
 have HE:Hid (∀w4 pl2 l2,MvR B b pre ids vs pl ls s (m+1) w pl2 l2 w4->HeapF (ltQ pre s) m (fun k=>l2.getD k 0)->l2.getD m 0=(ls s).getD 0 0->_):=fun w4 pl2 l2 h1 h2 h3=>hpop_end (w':=w4) h1 hs hm ok.nodup h2 h3
 have hmp:=meth_pop b s
 have hmn:=ZiO b s
 have hms:=ZeI b s
 clear q ok
 generalize (ls s).getD 0 0=x0 at *
 go_enter Tryz.func194,Tryz.ntmps194
 go_wp2_with fail
 refine HL.out.mono ?_
 rintro r w2⟨rfl,hb2⟩
 go_wp2_with fail
 refine(HS.out w2 hb2).mono ?_
 rintro r w3⟨rfl,pl1,m3⟩
 have M3:=Lib.hid m3
 clear m3 hb2
 go_wp2_with fail
 refine(HDN.out w3 pl1 M3.out).mono ?_
 rintro r w4⟨d,pl2,l2,rfl,m4,h4,e4⟩
 have HEE:=Lib.hid (HE.out w4 pl2 l2 m4 h4 e4)
 clear m4 h4 e4
 go_wp2_with fail
 refine HEE.out.mono ?_
 rintro r w5⟨rfl,h5⟩
 have H5:=Lib.hid h5
 clear h5
 go_wp2
 go_ret
 exact⟨rfl,H5.out⟩
theorem Zhq(q:QR w B b pre ids vs pl ls)(hs:s<2)(ok:SideOk pre (pl s) (ls s) s){i m:Nat}(hm:(ls s).length=m+1)(hi:i<=m):
  Calls Tryz.prog 195 #[endI b s,.int .i64 i] w fun r w'=>r=.returned (.iface 278 (.pointer (some ⟨(ls s).getD i 0,0,none⟩)))/\HPopR B b pre ids vs pl ls s ((ls s).getD i 0) w w':=by
 have hml:=q.len s hs
 rw[hm]at hml
 have HL:Hid (Calls Tryz.prog 243 #[endV b s] w fun r w'=>r=.returned (.int .i64 ((m:Int)+1))/\Below w.heap.size w w'):=by
  have h:=Zeb q hs
  rw[hm]at h
  exact h
 have hmp:=meth_pop b s
 have hmn:=ZiO b s
 have hms:=ZeI b s
 have HE:Hid (∀w4 n pl2 l2,MvR B b pre ids vs pl ls s n w pl2 l2 w4->HeapF (ltQ pre s) m (fun k=>l2.getD k 0)->l2.getD m 0=(ls s).getD i 0->_):=fun w4 n pl2 l2 h1 h2 h3=>hpop_end (n:=n) (w':=w4) h1 hs hm ok.nodup h2 h3
 by_cases him:i=m
 ·have HE2:Hid (∀w2,Below w.heap.size w w2->_):=fun w2 hb=>HE.out w2 (m+1) pl (ls s) ((MvR.refl q ok.pos).later hb) (by have:=ok.heap;rw[hm]at this;exact heap_less this) (by rw[him])
  have q0:((m:Int)==(i:Int))=true:=by simp[him]
  clear q ok him HE
  generalize (ls s).getD i 0=x0 at *
  go_enter Tryz.func195,Tryz.ntmps195
  go_wp2_with fail
  refine HL.out.mono ?_
  rintro r w2⟨rfl,hb2⟩
  have HEE:=Lib.hid (HE2.out w2 hb2)
  go_wp2_with fail
  refine HEE.out.mono ?_
  rintro r w5⟨rfl,h5⟩
  have H5:=Lib.hid h5
  clear h5
  go_wp2
  go_ret
  exact⟨rfl,H5.out⟩
 have HS:Hid (∀w2,Below w.heap.size w w2->Calls Tryz.prog 247 #[endV b s,.int .i64 i,.int .i64 m] w2 fun r w'=>r=.returned (.tuple #[])/\∃pl1,MvR B b pre ids vs pl ls s (m+1) w pl1 (swpL (ls s) i m) w'):=fun w2 hb=>by
  have M2:MvR B b pre ids vs pl ls s (m+1) w pl (ls s) w2:=(MvR.refl q ok.pos).later hb
  refine(ZbZ (q.later hb) hs (i:=i) (k:=m) (by omega) (by omega)).mono ?_
  rintro r w3⟨rfl,q3,o3⟩
  exact⟨rfl,_,M2.swap hs ok.nodup (by omega) (by omega) (by omega) (by omega) (by rw[Zih];exact q3) o3⟩
 have HDN:Hid (∀w3 pl1,MvR B b pre ids vs pl ls s (m+1) w pl1 (swpL (ls s) i m) w3->Calls Tryz.prog 218 #[endI b s,.int .i64 i,.int .i64 m] w3 fun r w'=>∃d pl2 l2,r=.returned (.bool d)/\MvR B b pre ids vs pl ls s (m+1) w pl2 l2 w'/\(d=true->HeapF (ltQ pre s) m (fun k=>l2.getD k 0))/\(d=false->UpF (ltQ pre s) m (fun k=>l2.getD k 0) i)/\l2.getD m 0=(ls s).getD i 0):=fun w3 pl1 M3=>by
  refine(down_any M3.qr hs (n:=m) (i0:=i) (by rw[Zac];exact M3.nodup ok.nodup) (by rw[Zac];exact M3.pos) (by rw[Zac,Zim];omega) hi ?_).mono ?_
  ·rw[Zac]
   refine ZcA hi (ZkD (ZbY pre s) (n:=m) (f:=fun k=>(ls s).getD k 0) (by have:=ok.heap;rw[hm]at this;exact this) (i:=i)) fun k _=>(Zba (by omega) (by omega) k).symm
  ·rintro r w4⟨d,pl2,l2,rfl,M4,h1,h2⟩
   refine⟨d,pl2,l2,rfl,M3.trans M4 (by omega),h1,h2,?_⟩
   have:=M4.rest m (Nat.le_refl _)
   rw[Zac,Zba (by omega) (by omega),Zgl]at this
   exact this
 have HUP:Hid (∀w4 pl2 l2,MvR B b pre ids vs pl ls s (m+1) w pl2 l2 w4->UpF (ltQ pre s) m (fun k=>l2.getD k 0) i->l2.getD m 0=(ls s).getD i 0->Calls Tryz.prog 213 #[endI b s,.int .i64 i] w4 fun r w'=>r=.returned (.tuple #[])/\∃pl3 l3,MvR B b pre ids vs pl ls s (m+1) w pl3 l3 w'/\HeapF (ltQ pre s) m (fun k=>l3.getD k 0)/\l3.getD m 0=(ls s).getD i 0):=fun w4 pl2 l2 M4 hu e4=>by
  refine(up_any M4.qr hs (n:=m) (j:=i) (by rw[Zac];exact M4.nodup ok.nodup) (by rw[Zac];exact M4.pos) (by rw[Zac,M4.len];omega) (by omega) (by rw[Zac];exact hu)).mono ?_
  rintro r w5⟨rfl,pl3,l3,M5,h5⟩
  refine⟨rfl,pl3,l3,M4.trans M5 (by omega),h5,?_⟩
  have:=M5.rest m (Nat.le_refl _)
  rw[Zac]at this
  exact this.trans e4
 have q0:((m:Int)==(i:Int))=false:=by rw[beq_eq_false_iff_ne];omega
 clear q ok him
 generalize (ls s).getD i 0=x0 at *
 go_enter Tryz.func195,Tryz.ntmps195
 go_wp2_with fail
 refine HL.out.mono ?_
 rintro r w2⟨rfl,hb2⟩
 go_wp2_with fail
 refine(HS.out w2 hb2).mono ?_
 rintro r w3⟨rfl,pl1,m3⟩
 have M3:=Lib.hid m3
 clear m3 hb2
 go_wp2_with fail
 refine(HDN.out w3 pl1 M3.out).mono ?_
 rintro r w4⟨d,pl2,l2,rfl,m4,h4,u4,e4⟩
 cases d
 ·have HUU:=Lib.hid (HUP.out w4 pl2 l2 m4 (u4 rfl) e4)
  clear m4 h4 u4 e4
  go_wp2_with fail
  refine HUU.out.mono ?_
  rintro r w5⟨rfl,pl3,l3,m5,h5,e5⟩
  have HEE:=Lib.hid (HE.out w5 (m+1) pl3 l3 m5 h5 e5)
  clear m5 h5 e5
  go_wp2_with fail
  refine HEE.out.mono ?_
  rintro r w6⟨rfl,h6⟩
  have H6:=Lib.hid h6
  clear h6
  go_wp2
  go_ret
  exact⟨rfl,H6.out⟩
 ·have HEE:=Lib.hid (HE.out w4 (m+1) pl2 l2 m4 (h4 rfl) e4)
  clear m4 h4 u4 e4
  go_wp2_with fail
  refine HEE.out.mono ?_
  rintro r w6⟨rfl,h6⟩
  have H6:=Lib.hid h6
  clear h6
  go_wp2
  go_ret
  exact⟨rfl,H6.out⟩
end
section
variable{w w' w'':World}{B b:Nat}{pre:Nat->Txt}{ids:List Nat}{vs:Nat->Value}{pl pl1 pl2:Nat->Nat->Int}{ls:Nat->List Nat}{s:Nat}
theorem HPopR.before{x:Nat}(hb:Below w.heap.size w w')(h:HPopR B b pre ids vs pl ls s x w' w''):HPopR B b pre ids vs pl ls s x w w'':=by
 obtain⟨v',pl',l',h1,h2,h3,h4,h5,h6⟩:=h
 exact⟨v',pl',l',h1,h2,h3,h4,OnlyS.after hb h5,h6⟩
theorem take_any(q:QR w B b pre ids vs pl ls)(hs:s<2)(ok:SideOk pre (pl s) (ls s) s){m:Nat}(hm:(ls s).length=m+1):
  Calls Tryz.prog 170 #[endV b s] w fun r w'=>r=.returned (.pointer (some ⟨(ls s).getD 0 0,0,none⟩))/\HPopR B b pre ids vs pl ls s ((ls s).getD 0 0) w w':=by
 have hb1:Below w.heap.size w (w.alloc (.cells #[.pointer (some ⟨b,0,none⟩),.int .i64 s] 261)):=Zaa w _
 have HH:=Lib.hid (ZlT (q.later hb1) hs ok hm)
 have has:=Zhe (.pointer (some ⟨(ls s).getD 0 0,0,none⟩))
 have HB:=Lib.hid hb1
 clear q ok hm hb1
 generalize (ls s).getD 0 0=x0 at *
 go_enter Tryz.func170,Tryz.ntmps170
 go_wp2_with fail
 refine HH.out.mono ?_
 rintro r w2⟨rfl,h2⟩
 have H2:=Lib.hid (h2.before HB.out)
 clear h2
 go_wp2
 go_ret
 exact⟨rfl,H2.out⟩
theorem drop_any(q:QR w B b pre ids vs pl ls)(hs:s<2)(ok:SideOk pre (pl s) (ls s) s){m j x:Nat}(hm:(ls s).length=m+1)(hj:j<=m)(hx:(ls s).getD j 0=x):
  Calls Tryz.prog 171 #[endV b s,.pointer (some ⟨x,0,none⟩)] w fun r w'=>r=.returned (.tuple #[])/\HPopR B b pre ids vs pl ls s x w w':=by
 have hb1:Below w.heap.size w (w.alloc (.cells #[.pointer (some ⟨b,0,none⟩),.int .i64 s] 261)):=Zaa w _
 have q1:=q.later hb1
 have hxi:x∈ids:=q.sub s hs x (hx▸Zd7 (by omega))
 have cx:=(q1.cellI hxi).2 s hs
 have hp:=ok.pos j (by omega)
 rw[hx]at hp
 rw[hp]at cx
 have hs0:(w.alloc (.cells #[.pointer (some ⟨b,0,none⟩),.int .i64 s] 261)).cell? ⟨w.heap.size,0,none⟩=some (.pointer (some ⟨b,0,none⟩)):=by simp
 have hs1:(w.alloc (.cells #[.pointer (some ⟨b,0,none⟩),.int .i64 s] 261)).cell? ⟨w.heap.size,1,none⟩=some (.int .i64 s):=by simp
 have hsi:(s:Int)<2:=by omega
 have HH:Hid (∀W,Below w.heap.size w W->Calls Tryz.prog 195 #[endI b s,.int .i64 j] W fun r w'=>r=.returned (.iface 278 (.pointer (some ⟨x,0,none⟩)))/\HPopR B b pre ids vs pl ls s x w w'):=fun W hb=>by
  refine(Zhq (q.later hb) hs ok hm hj).mono ?_
  rintro r w2⟨rfl,h2⟩
  rw[hx]at h2 ⊢
  exact⟨rfl,h2.before hb⟩
 have hBD:Below w.heap.size w (w.alloc (.cells #[.pointer (some ⟨b,0,none⟩),.int .i64 s] 261)).drew:=hb1.drew
 clear q q1 ok hm hb1 hx hp hj hxi
 go_enter Tryz.func171,Tryz.ntmps171
 go_wp2_with fail
 go_region_with (go_at_call 195;refine(HH.out _ hBD).mono ?_;rintro r w3⟨rfl,h3⟩;have H3:=Lib.hid h3;clear h3)
 all_goals go_wp2
 all_goals refine bodyPost_end (results_none rfl _ _ _) rfl ⟨rfl,H3.out⟩
end
structure QOk(w:World)(B b:Nat)(pre:Nat->Txt)(ids:List Nat)(vs:Nat->Value)(pl:Nat->Nat->Int)(ls:Nat->List Nat):Prop where
 qr:QR w B b pre ids vs pl ls
 ok:∀s,s<2->SideOk pre (pl s) (ls s) s
 perm:(ls 0).Perm (ls 1)
section
variable{w w' w'':World}{B b:Nat}{pre:Nat->Txt}{ids:List Nat}{vs:Nat->Value}{pl pl1 pl2:Nat->Nat->Int}{ls:Nat->List Nat}{s t:Nat}
theorem QOk.both(q:QOk w B b pre ids vs pl ls)(hs:s<2)(ht:t<2):(ls s).Perm (ls t):=by
 rcases two hs with rfl|rfl <;> rcases two ht with rfl|rfl
 ·exact List.Perm.refl _
 ·exact q.perm
 ·exact q.perm.symm
 ·exact List.Perm.refl _
def MoveR(B b:Nat)(pre:Nat->Txt)(ids:List Nat)(vs:Nat->Value)(ls:Nat->List Nat)(s x:Nat)(w w':World):Prop:=
 ∃vs' pl' ls',QOk w' B b pre ids vs' pl' ls'/\(x::ls' s).Perm (ls s)/\OnlyS (QS b ids vs) w w'/\∀y,QS b ids vs' y↔QS b ids vs y
theorem Zlm{v':Value}(hs:s<2)(hv:v'.ownBlock=(vs s).ownBlock){y:Nat}:QS b ids (updF vs s v') y↔QS b ids vs y:=by
 have key:∀t,(updF vs s v' t).ownBlock=(vs t).ownBlock:=fun t=>by
  by_cases e:t=s
  ·subst e;rw[Zac];exact hv
  ·rw[Zad _ _ e]
 unfold QS
 rw[key,key]
theorem move_mk(q:QOk w B b pre ids vs pl ls)(hs:s<2)(ht:t<2)(hst:s≠t){x:Nat}{v1 v2:Value}{l1 l2:List Nat}(q2:QR w' B b pre ids (updF (updF vs s v1) t v2) pl2 (updF (updF ls s l1) t l2))(ok1:SideOk pre (pl1 s) l1 s)(ok2:SideOk pre (pl2 t) l2 t)
  (o2:∀k,k≠t->pl2 k=pl1 k) (p1:(x::l1).Perm (ls s)) (p2:(x::l2).Perm ((updF ls s l1) t)) (e1:v1.ownBlock=(vs s).ownBlock) (e2:v2.ownBlock=(updF vs s v1 t).ownBlock) (o:OnlyS (QS b ids vs) w w'):MoveR B b pre ids vs ls s x w w':=by
 rw[Zad _ _ (Ne.symm hst)]at p2
 have hl:l1.Perm l2:=(p1.trans ((q.both hs ht).trans p2.symm)).cons_inv
 refine⟨_,_,_,⟨q2,fun k hk=>?_,?_⟩,?_,o,fun y=>(Zlm ht e2).trans (Zlm hs e1)⟩
 ·by_cases e:k=t
  ·subst e;rw[Zac];exact ok2
  ·obtain rfl:k=s:=by omega
   rw[Zad _ _ e,Zac,o2 k e]
   exact ok1
 ·rcases two hs with rfl|rfl <;> rcases two ht with rfl|rfl
  ·exact absurd rfl hst
  ·rw[Zac,Zad _ _ (by omega),Zac];exact hl
  ·rw[Zac,Zad _ _ (by omega),Zac];exact hl.symm
  ·exact absurd rfl hst
 ·rw[Zad _ _ hst,Zac];exact p1
theorem move_any(q:QOk w B b pre ids vs pl ls)(hs:s<2)(ht:t<2)(hst:s≠t){m:Nat}(hm:(ls s).length=m+1):
  Calls Tryz.prog 169 #[.func (.func 170) #[endV b s] #[],.func (.func 171) #[endV b t] #[]] w fun r w'=>r=.returned (.string ⟨(pre ((ls s).getD 0 0)).toArray⟩)/\MoveR B b pre ids vs ls s ((ls s).getD 0 0) w w':=by
 have HT:=Lib.hid (take_any q.qr hs (q.ok s hs) hm)
 have hxm:(ls s).getD 0 0∈ls t:=(q.both hs ht).subset (Zd7 (by omega))
 obtain⟨j,hj,hjx⟩:=mem_getD hxm
 have hmt:(ls t).length=m+1:=by rw[<-(q.both hs ht).length_eq,hm]
 have hxi:=q.qr.sub t ht _ hxm
 have HD:Hid (∀w2 v1 pl1 l1,QR w2 B b pre ids (updF vs s v1) pl1 (updF ls s l1)->(∀k,k≠s->pl1 k=pl k)->Calls Tryz.prog 171 #[endV b t,.pointer (some ⟨(ls s).getD 0 0,0,none⟩)] w2 fun r w'=>r=.returned (.tuple #[])/\HPopR B b pre ids (updF vs s v1) pl1 (updF ls s l1) t ((ls s).getD 0 0) w2 w'):=fun w2 v1 pl1 l1 q2 ho=>by
  refine drop_any q2 ht (by rw[Zad _ _ (Ne.symm hst),ho t (Ne.symm hst)];exact q.ok t ht) (m:=m) (j:=j) (by rw[Zad _ _ (Ne.symm hst)];exact hmt) (by omega) (by rw[Zad _ _ (Ne.symm hst)];exact hjx)
 have Q:=Lib.hid q
 have HXI:=Lib.hid hxi
 clear hm hxm hj hjx hmt q hxi
 generalize (ls s).getD 0 0=x0 at *
 go_enter Tryz.func169,Tryz.ntmps169
 go_wp2_with fail
 refine HT.out.mono ?_
 rintro r w2⟨rfl,v1,pl1,l1,q1,ok1,o1,p1,s1,e1⟩
 have HDD:=Lib.hid (HD.out w2 v1 pl1 l1 q1 o1)
 have OK1:=Lib.hid ok1
 have P1:=Lib.hid p1
 have S1:=Lib.hid s1
 have E1:=Lib.hid e1
 clear q1 ok1 o1 p1 s1 e1
 go_wp2_with fail
 refine HDD.out.mono ?_
 rintro r w3⟨rfl,v2,pl2,l2,q2,ok2,o2,p2,s2,e2⟩
 have ct:=(q2.cellI HXI.out).1
 have HR:Hid (MoveR B b pre ids vs ls s x0 w w3):=move_mk Q.out hs ht hst q2 OK1.out ok2 o2 P1.out p2 E1.out e2 (S1.out.thenS s2 fun y _ h=>(Zlm hs E1.out).1 h)
 clear q2 ok2 o2 p2 s2 e2
 obtain⟨tx,htx⟩:∃tx,tx=pre x0:=⟨_,rfl⟩
 have HTX:=Lib.hid htx
 rw[<-htx]at ct
 clear htx
 go_wp2
 go_ret
 exact⟨by rw[<-HTX.out];rfl,HR.out⟩
def QU(w:World)(B b:Nat)(S:Nat->Prop)(T:List Txt):Prop:=∃pre ids vs pl ls,QOk w B b pre ids vs pl ls/\((ls 0).map pre).Perm T/\∀x,QS b ids vs x↔S x
theorem QU.perm{S:Nat->Prop}{T T':List Txt}(h:QU w B b S T)(p:T.Perm T'):QU w B b S T':=by
 obtain⟨pre,ids,vs,pl,ls,q,h1,h2⟩:=h
 exact⟨pre,ids,vs,pl,ls,q,h1.trans p,h2⟩
theorem QU.onlyS{S R:Nat->Prop}{T:List Txt}(h:QU w B b S T)(ho:OnlyS R w w')(hR:∀x,S x->¬R x):QU w' B b S T:=by
 obtain⟨pre,ids,vs,pl,ls,q,h1,h2⟩:=h
 exact⟨pre,ids,vs,pl,ls,⟨q.qr.onlyS ho fun x hx=>hR x ((h2 x).1 hx),q.ok,q.perm⟩,h1,h2⟩
theorem QU.later{S:Nat->Prop}{T:List Txt}(h:QU w B b S T)(hb:Below w.heap.size w w'):QU w' B b S T:=by
 obtain⟨pre,ids,vs,pl,ls,q,h1,h2⟩:=h
 exact⟨pre,ids,vs,pl,ls,⟨q.qr.later hb,q.ok,q.perm⟩,h1,h2⟩
theorem QU.kinds{S:Nat->Prop}{T:List Txt}(h:QU w B b S T){x:Nat}(hx:S x):B<=x/\∃c ty,w.heap[x]?=some (.cells c ty (0,0))/\(ty=186∨ty=278∨ty=280):=by
 obtain⟨pre,ids,vs,pl,ls,q,h1,h2⟩:=h
 exact q.qr.kinds ((h2 x).2 hx)
theorem QU.lt{S:Nat->Prop}{T:List Txt}(h:QU w B b S T){x:Nat}(hx:S x):x<w.heap.size:=by
 obtain⟨_,c,ty,e,_⟩:=h.kinds hx
 exact(Array.getElem?_eq_some_iff.1 e).1
theorem QU.low{S:Nat->Prop}{T:List Txt}(h:QU w B b S T):B<=w.heap.size:=by
 obtain⟨pre,ids,vs,pl,ls,q,h1,h2⟩:=h
 exact q.qr.low
def TakeR(B b:Nat)(S:Nat->Prop)(T:List Txt)(s:Nat)(w:World)(r:Ending)(w':World):Prop:=
 ∃k T',r=.returned (.tuple #[.string ⟨k.toArray⟩,.bool true])/\(k::T').Perm T/\(∀y∈T,(if s=1 then Zbm k y else Zbm y k)=false)/\QU w' B b S T'/\OnlyS S w w'
theorem take_mk{S:Nat->Prop}{T:List Txt}(q:QOk w B b pre ids vs pl ls)(h1:((ls 0).map pre).Perm T)(h2:∀x,QS b ids vs x↔S x)(hs:s<2)(hm:MoveR B b pre ids vs ls s ((ls s).getD 0 0) w w'):TakeR B b S T s w (.returned (.tuple #[.string ⟨(pre ((ls s).getD 0 0)).toArray⟩,.bool true])) w':=by
 obtain⟨vs',pl',ls',q',p,o,hq⟩:=hm
 refine⟨_,(ls' 0).map pre,rfl,?_,fun y hy=>?_,⟨pre,ids,vs',pl',ls',q',List.Perm.refl _,fun x=>(hq x).trans (h2 x)⟩,o.mono fun x _ hx=>(h2 x).1 hx⟩
 ·have p0:((ls s).getD 0 0::ls' 0).Perm (ls 0):=((q'.both (t:=s) (s:=0) (by omega) hs).cons _).trans (p.trans (q.both hs (by omega)))
  exact(p0.map pre).trans h1
 ·obtain⟨z,hz,rfl⟩:=List.mem_map.1 (h1.symm.subset hy)
  have:=(q.ok s hs).top ((q.both (by omega) hs).subset hz)
  unfold ltQ at this
  exact this
theorem ZfZ{S:Nat->Prop}{T:List Txt}(h:QU w B b S T):Calls Tryz.prog 125 #[.pointer (some ⟨b,0,none⟩)] w fun r w'=>r=.returned (.int .i64 T.length)/\w=w':=by
 obtain⟨pre,ids,vs,pl,ls,q,h1,h2⟩:=h
 obtain⟨a,cap,hv⟩:=q.qr.sliceV (s:=0) (by omega)
 have c0:=q.qr.cellB (s:=0) (by omega)
 have hl:(ls 0).length=T.length:=by rw[<-h1.length_eq,List.length_map]
 rw[hv,hl]at c0
 clear q hl h1 h2
 go_enter Tryz.func125,Tryz.ntmps125
 go_wp2
 go_ret
 exact⟨rfl,rfl⟩
theorem qPop_any{S:Nat->Prop}{T:List Txt}(h:QU w B b S T)(hT:T≠[]):Calls Tryz.prog 127 #[.pointer (some ⟨b,0,none⟩)] w (TakeR B b S T 0 w):=by
 have HL:=Lib.hid (ZfZ h)
 obtain⟨pre,ids,vs,pl,ls,q,h1,h2⟩:=h
 have hTl:0<T.length:=List.length_pos_iff.2 hT
 obtain⟨m,hm⟩:∃m,(ls 0).length=m+1:=⟨(ls 0).length-1,by have:=h1.length_eq;rw[List.length_map]at this;omega⟩
 have HM:Hid (Calls Tryz.prog 169 #[.func (.func 170) #[.agg #[.pointer (some ⟨b,0,none⟩),.int .i64 0]] #[],.func (.func 171) #[.agg #[.pointer (some ⟨b,0,none⟩),.int .i64 1]] #[]] w _):=move_any q (s:=0) (t:=1) (by omega) (by omega) (by omega) hm
 have HK:=Lib.hid (fun w' hh=>take_mk (s:=0) (w':=w') q h1 h2 (by omega) hh)
 have hn0:((T.length:Int)==0)=false:=by rw[beq_eq_false_iff_ne];omega
 have hmf:∀(fn:Fn) (first cap:Array Value) (w:World),(Instr.makeFunc fn first cap).run Tryz.prog w=.ok (.func fn first cap) w:=fun _ _ _ _=>rfl
 clear q h1 h2 hm hT
 generalize (ls 0).getD 0 0=x0 at *
 generalize pre x0=tx at *
 go_enter Tryz.func127,Tryz.ntmps127
 go_wp2_with fail
 refine HL.out.mono ?_
 rintro r w'⟨rfl,rfl⟩
 go_wp2_with fail
 refine HM.out.mono ?_
 rintro r w'⟨rfl,hr⟩
 have HR:=Lib.hid (HK.out w' hr)
 clear hr
 go_wp2
 refine bodyPost_ret (v:=.tuple #[.string ⟨tx.toArray⟩,.bool true]) (by simp[results,Tryz.results127,go_sem]) rfl ?_
 exact HR.out
theorem qSteal_any{S:Nat->Prop}{T:List Txt}(h:QU w B b S T)(hT:T≠[]):Calls Tryz.prog 126 #[.pointer (some ⟨b,0,none⟩)] w (TakeR B b S T 1 w):=by
 have HL:=Lib.hid (ZfZ h)
 obtain⟨pre,ids,vs,pl,ls,q,h1,h2⟩:=h
 have hTl:0<T.length:=List.length_pos_iff.2 hT
 obtain⟨m,hm⟩:∃m,(ls 1).length=m+1:=⟨(ls 1).length-1,by have:=h1.length_eq;rw[List.length_map]at this;have:=q.perm.length_eq;omega⟩
 have HM:Hid (Calls Tryz.prog 169 #[.func (.func 170) #[.agg #[.pointer (some ⟨b,0,none⟩),.int .i64 1]] #[],.func (.func 171) #[.agg #[.pointer (some ⟨b,0,none⟩),.int .i64 0]] #[]] w _):=move_any q (s:=1) (t:=0) (by omega) (by omega) (by omega) hm
 have HK:=Lib.hid (fun w' hh=>take_mk (s:=1) (w':=w') q h1 h2 (by omega) hh)
 have hn0:((T.length:Int)==0)=false:=by rw[beq_eq_false_iff_ne];omega
 have hmf:∀(fn:Fn) (first cap:Array Value) (w:World),(Instr.makeFunc fn first cap).run Tryz.prog w=.ok (.func fn first cap) w:=fun _ _ _ _=>rfl
 clear q h1 h2 hm hT
 generalize (ls 1).getD 0 0=x0 at *
 generalize pre x0=tx at *
 go_enter Tryz.func126,Tryz.ntmps126
 go_wp2_with fail
 refine HL.out.mono ?_
 rintro r w'⟨rfl,rfl⟩
 go_wp2_with fail
 refine HM.out.mono ?_
 rintro r w'⟨rfl,hr⟩
 have HR:=Lib.hid (HK.out w' hr)
 clear hr
 go_wp2
 refine bodyPost_ret (v:=.tuple #[.string ⟨tx.toArray⟩,.bool true]) (by simp[results,Tryz.results126,go_sem]) rfl ?_
 exact HR.out
theorem Zln{S:Nat->Prop}(h:QU w B b S []):Calls Tryz.prog 126 #[.pointer (some ⟨b,0,none⟩)] w fun r w'=>r=.returned (.tuple #[.string ⟨#[]⟩,.bool false])/\w=w':=by
 have HL:=Lib.hid (ZfZ h)
 clear h
 go_enter Tryz.func126,Tryz.ntmps126
 go_wp2_with fail
 refine HL.out.mono ?_
 rintro r w'⟨rfl,rfl⟩
 go_wp2
 refine bodyPost_ret (v:=.tuple #[.string ⟨#[]⟩,.bool false]) (by simp[results,Tryz.results126,go_sem]) rfl ?_
 exact⟨rfl,rfl⟩
end
section
variable{w w' w'':World}{B b:Nat}{pre:Nat->Txt}{ids:List Nat}{vs:Nat->Value}{pl pl1 pl2:Nat->Nat->Int}{ls:Nat->List Nat}{s t:Nat}
theorem QR.newItem(q:QR w B b pre ids vs pl ls)(k:Txt){o:Obj}(ho:o=.cells #[.string ⟨k.toArray⟩,.int .i64 0,.int .i64 0] 280):QR (w.alloc o) B b (updF pre w.heap.size k) (w.heap.size::ids) vs (fun s=>updF (pl s) w.heap.size 0) ls:=by
 subst ho
 have q1:=q.later (Zaa w (.cells #[.string ⟨k.toArray⟩,.int .i64 0,.int .i64 0] 280))
 refine⟨q1.low,q1.lowb,q1.box,q1.row,q1.len,q1.apart,fun x hx=>?_,fun s hs x hx=>List.mem_cons_of_mem _ (q.sub s hs x hx)⟩
 by_cases e:x=w.heap.size
 ·subst e
  refine⟨q.low,?_⟩
  rw[heap_alloc_new]
  simp[itA,updF]
 ·rcases List.mem_cons.1 hx with h|h
  ·exact absurd h e
  ·obtain⟨h1,h2⟩:=q1.item x h
   refine⟨h1,?_⟩
   rw[h2]
   simp[itA,updF,e]
theorem ZjN{pre pre':Nat->Txt}{p p':Nat->Int}{l:List Nat}(h:SideOk pre p l s)(h1:∀x∈l,pre' x=pre x)(h2:∀x∈l,p' x=p x):SideOk pre' p' l s:=by
 refine⟨h.nodup,fun j hj=>?_,fun k k1 k2=>?_⟩
 ·rw[h2 _ (Zd7 hj)];exact h.pos j hj
 ·have:=h.heap k k1 k2
  unfold ltQ at *
  rw[h1 _ (Zd7 k2),h1 _ (Zd7 (by omega))]
  exact this
def PushI(B b:Nat)(pre:Nat->Txt)(ids:List Nat)(vs:Nat->Value)(ls:Nat->List Nat)(x z:Nat)(w:World)(k:Nat)(wr:World):Prop:=
 ∃vs' pl' ls',QR wr B b pre ids vs' pl' ls'/\(∀s,s<2->SideOk pre (pl' s) (ls' s) s)/\(∀s,s<k->(ls' s).Perm (x::ls s))/\(∀s,k<=s->s<2->ls' s=ls s)/\OnlyS (QS b ids vs) w wr/\∀y,QS b ids vs' y->QS b ids vs y∨z<=y
theorem pushI_step{x z k:Nat}(hk:k<2){vs':Nat->Value}{pl':Nat->Nat->Int}{ls':Nat->List Nat}(ok:∀s,s<2->SideOk pre (pl' s) (ls' s) s)(h1:∀s,s<k->(ls' s).Perm (x::ls s))(h2:∀s,k<=s->s<2->ls' s=ls s)(o:OnlyS (QS b ids vs) w w')(hz:w.heap.size=z)(h3:∀y,QS b ids vs' y->QS b ids vs y∨z<=y)
  (h:HPushR B b pre ids vs' pl' ls' k x w'.heap.size w' w''):PushI B b pre ids vs ls x z w (k+1) w'':=by
 obtain⟨v',pl2,l2,q,ok2,ho,p,o2,hv⟩:=h
 refine⟨_,_,_,q,fun s hs=>?_,fun s hs=>?_,fun s hs1 hs2=>?_,?_,fun y hy=>?_⟩
 ·by_cases e:s=k
  ·subst e;rw[Zac];exact ok2
  ·rw[Zad _ _ e,ho s e];exact ok s hs
 ·by_cases e:s=k
  ·subst e;rw[Zac,<-h2 s (Nat.le_refl _) hk];exact p
  ·rw[Zad _ _ e];exact h1 s (by omega)
 ·rw[Zad _ _ (by omega)];exact h2 s (by omega) hs2
 ·refine o.thenS o2 fun y hy hq=>?_
  rcases h3 y hq with h4|h4
  ·exact h4
  ·omega
 ·rcases qs_upd hk hv hy with h4|h4
  ·exact h3 y h4
  ·right
   have:=o.size
   omega
theorem pushI_end{S:Nat->Prop}{T:List Txt}{x z:Nat}{tx:Txt}{u:World}(hx:pre x=tx)(hp:((ls 0).map pre).Perm T)(hpp:(ls 0).Perm (ls 1))(h:PushI B b pre (x::ids) vs ls x z w 2 w')(hb:Below u.heap.size u w)(hxu:u.heap.size<=x)(hzu:u.heap.size<=z)(hS:∀y,QS b ids vs y->S y):∃S',QU w' B b S' (tx::T)/\OnlyS S u w'/\∀y,S' y->S y∨u.heap.size<=y:=by
 obtain⟨vs',pl',ls',q,ok,h1,_,o,h3⟩:=h
 have p0:=h1 0 (by omega)
 have p1:=h1 1 (by omega)
 have hq:∀y,QS b (x::ids) vs y->S y∨u.heap.size<=y:=fun y hy=>by
  rcases hy with hy|hy|hy|hy
  ·exact .inl (hS y (.inl hy))
  ·exact .inl (hS y (.inr (.inl hy)))
  ·exact .inl (hS y (.inr (.inr (.inl hy))))
  ·rcases List.mem_cons.1 hy with rfl|hy
   ·exact .inr hxu
   ·exact .inl (hS y (.inr (.inr (.inr hy))))
 refine⟨QS b (x::ids) vs',⟨pre,_,vs',pl',ls',⟨q,ok,p0.trans ((hpp.cons x).trans p1.symm)⟩,?_,fun _=>Iff.rfl⟩,(OnlyS.of_below hb).thenS o fun y hy h=>?_,fun y hy=>?_⟩
 ·refine(p0.map pre).trans ?_
  rw[List.map_cons,hx]
  exact hp.cons tx
 ·rcases hq y h with h4|h4
  ·exact h4
  ·omega
 ·rcases h3 y hy with h4|h4
  ·exact hq y h4
  ·exact .inr (Nat.le_trans hzu h4)
theorem qPush_any{S:Nat->Prop}{T:List Txt}(h:QU w B b S T)(k:Txt)(hk:k.length<=281474976710656)(hT:T.length<100000):Calls Tryz.prog 164 #[.pointer (some ⟨b,0,none⟩),.string ⟨k.toArray⟩] w fun r w'=>r=.returned (.tuple #[])/\∃S',QU w' B b S' (k::T)/\OnlyS S w w'/\∀y,S' y->S y∨w.heap.size<=y:=by
 obtain⟨pre,ids,vs,pl,ls,q,h1,h2⟩:=h
 have HC:=Lib.hid (Zg7 k w hk)
 have hl0:(ls 0).length=T.length:=by rw[<-h1.length_eq,List.length_map]
 have hl1:(ls 1).length=T.length:=by rw[<-q.perm.length_eq,hl0]
 have Q:=Lib.hid q
 have H1:=Lib.hid h1
 have H2:=Lib.hid h2
 clear q h1 h2 hk
 go_enter Tryz.func164,Tryz.ntmps164
 go_wp2_with fail
 refine HC.out.mono ?_
 rintro r w1⟨rfl,hb1⟩
 have hnx:∀s,s<2->∀y∈ls s,y≠w1.heap.size:=fun s hs y hy e=>by
  have h1:=Q.out.qr.lt (x:=y) (.inr (.inr (.inr (Q.out.qr.sub s hs y hy))))
  have h2:=hb1.size
  omega
 have HNX:=Lib.hid hnx
 have HI0:Hid (PushI B b (updF pre w1.heap.size k) (w1.heap.size::ids) vs ls w1.heap.size (w1.alloc (.cells #[.string ⟨k.toArray⟩,.int .i64 0,.int .i64 0] 280)).heap.size (w1.alloc (.cells #[.string ⟨k.toArray⟩,.int .i64 0,.int .i64 0] 280)) 0 (w1.alloc (.cells #[.string ⟨k.toArray⟩,.int .i64 0,.int .i64 0] 280))):=by
  refine⟨vs,_,ls,(Q.out.qr.later hb1).newItem k rfl,fun s hs=>ZjN (Q.out.ok s hs) (fun y hy=>Zad _ _ (hnx s hs y hy)) (fun y hy=>Zad _ _ (hnx s hs y hy)),fun s hs=>absurd hs (Nat.not_lt_zero _),fun _ _ _=>rfl,OnlyS.refl _ _,fun _ h=>.inl h⟩
 have HBB:Hid (Below w.heap.size w (w1.alloc (.cells #[.string ⟨k.toArray⟩,.int .i64 0,.int .i64 0] 280))):=hb1.alloc hb1.size _
 have HXW:=Lib.hid hb1.size
 clear hb1 hnx
 go_wp2_with fail
 generalize (w1.alloc (.cells #[.string ⟨k.toArray⟩,.int .i64 0,.int .i64 0] 280))=W0 at *
 generalize w1.heap.size=x at *
 go_loopw [5,12] (fun t5 t12 wr=>∃j:Nat,j<=2/\t12=.int .i64 j/\Hid (PushI B b (updF pre x k) (x::ids) vs ls x W0.heap.size W0 j wr)) (fun _ t12 _=>2-(intOf t12).toNat)
 case atStart=>exact⟨0,Nat.zero_le _,rfl,HI0⟩
 case round=>
  clear HI0
  obtain⟨j,hj,rfl,HI⟩:=hrel
  by_cases hlt:j<2
  ·obtain⟨vs',pl',ls',q',ok',e1,e2,o',e3⟩:=HI.out
   have hll:(ls' j).length<100000:=by rw[e2 j (Nat.le_refl _) hlt];rcases two hlt with rfl|rfl <;> omega
   have HH:=Lib.hid (ZkE q' hlt (ok' j hlt) (x:=x) (List.mem_cons_self) (by rw[e2 j (Nat.le_refl _) hlt];exact fun h=>HNX.out j hlt x h rfl) hll)
   have HST:Hid (∀w'',HPushR B b (updF pre x k) (x::ids) vs' pl' ls' j x wr.heap.size wr w''->PushI B b (updF pre x k) (x::ids) vs ls x W0.heap.size W0 (j+1) w''):=fun w'' h=>pushI_step hlt ok' e1 e2 o' rfl e3 h
   clear q' ok' e1 e2 o' e3 hll HI
   go_wp2_with fail
   refine HH.out.mono ?_
   rintro r w5⟨rfl,h5⟩
   have HI5:=Lib.hid (HST.out w5 h5)
   clear h5
   go_wp2_with fail
   go_roundw
   case rel=>exact⟨j+1,by omega,by go_num,HI5⟩
   case measure=>simp[intOf];omega
  ·obtain rfl:j=2:=by omega
   go_wp2
   refine bodyPost_end (results_none rfl _ _ _) rfl ⟨rfl,pushI_end (Zac _ _ _) ?_ Q.out.perm HI.out HBB.out HXW.out HBB.out.size fun y h=>(H2.out y).1 h⟩
   rw[List.map_congr_left fun y hy=>Zad _ _ (HNX.out 0 (by omega) y hy)]
   exact H1.out
theorem qNew_any(w:World):Calls Tryz.prog 63 #[] w fun r w'=>r=.returned (.pointer (some ⟨w.heap.size,0,none⟩))/\Below w.heap.size w w'/\∃S,QU w' w.heap.size w.heap.size S []/\∀y,S y->w.heap.size<=y:=by
 go_enter Tryz.func63,Tryz.ntmps63
 go_wp2
 go_ret
 refine⟨rfl,Zaa _ _,QS w.heap.size [] fun _=>.slice none 0 0,⟨fun _=>[],[],fun _=>.slice none 0 0,fun _ _=>0,fun _=>[],⟨⟨by rw[World.size_alloc];omega,Nat.le_refl _,heap_alloc_new w _,fun s hs=>Za5 _ _ _ _ _,fun s hs=>Nat.zero_le _,(fun x h _=>by cases h),(fun x h=>by cases h),(fun s hs x h=>by cases h)⟩,fun s hs=>⟨List.nodup_nil,fun j hj=>absurd hj (Nat.not_lt_zero _),fun k _ h=>absurd h (Nat.not_lt_zero _)⟩,List.Perm.refl _⟩,List.Perm.refl _,fun _=>Iff.rfl⟩,fun y hy=>?_⟩
 rcases hy with rfl|hy|hy|hy
 ·exact Nat.le_refl _
 ·cases hy
 ·cases hy
 ·cases hy
end
theorem QU.not_row{w:World}{B b:Nat}{S:Nat->Prop}{T:List Txt}(q:QU w B b S T){g:Nat}{c:Array Value}{ty:TypeId}(h:w.heap[g]?=some (.cells c ty (0,0)))(h1:ty≠186)(h2:ty≠278)(h3:ty≠280):¬S g:=fun hx=>by
 obtain⟨_,c',ty',e,e2⟩:=q.kinds hx
 rw[h]at e;injection e with e;injection e with _ e
 rcases e2 with rfl|rfl|rfl
 ·exact h1 e
 ·exact h2 e
 ·exact h3 e
end Go.Proofs.YtjfmmnhcddckaaaGreat
namespace Go.Proofs.YtjfmmnhcddckaaaGreat
open Go.RowKit Go.Maps
theorem boLaw:Keyed Tryz.prog 9:=string_keyed Tryz.underlying9
theorem boKey{k:Txt}(h:k.length<=1000):keyOf Tryz.prog 9 (.string ⟨k.toArray⟩)=some (.string k):=by
 have:=WideMaps.keyOf_string_mk (P:=Tryz.prog) Tryz.underlying9 (s:=⟨k.toArray⟩) (by unfold maxLen;simp[ByteArray.size];omega)
 simpa using this
theorem bo_block{k:TypeId}{R:Value->Option (DataW Unit × List MemPlace)}{b n:Nat}{D:DataW Unit}{w w':World}(h:w.ownsMap Tryz.prog k R b n D)(e:w'.heap[b]?=w.heap[b]?):w'.ownsMap Tryz.prog k R b n D:=by
 obtain⟨es,c,h1,h2⟩:=h
 exact⟨es,c,e.trans h1,h2⟩
structure BM(w:World)(mb n:Nat)(f:Txt->Bool):Prop where
 map:∃M:DataW Unit,w.ownsMap Tryz.prog 9 (plainElem Tryz.prog 4) mb n M/\∀k,k.length<=1000->M.atKey (.string k) (.lit (.bool false))=.lit (.bool (f k))
section
variable{w w':World}{mb n:Nat}{f:Txt->Bool}
end
structure SM(w:World)(mb n:Nat)(f:Txt->Bool)(c:Nat):Prop where
 map:∃M:DataW Unit,w.ownsMap Tryz.prog 9 (plainElem Tryz.prog 4) mb n M/\(∀k,k.length<=1000->M.atKey (.string k) (.lit (.bool false))=.lit (.bool (f k)))/\(∀k,k.length<=1000->has M (.string k)=f k)/\size M=c/\∀kl,has M kl=true->∃k,kl=.string k/\k.length<=1000
section
variable{w w':World}{mb n c:Nat}{f:Txt->Bool}
end
theorem owZero(w:World):(zeroValue 3).run Tryz.prog w=.ok (.int .i64 0) w:=by kernel_rfl
theorem ow_wf{n:Nat}(h:n<=1000000):(Lit.int .i64 (n:Int)).wf=true:=by
 simp[Lit.wf,IntKind.min,IntKind.max,IntKind.signed,IntKind.bits]
 omega
theorem owElem{n:Nat}(h:n<=1000000):plainElem (H:=Unit) Tryz.prog 3 (.int .i64 (n:Int))=some (.lit (.int .i64 (n:Int)),[]):=plainElem_int Tryz.underlying3 (ow_wf h)
structure IM(w:World)(mb n:Nat)(f:Txt->Bool)(c:Nat):Prop where
 map:∃M:DataW Unit,w.ownsMap Tryz.prog 9 (plainElem Tryz.prog 3) mb n M/\(∀k,k.length<=1000->has M (.string k)=f k)/\size M=c
section
variable{w w':World}{mb n c:Nat}{f:Txt->Bool}
theorem IM.start(W:World):IM (W.alloc (.map #[] 0)) W.heap.size 0 (fun _=>false) 0:=⟨⟨.map [],World.ownsMap_made W _ _ _,fun _ _=>rfl,rfl⟩⟩
theorem IM.keep(o:IM w mb n f c)(h:w'.heap[mb]?=w.heap[mb]?):IM w' mb n f c:=by
 obtain⟨M,hM,r⟩:=o.map
 exact⟨⟨M,bo_block hM h,r⟩⟩
theorem IM.lt(o:IM w mb n f c):mb<w.heap.size:=by
 obtain⟨M,hM,_⟩:=o.map
 exact hM.lt
theorem IM.later(o:IM w mb n f c)(hb:Below w.heap.size w w'):IM w' mb n f c:=o.keep (hb.block _ o.lt)
theorem IM.onlyS(o:IM w mb n f c){S:Nat->Prop}(ho:OnlyS S w w')(h:¬S mb):IM w' mb n f c:=o.keep (ho.block _ o.lt h)
theorem IM.congr(o:IM w mb n f c){g:Txt->Bool}{d:Nat}(h:∀k,f k=g k)(e:c=d):IM w mb n g d:=by
 have:f=g:=funext h
 rw[<-this,<-e];exact o
theorem IM.tight(o:IM w mb n f c):IM w mb c f c:=by
 obtain⟨M,⟨es,ck,e1,F,_,rfl⟩,r1,r2⟩:=o.map
 refine⟨⟨_,⟨es,ck,e1,F,?_,rfl⟩,r1,r2⟩⟩
 rw[<-r2]
 simp[Maps.size,length_sorted]
theorem IM.not_cells(o:IM w mb n f c){d:Array Value}{ty:TypeId}{z:Nat × Nat}(h:w.heap[mb]?=some (.cells d ty z)):False:=by
 obtain⟨M,⟨es,ck,e1,_⟩,_⟩:=o.map
 rw[e1]at h;cases h
theorem IM.look(o:IM w mb n f c){k:Txt}(hk:k.length<=1000):∃v,(Instr.lookup 125 (.map (some mb)) (.string ⟨k.toArray⟩) true).run Tryz.prog w=.ok (.tuple #[v,.bool (f k)]) w:=by
 obtain⟨M,hM,b1,_⟩:=o.map
 obtain⟨v,ps,hr,_⟩:=hM.look_ok boLaw Tryz.underlying125 (owZero w) (owElem (n:=0) (by omega)) (boKey hk)
 rw[b1 k hk]at hr
 exact⟨v,hr⟩
theorem IM.put(o:IM w mb n f c)(hn:n<=1000000){k:Txt}(hk:k.length<=1000){x:Nat}(hx:x<=1000000):
  ∃w',(Instr.mapUpdate 125 (.map (some mb)) (.string ⟨k.toArray⟩) (.int .i64 (x:Int))).run Tryz.prog w=.ok () w'/\IM w' mb (n+1) (fun q=>if q=k then true else f q) (if f k=true then c else c+1)/\OnlyS (fun y=>y=mb) w w':=by
 obtain⟨M,hM,b2,b3⟩:=o.map
 obtain⟨w',hr,hM',hgr⟩:=hM.update boLaw Tryz.underlying125 (by unfold maxLen;omega) (boKey hk) (owElem hx)
 have ho:OnlyS (fun y=>y=mb) w w':=⟨hgr.os,hgr.tape,hgr.output,hgr.size,fun k hk hb=>hgr.block k hk (fun e=>hb (by simpa using e))⟩
 refine⟨w',hr,⟨⟨_,hM',fun q hq=>?_,by rw[size_put (hM.tidy boLaw),b2 k hk,b3]⟩⟩,ho⟩
 by_cases e:q=k
 ·subst e
  rw[if_pos rfl,has_put_same hM.isMap (by simp[WideAt.IsKeyLit])]
 ·rw[if_neg e,has_put_other (by intro e2;injection e2 with e2;exact e e2),b2 q hq]
theorem IM.drop(o:IM w mb n f c){k:Txt}(hk:k.length<=1000)(ty:TypeId):
  ∃w',(Builtin.delete_ #[125,9] ty #[.map (some mb),.string ⟨k.toArray⟩]).run Tryz.prog w=.ok (.tuple #[]) w'/\IM w' mb n (fun q=>if q=k then false else f q) (if f k=true then c-1 else c)/\OnlyS (fun y=>y=mb) w w':=by
 obtain⟨M,hM,b2,b3⟩:=o.map
 obtain⟨w',hr,hM',ht⟩:=hM.drop boLaw Tryz.underlying125 (boKey hk) ty
 have hgr:=ht.grown
 have ho:OnlyS (fun y=>y=mb) w w':=⟨hgr.os,hgr.tape,hgr.output,hgr.size,fun k hk hb=>hgr.block k hk (fun e=>hb (by simpa using e))⟩
 have hs:=size_del (k:=.string k) (hM.tidy boLaw)
 rw[b2 k hk,b3]at hs
 refine⟨w',hr,⟨⟨_,hM',fun q hq=>?_,by cases h:f k <;> simp[h]at hs ⊢ <;> omega⟩⟩,ho⟩
 by_cases e:q=k
 ·subst e
  rw[if_pos rfl,has_del_same]
 ·rw[if_neg e,has_del_other (by intro e2;injection e2 with e2;exact e e2),b2 q hq]
theorem IM.len(o:IM w mb n f c)(ty:TypeId):(Builtin.len_ #[125] ty #[.map (some mb)]).run Tryz.prog w=.ok (.int .i64 (c:Nat)) w:=by
 obtain⟨M,hM,_,rfl⟩:=o.map
 exact hM.len Tryz.underlying125 ty
end
end Go.Proofs.YtjfmmnhcddckaaaGreat
namespace Go.Proofs.YtjfmmnhcddckaaaGreat
def isW(n:Nat)(z:Int):Bool:=decide (0<=z)&&decide (z<n)
theorem isW_yes{n:Nat}{z:Int}(h:isW n z=true):∃j:Nat,j<n/\z=j:=by
 unfold isW at h
 simp only[Bool.and_eq_true,decide_eq_true_eq]at h
 exact⟨z.toNat,by omega,by omega⟩
def hasW(n:Nat)(ls:Nat->List Txt)(s:Txt):Bool:=(List.range n).any fun j=>decide (s∈ls j)
theorem ZeR{n:Nat}{ls:Nat->List Txt}{s:Txt}:hasW n ls s=true↔∃j,j<n/\s∈ls j:=by
 unfold hasW
 simp
def totW(n:Nat)(ls:Nat->List Txt):Nat:=((List.range n).map fun j=>(ls j).length).sum
theorem Zjw(n:Nat)(ls:Nat->List Txt):totW (n+1) ls=totW n ls+(ls n).length:=by simp[totW,List.range_succ]
def allW(n:Nat)(ls:Nat->List Txt):List Txt:=(List.range n).flatMap ls
theorem Zcf{n:Nat}{ls:Nat->List Txt}{s:Txt}:s∈allW n ls↔hasW n ls s=true:=by
 rw[ZeR]
 unfold allW
 rw[List.mem_flatMap]
 exact⟨fun⟨j,h1,h2⟩=>⟨j,List.mem_range.1 h1,h2⟩,fun⟨j,h1,h2⟩=>⟨j,List.mem_range.2 h1,h2⟩⟩
theorem Zca(n:Nat)(ls:Nat->List Txt):allW (n+1) ls=allW n ls++ls n:=by
 unfold allW
 rw[List.range_succ,List.flatMap_append]
 simp
theorem Zck(n:Nat)(ls:Nat->List Txt):(allW n ls).length=totW n ls:=by
 induction n with
 |zero=>rfl
 |succ n ih=>rw[Zca,List.length_append,ih,Zjw]
theorem allW_out{n j:Nat}(ls:Nat->List Txt)(l:List Txt)(h:n<=j):allW n (updF ls j l)=allW n ls:=by
 induction n with
 |zero=>rfl
 |succ n ih=>rw[Zca,Zca,ih (by omega),Zad _ _ (by omega)]
theorem Zji{n j:Nat}(ls:Nat->List Txt)(hj:j<n):∃R,(allW n ls).Perm (ls j++R)/\∀l,(allW n (updF ls j l)).Perm (l++R):=by
 induction n with
 |zero=>omega
 |succ n ih=>
  by_cases e:j=n
  ·subst e
   refine⟨allW j ls,?_,fun l=>?_⟩
   ·rw[Zca];exact List.perm_append_comm
   ·rw[Zca,allW_out _ _ (Nat.le_refl _),Zac];exact List.perm_append_comm
  ·obtain⟨R,h1,h2⟩:=ih (by omega)
   refine⟨R++ls n,?_,fun l=>?_⟩
   ·rw[Zca,<-List.append_assoc];exact h1.append_right _
   ·rw[Zca,Zad _ _ (Ne.symm e),<-List.append_assoc];exact(h2 l).append_right _
section
variable{n:Nat}{ls:Nat->List Txt}
theorem Zge{j:Nat}(hj:j<n)(s:Txt):(allW n (updF ls j (putT (ls j) s))).Perm (s::allW n ls):=by
 obtain⟨R,h1,h2⟩:=Zji ls hj
 exact(h2 _).trans (((Zb5 (ls j) s).append_right R).trans ((h1.symm.cons s)))
theorem Zgf{j:Nat}(hj:j<n){k:Txt}{l:List Txt}(e:(ls j).Perm (k::l)):(allW n ls).Perm (k::allW n (updF ls j l)):=by
 obtain⟨R,h1,h2⟩:=Zji ls hj
 exact h1.trans ((e.append_right R).trans ((h2 l).symm.cons k))
theorem Zft{i k:Nat}(hi:i<n)(hk:k<n)(hik:i≠k){x:Txt}{l:List Txt}(e:(ls k).Perm (x::l)):(allW n (updF (updF ls k l) i (putT (ls i) x))).Perm (allW n ls):=by
 have h1:=Zge (ls:=updF ls k l) hi x
 rw[Zad _ _ hik]at h1
 exact h1.trans (Zgf hk e).symm
def NoW(n:Nat)(ls:Nat->List Txt):Prop:=(allW n ls).Nodup
theorem Zic(n:Nat):allW n (fun _=>[])=[]:=by
 induction n with
 |zero=>rfl
 |succ n ih=>rw[Zca,ih];rfl
theorem noW_start(n:Nat):NoW n (fun _=>[]):=by
 unfold NoW
 rw[Zic]
 exact List.nodup_nil
theorem hasW_start(n:Nat)(s:Txt):hasW n (fun _=>[]) s=false:=by
 rw[Bool.eq_false_iff]
 intro h
 obtain⟨_,_,h⟩:=ZeR.1 h
 cases h
theorem Zhv(n:Nat):totW n (fun _=>[])=0:=by
 rw[<-Zck,Zic]
 rfl
theorem has_put{j:Nat}(hj:j<n)(s t:Txt):hasW n (updF ls j (putT (ls j) s)) t=(decide (t=s)||hasW n ls t):=by
 rw[Bool.eq_iff_iff,<-Zcf,(Zge hj s).mem_iff,List.mem_cons,Bool.or_eq_true,decide_eq_true_eq,Zcf]
theorem no_put{j:Nat}(hj:j<n){s:Txt}(h:NoW n ls)(hs:hasW n ls s=false):NoW n (updF ls j (putT (ls j) s)):=by
 unfold NoW
 rw[(Zge hj s).nodup_iff,List.nodup_cons]
 refine⟨fun hm=>?_,h⟩
 rw[Zcf,hs]at hm
 cases hm
theorem tot_put{j:Nat}(hj:j<n)(s:Txt):totW n (updF ls j (putT (ls j) s))=totW n ls+1:=by
 rw[<-Zck,(Zge hj s).length_eq,List.length_cons,Zck]
theorem no_pop{j:Nat}(hj:j<n){k:Txt}{l:List Txt}(h:NoW n ls)(e:(ls j).Perm (k::l)):NoW n (updF ls j l)/\hasW n (updF ls j l) k=false:=by
 have h1:=(Zgf hj e).nodup_iff.1 h
 rw[List.nodup_cons]at h1
 refine⟨h1.2,?_⟩
 rw[Bool.eq_false_iff]
 exact fun hm=>h1.1 (Zcf.2 hm)
theorem has_pop{j:Nat}(hj:j<n){k:Txt}{l:List Txt}(h:NoW n ls)(e:(ls j).Perm (k::l))(t:Txt):hasW n (updF ls j l) t=(!decide (t=k)&&hasW n ls t):=by
 have h1:=no_pop hj h e
 by_cases ht:t=k
 ·subst ht
  rw[h1.2]
  simp
 ·rw[Bool.eq_iff_iff,Bool.and_eq_true,<-Zcf,<-Zcf,(Zgf hj e).mem_iff,List.mem_cons]
  simp[ht]
theorem tot_pop{j:Nat}(hj:j<n){k:Txt}{l:List Txt}(e:(ls j).Perm (k::l)):totW n ls=totW n (updF ls j l)+1:=by
 rw[<-Zck,(Zgf hj e).length_eq,List.length_cons,Zck]
theorem no_steal{i k:Nat}(hi:i<n)(hk:k<n)(hik:i≠k){x:Txt}{l:List Txt}(h:NoW n ls)(e:(ls k).Perm (x::l)):NoW n (updF (updF ls k l) i (putT (ls i) x)):=(Zft hi hk hik e).nodup_iff.2 h
theorem has_steal{i k:Nat}(hi:i<n)(hk:k<n)(hik:i≠k){x:Txt}{l:List Txt}(e:(ls k).Perm (x::l))(t:Txt):hasW n (updF (updF ls k l) i (putT (ls i) x)) t=hasW n ls t:=by
 rw[Bool.eq_iff_iff,<-Zcf,(Zft hi hk hik e).mem_iff,Zcf]
theorem tot_steal{i k:Nat}(hi:i<n)(hk:k<n)(hik:i≠k){x:Txt}{l:List Txt}(e:(ls k).Perm (x::l)):totW n (updF (updF ls k l) i (putT (ls i) x))=totW n ls:=by
 rw[<-Zck,(Zft hi hk hik e).length_eq,Zck]
theorem len_tot{j:Nat}(hj:j<n):(ls j).length<=totW n ls:=by
 obtain⟨R,h1,_⟩:=Zji ls hj
 rw[<-Zck,h1.length_eq,List.length_append]
 omega
end
end Go.Proofs.YtjfmmnhcddckaaaGreat
namespace Go.Proofs.YtjfmmnhcddckaaaGreat
open Go.RowKit
structure WM(w:World)(B b g mb n cap cnt:Nat)(qs:Nat->Nat)(Sq:Nat->Nat->Prop)(T:Nat->List Txt)(f:Txt->Bool)(c:Nat):Prop where
 low:B<=w.heap.size
 lowb:B<=b
 lowm:B<=mb
 box:w.heap[b]?=some (.cells #[.slice (some ⟨g,0,none⟩) n cap,.map (some mb)] 128 (0,0))
 row:∃cs,w.heap[g]?=some (.cells cs 129 (0,0))/\∀j,j<n->cs[j]?=some (.pointer (some ⟨qs j,0,none⟩))
 cap:n<=cap
 qu:∀j,j<n->QU w B (qs j) (Sq j) (T j)
 apart:∀i j,i<n->j<n->i≠j->∀x,Sq i x->¬Sq j x
 map:IM w mb cnt f c
section
variable{w w':World}{B b g mb n cap cnt c:Nat}{qs:Nat->Nat}{Sq:Nat->Nat->Prop}{T:Nat->List Txt}{f:Txt->Bool}
theorem WM.later(q:WM w B b g mb n cap cnt qs Sq T f c)(hb:Below w.heap.size w w'):WM w' B b g mb n cap cnt qs Sq T f c:=by
 obtain⟨cs,h1,h2⟩:=q.row
 exact⟨Nat.le_trans q.low hb.size,q.lowb,q.lowm,(hb.block _ (Array.getElem?_eq_some_iff.1 q.box).1).trans q.box,⟨cs,(hb.block _ (Array.getElem?_eq_some_iff.1 h1).1).trans h1,h2⟩,q.cap,fun j hj=>(q.qu j hj).later hb,q.apart,q.map.later hb⟩
theorem WM.cellB(q:WM w B b g mb n cap cnt qs Sq T f c):w.cell? ⟨b,0,none⟩=some (.slice (some ⟨g,0,none⟩) n cap)/\w.cell? ⟨b,1,none⟩=some (.map (some mb)):=by
 rw[cell_of_row w b 0 _ _ _ q.box,cell_of_row w b 1 _ _ _ q.box]
 exact⟨rfl,rfl⟩
theorem WM.cellR(q:WM w B b g mb n cap cnt qs Sq T f c){j:Nat}(hj:j<n):w.cell? ⟨g,j,none⟩=some (.pointer (some ⟨qs j,0,none⟩)):=by
 obtain⟨cs,h1,h2⟩:=q.row
 rw[cell_of_row w g j _ _ _ h1,h2 j hj]
theorem WM.queue(q:WM w B b g mb n cap cnt qs Sq T f c){j:Nat}(hj:j<n){S':Nat->Prop}{T':List Txt}(hq:QU w' B (qs j) S' T')(o:OnlyS (Sq j) w w')(hS:∀y,S' y->Sq j y∨w.heap.size<=y):WM w' B b g mb n cap cnt qs (updF Sq j S') (updF T j T') f c:=by
 obtain⟨cs,h1,h2⟩:=q.row
 have hqj:=q.qu j hj
 have key:∀k,k<n->k≠j->∀x,S' x->Sq k x->False:=fun k hk hkj x h3 h4=>by
  rcases hS x h3 with h5|h5
  ·exact q.apart j k hj hk (Ne.symm hkj) x h5 h4
  ·have:=(q.qu k hk).lt h4
   omega
 refine⟨hq.low,q.lowb,q.lowm,o.row q.box (hqj.not_row q.box (by decide) (by decide) (by decide)),⟨cs,o.row h1 (hqj.not_row h1 (by decide) (by decide) (by decide)),h2⟩,q.cap,fun k hk=>?_,fun i k hi hk hik x h3 h4=>?_,q.map.onlyS o fun h=>?_⟩
 ·by_cases e:k=j
  ·subst e;rw[Zac,Zac];exact hq
  ·rw[Zad _ _ e,Zad _ _ e]
   exact(q.qu k hk).onlyS o fun x h3 h4=>q.apart k j hk hj e x h3 h4
 ·by_cases e1:i=j
  ·subst e1
   rw[Zac]at h3
   rw[Zad _ _ (Ne.symm hik)]at h4
   exact key k hk (Ne.symm hik) x h3 h4
  ·rw[Zad _ _ e1]at h3
   by_cases e2:k=j
   ·subst e2
    rw[Zac]at h4
    exact key i hi e1 x h4 h3
   ·rw[Zad _ _ e2]at h4
    exact q.apart i k hi hk hik x h3 h4
 ·obtain⟨_,d,ty,e,_⟩:=hqj.kinds h
  exact q.map.not_cells e
theorem WM.mapped(q:WM w B b g mb n cap cnt qs Sq T f c){cnt' c':Nat}{f':Txt->Bool}(m:IM w' mb cnt' f' c')(o:OnlyS (fun y=>y=mb) w w'):WM w' B b g mb n cap cnt' qs Sq T f' c':=by
 obtain⟨cs,h1,h2⟩:=q.row
 refine⟨Nat.le_trans q.low o.size,q.lowb,q.lowm,o.row q.box fun e=>?_,⟨cs,o.row h1 fun e=>?_,h2⟩,q.cap,fun j hj=>(q.qu j hj).onlyS o fun x hx e=>?_,q.apart,m⟩
 ·have h:=q.box
  rw[e]at h
  exact q.map.not_cells h
 ·rw[e]at h1
  exact q.map.not_cells h1
 ·obtain⟨_,d,ty,e2,_⟩:=(q.qu j hj).kinds hx
  rw[e]at e2
  exact q.map.not_cells e2
def WK(w:World)(B b n cnt:Nat)(S:Nat->Prop)(T:Nat->List Txt)(f:Txt->Bool)(c:Nat):Prop:=∃g mb cap qs Sq,WM w B b g mb n cap cnt qs Sq T f c/\∀x,S x↔(x=mb∨∃j,j<n/\Sq j x)
variable{S:Nat->Prop}
theorem WK.kinds(h:WK w B b n cnt S T f c){x:Nat}(hx:S x):B<=x/\((∃es ck,w.heap[x]?=some (.map es ck))∨∃d ty,w.heap[x]?=some (.cells d ty (0,0))/\(ty=186∨ty=278∨ty=280)):=by
 obtain⟨g,mb,cap,qs,Sq,q,hS⟩:=h
 rcases (hS x).1 hx with rfl|⟨j,hj,hx⟩
 ·obtain⟨M,⟨es,ck,e1,_⟩,_⟩:=q.map.map
  exact⟨q.lowm,.inl ⟨es,ck,e1⟩⟩
 ·obtain⟨h1,h2⟩:=(q.qu j hj).kinds hx
  exact⟨h1,.inr h2⟩
theorem WK.not_row(h:WK w B b n cnt S T f c){g:Nat}{d:Array Value}{ty:TypeId}(e:w.heap[g]?=some (.cells d ty (0,0)))(h1:ty≠186)(h2:ty≠278)(h3:ty≠280):¬S g:=fun hx=>by
 rcases (h.kinds hx).2 with ⟨es,ck,e2⟩|⟨d',ty',e2,e3⟩
 ·rw[e]at e2;cases e2
 ·rw[e]at e2;injection e2 with e2;injection e2 with _ e2
  rcases e3 with rfl|rfl|rfl
  ·exact h1 e2
  ·exact h2 e2
  ·exact h3 e2
theorem WK.lt(h:WK w B b n cnt S T f c){x:Nat}(hx:S x):x<w.heap.size:=by
 rcases (h.kinds hx).2 with ⟨es,ck,e2⟩|⟨d',ty',e2,e3⟩
 ·exact(Array.getElem?_eq_some_iff.1 e2).1
 ·exact(Array.getElem?_eq_some_iff.1 e2).1
theorem WK.perm(h:WK w B b n cnt S T f c){T':Nat->List Txt}(p:∀j,j<n->(T j).Perm (T' j)):WK w B b n cnt S T' f c:=by
 obtain⟨g,mb,cap,qs,Sq,q,hS⟩:=h
 exact⟨g,mb,cap,qs,Sq,⟨q.low,q.lowb,q.lowm,q.box,q.row,q.cap,fun j hj=>(q.qu j hj).perm (p j hj),q.apart,q.map⟩,hS⟩
theorem WK.congr(h:WK w B b n cnt S T f c){f':Txt->Bool}{c':Nat}(e:∀k,f k=f' k)(e2:c=c'):WK w B b n cnt S T f' c':=by
 have:f=f':=funext e
 rw[<-this,<-e2];exact h
def WR(B b n cnt:Nat)(S:Nat->Prop)(T:Nat->List Txt)(f:Txt->Bool)(c:Nat)(w w':World):Prop:=∃S',WK w' B b n cnt S' T f c/\OnlyS S w w'/\∀y,S' y->S y∨w.heap.size<=y
theorem WK.as(h:WM w B b g mb n cap cnt qs Sq T f c):WK w B b n cnt (fun x=>x=mb∨∃j,j<n/\Sq j x) T f c:=⟨g,mb,cap,qs,Sq,h,fun _=>Iff.rfl⟩
end
section
variable{w:World}{B b g mb n cap cnt c:Nat}{qs:Nat->Nat}{Sq:Nat->Nat->Prop}{T:Nat->List Txt}{f:Txt->Bool}{S:Nat->Prop}
theorem Zdt(h:WK w B b n cnt S T f c)(z:Int):Calls Tryz.prog 117 #[.pointer (some ⟨b,0,none⟩),.int .i64 z] w fun r w'=>r=.returned (.bool (isW n z))/\w'=w:=by
 obtain⟨g,mb,cap,qs,Sq,q,hS⟩:=h
 have c0:=q.cellB.1
 clear q hS
 by_cases h:0<=z
 ·have hd:decide (z>=0)=true:=by simpa using h
  go_enter Tryz.func117,Tryz.ntmps117
  go_wp2
  go_ret
  exact⟨by simp[isW,h],rfl⟩
 ·have hd:decide (z>=0)=false:=by simpa using h
  go_enter Tryz.func117,Tryz.ntmps117
  go_wp2
  go_ret
  exact⟨by simp[isW];omega,rfl⟩
theorem Zmh(h:WK w B b n cnt S T f c){k:Txt}(hk:k.length<=1000):Calls Tryz.prog 118 #[.pointer (some ⟨b,0,none⟩),.string ⟨k.toArray⟩] w fun r w'=>r=.returned (.bool (f k))/\w'=w:=by
 obtain⟨g,mb,cap,qs,Sq,q,hS⟩:=h
 have c0:=q.cellB.2
 obtain⟨v,hl⟩:=q.map.look hk
 clear q hS
 go_enter Tryz.func118,Tryz.ntmps118
 go_wp2
 go_ret
 exact⟨rfl,rfl⟩
theorem wTotal_any(h:WK w B b n cnt S T f c):Calls Tryz.prog 39 #[.pointer (some ⟨b,0,none⟩)] w fun r w'=>r=.returned (.int .i64 (c:Nat))/\w'=w:=by
 obtain⟨g,mb,cap,qs,Sq,q,hS⟩:=h
 have c0:=q.cellB.2
 have hl:∀ty,(Builtin.len_ #[125] ty #[.map (some mb)]).run Tryz.prog w=.ok (.int .i64 (c:Nat)) w:=fun ty=>q.map.len ty
 clear q hS
 go_enter Tryz.func39,Tryz.ntmps39
 go_wp2
 go_ret
 exact⟨rfl,rfl⟩
theorem wLen_any(h:WK w B b n cnt S T f c){j:Nat}(hj:j<n):Calls Tryz.prog 80 #[.pointer (some ⟨b,0,none⟩),.int .i64 (j:Int)] w fun r w'=>r=.returned (.int .i64 (T j).length)/\w'=w:=by
 have HI:=Zdt h (j:Int)
 rw[show isW n (j:Int)=true by simp[isW,hj]]at HI
 obtain⟨g,mb,cap,qs,Sq,q,hS⟩:=h
 have HC0:=Lib.hid q.cellB.1
 have HC1:=Lib.hid (q.cellR hj)
 have HL:=Lib.hid (ZfZ (q.qu j hj))
 clear q hS
 go_enter Tryz.func80,Tryz.ntmps80
 go_wp2_with fail
 refine HI.mono ?_
 rintro r w'⟨rfl,rfl⟩
 have c0:=HC0.out
 have c1:=HC1.out
 go_wp2_with fail
 refine HL.out.mono ?_
 rintro r w'⟨rfl,rfl⟩
 go_wp2
 go_ret
 exact⟨rfl,rfl⟩
end
section
variable{w w':World}{B b g mb n cap cnt c:Nat}{qs:Nat->Nat}{Sq:Nat->Nat->Prop}{T:Nat->List Txt}{f:Txt->Bool}{S:Nat->Prop}
theorem WK.tot(h:WK w B b n cnt S T f c):c<=cnt:=by
 obtain⟨g,mb,cap,qs,Sq,q,hS⟩:=h
 obtain⟨M,hM,_,rfl⟩:=q.map.map
 exact hM.size_le
theorem give_any(h:WK w B b n cnt S T f c)(hn:n<=64){j:Nat}(hj:j<n){k:Txt}(hk:k.length<=1000)(hT:(T j).length<100000)(hc:cnt<=1000000){f':Txt->Bool}{c':Nat}(hf:∀q,(if q=k then true else f q)=f' q)(hcc:(if f k=true then c else c+1)=c'):
  Calls Tryz.prog 119 #[.pointer (some ⟨b,0,none⟩),.int .i64 (j:Int),.string ⟨k.toArray⟩] w fun r w'=>r=.returned (.tuple #[])/\WR B b n (cnt+1) S (updF T j (k::T j)) f' c' w w':=by
 obtain⟨g,mb,cap,qs,Sq,q,hS⟩:=h
 have HC0:=Lib.hid q.cellB.1
 have HC1:=Lib.hid (q.cellR hj)
 have HP:=Lib.hid (qPush_any (q.qu j hj) k (by omega) hT)
 have HM:Hid (∀w1 S1,QU w1 B (qs j) S1 (k::T j)->OnlyS (Sq j) w w1->(∀y,S1 y->Sq j y∨w.heap.size<=y)->w1.cell? ⟨b,1,none⟩=some (.map (some mb))/\∀w2,Below w1.heap.size w1 w2->w2.cell? ⟨b,1,none⟩=some (.map (some mb)) /\
   ∃w3,(Instr.mapUpdate 125 (.map (some mb)) (.string ⟨k.toArray⟩) (.int .i64 (j:Int))).run Tryz.prog w2=.ok () w3/\WR B b n (cnt+1) S (updF T j (k::T j)) f' c' w w3):=fun w1 S1 h1 h2 h3=>by
  have q1:=q.queue hj h1 h2 h3
  refine⟨q1.cellB.2,fun w2 hb=>?_⟩
  have q2:=q1.later hb
  obtain⟨w3,hr,m3,o3⟩:=q2.map.put hc hk (x:=j) (by omega)
  replace m3:=m3.congr hf hcc
  refine⟨q2.cellB.2,w3,hr,_,WK.as (q2.mapped m3 o3),((h2.mono fun y _ hy=>(hS y).2 (.inr ⟨j,hj,hy⟩)).trans (OnlyS.of_below hb)).trans (o3.mono fun y _ hy=>(hS y).2 (.inl hy)),fun y hy=>?_⟩
  rcases hy with hy|⟨i,hi,hy⟩
  ·exact .inl ((hS y).2 (.inl hy))
  ·by_cases e:i=j
   ·subst e
    rw[Zac]at hy
    exact(h3 y hy).imp (fun h=>(hS y).2 (.inr ⟨i,hi,h⟩)) id
   ·rw[Zad _ _ e]at hy
    exact .inl ((hS y).2 (.inr ⟨i,hi,hy⟩))
 have hjc:j<cap:=Nat.lt_of_lt_of_le hj q.cap
 have HK:Hid (∀w1,Calls Tryz.prog 102 #[.string ⟨k.toArray⟩] w1 fun r w'=>r=.returned (.string ⟨k.toArray⟩)/\Below w1.heap.size w1 w'):=fun w1=>Zg7 k w1 (by omega)
 clear q hS hf hcc
 have c0:=HC0.out
 have c1:=HC1.out
 go_enter Tryz.func119,Tryz.ntmps119
 go_wp2_with fail
 refine HP.out.mono ?_
 rintro r w1⟨rfl,S1,h1,h2,h3⟩
 obtain⟨d1,h4⟩:=HM.out w1 S1 h1 h2 h3
 have H4:=Lib.hid h4
 clear h1 h2 h3 h4 c0 c1
 go_wp2_with fail
 go_region_with (go_at_call 102;refine(HK.out _).mono ?_;rintro r w2⟨rfl,hb⟩;obtain⟨d2,w3,hup,hr⟩:=H4.out w2 ⟨hb.os,hb.tape,hb.output,hb.size,hb.block⟩;have HR:=Lib.hid hr;clear hr hb)
 all_goals(go_wp2;exact bodyPost_end (results_none rfl _ _ _) rfl ⟨rfl,HR.out⟩)
end
structure WU(w:World)(B b n cnt:Nat)(S:Nat->Prop)(T:Nat->List Txt):Prop where
 k:WK w B b n cnt S T (hasW n T) (totW n T)
 sort:∀j,j<n->SortT (T j)
 no:NoW n T
 short:∀j,j<n->∀s∈T j,s.length<=1000
def WUR(B b n cnt:Nat)(S:Nat->Prop)(T:Nat->List Txt)(w w':World):Prop:=∃S',WU w' B b n cnt S' T/\OnlyS S w w'/\∀y,S' y->S y∨w.heap.size<=y
section
variable{w w':World}{B b n cnt:Nat}{T:Nat->List Txt}{S:Nat->Prop}
theorem WU.len(h:WU w B b n cnt S T){j:Nat}(hj:j<n):(T j).length<=cnt:=Nat.le_trans (len_tot hj) h.k.tot
theorem WR.mk{f:Txt->Bool}{c:Nat}{T' U:Nat->List Txt}(h:WR B b n cnt S T' f c w w')(p:∀j,j<n->(T' j).Perm (U j))(hf:∀k,f k=hasW n U k)(hc:c=totW n U)(hs:∀j,j<n->SortT (U j))(hno:NoW n U)(hsh:∀j,j<n->∀s∈U j,s.length<=1000):WUR B b n cnt S U w w':=by
 obtain⟨S',h1,h2,h3⟩:=h
 exact⟨S',⟨(h1.perm p).congr hf hc,hs,hno,hsh⟩,h2,h3⟩
theorem Zf0{j:Nat}{U:Nat->List Txt}{l l':List Txt}(p:l.Perm l')(e:∀i,i<n->i≠j->(T i).Perm (U i)):∀i,i<n->(updF T j l i).Perm (updF U j l' i):=fun i hi=>by
 by_cases h:i=j
 ·subst h;rw[Zac,Zac];exact p
 ·rw[Zad _ _ h,Zad _ _ h];exact e i hi h
theorem ZdT{j:Nat}{l:List Txt}{P:List Txt->Prop}(h:∀i,i<n->P (T i))(hl:P l):∀i,i<n->P (updF T j l i):=fun i hi=>by
 by_cases e:i=j
 ·subst e;rw[Zac];exact hl
 ·rw[Zad _ _ e];exact h i hi
theorem WU.push(h:WU w B b n cnt S T){j:Nat}(hj:j<n){k:Txt}(hk:k.length<=1000)(hs:hasW n T k=false)(hr:WR B b n (cnt+1) S (updF T j (k::T j)) (fun q=>if q=k then true else hasW n T q) (totW n T+1) w w'):WUR B b n (cnt+1) S (updF T j (putT (T j) k)) w w':=by
 refine hr.mk (Zf0 (Zb5 _ _).symm fun _ _ _=>List.Perm.refl _) (fun q=>?_) (tot_put hj k).symm (ZdT h.sort (Zj2 (h.sort j hj) k)) (no_put hj h.no hs) (ZdT (P:=fun l=>∀s∈l,s.length<=1000) h.short fun s hs=>?_)
 ·rw[has_put hj]
  by_cases e:q=k <;> simp[e]
 ·rcases List.mem_cons.1 ((Zb5 _ _).subset hs)with rfl|hs
  ·exact hk
  ·exact h.short j hj s hs
theorem wPush_no(h:WU w B b n cnt S T){z:Int}{k:Txt}(hk:k.length<=1000)(hz:isW n z=false∨hasW n T k=true):Calls Tryz.prog 73 #[.pointer (some ⟨b,0,none⟩),.int .i64 z,.string ⟨k.toArray⟩] w fun r w'=>r=.returned (.bool false)/\w'=w:=by
 have HI:=Zdt h.k z
 have HH:=Zmh h.k hk
 clear h
 cases h1:isW n z
 ·rw[h1]at HI
  clear HH hz
  go_enter Tryz.func73,Tryz.ntmps73
  go_wp2_with fail
  refine HI.mono ?_
  rintro r w'⟨rfl,rfl⟩
  go_wp2
  go_ret
  exact⟨rfl,rfl⟩
 ·rw[h1]at HI
  rw[hz.resolve_left (by rw[h1];simp)]at HH
  clear hz
  go_enter Tryz.func73,Tryz.ntmps73
  go_wp2_with fail
  refine HI.mono ?_
  rintro r w'⟨rfl,rfl⟩
  go_wp2_with fail
  refine HH.mono ?_
  rintro r w'⟨rfl,rfl⟩
  go_wp2
  go_ret
  exact⟨rfl,rfl⟩
theorem wPush_yes(h:WU w B b n cnt S T)(hn:n<=64)(hc:cnt<100000){j:Nat}(hj:j<n){k:Txt}(hk:k.length<=1000)(hs:hasW n T k=false):Calls Tryz.prog 73 #[.pointer (some ⟨b,0,none⟩),.int .i64 (j:Int),.string ⟨k.toArray⟩] w fun r w'=>r=.returned (.bool true)/\WUR B b n (cnt+1) S (updF T j (putT (T j) k)) w w':=by
 have HI:=Zdt h.k (j:Int)
 rw[show isW n (j:Int)=true by simp[isW,hj]]at HI
 have HH:=Zmh h.k hk
 rw[hs]at HH
 have HG:=Lib.hid (give_any h.k hn hj hk (Nat.lt_of_le_of_lt (h.len hj) hc) (by omega) (f':=fun q=>if q=k then true else hasW n T q) (c':=totW n T+1) (fun _=>rfl) (by rw[hs];simp))
 have HE:Hid (∀w',WR B b n (cnt+1) S (updF T j (k::T j)) (fun q=>if q=k then true else hasW n T q) (totW n T+1) w w'->WUR B b n (cnt+1) S (updF T j (putT (T j) k)) w w'):=fun w' hr=>h.push hj hk hs hr
 clear h
 go_enter Tryz.func73,Tryz.ntmps73
 go_wp2_with fail
 refine HI.mono ?_
 rintro r w'⟨rfl,rfl⟩
 go_wp2_with fail
 refine HH.mono ?_
 rintro r w'⟨rfl,rfl⟩
 go_wp2_with fail
 refine HG.out.mono ?_
 rintro r w2⟨rfl,h2⟩
 have H2:=Lib.hid (HE.out w2 h2)
 clear h2
 go_wp2
 go_ret
 exact⟨rfl,H2.out⟩
theorem WU.pop(h:WU w B b n cnt S T){j:Nat}(hj:j<n){k:Txt}{l:List Txt}(hT:T j=k::l){g mb cap:Nat}{qs:Nat->Nat}{Sq:Nat->Nat->Prop}(q:WM w B b g mb n cap cnt qs Sq T (hasW n T) (totW n T))(hS:∀x,S x↔(x=mb∨∃j,j<n/\Sq j x)){w1:World}{T':List Txt}(p:T'.Perm l)(q1:QU w1 B (qs j) (Sq j) T')(o1:OnlyS (Sq j) w w1):
  w1.cell? ⟨b,1,none⟩=some (.map (some mb))/\∃w2,(∀ty,(Builtin.delete_ #[125,9] ty #[.map (some mb),.string ⟨k.toArray⟩]).run Tryz.prog w1=.ok (.tuple #[]) w2)/\WUR B b n cnt S (updF T j l) w w2:=by
 have m1:=q.queue hj q1 o1 fun y hy=>.inl hy
 have hkm:k∈T j:=by rw[hT];exact List.mem_cons_self
 refine⟨m1.cellB.2,?_⟩
 obtain⟨w2,hr,m2,o2⟩:=m1.map.drop (h.short j hj k hkm) 0
 refine⟨w2,fun _=>hr,?_⟩
 have hp:(T j).Perm (k::l):=by rw[hT]
 have hs:hasW n T k=true:=ZeR.2 ⟨j,hj,hkm⟩
 have hwr:WR B b n cnt S (updF T j T') (fun q=>if q=k then false else hasW n T q) (if hasW n T k=true then totW n T-1 else totW n T) w w2:=by
  refine⟨_,WK.as (m1.mapped m2 o2),(o1.mono fun y _ hy=>(hS y).2 (.inr ⟨j,hj,hy⟩)).trans (o2.mono fun y _ hy=>(hS y).2 (.inl hy)),fun y hy=>?_⟩
  rcases hy with hy|⟨i,hi,hy⟩
  ·exact .inl ((hS y).2 (.inl hy))
  ·by_cases e:i=j
   ·subst e
    rw[Zac]at hy
    exact .inl ((hS y).2 (.inr ⟨i,hi,hy⟩))
   ·rw[Zad _ _ e]at hy
    exact .inl ((hS y).2 (.inr ⟨i,hi,hy⟩))
 refine hwr.mk (Zf0 p fun _ _ _=>List.Perm.refl _) (fun q=>?_) ?_ (ZdT h.sort (hT▸h.sort j hj:SortT (k::l)).tail) (no_pop hj h.no hp).1 (ZdT (P:=fun l=>∀s∈l,s.length<=1000) h.short fun s hs=>h.short j hj s (by rw[hT];exact List.mem_cons_of_mem _ hs))
 ·rw[has_pop hj h.no hp]
  by_cases e:q=k <;> simp[e]
 ·rw[if_pos hs,tot_pop hj hp,Nat.add_sub_cancel]
theorem wPop_any(h:WU w B b n cnt S T){j:Nat}(hj:j<n){k:Txt}{l:List Txt}(hT:T j=k::l):Calls Tryz.prog 82 #[.pointer (some ⟨b,0,none⟩),.int .i64 (j:Int)] w fun r w'=>r=.returned (.tuple #[.string ⟨k.toArray⟩,.bool true])/\WUR B b n cnt S (updF T j l) w w':=by
 have HI:=Zdt h.k (j:Int)
 rw[show isW n (j:Int)=true by simp[isW,hj]]at HI
 obtain⟨g,mb,cap,qs,Sq,q,hS⟩:=h.k
 have HC0:=Lib.hid q.cellB.1
 have HC1:=Lib.hid (q.cellR hj)
 have HL:Hid (Calls Tryz.prog 127 #[.pointer (some ⟨qs j,0,none⟩)] w fun r w1=>r=.returned (.tuple #[.string ⟨k.toArray⟩,.bool true])/\w1.cell? ⟨b,1,none⟩=some (.map (some mb))/\∃w2,(∀ty,(Builtin.delete_ #[125,9] ty #[.map (some mb),.string ⟨k.toArray⟩]).run Tryz.prog w1=.ok (.tuple #[]) w2)/\WUR B b n cnt S (updF T j l) w w2):=
  (qPop_any (q.qu j hj) (by rw[hT];simp)).mono fun r w1 ⟨k',T',e,p,t,q1,o1⟩=>by
   rw[hT]at p t
   obtain⟨rfl,p'⟩:=sort_first (hT▸h.sort j hj) p t
   exact⟨e,h.pop hj hT q hS p' q1 o1⟩
 clear q hS h
 go_enter Tryz.func82,Tryz.ntmps82
 go_wp2_with fail
 refine HI.mono ?_
 rintro r w'⟨rfl,rfl⟩
 have c0:=HC0.out
 have c1:=HC1.out
 go_wp2_with fail
 refine HL.out.mono ?_
 rintro r w1⟨rfl,d1,w2,hd,h3⟩
 have H3:=Lib.hid h3
 clear c0 c1 h3
 go_wp2
 refine bodyPost_ret (v:=.tuple #[.string ⟨k.toArray⟩,.bool true]) (by simp[results,Tryz.results82,go_sem]) rfl ?_
 exact⟨rfl,H3.out⟩
end
section
variable{w w':World}{B b n cnt:Nat}{T:Nat->List Txt}{S:Nat->Prop}
theorem steal_zero(p:Option Addr)(z y:Int)(w:World)(h:Calls Tryz.prog 117 #[.pointer p,.int .i64 z] w fun r w'=>r=.returned (.bool false)/\w'=w):Calls Tryz.prog 81 #[.pointer p,.int .i64 z,.int .i64 y] w fun r w'=>r=.returned (.tuple #[.string ⟨#[]⟩,.bool false])/\w'=w:=by
 have HI:=Lib.hid h
 clear h
 go_enter Tryz.func81,Tryz.ntmps81
 go_wp2_with fail
 refine HI.out.mono ?_
 rintro r w'⟨rfl,rfl⟩
 go_wp2
 refine bodyPost_ret (v:=.tuple #[.string ⟨#[]⟩,.bool false]) (by simp[results,Tryz.results81,go_sem]) rfl ?_
 exact⟨rfl,rfl⟩
theorem wSteal_no(h:WU w B b n cnt S T)(z y:Int)(hz:isW n z=false∨isW n y=false∨z=y∨T y.toNat=[]):Calls Tryz.prog 81 #[.pointer (some ⟨b,0,none⟩),.int .i64 z,.int .i64 y] w fun r w'=>r=.returned (.tuple #[.string ⟨#[]⟩,.bool false])/\w'=w:=by
 have HI:=Zdt h.k z
 have HJ:=Zdt h.k y
 cases h1:isW n z
 ·rw[h1]at HI
  exact steal_zero _ _ _ _ HI
 ·rw[h1]at HI
  cases h2:isW n y
  ·rw[h2]at HJ
   clear h hz
   go_enter Tryz.func81,Tryz.ntmps81
   go_wp2_with fail
   refine HI.mono ?_
   rintro r w'⟨rfl,rfl⟩
   go_wp2_with fail
   refine HJ.mono ?_
   rintro r w'⟨rfl,rfl⟩
   go_wp2
   refine bodyPost_ret (v:=.tuple #[.string ⟨#[]⟩,.bool false]) (by simp[results,Tryz.results81,go_sem]) rfl ?_
   exact⟨rfl,rfl⟩
  ·rw[h2]at HJ
   have hz:=(hz.resolve_left (by rw[h1];simp)).resolve_left (by rw[h2];simp)
   by_cases e:z=y
   ·subst e
    clear h hz
    go_enter Tryz.func81,Tryz.ntmps81
    go_wp2_with fail
    refine HI.mono ?_
    rintro r w'⟨rfl,rfl⟩
    go_wp2_with fail
    refine HJ.mono ?_
    rintro r w'⟨rfl,rfl⟩
    go_wp2
    refine bodyPost_ret (v:=.tuple #[.string ⟨#[]⟩,.bool false]) (by simp[results,Tryz.results81,go_sem]) rfl ?_
    exact⟨rfl,rfl⟩
   ·have hl:=hz.resolve_left e
    obtain⟨k,hk,rfl⟩:=isW_yes h2
    rw[Int.toNat_natCast]at hl
    obtain⟨g,mb,cap,qs,Sq,q,hS⟩:=h.k
    have HC0:=Lib.hid q.cellB.1
    have HC1:=Lib.hid (q.cellR hk)
    have hq:=q.qu k hk
    rw[hl]at hq
    have HL:=Lib.hid (Zln hq)
    have hne:(z==(k:Int))=false:=by rw[beq_eq_false_iff_ne];exact e
    clear q hS h hq hz h1 h2
    go_enter Tryz.func81,Tryz.ntmps81
    go_wp2_with fail
    refine HI.mono ?_
    rintro r w'⟨rfl,rfl⟩
    go_wp2_with fail
    refine HJ.mono ?_
    rintro r w'⟨rfl,rfl⟩
    have c0:=HC0.out
    have c1:=HC1.out
    go_wp2_with fail
    refine HL.out.mono ?_
    rintro r w'⟨rfl,rfl⟩
    go_wp2
    refine bodyPost_ret (v:=.tuple #[.string ⟨#[]⟩,.bool false]) (by simp[results,Tryz.results81,go_sem]) rfl ?_
    exact⟨rfl,rfl⟩
theorem WU.steal(h:WU w B b n cnt S T){i j:Nat}(hi:i<n)(hj:j<n)(hij:i≠j){k:Txt}{l:List Txt}(hT:T j=l++[k]){g mb cap:Nat}{qs:Nat->Nat}{Sq:Nat->Nat->Prop}(q:WM w B b g mb n cap cnt qs Sq T (hasW n T) (totW n T))(hS:∀x,S x↔(x=mb∨∃j,j<n/\Sq j x)){w1:World}{T':List Txt}(p:T'.Perm l)(q1:QU w1 B (qs j) (Sq j) T')(o1:OnlyS (Sq j) w w1):
  WK w1 B b n cnt S (updF T j T') (hasW n T) (totW n T)/\k.length<=1000/\hasW n T k=true/\∀w2,WR B b n (cnt+1) S (updF (updF T j T') i (k::updF T j T' i)) (hasW n T) (totW n T) w1 w2->WUR B b n (cnt+1) S (updF (updF T j l) i (putT (T i) k)) w w2:=by
 have m1:=q.queue hj q1 o1 fun y hy=>.inl hy
 rw[Zih]at m1
 have hkm:k∈T j:=by rw[hT];simp
 have hp:(T j).Perm (k::l):=by rw[hT];exact List.perm_append_singleton _ _
 refine⟨⟨g,mb,cap,qs,Sq,m1,hS⟩,h.short j hj k hkm,ZeR.2 ⟨j,hj,hkm⟩,fun w2 hr=>?_⟩
 have o1':OnlyS S w w1:=o1.mono fun y _ hy=>(hS y).2 (.inr ⟨j,hj,hy⟩)
 have hr':WR B b n (cnt+1) S (updF (updF T j T') i (k::updF T j T' i)) (hasW n T) (totW n T) w w2:=by
  obtain⟨S',h1,h2,h3⟩:=hr
  exact⟨S',h1,o1'.trans h2,fun y hy=>(h3 y hy).imp id fun h4=>Nat.le_trans o1'.size h4⟩
 have hsl:SortT l:=(hT▸h.sort j hj:SortT (l++[k])).init
 refine hr'.mk (Zf0 ?_ fun i' hi' _=>Zf0 p (fun _ _ _=>List.Perm.refl _) i' hi') (fun q=>(has_steal hi hj hij hp q).symm) (tot_steal hi hj hij hp).symm (ZdT (ZdT h.sort hsl) (Zj2 (h.sort i hi) k)) (no_steal hi hj hij h.no hp) (ZdT (P:=fun l=>∀s∈l,s.length<=1000) (ZdT (P:=fun l=>∀s∈l,s.length<=1000) h.short fun s hs=>h.short j hj s (by rw[hT];simp[hs])) fun s hs=>?_)
 ·rw[Zad _ _ hij]
  exact(Zb5 _ _).symm
 ·rcases List.mem_cons.1 ((Zb5 _ _).subset hs)with rfl|hs
  ·exact h.short j hj _ hkm
  ·exact h.short i hi s hs
theorem wSteal_any(h:WU w B b n cnt S T)(hn:n<=64)(hc:cnt<100000){i j:Nat}(hi:i<n)(hj:j<n)(hij:i≠j){k:Txt}{l:List Txt}(hT:T j=l++[k]):Calls Tryz.prog 81 #[.pointer (some ⟨b,0,none⟩),.int .i64 (i:Int),.int .i64 (j:Int)] w fun r w'=>r=.returned (.tuple #[.string ⟨k.toArray⟩,.bool true])/\WUR B b n (cnt+1) S (updF (updF T j l) i (putT (T i) k)) w w':=by
 have HI:=Zdt h.k (i:Int)
 rw[show isW n (i:Int)=true by simp[isW,hi]]at HI
 have HJ:=Zdt h.k (j:Int)
 rw[show isW n (j:Int)=true by simp[isW,hj]]at HJ
 obtain⟨g,mb,cap,qs,Sq,q,hS⟩:=h.k
 have HC0:=Lib.hid q.cellB.1
 have HC1:=Lib.hid (q.cellR hj)
 have hli:=Nat.lt_of_le_of_lt (h.len hi) hc
 have HL:Hid (Calls Tryz.prog 126 #[.pointer (some ⟨qs j,0,none⟩)] w fun r w1=>r=.returned (.tuple #[.string ⟨k.toArray⟩,.bool true])/\Calls Tryz.prog 119 #[.pointer (some ⟨b,0,none⟩),.int .i64 (i:Int),.string ⟨k.toArray⟩] w1 fun r w2=>r=.returned (.tuple #[])/\WUR B b n (cnt+1) S (updF (updF T j l) i (putT (T i) k)) w w2):=
  (qSteal_any (q.qu j hj) (by rw[hT];simp)).mono fun r w1 ⟨k',T',e,p,t,q1,o1⟩=>by
   rw[hT]at p t
   obtain⟨rfl,p'⟩:=sort_last (hT▸h.sort j hj) p t
   obtain⟨h1,h2,h3,h4⟩:=h.steal hi hj hij hT q hS p' q1 o1
   refine⟨e,(give_any h1 hn hi h2 (by rw[Zad _ _ hij];exact hli) (by omega) (f':=hasW n T) (c':=totW n T) (fun q=>?_) (by rw[if_pos h3])).mono fun r w2 ⟨h5,h6⟩=>⟨h5,h4 w2 h6⟩⟩
   by_cases e:q=k'
   ·subst e;rw[if_pos rfl,h3]
   ·rw[if_neg e]
 have hne:((i:Int)==(j:Int))=false:=by rw[beq_eq_false_iff_ne];omega
 clear q hS h hli
 go_enter Tryz.func81,Tryz.ntmps81
 go_wp2_with fail
 refine HI.mono ?_
 rintro r w'⟨rfl,rfl⟩
 go_wp2_with fail
 refine HJ.mono ?_
 rintro r w'⟨rfl,rfl⟩
 have c0:=HC0.out
 have c1:=HC1.out
 go_wp2_with fail
 refine HL.out.mono ?_
 rintro r w1⟨rfl,h2⟩
 have H2:=Lib.hid h2
 clear c0 c1 h2
 go_wp2_with fail
 refine H2.out.mono ?_
 rintro r w2⟨rfl,h3⟩
 have H3:=Lib.hid h3
 clear h3
 go_wp2
 refine bodyPost_ret (v:=.tuple #[.string ⟨k.toArray⟩,.bool true]) (by simp[results,Tryz.results81,go_sem]) rfl ?_
 exact⟨rfl,H3.out⟩
end
section
variable{w w':World}{B b mb:Nat}
theorem ZfF{w:World}{B C:Nat}{t:TypeId}{n:Nat}{X:Type}{f:X->List Value}{v:Value}{l:List X}(h:Zae w B t n f v l)(hC:C<=B):Zae w C t n f v l:=by
 obtain⟨h1,h2|⟨g,cap,cur,h2,h3,h4⟩⟩:=h
 ·exact⟨h1,.inl h2⟩
 ·exact⟨h1,.inr ⟨g,cap,cur,h2,Nat.le_trans hC h3,h4⟩⟩
theorem QU.lower{S:Nat->Prop}{T:List Txt}(h:QU w B b S T){C:Nat}(hC:C<=B):QU w C b S T:=by
 obtain⟨pre,ids,vs,pl,ls,q,h1,h2⟩:=h
 exact⟨pre,ids,vs,pl,ls,⟨⟨Nat.le_trans hC q.qr.low,Nat.le_trans hC q.qr.lowb,q.qr.box,fun s hs=>ZfF (q.qr.row s hs) hC,q.qr.len,q.qr.apart,fun x hx=>⟨Nat.le_trans hC (q.qr.item x hx).1,(q.qr.item x hx).2⟩,q.qr.sub⟩,q.ok,q.perm⟩,h1,h2⟩
theorem infoQ:(Tryz.prog.info? 129).map (fun i=>(i.zero,i.size,i.bytes))=some (some (.pointer none),1,8):=by kernel_rfl
structure NewI(w:World)(b mb:Nat)(v:Value)(qs:List Nat)(Sq:Nat->Nat->Prop)(wr:World):Prop where
 lowb:w.heap.size<=b
 lowm:w.heap.size<=mb
 below:Below w.heap.size w wr
 box:wr.heap[b]?=some (.cells #[v,.map (some mb)] 128 (0,0))
 row:Zae wr w.heap.size 129 1 ZbS v qs
 qu:∀j,j<qs.length->QU wr w.heap.size (qs.getD j 0) (Sq j) []
 apart:∀i j,i<qs.length->j<qs.length->i≠j->∀x,Sq i x->¬Sq j x
 map:IM wr mb 0 (fun _=>false) 0
theorem NewI.grow{wr w1:World}{v:Value}{qs:List Nat}{Sq:Nat->Nat->Prop}(h:NewI w b mb v qs Sq wr)(hb:Below wr.heap.size wr w1){S1:Nat->Prop}(q1:QU w1 wr.heap.size wr.heap.size S1 [])(hS:∀y,S1 y->wr.heap.size<=y):
  w1.cell? ⟨b,0,none⟩=some v/\(w1.alloc (.cells #[.pointer (some ⟨wr.heap.size,0,none⟩)] 129)).cell? ⟨b,0,none⟩=some v/\Zae (w1.alloc (.cells #[.pointer (some ⟨wr.heap.size,0,none⟩)] 129)) w.heap.size 129 1 ZbS v qs/\w.heap.size<=(w1.alloc (.cells #[.pointer (some ⟨wr.heap.size,0,none⟩)] 129)).heap.size /\
  ∀v3 W3,Zae W3 w.heap.size 129 1 ZbS v3 (qs++[wr.heap.size])->(w1.alloc (.cells #[.pointer (some ⟨wr.heap.size,0,none⟩)] 129)).grownBy W3 v.ownBlock->W3.cell? ⟨b,0,none⟩=some v/\W3.frozen? ⟨b,0,none⟩=false/\NewI w b mb v3 (qs++[wr.heap.size]) (updF Sq qs.length S1) (W3.setCell ⟨b,0,none⟩ v3):=by
 have hb2:Below wr.heap.size wr (w1.alloc (.cells #[.pointer (some ⟨wr.heap.size,0,none⟩)] 129)):=hb.alloc hb.size _
 have q2:QU (w1.alloc (.cells #[.pointer (some ⟨wr.heap.size,0,none⟩)] 129)) w.heap.size wr.heap.size S1 []:=(q1.later (Zaa _ _)).lower h.below.size
 have hS2:∀y,S1 y->y<(w1.alloc (.cells #[.pointer (some ⟨wr.heap.size,0,none⟩)] 129)).heap.size:=fun y hy=>q2.lt hy
 have hbx:=(hb2.block _ (Array.getElem?_eq_some_iff.1 h.box).1).trans h.box
 have hr2:=h.row.later hb2
 refine⟨?_,?_,hr2,Nat.le_trans h.below.size hb2.size,fun v3 W3 hv3 hg=>?_⟩
 ·rw[cell_of_row w1 b 0 _ _ _ ((hb.block _ (Array.getElem?_eq_some_iff.1 h.box).1).trans h.box)];rfl
 ·rw[cell_of_row _ b 0 _ _ _ hbx];rfl
 generalize (w1.alloc (.cells #[.pointer (some ⟨wr.heap.size,0,none⟩)] 129))=W2 at *
 have o2:OnlyS (fun y=>v.ownBlock=some y) W2 W3:=⟨hg.os,hg.tape,hg.output,hg.size,fun k hk hn=>hg.block k hk fun e=>hn e.symm⟩
 have hnb:∀{x:Nat} {c:Array Value} {ty:TypeId},W2.heap[x]?=some (.cells c ty (0,0))->ty≠129->v.ownBlock≠some x:=fun hx hty e=>by
  obtain⟨_,c',hc'⟩:=hr2.kindQ e
  rw[hx]at hc';injection hc' with hc';injection hc' with _ hc'
  exact hty hc'
 have hbx3:W3.heap[b]?=_:=o2.row hbx (hnb hbx (by decide))
 have ho3:OnlyS (fun y=>y=b) W3 (W3.setCell ⟨b,0,none⟩ v3):=(OnlyS.refl (fun y=>y=b) W3).setCell (p:=⟨b,0,none⟩) rfl v3
 have hq3:∀{x:Nat} {S:Nat->Prop},QU W2 w.heap.size x S []->QU (W3.setCell ⟨b,0,none⟩ v3) w.heap.size x S []:=fun {x S} q=>by
  have q3:QU W3 w.heap.size x S []:=q.onlyS o2 fun y hy e=>by
   obtain⟨_,c,ty,e2,e3⟩:=q.kinds hy
   refine hnb e2 ?_ e
   rcases e3 with rfl|rfl|rfl <;> decide
  refine q3.onlyS ho3 fun y hy e=>?_
  subst e
  exact q3.not_row hbx3 (by decide) (by decide) (by decide) hy
 have hm2:=h.map.later hb2
 have hm3:IM W3 mb 0 (fun _=>false) 0:=hm2.onlyS o2 fun e=>by
  obtain⟨_,c',hc'⟩:=hr2.kindQ e
  exact hm2.not_cells hc'
 have b3:=(h.below.trans (hb2.mono h.below.size)).trans (o2.below (Nat.le_trans h.below.size hb2.size) fun k hk=>(hr2.kindQ hk).1)
 have hgl:∀j,j<qs.length->(qs++[wr.heap.size]).getD j 0=qs.getD j 0:=fun j hj=>by
  simp[List.getD,List.getElem?_append_left hj]
 have hgn:(qs++[wr.heap.size]).getD qs.length 0=wr.heap.size:=by simp[List.getD]
 refine⟨by rw[cell_of_row _ b 0 _ _ _ hbx3];rfl,by simp[World.frozen?,hbx3],⟨h.lowb,h.lowm,b3.trans (ho3.below b3.size fun k hk=>by subst hk;exact h.lowb),?_,?_,fun j hj=>?_,fun i j hi hj hij x h1 h2=>?_,hm3.onlyS ho3 fun e=>?_⟩⟩
 ·rw[heap_setCell_same _ b 0 _ _ _ hbx3];rfl
 ·refine hv3.keepQ fun g hg=>Below.heap_setCell _ _ _ _ fun e=>?_
  obtain⟨_,c',hc'⟩:=hv3.kindQ hg
  rw[e,hbx3]at hc';injection hc' with hc';injection hc' with _ hc'
  exact absurd hc' (by decide)
 ·rw[List.length_append,List.length_singleton]at hj
  by_cases e:j=qs.length
  ·subst e
   rw[hgn,Zac]
   exact hq3 q2
  ·rw[hgl j (by omega),Zad _ _ e]
   exact hq3 ((h.qu j (by omega)).later hb2)
 ·rw[List.length_append,List.length_singleton]at hi hj
  by_cases e1:i=qs.length
  ·subst e1
   rw[Zac]at h1
   rw[Zad _ _ (Ne.symm hij)]at h2
   have h3:=(h.qu j (by omega)).lt h2
   have h4:=hS x h1
   omega
  ·rw[Zad _ _ e1]at h1
   by_cases e2:j=qs.length
   ·subst e2
    rw[Zac]at h2
    have h3:=(h.qu i (by omega)).lt h1
    have h4:=hS x h2
    omega
   ·rw[Zad _ _ e2]at h2
    exact h.apart i j (by omega) (by omega) hij x h1 h2
 ·subst e
  exact hm3.not_cells hbx3
def WkB(w:World)(b n g:Nat):Prop:=∃cap mb,w.heap[b]?=some (.cells #[.slice (some ⟨g,0,none⟩) n cap,.map (some mb)] 128 (0,0))
theorem NewI.done{wr:World}{v:Value}{qs:List Nat}{Sq:Nat->Nat->Prop}(h:NewI w b mb v qs Sq wr)(hn:qs≠[]):∃S,WU wr w.heap.size b qs.length 0 S (fun _=>[])/\(∀y,S y->w.heap.size<=y)/\∃g,w.heap.size<=g/\g<wr.heap.size/\WkB wr b qs.length g:=by
 obtain⟨h1,⟨h2,h3⟩|⟨g,cap,cur,h2,h3,h4,h5,h6,h7,h8⟩⟩:=h.row
 ·exact absurd (List.eq_nil_of_length_eq_zero h3) hn
 have hbx:=h.box
 rw[h2]at hbx
 have hk:WK wr w.heap.size b qs.length 0 (fun x=>x=mb∨∃j,j<qs.length/\Sq j x) (fun _=>[]) (hasW qs.length fun _=>[]) (totW qs.length fun _=>[]):=by
  refine WK.as (g:=g) (cap:=cap) (qs:=fun j=>qs.getD j 0) ⟨h.below.size,h.lowb,h.lowm,hbx,⟨cur,h4,fun j hj=>?_⟩,h5,h.qu,h.apart,h.map.congr (fun k=>(hasW_start _ k).symm) (Zhv _).symm⟩
  rw[ZgN,Nat.mul_one]at h8
  have:(cur.toList.take qs.length)[j]?=some (.pointer (some ⟨qs.getD j 0,0,none⟩)):=by
   rw[h8];simp[List.getD,hj]
  rw[List.getElem?_take_of_lt hj]at this
  simpa using this
 exact⟨_,⟨hk,fun j _=>List.Pairwise.nil,noW_start _,fun j _ s hs=>by cases hs⟩,fun y hy=>(hk.kinds hy).1,g,h3,(Array.getElem?_eq_some_iff.1 h4).1,cap,mb,hbx⟩
end
theorem wNew_two{n:Nat}(h1:1<=n)(h64:n<=64)(w:World):Calls Tryz.prog 35 #[.int .i64 (n:Int)] w fun r w'=>r=.returned (.tuple #[.pointer (some ⟨w.heap.size+1,0,none⟩),.int .i64 0])/\Below w.heap.size w w'/\∃S,WU w' w.heap.size (w.heap.size+1) n 0 S (fun _=>[])/\(∀y,S y->w.heap.size<=y)/\∃g,w.heap.size<=g/\g<w'.heap.size/\WkB w' (w.heap.size+1) n g:=by
 have hd1:decide ((n:Int)<1)=false:=decide_eq_false (by omega)
 have hd2:decide ((64:Int)<(n:Int))=false:=decide_eq_false (by omega)
 have HI0:Hid (NewI w (w.heap.size+1) w.heap.size (.slice none 0 0) [] (fun _ _=>False) ((w.alloc (.map #[] 0)).alloc (.cells #[.slice none 0 0,.map (some w.heap.size)] 128))):=by
  have hbx:=heap_alloc_new (w.alloc (.map #[] 0)) (.cells #[.slice none 0 0,.map (some w.heap.size)] 128)
  rw[World.size_alloc]at hbx
  exact⟨by omega,Nat.le_refl _,Zak w _ _,hbx,Za5 _ _ _ _ _,fun j hj=>absurd hj (Nat.not_lt_zero _),fun i j hi=>absurd hi (Nat.not_lt_zero _),(IM.start w).later (Zaa _ _)⟩
 have hmm:=@run_makeMap Tryz.prog
 go_enter Tryz.func35,Tryz.ntmps35
 go_wp2_with fail
 clear hmm
 generalize ((w.alloc (.map #[] 0)).alloc (.cells #[.slice none 0 0,.map (some w.heap.size)] 128))=W0 at *
 go_loopw [15] (fun i wr=>∃(j:Nat) (v:Value) (qs:List Nat) (Sq:Nat->Nat->Prop),j<=n/\i=.int .i64 j/\Hid (qs.length=j)/\Hid (NewI w (w.heap.size+1) w.heap.size v qs Sq wr)) (fun i _=>n-(intOf i).toNat)
 case atStart=>exact⟨0,_,[],_,Nat.zero_le _,rfl,rfl,HI0⟩
 case round=>
  clear HI0
  obtain⟨j,v,qs,Sq,hj,rfl,HQ,HI⟩:=hrel
  by_cases hlt:j<n
  ·have c0:wr.cell? ⟨w.heap.size+1,0,none⟩=some v:=by rw[cell_of_row wr _ 0 _ _ _ HI.out.box];rfl
   have hql:qs.length<=1000000:=by have:=HQ.out;omega
   have HQL:=Lib.hid hql
   have HG:Hid (∀w1,Below wr.heap.size wr w1->∀S1,QU w1 wr.heap.size wr.heap.size S1 []->(∀y,S1 y->wr.heap.size<=y)->_):=fun w1 hb S1 q1 hS=>HI.out.grow hb q1 hS
   clear hql
   go_wp2_with fail
   go_region_law ((first
    |(refine ZbP (f:=ZbS) (n:=1) 126 129 8 (.pointer none) Tryz.underlying126 infoQ (by rfl) (by omega) (by omega) Zco (by rfl) (.tmp 21) (.tmp 23) (by rfl) w.heap.size v qs (by rfl) hr2 ⟨w1.heap.size,0,none⟩ (by rfl) wr.heap.size (ZhY _) (ZaH w1 (ZbS wr.heap.size) _ _ rfl) HQL.out hz2 ?_;intro v3 W3 hown3 _ hg3 _;obtain⟨g3,cap3,hv3,_,_⟩:=Zae.block hown3 (by simp);rw[List.length_append,List.length_singleton]at hv3;subst hv3;obtain⟨c3,f3,hn3⟩:=h3 _ W3 hown3 hg3;have HN3:=Lib.hid hn3;clear hn3 hown3 hg3)
    |(go_simp;go_wp2_with (go_at_call 63;refine(qNew_any _).mono ?_;rintro r w1⟨rfl,hb1,S1,q1,hS1⟩;obtain⟨c1,c2,hr2,hz2,h3⟩:=HG.out w1 ⟨hb1.os,hb1.tape,hb1.output,hb1.size,hb1.block⟩ S1 q1 hS1;clear hb1 q1 hS1))))
   all_goals(
    go_wp2
    go_roundw
    case rel=>exact⟨j+1,_,qs++[wr.heap.size],_,by omega,by go_num,by show(qs++[wr.heap.size]).length=j+1;rw[List.length_append,HQ.out];rfl,HN3⟩
    case measure=>simp[intOf];omega)
  ·obtain rfl:j=n:=by omega
   have HE:Hid (Below w.heap.size w wr/\∃S,WU wr w.heap.size (w.heap.size+1) j 0 S (fun _=>[])/\(∀y,S y->w.heap.size<=y)/\∃g,w.heap.size<=g/\g<wr.heap.size/\WkB wr (w.heap.size+1) j g):=⟨HI.out.below,by
    have:=HI.out.done (fun e=>by have:=HQ.out;rw[e]at this;simp at this;omega)
    rw[HQ.out]at this
    exact this⟩
   clear HI
   go_wp2
   refine bodyPost_ret (v:=.tuple #[.pointer (some ⟨w.heap.size+1,0,none⟩),.int .i64 0]) (by simp[results,Tryz.results35,go_sem]) rfl ?_
   exact⟨rfl,HE.out⟩
theorem run_count(row:List Int):∀{s:St},(s.run row).1=0->(s.run row).2.1.length=row.length:=by
 induction row with
 |nil=>intro s _;rfl
 |cons u row ih=>
  intro s h
  by_cases h1:(s.step u).1=0
  ·rw[St.run,if_pos h1]at h ⊢
   by_cases h2:((s.step u).2.2.run row).1=0
   ·rw[if_pos h2]
    simp[ih h2]
   ·rw[if_neg h2]at h;exact absurd h h2
  ·rw[St.run,if_neg h1]at h;exact absurd h h1
theorem ZeD{p:Pg}{fuel:Int}{row:List Int}{e:Int}{es:List Ev}{s:St}(h:rep p fuel row=(e,es,some s)):es.length=row.length:=by
 obtain⟨_,_,h1,h2⟩:=ZfY h
 rw[<-h2]
 exact run_count row h1
theorem hasB_same{n:Nat}{t u:Int}(h:0<=u/\u<8)(e:t=u):hasB (wt n u) t=true:=by
 subst e
 obtain⟨k,rfl⟩:∃k:Nat,t=k:=⟨t.toNat,by omega⟩
 rw[Za2 _ (by omega),Ze6 (by omega)]
 simp
theorem ZiR{n:Nat}(_:n<256){x:Int}(h:x∈ints (bitsL n)):hasB n x=true:=by
 have:=mem_has n x
 rw[<-this]
 simpa using h
theorem TNd.Ok.left_gone{n:TNd}(h:n.Ok){x:Int}(hx:x∈ints (bitsL n.left)):hasB n.gone x=false/\hasB n.asl x=false/\hasB n.todo x=true:=by
 have h1:=ZiR h.left hx
 unfold hasB at h1
 rw[Bool.and_eq_true,decide_eq_true_eq]at h1
 obtain⟨k,rfl⟩:∃k:Nat,x=k:=⟨x.toNat,by omega⟩
 have h2:n.left.testBit k=true:=h1.2
 have hk:k<8:=by omega
 unfold TNd.left at h2
 rw[ZaY (wo_lt _ _ h.todo) h.asl,ZaY h.todo h.gone]at h2
 simp only[Bool.and_eq_true,Bool.not_eq_true']at h2
 rw[Za2 _ hk,Za2 _ hk,Za2 _ hk]
 exact⟨h2.1.2,h2.2,h2.1.1⟩
end Go.Proofs.YtjfmmnhcddckaaaGreat
namespace Go.Proofs.YtjfmmnhcddckaaaGreat
def lastT(l:List Ev)(t:Int):Nat->Option Nat
 |0=>none
 |n+1=>if (evI l n).thread=t then some n else lastT l t n
theorem ZhX{l:List Ev}{t:Int}:∀{n j:Nat},lastT l t n=some j->j<n/\(evI l j).thread=t:=by
 intro n
 induction n with
 |zero=>intro j h;cases h
 |succ n ih=>
  intro j h
  rw[lastT]at h
  split at h
  ·rename_i ht
   injection h with h
   subst h
   exact⟨Nat.lt_succ_self _,ht⟩
  ·have:=ih h
   exact⟨by omega,this.2⟩
def Zkr(l:List Ev)(t:Int)(i:Nat):Bool:=match lastT l t l.length with
 |none=>false
 |some j=>hb l i j
def raceAt(l:List Ev)(e:Ev)(i:Nat):Bool:=decide ((evI l i).thread≠e.thread)&&dep (evI l i) e && !Zkr l e.thread i
def withL(l:List Ev)(e:Ev):List Nat:=(List.range l.length).filter (raceAt l e)
theorem Zkj{l:List Ev}{e:Ev}{i:Nat}:i∈withL l e↔i<l.length/\(evI l i).thread≠e.thread/\dep (evI l i) e=true/\Zkr l e.thread i=false:=by
 unfold withL raceAt
 rw[List.mem_filter,List.mem_range,Bool.and_eq_true,Bool.and_eq_true,decide_eq_true_eq,Bool.not_eq_true']
 exact⟨fun h=>⟨h.1,h.2.1.1,h.2.1.2,h.2.2⟩,fun h=>⟨h.1,⟨h.2.1,h.2.2.1⟩,h.2.2.2⟩⟩
def rcT(t:Int)(ats:List Nat):List (Nat × Int):=ats.map fun i=>(i,t)
def Zct(nx:Int->Option Ev)(l:List Ev)(n:Nat):List (Nat × Int):=(List.range n).flatMap fun(t:Nat)=>match nx (t:Int)with
 |none=>[]
 |some e=>rcT (t:Int) (withL l e)
theorem Zdc(nx:Int->Option Ev)(l:List Ev)(n:Nat):Zct nx l (n+1)=Zct nx l n++match nx n with
  |none=>[]
  |some e=>rcT (n:Int) (withL l e):=by
 unfold Zct
 rw[List.range_succ,List.flatMap_append]
 simp
theorem withL_len(l:List Ev)(e:Ev):(withL l e).length<=l.length:=by
 unfold withL
 refine Nat.le_trans (List.length_filter_le _ _) ?_
 rw[List.length_range]
 exact Nat.le_refl _
theorem Ze8(nx:Int->Option Ev)(l:List Ev)(n:Nat):(Zct nx l n).length<=n*l.length:=by
 induction n with
 |zero=>exact Nat.zero_le _
 |succ n ih=>
  rw[Zdc,List.length_append,Nat.add_mul,Nat.one_mul]
  have h:(match nx n with
   |none=>[]
   |some e=>rcT (n:Int) (withL l e)).length<=l.length:=by
   split
   ·exact Nat.zero_le _
   ·unfold rcT
    rw[List.length_map]
    exact withL_len _ _
  omega
theorem ZhS{nx:Int->Option Ev}{l:List Ev}{i:Nat}{u:Int}:∀{n:Nat},(i,u)∈Zct nx l n↔∃k:Nat,k<n/\u=(k:Int)/\∃f,nx u=some f/\i∈withL l f:=by
 intro n
 induction n with
 |zero=>simp[Zct]
 |succ n ih=>
  rw[Zdc,List.mem_append,ih]
  constructor
  ·rintro (⟨k,hk,h⟩|h)
   ·exact⟨k,by omega,h⟩
   ·cases hf:nx (n:Int)with
    |none=>rw[hf]at h;cases h
    |some f=>
     rw[hf]at h
     obtain⟨j,hj,e⟩:=List.mem_map.1 h
     injection e with e1 e2
     subst e1 e2
     exact⟨n,by omega,rfl,f,hf,hj⟩
  ·rintro⟨k,hk,rfl,f,hf,hi⟩
   by_cases e:k=n
   ·subst e
    right
    rw[hf]
    exact List.mem_map.2 ⟨i,hi,rfl⟩
   ·exact .inl ⟨k,by omega,rfl,f,hf,hi⟩
abbrev Ends:=List (St × List Ev)
def St.pre:Nat->St->Nat
 |0,_=>1
 |n+1,s=>1+(s.all.map fun t=>St.pre n (s.step t).2.2).sum
def St.runs:Nat->St->List Ev->List (St × List Ev)
 |0,s,row=>[(s,row)]
 |n+1,s,row=>if s.all=[]then [(s,row)]else s.all.flatMap fun t=>St.runs n (s.step t).2.2 (row++[(s.step t).2.1])
theorem pre_pos(n:Nat)(s:St):1<=s.pre n:=by
 cases n with
 |zero=>exact Nat.le_refl _
 |succ n=>unfold St.pre;omega
theorem all_step{s:St}{t:Int}(h:t∈s.all):∃i,s.step t=(0,s.ev t i,s.do_ t i)/\(s.do_ t i).fuel+1=s.fuel:=by
 unfold St.all at h
 have hm:=(List.mem_filter.1 h).2
 rcases s.step_cases t with ⟨i,hi,_,e⟩|⟨e,he,e'⟩
 ·exact⟨i,e,St.fuel_do hi⟩
 ·exfalso
  unfold St.may at hm
  cases hi:s.ins t with
  |none=>rw[hi]at hm;cases hm
  |some i=>
   have:=St.step_may hi (by unfold St.may;exact hm)
   rw[this]at e'
   injection e' with e' _
   omega
theorem Ze1{s:St}{t:Int}(h:t∈s.all):∃e s1,s.step t=(0,e,s1)/\s1.fuel+1=s.fuel:=by
 obtain⟨i,h1,h2⟩:=all_step h
 exact⟨_,_,h1,h2⟩
theorem all_none{s:St}(h:s.fuel=0):s.all=[]:=by
 apply Classical.byContradiction
 intro hn
 obtain⟨t,ht⟩:=List.exists_mem_of_ne_nil _ hn
 obtain⟨_,_,_,h2⟩:=Ze1 ht
 omega
theorem St.all_len(s:St):s.all.length<=s.ts.length:=by
 unfold St.all
 exact Nat.le_trans (List.length_filter_le _ _) (by simp)
theorem Zfn{F:Nat}{s:St}(ok:s.Ok F):s.fuel<=32:=by
 have h:∀l:List Nat,(∀x∈l,x<=8)->l.sum<=8*l.length:=by
  intro l
  induction l with
  |nil=>intro _;simp
  |cons a l ih=>
   intro h
   have h0:=h a (by simp)
   have h1:=ih fun x hx=>h x (by simp[hx])
   simp only[List.sum_cons,List.length_cons]
   omega
 have h1:=h (s.ts.map Thr.fuel) (fun x hx=>by
  obtain⟨y,hy,rfl⟩:=List.mem_map.1 hx
  have:=(ok.thr y hy).2.2
  have:=ok.f8
  omega)
 have h4:=ok.len
 have h5:=ok.right
 unfold Zal at h5
 rw[Bool.and_eq_true,decide_eq_true_eq]at h5
 unfold St.fuel
 rw[List.length_map]at h1
 omega
def preTo(n:Nat)(s:St)(j:Nat):Nat:=((s.all.take j).map fun t=>St.pre n (s.step t).2.2).sum
def Zdz(n:Nat)(s:St)(row:List Ev)(j:Nat):List (St × List Ev):=(s.all.take j).flatMap fun t=>St.runs n (s.step t).2.2 (row++[(s.step t).2.1])
theorem preTo_succ(n:Nat)(s:St){j:Nat}(h:j<s.all.length):preTo n s (j+1)=preTo n s j+St.pre n (s.step s.all[j]).2.2:=by
 unfold preTo
 rw[List.take_succ_eq_append_getElem h,List.map_append,List.sum_append]
 simp
theorem Zlc(n:Nat)(s:St)(row:List Ev){j:Nat}(h:j<s.all.length):Zdz n s row (j+1)=Zdz n s row j++St.runs n (s.step s.all[j]).2.2 (row++[(s.step s.all[j]).2.1]):=by
 unfold Zdz
 rw[List.take_succ_eq_append_getElem h,List.flatMap_append]
 simp
theorem preTo_all(n:Nat)(s:St):St.pre (n+1) s=1+preTo n s s.all.length:=by
 unfold preTo
 rw[List.take_length]
 rfl
theorem runsTo_all(n:Nat)(s:St)(row:List Ev)(h:s.all≠[]):St.runs (n+1) s row=Zdz n s row s.all.length:=by
 unfold Zdz
 rw[List.take_length]
 show(if s.all=[]then _ else _)=_
 rw[if_neg h]
theorem ZeB(n:Nat)(s:St)(row:List Ev)(h:s.all=[]):St.runs n s row=[(s,row)]/\St.pre n s=1:=by
 cases n with
 |zero=>exact⟨rfl,rfl⟩
 |succ n=>
  refine⟨?_,?_⟩
  ·show(if s.all=[]then _ else _)=_
   rw[if_pos h]
  ·unfold St.pre
   rw[h]
   rfl
theorem sum_map_le{T:Type}(l:List T)(f g:T->Nat)(h:∀x∈l,f x<=g x):(l.map f).sum<=(l.map g).sum:=by
 induction l with
 |nil=>simp
 |cons a l ih=>
  have h0:=h a (by simp)
  have h1:=ih fun x hx=>h x (by simp[hx])
  simp only[List.map_cons,List.sum_cons]
  omega
theorem runs_le(n:Nat):∀(s:St) (row:List Ev),(s.runs n row).length<=s.pre n:=by
 induction n with
 |zero=>intro s row;exact Nat.le_refl _
 |succ n ih=>
  intro s row
  show(if s.all=[]then _ else _:List (St × List Ev)).length<=_
  unfold St.pre
  split
  ·simp
  ·rw[List.length_flatMap]
   have:=sum_map_le s.all (fun t=>(St.runs n (s.step t).2.2 (row++[(s.step t).2.1])).length) (fun t=>St.pre n (s.step t).2.2) (fun t _=>ih _ _)
   omega
def s0(p:Pg)(fuel:Int):St:=St.new p fuel.toNat
def okPg(p:Pg)(fuel:Int):Prop:=Zal p=true/\0<=fuel/\fuel<=8
instance (p:Pg) (fuel:Int):Decidable (okPg p fuel):=inferInstanceAs (Decidable (_/\_))
def preW(p:Pg)(fuel:Int):Nat:=(s0 p fuel).pre 33
def runsW(p:Pg)(fuel:Int):List (St × List Ev):=(s0 p fuel).runs 33 []
end Go.Proofs.YtjfmmnhcddckaaaGreat
namespace Go.Proofs.YtjfmmnhcddckaaaGreat
open Go.RowKit
theorem toByte_any(e:Ev)(h:Zay e=true)(w:World):Calls Tryz.prog 189 #[.agg #[.int .i64 e.thread,.int .i64 e.kind,.int .i64 e.obj,.bool e.fail]] w fun r w'=>r=.returned (.int .u8 (evB e))/\Below w.heap.size w w':=by
 have bd:=Zbt h
 clear h
 obtain⟨t,k,o,f⟩:=e
 dsimp only at bd ⊢
 obtain⟨b0,b1,b2,b3,b4,b5⟩:=bd
 unfold evB
 cases f
 ·go_enter Tryz.func189,Tryz.ntmps189
  go_wp2
  go_ret
  refine⟨?_,Zaa _ _⟩
  simp
 ·go_enter Tryz.func189,Tryz.ntmps189
  go_wp2
  go_ret
  refine⟨?_,Zaa _ _⟩
  simp
theorem Zlk(e:Ev)(h:Zay e=true)(w:World):Calls Tryz.prog 184 #[.agg #[.int .i64 e.thread,.int .i64 e.kind,.int .i64 e.obj,.bool e.fail]] w fun r w'=>r=.returned (.int .i64 (evB e))/\Below w.heap.size w w':=by
 have bd:=Zbt h
 clear h
 obtain⟨t,k,o,f⟩:=e
 dsimp only at bd ⊢
 obtain⟨b0,b1,b2,b3,b4,b5⟩:=bd
 unfold evB
 cases f
 ·go_enter Tryz.func184,Tryz.ntmps184
  go_wp2
  go_ret
  refine⟨?_,Zaa _ _⟩
  simp
 ·go_enter Tryz.func184,Tryz.ntmps184
  go_wp2
  go_ret
  refine⟨?_,Zaa _ _⟩
  simp
def bstr(ns:List Int):ByteArray:=⟨(ns.map fun n=>UInt8.ofNat n.toNat).toArray⟩
theorem Zd8(ns:List Int)(s:ByteArray):ns.foldl (fun r n=>r.push (UInt8.ofNat n.toNat)) s=⟨s.data++(ns.map fun n=>UInt8.ofNat n.toNat).toArray⟩:=by
 induction ns generalizing s with
 |nil=>simp
 |cons n ns ih=>
  rw[List.foldl_cons,ih]
  simp[ByteArray.push]
def OwnB(w:World)(B:Nat)(v:Value)(ns:List Int):Prop:=w.ownsRow B 5 1 v ns.length (ns.map (Value.int .u8))
theorem OwnB.alloc{w:World}{B:Nat}{v:Value}{ns:List Int}(h:OwnB w B v ns)(o:Obj):OwnB (w.alloc o) B v ns:=World.ownsRow.alloc h o
theorem OwnB.slice{w:World}{B:Nat}{v:Value}{ns:List Int}(h:OwnB w B v ns)(hn:ns≠[]):∃g cap,v=.slice (some ⟨g,0,none⟩) ns.length cap/\∀j u,(ns.map (Value.int .u8))[j]?=some u->w.cell? (Addr.add ⟨g,0,none⟩ j)=some u:=by
 obtain⟨h1,h2|⟨g,cap,cur,h2,h3,h4,h5,h6,h7,h8⟩⟩:=h
 ·exact absurd (List.eq_nil_of_length_eq_zero h2.2) hn
 ·refine⟨g,cap,h2,?_⟩
  exact World.ownsRow.cells (base:=B) (e:=5) (size:=1) ⟨h1,.inr ⟨g,cap,cur,h2,h3,h4,h5,h6,h7,h8⟩⟩ (by rw[h2];rfl)
theorem Zmp{w:World}{B:Nat}{v:Value}{ns:List Int}(h:OwnB w B v ns)(hn:ns≠[]):(convert 56 9 v).run Tryz.prog w=.ok (.string (bstr ns)) w:=by
 obtain⟨g,cap,rfl,hc⟩:=h.slice hn
 rw[run_convert_bytes_string w _ _ 5 _ _ _ Tryz.underlying56 Tryz.underlying5 Tryz.underlying9]
 have hl:=run_loadCells_list (P:=Tryz.prog) w ⟨g,0,none⟩ (ns.map (Value.int .u8)) hc
 rw[List.length_map]at hl
 rw[run_bytesToString w _ _ _ ns hl,Zd8]
 have e:ByteArray.empty.data=#[]:=rfl
 rw[e,Array.empty_append]
 rfl
theorem Zha(w:World)(ms:List Int)(t:TypeId)(g:Nat)(hg:g=w.heap.size):∀j u,(ms.map (Value.int .u8))[j]?=some u->(w.alloc (.cells (ms.map (Value.int .u8)).toArray t)).cell? (Addr.add ⟨g,0,none⟩ j)=some u:=by
 subst hg
 intro j u hj
 have e:Addr.add ⟨w.heap.size,0,none⟩ j=⟨w.heap.size,j,none⟩:=by
  unfold Addr.add
  split
  ·rename_i h0;subst h0;rfl
  ·simp
 rw[e,World.cell?_alloc_new]
 simpa using hj
theorem Ze3{w:World}{ops:Array Oper}{rest:List Oper}{o:Oper}{a:Act}{Q:Exit->Act->World->Prop}(hgd:o.guard=none)(s x:Operand)
  (ho:o.op=.call { callee:=.builtin .append,args:=#[s,x],argTypes:=#[56,56] }) (B:Nat) (v:Value) (ns:List Int) (hs:a.eval s=v) (hown:OwnB w B v ns)
  (ad:Addr) (m c:Nat) (hx:a.eval x=.slice (some ad) m c) (ms:List Int) (hm:ms.length=m) (hnews:∀j u,(ms.map (Value.int .u8))[j]?=some u->w.cell? (ad.add j)=some u)
  (hlen:ns.length+m<=1000000000) (hB:B<=w.heap.size)
  (h:∀v' w',OwnB w' B v' (ns++ms)->Below B w w'->wpList Tryz.prog ops Q rest (a.put o.dst v') w'):wpList Tryz.prog ops Q (o::rest) a w:=by
 have hinfo:(Tryz.prog.info? 5).map (fun i=>(i.zero,i.size,i.bytes))=some (some (.int .u8 0),1,1):=by kernel_rfl
 obtain⟨i,hi,hzz⟩:=Option.map_eq_some_iff.1 hinfo
 simp only[Prod.mk.injEq]at hzz
 obtain⟨hz,hsz,hby⟩:=hzz
 refine wpList_append_own w hgd s x 56 ho B 5 i (.int .u8 0) 1 1 Tryz.underlying56 hi hz hsz hby rfl (by decide) v ns.length (ns.map (Value.int .u8)) hs hown ad m c (ms.map (Value.int .u8)) hx (by simp[hm]) hnews
  (by intro u hu;obtain⟨y,_,rfl⟩:=List.mem_map.1 hu;rfl) (by unfold maxLen;omega) (by omega) hB ?_
 intro v' w' h1 h2 _
 refine h v' w' ?_ ((Below.refl B w).grown h2 hB (fun k hk=>(World.ownsRow.lt hown k hk).1))
 unfold OwnB
 rw[List.length_append,List.map_append,hm]
 exact h1
def evsOf(s:List UInt8):List Ev:=s.map fun b=>evOf b.toNat
def readOk(s:List UInt8):Bool:=(evsOf s).all Zay
def readE(s:List UInt8):List Ev:=if readOk s then evsOf s else []
theorem set4(pre zs:List Value)(z0 z1 z2 z3 v0 v1 v2 v3:Value)(n:Nat)(hn:n=pre.length):
  ((((pre++z0::z1::z2::z3::zs).set n v0).set (n+1) v1).set (n+2) v2).set (n+3) v3=pre++v0::v1::v2::v3::zs:=by
 subst hn
 rw[List.set_append_right _ _ (by omega),List.set_append_right _ _ (by omega),List.set_append_right _ _ (by omega),List.set_append_right _ _ (by omega)]
 rw[show pre.length-pre.length=0 by omega,show pre.length+1-pre.length=1 by omega,show pre.length+2-pre.length=2 by omega,show pre.length+3-pre.length=3 by omega]
 rfl
end Go.Proofs.YtjfmmnhcddckaaaGreat
