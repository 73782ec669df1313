import Derived.Deep.RegionWith
import Derived.WalkKit
import Derived.BigQuiet
import Derived.BigRegion
import Derived.Deep.RegionLaw
import Derived.Deep.RegionHeld3
import Derived.Test.YtjfmmnhcddckaaaGreatPk01
import Derived.Test.YtjfmmnhcddckaaaGreatPk03
import Derived.Test.YtjfmmnhcddckaaaGreatPk04
import Derived.Test.YtjfmmnhcddckaaaGreatPk04b
set_option maxRecDepth 100000
set_option maxHeartbeats 4000000
namespace Go.Proofs.YtjfmmnhcddckaaaGreat
open Go.RowKit
def totL{α:Type}(n:Nat)(T:Nat->List α):Nat:=((List.range n).map fun j=>(T j).length).sum
theorem ZcS{α:Type}(n:Nat)(T:Nat->List α):totL (n+1) T=totL n T+(T n).length:=by
 simp[totL,List.range_succ]
theorem totL_congr{α:Type}{n:Nat}{T U:Nat->List α}(h:∀j,j<n->(T j).length=(U j).length):totL n T=totL n U:=by
 induction n with
 |zero=>rfl
 |succ n ih=>rw[ZcS,ZcS,ih fun j hj=>h j (by omega),h n (by omega)]
theorem Zmj{α:Type}{n j:Nat}(T:Nat->List α)(l:List α)(hj:j<n):totL n (updF T j l)+(T j).length=totL n T+l.length:=by
 induction n with
 |zero=>omega
 |succ n ih=>
  rw[ZcS,ZcS]
  by_cases e:j=n
  ·subst e
   rw[Zac,totL_congr (U:=T) fun k hk=>by rw[Zad _ _ (by omega)]]
   omega
  ·rw[Zad _ _ (Ne.symm e)]
   have:=ih (by omega)
   omega
theorem Zk6{α:Type}{n j:Nat}(T:Nat->List α)(hj:j<n):(T j).length<=totL n T:=by
 induction n with
 |zero=>omega
 |succ n ih=>
  rw[ZcS]
  by_cases e:j=n
  ·subst e;omega
  ·have:=ih (by omega)
   omega
section
variable{w w':World}{B b g n:Nat}{ids:List Nat}{le:Nat->Let}{nx:Nat->Option Nat}{cx:Nat->Value}{tot:Int}{ls:Nat->List Nat}
def MU(w:World)(B b n:Nat)(S:Nat->Prop)(T:Nat->List Let):Prop:=∃g ids le nx cx ls,MOk w B b g n ids le nx cx (totL n T:Nat) ls/\(∀j,j<n->(ls j).map le=T j)/\∀x,MS b g ids x↔S x
theorem MU.onlyS{S R:Nat->Prop}{T:Nat->List Let}(h:MU w B b n S T)(ho:OnlyS R w w')(hR:∀x,S x->¬R x):MU w' B b n S T:=by
 obtain⟨g,ids,le,nx,cx,ls,q,h1,h2⟩:=h
 exact⟨g,ids,le,nx,cx,ls,q.keep (q.mr.onlyS ho fun x hx=>hR x ((h2 x).1 hx)),h1,h2⟩
theorem MU.later{S:Nat->Prop}{T:Nat->List Let}(h:MU w B b n S T)(hb:Below w.heap.size w w'):MU w' B b n S T:=by
 obtain⟨g,ids,le,nx,cx,ls,q,h1,h2⟩:=h
 exact⟨g,ids,le,nx,cx,ls,q.keep (q.mr.later hb),h1,h2⟩
theorem MU.kinds{S:Nat->Prop}{T:Nat->List Let}(h:MU w B b n S T){x:Nat}(hx:S x):B<=x/\∃c ty,w.heap[x]?=some (.cells c ty (0,0))/\(ty=124∨ty=211∨ty=257):=by
 obtain⟨g,ids,le,nx,cx,ls,q,h1,h2⟩:=h
 exact q.mr.kinds ((h2 x).2 hx)
theorem MU.lt{S:Nat->Prop}{T:Nat->List Let}(h:MU w B b n S T){x:Nat}(hx:S x):x<w.heap.size:=by
 obtain⟨_,c,ty,e,_⟩:=h.kinds hx
 exact(Array.getElem?_eq_some_iff.1 e).1
theorem MU.not_row{S:Nat->Prop}{T:Nat->List Let}(q:MU w B b n S T){g:Nat}{c:Array Value}{ty:TypeId}(h:w.heap[g]?=some (.cells c ty (0,0)))(h1:ty≠124)(h2:ty≠211)(h3:ty≠257):¬S g:=fun hx=>by
 obtain⟨_,c',ty',e,e2⟩:=q.kinds hx
 rw[h]at e;injection e with e;injection e with _ e
 rcases e2 with rfl|rfl|rfl
 ·exact h1 e
 ·exact h2 e
 ·exact h3 e
theorem MU.low{S:Nat->Prop}{T:Nat->List Let}(h:MU w B b n S T):B<=w.heap.size:=by
 obtain⟨g,ids,le,nx,cx,ls,q,h1,h2⟩:=h
 exact q.mr.low
theorem has_yes(q:MOk w B b g n ids le nx cx tot ls){j:Nat}(hj:j<n):Calls Tryz.prog 162 #[.pointer (some ⟨b,0,none⟩),.int .i64 j] w fun r w'=>r=.returned (.bool true)/\w=w':=by
 obtain⟨c0,_⟩:=q.mr.cellB
 have h0:(0:Int)<=(j:Int):=by omega
 have h1:(j:Int)<(n:Int):=by omega
 clear q
 go_enter Tryz.func162,Tryz.ntmps162
 go_wp2
 go_ret
 exact⟨rfl,rfl⟩
theorem mLen_raw(q:MOk w B b g n ids le nx cx tot ls){j:Nat}(hj:j<n):Calls Tryz.prog 123 #[.pointer (some ⟨b,0,none⟩),.int .i64 j] w fun r w'=>r=.returned (.int .i64 (ls j).length)/\w=w':=by
 have HH:=Lib.hid (has_yes q hj)
 obtain⟨c0,_⟩:=q.mr.cellB
 have c1:=q.mr.cellR (p:=j*3+2) (by omega)
 rw[q.count j hj]at c1
 have h1:(j:Int)<(n:Int):=by omega
 clear q
 go_enter Tryz.func123,Tryz.ntmps123
 go_wp2_with fail
 refine HH.out.mono ?_
 rintro r w'⟨rfl,rfl⟩
 go_wp2
 go_ret
 exact⟨rfl,rfl⟩
theorem mLen_any{S:Nat->Prop}{T:Nat->List Let}(h:MU w B b n S T){j:Nat}(hj:j<n):Calls Tryz.prog 123 #[.pointer (some ⟨b,0,none⟩),.int .i64 j] w fun r w'=>r=.returned (.int .i64 (T j).length)/\w=w':=by
 obtain⟨g,ids,le,nx,cx,ls,q,h1,h2⟩:=h
 have:=mLen_raw q hj
 rw[<-h1 j hj,List.length_map]
 exact this
theorem mTotal_any{S:Nat->Prop}{T:Nat->List Let}(h:MU w B b n S T):Calls Tryz.prog 40 #[.pointer (some ⟨b,0,none⟩)] w fun r w'=>r=.returned (.int .i64 (totL n T:Nat))/\w=w':=by
 obtain⟨g,ids,le,nx,cx,ls,q,h1,h2⟩:=h
 obtain⟨_,c1⟩:=q.mr.cellB
 clear q h1 h2
 go_enter Tryz.func40,Tryz.ntmps40
 go_wp2
 go_ret
 exact⟨rfl,rfl⟩
end
section
variable{w w':World}{B b g n:Nat}{ids:List Nat}{le:Nat->Let}{nx:Nat->Option Nat}{cx:Nat->Value}{tot:Int}{ls:Nat->List Nat}{S:Nat->Prop}{T:Nat->List Let}
def SendR(B b n:Nat)(S:Nat->Prop)(T:Nat->List Let)(j:Nat)(l:Let)(w w':World):Prop:=
 ∃S',MU w' B b n S' (updF T j (T j++[l]))/\OnlyS S w w'/\∀y,S' y->S y∨w.heap.size<=y
theorem send_end(q:MOk w B b g n ids le nx cx (totL n T:Nat) ls)(h1:∀j,j<n->(ls j).map le=T j)(h2:∀x,MS b g ids x↔S x){j:Nat}(hj:j<n){l:Let}{u W W':World}(hb:Below u.heap.size u W)(hu:u.heap.size<=W.heap.size)
  (hp:PutR B b g n ids le (totL n T:Nat) ls j l W W'):SendR B b n S T j l u (W'.setCell ⟨b,1,none⟩ (.int .i64 ((totL n T:Nat)+1)))/\W'.cell? ⟨b,1,none⟩=some (.int .i64 (totL n T:Nat))/\W'.frozen? ⟨b,1,none⟩=false:=by
 obtain⟨x,le',nx',cx',hx,q',e1,e2,o⟩:=hp
 obtain⟨m,o2⟩:=q'.mr.storeT ((totL n T:Nat)+1)
 have ht:((totL n T:Nat):Int)+1=(totL n (updF T j (T j++[l])):Nat):=by
  have:=Zmj T (T j++[l]) hj
  rw[List.length_append,List.length_singleton]at this
  omega
 refine⟨⟨MS b g (x::ids),⟨g,x::ids,le',nx',cx',updF ls j (ls j++[x]),?_,fun k hk=>?_,fun _=>Iff.rfl⟩,?_,fun y hy=>?_⟩,q'.mr.cellB.2,q'.mr.frozen (.inl rfl) 1⟩
 ·rw[<-ht]
  exact⟨m,q'.sub,q'.nodup,q'.apart,q'.first,q'.last,q'.count,q'.chain⟩
 ·have hle:∀k,k<n->(ls k).map le'=T k:=fun k hk=>by
   rw[<-h1 k hk]
   exact List.map_congr_left fun y hy=>e2 y (q.sub k hk y hy)
  by_cases e:k=j
  ·subst e
   rw[Zac,Zac,List.map_append,hle k hk,List.map_singleton,e1]
  ·rw[Zad _ _ e,Zad _ _ e,hle k hk]
 ·refine((OnlyS.of_below hb).trans (o.mono fun y _ hy=>(h2 y).1 hy)).thenS o2 fun y hy hq=>?_
  rcases hq with h|h|h
  ·exact(h2 y).1 (.inl h)
  ·exact(h2 y).1 (.inr (.inl h))
  ·rcases List.mem_cons.1 h with rfl|h
   ·omega
   ·exact(h2 y).1 (.inr (.inr h))
 ·rcases hy with h|h|h
  ·exact .inl ((h2 y).1 (.inl h))
  ·exact .inl ((h2 y).1 (.inr (.inl h)))
  ·rcases List.mem_cons.1 h with rfl|h
   ·exact .inr (by omega)
   ·exact .inl ((h2 y).1 (.inr (.inr h)))
theorem mSend_any(h:MU w B b n S T){j:Nat}(hj:j<n)(l:Let)(hk:l.s.length<=281474976710656)(hT:totL n T<100000):
  Calls Tryz.prog 111 #[.pointer (some ⟨b,0,none⟩),.int .i64 j,letV l] w fun r w'=>r=.returned (.int .i64 0)/\SendR B b n S T j l w w':=by
 obtain⟨g,ids,le,nx,cx,ls,q,h1,h2⟩:=h
 have hb1:Below w.heap.size w (w.alloc (.cells #[.string ⟨l.s.toArray⟩,.int .u8 l.set] 146)):=Zaa w _
 have hbx:(w.alloc (.cells #[.string ⟨l.s.toArray⟩,.int .u8 l.set] 146)).heap[w.heap.size]?=some (.cells #[.string ⟨l.s.toArray⟩,.int .u8 l.set] 146 (0,0)):=heap_alloc_new w _
 have HH:=Lib.hid (has_yes (q.keep (q.mr.later hb1)) hj)
 have HC:=Lib.hid (Zg7 l.s (w.alloc (.cells #[.string ⟨l.s.toArray⟩,.int .u8 l.set] 146)) hk)
 have hl1:(ls j).length=(T j).length:=by rw[<-h1 j hj,List.length_map]
 have hl2:=Zk6 T hj
 have HP:Hid (∀W,Below w.heap.size w W->Calls Tryz.prog 163 #[.pointer (some ⟨g,j*3,none⟩),letV l] W fun r w'=>r=.returned (.tuple #[])/\PutR B b g n ids le (totL n T:Nat) ls j l W w'):=fun W hb=>mput_any (q.keep (q.mr.later hb)) hj l (by omega)
 have HB:Hid (∀W,Below w.heap.size w W->W.cell? ⟨b,0,none⟩=some (.slice (some ⟨g,0,none⟩) n n)):=fun W hb=>(q.mr.later hb).cellB.1
 have HE:Hid (∀W W',Below w.heap.size w W->PutR B b g n ids le (totL n T:Nat) ls j l W W'->SendR B b n S T j l w (W'.setCell ⟨b,1,none⟩ (.int .i64 ((totL n T:Nat)+1)))/\W'.cell? ⟨b,1,none⟩=some (.int .i64 (totL n T:Nat))/\W'.frozen? ⟨b,1,none⟩=false):=fun W W' hb hp=>send_end q h1 h2 hj hb hb.size hp
 have hjn:(j:Int)<(n:Int):=by omega
 have HX:=Lib.hid hbx
 have HB1:=Lib.hid hb1
 clear q h1 h2 hl1 hl2 hbx hb1 hk
 generalize totL n T=tt at *
 go_enter Tryz.func111,Tryz.ntmps111
 go_wp2_with fail
 refine HH.out.mono ?_
 rintro r w'⟨rfl,rfl⟩
 have hc0:(w.alloc (.cells #[.string ⟨l.s.toArray⟩,.int .u8 l.set] 146)).cell? ⟨w.heap.size,0,none⟩=some (.string ⟨l.s.toArray⟩):=by rw[cell_of_row _ _ 0 _ _ _ HX.out];rfl
 go_wp2_with fail
 refine HC.out.mono ?_
 rintro r w2⟨rfl,hb2⟩
 have hx2:w2.heap[w.heap.size]?=some (.cells #[.string ⟨l.s.toArray⟩,.int .u8 l.set] 146 (0,0)):=(hb2.block _ (Array.getElem?_eq_some_iff.1 HX.out).1).trans HX.out
 have hx3:=heap_setCell_same w2 w.heap.size 0 _ _ (.string ⟨l.s.toArray⟩) hx2
 have d0:w2.cell? ⟨w.heap.size,0,none⟩=some (.string ⟨l.s.toArray⟩):=by rw[cell_of_row _ _ 0 _ _ _ hx2];rfl
 have f0:w2.frozen? ⟨w.heap.size,0,none⟩=false:=by simp[World.frozen?,hx2]
 have d1:(w2.setCell ⟨w.heap.size,0,none⟩ (.string ⟨l.s.toArray⟩)).cell? ⟨w.heap.size,0,none⟩=some (.string ⟨l.s.toArray⟩):=by rw[cell_of_row _ _ 0 _ _ _ hx3];rfl
 have d2:(w2.setCell ⟨w.heap.size,0,none⟩ (.string ⟨l.s.toArray⟩)).cell? ⟨w.heap.size,1,none⟩=some (.int .u8 l.set):=by rw[cell_of_row _ _ 1 _ _ _ hx3];rfl
 have hb3:Below w.heap.size w (w2.setCell ⟨w.heap.size,0,none⟩ (.string ⟨l.s.toArray⟩)):=(HB1.out.trans (hb2.mono HB1.out.size)).setCell (Nat.le_refl _) _
 have cb:=HB.out _ hb3
 have HPW:=Lib.hid (HP.out _ hb3.drew)
 have HEW:=Lib.hid (fun W'=>HE.out _ W' hb3.drew)
 clear hb2 hx2 hx3 hb3
 go_wp2_with fail
 go_region_with (go_at_call 163;refine HPW.out.mono ?_;rintro r w4⟨rfl,h4⟩;obtain⟨h5,c5,f5⟩:=HEW.out w4 h4;have H5:=Lib.hid h5;clear h4 h5)
 all_goals go_wp2
 all_goals go_ret
 all_goals exact⟨rfl,H5.out⟩
def TookR(B b n:Nat)(S:Nat->Prop)(T:Nat->List Let)(j:Nat)(r:List Let)(w w':World):Prop:=MU w' B b n S (updF T j r)/\OnlyS S w w'
theorem mTake_any(h:MU w B b n S T){j:Nat}(hj:j<n){l:Let}{r:List Let}(hT:T j=l::r)(hlen:totL n T<100000):
  Calls Tryz.prog 77 #[.pointer (some ⟨b,0,none⟩),.int .i64 j] w fun e w'=>e=.returned (.tuple #[letV l,.bool true])/\TookR B b n S T j r w w':=by
 obtain⟨g,ids,le,nx,cx,ls,q,h1,h2⟩:=h
 have hb1:Below w.heap.size w (w.alloc (.cells #[.string ⟨#[]⟩,.int .u8 0] 146)):=Zaa w _
 have hb1n:¬MS b g ids w.heap.size:=fun h=>Nat.lt_irrefl _ (q.mr.lt h)
 have hlj:=h1 j hj
 rw[hT]at hlj
 obtain⟨x,l0,hls,rfl,rfl⟩:=List.map_eq_cons_iff.1 hlj
 have q2:=q.keep (q.mr.later hb1)
 have HL:=Lib.hid (mLen_raw q2 hj)
 rw[hls,List.length_cons]at HL
 have htt:=Zmj T (l0.map le) hj
 rw[hT,List.length_cons]at htt
 obtain⟨t,ht⟩:∃t,totL n T=t+1:=⟨totL n T-1,by have:=Zk6 T hj;rw[hT,List.length_cons]at this;omega⟩
 have hll:l0.length<=t:=by have:=Zk6 T hj;rw[hT,List.length_cons,List.length_map]at this;omega
 have htn:totL n (updF T j (l0.map le))=t:=by omega
 rw[ht]at q2
 have ct:=q2.mr.cellB.2
 have ft:=q2.mr.frozen (.inl rfl) 1
 obtain⟨m3,o3⟩:=q2.mr.storeT (t:Nat)
 have cb:=m3.cellB.1
 have q3:MOk ((w.alloc (.cells #[.string ⟨#[]⟩,.int .u8 0] 146)).setCell ⟨b,1,none⟩ (.int .i64 (t:Nat))) B b g n ids le nx cx (t:Nat) ls:=⟨m3,q2.sub,q2.nodup,q2.apart,q2.first,q2.last,q2.count,q2.chain⟩
 have HT:=Lib.hid (mtake_any q3 hj hls (by omega))
 have hjn:(j:Int)<(n:Int):=by omega
 have hbx:=o3.row (heap_alloc_new w _) hb1n
 have HE:Hid (∀W,TakeM B b g n ids le nx (t:Nat) ls j l0 ((w.alloc (.cells #[.string ⟨#[]⟩,.int .u8 0] 146)).setCell ⟨b,1,none⟩ (.int .i64 (t:Nat))) W->W.heap[w.heap.size]?=some (.cells #[.string ⟨#[]⟩,.int .u8 0] 146 (0,0))/\TookR B b n S T j (l0.map le) w ((W.setCell ⟨w.heap.size,0,none⟩ (.string ⟨(le x).s.toArray⟩)).setCell ⟨w.heap.size,1,none⟩ (.int .u8 (le x).set))):=by
  rintro W⟨cx',q4,o4⟩
  have hbx4:=o4.row hbx hb1n
  refine⟨hbx4,⟨g,ids,le,nx,cx',updF ls j l0,?_,fun k hk=>?_,h2⟩,?_⟩
  ·rw[htn]
   exact q4.keep (q4.mr.onlyS (((OnlyS.refl (fun z=>z=w.heap.size) _).setCell (p:=⟨w.heap.size,0,none⟩) rfl (.string ⟨(le x).s.toArray⟩)).setCell (p:=⟨w.heap.size,1,none⟩) rfl (.int .u8 (le x).set)) fun z hz e=>hb1n (e▸hz))
  ·by_cases e:k=j
   ·subst e;rw[Zac,Zac]
   ·rw[Zad _ _ e,Zad _ _ e,h1 k hk]
  ·exact ZiL ((((OnlyS.of_below hb1).trans o3).trans o4).mono fun y _ hy=>(h2 y).1 hy) (Nat.le_refl _) _ _
 have htl:t<100000:=by omega
 clear q q2 q3 m3 o3 h1 h2 hb1 hb1n hlj hT hbx htt htn hls hll ht hlen
 generalize l0.map le=r0 at *
 generalize l0.length=m at *
 go_enter Tryz.func77,Tryz.ntmps77
 go_wp2_with fail
 refine HL.out.mono ?_
 rintro r w'⟨rfl,rfl⟩
 have hm0:(((m+1:Nat):Int)==0)=false:=by rw[beq_eq_false_iff_ne];omega
 go_wp2_with fail
 refine HT.out.mono ?_
 rintro r w3⟨rfl,h3⟩
 obtain⟨hbx4,hr⟩:=HE.out w3 h3
 obtain⟨x0,y0,x1,y1,r0,r1,_⟩:=Zma hbx4 (.string ⟨(le x).s.toArray⟩) (.int .u8 (le x).set)
 have HR:=Lib.hid hr
 clear h3 hr hbx4
 go_wp2
 refine bodyPost_ret (v:=.tuple #[letV (le x),.bool true]) (by simp[results,Tryz.results77,go_sem,r0,r1]) rfl ?_
 exact⟨rfl,HR.out⟩
theorem take_zero(p:Option Addr)(z:Int)(w:World)(h:Calls Tryz.prog 123 #[.pointer p,.int .i64 z] (w.alloc (.cells #[.string ⟨#[]⟩,.int .u8 0] 146)) fun r w'=>r=.returned (.int .i64 0)/\w.alloc (.cells #[.string ⟨#[]⟩,.int .u8 0] 146)=w'):
  Calls Tryz.prog 77 #[.pointer p,.int .i64 z] w fun e w'=>e=.returned (.tuple #[letV let0,.bool false])/\Below w.heap.size w w':=by
 have HL:=Lib.hid h
 have HB:=Lib.hid (Zaa w (.cells #[.string ⟨#[]⟩,.int .u8 0] 146))
 clear h
 go_enter Tryz.func77,Tryz.ntmps77
 go_wp2_with fail
 refine HL.out.mono ?_
 rintro r w'⟨rfl,rfl⟩
 go_wp2
 refine bodyPost_ret (v:=.tuple #[letV let0,.bool false]) (by simp[results,Tryz.results77,go_sem,let0]) rfl ?_
 exact⟨rfl,HB.out⟩
theorem mTake_none(h:MU w B b n S T){j:Nat}(hj:j<n)(hT:T j=[]):
  Calls Tryz.prog 77 #[.pointer (some ⟨b,0,none⟩),.int .i64 j] w fun e w'=>e=.returned (.tuple #[letV let0,.bool false])/\Below w.heap.size w w':=
 take_zero _ _ w (by have:=mLen_any (h.later (Zaa w (.cells #[.string ⟨#[]⟩,.int .u8 0] 146))) hj;rw[hT]at this;exact this)
def cx0(p:Nat):Value:=if p%3=2 then .int .i64 0 else .pointer none
theorem made_boxes(n:Nat):madeCells #[.pointer none,.pointer none,.int .i64 0] (n*3)=cxA (n*3) cx0:=by
 refine cxA_const _ _ (by simp[madeCells]) fun i hi=>?_
 have h3:i%3=0∨i%3=1∨i%3=2:=by omega
 unfold madeCells cx0
 rw[Array.getElem?_map,Array.getElem?_range,if_pos hi]
 show some (#[Value.pointer none,.pointer none,.int .i64 0][i%3]!)=_
 rcases h3 with h|h|h <;> rw[h] <;> rfl
theorem mNew_any{n:Nat}(h1:1<=n)(h64:n<=64)(w:World):Calls Tryz.prog 34 #[.int .i64 n] w fun r w'=>r=.returned (.tuple #[.pointer (some ⟨w.heap.size+1,0,none⟩),.int .i64 0])/\Below w.heap.size w w'/\∃S,MU w' w.heap.size (w.heap.size+1) n S (fun _=>[])/\∀y,S y->w.heap.size<=y:=by
 have hmk:∀W:World,(Instr.makeSlice 122 (.int .i64 (n:Int)) (.int .i64 (n:Int))).run Tryz.prog W=.ok (.slice (some ⟨W.heap.size,0,none⟩) n n) (W.alloc (.cells (madeCells #[.pointer none,.pointer none,.int .i64 0] (n*3)) 211)):=ZbG (P:=Tryz.prog) 122 211 (.agg #[.pointer none,.pointer none,.int .i64 0]) 3 24 Tryz.underlying122 (by kernel_rfl) n (by omega) (by omega)
 have HM:=Lib.hid (made_boxes n)
 have h1':decide ((n:Int)<1)=false:=decide_eq_false (by omega)
 have h2':decide ((64:Int)<(n:Int))=false:=decide_eq_false (by omega)
 clear h1 h64
 go_enter Tryz.func34,Tryz.ntmps34
 go_wp2
 refine bodyPost_ret (v:=.tuple #[.pointer (some ⟨w.heap.size+1,0,none⟩),.int .i64 0]) (by simp[results,Tryz.results34,go_sem]) rfl ?_
 rw[HM.out]
 refine⟨rfl,Zak w _ _,_,⟨w.heap.size,[],fun _=>let0,fun _=>none,cx0,fun _=>[],⟨?_,(fun j _ x hx=>by cases hx),fun _ _=>List.nodup_nil,(fun j k _ _ _ x hx=>by cases hx),fun j _=>?_,fun j _=>?_,fun j _=>?_,fun j _ i hi=>absurd hi (Nat.not_lt_zero _)⟩,fun _ _=>rfl,fun _=>Iff.rfl⟩,fun y hy=>?_⟩
 ·have ht:totL n (fun _=>([]:List Let))=0:=by
   clear HM hmk h1' h2'
   induction n with
   |zero=>rfl
   |succ n ih=>rw[ZcS,ih];rfl
  have hr:=heap_alloc_new w (.cells (cxA (n*3) cx0) 211)
  have hb:=heap_alloc_new (w.alloc (.cells (cxA (n*3) cx0) 211)) (.cells #[.slice (some ⟨w.heap.size,0,none⟩) n n,.int .i64 0] 124)
  rw[World.size_alloc]at hb
  refine⟨by simp;omega,by omega,Nat.le_refl _,?_,?_,fun x hx=>by cases hx⟩
  ·rw[ht];exact hb
  ·exact((Zaa _ _).block _ (by simp)).trans hr
 ·unfold cx0;rw[if_neg (by omega)];rfl
 ·unfold cx0;rw[if_neg (by omega)];rfl
 ·unfold cx0;rw[if_pos (by omega)];rfl
 ·rcases hy with rfl|rfl|hy
  ·omega
  ·exact Nat.le_refl _
  ·cases hy
end
end Go.Proofs.YtjfmmnhcddckaaaGreat
namespace Go.Proofs.YtjfmmnhcddckaaaGreat
structure Ahd{α:Type}(lt:α->α->Bool):Prop where
 asym:∀a b,lt a b=true->lt b a=false
 trans:∀a b c,lt b a=false->lt c b=false->lt c a=false
section
variable{α:Type}{lt:α->α->Bool}{n:Nat}{f:Nat->α}
def HeapF(lt:α->α->Bool)(n:Nat)(f:Nat->α):Prop:=∀k,1<=k->k<n->lt (f k) (f ((k-1)/2))=false
def UpF(lt:α->α->Bool)(n:Nat)(f:Nat->α)(j:Nat):Prop:=(∀k,1<=k->k<n->k≠j->lt (f k) (f ((k-1)/2))=false)/\(1<=j->∀k,1<=k->k<n->(k-1)/2=j->lt (f k) (f ((j-1)/2))=false)
def HoleF(lt:α->α->Bool)(n:Nat)(f:Nat->α)(i:Nat):Prop:=(∀k,1<=k->k<n->k≠i->(k-1)/2≠i->lt (f k) (f ((k-1)/2))=false)/\(1<=i->∀k,1<=k->k<n->(k-1)/2=i->lt (f k) (f ((i-1)/2))=false)
def swpF(f:Nat->α)(i j:Nat):Nat->α:=fun k=>if k=i then f j else if k=j then f i else f k
theorem Zgm(i j:Nat):swpF f i j i=f j:=by simp[swpF]
theorem Zgl(i j:Nat):swpF f i j j=f i:=by
 unfold swpF
 split
 ·rename_i h;rw[h]
 ·simp
theorem ZbO{i j k:Nat}(h1:k≠i)(h2:k≠j):swpF f i j k=f k:=by simp[swpF,h1,h2]
theorem up_zero(h:UpF lt n f 0):HeapF lt n f:=fun k h1 h2=>h.1 k h1 h2 (by omega)
theorem up_exit{j:Nat}(h:UpF lt n f j)(e:lt (f j) (f ((j-1)/2))=false):HeapF lt n f:=fun k h1 h2=>by
 by_cases hk:k=j
 ·rw[hk];exact e
 ·exact h.1 k h1 h2 hk
theorem up_step(o:Ahd lt){j:Nat}(h:UpF lt n f j)(hj:1<=j)(hn:j<n)(e:lt (f j) (f ((j-1)/2))=true):UpF lt n (swpF f ((j-1)/2) j) ((j-1)/2):=by
 obtain⟨p,hp⟩:∃p,p=(j-1)/2:=⟨_,rfl⟩
 rw[<-hp]at e ⊢
 have hpj:p<j:=by omega
 obtain⟨h1,h2⟩:=h
 have h2:=h2 hj
 rw[<-hp]at h2
 constructor
 ·intro k k1 k2 k3
  by_cases hkj:k=j
  ·subst hkj
   rw[Zgl,<-hp,Zgm]
   exact o.asym _ _ e
  ·rw[ZbO k3 hkj]
   by_cases q1:(k-1)/2=p
   ·rw[q1,Zgm]
    have:=h1 k k1 k2 hkj
    rw[q1]at this
    exact o.trans _ _ _ (o.asym _ _ e) this
   ·by_cases q2:(k-1)/2=j
    ·rw[q2,Zgl]
     exact h2 k k1 k2 q2
    ·rw[ZbO q1 q2]
     exact h1 k k1 k2 hkj
 ·intro p1 k k1 k2 k3
  have hpp:lt (f p) (f ((p-1)/2))=false:=h1 p p1 (by omega) (by omega)
  rw[ZbO (k:=(p-1)/2) (by omega) (by omega)]
  by_cases hkj:k=j
  ·subst hkj
   rw[Zgl]
   exact hpp
  ·rw[ZbO (by omega) hkj]
   have:=h1 k k1 k2 hkj
   rw[k3]at this
   exact o.trans _ _ _ hpp this
theorem Zg1(o:Ahd lt){i c:Nat}(h:HoleF lt n f i)(hc:c=2*i+1∨c=2*i+2)(hn:c<n)(hd:∀d,1<=d->d<n->(d-1)/2=i->lt (f d) (f c)=false)(e:lt (f c) (f i)=true):
  HoleF lt n (swpF f i c) c/\lt (swpF f i c c) (swpF f i c ((c-1)/2))=false:=by
 have hp:(c-1)/2=i:=by omega
 have hic:i<c:=by omega
 obtain⟨h1,h2⟩:=h
 refine⟨⟨?_,?_⟩,?_⟩
 ·intro k k1 k2 k3 k4
  by_cases hki:k=i
  ·subst hki
   rw[Zgm,ZbO (by omega) (by omega)]
   exact h2 k1 c (by omega) hn hp
  ·rw[ZbO hki k3]
   by_cases q:(k-1)/2=i
   ·rw[q,Zgm]
    exact hd k k1 k2 q
   ·rw[ZbO q k4]
    exact h1 k k1 k2 hki q
 ·intro _ k k1 k2 k3
  rw[hp,Zgm,ZbO (by omega) (by omega)]
  have:=h1 k k1 k2 (by omega) (by omega)
  rw[k3]at this
  exact this
 ·rw[hp,Zgl,Zgm]
  exact o.asym _ _ e
theorem ZeX{i:Nat}(h:HoleF lt n f i)(hd:∀d,1<=d->d<n->(d-1)/2=i->lt (f d) (f i)=false):UpF lt n f i:=by
 refine⟨fun k k1 k2 k3=>?_,h.2⟩
 by_cases q:(k-1)/2=i
 ·rw[q];exact hd k k1 k2 q
 ·exact h.1 k k1 k2 k3 q
theorem Zh7(o:Ahd lt){i:Nat}(h:¬ 2*i+2<n∨lt (f (2*i+2)) (f (2*i+1))=false):∀d,1<=d->d<n->(d-1)/2=i->lt (f d) (f (2*i+1))=false:=by
 intro d d1 d2 d3
 obtain rfl|rfl:d=2*i+1∨d=2*i+2:=by omega
 ·cases hb:lt (f (2*i+1)) (f (2*i+1))
  ·rfl
  ·exact(o.asym _ _ hb).symm.trans hb |> fun h=>by cases h
 ·rcases h with h|h
  ·omega
  ·exact h
theorem Zl8(o:Ahd lt){i:Nat}(h:lt (f (2*i+2)) (f (2*i+1))=true):∀d,1<=d->d<n->(d-1)/2=i->lt (f d) (f (2*i+2))=false:=by
 intro d d1 d2 d3
 obtain rfl|rfl:d=2*i+1∨d=2*i+2:=by omega
 ·exact o.asym _ _ h
 ·cases hb:lt (f (2*i+2)) (f (2*i+2))
  ·rfl
  ·exact(o.asym _ _ hb).symm.trans hb |> fun h=>by cases h
theorem heap_top(o:Ahd lt)(h:HeapF lt n f):∀k,k<n->lt (f k) (f 0)=false:=by
 intro k
 induction k using Nat.strongRecOn with
 |ind k ih=>
  intro hk
  by_cases h0:k=0
  ·subst h0
   cases hb:lt (f 0) (f 0)
   ·rfl
   ·exact(o.asym _ _ hb).symm.trans hb |> fun h=>by cases h
  ·have h1:=h k (by omega) hk
   have h2:=ih ((k-1)/2) (by omega) (by omega)
   exact o.trans _ _ _ h2 h1
theorem heap_snoc(h:HeapF lt n f):UpF lt (n+1) f n:=⟨fun k k1 k2 k3=>h k k1 (by omega),fun _ k k1 k2 k3=>by omega⟩
theorem heap_less(h:HeapF lt (n+1) f):HeapF lt n f:=fun k k1 k2=>h k k1 (by omega)
theorem ZkD(o:Ahd lt)(h:HeapF lt (n+1) f){i:Nat}:HoleF lt n (swpF f i n) i:=by
 refine⟨fun k k1 k2 k3 k4=>?_,fun i1 k k1 k2 k3=>?_⟩
 ·rw[ZbO k3 (by omega),ZbO k4 (by omega)]
  exact h k k1 (by omega)
 ·rw[ZbO (by omega) (by omega),ZbO (by omega) (by omega)]
  have a1:=h k k1 (by omega)
  rw[k3]at a1
  exact o.trans _ _ _ (h i i1 (by omega)) a1
theorem ZgP{g:Nat->α}(h:HeapF lt n f)(e:∀k,k<n->f k=g k):HeapF lt n g:=fun k k1 k2=>by rw[<-e k k2,<-e _ (by omega)];exact h k k1 k2
theorem upF_congr{g:Nat->α}{j:Nat}(hj:j<n)(h:UpF lt n f j)(e:∀k,k<n->f k=g k):UpF lt n g j:=
 ⟨fun k k1 k2 k3=>by rw[<-e k k2,<-e _ (by omega)];exact h.1 k k1 k2 k3,fun j1 k k1 k2 k3=>by rw[<-e k k2,<-e _ (by omega)];exact h.2 j1 k k1 k2 k3⟩
theorem ZcA{g:Nat->α}{i:Nat}(hi:i<=n)(h:HoleF lt n f i)(e:∀k,k<n->f k=g k):HoleF lt n g i:=
 ⟨fun k k1 k2 k3 k4=>by rw[<-e k k2,<-e _ (by omega)];exact h.1 k k1 k2 k3 k4,fun i1 k k1 k2 k3=>by rw[<-e k k2,<-e _ (by omega)];exact h.2 i1 k k1 k2 k3⟩
end
def swpL(l:List Nat)(i j:Nat):List Nat:=(l.set i (l.getD j 0)).set j (l.getD i 0)
theorem Zim(l:List Nat)(i j:Nat):(swpL l i j).length=l.length:=by simp[swpL]
theorem swpL_perm{l:List Nat}{i j:Nat}(hi:i<l.length)(hj:j<l.length):(swpL l i j).Perm l:=by
 have h:=Array.swap_perm (xs:=l.toArray) (i:=i) (j:=j) (by simpa using hi) (by simpa using hj)
 rw[List.swap_toArray]at h
 have h2:=Array.perm_iff_toList_perm.1 h
 simpa [swpL,List.getD,hi,hj]using h2
theorem Zba{l:List Nat}{i j:Nat}(hi:i<l.length)(hj:j<l.length)(k:Nat):(swpL l i j).getD k 0=swpF (fun k=>l.getD k 0) i j k:=by
 unfold swpL swpF
 by_cases h1:k=j
 ·subst h1
  by_cases h2:k=i
  ·subst h2;simp[List.getD,hi]
  ·simp[List.getD,hj,h2]
 ·by_cases h2:k=i
  ·subst h2;simp[List.getD,hi,Ne.symm h1]
  ·simp[List.getD,h1,h2,Ne.symm h1,Ne.symm h2]
def Zbm(a b:Txt):Bool:=if a.length=b.length then decide (a<b)else decide (b.length<a.length)
theorem ZbM:Ahd Zbm:=by
 refine⟨fun a b h=>?_,fun a b c h1 h2=>?_⟩
 ·unfold Zbm at *
  by_cases e:a.length=b.length
  ·rw[if_pos e]at h
   rw[if_pos e.symm]
   simp only[decide_eq_true_eq,decide_eq_false_iff_not]at *
   exact fun h'=>List.lt_irrefl _ (List.lt_trans h h')
  ·rw[if_neg e]at h
   rw[if_neg (Ne.symm e)]
   simp only[decide_eq_true_eq,decide_eq_false_iff_not]at *
   omega
 ·unfold Zbm at *
  by_cases e1:b.length=a.length <;> by_cases e2:c.length=b.length
  ·rw[if_pos e1]at h1
   rw[if_pos e2]at h2
   rw[if_pos (e2.trans e1)]
   simp only[decide_eq_false_iff_not]at *
   exact List.not_lt.2 (List.le_trans (List.not_lt.1 h1) (List.not_lt.1 h2))
  ·rw[if_pos e1]at h1
   rw[if_neg e2]at h2
   rw[if_neg (by omega)]
   simp only[decide_eq_false_iff_not]at *
   omega
  ·rw[if_neg e1]at h1
   rw[if_pos e2]at h2
   rw[if_neg (by omega)]
   simp only[decide_eq_false_iff_not]at *
   omega
  ·rw[if_neg e1]at h1
   rw[if_neg e2]at h2
   simp only[decide_eq_false_iff_not]at *
   rw[if_neg (by omega)]
   simp only[decide_eq_false_iff_not]at *
   omega
theorem ZkZ{a b:Txt}(h1:Zbm a b=false)(h2:Zbm b a=false):a=b:=by
 unfold Zbm at *
 by_cases e:a.length=b.length
 ·rw[if_pos e]at h1
  rw[if_pos e.symm]at h2
  simp only[decide_eq_false_iff_not]at *
  exact List.le_antisymm (List.not_lt.1 h2) (List.not_lt.1 h1)
 ·rw[if_neg e]at h1
  rw[if_neg (Ne.symm e)]at h2
  simp only[decide_eq_false_iff_not]at *
  omega
def putT:List Txt->Txt->List Txt
 | [],s=>[s]
 |x::l,s=>if Zbm s x=true then s::x::l else x::putT l s
theorem Zb5(l:List Txt)(s:Txt):(putT l s).Perm (s::l):=by
 induction l with
 |nil=>exact List.Perm.refl _
 |cons x l ih=>
  unfold putT
  split
  ·exact List.Perm.refl _
  ·exact(ih.cons x).trans (List.Perm.swap _ _ _)
def SortT(l:List Txt):Prop:=l.Pairwise fun x y=>Zbm y x=false
theorem Zid(a:Txt):Zbm a a=false:=by
 cases h:Zbm a a
 ·rfl
 ·have:=ZbM.asym _ _ h
  rw[h]at this
  exact this
theorem Zj2{l:List Txt}(h:SortT l)(s:Txt):SortT (putT l s):=by
 induction l with
 |nil=>unfold putT SortT;simp
 |cons x l ih=>
  unfold SortT at h
  rw[List.pairwise_cons]at h
  unfold putT
  split
  ·rename_i e
   unfold SortT
   rw[List.pairwise_cons,List.pairwise_cons]
   refine⟨fun y hy=>?_,h.1,h.2⟩
   rcases List.mem_cons.1 hy with rfl|hy
   ·exact ZbM.asym _ _ e
   ·exact ZbM.trans _ _ _ (ZbM.asym _ _ e) (h.1 y hy)
  ·rename_i e
   unfold SortT
   rw[List.pairwise_cons]
   refine⟨fun y hy=>?_,ih h.2⟩
   have:=(Zb5 l s).subset hy
   rcases List.mem_cons.1 this with rfl|hy
   ·simpa using e
   ·exact h.1 y hy
theorem sort_first{l T':List Txt}{k x:Txt}(h:SortT (x::l))(p:(k::T').Perm (x::l))(hk:∀y∈x::l,Zbm y k=false):k=x/\T'.Perm l:=by
 have hkm:k∈x::l:=p.subset (List.mem_cons_self)
 unfold SortT at h
 rw[List.pairwise_cons]at h
 have h1:Zbm k x=false:=by
  rcases List.mem_cons.1 hkm with rfl|hm
  ·exact Zid _
  ·exact h.1 k hm
 have e:k=x:=ZkZ h1 (hk x (List.mem_cons_self))
 subst e
 exact⟨rfl,p.cons_inv⟩
theorem sort_last{l T':List Txt}{k x:Txt}(h:SortT (l++[x]))(p:(k::T').Perm (l++[x]))(hk:∀y∈l++[x],Zbm k y=false):k=x/\T'.Perm l:=by
 have hkm:k∈l++[x]:=p.subset (List.mem_cons_self)
 unfold SortT at h
 rw[List.pairwise_append]at h
 have h1:Zbm x k=false:=by
  rcases List.mem_append.1 hkm with hm|hm
  ·exact h.2.2 k hm x (by simp)
  ·simp at hm;subst hm;exact Zid _
 have e:k=x:=ZkZ (hk x (by simp)) h1
 subst e
 exact⟨rfl,(p.trans (List.perm_append_singleton _ _)).cons_inv⟩
theorem SortT.tail{l:List Txt}{x:Txt}(h:SortT (x::l)):SortT l:=(List.pairwise_cons.1 h).2
theorem SortT.init{l:List Txt}{x:Txt}(h:SortT (l++[x])):SortT l:=(List.pairwise_append.1 h).1
end Go.Proofs.YtjfmmnhcddckaaaGreat
namespace Go.Proofs.YtjfmmnhcddckaaaGreat
open Go.RowKit
def ltQ(pre:Nat->Txt)(s:Nat)(x y:Nat):Bool:=if s=1 then Zbm (pre y) (pre x)else Zbm (pre x) (pre y)
theorem ZbY(pre:Nat->Txt)(s:Nat):Ahd (ltQ pre s):=by
 unfold ltQ
 by_cases h:s=1
 ·simp only[h,if_true]
  exact⟨fun a b h=>ZbM.asym _ _ h,fun a b c h1 h2=>ZbM.trans _ _ _ h2 h1⟩
 ·simp only[h,if_false]
  exact⟨fun a b h=>ZbM.asym _ _ h,fun a b c h1 h2=>ZbM.trans _ _ _ h1 h2⟩
def ZbS(g:Nat):List Value:=[.pointer (some ⟨g,0,none⟩)]
theorem Zco(g:Nat):(ZbS g).length=1:=rfl
theorem ZhY(g:Nat):∀v∈ZbS g,v.oneCell'=true:=by
 intro v hv
 simp[ZbS]at hv
 subst hv
 rfl
theorem ZgN(l:List Nat):Zaq ZbS l=l.map fun g=>Value.pointer (some ⟨g,0,none⟩):=by
 induction l with
 |nil=>rfl
 |cons a l ih=>show ZbS a++Zaq ZbS l=_;rw[ih];rfl
def itA(pre:Nat->Txt)(pl:Nat->Nat->Int)(x:Nat):Array Value:=#[.string ⟨(pre x).toArray⟩,.int .i64 (pl 0 x),.int .i64 (pl 1 x)]
structure QR(w:World)(B b:Nat)(pre:Nat->Txt)(ids:List Nat)(vs:Nat->Value)(pl:Nat->Nat->Int)(ls:Nat->List Nat):Prop where
 low:B<=w.heap.size
 lowb:B<=b
 box:w.heap[b]?=some (.cells #[vs 0,vs 1] 186 (0,0))
 row:∀s,s<2->Zae w B 278 1 ZbS (vs s) (ls s)
 len:∀s,s<2->(ls s).length<=100000
 apart:∀x,(vs 0).ownBlock=some x->(vs 1).ownBlock=some x->False
 item:∀x∈ids,B<=x/\w.heap[x]?=some (.cells (itA pre pl x) 280 (0,0))
 sub:∀s,s<2->∀x∈ls s,x∈ids
def QS(b:Nat)(ids:List Nat)(vs:Nat->Value)(x:Nat):Prop:=x=b∨(vs 0).ownBlock=some x∨(vs 1).ownBlock=some x∨x∈ids
section
variable{w w':World}{B b:Nat}{pre:Nat->Txt}{ids:List Nat}{vs:Nat->Value}{pl:Nat->Nat->Int}{ls:Nat->List Nat}
theorem two{s:Nat}(h:s<2):s=0∨s=1:=by omega
theorem QS.own{s:Nat}(hs:s<2){x:Nat}(h:(vs s).ownBlock=some x):QS b ids vs x:=by
 rcases two hs with rfl|rfl
 ·exact .inr (.inl h)
 ·exact .inr (.inr (.inl h))
theorem QR.kinds(q:QR w B b pre ids vs pl ls){x:Nat}(hx:QS b ids vs x):B<=x/\∃c ty,w.heap[x]?=some (.cells c ty (0,0))/\(ty=186∨ty=278∨ty=280):=by
 rcases hx with rfl|hx|hx|hx
 ·exact⟨q.lowb,_,_,q.box,.inl rfl⟩
 ·obtain⟨h1,c,h2⟩:=(q.row 0 (by omega)).kindQ hx
  exact⟨h1,c,_,h2,.inr (.inl rfl)⟩
 ·obtain⟨h1,c,h2⟩:=(q.row 1 (by omega)).kindQ hx
  exact⟨h1,c,_,h2,.inr (.inl rfl)⟩
 ·obtain⟨h1,h2⟩:=q.item x hx
  exact⟨h1,_,_,h2,.inr (.inr rfl)⟩
theorem QR.lt(q:QR w B b pre ids vs pl ls){x:Nat}(hx:QS b ids vs x):x<w.heap.size:=by
 obtain⟨_,c,ty,h,_⟩:=q.kinds hx
 exact(Array.getElem?_eq_some_iff.1 h).1
theorem QR.keep(q:QR w B b pre ids vs pl ls)(hz:B<=w'.heap.size)(hk:∀x,QS b ids vs x->w'.heap[x]?=w.heap[x]?):QR w' B b pre ids vs pl ls:=
 ⟨hz,q.lowb,(hk _ (.inl rfl)).trans q.box,fun s hs=>(q.row s hs).keepQ fun g hg=>hk g (.own hs hg),q.len,q.apart,fun x hx=>⟨(q.item x hx).1,(hk x (.inr (.inr (.inr hx)))).trans (q.item x hx).2⟩,q.sub⟩
theorem QR.later(q:QR w B b pre ids vs pl ls)(hb:Below w.heap.size w w'):QR w' B b pre ids vs pl ls:=
 q.keep (Nat.le_trans q.low hb.size) fun x hx=>hb.block x (q.lt hx)
theorem QR.drew(q:QR w B b pre ids vs pl ls):QR w.drew B b pre ids vs pl ls:=q.keep q.low fun _ _=>rfl
theorem QR.onlyS{S:Nat->Prop}(q:QR w B b pre ids vs pl ls)(ho:OnlyS S w w')(hS:∀x,QS b ids vs x->¬S x):QR w' B b pre ids vs pl ls:=
 q.keep (Nat.le_trans q.low ho.size) fun x hx=>ho.block x (q.lt hx) (hS x hx)
theorem QR.cellB(q:QR w B b pre ids vs pl ls){s:Nat}(hs:s<2):w.cell? ⟨b,s,none⟩=some (vs s):=by
 rw[cell_of_row w b s _ _ _ q.box]
 rcases two hs with rfl|rfl <;> rfl
theorem QR.cellI(q:QR w B b pre ids vs pl ls){x:Nat}(hx:x∈ids):w.cell? ⟨x,0,none⟩=some (.string ⟨(pre x).toArray⟩)/\∀s,s<2->w.cell? ⟨x,1+s,none⟩=some (.int .i64 (pl s x)):=
 ⟨by rw[cell_of_row w x 0 _ _ _ (q.item x hx).2];rfl,fun s hs=>by rw[cell_of_row w x _ _ _ _ (q.item x hx).2];rcases two hs with rfl|rfl <;> rfl⟩
theorem QR.cellR(q:QR w B b pre ids vs pl ls){s:Nat}(hs:s<2)(hn:ls s≠[]):∃g cap,vs s=.slice (some ⟨g,0,none⟩) (ls s).length cap/\(vs s).ownBlock=some g/\g<w.heap.size/\w.frozen? ⟨g,0,none⟩=false/\(∀j,w.frozen? ⟨g,j,none⟩=false)/\∀j,j<(ls s).length->w.cell? ⟨g,j,none⟩=some (.pointer (some ⟨(ls s).getD j 0,0,none⟩)):=by
 obtain⟨h1,⟨h2,h3⟩|⟨g,cap,cur,h2,h3,h4,h5,h6,h7,h8⟩⟩:=q.row s hs
 ·exact absurd (List.eq_nil_of_length_eq_zero h3) hn
 ·refine⟨g,cap,h2,by rw[h2];rfl,(Array.getElem?_eq_some_iff.1 h4).1,by simp[World.frozen?,h4],fun j=>by simp[World.frozen?,h4],fun j hj=>?_⟩
  rw[cell_of_row w g j _ _ _ h4]
  rw[ZgN,Nat.mul_one]at h8
  have:(cur.toList.take (ls s).length)[j]?=some (.pointer (some ⟨(ls s).getD j 0,0,none⟩)):=by
   rw[h8];simp[List.getD,hj]
  rw[List.getElem?_take_of_lt hj]at this
  simpa using this
theorem QR.storeR(q:QR w B b pre ids vs pl ls){s:Nat}(hs:s<2){i x g:Nat}(hi:i<(ls s).length)(hx:x∈ids)(hg:(vs s).ownBlock=some g):QR (w.setCell ⟨g,i,none⟩ (.pointer (some ⟨x,0,none⟩))) B b pre ids vs pl (updF ls s ((ls s).set i x))/\OnlyS (QS b ids vs) w (w.setCell ⟨g,i,none⟩ (.pointer (some ⟨x,0,none⟩))):=by
 have hS:QS b ids vs g:=.own hs hg
 have hrow:=q.row s hs
 obtain⟨hgB,c,hc⟩:=hrow.kindQ hg
 have hne:∀y,y≠g->(w.setCell ⟨g,i,none⟩ (.pointer (some ⟨x,0,none⟩))).heap[y]?=w.heap[y]?:=fun y hy=>Below.heap_setCell _ _ _ _ hy
 refine⟨⟨by rw[World.size_setCell];exact q.low,q.lowb,(hne _ ?_).trans q.box,fun t ht=>?_,fun t ht=>?_,q.apart,fun y hy=>⟨(q.item y hy).1,(hne y ?_).trans (q.item y hy).2⟩,fun t ht y hy=>?_⟩,(OnlyS.refl _ _).setCell (p:=⟨g,i,none⟩) hS _⟩
 ·rintro rfl
  have:=q.box
  rw[hc]at this;injection this with this;injection this with _ this;exact absurd this (by decide)
 ·by_cases e:t=s
  ·subst e
   rw[Zac]
   obtain⟨h1,⟨h2,h3⟩|⟨g',cap,cur,h2,h3,h4,h5,h6,h7,h8⟩⟩:=hrow
   ·rw[h2]at hg;simp[Value.ownBlock]at hg
   ·rw[h2]at hg;simp[Value.ownBlock]at hg;subst hg
    refine⟨by rw[Zar Zco],.inr ⟨g',cap,cur.setIfInBounds i (.pointer (some ⟨x,0,none⟩)),by rw[List.length_set];exact h2,h3,?_,by rw[List.length_set];exact h5,h6,by simp[h7],?_⟩⟩
    ·rw[heap_setCell_same w g' i _ _ _ h4]
    ·rw[ZgN]at h8 ⊢
     rw[List.length_set,List.map_set,<-h8,Nat.mul_one,Array.toList_setIfInBounds,List.take_set]
  ·rw[Zad _ _ e]
   refine(q.row t ht).keepQ fun y hy=>hne y ?_
   rintro rfl
   rcases two hs with rfl|rfl <;> rcases two ht with rfl|rfl
   ·exact e rfl
   ·exact q.apart y hg hy
   ·exact q.apart y hy hg
   ·exact e rfl
 ·by_cases e:t=s
  ·subst e;rw[Zac,List.length_set];exact q.len t ht
  ·rw[Zad _ _ e];exact q.len t ht
 ·rintro rfl
  have:=(q.item y hy).2
  rw[hc]at this;injection this with this;injection this with _ this;exact absurd this (by decide)
 ·by_cases e:t=s
  ·subst e
   rw[Zac]at hy
   rcases List.mem_or_eq_of_mem_set hy with h1|rfl
   ·exact q.sub t ht y h1
   ·exact hx
  ·rw[Zad _ _ e]at hy
   exact q.sub t ht y hy
def plPut(pl:Nat->Nat->Int)(s x:Nat)(v:Int):Nat->Nat->Int:=updF pl s (updF (pl s) x v)
theorem QR.storeP(q:QR w B b pre ids vs pl ls){s:Nat}(hs:s<2){x:Nat}(hx:x∈ids)(v:Int):QR (w.setCell ⟨x,1+s,none⟩ (.int .i64 v)) B b pre ids vs (plPut pl s x v) ls/\OnlyS (QS b ids vs) w (w.setCell ⟨x,1+s,none⟩ (.int .i64 v))/\w.frozen? ⟨x,1+s,none⟩=false:=by
 have hxc:=(q.item x hx).2
 have hne:∀y,y≠x->(w.setCell ⟨x,1+s,none⟩ (.int .i64 v)).heap[y]?=w.heap[y]?:=fun y hy=>Below.heap_setCell _ _ _ _ hy
 refine⟨⟨by rw[World.size_setCell];exact q.low,q.lowb,(hne _ ?_).trans q.box,fun t ht=>(q.row t ht).keepQ fun y hy=>hne y ?_,q.len,q.apart,fun y hy=>⟨(q.item y hy).1,?_⟩,q.sub⟩,(OnlyS.refl _ _).setCell (p:=⟨x,1+s,none⟩) (.inr (.inr (.inr hx))) _,by simp[World.frozen?,hxc]⟩
 ·rintro rfl
  have:=q.box
  rw[hxc]at this;injection this with this;injection this with _ this;exact absurd this (by decide)
 ·rintro rfl
  obtain⟨_,c,hc⟩:=(q.row t ht).kindQ hy
  rw[hxc]at hc;injection hc with hc;injection hc with _ hc;exact absurd hc (by decide)
 ·by_cases e:y=x
  ·subst e
   rw[heap_setCell_same w y (1+s) _ _ _ hxc]
   rcases two hs with rfl|rfl <;> simp[itA,plPut,updF]
  ·rw[hne y e,(q.item y hy).2]
   rcases two hs with rfl|rfl <;> simp[itA,plPut,updF,e]
end
theorem ZhV:∀(x y:List UInt8),Op.bytesLess x y=decide (x<y)
 | [],[]=>by rfl
 | [],b::y=>by simp[Op.bytesLess]
 |a::x,[]=>by simp[Op.bytesLess]
 |a::x,b::y=>by
  simp only[Op.bytesLess,ZhV x y]
  by_cases h:a<b <;> by_cases e:a=b <;> simp_all[List.cons_lt_cons_iff]
theorem ZhL(a b:Txt)(w:World):Calls Tryz.prog 248 #[.string ⟨a.toArray⟩,.string ⟨b.toArray⟩] w fun r w'=>r=.returned (.bool (Zbm a b))/\w=w':=by
 have hqa:(⟨a.toArray⟩:ByteArray).size=a.length:=by simp[ByteArray.size]
 have hqb:(⟨b.toArray⟩:ByteArray).size=b.length:=by simp[ByteArray.size]
 by_cases e:a.length=b.length
 ·have HE:Hid (Zbm a b=Op.bytesLess a b):=by show _=_;unfold Zbm;rw[if_pos e,ZhV]
  have q0:((a.length:Int)==b.length)=true:=by simp[e]
  go_enter Tryz.func248,Tryz.ntmps248
  go_wp2
  go_ret
  exact⟨by rw[HE.out];rfl,rfl⟩
 ·have HE:Hid (Zbm a b=decide (b.length<a.length)):=by show _=_;unfold Zbm;rw[if_neg e]
  have q0:((a.length:Int)==b.length)=false:=by simpa using fun h=>e (by omega)
  go_enter Tryz.func248,Tryz.ntmps248
  go_wp2
  go_ret
  exact⟨by rw[HE.out];rfl,rfl⟩
section
variable{w:World}{B b:Nat}{pre:Nat->Txt}{ids:List Nat}{vs:Nat->Value}{pl:Nat->Nat->Int}{ls:Nat->List Nat}
abbrev endV(b s:Nat):Value:=.agg #[.pointer (some ⟨b,0,none⟩),.int .i64 s]
theorem QR.sliceV(q:QR w B b pre ids vs pl ls){s:Nat}(hs:s<2):∃a cap,vs s=.slice a (ls s).length cap:=by
 obtain⟨a,cap,h,_⟩:=(q.row s hs).form Zco (by have:=q.len s hs;omega)
 exact⟨a,cap,h⟩
theorem Zeb(q:QR w B b pre ids vs pl ls){s:Nat}(hs:s<2):Calls Tryz.prog 243 #[endV b s] w fun r w'=>r=.returned (.int .i64 (ls s).length)/\Below w.heap.size w w':=by
 obtain⟨a,cap,hv⟩:=q.sliceV hs
 have hb1:Below w.heap.size w (w.alloc (.cells #[.pointer (some ⟨b,0,none⟩),.int .i64 s] 261)):=Zaa w _
 have c0:=(q.later hb1).cellB hs
 rw[hv]at c0
 have hsi:(s:Int)<2:=by omega
 clear q
 unfold endV
 go_enter Tryz.func243,Tryz.ntmps243
 go_wp2
 go_quiet (fail)
 go_wp2
 go_ret
 exact⟨rfl,hb1.drewN⟩
theorem ZcD(q:QR w B b pre ids vs pl ls){s:Nat}(hs:s<2){i k:Nat}(hi:i<(ls s).length)(hk:k<(ls s).length):Calls Tryz.prog 244 #[endV b s,.int .i64 i,.int .i64 k] w fun r w'=>r=.returned (.bool (ltQ pre s ((ls s).getD i 0) ((ls s).getD k 0)))/\Below w.heap.size w w':=by
 have hne:ls s≠[]:=fun e=>by rw[e]at hi;exact absurd hi (Nat.not_lt_zero _)
 have hb1:Below w.heap.size w (w.alloc (.cells #[.pointer (some ⟨b,0,none⟩),.int .i64 s] 261)):=Zaa w _
 have q1:=q.later hb1
 obtain⟨g,cap,hv,_,_,_,_,hc⟩:=q1.cellR hs hne
 have c0:=q1.cellB hs
 rw[hv]at c0
 have ci:=hc i hi
 have ck:=hc k hk
 have mi:(ls s).getD i 0∈ids:=q.sub s hs _ (by simp[List.getD,hi])
 have mk:(ls s).getD k 0∈ids:=q.sub s hs _ (by simp[List.getD,hk])
 have ti:=(q1.cellI mi).1
 have tk:=(q1.cellI mk).1
 have hii:(i:Int)<(ls s).length:=by omega
 have hkk:(k:Int)<(ls s).length:=by omega
 generalize (ls s).getD i 0=x at *
 generalize (ls s).getD k 0=y at *
 clear q q1 hc hne mi mk
 generalize (ls s).length=n at *
 have hsi:(s:Int)<2:=by omega
 have hse:(w.alloc (.cells #[.pointer (some ⟨b,0,none⟩),.int .i64 s] 261)).cell? ⟨w.heap.size,1,none⟩=some (.int .i64 s):=by simp
 by_cases h1:s=1
 case neg=>
  have HE:Hid (ltQ pre s x y=Zbm (pre x) (pre y)):=by show _=_;unfold ltQ;rw[if_neg h1]
  have q0:((s:Int)==1)=false:=by simpa using fun h=>h1 (by omega)
  clear h1
  unfold endV
  go_enter Tryz.func244,Tryz.ntmps244
  go_wp2
  go_quiet (fail)
  obtain⟨W2,hW2⟩:∃W2,W2=(w.alloc (.cells #[.pointer (some ⟨b,0,none⟩),.int .i64 s] 261)).drewN nq:=⟨_,rfl⟩
  have hb2:Below w.heap.size w W2:=by rw[hW2];exact hb1.drewN
  have hwc:∀a v,(w.alloc (.cells #[.pointer (some ⟨b,0,none⟩),.int .i64 s] 261)).cell? a=some v->W2.cell? a=some v:=fun a v h=>by rw[hW2];exact h
  replace ci:=hwc _ _ ci
  replace ck:=hwc _ _ ck
  replace ti:=hwc _ _ ti
  replace tk:=hwc _ _ tk
  replace hse:=hwc _ _ hse
  rw[<-hW2]
  clear hW2 hb1 c0 hwc
  go_wp2
  go_quiet ((go_at_call 248;exact Calls.quiet_of_same ((ZhL (pre x) (pre y) _).mono fun _ _ ⟨h1,h2⟩=>⟨h1,h2.symm⟩)))
  go_wp2
  go_ret
  exact⟨by rw[HE.out];rfl,hb2.drewN⟩
 case pos=>
  have HE:Hid (ltQ pre s x y=Zbm (pre y) (pre x)):=by show _=_;unfold ltQ;rw[if_pos h1]
  have q0:((s:Int)==1)=true:=by simp[h1]
  clear h1
  unfold endV
  go_enter Tryz.func244,Tryz.ntmps244
  go_wp2
  go_quiet (fail)
  obtain⟨W2,hW2⟩:∃W2,W2=(w.alloc (.cells #[.pointer (some ⟨b,0,none⟩),.int .i64 s] 261)).drewN nq:=⟨_,rfl⟩
  have hb2:Below w.heap.size w W2:=by rw[hW2];exact hb1.drewN
  have hwc:∀a v,(w.alloc (.cells #[.pointer (some ⟨b,0,none⟩),.int .i64 s] 261)).cell? a=some v->W2.cell? a=some v:=fun a v h=>by rw[hW2];exact h
  replace ci:=hwc _ _ ci
  replace ck:=hwc _ _ ck
  replace ti:=hwc _ _ ti
  replace tk:=hwc _ _ tk
  replace hse:=hwc _ _ hse
  rw[<-hW2]
  clear hW2 hb1 c0 hwc
  go_wp2
  go_quiet ((go_at_call 248;exact Calls.quiet_of_same ((ZhL (pre y) (pre x) _).mono fun _ _ ⟨h1,h2⟩=>⟨h1,h2.symm⟩)))
  go_wp2
  go_ret
  exact⟨by rw[HE.out];rfl,hb2.drewN⟩
end
section
variable{w:World}{B b:Nat}{pre:Nat->Txt}{ids:List Nat}{vs:Nat->Value}{pl:Nat->Nat->Int}{ls:Nat->List Nat}
theorem ZgW(q:QR w B b pre ids vs pl ls){x:Nat}(hx:x∈ids)(j:Nat):w.frozen? ⟨x,j,none⟩=false:=by simp[World.frozen?,(q.item x hx).2]
theorem QR.swap(q:QR w B b pre ids vs pl ls){s:Nat}(hs:s<2){i k g:Nat}(hi:i<(ls s).length)(hk:k<(ls s).length)(hg:(vs s).ownBlock=some g):
  QR ((w.setCell ⟨g,i,none⟩ (.pointer (some ⟨(ls s).getD k 0,0,none⟩))).setCell ⟨g,k,none⟩ (.pointer (some ⟨(ls s).getD i 0,0,none⟩))) B b pre ids vs pl (updF ls s (swpL (ls s) i k)) /\
  OnlyS (QS b ids vs) w ((w.setCell ⟨g,i,none⟩ (.pointer (some ⟨(ls s).getD k 0,0,none⟩))).setCell ⟨g,k,none⟩ (.pointer (some ⟨(ls s).getD i 0,0,none⟩))):=by
 have mi:(ls s).getD i 0∈ids:=q.sub s hs _ (by simp[List.getD,hi])
 have mk:(ls s).getD k 0∈ids:=q.sub s hs _ (by simp[List.getD,hk])
 obtain⟨q1,o1⟩:=q.storeR hs hi mk hg
 obtain⟨q2,o2⟩:=q1.storeR hs (i:=k) (x:=(ls s).getD i 0) (g:=g) (by rw[Zac,List.length_set];exact hk) mi hg
 rw[Zac,Zex]at q2
 exact⟨q2,o1.trans o2⟩
theorem QR.not_other(q:QR w B b pre ids vs pl ls){x:Nat}{c:Array Value}{ty:TypeId}(h:w.heap[x]?=some (.cells c ty (0,0)))(h1:ty≠186)(h2:ty≠278)(h3:ty≠280):¬QS b ids vs x:=fun hx=>by
 obtain⟨_,c',ty',e,e2⟩:=q.kinds hx
 rw[h]at e;injection e with e;injection e with _ e
 rcases e2 with rfl|rfl|rfl
 ·exact h1 e
 ·exact h2 e
 ·exact h3 e
theorem QR.row_item(q:QR w B b pre ids vs pl ls){s:Nat}(hs:s<2){g y:Nat}(hg:(vs s).ownBlock=some g)(hy:y∈ids):g≠y:=by
 rintro rfl
 obtain⟨_,c,hc⟩:=(q.row s hs).kindQ hg
 have:=(q.item g hy).2
 rw[hc]at this;injection this with this;injection this with _ this;exact absurd this (by decide)
theorem ZbZ(q:QR w B b pre ids vs pl ls){s:Nat}(hs:s<2){i k:Nat}(hi:i<(ls s).length)(hk:k<(ls s).length):Calls Tryz.prog 247 #[endV b s,.int .i64 i,.int .i64 k] w fun r w'=>r=.returned (.tuple #[])/\QR w' B b pre ids vs (plPut (plPut pl s ((ls s).getD k 0) i) s ((ls s).getD i 0) k) (updF ls s (swpL (ls s) i k))/\OnlyS (QS b ids vs) w w':=by
 have hne:ls s≠[]:=fun e=>by rw[e]at hi;exact absurd hi (Nat.not_lt_zero _)
 have hb1:Below w.heap.size w (w.alloc (.cells #[.pointer (some ⟨b,0,none⟩),.int .i64 s] 261)):=Zaa w _
 have q1:=q.later hb1
 have hse:(w.alloc (.cells #[.pointer (some ⟨b,0,none⟩),.int .i64 s] 261)).cell? ⟨w.heap.size,1,none⟩=some (.int .i64 s):=by simp
 obtain⟨g,cap,hv,hg,hgl,_,hf,hc⟩:=q1.cellR hs hne
 have c0:=q1.cellB hs
 rw[hv]at c0
 have ci:=hc i hi
 have ck:=hc k hk
 have mi:(ls s).getD i 0∈ids:=q.sub s hs _ (by simp[List.getD,hi])
 have mk:(ls s).getD k 0∈ids:=q.sub s hs _ (by simp[List.getD,hk])
 have hii:(i:Int)<(ls s).length:=by omega
 have hkk:(k:Int)<(ls s).length:=by omega
 have hsi:(s:Int)<2:=by omega
 have fi:=hf i
 have fk:=hf k
 obtain⟨_,cw,hgw⟩:=(q1.row s hs).kindQ hg
 have hsz:i<cw.size/\k<cw.size:=by
  rw[cell_of_row _ g i _ _ _ hgw]at ci
  rw[cell_of_row _ g k _ _ _ hgw]at ck
  exact⟨(Array.getElem?_eq_some_iff.1 ci).1,(Array.getElem?_eq_some_iff.1 ck).1⟩
 have hgn:∀n,((w.alloc (.cells #[.pointer (some ⟨b,0,none⟩),.int .i64 s] 261)).drewN n).heap[g]?=some (.cells cw 278 (0,0)):=fun n=>hgw
 have hck2:∀n,(((w.alloc (.cells #[.pointer (some ⟨b,0,none⟩),.int .i64 s] 261)).drewN n).setCell ⟨g,i,none⟩ (.pointer (some ⟨(ls s).getD k 0,0,none⟩))).cell? ⟨g,k,none⟩=some (.pointer (some ⟨(ls s).getD k 0,0,none⟩)):=fun n=>by
  by_cases e:k=i
  ·subst e;exact ZdY _ g k _ (hgn n) hsz.1
  ·exact(ZhC _ g i k _ (hgn n) e).trans ck
 have HSW:=Lib.hid (fun W (qW:QR W B b pre ids vs pl ls)=>qW.swap hs hi hk hg)
 have HGW:Hid (∀n,((((w.alloc (.cells #[.pointer (some ⟨b,0,none⟩),.int .i64 s] 261)).drewN n).setCell ⟨g,i,none⟩ (.pointer (some ⟨(ls s).getD k 0,0,none⟩))).setCell ⟨g,k,none⟩ (.pointer (some ⟨(ls s).getD i 0,0,none⟩))).cell? ⟨g,i,none⟩=some (.pointer (some ⟨(ls s).getD k 0,0,none⟩))/\((((w.alloc (.cells #[.pointer (some ⟨b,0,none⟩),.int .i64 s] 261)).drewN n).setCell ⟨g,i,none⟩ (.pointer (some ⟨(ls s).getD k 0,0,none⟩))).setCell ⟨g,k,none⟩ (.pointer (some ⟨(ls s).getD i 0,0,none⟩))).cell? ⟨g,k,none⟩=some (.pointer (some ⟨(ls s).getD i 0,0,none⟩))):=fun n=>by
  have h2:=heap_setCell_same _ g i _ _ (.pointer (some ⟨(ls s).getD k 0,0,none⟩)) (hgn n)
  refine⟨?_,ZdY _ g k _ h2 (by simp[hsz.2])⟩
  by_cases e:i=k
  ·subst e;exact ZdY _ g i _ h2 (by simp[hsz.2])
  ·exact(ZhC _ g k i _ h2 e).trans (ZdY _ g i _ (hgn n) hsz.1)
 have Q1:=Lib.hid q1
 have HEB:Hid ((w.alloc (.cells #[.pointer (some ⟨b,0,none⟩),.int .i64 s] 261)).heap[w.heap.size]?=some (.cells #[.pointer (some ⟨b,0,none⟩),.int .i64 s] 261 (0,0))):=heap_alloc_new w _
 generalize (ls s).getD i 0=x at *
 generalize (ls s).getD k 0=y at *
 unfold endV
 clear q hc hne hf q1 hgw hsz hgn
 go_enter Tryz.func247,Tryz.ntmps247
 go_wp2
 go_quiet (fail)
 go_wp2_with fail
 go_region
 obtain⟨q3,o3⟩:=HSW.out ((w.alloc (.cells #[.pointer (some ⟨b,0,none⟩),.int .i64 s] 261)).drewN (nq+1)) (Q1.out.keep Q1.out.low fun _ _=>rfl)
 obtain⟨hgi,hgk⟩:=HGW.out (nq+1)
 have o3':OnlyS (QS b ids vs) w _:=OnlyS.trans (OnlyS.of_below (hb1.drewN (n:=nq+1))) o3
 have hEN:=Q1.out.not_other HEB.out (by decide) (by decide) (by decide)
 have hs3:=o3.cell (a:=⟨w.heap.size,1,none⟩) (v:=.int .i64 s) hse hEN
 clear hse ci ck fi fk c0 hck2 HSW HGW HEB o3 hb1 Q1
 generalize ((((w.alloc (.cells #[.pointer (some ⟨b,0,none⟩),.int .i64 s] 261)).drewN (nq+1)).setCell ⟨g,i,none⟩ (.pointer (some ⟨y,0,none⟩))).setCell ⟨g,k,none⟩ (.pointer (some ⟨x,0,none⟩)))=W3 at *
 have hgy:=q3.row_item hs hg mk
 have hgx:=q3.row_item hs hg mi
 obtain⟨q4,o4,f4⟩:=q3.storeP hs mk i
 have cy:=(q3.cellI mk).2 s hs
 have hey:w.heap.size≠y:=fun e=>hEN (.inr (.inr (.inr (e▸mk))))
 have hex:w.heap.size≠x:=fun e=>hEN (.inr (.inr (.inr (e▸mi))))
 have hs4:(W3.setCell ⟨y,1+s,none⟩ (.int .i64 i)).drew.cell? ⟨w.heap.size,1,none⟩=some (.int .i64 s):=(Zbo _ hey _ _ _).trans hs3
 have hg4:(W3.setCell ⟨y,1+s,none⟩ (.int .i64 i)).drew.cell? ⟨g,k,none⟩=some (.pointer (some ⟨x,0,none⟩)):=(Zbo _ hgy _ _ _).trans hgk
 have Q4:Hid (QR (W3.setCell ⟨y,1+s,none⟩ (.int .i64 i)).drew B b pre ids vs (plPut pl s y i) (updF ls s (swpL (ls s) i k))):=q4.keep q4.low fun _ _=>rfl
 have O4:Hid (OnlyS (QS b ids vs) w (W3.setCell ⟨y,1+s,none⟩ (.int .i64 i)).drew):=⟨(o3'.trans o4).os,(o3'.trans o4).tape,(o3'.trans o4).output,(o3'.trans o4).size,(o3'.trans o4).block⟩
 clear q3 q4 o3' o4
 go_wp2_with fail
 go_region
 clear hgi hs3 hgk cy f4
 generalize (W3.setCell ⟨y,1+s,none⟩ (.int .i64 i)).drew=W4 at *
 obtain⟨q5,o5,f5⟩:=Q4.out.storeP hs mi k
 have cx:=(Q4.out.cellI mi).2 s hs
 have Q5:Hid (QR (W4.setCell ⟨x,1+s,none⟩ (.int .i64 k)).drew B b pre ids vs (plPut (plPut pl s y i) s x k) (updF ls s (swpL (ls s) i k))):=q5.keep q5.low fun _ _=>rfl
 have O5:Hid (OnlyS (QS b ids vs) w (W4.setCell ⟨x,1+s,none⟩ (.int .i64 k)).drew):=⟨(O4.out.trans o5).os,(O4.out.trans o5).tape,(O4.out.trans o5).output,(O4.out.trans o5).size,(O4.out.trans o5).block⟩
 clear q5 o5 Q4 O4
 go_wp2_with fail
 go_region
 go_wp2
 refine bodyPost_end (results_none rfl _ _ _) rfl ⟨rfl,Q5.out,O5.out⟩
end
def PosOk(p:Nat->Int)(l:List Nat):Prop:=∀j,j<l.length->p (l.getD j 0)=j
structure MvR(B b:Nat)(pre:Nat->Txt)(ids:List Nat)(vs:Nat->Value)(pl:Nat->Nat->Int)(ls:Nat->List Nat)(s n:Nat)(w:World)(pl':Nat->Nat->Int)(l':List Nat)(w':World):Prop where
 qr:QR w' B b pre ids vs pl' (updF ls s l')
 perm:l'.Perm (ls s)
 pos:PosOk (pl' s) l'
 oth:∀t,t≠s->pl' t=pl t
 rest:∀k,n<=k->l'.getD k 0=(ls s).getD k 0
 only:OnlyS (QS b ids vs) w w'
theorem Zi3{l:List Nat}(h:l.Nodup){i j:Nat}(hi:i<l.length)(hj:j<l.length)(e:l.getD i 0=l.getD j 0):i=j:=by
 simp only[List.getD,List.getElem?_eq_getElem hi,List.getElem?_eq_getElem hj,Option.getD_some]at e
 exact(List.getElem_inj h).1 e
section
variable{w w' w'':World}{B b:Nat}{pre:Nat->Txt}{ids:List Nat}{vs:Nat->Value}{pl pl':Nat->Nat->Int}{ls:Nat->List Nat}{s n:Nat}{l':List Nat}
theorem MvR.refl(q:QR w B b pre ids vs pl ls)(hp:PosOk (pl s) (ls s)):MvR B b pre ids vs pl ls s n w pl (ls s) w:=
 ⟨by rw[Zih];exact q,List.Perm.refl _,hp,fun _ _=>rfl,fun _ _=>rfl,OnlyS.refl _ _⟩
theorem MvR.later(m:MvR B b pre ids vs pl ls s n w pl' l' w')(hb:Below w'.heap.size w' w''):MvR B b pre ids vs pl ls s n w pl' l' w'':=
 ⟨m.qr.later hb,m.perm,m.pos,m.oth,m.rest,m.only.trans (OnlyS.of_below hb)⟩
theorem MvR.nodup(m:MvR B b pre ids vs pl ls s n w pl' l' w')(h:(ls s).Nodup):l'.Nodup:=m.perm.nodup_iff.2 h
theorem MvR.len(m:MvR B b pre ids vs pl ls s n w pl' l' w'):l'.length=(ls s).length:=m.perm.length_eq
theorem MvR.swap(m:MvR B b pre ids vs pl ls s n w pl' l' w')(_hs:s<2)(hd:(ls s).Nodup){i k:Nat}(hi:i<l'.length)(hk:k<l'.length)(hin:i<n)(hkn:k<n)
  (q:QR w'' B b pre ids vs (plPut (plPut pl' s (l'.getD k 0) i) s (l'.getD i 0) k) (updF (updF ls s l') s (swpL l' i k))) (o:OnlyS (QS b ids vs) w' w''):
  MvR B b pre ids vs pl ls s n w (plPut (plPut pl' s (l'.getD k 0) i) s (l'.getD i 0) k) (swpL l' i k) w'':=by
 rw[Zex]at q
 have hd':=m.nodup hd
 refine⟨q,(swpL_perm hi hk).trans m.perm,fun j hj=>?_,fun t ht=>?_,fun j hj=>?_,m.only.trans o⟩
 ·rw[Zim]at hj
  rw[Zba hi hk]
  unfold plPut
  rw[Zac,Zac]
  by_cases e1:j=i
  ·subst e1
   rw[Zgm]
   by_cases e2:l'.getD k 0=l'.getD j 0
   ·have:=Zi3 hd' hk hj e2
    rw[e2,Zac,this]
   ·rw[Zad _ _ e2,Zac]
  ·by_cases e2:j=k
   ·subst e2
    rw[Zgl,Zac]
   ·rw[ZbO e1 e2,Zad _ _ (fun e=>e1 (Zi3 hd' hj hi e)),Zad _ _ (fun e=>e2 (Zi3 hd' hj hk e))]
    exact m.pos j hj
 ·unfold plPut
  rw[Zad _ _ ht,Zad _ _ ht]
  exact m.oth t ht
 ·rw[Zba hi hk,ZbO (by omega) (by omega)]
  exact m.rest j hj
abbrev endI(b s:Nat):Value:=.iface 261 (endV b s)
theorem ZiO(b s N:Nat)(w:World)(h:0<N):Sem.run Tryz.prog (method N 261 (endV b s) "Len") w=.ok (243,endV b s) w:=by
 cases N with
 |zero=>omega
 |succ N=>kernel_rfl
theorem Zki(b s N:Nat)(w:World)(h:0<N):Sem.run Tryz.prog (method N 261 (endV b s) "Less") w=.ok (244,endV b s) w:=by
 cases N with
 |zero=>omega
 |succ N=>kernel_rfl
theorem ZeI(b s N:Nat)(w:World)(h:0<N):Sem.run Tryz.prog (method N 261 (endV b s) "Swap") w=.ok (247,endV b s) w:=by
 cases N with
 |zero=>omega
 |succ N=>kernel_rfl
theorem meth_push(b s N:Nat)(w:World)(h:0<N):Sem.run Tryz.prog (method N 261 (endV b s) "Push") w=.ok (246,endV b s) w:=by
 cases N with
 |zero=>omega
 |succ N=>kernel_rfl
theorem meth_pop(b s N:Nat)(w:World)(h:0<N):Sem.run Tryz.prog (method N 261 (endV b s) "Pop") w=.ok (245,endV b s) w:=by
 cases N with
 |zero=>omega
 |succ N=>kernel_rfl
theorem up_any(q:QR w B b pre ids vs pl ls)(hs:s<2)(hd:(ls s).Nodup)(hp:PosOk (pl s) (ls s))(hn:n<=(ls s).length){j:Nat}(hj:j<n)(hu:UpF (ltQ pre s) n (fun k=>(ls s).getD k 0) j):
  Calls Tryz.prog 213 #[endI b s,.int .i64 j] w fun r w'=>r=.returned (.tuple #[])/\∃pl' l',MvR B b pre ids vs pl ls s n w pl' l' w'/\HeapF (ltQ pre s) n (fun k=>l'.getD k 0):=by
 have HM0:Hid (MvR B b pre ids vs pl ls s n w pl (ls s) w):=MvR.refl q hp
 have HU0:=Lib.hid hu
 have hlen:=q.len s hs
 have HD:=Lib.hid hd
 have hml:=Zki b s
 have hms:=ZeI b s
 clear q hp hu hd
 go_enter Tryz.func213,Tryz.ntmps213
 go_wp2_with fail
 go_loopw [1,4] (fun tj ti wr=>∃(k:Nat) (pl':Nat->Nat->Int) (l':List Nat),k<n/\tj=.int .i64 k/\Hid (MvR B b pre ids vs pl ls s n w pl' l' wr)/\Hid (UpF (ltQ pre s) n (fun k=>l'.getD k 0) k)) (fun tj ti _=>(intOf tj).toNat)
 case atStart=>exact⟨j,pl,ls s,hj,rfl,HM0,HU0⟩
 case round=>
  clear HM0 HU0
  obtain⟨k,pl',l',hk,rfl,HM,HU⟩:=hrel
  have hkl:k<l'.length:=by rw[HM.out.len];omega
  obtain⟨p,hpe⟩:∃p,p=(k-1)/2:=⟨_,rfl⟩
  have hdiv:((k:Int)-1).tdiv 2=(p:Nat):=by
   subst hpe
   by_cases h0:k=0
   ·subst h0;decide
   ·rw[Int.tdiv_eq_ediv_of_nonneg (by omega)];omega
  have hdw:IntKind.i64.wrap (p:Int)=p:=IntWalk.i64_in _ (by omega)
  by_cases h0:k=0
  ·subst h0
   obtain rfl:p=0:=by omega
   have HH:=Lib.hid (up_zero HU.out)
   clear hpe
   go_wp2
   refine bodyPost_end (results_none rfl _ _ _) rfl ⟨rfl,pl',l',HM.out,HH.out⟩
  ·have hpk:p<k:=by omega
   have hpl:p<l'.length:=by omega
   have q0:((p:Int)==(k:Int))=false:=by rw[beq_eq_false_iff_ne];omega
   have HL:=Lib.hid (ZcD HM.out.qr hs (i:=k) (k:=p) (by rw[Zac];exact hkl) (by rw[Zac];exact hpl))
   rw[Zac]at HL
   clear h0
   have HPE:=Lib.hid hpe
   clear hpe
   go_wp2_with fail
   refine HL.out.mono ?_
   rintro r w2⟨rfl,hb2⟩
   cases hq:ltQ pre s (l'.getD k 0) (l'.getD p 0)
   ·have HH:Hid (HeapF (ltQ pre s) n (fun k=>l'.getD k 0)):=up_exit HU.out (by rw[<-HPE.out];exact hq)
    have HM2:=Lib.hid (HM.out.later hb2)
    clear hq
    go_wp2
    refine bodyPost_end (results_none rfl _ _ _) rfl ⟨rfl,pl',l',HM2.out,HH.out⟩
   ·have HM2:=Lib.hid (HM.out.later hb2)
    have HS:=Lib.hid (ZbZ HM2.out.qr hs (i:=p) (k:=k) (by rw[Zac];exact hpl) (by rw[Zac];exact hkl))
    rw[Zac]at HS
    have HU2:Hid (UpF (ltQ pre s) n (fun x=>(swpL l' p k).getD x 0) p):=by
     have h:=up_step (ZbY pre s) HU.out (by omega) hk (by rw[<-HPE.out];exact hq)
     rw[<-HPE.out]at h
     exact upF_congr (by omega) h fun x _=>(Zba hpl hkl x).symm
    have HMS:=Lib.hid (fun w3 q3 o3=>HM2.out.swap (w'':=w3) hs HD.out hpl hkl (by omega) hk q3 o3)
    clear hq
    go_wp2_with fail
    refine HS.out.mono ?_
    rintro r w3⟨rfl,q3,o3⟩
    have HM3:=Lib.hid (HMS.out w3 q3 o3)
    clear q3 o3
    go_wp2_with fail
    go_roundw
    case rel=>exact⟨p,_,_,by omega,rfl,HM3,HU2⟩
    case measure=>simp[intOf];omega
end
section
variable{w w' w'':World}{B b:Nat}{pre:Nat->Txt}{ids:List Nat}{vs:Nat->Value}{pl pl':Nat->Nat->Int}{ls:Nat->List Nat}{s n i0:Nat}{l':List Nat}
def DownR(B b:Nat)(pre:Nat->Txt)(ids:List Nat)(vs:Nat->Value)(pl:Nat->Nat->Int)(ls:Nat->List Nat)(s n i0:Nat)(w:World)(r:Ending)(w':World):Prop:=
 ∃d pl' l',r=.returned (.bool d)/\MvR B b pre ids vs pl ls s n w pl' l' w'/\(d=true->HeapF (ltQ pre s) n fun k=>l'.getD k 0)/\(d=false->UpF (ltQ pre s) n (fun k=>l'.getD k 0) i0)
theorem Zf9{k:Nat}(hk:i0<=k)(m:MvR B b pre ids vs pl ls s n w pl' l' w')(hu:UpF (ltQ pre s) n (fun x=>l'.getD x 0) k)(h:i0<k->1<=k->ltQ pre s (l'.getD k 0) (l'.getD ((k-1)/2) 0)=false):DownR B b pre ids vs pl ls s n i0 w (.returned (.bool (decide (i0<k)))) w':=by
 refine⟨_,pl',l',rfl,m,fun hd=>?_,fun hd=>?_⟩
 ·have hd:i0<k:=by simpa using hd
  exact up_exit hu (h hd (by omega))
 ·have hd:¬i0<k:=by simpa using hd
  obtain rfl:k=i0:=by omega
  exact hu
theorem down_any(q:QR w B b pre ids vs pl ls)(hs:s<2)(hd:(ls s).Nodup)(hp:PosOk (pl s) (ls s))(hn:n<=(ls s).length)(hj:i0<=n)(hu:HoleF (ltQ pre s) n (fun k=>(ls s).getD k 0) i0):
  Calls Tryz.prog 218 #[endI b s,.int .i64 i0,.int .i64 n] w (DownR B b pre ids vs pl ls s n i0 w):=by
 have HM0:Hid (MvR B b pre ids vs pl ls s n w pl (ls s) w):=MvR.refl q hp
 have HO0:=Lib.hid hu
 have hlen:=q.len s hs
 have HD:=Lib.hid hd
 have hml:=Zki b s
 have hms:=ZeI b s
 clear q hp hu hd
 go_enter Tryz.func218,Tryz.ntmps218
 go_wp2_with fail
 go_loopw [7,8,9,10] (fun ti t8 t9 t10 wr=>∃(k:Nat) (pl':Nat->Nat->Int) (l':List Nat),i0<=k/\k<=n/\ti=.int .i64 k/\Hid (MvR B b pre ids vs pl ls s n w pl' l' wr)/\Hid (HoleF (ltQ pre s) n (fun k=>l'.getD k 0) k)/\Hid (i0<k->1<=k->ltQ pre s (l'.getD k 0) (l'.getD ((k-1)/2) 0)=false)) (fun ti _ _ _ _=>n-(intOf ti).toNat)
 case atStart=>exact⟨i0,pl,ls s,Nat.le_refl _,hj,rfl,HM0,HO0,fun h=>absurd h (Nat.lt_irrefl _)⟩
 case round=>
  clear HM0 HO0
  obtain⟨k,pl',l',hik,hk,rfl,HM,HO,HK⟩:=hrel
  by_cases h1:2*k+1<n
  ·have hkl:k<l'.length:=by rw[HM.out.len];omega
   by_cases h2:2*k+2<n
   ·have HL1:Hid (Calls Tryz.prog 244 #[endV b s,.int .i64 (2*(k:Int)+1+1),.int .i64 (2*(k:Int)+1)] wr fun r w'=>r=.returned (.bool (ltQ pre s (l'.getD (2*k+2) 0) (l'.getD (2*k+1) 0)))/\Below wr.heap.size wr w'):=by
     have h:=ZcD HM.out.qr hs (i:=2*k+2) (k:=2*k+1) (by rw[Zac,HM.out.len];omega) (by rw[Zac,HM.out.len];omega)
     have e2:(((2*k+2:Nat)):Int)=2*(k:Int)+1+1:=by omega
     have e1:(((2*k+1:Nat)):Int)=2*(k:Int)+1:=by omega
     rw[Zac,e2,e1]at h
     exact h
    go_wp2_with fail
    refine HL1.out.mono ?_
    rintro r w2⟨rfl,hb2⟩
    have HM2:=Lib.hid (HM.out.later hb2)
    cases hq2:ltQ pre s (l'.getD (2*k+2) 0) (l'.getD (2*k+1) 0)
    ·go_wp2_with fail
     obtain⟨c,hc⟩:∃c,c=2*k+1:=⟨_,rfl⟩
     have hci:(c:Int)=2*(k:Int)+1:=by omega
     have hcn:c<n:=by omega
     have hcl:c<l'.length:=by rw[HM.out.len];omega
     have HCD:Hid (∀d,1<=d->d<n->(d-1)/2=k->ltQ pre s (l'.getD d 0) (l'.getD c 0)=false):=by rw[hc];exact Zh7 (ZbY pre s) (f:=fun x=>l'.getD x 0) (.inr hq2)
     have HCC:Hid (c=2*k+1∨c=2*k+2):=by show _∨_;omega
     have hkc:k<c:=by omega
     rw[<-hci]
     clear hc hci
     have HL:=Lib.hid (ZcD HM2.out.qr hs (i:=c) (k:=k) (by rw[Zac];exact hcl) (by rw[Zac];omega))
     rw[Zac]at HL
     refine HL.out.mono ?_
     rintro r w4⟨rfl,hb4⟩
     have HM4:=Lib.hid (HM2.out.later hb4)
     cases hq:ltQ pre s (l'.getD c 0) (l'.getD k 0)
     ·have HX:Hid (UpF (ltQ pre s) n (fun x=>l'.getD x 0) k):=ZeX HO.out fun d d1 d2 d3=>(ZbY pre s).trans _ _ _ hq (HCD.out d d1 d2 d3)
      clear hq
      go_wp2
      go_ret
      exact Zf9 hik HM4.out HX.out HK.out
     ·have HS:=Lib.hid (ZbZ HM4.out.qr hs (i:=k) (k:=c) (by rw[Zac];omega) (by rw[Zac];exact hcl))
      rw[Zac]at HS
      have HU2:Hid (HoleF (ltQ pre s) n (fun x=>(swpL l' k c).getD x 0) c/\ltQ pre s ((swpL l' k c).getD c 0) ((swpL l' k c).getD ((c-1)/2) 0)=false):=by
       have h:=Zg1 (ZbY pre s) HO.out HCC.out hcn HCD.out hq
       refine⟨ZcA (by omega) h.1 fun x _=>(Zba (by omega) hcl x).symm,?_⟩
       rw[Zba (by omega) hcl,Zba (by omega) hcl]
       exact h.2
      have HMS:=Lib.hid (fun w3 q3 o3=>HM4.out.swap (w'':=w3) hs HD.out (i:=k) (k:=c) (by rw[HM4.out.len];omega) hcl (by omega) hcn q3 o3)
      clear hq
      go_wp2_with fail
      refine HS.out.mono ?_
      rintro r w5⟨rfl,q5,o5⟩
      have HM5:=Lib.hid (HMS.out w5 q5 o5)
      have HK5:Hid (i0<c->1<=c->ltQ pre s ((swpL l' k c).getD c 0) ((swpL l' k c).getD ((c-1)/2) 0)=false):=fun _ _=>HU2.out.2
      have HO5:=Lib.hid HU2.out.1
      clear q5 o5
      go_wp2_with fail
      go_roundw
      case rel=>exact⟨c,_,_,by omega,by omega,rfl,HM5,HO5,HK5⟩
      case measure=>simp[intOf];omega
    ·go_wp2_with fail
     obtain⟨c,hc⟩:∃c,c=2*k+2:=⟨_,rfl⟩
     have hci:(c:Int)=2*(k:Int)+1+1:=by omega
     have hcn:c<n:=by omega
     have hcl:c<l'.length:=by rw[HM.out.len];omega
     have HCD:Hid (∀d,1<=d->d<n->(d-1)/2=k->ltQ pre s (l'.getD d 0) (l'.getD c 0)=false):=by rw[hc];exact Zl8 (ZbY pre s) (f:=fun x=>l'.getD x 0) hq2
     have HCC:Hid (c=2*k+1∨c=2*k+2):=by show _∨_;omega
     have hkc:k<c:=by omega
     rw[<-hci]
     clear hc hci
     have HL:=Lib.hid (ZcD HM2.out.qr hs (i:=c) (k:=k) (by rw[Zac];exact hcl) (by rw[Zac];omega))
     rw[Zac]at HL
     refine HL.out.mono ?_
     rintro r w4⟨rfl,hb4⟩
     have HM4:=Lib.hid (HM2.out.later hb4)
     cases hq:ltQ pre s (l'.getD c 0) (l'.getD k 0)
     ·have HX:Hid (UpF (ltQ pre s) n (fun x=>l'.getD x 0) k):=ZeX HO.out fun d d1 d2 d3=>(ZbY pre s).trans _ _ _ hq (HCD.out d d1 d2 d3)
      clear hq
      go_wp2
      go_ret
      exact Zf9 hik HM4.out HX.out HK.out
     ·have HS:=Lib.hid (ZbZ HM4.out.qr hs (i:=k) (k:=c) (by rw[Zac];omega) (by rw[Zac];exact hcl))
      rw[Zac]at HS
      have HU2:Hid (HoleF (ltQ pre s) n (fun x=>(swpL l' k c).getD x 0) c/\ltQ pre s ((swpL l' k c).getD c 0) ((swpL l' k c).getD ((c-1)/2) 0)=false):=by
       have h:=Zg1 (ZbY pre s) HO.out HCC.out hcn HCD.out hq
       refine⟨ZcA (by omega) h.1 fun x _=>(Zba (by omega) hcl x).symm,?_⟩
       rw[Zba (by omega) hcl,Zba (by omega) hcl]
       exact h.2
      have HMS:=Lib.hid (fun w3 q3 o3=>HM4.out.swap (w'':=w3) hs HD.out (i:=k) (k:=c) (by rw[HM4.out.len];omega) hcl (by omega) hcn q3 o3)
      clear hq
      go_wp2_with fail
      refine HS.out.mono ?_
      rintro r w5⟨rfl,q5,o5⟩
      have HM5:=Lib.hid (HMS.out w5 q5 o5)
      have HK5:Hid (i0<c->1<=c->ltQ pre s ((swpL l' k c).getD c 0) ((swpL l' k c).getD ((c-1)/2) 0)=false):=fun _ _=>HU2.out.2
      have HO5:=Lib.hid HU2.out.1
      clear q5 o5
      go_wp2_with fail
      go_roundw
      case rel=>exact⟨c,_,_,by omega,by omega,rfl,HM5,HO5,HK5⟩
      case measure=>simp[intOf];omega
   ·go_wp2_with fail
    obtain⟨c,hc⟩:∃c,c=2*k+1:=⟨_,rfl⟩
    have hci:(c:Int)=2*(k:Int)+1:=by omega
    have hcn:c<n:=by omega
    have hcl:c<l'.length:=by rw[HM.out.len];omega
    have HCD:Hid (∀d,1<=d->d<n->(d-1)/2=k->ltQ pre s (l'.getD d 0) (l'.getD c 0)=false):=by rw[hc];exact Zh7 (ZbY pre s) (f:=fun x=>l'.getD x 0) (.inl h2)
    have HCC:Hid (c=2*k+1∨c=2*k+2):=by show _∨_;omega
    have hkc:k<c:=by omega
    rw[<-hci]
    clear hc hci
    have HL:=Lib.hid (ZcD HM.out.qr hs (i:=c) (k:=k) (by rw[Zac];exact hcl) (by rw[Zac];omega))
    rw[Zac]at HL
    refine HL.out.mono ?_
    rintro r w4⟨rfl,hb4⟩
    have HM4:=Lib.hid (HM.out.later hb4)
    cases hq:ltQ pre s (l'.getD c 0) (l'.getD k 0)
    ·have HX:Hid (UpF (ltQ pre s) n (fun x=>l'.getD x 0) k):=ZeX HO.out fun d d1 d2 d3=>(ZbY pre s).trans _ _ _ hq (HCD.out d d1 d2 d3)
     clear hq
     go_wp2
     go_ret
     exact Zf9 hik HM4.out HX.out HK.out
    ·have HS:=Lib.hid (ZbZ HM4.out.qr hs (i:=k) (k:=c) (by rw[Zac];omega) (by rw[Zac];exact hcl))
     rw[Zac]at HS
     have HU2:Hid (HoleF (ltQ pre s) n (fun x=>(swpL l' k c).getD x 0) c/\ltQ pre s ((swpL l' k c).getD c 0) ((swpL l' k c).getD ((c-1)/2) 0)=false):=by
      have h:=Zg1 (ZbY pre s) HO.out HCC.out hcn HCD.out hq
      refine⟨ZcA (by omega) h.1 fun x _=>(Zba (by omega) hcl x).symm,?_⟩
      rw[Zba (by omega) hcl,Zba (by omega) hcl]
      exact h.2
     have HMS:=Lib.hid (fun w3 q3 o3=>HM4.out.swap (w'':=w3) hs HD.out (i:=k) (k:=c) (by rw[HM4.out.len];omega) hcl (by omega) hcn q3 o3)
     clear hq
     go_wp2_with fail
     refine HS.out.mono ?_
     rintro r w5⟨rfl,q5,o5⟩
     have HM5:=Lib.hid (HMS.out w5 q5 o5)
     have HK5:Hid (i0<c->1<=c->ltQ pre s ((swpL l' k c).getD c 0) ((swpL l' k c).getD ((c-1)/2) 0)=false):=fun _ _=>HU2.out.2
     have HO5:=Lib.hid HU2.out.1
     clear q5 o5
     go_wp2_with fail
     go_roundw
     case rel=>exact⟨c,_,_,by omega,by omega,rfl,HM5,HO5,HK5⟩
     case measure=>simp[intOf];omega
  ·have HX:Hid (UpF (ltQ pre s) n (fun x=>l'.getD x 0) k):=ZeX HO.out fun d d1 d2 d3=>by omega
   go_wp2
   go_ret
   exact Zf9 hik HM.out HX.out HK.out
end
theorem infoIt:(Tryz.prog.info? 278).map (fun i=>(i.zero,i.size,i.bytes))=some (some (.pointer none),1,8):=by kernel_rfl
theorem Ziq{w:World}{ops:Array Oper}{o:Oper}{a:Act}{K:Act->World->Prop}{Q:Exit->Act->World->Prop}{E:Prop}(hgd:o.guard=none)(s x:Operand)
  (ho:o.op=.call { callee:=.builtin .append,args:=#[s,x],argTypes:=#[183,183] }) (B:Nat) (v:Value) (l:List Nat) (hs:a.eval s=v) (hown:Zae w B 278 1 ZbS v l)
  (ad:Addr) (hx:a.eval x=.slice (some ad) 1 1) (y:Nat) (hnew:w.cell? ad=some (.pointer (some ⟨y,0,none⟩))) (hlen:l.length<=1000000) (hB:B<=w.heap.size)
  (h:∀v' w',Zae w' B 278 1 ZbS v' (l++[y])->w.grownBy w' v.ownBlock->(v'.ownBlock=v.ownBlock∨v'.ownBlock=some w.heap.size)->K (a.put o.dst v') w'):if Region.wanted o (yielded ops a.tmps)=true then Oper.wp Tryz.prog o a w K Q else E:=by
 refine ZbP (f:=ZbS) (n:=1) 183 278 8 (.pointer none) Tryz.underlying183 infoIt rfl (by omega) (by omega) Zco hgd s x ho B v l hs hown ad hx y (ZhY y) ?_ hlen hB ?_
 ·intro j u hu
  cases j with
  |zero=>
   injection hu with hu
   rw[<-hu]
   exact hnew
  |succ j=>simp[ZbS]at hu
 ·intro v' w' h1 _ h3 h4
  exact h v' w' h1 h3 h4
theorem Zhe(v:Value)(w:World):(Instr.typeAssert (.iface 278 v) 20 278 false).run Tryz.prog w=.ok v w:=by kernel_rfl
section
variable{w w7:World}{B b:Nat}{pre:Nat->Txt}{ids:List Nat}{vs:Nat->Value}{pl:Nat->Nat->Int}{ls:Nat->List Nat}
theorem QR.grow(q:QR w B b pre ids vs pl ls){s:Nat}(hs:s<2){x:Nat}(hx:x∈ids)(hl:(ls s).length<100000){o:Obj}{v':Value}(hown:Zae w7 B 278 1 ZbS v' (ls s++[x]))(hg:(w.alloc o).grownBy w7 (vs s).ownBlock)
  (hv:v'.ownBlock=(vs s).ownBlock∨v'.ownBlock=some (w.alloc o).heap.size):
  QR (w7.setCell ⟨b,s,none⟩ v') B b pre ids (updF vs s v') pl (updF ls s (ls s++[x]))/\OnlyS (QS b ids vs) w (w7.setCell ⟨b,s,none⟩ v')/\w7.frozen? ⟨b,s,none⟩=false/\w7.cell? ⟨b,s,none⟩=some (vs s):=by
 have hsz:(w.alloc o).heap.size=w.heap.size+1:=World.size_alloc _ _
 have hold:∀y,y<w.heap.size->(w.alloc o).heap[y]?=w.heap[y]?:=fun y hy=>(Zaa w o).block y hy
 have hbl:b<w.heap.size:=q.lt (.inl rfl)
 have hbr:∀t,t<2->(vs t).ownBlock≠some b:=fun t ht e=>by
  obtain⟨_,c,hc⟩:=(q.row t ht).kindQ e
  have:=q.box
  rw[hc]at this;injection this with this;injection this with _ this;exact absurd this (by decide)
 have hbox7:w7.heap[b]?=some (.cells #[vs 0,vs 1] 186 (0,0)):=by
  rw[hg.block b (by omega) (fun e=>hbr s hs e.symm),hold b hbl]
  exact q.box
 have h7:∀y,y<w.heap.size->y≠b->(vs s).ownBlock≠some y->(w7.setCell ⟨b,s,none⟩ v').heap[y]?=w.heap[y]?:=fun y h1 h2 h3=>by
  rw[Below.heap_setCell _ _ _ _ h2,hg.block y (by omega) (fun e=>h3 e.symm),hold y h1]
 have hz7:w.heap.size<=w7.heap.size:=by have:=hg.size;omega
 have hvb:∀y,v'.ownBlock=some y->y≠b:=by
  rintro y hy rfl
  rcases hv with hv|hv
  ·rw[hv]at hy;exact hbr s hs hy
  ·rw[hv]at hy;injection hy with hy;omega
 refine⟨⟨by rw[World.size_setCell];exact Nat.le_trans q.low hz7,q.lowb,?_,fun t ht=>?_,fun t ht=>?_,fun y h1 h2=>?_,fun y hy=>⟨(q.item y hy).1,?_⟩,fun t ht y hy=>?_⟩,⟨hg.os,hg.tape,hg.output,by rw[World.size_setCell];exact hz7,fun y hy hn=>h7 y hy (fun e=>hn (.inl e)) fun e=>hn (.own hs e)⟩,by simp[World.frozen?,hbox7],?_⟩
 ·rw[heap_setCell_same w7 b s _ _ _ hbox7]
  rcases two hs with rfl|rfl <;> simp[updF]
 ·by_cases e:t=s
  ·subst e
   rw[Zac,Zac]
   exact hown.keepQ fun y hy=>Below.heap_setCell _ _ _ _ (hvb y hy)
  ·rw[Zad _ _ e,Zad _ _ e]
   refine(q.row t ht).keepQ fun y hy=>h7 y (q.lt (.own ht hy)) (fun e2=>hbr t ht (e2▸hy)) fun e2=>?_
   rcases two hs with rfl|rfl <;> rcases two ht with rfl|rfl
   ·exact e rfl
   ·exact q.apart y e2 hy
   ·exact q.apart y hy e2
   ·exact e rfl
 ·by_cases e:t=s
  ·subst e;rw[Zac,List.length_append];simp;omega
  ·rw[Zad _ _ e];exact q.len t ht
 ·have hnew:∀t y,t<2->(vs t).ownBlock=some y->some (w.alloc o).heap.size≠some y:=fun t y ht hy e=>by
   injection e with e
   have:=q.lt (x:=y) (.own ht hy)
   omega
  rcases two hs with rfl|rfl
  ·rw[Zac]at h1
   rw[Zad _ _ (by omega)]at h2
   rcases hv with hv|hv
   ·exact q.apart y (hv▸h1) h2
   ·exact hnew 1 y (by omega) h2 (hv▸h1)
  ·rw[Zac]at h2
   rw[Zad _ _ (by omega)]at h1
   rcases hv with hv|hv
   ·exact q.apart y h1 (hv▸h2)
   ·exact hnew 0 y (by omega) h1 (hv▸h2)
 ·refine(h7 y (q.lt (.inr (.inr (.inr hy)))) (fun e=>?_) (fun e=>q.row_item hs e hy rfl)).trans (q.item y hy).2
  subst e
  have:=(q.item y hy).2
  rw[q.box]at this;injection this with this;injection this with _ this;exact absurd this (by decide)
 ·by_cases e:t=s
  ·subst e
   rw[Zac,List.mem_append,List.mem_singleton]at hy
   rcases hy with hy|rfl
   ·exact q.sub t ht y hy
   ·exact hx
  ·rw[Zad _ _ e]at hy
   exact q.sub t ht y hy
 ·rw[cell_of_row w7 b s _ _ _ hbox7]
  rcases two hs with rfl|rfl <;> rfl
theorem Zl2(q:QR w B b pre ids vs pl ls){s:Nat}(hs:s<2){x:Nat}(hx:x∈ids)(hl:(ls s).length<100000){z:Nat}(hz:z<=w.heap.size):Calls Tryz.prog 246 #[endV b s,.iface 278 (.pointer (some ⟨x,0,none⟩))] w fun r w'=>r=.returned (.tuple #[]) /\
  ∃v',QR w' B b pre ids (updF vs s v') (plPut pl s x (ls s).length) (updF ls s (ls s++[x]))/\OnlyS (QS b ids vs) w w'/\(v'.ownBlock=(vs s).ownBlock∨∃y,v'.ownBlock=some y/\z<=y):=by
 have hb1:Below w.heap.size w (w.alloc (.cells #[.pointer (some ⟨b,0,none⟩),.int .i64 s] 261)):=Zaa w _
 have q1:=q.later hb1
 have hs0:(w.alloc (.cells #[.pointer (some ⟨b,0,none⟩),.int .i64 s] 261)).cell? ⟨w.heap.size,0,none⟩=some (.pointer (some ⟨b,0,none⟩)):=by simp
 have hs1:(w.alloc (.cells #[.pointer (some ⟨b,0,none⟩),.int .i64 s] 261)).cell? ⟨w.heap.size,1,none⟩=some (.int .i64 s):=by simp
 have hsi:(s:Int)<2:=by omega
 have cx:=(q1.cellI hx).2 s hs
 have fx:=ZgW q1 hx (1+s)
 have Q1:=Lib.hid q1
 have HEB:Hid ((w.alloc (.cells #[.pointer (some ⟨b,0,none⟩),.int .i64 s] 261)).heap[w.heap.size]?=some (.cells #[.pointer (some ⟨b,0,none⟩),.int .i64 s] 261 (0,0))):=heap_alloc_new w _
 have hEN:=Q1.out.not_other HEB.out (by decide) (by decide) (by decide)
 have hfz:Hid (∀W,Below (w.alloc (.cells #[.pointer (some ⟨b,0,none⟩),.int .i64 s] 261)).heap.size (w.alloc (.cells #[.pointer (some ⟨b,0,none⟩),.int .i64 s] 261)) W->W.frozen? ⟨x,1+s,none⟩=false):=fun W hb=>ZgW (Q1.out.later hb) hx _
 have has:=Zhe (.pointer (some ⟨x,0,none⟩))
 unfold endV
 clear q q1
 go_enter Tryz.func246,Tryz.ntmps246
 go_wp2_with fail
 have hex:w.heap.size≠x:=fun e=>hEN (.inr (.inr (.inr (e▸hx))))
 have HCC:Hid (∀W,Below (w.alloc (.cells #[.pointer (some ⟨b,0,none⟩),.int .i64 s] 261)).heap.size (w.alloc (.cells #[.pointer (some ⟨b,0,none⟩),.int .i64 s] 261)) W->W.cell? ⟨w.heap.size,0,none⟩=some (.pointer (some ⟨b,0,none⟩))/\W.cell? ⟨w.heap.size,1,none⟩=some (.int .i64 s)):=fun W hb=>⟨Zab hb hs0,Zab hb hs1⟩
 have hB0:Below (w.alloc (.cells #[.pointer (some ⟨b,0,none⟩),.int .i64 s] 261)).heap.size (w.alloc (.cells #[.pointer (some ⟨b,0,none⟩),.int .i64 s] 261)) (w.alloc (.cells #[.pointer (some ⟨b,0,none⟩),.int .i64 s] 261)).drew:=(Below.refl _ _).drew
 go_region_held3 (fun W=>W.cell? ⟨w.heap.size,0,none⟩=some (.pointer (some ⟨b,0,none⟩))/\W.cell? ⟨w.heap.size,1,none⟩=some (.int .i64 s))
  (first|with_reducible exact HCC.out _ hB0|with_reducible exact HCC.out _ hB1|with_reducible exact hK3)
  (first|(go_at_call 243;((with_reducible refine(Zeb Q1.out.drew hs).mono ?_);rintro r w3⟨rfl,hb3⟩;have hB1:Below (w.alloc (.cells #[.pointer (some ⟨b,0,none⟩),.int .i64 s] 261)).heap.size (w.alloc (.cells #[.pointer (some ⟨b,0,none⟩),.int .i64 s] 261)) w3:=Below.trans hB0 hb3;have cx3:=Zab hB1 cx;have fx3:=hfz.out w3 hB1;have hK3:(w3.setCell ⟨x,1+s,none⟩ (.int .i64 (ls s).length)).cell? ⟨w.heap.size,0,none⟩=some (.pointer (some ⟨b,0,none⟩))/\(w3.setCell ⟨x,1+s,none⟩ (.int .i64 (ls s).length)).cell? ⟨w.heap.size,1,none⟩=some (.int .i64 s):=⟨(Zbo w3 hex _ _ _).trans (HCC.out w3 hB1).1,(Zbo w3 hex _ _ _).trans (HCC.out w3 hB1).2⟩)))
 obtain⟨q4,o4,_⟩:=(Q1.out.later hB1).storeP hs hx ((ls s).length:Int)
 have d0:=(Zbo w3 hex (1+s) 0 (.int .i64 (ls s).length)).trans (HCC.out w3 hB1).1
 have d1:=(Zbo w3 hex (1+s) 1 (.int .i64 (ls s).length)).trans (HCC.out w3 hB1).2
 have O4:Hid (OnlyS (QS b ids vs) w (w3.setCell ⟨x,1+s,none⟩ (.int .i64 (ls s).length))):=OnlyS.trans (OnlyS.of_below (hb1.trans (hB1.mono hb1.size))) o4
 have Q4:=Lib.hid q4
 have hEN4:w.heap.size<(w3.setCell ⟨x,1+s,none⟩ (.int .i64 (ls s).length)).heap.size:=World.block_lt_of_cell? _ _ d0
 clear q4 o4 HCC hB0 hB1 hK3 cx3 fx3 hb3 hs0 hs1 cx fx hfz HEB hb1 Q1 hex has
 generalize w3.setCell ⟨x,1+s,none⟩ (.int .i64 (ls s).length)=W4 at *
 generalize w.heap.size=eb at *
 obtain⟨a4,cap4,hv4⟩:=Q4.out.sliceV hs
 have cb4:=Q4.out.cellB hs
 rw[hv4]at cb4
 have HV4:=Lib.hid hv4
 have hba:=Zaa W4 (.cells #[.pointer (some ⟨x,0,none⟩)] 278)
 have d0a:=Zab hba d0
 have d1a:=Zab hba d1
 have cba:=Zab hba cb4
 have HTD:Hid (Zae (W4.alloc (.cells #[.pointer (some ⟨x,0,none⟩)] 278)).drew B 278 1 ZbS (.slice a4 (ls s).length cap4) (ls s)):=by
  have:=((Q4.out.later hba).row s hs).keepQ (w':=(W4.alloc (.cells #[.pointer (some ⟨x,0,none⟩)] 278)).drew) fun _ _=>rfl
  rw[hv4]at this
  exact this
 have hcl:(W4.alloc (.cells #[.pointer (some ⟨x,0,none⟩)] 278)).drew.cell? ⟨W4.heap.size,0,none⟩=some (.pointer (some ⟨x,0,none⟩)):=by
  show(W4.alloc (.cells #[.pointer (some ⟨x,0,none⟩)] 278)).cell? _=_
  simp
 have hzc:B<=(W4.alloc (.cells #[.pointer (some ⟨x,0,none⟩)] 278)).drew.heap.size:=Nat.le_trans Q4.out.low hba.size
 have HGR:Hid (∀(v':Value) (w7:World),Zae w7 B 278 1 ZbS v' (ls s++[x])->(W4.alloc (.cells #[.pointer (some ⟨x,0,none⟩)] 278)).grownBy w7 (vs s).ownBlock->(v'.ownBlock=(vs s).ownBlock∨v'.ownBlock=some (W4.alloc (.cells #[.pointer (some ⟨x,0,none⟩)] 278)).heap.size)->_):=fun v' w7 h1 h2 h3=>Q4.out.grow hs hx hl h1 h2 h3
 have heb:eb≠b:=fun e=>hEN (.inl e)
 have hHeld:W4.drew.cell? ⟨eb,0,none⟩=some (.pointer (some ⟨b,0,none⟩))/\W4.drew.cell? ⟨eb,1,none⟩=some (.int .i64 s)/\W4.drew.cell? ⟨b,s,none⟩=some (.slice a4 (ls s).length cap4):=⟨d0,d1,cb4⟩
 have hA5:(W4.alloc (.cells #[.pointer (some ⟨x,0,none⟩)] 278)).drew.cell? ⟨eb,0,none⟩=some (.pointer (some ⟨b,0,none⟩))/\(W4.alloc (.cells #[.pointer (some ⟨x,0,none⟩)] 278)).drew.cell? ⟨eb,1,none⟩=some (.int .i64 s)/\(W4.alloc (.cells #[.pointer (some ⟨x,0,none⟩)] 278)).drew.cell? ⟨b,s,none⟩=some (.slice a4 (ls s).length cap4):=⟨d0a,d1a,cba⟩
 go_wp2_with fail
 refine Zeh (S:=fun W=>W.cell? ⟨eb,0,none⟩=some (.pointer (some ⟨b,0,none⟩))/\W.cell? ⟨eb,1,none⟩=some (.int .i64 s)/\W.cell? ⟨b,s,none⟩=some (.slice a4 (ls s).length cap4)) (k:=18) (by kernel_rfl) ?_
 refine Zaj (i:=0) (v:=?_) [18] rfl (by kernel_rfl) (by kernel_rfl) (by kernel_rfl) (by kernel_rfl) (by kernel_rfl) (fun _ _ _ h=>h) (Or.inl ⟨by kernel_rfl,?_⟩) hHeld ?_
 rotate_left
 ·intro w hSw
  try dsimp only at hSw
  go_simp
  with_reducible rfl
 try simp only[Act.put,List.setIfInBounds_toArray]
 refine Zaj (i:=1) (v:=?_) [18] rfl (by kernel_rfl) (by kernel_rfl) (by kernel_rfl) (by kernel_rfl) (by kernel_rfl) (fun _ _ _ h=>h) (Or.inl ⟨by kernel_rfl,?_⟩) hHeld ?_
 rotate_left
 ·intro w hSw
  try dsimp only at hSw
  go_simp
  with_reducible rfl
 try simp only[Act.put]
 refine Zaj (i:=2) (v:=?_) [18] rfl (by kernel_rfl) (by kernel_rfl) (by kernel_rfl) (by kernel_rfl) (by kernel_rfl) (fun _ _ _ h=>h) (Or.inl ⟨by kernel_rfl,?_⟩) hHeld ?_
 rotate_left
 ·intro w hSw
  try dsimp only at hSw
  go_simp
  with_reducible rfl
 try simp only[Act.put]
 refine Zaj (i:=3) (v:=?_) [18] rfl (by kernel_rfl) (by kernel_rfl) (by kernel_rfl) (by kernel_rfl) (by kernel_rfl) (fun _ _ _ h=>h) (Or.inl ⟨by kernel_rfl,?_⟩) hHeld ?_
 rotate_left
 ·intro w hSw
  try dsimp only at hSw
  go_simp
  with_reducible rfl
 try simp only[Act.put]
 refine Zaj (i:=4) (v:=?_) [18] rfl (by kernel_rfl) (by kernel_rfl) (by kernel_rfl) (by kernel_rfl) (by kernel_rfl) (fun _ _ _ h=>h) (Or.inl ⟨by kernel_rfl,?_⟩) hHeld ?_
 rotate_left
 ·intro w hSw
  try dsimp only at hSw
  go_simp
  with_reducible rfl
 try simp only[Act.put]
 refine Zaj (i:=5) (v:=?_) [18] rfl (by kernel_rfl) (by kernel_rfl) (by kernel_rfl) (by kernel_rfl) (by kernel_rfl) (fun _ _ _ h=>h) (Or.inl ⟨by kernel_rfl,?_⟩) hHeld ?_
 rotate_left
 ·intro w hSw
  try dsimp only at hSw
  go_simp
  with_reducible rfl
 try simp only[Act.put]
 refine Zaj (i:=6) (v:=?_) [18] rfl (by kernel_rfl) (by kernel_rfl) (by kernel_rfl) (by kernel_rfl) (by kernel_rfl) (fun _ _ _ h=>h) (Or.inl ⟨by kernel_rfl,?_⟩) hHeld ?_
 rotate_left
 ·intro w hSw
  try dsimp only at hSw
  go_simp
  with_reducible rfl
 try simp only[Act.put]
 refine Zaj (i:=7) (v:=?_) [18] rfl (by kernel_rfl) (by kernel_rfl) (by kernel_rfl) (by kernel_rfl) (by kernel_rfl) (fun _ _ _ h=>h) (Or.inl ⟨by kernel_rfl,?_⟩) hHeld ?_
 rotate_left
 ·intro w hSw
  try dsimp only at hSw
  go_simp
  with_reducible rfl
 try simp only[Act.put]
 refine Zaj (i:=8) (v:=?_) [18] rfl (by kernel_rfl) (by kernel_rfl) (by kernel_rfl) (by kernel_rfl) (by kernel_rfl) (fun _ _ _ h=>h) (Or.inl ⟨by kernel_rfl,?_⟩) hHeld ?_
 rotate_left
 ·intro w hSw
  try dsimp only at hSw
  go_simp
  with_reducible rfl
 try simp only[Act.put]
 refine Zaj (i:=9) (v:=?_) [18] rfl (by kernel_rfl) (by kernel_rfl) (by kernel_rfl) (by kernel_rfl) (by kernel_rfl) (fun _ _ _ h=>h) (Or.inl ⟨by kernel_rfl,?_⟩) hHeld ?_
 rotate_left
 ·intro w hSw
  try dsimp only at hSw
  go_simp
  with_reducible rfl
 try simp only[Act.put]
 refine Zaj (i:=10) (v:=?_) [18] rfl (by kernel_rfl) (by kernel_rfl) (by kernel_rfl) (by kernel_rfl) (by kernel_rfl) (fun _ _ _ h=>h) (Or.inl ⟨by kernel_rfl,?_⟩) hHeld ?_
 rotate_left
 ·intro w hSw
  try dsimp only at hSw
  go_simp
  with_reducible rfl
 try simp only[Act.put]
 refine Zaj (i:=11) (v:=?_) [18] rfl (by kernel_rfl) (by kernel_rfl) (by kernel_rfl) (by kernel_rfl) (by kernel_rfl) (fun _ _ _ h=>h) (Or.inl ⟨by kernel_rfl,?_⟩) hHeld ?_
 rotate_left
 ·intro w hSw
  try dsimp only at hSw
  go_simp
  with_reducible rfl
 try simp only[Act.put]
 refine Zaj (i:=12) (v:=?_) [18] rfl (by kernel_rfl) (by kernel_rfl) (by kernel_rfl) (by kernel_rfl) (by kernel_rfl) (fun _ _ _ h=>h) (Or.inl ⟨by kernel_rfl,?_⟩) hHeld ?_
 rotate_left
 ·intro w hSw
  try dsimp only at hSw
  go_simp
  with_reducible rfl
 try simp only[Act.put]
 refine Zaj (i:=15) (v:=?_) [16,17,18] rfl (by kernel_rfl) (by kernel_rfl) (by kernel_rfl) (by kernel_rfl) (by kernel_rfl) (fun _ _ _ h=>h) (Or.inl ⟨by kernel_rfl,?_⟩) hHeld ?_
 rotate_left
 ·intro w hSw
  try dsimp only at hSw
  go_simp
  with_reducible rfl
 try simp only[Act.put]
 refine Zaj (i:=16) (v:=?_) [17,18] rfl (by kernel_rfl) (by kernel_rfl) (by kernel_rfl) (by kernel_rfl) (by kernel_rfl) (fun _ _ _ h=>h) (Or.inl ⟨by kernel_rfl,?_⟩) hHeld ?_
 rotate_left
 ·intro w hSw
  try dsimp only at hSw
  go_simp
  with_reducible rfl
 try simp only[Act.put]
 refine ZaX (i:=13) (by kernel_rfl) rfl (fun K hK=>?_)
 go_simp
 refine hK.out _ _ (fun _=>hA5) ?_
 clear hK K
 try simp only[Act.put,List.setIfInBounds_toArray,List.set_cons_zero,List.set_cons_succ]
 refine ZaX (i:=14) (by kernel_rfl) rfl (fun K hK=>?_)
 refine Ziq (by rfl) (.tmp 26) (.tmp 28) (by rfl) B _ (ls s) (by rfl) HTD.out ⟨W4.heap.size,0,none⟩ (by rfl) x hcl (by omega) hzc ?_
 intro v7 w7 hown7 hg7 hv7
 obtain⟨b7,c7,hv7e,_⟩:=Zae.form hown7 Zco (by rw[List.length_append,List.length_singleton];omega)
 rw[List.length_append,List.length_singleton]at hv7e
 subst hv7e
 rw[<-HV4.out]at hg7 hv7
 have hgr:=HGR.out _ w7 hown7 ⟨hg7.os,hg7.tape,hg7.output,hg7.size,hg7.block⟩ hv7
 have d07:=hg7.cell d0a (fun e=>hEN (.own hs e.symm))
 have d17:=hg7.cell d1a (fun e=>hEN (.own hs e.symm))
 obtain⟨q8,o8,f8,c8⟩:=hgr
 rw[HV4.out]at c8
 have Q8:=Lib.hid q8
 have O8:=Lib.hid o8
 have HV7:=Lib.hid hv7
 clear q8 o8 hown7 hg7 hv7
 refine hK.out _ _ (fun _=>⟨d07,d17,c8⟩) ?_
 clear hK K
 try simp only[Act.put,List.setIfInBounds_toArray]
 refine ZaX (i:=17) (by kernel_rfl) rfl (fun K hK=>?_)
 go_simp
 refine hK.out _ _ (fun _=>⟨d07,d17,c8⟩) ?_
 clear hK K
 try simp only[Act.put,List.setIfInBounds_toArray,List.set_cons_zero,List.set_cons_succ]
 refine ZaX (i:=18) (by kernel_rfl) rfl (fun K hK=>?_)
 go_simp
 refine hK.out _ _ (fun h=>absurd rfl h) ?_
 clear hK K
 try simp only[Act.put,List.setIfInBounds_toArray,List.set_cons_zero,List.set_cons_succ]
 refine Zei (by kernel_rfl) ?_ _
 go_wp2
 have hv9:(Value.slice b7 ((ls s).length+1) c7).ownBlock=(vs s).ownBlock∨∃y,(Value.slice b7 ((ls s).length+1) c7).ownBlock=some y/\z<=y:=HV7.out.imp id fun h=>⟨_,h,Nat.le_trans hz (Nat.le_trans (Nat.le_of_lt hEN4) hba.size)⟩
 refine bodyPost_end (results_none rfl _ _ _) rfl ⟨rfl,_,Q8.out,O4.out.trans O8.out,hv9⟩
end
section
variable{w:World}{B b:Nat}{pre:Nat->Txt}{ids:List Nat}{vs:Nat->Value}{pl:Nat->Nat->Int}{ls:Nat->List Nat}
theorem QR.rowC(q:QR w B b pre ids vs pl ls){s:Nat}(hs:s<2){m:Nat}(hm:(ls s).length=m+1):∃g cap cur,vs s=.slice (some ⟨g,0,none⟩) (m+1) cap/\B<=g/\w.heap[g]?=some (.cells cur 278 (0,0))/\m+1<=cap/\cap<=maxLen/\cur.size=cap/\cur.toList.take (m+1)=(ls s).map fun x=>Value.pointer (some ⟨x,0,none⟩):=by
 obtain⟨h1,⟨h2,h3⟩|⟨g,cap,cur,h2,h3,h4,h5,h6,h7,h8⟩⟩:=q.row s hs
 ·omega
 ·rw[ZgN]at h8
  rw[hm,Nat.mul_one]at h8
  exact⟨g,cap,cur,by rw[<-hm];exact h2,h3,h4,by omega,h6,by omega,h8⟩
theorem QR.shrink(q:QR w B b pre ids vs pl ls){s:Nat}(hs:s<2){m g cap:Nat}(hm:(ls s).length=m+1)(hv:vs s=.slice (some ⟨g,0,none⟩) (m+1) cap):
  QR ((w.setCell ⟨g,m,none⟩ (.pointer none)).setCell ⟨b,s,none⟩ (.slice (some ⟨g,0,none⟩) m cap)) B b pre ids (updF vs s (.slice (some ⟨g,0,none⟩) m cap)) pl (updF ls s (ls s).dropLast) /\
  OnlyS (QS b ids vs) w ((w.setCell ⟨g,m,none⟩ (.pointer none)).setCell ⟨b,s,none⟩ (.slice (some ⟨g,0,none⟩) m cap)):=by
 obtain⟨g',cap',cur,hv',hB,hc,h5,h6,h7,h8⟩:=q.rowC hs hm
 rw[hv]at hv'
 injection hv' with e1 _ e2
 injection e1 with e1
 injection e1 with e1
 subst e1 e2
 have hg:(vs s).ownBlock=some g:=by rw[hv];rfl
 have hbr:∀t,t<2->(vs t).ownBlock≠some b:=fun t ht e=>by
  obtain⟨_,c,hc⟩:=(q.row t ht).kindQ e
  have:=q.box
  rw[hc]at this;injection this with this;injection this with _ this;exact absurd this (by decide)
 have hgb:g≠b:=fun e=>hbr s hs (e▸hg)
 have hh:∀y,y≠g->y≠b->((w.setCell ⟨g,m,none⟩ (.pointer none)).setCell ⟨b,s,none⟩ (.slice (some ⟨g,0,none⟩) m cap)).heap[y]?=w.heap[y]?:=fun y h1 h2=>by
  rw[Below.heap_setCell _ _ _ _ h2,Below.heap_setCell _ _ _ _ h1]
 have hbox:(w.setCell ⟨g,m,none⟩ (.pointer none)).heap[b]?=some (.cells #[vs 0,vs 1] 186 (0,0)):=(Below.heap_setCell _ _ _ _ (Ne.symm hgb)).trans q.box
 refine⟨⟨by rw[World.size_setCell,World.size_setCell];exact q.low,q.lowb,?_,fun t ht=>?_,fun t ht=>?_,fun y h1 h2=>?_,fun y hy=>⟨(q.item y hy).1,?_⟩,fun t ht y hy=>?_⟩,((OnlyS.refl _ _).setCell (p:=⟨g,m,none⟩) (.own hs hg) _).setCell (p:=⟨b,s,none⟩) (.inl rfl) _⟩
 ·rw[heap_setCell_same _ b s _ _ _ hbox]
  rcases two hs with rfl|rfl <;> simp[updF]
 ·by_cases e:t=s
  ·subst e
   rw[Zac,Zac]
   refine⟨by rw[Zar Zco],.inr ⟨g,cap,cur.setIfInBounds m (.pointer none),by rw[List.length_dropLast,hm];rfl,hB,?_,by rw[List.length_dropLast,hm];omega,h6,by simp[h7],?_⟩⟩
   ·rw[Below.heap_setCell _ _ _ _ hgb,heap_setCell_same w g m _ _ _ hc]
   ·rw[ZgN,List.length_dropLast,hm,Nat.mul_one,Array.toList_setIfInBounds,Nat.add_sub_cancel,List.take_set_of_le (Nat.le_refl m),List.dropLast_eq_take,List.map_take,<-h8,List.take_take,hm,Nat.add_sub_cancel,Nat.min_eq_left (by omega)]
  ·rw[Zad _ _ e,Zad _ _ e]
   refine(q.row t ht).keepQ fun y hy=>hh y (fun e2=>?_) fun e2=>hbr t ht (e2▸hy)
   subst e2
   rcases two hs with rfl|rfl <;> rcases two ht with rfl|rfl
   ·exact e rfl
   ·exact q.apart y hg hy
   ·exact q.apart y hy hg
   ·exact e rfl
 ·by_cases e:t=s
  ·subst e;rw[Zac,List.length_dropLast];have:=q.len t ht;omega
  ·rw[Zad _ _ e];exact q.len t ht
 ·rcases two hs with rfl|rfl
  ·rw[Zac]at h1
   rw[Zad _ _ (by omega)]at h2
   exact q.apart y (by rw[hg];exact h1) h2
  ·rw[Zac]at h2
   rw[Zad _ _ (by omega)]at h1
   exact q.apart y h1 (by rw[hg];exact h2)
 ·refine(hh y (fun e=>q.row_item hs hg hy e.symm) (fun e=>?_)).trans (q.item y hy).2
  subst e
  have:=(q.item y hy).2
  rw[q.box]at this;injection this with this;injection this with _ this;exact absurd this (by decide)
 ·by_cases e:t=s
  ·subst e
   rw[Zac]at hy
   exact q.sub t ht y ((List.dropLast_sublist _).subset hy)
  ·rw[Zad _ _ e]at hy
   exact q.sub t ht y hy
theorem endPop_any(q:QR w B b pre ids vs pl ls){s:Nat}(hs:s<2){m:Nat}(hm:(ls s).length=m+1):Calls Tryz.prog 245 #[endV b s] w fun r w'=>r=.returned (.iface 278 (.pointer (some ⟨(ls s).getD m 0,0,none⟩))) /\
  ∃v',QR w' B b pre ids (updF vs s v') pl (updF ls s (ls s).dropLast)/\OnlyS (QS b ids vs) w w'/\v'.ownBlock=(vs s).ownBlock:=by
 have hne:ls s≠[]:=fun e=>by rw[e]at hm;simp at hm
 have hml:=q.len s hs
 rw[hm]at hml
 have hb1:Below w.heap.size w (w.alloc (.cells #[.pointer (some ⟨b,0,none⟩),.int .i64 s] 261)):=Zaa w _
 have q1:=q.later hb1
 have hs0:(w.alloc (.cells #[.pointer (some ⟨b,0,none⟩),.int .i64 s] 261)).cell? ⟨w.heap.size,0,none⟩=some (.pointer (some ⟨b,0,none⟩)):=by simp
 have hs1:(w.alloc (.cells #[.pointer (some ⟨b,0,none⟩),.int .i64 s] 261)).cell? ⟨w.heap.size,1,none⟩=some (.int .i64 s):=by simp
 obtain⟨g,cap,cur,hv,_,hgw,hcap,_,_,_⟩:=q1.rowC hs hm
 obtain⟨g',cap',hv',hg,hgl,_,hf,hc⟩:=q1.cellR hs hne
 rw[hv]at hv'
 injection hv' with e1 e3 e2
 clear e3
 injection e1 with e1
 injection e1 with e1
 subst e1 e2
 have c0:=q1.cellB hs
 rw[hv]at c0
 have cm:=hc m (by omega)
 have fm:=hf m
 have hsi:(s:Int)<2:=by omega
 have hEN:=q1.not_other (heap_alloc_new w _) (by decide) (by decide) (by decide)
 have heg:w.heap.size≠g:=fun e=>hEN (.own hs (e▸hg))
 have hgb:b≠g:=fun e=>by
  have h2:=hgw
  rw[<-e,q1.box]at h2
  injection h2 with h2;injection h2 with _ h2;exact absurd h2 (by decide)
 have fb:(w.alloc (.cells #[.pointer (some ⟨b,0,none⟩),.int .i64 s] 261)).frozen? ⟨b,s,none⟩=false:=by simp only[World.frozen?,q1.box];simp
 have HSH:Hid (∀n,QR ((((w.alloc (.cells #[.pointer (some ⟨b,0,none⟩),.int .i64 s] 261)).drewN n).setCell ⟨g,m,none⟩ (.pointer none)).setCell ⟨b,s,none⟩ (.slice (some ⟨g,0,none⟩) m cap)) B b pre ids (updF vs s (.slice (some ⟨g,0,none⟩) m cap)) pl (updF ls s (ls s).dropLast)/\OnlyS (QS b ids vs) w ((((w.alloc (.cells #[.pointer (some ⟨b,0,none⟩),.int .i64 s] 261)).drewN n).setCell ⟨g,m,none⟩ (.pointer none)).setCell ⟨b,s,none⟩ (.slice (some ⟨g,0,none⟩) m cap))):=fun n=>by
  have q2:QR ((w.alloc (.cells #[.pointer (some ⟨b,0,none⟩),.int .i64 s] 261)).drewN n) B b pre ids vs pl ls:=q1.keep q1.low fun _ _=>rfl
  obtain⟨h1,h2⟩:=q2.shrink hs hm hv
  exact⟨h1,OnlyS.trans (OnlyS.of_below hb1.drewN) h2⟩
 have HG:Hid ((Value.slice (some ⟨g,0,none⟩) m cap).ownBlock=(vs s).ownBlock):=by show _=_;rw[hg];rfl
 have HR3:∀n j v,j≠s->(((w.alloc (.cells #[.pointer (some ⟨b,0,none⟩),.int .i64 s] 261)).drewN n).setCell ⟨g,m,none⟩ v).cell? ⟨w.heap.size,j,none⟩=(w.alloc (.cells #[.pointer (some ⟨b,0,none⟩),.int .i64 s] 261)).cell? ⟨w.heap.size,j,none⟩:=fun n j v _=>Zbo _ heg m j v
 have hE0:∀n,(((w.alloc (.cells #[.pointer (some ⟨b,0,none⟩),.int .i64 s] 261)).drewN n).setCell ⟨g,m,none⟩ (.pointer none)).cell? ⟨w.heap.size,0,none⟩=some (.pointer (some ⟨b,0,none⟩)):=fun n=>(Zbo _ heg m 0 _).trans hs0
 have hE1:∀n,(((w.alloc (.cells #[.pointer (some ⟨b,0,none⟩),.int .i64 s] 261)).drewN n).setCell ⟨g,m,none⟩ (.pointer none)).cell? ⟨w.heap.size,1,none⟩=some (.int .i64 s):=fun n=>(Zbo _ heg m 1 _).trans hs1
 have hE2:∀n,(((w.alloc (.cells #[.pointer (some ⟨b,0,none⟩),.int .i64 s] 261)).drewN n).setCell ⟨g,m,none⟩ (.pointer none)).cell? ⟨b,s,none⟩=some (.slice (some ⟨g,0,none⟩) (m+1) cap):=fun n=>(Zbo _ hgb m s _).trans c0
 have hE3:∀n,(((w.alloc (.cells #[.pointer (some ⟨b,0,none⟩),.int .i64 s] 261)).drewN n).setCell ⟨g,m,none⟩ (.pointer none)).frozen? ⟨b,s,none⟩=false:=fun n=>(World.frozen?_of_block (Below.heap_setCell _ _ _ _ hgb)).trans fb
 clear HR3 q q1 hc hf hne hgw hEN hv hm hg hb1
 generalize (ls s).getD m 0=x at *
 go_enter Tryz.func245,Tryz.ntmps245
 go_wp2
 go_quiet (fail)
 go_wp2
 go_region
 go_wp2
 go_ret
 obtain⟨q9,o9⟩:=HSH.out (nq+1)
 trace_state
 exact⟨rfl,_,q9,o9,HG.out⟩
end
end Go.Proofs.YtjfmmnhcddckaaaGreat
