import Derived.Shelf.LaysM
import Derived.Shelf.Strconv.Clone
import Derived.Deep.DeepCutAuto
import Derived.BigRegion
import Derived.Deep.RegionWith
import Derived.Test.YtjfmmnhcddckaaaGreatProg
import Derived.Test.YtjfmmnhcddckaaaGreatPk04
set_option maxRecDepth 100000
set_option maxHeartbeats 4000000
namespace Go.Proofs
open Go.Shelf Go.RowKit
def Tryz.strClone_ren : Go.Shelf.Ren := ⟨fun | 316 => 155 | n => n, fun | 9 => 9 | 3 => 3 | 4 => 4 | 37 => 56 | 0 => 0 | 127 => 275 | 5 => 5 | n => n, fun | n => n⟩
theorem Tryz.strClone : Go.Proofs.LaysM.n316 Tryz.prog Tryz.strClone_ren := {
  mixed := by kernel_rfl
  f316 := Tryz.func155.trans (congrArg some (by kernel_rfl))
  t0 := Tryz.underlying0
  a0 := Tryz.isAgg0
  z0 := Tryz.sizeOf0
  v0 := Tryz.zeroValue0
  t3 := Tryz.underlying3
  a3 := Tryz.isAgg3
  z3 := Tryz.sizeOf3
  v3 := Tryz.zeroValue3
  t4 := Tryz.underlying4
  a4 := Tryz.isAgg4
  z4 := Tryz.sizeOf4
  v4 := Tryz.zeroValue4
  t9 := Tryz.underlying9
  a9 := Tryz.isAgg9
  z9 := Tryz.sizeOf9
  v9 := Tryz.zeroValue9
  t37 := Tryz.underlying56
  a37 := Tryz.isAgg56
  z37 := Tryz.sizeOf56
  v37 := Tryz.zeroValue56
  t127 := Tryz.underlying275
  a127 := Tryz.isAgg275
  z127 := Tryz.sizeOf275
  v127 := Tryz.zeroValue275
  t5 := Tryz.underlying5
  a5 := Tryz.isAgg5
  z5 := Tryz.sizeOf5
  v5 := Tryz.zeroValue5
  i0 := by kernel_rfl
  i3 := by kernel_rfl
  i4 := by kernel_rfl
  i5 := by kernel_rfl
  i9 := by kernel_rfl
  i37 := by kernel_rfl
  i127 := by kernel_rfl }
theorem Tryz.lite_clone (s : ByteArray) (w : World) (hlim : s.size ≤ 281474976710656) : Calls Tryz.prog 155 #[.string s] w fun e w' => e = .returned (.string s) ∧ Below w.heap.size w w' := Any.stringslite_Clone Tryz.strClone s w hlim
end Go.Proofs
namespace Go.Proofs.YtjfmmnhcddckaaaGreat
section
open Go.Lib (hid)
open Go.Proofs.Tryz Go.RowKit Go.Maps
open List (mem_append mem_singleton)
open Nat (le_trans)
theorem Ml(k:dl)(w:World)(c:k.length<=1000):Calls prog 102 #[.string ⟨k.toArray⟩] w fun r a=>r=.returned (.string ⟨k.toArray⟩)/\Below w.heap.size w a:=by
 have b:=hid (Tryz.lite_clone ⟨k.toArray⟩ w (by simp[ByteArray.size];omega));go_enter func102,ntmps102;go_wp2_with fail;refine b.out.mono ?_;rintro r d⟨rfl,hb⟩;go_wp2;go_ret;exact⟨rfl,hb⟩
section
variable{h:TrH}{w:World}{gs:List Nat}{l:List TNd}{cl:Int}
theorem TrAt.made(t:TrAt h w gs l cl){W:World}(B:Below w.heap.size w W){n:TNd}{g:Nat}(H:w.heap.size<=g)(i:W.heap[g]?=some (.cells (k8 n) 189 (0,0)))(s:n.pre.length<=1000)(C:ee l n.pre=none)(M:l.length<=1000000)(I:TrOk h.p h.fuel (l++[n])):
  ∃d,(Instr.mapUpdate 119 (.map (some h.mb)) (.string ⟨n.pre.toArray⟩) (.pointer (some ⟨g,0,none⟩))).run prog W=.ok () d/\TrAt h d (gs++[g]) (l++[n]) cl/\OnlyS (fun x=>x=h.mb) w d/\d.cell? ⟨h.b,4,none⟩=some (.map (some h.mb)):=by
 obtain⟨D,u,E,J⟩:=(t.later B).map;have q:=vF s;obtain⟨d,L,y,a⟩:=u.update r8 underlying119 (by unfold maxLen;omega) q (xq (some g))
 have F:OnlyS (fun x=>x=h.mb) W d:=⟨a.os,a.tape,a.output,a.size,fun k s hb=>a.block k s (fun e=>hb (by simpa using e))⟩
 have m:OnlyS (fun x=>x=h.mb) w d:=OnlyS.after B F;have j:=u.tidy r8;have f:WideAt.IsKeyLit (.string n.pre):=by simp[WideAt.IsKeyLit]
 have r:Maps.has D (.string n.pre)=false:=by rw[(E n.pre).2,uT C];rfl
 have z:g≠h.mb:=by
  intro e;obtain⟨N,c,G,_⟩:=u;rw[<-e,i]at G
  cases G
 have T:=t.more H m ((F.block g (Array.getElem?_eq_some_iff.1 i).1 z).trans i) y (fun k=>by
  by_cases e:k=n.pre
  ·subst e
   rw[if_pos rfl,atKey_put_same j.isMap f,has_put_same j.isMap f];exact⟨rfl,rfl⟩
  ·have o:(Lit.string k)≠.string n.pre:=by intro v;injection v with v;exact e v
   rw[if_neg e,atKey_put_other o,has_put_other o]
   exact E k) (by rw[size_put j,r,if_neg (by simp),J]) C I
 exact⟨d,L,T,m,T.cells.2.2.2.2.1⟩
def m5(h:TrH)(gs:List Nat)(l:List TNd)(cl:Int)(w w':World)(n:TNd):Prop:=∃a,TrAt h w' a (l++[n]) cl/\OnlyS (eS h gs) w w'/\∀x∈a,x∈gs∨w.heap.size<=x
def rQ(h:TrH)(gs:List Nat)(l:List TNd)(cl:Int)(k:dl)(asl:Nat)(own:Int)(w:World)(r:Ending)(w':World):Prop:=
 ∃a,r=.returned (.int .i64 (d' h.p h.fuel l k asl own).1)/\TrAt h w' a (d' h.p h.fuel l k asl own).2 cl/\OnlyS (eS h gs) w w'/\∀x∈a,x∈gs∨w.heap.size<=x
theorem tK{k:dl}{asl:Nat}{own e:Int}{w':World}(a:d' h.p h.fuel l k asl own=(e,l))(t:TrAt h w gs l cl)(hb:Below w.heap.size w w'):rQ h gs l cl k asl own w (.returned (.int .i64 e)) w':=by
 refine⟨gs,by rw[a],?_,OnlyS.of_below hb,fun x hx=>.inl hx⟩;rw[a];exact t.later hb
theorem qP{k:dl}{asl:Nat}{own:Int}{s:St}{w':World}(b:d' h.p h.fuel l k asl own=(0,l++[⟨k,own,dn s.all,asl,0,0⟩]))(c:m5 h gs l cl w w' ⟨k,own,dn s.all,asl,0,0⟩):rQ h gs l cl k asl own w (.returned (.int .i64 0)) w':=by
 obtain⟨a,d,e,f⟩:=c;refine⟨a,by rw[b],?_,e,f⟩;rw[b];exact d
theorem Iy(t:TrAt h w gs l cl){k:dl}(hk:k.length<=900){asl:Nat}(ha:asl<256)(own:Int)(hl:l.length<=1000000):Calls prog 64 #[.pointer (some ⟨h.b,0,none⟩),.string ⟨k.toArray⟩,.int .u8 (asl:Nat),.int .i64 own] w (rQ h gs l cl k asl own w):=by
 have HT:=hid t
 rcases hr:dQ h.p h.fuel (dB k)with ⟨e0,es,_|s⟩
 ·have T:Hid (d' h.p h.fuel l k asl own=(e0,l)):=by show _=_;unfold d';rw[hr]
  have aq:=ED hr;have H:=hid (Na t (by omega) hr);have ay:(e0 != 0)=true:=by simpa using aq
  clear t hr aq;go_enter func64,ntmps64;go_wp2_with fail;refine H.out.mono ?_;rintro r w3⟨rfl,B⟩;go_wp2;go_ret;exact tK T.out HT.out B
 obtain⟨rfl,_⟩:=qx hr;have H:=hid (uU t (by omega) hr)
 cases S:ee l k with
 |some i=>
  have T:Hid (d' h.p h.fuel l k asl own=(7,l)):=by show _=_;unfold d';rw[hr,S];rfl
  obtain⟨az,_⟩:=iQ S
  have I:Hid (∀W,Below w.heap.size w W->(Instr.lookup 119 (.map (some h.mb)) (.string ⟨k.toArray⟩) false).run prog W=.ok (.pointer (some ⟨gs[i]'(by have:=t.len;omega),0,none⟩)) W):=fun W hb=>by
   have:=(t.later hb).look (k:=k) (by omega);rw[AT S (by have:=t.len;omega)]at this;exact this
  clear hr S;have av:=HT;clear av;generalize gs[i]'_=g at *;clear t;go_enter func64,ntmps64;go_wp2_with fail;refine H.out.mono ?_;rintro r w3⟨sg,ev,rfl,_,_,_,_,B⟩;have aA:=I.out w3 B;obtain⟨_,_,_,_,c4,_⟩:=(HT.out.later B).cells;go_wp2;go_ret;exact tK T.out HT.out B
 |none=>
  have I:Hid (∀W,Below w.heap.size w W->(Instr.lookup 119 (.map (some h.mb)) (.string ⟨k.toArray⟩) false).run prog W=.ok (.pointer none) W):=fun W hb=>by
   have:=(t.later hb).look (k:=k) (by omega);rw[uT S]at this;exact this
  have HI:=hid S;have ar:=hid (t.ok.snoc S hr ha own)
  have U:Hid ((k=[]∨jS l k=true)->d' h.p h.fuel l k asl own=(0,l++[⟨k,own,dn s.all,asl,0,0⟩])):=fun hc=>by
   unfold d';rw[hr,S];dsimp only;rw[if_neg (by simp),if_neg];rintro⟨h1,h2⟩;rcases hc with hc|hc
   ·exact h1 hc
   ·rw[h2]at hc;cases hc
  have J:Hid (∀W,Calls prog 102 #[.string ⟨k.toArray⟩] W fun r Q=>r=.returned (.string ⟨k.toArray⟩)/\Below W.heap.size W Q):=fun W=>Ml k W (by omega)
  by_cases ad:k=[]
  ·have T:=hid (U.out (.inl ad))
   clear t hr S U;subst ad;have J:Hid (∀W,Calls prog 102 #[.string { data:=#[] }] W fun r Q=>r=.returned (.string { data:=#[] })/\Below W.heap.size W Q):=J;have H:Hid (Calls prog 65 #[.pointer (some ⟨h.b,0,none⟩),.string { data:=#[] }] w fun r Q=>∃g v,r=.returned (.tuple #[.pointer (some ⟨g,0,none⟩),v,.int .i64 0])/\w.heap.size<=g/\di Q g s/\s.Ok h.fuel.toNat/\dr Q w.heap.size v es/\Below w.heap.size w Q):=H;have I:Hid (∀W,Below w.heap.size w W->(Instr.lookup 119 (.map (some h.mb)) (.string { data:=#[] }) false).run prog W=.ok (.pointer none) W):=I;show Calls prog 64 #[.pointer (some ⟨h.b,0,none⟩),.string { data:=#[] },.int .u8 (asl:Nat),.int .i64 own] w (rQ h gs l cl [] asl own w);go_enter func64,ntmps64;go_wp2_with fail;refine H.out.mono ?_;rintro r d⟨sg,ev,rfl,_,ag,y,_,D⟩;have aw:=mS y;have V:=hid ag;have L:=hid y;have C:=hid D;have M:=hid (HT.out.later D);have ae:=I.out d D;obtain⟨_,_,_,_,c4,_⟩:=M.out.cells;clear ag y D;go_wp2_with fail;have E:Below d.heap.size d d.drew:=(Below.refl _ _).drew;have aj:Hid (∀z,Below d.heap.size d z->z.cell? ⟨h.b,4,none⟩=some (.map (some h.mb))):=fun z hb=>(M.out.later hb).cells.2.2.2.2.1
   have N:Hid (∀z,Below d.heap.size d z->∀g:Nat,d.heap.size<=g->z.heap[g]?=some (.cells (k8 ⟨[],own,dn s.all,asl,0,0⟩) 189 (0,0))->∃G,(Instr.mapUpdate 119 (.map (some h.mb)) (.string ⟨List.toArray []⟩) (.pointer (some ⟨g,0,none⟩))).run prog z=.ok () G/\TrAt h G (gs++[g]) (l++[⟨[],own,dn s.all,asl,0,0⟩]) cl/\OnlyS (fun x=>x=h.mb) d G/\G.cell? ⟨h.b,4,none⟩=some (.map (some h.mb))):=fun z hb g hg ak=>M.out.made hb (n:=⟨[],own,dn s.all,asl,0,0⟩) hg ak (by show List.length []<=1000;simp) HI.out hl ar.out
   clear ae;go_wp2_with fail
   go_region_held3 (fun z=>z.cell? ⟨h.b,4,none⟩=some (.map (some h.mb)))
    (first|with_reducible exact ab|with_reducible exact X|((refine aj.out _ ?_;repeat(first|with_reducible exact j|with_reducible exact a|with_reducible exact F|with_reducible exact E|with_reducible refine Below.drew ?_|with_reducible refine Below.alloc ?_ (by first|exact j.size|exact a.size) _))))
    (first
     |(go_at_call 102;((with_reducible refine(J.out d.drew).mono ?_);rintro r w5⟨rfl,hb⟩;have F:Below d.heap.size d w5:=Below.trans E hb;clear hb))
     |(go_at_call 69;((with_reducible refine(lu (b:=sg) (w:=d.drew) (V.out.later E) L.out).mono ?_);rintro r q⟨v6,rfl,e,hb⟩;obtain⟨a6,c6,rfl,f,_⟩:=dC.form e (by omega);have O:=hid f;have a:Below d.heap.size d q:=Below.trans E hb;have u:=a.size;clear hb e f))
     |(go_at_call 69;((with_reducible refine(lu (b:=sg) (w:=w5) (V.out.later F) L.out).mono ?_);rintro r q⟨v6,rfl,e,hb⟩;obtain⟨a6,c6,rfl,f,_⟩:=dC.form e (by omega);have O:=hid f;have a:Below d.heap.size d q:=F.trans (hb.mono F.size);have u:=a.size;clear hb e f))
     |(go_at_call 102;((with_reducible refine(J.out q).mono ?_);rintro r A⟨rfl,hb⟩;have j:Below d.heap.size d A:=a.trans (hb.mono a.size);have P:=j.size;have al:=hid (O.out.later hb);clear hb))
     |(go_at_call 37;((with_reducible refine(ky a6 c6 s.all q O.out (by omega)).mono ?_);rintro r Q⟨rfl,rfl⟩;obtain⟨G,am,m,o,X⟩:=N.out (q.alloc (.cells #[.int .i64 own,.int .u8 (dn s.all:Nat),.int .u8 (asl:Nat),.int .u8 0,.int .u8 0] 189)) (a.alloc a.size (.cells #[.int .i64 own,.int .u8 (dn s.all:Nat),.int .u8 (asl:Nat),.int .u8 0,.int .u8 0] 189)) q.heap.size u (heap_alloc_new q _);have Y:Hid (m5 h gs l cl w G ⟨[],own,dn s.all,asl,0,0⟩):=⟨gs++[q.heap.size],m,OnlyS.after C.out ((o).mono fun x _ hx=>.inr (.inl hx)),(fun x hx=>by(rw[mem_append,mem_singleton]at hx;rcases hx with hx|rfl;exact .inl hx;exact .inr (le_trans C.out.size u)))⟩;clear m o))
     |(go_at_call 37;((with_reducible refine(ky a6 c6 s.all A al.out (by omega)).mono ?_);rintro r Q⟨rfl,rfl⟩;obtain⟨G,am,m,o,X⟩:=N.out (A.alloc (.cells #[.int .i64 own,.int .u8 (dn s.all:Nat),.int .u8 (asl:Nat),.int .u8 0,.int .u8 0] 189)) (j.alloc j.size (.cells #[.int .i64 own,.int .u8 (dn s.all:Nat),.int .u8 (asl:Nat),.int .u8 0,.int .u8 0] 189)) A.heap.size P (heap_alloc_new A _);have Y:Hid (m5 h gs l cl w G ⟨[],own,dn s.all,asl,0,0⟩):=⟨gs++[A.heap.size],m,OnlyS.after C.out ((o).mono fun x _ hx=>.inr (.inl hx)),(fun x hx=>by(rw[mem_append,mem_singleton]at hx;rcases hx with hx|rfl;exact .inl hx;exact .inr (le_trans C.out.size P)))⟩;clear m o))
     |(go_at_call 102;((with_reducible refine(J.out (q.alloc (.cells #[.int .i64 own,.int .u8 (dn s.all:Nat),.int .u8 (asl:Nat),.int .u8 0,.int .u8 0] 189))).mono ?_);rintro r A⟨rfl,hb⟩;have j:Below d.heap.size d A:=(a.alloc a.size (.cells #[.int .i64 own,.int .u8 (dn s.all:Nat),.int .u8 (asl:Nat),.int .u8 0,.int .u8 0] 189)).trans (hb.mono (a.alloc a.size (.cells #[.int .i64 own,.int .u8 (dn s.all:Nat),.int .u8 (asl:Nat),.int .u8 0,.int .u8 0] 189)).size);have P:=j.size;have an:Hid (A.heap[q.heap.size]?=some (.cells #[.int .i64 own,.int .u8 (dn s.all:Nat),.int .u8 (asl:Nat),.int .u8 0,.int .u8 0] 189 (0,0))):=(hb.block q.heap.size (by rw[World.size_alloc];omega)).trans (heap_alloc_new q _);clear hb;obtain⟨ao,au,m,o,ab⟩:=N.out A j q.heap.size u an.out;have ac:Hid (m5 h gs l cl w ao ⟨[],own,dn s.all,asl,0,0⟩):=⟨gs++[q.heap.size],m,OnlyS.after C.out ((o).mono fun x _ hx=>.inr (.inl hx)),(fun x hx=>by(rw[mem_append,mem_singleton]at hx;rcases hx with hx|rfl;exact .inl hx;exact .inr (le_trans C.out.size u)))⟩;clear m o)))
   all_goals go_wp2
   all_goals go_ret
   all_goals first|exact qP T.out ac.out|exact qP T.out Y.out
  ·obtain⟨k',c,af⟩:∃(k':dl) (c:UInt8),k=k'++[c]:=by
    rcases List.eq_nil_or_concat k with h0|⟨k',c,h0⟩
    ·exact absurd h0 ad
    ·exact⟨k',c,by simpa using h0⟩
   have aB:List.isEmpty k=false:=by rw[af];simp
   have Z:Hid (∀W,Below w.heap.size w W->Calls prog 101 #[.pointer (some ⟨h.b,0,none⟩),.string ⟨k.toArray⟩] W fun r Q=>r=.returned (.bool (jS l k))/\Below W.heap.size W Q):=fun W hb=>by
    subst af;exact B4 (HT.out.later hb) k' c (by simp at hk;omega)
   cases R:jS l k
   ·have T:Hid (d' h.p h.fuel l k asl own=(6,l)):=by
     show _=_;unfold d';rw[hr,S];dsimp only;rw[if_neg (by simp),if_pos ⟨ad,R⟩]
    rw[R]at Z;clear t hr S U af R;go_enter func64,ntmps64;go_wp2_with fail;refine H.out.mono ?_;rintro r d⟨sg,ev,rfl,_,_,_,_,D⟩;have C:=hid D;have ae:=I.out d D;obtain⟨_,_,_,_,c4,_⟩:=(HT.out.later D).cells;clear D;go_wp2_with fail;refine(Z.out d C.out).mono ?_;rintro r w5⟨rfl,aa⟩;go_wp2;go_ret;exact tK T.out HT.out (C.out.trans (aa.mono C.out.size))
   ·have T:=hid (U.out (.inr R))
    rw[R]at Z;clear t hr S U af R;go_enter func64,ntmps64;go_wp2_with fail;refine H.out.mono ?_;rintro r w3⟨sg,ev,rfl,_,ah,y,_,B⟩;have ax:=I.out w3 B;obtain⟨_,_,_,_,c3,_⟩:=(HT.out.later B).cells;have ap:=hid B;have ai:=hid ah;have L:=hid y;have aw:=mS y;clear ah y B;go_wp2_with fail;refine(Z.out w3 ap.out).mono ?_;rintro r d⟨rfl,aa⟩;have C:=hid (ap.out.trans (aa.mono ap.out.size));have V:=hid (ai.out.later aa);have M:=hid (HT.out.later C.out);have ae:=I.out d C.out;clear aa ax c3 ai Z;obtain⟨_,_,_,_,c4,_⟩:=M.out.cells;go_wp2_with fail;have E:Below d.heap.size d d.drew:=(Below.refl _ _).drew;have aj:Hid (∀z,Below d.heap.size d z->z.cell? ⟨h.b,4,none⟩=some (.map (some h.mb))):=fun z hb=>(M.out.later hb).cells.2.2.2.2.1
    have N:Hid (∀z,Below d.heap.size d z->∀g:Nat,d.heap.size<=g->z.heap[g]?=some (.cells (k8 ⟨k,own,dn s.all,asl,0,0⟩) 189 (0,0))->∃G,(Instr.mapUpdate 119 (.map (some h.mb)) (.string ⟨List.toArray k⟩) (.pointer (some ⟨g,0,none⟩))).run prog z=.ok () G/\TrAt h G (gs++[g]) (l++[⟨k,own,dn s.all,asl,0,0⟩]) cl/\OnlyS (fun x=>x=h.mb) d G/\G.cell? ⟨h.b,4,none⟩=some (.map (some h.mb))):=fun z hb g hg ak=>M.out.made hb (n:=⟨k,own,dn s.all,asl,0,0⟩) hg ak (by show List.length k<=1000;omega) HI.out hl ar.out
    clear ae;go_wp2_with fail
    go_region_held3 (fun z=>z.cell? ⟨h.b,4,none⟩=some (.map (some h.mb)))
     (first|with_reducible exact ab|with_reducible exact X|((refine aj.out _ ?_;repeat(first|with_reducible exact j|with_reducible exact a|with_reducible exact F|with_reducible exact E|with_reducible refine Below.drew ?_|with_reducible refine Below.alloc ?_ (by first|exact j.size|exact a.size) _))))
     (first
      |(go_at_call 102;((with_reducible refine(J.out d.drew).mono ?_);rintro r w5⟨rfl,hb⟩;have F:Below d.heap.size d w5:=Below.trans E hb;clear hb))
      |(go_at_call 69;((with_reducible refine(lu (b:=sg) (w:=d.drew) (V.out.later E) L.out).mono ?_);rintro r q⟨v6,rfl,e,hb⟩;obtain⟨a6,c6,rfl,f,_⟩:=dC.form e (by omega);have O:=hid f;have a:Below d.heap.size d q:=Below.trans E hb;have u:=a.size;clear hb e f))
      |(go_at_call 69;((with_reducible refine(lu (b:=sg) (w:=w5) (V.out.later F) L.out).mono ?_);rintro r q⟨v6,rfl,e,hb⟩;obtain⟨a6,c6,rfl,f,_⟩:=dC.form e (by omega);have O:=hid f;have a:Below d.heap.size d q:=F.trans (hb.mono F.size);have u:=a.size;clear hb e f))
      |(go_at_call 102;((with_reducible refine(J.out q).mono ?_);rintro r A⟨rfl,hb⟩;have j:Below d.heap.size d A:=a.trans (hb.mono a.size);have P:=j.size;have al:=hid (O.out.later hb);clear hb))
      |(go_at_call 37;((with_reducible refine(ky a6 c6 s.all q O.out (by omega)).mono ?_);rintro r Q⟨rfl,rfl⟩;obtain⟨G,am,m,o,X⟩:=N.out (q.alloc (.cells #[.int .i64 own,.int .u8 (dn s.all:Nat),.int .u8 (asl:Nat),.int .u8 0,.int .u8 0] 189)) (a.alloc a.size (.cells #[.int .i64 own,.int .u8 (dn s.all:Nat),.int .u8 (asl:Nat),.int .u8 0,.int .u8 0] 189)) q.heap.size u (heap_alloc_new q _);have Y:Hid (m5 h gs l cl w G ⟨k,own,dn s.all,asl,0,0⟩):=⟨gs++[q.heap.size],m,OnlyS.after C.out ((o).mono fun x _ hx=>.inr (.inl hx)),(fun x hx=>by(rw[mem_append,mem_singleton]at hx;rcases hx with hx|rfl;exact .inl hx;exact .inr (le_trans C.out.size u)))⟩;clear m o))
      |(go_at_call 37;((with_reducible refine(ky a6 c6 s.all A al.out (by omega)).mono ?_);rintro r Q⟨rfl,rfl⟩;obtain⟨G,am,m,o,X⟩:=N.out (A.alloc (.cells #[.int .i64 own,.int .u8 (dn s.all:Nat),.int .u8 (asl:Nat),.int .u8 0,.int .u8 0] 189)) (j.alloc j.size (.cells #[.int .i64 own,.int .u8 (dn s.all:Nat),.int .u8 (asl:Nat),.int .u8 0,.int .u8 0] 189)) A.heap.size P (heap_alloc_new A _);have Y:Hid (m5 h gs l cl w G ⟨k,own,dn s.all,asl,0,0⟩):=⟨gs++[A.heap.size],m,OnlyS.after C.out ((o).mono fun x _ hx=>.inr (.inl hx)),(fun x hx=>by(rw[mem_append,mem_singleton]at hx;rcases hx with hx|rfl;exact .inl hx;exact .inr (le_trans C.out.size P)))⟩;clear m o))
      |(go_at_call 102;((with_reducible refine(J.out (q.alloc (.cells #[.int .i64 own,.int .u8 (dn s.all:Nat),.int .u8 (asl:Nat),.int .u8 0,.int .u8 0] 189))).mono ?_);rintro r A⟨rfl,hb⟩;have j:Below d.heap.size d A:=(a.alloc a.size (.cells #[.int .i64 own,.int .u8 (dn s.all:Nat),.int .u8 (asl:Nat),.int .u8 0,.int .u8 0] 189)).trans (hb.mono (a.alloc a.size (.cells #[.int .i64 own,.int .u8 (dn s.all:Nat),.int .u8 (asl:Nat),.int .u8 0,.int .u8 0] 189)).size);have P:=j.size;have an:Hid (A.heap[q.heap.size]?=some (.cells #[.int .i64 own,.int .u8 (dn s.all:Nat),.int .u8 (asl:Nat),.int .u8 0,.int .u8 0] 189 (0,0))):=(hb.block q.heap.size (by rw[World.size_alloc];omega)).trans (heap_alloc_new q _);clear hb;obtain⟨ao,au,m,o,ab⟩:=N.out A j q.heap.size u an.out;have ac:Hid (m5 h gs l cl w ao ⟨k,own,dn s.all,asl,0,0⟩):=⟨gs++[q.heap.size],m,OnlyS.after C.out ((o).mono fun x _ hx=>.inr (.inl hx)),(fun x hx=>by(rw[mem_append,mem_singleton]at hx;rcases hx with hx|rfl;exact .inl hx;exact .inr (le_trans C.out.size u)))⟩;clear m o)))
    all_goals go_wp2
    all_goals go_ret
    all_goals first|exact qP T.out ac.out|exact qP T.out Y.out
end
end
section
open Go.RowKit
theorem BD(n:Int)(a:0<=n)(h1:n<=1000000):IntKind.u64.wrap n=n:=by
 unfold IntKind.wrap;simp[IntKind.signed,IntKind.bits];omega
theorem GX{w:World}{a:Option Addr}{l:List Int}(h:iB w a l){k:Nat}(c:k<l.length):∃b o,a=some ⟨b,o,none⟩/\w.cell? ⟨b,o+k,none⟩=some (.int .i64 l[k]):=by
 obtain⟨b,o,rfl,d⟩:=h.2 (by intro e;rw[e]at c;simp at c);exact⟨b,o,rfl,d k c⟩

end
section
open Go.Lib (hid)
open Go.Proofs.Tryz Go.RowKit
theorem My{nx:Int->Option Ev}{e:Ev}{l:List Nat}{k:Nat}(a:k<l.length)(h:apart nx e l[k]=true):dn (ex ((l.take (k+1)).filter (apart nx e)))=wt (dn (ex ((l.take k).filter (apart nx e)))) (l[k]:Int):=by
 rw[List.take_succ_eq_append_getElem a,List.filter_append,y9];simp only[List.filter_cons,h,if_true,List.filter_nil];exact xW _ _
theorem Mz{nx:Int->Option Ev}{e:Ev}{l:List Nat}{k:Nat}(a:k<l.length)(h:apart nx e l[k]=false):dn (ex ((l.take (k+1)).filter (apart nx e)))=dn (ex ((l.take k).filter (apart nx e))):=by
 rw[List.take_succ_eq_append_getElem a,List.filter_append];simp[h]
theorem AJ(o:Option Addr)(nx:Int->Option Ev){asl ear:Nat}(E:asl<256)(F:ear<256)(t:Int)(w:World)
  (Q:∀W,Below w.heap.size w W->∀t,Calls prog 108 #[.pointer o,.int .i64 t] W fun r s=>r=.returned (lU (nx t))/\Below W.heap.size W s):
  Calls prog 90 #[.pointer o,.int .u8 asl,.int .u8 ear,.int .i64 t] w fun r s=>r=.returned (.int .u8 (gj nx asl ear t:Nat))/\Below w.heap.size w s:=by
 have G:=hid Q;clear Q
 cases h:nx t with
 |none=>
  have L:Hid (gj nx asl ear t=0):=by
   show _=_;unfold gj;rw[Mw h];rfl
  have H:=hid h;clear h;go_enter func90,ntmps90;go_wp2_with fail;refine(G.out w (Below.refl _ _) t).mono ?_;rw[H.out,mI];rintro r I⟨rfl,c⟩;have X:=c.size;go_wp2;go_ret;exact⟨by rw[L.out];rfl,c.alloc X _⟩
 |some e=>
  have L:=hid (Mx h E F);have H:=hid h;have aa:=mP (wl (asl|||ear) t);clear h;go_enter func90,ntmps90;go_wp2_with fail;refine(G.out w (Below.refl _ _) t).mono ?_;rw[H.out,ll];rintro r I⟨rfl,c⟩;have N:=c.size;have R:Hid (eo (I.alloc (.cells #[.int .i64 e.thread,.int .i64 e.kind,.int .i64 e.obj,.bool e.fail] 112)) I.heap.size e):=eo.new I e;have p:=hid (c.alloc N (.cells #[.int .i64 e.thread,.int .i64 e.kind,.int .i64 e.obj,.bool e.fail] 112));clear c;go_wp2_with fail;refine(vy E F _).mono ?_;rintro r s⟨rfl,rfl⟩;go_wp2_with fail;refine(BW (lM E F) t _).mono ?_;rintro r s⟨rfl,rfl⟩;go_wp2_with fail;refine(oF (BQ (lM E F) t) _).mono ?_;rintro r S⟨v,rfl,T,q⟩;obtain⟨a3,c3,rfl,A,_⟩:=T.form (by rw[j6];omega);have Y:=hid A;have O:=hid (R.out.later q);have f:=hid (p.out.trans (q.mono p.out.size));clear T A q R p;generalize dW (wl (asl|||ear) t)=l at *;rw[j6]at *;go_wp2_with fail
  go_loopw [11,31] (fun z i wr=>∃k:Nat,k<=l.length/\i=.int .i64 k/\z=.int .u8 (dn (ex ((l.take k).filter (apart nx e))):Nat)/\Hid (Below S.heap.size S wr)) (fun _ i _=>l.length-(intOf i).toNat)
  case atStart=>exact⟨0,Nat.zero_le _,rfl,rfl,Below.refl _ _⟩
  case round=>
   obtain⟨k,hk,rfl,rfl,n⟩:=hrel;have ab:=n.out.size
   by_cases g:k<l.length
   ·obtain⟨b,o3,rfl,P⟩:=GX (Y.out.later n.out) (k:=k) (by rw[j6];exact g)
    rw[y8 g]at P;have Z:=hid (My (nx:=nx) (e:=e) g);have B:=hid (Mz (nx:=nx) (e:=e) g);have j:=hid (f.out.trans (n.out.mono f.out.size))
    cases u:nx (l[k]:Int)with
    |none=>
     have y:=hid (B.out (Ng u));have M:=hid u;clear u;go_wp2_with fail;refine(G.out wr j.out _).mono ?_;rw[M.out,mI];rintro r U⟨rfl,a⟩;have d:=(n.out.trans (a.mono n.out.size)).alloc (by have:=a.size;omega) (.cells #[.int .i64 0,.int .i64 0,.int .i64 0,.bool false] 112);have m:=hid d;clear a d;go_wp2
     go_roundw
     case rel=>exact⟨k+1,by omega,by go_num,by rw[y.out],m.out⟩
     case measure=>simp[intOf];omega
    |some x=>
     have V:=hid (Nf (e:=e) u);have M:=hid u;clear u;go_wp2_with fail;refine(G.out wr j.out _).mono ?_;rw[M.out,ll];rintro r U⟨rfl,a⟩;have ac:=a.size;have d:=(n.out.trans (a.mono n.out.size)).alloc (by have:=a.size;omega) (.cells #[.int .i64 x.thread,.int .i64 x.kind,.int .i64 x.obj,.bool x.fail] 112);have m:=hid d;obtain⟨e0,e1,e2,e3⟩:=(O.out.later d).cells;obtain⟨x0,x1,x2,x3⟩:=(eo.new U x).cells;clear a d;go_wp2_with fail;refine(ry e x _).mono ?_;rintro r w6⟨rfl,C⟩;have D:=hid (m.out.trans (C.mono m.out.size));clear C e0 e1 e2 e3 x0 x1 x2 x3
     cases J:dj e x
     ·have y:=hid (Z.out (by rw[V.out,J];rfl))
      clear J;go_wp2_with fail;refine(p9 (i7 _) _ _).mono ?_;rintro r s⟨rfl,rfl⟩;go_wp2
      go_roundw
      case rel=>exact⟨k+1,by omega,by go_num,by rw[y.out],D.out⟩
      case measure=>simp[intOf];omega
     ·have y:=hid (B.out (by rw[V.out,J];rfl))
      clear J;go_wp2
      go_roundw
      case rel=>exact⟨k+1,by omega,by go_num,by rw[y.out],D.out⟩
      case measure=>simp[intOf];omega
   ·obtain rfl:k=l.length:=by omega
    have j:=hid (f.out.trans (n.out.mono f.out.size))
    have HF:Hid (dn (ex ((l.take l.length).filter (apart nx e)))=gj nx asl ear t):=by
     show _=_;rw[List.take_length,L.out];rfl
    go_wp2;go_ret;exact⟨by rw[<-HF.out];rfl,j.out⟩
theorem AR(o:Option Addr)(a:List Int)(l:∀x∈a,0<=x/\x<8)(p:a.length<=1000){asl:Nat}(m:asl<256)(w:World)
  (n:Calls prog 69 #[.pointer o] w fun r b=>∃v,r=.returned v/\dC b w.heap.size v a/\Below w.heap.size w b):
  Calls prog 74 #[.pointer o,.int .u8 asl] w fun r b=>r=.returned (.bool (gG a asl))/\Below w.heap.size w b:=by
 have q:=hid n;clear n;have s:Hid (bits .andNot .u8 (dn a:Int) (asl:Int)=((wo (dn a) asl:Nat):Int)):=rH (dn a) asl (i7 _) m;have g:=GP l;have i:=BP m l;go_enter func74,ntmps74;go_wp2_with fail;refine q.out.mono ?_;rintro r t⟨v,rfl,u,d⟩;obtain⟨y,z,rfl,k,_⟩:=u.form (by omega);go_wp2_with fail;refine(ky y z a t k p).mono ?_;rintro r b⟨rfl,rfl⟩
 by_cases c:dn a=0
 ·have A:(((dn a:Nat):Int) != 0)=false:=by simp[c]
  have j:Hid (gG a asl=false):=by
   show _=_;rw[g.1 c];rfl
  clear g i c;go_wp2;go_ret;exact⟨by rw[j.out];rfl,d⟩
 ·have A:(((dn a:Nat):Int) != 0)=true:=by simp;omega
  have e:a.isEmpty=false:=by
   cases f:a with
   |nil=>exact absurd (g.2 f) c
   |cons=>rfl
  have j:Hid (((((wo (dn a) asl:Nat):Int))==0)=gG a asl):=by
   show _=_;unfold gG;rw[e]
   cases hb:a.all (dp asl)
   ·have:wo (dn a) asl≠0:=fun h=>by rw[i.1 h]at hb;cases hb
    simp;omega
   ·simp[i.2 hb]
  clear g i c e;go_wp2;go_ret;exact⟨by rw[<-j.out,<-s.out];rfl,d⟩
theorem Al(d:Int){n:Nat}(h:0<n):∃m:Int,IntKind.u64.wrap d=m/\0<=m/\m%(n:Int)=(dD d n:Nat)/\m.tmod (n:Int)=(dD d n:Nat):=by
 have e:IntKind.u64.wrap d=d%18446744073709551616:=by
  unfold IntKind.wrap;simp[IntKind.signed,IntKind.bits]
 have a:0<=d%18446744073709551616:=Int.emod_nonneg _ (by omega);have b:=Int.emod_nonneg (d%18446744073709551616) (by omega:(n:Int)≠0);refine⟨_,e,a,?_,?_⟩
 ·unfold dD
  omega
 ·rw[Int.tmod_eq_emod_of_nonneg a]
  unfold dD;omega
section
variable{h:TrH}{w:World}{gs:List Nat}{l:List TNd}{cl:Int}
def rU(h:TrH)(gs:List Nat)(l:List TNd)(cl:Int)(k:dl)(d:Int)(w:World)(r:Ending)(w':World):Prop:=
 r=.returned (.tuple #[.int .i64 (fK h.p h.fuel l k d).2.1,.int .u8 ((fK h.p h.fuel l k d).2.2.1:Nat),.int .i64 (fK h.p h.fuel l k d).1]) /\
  TrAt h w' gs (fK h.p h.fuel l k d).2.2.2 (if (fK h.p h.fuel l k d).1=0 then cl+1 else cl)/\OnlyS (eS h gs) w w'
theorem AB{k:dl}{d:Int}{w':World}(e:fK h.p h.fuel l k d=(6,0,0,l))(t:TrAt h w' gs l cl)(a:OnlyS (eS h gs) w w'):rU h gs l cl k d w (.returned (.tuple #[.int .i64 0,.int .u8 0,.int .i64 6])) w':=by
 unfold rU;rw[e];exact⟨rfl,t,a⟩
theorem Mr(t:TrAt h w gs l cl)(az:0<=cl/\cl<=1000000){k:dl}(hk:k.length<=1000)(d:Int):Calls prog 84 #[.pointer (some ⟨h.b,0,none⟩),.string ⟨k.toArray⟩,.int .i64 d] w (rU h gs l cl k d w):=by
 cases M:ee l k with
 |none=>
  have HE:Hid (fK h.p h.fuel l k d=(6,0,0,l)):=by show _=_;unfold fK;rw[M]
  have HF:=hid (nS t hk M);have HT:=hid t;clear t M;go_enter func84,ntmps84;go_wp2_with fail;refine HF.out.mono ?_;rintro r w'⟨rfl,rfl⟩;go_wp2;refine bodyPost_ret (v:=.tuple #[.int .i64 0,.int .u8 0,.int .i64 6]) (by simp[results,results84,go_sem]) rfl ?_;exact AB HE.out HT.out (OnlyS.refl _ _)
 |some i=>
  obtain⟨q,E⟩:=iQ M;have f:=t.ok.ok l[i] (List.getElem_mem q);have aa:=t.ok.todo l[i] (List.getElem_mem q);obtain⟨es,s,j,_⟩:=t.ok.row l[i] (List.getElem_mem q);rw[E]at j;obtain⟨hg,c0,c1,c2,c3,c4⟩:=t.node q;have HF:=hid (nR t hk M hg);have HL:=hid (yO f c2 c3 c4);have N:=f.left;have HT:=hid t;have ab:=hid f;have ac:Hid (l.getD i ⟨[],0,0,0,0,0⟩=l[i]):=by show _=_;simp[List.getD,q]
  obtain⟨L,hL⟩:∃L,L=l[i].left:=⟨_,rfl⟩
  by_cases A:dW L=[]
  ·have HE:Hid (fK h.p h.fuel l k d=(6,0,0,l)):=by show _=_;unfold fK;rw[M];simp only[ac.out];rw[if_pos (by rw[<-hL];exact A)]
   have aA:Hid (ex (dW L)=[]):=by show _=_;rw[A];rfl
   rw[<-hL]at HL N;clear t M f aa j A hL c0 c1 c2 c3 c4 E;generalize gs[i]=g at *;go_enter func84,ntmps84;go_wp2_with fail;refine HF.out.mono ?_;rintro r w'⟨rfl,rfl⟩;go_wp2_with fail;refine HL.out.mono ?_;rintro r w1⟨rfl,u⟩;go_wp2_with fail;refine(oF N w1).mono ?_;rw[aA.out];rintro r w2⟨v,rfl,n,C⟩;have B:=u.trans (C.mono u.size);obtain⟨a,aB,rfl,_⟩:=dC.form n (by simp);clear n u C;go_wp2;refine bodyPost_ret (v:=.tuple #[.int .i64 0,.int .u8 0,.int .i64 6]) (by simp[results,results84,go_sem]) rfl ?_;exact AB HE.out (HT.out.later B) (OnlyS.of_below B)
  ·have o:0<(dW L).length:=List.length_pos_iff.2 A
   have h8:=mP L;obtain⟨m,aC,aS,O,P⟩:=Al d o;have D:=lX d o;have ai:Hid (oW h.p h.fuel k=s.next):=by show _=_;unfold oW;rw[j]
   have HE:Hid (fK h.p h.fuel l k d=(0,(((dW L).getD (dD d (dW L).length) 0:Nat):Int),gj s.next l[i].asl l[i].gone ((dW L).getD (dD d (dW L).length) 0:Nat),l.set i { l[i]with gone:=wt l[i].gone ((dW L).getD (dD d (dW L).length) 0:Nat) })):=by
    show _=_;unfold fK;rw[M];simp only[ac.out];rw[if_neg (by rw[<-hL];exact A),<-hL,ai.out]
   obtain⟨I,Q⟩:∃I,I=ex (dW L):=⟨_,rfl⟩
   have R:I.length=(dW L).length:=by rw[Q,j6]
   rw[<-R]at O P D o h8
   obtain⟨K,hK⟩:∃K,K=dD d (dW L).length:=⟨_,rfl⟩
   rw[R,<-hK]at O P D;rw[<-R]at O P D
   obtain⟨x,hx⟩:∃x:Nat,x=(dW L).getD K 0:=⟨_,rfl⟩
   have ad:K<(dW L).length:=by omega
   have HX:Hid (∀h:K<I.length,I[K]=(x:Int)):=fun h=>by
    subst Q;rw[y8 ad,hx];simp[List.getD,ad]
   rw[<-hK,<-hx]at HE;have c:=t.nodes i q hg;have aD:=hid j
   have aj:Hid (∀W:World,W.heap[gs[i]]?=w.heap[gs[i]]?->W.frozen? ⟨gs[i],4,none⟩=false/\W.cell? ⟨gs[i],2,none⟩=some (.int .u8 (l[i].asl:Nat))/\W.cell? ⟨gs[i],4,none⟩=some (.int .u8 (l[i].gone:Nat))):=fun W hW=>by
    rw[c]at hW;exact⟨by simp[World.frozen?,hW],by rw[cell_of_row W _ 2 _ _ _ hW];rfl,by rw[cell_of_row W _ 4 _ _ _ hW];rfl⟩
   have T:=t.lt gs[i] (.inr (.inr (List.getElem_mem hg)));have ah:=hid c
   have aT:Hid (gs[i]≠h.b):=by
    intro e2;have h1:=c;rw[e2,t.box]at h1;injection h1 with h1;injection h1 with h1;unfold oy k8 at h1;simp at h1
   have HN:=hid Q;have aE:wt l[i].gone (x:Int)<256:=p5 f.gone _;rw[<-hL]at HL N;have aF:=hid aa;have aG:=f.asl;have ak:=f.gone;clear t M f aa j A hL c0 c1 c2 c3 c4 E Q R hK hx ad c ai ac;obtain⟨aU,aV⟩:=az;go_enter func84,ntmps84;go_wp2_with fail;refine HF.out.mono ?_;rintro r w'⟨rfl,rfl⟩;go_wp2_with fail;refine HL.out.mono ?_;rintro r w1⟨rfl,u⟩;go_wp2_with fail;refine(oF N w1).mono ?_;rw[<-HN.out];rintro r w2⟨v,rfl,n,C⟩;have B:=u.trans (C.mono u.size);obtain⟨a,aB,rfl,X,_⟩:=dC.form n (by omega);have Y:=hid X;have al:=hid (HT.out.later B);have am:=hid B;clear n u C X B;have aH:decide (I.length=0)=false:=decide_eq_false (by omega);have aI:((I.length:Int)==0)=false:=by rw[beq_eq_false_iff_ne];omega
   go_wp2_with fail
   refine(uU al.out hk aD.out).mono ?_;rintro r J⟨sg,ev,rfl,aW,an,Z,_,U⟩;have aJ:=hid an;have ax:=hid Z;have V:=hid (am.out.trans (U.mono am.out.size));have aK:=hid (al.out.later U);have F:=Y.out.later U;obtain⟨nb,no,rfl,ao⟩:=F.2 (by intro e;rw[e]at o;exact absurd o (Nat.lt_irrefl _));have ap:=ao K D;rw[HX.out D]at ap;have aL:IntKind.u64.wrap (I.length:Int)=I.length:=BD _ (by omega) (by omega);have aX:(K:Int)<I.length:=by omega
   have aR:(0:Int)<=K:=by omega
   clear an Z U F ao Y;have H:J.heap[gs[i]]?=w.heap[gs[i]]?:=V.out.block _ T;have aq:Hid (∀W,Below J.heap.size J W->W.cell? ⟨gs[i],2,none⟩=some (.int .u8 (l[i].asl:Nat))/\W.cell? ⟨gs[i],4,none⟩=some (.int .u8 (l[i].gone:Nat))):=fun W hb=>(aj.out W ((hb.block _ (Nat.lt_of_lt_of_le T V.out.size)).trans H)).2
   have aM:Hid (∀W,Below J.heap.size J W->Calls prog 90 #[.pointer (some ⟨sg,0,none⟩),.int .u8 (l[i].asl:Nat),.int .u8 (l[i].gone:Nat),.int .i64 (x:Int)] W fun r w'=>r=.returned (.int .u8 (gj s.next l[i].asl l[i].gone (x:Int):Nat))/\Below W.heap.size W w'):=fun W hb=>
    AJ (some ⟨sg,0,none⟩) s.next aG ak _ W (fun W' aN t=>oV ((aJ.out.later hb).later aN) ax.out t)
   clear H
   go_upto_region 9 with (fail)
   clear aC O P aL aH aI ap;have ae:Below J.heap.size J J.drew:=(Below.refl _ _).drew;generalize aY:gj s.next l[i].asl l[i].gone (x:Int)=CN at *
   go_region_held3 (fun W=>W.cell? ⟨gs[i],2,none⟩=some (.int .u8 (l[i].asl:Nat))/\W.cell? ⟨gs[i],4,none⟩=some (.int .u8 (l[i].gone:Nat)))
    (first|with_reducible exact aq.out _ ae|with_reducible exact aq.out _ af)
    (first|(go_at_call 90;((with_reducible refine(aM.out _ ae).mono ?_);rintro r z⟨rfl,aO⟩;have af:Below J.heap.size J z:=Below.trans ae aO)))
   have aP:=hid (aK.out.later af);have ar:=hid (V.out.trans (af.mono V.out.size));have y:z.heap[gs[i]]?=w.heap[gs[i]]?:=ar.out.block _ T;obtain⟨f4,_,n4⟩:=aj.out z y;have au:Hid (OnlyS (fun x=>x=gs[i]) z (z.setCell ⟨gs[i],4,none⟩ (.int .u8 (wt l[i].gone (x:Int):Nat)))):=OnlyS.setCell (S:=fun x=>x=gs[i]) (OnlyS.refl _ z) (p:=⟨gs[i],4,none⟩) rfl _
   have ag:Hid (TrAt h (z.setCell ⟨gs[i],4,none⟩ (.int .u8 (wt l[i].gone (x:Int):Nat))) gs (l.set i { l[i]with gone:=wt l[i].gone (x:Int) }) cl):=
    aP.out.put q hg rfl rfl ⟨ab.out.may,ab.out.asl,ab.out.todo,aE⟩ aF.out au.out (by rw[heap_setCell_same z gs[i] 4 _ _ _ (y.trans ah.out)];rfl)
   have HM:Hid (∀x,x=gs[i]->eS h gs x):=fun x hx=>.inr (.inr (hx▸List.getElem_mem hg))
   obtain⟨_,_,_,_,_,k5⟩:=ag.out.cells;have kb:=ag.out.box;have g5:(z.setCell ⟨gs[i],4,none⟩ (.int .u8 (wt l[i].gone (x:Int):Nat))).frozen? ⟨h.b,5,none⟩=false:=by simp[World.frozen?,kb]
   have av:Hid (OnlyS (fun x=>x=h.b) (z.setCell ⟨gs[i],4,none⟩ (.int .u8 (wt l[i].gone (x:Int):Nat))) ((z.setCell ⟨gs[i],4,none⟩ (.int .u8 (wt l[i].gone (x:Int):Nat))).setCell ⟨h.b,5,none⟩ (.int .i64 (cl+1)))):=OnlyS.setCell (S:=fun x=>x=h.b) (OnlyS.refl _ _) (p:=⟨h.b,5,none⟩) rfl _
   have aQ:Hid (TrAt h ((z.setCell ⟨gs[i],4,none⟩ (.int .u8 (wt l[i].gone (x:Int):Nat))).setCell ⟨h.b,5,none⟩ (.int .i64 (cl+1))) gs (l.set i { l[i]with gone:=wt l[i].gone (x:Int) }) (cl+1)):=
    ag.out.count av.out (by rw[heap_setCell_same _ h.b 5 _ _ _ kb];rfl)
   have ay:Hid (OnlyS (eS h gs) w ((z.setCell ⟨gs[i],4,none⟩ (.int .u8 (wt l[i].gone (x:Int):Nat))).setCell ⟨h.b,5,none⟩ (.int .i64 (cl+1)))):=OnlyS.after ar.out ((au.out.mono fun x _ hx=>HM.out x hx).trans (av.out.mono fun x _ hx=>.inl hx));have aw:Hid (∀W,Calls prog 76 #[.int .u8 (l[i].gone:Nat),.int .i64 (x:Int)] W fun r w'=>r=.returned (.int .u8 (wt l[i].gone (x:Int):Nat))/\W=w'):=fun W=>p9 ak (x:Int) W
   clear kb y T;generalize wt l[i].gone (x:Int)=GG at *;generalize l[i].gone=G at *;generalize gs[i]=g at *;go_wp2_with fail;refine(aw.out _).mono ?_;rintro r w'⟨rfl,rfl⟩;clear aw;have aZ:IntKind.i64.wrap (cl+1)=cl+1:=IntWalk.i64_in _ (by omega);go_wp2;refine bodyPost_ret (v:=.tuple #[.int .i64 (x:Int),.int .u8 (CN:Nat),.int .i64 0]) (by simp[results,results84,go_sem]) rfl ?_;unfold rU;rw[HE.out];refine⟨rfl,?_,ay.out⟩;rw[if_pos rfl];exact aQ.out
end
end
section
open Go.RowKit
structure Let where
 s:df
 set:Int
abbrev gC(l:Let):Value:=.agg #[.string ⟨l.s.toArray⟩,.int .u8 l.set]
def nG:Let:=⟨[],0⟩
def iZ:Option Nat->Value
 |none=>.pointer none
 |some x=>.pointer (some ⟨x,0,none⟩)
def o7(le:Nat->Let)(nx:Nat->Option Nat)(x:Nat):Array Value:=#[.string ⟨(le x).s.toArray⟩,.int .u8 (le x).set,iZ (nx x)]
structure MR(w:World)(B b g n:Nat)(ids:List Nat)(le:Nat->Let)(nx:Nat->Option Nat)(cx:Nat->Value)(tot:Int):Prop where
 low:B<=w.heap.size
 lowb:B<=b
 lowg:B<=g
 box:w.heap[b]?=some (.cells #[.slice (some ⟨g,0,none⟩) n n,.int .i64 tot] 124 (0,0))
 row:w.heap[g]?=some (.cells (jx (n*3) cx) 211 (0,0))
 link:∀x∈ids,B<=x/\w.heap[x]?=some (.cells (o7 le nx x) 257 (0,0))
def MS(b g:Nat)(ids:List Nat)(x:Nat):Prop:=x=b∨x=g∨x∈ids
section
variable{w w':World}{B b g n:Nat}{ids:List Nat}{le:Nat->Let}{nx:Nat->Option Nat}{cx:Nat->Value}{tot:Int}
theorem MR.kinds(q:MR w B b g n ids le nx cx tot){x:Nat}(hx:MS b g ids x):B<=x/\∃c a,w.heap[x]?=some (.cells c a (0,0))/\(a=124∨a=211∨a=257):=by
 rcases hx with rfl|rfl|hx
 ·exact⟨q.lowb,_,_,q.box,.inl rfl⟩
 ·exact⟨q.lowg,_,_,q.row,.inr (.inl rfl)⟩
 ·exact⟨(q.link x hx).1,_,_,(q.link x hx).2,.inr (.inr rfl)⟩
theorem MR.lt(q:MR w B b g n ids le nx cx tot){x:Nat}(hx:MS b g ids x):x<w.heap.size:=by
 obtain⟨_,c,a,h,_⟩:=q.kinds hx;exact(Array.getElem?_eq_some_iff.1 h).1
theorem MR.keep(q:MR w B b g n ids le nx cx tot)(c:B<=w'.heap.size)(a:∀x,MS b g ids x->w'.heap[x]?=w.heap[x]?):MR w' B b g n ids le nx cx tot:=
 ⟨c,q.lowb,q.lowg,(a _ (.inl rfl)).trans q.box,(a _ (.inr (.inl rfl))).trans q.row,fun x hx=>⟨(q.link x hx).1,(a x (.inr (.inr hx))).trans (q.link x hx).2⟩⟩
theorem MR.later(q:MR w B b g n ids le nx cx tot)(hb:Below w.heap.size w w'):MR w' B b g n ids le nx cx tot:=
 q.keep (Nat.le_trans q.low hb.size) fun _ hx=>hb.block _ (q.lt hx)
theorem MR.onlyS{S:Nat->Prop}(q:MR w B b g n ids le nx cx tot)(a:OnlyS S w w')(c:∀x,MS b g ids x->¬S x):MR w' B b g n ids le nx cx tot:=
 q.keep (Nat.le_trans q.low a.size) fun x hx=>a.block x (q.lt hx) (c x hx)
theorem MR.bg(q:MR w B b g n ids le nx cx tot):b≠g:=by
 rintro rfl;have:=q.box;rw[q.row]at this;injection this with this;injection this with _ this;exact absurd this (by decide)
theorem MR.xb(q:MR w B b g n ids le nx cx tot){x:Nat}(hx:x∈ids):x≠b:=by
 rintro rfl;have:=q.box;rw[(q.link x hx).2]at this;injection this with this;injection this with _ this;exact absurd this (by decide)
theorem MR.xg(q:MR w B b g n ids le nx cx tot){x:Nat}(hx:x∈ids):x≠g:=by
 rintro rfl;have:=q.row;rw[(q.link x hx).2]at this;injection this with this;injection this with _ this;exact absurd this (by decide)
theorem MR.cellB(q:MR w B b g n ids le nx cx tot):w.cell? ⟨b,0,none⟩=some (.slice (some ⟨g,0,none⟩) n n)/\w.cell? ⟨b,1,none⟩=some (.int .i64 tot):=
 ⟨by rw[cell_of_row w b 0 _ _ _ q.box];rfl,by rw[cell_of_row w b 1 _ _ _ q.box];rfl⟩
theorem MR.cellR(q:MR w B b g n ids le nx cx tot){p:Nat}(a:p<n*3):w.cell? ⟨g,p,none⟩=some (cx p):=by
 rw[cell_of_row w g p _ _ _ q.row,pJ _ a]
theorem MR.cellL(q:MR w B b g n ids le nx cx tot){x:Nat}(hx:x∈ids):w.cell? ⟨x,0,none⟩=some (.string ⟨(le x).s.toArray⟩)/\w.cell? ⟨x,1,none⟩=some (.int .u8 (le x).set)/\w.cell? ⟨x,2,none⟩=some (iZ (nx x)):=
 ⟨by rw[cell_of_row w x 0 _ _ _ (q.link x hx).2];rfl,by rw[cell_of_row w x 1 _ _ _ (q.link x hx).2];rfl,by rw[cell_of_row w x 2 _ _ _ (q.link x hx).2];rfl⟩
theorem MR.frozen(q:MR w B b g n ids le nx cx tot){x:Nat}(hx:MS b g ids x)(j:Nat):w.frozen? ⟨x,j,none⟩=false:=by
 obtain⟨_,c,a,h,_⟩:=q.kinds hx;simp[World.frozen?,h]
theorem MR.storeX(q:MR w B b g n ids le nx cx tot)(p:Nat)(v:Value):MR (w.setCell ⟨g,p,none⟩ v) B b g n ids le nx (db cx p v) tot/\OnlyS (MS b g ids) w (w.setCell ⟨g,p,none⟩ v):=by
 have a:∀y,y≠g->(w.setCell ⟨g,p,none⟩ v).heap[y]?=w.heap[y]?:=fun y c=>Below.heap_setCell _ _ _ _ c
 refine⟨⟨by rw[World.size_setCell];exact q.low,q.lowb,q.lowg,(a _ q.bg).trans q.box,?_,fun x hx=>⟨(q.link x hx).1,(a _ (q.xg hx)).trans (q.link x hx).2⟩⟩,(OnlyS.refl _ _).setCell (p:=⟨g,p,none⟩) (.inr (.inl rfl)) _⟩;rw[heap_setCell_same w g p _ _ _ q.row,LU]
theorem MR.storeN(q:MR w B b g n ids le nx cx tot){x:Nat}(hx:x∈ids)(y:Option Nat):MR (w.setCell ⟨x,2,none⟩ (iZ y)) B b g n ids le (db nx x y) cx tot/\OnlyS (MS b g ids) w (w.setCell ⟨x,2,none⟩ (iZ y)):=by
 have a:∀z,z≠x->(w.setCell ⟨x,2,none⟩ (iZ y)).heap[z]?=w.heap[z]?:=fun z c=>Below.heap_setCell _ _ _ _ c
 refine⟨⟨by rw[World.size_setCell];exact q.low,q.lowb,q.lowg,(a _ (Ne.symm (q.xb hx))).trans q.box,(a _ (Ne.symm (q.xg hx))).trans q.row,fun z c=>⟨(q.link z c).1,?_⟩⟩,(OnlyS.refl _ _).setCell (p:=⟨x,2,none⟩) (.inr (.inr hx)) _⟩
 by_cases e:z=x
 ·subst e
  rw[heap_setCell_same w z 2 _ _ _ (q.link z c).2];simp[o7,dg]
 ·rw[a z e,(q.link z c).2]
  simp[o7,dh _ _ e]
theorem MR.storeT(q:MR w B b g n ids le nx cx tot)(t:Int):MR (w.setCell ⟨b,1,none⟩ (.int .i64 t)) B b g n ids le nx cx t/\OnlyS (MS b g ids) w (w.setCell ⟨b,1,none⟩ (.int .i64 t)):=by
 have a:∀y,y≠b->(w.setCell ⟨b,1,none⟩ (.int .i64 t)).heap[y]?=w.heap[y]?:=fun y c=>Below.heap_setCell _ _ _ _ c
 refine⟨⟨by rw[World.size_setCell];exact q.low,q.lowb,q.lowg,?_,(a _ (Ne.symm q.bg)).trans q.row,fun x hx=>⟨(q.link x hx).1,(a _ (q.xb hx)).trans (q.link x hx).2⟩⟩,(OnlyS.refl _ _).setCell (p:=⟨b,1,none⟩) (.inl rfl) _⟩;rw[heap_setCell_same w b 1 _ _ _ q.box];simp
theorem MR.newLink(q:MR w B b g n ids le nx cx tot)(l:Let){o:Obj}(c:o=.cells #[.string ⟨l.s.toArray⟩,.int .u8 l.set,.pointer none] 257):MR (w.alloc o) B b g n (w.heap.size::ids) (db le w.heap.size l) (db nx w.heap.size none) cx tot:=by
 subst c;have a:=q.later (da w (.cells #[.string ⟨l.s.toArray⟩,.int .u8 l.set,.pointer none] 257));refine⟨a.low,a.lowb,a.lowg,a.box,a.row,fun x hx=>?_⟩
 by_cases e:x=w.heap.size
 ·subst e
  refine⟨q.low,?_⟩;rw[heap_alloc_new];simp[o7,dg,iZ]
 ·rcases List.mem_cons.1 hx with h|h
  ·exact absurd h e
  ·obtain⟨d,f⟩:=a.link x h
   refine⟨d,?_⟩;rw[f];simp[o7,dh _ _ e]
def kQ(nx:Nat->Option Nat)(l:List Nat):Prop:=∀i (h:i<l.length),nx l[i]=l[i+1]?
theorem AH{nx a:Nat->Option Nat}{l:List Nat}(h:kQ nx l)(e:∀x∈l,a x=nx x):kQ a l:=fun i b=>(e _ (List.getElem_mem b)).trans (h i b)
theorem uK{nx:Nat->Option Nat}{x:Nat}{l:List Nat}(h:kQ nx (x::l)):kQ nx l/\nx x=l.head?:=by
 refine⟨fun i a=>h (i+1) (Nat.succ_lt_succ a),?_⟩;have:=h 0 (by simp);simp at this;rw[this]
 cases l <;> rfl
theorem Mu{nx:Nat->Option Nat}{x:Nat}(h:nx x=none):kQ nx [x]:=fun i a=>by
 obtain rfl:i=0:=by simpa using a
 simpa using h
theorem Mt{nx:Nat->Option Nat}{l:List Nat}{y x:Nat}(h:kQ nx (l++[y]))(f:(l++[y]).Nodup)(hx:x∉l++[y])(c:nx x=none):kQ (db nx y (some x)) (l++[y]++[x]):=fun i g=>by
 have o:i<l.length+2:=by simp at g;omega
 by_cases e:i=l.length+1
 ·subst e
  have b:(l++[y]++[x])[l.length+1]=x:=by simp
  rw[b,dh _ _ (by rintro rfl;exact hx (by simp)),c];simp
 ·by_cases j:i=l.length
  ·subst j
   have b:(l++[y]++[x])[l.length]=y:=by simp
   rw[b,dg];simp
  ·have d:i<l.length:=by omega
   have a:i<(l++[y]).length:=by rw[List.length_append];show i<l.length+1;omega
   have b:(l++[y]++[x])[i]=(l++[y])[i]:=List.getElem_append_left a
   have k:(l++[y])[i]≠y:=fun m=>by
    have n:(l++[y])[l.length]'(by simp)=y:=by simp
    exact List.pairwise_iff_getElem.1 f i l.length a (by simp) d (m.trans n.symm)
   rw[b,dh _ _ k];exact(h i a).trans (List.getElem?_append_left (by rw[List.length_append];show i+1<l.length+1;omega)).symm
structure MOk(w:World)(B b g n:Nat)(ids:List Nat)(le:Nat->Let)(nx:Nat->Option Nat)(cx:Nat->Value)(tot:Int)(ls:Nat->List Nat):Prop where
 mr:MR w B b g n ids le nx cx tot
 sub:∀j,j<n->∀x∈ls j,x∈ids
 nodup:∀j,j<n->(ls j).Nodup
 apart:∀j k,j<n->k<n->j≠k->∀x∈ls j,x∉ls k
 first:∀j,j<n->cx (j*3)=iZ (ls j).head?
 last:∀j,j<n->cx (j*3+1)=iZ (ls j).getLast?
 count:∀j,j<n->cx (j*3+2)=.int .i64 (ls j).length
 chain:∀j,j<n->kQ nx (ls j)
theorem MOk.keep{ls:Nat->List Nat}(q:MOk w B b g n ids le nx cx tot ls)(m:MR w' B b g n ids le nx cx tot):MOk w' B b g n ids le nx cx tot ls:=⟨m,q.sub,q.nodup,q.apart,q.first,q.last,q.count,q.chain⟩
theorem qb{cx:Nat->Value}{j k i:Nat}{v0 v1 v2:Value}(a:i<3):db (db (db cx (j*3) v0) (j*3+1) v1) (j*3+2) v2 (k*3+i)=if k=j then (if i=0 then v0 else if i=1 then v1 else v2)else cx (k*3+i):=by
 unfold db
 by_cases e:k=j
 ·subst e
  rw[if_pos rfl];obtain rfl|rfl|rfl:i=0∨i=1∨i=2:=by omega
  ·rw[if_neg (by omega),if_neg (by omega),if_pos (by omega),if_pos rfl]
  ·rw[if_neg (by omega),if_pos rfl,if_neg (by omega),if_pos rfl]
  ·rw[if_pos rfl,if_neg (by omega),if_neg (by omega)]
 ·rw[if_neg e,if_neg (by omega),if_neg (by omega),if_neg (by omega)]
theorem MOk.change{ls:Nat->List Nat}(q:MOk w B b g n ids le nx cx tot ls){d:List Nat}{t:Nat->Let}{l:Nat->Option Nat}{f:Nat->Value}{j:Nat}{o:List Nat}{p:Int}(m:MR w' B b g n d t l f p)
  (u:f (j*3)=iZ o.head?) (v:f (j*3+1)=iZ o.getLast?) (y:f (j*3+2)=.int .i64 o.length) (r:∀k,k≠j->∀i,i<3->f (k*3+i)=cx (k*3+i))
  (h1:∀x∈o,x∈d) (h2:∀x∈ids,x∈d) (D:o.Nodup) (z:∀k,k<n->k≠j->∀x∈o,x∉ls k) (E:kQ l o) (F:∀k,k<n->k≠j->∀x∈ls k,l x=nx x):
  MOk w' B b g n d t l f p (db ls j o):=by
 refine⟨m,fun k c x hx=>?_,fun k c=>?_,fun k i c A s x hx=>?_,fun k c=>?_,fun k c=>?_,fun k c=>?_,fun k c=>?_⟩
 ·by_cases e:k=j
  ·subst e;rw[dg]at hx;exact h1 x hx
  ·rw[dh _ _ e]at hx;exact h2 x (q.sub k c x hx)
 ·by_cases e:k=j
  ·subst e;rw[dg];exact D
  ·rw[dh _ _ e];exact q.nodup k c
 ·by_cases e:k=j
  ·subst e
   rw[dg]at hx;rw[dh _ _ (Ne.symm s)];exact z i A (Ne.symm s) x hx
  ·rw[dh _ _ e]at hx
   by_cases C:i=j
   ·subst C
    rw[dg];exact fun h=>z k c e x h hx
   ·rw[dh _ _ C]
    exact q.apart k i c A s x hx
 ·by_cases e:k=j
  ·subst e;rw[dg];exact u
  ·rw[dh _ _ e];exact(r k e 0 (by omega)).trans (q.first k c)
 ·by_cases e:k=j
  ·subst e;rw[dg];exact v
  ·rw[dh _ _ e];exact(r k e 1 (by omega)).trans (q.last k c)
 ·by_cases e:k=j
  ·subst e;rw[dg];exact y
  ·rw[dh _ _ e];exact(r k e 2 (by omega)).trans (q.count k c)
 ·by_cases e:k=j
  ·subst e;rw[dg];exact E
  ·rw[dh _ _ e];exact AH (q.chain k c) (F k c e)
end
end
section
open Go.Lib (hid)
open Go.Proofs.Tryz Go.RowKit
section
variable{w w':World}{B b g n:Nat}{ids:List Nat}{le:Nat->Let}{nx:Nat->Option Nat}{cx:Nat->Value}{tot:Int}{ls:Nat->List Nat}
def mV(B b g n:Nat)(ids:List Nat)(le:Nat->Let)(tot:Int)(ls:Nat->List Nat)(j:Nat)(l:Let)(w w':World):Prop:=
 ∃x a c d,w.heap.size<=x/\MOk w' B b g n (x::ids) a c d tot (db ls j (ls j++[x]))/\a x=l/\(∀y∈ids,a y=le y)/\OnlyS (MS b g ids) w w'
theorem MR.putX(q:MR w B b g n ids le nx cx tot){p:Nat}(a:p<n*3)(v:Value):w.cell? ⟨g,p,none⟩=some (cx p)/\w.frozen? ⟨g,p,none⟩=false/\MR (w.setCell ⟨g,p,none⟩ v) B b g n ids le nx (db cx p v) tot/\OnlyS (MS b g ids) w (w.setCell ⟨g,p,none⟩ v):=
 ⟨q.cellR a,q.frozen (.inr (.inl rfl)) p,q.storeX p v⟩
theorem xf(q:MOk w B b g n ids le nx cx tot ls){w':World}{j:Nat}(p:j<n){l:Let}{x:Nat}{a:Nat->Value}{d:Nat->Option Nat}(hx:w.heap.size<=x)(m:MR w' B b g n (x::ids) (db le x l) d a tot)
  (s:a (j*3)=iZ (ls j++[x]).head?) (t:a (j*3+1)=iZ (some x)) (u:a (j*3+2)=.int .i64 ((ls j).length+1:Nat)) (v:∀k,k≠j->∀i,i<3->a (k*3+i)=cx (k*3+i))
  (A:kQ d (ls j++[x])) (C:∀k,k<n->k≠j->∀y∈ls k,d y=nx y) (o:OnlyS (MS b g ids) w w'):mV B b g n ids le tot ls j l w w':=by
 have e:∀y∈ids,y<x:=fun y c=>Nat.lt_of_lt_of_le (q.mr.lt (.inr (.inr c))) hx
 have f:∀k,k<n->x∉ls k:=fun k r h=>Nat.lt_irrefl _ (e x (q.sub k r x h))
 refine⟨x,db le x l,d,a,hx,q.change m s ?_ ?_ v ?_ (fun y c=>List.mem_cons_of_mem _ c) ?_ ?_ A C,dg _ _ _,fun y c=>dh _ _ (Nat.ne_of_lt (e y c)),o⟩
 ·rw[t,List.getLast?_append]
  rfl
 ·rw[u,List.length_append]
  rfl
 ·intro y c
  rcases List.mem_append.1 c with h|h
  ·exact List.mem_cons_of_mem _ (q.sub j p y h)
  ·obtain rfl:y=x:=by simpa using h
   exact List.mem_cons_self
 ·rw[List.nodup_append]
  refine⟨q.nodup j p,by simp,fun y c z E=>?_⟩;obtain rfl:z=x:=by simpa using E
  rintro rfl;exact f j p c
 ·intro k r D y c
  rcases List.mem_append.1 c with h|h
  ·exact q.apart j k p r (Ne.symm D) y h
  ·obtain rfl:y=x:=by simpa using h
   exact f k r
theorem FH(q:MOk w B b g n ids le nx cx tot ls){j:Nat}(e:j<n)(l:Let)(c:ls j=[]):
  Calls prog 163 #[.pointer (some ⟨g,j*3,none⟩),gC l] w fun r w'=>r=.returned (.tuple #[])/\mV B b g n ids le tot ls j l w w':=by
 have a:Below w.heap.size w (w.alloc (.cells #[.string ⟨l.s.toArray⟩,.int .u8 l.set] 146)):=da w _;have f:=(q.mr.later a).newLink l rfl;rw[World.size_alloc]at f;have v:OnlyS (MS b g ids) w ((w.alloc (.cells #[.string ⟨l.s.toArray⟩,.int .u8 l.set] 146)).alloc (.cells #[.string ⟨l.s.toArray⟩,.int .u8 l.set,.pointer none] 257)):=OnlyS.of_below (eH w _ _);obtain⟨m,f0,x,z⟩:=f.putX (p:=j*3) (by omega) (.pointer (some ⟨w.heap.size+1,0,none⟩));obtain⟨J,f1,A,C⟩:=x.putX (p:=j*3+1) (by omega) (.pointer (some ⟨w.heap.size+1,0,none⟩));obtain⟨o,f2,D,E⟩:=A.putX (p:=j*3+2) (by omega) (.int .i64 1);rw[q.first j e,c]at m;rw[dh _ _ (by omega),dh _ _ (by omega),q.count j e,c]at o;replace m:_=some (Value.pointer none):=m;replace o:_=some (Value.int .i64 0):=o;have F:=hid D
 have G:=hid (((v.thenS z fun y d h=>h.imp id (·.imp id fun h=>by
  rcases List.mem_cons.1 h with rfl|h
  ·omega
  ·exact h)).thenS C fun y d h=>h.imp id (·.imp id fun h=>by
  rcases List.mem_cons.1 h with rfl|h
  ·omega
  ·exact h)).thenS E fun y d h=>h.imp id (·.imp id fun h=>by
  rcases List.mem_cons.1 h with rfl|h
  ·omega
  ·exact h))
 have Q:=hid q;have t:=hid c;clear q f x A D v z C E c a;go_enter func163,ntmps163;go_wp2;refine bodyPost_end (results_none rfl _ _ _) rfl ⟨rfl,?_⟩;refine xf Q.out e (by omega) F.out ?_ ?_ ?_ (fun k u i H=>?_) ?_ (fun k u I y d=>?_) G.out
 ·have:=qb (cx:=cx) (j:=j) (k:=j) (i:=0) (v0:=.pointer (some ⟨w.heap.size+1,0,none⟩)) (v1:=.pointer (some ⟨w.heap.size+1,0,none⟩)) (v2:=.int .i64 1) (by omega)
  rw[if_pos rfl,if_pos rfl]at this;rw[t.out];exact this
 ·have:=qb (cx:=cx) (j:=j) (k:=j) (i:=1) (v0:=.pointer (some ⟨w.heap.size+1,0,none⟩)) (v1:=.pointer (some ⟨w.heap.size+1,0,none⟩)) (v2:=.int .i64 1) (by omega)
  rw[if_pos rfl,if_neg (by omega),if_pos rfl]at this;exact this
 ·have:=qb (cx:=cx) (j:=j) (k:=j) (i:=2) (v0:=.pointer (some ⟨w.heap.size+1,0,none⟩)) (v1:=.pointer (some ⟨w.heap.size+1,0,none⟩)) (v2:=.int .i64 1) (by omega)
  rw[if_pos rfl,if_neg (by omega),if_neg (by omega)]at this;rw[t.out];exact this
 ·rw[qb H,if_neg u]
 ·rw[t.out]
  exact Mu (dg _ _ _)
 ·have L:=Q.out.mr.lt (.inr (.inr (Q.out.sub k u y d)))
  rw[dh _ _ (by omega)]
theorem uE{w:World}{b g x:Nat}{ids:List Nat}{y:Nat}(a:y<w.heap.size)(hx:w.heap.size<=x)(h:MS b g (x::ids) y):MS b g ids y:=h.imp id (·.imp id fun h=>by
  rcases List.mem_cons.1 h with rfl|h
  ·omega
  ·exact h)
theorem FG(q:MOk w B b g n ids le nx cx tot ls){j:Nat}(c:j<n)(l:Let){u:List Nat}{y:Nat}(m:ls j=u++[y])(Y:u.length<1000000):
  Calls prog 163 #[.pointer (some ⟨g,j*3,none⟩),gC l] w fun r w'=>r=.returned (.tuple #[])/\mV B b g n ids le tot ls j l w w':=by
 have v:Below w.heap.size w (w.alloc (.cells #[.string ⟨l.s.toArray⟩,.int .u8 l.set] 146)):=da w _;have o:=(q.mr.later v).newLink l rfl;rw[World.size_alloc]at o;have P:OnlyS (MS b g ids) w ((w.alloc (.cells #[.string ⟨l.s.toArray⟩,.int .u8 l.set] 146)).alloc (.cells #[.string ⟨l.s.toArray⟩,.int .u8 l.set,.pointer none] 257)):=OnlyS.of_below (eH w _ _);have d:y∈ls j:=by rw[m];simp
 have t:=q.sub j c y d;have N:y<w.heap.size:=q.mr.lt (.inr (.inr t))
 obtain⟨a,E⟩:∃a,(ls j).head?=some a:=by
  rw[m]
  cases u with
  |nil=>exact⟨y,rfl⟩
  |cons a l=>exact⟨a,rfl⟩
 have F:=o.cellR (p:=j*3) (by omega);rw[q.first j c,E]at F;replace F:_=some (Value.pointer (some ⟨a,0,none⟩)):=F;have G:=o.cellR (p:=j*3+1) (by omega);rw[q.last j c,m,List.getLast?_append]at G;replace G:_=some (Value.pointer (some ⟨y,0,none⟩)):=G;have f:y∈(w.heap.size+1)::ids:=List.mem_cons_of_mem _ t;have H:=(o.cellL f).2.2;have fn:=o.frozen (.inr (.inr f)) 2
 have x:db nx (w.heap.size+1) none y=none:=by
  rw[dh _ _ (by omega)];have:=q.chain j c u.length (by rw[m];simp);simp[m]at this;exact this
 rw[x]at H;replace H:_=some (Value.pointer none):=H;obtain⟨A,C⟩:=o.storeN f (some (w.heap.size+1));replace A:MR (World.setCell _ ⟨y,2,none⟩ (.pointer (some ⟨w.heap.size+1,0,none⟩))) B b g n _ _ _ cx tot:=A;replace C:OnlyS _ _ (World.setCell _ ⟨y,2,none⟩ (.pointer (some ⟨w.heap.size+1,0,none⟩))):=C;obtain⟨c1,f1,R,S⟩:=A.putX (p:=j*3+1) (by omega) (.pointer (some ⟨w.heap.size+1,0,none⟩));obtain⟨I,f2,T,U⟩:=R.putX (p:=j*3+2) (by omega) (.int .i64 ((u.length:Int)+1+1));rw[dh _ _ (by omega),q.count j c,m,List.length_append]at I;replace I:_=some (Value.int .i64 ((u.length:Int)+1)):=I;have Z:=hid T;have O5:=hid (((P.thenS C fun y d h=>uE d (by omega) h).thenS S fun y d h=>uE d (by omega) h).thenS U fun y d h=>uE d (by omega) h);have Q:=hid q;have V:=hid m;have HA:=hid E;have HY:=hid d;clear q o A R T P C S U m v E d t f x N;go_enter func163,ntmps163;go_wp2;refine bodyPost_end (results_none rfl _ _ _) rfl ⟨rfl,?_⟩;refine xf Q.out c (by omega) Z.out ?_ ?_ ?_ (fun k J i hi=>?_) ?_ (fun k J O z D=>?_) O5.out
 ·rw[dh _ _ (by omega),dh _ _ (by omega),Q.out.first j c,List.head?_append,HA.out]
  rfl
 ·rw[dh _ _ (by omega),dg]
  rfl
 ·rw[dg,V.out,List.length_append]
  rfl
 ·rw[dh _ _ (by omega),dh _ _ (by omega)]
 ·have L:=Q.out.chain j c
  have W:=Q.out.nodup j c
  have M:w.heap.size+1∉ls j:=fun h=>by
   have:=Q.out.mr.lt (.inr (.inr (Q.out.sub j c _ h)));omega
  have X:∀z∈ls j,db nx (w.heap.size+1) none z=nx z:=fun z D=>dh _ _ fun e=>M (e▸D)
  rw[V.out]at L W M X ⊢;exact Mt (AH L X) W M (dg _ _ _)
 ·have L:=Q.out.mr.lt (.inr (.inr (Q.out.sub k J z D)))
  rw[dh _ _ fun e=>Q.out.apart k j J c O z D (by rw[e];exact HY.out),dh _ _ (by omega)]
theorem Hw(q:MOk w B b g n ids le nx cx tot ls){j:Nat}(c:j<n)(l:Let)(a:(ls j).length<1000000):
  Calls prog 163 #[.pointer (some ⟨g,j*3,none⟩),gC l] w fun r w'=>r=.returned (.tuple #[])/\mV B b g n ids le tot ls j l w w':=by
 by_cases h:ls j=[]
 ·exact FH q c l h
 ·obtain⟨d,y,e⟩:∃d y,ls j=d++[y]:=⟨_,_,(List.dropLast_concat_getLast h).symm⟩
  exact FG q c l e (by rw[e,List.length_append]at a;exact Nat.lt_of_le_of_lt (Nat.le_add_right _ _) a)
def pS(B b g n:Nat)(ids:List Nat)(le:Nat->Let)(nx:Nat->Option Nat)(tot:Int)(ls:Nat->List Nat)(j:Nat)(l:List Nat)(w w':World):Prop:=
 ∃a,MOk w' B b g n ids le nx a tot (db ls j l)/\OnlyS (MS b g ids) w w'
theorem vQ(q:MOk w B b g n ids le nx cx tot ls){j:Nat}(f:j<n){x:Nat}{l:List Nat}(v:ls j=x::l){a:Nat->Value}(m:MR w' B b g n ids le nx a tot)
  (p:a (j*3)=iZ l.head?) (r:a (j*3+1)=iZ l.getLast?) (s:a (j*3+2)=.int .i64 l.length) (t:∀k,k≠j->∀i,i<3->a (k*3+i)=cx (k*3+i))
  (o:OnlyS (MS b g ids) w w'):pS B b g n ids le nx tot ls j l w w':=by
 have z:∀y∈l,y∈ls j:=fun y c=>by rw[v];exact List.mem_cons_of_mem _ c
 have d:=q.chain j f;have e:=q.nodup j f;rw[v]at d e;exact⟨a,q.change m p r s t (fun y c=>q.sub j f y (z y c)) (fun _ h=>h) (List.nodup_cons.1 e).2 (fun k A u y c=>q.apart j k f A (Ne.symm u) y (z y c)) (uK d).1 (fun _ _ _ _ _=>rfl),o⟩
theorem uR{W:World}{y:Nat}{a b:Value}{t:TypeId}(h:W.heap[y]?=some (.cells #[a,b] t (0,0)))(c d:Value):
  W.cell? ⟨y,0,none⟩=some a/\W.frozen? ⟨y,0,none⟩=false/\(W.setCell ⟨y,0,none⟩ c).cell? ⟨y,1,none⟩=some b/\(W.setCell ⟨y,0,none⟩ c).frozen? ⟨y,1,none⟩=false /\
  ((W.setCell ⟨y,0,none⟩ c).setCell ⟨y,1,none⟩ d).cell? ⟨y,0,none⟩=some c/\((W.setCell ⟨y,0,none⟩ c).setCell ⟨y,1,none⟩ d).cell? ⟨y,1,none⟩=some d/\((W.setCell ⟨y,0,none⟩ c).setCell ⟨y,1,none⟩ d).heap[y]?=some (.cells #[c,d] t (0,0)):=by
 have e:=heap_setCell_same W y 0 _ _ c h;have f:=heap_setCell_same _ y 1 _ _ d e;refine⟨by rw[cell_of_row W y 0 _ _ _ h];rfl,by simp[World.frozen?,h],by rw[cell_of_row _ y 1 _ _ _ e];rfl,by simp only[World.frozen?,e];rfl,by rw[cell_of_row _ y 0 _ _ _ f];rfl,by rw[cell_of_row _ y 1 _ _ _ f];rfl,f⟩
theorem tk{S:Nat->Prop}{u W:World}{y:Nat}(o:OnlyS S u W)(d:u.heap.size<=y)(a b:Value):OnlyS S u ((W.setCell ⟨y,0,none⟩ a).setCell ⟨y,1,none⟩ b):=by
 have c:OnlyS (fun z=>z=y) W ((W.setCell ⟨y,0,none⟩ a).setCell ⟨y,1,none⟩ b):=((OnlyS.refl (fun z=>z=y) W).setCell (p:=⟨y,0,none⟩) rfl a).setCell (p:=⟨y,1,none⟩) rfl b;exact o.thenS c fun x hx h=>by subst h;omega
theorem CU(q:MOk w B b g n ids le nx cx tot ls){j:Nat}(l:j<n){x:Nat}(f:ls j=[x]):
  Calls prog 124 #[.pointer (some ⟨g,j*3,none⟩)] w fun r w'=>r=.returned (gC (le x))/\pS B b g n ids le nx tot ls j [] w w':=by
 have c:Below w.heap.size w (w.alloc (.cells #[.string ⟨#[]⟩,.int .u8 0] 146)):=da w _;have a:¬MS b g ids w.heap.size:=fun h=>Nat.lt_irrefl _ (q.mr.lt h)
 have t:=q.mr.later c;have hx:x∈ids:=q.sub j l x (by rw[f];simp);have u:=t.cellR (p:=j*3) (by omega);rw[q.first j l,f]at u;replace u:_=some (Value.pointer (some ⟨x,0,none⟩)):=u;have y:=(t.cellL hx).2.2;have d:=q.chain j l;rw[f]at d;rw[(uK d).2]at y;replace y:_=some (Value.pointer none):=y;obtain⟨T,f0,A,C⟩:=t.putX (p:=j*3) (by omega) (.pointer none);have L:=A.cellR (p:=j*3) (by omega);rw[dg]at L;obtain⟨U,f2,H,D⟩:=A.putX (p:=j*3+1) (by omega) (.pointer none);obtain⟨E,f3,F,G⟩:=H.putX (p:=j*3+2) (by omega) (.int .i64 0);rw[dh _ _ (by omega),dh _ _ (by omega),q.count j l,f]at E;replace E:_=some (Value.int .i64 1):=E;obtain⟨Q,R,_⟩:=F.cellL hx;have I:=(((OnlyS.of_below (S:=MS b g ids) c).trans C).trans D).trans G
 have m:=(((C.trans D).trans G).row (heap_alloc_new w _) a)
 obtain⟨V,W,X,Y,M,N,o⟩:=uR m (.string ⟨(le x).s.toArray⟩) (.int .u8 (le x).set);have J:=F.onlyS (((OnlyS.refl (fun z=>z=w.heap.size) _).setCell (p:=⟨w.heap.size,0,none⟩) rfl (.string ⟨(le x).s.toArray⟩)).setCell (p:=⟨w.heap.size,1,none⟩) rfl (.int .u8 (le x).set)) fun z O e=>a (e▸O)
 have P:=hid (vQ q l f J (by rw[dh _ _ (by omega),dh _ _ (by omega),dg];rfl) (by rw[dh _ _ (by omega),dg];rfl) (by rw[dg];rfl) (fun k Z i hi=>by rw[dh _ _ (by omega),dh _ _ (by omega),dh _ _ (by omega)]) (tk I (Nat.le_refl _) _ _));clear q t A H F J C D G I f c hx d m o a;go_enter func124,ntmps124;go_wp2;refine bodyPost_ret (v:=gC (le x)) (by simp[results,results124,go_sem,M,N]) rfl ?_;exact⟨rfl,P.out⟩
theorem CV(q:MOk w B b g n ids le nx cx tot ls){j:Nat}(m:j<n){x u:Nat}{l:List Nat}(c:ls j=x::u::l)(L:l.length<1000000):
  Calls prog 124 #[.pointer (some ⟨g,j*3,none⟩)] w fun r w'=>r=.returned (gC (le x))/\pS B b g n ids le nx tot ls j (u::l) w w':=by
 have d:Below w.heap.size w (w.alloc (.cells #[.string ⟨#[]⟩,.int .u8 0] 146)):=da w _;have a:¬MS b g ids w.heap.size:=fun h=>Nat.lt_irrefl _ (q.mr.lt h)
 have y:=q.mr.later d;have hx:x∈ids:=q.sub j m x (by rw[c];simp);have A:=y.cellR (p:=j*3) (by omega);rw[q.first j m,c]at A;replace A:_=some (Value.pointer (some ⟨x,0,none⟩)):=A;have C:=(y.cellL hx).2.2;have f:=q.chain j m;rw[c]at f;rw[(uK f).2]at C;replace C:_=some (Value.pointer (some ⟨u,0,none⟩)):=C;obtain⟨U,f0,D,E⟩:=y.putX (p:=j*3) (by omega) (.pointer (some ⟨u,0,none⟩));have M:=D.cellR (p:=j*3) (by omega);rw[dg]at M;obtain⟨F,f3,G,H⟩:=D.putX (p:=j*3+2) (by omega) (.int .i64 ((l.length:Int)+1));rw[dh _ _ (by omega),q.count j m,c]at F;replace F:_=some (Value.int .i64 ((l.length:Int)+1+1)):=F;obtain⟨R,T,_⟩:=G.cellL hx;have I:=((OnlyS.of_below (S:=MS b g ids) d).trans E).trans H
 have o:=((E.trans H).row (heap_alloc_new w _) a)
 obtain⟨V,W,X,Y,N,O,t⟩:=uR o (.string ⟨(le x).s.toArray⟩) (.int .u8 (le x).set);have J:=G.onlyS (((OnlyS.refl (fun z=>z=w.heap.size) _).setCell (p:=⟨w.heap.size,0,none⟩) rfl (.string ⟨(le x).s.toArray⟩)).setCell (p:=⟨w.heap.size,1,none⟩) rfl (.int .u8 (le x).set)) fun z P e=>a (e▸P)
 have Q:=hid (vQ q m c J (by rw[dh _ _ (by omega),dg];rfl) (by
  rw[dh _ _ (by omega),dh _ _ (by omega),q.last j m,c]
  rfl) (by rw[dg];rfl) (fun k Z i hi=>by rw[dh _ _ (by omega),dh _ _ (by omega)]) (tk I (Nat.le_refl _) _ _))
 clear q y D G J E H I c d hx f o t a;go_enter func124,ntmps124;go_wp2;refine bodyPost_ret (v:=gC (le x)) (by simp[results,results124,go_sem,N,O]) rfl ?_;exact⟨rfl,Q.out⟩
theorem Ht(q:MOk w B b g n ids le nx cx tot ls){j:Nat}(c:j<n){x:Nat}{l:List Nat}(d:ls j=x::l)(a:l.length<1000000):
  Calls prog 124 #[.pointer (some ⟨g,j*3,none⟩)] w fun r w'=>r=.returned (gC (le x))/\pS B b g n ids le nx tot ls j l w w':=by
 cases l with
 |nil=>exact CU q c d
 |cons e l=>exact CV q c d (Nat.lt_of_le_of_lt (Nat.le_succ _) a)
end
theorem uG(k:df)(w:World)(c:k.length<=281474976710656):Calls prog 102 #[.string ⟨k.toArray⟩] w fun r a=>r=.returned (.string ⟨k.toArray⟩)/\Below w.heap.size w a:=by
 have b:=hid (Tryz.lite_clone ⟨k.toArray⟩ w (by simp[ByteArray.size];omega));go_enter func102,ntmps102;go_wp2_with fail;refine b.out.mono ?_;rintro r d⟨rfl,hb⟩;go_wp2;go_ret;exact⟨rfl,hb⟩
def fh{α:Type}(n:Nat)(T:Nat->List α):Nat:=((List.range n).map fun j=>(T j).length).sum
theorem ng{α:Type}(n:Nat)(T:Nat->List α):fh (n+1) T=fh n T+(T n).length:=by
 simp[fh,List.range_succ]
theorem Cx{α:Type}{n:Nat}{T U:Nat->List α}(h:∀j,j<n->(T j).length=(U j).length):fh n T=fh n U:=by
 induction n with
 |zero=>rfl
 |succ n a=>rw[ng,ng,a fun j b=>h j (by omega),h n (by omega)]
theorem vJ{α:Type}{n j:Nat}(T:Nat->List α)(l:List α)(b:j<n):fh n (db T j l)+(T j).length=fh n T+l.length:=by
 induction n with
 |zero=>omega
 |succ n a=>
  rw[ng,ng]
  by_cases e:j=n
  ·subst e
   rw[dg,Cx (U:=T) fun k c=>by rw[dh _ _ (by omega)]];omega
  ·rw[dh _ _ (Ne.symm e)]
   have:=a (by omega);omega
theorem r'{α:Type}{n j:Nat}(T:Nat->List α)(b:j<n):(T j).length<=fh n T:=by
 induction n with
 |zero=>omega
 |succ n a=>
  rw[ng]
  by_cases e:j=n
  ·subst e;omega
  ·have:=a (by omega)
   omega
section
variable{w w':World}{B b g n:Nat}{ids:List Nat}{le:Nat->Let}{nx:Nat->Option Nat}{cx:Nat->Value}{tot:Int}{ls:Nat->List Nat}
def MU(w:World)(B b n:Nat)(S:Nat->Prop)(T:Nat->List Let):Prop:=∃g ids le nx cx ls,MOk w B b g n ids le nx cx (fh n T:Nat) ls/\(∀j,j<n->(ls j).map le=T j)/\∀x,MS b g ids x↔S x
theorem MU.onlyS{S R:Nat->Prop}{T:Nat->List Let}(h:MU w B b n S T)(c:OnlyS R w w')(d:∀x,S x->¬R x):MU w' B b n S T:=by
 obtain⟨g,ids,le,nx,cx,ls,q,e,a⟩:=h;exact⟨g,ids,le,nx,cx,ls,q.keep (q.mr.onlyS c fun x hx=>d x ((a x).1 hx)),e,a⟩
theorem MU.later{S:Nat->Prop}{T:Nat->List Let}(h:MU w B b n S T)(hb:Below w.heap.size w w'):MU w' B b n S T:=by
 obtain⟨g,ids,le,nx,cx,ls,q,a,c⟩:=h;exact⟨g,ids,le,nx,cx,ls,q.keep (q.mr.later hb),a,c⟩
theorem MU.kinds{S:Nat->Prop}{T:Nat->List Let}(h:MU w B b n S T){x:Nat}(hx:S x):B<=x/\∃c a,w.heap[x]?=some (.cells c a (0,0))/\(a=124∨a=211∨a=257):=by
 obtain⟨g,ids,le,nx,cx,ls,q,e,d⟩:=h;exact q.mr.kinds ((d x).2 hx)
theorem MU.lt{S:Nat->Prop}{T:Nat->List Let}(h:MU w B b n S T){x:Nat}(hx:S x):x<w.heap.size:=by
 obtain⟨_,c,a,e,_⟩:=h.kinds hx;exact(Array.getElem?_eq_some_iff.1 e).1
theorem MU.not_row{S:Nat->Prop}{T:Nat->List Let}(q:MU w B b n S T){g:Nat}{c:Array Value}{a:TypeId}(h:w.heap[g]?=some (.cells c a (0,0)))(h1:a≠124)(h2:a≠211)(d:a≠257):¬S g:=fun hx=>by
 obtain⟨_,j,i,e,f⟩:=q.kinds hx;rw[h]at e;injection e with e;injection e with _ e;rcases f with rfl|rfl|rfl
 ·exact h1 e
 ·exact h2 e
 ·exact d e
theorem MU.low{S:Nat->Prop}{T:Nat->List Let}(h:MU w B b n S T):B<=w.heap.size:=by
 obtain⟨g,ids,le,nx,cx,ls,q,a,c⟩:=h;exact q.mr.low
theorem zx(q:MOk w B b g n ids le nx cx tot ls){j:Nat}(a:j<n):Calls prog 162 #[.pointer (some ⟨b,0,none⟩),.int .i64 j] w fun r w'=>r=.returned (.bool true)/\w=w':=by
 obtain⟨c,_⟩:=q.mr.cellB;have d:(0:Int)<=(j:Int):=by omega
 have e:(j:Int)<(n:Int):=by omega
 clear q;go_enter func162,ntmps162;go_wp2;go_ret;exact⟨rfl,rfl⟩
theorem yC(q:MOk w B b g n ids le nx cx tot ls){j:Nat}(a:j<n):Calls prog 123 #[.pointer (some ⟨b,0,none⟩),.int .i64 j] w fun r w'=>r=.returned (.int .i64 (ls j).length)/\w=w':=by
 have c:=hid (zx q a);obtain⟨e,_⟩:=q.mr.cellB;have d:=q.mr.cellR (p:=j*3+2) (by omega);rw[q.count j a]at d;have f:(j:Int)<(n:Int):=by omega
 clear q;go_enter func123,ntmps123;go_wp2_with fail;refine c.out.mono ?_;rintro r w'⟨rfl,rfl⟩;go_wp2;go_ret;exact⟨rfl,rfl⟩
theorem IN{S:Nat->Prop}{T:Nat->List Let}(h:MU w B b n S T){j:Nat}(a:j<n):Calls prog 123 #[.pointer (some ⟨b,0,none⟩),.int .i64 j] w fun r w'=>r=.returned (.int .i64 (T j).length)/\w=w':=by
 obtain⟨g,ids,le,nx,cx,ls,q,c,d⟩:=h;have:=yC q a;rw[<-c j a,List.length_map];exact this
theorem IH{S:Nat->Prop}{T:Nat->List Let}(h:MU w B b n S T):Calls prog 40 #[.pointer (some ⟨b,0,none⟩)] w fun r w'=>r=.returned (.int .i64 (fh n T:Nat))/\w=w':=by
 obtain⟨g,ids,le,nx,cx,ls,q,a,c⟩:=h;obtain⟨_,d⟩:=q.mr.cellB;clear q a c;go_enter func40,ntmps40;go_wp2;go_ret;exact⟨rfl,rfl⟩
end
end
end Go.Proofs.YtjfmmnhcddckaaaGreat
