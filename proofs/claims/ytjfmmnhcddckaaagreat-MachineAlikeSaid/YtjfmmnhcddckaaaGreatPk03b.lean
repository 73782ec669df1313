import Derived.Laws.CopyOwn
import Derived.Lib.SliceRun
import Derived.Deep.OwnRows
import Derived.Laws.Shifts
import Derived.Test.YtjfmmnhcddckaaaGreatPk01
import Derived.Test.YtjfmmnhcddckaaaGreatPk02
import Derived.Test.YtjfmmnhcddckaaaGreatPk03
set_option maxRecDepth 100000
set_option maxHeartbeats 1000000
namespace Go.Proofs.YtjfmmnhcddckaaaGreat
open Go.RowKit
theorem Zfz{P:Program}(w:World)(dT sT ty elem:TypeId)(k g n dCap:Nat)(sp:Option Addr)(sCap:Nat)(cur:Array Value)(t:TypeId)(cs:List Value)
  (hu:P.underlying dT=some (.slice elem)) (hs:(P.info? elem).map (·.size)=some k)
  (hg:w.heap[g]?=some (.cells cur t (0,0))) (hcs:cs.length=n*k) (hcur:cur.size=n*k)
  (hsrc:cs≠[]->∃ad,sp=some ad/\∀j v,cs[j]?=some v->w.cell? (ad.add j)=some v) (h1:∀v∈cs,v.oneCell'=true):
  (Builtin.copy_ #[dT,sT] ty #[.slice (some ⟨g,0,none⟩) n dCap,.slice sp n sCap]).run P w=.ok (goInt n) (w.setRow g cs.toArray):=by
 cases hq:P.info? elem with
 |none=>simp[hq]at hs
 |some i=>
  have hi:i.size=k:=by simpa [hq]using hs
  by_cases h0:cs=[]
  ·subst h0
   have hnk:n*k=0:=by simpa using hcs.symm
   have e1:cur=#[]:=Array.eq_empty_of_size_eq_zero (by omega)
   subst e1
   have hl:∀(x:Addr),(loadCells x 0).run P w=.ok #[] w:=fun x=>by simpa using run_loadCells_list (P:=P) w x [] (by simp)
   have hse:w.setRow g #[]=w:=setRow_self w g #[] t (0,0) hg
   cases sp <;> simp[Builtin.copy_,run_underlying hu,Builtin.lenOf,Builtin.firstCells,sizeOf,typeInfo,hq,hi,hnk,storeCells,hl,hse]
  ·obtain⟨ad,rfl,hsrc'⟩:=hsrc h0
   have hl:=run_loadCells_list (P:=P) w ad cs hsrc'
   have hst:=run_storeCells_at P g 0 t cs 0 cur w hg (by omega) h1
   have hd:List.drop cs.length cur.toList=[]:=by rw[List.drop_eq_nil_iff];simp;omega
   simp[hd]at hst
   simp[Builtin.copy_,run_underlying hu,Builtin.lenOf,Builtin.firstCells,sizeOf,typeInfo,hq,hi,<-hcs,hl,hst]
theorem ZlD{α:Type}(xs:Array α)(x:α)(f:α->α):(xs.push x).modify xs.size f=xs.push (f x):=by
 apply Array.ext_getElem?
 intro i
 rw[Array.getElem?_modify,Array.getElem?_push,Array.getElem?_push]
 by_cases h:xs.size=i
 ·rw[if_pos h,if_pos h.symm,if_pos h.symm];rfl
 ·rw[if_neg h,if_neg (fun e=>h e.symm),if_neg (fun e=>h e.symm)]
theorem ZdS(w:World)(c cs:Array Value)(t:TypeId):(w.alloc (.cells c t)).setRow w.heap.size cs=w.alloc (.cells cs t):=by
 show({ w with heap:=(w.heap.push (.cells c t)).modify w.heap.size _ }:World)={ w with heap:=w.heap.push (.cells cs t) }
 rw[ZlD]
theorem Zl4(w:World):
  Calls Tryz.prog 100 #[.slice none 0 0] w fun r w'=>r=.returned (.slice none 0 0)/\w=w':=by
 have he:=fun w=>Lib.run_eql_slice_nil (P:=Tryz.prog) w 64 63 none 0 0 0 0 Tryz.underlying64
 go_enter Tryz.func100,Tryz.ntmps100
 go_wp2
 go_ret
 exact⟨rfl,rfl⟩
theorem Zl5(b:Addr)(cap:Nat)(l:List Ins)(w:World)(hc0:∀j v,(ZaG l)[j]?=some v->w.cell? (b.add j)=some v)(hm:l.length<=1000000):
  Calls Tryz.prog 100 #[.slice (some b) l.length cap] w fun r w'=>r=.returned (.slice (some ⟨w.heap.size,0,none⟩) l.length l.length)/\w.alloc (.cells (ZaG l).toArray 63)=w':=by
 have he:=fun w=>Lib.run_eql_slice_nil (P:=Tryz.prog) w 64 63 (some b) l.length cap 0 0 Tryz.underlying64
 have hc:=Lib.hid hc0
 clear hc0
 have hmk:=ZbG (P:=Tryz.prog) 64 63 (.agg #[.int .i64 0,.int .i64 0,.int .i64 0,.int .i64 0]) 4 32 Tryz.underlying64 (by kernel_rfl) l.length (by omega) (by omega)
 have hcp:(Builtin.copy_ #[64,64] 3 #[.slice (some ⟨w.heap.size,0,none⟩) l.length l.length,.slice (some b) l.length cap]).run Tryz.prog
   (w.alloc (.cells (madeCells #[.int .i64 0,.int .i64 0,.int .i64 0,.int .i64 0] (l.length*4)) 63))=.ok (.int .i64 l.length) (w.alloc (.cells (ZaG l).toArray 63)):=by
  have:=Zfz (P:=Tryz.prog) (w.alloc (.cells (madeCells #[.int .i64 0,.int .i64 0,.int .i64 0,.int .i64 0] (l.length*4)) 63)) 64 64 3 63 4 w.heap.size l.length l.length
   (some b) cap (madeCells #[.int .i64 0,.int .i64 0,.int .i64 0,.int .i64 0] (l.length*4)) 63 (ZaG l) Tryz.underlying64 (by kernel_rfl) (MapKept.heap_alloc w _).1 (Zbq l) (size_madeCells _ _)
   (fun _=>⟨_,rfl,fun j v hv=>Zab (Zaa w _) (hc.out j v hv)⟩) (ZfK l)
  rw[ZdS]at this
  exact this
 go_enter Tryz.func100,Tryz.ntmps100
 go_wp2
 go_ret
 exact⟨rfl,rfl⟩
def slC3(c:Option Addr × Nat × Nat):Value:=.slice c.1 c.2.1 c.2.2
theorem Zg4(w:World):
  Calls Tryz.prog 99 #[.slice none 0 0] w fun r w'=>r=.returned (.slice none 0 0)/\w=w':=by
 have he:=fun w=>Lib.run_eql_slice_nil (P:=Tryz.prog) w 22 64 none 0 0 0 0 Tryz.underlying22
 go_enter Tryz.func99,Tryz.ntmps99
 go_wp2
 go_ret
 exact⟨rfl,rfl⟩
theorem Zg5(b:Addr)(cap:Nat)(cs:List (Option Addr × Nat × Nat))(w:World)(hc:∀j v,(cs.map slC3)[j]?=some v->w.cell? (b.add j)=some v)(hm:cs.length<=1000000):
  Calls Tryz.prog 99 #[.slice (some b) cs.length cap] w fun r w'=>r=.returned (.slice (some ⟨w.heap.size,0,none⟩) cs.length cs.length)/\w.alloc (.cells (cs.map slC3).toArray 64)=w':=by
 have he:=fun w=>Lib.run_eql_slice_nil (P:=Tryz.prog) w 22 64 (some b) cs.length cap 0 0 Tryz.underlying22
 have hmk:=ZbG (P:=Tryz.prog) 22 64 (.slice none 0 0) 1 24 Tryz.underlying22 (by kernel_rfl) cs.length (by omega) (by omega)
 have hcp:(Builtin.copy_ #[22,22] 3 #[.slice (some ⟨w.heap.size,0,none⟩) cs.length cs.length,.slice (some b) cs.length cap]).run Tryz.prog
   (w.alloc (.cells (madeCells #[.slice none 0 0] cs.length) 64))=.ok (.int .i64 cs.length) (w.alloc (.cells (cs.map slC3).toArray 64)):=by
  have:=Zfz (P:=Tryz.prog) (w.alloc (.cells (madeCells #[.slice none 0 0] cs.length) 64)) 22 22 3 64 1 w.heap.size cs.length cs.length
   (some b) cap (madeCells #[.slice none 0 0] cs.length) 64 (cs.map slC3) Tryz.underlying22 (by kernel_rfl) (MapKept.heap_alloc w _).1 (by simp) (by simp[size_madeCells])
   (fun _=>⟨_,rfl,fun j v hv=>Zab (Zaa w _) (hc j v hv)⟩) (by intro v hv;obtain⟨x,_,rfl⟩:=List.mem_map.1 hv;rfl)
  rw[ZdS]at this
  exact this
 clear hc
 have HW:∃cv,cv=(cs.map slC3).toArray:=⟨_,rfl⟩
 obtain⟨cv,hcv⟩:=HW
 rw[<-hcv]at hcp ⊢
 have HC:=Lib.hid hcv
 clear hcv
 go_enter Tryz.func99,Tryz.ntmps99
 go_wp2
 go_ret
 exact⟨rfl,rfl⟩
def Zew(w:World)(B g0:Nat)(c:Option Addr)(l:List Ins):Prop:=
 l≠[]->∃g,c=some ⟨g,0,none⟩/\B<=g/\g≠g0/\w.heap[g]?=some (.cells (ZaG l).toArray 63 (0,0))
def ZaB(w:World)(B:Nat)(a:Option Addr)(ts:List (List Ins)):Prop:=
 ts≠[]->∃g vs,a=some ⟨g,0,none⟩/\B<=g/\w.heap[g]?=some (.cells (List.toArray vs) 64 (0,0))/\vs.length=ts.length /\
  ∀i (h:i<ts.length),∃c cap,vs[i]?=some (.slice c ts[i].length cap)/\(c=none->cap=0)/\Zew w B g c ts[i]
theorem ZaB.at{w:World}{B:Nat}{a:Option Addr}{ts:List (List Ins)}(h:ZaB w B a ts)(hm:ts.length<=maxLen)(hms:∀l∈ts,l.length<=maxLen):Zaf w a ts:=by
 refine⟨hm,fun hn=>?_⟩
 obtain⟨g,vs,rfl,_,hg,hl,hv⟩:=h hn
 refine⟨g,0,rfl,fun i hi=>?_⟩
 obtain⟨c,cap,h1,h2,h3⟩:=hv i hi
 refine⟨c,cap,?_,⟨hms _ (List.getElem_mem _),fun hne=>?_⟩,h2⟩
 ·simp[World.cell?,hg,h1]
 ·obtain⟨g',rfl,_,_,hg'⟩:=h3 hne
  exact(codeAt_row (hms _ (List.getElem_mem _)) hg').2 hne
def Zjk(p:Pg)(w:World)(r:Ending)(w':World):Prop:=
 ∃a' cap',r=.returned (pgV p a' cap')/\(a'=none->cap'=0)/\Below w.heap.size w w'/\ZaB w' w.heap.size a' p.threads/\cap'=p.threads.length
theorem trip_of{w:World}{b o:Nat}{ts:List (List Ins)}(hc:∀i (h:i<ts.length),∃c cap,w.cell? ⟨b,o+i,none⟩=some (.slice c ts[i].length cap)/\ZbU w c ts[i]/\(c=none->cap=0)):
  ∃cs:List (Option Addr × Nat × Nat),cs.length=ts.length/\∀i (h:i<ts.length),∃c cap,cs[i]?=some (c,ts[i].length,cap)/\w.cell? ⟨b,o+i,none⟩=some (.slice c ts[i].length cap)/\ZbU w c ts[i]/\(c=none->cap=0):=by
 obtain⟨cs,hl,hx⟩:=Zdk ts.length (fun i (x:Option Addr × Nat × Nat)=>∃h:i<ts.length,x.2.1=ts[i].length/\w.cell? ⟨b,o+i,none⟩=some (.slice x.1 x.2.1 x.2.2)/\ZbU w x.1 ts[i]/\(x.1=none->x.2.2=0))
  (fun i hi=>by obtain⟨c,cap,h1,h2,h3⟩:=hc i hi;exact⟨(c,ts[i].length,cap),hi,rfl,h1,h2,h3⟩)
 refine⟨cs,hl,fun i hi=>?_⟩
 obtain⟨_,e,h1,h2,h3⟩:=hx i (cs[i]'(by omega)) (List.getElem?_eq_getElem _)
 refine⟨(cs[i]'(by omega)).1,(cs[i]'(by omega)).2.2,?_,?_,h2,h3⟩
 ·rw[List.getElem?_eq_getElem (by omega),<-e]
 ·rw[h1,e]
theorem ZaB.mono{w:World}{B B':Nat}{a:Option Addr}{ts:List (List Ins)}(h:ZaB w B a ts)(hB:B'<=B):ZaB w B' a ts:=by
 intro hn
 obtain⟨g,vs,e,hg,h1,h2,h3⟩:=h hn
 refine⟨g,vs,e,by omega,h1,h2,fun i hi=>?_⟩
 obtain⟨c,cap,q1,q2,q3⟩:=h3 i hi
 refine⟨c,cap,q1,q2,fun hne=>?_⟩
 obtain⟨g',e',h1',h2',h3'⟩:=q3 hne
 exact⟨g',e',by omega,h2',h3'⟩
theorem ZaB.keep{w w':World}{B:Nat}{a:Option Addr}{ts:List (List Ins)}(h:ZaB w B a ts)(hk:∀g,B<=g->g<w.heap.size->w'.heap[g]?=w.heap[g]?):ZaB w' B a ts:=by
 intro hn
 have lt:∀{g:Nat} {o:Obj},w.heap[g]?=some o->g<w.heap.size:=fun e=>(Array.getElem?_eq_some_iff.1 e).1
 obtain⟨g,vs,e,hg,h1,h2,h3⟩:=h hn
 refine⟨g,vs,e,hg,(hk g hg (lt h1)).trans h1,h2,fun i hi=>?_⟩
 obtain⟨c,cap,q1,q2,q3⟩:=h3 i hi
 refine⟨c,cap,q1,q2,fun hne=>?_⟩
 obtain⟨g',e',h1',h2',h3'⟩:=q3 hne
 exact⟨g',e',h1',h2',(hk g' h1' (lt h3')).trans h3'⟩
theorem row_set{w:World}{g k:Nat}{vs:List Value}{t:TypeId}{fr:Nat × Nat}(h:w.heap[g]?=some (.cells vs.toArray t fr))(v:Value):
  (w.setCell ⟨g,k,none⟩ v).heap[g]?=some (.cells (vs.set k v).toArray t fr):=by
 simp[World.setCell,Array.getElem?_modify,h]
def Zfu(w W2:World)(cs:List (Option Addr × Nat × Nat))(ts:List (List Ins))(k:Nat)(wr:World):Prop:=
 Below (w.heap.size+1+1) W2 wr/\∃vs:List Value,wr.heap[w.heap.size+1+1]?=some (.cells vs.toArray 64 (0,0))/\vs.length=ts.length/\(∀i,k<=i->vs[i]?=(cs.map slC3)[i]?) /\
  ∀i (h:i<ts.length),i<k->∃c cap,vs[i]?=some (.slice c ts[i].length cap)/\(c=none->cap=0)/\Zew wr (w.heap.size+1+1) (w.heap.size+1+1) c ts[i]
theorem Zfu.step{w W2 wr wn:World}{cs:List (Option Addr × Nat × Nat)}{ts:List (List Ins)}{k:Nat}(h:Zfu w W2 cs ts k wr)(hk:k<ts.length)
  (c:Option Addr) (cap:Nat) (hc:c=none->cap=0) (hn:Below wr.heap.size wr wn) (ho:Zew wn (w.heap.size+1+1) (w.heap.size+1+1) c ts[k]) (n:Nat) (hl:n=ts[k].length):
  Zfu w W2 cs ts (k+1) (wn.setCell ⟨w.heap.size+1+1,k,none⟩ (.slice c n cap)):=by
 subst hl
 obtain⟨hb,vs,h1,h2,h3,h4⟩:=h
 have hlt:w.heap.size+1+1<wr.heap.size:=(Array.getElem?_eq_some_iff.1 h1).1
 have keep:∀{c l},Zew wn (w.heap.size+1+1) (w.heap.size+1+1) c l->∀v,Zew (wn.setCell ⟨w.heap.size+1+1,k,none⟩ v) (w.heap.size+1+1) (w.heap.size+1+1) c l:=by
  intro c l h v hne
  obtain⟨g,e,q1,q2,q3⟩:=h hne
  exact⟨g,e,q1,q2,(Below.heap_setCell _ _ _ _ q2).trans q3⟩
 have keep2:∀{c l},Zew wr (w.heap.size+1+1) (w.heap.size+1+1) c l->Zew wn (w.heap.size+1+1) (w.heap.size+1+1) c l:=by
  intro c l h hne
  obtain⟨g,e,q1,q2,q3⟩:=h hne
  exact⟨g,e,q1,q2,(hn.block g ((Array.getElem?_eq_some_iff.1 q3).1)).trans q3⟩
 refine⟨(hb.trans (hn.mono (by omega))).setCell (by simp) _,vs.set k _,row_set ((hn.block _ hlt).trans h1) _,by simp[h2],fun i hi=>?_,fun i hi hik=>?_⟩
 ·rw[List.getElem?_set_ne (by omega)];exact h3 i (by omega)
 ·by_cases e:i=k
  ·subst e
   exact⟨c,cap,by rw[List.getElem?_set_self (by omega)],hc,keep ho _⟩
  ·obtain⟨c',cap',q1,q2,q3⟩:=h4 i hi (by omega)
   exact⟨c',cap',by rw[List.getElem?_set_ne (by omega)];exact q1,q2,keep (keep2 q3) _⟩
theorem Zfu.own{w W2 wr:World}{cs:List (Option Addr × Nat × Nat)}{ts:List (List Ins)}(h:Zfu w W2 cs ts ts.length wr):ZaB wr (w.heap.size+1+1) (some ⟨w.heap.size+1+1,0,none⟩) ts:=by
 obtain⟨hb,vs,h1,h2,h3,h4⟩:=h
 exact fun _=>⟨_,vs,rfl,Nat.le_refl _,h1,h2,fun i hi=>h4 i hi hi⟩
theorem ZkO(V M:Int)(ts:List (List Ins))(b:Addr)(cap:Nat)(w:World)(cs:List (Option Addr × Nat × Nat))(hcl:cs.length=ts.length)
  (hcc:∀j v,(cs.map slC3)[j]?=some v->w.cell? (b.add j)=some v)
  (hco:∀i (h:i<ts.length),∃c ccap,cs[i]?=some (c,ts[i].length,ccap)/\ZbU w c ts[i]/\(c=none->ccap=0)) (hm:ts.length<=1000000) (hms:∀l∈ts,l.length<=1000000):
  Calls Tryz.prog 62 #[.agg #[.int .i64 V,.int .i64 M,.slice (some b) ts.length cap]] w (Zjk ⟨V,M,ts⟩ w):=by
 have HCC:=Lib.hid hcc
 have HCO:=Lib.hid hco
 have HMS:=Lib.hid hms
 have HCL:=Lib.hid hcl
 have hm2:cs.length<=1000000:=by omega
 clear hcc hco hms
 rw[<-hcl]
 clear hcl
 go_enter Tryz.func62,Tryz.ntmps62
 go_wp2_with fail
 refine(Zg5 b cap cs _ ?hx hm2).mono ?_
 case hx=>
  intro j v hv
  exact Zab (Zak w _ _) (HCC.out j v hv)
 rintro r w1⟨rfl,rfl⟩
 go_wp2_with fail
 go_loopw [11] (fun i wr=>∃k:Nat,k<=cs.length/\i=.int .i64 k/\Zfu w ((w.alloc (.cells #[.int .i64 V,.int .i64 M,.slice (some b) cs.length cap] 24)).alloc (.cells #[.int .i64 0,.int .i64 0,.slice none 0 0] 24)) cs ts k wr) (fun i _=>cs.length-(intOf i).toNat)
 case atStart=>
  refine⟨0,Nat.zero_le _,rfl,(Below.refl _ _).alloc (by simp) _,cs.map slC3,?_,by rw[<-HCL.out];simp,fun i _=>rfl,fun i _ h=>absurd h (by omega)⟩
  have:=(MapKept.heap_alloc ((w.alloc (.cells #[.int .i64 V,.int .i64 M,.slice (some b) cs.length cap] 24)).alloc (.cells #[.int .i64 0,.int .i64 0,.slice none 0 0] 24)) (.cells (cs.map slC3).toArray 64)).1
  simpa using this
 case round=>
  obtain⟨k,hk,rfl,hR⟩:=hrel
  have hb:=hR.1
  have p0:wr.cell? ⟨w.heap.size,0,none⟩=some (.int .i64 V):=by rw[hb.cell (p:=⟨w.heap.size,0,none⟩) (by simp;omega)];simp
  have p1:wr.cell? ⟨w.heap.size,1,none⟩=some (.int .i64 M):=by rw[hb.cell (p:=⟨w.heap.size,1,none⟩) (by simp;omega)];simp
  have hz:w.heap.size+1+1<=wr.heap.size:=by have:=hb.size;simp at this;omega
  have hbw:Below w.heap.size w wr:=(Zak w _ _).trans (hb.mono (by omega))
  by_cases hlt:k<cs.length
  ·have hkt:k<ts.length:=by have:=HCL.out;omega
   obtain⟨c,ccap,e1,hc1,hc2⟩:=HCO.out k hkt
   obtain⟨_,vs,v1,v2,v3,v4⟩:=id hR
   have hcell:wr.cell? ⟨w.heap.size+1+1,k,none⟩=some (.slice c ts[k].length ccap):=by
    have:=v3 k (Nat.le_refl _)
    rw[List.getElem?_map,e1]at this
    simp[World.cell?,v1,this,slC3]
   have hfr:wr.frozen? ⟨w.heap.size+1+1,k,none⟩=false:=by simp[World.frozen?,v1]
   have hz2:w.heap.size+1+1<wr.heap.size:=(Array.getElem?_eq_some_iff.1 v1).1
   have HR:=Lib.hid hR
   have hkm:ts[k].length<=1000000:=HMS.out _ (List.getElem_mem _)
   have HC1:=Lib.hid (hc1.later hbw)
   clear v1 v2 v3 v4 hR e1 hc1
   obtain⟨l,hl⟩:∃l,l=ts[k]:=⟨_,rfl⟩
   rw[<-hl]at hcell hkm
   have HLk:=Lib.hid hl
   clear hl
   cases c with
   |none=>
    obtain rfl:ccap=0:=hc2 rfl
    have hl0:l=[]:=by
     rw[HLk.out]
     by_cases e:ts[k]=[]
     ·exact e
     ·obtain⟨_,_,h,_⟩:=HC1.out.2 e;cases h
    subst hl0
    clear hc2
    dsimp only[List.length_nil]at hcell
    go_wp2_with fail
    refine(Zl4 _).mono ?_
    rintro r w1⟨rfl,rfl⟩
    have hst:=HR.out.step hkt none 0 (fun _=>rfl) (Below.refl _ _) (by intro hne;exact absurd HLk.out.symm hne) 0 (by rw[<-HLk.out];rfl)
    have HST:=Lib.hid hst
    clear hst
    go_wp2
    go_roundw
    case rel=>exact⟨k+1,by omega,by go_num,HST.out⟩
    case measure=>simp[intOf];omega
   |some a=>
    clear hc2
    have hcs:∀j v,(ZaG l)[j]?=some v->wr.cell? (a.add j)=some v:=by
     intro j v hv
     rw[HLk.out]at hv
     by_cases e:ts[k]=[]
     ·rw[e]at hv;simp[ZaG]at hv
     ·obtain⟨b',o',h,_⟩:=HC1.out.2 e
      obtain rfl:a=⟨b',o',none⟩:=by simpa using h
      exact ZbU.cells HC1.out j v hv
    have HCS:=Lib.hid hcs
    clear hcs
    go_wp2_with fail
    refine(Zl5 a ccap l _ HCS.out hkm).mono ?_
    rintro r w1⟨rfl,rfl⟩
    have hst:=HR.out.step hkt (some ⟨wr.heap.size,0,none⟩) l.length (by simp) (Zaa wr (.cells (ZaG l).toArray 63)) (by
     intro _
     exact⟨wr.heap.size,rfl,by omega,by omega,by rw[<-HLk.out];exact(MapKept.heap_alloc wr _).1⟩) l.length (by rw[<-HLk.out])
    rw[World.setCell_alloc_past _ _ _ _ hz2]at hst
    have HST:=Lib.hid hst
    clear hst
    go_wp2
    go_roundw
    case rel=>exact⟨k+1,by omega,by go_num,HST.out⟩
    case measure=>simp[intOf];omega
  ·obtain rfl:k=cs.length:=by omega
   have z0:(wr.cell? ⟨w.heap.size+1,0,none⟩)=some (.int .i64 0):=by rw[hb.cell (p:=⟨w.heap.size+1,0,none⟩) (by simp)];simp
   have z1:(wr.cell? ⟨w.heap.size+1,1,none⟩)=some (.int .i64 0):=by rw[hb.cell (p:=⟨w.heap.size+1,1,none⟩) (by simp)];simp
   have z2:(wr.cell? ⟨w.heap.size+1,2,none⟩)=some (.slice none 0 0):=by rw[hb.cell (p:=⟨w.heap.size+1,2,none⟩) (by simp)];simp
   have f0:∀j,(wr.frozen? ⟨w.heap.size+1,j,none⟩)=false:=fun j=>by rw[hb.frozen (p:=⟨w.heap.size+1,j,none⟩) (by simp)];simp
   go_wp2
   have hfin:ZaB (((wr.setCell ⟨w.heap.size+1,0,none⟩ (.int .i64 V)).setCell ⟨w.heap.size+1,1,none⟩ (.int .i64 M)).setCell ⟨w.heap.size+1,2,none⟩ (.slice (some ⟨w.heap.size+1+1,0,none⟩) cs.length cs.length)) w.heap.size (some ⟨w.heap.size+1+1,0,none⟩) ts:=by
    have h:=hR
    rw[HCL.out]at h
    refine(h.own.keep (fun g hg _=>?_)).mono (by omega)
    rw[Below.heap_setCell _ _ _ _ (by simp;omega),Below.heap_setCell _ _ _ _ (by simp;omega),Below.heap_setCell _ _ _ _ (by simp;omega)]
   have hbf:=((hbw.setCell (p:=⟨w.heap.size+1,0,none⟩) (by simp) (.int .i64 V)).setCell (p:=⟨w.heap.size+1,1,none⟩) (by simp) (.int .i64 M)).setCell (p:=⟨w.heap.size+1,2,none⟩) (by simp) (.slice (some ⟨w.heap.size+1+1,0,none⟩) cs.length cs.length)
   exact bodyPost_ret (v:=.agg #[.int .i64 V,.int .i64 M,.slice (some ⟨w.heap.size+1+1,0,none⟩) cs.length cs.length]) (by simp[results,Tryz.results62,go_sem,z0,z1,z2]) rfl
    ⟨some ⟨w.heap.size+1+1,0,none⟩,cs.length,by rw[HCL.out];rfl,by simp,hbf,hfin,HCL.out⟩
theorem copy_none(V M:Int)(w:World):
  Calls Tryz.prog 62 #[.agg #[.int .i64 V,.int .i64 M,.slice none 0 0]] w (Zjk ⟨V,M,[]⟩ w):=by
 go_enter Tryz.func62,Tryz.ntmps62
 go_wp2_with fail
 refine(Zg4 _).mono ?_
 rintro r w1⟨rfl,rfl⟩
 go_wp2_with fail
 refine wp_loop_rounds 1 ?_
 rw[rounds_succ]
 go_wp2
 have hbf:=Zak w (.cells #[.int .i64 V,.int .i64 M,.slice none 0 0] 24) (.cells #[.int .i64 V,.int .i64 M,.slice none 0 0] 24)
 exact bodyPost_ret (v:=.agg #[.int .i64 V,.int .i64 M,.slice none 0 0]) (by simp[results,Tryz.results62,go_sem]) rfl
       ⟨none,0,rfl,by simp,hbf,fun h=>absurd rfl h,rfl⟩
theorem copy_any(p:Pg)(a:Option Addr)(cap:Nat)(w:World)(hp:Zaf w a p.threads)(ha:a=none->cap=0)(hm:p.threads.length<=1000000)(hms:∀l∈p.threads,l.length<=1000000):
  Calls Tryz.prog 62 #[pgV p a cap] w (Zjk p w):=by
 obtain⟨V,M,ts⟩:=p
 dsimp only at *
 cases a with
 |none=>
  obtain rfl:=ha rfl
  have e:ts=[]:=by
   by_cases e:ts=[]
   ·exact e
   ·obtain⟨_,_,h,_⟩:=hp.2 e;cases h
  subst e
  exact copy_none V M w
 |some b=>
  by_cases e:ts=[]
  ·subst e
   exact ZkO V M [] b cap w [] rfl (by simp) (by simp) (by simp) (by simp)
  ·obtain⟨b',o',h,hc⟩:=hp.2 e
   obtain rfl:b=⟨b',o',none⟩:=by simpa using h
   obtain⟨cs,hl,hx⟩:=trip_of hc
   refine ZkO V M ts ⟨b',o',none⟩ cap w cs hl ?_ ?_ hm hms
   ·intro j v hv
    have hj:j<ts.length:=by
     have:=(List.getElem?_eq_some_iff.1 hv).1
     simp at this
     omega
    obtain⟨c,ccap,h1,h2,_⟩:=hx j hj
    rw[List.getElem?_map,h1]at hv
    have hv':Value.slice c ts[j].length ccap=v:=by simpa [slC3]using hv
    subst hv'
    have:Addr.add ⟨b',o',none⟩ j=⟨b',o'+j,none⟩:=by
     unfold Addr.add
     split
     ·rename_i h0;subst h0;rfl
     ·rfl
    rw[this];exact h2
   ·intro i hi
    obtain⟨c,ccap,h1,_,h3,h4⟩:=hx i hi
    exact⟨c,ccap,h1,h3,h4⟩
theorem alone_mid:∀k:Fin 8,(2:Int)^k.val%256=((Zbl (k.val:Int):Nat):Int):=by decide +kernel
theorem Zhf(t:Int)(w:World):Calls Tryz.prog 114 #[.int .i64 t] w fun r w'=>r=.returned (.int .u8 (Zbl t:Nat))/\w=w':=by
 by_cases h0:t<0
 ·have HA:Hid (Zbl t=0):=by show _=_;unfold Zbl;rw[if_neg (by omega)]
  go_enter Tryz.func114,Tryz.ntmps114
  go_wp2
  go_ret
  exact⟨by rw[HA.out];rfl,rfl⟩
 ·by_cases h8:t<8
  ·obtain⟨k,rfl⟩:∃k:Nat,t=k:=⟨t.toNat,by omega⟩
   have HA:=Lib.hid (alone_mid ⟨k,by omega⟩)
   have h9:¬((k:Int)>=8):=by omega
   go_enter Tryz.func114,Tryz.ntmps114
   go_wp2
   go_ret
   exact⟨by rw[<-HA.out];rfl,rfl⟩
  ·have HA:Hid (Zbl t=0):=by show _=_;unfold Zbl;rw[if_neg (by omega)]
   have h9:t>=8:=by omega
   go_enter Tryz.func114,Tryz.ntmps114
   go_wp2
   go_ret
   exact⟨by rw[HA.out];rfl,rfl⟩
theorem ZlU{n:Nat}(hn:n<256)(t:Int)(w:World):Calls Tryz.prog 70 #[.int .u8 n,.int .i64 t] w fun r w'=>r=.returned (.bool (hasB n t))/\w=w':=by
 have HQ:Hid (bits .and .u8 (n:Int) (Zbl t:Int)=((n&&&Zbl t:Nat):Int)):=Zhd n (Zbl t) hn (ZdR t)
 have HB:Hid ((((n&&&Zbl t:Nat):Int) != 0)=hasB n t):=by
  show _=_
  have:=and_alone n t
  cases hb:hasB n t
  ·rw[this.2 hb];rfl
  ·rw[bne_iff_ne]
   intro h0
   rw[this.1 (by omega)]at hb
   cases hb
 go_enter Tryz.func70,Tryz.ntmps70
 go_wp2_with fail
 refine(Zhf t w).mono ?_
 rintro r w'⟨rfl,rfl⟩
 go_wp2
 go_ret
 exact⟨by rw[HQ.out,HB.out];rfl,rfl⟩
theorem Zig{n:Nat}(hn:n<256)(t:Int)(w:World):Calls Tryz.prog 76 #[.int .u8 n,.int .i64 t] w fun r w'=>r=.returned (.int .u8 (wt n t:Nat))/\w=w':=by
 have HQ:Hid (bits .or .u8 (n:Int) (Zbl t:Int)=((wt n t:Nat):Int)):=Zh9 n (Zbl t) hn (ZdR t)
 go_enter Tryz.func76,Tryz.ntmps76
 go_wp2_with fail
 refine(Zhf t w).mono ?_
 rintro r w'⟨rfl,rfl⟩
 go_wp2
 go_ret
 exact⟨by rw[HQ.out];rfl,rfl⟩
theorem Zk1{n:Nat}(hn:n<256)(t:Int)(w:World):Calls Tryz.prog 134 #[.int .u8 n,.int .i64 t] w fun r w'=>r=.returned (.int .u8 (wl n t:Nat))/\w=w':=by
 have HQ:Hid (bits .andNot .u8 (n:Int) (Zbl t:Int)=((wl n t:Nat):Int)):=Zb2 n (Zbl t) hn (ZdR t)
 go_enter Tryz.func134,Tryz.ntmps134
 go_wp2_with fail
 refine(Zhf t w).mono ?_
 rintro r w'⟨rfl,rfl⟩
 go_wp2
 go_ret
 exact⟨by rw[HQ.out];rfl,rfl⟩
theorem Zjv{n m:Nat}(hn:n<256)(hm:m<256)(w:World):Calls Tryz.prog 116 #[.int .u8 n,.int .u8 m] w fun r w'=>r=.returned (.int .u8 (n|||m:Nat))/\w=w':=by
 have HQ:=Lib.hid (Zh9 n m hn hm)
 go_enter Tryz.func116,Tryz.ntmps116
 go_wp2
 go_ret
 exact⟨by rw[HQ.out];rfl,rfl⟩
theorem ZgF(a:Option Addr)(cap:Nat)(l:List Int)(w:World)(hl:ZcG w a l)(hm:l.length<=1000):
  Calls Tryz.prog 37 #[.slice a l.length cap] w fun r w'=>r=.returned (.int .u8 (ofN l:Nat))/\w=w':=by
 have HL:=Lib.hid hl
 clear hl
 go_enter Tryz.func37,Tryz.ntmps37
 go_wp2
 go_loopw [3,8] (fun z i wr=>∃k:Nat,k<=l.length/\i=.int .i64 k/\z=.int .u8 (ofN (l.take k):Nat)/\wr=w) (fun _ i _=>l.length-(intOf i).toNat)
 case atStart=>exact⟨0,Nat.zero_le _,rfl,rfl,rfl⟩
 case round=>
  obtain⟨k,hk,rfl,rfl,rfl⟩:=hrel
  by_cases hlt:k<l.length
  ·obtain⟨b,o,rfl,hc⟩:=HL.out.2 (by intro e;simp[e]at hlt)
   have hck:=hc k hlt
   have HT:Hid (ofN (l.take (k+1))=wt (ofN (l.take k)) l[k]):=by
    show _=_
    rw[List.take_succ_eq_append_getElem hlt,ofN_snoc]
   go_wp2_with fail
   refine(Zig (Zdp _) _ _).mono ?_
   rintro r w'⟨rfl,rfl⟩
   go_wp2
   go_roundw
   case rel=>exact⟨k+1,by omega,by go_num,by rw[HT.out],by trivial⟩
   case measure=>simp[intOf];omega
  ·obtain rfl:k=l.length:=by omega
   go_wp2
   go_ret
   exact⟨by rw[List.take_length];rfl,rfl⟩
theorem ZdZ{n:Nat}(hn:n<256)(w:World):
  Calls Tryz.prog 130 #[.int .u8 n] w fun r w'=>∃v,r=.returned v/\OwnN w' w.heap.size v (ints (bitsL n))/\Below w.heap.size w w':=by
 go_enter Tryz.func130,Tryz.ntmps130
 go_wp2
 go_loopw [3,5] (fun l i wr=>∃k:Nat,k<=8/\i=.int .i64 k/\OwnN wr w.heap.size l (ints (Zdr n k))/\Below w.heap.size w wr) (fun _ i _=>8-(intOf i).toNat)
 case atStart=>exact⟨0,Nat.zero_le _,rfl,ZeG _ _,Below.refl _ _⟩
 case round=>
  obtain⟨k,hk,rfl,hown,hb⟩:=hrel
  by_cases hlt:k<8
  ·have hle:=Zia n k
   rw[<-Zdg]at hle
   have hz:=hb.size
   have HH:=Lib.hid (Za2 n hlt)
   have HY:=Lib.hid (bitsTo_yes (n:=n) (k:=k))
   have HN:=Lib.hid (bitsTo_no (n:=n) (k:=k))
   go_wp2_with fail
   refine(ZlU hn (k:Int) wr).mono ?_
   rintro r w'⟨rfl,rfl⟩
   rw[HH.out]
   cases hm:n.testBit k
   ·have HR:=Lib.hid (HN.out hm)
    clear hm
    go_wp2
    go_roundw
    case rel=>exact⟨k+1,by omega,by go_num,by rw[HR.out];exact hown,hb⟩
    case measure=>simp[intOf];omega
   ·have HR:Hid (ints (Zdr n (k+1))=ints (Zdr n k)++[(k:Int)]):=by
     show _=_
     rw[HY.out hm,ints_app];rfl
    clear hm
    go_wp2_with (at_builtin;refine ZdV rfl (.tmp 11) (.tmp 13) rfl w.heap.size _ (ints (Zdr n k)) rfl (hown.alloc _) ⟨wr.heap.size,0,none⟩ 1 1 rfl [(k:Int)] rfl (Zf2 wr [(k:Int)] _ _ rfl) (by simp;omega) (by simp;omega) ?_;intro v1 w2 hown2 hb3 _)
    have hb4:=(hb.alloc hz _).trans hb3
    go_roundw
    case rel=>exact⟨k+1,by omega,by go_num,by rw[HR.out];exact hown2,hb4⟩
    case measure=>simp[intOf];omega
  ·obtain rfl:k=8:=by omega
   go_wp2
   go_ret
   exact⟨_,rfl,hown,hb⟩
end Go.Proofs.YtjfmmnhcddckaaaGreat
namespace Go.Proofs.YtjfmmnhcddckaaaGreat
open Go.RowKit Go.Maps
theorem Zfl{p:Pg}{fuel:Int}:Zam p fuel=true↔Zal p=true/\0<=fuel/\fuel<=8:=by
 unfold Zam
 rw[Bool.and_eq_true,decide_eq_true_eq]
theorem Zgs{p:Pg}(h:Zal p=true):p.threads.length<=4/\∀l∈p.threads,l.length<=8:=by
 unfold Zal at h
 rw[Bool.and_eq_true,decide_eq_true_eq]at h
 refine⟨by omega,fun l hl=>?_⟩
 have:=List.all_eq_true.1 h.2 l hl
 unfold ZaC at this
 rw[Bool.and_eq_true,decide_eq_true_eq]at this
 exact this.1
theorem trAt_new{p:Pg}{fuel:Int}(hg:Zam p fuel=true){w3:World}{a:Option Addr}{cap:Nat}(ht:Zaf w3 a p.threads)(o:Obj)(ho:o=.cells #[.int .i64 p.vars,.int .i64 p.mutexes,.slice a p.threads.length cap,.int .i64 fuel,.map (some w3.heap.size),.int .i64 0] 121):
  TrAt ⟨w3.heap.size+1,w3.heap.size,a,cap,w3,p,fuel⟩ ((w3.alloc (.map #[] 0)).alloc o) [] [] 0:=by
 subst ho
 refine⟨ht,Zak _ _ _,?_,?_,⟨.map [],(World.ownsMap_made _ _ _ _).alloc _,fun k=>?_,rfl⟩,rfl,List.nodup_nil,(fun i h=>absurd h (Nat.not_lt_zero _)),Zmi _ _,hg⟩
 ·rintro x (rfl|rfl|hx)
  ·exact Nat.le_succ _
  ·exact Nat.le_refl _
  ·cases hx
 ·have:=heap_alloc_new (w3.alloc (.map #[] 0)) (.cells #[.int .i64 p.vars,.int .i64 p.mutexes,.slice a p.threads.length cap,.int .i64 fuel,.map (some w3.heap.size),.int .i64 0] 121)
  rw[World.size_alloc]at this
  exact this
 ·exact⟨rfl,rfl⟩
section
variable{h:TrH}{w:World}{gs:List Nat}{l:List TNd}{cl:Int}
theorem lenT_any(t:TrAt h w gs l cl):Calls Tryz.prog 41 #[.pointer (some ⟨h.b,0,none⟩)] w fun r w'=>r=.returned (.int .i64 (l.length:Nat))/\w=w':=by
 obtain⟨_,_,_,_,c4,_⟩:=t.cells
 obtain⟨D,hD,_,h3⟩:=t.map
 have hl:=hD.len Tryz.underlying119
 rw[h3]at hl
 clear t h3 hD
 go_enter Tryz.func41,Tryz.ntmps41
 go_wp2
 go_ret
 exact⟨rfl,rfl⟩
theorem claims_any(t:TrAt h w gs l cl):Calls Tryz.prog 42 #[.pointer (some ⟨h.b,0,none⟩)] w fun r w'=>r=.returned (.int .i64 cl)/\w=w':=by
 obtain⟨_,_,_,_,_,c5⟩:=t.cells
 clear t
 go_enter Tryz.func42,Tryz.ntmps42
 go_wp2
 go_ret
 exact⟨rfl,rfl⟩
theorem owner_any(t:TrAt h w gs l cl){k:Pfx}(hk:k.length<=1000):Calls Tryz.prog 110 #[.pointer (some ⟨h.b,0,none⟩),.string ⟨k.toArray⟩] w fun r w'=>r=.returned (.int .i64 (ownT l k))/\w=w':=by
 cases hi:idxT l k with
 |none=>
  have HE:Hid (ownT l k=-1):=by show _=_;unfold ownT;rw[hi]
  have HF:=Lib.hid (Zfo t hk hi)
  clear t hi
  go_enter Tryz.func110,Tryz.ntmps110
  go_wp2_with fail
  refine HF.out.mono ?_
  rintro r w'⟨rfl,rfl⟩
  go_wp2
  go_ret
  exact⟨by rw[HE.out];rfl,rfl⟩
 |some i=>
  obtain⟨hil,_⟩:=Za0 hi
  have HE:Hid (ownT l k=l[i].own):=by show _=_;unfold ownT;rw[hi];simp[List.getD,hil]
  obtain⟨hg,c0,_⟩:=t.node hil
  have HF:=Lib.hid (Zd9 t hk hi hg)
  clear t hi
  generalize l[i].own=O at *
  generalize gs[i]=g at *
  go_enter Tryz.func110,Tryz.ntmps110
  go_wp2_with fail
  refine HF.out.mono ?_
  rintro r w'⟨rfl,rfl⟩
  go_wp2
  go_ret
  exact⟨by rw[HE.out];rfl,rfl⟩
theorem Zib:bitsL 0=[]:=by decide
theorem leftT_any(t:TrAt h w gs l cl){k:Pfx}(hk:k.length<=1000):Calls Tryz.prog 128 #[.pointer (some ⟨h.b,0,none⟩),.string ⟨k.toArray⟩] w fun r w'=>∃v,r=.returned v/\OwnN w' w.heap.size v (ints (bitsL (leftT l k)))/\Below w.heap.size w w':=by
 cases hi:idxT l k with
 |none=>
  have HE:Hid (ints (bitsL (leftT l k))=[]):=by show _=_;unfold leftT;rw[hi,Zib];rfl
  have HF:=Lib.hid (Zfo t hk hi)
  clear t hi
  go_enter Tryz.func128,Tryz.ntmps128
  go_wp2_with fail
  refine HF.out.mono ?_
  rintro r w'⟨rfl,rfl⟩
  go_wp2
  go_ret
  exact⟨_,rfl,by rw[HE.out];exact ZeG _ _,Below.refl _ _⟩
 |some i=>
  obtain⟨hil,_⟩:=Za0 hi
  have HE:Hid (leftT l k=l[i].left):=by show _=_;unfold leftT;rw[hi];simp[List.getD,hil]
  have hok:=t.ok.ok l[i] (List.getElem_mem hil)
  obtain⟨hg,_,_,c2,c3,c4⟩:=t.node hil
  have HF:=Lib.hid (Zd9 t hk hi hg)
  have HL:=Lib.hid (left_any hok c2 c3 c4)
  have hl8:=hok.left
  clear t hi c2 c3 c4 hok
  generalize l[i].left=O at *
  generalize gs[i]=g at *
  go_enter Tryz.func128,Tryz.ntmps128
  go_wp2_with fail
  refine HF.out.mono ?_
  rintro r w'⟨rfl,rfl⟩
  go_wp2_with fail
  refine HL.out.mono ?_
  rintro r w1⟨rfl,hb1⟩
  go_wp2_with fail
  refine(ZdZ hl8 w1).mono ?_
  rintro r w2⟨v,rfl,hown,hb2⟩
  have hz:=hb1.size
  have hb3:=hb1.trans (hb2.mono hz)
  obtain⟨a,cap,rfl,_⟩:=OwnN.form hown (by rw[Zdg];have:=Ze0 O;omega)
  go_wp2
  go_ret
  exact⟨_,rfl,by rw[HE.out];exact ownN_low hown hz,hb3⟩
theorem hand_any(t:TrAt h w gs l cl){k:Pfx}(hk:k.length<=1000)(o:Int):Calls Tryz.prog 79 #[.pointer (some ⟨h.b,0,none⟩),.string ⟨k.toArray⟩,.int .i64 o] w fun r w'=>r=.returned (.int .i64 (handT l k o).1)/\TrAt h w' gs (handT l k o).2 cl/\OnlyS (TrS h gs) w w':=by
 cases hi:idxT l k with
 |none=>
  have HE:Hid (handT l k o=(6,l)):=by show _=_;unfold handT;rw[hi]
  have HF:=Lib.hid (Zfo t hk hi)
  have HT:=Lib.hid t
  clear t hi
  go_enter Tryz.func79,Tryz.ntmps79
  go_wp2_with fail
  refine HF.out.mono ?_
  rintro r w'⟨rfl,rfl⟩
  go_wp2
  go_ret
  rw[HE.out]
  exact⟨rfl,HT.out,OnlyS.refl _ _⟩
 |some i=>
  obtain⟨hil,_⟩:=Za0 hi
  have HE:Hid (handT l k o=(0,l.set i { l[i]with own:=o })):=by show _=_;unfold handT;rw[hi];simp[List.getD,hil]
  have hok:=t.ok.ok l[i] (List.getElem_mem hil)
  have htd:=t.ok.todo l[i] (List.getElem_mem hil)
  obtain⟨hg,c0,_⟩:=t.node hil
  have hcell:=t.nodes i hil hg
  have f0:w.frozen? ⟨gs[i],0,none⟩=false:=by simp[World.frozen?,hcell]
  have HF:=Lib.hid (Zd9 t hk hi hg)
  have HO:Hid (OnlyS (fun x=>x=gs[i]) w (w.setCell ⟨gs[i],0,none⟩ (.int .i64 o))):=OnlyS.setCell (S:=fun x=>x=gs[i]) (OnlyS.refl _ w) (p:=⟨gs[i],0,none⟩) rfl _
  have HT:Hid (TrAt h (w.setCell ⟨gs[i],0,none⟩ (.int .i64 o)) gs (l.set i { l[i]with own:=o }) cl):=t.put hil hg rfl rfl ⟨hok.may,hok.asl,hok.todo,hok.gone⟩ htd HO.out (by rw[heap_setCell_same w gs[i] 0 _ _ _ hcell];rfl)
  have HM:Hid (∀x,x=gs[i]->TrS h gs x):=fun x hx=>.inr (.inr (hx▸List.getElem_mem hg))
  clear t hi hok htd hcell
  generalize gs[i]=g at *
  go_enter Tryz.func79,Tryz.ntmps79
  go_wp2_with fail
  refine HF.out.mono ?_
  rintro r w'⟨rfl,rfl⟩
  go_wp2
  go_ret
  rw[HE.out]
  exact⟨rfl,HT.out,HO.out.mono fun x _ hx=>HM.out x hx⟩
end
def NewTO(p:Pg)(fuel:Int)(w:World)(r:Ending)(w':World):Prop:=
 if Zam p fuel=true then ∃h:TrH,r=.returned (.tuple #[.pointer (some ⟨h.b,0,none⟩),.int .i64 0])/\h.p=p/\h.fuel=fuel/\w.heap.size<=h.wc.heap.size/\TrAt h w' [] [] 0/\Below w.heap.size w w'/\ZaB h.wc w.heap.size h.a p.threads
 else r=.returned (.tuple #[.pointer none,.int .i64 1])/\Below w.heap.size w w'
theorem newO_any(p:Pg)(a:Option Addr)(cap:Nat)(fuel:Int)(w:World)(hp:Zaf w a p.threads)(ha:a=none->cap=0):
  Calls Tryz.prog 33 #[.agg #[.int .i64 p.vars,.int .i64 p.mutexes,.slice a p.threads.length cap],.int .i64 fuel] w (NewTO p fuel w):=by
 have HP:=Lib.hid hp
 have HA:=Lib.hid ha
 have HBX:Hid (∀W,Below (w.alloc (.cells #[.int .i64 p.vars,.int .i64 p.mutexes,.slice a p.threads.length cap] 24)).heap.size (w.alloc (.cells #[.int .i64 p.vars,.int .i64 p.mutexes,.slice a p.threads.length cap] 24)) W->W.cell? ⟨w.heap.size,0,none⟩=some (.int .i64 p.vars)/\W.cell? ⟨w.heap.size,1,none⟩=some (.int .i64 p.mutexes)/\W.cell? ⟨w.heap.size,2,none⟩=some (.slice a p.threads.length cap)):=fun W hb=>⟨Zab hb (by simp),Zab hb (by simp),Zab hb (by simp)⟩
 have hb1:Below w.heap.size w (w.alloc (.cells #[.int .i64 p.vars,.int .i64 p.mutexes,.slice a p.threads.length cap] 24)):=Zaa w _
 have hmm:=@run_makeMap Tryz.prog
 clear hp ha
 go_enter Tryz.func33,Tryz.ntmps33
 go_wp2_with fail
 generalize w.alloc (.cells #[.int .i64 p.vars,.int .i64 p.mutexes,.slice a p.threads.length cap] 24)=W1 at *
 refine(new_any p a cap fuel W1 (HP.out.later hb1)).mono ?_
 rintro r W2 hr
 unfold NewR at hr
 by_cases hg:Zal p=true/\0<=fuel/\fuel<=8
 case neg=>
  rw[if_neg hg]at hr
  obtain⟨rfl,hb2⟩:=hr
  have HG:Hid (¬Zam p fuel=true):=fun h=>hg (Zfl.1 h)
  have hb3:=hb1.trans (hb2.mono hb1.size)
  clear hb2 hg hmm
  go_wp2
  go_ret2
  unfold NewTO
  rw[if_neg HG.out]
  exact⟨rfl,hb3⟩
 rw[if_pos hg]at hr
 obtain⟨g,rfl,_,_,hb2⟩:=hr
 obtain⟨c0,c1,c2⟩:=HBX.out W2 hb2
 have HG:Hid (Zam p fuel=true):=Zfl.2 hg
 have HSM:=Lib.hid (Zgs hg.1)
 have hb3:=hb1.trans (hb2.mono hb1.size)
 have HCP:=Lib.hid (copy_any p a cap W2 (HP.out.later hb3) HA.out (by have:=HSM.out.1;omega) (fun l hl=>by have:=HSM.out.2 l hl;omega))
 clear hb2 hg HBX
 go_wp2_with fail
 refine HCP.out.mono ?_
 rintro r W3⟨a3,cap3,rfl,_,hb4,hown,rfl⟩
 have HB5:=Lib.hid (hb3.trans (hb4.mono hb3.size))
 have HT3:Hid (Zaf W3 a3 p.threads):=ZaB.at hown (by have:=HSM.out.1;unfold maxLen;omega) (fun l hl=>by have:=HSM.out.2 l hl;unfold maxLen;omega)
 unfold pgV
 have HOW:=Lib.hid (hown.mono hb3.size)
 clear hb4 hown c0 c1 c2 hb3 hb1 HCP
 go_wp2
 go_ret2
 unfold NewTO
 rw[if_pos HG.out]
 exact⟨⟨W3.heap.size+1,W3.heap.size,a3,p.threads.length,W3,p,fuel⟩,rfl,rfl,rfl,HB5.out.size,trAt_new HG.out HT3.out _ rfl,HB5.out.trans ((Zak _ _ _).mono HB5.out.size),HOW.out⟩
end Go.Proofs.YtjfmmnhcddckaaaGreat
