import Derived.Lib.AppendStr
import Derived.Laws.StructEq
import Derived.StillTailTactics
import Derived.Sort.KeysCollected
import Derived.Test.YtjfmmnhcddckaaaGreatPk01
import Derived.Test.YtjfmmnhcddckaaaGreatPk02
import Derived.Test.YtjfmmnhcddckaaaGreatPk03
import Derived.Test.YtjfmmnhcddckaaaGreatPk05
import Derived.Test.YtjfmmnhcddckaaaGreatPk06
import Derived.Test.YtjfmmnhcddckaaaGreatPk07
set_option maxRecDepth 100000
set_option maxHeartbeats 2000000
namespace Go.Proofs.YtjfmmnhcddckaaaGreat
open Go.RowKit
def lvB(row:List Ev):List Int:=(row.length:Int)::ZaR row
def Zce(m:List (List Ev)):List Int:=m.flatMap lvB++[0]
theorem ZgC(row:List Ev):(ZaR row).length<=row.length:=by
 unfold ZaR
 split
 ·simp
 ·simp
theorem printE_bd(row:List Ev):∀n∈ZaR row,0<=n/\n<256:=by
 intro n hn
 unfold ZaR at hn
 split at hn
 ·rename_i h
  obtain⟨e,he,rfl⟩:=List.mem_map.1 hn
  exact evB_bd (List.all_eq_true.1 h e he)
 ·simp at hn
theorem Zio(ns:List Int)(h:∀n∈ns,0<=n/\n<256):Lib.strCells (bstr ns)=ns.map (Value.int .u8):=by
 unfold Lib.strCells bstr
 simp only[List.map_map]
 refine List.map_congr_left fun n hn=>?_
 obtain⟨h0,h1⟩:=h n hn
 simp only[Function.comp]
 congr 1
 have:(UInt8.ofNat n.toNat).toNat=n.toNat:=by rw[UInt8.toNat_ofNat'];omega
 rw[this]
 omega
theorem Zbz(ns:List Int):(bstr ns).size=ns.length:=by
 show(bstr ns).data.size=_
 simp[bstr]
theorem ZlI(m:List (List Ev))(k:Nat):((m.take k).flatMap lvB).length<=k+m.flatten.length:=by
 have h:∀(m:List (List Ev)),(m.flatMap lvB).length<=m.length+m.flatten.length:=by
  intro m
  induction m with
  |nil=>simp
  |cons r m ih=>
   rw[List.flatMap_cons,List.length_append,List.flatten_cons,List.length_append,List.length_cons]
   have:=ZgC r
   have e:(lvB r).length=(ZaR r).length+1:=rfl
   omega
 have h1:=h (m.take k)
 have h2:=flat_le m k
 rw[List.length_take]at h1
 omega
theorem spell_any(a:Option Addr)(cap:Nat)(m:List (List Ev))(w:World)(hl:LvAt w a m)(hm:m.length<=1000000)(hf:m.flatten.length<=1000000)(h255:∀i,(m.getD i []).length<=255):
  Calls Tryz.prog 121 #[.slice a m.length cap] w fun r w'=>r=.returned (.string (bstr (Zce m)))/\Below w.heap.size w w':=by
 have HL:=Lib.hid hl
 have HF:=Lib.hid hf
 have H255:=Lib.hid h255
 clear hl hf h255
 obtain⟨i0,hi0,hzz⟩:=Option.map_eq_some_iff.1 (show(Tryz.prog.info? 5).map (fun i=>(i.zero,i.size,i.bytes))=some (some (.int .u8 0),1,1) by kernel_rfl)
 simp only[Prod.mk.injEq]at hzz
 obtain⟨hz0,hzs,hzb⟩:=hzz
 go_enter Tryz.func121,Tryz.ntmps121
 go_wp2
 go_loopw [3,8] (fun v i wr=>∃(k:Nat) (ns:List Int),k<=m.length/\i=.int .i64 k/\Hid (ns=(m.take k).flatMap lvB)/\ns.length<=2000000/\Hid (OwnB wr w.heap.size v ns)/\Hid (Below w.heap.size w wr)) (fun _ i _=>m.length-(intOf i).toNat)
 case atStart=>exact⟨0,[],Nat.zero_le _,rfl,rfl,by simp,World.ownsRow_nil _ _ _ _,Below.refl _ _⟩
 case round=>
  obtain⟨k,ns,hk,rfl,HN,hnl,HO,HB⟩:=hrel
  by_cases hlt:k<m.length
  ·obtain⟨b,o,sa,sc,rfl,t0,he,hn⟩:=HL.out.one hlt
   have c0:=Zab HB.out t0
   have HE:=Lib.hid he
   have hL:=H255.out k
   have HT:Hid ((m.take (k+1)).flatMap lvB=(m.take k).flatMap lvB++((((m.getD k []).length:Nat):Int)::ZaR (m.getD k []))):=by
    show _=_
    rw[List.take_add_one,List.getElem?_eq_getElem hlt,List.flatMap_append,Zav _ hlt]
    simp[lvB]
   have HLn:Hid (((m.take (k+1)).flatMap lvB).length<=2000000):=by
    have:=ZlI m (k+1)
    have:=HF.out
    show _<=_
    omega
   have HPL:=Lib.hid (ZgC (m.getD k []))
   have HPB:=Lib.hid (printE_bd (m.getD k []))
   clear t0 he hn
   generalize m.getD k []=row at *
   have hw:IntKind.u8.wrap (row.length:Int)=row.length:=by
    simp[IntKind.wrap,IntKind.bits,IntKind.signed]
    omega
   have hBB:=HB.out.size
   go_wp2_with (at_builtin;refine Ze3 rfl _ _ rfl w.heap.size _ ns rfl (HO.out.alloc _) ⟨wr.heap.size,0,none⟩ 1 1 rfl [(row.length:Int)] rfl (Zha wr [(row.length:Int)] _ _ rfl) (by omega) (by simp;omega) ?_;intro v1 w4 hown4 hb4)
   have HO4:=Lib.hid hown4
   have hb5:=(HB.out.alloc hBB _).trans hb4
   clear hown4 hb4
   refine(Zl0 sa sc row w4 (HE.out.later hb5) (by omega)).mono ?_
   rintro r w5⟨rfl,hb6⟩
   have HO5:Hid (w5.ownsRow w.heap.size 5 1 v1 (ns++[(row.length:Int)]).length ((ns++[(row.length:Int)]).map (Value.int .u8))):=Zbv HO4.out hb6
   have HB5:=Lib.hid (hb5.trans (hb6.mono hb5.size))
   have hBB5:=HB5.out.size
   have hsz:(bstr (ZaR row)).size=(ZaR row).length:=Zbz _
   have hpl:=HPL.out
   clear hb5 hb6 HO4
   go_wp2_with (at_builtin;refine Lib.wpList_append_own_string _ rfl _ _ 56 9 rfl w.heap.size 5 i0 Tryz.underlying56 Tryz.underlying9 hi0 hz0 hzs hzb _ _ _ rfl HO5.out (bstr (ZaR row)) rfl (by simp[hsz];unfold maxLen;omega) (by simp[hsz];omega) hBB5 ?_;intro v2 w6 h1 h2 _)
   have HB7:Hid (Below w.heap.size w w6):=HB5.out.trans ((Below.refl _ w5).grown h2 hBB5 (fun k hk=>(World.ownsRow.lt HO5.out k hk).1))
   have HO7:Hid (OwnB w6 w.heap.size v2 (ns++[(row.length:Int)]++ZaR row)):=by
    show OwnB _ _ _ _
    unfold OwnB
    rw[Zio _ HPB.out,hsz]at h1
    rw[List.length_append,List.map_append]
    exact h1
   have HN7:Hid (ns++[(row.length:Int)]++ZaR row=(m.take (k+1)).flatMap lvB):=by
    show _=_
    rw[HT.out,HN.out]
    simp
   clear h1 h2
   go_roundw
   case rel=>exact⟨k+1,ns++[(row.length:Int)]++ZaR row,by omega,by go_num,HN7,by rw[HN7.out];exact HLn.out,HO7,HB7⟩
   case measure=>simp[intOf];omega
  ·obtain rfl:k=m.length:=by omega
   have HS:Hid (Zce m=ns++[0]):=by
    show _=_
    have h:=HN.out
    rw[List.take_length]at h
    unfold Zce
    rw[h]
   have hBB:=HB.out.size
   go_wp2_with (at_builtin;refine Ze3 rfl _ _ rfl w.heap.size _ ns rfl (HO.out.alloc _) ⟨wr.heap.size,0,none⟩ 1 1 rfl [0] rfl (Zha wr [0] _ _ rfl) (by omega) (by simp;omega) ?_;intro v1 w4 hown4 hb4;have hcv:=Zmp hown4 (by simp);have HB4:=Lib.hid ((HB.out.alloc hBB _).trans hb4);clear hown4 hb4)
   go_ret
   exact⟨Zcs (by rw[HS.out]),HB4.out⟩
theorem take_snoc{T:Type}{m m':List (List T)}{k:Nat}(hk:k<m.length)(hk':k<m'.length)(h:m.take k=m'.take k)(he:m.getD k []=m'.getD k []):m.take (k+1)=m'.take (k+1):=by
 rw[List.take_add_one,List.take_add_one,h,List.getElem?_eq_getElem hk,List.getElem?_eq_getElem hk']
 rw[Zav _ hk,Zav _ hk']at he
 rw[he]
def keyF(l:List Ev):List Int:=if ZaQ l then Zce (lvls l)else []
def ZfC(m:List (List Ev)):List Int:=if Zao m.flatten=m then Zce m else []
theorem Zdf(l:List Ev):(Zao l).length<=200:=by
 unfold Zao
 cases h:ZaQ l
 ·simp
 ·simp only[if_pos]
  have:=ZeN l
  unfold ZaQ at h
  simp at h
  omega
theorem Zcw(l:List Ev)(i:Nat):((Zao l).getD i []).length<=200:=by
 unfold Zao
 cases h:ZaQ l
 ·simp[List.getD]
 ·simp only[if_pos]
  have:=Zf6 l i
  unfold ZaQ at h
  simp at h
  omega
theorem ZfJ(l:List Ev):(Zao l).flatten.length<=200:=by
 unfold Zao
 cases h:ZaQ l
 ·simp
 ·simp only[if_pos]
  have:=Zff l
  unfold ZaQ at h
  simp at h
  omega
theorem OwnLv.formF{w:World}{B:Nat}{v:Value}{ss:List Sl}{l:List Ev}(h:OwnLv w B v ss (Zao l)):∃a cap,v=.slice a (Zao l).length cap/\LvAt w a (Zao l)/\(a=none->cap=0):=
 OwnLv.form h (by have:=Zdf l;omega) (fun i _=>by have:=Zcw l i;omega)
theorem key_any(a:Option Addr)(cap:Nat)(l:List Ev)(w:World)(hl:EvsAt w a l):
  Calls Tryz.prog 75 #[.slice a l.length cap] w fun r w'=>r=.returned (.string (bstr (keyF l)))/\Below w.heap.size w w':=by
 have HRC:=Lib.hid (Zh3 a cap l w hl)
 have HL:=Lib.hid hl
 clear hl
 cases hr:ZaQ l
 ·have HE:Hid (keyF l=[]):=by show _=_;unfold keyF;rw[hr];rfl
  rw[hr]at HRC
  clear hr
  go_enter Tryz.func75,Tryz.ntmps75
  go_wp2_with fail
  refine HRC.out.mono ?_
  rintro r w1⟨rfl,hb1⟩
  clear HRC
  go_wp2
  go_ret
  exact⟨Zcs (by rw[HE.out];rfl),hb1⟩
 ·have HE:Hid (keyF l=Zce (Zao l)):=by show _=_;unfold keyF Zao;rw[hr];rfl
  rw[hr]at HRC
  clear hr
  go_enter Tryz.func75,Tryz.ntmps75
  go_wp2_with fail
  refine HRC.out.mono ?_
  rintro r w1⟨rfl,hb1⟩
  clear HRC
  go_wp2_with fail
  refine(levels_any a cap l w1 (HL.out.later hb1)).mono ?_
  rintro r w2⟨v,ss,rfl,hv,hb2⟩
  obtain⟨a2,cap2,rfl,hat,_⟩:=OwnLv.formF hv
  have HC:=Lib.hid (spell_any a2 cap2 (Zao l) w2 hat (by have:=Zdf l;omega) (by have:=ZfJ l;omega) (fun i=>by have:=Zcw l i;omega))
  have hb3:=hb1.trans (hb2.mono hb1.size)
  clear hv hat hb1 hb2
  generalize Zao l=m at *
  go_wp2_with fail
  refine HC.out.mono ?_
  rintro r w3⟨rfl,hb4⟩
  have hb5:=hb3.trans (hb4.mono hb3.size)
  clear HC hb3 hb4
  go_wp2
  go_ret
  exact⟨Zcs (by rw[HE.out]),hb5⟩
def ZhO:Nat->List UInt8->List (List Ev)
 |0,_=>[]
 |_+1,[]=>[]
 |n+1,c::r=>if c.toNat=0 then []else readE (r.take c.toNat)::ZhO n (r.drop c.toNat)

def SameO(a b:List Ev):Prop:=Zaw a=true/\Zaw b=true/\Sim a b
def u8s(ns:List Int):List UInt8:=ns.map fun n=>UInt8.ofNat n.toNat
theorem u8s_append(a b:List Int):u8s (a++b)=u8s a++u8s b:=by simp[u8s]
theorem u8s_length(a:List Int):(u8s a).length=a.length:=by simp[u8s]
def LvFit(m:List (List Ev)):Prop:=∀row∈m,1<=row.length/\row.length<=255/\row.all Zay=true
theorem evsOf_u8s{row:List Ev}(h:row.all Zay=true):evsOf (u8s (row.map evB))=row:=by
 unfold evsOf u8s
 rw[List.map_map,List.map_map]
 conv=>rhs;rw[<-List.map_id row]
 refine List.map_congr_left fun e he=>?_
 have hr:=List.all_eq_true.1 h e he
 obtain⟨h0,h1⟩:=evB_bd hr
 simp only[Function.comp,id]
 have e1:(UInt8.ofNat (evB e).toNat).toNat=(evB e).toNat:=by rw[UInt8.toNat_ofNat'];omega
 rw[e1,show(((evB e).toNat:Nat):Int)=evB e by omega,evOf_evB hr]
theorem ZfD{row:List Ev}(h:row.all Zay=true):ZaR row=row.map evB:=by unfold ZaR;rw[if_pos h]
theorem Zll{row:List Ev}(h:row.all Zay=true):readE (u8s (ZaR row))=row:=by
 rw[ZfD h]
 have h1:=evsOf_u8s h
 unfold readE readOk
 rw[h1,if_pos h]
theorem ZgE:∀(m:List (List Ev)) (n:Nat),LvFit m->m.length<=n->ZhO n (u8s (Zce m))=m
 | [],0,_,_=>rfl
 | [],n+1,_,_=>by
  show ZhO (n+1) [0]=[]
  unfold ZhO
  rfl
 |row::m,0,_,h=>by simp at h
 |row::m,n+1,hf,h=>by
  obtain⟨h1,h2,h3⟩:=hf row (by simp)
  have e1:u8s (Zce (row::m))=UInt8.ofNat row.length::(u8s (ZaR row)++u8s (Zce m)):=by
   unfold Zce lvB u8s
   simp
  have e2:(UInt8.ofNat row.length).toNat=row.length:=by rw[UInt8.toNat_ofNat'];omega
  have e3:(u8s (ZaR row)).length=row.length:=by rw[u8s_length,ZfD h3,List.length_map]
  rw[e1,ZhO,e2,if_neg (by omega),List.take_left' e3,List.drop_left' e3,Zll h3,ZgE m n (fun r hr=>hf r (by simp[hr])) (by simpa using h)]
theorem ZhD(l:List Ev):Zaw l=l.all Zay:=rfl
theorem lvls_fit{l:List Ev}(hr:Zaw l=true)(hl:l.length<=200):LvFit (lvls l):=by
 intro row hrow
 obtain⟨i,hi,rfl⟩:=List.mem_iff_getElem.1 hrow
 have hfull:=(lvls_ok l).full i hi
 have hsm:=Zf6 l i
 rw[Zav _ hi]at hfull hsm
 refine⟨List.length_pos_iff.2 hfull,by omega,List.all_eq_true.2 fun e he=>?_⟩
 rw[ZhD]at hr
 exact List.all_eq_true.1 hr e (mem_lvls (List.mem_flatten.2 ⟨_,hrow,he⟩))
theorem Zd5{l:List Ev}(hr:Zaw l=true)(hl:l.length<=200):keyF l=Zce (lvls l):=by
 unfold keyF ZaQ
 rw[hr]
 simp[hl]
theorem keyF_wrong{l:List Ev}(hr:Zaw l=false):keyF l=[]:=by
 unfold keyF ZaQ
 rw[hr]
 simp
theorem Zj8{l:List Ev}(hr:Zaw l=true)(hl:l.length<=200):ZhO 200 (u8s (keyF l))=lvls l:=by
 rw[Zd5 hr hl]
 exact ZgE _ _ (lvls_fit hr hl) (by have:=ZeN l;omega)
theorem spell_ne(m:List (List Ev)):u8s (Zce m)≠[]:=by
 unfold Zce
 rw[u8s_append]
 simp[u8s]
theorem key_iff{a b:List Ev}(hr:Zaw a=true)(hl:a.length<=200)(hl':b.length<=200):u8s (keyF a)=u8s (keyF b)↔SameO a b:=by
 constructor
 ·intro h
  cases hb:Zaw b
  ·rw[keyF_wrong hb,Zd5 hr hl]at h
   exact absurd h (spell_ne _)
  ·refine⟨hr,hb,(ZiU a b).1 ?_⟩
   rw[<-Zj8 hr hl,<-Zj8 hb hl',h]
 ·rintro⟨_,hb,hs⟩
  rw[Zd5 hr hl,Zd5 hb hl',(ZiU a b).2 hs]
end Go.Proofs.YtjfmmnhcddckaaaGreat
namespace Go.Proofs.YtjfmmnhcddckaaaGreat
open Go.RowKit Go.Maps Go.Sort
def Zdq:List (List UInt8)->List (List UInt8)
 | []=>[]
 |x::l=>if x∈l then Zdq l else x::Zdq l
theorem Zcn{x:List UInt8}:∀{l:List (List UInt8)},x∈Zdq l↔x∈l
 | []=>Iff.rfl
 |y::l=>by
  unfold Zdq
  split
  ·rename_i h
   rw[Zcn,List.mem_cons]
   exact⟨.inr,fun e=>e.elim (fun e=>e▸h) id⟩
  ·rw[List.mem_cons,List.mem_cons,Zcn]
theorem ZbI:∀l:List (List UInt8),(Zdq l).Nodup
 | []=>List.nodup_nil
 |y::l=>by
  unfold Zdq
  split
  ·exact ZbI l
  ·rename_i h
   exact List.nodup_cons.2 ⟨fun e=>h (Zcn.1 e),ZbI l⟩
theorem Zh6:∀l:List (List UInt8),(Zdq l).length<=l.length
 | []=>Nat.le_refl _
 |y::l=>by
  unfold Zdq
  have:=Zh6 l
  split
  ·simp;omega
  ·simp;omega
abbrev Key:=List UInt8
def sortK(ks:List Key):List Key:=(Zdq ks).mergeSort (fun x y=>decide (x<=y))
theorem Zfy{ks L:List Key}(h1:L.Pairwise (fun x y=>decide (x<=y)=true))(h2:L.Nodup)(h3:∀x,x∈L↔x∈ks):L=sortK ks:=by
 have hp:L.Perm (sortK ks):=by
  refine((List.perm_ext_iff_of_nodup h2 ?_).2 fun x=>?_).trans (List.mergeSort_perm _ _).symm
  ·exact(ZbI _)
  ·rw[h3,Zcn]
 have tr:∀a b c:Key,decide (a<=b)=true->decide (b<=c)=true->decide (a<=c)=true:=fun a b c h1 h2=>by simp only[decide_eq_true_eq]at *;exact List.le_trans h1 h2
 have tt:∀a b:Key,(decide (a<=b)||decide (b<=a))=true:=fun a b=>by simp only[Bool.or_eq_true,decide_eq_true_eq];exact List.le_total a b
 refine List.Perm.eq_of_pairwise (le:=fun a b=>decide (a<=b)=true) (fun a b _ _ h1 h2=>?_) h1 (List.pairwise_mergeSort tr tt _) hp
 simp only[decide_eq_true_eq]at h1 h2
 exact List.le_antisymm h1 h2
theorem Ziw{ks ss:List Key}(h2:ss.Nodup)(h3:∀x,x∈ss↔x∈ks):ss.mergeSort (fun x y=>decide (x<=y))=sortK ks:=by
 have tr:∀a b c:Key,decide (a<=b)=true->decide (b<=c)=true->decide (a<=c)=true:=fun a b c h1 h2=>by simp only[decide_eq_true_eq]at *;exact List.le_trans h1 h2
 have tt:∀a b:Key,(decide (a<=b)||decide (b<=a))=true:=fun a b=>by simp only[Bool.or_eq_true,decide_eq_true_eq];exact List.le_total a b
 refine Zfy (List.pairwise_mergeSort tr tt _) ((List.mergeSort_perm ss _).nodup_iff.2 h2) fun x=>?_
 rw[(List.mergeSort_perm ss _).mem_iff]
 exact h3 x
theorem ZeJ{ks:List Key}{x:Key}:x∈sortK ks↔x∈ks:=by
 unfold sortK
 rw[(List.mergeSort_perm _ _).mem_iff,Zcn]
theorem ZjJ(ks:List Key):(sortK ks).length<=ks.length:=by
 unfold sortK
 rw[List.length_mergeSort]
 exact Zh6 _
def keyB(row:List Ev):Key:=u8s (keyF row)
def Zau(acc:Ends):List Key:=acc.map fun x=>keyB x.2
theorem ZjI(ks:List Key):(sortK ks).length=(Zdq ks).length:=by
 unfold sortK
 rw[List.length_mergeSort]
end Go.Proofs.YtjfmmnhcddckaaaGreat
namespace Go.Proofs.YtjfmmnhcddckaaaGreat
structure PN where
 st:St
 z:Nat
 go:Nat
 gone:Nat
def pn0:PN:=⟨⟨⟨0,0,[]⟩,[],[],[]⟩,0,0,0⟩
structure Xp where
 path:List PN
 row:List Ev
 order:List Int
 choices:Nat
 keys:List Key
 nodes:Nat
 runs:Nat
 blocked:Nat
def pick(o:List Int)(c:Nat)(l:List Int):Int:=if l.length=1 then l.getD 0 0 else l.getD (if c<o.length then (o.getD c 0).toNat%l.length else 0) 0
def Ahead(g:List Int)(u t:Int):Prop:=∃g1 g2,g=g1++t::g2/\u∈g1
structure Expl0(s0:St)(N:List Ev->Prop)(G:List Ev->List Int)(Z:List Ev->Int->Prop):Prop where
 root:N []
 calm:∀t,¬Z [] t
 rows:∀l,N l->∃z,Ex s0 l z
 par:∀l e,N (l++[e])->N l/\e.thread∈G l
 kid:∀l t z,N l->t∈G l->Ex s0 l z->z.may t=true/\¬Z l t/\∀e,z.next t=some e->N (l++[e])
 wake:∀l e z u,N (l++[e])->Ex s0 l z->(Z (l++[e]) u↔u≠e.thread/\(Z l u∨Ahead (G l) u e.thread)/\∃f,z.next u=some f/\dep f e=false)
 once:∀l,N l->(G l).Nodup
structure Expl(s0:St)(N:List Ev->Prop)(G:List Ev->List Int)(Z:List Ev->Int->Prop):Prop extends Expl0 s0 N G Z where
 any:∀l t z,N l->Ex s0 l z->z.may t=true->¬Z l t->G l≠[]
 mark:∀l e v z u f,N (l++e::v)->Ex s0 (l++e::v) z->z.next u=some f->u≠e.thread->dep e f=true ->
  (∀j,j<(l++e::v).length->(evI (l++e::v) j).thread=u->hb (l++e::v) l.length j=false)->∀t y,Ex s0 l y->y.may t=true->t∈G l∨Z l t
theorem Zf5{s:St}{t:Int}(h:s.may t=true):∃e,s.next t=some e:=by
 unfold St.may at h
 split at h
 ·cases h
 ·rename_i i hi
  exact⟨_,by unfold St.next;rw[hi];rfl⟩
theorem split_dep(p:Ev)(w:List Ev):(∀x∈w,dep p x=false)∨∃a e b,w=a++e::b/\(∀x∈a,dep p x=false)/\dep p e=true:=by
 induction w with
 |nil=>exact .inl (by simp)
 |cons x w ih=>
  cases hd:dep p x
  ·rcases ih with h|⟨a,e,b,rfl,h1,h2⟩
   ·refine .inl (fun y hy=>?_)
    rcases List.mem_cons.1 hy with rfl|hy
    ·exact hd
    ·exact h y hy
   ·refine .inr ⟨x::a,e,b,rfl,fun y hy=>?_,h2⟩
    rcases List.mem_cons.1 hy with rfl|hy
    ·exact hd
    ·exact h1 y hy
  ·exact .inr ⟨[],x,w,rfl,by simp,hd⟩
theorem first_of{P:Int->Prop}{g:List Int}(h:∃t∈g,P t):∃g1 t g2,g=g1++t::g2/\P t/\∀u∈g1,¬P u:=by
 induction g with
 |nil=>obtain⟨t,ht,_⟩:=h;cases ht
 |cons x g ih=>
  by_cases hx:P x
  ·exact⟨[],x,g,rfl,hx,by simp⟩
  ·obtain⟨t,ht,hp⟩:=h
   have ht':t∈g:=by
    rcases List.mem_cons.1 ht with rfl|ht
    ·exact absurd hp hx
    ·exact ht
   obtain⟨g1,t',g2,rfl,h1,h2⟩:=ih ⟨t,ht',hp⟩
   refine⟨x::g1,t',g2,rfl,h1,fun u hu=>?_⟩
   rcases List.mem_cons.1 hu with rfl|hu
   ·exact hx
   ·exact h2 u hu
def cu(u:Int)(l:List Ev):Nat:=(l.filter fun e=>decide (e.thread=u)).length
theorem ZkN(u:Int)(a b:List Ev):cu u (a++b)=cu u a+cu u b:=by unfold cu;rw[List.filter_append,List.length_append]
theorem Zg3(u:Int)(e:Ev)(b:List Ev):cu u (e::b)=(if e.thread=u then 1 else 0)+cu u b:=by
 unfold cu
 by_cases h:e.thread=u
 ·simp[h];omega
 ·simp[h]
theorem cu_zero{u:Int}{l:List Ev}(h:cu u l=0):∀x∈l,x.thread≠u:=by
 unfold cu at h
 have:=List.eq_nil_of_length_eq_zero h
 rw[List.filter_eq_nil_iff]at this
 intro x hx
 simpa using this x hx
theorem split_u(u:Int)(v:List Ev):∀k,k<cu u v->∃v0 f v1,v=v0++f::v1/\f.thread=u/\cu u v0=k:=by
 induction v with
 |nil=>intro k h;simp[cu]at h
 |cons x v ih=>
  intro k h
  rw[Zg3]at h
  by_cases hx:x.thread=u
  ·rcases k with _|k
   ·exact⟨[],x,v,rfl,hx,rfl⟩
   ·rw[if_pos hx]at h
    obtain⟨v0,f,v1,rfl,h1,h2⟩:=ih k (by omega)
    exact⟨x::v0,f,v1,rfl,h1,by rw[Zg3,if_pos hx,h2];omega⟩
  ·rw[if_neg hx,Nat.zero_add]at h
   obtain⟨v0,f,v1,rfl,h1,h2⟩:=ih k h
   exact⟨x::v0,f,v1,rfl,h1,by rw[Zg3,if_neg hx,h2];omega⟩
theorem prs_fst(l:List Ev):(prs l).map Prod.fst=l:=by
 unfold prs
 rw[List.map_map]
 apply List.ext_getElem?
 intro i
 rw[List.getElem?_map]
 by_cases h:i<l.length
 ·rw[List.getElem?_range h,List.getElem?_eq_getElem h]
  simp[Za4 h]
 ·rw[List.getElem?_eq_none (by simpa using h),List.getElem?_eq_none (by omega)]
  rfl
theorem Zlq(l:List Ev)(u:Int):(psi l u).map Prod.fst=l.filter fun e=>decide (e.thread=u):=by
 conv=>rhs;rw[<-prs_fst l,List.filter_map]
 rfl
theorem ZhB{a b:List Ev}(h:Sim a b)(u:Int):(a.filter fun e=>decide (e.thread=u))=b.filter fun e=>decide (e.thread=u):=by rw[<-Zlq,<-Zlq,h]
theorem sim_cu{a b:List Ev}(h:Sim a b)(u:Int):cu u a=cu u b:=by unfold cu;rw[ZhB h]
theorem filter_at{u:Int}{a b a' b':List Ev}{f g:Ev}(h:((a++f::b).filter fun e=>decide (e.thread=u))=(a'++g::b').filter fun e=>decide (e.thread=u))(hf:f.thread=u)(hg:g.thread=u)(hc:cu u a=cu u a'):f=g:=by
 rw[List.filter_append,List.filter_append,List.filter_cons_of_pos (by simpa using hf),List.filter_cons_of_pos (by simpa using hg)]at h
 have:=(List.append_inj h hc).2
 injection this
theorem Zep{g1 g2 h1 h2:List Int}{t:Int}(hn:(g1++t::g2).Nodup)(h:g1++t::g2=h1++t::h2):g1=h1:=by
 induction g1 generalizing h1 with
 |nil=>
  rcases h1 with _|⟨x,h1⟩
  ·rfl
  ·exfalso
   rw[List.nil_append,List.cons_append]at h
   injection h with e1 e2
   rw[List.nil_append,List.nodup_cons]at hn
   exact hn.1 (by rw[e2];simp)
 |cons x g1 ih=>
  rcases h1 with _|⟨y,h1⟩
  ·exfalso
   rw[List.nil_append,List.cons_append]at h
   injection h with e1 e2
   rw[List.cons_append,List.nodup_cons]at hn
   exact hn.1 (by rw[e1];simp)
  ·rw[List.cons_append,List.cons_append]at h
   injection h with e1 e2
   rw[List.cons_append,List.nodup_cons]at hn
   rw[e1,ih hn.2 e2]
theorem cnt_cu{u:Int}(a b:List Ev):cnt (isT (a++b) u) a.length=cu u a:=by
 have:cnt (isT (a++b) u) a.length=cnt (isT a u) a.length:=ZcE _ fun i hi=>by unfold isT;rw[ZaZ hi]
 rw[this,<-Zcc]
 unfold cu
 rw[<-Zlq,List.length_map]
theorem Expl0.below{s0:St}{N:List Ev->Prop}{G:List Ev->List Int}{Z:List Ev->Int->Prop}(E:Expl0 s0 N G Z)(y:List Ev):∀{l:List Ev},N (l++y)->N l:=by
 induction y with
 |nil=>intro l h;rw[List.append_nil]at h;exact h
 |cons e y ih=>
  intro l h
  rw[show l++e::y=(l++[e])++y by simp]at h
  exact(E.par l e (ih h)).1
theorem Expl.cover{F:Nat}{s0:St}(ok0:s0.Ok F){N:List Ev->Prop}{G:List Ev->List Int}{Z:List Ev->Int->Prop}(E:Expl s0 N G Z)(n:Nat):∀(l:List Ev) (z:St),N l->Ex s0 l z->z.fuel<=n->∀(w:List Ev) (z1:St),Ex z w z1 ->
  (∀t,Ini t w->¬Z l t)->∃v y,N (l++v)/\Sim v (w++y):=by
 induction n with
 |zero=>
  intro l z hN _ hf w z1 hw _
  rcases w with _|⟨x,w⟩
  ·exact⟨[],[],by rw[List.append_nil];exact hN,Sim.refl _⟩
  ·obtain⟨s1,h1,_⟩:=hw
   have:=ZcV h1
   omega
 |succ n ih=>
  intro l z hN hz hf w z1 hw hI
  rcases w with _|⟨x,w'⟩
  ·exact⟨[],[],by rw[List.append_nil];exact hN,Sim.refl _⟩
  generalize hwe:x::w'=w at *
  have okz:=hz.ok ok0
  obtain⟨t0,ht0m,ht0i⟩:∃t0,z.may t0=true/\Ini t0 w:=by
   subst hwe
   obtain⟨s1,h1,_⟩:=hw
   exact⟨x.thread,(ZaU h1).2.1,[],x,w',rfl,rfl,by simp⟩
  have hG:=E.any l t0 z hN hz ht0m (hI t0 ht0i)
  clear hwe
  by_cases hA:∃t∈G l,Ini t w
  ·obtain⟨g1,t,g2,hg,⟨a,p,b,hwp,hpt,hpa⟩,hfirst⟩:=first_of hA
   subst hpt
   have htG:p.thread∈G l:=by rw[hg];simp
   have hs:=ZjM (b:=b) hpa
   rw[<-hwp]at hs
   obtain⟨zc,hc1,hc2⟩:=(ex_sim okz hs).1 hw
   obtain⟨hpn,hpm,_⟩:=ZaU hc1
   obtain⟨_,_,hkid⟩:=E.kid l p.thread z hN htG hz
   have hN1:=hkid p hpn
   have hz1:Ex s0 (l++[p]) zc:=ZaV.2 ⟨z,hz,zc,hc1,rfl⟩
   have hfu:=ZcV hc1
   have okc:zc.Ok F:=hz1.ok ok0
   obtain⟨v,y,hNv,hv⟩:=ih (l++[p]) zc hN1 hz1 (by omega) (a++b) z1 hc2 (fun u hu hZ=>by
    obtain⟨hup,hZ1,f,hfn,hfd⟩:=(E.wake l p z u hN1 hz).1 hZ
    have hIu:Ini u w:=by
     obtain⟨a',f',b',e1,e2,e3⟩:=hu
     have hff:f'=f:=by
      rw[e1]at hc2
      obtain⟨z3,hz3,z4,hz4,_⟩:=ZaV.1 hc2
      have h5:=Zi6 okc hz3 (u:=u) (fun x hx=>by rw[<-e2];exact Ne.symm (ZkL (e3 x hx)))
      have h6:=(okz.next_step p.thread (u:=u) hup)
      rw[hc1]at h6
      rw[e2]at hz4
      have h7:=(ZaU hz4).1
      rw[h5,h6,hfn]at h7
      injection h7 with h7
      exact h7.symm
     subst hff
     rcases List.append_eq_append_iff.1 e1 with ⟨c,hc,hc'⟩|⟨c,hc,hc'⟩
     ·-- a'=a++c,b=c++f'::b'
      refine⟨a++p::c,f',b',by rw[hwp,hc'];simp,e2,fun x hx=>?_⟩
      rcases List.mem_append.1 hx with hx|hx
      ·exact e3 x (by rw[hc];simp[hx])
      ·rcases List.mem_cons.1 hx with rfl|hx
       ·exact hfd
       ·exact e3 x (by rw[hc];simp[hx])
     ·-- a=a'++c,f'::b'=c++b
      rcases c with _|⟨c0,c⟩
      ·rw[List.append_nil]at hc
       rw[List.nil_append]at hc'
       refine⟨a++[p],f',b',by rw[hwp,<-hc'];simp,e2,fun x hx=>?_⟩
       rcases List.mem_append.1 hx with hx|hx
       ·exact e3 x (by rw[<-hc];exact hx)
       ·rw[List.mem_singleton.1 hx]
        exact hfd
      ·rw[List.cons_append]at hc'
       injection hc' with hc0 hc1'
       subst hc0
       exact⟨a',f',c++p::b,by rw[hwp,hc];simp,e2,e3⟩
    rcases hZ1 with hZ1|⟨g1',g2',hg',hug⟩
    ·exact hI u hIu hZ1
    ·have hnd:=E.once l hN
     have:u∈g1:=by
      rw[hg]at hnd hg'
      have hsplit:=Zep hnd hg'
      rw[hsplit]
      exact hug
     exact hfirst u this hIu)
   refine⟨p::v,y,by rw[show l++p::v=l++[p]++v by simp];exact hNv,?_⟩
   refine(Ziz p hv).trans ?_
   have:=ZjL hs.symm y
   exact this
  ·-- nobody who is gone into could begin: then all are
   obtain⟨q,g,hgq⟩:=List.exists_cons_of_ne_nil hG
   have hqG:q∈G l:=by rw[hgq];simp
   obtain⟨hqm,_,hkid⟩:=E.kid l q z hN hqG hz
   obtain⟨p,hpn⟩:=Zf5 hqm
   have hpq:=Zcu hpn
   subst hpq
   have hN1:=hkid p hpn
   obtain⟨zc,hc1⟩:=next_step hpn hqm
   have hz1:Ex s0 (l++[p]) zc:=ZaV.2 ⟨z,hz,zc,hc1,rfl⟩
   have hfu:=ZcV hc1
   have okc:zc.Ok F:=hz1.ok ok0
   have hsub:∀a b,w=a++b->∀u,Ini u a->¬Z (l++[p]) u:=by
    intro a b hab u hu hZ
    obtain⟨hup,hZ1,f,hfn,hfd⟩:=(E.wake l p z u hN1 hz).1 hZ
    have hIu:Ini u w:=by
     obtain⟨a',f',b',e1,e2,e3⟩:=hu
     exact⟨a',f',b'++b,by rw[hab,e1];simp,e2,e3⟩
    rcases hZ1 with hZ1|⟨g1',g2',hg',hug⟩
    ·exact hI u hIu hZ1
    ·have hnd:=E.once l hN
     rw[hgq]at hnd hg'
     have hsplit:=Zep (g1:=[]) (g2:=g) (by simpa using hnd) hg'
     rw[<-hsplit]at hug
     cases hug
   rcases split_dep p w with hall|⟨wq,e,w2,hwq,hpre,hdep⟩
   ·obtain⟨_,_,z',hx1,hx2⟩:=ex_comm okz hpn hqm hw hall
    obtain⟨s1,hs1,hs2⟩:=hx1
    rw[hc1]at hs1
    injection hs1 with _ hs1
    injection hs1 with _ hs1
    subst hs1
    obtain⟨v,y,hNv,hv⟩:=ih (l++[p]) zc hN1 hz1 (by omega) w z' hs2 (hsub w [] (by simp))
    refine⟨p::v,p::y,by rw[show l++p::v=l++[p]++v by simp];exact hNv,?_⟩
    exact(Ziz p hv).trans (ZjM (b:=y) hall).symm
   ·exfalso
    have hwex:=hw
    rw[hwq]at hwex
    obtain⟨zq,hzq,z3,hz3,_⟩:=ZaV.1 hwex
    obtain⟨hen,hem,_⟩:=ZaU hz3
    have hnp:e.thread≠p.thread:=by
     intro he
     have h1:=Zi6 okz hzq (u:=p.thread) (fun x hx=>Ne.symm (ZkL (hpre x hx)))
     rw[<-he,hen,he,hpn]at h1
     injection h1 with h1
     subst h1
     exact hA ⟨_,hqG,wq,_,w2,hwq,rfl,hpre⟩
    obtain⟨n1,m1,zpq,hx1,hx2⟩:=ex_comm okz hpn hqm hzq hpre
    obtain⟨s1,hs1,hs2⟩:=hx1
    rw[hc1]at hs1
    injection hs1 with _ hs1
    injection hs1 with _ hs1
    subst hs1
    have okq:=hzq.ok okz
    have hnext:zpq.next e.thread=some e:=by
     obtain⟨zq',hzq',z5,hz5,hz5'⟩:=ZaV.1 hx2
     obtain rfl:=ZcM hzq hzq'
     have h6:=okq.next_step p.thread (u:=e.thread) hnp
     rw[hz5]at h6
     rw[hz5',h6]
     exact hen
    obtain⟨v,y,hNv,hv⟩:=ih (l++[p]) zc hN1 hz1 (by omega) wq zpq hs2 (hsub wq (e::w2) hwq)
    obtain⟨zr,hzr⟩:=E.rows _ hNv
    obtain⟨zc',hzc',hzv⟩:=ZaV.1 hzr
    obtain rfl:=ZcM hz1 hzc'
    have hwy:=(ex_sim okc hv).1 hzv
    obtain⟨zpq',hzpq',hy⟩:=ZaV.1 hwy
    obtain rfl:=ZcM hs2 hzpq'
    have okpq:=hs2.ok okc
    have key:∃v0 v1 z0,v=v0++v1/\Ex zc v0 z0/\z0.next e.thread=some e/\cu e.thread v0=cu e.thread wq:=by
     have hcu:=sim_cu hv e.thread
     rw[ZkN]at hcu
     by_cases hk:cu e.thread y=0
     ·refine⟨v,[],zr,by simp,hzv,?_,by omega⟩
      rw[Zi6 okpq hy (cu_zero hk),hnext]
     ·obtain⟨v0,f,v1,e1,e2,e3⟩:=split_u e.thread v (cu e.thread wq) (by omega)
      obtain⟨y0,g',y1,e4,e5,e6⟩:=split_u e.thread y 0 (by omega)
      rw[e1]at hzv
      obtain⟨z0,hz0,z6,hz6,_⟩:=ZaV.1 hzv
      rw[e4]at hy
      obtain⟨z7,hz7,z8,hz8,_⟩:=ZaV.1 hy
      have h9:=Zi6 okpq hz7 (cu_zero e6)
      rw[e5]at hz8
      have h10:=(ZaU hz8).1
      rw[h9,hnext]at h10
      injection h10 with h10
      have hfg:f=g':=by
       have h11:=ZhB hv e.thread
       rw[e1,e4,show wq++(y0++g'::y1)=(wq++y0)++g'::y1 by simp]at h11
       exact filter_at h11 e2 e5 (by rw[ZkN,e6,e3];omega)
      rw[e2]at hz6
      have h12:=(ZaU hz6).1
      rw[hfg,<-h10]at h12
      exact⟨v0,f::v1,z0,e1,hz0,h12,e3⟩
    obtain⟨v0,v1,z0,e1,hz0,hn0,hc0⟩:=key
    have hN0:N (l++p::v0):=by
     rw[e1]at hNv
     rw[show l++[p]++(v0++v1)=(l++p::v0)++v1 by simp]at hNv
     exact E.below v1 hNv
    have hE0:Ex s0 (l++p::v0) z0:=by
     rw[show l++p::v0=(l++[p])++v0 by simp]
     exact ZaV.2 ⟨zc,hz1,hz0⟩
    have hno:∀j,j<(l++p::v0).length->(evI (l++p::v0) j).thread=e.thread->hb (l++p::v0) l.length j=false:=by
     intro j hj hjt
     cases hh:hb (l++p::v0) l.length j
     ·rfl
     ·exfalso
      have hle:=hb_le hh
      obtain⟨m,rfl⟩:∃m,j=l.length+m:=⟨j-l.length,by omega⟩
      have h1:=(Zi1 l (p::v0) (i:=0) (j:=m)).1 hh
      rw[Zby]at hjt
      rcases m with _|m
      ·exact hnp hjt.symm
      ·have hm:m<v0.length:=by simp at hj;omega
       have h2:hb (p::v) 0 (m+1)=true:=by
        rw[e1,show p::(v0++v1)=(p::v0)++v1 by simp]
        rw[ZdO]
        ·exact h1
        ·simp;omega
       have hmv:m+1<(p::v).length:=by rw[e1];simp;omega
       have hev:evI (p::v) (m+1)=evI (p::v0) (m+1):=by
        rw[e1,show p::(v0++v1)=(p::v0)++v1 by simp]
        exact ZaZ (by simp;omega)
       rw[<-hev]at hjt
       have hsim:Sim (p::v) (p::(wq++y)):=Ziz p hv
       have hpos:0<clk (p::v) (m+1) p.thread:=by
        have h3:=ZbL.1 h2
        have h4:=Zkc (p::v) 0
        have h5:(evI (p::v) 0)=p:=rfl
        rw[h5]at h3
        omega
       obtain⟨k,hk,hk1,hk2⟩:=hsim.at hmv
       rw[hjt]at hk
       have hkw:k<wq.length+1:=by
        apply Classical.byContradiction
        intro hn
        have h6:=Zci (isT (p::(wq++y)) e.thread) (show wq.length+1<=k by omega)
        have h7:cnt (isT (p::(wq++y)) e.thread) (wq.length+1)=cu e.thread wq:=by
         have h:=cnt_cu (u:=e.thread) (p::wq) y
         rw[Zg3,if_neg (Ne.symm hnp),Nat.zero_add,List.length_cons,List.cons_append]at h
         exact h
        have h8:cnt (isT (p::v) e.thread) (m+1)<cu e.thread v0:=by
         have h9:=ZfP (isT (p::v) e.thread) (show m+1<v0.length+1 by omega) (Zcz.2 hjt)
         have h10:cnt (isT (p::v) e.thread) (v0.length+1)=cu e.thread v0:=by
          have h:=cnt_cu (u:=e.thread) (p::v0) v1
          rw[Zg3,if_neg (Ne.symm hnp),Nat.zero_add,List.length_cons,List.cons_append]at h
          rw[e1]
          exact h
         omega
        have h11:=hk.2.2
        omega
       rcases k with _|k
       ·have:evI (p::(wq++y)) 0=p:=rfl
        rw[this]at hk1
        rw[<-hk1]at hjt
        exact hnp hjt.symm
       ·rw[<-hk2]at hpos
        obtain⟨k0,hk0,hk0h⟩:=(Zl7 hk.1).1 hpos
        have hz0':k0=0:=by
         have h12:At (p::(wq++y)) p.thread 0 0:=⟨by simp,Zcz.2 rfl,rfl⟩
         exact hk0.uniq h12
        subst hz0'
        rw[hb_first hpre (by omega)]at hk0h
        cases hk0h
    rcases E.mark l p v0 z0 e.thread e hN0 hE0 hn0 hnp hdep hno t0 z hz ht0m with h|h
    ·exact hA ⟨t0,h,ht0i⟩
    ·exact hI t0 ht0i h
theorem ZdQ(s a:List Ev)(u:Int)(k:Nat):cnt (isT (s++a) u) (s.length+k)=cnt (isT s u) s.length+cnt (isT a u) k:=by
 induction k with
 |zero=>exact ZcE _ fun i hi=>by unfold isT;rw[ZaZ hi]
 |succ k ih=>
  rw[<-Nat.add_assoc,ZaW,ZaW,ih]
  have:isT (s++a) u (s.length+k)=isT a u k:=by unfold isT;rw[Zby]
  rw[this]
  omega
theorem at_right{s a:List Ev}{u:Int}{m k:Nat}(h:At a u m k):At (s++a) u (cnt (isT s u) s.length+m) (s.length+k):=by
 refine⟨by rw[List.length_append];have:=h.1;omega,?_,by rw[ZdQ,h.2.2]⟩
 have:=h.2.1
 unfold isT at this ⊢
 rw[Zby]
 exact this
theorem ZfR{s a:List Ev}{u:Int}{m k:Nat}(h:At (s++a) u (cnt (isT s u) s.length+m) k):∃j,k=s.length+j/\At a u m j:=by
 have hk:s.length<=k:=by
  apply Classical.byContradiction
  intro hn
  have h1:=ZfP (isT (s++a) u) (show k<s.length by omega) h.2.1
  have h2:=ZdQ s a u 0
  rw[Nat.add_zero,Zgb,Nat.add_zero]at h2
  have:=h.2.2
  omega
 obtain⟨j,rfl⟩:∃j,k=s.length+j:=⟨k-s.length,by omega⟩
 refine⟨j,rfl,by have:=h.1;rw[List.length_append]at this;omega,?_,?_⟩
 ·have:=h.2.1
  unfold isT at this ⊢
  rw[Zby]at this
  exact this
 ·have:=h.2.2
  rw[ZdQ]at this
  omega
theorem ZkR{s a:List Ev}{i:Nat}(hi:i<a.length)(u:Int):clk a i u=clk (s++a) (s.length+i) u-cnt (isT s u) s.length:=by
 have key:∀m,m<clk a i u↔m<clk (s++a) (s.length+i) u-cnt (isT s u) s.length:=by
  intro m
  rw[show(m<clk (s++a) (s.length+i) u-cnt (isT s u) s.length)↔(cnt (isT s u) s.length+m<clk (s++a) (s.length+i) u) by omega]
  rw[Zl7 hi,Zl7 (show s.length+i<(s++a).length by rw[List.length_append];omega)]
  constructor
  ·rintro⟨k,hk,hh⟩
   exact⟨s.length+k,at_right hk,(Zi1 s a).2 hh⟩
  ·rintro⟨k,hk,hh⟩
   obtain⟨j,rfl,hj⟩:=ZfR hk
   exact⟨j,hj,(Zi1 s a).1 hh⟩
 apply Nat.le_antisymm
 ·apply Nat.le_of_not_lt
  intro hc
  have:=(key _).1 hc
  omega
 ·apply Nat.le_of_not_lt
  intro hc
  have:=(key _).2 hc
  omega
theorem sim_cancel{s a b:List Ev}(h:Sim (s++a) (s++b)):Sim a b:=by
 intro t
 have hlen:cnt (isT a t) a.length=cnt (isT b t) b.length:=by
  have h1:=h.cnt t
  rw[List.length_append,List.length_append,ZdQ,ZdQ]at h1
  omega
 apply List.ext_getElem?
 intro j
 by_cases hj:j<cnt (isT a t) a.length
 ·obtain⟨i,hi⟩:=at_ex hj
  have hr:=at_right (s:=s) hi
  have e1:=Ze9 hr.1 hr.2.1
  rw[hr.2.2,h]at e1
  obtain⟨k',hk1,hk2,hk3,hk4⟩:=ZgB e1
  obtain⟨k,rfl,hk⟩:=ZfR (show At (s++b) t (cnt (isT s t) s.length+j) k' from⟨hk1,hk2,hk3⟩)
  injection hk4 with hk5 hk6
  rw[Zby,Zby]at hk5
  have e2:=Ze9 hi.1 hi.2.1
  have e3:=Ze9 hk.1 hk.2.1
  rw[hi.2.2]at e2
  rw[hk.2.2]at e3
  rw[e2,e3,hk5]
  have:clk a i=clk b k:=funext fun u=>by rw[ZkR (s:=s) hi.1,ZkR (s:=s) hk.1,hk6]
  rw[this]
 ·rw[List.getElem?_eq_none (by rw[Zcc];omega),List.getElem?_eq_none (by rw[Zcc];omega)]
theorem sim_head{x w:List Ev}{e:Ev}(h:Sim (e::x) w):∃a b,w=a++e::b/\∀y∈a,dep e y=false:=by
 have h1:=Ze9 (l:=e::x) (t:=e.thread) (i:=0) (by simp) (Zcz.2 rfl)
 rw[h,Zgb]at h1
 obtain⟨k,hk,hkt,hkc,hke⟩:=ZgB h1
 injection hke with hke hkl
 have hek:evI w k=e:=hke.symm
 refine⟨w.take k,w.drop (k+1),by rw[<-hek];exact Zmn hk,fun y hy=>?_⟩
 cases hd:dep e y
 ·rfl
 ·exfalso
  obtain⟨i,hi,hiy⟩:=List.mem_iff_getElem.1 hy
  rw[List.length_take]at hi
  have hiw:i<w.length:=by omega
  have hy2:evI w i=y:=by rw[Za4 hiw,<-hiy,List.getElem_take]
  have hb1:hb w i k=true:=hb_dep (by omega) (by rw[hy2,hek,Zch];exact hd)
  have h2:=ZbL.1 hb1
  rw[hy2,<-hkl,Zkc]at h2
  by_cases ht:y.thread=e.thread
  ·have h3:=ZfP (isT w e.thread) (show i<k by omega) (Zcz.2 (by rw[hy2];exact ht))
   omega
  ·have h3:clk (e::x) 0 y.thread=0:=by
    unfold clk
    rw[ZaW,Zgb,if_neg]
    rw[Bool.and_eq_true,Zcz]
    rintro⟨_,h4⟩
    exact ht h4.symm
   omega
theorem ahead_or{g:List Int}{a b:Int}(ha:a∈g)(hb:b∈g)(hne:a≠b):Ahead g a b∨Ahead g b a:=by
 induction g with
 |nil=>cases ha
 |cons x g ih=>
  rcases List.mem_cons.1 ha with h1|h1
  ·rcases List.mem_cons.1 hb with h2|h2
   ·exact absurd (h1.trans h2.symm) hne
   ·subst h1
    obtain⟨g1,g2,rfl⟩:=List.append_of_mem h2
    exact .inl ⟨a::g1,g2,rfl,by simp⟩
  ·rcases List.mem_cons.1 hb with h2|h2
   ·subst h2
    obtain⟨g1,g2,rfl⟩:=List.append_of_mem h1
    exact .inr ⟨b::g1,g2,rfl,by simp⟩
   ·rcases ih h1 h2 with ⟨g1,g2,rfl,h⟩|⟨g1,g2,rfl,h⟩
    ·exact .inl ⟨x::g1,g2,rfl,by simp[h]⟩
    ·exact .inr ⟨x::g1,g2,rfl,by simp[h]⟩
theorem first_diff:∀{v w:List Ev},v.length=w.length->v≠w->∃s e f x y,v=s++e::x/\w=s++f::y/\e≠f:=by
 intro v
 induction v with
 |nil=>
  intro w hl hne
  obtain rfl:=List.eq_nil_of_length_eq_zero hl.symm
  exact absurd rfl hne
 |cons e v ih=>
  intro w hl hne
  rcases w with _|⟨f,w⟩
  ·simp at hl
  ·by_cases he:e=f
   ·subst he
    obtain⟨s,e',f',x,y,rfl,rfl,h⟩:=ih (by simpa using hl) (fun h=>hne (by rw[h]))
    exact⟨e::s,e',f',x,y,rfl,rfl,h⟩
   ·exact⟨[],e,f,v,w,rfl,rfl,he⟩
section
variable{F:Nat}{s0:St}{N:List Ev->Prop}{G:List Ev->List Int}{Z:List Ev->Int->Prop}
theorem Expl0.step(E:Expl0 s0 N G Z){l:List Ev}{e:Ev}(h:N (l++[e])):∃z z1,Ex s0 l z/\z.step e.thread=(0,e,z1)/\Ex s0 (l++[e]) z1:=by
 obtain⟨z1,h1⟩:=E.rows _ h
 obtain⟨z,hz,z2,h2,h3⟩:=ZaV.1 h1
 obtain rfl:z1=z2:=h3
 exact⟨z,z1,hz,h2,h1⟩
theorem Expl0.head(E:Expl0 s0 N G Z){l y:List Ev}{e:Ev}(h:N (l++e::y)):N (l++[e]):=by
 rw[show l++e::y=(l++[e])++y by simp]at h
 exact E.below y h
theorem Expl0.stays(ok0:s0.Ok F)(E:Expl0 s0 N G Z){e:Ev}{b:List Ev}(r:List Ev):∀{l:List Ev} {z:St},N (l++(r++e::b))->Ex s0 l z->z.next e.thread=some e->Z l e.thread->(∀y∈r,dep e y=false)->False:=by
 induction r with
 |nil=>
  intro l z hN hz _ hZ _
  have h1:=E.head hN
  obtain⟨h2,h3⟩:=E.par l e h1
  exact(E.kid l e.thread z h2 h3 hz).2.1 hZ
 |cons g r ih=>
  intro l z hN hz hn hZ hd
  rw[List.cons_append]at hN
  have h1:=E.head hN
  obtain⟨z',z1,hz',hst,hz1⟩:=E.step h1
  obtain rfl:=ZcM hz hz'
  have hdg:=hd g (by simp)
  have hne:e.thread≠g.thread:=ZkL hdg
  have hn1:z1.next e.thread=some e:=by
   have h6:=(hz.ok ok0).next_step g.thread (u:=e.thread) hne
   rw[hst]at h6
   rw[h6]
   exact hn
  rw[show l++g::(r++e::b)=(l++[g])++(r++e::b) by simp]at hN
  exact ih hN hz1 hn1 ((E.wake l g z e.thread h1 hz).2 ⟨hne,.inl hZ,e,hn,hdg⟩) (fun y hy=>hd y (by simp[hy]))
theorem Expl0.not_two(ok0:s0.Ok F)(E:Expl0 s0 N G Z){s:List Ev}{e f:Ev}{x y:List Ev}(h1:N (s++e::x))(h2:N (s++f::y))(hs:Sim (e::x) (f::y))(hne:e.thread≠f.thread)(ha:Ahead (G s) e.thread f.thread):False:=by
 obtain⟨a,b,hw,hd⟩:=sim_head hs
 rcases a with _|⟨f',a⟩
 ·rw[List.nil_append]at hw
  injection hw with hw _
  exact hne (by rw[hw])
 ·rw[List.cons_append]at hw
  injection hw with hw1 hw2
  subst hw1 hw2
  have he:=E.head h1
  have hf:=E.head h2
  obtain⟨z,z1,hz,hst,_⟩:=E.step he
  obtain⟨z',z2,hz',hst2,hz2⟩:=E.step hf
  obtain rfl:=ZcM hz hz'
  have hn:=(ZaU hst).1
  have hdf:=hd f (by simp)
  have hn2:z2.next e.thread=some e:=by
   have h6:=(hz.ok ok0).next_step f.thread (u:=e.thread) hne
   rw[hst2]at h6
   rw[h6]
   exact hn
  rw[show s++f::(a++e::b)=(s++[f])++(a++e::b) by simp]at h2
  exact E.stays ok0 a h2 hz2 hn2 ((E.wake s f z e.thread hf hz).2 ⟨hne,.inr ha,e,hn,hdf⟩) (fun y hy=>hd y (by simp[hy]))
theorem Expl0.only(ok0:s0.Ok F)(E:Expl0 s0 N G Z){v w:List Ev}(hv:N v)(hw:N w)(h:Sim v w):v=w:=by
 apply Classical.byContradiction
 intro hne
 obtain⟨s,e,f,x,y,rfl,rfl,hef⟩:=first_diff (sim_length h) hne
 have h1:=sim_cancel h
 have he:=E.head hv
 have hf:=E.head hw
 obtain⟨z,z1,hz,hst,_⟩:=E.step he
 obtain⟨z',z2,hz',hst2,_⟩:=E.step hf
 obtain rfl:=ZcM hz hz'
 have ht:e.thread≠f.thread:=by
  intro ht
  rw[ht,hst2]at hst
  injection hst with _ hst
  injection hst with hst _
  exact hef hst.symm
 rcases ahead_or (E.par s e he).2 (E.par s f hf).2 ht with ha|ha
 ·exact E.not_two ok0 hv hw h1 ht ha
 ·exact E.not_two ok0 hw hv h1.symm (Ne.symm ht) ha
def Whole(s0:St)(w:List Ev):Prop:=∃z,Ex s0 w z/\∀t,z.may t=false
theorem Expl.ends(ok0:s0.Ok F)(E:Expl s0 N G Z){w:List Ev}(h:Whole s0 w):∃v,N v/\Whole s0 v/\Sim v w/\∀v',N v'->Sim v' w->v'=v:=by
 obtain⟨z,hw,hend⟩:=h
 obtain⟨v,y,hN,hv⟩:=E.cover ok0 s0.fuel [] s0 E.root rfl (Nat.le_refl _) w z hw (fun t _=>E.calm t)
 rw[List.nil_append]at hN
 obtain⟨z2,hz2⟩:=E.rows v hN
 obtain⟨z',hz',hy⟩:=ZaV.1 ((ex_sim ok0 hv).1 hz2)
 obtain rfl:=ZcM hw hz'
 have hnil:y=[]:=by
  rcases y with _|⟨e,y⟩
  ·rfl
  ·exfalso
   obtain⟨s1,h1,_⟩:=hy
   have:=(ZaU h1).2.1
   rw[hend]at this
   cases this
 subst hnil
 rw[List.append_nil]at hv
 have hz3:=(ex_sim ok0 hv).2 hw
 exact⟨v,hN,⟨z,hz3,hend⟩,hv,fun v' hN' hv'=>E.only ok0 hN' hN (hv'.trans hv.symm)⟩
end
structure Nd where
 row:List Ev
 z:Int->Bool
 g:List Int
structure TreeOk(s0:St)(T:List Nd):Prop where
 nodup:(T.map Nd.row).Nodup
 root:∃n∈T,n.row=[]/\∀t,n.z t=false
 rows:∀n∈T,∃z,Ex s0 n.row z
 par:∀n∈T,∀l e,n.row=l++[e]->∃a∈T,a.row=l/\e.thread∈a.g
 kid:∀n∈T,∀t∈n.g,∃z e z1,Ex s0 n.row z/\z.step t=(0,e,z1)/\n.z t=false/\∃b∈T,b.row=n.row++[e]
 wake:∀n∈T,∀b∈T,∀e z,b.row=n.row++[e]->Ex s0 n.row z->∀u,(b.z u=true↔u≠e.thread/\(n.z u=true∨Ahead n.g u e.thread)/\∃f,z.next u=some f/\dep f e=false)
 once:∀n∈T,n.g.Nodup
theorem nodup_row{T:List Nd}(h:(T.map Nd.row).Nodup){a b:Nd}(ha:a∈T)(hb:b∈T)(e:a.row=b.row):a=b:=by
 induction T with
 |nil=>cases ha
 |cons x T ih=>
  rw[List.map_cons,List.nodup_cons]at h
  rcases List.mem_cons.1 ha with rfl|ha'
  ·rcases List.mem_cons.1 hb with rfl|hb'
   ·rfl
   ·exact absurd (List.mem_map.2 ⟨b,hb',e.symm⟩) h.1
  ·rcases List.mem_cons.1 hb with rfl|hb'
   ·exact absurd (List.mem_map.2 ⟨a,ha',e⟩) h.1
   ·exact ih h.2 ha' hb'
theorem TreeOk.uniq{s0:St}{T:List Nd}(h:TreeOk s0 T){a b:Nd}(ha:a∈T)(hb:b∈T)(e:a.row=b.row):a=b:=nodup_row h.nodup ha hb e
theorem tree_root(s0:St):TreeOk s0 [⟨[],fun _=>false,[]⟩]:=by
 refine⟨by simp,⟨_,List.mem_singleton.2 rfl,rfl,fun _=>rfl⟩,fun n hn=>?_,fun n hn l e h=>?_,fun n hn t ht=>?_,fun n hn b hb e z h=>?_,fun n hn=>?_⟩
 ·obtain rfl:=List.mem_singleton.1 hn
  exact⟨s0,rfl⟩
 ·obtain rfl:=List.mem_singleton.1 hn
  simp at h
 ·obtain rfl:=List.mem_singleton.1 hn
  cases ht
 ·obtain rfl:=List.mem_singleton.1 hb
  simp at h
 ·obtain rfl:=List.mem_singleton.1 hn
  exact List.nodup_nil
def updG(r:List Ev)(t:Int)(a:Nd):Nd:=if a.row=r then { a with g:=a.g++[t] }else a
theorem Za1(r:List Ev)(t:Int)(a:Nd):(updG r t a).row=a.row:=by unfold updG;split <;> rfl
theorem Zfv(r:List Ev)(t:Int)(a:Nd):(updG r t a).z=a.z:=by unfold updG;split <;> rfl
theorem Zju(r:List Ev)(t:Int)(a:Nd):(updG r t a).g=if a.row=r then a.g++[t]else a.g:=by unfold updG;split <;> rfl
def growT(T:List Nd)(r:List Ev)(t:Int)(x:Nd):List Nd:=T.map (updG r t)++[x]
theorem ZaK{T:List Nd}{r:List Ev}{t:Int}{x b:Nd}:b∈growT T r t x↔(∃a∈T,b=updG r t a)∨b=x:=by
 unfold growT
 rw[List.mem_append,List.mem_singleton,List.mem_map]
 constructor
 ·rintro (⟨a,ha,rfl⟩|h)
  ·exact .inl ⟨a,ha,rfl⟩
  ·exact .inr h
 ·rintro (⟨a,ha,rfl⟩|h)
  ·exact .inl ⟨a,ha,rfl⟩
  ·exact .inr h
theorem ahead_snoc{g:List Int}{t u v:Int}(hn:(g++[t]).Nodup)(hv:v∈g):Ahead (g++[t]) u v↔Ahead g u v:=by
 have hvt:v≠t:=by
  intro e
  subst e
  have:=(List.nodup_append.1 hn).2.2 v hv v (by simp)
  exact this rfl
 constructor
 ·rintro⟨g1,g2,h1,h2⟩
  rcases List.eq_nil_or_concat g2 with rfl|⟨g3,w,rfl⟩
  ·have h3:g++[t]=g1++[v]:=h1
   have:=List.append_inj' h3 rfl
   have h4:=this.2
   injection h4 with h4
   exact absurd h4.symm hvt
  ·have h3:g++[t]=(g1++v::g3)++[w]:=by rw[h1];simp
   have:=(List.append_inj' h3 rfl).1
   exact⟨g1,g3,this,h2⟩
 ·rintro⟨g1,g2,rfl,h2⟩
  exact⟨g1,g2++[t],by simp,h2⟩
theorem ahead_last{g:List Int}{t u:Int}(hn:(g++[t]).Nodup):Ahead (g++[t]) u t↔u∈g:=by
 constructor
 ·rintro⟨g1,g2,h1,h2⟩
  have:=Zep (g1:=g) (g2:=[]) (h1:=g1) (h2:=g2) (t:=t) hn h1
  rw[this]
  exact h2
 ·intro h
  exact⟨g,[],rfl,h⟩
theorem TreeOk.grow{s0:St}{T:List Nd}(h:TreeOk s0 T){n:Nd}(hn:n∈T){t:Int}(ht:t∉n.g)(hz:n.z t=false){z z1:St}{e:Ev}(hx:Ex s0 n.row z)(hs:z.step t=(0,e,z1)){x:Nd}(hr:x.row=n.row++[e])(hg:x.g=[])
  (hw:∀u,x.z u=true↔u≠t/\(n.z u=true∨u∈n.g)/\∃f,z.next u=some f/\dep f e=false):TreeOk s0 (growT T n.row t x):=by
 have het:e.thread=t:=(ZaU hs).2.2
 have hfresh:∀b∈T,b.row≠n.row++[e]:=by
  intro b hb hbr
  obtain⟨a,ha,har,hag⟩:=h.par b hb _ _ hbr
  obtain rfl:=h.uniq ha hn har
  rw[het]at hag
  exact ht hag
 have hnd:(n.g++[t]).Nodup:=by
  rw[List.nodup_append]
  refine⟨h.once n hn,by simp,?_⟩
  intro a ha b hb e
  rw[List.mem_singleton]at hb
  subst hb e
  exact ht ha
 have hgn:∀a∈T,a.row=n.row->(updG n.row t a).g=n.g++[t]:=fun a ha har=>by
  obtain rfl:=h.uniq ha hn har
  rw[Zju,if_pos rfl]
 have hgo:∀a∈T,a.row≠n.row->(updG n.row t a).g=a.g:=fun a _ har=>by rw[Zju,if_neg har]
 have hgs:∀a∈T,∀v∈a.g,v∈(updG n.row t a).g:=fun a ha v hv=>by
  rw[Zju]
  split
  ·exact List.mem_append.2 (.inl hv)
  ·exact hv
 refine⟨?_,?_,?_,?_,?_,?_,?_⟩
 ·unfold growT
  rw[List.map_append,List.map_map]
  have e1:(Nd.row ∘ updG n.row t)=Nd.row:=by funext a;exact Za1 _ _ _
  rw[e1,List.nodup_append]
  refine⟨h.nodup,by simp,?_⟩
  intro a ha b hb e2
  simp at hb
  subst hb e2
  obtain⟨c,hc,hcr⟩:=List.mem_map.1 ha
  exact hfresh c hc (hcr.trans hr)
 ·obtain⟨r,hr1,hr2,hr3⟩:=h.root
  exact⟨_,ZaK.2 (.inl ⟨r,hr1,rfl⟩),by rw[Za1];exact hr2,fun t=>by rw[Zfv];exact hr3 t⟩
 ·intro b hb
  rcases ZaK.1 hb with ⟨a,ha,rfl⟩|rfl
  ·rw[Za1];exact h.rows a ha
  ·rw[hr]
   exact⟨z1,ZaV.2 ⟨z,hx,z1,by rw[het];exact hs,rfl⟩⟩
 ·intro b hb l e' hbr
  rcases ZaK.1 hb with ⟨a,ha,rfl⟩|rfl
  ·rw[Za1]at hbr
   obtain⟨c,hc,hcr,hcg⟩:=h.par a ha l e' hbr
   exact⟨_,ZaK.2 (.inl ⟨c,hc,rfl⟩),by rw[Za1];exact hcr,hgs c hc _ hcg⟩
  ·rw[hr]at hbr
   have:=List.append_inj' hbr rfl
   obtain⟨h1,h2⟩:=this
   injection h2 with h2
   subst h1 h2
   exact⟨_,ZaK.2 (.inl ⟨n,hn,rfl⟩),Za1 _ _ _,by rw[hgn n hn rfl,het];simp⟩
 ·intro b hb v hv
  rcases ZaK.1 hb with ⟨a,ha,rfl⟩|rfl
  ·rw[Za1,Zfv]
   have hold:v∈a.g->∃z e z1,Ex s0 a.row z/\z.step v=(0,e,z1)/\a.z v=false/\∃b∈growT T n.row t x,b.row=a.row++[e]:=fun hv=>by
    obtain⟨y,f,y1,g1,g2,g3,c,hc,g4⟩:=h.kid a ha v hv
    exact⟨y,f,y1,g1,g2,g3,_,ZaK.2 (.inl ⟨c,hc,rfl⟩),by rw[Za1];exact g4⟩
   by_cases har:a.row=n.row
   ·rw[hgn a ha har,List.mem_append,List.mem_singleton]at hv
    obtain rfl:=h.uniq ha hn har
    rcases hv with hv|rfl
    ·exact hold hv
    ·exact⟨z,e,z1,hx,hs,hz,x,ZaK.2 (.inr rfl),hr⟩
   ·rw[hgo a ha har]at hv
    exact hold hv
  ·rw[hg]at hv
   cases hv
 ·intro a' ha' b' hb' e' y hbr hxy u
  rcases ZaK.1 ha' with ⟨a,ha,rfl⟩|rfl
  ·rw[Za1]at hbr hxy
   rw[Zfv]
   rcases ZaK.1 hb' with ⟨b,hb,rfl⟩|rfl
   ·rw[Za1]at hbr
    rw[Zfv,h.wake a ha b hb e' y hbr hxy u]
    by_cases har:a.row=n.row
    ·obtain⟨c,hc,hcr,hcg⟩:=h.par b hb _ _ hbr
     obtain rfl:=h.uniq hc ha hcr
     rw[hgn c hc har]
     obtain rfl:=h.uniq hc hn har
     rw[ahead_snoc hnd hcg]
    ·rw[hgo a ha har]
   ·rw[hr]at hbr
    obtain⟨h1,h2⟩:=List.append_inj' hbr rfl
    injection h2 with h2
    obtain rfl:=h.uniq hn ha h1
    subst h2
    obtain rfl:=ZcM hx hxy
    rw[hgn n hn rfl,hw u,het,ahead_last hnd]
  ·rcases ZaK.1 hb' with ⟨b,hb,rfl⟩|rfl
   ·rw[Za1]at hbr
    obtain⟨c,hc,hcr,_⟩:=h.par b hb _ _ hbr
    exact absurd (hcr.trans hr) (hfresh c hc)
   ·exact absurd (congrArg List.length hbr) (by simp)
 ·intro b hb
  rcases ZaK.1 hb with ⟨a,ha,rfl⟩|rfl
  ·by_cases har:a.row=n.row
   ·rw[hgn a ha har];exact hnd
   ·rw[hgo a ha har];exact h.once a ha
  ·rw[hg];exact List.nodup_nil
def TN(T:List Nd)(l:List Ev):Prop:=∃n∈T,n.row=l
def TG(T:List Nd)(l:List Ev):List Int:=match T.find? fun n=>decide (n.row=l)with
 |none=>[]
 |some n=>n.g
def TZ(T:List Nd)(l:List Ev)(t:Int):Prop:=∃n∈T,n.row=l/\n.z t=true
theorem TreeOk.tg{s0:St}{T:List Nd}(h:TreeOk s0 T){n:Nd}(hn:n∈T):TG T n.row=n.g:=by
 unfold TG
 cases hf:T.find? fun m=>decide (m.row=n.row)with
 |none=>
  have:=List.find?_eq_none.1 hf n hn
  simp at this
 |some m=>
  have h1:=List.find?_some hf
  have h2:=List.mem_of_find?_eq_some hf
  rw[decide_eq_true_eq]at h1
  rw[h.uniq h2 hn h1]
theorem TreeOk.tz{s0:St}{T:List Nd}(h:TreeOk s0 T){n:Nd}(hn:n∈T)(t:Int):TZ T n.row t↔n.z t=true:=by
 constructor
 ·rintro⟨m,hm,hr,hz⟩
  rw[<-h.uniq hm hn hr]
  exact hz
 ·intro hz
  exact⟨n,hn,rfl,hz⟩
structure TreeDone(s0:St)(T:List Nd):Prop where
 any:∀n∈T,∀z t,Ex s0 n.row z->z.may t=true->n.z t=false->n.g≠[]
 mark:∀b∈T,∀n∈T,∀e v z u f,b.row=n.row++e::v->Ex s0 b.row z->z.next u=some f->u≠e.thread->dep e f=true ->
  (∀j,j<b.row.length->(evI b.row j).thread=u->hb b.row n.row.length j=false)->∀t y,Ex s0 n.row y->y.may t=true->t∈n.g∨n.z t=true
theorem TreeOk.expl0{s0:St}{T:List Nd}(h:TreeOk s0 T):Expl0 s0 (TN T) (TG T) (TZ T):=by
 refine⟨?_,?_,?_,?_,?_,?_,?_⟩
 ·obtain⟨n,hn,hr,_⟩:=h.root
  exact⟨n,hn,hr⟩
 ·rintro t⟨n,hn,hr,hz⟩
  obtain⟨m,hm,hmr,hmz⟩:=h.root
  obtain rfl:=h.uniq hn hm (hr.trans hmr.symm)
  rw[hmz t]at hz
  cases hz
 ·rintro l⟨n,hn,rfl⟩
  exact h.rows n hn
 ·rintro l e⟨n,hn,hr⟩
  obtain⟨a,ha,har,hag⟩:=h.par n hn l e hr
  exact⟨⟨a,ha,har⟩,by rw[<-har,h.tg ha];exact hag⟩
 ·rintro l t z⟨n,hn,rfl⟩ ht hx
  rw[h.tg hn]at ht
  obtain⟨y,e,z1,g1,g2,g3,b,hb,g4⟩:=h.kid n hn t ht
  obtain rfl:=ZcM g1 hx
  refine⟨(ZaU g2).2.1,fun hz=>?_,fun e' he'=>?_⟩
  ·rw[h.tz hn,g3]at hz
   cases hz
  ·rw[(ZaU g2).1]at he'
   injection he' with he'
   subst he'
   exact⟨b,hb,g4⟩
 ·rintro l e z u⟨b,hb,hbr⟩ hx
  obtain⟨a,ha,har,_⟩:=h.par b hb l e hbr
  subst har
  have h1:=h.wake a ha b hb e z hbr hx u
  rw[<-hbr,h.tz hb,h1,h.tz ha,h.tg ha]
 ·rintro l⟨n,hn,rfl⟩
  rw[h.tg hn]
  exact h.once n hn
theorem TreeOk.expl{s0:St}{T:List Nd}(h:TreeOk s0 T)(hd:TreeDone s0 T):Expl s0 (TN T) (TG T) (TZ T):=by
 refine⟨h.expl0,?_,?_⟩
 ·rintro l t z⟨n,hn,rfl⟩ hx hm hz
  rw[h.tg hn]
  refine hd.any n hn z t hx hm ?_
  rw[h.tz hn]at hz
  simpa using hz
 ·rintro l e v z u f hN hx hnx hu hdp hnb t y hy hm
  obtain⟨b,hb,hbr⟩:=hN
  have hNl:∀w:List Ev,∀l',(∃c∈T,c.row=l'++w)->∃c∈T,c.row=l':=by
   intro w
   induction w with
   |nil=>intro l' hc;rw[List.append_nil]at hc;exact hc
   |cons e w ih=>
    rintro l' hc
    have hc':∃c∈T,c.row=(l'++[e])++w:=by
     obtain⟨c,hc1,hc2⟩:=hc
     exact⟨c,hc1,by rw[hc2];simp⟩
    obtain⟨c,hc1,hc2⟩:=ih _ hc'
    obtain⟨a,ha,har,_⟩:=h.par c hc1 _ _ hc2
    exact⟨a,ha,har⟩
  obtain⟨n,hn,rfl⟩:=hNl (e::v) l ⟨b,hb,hbr⟩
  rw[h.tg hn,h.tz hn]
  rw[<-hbr]at hx hnb
  exact hd.mark b hb n hn e v z u f hbr hx hnx hu hdp hnb t y hy hm
theorem ZgH{A:Type}[DecidableEq A]:∀{a b:List A},a.Nodup->(∀x∈a,x∈b)->a.length<=b.length:=by
 intro a
 induction a with
 |nil=>intro b _ _;exact Nat.zero_le _
 |cons x a ih=>
  intro b hn h
  obtain⟨h1,h2⟩:=List.nodup_cons.1 hn
  have hx:=h x List.mem_cons_self
  have h3:=ih (b:=b.erase x) h2 fun y hy=>(List.mem_erase_of_ne (fun e=>h1 (by rw[<-e];exact hy))).2 (h y (List.mem_cons_of_mem _ hy))
  rw[List.length_erase_of_mem hx]at h3
  have:=List.length_pos_of_mem hx
  rw[List.length_cons]
  omega

theorem ZiS{s:St}{t:Int}{e:Ev}{s1:St}(h:s.step t=(0,e,s1)):t∈s.all:=by
 obtain⟨i,hi,hm,_,_⟩:=St.step_ok0 h
 have hh:=(St.ins_has hi).1
 unfold St.has at hh
 unfold St.all
 refine List.mem_filter.2 ⟨List.mem_map.2 ⟨t.toNat,List.mem_range.2 (by omega),?_⟩,hm⟩
 show((t.toNat:Nat):Int)=t
 omega
theorem mem_runs{n:Nat}:∀{l:List Ev} {s z:St} (row:List Ev),Ex s l z->z.all=[]->s.fuel<=n->(z,row++l)∈s.runs n row:=by
 induction n with
 |zero=>
  intro l s z row h hz hf
  cases l with
  |nil=>obtain rfl:=h;rw[List.append_nil,(ZeB 0 z row hz).1];exact List.mem_singleton.2 rfl
  |cons e l=>
   obtain⟨s1,h1,_⟩:=h
   have:=ZcV h1
   omega
 |succ n ih=>
  intro l s z row h hz hf
  cases l with
  |nil=>obtain rfl:=h;rw[List.append_nil,(ZeB (n+1) z row hz).1];exact List.mem_singleton.2 rfl
  |cons e l=>
   obtain⟨s1,h1,h2⟩:=h
   have h3:=ZcV h1
   have hm:=ZiS h1
   have hne:s.all≠[]:=List.ne_nil_of_mem hm
   show _∈(if s.all=[]then _ else _:List (St × List Ev))
   rw[if_neg hne,List.mem_flatMap]
   refine⟨e.thread,hm,?_⟩
   rw[h1]
   have:=ih (row++[e]) h2 hz (by omega)
   rwa [List.append_assoc]at this
theorem find_key{p:Pg}{fuel:Int}{z:St}{row:List Ev}{F:Nat}(ok:(s0 p fuel).Ok F)(h:Ex (s0 p fuel) row z)(hz:z.all=[]):keyB row∈sortK (Zau (runsW p fuel)):=by
 have hf:=Zfn ok
 have hm:=mem_runs (n:=33) [] h hz (by omega)
 rw[List.nil_append]at hm
 exact ZeJ.2 (List.mem_map.2 ⟨_,hm,rfl⟩)
theorem ex_len{l:List Ev}:∀{s z:St},Ex s l z->l.length+z.fuel=s.fuel:=by
 induction l with
 |nil=>intro s z h;rw[h];simp
 |cons e l ih=>
  rintro s z⟨s1,h1,h2⟩
  have:=ih h2
  have:=ZcV h1
  rw[List.length_cons]
  omega
def waits(s:St):Bool:=(List.range s.ts.length).any fun t=>(s.next t).isSome
def Zds(s:St)(k:Nat):Bool:=(List.range k).any fun t=>(s.next t).isSome
theorem Zjt(s:St)(k:Nat):Zds s (k+1)=(Zds s k||(s.next k).isSome):=by
 unfold Zds
 rw[List.range_succ,List.any_append]
 simp
def Za9(l:Ends):Nat:=(l.filter fun x=>waits x.1).length

theorem runs_ex(n:Nat):∀(s:St) (row:List Ev) (x:St × List Ev),x∈s.runs n row->∃l,x.2=row++l/\Ex s l x.1:=by
 induction n with
 |zero=>
  intro s row x hx
  obtain rfl:=List.mem_singleton.1 hx
  exact⟨[],(List.append_nil _).symm,rfl⟩
 |succ n ih=>
  intro s row x hx
  by_cases h:s.all=[]
  ·rw[(ZeB (n+1) s row h).1]at hx
   obtain rfl:=List.mem_singleton.1 hx
   exact⟨[],(List.append_nil _).symm,rfl⟩
  ·have hx':x∈(if s.all=[]then [(s,row)]else s.all.flatMap fun t=>St.runs n (s.step t).2.2 (row++[(s.step t).2.1])):=hx
   rw[if_neg h,List.mem_flatMap]at hx'
   obtain⟨t,ht,hx2⟩:=hx'
   obtain⟨e,s1,h1,h2⟩:=Ze1 ht
   rw[h1]at hx2
   obtain⟨l,g1,g2⟩:=ih s1 _ x hx2
   have ht:=(ZaU h1).2.2
   exact⟨e::l,by rw[g1,List.append_assoc];rfl,s1,by rw[ht];exact h1,g2⟩
theorem ex_right{F:Nat}{l:List Ev}:∀{s z:St},s.Ok F->Ex s l z->Zaw l=true:=by
 induction l with
 |nil=>intro s z _ _;rfl
 |cons e l ih=>
  rintro s z ok⟨s1,h1,h2⟩
  have ok1:=ok.step_ok e.thread
  rw[h1]at ok1
  rw[ZhD,List.all_cons,Bool.and_eq_true]
  exact⟨ev_right ok h1,ih ok1 h2⟩
theorem runs_right{F:Nat}{s:St}(ok:s.Ok F){n:Nat}{x:St × List Ev}(h:x∈s.runs n []):Zaw x.2=true/\x.2.length<=200:=by
 obtain⟨l,h1,h2⟩:=runs_ex n s [] x h
 rw[List.nil_append]at h1
 rw[h1]
 have:=ex_len h2
 have:=Zfn ok
 exact⟨ex_right ok h2,by omega⟩
theorem keyB_iff{a b:List Ev}(ha:Zaw a=true)(hb:Zaw b=true)(hl:a.length<=200)(hl':b.length<=200):keyB a=keyB b↔Sim a b:=by
 unfold keyB
 rw[key_iff ha hl hl']
 exact⟨fun h=>h.2.2,fun h=>⟨ha,hb,h⟩⟩
theorem step_p(s:St)(t:Int):(s.step t).2.2.p=s.p:=by
 rcases s.step_cases t with ⟨i,_,_,e⟩|⟨e,_,e'⟩
 ·rw[e];rfl
 ·rw[e']
theorem runs_done(n:Nat):∀(s:St) (row:List Ev) (x:St × List Ev),x∈s.runs n row->s.fuel<=n->x.1.all=[]/\x.1.p=s.p:=by
 induction n with
 |zero=>
  intro s row x hx hf
  obtain rfl:=List.mem_singleton.1 hx
  exact⟨all_none (s:=s) (by omega),rfl⟩
 |succ n ih=>
  intro s row x hx hf
  by_cases h:s.all=[]
  ·rw[(ZeB (n+1) s row h).1]at hx
   obtain rfl:=List.mem_singleton.1 hx
   exact⟨h,rfl⟩
  ·have hx':x∈(if s.all=[]then [(s,row)]else s.all.flatMap fun t=>St.runs n (s.step t).2.2 (row++[(s.step t).2.1])):=hx
   rw[if_neg h,List.mem_flatMap]at hx'
   obtain⟨t,ht,hx2⟩:=hx'
   obtain⟨e,s1,h1,h2⟩:=Ze1 ht
   rw[h1]at hx2
   have hp:=step_p s t
   rw[h1]at hp
   obtain⟨g1,g2⟩:=ih s1 _ x hx2 (by omega)
   exact⟨g1,g2.trans hp⟩
def Za7(s:St)(row:List Ev):St:=row.foldl (fun s e=>(s.step e.thread).2.2) s
theorem Zi7{row:List Ev}:∀{s z:St},Ex s row z->z=Za7 s row:=by
 induction row with
 |nil=>intro s z h;exact h
 |cons e row ih=>
  rintro s z⟨s1,h1,h2⟩
  have:=ih h2
  rw[this]
  show _=Za7 (s.step e.thread).2.2 row
  rw[h1]
theorem all_may{s:St}:s.all=[]↔∀t,s.may t=false:=by
 constructor
 ·intro h t
  rw[Bool.eq_false_iff]
  intro hm
  obtain⟨e,he⟩:=Zf5 hm
  obtain⟨s1,hs⟩:=next_step he hm
  have:=ZiS hs
  rw[h]at this
  cases this
 ·intro h
  rw[List.eq_nil_iff_forall_not_mem]
  intro t ht
  unfold St.all at ht
  have:=(List.mem_filter.1 ht).2
  rw[h]at this
  cases this
def endsT(s0:St)(T:List Nd):List Nd:=T.filter fun n=>decide ((Za7 s0 n.row).all=[])
def keysT(s0:St)(T:List Nd):List Key:=(endsT s0 T).map fun n=>keyB n.row
section
variable{p:Pg}{fuel:Int}{F:Nat}{T:List Nd}
theorem Zgq{s0:St}(ok:s0.Ok F)(h:TreeOk s0 T){n:Nd}(hn:n∈T):Zaw n.row=true/\n.row.length<=200:=by
 obtain⟨z,hz⟩:=h.rows n hn
 have:=ex_len hz
 have:=Zfn ok
 exact⟨ex_right ok hz,by omega⟩
theorem Zkf{A B:Type}{f:A->B}{l:List A}(hn:l.Nodup)(h:∀x∈l,∀y∈l,f x=f y->x=y):(l.map f).Nodup:=by
 induction l with
 |nil=>exact List.nodup_nil
 |cons a l ih=>
  obtain⟨h1,h2⟩:=List.nodup_cons.1 hn
  rw[List.map_cons,List.nodup_cons]
  refine⟨fun hm=>?_,ih h2 fun x hx y hy=>h x (List.mem_cons_of_mem _ hx) y (List.mem_cons_of_mem _ hy)⟩
  obtain⟨b,hb,e⟩:=List.mem_map.1 hm
  obtain rfl:=h b (List.mem_cons_of_mem _ hb) a List.mem_cons_self e
  exact h1 hb
theorem Zke{A B:Type}{f:A->B}{l:List A}(h:(l.map f).Nodup):l.Nodup:=by
 induction l with
 |nil=>exact List.nodup_nil
 |cons a l ih=>
  rw[List.map_cons,List.nodup_cons]at h
  exact List.nodup_cons.2 ⟨fun hm=>h.1 (List.mem_map.2 ⟨a,hm,rfl⟩),ih h.2⟩
theorem ZgM{s0:St}(ok:s0.Ok F)(h:TreeOk s0 T):(keysT s0 T).Nodup:=by
 unfold keysT
 refine Zkf ((Zke h.nodup).filter _) fun x hx y hy e=>?_
 have hx':=(List.mem_filter.1 hx).1
 have hy':=(List.mem_filter.1 hy).1
 obtain⟨r1,l1⟩:=Zgq ok h hx'
 obtain⟨r2,l2⟩:=Zgq ok h hy'
 have hs:=(keyB_iff r1 r2 l1 l2).1 e
 exact h.uniq hx' hy' (h.expl0.only ok ⟨x,hx',rfl⟩ ⟨y,hy',rfl⟩ hs)
theorem Zks(ok:(s0 p fuel).Ok F)(h:TreeOk (s0 p fuel) T){k:Key}(hk:k∈keysT (s0 p fuel) T):k∈Zau (runsW p fuel):=by
 unfold keysT at hk
 obtain⟨n,hn,rfl⟩:=List.mem_map.1 hk
 obtain⟨hn1,hn2⟩:=List.mem_filter.1 hn
 rw[decide_eq_true_eq]at hn2
 obtain⟨z,hz⟩:=h.rows n hn1
 have hzd:=Zi7 hz
 rw[<-hzd]at hn2
 exact ZeJ.1 (find_key ok hz hn2)
theorem keysT_all(ok:(s0 p fuel).Ok F)(h:TreeOk (s0 p fuel) T)(hd:TreeDone (s0 p fuel) T){k:Key}(hk:k∈Zau (runsW p fuel)):k∈keysT (s0 p fuel) T:=by
 unfold Zau at hk
 obtain⟨x,hx,rfl⟩:=List.mem_map.1 hk
 have hf:=Zfn ok
 obtain⟨hx1,_⟩:=runs_done 33 (s0 p fuel) [] x hx (by omega)
 obtain⟨l,hl1,hl2⟩:=runs_ex 33 (s0 p fuel) [] x hx
 rw[List.nil_append]at hl1
 obtain⟨v,⟨n,hn,rfl⟩,⟨z,hz,hzm⟩,hsim,_⟩:=(h.expl hd).ends ok ⟨x.1,hl2,all_may.1 hx1⟩
 obtain⟨r1,l1⟩:=Zgq ok h hn
 obtain⟨r2,l2⟩:=runs_right ok hx
 rw[hl1]at r2 l2 ⊢
 rw[(keyB_iff r2 r1 l2 l1).2 hsim.symm]
 unfold keysT
 refine List.mem_map.2 ⟨n,List.mem_filter.2 ⟨hn,?_⟩,rfl⟩
 rw[decide_eq_true_eq,<-Zi7 hz]
 exact all_may.2 hzm
theorem ZkM{l:List Key}(h:l.Nodup):Zdq l=l:=by
 induction l with
 |nil=>rfl
 |cons x l ih=>
  obtain⟨h1,h2⟩:=List.nodup_cons.1 h
  rw[Zdq,if_neg h1,ih h2]
theorem Zdv{l:List Key}(h:l.Nodup):(sortK l).length=l.length:=by rw[ZjI,ZkM h]
theorem ZjK{a b:List Key}(h:∀x,x∈a↔x∈b):sortK a=sortK b:=by
 have h1:=List.perm_ext_iff_of_nodup (ZbI a) (ZbI b)
 unfold sortK
 exact(Ziw (ks:=b) (ZbI a) (fun x=>by rw[Zcn];exact h x)).trans rfl
theorem ZlM(ok:(s0 p fuel).Ok F)(h:TreeOk (s0 p fuel) T)(hd:TreeDone (s0 p fuel) T):sortK (keysT (s0 p fuel) T)=sortK (Zau (runsW p fuel))/\(keysT (s0 p fuel) T).length=(sortK (Zau (runsW p fuel))).length:=by
 have e:=ZjK (a:=keysT (s0 p fuel) T) (b:=Zau (runsW p fuel)) fun x=>⟨Zks ok h,keysT_all ok h hd⟩
 exact⟨e,by rw[<-e,Zdv (ZgM ok h)]⟩
def prefs:Nat->St->List Ev->List (List Ev)
 |0,_,row=>[row]
 |n+1,s,row=>row::s.all.flatMap fun t=>prefs n (s.step t).2.2 (row++[(s.step t).2.1])
theorem prefs_len(n:Nat):∀(s:St) (row:List Ev),(prefs n s row).length=s.pre n:=by
 induction n with
 |zero=>intro s row;rfl
 |succ n ih=>
  intro s row
  show(row::_).length=1+_
  rw[List.length_cons,List.length_flatMap,Nat.add_comm]
  congr 2
  apply List.map_congr_left
  intro t _
  exact ih _ _
theorem mem_prefs{n:Nat}:∀{l:List Ev} {s z:St} (row:List Ev),Ex s l z->l.length<=n->row++l∈prefs n s row:=by
 induction n with
 |zero=>
  intro l s z row _ hl
  obtain rfl:l=[]:=List.length_eq_zero_iff.1 (by omega)
  rw[List.append_nil]
  exact List.mem_singleton.2 rfl
 |succ n ih=>
  intro l s z row h hl
  cases l with
  |nil=>rw[List.append_nil];exact List.mem_cons_self
  |cons e l=>
   obtain⟨s1,h1,h2⟩:=h
   refine List.mem_cons_of_mem _ (List.mem_flatMap.2 ⟨e.thread,ZiS h1,?_⟩)
   rw[h1]
   have:=ih (row++[e]) h2 (by rw[List.length_cons]at hl;omega)
   rwa [List.append_assoc]at this
theorem Zii(ok:(s0 p fuel).Ok F)(h:TreeOk (s0 p fuel) T):T.length<=preW p fuel:=by
 have h1:(T.map Nd.row).length<=(prefs 33 (s0 p fuel) []).length:=ZgH h.nodup fun x hx=>by
  obtain⟨n,hn,rfl⟩:=List.mem_map.1 hx
  obtain⟨z,hz⟩:=h.rows n hn
  have:=mem_prefs (n:=33) [] hz (by have:=ex_len hz;have:=Zfn ok;omega)
  rwa [List.nil_append]at this
 rw[List.length_map,prefs_len]at h1
 exact h1
theorem growT_len(T:List Nd)(r:List Ev)(t:Int)(x:Nd):(growT T r t x).length=T.length+1:=by
 unfold growT
 rw[List.length_append,List.length_map,List.length_singleton]
end
structure MarkOk(s0:St)(T:List Nd)(M:List Ev->Int->Prop):Prop where
 race:∀b∈T,∀z u f i,Ex s0 b.row z->z.next u=some f->i∈withL b.row f->∀t y,Ex s0 (b.row.take i) y->y.may t=true->M (b.row.take i) t
 any:∀n∈T,∀z t,Ex s0 n.row z->z.may t=true->n.z t=false->∃t',z.may t'=true/\n.z t'=false/\M n.row t'
theorem known_none{l:List Ev}{t:Int}{i:Nat}(h:∀j,j<l.length->(evI l j).thread=t->hb l i j=false):Zkr l t i=false:=by
 unfold Zkr
 cases hl:lastT l t l.length with
 |none=>rfl
 |some j=>
  obtain⟨h1,h2⟩:=ZhX hl
  exact h j h1 h2
theorem MarkOk.done{s0:St}{T:List Nd}{M:List Ev->Int->Prop}(h:MarkOk s0 T M)(hg:∀n∈T,∀t,M n.row t->t∈n.g∨n.z t=true):TreeDone s0 T:=by
 refine⟨?_,?_⟩
 ·intro n hn z t hx hm hz hnil
  obtain⟨t',h1,h2,h3⟩:=h.any n hn z t hx hm hz
  rcases hg n hn t' h3 with h4|h4
  ·rw[hnil]at h4
   cases h4
  ·rw[h2]at h4
   cases h4
 ·intro b hb n hn e v z u f hbr hx hnx hu hd hnb t y hy hm
  have hft:=Zcu hnx
  have hlen:n.row.length<b.row.length:=by rw[hbr];simp
  have hev:evI b.row n.row.length=e:=by
   rw[hbr]
   unfold evI
   rw[Zav _ (by simp)]
   simp
  have htk:b.row.take n.row.length=n.row:=by rw[hbr];simp
  have hw:n.row.length∈withL b.row f:=by
   rw[Zkj,hev]
   refine⟨hlen,fun h=>hu (by rw[<-hft];exact h.symm),hd,?_⟩
   rw[hft]
   exact known_none hnb
  have:=h.race b hb z u f n.row.length hx hnx hw t y (by rw[htk];exact hy) hm
  rw[htk]at this
  exact hg n hn t this
theorem MarkOk.more{s0:St}{T:List Nd}{M M':List Ev->Int->Prop}(h:MarkOk s0 T M)(hm:∀l t,M l t->M' l t):MarkOk s0 T M':=
 ⟨fun b hb z u f i h1 h2 h3 t y h4 h5=>hm _ _ (h.race b hb z u f i h1 h2 h3 t y h4 h5),fun n hn z t h1 h2 h3=>by
  obtain⟨t',g1,g2,g3⟩:=h.any n hn z t h1 h2 h3
  exact⟨t',g1,g2,hm _ _ g3⟩⟩
theorem ex_p{l:List Ev}:∀{s z:St},Ex s l z->z.p=s.p/\z.ts.length=s.ts.length:=by
 induction l with
 |nil=>intro s z h;rw[show z=s from h];exact⟨rfl,rfl⟩
 |cons e l ih=>
  rintro s z⟨s1,h1,h2⟩
  obtain⟨i,_,_,_,h6⟩:=St.step_ok0 h1
  obtain⟨g1,g2⟩:=ih h2
  exact⟨by rw[g1,h6];rfl,by rw[g2,h6];exact List.length_set⟩
section
variable{s0:St}{T:List Nd}
end
structure From(p:Pg)(e:Ev):Prop where
 thr:0<=e.thread/\e.thread<p.threads.length
 rd:e.kind=2->∃i∈p.threads.getD e.thread.toNat [],i.kind=1/\i.x=e.obj
 wr:e.kind=3->∃i∈p.threads.getD e.thread.toNat [],i.kind=2/\i.x=e.obj
 mu:e.kind=4∨e.kind=5->∃i∈p.threads.getD e.thread.toNat [],i.kind=5/\i.x=e.obj
def MarkBy(s0:St)(T:List Nd)(M C:List Ev->Int->Prop):Prop:=
 ∀n∈T,∀t,M n.row t->C n.row t∨∃b∈T,∃z u f i,Ex s0 b.row z/\z.next u=some f/\i∈withL b.row f/\b.row.take i=n.row
theorem Zev{s:St}{t:Int}:t∈s.all↔s.may t=true:=by
 constructor
 ·intro h
  unfold St.all at h
  exact(List.mem_filter.1 h).2
 ·intro h
  obtain⟨e,he⟩:=Zf5 h
  obtain⟨s1,hs⟩:=next_step he h
  exact ZiS hs
theorem next_small{F:Nat}{s:St}(ok:s.Ok F){t:Int}{e:Ev}(h:s.next t=some e):0<=t/\t<s.ts.length/\s.ts.length<=4:=by
 unfold St.next at h
 obtain⟨i,hi,_⟩:=Option.map_eq_some_iff.1 h
 obtain⟨hh,_,_⟩:=St.ins_has hi
 unfold St.has at hh
 exact⟨hh.1,hh.2,ok.len4⟩
theorem has_ofN{l:List Int}{t:Int}(h:0<=t/\t<8):hasB (ofN l) t=true↔t∈l:=by
 obtain⟨i,rfl⟩:∃i:Nat,t=i:=⟨t.toNat,by omega⟩
 have hi:i<8:=by omega
 rw[Za2 _ hi,Zbf _ hi,decide_eq_true_eq]
theorem ZdP{n:Nat}{t:Int}(h:hasB n t=true):0<=t/\t<8:=by
 unfold hasB at h
 rw[Bool.and_eq_true,decide_eq_true_eq]at h
 exact h.1
theorem has_wt{n:Nat}{t u:Int}(h:0<=t/\t<8):hasB (wt n t) u=true↔hasB n u=true∨u=t:=by
 by_cases hu:0<=u/\u<8
 ·obtain⟨i,rfl⟩:∃i:Nat,u=i:=⟨u.toNat,by omega⟩
  have hi:i<8:=by omega
  rw[Za2 _ hi,Za2 _ hi,Ze6 hi,Bool.or_eq_true,decide_eq_true_eq]
  exact⟨fun h=>h.imp_right Eq.symm,fun h=>h.imp_right Eq.symm⟩
 ·constructor
  ·intro h;exact absurd (ZdP h) hu
  ·rintro (h|h)
   ·exact absurd (ZdP h) hu
   ·rw[h]at hu;exact absurd ‹_› hu
theorem has_childN{s:St}{a g:Nat}{t:Int}{e:Ev}(he:s.next t=some e)(u:Int):hasB (ZcP s.next a g t) u=true↔u≠t/\(hasB a u=true∨hasB g u=true)/\∃f,s.next u=some f/\dep f e=false:=by
 by_cases hu:0<=u/\u<8
 ·obtain⟨i,rfl⟩:∃i:Nat,u=i:=⟨u.toNat,by omega⟩
  have hi:i<8:=by omega
  rw[Za2 _ hi,Za2 _ hi,Za2 _ hi,Zhk _ _ _ _ hi]
  have:=childB_iff (s:=s) (asl:=a) (ear:=g) (t:=t) (u:=i)
  unfold childB at this
  rw[this]
  constructor
  ·rintro⟨e',x,h1,h2,h3,h4,h5⟩
   rw[he]at h1
   injection h1 with h1
   subst h1
   exact⟨h3,by rwa [Bool.or_eq_true]at h4,x,h2,h5⟩
  ·rintro⟨h3,h4,x,h2,h5⟩
   exact⟨e,x,he,h2,h3,by rwa [Bool.or_eq_true],h5⟩
 ·constructor
  ·intro h;exact absurd (ZdP h) hu
  ·rintro⟨_,h|h,_⟩ <;> exact absurd (ZdP h) hu
def blkX(s0:St)(T:List Nd):List Nd:=T.filter fun n=>decide ((Za7 s0 n.row).all≠[])&&(Za7 s0 n.row).all.all n.z
theorem ends_grow(s0:St)(T:List Nd)(r:List Ev)(t:Int)(x:Nd):endsT s0 (growT T r t x)=(endsT s0 T).map (updG r t)++(if (Za7 s0 x.row).all=[]then [x]else []):=by
 unfold endsT growT
 rw[List.filter_append,List.filter_map]
 have h:((fun n:Nd=>decide ((Za7 s0 n.row).all=[])) ∘ updG r t)=fun n:Nd=>decide ((Za7 s0 n.row).all=[]):=by
  funext n
  show decide ((Za7 s0 (updG r t n).row).all=[])=_
  rw[Za1]
 rw[h]
 congr 1
 by_cases h:(Za7 s0 x.row).all=[]
 ·rw[if_pos h,List.filter_cons_of_pos (by simpa using h)];rfl
 ·rw[if_neg h,List.filter_cons_of_neg (by simpa using h)];rfl
theorem keys_grow(s0:St)(T:List Nd)(r:List Ev)(t:Int)(x:Nd):keysT s0 (growT T r t x)=keysT s0 T++(if (Za7 s0 x.row).all=[]then [keyB x.row]else []):=by
 unfold keysT
 rw[ends_grow,List.map_append,List.map_map]
 have h:((fun n:Nd=>keyB n.row) ∘ updG r t)=fun n:Nd=>keyB n.row:=by
  funext n
  show keyB (updG r t n).row=_
  rw[Za1]
 rw[h]
 congr 1
 split <;> rfl
theorem blk_grow(s0:St)(T:List Nd)(r:List Ev)(t:Int)(x:Nd):(blkX s0 (growT T r t x)).length=(blkX s0 T).length+(if (Za7 s0 x.row).all≠[]/\(Za7 s0 x.row).all.all x.z=true then 1 else 0):=by
 unfold blkX growT
 rw[List.filter_append,List.filter_map,List.length_append,List.length_map]
 have h:((fun n:Nd=>decide ((Za7 s0 n.row).all≠[])&&(Za7 s0 n.row).all.all n.z) ∘ updG r t)=fun n:Nd=>decide ((Za7 s0 n.row).all≠[])&&(Za7 s0 n.row).all.all n.z:=by
  funext n
  show(decide ((Za7 s0 (updG r t n).row).all≠[])&&(Za7 s0 (updG r t n).row).all.all (updG r t n).z)=_
  rw[Za1,Zfv]
 rw[h]
 congr 1
 by_cases h:(Za7 s0 x.row).all≠[]/\(Za7 s0 x.row).all.all x.z=true
 ·rw[if_pos h,List.filter_cons_of_pos (by rw[Bool.and_eq_true,decide_eq_true_eq];exact h)];rfl
 ·rw[if_neg h,List.filter_cons_of_neg (by rw[Bool.and_eq_true,decide_eq_true_eq];exact h)];rfl
def AtX(s0:St)(T:List Nd)(M:List Ev->Int->Prop)(r:List Ev)(n:PN):Prop:=
 ∃m∈T,m.row=r/\Ex s0 r n.st/\n.z<256/\n.go<256/\n.gone<256/\(∀t,m.z t=hasB n.z t)/\(∀t,t∈m.g↔hasB n.gone t=true)/\∀t,M r t↔hasB n.go t=true
structure InvX(s0:St)(x:Xp)(T:List Nd)(M C:List Ev->Int->Prop):Prop where
 ok:TreeOk s0 T
 marks:MarkOk s0 T M
 by_:MarkBy s0 T M C
 one:∀r t t',C r t->C r t'->t=t'
 cT:∀r t,C r t->∃n∈T,n.row=r
 mT:∀r t,M r t->∃n∈T,n.row=r
 plen:x.path.length=x.row.length+1
 at_:∀i,i<x.path.length->AtX s0 T M (x.row.take i) (x.path.getD i pn0)
 off:∀n∈T,(∀i,i<=x.row.length->n.row≠x.row.take i)->∀t,M n.row t->t∈n.g∨n.z t=true
 gm:∀n∈T,∀t∈n.g,M n.row t
 may:∀n∈T,∀z t,Ex s0 n.row z->M n.row t->z.may t=true
 nodes:x.nodes=T.length
 runs:x.runs=(endsT s0 T).length
 keys:x.keys=keysT s0 T
 blk:x.blocked=(blkX s0 T).length
structure PreX(s0:St)(x:Xp)(s:St)(z:Nat)(T:List Nd)(M C:List Ev->Int->Prop):Prop where
 ok:TreeOk s0 T
 new:∃n∈T,n.row=x.row/\n.g=[]/\(∀t,n.z t=hasB z t)
 st:Ex s0 x.row s
 z8:z<256
 race:∀b∈T,b.row≠x.row->∀z u f i,Ex s0 b.row z->z.next u=some f->i∈withL b.row f->∀t y,Ex s0 (b.row.take i) y->y.may t=true->M (b.row.take i) t
 any:∀n∈T,n.row≠x.row->∀z t,Ex s0 n.row z->z.may t=true->n.z t=false->∃t',z.may t'=true/\n.z t'=false/\M n.row t'
 by_:∀n∈T,∀t,M n.row t->C n.row t∨∃b∈T,∃z u f i,Ex s0 b.row z/\z.next u=some f/\i∈withL b.row f/\b.row.take i=n.row
 one:∀r t t',C r t->C r t'->t=t'
 cT:∀r t,C r t->r≠x.row/\∃n∈T,n.row=r
 mT:∀r t,M r t->r≠x.row/\∃n∈T,n.row=r
 plen:x.path.length=x.row.length
 at_:∀i,i<x.path.length->AtX s0 T M (x.row.take i) (x.path.getD i pn0)
 off:∀n∈T,(∀i,i<=x.row.length->n.row≠x.row.take i)->∀t,M n.row t->t∈n.g∨n.z t=true
 gm:∀n∈T,∀t∈n.g,M n.row t
 may:∀n∈T,∀z t,Ex s0 n.row z->M n.row t->z.may t=true
 nodes:x.nodes+1=T.length
 runs:x.runs+(if s.all=[]then 1 else 0)=(endsT s0 T).length
 keys:x.keys++(if s.all=[]then [keyB x.row]else [])=keysT s0 T
 blk:x.blocked+(if s.all≠[]/\s.all.all (hasB z)=true then 1 else 0)=(blkX s0 T).length
section
variable{F:Nat}{s0:St}{x:Xp}{T:List Nd}{M C:List Ev->Int->Prop}
end
structure Ltr where
 q:Pfx
 set:Nat
structure Mac where
 l:List TNd
 cl:Nat
 box:Nat->List Ltr
 wk:Nat->List Txt
 keys:Nat->List Key
 blk:Nat
 over:Bool
def stK(p:Pg)(fuel:Int)(k:Pfx):St:=match rep p fuel (rowK k)with
 |(_,_,some s)=>s
 |(_,_,none)=>s0 p fuel
def evK(p:Pg)(fuel:Int)(k:Pfx):List Ev:=(rep p fuel (rowK k)).2.1
def hasM(W:Nat)(m:Mac)(k:Pfx):Bool:=(List.range W).any fun w=>decide (k∈m.wk w)
def pushM(W w:Nat)(k:Pfx)(m:Mac):Mac:=if hasM W m k then m else { m with wk:=updF m.wk w (putT (m.wk w) k) }
def markM(W w:Nat)(k:Pfx)(set:Nat)(m:Mac):Mac:=
 if leftT (markT m.l k set).2 k≠0 then pushM W w k { m with l:=(markT m.l k set).2 }else { m with l:=(markT m.l k set).2 }
def sendM(v:Nat)(x:Ltr)(m:Mac):Mac:={ m with box:=updF m.box v (m.box v++[x]) }
def raceM(p:Pg)(fuel:Int)(W w:Nat)(k:Pfx)(m:Mac)(i:Nat):Mac:=
 if ownT m.l (k.take i)=w then markM W w (k.take i) (ofN (stK p fuel (k.take i)).all) m
 else sendM (ownT m.l (k.take i)).toNat ⟨k.take i,ofN (stK p fuel (k.take i)).all⟩ m
def ZbR(p:Pg)(fuel:Int)(k:Pfx):List Nat:=(Zct (stK p fuel k).next (evK p fuel k) (stK p fuel k).ts.length).map Prod.fst
def Za8(s:St)(asl:Nat):List Int:=s.all.filter fun t=>!hasB asl t
def endM(p:Pg)(fuel:Int)(W w:Nat)(k:Pfx)(asl:Nat)(d:Int)(m:Mac):Mac:=
 if (stK p fuel k).all=[]then { m with keys:=updF m.keys w (m.keys w++[keyB (evK p fuel k)]) }
 else if Za8 (stK p fuel k) asl=[]then { m with blk:=m.blk+1 }
 else markM W w k (ofN [(Za8 (stK p fuel k) asl).getD (drawN d (Za8 (stK p fuel k) asl).length) 0]) m
def openM(p:Pg)(fuel:Int)(W w:Nat)(k:Pfx)(asl:Nat)(d:Int)(m:Mac):Mac:=
 endM p fuel W w k asl d ((ZbR p fuel k).foldl (raceM p fuel W w k) { m with l:=(makeT p fuel m.l k asl w).2 })
def mac0:Mac:=⟨[],0,fun _=>[],fun _=>[],fun _=>[],0,false⟩
def newM(p:Pg)(fuel:Int)(W:Nat):Mac:=openM p fuel W 0 [] 0 0 mac0
def ZfO(W:Nat)(m:Mac):Bool:=(List.range W).all fun w=>(m.box w).isEmpty&&(m.wk w).isEmpty
def haltM(W:Nat)(m:Mac):Bool:=m.over||ZfO W m
def readM(W w:Nat)(x:Ltr)(r:List Ltr)(m:Mac):Mac:=
 if leftT (markT m.l x.q x.set).2 x.q≠0/\hasM W m x.q=false then pushM W w x.q { m with box:=updF m.box w r,l:=(handT (markT m.l x.q x.set).2 x.q w).2 }
 else { m with box:=updF m.box w r,l:=(markT m.l x.q x.set).2 }
def ZcH(w v:Nat)(m:Mac):Mac:=
 { m with wk:=updF (updF m.wk v (m.wk v).dropLast) w (putT (m.wk w) ((m.wk v).getLast?.getD [])),l:=(handT m.l ((m.wk v).getLast?.getD []) w).2 }
def intoM(p:Pg)(fuel:Int)(W w:Nat)(q:Pfx)(d:Int)(m:Mac):Mac:=
 let c:=Zbc p fuel m.l q d
 let m1:Mac:={ m with l:=c.2.2.2,cl:=m.cl+1 }
 openM p fuel W w (q++[UInt8.ofNat c.2.1.toNat]) c.2.2.1 d (if leftT c.2.2.2 q≠0 then pushM W w q m1 else m1)
def stepM(p:Pg)(fuel:Int)(W B:Nat)(w:Nat)(d:Int)(m:Mac):Nat × Mac:=
 if W<=w∨haltM W m=true then (0,m)else
 match m.box w with
 |x::r=>(1,readM W w x r m)
 | []=>match m.wk w with
  | []=>if drawN d W=w∨m.wk (drawN d W)=[]then (0,m)else (2,ZcH w (drawN d W) m)
  |q::r=>
   let m1:Mac:={ m with wk:=updF m.wk w r }
   if leftT m.l q=0 then (4,m1)else if m.l.length=B then (5,{ m1 with over:=true })else (3,intoM p fuel W w q d m1)
theorem run_of_ex{es:List Ev}:∀{s z:St},Ex s es z->s.run (es.map Ev.thread)=(0,es,z):=by
 induction es with
 |nil=>intro s z h;have h':z=s:=h;rw[h'];rfl
 |cons e es ih=>
  rintro s z⟨s1,h1,h2⟩
  have h3:=ih h2
  rw[List.map_cons,St.run,h1]
  dsimp only
  rw[if_pos rfl,h3]
  rfl
theorem ex_of_run(row:List Int):∀{s:St},(s.run row).1=0->Ex s (s.run row).2.1 (s.run row).2.2/\(s.run row).2.1.map Ev.thread=row:=by
 induction row with
 |nil=>intro s _;exact⟨rfl,rfl⟩
 |cons t row ih=>
  intro s h
  by_cases h1:(s.step t).1=0
  ·rw[St.run,if_pos h1]at h ⊢
   by_cases h2:((s.step t).2.2.run row).1=0
   ·rw[if_pos h2]
    obtain⟨h3,h4⟩:=ih h2
    have hs:s.step t=(0,(s.step t).2.1,(s.step t).2.2):=by rw[<-h1]
    have ht:(s.step t).2.1.thread=t:=(ZaU hs).2.2
    dsimp only
    exact⟨⟨(s.step t).2.2,by rw[ht];exact hs,h3⟩,by rw[List.map_cons,h4,ht]⟩
   ·rw[if_neg h2]at h;exact absurd h h2
  ·rw[St.run,if_neg h1]at h;exact absurd h h1
section
variable{p:Pg}{fuel:Int}
theorem Zgw(hg:Zam p fuel=true){es:List Ev}{z:St}(h:Ex (s0 p fuel) es z):rep p fuel (es.map Ev.thread)=(0,es,some z):=by
 unfold rep
 rw[if_pos hg]
 have:=run_of_ex h
 unfold s0 at this
 rw[this]
 rfl
theorem ZeW{row:List Int}{e:Int}{es:List Ev}{s:St}(h:rep p fuel row=(e,es,some s)):Ex (s0 p fuel) es s/\es.map Ev.thread=row:=by
 obtain⟨_,hg,h1,h2⟩:=ZfY h
 obtain⟨h3,h4⟩:=ex_of_run row h1
 have h5:((St.new p fuel.toNat).run row).2.2=s:=by
  unfold rep comb at h
  rw[if_pos hg,if_pos h1]at h
  simp at h
  exact h.2.2
 rw[h2]at h3 h4
 rw[h5]at h3
 exact⟨h3,h4⟩
theorem ZgY{a b:List Ev}:∀{s z z':St},Ex s a z->Ex s b z'->a.map Ev.thread=b.map Ev.thread->a=b:=by
 induction a generalizing b with
 |nil=>intro s z z' _ _ e;cases b with
  |nil=>rfl
  |cons=>cases e
 |cons x a ih=>
  rintro s z z'⟨s1,h1,h2⟩ hb e
  cases b with
  |nil=>cases e
  |cons y b=>
   obtain⟨s2,h3,h4⟩:=hb
   injection e with e1 e2
   rw[e1,h3]at h1
   injection h1 with _ h1
   injection h1 with h5 h6
   subst h5 h6
   rw[ih h2 h4 e2]
theorem Zmq{a b:Pfx}(h:rowK a=rowK b):a=b:=by
 induction a generalizing b with
 |nil=>cases b with
  |nil=>rfl
  |cons=>cases h
 |cons x a ih=>
  cases b with
  |nil=>cases h
  |cons y b=>
   injection h with h1 h2
   rw[ih h2,UInt8.toNat_inj.1 (Int.ofNat_inj.1 h1)]
structure NodeR(b:Nd)(n:TNd):Prop where
 row:b.row.map Ev.thread=rowK n.pre
 z:∀u,b.z u=hasB n.asl u
 g:∀u,u∈b.g↔hasB n.gone u=true
structure TreeR(p:Pg)(fuel:Int)(W:Nat)(l:List TNd)(T:List Nd):Prop where
 ok:TreeOk (s0 p fuel) T
 tr:TrOk p fuel l
 len:T.length=l.length
 fwd:∀n∈l,∃b∈T,NodeR b n
 bwd:∀b∈T,∃n∈l,NodeR b n
 own:∀n∈l,0<=n.own/\n.own<W
section
variable{W:Nat}{l:List TNd}{T:List Nd}
theorem TrOk.at(h:TrOk p fuel l){n:TNd}(hn:n∈l):∃i,∃hi:i<l.length,l[i]=n/\idxT l n.pre=some i:=by
 obtain⟨i,hi,rfl⟩:=List.getElem_of_mem hn
 exact⟨i,hi,rfl,Zfi h.nodup hi⟩
theorem Zfm{i:Nat}(hi:i<l.length):l.getD i ⟨[],0,0,0,0,0⟩=l[i]:=by simp[List.getD,hi]
theorem ZbA{k:Pfx}{i:Nat}(h:idxT l k=some i)(hi:i<l.length):leftT l k=l[i].left:=by
 unfold leftT;rw[h];simp[List.getD,hi]
theorem ownT_at{k:Pfx}{i:Nat}(h:idxT l k=some i)(hi:i<l.length):ownT l k=l[i].own:=by
 unfold ownT;rw[h];simp[List.getD,hi]
theorem ZbF(hd:(l.map TNd.pre).Nodup){i:Nat}(hi:i<l.length){n x:TNd}:x∈l.set i n↔x=n∨(x∈l/\x.pre≠l[i].pre):=by
 constructor
 ·intro h
  obtain⟨j,hj,rfl⟩:=List.getElem_of_mem h
  rw[List.length_set]at hj
  rw[List.getElem_set]
  split
  ·exact .inl rfl
  ·rename_i e
   refine .inr ⟨List.getElem_mem hj,fun e2=>e ?_⟩
   have h1:(l.map TNd.pre)[i]'(by simpa using hi)=(l.map TNd.pre)[j]'(by simpa using hj):=by simp[e2]
   exact(List.getElem_inj hd).1 h1
 ·rintro (rfl|⟨h,hne⟩)
  ·exact List.mem_set hi _
  ·obtain⟨j,hj,rfl⟩:=List.getElem_of_mem h
   have hij:i≠j:=fun e=>hne (by subst e;rfl)
   have:(l.set i n)[j]'(by simpa using hj)=l[j]:=List.getElem_set_ne hij _
   rw[<-this]
   exact List.getElem_mem _
theorem Zcx{i:Nat}(hd:(l.map TNd.pre).Nodup)(hi:i<l.length){n:TNd}(e:n.pre=l[i].pre)(k:Pfx):leftT (l.set i n) k=if k=l[i].pre then n.left else leftT l k:=by
 have h1:=Zi0 hi e k
 by_cases hk:k=l[i].pre
 ·rw[if_pos hk]
  subst hk
  rw[Zfi hd hi]at h1
  rw[ZbA h1 (by simpa using hi)]
  simp
 ·rw[if_neg hk]
  cases h2:idxT l k with
  |none=>rw[h2]at h1;unfold leftT;rw[h1,h2]
  |some j=>
   rw[h2]at h1
   obtain⟨hj,hp⟩:=Za0 h2
   rw[ZbA h1 (by simpa using hj),ZbA h2 hj,List.getElem_set]
   rw[if_neg]
   intro e2
   subst e2
   exact hk hp.symm
theorem TreeR.set(h:TreeR p fuel W l T){i:Nat}(hi:i<l.length){n:TNd}(e:n.pre=l[i].pre)(em:n.may=l[i].may)(ea:n.asl=l[i].asl)(eg:n.gone=l[i].gone)(ht:n.todo<256)(hm:∀j,n.todo.testBit j=true->n.may.testBit j=true)(ho:0<=n.own/\n.own<W):TreeR p fuel W (l.set i n) T:=by
 have hmem:l[i]∈l:=List.getElem_mem hi
 have hok:=h.tr.ok _ hmem
 refine⟨h.ok,h.tr.set hi e em ⟨by rw[em];exact hok.may,by rw[ea];exact hok.asl,ht,by rw[eg];exact hok.gone⟩ hm,by rw[List.length_set];exact h.len,fun x hx=>?_,fun b hb=>?_,fun x hx=>?_⟩
 ·rcases (ZbF h.tr.nodup hi).1 hx with rfl|⟨hx,_⟩
  ·obtain⟨b,hb,r⟩:=h.fwd _ hmem
   exact⟨b,hb,by rw[e];exact r.row,fun u=>by rw[ea];exact r.z u,fun u=>by rw[eg];exact r.g u⟩
  ·exact h.fwd x hx
 ·obtain⟨x,hx,r⟩:=h.bwd b hb
  by_cases hp:x.pre=l[i].pre
  ·have hxi:x=l[i]:=by
    obtain⟨j,hj,rfl,e1⟩:=h.tr.at hx
    rw[hp,Zfi h.tr.nodup hi]at e1
    injection e1 with e1
    subst e1
    rfl
   subst hxi
   exact⟨n,List.mem_set hi _,by rw[e];exact r.row,fun u=>by rw[ea];exact r.z u,fun u=>by rw[eg];exact r.g u⟩
  ·exact⟨x,(ZbF h.tr.nodup hi).2 (.inr ⟨hx,hp⟩),r⟩
 ·rcases (ZbF h.tr.nodup hi).1 hx with rfl|⟨hx,_⟩
  ·exact ho
  ·exact h.own x hx
theorem TreeR.mark(h:TreeR p fuel W l T){n:TNd}(hn:n∈l){set:Nat}(_:set<256):∃i,∃hi:i<l.length,l[i]=n/\(markT l n.pre set).2=l.set i { n with todo:=n.todo|||(set&&&n.may) }/\TreeR p fuel W (markT l n.pre set).2 T:=by
 obtain⟨i,hi,rfl,hx⟩:=h.tr.at hn
 have e:(markT l l[i].pre set).2=l.set i { l[i]with todo:=l[i].todo|||(set&&&l[i].may) }:=by
  unfold markT
  rw[hx]
  dsimp only
  rw[Zfm hi]
 refine⟨i,hi,rfl,e,?_⟩
 rw[e]
 refine h.set hi rfl rfl rfl rfl ?_ ?_ (by exact h.own l[i] hn)
 ·exact ZfG (h.tr.ok _ hn).todo (Nat.lt_of_le_of_lt Nat.and_le_right (h.tr.ok _ hn).may)
 ·intro j hj
  dsimp only at hj
  rw[Nat.testBit_or,Bool.or_eq_true,Nat.testBit_and,Bool.and_eq_true]at hj
  rcases hj with hj|hj
  ·exact h.tr.todo _ hn j hj
  ·exact hj.2
theorem TreeR.hand(h:TreeR p fuel W l T){n:TNd}(hn:n∈l){w:Nat}(hw:w<W):∃i,∃hi:i<l.length,l[i]=n/\(handT l n.pre w).2=l.set i { n with own:=w }/\TreeR p fuel W (handT l n.pre w).2 T:=by
 obtain⟨i,hi,rfl,hx⟩:=h.tr.at hn
 have e:(handT l l[i].pre w).2=l.set i { l[i]with own:=w }:=by
  unfold handT
  rw[hx]
  dsimp only
  rw[Zfm hi]
 refine⟨i,hi,rfl,e,?_⟩
 rw[e]
 exact h.set hi rfl rfl rfl rfl (h.tr.ok l[i] hn).todo (by exact h.tr.todo l[i] hn) ⟨by show(0:Int)<=w;omega,by show(w:Int)<W;omega⟩
end
end
structure WorkR(W:Nat)(l:List TNd)(wk:Nat->List Txt):Prop where
 iff:∀q,(∃w,w<W/\q∈wk w)↔leftT l q≠0
 nd:∀w,w<W->(wk w).Nodup
 ap:∀v w,v<W->w<W->v≠w->∀q∈wk v,q∉wk w
structure WorkX(W:Nat)(l:List TNd)(wk:Nat->List Txt)(q0:Txt):Prop where
 iff:∀q,q≠q0->((∃w,w<W/\q∈wk w)↔leftT l q≠0)
 no:∀w,w<W->q0∉wk w
 nd:∀w,w<W->(wk w).Nodup
 ap:∀v w,v<W->w<W->v≠w->∀q∈wk v,q∉wk w
section
variable{W:Nat}{l l':List TNd}{wk:Nat->List Txt}{q0:Txt}
theorem mem_putT{l:List Txt}{s q:Txt}:q∈putT l s↔q=s∨q∈l:=by
 rw[(Zb5 l s).mem_iff,List.mem_cons]
theorem putT_nodup{l:List Txt}{s:Txt}(h:l.Nodup)(hs:s∉l):(putT l s).Nodup:=(Zb5 l s).nodup_iff.2 (List.nodup_cons.2 ⟨hs,h⟩)
theorem ZeS{m:Mac}{k:Pfx}:hasM W m k=true↔∃w,w<W/\k∈m.wk w:=by
 unfold hasM
 rw[List.any_eq_true]
 constructor
 ·rintro⟨w,h1,h2⟩
  exact⟨w,List.mem_range.1 h1,by simpa using h2⟩
 ·rintro⟨w,h1,h2⟩
  exact⟨w,List.mem_range.2 h1,by simpa using h2⟩
theorem WorkX.push(h:WorkX W l wk q0){w:Nat}(hw:w<W)(hl:leftT l q0≠0):WorkR W l (updF wk w (putT (wk w) q0)):=by
 have hm:∀v q,q∈updF wk w (putT (wk w) q0) v↔(v=w/\q=q0)∨q∈wk v:=by
  intro v q
  by_cases e:v=w
  ·subst e;rw[Zac,mem_putT];exact⟨fun h=>h.imp_left fun h=>⟨rfl,h⟩,fun h=>h.imp_left And.right⟩
  ·rw[Zad _ _ e];exact⟨.inr,fun h=>h.elim (fun h=>absurd h.1 e) id⟩
 refine⟨fun q=>?_,fun v hv=>?_,fun u v hu hv huv q hq=>?_⟩
 ·by_cases e:q=q0
  ·subst e
   exact⟨fun _=>hl,fun _=>⟨w,hw,(hm w q).2 (.inl ⟨rfl,rfl⟩)⟩⟩
  ·rw[<-h.iff q e]
   constructor
   ·rintro⟨v,hv,hq⟩
    rcases (hm v q).1 hq with h1|h1
    ·exact absurd h1.2 e
    ·exact⟨v,hv,h1⟩
   ·rintro⟨v,hv,hq⟩
    exact⟨v,hv,(hm v q).2 (.inr hq)⟩
 ·by_cases e:v=w
  ·subst e;rw[Zac];exact putT_nodup (h.nd v hv) (h.no v hv)
  ·rw[Zad _ _ e];exact h.nd v hv
 ·rw[hm]at hq ⊢
  rintro (h2|h2)
  ·rcases hq with h1|h1
   ·exact huv (h1.1.trans h2.1.symm)
   ·rw[h2.2]at h1;exact h.no u hu h1
  ·rcases hq with h1|h1
   ·rw[h1.2]at h2;exact h.no v hv h2
   ·exact h.ap u v hu hv huv q h1 h2
theorem WorkX.none(h:WorkX W l wk q0)(hl:leftT l q0=0):WorkR W l wk:=by
 refine⟨fun q=>?_,h.nd,h.ap⟩
 by_cases e:q=q0
 ·subst e
  exact⟨fun⟨w,hw,hq⟩=>absurd hq (h.no w hw),fun h2=>absurd hl h2⟩
 ·exact h.iff q e
theorem WorkR.off(h:WorkR W l wk)(h0:leftT l q0=0)(h1:∀q,q≠q0->leftT l' q=leftT l q):WorkX W l' wk q0:=
 ⟨fun q hq=>by rw[h1 q hq];exact h.iff q,fun w hw hq=>(h.iff q0).1 ⟨w,hw,hq⟩ h0,h.nd,h.ap⟩
theorem WorkR.same(h:WorkR W l wk)(h1:∀q,leftT l' q≠0↔leftT l q≠0):WorkR W l' wk:=⟨fun q=>by rw[h1 q];exact h.iff q,h.nd,h.ap⟩
theorem WorkX.more(h:WorkX W l wk q0)(h1:∀q,q≠q0->leftT l' q=leftT l q):WorkX W l' wk q0:=⟨fun q hq=>by rw[h1 q hq];exact h.iff q hq,h.no,h.nd,h.ap⟩
theorem WorkR.pop(h:WorkR W l wk){w:Nat}(hw:w<W){q:Txt}{r:List Txt}(e:wk w=q::r):WorkX W l (updF wk w r) q:=by
 have hnd:=h.nd w hw
 rw[e,List.nodup_cons]at hnd
 have hm:∀v x,x≠q->(x∈updF wk w r v↔x∈wk v):=by
  intro v x hx
  by_cases e2:v=w
  ·subst e2;rw[Zac,e,List.mem_cons];exact⟨.inr,fun h=>h.elim (fun h=>absurd h hx) id⟩
  ·rw[Zad _ _ e2]
 refine⟨fun x hx=>?_,fun v hv=>?_,fun v hv=>?_,fun u v hu hv huv x hx=>?_⟩
 ·rw[<-h.iff x]
  exact⟨fun⟨v,hv,h1⟩=>⟨v,hv,(hm v x hx).1 h1⟩,fun⟨v,hv,h1⟩=>⟨v,hv,(hm v x hx).2 h1⟩⟩
 ·by_cases e2:v=w
  ·subst e2;rw[Zac];exact hnd.1
  ·rw[Zad _ _ e2]
   exact h.ap w v hw hv (Ne.symm e2) q (by rw[e];exact List.mem_cons_self)
 ·by_cases e2:v=w
  ·subst e2;rw[Zac];exact hnd.2
  ·rw[Zad _ _ e2];exact h.nd v hv
 ·have key:∀y v,v<W->y∈updF wk w r v->y∈wk v:=by
   intro y v _ hy
   by_cases e2:v=w
   ·subst e2;rw[Zac]at hy;rw[e];exact List.mem_cons_of_mem _ hy
   ·rwa [Zad _ _ e2]at hy
  exact fun h2=>h.ap u v hu hv huv x (key x u hu hx) (key x v hv h2)
theorem WorkR.steal(h:WorkR W l wk){w v:Nat}(hw:w<W)(hv:v<W)(hvw:v≠w){q:Txt}{r:List Txt}(e:wk v=r++[q]):WorkR W l (updF (updF wk v r) w (putT (wk w) q)):=by
 have hnd:=h.nd v hv
 rw[e,List.nodup_append]at hnd
 have hqr:q∉r:=fun hq=>hnd.2.2 q hq q (by simp) rfl
 have hX:WorkX W l (updF wk v r) q:=by
  have hm:∀u x,x≠q->(x∈updF wk v r u↔x∈wk u):=by
   intro u x hx
   by_cases e2:u=v
   ·subst e2;rw[Zac,e,List.mem_append,List.mem_singleton];exact⟨.inl,fun h=>h.elim id fun h=>absurd h hx⟩
   ·rw[Zad _ _ e2]
  have key:∀y u,y∈updF wk v r u->y∈wk u:=by
   intro y u hy
   by_cases e2:u=v
   ·subst e2;rw[Zac]at hy;rw[e];exact List.mem_append_left _ hy
   ·rwa [Zad _ _ e2]at hy
  refine⟨fun x hx=>?_,fun u hu=>?_,fun u hu=>?_,fun a b ha hb hab x hx=>fun h2=>h.ap a b ha hb hab x (key x a hx) (key x b h2)⟩
  ·rw[<-h.iff x]
   exact⟨fun⟨u,hu,h1⟩=>⟨u,hu,(hm u x hx).1 h1⟩,fun⟨u,hu,h1⟩=>⟨u,hu,(hm u x hx).2 h1⟩⟩
  ·by_cases e2:u=v
   ·subst e2;rw[Zac];exact hqr
   ·rw[Zad _ _ e2]
    exact h.ap v u hv hu (Ne.symm e2) q (by rw[e];simp)
  ·by_cases e2:u=v
   ·subst e2;rw[Zac];exact hnd.1
   ·rw[Zad _ _ e2];exact h.nd u hu
 have hl:leftT l q≠0:=(h.iff q).1 ⟨v,hv,by rw[e];simp⟩
 have:=hX.push hw hl
 rwa [Zad _ _ (Ne.symm hvw)]at this
end
end Go.Proofs.YtjfmmnhcddckaaaGreat
