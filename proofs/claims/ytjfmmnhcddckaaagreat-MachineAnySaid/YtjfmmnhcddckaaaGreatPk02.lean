import Derived.Laws.Rows
import Derived.Laws.Tables
import Derived.Lib.Hide
import Derived.Laws.StructEq
import Derived.StillTailTactics
import Derived.Laws.EntriesVeiled
import Derived.Deep.RegionHeld3
import Derived.Laws.CopyOwn
import Derived.Deep.WholeRow
import Derived.Test.YtjfmmnhcddckaaaGreatPk01
set_option maxRecDepth 100000
set_option maxHeartbeats 4000000
namespace Go.Proofs.YtjfmmnhcddckaaaGreat
open Go.RowKit
def ins0:Ins:=⟨0,0,0,0⟩
def ZdM(i:Ins)(k:Nat):Int:=if k=0 then i.kind else if k=1 then i.r else if k=2 then i.x else i.n
def Zbp(c:List Ins)(x:Thr)(k:Nat):Int:=
 if k<32 then ZdM (c.getD (k/4) ins0) (k%4)
 else if k=32 then c.length
 else if k=33 then x.at_
 else if k=34 then x.fuel
 else x.r.getD (k-35) 0
def stNum(s:St)(o:Nat):Int:=
 if o=0 then s.ts.length
 else if o=1 then s.p.mutexes
 else if o<150 then Zbp (s.code ((o-2)/37)) (s.th ((o-2)/37)) ((o-2)%37)
 else if o<154 then s.v.getD (o-150) 0
 else s.m.getD (o-154) (-1)
def numA(f:Nat->Int):Array Value:=((List.range 156).map fun o=>Value.int .i64 (f o)).toArray
theorem Zb6(f:Nat->Int):(numA f).size=156:=by simp[numA]
theorem Zdd(f:Nat->Int)(o:Nat)(h:o<156):(numA f)[o]?=some (.int .i64 (f o)):=by simp[numA,h]
theorem Zf3(f g:Nat->Int)(o:Nat)(n:Int)(ho:o<156)(h:∀j,j<156->g j=if j=o then n else f j):(numA f).setIfInBounds o (.int .i64 n)=numA g:=by
 apply Array.ext_getElem?
 intro j
 rw[Array.getElem?_setIfInBounds]
 by_cases hj:j<156
 ·rw[Zdd g j hj,h j hj]
  by_cases e:o=j
  ·subst e;simp[Zb6,hj]
  ·rw[if_neg e,if_neg (fun e'=>e e'.symm),Zdd f j hj]
 ·have h1:(numA g)[j]?=none:=Array.getElem?_eq_none (by rw[Zb6];omega)
  have h2:(numA f)[j]?=none:=Array.getElem?_eq_none (by rw[Zb6];omega)
  rw[h1,h2]
  split
  ·rw[Zb6,if_neg (by omega)]
  ·rfl
theorem ZhR(f g:Nat->Int)(h:∀j,j<156->f j=g j):numA f=numA g:=by
 unfold numA
 congr 1
 apply List.map_congr_left
 intro j hj
 rw[h j (by simpa using hj)]
def StAt(w:World)(b:Nat)(s:St):Prop:=w.heap[b]?=some (.cells (numA (stNum s)) 163 (0,0))
theorem StAt.lt{w:World}{b:Nat}{s:St}(h:StAt w b s):b<w.heap.size:=(Array.getElem?_eq_some_iff.1 h).1
theorem StAt.num{w:World}{b:Nat}{s:St}(h:StAt w b s)(o:Nat)(ho:o<156):w.cell? ⟨b,o,none⟩=some (.int .i64 (stNum s o)):=by
 rw[cell_of_row w b o _ _ _ h,Zdd _ _ ho]
theorem StAt.frozen{w:World}{b:Nat}{s:St}(h:StAt w b s)(o:Nat):w.frozen? ⟨b,o,none⟩=false:=by
 simp[World.frozen?,show w.heap[b]?=_ from h]
theorem StAt.set{w:World}{b:Nat}{s:St}(h:StAt w b s)(s':St)(o:Nat)(n:Int)(ho:o<156)(hs:∀j,j<156->stNum s' j=if j=o then n else stNum s j):StAt (w.setCell ⟨b,o,none⟩ (.int .i64 n)) b s':=by
 have:=heap_setCell_same w b o _ _ (.int .i64 n) h
 rw[Zf3 _ _ o n ho hs]at this
 exact this
theorem StAt.later{w w':World}{b:Nat}{s:St}(h:StAt w b s)(hb:Below w.heap.size w w'):StAt w' b s:=(hb.block b h.lt).trans h
theorem StAt.drew{w:World}{b:Nat}{s:St}(h:StAt w b s):StAt w.drew b s:=h
theorem Zbs(s:St):stNum s 0=s.ts.length:=rfl
theorem Ziv(s:St):stNum s 1=s.p.mutexes:=rfl
theorem Za6(s:St)(t k:Nat)(ht:t<4)(hk:k<37):stNum s (2+t*37+k)=Zbp (s.code t) (s.th t) k:=by
 unfold stNum
 rw[if_neg (by omega),if_neg (by omega),if_pos (by omega),show(2+t*37+k-2)/37=t by omega,show(2+t*37+k-2)%37=k by omega]
theorem ZjF(s:St)(x:Nat)(h:x<4):stNum s (150+x)=s.v.getD x 0:=by
 unfold stNum
 rw[if_neg (by omega),if_neg (by omega),if_neg (by omega),if_pos (by omega),show 150+x-150=x by omega]
theorem ZeA(s:St)(x:Nat):stNum s (154+x)=s.m.getD x (-1):=by
 unfold stNum
 rw[if_neg (by omega),if_neg (by omega),if_neg (by omega),if_neg (by omega),show 154+x-154=x by omega]
theorem Zgn(s:St)(t:Nat)(y:Thr)(k:Nat)(n:Int)(ht:t<s.ts.length)(h4:s.ts.length<=4)(hk:k<37)(hy:∀j,j<37->Zbp (s.code t) y j=if j=k then n else Zbp (s.code t) (s.th t) j):
  ∀j,j<156->stNum (s.put t y) j=if j=2+t*37+k then n else stNum s j:=by
 intro j hj
 have hth:∀u,(s.put t y).th u=if u=t then y else s.th u:=fun u=>by
  unfold St.put St.th
  simp only[Int.toNat_natCast]
  exact ZaS _ _ _ _ _ ht
 have hcd:∀u,(s.put t y).code u=s.code u:=fun _=>rfl
 unfold stNum
 by_cases h0:j=0
 ·rw[if_pos h0,if_neg (by omega),if_pos h0];simp[St.put]
 rw[if_neg h0,if_neg (c:=j=0) h0]
 by_cases h1:j=1
 ·rw[if_pos h1,if_neg (by omega),if_pos h1];rfl
 rw[if_neg h1,if_neg (c:=j=1) h1]
 by_cases h2:j<150
 ·rw[if_pos h2,if_pos h2,hth,hcd]
  by_cases e:(j-2)/37=t
  ·rw[if_pos e,e,hy _ (by omega)]
   by_cases e2:(j-2)%37=k
   ·rw[if_pos e2,if_pos (by omega)]
   ·rw[if_neg e2,if_neg (by omega)]
  ·rw[if_neg e,if_neg (by omega)]
 ·rw[if_neg h2,if_neg (c:=j<150) h2,if_neg (c:=j=2+t*37+k) (by omega)];rfl
theorem thrNum_at(c:List Ins)(x:Thr)(n:Nat):∀j,j<37->Zbp c { x with at_:=n } j=if j=33 then (n:Int)else Zbp c x j:=by
 intro j hj
 unfold Zbp
 dsimp only
 by_cases e:j=33
 ·subst e;simp
 ·rw[if_neg e];simp only[e,if_false]
theorem Zk8(c:List Ins)(x:Thr)(n:Nat):∀j,j<37->Zbp c { x with fuel:=n } j=if j=34 then (n:Int)else Zbp c x j:=by
 intro j hj
 unfold Zbp
 dsimp only
 by_cases e:j=34
 ·subst e;simp
 ·rw[if_neg e];simp only[e,if_false]
theorem thrNum_reg(c:List Ins)(x:Thr)(r:Nat)(n:Int)(hr:r<2)(hl:x.r.length=2):∀j,j<37->Zbp c { x with r:=x.r.set r n } j=if j=35+r then n else Zbp c x j:=by
 intro j hj
 unfold Zbp
 dsimp only
 by_cases h1:j<35
 ·rw[if_neg (c:=j=35+r) (by omega)]
  by_cases a:j<32
  ·simp[a]
  ·by_cases b:j=32
   ·simp[b]
   ·by_cases c:j=33
    ·simp[c]
    ·have:j=34:=by omega
     simp[this]
 ·have a1:¬j<32:=by omega
  have a2:¬j=32:=by omega
  have a3:¬j=33:=by omega
  have a4:¬j=34:=by omega
  simp only[a1,a2,a3,a4,if_false]
  rw[ZaS _ _ _ _ _ (by omega)]
  by_cases e:j=35+r
  ·rw[if_pos (by omega),if_pos e]
  ·rw[if_neg (by omega),if_neg e]
theorem ZjH(s:St)(x:Nat)(n:Int)(hx:x<4)(hl:s.v.length=4):∀j,j<156->stNum { s with v:=s.v.set x n } j=if j=150+x then n else stNum s j:=by
 intro j hj
 unfold stNum St.th St.code
 dsimp only
 by_cases h2:j<150
 ·rw[if_neg (c:=j=150+x) (by omega)];simp only[h2,if_true]
 ·rw[if_neg (by omega),if_neg (by omega),if_neg h2]
  by_cases h3:j<154
  ·rw[if_pos h3,ZaS _ _ _ _ _ (by omega)]
   by_cases e:j=150+x
   ·rw[if_pos (by omega),if_pos e]
   ·rw[if_neg (by omega),if_neg e,if_neg (by omega),if_neg (by omega),if_neg h2,if_pos h3]
  ·rw[if_neg h3,if_neg (c:=j=150+x) (by omega),if_neg (by omega),if_neg (by omega),if_neg h2,if_neg h3]
theorem ZjG(s:St)(x:Nat)(n:Int)(hx:x<2)(hl:s.m.length=2):∀j,j<156->stNum { s with m:=s.m.set x n } j=if j=154+x then n else stNum s j:=by
 intro j hj
 unfold stNum St.th St.code
 dsimp only
 by_cases h3:j<154
 ·rw[if_neg (c:=j=154+x) (by omega)];simp only[h3,if_true]
 ·rw[if_neg (by omega),if_neg (by omega),if_neg (by omega),if_neg h3,ZaS _ _ _ _ _ (by omega)]
  by_cases e:j=154+x
  ·rw[if_pos (by omega),if_pos e]
  ·rw[if_neg (by omega),if_neg e,if_neg (by omega),if_neg (by omega),if_neg (by omega),if_neg h3]
theorem Zbn(n e:Int)(w:World):Calls Tryz.prog 86 #[.int .i64 n,.int .i64 e] w fun r w'=>r=.returned (.bool (ZaM n e))/\w=w':=by
 go_enter Tryz.func86,Tryz.ntmps86
 go_wp2
 all_goals
  go_ret
  refine⟨Zag ?_,rfl⟩
  simp[ZaM]
  try omega
theorem ZbV{s:St}{b:Nat}{w:World}(h:StAt w b s):Calls Tryz.prog 107 #[.pointer (some ⟨b,0,none⟩)] w fun r w'=>r=.returned (.int .i64 s.ts.length)/\w=w':=by
 have c0:=h.num 0 (by omega)
 rw[Zbs]at c0
 have H:=Lib.hid h
 clear h
 go_enter Tryz.func107,Tryz.ntmps107
 go_wp2
 go_ret
 exact⟨rfl,rfl⟩
def insR(o:Option Ins):Value:=.tuple #[insV (o.getD ins0),.bool o.isSome]
def evR(o:Option Ev):Value:=.tuple #[evV (o.getD ev0),.bool o.isSome]
theorem thrNum_ins(c:List Ins)(x:Thr)(j:Nat)(hj:j<8)(d:Nat)(hd:d<4):Zbp c x (j*4+d)=ZdM (c.getD j ins0) d:=by
 unfold Zbp
 rw[if_pos (by omega),show(j*4+d)/4=j by omega,show(j*4+d)%4=d by omega]
theorem Zmk(c:List Ins)(x:Thr):Zbp c x 34=x.fuel:=rfl
theorem thr_at(c:List Ins)(x:Thr):Zbp c x 33=x.at_:=rfl
theorem Ze5(c:List Ins)(x:Thr)(y:Nat):Zbp c x (35+y)=x.r.getD y 0:=by
 unfold Zbp
 rw[if_neg (by omega),if_neg (by omega),if_neg (by omega),if_neg (by omega),show 35+y-35=y by omega]
theorem thr_size(c:List Ins)(x:Thr):Zbp c x 32=c.length:=rfl
theorem St.Ok.len4{F:Nat}{s:St}(h:s.Ok F):s.ts.length<=4:=by
 have:=h.right
 unfold Zal at this
 rw[Bool.and_eq_true,decide_eq_true_eq]at this
 have:=h.len
 omega
theorem St.Ok.code8{F:Nat}{s:St}(h:s.Ok F)(k:Nat)(hk:k<s.ts.length):(s.code k).length<=8:=by
 have hl:=h.len
 unfold St.code
 rw[Zav _ (by omega)]
 exact(ZdC h.right (by omega)).1
theorem ZdL:insR none=.tuple #[.agg #[.int .i64 0,.int .i64 0,.int .i64 0,.int .i64 0],.bool false]:=rfl
theorem ZeQ(i:Ins):insR (some i)=.tuple #[.agg #[.int .i64 i.kind,.int .i64 i.r,.int .i64 i.x,.int .i64 i.n],.bool true]:=rfl
theorem ZdK{F:Nat}{s:St}{b:Nat}{w:World}(h:StAt w b s)(ok:s.Ok F)(t:Int):
  Calls Tryz.prog 136 #[.pointer (some ⟨b,0,none⟩),.int .i64 t] w fun r w'=>r=.returned (insR (s.ins t))/\Below w.heap.size w w':=by
 have hbl:=h.lt
 have H:=Lib.hid h
 have OK:=Lib.hid ok
 clear h ok
 cases hb:ZaM t s.ts.length
 ·have hn:s.ins t=none:=by
   unfold St.ins
   rw[if_neg (fun e=>by have:=e.1;unfold St.has at this;simp[ZaM]at hb;omega)]
  rw[hn,ZdL]
  clear hn
  go_enter Tryz.func136,Tryz.ntmps136
  go_wp2_with (first
   |(go_at_call 86;refine(Zbn _ _ _).mono ?_;rintro r w' ⟨rfl,rfl⟩)
   |(go_at_call 107;refine(ZbV (H.out.later (Zaa _ _))).mono ?_;rintro r w' ⟨rfl,rfl⟩))
  exact bodyPost_ret (v:=.tuple #[.agg #[.int .i64 0,.int .i64 0,.int .i64 0,.int .i64 0],.bool false]) (by simp[results,Tryz.results136,go_sem]) rfl ⟨rfl,Zaa w _⟩
 ·obtain⟨k,rfl⟩:∃k:Nat,t=k:=⟨t.toNat,by simp[ZaM]at hb;omega⟩
  have hk:k<s.ts.length:=by simp[ZaM]at hb;omega
  have h4:=OK.out.len4
  have hpl:=OK.out.place k hk
  have h8:=OK.out.code8 k hk
  have cf:=H.out.num (2+k*37+34) (by omega)
  rw[Za6 _ _ _ (by omega) (by omega),Zmk]at cf
  have ca:=H.out.num (2+k*37+33) (by omega)
  rw[Za6 _ _ _ (by omega) (by omega),thr_at]at ca
  have cs:=H.out.num (2+k*37+32) (by omega)
  rw[Za6 _ _ _ (by omega) (by omega),thr_size]at cs
  by_cases hf:(s.th k).fuel=0
  ·have hn:s.ins k=none:=by
    unfold St.ins
    rw[if_neg (fun e=>by have:=e.2;simp at this;omega)]
   rw[hn,ZdL]
   rw[hf]at cf
   clear hn hf
   have hd:decide (((0:Nat):Int)=0)=true:=rfl
   go_enter Tryz.func136,Tryz.ntmps136
   go_wp2_with (first
    |(go_at_call 86;refine(Zbn _ _ _).mono ?_;rintro r w' ⟨rfl,rfl⟩)
    |(go_at_call 107;refine(ZbV (H.out.later (Zaa _ _))).mono ?_;rintro r w' ⟨rfl,rfl⟩))
   go_quiet (fail)
   go_wp2
   exact bodyPost_ret (v:=.tuple #[.agg #[.int .i64 0,.int .i64 0,.int .i64 0,.int .i64 0],.bool false]) (by simp[results,Tryz.results136,go_sem]) rfl ⟨rfl,Zbe (Zaa w _).drewN (Nat.le_refl _) _ _ _ _⟩
  ·by_cases ha:(s.th k).at_=(s.code k).length
   ·have hn:s.ins k=none:=by
     unfold St.ins
     split
     ·exact List.getElem?_eq_none (by simp[ha])
     ·rfl
    rw[hn,ZdL]
    have hf':((((s.th k).fuel:Nat):Int)==0)=false:=by simp;omega
    have ha':((((s.th k).at_:Nat):Int)==(s.code k).length)=true:=by simp[ha]
    clear hn hf ha
    generalize (s.th k).fuel=f at *
    generalize (s.th k).at_=at_ at *
    generalize (s.code k).length=n at *
    go_enter Tryz.func136,Tryz.ntmps136
    go_wp2_with (first
     |(go_at_call 86;refine(Zbn _ _ _).mono ?_;rintro r w' ⟨rfl,rfl⟩)
     |(go_at_call 107;refine(ZbV (H.out.later (Zaa _ _))).mono ?_;rintro r w' ⟨rfl,rfl⟩))
    go_quiet (fail)
    go_wp2
    exact bodyPost_ret (v:=.tuple #[.agg #[.int .i64 0,.int .i64 0,.int .i64 0,.int .i64 0],.bool false]) (by simp[results,Tryz.results136,go_sem]) rfl ⟨rfl,Zbe (Zaa w _).drewN (Nat.le_refl _) _ _ _ _⟩
   ·have hlt:(s.th k).at_<(s.code k).length:=by omega
    have hn:s.ins k=some (s.code k)[(s.th k).at_]:=by
     unfold St.ins
     rw[if_pos ⟨⟨by omega,by omega⟩,by simpa using hf⟩]
     simp only[Int.toNat_natCast]
     exact List.getElem?_eq_getElem hlt
    rw[hn,ZeQ]
    have hi:∀d,d<4->w.cell? ⟨b,2+k*37+(s.th k).at_*4+d,none⟩=some (.int .i64 (ZdM (s.code k)[(s.th k).at_] d)):=by
     intro d hd
     have:=H.out.num (2+k*37+((s.th k).at_*4+d)) (by omega)
     rw[Za6 _ _ _ (by omega) (by omega),thrNum_ins _ _ _ (by omega) _ hd,Zav _ hlt]at this
     rw[Nat.add_assoc]
     exact this
    have c0:w.cell? ⟨b,2+k*37+(s.th k).at_*4,none⟩=some (.int .i64 (s.code k)[(s.th k).at_].kind):=hi 0 (by omega)
    have c1:w.cell? ⟨b,2+k*37+(s.th k).at_*4+1,none⟩=some (.int .i64 (s.code k)[(s.th k).at_].r):=hi 1 (by omega)
    have c2:w.cell? ⟨b,2+k*37+(s.th k).at_*4+2,none⟩=some (.int .i64 (s.code k)[(s.th k).at_].x):=hi 2 (by omega)
    have c3:w.cell? ⟨b,2+k*37+(s.th k).at_*4+3,none⟩=some (.int .i64 (s.code k)[(s.th k).at_].n):=hi 3 (by omega)
    generalize (s.code k)[(s.th k).at_]=i at *
    have hf':((((s.th k).fuel:Nat):Int)==0)=false:=by simp;omega
    have ha':((((s.th k).at_:Nat):Int)==(s.code k).length)=false:=by simp;omega
    have ha8:(s.th k).at_<8:=by omega
    clear hn hf ha hi
    generalize (s.th k).fuel=f at *
    generalize (s.th k).at_=at_ at *
    generalize (s.code k).length=n at *
    go_enter Tryz.func136,Tryz.ntmps136
    go_wp2_with (first
     |(go_at_call 86;refine(Zbn _ _ _).mono ?_;rintro r w' ⟨rfl,rfl⟩)
     |(go_at_call 107;refine(ZbV (H.out.later (Zaa _ _))).mono ?_;rintro r w' ⟨rfl,rfl⟩))
    go_quiet (fail)
    go_wp2
    go_region
    go_wp2
    exact bodyPost_ret (v:=.tuple #[.agg #[.int .i64 i.kind,.int .i64 i.r,.int .i64 i.x,.int .i64 i.n],.bool true]) (by simp[results,Tryz.results136,go_sem]) rfl ⟨rfl,Zbe (Zaa w _).drewN.drew (Nat.le_refl _) _ _ _ _⟩
theorem event_any{F:Nat}{s:St}{b:Nat}{w:World}(h:StAt w b s)(ok:s.Ok F)(t:Nat)(ht:t<s.ts.length)(i:Ins)(h6:i.kind=6->0<=i.x/\i.x<2)(h8:i.kind=8->0<=i.r/\i.r<2):
  Calls Tryz.prog 137 #[.pointer (some ⟨b,0,none⟩),.int .i64 t,insV i] w fun r w'=>r=.returned (evV (s.ev t i))/\Below w.heap.size w w':=by
 have hbl:=h.lt
 have h4:=ok.len4
 have H:=Lib.hid h
 clear h ok
 obtain⟨kd,r,x,n⟩:=i
 unfold insV
 dsimp only at *
 by_cases e1:kd=1
 ·subst e1
  have hev:s.ev t ⟨1,r,x,n⟩=⟨t,2,x,false⟩:=rfl
  rw[hev,Zg0]
  clear hev h6 h8
  go_enter Tryz.func137,Tryz.ntmps137
  go_wp2
  exact bodyPost_ret (v:=.agg #[.int .i64 t,.int .i64 2,.int .i64 x,.bool false]) (by simp[results,Tryz.results137,go_sem]) rfl ⟨rfl,Zak w _ _⟩
 by_cases e2:kd=2
 ·subst e2
  have hev:s.ev t ⟨2,r,x,n⟩=⟨t,3,x,false⟩:=rfl
  rw[hev,Zg0]
  clear hev h6 h8
  go_enter Tryz.func137,Tryz.ntmps137
  go_wp2
  exact bodyPost_ret (v:=.agg #[.int .i64 t,.int .i64 3,.int .i64 x,.bool false]) (by simp[results,Tryz.results137,go_sem]) rfl ⟨rfl,Zak w _ _⟩
 by_cases e5:kd=5
 ·subst e5
  have hev:s.ev t ⟨5,r,x,n⟩=⟨t,4,x,false⟩:=rfl
  rw[hev,Zg0]
  clear hev h6 h8
  go_enter Tryz.func137,Tryz.ntmps137
  go_wp2
  exact bodyPost_ret (v:=.agg #[.int .i64 t,.int .i64 4,.int .i64 x,.bool false]) (by simp[results,Tryz.results137,go_sem]) rfl ⟨rfl,Zak w _ _⟩
 by_cases e6:kd=6
 ·subst e6
  obtain⟨hx0,hx2⟩:=h6 rfl
  obtain⟨y,rfl⟩:∃y:Nat,x=y:=⟨x.toNat,by omega⟩
  have hy:y<2:=by omega
  have c0:=H.out.num (154+y) (by omega)
  rw[ZeA]at c0
  have hv:s.m.getD y (-1)=s.who y:=rfl
  rw[hv]at c0
  clear hv h6 h8 hx0 hx2
  by_cases hw:s.who y=t
  ·have hev:s.ev t ⟨6,r,y,n⟩=⟨t,5,y,false⟩:=by simp[St.ev,hw]
   rw[hev,Zg0]
   rw[hw]at c0
   clear hev hw
   go_enter Tryz.func137,Tryz.ntmps137
   go_wp2
   go_quiet (fail)
   go_wp2
   exact bodyPost_ret (v:=.agg #[.int .i64 t,.int .i64 5,.int .i64 y,.bool false]) (by simp[results,Tryz.results137,go_sem]) rfl ⟨rfl,Zbe (Zak w _ _).drewN (by omega) _ _ _ _⟩
  ·have hev:s.ev t ⟨6,r,y,n⟩=⟨t,1,0,true⟩:=by simp[St.ev,hw]
   rw[hev,Zg0]
   have hq:(s.who y==(t:Int))=false:=by simpa using hw
   clear hev hw
   go_enter Tryz.func137,Tryz.ntmps137
   go_wp2
   go_quiet (fail)
   go_wp2
   exact bodyPost_ret (v:=.agg #[.int .i64 t,.int .i64 1,.int .i64 0,.bool true]) (by simp[results,Tryz.results137,go_sem]) rfl ⟨rfl,Zbe (Zak w _ _).drewN (by omega) _ _ _ _⟩
 by_cases e8:kd=8
 ·subst e8
  obtain⟨hx0,hx2⟩:=h8 rfl
  obtain⟨y,rfl⟩:∃y:Nat,r=y:=⟨r.toNat,by omega⟩
  have hy:y<2:=by omega
  have c0:=H.out.num (2+t*37+(35+y)) (by omega)
  rw[Za6 _ _ _ (by omega) (by omega),Ze5,<-Nat.add_assoc]at c0
  have hev:s.ev t ⟨8,y,x,n⟩=⟨t,1,0,(s.th t).r.getD y 0==0⟩:=rfl
  rw[hev,Zg0]
  generalize (s.th t).r.getD y 0=g at *
  clear hev h6 h8 hx0 hx2
  go_enter Tryz.func137,Tryz.ntmps137
  go_wp2
  go_region
  go_wp2
  exact bodyPost_ret (v:=.agg #[.int .i64 t,.int .i64 1,.int .i64 0,.bool (g==0)]) (by simp[results,Tryz.results137,go_sem]) rfl ⟨rfl,(Zak w _ _).drew⟩
 ·have hev:s.ev t ⟨kd,r,x,n⟩=⟨t,1,0,false⟩:=by simp[St.ev,e1,e2,e5,e6,e8]
  rw[hev,Zg0]
  have f1:(kd==1)=false:=by simpa using e1
  have f2:(kd==2)=false:=by simpa using e2
  have f5:(kd==5)=false:=by simpa using e5
  have f6:(kd==6)=false:=by simpa using e6
  have f8:(kd==8)=false:=by simpa using e8
  clear hev h6 h8 e1 e2 e5 e6 e8
  go_enter Tryz.func137,Tryz.ntmps137
  go_wp2
  exact bodyPost_ret (v:=.agg #[.int .i64 t,.int .i64 1,.int .i64 0,.bool false]) (by simp[results,Tryz.results137,go_sem]) rfl ⟨rfl,Zak w _ _⟩
end Go.Proofs.YtjfmmnhcddckaaaGreat
namespace Go.Proofs.YtjfmmnhcddckaaaGreat
def apart(nx:Int->Option Ev)(e:Ev)(u:Nat):Bool:=match nx (u:Int)with
 |none=>false
 |some x=>!dep e x
theorem apart_none{nx:Int->Option Ev}{e:Ev}{u:Nat}(h:nx (u:Int)=none):apart nx e u=false:=by unfold apart;rw[h]
theorem apart_some{nx:Int->Option Ev}{e x:Ev}{u:Nat}(h:nx (u:Int)=some x):apart nx e u=!dep e x:=by unfold apart;rw[h]
theorem child_all{nx:Int->Option Ev}{e:Ev}{asl ear:Nat}{t:Int}(h:nx t=some e)(ha:asl<256)(he:ear<256):
  (bitsL (wl (asl|||ear) t)).filter (apart nx e)=Zet nx asl ear t 8:=by
 unfold bitsL Zet
 rw[List.filter_filter]
 refine List.filter_congr fun u hu=>?_
 have hu8:u<8:=List.mem_range.1 hu
 rw[testBit_wl (ZfG ha he) hu8,Nat.testBit_or]
 unfold apart ZfQ
 rw[h]
 cases h2:nx (u:Int)with
 |none=>simp
 |some x=>
  dsimp only
  rw[Zch e x]
  by_cases e1:t=(u:Int)
  ·simp[e1]
  ·have e2:¬((u:Int)=t):=fun h=>e1 h.symm
   simp[e1,e2]
   cases asl.testBit u <;> cases ear.testBit u <;> cases dep x e <;> rfl
theorem child_none{nx:Int->Option Ev}{asl ear:Nat}{t:Int}(h:nx t=none)(k:Nat):Zet nx asl ear t k=[]:=by
 unfold Zet
 rw[List.filter_eq_nil_iff]
 intro u _
 unfold ZfQ
 rw[h]
 exact Bool.false_ne_true
def ZcP(nx:Int->Option Ev)(asl ear:Nat)(t:Int):Nat:=ofN (ints (Zet nx asl ear t 8))
theorem childN_lt(nx:Int->Option Ev)(asl ear:Nat)(t:Int):ZcP nx asl ear t<256:=Zdp _
theorem Zhk(nx:Int->Option Ev)(asl ear:Nat)(t:Int){i:Nat}(hi:i<8):(ZcP nx asl ear t).testBit i=ZfQ nx asl ear t i:=by
 unfold ZcP
 rw[Zbf _ hi]
 have h:((i:Int)∈ints (Zet nx asl ear t 8))↔ZfQ nx asl ear t i=true:=by
  rw[ZeP]
  unfold Zet
  rw[List.mem_filter,List.mem_range]
  exact⟨fun h=>h.2,fun h=>⟨hi,h⟩⟩
 cases hb:ZfQ nx asl ear t i
 ·rw[decide_eq_false_iff_not,h,hb];exact Bool.false_ne_true
 ·rw[decide_eq_true_eq,h,hb]
theorem mem_has(n:Nat)(x:Int):decide (x∈ints (bitsL n))=hasB n x:=by
 unfold hasB
 by_cases h:0<=x/\x<8
 ·obtain⟨i,rfl⟩:∃i:Nat,x=i:=⟨x.toNat,by omega⟩
  have hi:i<8:=by omega
  simp only[h,and_self,decide_true,Bool.true_and,Int.toNat_natCast]
  cases hb:n.testBit i
  ·rw[decide_eq_false_iff_not,ZeP,ZeK,hb]
   exact fun h=>Bool.false_ne_true h.2
  ·rw[decide_eq_true_eq,ZeP,ZeK,hb]
   exact⟨hi,rfl⟩
 ·simp only[h,decide_false,Bool.false_and,decide_eq_false_iff_not]
  intro hx
  unfold ints at hx
  obtain⟨i,hi,rfl⟩:=List.mem_map.1 hx
  have:=(ZeK.1 hi).1
  omega
def ZbB(all:List Int)(asl:Nat):Bool:=!all.isEmpty&&all.all (hasB asl)
theorem of_zero{l:List Int}(h:∀x∈l,0<=x/\x<8):ofN l=0↔l=[]:=by
 constructor
 ·intro h0
  cases l with
  |nil=>rfl
  |cons x l=>
   obtain⟨i,rfl⟩:∃i:Nat,x=i:=⟨x.toNat,by have:=h x (by simp);omega⟩
   have hi:i<8:=by have:=h (i:Int) (by simp);omega
   have:=Zbf ((i:Int)::l) hi
   rw[h0,Nat.zero_testBit]at this
   simp at this
 ·rintro rfl;rfl
theorem wo_zero{l:List Int}{asl:Nat}(ha:asl<256)(h:∀x∈l,0<=x/\x<8):wo (ofN l) asl=0↔l.all (hasB asl)=true:=by
 rw[List.all_eq_true]
 constructor
 ·intro h0 x hx
  obtain⟨i,rfl⟩:∃i:Nat,x=i:=⟨x.toNat,by have:=h x hx;omega⟩
  have hi:i<8:=by have:=h (i:Int) hx;omega
  rw[Za2 _ hi]
  have h1:=ZaY (i:=i) (Zdp l) ha
  rw[h0,Nat.zero_testBit,Zbf _ hi]at h1
  simpa [hx]using h1
 ·intro h0
  refine set_ext (wo_lt _ _ (Zdp l)) (by omega) fun i hi=>?_
  rw[ZaY (Zdp l) ha,Zbf _ hi,Nat.zero_testBit]
  by_cases hx:(i:Int)∈l
  ·have:=h0 _ hx
   rw[Za2 _ hi]at this
   simp[this]
  ·simp[hx]
theorem Ze2{F:Nat}{s:St}(ok:s.Ok F):∀x∈s.all,0<=x/\x<8:=by
 intro x hx
 have h4:=ok.len4
 unfold St.all at hx
 obtain⟨i,hi,rfl⟩:=List.mem_map.1 (List.mem_filter.1 hx).1
 have:=List.mem_range.1 hi
 simp only[Int.ofNat_eq_natCast]
 omega
theorem Zjh{F:Nat}{s:St}(ok:s.Ok F):s.all.length<=4:=by
 have h4:=ok.len4
 unfold St.all
 refine Nat.le_trans (List.length_filter_le _ _) ?_
 rw[List.length_map,List.length_range]
 exact h4
end Go.Proofs.YtjfmmnhcddckaaaGreat
namespace Go.Proofs.YtjfmmnhcddckaaaGreat
open Go.RowKit


def St.free(s:St)(e:Ev):Bool:=e.kind != 4||s.who e.obj == -1
theorem may_any{s:St}{b:Nat}{w:World}(h:StAt w b s)(e:Ev)(h4:e.kind=4->0<=e.obj/\e.obj<2):
  Calls Tryz.prog 138 #[.pointer (some ⟨b,0,none⟩),evV e] w fun r w'=>r=.returned (.bool (s.free e))/\Below w.heap.size w w':=by
 have hbl:=h.lt
 have H:=Lib.hid h
 clear h
 obtain⟨t,k,o,f⟩:=e
 unfold evV
 dsimp only at *
 by_cases hk:k=4
 ·subst hk
  obtain⟨hx0,hx2⟩:=h4 rfl
  obtain⟨y,rfl⟩:∃y:Nat,o=y:=⟨o.toNat,by omega⟩
  have hy:y<2:=by omega
  have c0:=H.out.num (154+y) (by omega)
  rw[ZeA]at c0
  have hv:s.m.getD y (-1)=s.who y:=rfl
  rw[hv]at c0
  clear hv
  have hfr:s.free ⟨t,4,y,f⟩=(s.who y == -1):=by simp[St.free]
  rw[hfr]
  clear hfr h4 hx0 hx2
  generalize s.who y=g at *
  go_enter Tryz.func138,Tryz.ntmps138
  go_wp2
  go_quiet (fail)
  go_wp2
  go_ret
  exact⟨rfl,(Zaa w _).drewN⟩
 ·have hq:(k != 4)=true:=by simpa using hk
  have hfr:s.free ⟨t,k,o,f⟩=true:=by simp[St.free,hk]
  rw[hfr]
  clear hfr h4 hk
  go_enter Tryz.func138,Tryz.ntmps138
  go_wp2
  go_quiet (fail)
  go_wp2
  go_ret
  exact⟨rfl,(Zaa w _).drewN⟩
theorem Zdl:evR none=.tuple #[.agg #[.int .i64 0,.int .i64 0,.int .i64 0,.bool false],.bool false]:=rfl
theorem Zcg(e:Ev):evR (some e)=.tuple #[.agg #[.int .i64 e.thread,.int .i64 e.kind,.int .i64 e.obj,.bool e.fail],.bool true]:=rfl
theorem St.ins_nat{s:St}{t:Int}{i:Ins}(h:s.ins t=some i):∃k:Nat,t=k/\k<s.ts.length:=by
 have:=(St.ins_has h).1
 unfold St.has at this
 exact⟨t.toNat,by omega,by omega⟩
theorem Zi9{F:Nat}{s:St}{b:Nat}{w:World}(h:StAt w b s)(ok:s.Ok F){t:Nat}{i:Ins}(hi:s.ins t=some i):
  Calls Tryz.prog 137 #[.pointer (some ⟨b,0,none⟩),.int .i64 t,.agg #[.int .i64 i.kind,.int .i64 i.r,.int .i64 i.x,.int .i64 i.n]] w fun r w'=>r=.returned (evV (s.ev t i))/\Below w.heap.size w w':=by
 obtain⟨k,e,hk⟩:=St.ins_nat hi
 obtain⟨o1,o2,o3,o4,o5,o6⟩:=ok.obj hi
 exact event_any h ok t (by omega) i (fun h=>o2 (.inr h)) (fun _=>⟨o4,o5⟩)
theorem Zf4{F:Nat}{s:St}{b:Nat}{w:World}(h:StAt w b s)(ok:s.Ok F)(t:Int):
  Calls Tryz.prog 108 #[.pointer (some ⟨b,0,none⟩),.int .i64 t] w fun r w'=>r=.returned (evR (s.next t))/\Below w.heap.size w w':=by
 have H:=Lib.hid h
 have OK:=Lib.hid ok
 clear h ok
 cases hi:s.ins t with
 |none=>
  have hn:s.next t=none:=by unfold St.next;rw[hi];rfl
  rw[hn,Zdl]
  have HI:=Lib.hid hi
  clear hn hi
  go_enter Tryz.func108,Tryz.ntmps108
  go_wp2_with fail
  refine(ZdK (H.out.later (Zaa _ _)) OK.out t).mono ?_
  rw[HI.out,ZdL]
  rintro r w1⟨rfl,hb1⟩
  have hw1:Below w.heap.size w w1:=(Zaa w _).trans (hb1.mono (by simp))
  have hz:w.heap.size<w1.heap.size:=by have:=hb1.size;simp at this;omega
  have hc:∀o,w1.cell? ⟨w.heap.size,o,none⟩=(w.alloc (.cells #[.int .i64 0,.int .i64 0,.int .i64 0,.bool false] 112)).cell? ⟨w.heap.size,o,none⟩:=fun o=>hb1.cell (p:=⟨w.heap.size,o,none⟩) (by simp)
  have hf:∀o,w1.frozen? ⟨w.heap.size,o,none⟩=(w.alloc (.cells #[.int .i64 0,.int .i64 0,.int .i64 0,.bool false] 112)).frozen? ⟨w.heap.size,o,none⟩:=fun o=>hb1.frozen (p:=⟨w.heap.size,o,none⟩) (by simp)
  clear hb1
  go_wp2
  refine bodyPost_ret (v:=.tuple #[.agg #[.int .i64 0,.int .i64 0,.int .i64 0,.bool false],.bool false]) (by simp[results,Tryz.results108,go_sem,hc,hz]) rfl ⟨rfl,?_⟩
  exact(Zbe hw1 (Nat.le_refl _) _ _ _ _).alloc (by simp[World.setCell];omega) _
 |some i=>
  obtain⟨k,rfl,hk⟩:=St.ins_nat hi
  have hn:s.next k=some (s.ev k i):=by unfold St.next;rw[hi];rfl
  rw[hn,Zcg]
  have HI:=Lib.hid hi
  clear hn hi
  go_enter Tryz.func108,Tryz.ntmps108
  go_wp2_with fail
  refine(ZdK (H.out.later (Zaa _ _)) OK.out k).mono ?_
  rw[HI.out,ZeQ]
  rintro r w1⟨rfl,hb1⟩
  have hw1:Below w.heap.size w w1:=(Zaa w _).trans (hb1.mono (by simp))
  have hz:w.heap.size<w1.heap.size:=by have:=hb1.size;simp at this;omega
  have hc:∀o,w1.cell? ⟨w.heap.size,o,none⟩=(w.alloc (.cells #[.int .i64 0,.int .i64 0,.int .i64 0,.bool false] 112)).cell? ⟨w.heap.size,o,none⟩:=fun o=>hb1.cell (p:=⟨w.heap.size,o,none⟩) (by simp)
  have hf:∀o,w1.frozen? ⟨w.heap.size,o,none⟩=(w.alloc (.cells #[.int .i64 0,.int .i64 0,.int .i64 0,.bool false] 112)).frozen? ⟨w.heap.size,o,none⟩:=fun o=>hb1.frozen (p:=⟨w.heap.size,o,none⟩) (by simp)
  clear hb1
  go_wp2_with fail
  refine(Zi9 ((H.out.later hw1).later (Zaa _ _)) OK.out HI.out).mono ?_
  unfold evV
  rintro r w2⟨rfl,hb2⟩
  have hw2:Below w1.heap.size w1 w2:=(Zaa w1 _).trans (hb2.mono (by simp))
  have hz2:w1.heap.size<w2.heap.size:=by have:=hb2.size;simp at this;omega
  have hz3:w.heap.size<w2.heap.size:=by omega
  have hc2:∀o,w2.cell? ⟨w.heap.size,o,none⟩=w1.cell? ⟨w.heap.size,o,none⟩:=fun o=>hw2.cell (p:=⟨w.heap.size,o,none⟩) hz
  have hf2:∀o,w2.frozen? ⟨w.heap.size,o,none⟩=w1.frozen? ⟨w.heap.size,o,none⟩:=fun o=>hw2.frozen (p:=⟨w.heap.size,o,none⟩) hz
  clear hb2
  go_wp2
  refine bodyPost_ret (v:=.tuple #[.agg #[.int .i64 (s.ev k i).thread,.int .i64 (s.ev k i).kind,.int .i64 (s.ev k i).obj,.bool (s.ev k i).fail],.bool true]) (by simp[results,Tryz.results108,go_sem,hc,hc2]) rfl ⟨rfl,?_⟩
  exact Zbe (hw1.trans (hw2.mono (by omega))) (Nat.le_refl _) _ _ _ _
theorem St.may_eq{F:Nat}{s:St}(ok:s.Ok F)(t:Int):s.may t=match s.next t with|none=>false|some e=>s.free e:=by
 unfold St.may St.next
 cases hi:s.ins t with
 |none=>rfl
 |some i=>
  simp only[Option.map_some]
  obtain⟨o1,o2,o3,o4,o5,o6⟩:=ok.obj hi
  by_cases h5:i.kind=5
  ·have ev:s.ev t i=⟨t,4,i.x,false⟩:=by unfold St.ev;rw[if_neg (by omega),if_neg (by omega),if_pos h5]
   have hx:=o2 (.inl h5)
   have hk:i.x.toNat<s.m.length:=by have:=ok.ml;omega
   have hmm:=ok.mm (s.who i.x) (by unfold St.who;rw[Zav _ hk];exact List.getElem_mem hk)
   rw[ev,Bool.eq_iff_iff]
   simp[St.free,h5]
   omega
  ·have:(s.ev t i).kind≠4:=by
    unfold St.ev
    repeat' split
    all_goals(first|omega|(simp;done))
   simp[St.free,h5,this]
theorem ev_obj{F:Nat}{s:St}(ok:s.Ok F){t:Int}{i:Ins}(hi:s.ins t=some i)(h:(s.ev t i).kind=4):0<=(s.ev t i).obj/\(s.ev t i).obj<2:=by
 obtain⟨o1,o2,o3,o4,o5,o6⟩:=ok.obj hi
 by_cases h5:i.kind=5
 ·have ev:s.ev t i=⟨t,4,i.x,false⟩:=by unfold St.ev;rw[if_neg (by omega),if_neg (by omega),if_pos h5]
  rw[ev]
  exact o2 (.inl h5)
 ·exfalso
  revert h
  unfold St.ev
  repeat' split
  all_goals(first|omega|(simp;done))
theorem next_obj{F:Nat}{s:St}(ok:s.Ok F){t:Int}{e:Ev}(he:s.next t=some e)(h:e.kind=4):0<=e.obj/\e.obj<2:=by
 unfold St.next at he
 obtain⟨i,hi,rfl⟩:=Option.map_eq_some_iff.1 he
 exact ev_obj ok hi h
theorem may_of{F:Nat}{s:St}{b:Nat}{w:World}(h:StAt w b s)(ok:s.Ok F){t:Int}{e:Ev}(he:s.next t=some e):
  Calls Tryz.prog 138 #[.pointer (some ⟨b,0,none⟩),.agg #[.int .i64 e.thread,.int .i64 e.kind,.int .i64 e.obj,.bool e.fail]] w fun r w'=>r=.returned (.bool (s.may t))/\Below w.heap.size w w':=by
 have:=may_any h e (next_obj ok he)
 rw[St.may_eq ok,he]
 exact this
theorem StAt.setReg{w:World}{b:Nat}{s:St}(h:StAt w b s)(t y:Nat)(n:Int)(ht:t<s.ts.length)(h4:s.ts.length<=4)(hy:y<2)(hl:(s.th t).r.length=2):
  StAt (w.setCell ⟨b,2+t*37+35+y,none⟩ (.int .i64 n)) b (s.put t { s.th t with r:=(s.th t).r.set y n }):=by
 rw[Nat.add_assoc]
 exact h.set _ _ n (by omega) (Zgn s t _ (35+y) n ht h4 (by omega) (thrNum_reg _ _ y n hy hl))
theorem StAt.setAt{w:World}{b:Nat}{s:St}(h:StAt w b s)(t n:Nat)(ht:t<s.ts.length)(h4:s.ts.length<=4):
  StAt (w.setCell ⟨b,2+t*37+33,none⟩ (.int .i64 n)) b (s.put t { s.th t with at_:=n }):=
 h.set _ _ n (by omega) (Zgn s t _ 33 n ht h4 (by omega) (thrNum_at _ _ n))
theorem StAt.setFuel{w:World}{b:Nat}{s:St}(h:StAt w b s)(t n:Nat)(ht:t<s.ts.length)(h4:s.ts.length<=4):
  StAt (w.setCell ⟨b,2+t*37+34,none⟩ (.int .i64 n)) b (s.put t { s.th t with fuel:=n }):=
 h.set _ _ n (by omega) (Zgn s t _ 34 n ht h4 (by omega) (Zk8 _ _ n))
theorem StAt.setVar{w:World}{b:Nat}{s:St}(h:StAt w b s)(x:Nat)(n:Int)(hx:x<4)(hl:s.v.length=4):
  StAt (w.setCell ⟨b,150+x,none⟩ (.int .i64 n)) b { s with v:=s.v.set x n }:=h.set _ _ n (by omega) (ZjH s x n hx hl)
theorem StAt.setWho{w:World}{b:Nat}{s:St}(h:StAt w b s)(x:Nat)(n:Int)(hx:x<2)(hl:s.m.length=2):
  StAt (w.setCell ⟨b,154+x,none⟩ (.int .i64 n)) b { s with m:=s.m.set x n }:=h.set _ _ n (by omega) (ZjG s x n hx hl)
theorem Only.drewN{b:Nat}{w w':World}(h:Only b w w'){n:Nat}:Only b w (w'.drewN n):=⟨h.os,h.tape,h.output,h.size,h.block⟩
theorem ZbX(b:Nat)(w:World)(o:Obj):Only b w (w.alloc o):=(Only.refl b w).alloc o
theorem load_any{s:St}{b:Nat}{w:World}(h:StAt w b s)(t:Nat)(ht:t<s.ts.length)(h4:s.ts.length<=4)(kd n:Int)(r x:Nat)(hr:r<2)(hx:x<4)(hl:(s.th t).r.length=2):
  Calls Tryz.prog 196 #[.pointer (some ⟨b,0,none⟩),.int .i64 t,.agg #[.int .i64 kd,.int .i64 r,.int .i64 x,.int .i64 n]] w fun e w'=>e=.returned (.tuple #[])/\StAt w' b (s.put t { s.th t with r:=(s.th t).r.set r (s.v.getD x 0) })/\Only b w w':=by
 have hbl:=h.lt
 have H:=Lib.hid h
 have HB:=Lib.hid (h.later (Zaa w (.cells #[.int .i64 kd,.int .i64 r,.int .i64 x,.int .i64 n] 63)))
 have hfz:=fun o=>HB.out.frozen o
 have hff:=fun o=>h.frozen o
 clear h
 have c1:=H.out.num (150+x) (by omega)
 rw[ZjF _ _ hx]at c1
 generalize hg:s.v.getD x 0=g at *
 clear hg
 have c0:=H.out.num (2+t*37+(35+r)) (by omega)
 rw[Za6 _ _ _ (by omega) (by omega),Ze5,<-Nat.add_assoc]at c0
 go_enter Tryz.func196,Tryz.ntmps196
 go_wp2
 go_region
 go_wp2
 refine bodyPost_end (results_none rfl _ _ _) rfl ⟨rfl,?_,?_⟩
 ·exact((H.out.setReg t r g ht h4 hr hl).later (Zaa _ _)).drew
 ·exact(((Only.refl b w).setCell _ _).alloc _).drew
theorem store_any{s:St}{b:Nat}{w:World}(h:StAt w b s)(t:Nat)(ht:t<s.ts.length)(h4:s.ts.length<=4)(kd n:Int)(r x:Nat)(hr:r<2)(hx:x<4)(hl:s.v.length=4):
  Calls Tryz.prog 197 #[.pointer (some ⟨b,0,none⟩),.int .i64 t,.agg #[.int .i64 kd,.int .i64 r,.int .i64 x,.int .i64 n]] w fun e w'=>e=.returned (.tuple #[])/\StAt w' b ({ s with v:=s.v.set x ((s.th t).r.getD r 0) })/\Only b w w':=by
 have hbl:=h.lt
 have H:=Lib.hid h
 have HB:=Lib.hid (h.later (Zaa w (.cells #[.int .i64 kd,.int .i64 r,.int .i64 x,.int .i64 n] 63)))
 have hfz:=fun o=>HB.out.frozen o
 have hff:=fun o=>h.frozen o
 clear h
 have c1:=H.out.num (150+x) (by omega)
 have c0:=H.out.num (2+t*37+(35+r)) (by omega)
 rw[Za6 _ _ _ (by omega) (by omega),Ze5,<-Nat.add_assoc]at c0
 generalize hg:(s.th t).r.getD r 0=g at *
 clear hg
 go_enter Tryz.func197,Tryz.ntmps197
 go_wp2
 go_region
 go_wp2
 refine bodyPost_end (results_none rfl _ _ _) rfl ⟨rfl,?_,?_⟩
 ·exact((H.out.setVar x g hx hl).later (Zaa _ _)).drew
 ·exact(((Only.refl b w).setCell _ _).alloc _).drew
theorem set_any{s:St}{b:Nat}{w:World}(h:StAt w b s)(t:Nat)(ht:t<s.ts.length)(h4:s.ts.length<=4)(kd n:Int)(r x:Nat)(hr:r<2)(hl:(s.th t).r.length=2):
  Calls Tryz.prog 198 #[.pointer (some ⟨b,0,none⟩),.int .i64 t,.agg #[.int .i64 kd,.int .i64 r,.int .i64 x,.int .i64 n]] w fun e w'=>e=.returned (.tuple #[])/\StAt w' b (s.put t { s.th t with r:=(s.th t).r.set r n })/\Only b w w':=by
 have hbl:=h.lt
 have H:=Lib.hid h
 have HB:=Lib.hid (h.later (Zaa w (.cells #[.int .i64 kd,.int .i64 r,.int .i64 x,.int .i64 n] 63)))
 have hfz:=fun o=>HB.out.frozen o
 have hff:=fun o=>h.frozen o
 clear h
 have c0:=H.out.num (2+t*37+(35+r)) (by omega)
 rw[Za6 _ _ _ (by omega) (by omega),Ze5,<-Nat.add_assoc]at c0
 go_enter Tryz.func198,Tryz.ntmps198
 go_wp2
 go_region
 go_wp2
 refine bodyPost_end (results_none rfl _ _ _) rfl ⟨rfl,?_,?_⟩
 ·exact((H.out.setReg t r n ht h4 hr hl).later (Zaa _ _)).drew
 ·exact(((Only.refl b w).setCell _ _).alloc _).drew
theorem add_any{s:St}{b:Nat}{w:World}(h:StAt w b s)(t:Nat)(ht:t<s.ts.length)(h4:s.ts.length<=4)(kd n:Int)(r x:Nat)(hr:r<2)(hl:(s.th t).r.length=2):
  Calls Tryz.prog 199 #[.pointer (some ⟨b,0,none⟩),.int .i64 t,.agg #[.int .i64 kd,.int .i64 r,.int .i64 x,.int .i64 n]] w fun e w'=>e=.returned (.tuple #[])/\StAt w' b (s.put t { s.th t with r:=(s.th t).r.set r (IntKind.i64.wrap ((s.th t).r.getD r 0+n)) })/\Only b w w':=by
 have hbl:=h.lt
 have H:=Lib.hid h
 have HB:=Lib.hid (h.later (Zaa w (.cells #[.int .i64 kd,.int .i64 r,.int .i64 x,.int .i64 n] 63)))
 have hfz:=fun o=>HB.out.frozen o
 have hff:=fun o=>h.frozen o
 clear h
 have c0:=H.out.num (2+t*37+(35+r)) (by omega)
 rw[Za6 _ _ _ (by omega) (by omega),Ze5,<-Nat.add_assoc]at c0
 generalize hg:(s.th t).r.getD r 0=g at *
 clear hg
 go_enter Tryz.func199,Tryz.ntmps199
 go_wp2
 go_region
 go_wp2
 have e:wrap64 (g+n)=IntKind.i64.wrap (g+n):=by rw[IntKind.wrap_i64];unfold wrap64;first|rfl|omega
 rw[e]
 refine bodyPost_end (results_none rfl _ _ _) rfl ⟨rfl,?_,?_⟩
 ·exact((H.out.setReg t r (IntKind.i64.wrap (g+n)) ht h4 hr hl).later (Zaa _ _)).drew
 ·exact(((Only.refl b w).setCell _ _).alloc _).drew
theorem lock_any{s:St}{b:Nat}{w:World}(h:StAt w b s)(t:Nat)(_ht:t<s.ts.length)(_h4:s.ts.length<=4)(kd n:Int)(r x:Nat)(hx:x<2)(hl:s.m.length=2):
  Calls Tryz.prog 200 #[.pointer (some ⟨b,0,none⟩),.int .i64 t,.agg #[.int .i64 kd,.int .i64 r,.int .i64 x,.int .i64 n]] w fun e w'=>e=.returned (.tuple #[])/\StAt w' b ({ s with m:=s.m.set x t })/\Only b w w':=by
 have hbl:=h.lt
 have H:=Lib.hid h
 have HB:=Lib.hid (h.later (Zaa w (.cells #[.int .i64 kd,.int .i64 r,.int .i64 x,.int .i64 n] 63)))
 have hfz:=fun o=>HB.out.frozen o
 have hff:=fun o=>h.frozen o
 clear h
 have c1:=H.out.num (154+x) (by omega)
 go_enter Tryz.func200,Tryz.ntmps200
 go_wp2
 go_region
 go_wp2
 refine bodyPost_end (results_none rfl _ _ _) rfl ⟨rfl,?_,?_⟩
 ·exact((H.out.setWho x t hx hl).later (Zaa _ _)).drew
 ·exact(((Only.refl b w).setCell _ _).alloc _).drew
theorem unlock_any{s:St}{b:Nat}{w:World}(h:StAt w b s)(t:Nat)(_ht:t<s.ts.length)(_h4:s.ts.length<=4)(kd n:Int)(r x:Nat)(hx:x<2)(hl:s.m.length=2):
  Calls Tryz.prog 201 #[.pointer (some ⟨b,0,none⟩),.int .i64 t,.agg #[.int .i64 kd,.int .i64 r,.int .i64 x,.int .i64 n]] w fun e w'=>e=.returned (.tuple #[])/\StAt w' b (if s.who x=t then { s with m:=s.m.set x (-1) }else s)/\Only b w w':=by
 have hbl:=h.lt
 have H:=Lib.hid h
 have HB:=Lib.hid (h.later (Zaa w (.cells #[.int .i64 kd,.int .i64 r,.int .i64 x,.int .i64 n] 63)))
 have hfz:=fun o=>HB.out.frozen o
 have hff:=fun o=>h.frozen o
 clear h
 have c1:=H.out.num (154+x) (by omega)
 rw[ZeA]at c1
 have hv:s.m.getD x (-1)=s.who x:=rfl
 rw[hv]at c1
 clear hv
 by_cases hw:s.who x=t
 ·rw[if_pos hw]
  rw[hw]at c1
  clear hw
  go_enter Tryz.func201,Tryz.ntmps201
  go_wp2
  go_quiet (fail)
  go_wp2
  go_region
  go_wp2
  refine bodyPost_end (results_none rfl _ _ _) rfl ⟨rfl,?_,?_⟩
  ·exact StAt.setWho (w:=((w.alloc _).drewN _).drew) HB.out x (-1) hx hl
  ·exact((ZbX b w _).drewN.drew).setCell _ _
 ·rw[if_neg hw]
  have hq:(s.who x==(t:Int))=false:=by simpa using hw
  clear hw
  go_enter Tryz.func201,Tryz.ntmps201
  go_wp2
  go_quiet (fail)
  go_wp2
  refine bodyPost_end (results_none rfl _ _ _) rfl ⟨rfl,?_,?_⟩
  ·exact HB.out
  ·exact(ZbX b w _).drewN
theorem jump_any{s:St}{b:Nat}{w:World}(h:StAt w b s)(t:Nat)(ht:t<s.ts.length)(h4:s.ts.length<=4)(kd n:Int)(r x:Nat)(hr:r<2):
  Calls Tryz.prog 202 #[.pointer (some ⟨b,0,none⟩),.int .i64 t,.agg #[.int .i64 kd,.int .i64 r,.int .i64 x,.int .i64 n]] w fun e w'=>e=.returned (.tuple #[])/\StAt w' b (if (s.th t).r.getD r 0=0 then s else s.put t { s.th t with at_:=x })/\Only b w w':=by
 have hbl:=h.lt
 have H:=Lib.hid h
 have HB:=Lib.hid (h.later (Zaa w (.cells #[.int .i64 kd,.int .i64 r,.int .i64 x,.int .i64 n] 63)))
 have hfz:=fun o=>HB.out.frozen o
 have hff:=fun o=>h.frozen o
 clear h
 have c0:=H.out.num (2+t*37+(35+r)) (by omega)
 rw[Za6 _ _ _ (by omega) (by omega),Ze5,<-Nat.add_assoc]at c0
 have c1:=H.out.num (2+t*37+33) (by omega)
 by_cases hw:(s.th t).r.getD r 0=0
 ·rw[if_pos hw]
  rw[hw]at c0
  clear hw
  go_enter Tryz.func202,Tryz.ntmps202
  go_wp2
  go_quiet (fail)
  go_wp2
  refine bodyPost_end (results_none rfl _ _ _) rfl ⟨rfl,?_,?_⟩
  ·exact HB.out
  ·exact(ZbX b w _).drewN
 ·rw[if_neg hw]
  have hq:((s.th t).r.getD r 0 != 0)=true:=by simpa using hw
  generalize (s.th t).r.getD r 0=g at *
  clear hw
  go_enter Tryz.func202,Tryz.ntmps202
  go_wp2
  go_quiet (fail)
  go_wp2
  refine bodyPost_end (results_none rfl _ _ _) rfl ⟨rfl,?_,?_⟩
  ·exact StAt.setAt (w:=(w.alloc _).drewN _) HB.out t x ht h4
  ·exact(ZbX b w _).drewN.setCell _ _
theorem assert_any{s:St}{b:Nat}{w:World}(h:StAt w b s)(t:Nat)(_ht:t<s.ts.length)(_h4:s.ts.length<=4)(kd n:Int)(r x:Int):
  Calls Tryz.prog 203 #[.pointer (some ⟨b,0,none⟩),.int .i64 t,.agg #[.int .i64 kd,.int .i64 r,.int .i64 x,.int .i64 n]] w fun e w'=>e=.returned (.tuple #[])/\StAt w' b (s)/\Only b w w':=by
 have hbl:=h.lt
 have H:=Lib.hid h
 have HB:=Lib.hid (h.later (Zaa w (.cells #[.int .i64 kd,.int .i64 r,.int .i64 x,.int .i64 n] 63)))
 have hfz:=fun o=>HB.out.frozen o
 have hff:=fun o=>h.frozen o
 clear h
 go_enter Tryz.func203,Tryz.ntmps203
 go_wp2
 refine bodyPost_end (results_none rfl _ _ _) rfl ⟨rfl,?_,?_⟩
 ·exact HB.out
 ·exact ZbX b w _
theorem Zb9(w:World):Calls Tryz.prog 175 #[] w fun r w'=>r=.returned (.agg #[.nilFunc,.func (.func 196) #[] #[],.func (.func 197) #[] #[],.func (.func 198) #[] #[],.func (.func 199) #[] #[],.func (.func 200) #[] #[],.func (.func 201) #[] #[],.func (.func 202) #[] #[],.func (.func 203) #[] #[]])/\Below w.heap.size w w':=by
 go_enter Tryz.func175,Tryz.ntmps175
 go_wp2
 refine bodyPost_ret (v:=.agg #[.nilFunc,.func (.func 196) #[] #[],.func (.func 197) #[] #[],.func (.func 198) #[] #[],.func (.func 199) #[] #[],.func (.func 200) #[] #[],.func (.func 201) #[] #[],.func (.func 202) #[] #[],.func (.func 203) #[] #[]]) ?_ rfl ⟨rfl,Zaa w _⟩
 simp[results,Tryz.results175,go_sem]
theorem Only.setNew{b g:Nat}{w w1:World}(h:Only b w w1)(hg:w.heap.size<=g)(o:Nat)(v:Value):Only b w (w1.setCell ⟨g,o,none⟩ v):=
 ⟨h.os,h.tape,h.output,by simp[World.setCell];exact h.size,fun k hk hb=>(Below.heap_setCell _ _ _ _ (by show k≠g;omega)).trans (h.block k hk hb)⟩
theorem Only.set4{b g:Nat}{w w1:World}(h:Only b w w1)(hg:w.heap.size<=g)(v0 v1 v2 v3:Value):Only b w ((((w1.setCell ⟨g,0,none⟩ v0).setCell ⟨g,1,none⟩ v1).setCell ⟨g,2,none⟩ v2).setCell ⟨g,3,none⟩ v3):=
 (((h.setNew hg 0 v0).setNew hg 1 v1).setNew hg 2 v2).setNew hg 3 v3
theorem StAt.other{b g:Nat}{w:World}{s:St}(h:StAt w b s)(hg:b≠g)(o:Nat)(v:Value):StAt (w.setCell ⟨g,o,none⟩ v) b s:=(Below.heap_setCell _ _ _ _ hg).trans h
theorem StAt.other4{b g:Nat}{w:World}{s:St}(h:StAt w b s)(hg:b≠g)(v0 v1 v2 v3:Value):StAt ((((w.setCell ⟨g,0,none⟩ v0).setCell ⟨g,1,none⟩ v1).setCell ⟨g,2,none⟩ v2).setCell ⟨g,3,none⟩ v3) b s:=
 (((h.other hg 0 v0).other hg 1 v1).other hg 2 v2).other hg 3 v3
theorem St.put_th(s:St)(t:Nat)(y:Thr)(ht:t<s.ts.length):(s.put t y).th t=y:=by
 unfold St.put St.th
 simp only[Int.toNat_natCast]
 rw[ZaS _ _ _ _ _ ht,if_pos rfl]
theorem St.put_put(s:St)(t:Nat)(y z:Thr):(s.put t y).put t z=s.put t z:=by
 simp[St.put]
theorem St.put_len(s:St)(t:Nat)(y:Thr):(s.put t y).ts.length=s.ts.length:=by
 simp[St.put]
def St.go(s:St)(t:Nat):St:=s.put t { s.th t with fuel:=(s.th t).fuel-1,at_:=(s.th t).at_+1 }
theorem St.go_th(s:St)(t:Nat)(ht:t<s.ts.length):(s.go t).th t={ s.th t with fuel:=(s.th t).fuel-1,at_:=(s.th t).at_+1 }:=St.put_th _ _ _ ht
theorem StAt.go{w:World}{b:Nat}{s:St}(h:StAt w b s)(t f a:Nat)(ht:t<s.ts.length)(h4:s.ts.length<=4)(hf:(s.th t).fuel=f+1)(ha:(s.th t).at_=a):
  StAt ((w.setCell ⟨b,2+t*37+34,none⟩ (.int .i64 f)).setCell ⟨b,2+t*37+33,none⟩ (.int .i64 ((a+1:Nat):Int))) b (s.go t):=by
 have h1:=h.setFuel t f ht h4
 have h2:=h1.setAt t (a+1) (by rw[St.put_len];exact ht) (by rw[St.put_len];exact h4)
 rw[St.put_th _ _ _ ht,St.put_put]at h2
 unfold St.go
 rw[hf,ha]
 exact h2
theorem Zfw(s:St)(t:Nat)(i:Ins)(_ht:t<s.ts.length):s.do_ t i={ s.put t (s.thr t i)with
  v:=if i.kind=2 then s.v.set i.x.toNat (s.reg t i)else s.v
  m:=if i.kind=5 then s.m.set i.x.toNat t else if i.kind=6/\s.who i.x=t then s.m.set i.x.toNat (-1)else s.m }:=rfl
theorem go_load(s:St)(t r x:Nat)(n:Int)(ht:t<s.ts.length):(s.go t).put t { (s.go t).th t with r:=((s.go t).th t).r.set r ((s.go t).v.getD x 0) }=s.do_ t ⟨1,r,x,n⟩:=by
 rw[St.go_th s t ht];unfold St.go;rw[St.put_put,Zfw s t _ ht];rfl
theorem go_store(s:St)(t r x:Nat)(n:Int)(ht:t<s.ts.length):{ s.go t with v:=(s.go t).v.set x (((s.go t).th t).r.getD r 0) }=s.do_ t ⟨2,r,x,n⟩:=by
 rw[St.go_th s t ht,Zfw s t _ ht];rfl
theorem go_set(s:St)(t r x:Nat)(n:Int)(ht:t<s.ts.length):(s.go t).put t { (s.go t).th t with r:=((s.go t).th t).r.set r n }=s.do_ t ⟨3,r,x,n⟩:=by
 rw[St.go_th s t ht];unfold St.go;rw[St.put_put,Zfw s t _ ht];rfl
theorem go_add(s:St)(t r x:Nat)(n:Int)(ht:t<s.ts.length):(s.go t).put t { (s.go t).th t with r:=((s.go t).th t).r.set r (IntKind.i64.wrap (((s.go t).th t).r.getD r 0+n)) }=s.do_ t ⟨4,r,x,n⟩:=by
 rw[St.go_th s t ht];unfold St.go;rw[St.put_put,Zfw s t _ ht];rfl
theorem go_lock(s:St)(t r x:Nat)(n:Int)(ht:t<s.ts.length):{ s.go t with m:=(s.go t).m.set x t }=s.do_ t ⟨5,r,x,n⟩:=by
 rw[Zfw s t _ ht];rfl
theorem ZgU(s:St)(t r x:Nat)(n:Int)(ht:t<s.ts.length):(if (s.go t).who x=t then { s.go t with m:=(s.go t).m.set x (-1) }else s.go t)=s.do_ t ⟨6,r,x,n⟩:=by
 have e:(s.go t).who x=s.who x:=rfl
 rw[Zfw s t _ ht,e]
 dsimp only
 by_cases h:s.who x=t
 ·rw[if_pos h];simp only[h,and_self,if_true,Int.toNat_natCast];rfl
 ·rw[if_neg h];simp only[h,and_false,if_false];rfl
theorem ZlV(s:St)(t r x:Nat)(n:Int)(ht:t<s.ts.length):(if ((s.go t).th t).r.getD r 0=0 then s.go t else (s.go t).put t { (s.go t).th t with at_:=x })=s.do_ t ⟨7,r,x,n⟩:=by
 rw[St.go_th s t ht,Zfw s t _ ht]
 unfold St.go
 rw[St.put_put]
 by_cases h:(s.th t).r.getD r 0=0
 ·have h':s.reg t ⟨7,r,x,n⟩=0:=h
  dsimp only
  rw[if_pos h]
  unfold St.thr
  simp only[h',ne_eq,not_true,and_false,if_false]
  rfl
 ·have h':¬s.reg t ⟨7,r,x,n⟩=0:=h
  dsimp only
  rw[if_neg h]
  unfold St.thr
  simp only[h',ne_eq,not_false_eq_true,and_self,if_true,Int.toNat_natCast]
  rfl
theorem ZkG(s:St)(t r x:Nat)(n:Int)(ht:t<s.ts.length):s.go t=s.do_ t ⟨8,r,x,n⟩:=by
 rw[Zfw s t _ ht];rfl
theorem do_any{F:Nat}{s:St}{b:Nat}{w:World}(h:StAt w b s)(ok:s.Ok F)(t:Nat)(i:Ins)(hi:s.ins t=some i):
  Calls Tryz.prog 139 #[.pointer (some ⟨b,0,none⟩),.int .i64 t,.agg #[.int .i64 i.kind,.int .i64 i.r,.int .i64 i.x,.int .i64 i.n]] w fun e w'=>e=.returned (.tuple #[])/\StAt w' b (s.do_ t i)/\Only b w w':=by
 obtain⟨o1,o2,o3,o4,o5,o6⟩:=ok.obj hi
 obtain⟨_,hf,_⟩:=St.ins_has hi
 have hk:i.kind=1∨i.kind=2∨i.kind=3∨i.kind=4∨i.kind=5∨i.kind=6∨i.kind=7∨i.kind=8:=by
  have:=(ok.ins_right hi).1
  unfold ZaN at this
  repeat' split at this
  all_goals first|omega|(cases this)
 have hx0:0<=i.x:=by
  have:=(ok.ins_right hi).1
  unfold ZaN at this
  repeat' split at this
  all_goals first|(simp only[decide_eq_true_eq]at this;omega)|(cases this)
 obtain⟨k,hkk,ht⟩:=St.ins_nat hi
 obtain rfl:t=k:=by omega
 have h4:=ok.len4
 have hbl:=h.lt
 have hrl:(s.th t).r.length=2:=(ok.thr _ (St.th_mem ht)).1
 have hvl:=ok.vl
 have hml:=ok.ml
 obtain⟨kd,r,x,n⟩:=i
 dsimp only at *
 obtain⟨r,rfl⟩:∃y:Nat,r=y:=⟨r.toNat,by omega⟩
 obtain⟨x,rfl⟩:∃y:Nat,x=y:=⟨x.toNat,by omega⟩
 obtain⟨f,hf⟩:∃f,(s.th t).fuel=f+1:=⟨(s.th t).fuel-1,by simp at hf;omega⟩
 have c0:=h.num (2+t*37+34) (by omega)
 rw[Za6 _ _ _ (by omega) (by omega),Zmk,hf,Int.natCast_add]at c0
 have c1:=h.num (2+t*37+33) (by omega)
 rw[Za6 _ _ _ (by omega) (by omega),thr_at]at c1
 have hf8:f<=1000:=by have:=(ok.thr _ (St.th_mem ht)).2.2;have:=ok.f8;omega
 have ha8:(s.th t).at_<=8:=by have:=ok.place t ht;have:=ok.code8 t ht;omega
 have HG:=Lib.hid (h.go t f (s.th t).at_ ht h4 hf rfl)
 have hff:=fun o=>h.frozen o
 generalize (s.th t).at_=a at *
 have H:=Lib.hid h
 have OK:=Lib.hid ok
 have HK:=Lib.hid hk
 have HT:=Lib.hid (And.intro hrl (And.intro hvl (And.intro hml (And.intro o1 (And.intro o2 o3)))))
 clear h ok hk hf hi hkk hrl hvl hml o1 o2 o3 o6
 go_enter Tryz.func139,Tryz.ntmps139
 go_wp2
 have HW:Hid (StAt (((w.setCell ⟨b,2+t*37+34,none⟩ (.int .i64 f)).setCell ⟨b,2+t*37+33,none⟩ (.int .i64 (a+1))).alloc (.cells #[.int .i64 kd,.int .i64 r,.int .i64 x,.int .i64 n] 63)) b (s.go t)):=HG.out.later (Zaa _ _)
 have HO:Hid (Only b w (((w.setCell ⟨b,2+t*37+34,none⟩ (.int .i64 f)).setCell ⟨b,2+t*37+33,none⟩ (.int .i64 (a+1))).alloc (.cells #[.int .i64 kd,.int .i64 r,.int .i64 x,.int .i64 n] 63))):=(((Only.refl b w).setCell _ _).setCell _ _).alloc _
 have HZ:Hid (w.heap.size<(((w.setCell ⟨b,2+t*37+34,none⟩ (.int .i64 f)).setCell ⟨b,2+t*37+33,none⟩ (.int .i64 (a+1))).alloc (.cells #[.int .i64 kd,.int .i64 r,.int .i64 x,.int .i64 n] 63)).heap.size):=by show _<_;simp[World.setCell]
 have HC:Hid ((((w.setCell ⟨b,2+t*37+34,none⟩ (.int .i64 f)).setCell ⟨b,2+t*37+33,none⟩ (.int .i64 (a+1))).alloc (.cells #[.int .i64 kd,.int .i64 r,.int .i64 x,.int .i64 n] 63)).heap[w.heap.size]?=some (.cells #[.int .i64 kd,.int .i64 r,.int .i64 x,.int .i64 n] 63 (0,0))):=by
  show _=_
  have:=heap_alloc_new ((w.setCell ⟨b,2+t*37+34,none⟩ (.int .i64 f)).setCell ⟨b,2+t*37+33,none⟩ (.int .i64 (a+1))) (.cells #[.int .i64 kd,.int .i64 r,.int .i64 x,.int .i64 n] 63)
  simpa [World.setCell]using this
 clear c0 c1 hff HG H
 generalize ((w.setCell ⟨b,2+t*37+34,none⟩ (.int .i64 f)).setCell ⟨b,2+t*37+33,none⟩ (.int .i64 (a+1))).alloc (.cells #[.int .i64 kd,.int .i64 r,.int .i64 x,.int .i64 n] 63)=W at *
 generalize w.heap.size=gw at *
 have hz:=HZ.out
 have HQ:Hid (∀w',Below W.heap.size W w'->w'.cell? ⟨gw,0,none⟩=some (.int .i64 kd)/\Below W.heap.size W w'):=fun w' h=>⟨by rw[h.cell (p:=⟨gw,0,none⟩) hz];simp[World.cell?,HC.out],h⟩
 have HQ2:Hid (∀w',Below W.heap.size W w'->w'.cell? ⟨gw,0,none⟩=some (.int .i64 kd)/\w'.cell? ⟨gw,1,none⟩=some (.int .i64 r)/\w'.cell? ⟨gw,2,none⟩=some (.int .i64 x)/\w'.cell? ⟨gw,3,none⟩=some (.int .i64 n)):=fun w' h=>by
  refine⟨?_,?_,?_,?_⟩
  ·rw[h.cell (p:=⟨gw,0,none⟩) hz];simp[World.cell?,HC.out]
  ·rw[h.cell (p:=⟨gw,1,none⟩) hz];simp[World.cell?,HC.out]
  ·rw[h.cell (p:=⟨gw,2,none⟩) hz];simp[World.cell?,HC.out]
  ·rw[h.cell (p:=⟨gw,3,none⟩) hz];simp[World.cell?,HC.out]
 have hB9:Below W.heap.size W W.drew:=(Below.refl _ _).drew
 clear HZ HC
 rcases HK.out with rfl|rfl|rfl|rfl|rfl|rfl|rfl|rfl
 ·have hix:∀w',(Instr.index 264 (.agg #[.nilFunc,.func (.func 196) #[] #[],.func (.func 197) #[] #[],.func (.func 198) #[] #[],.func (.func 199) #[] #[],.func (.func 200) #[] #[],.func (.func 201) #[] #[],.func (.func 202) #[] #[],.func (.func 203) #[] #[]]) (.int .i64 1)).run Tryz.prog w'=.ok (.func (.func 196) #[] #[]) w':=fun w'=>ZaD w' 1 Tryz.underlying264 Tryz.underlying263 rfl (by kernel_rfl) (by omega) rfl
  go_region_held3 (fun w'=>w'.cell? ⟨gw,0,none⟩=some (.int .i64 1)/\Below W.heap.size W w') (first|exact HQ.out _ hB9|exact HQ.out _ hB10)
   (first|(go_at_call 175;refine(Zb9 _).mono ?_;rintro r1 w10⟨rfl,hb10⟩;have hB10:=hB9.trans (hb10.mono hB9.size)))
  obtain⟨q0,q1,q2,q3⟩:=HQ2.out _ hB10
  go_wp2_with fail
  obtain⟨hrl,hvl,hml,o1,o2,o3⟩:=HT.out
  refine(load_any (HW.out.later hB10) t (by rw[St.go,St.put_len];exact ht) (by rw[St.go,St.put_len];exact h4) _ _ r x (by omega) (by have:=o1 (by simp);omega) (by rw[St.go_th _ _ ht];exact hrl)).mono ?_
  rintro r1 w11⟨rfl,hs,ho⟩
  clear hrl hvl hml o1 o2 o3
  rw[go_load s t r x n ht]at hs
  go_wp2
  exact bodyPost_end (results_none rfl _ _ _) rfl ⟨rfl,hs,(HO.out.trans (.of_below hB10)).trans ho⟩
 ·have hix:∀w',(Instr.index 264 (.agg #[.nilFunc,.func (.func 196) #[] #[],.func (.func 197) #[] #[],.func (.func 198) #[] #[],.func (.func 199) #[] #[],.func (.func 200) #[] #[],.func (.func 201) #[] #[],.func (.func 202) #[] #[],.func (.func 203) #[] #[]]) (.int .i64 2)).run Tryz.prog w'=.ok (.func (.func 197) #[] #[]) w':=fun w'=>ZaD w' 2 Tryz.underlying264 Tryz.underlying263 rfl (by kernel_rfl) (by omega) rfl
  go_region_held3 (fun w'=>w'.cell? ⟨gw,0,none⟩=some (.int .i64 2)/\Below W.heap.size W w') (first|exact HQ.out _ hB9|exact HQ.out _ hB10)
   (first|(go_at_call 175;refine(Zb9 _).mono ?_;rintro r1 w10⟨rfl,hb10⟩;have hB10:=hB9.trans (hb10.mono hB9.size)))
  obtain⟨q0,q1,q2,q3⟩:=HQ2.out _ hB10
  go_wp2_with fail
  obtain⟨hrl,hvl,hml,o1,o2,o3⟩:=HT.out
  refine(store_any (HW.out.later hB10) t (by rw[St.go,St.put_len];exact ht) (by rw[St.go,St.put_len];exact h4) _ _ r x (by omega) (by have:=o1 (by simp);omega) hvl).mono ?_
  rintro r1 w11⟨rfl,hs,ho⟩
  clear hrl hvl hml o1 o2 o3
  rw[go_store s t r x n ht]at hs
  go_wp2
  exact bodyPost_end (results_none rfl _ _ _) rfl ⟨rfl,hs,(HO.out.trans (.of_below hB10)).trans ho⟩
 ·have hix:∀w',(Instr.index 264 (.agg #[.nilFunc,.func (.func 196) #[] #[],.func (.func 197) #[] #[],.func (.func 198) #[] #[],.func (.func 199) #[] #[],.func (.func 200) #[] #[],.func (.func 201) #[] #[],.func (.func 202) #[] #[],.func (.func 203) #[] #[]]) (.int .i64 3)).run Tryz.prog w'=.ok (.func (.func 198) #[] #[]) w':=fun w'=>ZaD w' 3 Tryz.underlying264 Tryz.underlying263 rfl (by kernel_rfl) (by omega) rfl
  go_region_held3 (fun w'=>w'.cell? ⟨gw,0,none⟩=some (.int .i64 3)/\Below W.heap.size W w') (first|exact HQ.out _ hB9|exact HQ.out _ hB10)
   (first|(go_at_call 175;refine(Zb9 _).mono ?_;rintro r1 w10⟨rfl,hb10⟩;have hB10:=hB9.trans (hb10.mono hB9.size)))
  obtain⟨q0,q1,q2,q3⟩:=HQ2.out _ hB10
  go_wp2_with fail
  obtain⟨hrl,hvl,hml,o1,o2,o3⟩:=HT.out
  refine(set_any (HW.out.later hB10) t (by rw[St.go,St.put_len];exact ht) (by rw[St.go,St.put_len];exact h4) _ _ r x (by omega) (by rw[St.go_th _ _ ht];exact hrl)).mono ?_
  rintro r1 w11⟨rfl,hs,ho⟩
  clear hrl hvl hml o1 o2 o3
  rw[go_set s t r x n ht]at hs
  go_wp2
  exact bodyPost_end (results_none rfl _ _ _) rfl ⟨rfl,hs,(HO.out.trans (.of_below hB10)).trans ho⟩
 ·have hix:∀w',(Instr.index 264 (.agg #[.nilFunc,.func (.func 196) #[] #[],.func (.func 197) #[] #[],.func (.func 198) #[] #[],.func (.func 199) #[] #[],.func (.func 200) #[] #[],.func (.func 201) #[] #[],.func (.func 202) #[] #[],.func (.func 203) #[] #[]]) (.int .i64 4)).run Tryz.prog w'=.ok (.func (.func 199) #[] #[]) w':=fun w'=>ZaD w' 4 Tryz.underlying264 Tryz.underlying263 rfl (by kernel_rfl) (by omega) rfl
  go_region_held3 (fun w'=>w'.cell? ⟨gw,0,none⟩=some (.int .i64 4)/\Below W.heap.size W w') (first|exact HQ.out _ hB9|exact HQ.out _ hB10)
   (first|(go_at_call 175;refine(Zb9 _).mono ?_;rintro r1 w10⟨rfl,hb10⟩;have hB10:=hB9.trans (hb10.mono hB9.size)))
  obtain⟨q0,q1,q2,q3⟩:=HQ2.out _ hB10
  go_wp2_with fail
  obtain⟨hrl,hvl,hml,o1,o2,o3⟩:=HT.out
  refine(add_any (HW.out.later hB10) t (by rw[St.go,St.put_len];exact ht) (by rw[St.go,St.put_len];exact h4) _ _ r x (by omega) (by rw[St.go_th _ _ ht];exact hrl)).mono ?_
  rintro r1 w11⟨rfl,hs,ho⟩
  clear hrl hvl hml o1 o2 o3
  rw[go_add s t r x n ht]at hs
  go_wp2
  exact bodyPost_end (results_none rfl _ _ _) rfl ⟨rfl,hs,(HO.out.trans (.of_below hB10)).trans ho⟩
 ·have hix:∀w',(Instr.index 264 (.agg #[.nilFunc,.func (.func 196) #[] #[],.func (.func 197) #[] #[],.func (.func 198) #[] #[],.func (.func 199) #[] #[],.func (.func 200) #[] #[],.func (.func 201) #[] #[],.func (.func 202) #[] #[],.func (.func 203) #[] #[]]) (.int .i64 5)).run Tryz.prog w'=.ok (.func (.func 200) #[] #[]) w':=fun w'=>ZaD w' 5 Tryz.underlying264 Tryz.underlying263 rfl (by kernel_rfl) (by omega) rfl
  go_region_held3 (fun w'=>w'.cell? ⟨gw,0,none⟩=some (.int .i64 5)/\Below W.heap.size W w') (first|exact HQ.out _ hB9|exact HQ.out _ hB10)
   (first|(go_at_call 175;refine(Zb9 _).mono ?_;rintro r1 w10⟨rfl,hb10⟩;have hB10:=hB9.trans (hb10.mono hB9.size)))
  obtain⟨q0,q1,q2,q3⟩:=HQ2.out _ hB10
  go_wp2_with fail
  obtain⟨hrl,hvl,hml,o1,o2,o3⟩:=HT.out
  refine(lock_any (HW.out.later hB10) t (by rw[St.go,St.put_len];exact ht) (by rw[St.go,St.put_len];exact h4) _ _ r x (by have:=o2 (by simp);omega) hml).mono ?_
  rintro r1 w11⟨rfl,hs,ho⟩
  clear hrl hvl hml o1 o2 o3
  rw[go_lock s t r x n ht]at hs
  go_wp2
  exact bodyPost_end (results_none rfl _ _ _) rfl ⟨rfl,hs,(HO.out.trans (.of_below hB10)).trans ho⟩
 ·have hix:∀w',(Instr.index 264 (.agg #[.nilFunc,.func (.func 196) #[] #[],.func (.func 197) #[] #[],.func (.func 198) #[] #[],.func (.func 199) #[] #[],.func (.func 200) #[] #[],.func (.func 201) #[] #[],.func (.func 202) #[] #[],.func (.func 203) #[] #[]]) (.int .i64 6)).run Tryz.prog w'=.ok (.func (.func 201) #[] #[]) w':=fun w'=>ZaD w' 6 Tryz.underlying264 Tryz.underlying263 rfl (by kernel_rfl) (by omega) rfl
  go_region_held3 (fun w'=>w'.cell? ⟨gw,0,none⟩=some (.int .i64 6)/\Below W.heap.size W w') (first|exact HQ.out _ hB9|exact HQ.out _ hB10)
   (first|(go_at_call 175;refine(Zb9 _).mono ?_;rintro r1 w10⟨rfl,hb10⟩;have hB10:=hB9.trans (hb10.mono hB9.size)))
  obtain⟨q0,q1,q2,q3⟩:=HQ2.out _ hB10
  go_wp2_with fail
  obtain⟨hrl,hvl,hml,o1,o2,o3⟩:=HT.out
  refine(unlock_any (HW.out.later hB10) t (by rw[St.go,St.put_len];exact ht) (by rw[St.go,St.put_len];exact h4) _ _ r x (by have:=o2 (by simp);omega) hml).mono ?_
  rintro r1 w11⟨rfl,hs,ho⟩
  clear hrl hvl hml o1 o2 o3
  rw[ZgU s t r x n ht]at hs
  go_wp2
  exact bodyPost_end (results_none rfl _ _ _) rfl ⟨rfl,hs,(HO.out.trans (.of_below hB10)).trans ho⟩
 ·have hix:∀w',(Instr.index 264 (.agg #[.nilFunc,.func (.func 196) #[] #[],.func (.func 197) #[] #[],.func (.func 198) #[] #[],.func (.func 199) #[] #[],.func (.func 200) #[] #[],.func (.func 201) #[] #[],.func (.func 202) #[] #[],.func (.func 203) #[] #[]]) (.int .i64 7)).run Tryz.prog w'=.ok (.func (.func 202) #[] #[]) w':=fun w'=>ZaD w' 7 Tryz.underlying264 Tryz.underlying263 rfl (by kernel_rfl) (by omega) rfl
  go_region_held3 (fun w'=>w'.cell? ⟨gw,0,none⟩=some (.int .i64 7)/\Below W.heap.size W w') (first|exact HQ.out _ hB9|exact HQ.out _ hB10)
   (first|(go_at_call 175;refine(Zb9 _).mono ?_;rintro r1 w10⟨rfl,hb10⟩;have hB10:=hB9.trans (hb10.mono hB9.size)))
  obtain⟨q0,q1,q2,q3⟩:=HQ2.out _ hB10
  go_wp2_with fail
  obtain⟨hrl,hvl,hml,o1,o2,o3⟩:=HT.out
  refine(jump_any (HW.out.later hB10) t (by rw[St.go,St.put_len];exact ht) (by rw[St.go,St.put_len];exact h4) _ _ r x (by omega)).mono ?_
  rintro r1 w11⟨rfl,hs,ho⟩
  clear hrl hvl hml o1 o2 o3
  rw[ZlV s t r x n ht]at hs
  go_wp2
  exact bodyPost_end (results_none rfl _ _ _) rfl ⟨rfl,hs,(HO.out.trans (.of_below hB10)).trans ho⟩
 ·have hix:∀w',(Instr.index 264 (.agg #[.nilFunc,.func (.func 196) #[] #[],.func (.func 197) #[] #[],.func (.func 198) #[] #[],.func (.func 199) #[] #[],.func (.func 200) #[] #[],.func (.func 201) #[] #[],.func (.func 202) #[] #[],.func (.func 203) #[] #[]]) (.int .i64 8)).run Tryz.prog w'=.ok (.func (.func 203) #[] #[]) w':=fun w'=>ZaD w' 8 Tryz.underlying264 Tryz.underlying263 rfl (by kernel_rfl) (by omega) rfl
  go_region_held3 (fun w'=>w'.cell? ⟨gw,0,none⟩=some (.int .i64 8)/\Below W.heap.size W w') (first|exact HQ.out _ hB9|exact HQ.out _ hB10)
   (first|(go_at_call 175;refine(Zb9 _).mono ?_;rintro r1 w10⟨rfl,hb10⟩;have hB10:=hB9.trans (hb10.mono hB9.size)))
  obtain⟨q0,q1,q2,q3⟩:=HQ2.out _ hB10
  go_wp2_with fail
  obtain⟨hrl,hvl,hml,o1,o2,o3⟩:=HT.out
  refine(assert_any (HW.out.later hB10) t (by rw[St.go,St.put_len];exact ht) (by rw[St.go,St.put_len];exact h4) _ _ r x).mono ?_
  rintro r1 w11⟨rfl,hs,ho⟩
  clear hrl hvl hml o1 o2 o3
  rw[ZkG s t r x n ht]at hs
  go_wp2
  exact bodyPost_end (results_none rfl _ _ _) rfl ⟨rfl,hs,(HO.out.trans (.of_below hB10)).trans ho⟩
def stepV(x:Int × Ev × St):Value:=.tuple #[evV x.2.1,.int .i64 x.1]
theorem ZcW(e:Int)(s:St):stepV (e,ev0,s)=.tuple #[.agg #[.int .i64 0,.int .i64 0,.int .i64 0,.bool false],.int .i64 e]:=rfl
theorem Zis(e:Ev)(s:St):stepV (0,e,s)=.tuple #[.agg #[.int .i64 e.thread,.int .i64 e.kind,.int .i64 e.obj,.bool e.fail],.int .i64 0]:=rfl
theorem step_range{F:Nat}{s:St}{b:Nat}{w:World}(h:StAt w b s)(_ok:s.Ok F)(t:Int)(hb:ZaM t s.ts.length=false):
  Calls Tryz.prog 92 #[.pointer (some ⟨b,0,none⟩),.int .i64 t] w fun e w'=>e=.returned (stepV (s.step t))/\StAt w' b (s.step t).2.2/\Only b w w':=by
 have hst:s.step t=(2,ev0,s):=by
  unfold St.step
  rw[if_neg (fun e=>by unfold St.has at e;simp[ZaM]at hb;omega)]
 rw[hst,ZcW]
 have hbl:=h.lt
 have c0:=h.num 0 (by omega)
 rw[Zbs]at c0
 have HB:=Lib.hid (h.later (Zaa w (.cells #[.int .i64 0,.int .i64 0,.int .i64 0,.bool false] 112)))
 clear hst h
 go_enter Tryz.func92,Tryz.ntmps92
 go_wp2_with (go_at_call 86;refine(Zbn _ _ _).mono ?_;rintro r w' ⟨rfl,rfl⟩)
 refine bodyPost_ret (v:=.tuple #[.agg #[.int .i64 0,.int .i64 0,.int .i64 0,.bool false],.int .i64 2]) (by simp[results,Tryz.results92,go_sem]) rfl ⟨rfl,?_,?_⟩
 ·exact HB.out
 ·exact ZbX b w _
theorem step_none{F:Nat}{s:St}{b:Nat}{w:World}(h:StAt w b s)(ok:s.Ok F)(t:Int)(hb:ZaM t s.ts.length=true)(hi:s.ins t=none):
  Calls Tryz.prog 92 #[.pointer (some ⟨b,0,none⟩),.int .i64 t] w fun e w'=>e=.returned (stepV (s.step t))/\StAt w' b (s.step t).2.2/\Only b w w':=by
 have hst:s.step t=(6,ev0,s):=by
  unfold St.step
  rw[if_pos (by unfold St.has;simpa [ZaM]using hb),hi]
 rw[hst,ZcW]
 have hbl:=h.lt
 have c0:=h.num 0 (by omega)
 rw[Zbs]at c0
 have HB:=Lib.hid (h.later (Zaa w (.cells #[.int .i64 0,.int .i64 0,.int .i64 0,.bool false] 112)))
 have OK:=Lib.hid ok
 have HI:=Lib.hid hi
 clear hst h ok hi
 go_enter Tryz.func92,Tryz.ntmps92
 go_wp2_with (go_at_call 86;refine(Zbn _ _ _).mono ?_;rintro r w' ⟨rfl,rfl⟩)
 refine(ZdK HB.out OK.out t).mono ?_
 rw[HI.out,ZdL]
 rintro r w1⟨rfl,hb1⟩
 have hz:w.heap.size<w1.heap.size:=by have:=hb1.size;simp at this;omega
 have hc:∀o,w1.cell? ⟨w.heap.size,o,none⟩=(w.alloc (.cells #[.int .i64 0,.int .i64 0,.int .i64 0,.bool false] 112)).cell? ⟨w.heap.size,o,none⟩:=fun o=>hb1.cell (p:=⟨w.heap.size,o,none⟩) (by simp)
 have hf:∀o,w1.frozen? ⟨w.heap.size,o,none⟩=(w.alloc (.cells #[.int .i64 0,.int .i64 0,.int .i64 0,.bool false] 112)).frozen? ⟨w.heap.size,o,none⟩:=fun o=>hb1.frozen (p:=⟨w.heap.size,o,none⟩) (by simp)
 have H1:=Lib.hid (HB.out.later hb1)
 have O1:=Lib.hid ((ZbX b w (.cells #[.int .i64 0,.int .i64 0,.int .i64 0,.bool false] 112)).trans (.of_below hb1))
 have B1:Hid (Below w.heap.size w w1):=(Zaa w _).trans (hb1.mono (by simp))
 clear hb1 c0
 go_wp2
 refine bodyPost_ret (v:=.tuple #[.agg #[.int .i64 0,.int .i64 0,.int .i64 0,.bool false],.int .i64 6]) (by simp[results,Tryz.results92,go_sem,hc,hz]) rfl ⟨rfl,?_,?_⟩
 ·exact(H1.out.other4 (by omega) _ _ _ _).later (Zaa _ _)
 ·exact(O1.out.set4 (Nat.le_refl _) _ _ _ _).alloc _
theorem step_state{F:Nat}{s:St}{b:Nat}{w:World}(h:StAt w b s)(ok:s.Ok F)(t:Nat)(i:Ins)(hi:s.ins t=some i)(hm:s.may t=false):
  Calls Tryz.prog 92 #[.pointer (some ⟨b,0,none⟩),.int .i64 t] w fun e w'=>e=.returned (stepV (s.step t))/\StAt w' b (s.step t).2.2/\Only b w w':=by
 obtain⟨k,hkk,ht⟩:=St.ins_nat hi
 obtain rfl:t=k:=by omega
 have hb:ZaM t s.ts.length=true:=by simp[ZaM];omega
 have hn:s.next t=some (s.ev t i):=by unfold St.next;rw[hi];rfl
 have hst:s.step t=(9,ev0,s):=by
  unfold St.step
  rw[if_pos (by unfold St.has;omega),hi]
  simp only[hm]
  rfl
 rw[hst,ZcW]
 clear hst
 have hbl:=h.lt
 have c0:=h.num 0 (by omega)
 rw[Zbs]at c0
 have HB:=Lib.hid (h.later (Zaa w (.cells #[.int .i64 0,.int .i64 0,.int .i64 0,.bool false] 112)))
 have OK:=Lib.hid ok
 have HI:=Lib.hid hi
 have HM:=Lib.hid hm
 obtain⟨e,he⟩:∃e,e=s.ev t i:=⟨_,rfl⟩
 rw[<-he]at hn
 have HE:=Lib.hid he
 have HN:=Lib.hid hn
 clear h ok hi hkk hm he hn
 go_enter Tryz.func92,Tryz.ntmps92
 go_wp2_with (go_at_call 86;refine(Zbn _ _ _).mono ?_;rintro r w' ⟨rfl,rfl⟩)
 refine(ZdK HB.out OK.out t).mono ?_
 rw[HI.out,ZeQ]
 rintro r w1⟨rfl,hb1⟩
 have hz:w.heap.size<w1.heap.size:=by have:=hb1.size;simp at this;omega
 have hc:∀o,w1.cell? ⟨w.heap.size,o,none⟩=(w.alloc (.cells #[.int .i64 0,.int .i64 0,.int .i64 0,.bool false] 112)).cell? ⟨w.heap.size,o,none⟩:=fun o=>hb1.cell (p:=⟨w.heap.size,o,none⟩) (by simp)
 have hf:∀o,w1.frozen? ⟨w.heap.size,o,none⟩=(w.alloc (.cells #[.int .i64 0,.int .i64 0,.int .i64 0,.bool false] 112)).frozen? ⟨w.heap.size,o,none⟩:=fun o=>hb1.frozen (p:=⟨w.heap.size,o,none⟩) (by simp)
 have H1:=Lib.hid ((HB.out.later hb1).later (Zaa w1 (.cells #[.int .i64 i.kind,.int .i64 i.r,.int .i64 i.x,.int .i64 i.n] 63)))
 have B1:Hid (Below w.heap.size w w1):=(Zaa w _).trans (hb1.mono (by simp))
 clear hb1 c0 HB
 go_wp2_with fail
 refine(Zi9 H1.out OK.out HI.out).mono ?_
 rw[<-HE.out,evV]
 rintro r w2⟨rfl,hb2⟩
 have hz2:w1.heap.size<w2.heap.size:=by have:=hb2.size;simp at this;omega
 have hz3:w.heap.size<w2.heap.size:=by omega
 have B2:Hid (Below w1.heap.size w1 w2):=(Zaa w1 _).trans (hb2.mono (by simp))
 have hc2:∀o,w2.cell? ⟨w.heap.size,o,none⟩=w1.cell? ⟨w.heap.size,o,none⟩:=fun o=>B2.out.cell (p:=⟨w.heap.size,o,none⟩) hz
 have hf2:∀o,w2.frozen? ⟨w.heap.size,o,none⟩=w1.frozen? ⟨w.heap.size,o,none⟩:=fun o=>B2.out.frozen (p:=⟨w.heap.size,o,none⟩) hz
 have hd2:∀o,w2.cell? ⟨w1.heap.size,o,none⟩=(w1.alloc (.cells #[.int .i64 i.kind,.int .i64 i.r,.int .i64 i.x,.int .i64 i.n] 63)).cell? ⟨w1.heap.size,o,none⟩:=fun o=>hb2.cell (p:=⟨w1.heap.size,o,none⟩) (by simp)
 have H2:=Lib.hid ((H1.out.later hb2).later (Zaa w2 (.cells #[.int .i64 e.thread,.int .i64 e.kind,.int .i64 e.obj,.bool e.fail] 112)))
 clear hb2 H1
 go_wp2_with fail
 refine(may_of H2.out OK.out HN.out).mono ?_
 rw[HM.out]
 rintro r w3⟨rfl,hb3⟩
 have hz4:w2.heap.size<w3.heap.size:=by have:=hb3.size;simp at this;omega
 have hz5:w1.heap.size<w3.heap.size:=by omega
 have hz6:w.heap.size<w3.heap.size:=by omega
 have B3:Hid (Below w2.heap.size w2 w3):=(Zaa w2 _).trans (hb3.mono (by simp))
 have hc3:∀o,w3.cell? ⟨w.heap.size,o,none⟩=w2.cell? ⟨w.heap.size,o,none⟩:=fun o=>B3.out.cell (p:=⟨w.heap.size,o,none⟩) hz3
 have hf3:∀o,w3.frozen? ⟨w.heap.size,o,none⟩=w2.frozen? ⟨w.heap.size,o,none⟩:=fun o=>B3.out.frozen (p:=⟨w.heap.size,o,none⟩) hz3
 have hd3:∀o,w3.cell? ⟨w1.heap.size,o,none⟩=w2.cell? ⟨w1.heap.size,o,none⟩:=fun o=>B3.out.cell (p:=⟨w1.heap.size,o,none⟩) hz2
 have he3:∀o,w3.cell? ⟨w2.heap.size,o,none⟩=(w2.alloc (.cells #[.int .i64 e.thread,.int .i64 e.kind,.int .i64 e.obj,.bool e.fail] 112)).cell? ⟨w2.heap.size,o,none⟩:=fun o=>hb3.cell (p:=⟨w2.heap.size,o,none⟩) (by simp)
 have H3:=Lib.hid (H2.out.later hb3)
 have W3:Hid (Below w.heap.size w w3):=(B1.out.trans (B2.out.mono (by omega))).trans (B3.out.mono (by omega))
 clear hb3 H2
 go_wp2
 refine bodyPost_ret (v:=.tuple #[.agg #[.int .i64 0,.int .i64 0,.int .i64 0,.bool false],.int .i64 9]) (by simp[results,Tryz.results92,go_sem,hc,hc2,hc3]) rfl ⟨rfl,?_,?_⟩
 ·exact H3.out.other4 (by omega) _ _ _ _
 ·exact(Only.of_below W3.out).set4 (Nat.le_refl _) _ _ _ _
theorem step_done{F:Nat}{s:St}{b:Nat}{w:World}(h:StAt w b s)(ok:s.Ok F)(t:Nat)(i:Ins)(hi:s.ins t=some i)(hm:s.may t=true):
  Calls Tryz.prog 92 #[.pointer (some ⟨b,0,none⟩),.int .i64 t] w fun e w'=>e=.returned (stepV (s.step t))/\StAt w' b (s.step t).2.2/\Only b w w':=by
 obtain⟨k,hkk,ht⟩:=St.ins_nat hi
 obtain rfl:t=k:=by omega
 have hb:ZaM t s.ts.length=true:=by simp[ZaM];omega
 have hn:s.next t=some (s.ev t i):=by unfold St.next;rw[hi];rfl
 have hst:s.step t=(0,s.ev t i,s.do_ t i):=by
  unfold St.step
  rw[if_pos (by unfold St.has;omega),hi]
  simp only[hm]
  rfl
 rw[hst,Zis]
 clear hst
 dsimp only
 have hbl:=h.lt
 have c0:=h.num 0 (by omega)
 rw[Zbs]at c0
 have HB:=Lib.hid (h.later (Zaa w (.cells #[.int .i64 0,.int .i64 0,.int .i64 0,.bool false] 112)))
 have OK:=Lib.hid ok
 have HI:=Lib.hid hi
 have HM:=Lib.hid hm
 obtain⟨e,he⟩:∃e,e=s.ev t i:=⟨_,rfl⟩
 rw[<-he]at hn ⊢
 have HE:=Lib.hid he
 have HN:=Lib.hid hn
 clear h ok hi hkk hm he hn
 go_enter Tryz.func92,Tryz.ntmps92
 go_wp2_with (go_at_call 86;refine(Zbn _ _ _).mono ?_;rintro r w' ⟨rfl,rfl⟩)
 refine(ZdK HB.out OK.out t).mono ?_
 rw[HI.out,ZeQ]
 rintro r w1⟨rfl,hb1⟩
 have hz:w.heap.size<w1.heap.size:=by have:=hb1.size;simp at this;omega
 have hc:∀o,w1.cell? ⟨w.heap.size,o,none⟩=(w.alloc (.cells #[.int .i64 0,.int .i64 0,.int .i64 0,.bool false] 112)).cell? ⟨w.heap.size,o,none⟩:=fun o=>hb1.cell (p:=⟨w.heap.size,o,none⟩) (by simp)
 have hf:∀o,w1.frozen? ⟨w.heap.size,o,none⟩=(w.alloc (.cells #[.int .i64 0,.int .i64 0,.int .i64 0,.bool false] 112)).frozen? ⟨w.heap.size,o,none⟩:=fun o=>hb1.frozen (p:=⟨w.heap.size,o,none⟩) (by simp)
 have H1:=Lib.hid ((HB.out.later hb1).later (Zaa w1 (.cells #[.int .i64 i.kind,.int .i64 i.r,.int .i64 i.x,.int .i64 i.n] 63)))
 have B1:Hid (Below w.heap.size w w1):=(Zaa w _).trans (hb1.mono (by simp))
 clear hb1 c0 HB
 go_wp2_with fail
 refine(Zi9 H1.out OK.out HI.out).mono ?_
 rw[<-HE.out,evV]
 rintro r w2⟨rfl,hb2⟩
 have hz2:w1.heap.size<w2.heap.size:=by have:=hb2.size;simp at this;omega
 have hz3:w.heap.size<w2.heap.size:=by omega
 have B2:Hid (Below w1.heap.size w1 w2):=(Zaa w1 _).trans (hb2.mono (by simp))
 have hc2:∀o,w2.cell? ⟨w.heap.size,o,none⟩=w1.cell? ⟨w.heap.size,o,none⟩:=fun o=>B2.out.cell (p:=⟨w.heap.size,o,none⟩) hz
 have hf2:∀o,w2.frozen? ⟨w.heap.size,o,none⟩=w1.frozen? ⟨w.heap.size,o,none⟩:=fun o=>B2.out.frozen (p:=⟨w.heap.size,o,none⟩) hz
 have hd2:∀o,w2.cell? ⟨w1.heap.size,o,none⟩=(w1.alloc (.cells #[.int .i64 i.kind,.int .i64 i.r,.int .i64 i.x,.int .i64 i.n] 63)).cell? ⟨w1.heap.size,o,none⟩:=fun o=>hb2.cell (p:=⟨w1.heap.size,o,none⟩) (by simp)
 have H2:=Lib.hid ((H1.out.later hb2).later (Zaa w2 (.cells #[.int .i64 e.thread,.int .i64 e.kind,.int .i64 e.obj,.bool e.fail] 112)))
 clear hb2 H1
 go_wp2_with fail
 refine(may_of H2.out OK.out HN.out).mono ?_
 rw[HM.out]
 rintro r w3⟨rfl,hb3⟩
 have hz4:w2.heap.size<w3.heap.size:=by have:=hb3.size;simp at this;omega
 have hz5:w1.heap.size<w3.heap.size:=by omega
 have hz6:w.heap.size<w3.heap.size:=by omega
 have B3:Hid (Below w2.heap.size w2 w3):=(Zaa w2 _).trans (hb3.mono (by simp))
 have hc3:∀o,w3.cell? ⟨w.heap.size,o,none⟩=w2.cell? ⟨w.heap.size,o,none⟩:=fun o=>B3.out.cell (p:=⟨w.heap.size,o,none⟩) hz3
 have hf3:∀o,w3.frozen? ⟨w.heap.size,o,none⟩=w2.frozen? ⟨w.heap.size,o,none⟩:=fun o=>B3.out.frozen (p:=⟨w.heap.size,o,none⟩) hz3
 have hd3:∀o,w3.cell? ⟨w1.heap.size,o,none⟩=w2.cell? ⟨w1.heap.size,o,none⟩:=fun o=>B3.out.cell (p:=⟨w1.heap.size,o,none⟩) hz2
 have he3:∀o,w3.cell? ⟨w2.heap.size,o,none⟩=(w2.alloc (.cells #[.int .i64 e.thread,.int .i64 e.kind,.int .i64 e.obj,.bool e.fail] 112)).cell? ⟨w2.heap.size,o,none⟩:=fun o=>hb3.cell (p:=⟨w2.heap.size,o,none⟩) (by simp)
 have H3:=Lib.hid (H2.out.later hb3)
 have W3:Hid (Below w.heap.size w w3):=(B1.out.trans (B2.out.mono (by omega))).trans (B3.out.mono (by omega))
 clear hb3 H2
 go_wp2_with fail
 refine(do_any H3.out OK.out t i HI.out).mono ?_
 rintro r w4⟨rfl,hs4,ho4⟩
 have hz7:w2.heap.size<w4.heap.size:=by have:=ho4.size;omega
 have hz8:w.heap.size<w4.heap.size:=by omega
 have cl:∀g o,g<w3.heap.size->g≠b->w4.cell? ⟨g,o,none⟩=w3.cell? ⟨g,o,none⟩:=fun g o hg hgb=>World.cell?_of_block (w:=w3) (ho4.block g hg hgb)
 have fl:∀g o,g<w3.heap.size->g≠b->w4.frozen? ⟨g,o,none⟩=w3.frozen? ⟨g,o,none⟩:=fun g o hg hgb=>World.frozen?_of_block (w:=w3) (ho4.block g hg hgb)
 have hc4:∀o,w4.cell? ⟨w.heap.size,o,none⟩=w3.cell? ⟨w.heap.size,o,none⟩:=fun o=>cl _ o hz6 (by omega)
 have hf4:∀o,w4.frozen? ⟨w.heap.size,o,none⟩=w3.frozen? ⟨w.heap.size,o,none⟩:=fun o=>fl _ o hz6 (by omega)
 have he4:∀o,w4.cell? ⟨w2.heap.size,o,none⟩=w3.cell? ⟨w2.heap.size,o,none⟩:=fun o=>cl _ o hz4 (by omega)
 have HS:=Lib.hid hs4
 have HO:=Lib.hid ho4
 clear hs4 ho4 cl fl
 go_wp2
 refine bodyPost_ret (v:=.tuple #[.agg #[.int .i64 e.thread,.int .i64 e.kind,.int .i64 e.obj,.bool e.fail],.int .i64 0]) (by simp[results,Tryz.results92,go_sem,hc,hc2,hc3,hc4]) rfl ⟨rfl,?_,?_⟩
 ·exact HS.out.other4 (by omega) _ _ _ _
 ·exact(Only.trans (.of_below W3.out) HO.out).set4 (Nat.le_refl _) _ _ _ _
theorem step_any{F:Nat}{s:St}{b:Nat}{w:World}(h:StAt w b s)(ok:s.Ok F)(t:Int):
  Calls Tryz.prog 92 #[.pointer (some ⟨b,0,none⟩),.int .i64 t] w fun e w'=>e=.returned (stepV (s.step t))/\StAt w' b (s.step t).2.2/\Only b w w':=by
 cases hb:ZaM t s.ts.length
 ·exact step_range h ok t hb
 ·cases hi:s.ins t with
  |none=>exact step_none h ok t hb hi
  |some i=>
   obtain⟨k,rfl,_⟩:=St.ins_nat hi
   cases hm:s.may k
   ·exact step_state h ok k i hi hm
   ·exact step_done h ok k i hi hm
def ZaG(l:List Ins):List Value:=l.flatMap fun i=>[.int .i64 i.kind,.int .i64 i.r,.int .i64 i.x,.int .i64 i.n]
theorem Zbq(l:List Ins):(ZaG l).length=l.length*4:=by
 induction l with
 |nil=>rfl
 |cons i l ih=>simp only[ZaG,List.flatMap_cons,List.length_append,List.length_cons,List.length_nil]at *;omega
theorem Zb8(l:List Ins)(i j:Nat)(h:i<l.length)(hj:j<4):
  (ZaG l)[i*4+j]?=[Value.int .i64 l[i].kind,.int .i64 l[i].r,.int .i64 l[i].x,.int .i64 l[i].n][j]?:=by
 induction l generalizing i with
 |nil=>simp at h
 |cons x l ih=>
  cases i with
  |zero=>
   simp only[ZaG,List.flatMap_cons,Nat.zero_mul,Nat.zero_add,List.getElem_cons_zero]
   rw[List.getElem?_append_left (by simpa using hj)]
  |succ i=>
   have:=ih i (by simpa using h)
   simp only[ZaG,List.flatMap_cons,List.getElem_cons_succ]at *
   rw[List.getElem?_append_right (by simp;omega),<-this]
   congr 1
   simp
   omega
theorem ZfK(l:List Ins):∀v∈ZaG l,v.oneCell'=true:=by
 intro v hv
 simp only[ZaG,List.mem_flatMap]at hv
 obtain⟨i,_,hv⟩:=hv
 simp at hv
 rcases hv with rfl|rfl|rfl|rfl <;> rfl
theorem ZbU.cells{w:World}{b o:Nat}{l:List Ins}(h:ZbU w (some ⟨b,o,none⟩) l):
  ∀j v,(ZaG l)[j]?=some v->w.cell? (Addr.add ⟨b,o,none⟩ j)=some v:=by
 intro j v hv
 have hj:j<(ZaG l).length:=(List.getElem?_eq_some_iff.1 hv).1
 rw[Zbq]at hj
 have hlt:j/4<l.length:=by omega
 obtain⟨b',o',e,hc⟩:=h.2 (by intro e;simp[e]at hlt)
 obtain⟨rfl,rfl⟩:b=b'/\o=o':=by simpa using e
 obtain⟨c0,c1,c2,c3⟩:=hc (j/4) hlt
 have ej:j/4*4+j%4=j:=by omega
 have hm:j%4<4:=by omega
 have:=Zb8 l (j/4) (j%4) hlt hm
 rw[ej,hv]at this
 have ha:Addr.add ⟨b,o,none⟩ j=⟨b,o+j/4*4+j%4,none⟩:=by
  unfold Addr.add
  split
  ·rename_i h0;subst h0;rfl
  ·simp;omega
 rw[ha]
 obtain h|h|h|h:j%4=0∨j%4=1∨j%4=2∨j%4=3:=by omega
 all_goals
  rw[h]at this ⊢
  simp at this
  subst this
  first|exact c0|exact c1|exact c2|exact c3
theorem codeAt_row{w:World}{g:Nat}{l:List Ins}{t:TypeId}{fr:Nat × Nat}(hm:l.length<=maxLen)(h:w.heap[g]?=some (.cells (ZaG l).toArray t fr)):ZbU w (some ⟨g,0,none⟩) l:=by
 refine⟨hm,fun _=>⟨g,0,rfl,fun i hi=>?_⟩⟩
 have e:∀j,w.cell? ⟨g,j,none⟩=(ZaG l)[j]?:=by intro j;simp[World.cell?,h]
 refine⟨?_,?_,?_,?_⟩
 ·rw[e];simpa using Zb8 l i 0 hi (by omega)
 ·rw[e];simpa using Zb8 l i 1 hi (by omega)
 ·rw[e];simpa using Zb8 l i 2 hi (by omega)
 ·rw[e];simpa using Zb8 l i 3 hi (by omega)
def Zfh(l:List Ins):List Int:=l.flatMap fun i=>[i.kind,i.r,i.x,i.n]
theorem Zdh(l:List Ins):ZaG l=(Zfh l).map (Value.int .i64):=by
 simp[ZaG,Zfh,List.map_flatMap]
theorem Zeg(l:List Ins):(Zfh l).length=l.length*4:=by
 have:=Zbq l
 rw[Zdh]at this
 simpa using this
theorem ZlR(l:List Ins)(j:Nat):(Zfh l).getD j 0=ZdM (l.getD (j/4) ins0) (j%4):=by
 induction l generalizing j with
 |nil=>
  simp[Zfh]
  unfold ZdM ins0
  repeat' split
  all_goals rfl
 |cons i l ih=>
  by_cases h:j<4
  ·rw[show j/4=0 by omega,show j%4=j by omega]
   obtain rfl|rfl|rfl|rfl:j=0∨j=1∨j=2∨j=3:=by omega
   all_goals rfl
  ·obtain⟨k,rfl⟩:∃k,j=k+4:=⟨j-4,by omega⟩
   rw[show(k+4)/4=k/4+1 by omega,show(k+4)%4=k%4 by omega]
   exact ih k
def NumAt(w:World)(g:Nat)(f:Nat->Int):Prop:=w.heap[g]?=some (.cells (numA f) 163 (0,0))
theorem NumAt.cell{w:World}{g:Nat}{f:Nat->Int}(h:NumAt w g f)(o:Nat)(ho:o<156):w.cell? ⟨g,o,none⟩=some (.int .i64 (f o)):=by
 rw[cell_of_row w g o _ _ _ h,Zdd _ _ ho]
theorem NumAt.frozen{w:World}{g:Nat}{f:Nat->Int}(h:NumAt w g f)(o:Nat):w.frozen? ⟨g,o,none⟩=false:=by
 simp[World.frozen?,show w.heap[g]?=_ from h]
theorem NumAt.set{w:World}{g:Nat}{f:Nat->Int}(h:NumAt w g f)(f':Nat->Int)(o:Nat)(n:Int)(ho:o<156)(hs:∀j,j<156->f' j=if j=o then n else f j):NumAt (w.setCell ⟨g,o,none⟩ (.int .i64 n)) g f':=by
 have:=heap_setCell_same w g o _ _ (.int .i64 n) h
 rw[Zf3 _ _ o n ho hs]at this
 exact this
theorem Zlv(f f1:Nat->Int)(o:Nat)(vs:List Int)(h:∀j,j<156->f1 j=if o<=j/\j<o+vs.length then vs.getD (j-o) 0 else f j)(ho:o+vs.length<=156):
  ((numA f).toList.take o++vs.map (Value.int .i64)++(numA f).toList.drop (o+vs.length)).toArray=numA f1:=by
 have hl:(numA f).toList.length=156:=by simp[numA]
 apply Array.ext_getElem?
 intro j
 rw[List.getElem?_toArray]
 by_cases hj:j<156
 ·rw[Zdd f1 j hj,h j hj]
  by_cases h1:j<o
  ·rw[if_neg (by omega),List.append_assoc,List.getElem?_append_left (by simp[hl];omega),List.getElem?_take_of_lt h1]
   have:=Zdd f j hj
   simpa using this
  ·by_cases h2:j<o+vs.length
   ·rw[if_pos ⟨by omega,h2⟩,List.getElem?_append_left (by simp[hl];omega),List.getElem?_append_right (by simp[hl];omega)]
    have e:j-((numA f).toList.take o).length=j-o:=by simp[hl];omega
    rw[e,List.getElem?_map,List.getElem?_eq_getElem (by omega),Zav _ (by omega)]
    rfl
   ·rw[if_neg (by omega),List.getElem?_append_right (by simp[hl];omega),List.getElem?_drop]
    have e:o+vs.length+(j-((numA f).toList.take o++vs.map (Value.int .i64)).length)=j:=by simp[hl];omega
    rw[e]
    have:=Zdd f j hj
    simpa using this
 ·have h1:(numA f1)[j]?=none:=Array.getElem?_eq_none (by rw[Zb6];omega)
  rw[h1,List.getElem?_eq_none]
  simp[hl]
  omega
theorem ZiA(w:World)(g o:Nat)(f f1:Nat->Int)(hg:NumAt w g f)(c:Option Addr)(cap:Nat)(l:List Ins)(hl:ZbU w c l)(h8:l.length<=8)(ho:o+32<=156)
  (h:∀j,j<156->f1 j=if o<=j/\j<o+l.length*4 then ZdM (l.getD ((j-o)/4) ins0) ((j-o)%4)else f j):
  (Builtin.copy_ #[64,64] 3 #[.slice (some ⟨g,o,none⟩) 8 8,.slice c l.length cap]).run Tryz.prog w=.ok (.int .i64 l.length) (w.setRow g (numA f1)):=by
 have hs:(Tryz.prog.info? 63).map (·.size)=some 4:=by kernel_rfl
 have hm:Nat.min l.length 8=l.length:=Nat.min_eq_left h8
 cases hq:Tryz.prog.info? 63 with
 |none=>simp[hq]at hs
 |some i=>
  have hi:i.size=4:=by simpa [hq]using hs
  have hst:=run_storeCells_at (P:=Tryz.prog) g o 163 (ZaG l) 0 _ w hg (by rw[Zbq,Zb6];omega) (ZfK l)
  have hsp:=Zlv f f1 o (Zfh l) (fun j hj=>by rw[h j hj,Zeg,ZlR]) (by rw[Zeg];omega)
  rw[Nat.add_zero,Zdh,List.length_map,hsp]at hst
  by_cases h0:l=[]
  ·subst h0
   have hlc:∀(x:Addr),(loadCells x 0).run Tryz.prog w=.ok #[] w:=fun x=>by simpa using run_loadCells_list (P:=Tryz.prog) w x [] (by simp)
   have hst':(storeCells ⟨g,o,none⟩ ([]:List Value)).run Tryz.prog w=.ok () (w.setRow g (numA f1)):=hst
   cases c <;> simp[Builtin.copy_,run_underlying Tryz.underlying64,Builtin.lenOf,Builtin.firstCells,sizeOf,typeInfo,hq,hlc,hst',goInt]
  ·obtain⟨b',o',rfl,_⟩:=hl.2 h0
   have hld:=run_loadCells_list (P:=Tryz.prog) w ⟨b',o',none⟩ (ZaG l) hl.cells
   rw[Zbq]at hld
   rw[<-Zdh]at hst
   simp[Builtin.copy_,run_underlying Tryz.underlying64,Builtin.lenOf,Builtin.firstCells,sizeOf,typeInfo,hq,hi,hm,hld,hst,goInt]
def ZdI(p:Pg)(F k o:Nat):Int:=if o<2+k*37/\o<150 then stNum (St.new p F) o else 0
def Zde(p:Pg)(F k o:Nat):Int:=if o<154+k then stNum (St.new p F) o else 0
theorem new_th(p:Pg)(F k:Nat)(hk:k<p.threads.length):(St.new p F).th k=⟨0,F,[0,0]⟩:=by
 unfold St.th St.new
 dsimp only
 rw[Zav _ (by simpa using hk)]
 simp
theorem new_th_out(p:Pg)(F k:Nat)(hk:p.threads.length<=k):(St.new p F).th k=thr0:=by
 unfold St.th St.new
 simp[List.getD,hk]
theorem new_code(p:Pg)(F k:Nat)(hk:k<p.threads.length):(St.new p F).code k=p.threads[k]:=by
 unfold St.code St.new
 exact Zav _ hk
theorem Zkg(p:Pg)(F k:Nat)(hk:p.threads.length<=k):(St.new p F).code k=[]:=by
 unfold St.code St.new
 simp[List.getD,hk]
theorem thrNum_out(k:Nat):Zbp [] thr0 k=0:=by
 unfold Zbp
 have e:∀n,ZdM ins0 n=0:=fun n=>by
  unfold ZdM ins0
  repeat' split
  all_goals rfl
 have e2:∀n:Nat,([0,0]:List Int).getD n 0=0:=fun n=>match n with|0=>rfl|1=>rfl|n+2=>rfl
 dsimp only[thr0]
 by_cases h:k<32
 ·rw[if_pos h];exact e _
 rw[if_neg h]
 by_cases h:k=32
 ·rw[if_pos h];rfl
 rw[if_neg h]
 by_cases h:k=33
 ·rw[if_pos h];rfl
 rw[if_neg h]
 by_cases h:k=34
 ·rw[if_pos h];rfl
 rw[if_neg h]
 exact e2 _
theorem ZlA(p:Pg)(F o:Nat):ZdI p F 0 o=if o=0 then (p.threads.length:Int)else if o=1 then p.mutexes else 0:=by
 unfold ZdI
 by_cases h0:o=0
 ·subst h0;simp[Zbs,St.new]
 ·by_cases h1:o=1
  ·subst h1;simp[Ziv,St.new]
  ·rw[if_neg (by omega),if_neg h0,if_neg h1]
theorem ZlB(p:Pg)(F k:Nat)(hk:k<p.threads.length)(h4:p.threads.length<=4)(h8:p.threads[k].length<=8)(f1 f2:Nat->Int)
  (h1:∀j,j<156->f1 j=if 2+k*37<=j/\j<2+k*37+p.threads[k].length*4 then ZdM (p.threads[k].getD ((j-(2+k*37))/4) ins0) ((j-(2+k*37))%4)else ZdI p F k j)
  (h2:∀j,j<156->f2 j=if j=2+k*37+32 then (p.threads[k].length:Int)else f1 j):
  ∀j,j<156->ZdI p F (k+1) j=if j=2+k*37+34 then (F:Int)else f2 j:=by
 intro j hj
 rw[h2 j hj,h1 j hj]
 unfold ZdI
 by_cases a:j<2+k*37
 ·rw[if_pos (by omega),if_neg (by omega),if_neg (by omega),if_neg (by omega),if_pos (by omega)]
 ·by_cases b:j<2+(k+1)*37
  ·obtain⟨d,rfl⟩:∃d,j=2+k*37+d:=⟨j-(2+k*37),by omega⟩
   rw[if_pos (by omega),Za6 _ _ _ (by omega) (by omega),new_th p F k hk,new_code p F k hk]
   have ed:2+k*37+d-(2+k*37)=d:=by omega
   rw[ed]
   unfold Zbp
   by_cases c1:d<32
   ·rw[if_pos c1,if_neg (by omega),if_neg (by omega)]
    by_cases c2:d<p.threads[k].length*4
    ·rw[if_pos (by omega)]
    ·rw[if_neg (by omega),if_neg (by omega)]
     have e:p.threads[k].getD (d/4) ins0=ins0:=by
      rw[List.getD,List.getElem?_eq_none (by omega)];rfl
     rw[e]
     unfold ZdM ins0
     repeat' split
     all_goals rfl
   ·rw[if_neg c1,if_neg (c:=2+k*37<=2+k*37+d/\2+k*37+d<2+k*37+p.threads[k].length*4) (by omega),if_neg (c:=2+k*37+d<2+k*37/\2+k*37+d<150) (by omega)]
    obtain rfl|rfl|rfl|rfl|rfl:d=32∨d=33∨d=34∨d=35∨d=36:=by omega
    all_goals simp
  ·rw[if_neg (by omega),if_neg (by omega),if_neg (by omega),if_neg (by omega),if_neg (by omega)]
theorem newNum_all(p:Pg)(F:Nat):∀j,j<156->ZdI p F p.threads.length j=Zde p F 0 j:=by
 intro j hj
 unfold ZdI Zde
 by_cases a:j<2+p.threads.length*37/\j<150
 ·rw[if_pos a,if_pos (by omega)]
 ·rw[if_neg a]
  by_cases b:j<150
  ·rw[if_pos (by omega)]
   obtain⟨d,t,rfl,ht⟩:∃d t,j=2+t*37+d/\d<37:=⟨(j-2)%37,(j-2)/37,by omega,by omega⟩
   rw[Za6 _ _ _ (by omega) ht,new_th_out _ _ _ (by omega),Zkg _ _ _ (by omega),thrNum_out]
  ·by_cases c:j<154
   ·rw[if_pos (by omega)]
    obtain⟨d,rfl⟩:∃d,j=150+d:=⟨j-150,by omega⟩
    rw[ZjF _ _ (by omega)]
    obtain rfl|rfl|rfl|rfl:d=0∨d=1∨d=2∨d=3:=by omega
    all_goals rfl
   ·rw[if_neg (by omega)]
theorem Zkh(p:Pg)(F k:Nat)(hk:k<2):∀j,j<156->Zde p F (k+1) j=if j=154+k then -1 else Zde p F k j:=by
 intro j hj
 unfold Zde
 by_cases a:j=154+k
 ·rw[if_pos (by omega),if_pos a,a,ZeA]
  obtain rfl|rfl:k=0∨k=1:=by omega
  all_goals rfl
 ·rw[if_neg a]
  by_cases b:j<154+k
  ·rw[if_pos (by omega),if_pos b]
  ·rw[if_neg (by omega),if_neg b]
theorem ZlC(p:Pg)(F:Nat):∀j,j<156->Zde p F 2 j=stNum (St.new p F) j:=by
 intro j hj
 unfold Zde
 rw[if_pos (by omega)]
theorem ZiD(V M:Int)(t:Value)(a:Option Addr)(cap:Nat)(l:List Ins)(w:World)(hl:ZbU w a l):
  Calls Tryz.prog 132 #[.agg #[.int .i64 V,.int .i64 M,t],.slice a l.length cap] w fun r w'=>r=.returned (.bool (ZaC V M l))/\Below w.heap.size w w':=by
 have hm:=hl.1
 unfold maxLen at hm
 by_cases h8:l.length<=8
 ·have H:Hid (ZaC V M l=l.all (ZaN V M l.length)):=by show _=_;simp[ZaC,h8]
  have HL:=Lib.hid hl
  have h9:decide (8<l.length)=false:=by simp;omega
  clear hl
  go_enter Tryz.func132,Tryz.ntmps132
  go_wp2
  go_loopw [12] (fun i wr=>∃k:Nat,k<=l.length/\i=.int .i64 k/\Hid ((l.take k).all (ZaN V M l.length)=true)/\Below (w.heap.size+1) (w.alloc (.cells #[.int .i64 V,.int .i64 M,t] 24)) wr) (fun i _=>l.length-(intOf i).toNat)
  case atStart=>exact⟨0,Nat.zero_le _,rfl,rfl,Below.refl _ _⟩
  case round=>
   obtain⟨k,hk,rfl,hall,hb⟩:=hrel
   by_cases hlt:k<l.length
   ·obtain⟨b,o,rfl,hc⟩:=HL.out.2 (by intro e;simp[e]at hlt)
    have hbw:Below w.heap.size w wr:=((Below.refl _ _).alloc (Nat.le_refl _) _).trans (hb.mono (by omega))
    obtain⟨c0,c1,c2,c3⟩:=hc k hlt
    have d0:=Zab hbw c0
    have d1:=Zab hbw c1
    have d2:=Zab hbw c2
    have d3:=Zab hbw c3
    have p0:wr.cell? ⟨w.heap.size,0,none⟩=some (.int .i64 V):=by rw[hb.cell (p:=⟨w.heap.size,0,none⟩) (by simp)];simp
    have p1:wr.cell? ⟨w.heap.size,1,none⟩=some (.int .i64 M):=by rw[hb.cell (p:=⟨w.heap.size,1,none⟩) (by simp)];simp
    have p2:wr.cell? ⟨w.heap.size,2,none⟩=some t:=by rw[hb.cell (p:=⟨w.heap.size,2,none⟩) (by simp)];simp
    have hz:w.heap.size<wr.heap.size:=by have:=hb.size;simp at this;omega
    clear c0 c1 c2 c3 hc
    go_wp2_with fail
    refine(Zhl V M l.length (by omega) (by omega) t l[k] _).mono ?_
    rintro r w1⟨rfl,hb1⟩
    have hb2:Below (w.heap.size+1) (w.alloc (.cells #[.int .i64 V,.int .i64 M,t] 24)) w1:=(hb.alloc (by omega) _).trans (hb1.mono (by simp;omega))
    have hb3:Below w.heap.size w w1:=((Below.refl _ _).alloc (Nat.le_refl _) _).trans (hb2.mono (by omega))
    have ht:(l.take (k+1))=l.take k++[l[k]]:=List.take_succ_eq_append_getElem hlt
    cases hr:ZaN V M l.length l[k]
    ·have HR:Hid (ZaC V M l=false):=by
      show _=_
      rw[H.out,List.all_eq_false];exact⟨l[k],List.getElem_mem _,by simp[hr]⟩
     clear hr ht
     go_wp2
     go_ret
     exact⟨Zag HR.out.symm,hb3⟩
    ·have HR:Hid ((l.take (k+1)).all (ZaN V M l.length)=true):=by
      show _=_
      rw[ht,List.all_append,hall.out];simp[hr]
     clear hr ht
     go_wp2
     go_roundw
     case rel=>exact⟨k+1,by omega,by go_num,HR,hb2⟩
     case measure=>simp[intOf];omega
   ·obtain rfl:k=l.length:=by omega
    have HR:Hid (ZaC V M l=true):=by
     show _=_
     rw[H.out,<-hall.out,List.take_length]
    have hbw:Below w.heap.size w wr:=((Below.refl _ _).alloc (Nat.le_refl _) _).trans (hb.mono (by omega))
    go_wp2
    go_ret
    exact⟨Zag HR.out.symm,hbw⟩
 ·have H:Hid (ZaC V M l=false):=by show _=_;simp[ZaC];omega
  have h9:8<l.length:=by omega
  clear hl
  go_enter Tryz.func132,Tryz.ntmps132
  go_wp2
  go_ret
  exact⟨Zag H.out.symm,Zaa _ _⟩
theorem Zgt(p:Pg)(a:Option Addr)(cap:Nat)(w:World)(hp:Zaf w a p.threads):
  Calls Tryz.prog 85 #[pgV p a cap] w fun r w'=>r=.returned (.bool (Zal p))/\Below w.heap.size w w':=by
 obtain⟨V,M,ts⟩:=p
 unfold pgV
 dsimp only at *
 have hm:=hp.1
 unfold maxLen at hm
 cases hV:ZaM V 5
 ·have H:Hid (Zal ⟨V,M,ts⟩=false):=by
   show _=_
   simp[ZaM]at hV
   simp[Zal];omega
  have HL:=Lib.hid hp
  clear hp
  go_enter Tryz.func85,Tryz.ntmps85
  go_wp2_with (go_at_call 131;refine(Zc6 _ _ _).mono ?_;rintro r w' ⟨rfl,rfl⟩)
  go_ret
  exact⟨Zag H.out.symm,Zaa _ _⟩
 cases hM:ZaM M 3
 ·have H:Hid (Zal ⟨V,M,ts⟩=false):=by
   show _=_
   simp[ZaM]at hM
   simp[Zal];omega
  have HL:=Lib.hid hp
  clear hp
  go_enter Tryz.func85,Tryz.ntmps85
  go_wp2_with (go_at_call 131;refine(Zc6 _ _ _).mono ?_;rintro r w' ⟨rfl,rfl⟩)
  go_ret
  exact⟨Zag H.out.symm,Zaa _ _⟩
 by_cases h1:ts.length<1
 ·have H:Hid (Zal ⟨V,M,ts⟩=false):=by
   show _=_
   simp[Zal];omega
  have HL:=Lib.hid hp
  clear hp
  go_enter Tryz.func85,Tryz.ntmps85
  go_wp2_with (go_at_call 131;refine(Zc6 _ _ _).mono ?_;rintro r w' ⟨rfl,rfl⟩)
  go_ret
  exact⟨Zag H.out.symm,Zaa _ _⟩
 by_cases h4:4<ts.length
 ·have H:Hid (Zal ⟨V,M,ts⟩=false):=by
   show _=_
   simp[Zal];omega
  have HL:=Lib.hid hp
  clear hp
  go_enter Tryz.func85,Tryz.ntmps85
  go_wp2_with (go_at_call 131;refine(Zc6 _ _ _).mono ?_;rintro r w' ⟨rfl,rfl⟩)
  go_ret
  exact⟨Zag H.out.symm,Zaa _ _⟩
 have H:Hid (Zal ⟨V,M,ts⟩=ts.all (ZaC V M)):=by
  show _=_
  simp[ZaM]at hV hM
  have:decide (0<=V/\V<=4/\0<=M/\M<=2/\1<=ts.length/\ts.length<=4)=true:=by simp;omega
  unfold Zal
  dsimp only
  rw[this,Bool.true_and]
 have HL:=Lib.hid hp
 clear hp
 go_enter Tryz.func85,Tryz.ntmps85
 go_wp2_with (go_at_call 131;refine(Zc6 _ _ _).mono ?_;rintro r w' ⟨rfl,rfl⟩)
 go_loopw [28] (fun i wr=>∃k:Nat,k<=ts.length/\i=.int .i64 k/\Hid ((ts.take k).all (ZaC V M)=true)/\Below (w.heap.size+1) (w.alloc (.cells #[.int .i64 V,.int .i64 M,.slice a ts.length cap] 24)) wr) (fun i _=>ts.length-(intOf i).toNat)
 case atStart=>exact⟨0,Nat.zero_le _,rfl,rfl,Below.refl _ _⟩
 case round=>
  obtain⟨k,hk,rfl,hall,hb⟩:=hrel
  by_cases hlt:k<ts.length
  ·obtain⟨b,o,rfl,hc⟩:=HL.out.2 (by intro e;simp[e]at hlt)
   have hbw:Below w.heap.size w wr:=((Below.refl _ _).alloc (Nat.le_refl _) _).trans (hb.mono (by omega))
   obtain⟨c,ccap,c0,c1,_⟩:=hc k hlt
   have d0:=Zab hbw c0
   have D1:=Lib.hid (c1.later hbw)
   have p0:wr.cell? ⟨w.heap.size,0,none⟩=some (.int .i64 V):=by rw[hb.cell (p:=⟨w.heap.size,0,none⟩) (by simp)];simp
   have p1:wr.cell? ⟨w.heap.size,1,none⟩=some (.int .i64 M):=by rw[hb.cell (p:=⟨w.heap.size,1,none⟩) (by simp)];simp
   have p2:wr.cell? ⟨w.heap.size,2,none⟩=some (.slice (some ⟨b,o,none⟩) ts.length cap):=by rw[hb.cell (p:=⟨w.heap.size,2,none⟩) (by simp)];simp
   have hz:w.heap.size<wr.heap.size:=by have:=hb.size;simp at this;omega
   clear c0 c1 hc
   go_wp2_with fail
   refine(ZiD V M _ c ccap ts[k] _ D1.out).mono ?_
   rintro r w1⟨rfl,hb1⟩
   have hb2:Below (w.heap.size+1) (w.alloc (.cells #[.int .i64 V,.int .i64 M,.slice (some ⟨b,o,none⟩) ts.length cap] 24)) w1:=hb.trans (hb1.mono (by omega))
   have hb3:Below w.heap.size w w1:=((Below.refl _ _).alloc (Nat.le_refl _) _).trans (hb2.mono (by omega))
   have ht:(ts.take (k+1))=ts.take k++[ts[k]]:=List.take_succ_eq_append_getElem hlt
   cases hr:ZaC V M ts[k]
   ·have HR:Hid (Zal ⟨V,M,ts⟩=false):=by
     show _=_
     rw[H.out,List.all_eq_false];exact⟨ts[k],List.getElem_mem _,by simp[hr]⟩
    clear hr ht
    go_wp2
    go_ret
    exact⟨Zag HR.out.symm,hb3⟩
   ·have HR:Hid ((ts.take (k+1)).all (ZaC V M)=true):=by
     show _=_
     rw[ht,List.all_append,hall.out];simp[hr]
    clear hr ht
    go_wp2
    go_roundw
    case rel=>exact⟨k+1,by omega,by go_num,HR,hb2⟩
    case measure=>simp[intOf];omega
  ·obtain rfl:k=ts.length:=by omega
   have HR:Hid (Zal ⟨V,M,ts⟩=true):=by
    show _=_
    rw[H.out,<-hall.out,List.take_length]
   have hbw:Below w.heap.size w wr:=((Below.refl _ _).alloc (Nat.le_refl _) _).trans (hb.mono (by omega))
   go_wp2
   go_ret
   exact⟨Zag HR.out.symm,hbw⟩
def NewR(p:Pg)(fuel:Int)(w:World)(r:Ending)(w':World):Prop:=
 if Zal p=true/\0<=fuel/\fuel<=8 then ∃g,r=.returned (.tuple #[.pointer (some ⟨g,0,none⟩),.int .i64 0])/\w.heap.size<=g/\StAt w' g (St.new p fuel.toNat)/\Below w.heap.size w w'
 else r=.returned (.tuple #[.pointer none,.int .i64 1])/\Below w.heap.size w w'
theorem new_no(p:Pg)(a:Option Addr)(cap:Nat)(fuel:Int)(w:World)(hp:Zaf w a p.threads)(hr:Zal p=false):
  Calls Tryz.prog 50 #[.agg #[.int .i64 p.vars,.int .i64 p.mutexes,.slice a p.threads.length cap],.int .i64 fuel] w fun r w'=>r=.returned (.tuple #[.pointer none,.int .i64 1])/\Below w.heap.size w w':=by
 have HR:=Lib.hid hr
 have HP:=Lib.hid hp
 clear hr hp
 go_enter Tryz.func50,Tryz.ntmps50
 go_wp2_with fail
 refine(Zgt p a cap _ (HP.out.later (Zaa w _))).mono ?_
 rw[HR.out]
 rintro r w1⟨rfl,hb⟩
 have hb1:Below w.heap.size w w1:=(Zaa w _).trans (hb.mono (by simp))
 clear hb
 go_wp2
 go_ret2
 exact⟨rfl,hb1⟩
theorem new_fuel(p:Pg)(a:Option Addr)(cap:Nat)(fuel:Int)(w:World)(hp:Zaf w a p.threads)(hr:Zal p=true)(hf:ZaM fuel 9=false):
  Calls Tryz.prog 50 #[.agg #[.int .i64 p.vars,.int .i64 p.mutexes,.slice a p.threads.length cap],.int .i64 fuel] w fun r w'=>r=.returned (.tuple #[.pointer none,.int .i64 1])/\Below w.heap.size w w':=by
 have HR:=Lib.hid hr
 have HP:=Lib.hid hp
 clear hr hp
 go_enter Tryz.func50,Tryz.ntmps50
 go_wp2_with fail
 refine(Zgt p a cap _ (HP.out.later (Zaa w _))).mono ?_
 rw[HR.out]
 rintro r w1⟨rfl,hb⟩
 have hb1:Below w.heap.size w w1:=(Zaa w _).trans (hb.mono (by simp))
 clear hb
 go_wp2_with (go_at_call 86;refine(Zbn _ _ _).mono ?_;rintro r w' ⟨rfl,rfl⟩)
 go_ret2
 exact⟨rfl,hb1⟩
theorem zero_state:∃Z:Array Value,Z=numA (fun _=>0)/\∀w,(zeroValue 163).run Tryz.prog w=.ok (.agg Z) w:=
 ⟨_,rfl,(zero_of_info (P:=Tryz.prog) (t:=163) (v:=.agg (numA fun _=>0)) (n:=156) (by kernel_rfl)).1⟩
theorem new_yes(p:Pg)(a:Option Addr)(cap F:Nat)(w:World)(hp:Zaf w a p.threads)(hr:Zal p=true)(hF:F<=8):
  Calls Tryz.prog 50 #[.agg #[.int .i64 p.vars,.int .i64 p.mutexes,.slice a p.threads.length cap],.int .i64 F] w
   fun r w'=>∃g,r=.returned (.tuple #[.pointer (some ⟨g,0,none⟩),.int .i64 0])/\w.heap.size<=g/\StAt w' g (St.new p F)/\Below w.heap.size w w':=by
 have hf:ZaM F 9=true:=by simp[ZaM];omega
 have hn4:p.threads.length<=4:=by
  unfold Zal at hr
  rw[Bool.and_eq_true,decide_eq_true_eq]at hr
  omega
 have HR:=Lib.hid hr
 have HP:=Lib.hid hp
 obtain⟨Z,hZ,hzv⟩:=zero_state
 have hne:¬Z=#[]:=fun e=>by have:=congrArg Array.size e;rw[hZ,Zb6]at this;simp at this
 have hsz:Z.size=156:=by rw[hZ,Zb6]
 have hset:(Z.setIfInBounds 0 (.int .i64 p.threads.length)).setIfInBounds 1 (.int .i64 p.mutexes)=numA (ZdI p F 0):=by
  rw[hZ,Zf3 (fun _=>0) (fun j=>if j=0 then (p.threads.length:Int)else 0) 0 _ (by omega) (fun j _=>rfl)]
  refine Zf3 _ _ 1 _ (by omega) (fun j _=>?_)
  rw[ZlA]
  by_cases h0:j=0
  ·simp[h0]
  ·simp[h0]
 clear hZ
 clear hr hp
 go_enter Tryz.func50,Tryz.ntmps50
 go_wp2_with fail
 refine(Zgt p a cap _ (HP.out.later (Zaa w _))).mono ?_
 rw[HR.out]
 rintro r w1⟨rfl,hb⟩
 have hb1:Below w.heap.size w w1:=(Zaa w _).trans (hb.mono (by simp))
 have hc:∀o,w1.cell? ⟨w.heap.size,o,none⟩=(w.alloc (.cells #[.int .i64 p.vars,.int .i64 p.mutexes,.slice a p.threads.length cap] 24)).cell? ⟨w.heap.size,o,none⟩:=fun o=>hb.cell (p:=⟨w.heap.size,o,none⟩) (by simp)
 have hz:w.heap.size<w1.heap.size:=by have:=hb.size;simp at this;omega
 clear hb
 go_wp2_with (go_at_call 86;refine(Zbn _ _ _).mono ?_;rintro r w' ⟨rfl,rfl⟩)
 clear hset hsz hne hzv hc hf
 go_loopw [29] (fun i wr=>∃k:Nat,k<=p.threads.length/\i=.int .i64 k/\NumAt wr w1.heap.size (ZdI p F k)/\Below w1.heap.size w1 wr) (fun i _=>p.threads.length-(intOf i).toNat)
 case atStart=>exact⟨0,Nat.zero_le _,rfl,heap_alloc_last w1 _,Zaa _ _⟩
 case round=>
  obtain⟨k,hk,rfl,hnum,hb2⟩:=hrel
  by_cases hlt:k<p.threads.length
  ·obtain⟨b,o,rfl,hc⟩:=HP.out.2 (by intro e;simp[e]at hlt)
   obtain⟨c,ccap,c0,c1,_⟩:=hc k hlt
   have hbw:Below w.heap.size w wr:=hb1.trans (hb2.mono (by omega))
   have d0:=Zab hbw c0
   have D1:=c1.later hbw
   have h8:=(ZdC HR.out hlt).1
   obtain⟨f1,hf1⟩:∃f1:Nat->Int,∀j,f1 j=if 2+k*37<=j/\j<2+k*37+p.threads[k].length*4 then ZdM (p.threads[k].getD ((j-(2+k*37))/4) ins0) ((j-(2+k*37))%4)else ZdI p F k j:=⟨_,fun _=>rfl⟩
   have hcp:=ZiA wr w1.heap.size (2+k*37) _ f1 hnum c ccap p.threads[k] D1 h8 (by omega) (fun j _=>hf1 j)
   have hn1:NumAt (wr.setRow w1.heap.size (numA f1)) w1.heap.size f1:=setRow_heap wr _ _ _ _ _ hnum
   have hbs:Below w1.heap.size w1 (wr.setRow w1.heap.size (numA f1)):=hb2.trans ⟨rfl,rfl,rfl,by simp,fun q hq=>setRow_other _ _ _ _ (by omega)⟩
   generalize wr.setRow w1.heap.size (numA f1)=W1 at *
   have hn2:NumAt (W1.setCell ⟨w1.heap.size,2+k*37+32,none⟩ (.int .i64 p.threads[k].length)) w1.heap.size (fun j=>if j=2+k*37+32 then (p.threads[k].length:Int)else f1 j):=hn1.set _ _ _ (by omega) (fun j _=>rfl)
   have hn3:NumAt ((W1.setCell ⟨w1.heap.size,2+k*37+32,none⟩ (.int .i64 p.threads[k].length)).setCell ⟨w1.heap.size,2+k*37+34,none⟩ (.int .i64 F)) w1.heap.size (ZdI p F (k+1)):=
    hn2.set _ _ _ (by omega) (ZlB p F k hlt hn4 h8 f1 _ (fun j _=>hf1 j) (fun j _=>rfl))
   have hb3:Below w1.heap.size w1 ((W1.setCell ⟨w1.heap.size,2+k*37+32,none⟩ (.int .i64 p.threads[k].length)).setCell ⟨w1.heap.size,2+k*37+34,none⟩ (.int .i64 F)):=(hbs.setCell (p:=⟨w1.heap.size,2+k*37+32,none⟩) (Nat.le_refl _) _).setCell (p:=⟨w1.heap.size,2+k*37+34,none⟩) (Nat.le_refl _) _
   have e0:=hn1.cell (2+k*37+32) (by omega)
   have e1:=hn1.frozen (2+k*37+32)
   have e2:=hn1.cell (2+k*37+34) (by omega)
   have e3:=hn1.frozen (2+k*37+34)
   have HN3:=Lib.hid hn3
   have hk4:k<4:=by omega
   clear c0 c1 hc D1 hf1 hn1 hn2 hn3 hbs hnum hb2 hbw
   go_wp2
   go_roundw
   case rel=>exact⟨k+1,by omega,by go_num,HN3.out,hb3⟩
   case measure=>simp[intOf];omega
  ·obtain rfl:k=p.threads.length:=by omega
   have hnum2:NumAt wr w1.heap.size (Zde p F 0):=by
    unfold NumAt
    rw[<-ZhR _ _ (newNum_all p F)]
    exact hnum
   clear hnum
   go_wp2
   go_loopw [53] (fun i wq=>∃k:Nat,k<=2/\i=.int .i64 k/\NumAt wq w1.heap.size (Zde p F k)/\Below w1.heap.size w1 wq) (fun i _=>2-(intOf i).toNat)
   case atStart=>exact⟨0,by omega,rfl,hnum2,hb2⟩
   case round=>
    clear hnum2 hb2
    obtain⟨k,hk,rfl,hnum,hb2⟩:=hrel
    by_cases hlt:k<2
    ·have e0:=hnum.cell (154+k) (by omega)
     have e1:=hnum.frozen (154+k)
     have HN:=Lib.hid (hnum.set _ (154+k) (-1) (by omega) (Zkh p F k hlt))
     have hb3:=hb2.setCell (p:=⟨w1.heap.size,154+k,none⟩) (Nat.le_refl _) (.int .i64 (-1))
     clear hnum hb2
     go_wp2
     go_roundw
     case rel=>exact⟨k+1,by omega,by go_num,HN.out,hb3⟩
     case measure=>simp[intOf];omega
    ·obtain rfl:k=2:=by omega
     have HN:Hid (StAt wr w1.heap.size (St.new p F)):=by
      show _=_
      rw[<-ZhR _ _ (ZlC p F)]
      exact hnum
     clear hnum
     go_wp2
     go_ret2
     exact⟨_,rfl,by omega,HN.out,hb1.trans (hb2.mono (by omega))⟩
theorem new_any(p:Pg)(a:Option Addr)(cap:Nat)(fuel:Int)(w:World)(hp:Zaf w a p.threads):
  Calls Tryz.prog 50 #[.agg #[.int .i64 p.vars,.int .i64 p.mutexes,.slice a p.threads.length cap],.int .i64 fuel] w (NewR p fuel w):=by
 cases hr:Zal p
 ·refine(new_no p a cap fuel w hp hr).mono fun r w' h=>?_
  unfold NewR
  rw[if_neg (by simp[hr])]
  exact h
 ·cases hf:ZaM fuel 9
  ·refine(new_fuel p a cap fuel w hp hr hf).mono fun r w' h=>?_
   unfold NewR
   rw[if_neg (by simp[ZaM]at hf;omega)]
   exact h
  ·have hf':0<=fuel/\fuel<9:=by simpa [ZaM]using hf
   obtain⟨F,rfl⟩:∃F:Nat,fuel=F:=⟨fuel.toNat,by omega⟩
   refine(new_yes p a cap F w hp hr (by omega)).mono fun r w' h=>?_
   unfold NewR
   rw[if_pos ⟨hr,by omega,by omega⟩]
   exact h
end Go.Proofs.YtjfmmnhcddckaaaGreat
