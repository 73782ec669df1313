import Derived.Laws.EntriesVeiled
import Derived.Deep.RegionHeld3
import Derived.Laws.CopyOwn
import Derived.Deep.WholeRow
import Derived.Test.YtjfmmnhcddckaaaGreatPk01
set_option maxRecDepth 100000
set_option maxHeartbeats 4000000
namespace Go.Proofs.YtjfmmnhcddckaaaGreat
section
open Go.RowKit
def jt:Ins:=⟨0,0,0,0⟩
def j7(i:Ins)(k:Nat):Int:=if k=0 then i.kind else if k=1 then i.r else if k=2 then i.x else i.n
def gl(c:List Ins)(x:Thr)(k:Nat):Int:=
 if k<32 then j7 (c.getD (k/4) jt) (k%4)
 else if k=32 then c.length
 else if k=33 then x.at_
 else if k=34 then x.fuel
 else x.r.getD (k-35) 0
def eT(s:St)(o:Nat):Int:=
 if o=0 then s.ts.length
 else if o=1 then s.p.mutexes
 else if o<150 then gl (s.code ((o-2)/37)) (s.th ((o-2)/37)) ((o-2)%37)
 else if o<154 then s.v.getD (o-150) 0
 else s.m.getD (o-154) (-1)
def eB(f:Nat->Int):Array Value:=((List.range 156).map fun o=>Value.int .i64 (f o)).toArray
theorem kA(f:Nat->Int):(eB f).size=156:=by simp[eB]
theorem my(f:Nat->Int)(o:Nat)(h:o<156):(eB f)[o]?=some (.int .i64 (f o)):=by simp[eB,h]
theorem GZ(f:Nat->Int):(eB f).all (·.oneCell')=true:=by
 simp[eB,Value.oneCell']
theorem qH(f g:Nat->Int)(o:Nat)(n:Int)(i:o<156)(h:∀j,j<156->g j=if j=o then n else f j):(eB f).setIfInBounds o (.int .i64 n)=eB g:=by
 apply Array.ext_getElem?;intro j;rw[Array.getElem?_setIfInBounds]
 by_cases a:j<156
 ·rw[my g j a,h j a]
  by_cases e:o=j
  ·subst e;simp[kA,a]
  ·rw[if_neg e,if_neg (fun b=>e b.symm),my f j a]
 ·have c:(eB g)[j]?=none:=Array.getElem?_eq_none (by rw[kA];omega)
  have d:(eB f)[j]?=none:=Array.getElem?_eq_none (by rw[kA];omega);rw[c,d]
  split
  ·rw[kA,if_neg (by omega)]
  ·rfl
theorem xZ(f g:Nat->Int)(h:∀j,j<156->f j=g j):eB f=eB g:=by
 unfold eB
 congr 1
 apply List.map_congr_left;intro j a;rw[h j (by simpa using a)]
def di(w:World)(b:Nat)(s:St):Prop:=w.heap[b]?=some (.cells (eB (eT s)) 163 (0,0))
theorem di.lt{w:World}{b:Nat}{s:St}(h:di w b s):b<w.heap.size:=(Array.getElem?_eq_some_iff.1 h).1
theorem di.num{w:World}{b:Nat}{s:St}(h:di w b s)(o:Nat)(a:o<156):w.cell? ⟨b,o,none⟩=some (.int .i64 (eT s o)):=by
 rw[cell_of_row w b o _ _ _ h,my _ _ a]
theorem di.frozen{w:World}{b:Nat}{s:St}(h:di w b s)(o:Nat):w.frozen? ⟨b,o,none⟩=false:=by
 simp[World.frozen?,show w.heap[b]?=_ from h]
theorem di.set{w:World}{b:Nat}{s:St}(h:di w b s)(s':St)(o:Nat)(n:Int)(a:o<156)(c:∀j,j<156->eT s' j=if j=o then n else eT s j):di (w.setCell ⟨b,o,none⟩ (.int .i64 n)) b s':=by
 have:=heap_setCell_same w b o _ _ (.int .i64 n) h;rw[qH _ _ o n a c]at this;exact this
theorem di.later{w w':World}{b:Nat}{s:St}(h:di w b s)(hb:Below w.heap.size w w'):di w' b s:=(hb.block b h.lt).trans h
theorem di.drew{w:World}{b:Nat}{s:St}(h:di w b s):di w.drew b s:=h
theorem np(s:St):eT s 0=s.ts.length:=rfl
theorem Dv(s:St):eT s 1=s.p.mutexes:=rfl
theorem iX(s:St)(t k:Nat)(a:t<4)(b:k<37):eT s (2+t*37+k)=gl (s.code t) (s.th t) k:=by
 unfold eT;rw[if_neg (by omega),if_neg (by omega),if_pos (by omega),show(2+t*37+k-2)/37=t by omega,show(2+t*37+k-2)%37=k by omega]
theorem wa(s:St)(x:Nat)(h:x<4):eT s (150+x)=s.v.getD x 0:=by
 unfold eT;rw[if_neg (by omega),if_neg (by omega),if_neg (by omega),if_pos (by omega),show 150+x-150=x by omega]
theorem ql(s:St)(x:Nat):eT s (154+x)=s.m.getD x (-1):=by
 unfold eT;rw[if_neg (by omega),if_neg (by omega),if_neg (by omega),if_neg (by omega),show 154+x-154=x by omega]
theorem sr(s:St)(t:Nat)(y:Thr)(k:Nat)(n:Int)(i:t<s.ts.length)(m:s.ts.length<=4)(o:k<37)(l:∀j,j<37->gl (s.code t) y j=if j=k then n else gl (s.code t) (s.th t) j):
  ∀j,j<156->eT (s.put t y) j=if j=2+t*37+k then n else eT s j:=by
 intro j p
 have f:∀u,(s.put t y).th u=if u=t then y else s.th u:=fun u=>by
  unfold St.put St.th;simp only[Int.toNat_natCast];exact gr _ _ _ _ _ i
 have g:∀u,(s.put t y).code u=s.code u:=fun _=>rfl
 unfold eT
 by_cases a:j=0
 ·rw[if_pos a,if_neg (by omega),if_pos a];simp[St.put]
 rw[if_neg a,if_neg (c:=j=0) a]
 by_cases b:j=1
 ·rw[if_pos b,if_neg (by omega),if_pos b];rfl
 rw[if_neg b,if_neg (c:=j=1) b]
 by_cases d:j<150
 ·rw[if_pos d,if_pos d,f,g]
  by_cases e:(j-2)/37=t
  ·rw[if_pos e,e,l _ (by omega)]
   by_cases h:(j-2)%37=k
   ·rw[if_pos h,if_pos (by omega)]
   ·rw[if_neg h,if_neg (by omega)]
  ·rw[if_neg e,if_neg (by omega)]
 ·rw[if_neg d,if_neg (c:=j<150) d,if_neg (c:=j=2+t*37+k) (by omega)];rfl
theorem CL(c:List Ins)(x:Thr)(n:Nat):∀j,j<37->gl c { x with at_:=n } j=if j=33 then (n:Int)else gl c x j:=by
 intro j a;unfold gl;dsimp only
 by_cases e:j=33
 ·subst e;simp
 ·rw[if_neg e];simp only[e,if_false]
theorem CK(c:List Ins)(x:Thr)(n:Nat):∀j,j<37->gl c { x with fuel:=n } j=if j=34 then (n:Int)else gl c x j:=by
 intro j a;unfold gl;dsimp only
 by_cases e:j=34
 ·subst e;simp
 ·rw[if_neg e];simp only[e,if_false]
theorem CG(c:List Ins)(x:Thr)(r:Nat)(n:Int)(i:r<2)(k:x.r.length=2):∀j,j<37->gl c { x with r:=x.r.set r n } j=if j=35+r then n else gl c x j:=by
 intro j l;unfold gl;dsimp only
 by_cases m:j<35
 ·rw[if_neg (c:=j=35+r) (by omega)]
  by_cases a:j<32
  ·simp[a]
  ·by_cases b:j=32
   ·simp[b]
   ·by_cases c:j=33
    ·simp[c]
    ·have:j=34:=by omega
     simp[this]
 ·have d:¬j<32:=by omega
  have f:¬j=32:=by omega
  have g:¬j=33:=by omega
  have h:¬j=34:=by omega
  simp only[d,f,g,h,if_false];rw[gr _ _ _ _ _ (by omega)]
  by_cases e:j=35+r
  ·rw[if_pos (by omega),if_pos e]
  ·rw[if_neg (by omega),if_neg e]
theorem Du(s:St)(x:Nat)(n:Int)(hx:x<4)(d:s.v.length=4):∀j,j<156->eT { s with v:=s.v.set x n } j=if j=150+x then n else eT s j:=by
 intro j f;unfold eT St.th St.code;dsimp only
 by_cases a:j<150
 ·rw[if_neg (c:=j=150+x) (by omega)];simp only[a,if_true]
 ·rw[if_neg (by omega),if_neg (by omega),if_neg a]
  by_cases b:j<154
  ·rw[if_pos b,gr _ _ _ _ _ (by omega)]
   by_cases e:j=150+x
   ·rw[if_pos (by omega),if_pos e]
   ·rw[if_neg (by omega),if_neg e,if_neg (by omega),if_neg (by omega),if_neg a,if_pos b]
  ·rw[if_neg b,if_neg (c:=j=150+x) (by omega),if_neg (by omega),if_neg (by omega),if_neg a,if_neg b]
theorem Dt(s:St)(x:Nat)(n:Int)(hx:x<2)(b:s.m.length=2):∀j,j<156->eT { s with m:=s.m.set x n } j=if j=154+x then n else eT s j:=by
 intro j d;unfold eT St.th St.code;dsimp only
 by_cases a:j<154
 ·rw[if_neg (c:=j=154+x) (by omega)];simp only[a,if_true]
 ·rw[if_neg (by omega),if_neg (by omega),if_neg (by omega),if_neg a,gr _ _ _ _ _ (by omega)]
  by_cases e:j=154+x
  ·rw[if_pos (by omega),if_pos e]
  ·rw[if_neg (by omega),if_neg e,if_neg (by omega),if_neg (by omega),if_neg (by omega),if_neg a]
end
section
open Go.Lib (hid)
open Go.Proofs.Tryz Go.RowKit
theorem kr(n e:Int)(w:World):Calls prog 86 #[.int .i64 n,.int .i64 e] w fun r a=>r=.returned (.bool (eK n e))/\w=a:=by
 go_enter func86,ntmps86;go_wp2
 all_goals
  go_ret;refine⟨dE ?_,rfl⟩;simp[eK]
  try omega
theorem nj{s:St}{b:Nat}{w:World}(h:di w b s):Calls prog 107 #[.pointer (some ⟨b,0,none⟩)] w fun r a=>r=.returned (.int .i64 s.ts.length)/\w=a:=by
 have c:=h.num 0 (by omega);rw[np]at c;have H:=hid h;clear h;go_enter func107,ntmps107;go_wp2;go_ret;exact⟨rfl,rfl⟩
def tZ(o:Option Ins):Value:=.tuple #[mD (o.getD jt),.bool o.isSome]
def lU(o:Option Ev):Value:=.tuple #[jv (o.getD iR),.bool o.isSome]
theorem CJ(c:List Ins)(x:Thr)(j:Nat)(a:j<8)(d:Nat)(b:d<4):gl c x (j*4+d)=j7 (c.getD j jt) d:=by
 unfold gl;rw[if_pos (by omega),show(j*4+d)/4=j by omega,show(j*4+d)%4=d by omega]
theorem vL(c:List Ins)(x:Thr):gl c x 34=x.fuel:=rfl
theorem vM(c:List Ins)(x:Thr):gl c x 33=x.at_:=rfl
theorem nk(c:List Ins)(x:Thr)(y:Nat):gl c x (35+y)=x.r.getD y 0:=by
 unfold gl;rw[if_neg (by omega),if_neg (by omega),if_neg (by omega),if_neg (by omega),show 35+y-35=y by omega]
theorem CE(c:List Ins)(x:Thr):gl c x 32=c.length:=rfl
theorem St.Ok.len4{F:Nat}{s:St}(h:s.Ok F):s.ts.length<=4:=by
 have:=h.right;unfold dL at this;rw[Bool.and_eq_true,decide_eq_true_eq]at this;have:=h.len;omega
theorem St.Ok.code8{F:Nat}{s:St}(h:s.Ok F)(k:Nat)(a:k<s.ts.length):(s.code k).length<=8:=by
 have b:=h.len;unfold St.code;rw[dV _ (by omega)];exact(sG h.right (by omega)).1
theorem pp:tZ none=.tuple #[.agg #[.int .i64 0,.int .i64 0,.int .i64 0,.int .i64 0],.bool false]:=rfl
theorem qV(i:Ins):tZ (some i)=.tuple #[.agg #[.int .i64 i.kind,.int .i64 i.r,.int .i64 i.x,.int .i64 i.n],.bool true]:=rfl
theorem po{F:Nat}{s:St}{b:Nat}{w:World}(h:di w b s)(y:s.Ok F)(t:Int):
  Calls prog 136 #[.pointer (some ⟨b,0,none⟩),.int .i64 t] w fun r c=>r=.returned (tZ (s.ins t))/\Below w.heap.size w c:=by
 have E:=h.lt;have H:=hid h;have o:=hid y;clear h y
 cases hb:eK t s.ts.length
 ·have a:s.ins t=none:=by
   unfold St.ins;rw[if_neg (fun e=>by have:=e.1;unfold St.has at this;simp[eK]at hb;omega)]
  rw[a,pp];clear a;go_enter func136,ntmps136
  go_wp2_with (first
   |(go_at_call 86;refine(kr _ _ _).mono ?_;rintro r c ⟨rfl,rfl⟩)
   |(go_at_call 107;refine(nj (H.out.later (da _ _))).mono ?_;rintro r c ⟨rfl,rfl⟩))
  exact bodyPost_ret (v:=.tuple #[.agg #[.int .i64 0,.int .i64 0,.int .i64 0,.int .i64 0],.bool false]) (by simp[results,results136,go_sem]) rfl ⟨rfl,da w _⟩
 ·obtain⟨k,rfl⟩:∃k:Nat,t=k:=⟨t.toNat,by simp[eK]at hb;omega⟩
  have z:k<s.ts.length:=by simp[eK]at hb;omega
  have J:=o.out.len4;have G:=o.out.place k z;have L:=o.out.code8 k z;have A:=H.out.num (2+k*37+34) (by omega);rw[iX _ _ _ (by omega) (by omega),vL]at A;have C:=H.out.num (2+k*37+33) (by omega);rw[iX _ _ _ (by omega) (by omega),vM]at C;have D:=H.out.num (2+k*37+32) (by omega);rw[iX _ _ _ (by omega) (by omega),CE]at D
  by_cases g:(s.th k).fuel=0
  ·have a:s.ins k=none:=by
    unfold St.ins;rw[if_neg (fun e=>by have:=e.2;simp at this;omega)]
   rw[a,pp];rw[g]at A;clear a g;have B:decide (((0:Nat):Int)=0)=true:=rfl;go_enter func136,ntmps136
   go_wp2_with (first
    |(go_at_call 86;refine(kr _ _ _).mono ?_;rintro r c ⟨rfl,rfl⟩)
    |(go_at_call 107;refine(nj (H.out.later (da _ _))).mono ?_;rintro r c ⟨rfl,rfl⟩))
   go_quiet (fail)
   go_wp2;exact bodyPost_ret (v:=.tuple #[.agg #[.int .i64 0,.int .i64 0,.int .i64 0,.int .i64 0],.bool false]) (by simp[results,results136,go_sem]) rfl ⟨rfl,kg (da w _).drewN (Nat.le_refl _) _ _ _ _⟩
  ·by_cases m:(s.th k).at_=(s.code k).length
   ·have a:s.ins k=none:=by
     unfold St.ins
     split
     ·exact List.getElem?_eq_none (by simp[m])
     ·rfl
    rw[a,pp];have p:((((s.th k).fuel:Nat):Int)==0)=false:=by simp;omega
    have q:((((s.th k).at_:Nat):Int)==(s.code k).length)=true:=by simp[m]
    clear a g m;generalize (s.th k).fuel=f at *;generalize (s.th k).at_=u at *;generalize (s.code k).length=n at *;go_enter func136,ntmps136
    go_wp2_with (first
     |(go_at_call 86;refine(kr _ _ _).mono ?_;rintro r c ⟨rfl,rfl⟩)
     |(go_at_call 107;refine(nj (H.out.later (da _ _))).mono ?_;rintro r c ⟨rfl,rfl⟩))
    go_quiet (fail)
    go_wp2;exact bodyPost_ret (v:=.tuple #[.agg #[.int .i64 0,.int .i64 0,.int .i64 0,.int .i64 0],.bool false]) (by simp[results,results136,go_sem]) rfl ⟨rfl,kg (da w _).drewN (Nat.le_refl _) _ _ _ _⟩
   ·have l:(s.th k).at_<(s.code k).length:=by omega
    have a:s.ins k=some (s.code k)[(s.th k).at_]:=by
     unfold St.ins;rw[if_pos ⟨⟨by omega,by omega⟩,by simpa using g⟩];simp only[Int.toNat_natCast];exact List.getElem?_eq_getElem l
    rw[a,qV]
    have j:∀d,d<4->w.cell? ⟨b,2+k*37+(s.th k).at_*4+d,none⟩=some (.int .i64 (j7 (s.code k)[(s.th k).at_] d)):=by
     intro d B;have:=H.out.num (2+k*37+((s.th k).at_*4+d)) (by omega);rw[iX _ _ _ (by omega) (by omega),CJ _ _ _ (by omega) _ B,dV _ l]at this;rw[Nat.add_assoc];exact this
    have M:w.cell? ⟨b,2+k*37+(s.th k).at_*4,none⟩=some (.int .i64 (s.code k)[(s.th k).at_].kind):=j 0 (by omega);have N:w.cell? ⟨b,2+k*37+(s.th k).at_*4+1,none⟩=some (.int .i64 (s.code k)[(s.th k).at_].r):=j 1 (by omega);have O:w.cell? ⟨b,2+k*37+(s.th k).at_*4+2,none⟩=some (.int .i64 (s.code k)[(s.th k).at_].x):=j 2 (by omega);have P:w.cell? ⟨b,2+k*37+(s.th k).at_*4+3,none⟩=some (.int .i64 (s.code k)[(s.th k).at_].n):=j 3 (by omega);generalize (s.code k)[(s.th k).at_]=i at *;have p:((((s.th k).fuel:Nat):Int)==0)=false:=by simp;omega
    have q:((((s.th k).at_:Nat):Int)==(s.code k).length)=false:=by simp;omega
    have I:(s.th k).at_<8:=by omega
    clear a g m j;generalize (s.th k).fuel=f at *;generalize (s.th k).at_=u at *;generalize (s.code k).length=n at *;go_enter func136,ntmps136
    go_wp2_with (first
     |(go_at_call 86;refine(kr _ _ _).mono ?_;rintro r c ⟨rfl,rfl⟩)
     |(go_at_call 107;refine(nj (H.out.later (da _ _))).mono ?_;rintro r c ⟨rfl,rfl⟩))
    go_quiet (fail)
    go_wp2
    go_region
    go_wp2;exact bodyPost_ret (v:=.tuple #[.agg #[.int .i64 i.kind,.int .i64 i.r,.int .i64 i.x,.int .i64 i.n],.bool true]) (by simp[results,results136,go_sem]) rfl ⟨rfl,kg (da w _).drewN.drew (Nat.le_refl _) _ _ _ _⟩
theorem Ls{F:Nat}{s:St}{b:Nat}{w:World}(h:di w b s)(A:s.Ok F)(t:Nat)(G:t<s.ts.length)(i:Ins)(d:i.kind=6->0<=i.x/\i.x<2)(e:i.kind=8->0<=i.r/\i.r<2):
  Calls prog 137 #[.pointer (some ⟨b,0,none⟩),.int .i64 t,mD i] w fun r C=>r=.returned (jv (s.ev t i))/\Below w.heap.size w C:=by
 have E:=h.lt;have I:=A.len4;have H:=hid h;clear h A;obtain⟨c,r,x,n⟩:=i;unfold mD;dsimp only at *
 by_cases o:c=1
 ·subst o
  have a:s.ev t ⟨1,r,x,n⟩=⟨t,2,x,false⟩:=rfl;rw[a,mH];clear a d e;go_enter func137,ntmps137;go_wp2;exact bodyPost_ret (v:=.agg #[.int .i64 t,.int .i64 2,.int .i64 x,.bool false]) (by simp[results,results137,go_sem]) rfl ⟨rfl,eH w _ _⟩
 by_cases p:c=2
 ·subst p
  have a:s.ev t ⟨2,r,x,n⟩=⟨t,3,x,false⟩:=rfl;rw[a,mH];clear a d e;go_enter func137,ntmps137;go_wp2;exact bodyPost_ret (v:=.agg #[.int .i64 t,.int .i64 3,.int .i64 x,.bool false]) (by simp[results,results137,go_sem]) rfl ⟨rfl,eH w _ _⟩
 by_cases q:c=5
 ·subst q
  have a:s.ev t ⟨5,r,x,n⟩=⟨t,4,x,false⟩:=rfl;rw[a,mH];clear a d e;go_enter func137,ntmps137;go_wp2;exact bodyPost_ret (v:=.agg #[.int .i64 t,.int .i64 4,.int .i64 x,.bool false]) (by simp[results,results137,go_sem]) rfl ⟨rfl,eH w _ _⟩
 by_cases u:c=6
 ·subst u
  obtain⟨f,j⟩:=d rfl
  obtain⟨y,rfl⟩:∃y:Nat,x=y:=⟨x.toNat,by omega⟩
  have D:y<2:=by omega
  have l:=H.out.num (154+y) (by omega);rw[ql]at l;have B:s.m.getD y (-1)=s.who y:=rfl;rw[B]at l;clear B d e f j
  by_cases k:s.who y=t
  ·have a:s.ev t ⟨6,r,y,n⟩=⟨t,5,y,false⟩:=by simp[St.ev,k]
   rw[a,mH];rw[k]at l;clear a k;go_enter func137,ntmps137;go_wp2
   go_quiet (fail)
   go_wp2;exact bodyPost_ret (v:=.agg #[.int .i64 t,.int .i64 5,.int .i64 y,.bool false]) (by simp[results,results137,go_sem]) rfl ⟨rfl,kg (eH w _ _).drewN (by omega) _ _ _ _⟩
  ·have a:s.ev t ⟨6,r,y,n⟩=⟨t,1,0,true⟩:=by simp[St.ev,k]
   rw[a,mH];have J:(s.who y==(t:Int))=false:=by simpa using k
   clear a k;go_enter func137,ntmps137;go_wp2
   go_quiet (fail)
   go_wp2;exact bodyPost_ret (v:=.agg #[.int .i64 t,.int .i64 1,.int .i64 0,.bool true]) (by simp[results,results137,go_sem]) rfl ⟨rfl,kg (eH w _ _).drewN (by omega) _ _ _ _⟩
 by_cases z:c=8
 ·subst z
  obtain⟨f,j⟩:=e rfl
  obtain⟨y,rfl⟩:∃y:Nat,r=y:=⟨r.toNat,by omega⟩
  have D:y<2:=by omega
  have l:=H.out.num (2+t*37+(35+y)) (by omega);rw[iX _ _ _ (by omega) (by omega),nk,<-Nat.add_assoc]at l;have a:s.ev t ⟨8,y,x,n⟩=⟨t,1,0,(s.th t).r.getD y 0==0⟩:=rfl;rw[a,mH];generalize (s.th t).r.getD y 0=g at *;clear a d e f j;go_enter func137,ntmps137;go_wp2
  go_region
  go_wp2;exact bodyPost_ret (v:=.agg #[.int .i64 t,.int .i64 1,.int .i64 0,.bool (g==0)]) (by simp[results,results137,go_sem]) rfl ⟨rfl,(eH w _ _).drew⟩
 ·have a:s.ev t ⟨c,r,x,n⟩=⟨t,1,0,false⟩:=by simp[St.ev,o,p,q,u,z]
  rw[a,mH];have f1:(c==1)=false:=by simpa using o
  have f2:(c==2)=false:=by simpa using p
  have f5:(c==5)=false:=by simpa using q
  have f6:(c==6)=false:=by simpa using u
  have f8:(c==8)=false:=by simpa using z
  clear a d e o p q u z;go_enter func137,ntmps137;go_wp2;exact bodyPost_ret (v:=.agg #[.int .i64 t,.int .i64 1,.int .i64 0,.bool false]) (by simp[results,results137,go_sem]) rfl ⟨rfl,eH w _ _⟩
end
section
def apart(nx:Int->Option Ev)(e:Ev)(u:Nat):Bool:=match nx (u:Int)with
 |none=>false
 |some x=>!dj e x
theorem Ng{nx:Int->Option Ev}{e:Ev}{u:Nat}(h:nx (u:Int)=none):apart nx e u=false:=by unfold apart;rw[h]
theorem Nf{nx:Int->Option Ev}{e x:Ev}{u:Nat}(h:nx (u:Int)=some x):apart nx e u=!dj e x:=by unfold apart;rw[h]
theorem Mx{nx:Int->Option Ev}{e:Ev}{asl ear:Nat}{t:Int}(h:nx t=some e)(c:asl<256)(d:ear<256):
  (dW (wl (asl|||ear) t)).filter (apart nx e)=mN nx asl ear t 8:=by
 unfold dW mN;rw[List.filter_filter];refine List.filter_congr fun u f=>?_
 have b:u<8:=List.mem_range.1 f;rw[CP (lM c d) b,Nat.testBit_or];unfold apart l5;rw[h]
 cases i:nx (u:Int)with
 |none=>simp
 |some x=>
  dsimp only;rw[lo e x]
  by_cases a:t=(u:Int)
  ·simp[a]
  ·have g:¬((u:Int)=t):=fun h=>a h.symm
   simp[a,g]
   cases asl.testBit u <;> cases ear.testBit u <;> cases dj x e <;> rfl
theorem Mw{nx:Int->Option Ev}{asl ear:Nat}{t:Int}(h:nx t=none)(k:Nat):mN nx asl ear t k=[]:=by
 unfold mN;rw[List.filter_eq_nil_iff];intro u _;unfold l5;rw[h];exact Bool.false_ne_true
def gj(nx:Int->Option Ev)(asl ear:Nat)(t:Int):Nat:=dn (ex (mN nx asl ear t 8))
theorem uL(nx:Int->Option Ev)(asl ear:Nat)(t:Int):gj nx asl ear t<256:=i7 _
theorem CR(nx:Int->Option Ev)(asl ear:Nat)(t:Int){i:Nat}(a:i<8):(gj nx asl ear t).testBit i=l5 nx asl ear t i:=by
 unfold gj;rw[kX _ a]
 have h:((i:Int)∈ex (mN nx asl ear t 8))↔l5 nx asl ear t i=true:=by
  rw[pj];unfold mN;rw[List.mem_filter,List.mem_range];exact⟨fun h=>h.2,fun h=>⟨a,h⟩⟩
 cases hb:l5 nx asl ear t i
 ·rw[decide_eq_false_iff_not,h,hb];exact Bool.false_ne_true
 ·rw[decide_eq_true_eq,h,hb]
theorem yr(n:Nat)(x:Int):decide (x∈ex (dW n))=dp n x:=by
 unfold dp
 by_cases h:0<=x/\x<8
 ·obtain⟨i,rfl⟩:∃i:Nat,x=i:=⟨x.toNat,by omega⟩
  have b:i<8:=by omega
  simp only[h,and_self,decide_true,Bool.true_and,Int.toNat_natCast]
  cases hb:n.testBit i
  ·rw[decide_eq_false_iff_not,pj,oY,hb]
   exact fun h=>Bool.false_ne_true h.2
  ·rw[decide_eq_true_eq,pj,oY,hb]
   exact⟨b,rfl⟩
 ·simp only[h,decide_false,Bool.false_and,decide_eq_false_iff_not]
  intro hx;unfold ex at hx;obtain⟨i,b,rfl⟩:=List.mem_map.1 hx;have:=(oY.1 b).1;omega
def gG(a:List Int)(asl:Nat):Bool:=!a.isEmpty&&a.all (dp asl)
theorem GP{l:List Int}(h:∀x∈l,0<=x/\x<8):dn l=0↔l=[]:=by
 constructor
 ·intro a
  cases l with
  |nil=>rfl
  |cons x l=>
   obtain⟨i,rfl⟩:∃i:Nat,x=i:=⟨x.toNat,by have:=h x (by simp);omega⟩
   have b:i<8:=by have:=h (i:Int) (by simp);omega
   have:=kX ((i:Int)::l) b;rw[a,Nat.zero_testBit]at this;simp at this
 ·rintro rfl;rfl
theorem BP{l:List Int}{asl:Nat}(c:asl<256)(h:∀x∈l,0<=x/\x<8):wo (dn l) asl=0↔l.all (dp asl)=true:=by
 rw[List.all_eq_true]
 constructor
 ·intro b x hx
  obtain⟨i,rfl⟩:∃i:Nat,x=i:=⟨x.toNat,by have:=h x hx;omega⟩
  have a:i<8:=by have:=h (i:Int) hx;omega
  rw[gX _ a];have d:=jm (i:=i) (i7 l) c;rw[b,Nat.zero_testBit,kX _ a]at d;simpa [hx]using d
 ·intro b
  refine wz (jB _ _ (i7 l)) (by omega) fun i a=>?_
  rw[jm (i7 l) c,kX _ a,Nat.zero_testBit]
  by_cases hx:(i:Int)∈l
  ·have:=b _ hx
   rw[gX _ a]at this;simp[this]
  ·simp[hx]
theorem mR{F:Nat}{s:St}(a:s.Ok F):∀x∈s.all,0<=x/\x<8:=by
 intro x hx;have c:=a.len4;unfold St.all at hx;obtain⟨i,b,rfl⟩:=List.mem_map.1 (List.mem_filter.1 hx).1;have:=List.mem_range.1 b;simp only[Int.ofNat_eq_natCast];omega
theorem mS{F:Nat}{s:St}(a:s.Ok F):s.all.length<=4:=by
 have b:=a.len4;unfold St.all;refine Nat.le_trans (List.length_filter_le _ _) ?_;rw[List.length_map,List.length_range];exact b
end
section
open Go.RowKit


end
section
open Go.Lib (hid)
open Go.Proofs.Tryz Go.RowKit
open Nat (add_assoc)
def St.free(s:St)(e:Ev):Bool:=e.kind != 4||s.who e.obj == -1
theorem Il{s:St}{b:Nat}{w:World}(h:di w b s)(e:Ev)(d:e.kind=4->0<=e.obj/\e.obj<2):
  Calls prog 138 #[.pointer (some ⟨b,0,none⟩),jv e] w fun r p=>r=.returned (.bool (s.free e))/\Below w.heap.size w p:=by
 have q:=h.lt;have H:=hid h;clear h;obtain⟨t,k,o,f⟩:=e;unfold jv;dsimp only at *
 by_cases c:k=4
 ·subst c
  obtain⟨i,j⟩:=d rfl
  obtain⟨y,rfl⟩:∃y:Nat,o=y:=⟨o.toNat,by omega⟩
  have u:y<2:=by omega
  have l:=H.out.num (154+y) (by omega);rw[ql]at l;have n:s.m.getD y (-1)=s.who y:=rfl;rw[n]at l;clear n;have a:s.free ⟨t,4,y,f⟩=(s.who y == -1):=by simp[St.free]
  rw[a];clear a d i j;generalize s.who y=g at *;go_enter func138,ntmps138;go_wp2
  go_quiet (fail)
  go_wp2;go_ret;exact⟨rfl,(da w _).drewN⟩
 ·have v:(k != 4)=true:=by simpa using c
  have a:s.free ⟨t,k,o,f⟩=true:=by simp[St.free,c]
  rw[a];clear a d c;go_enter func138,ntmps138;go_wp2
  go_quiet (fail)
  go_wp2;go_ret;exact⟨rfl,(da w _).drewN⟩
theorem mI:lU none=.tuple #[.agg #[.int .i64 0,.int .i64 0,.int .i64 0,.bool false],.bool false]:=rfl
theorem ll(e:Ev):lU (some e)=.tuple #[.agg #[.int .i64 e.thread,.int .i64 e.kind,.int .i64 e.obj,.bool e.fail],.bool true]:=rfl
theorem St.ins_nat{s:St}{t:Int}{i:Ins}(h:s.ins t=some i):∃k:Nat,t=k/\k<s.ts.length:=by
 have:=(St.ins_has h).1;unfold St.has at this;exact⟨t.toNat,by omega,by omega⟩
theorem ux{F:Nat}{s:St}{b:Nat}{w:World}(h:di w b s)(a:s.Ok F){t:Nat}{i:Ins}(c:s.ins t=some i):
  Calls prog 137 #[.pointer (some ⟨b,0,none⟩),.int .i64 t,.agg #[.int .i64 i.kind,.int .i64 i.r,.int .i64 i.x,.int .i64 i.n]] w fun r d=>r=.returned (jv (s.ev t i))/\Below w.heap.size w d:=by
 obtain⟨k,e,l⟩:=St.ins_nat c;obtain⟨m,f,o,g,j,p⟩:=a.obj c;exact Ls h a t (by omega) i (fun h=>f (.inr h)) (fun _=>⟨g,j⟩)
theorem oV{F:Nat}{s:St}{b:Nat}{w:World}(h:di w b s)(y:s.Ok F)(t:Int):
  Calls prog 108 #[.pointer (some ⟨b,0,none⟩),.int .i64 t] w fun r z=>r=.returned (lU (s.next t))/\Below w.heap.size w z:=by
 have H:=hid h;have q:=hid y;clear h y
 cases e:s.ins t with
 |none=>
  have j:s.next t=none:=by unfold St.next;rw[e];rfl
  rw[j,mI];have m:=hid e;clear j e;go_enter func108,ntmps108;go_wp2_with fail;refine(po (H.out.later (da _ _)) q.out t).mono ?_;rw[m.out,pp];rintro r c⟨rfl,a⟩;have d:Below w.heap.size w c:=(da w _).trans (a.mono (by simp));have n:w.heap.size<c.heap.size:=by have:=a.size;simp at this;omega
  have u:∀o,c.cell? ⟨w.heap.size,o,none⟩=(w.alloc (.cells #[.int .i64 0,.int .i64 0,.int .i64 0,.bool false] 112)).cell? ⟨w.heap.size,o,none⟩:=fun o=>a.cell (p:=⟨w.heap.size,o,none⟩) (by simp)
  have A:∀o,c.frozen? ⟨w.heap.size,o,none⟩=(w.alloc (.cells #[.int .i64 0,.int .i64 0,.int .i64 0,.bool false] 112)).frozen? ⟨w.heap.size,o,none⟩:=fun o=>a.frozen (p:=⟨w.heap.size,o,none⟩) (by simp)
  clear a;go_wp2;refine bodyPost_ret (v:=.tuple #[.agg #[.int .i64 0,.int .i64 0,.int .i64 0,.bool false],.bool false]) (by simp[results,results108,go_sem,u,n]) rfl ⟨rfl,?_⟩;exact(kg d (Nat.le_refl _) _ _ _ _).alloc (by simp[World.setCell];omega) _
 |some i=>
  obtain⟨k,rfl,E⟩:=St.ins_nat e;have j:s.next k=some (s.ev k i):=by unfold St.next;rw[e];rfl
  rw[j,ll];have m:=hid e;clear j e;go_enter func108,ntmps108;go_wp2_with fail;refine(po (H.out.later (da _ _)) q.out k).mono ?_;rw[m.out,qV];rintro r c⟨rfl,a⟩;have d:Below w.heap.size w c:=(da w _).trans (a.mono (by simp));have n:w.heap.size<c.heap.size:=by have:=a.size;simp at this;omega
  have u:∀o,c.cell? ⟨w.heap.size,o,none⟩=(w.alloc (.cells #[.int .i64 0,.int .i64 0,.int .i64 0,.bool false] 112)).cell? ⟨w.heap.size,o,none⟩:=fun o=>a.cell (p:=⟨w.heap.size,o,none⟩) (by simp)
  have A:∀o,c.frozen? ⟨w.heap.size,o,none⟩=(w.alloc (.cells #[.int .i64 0,.int .i64 0,.int .i64 0,.bool false] 112)).frozen? ⟨w.heap.size,o,none⟩:=fun o=>a.frozen (p:=⟨w.heap.size,o,none⟩) (by simp)
  clear a;go_wp2_with fail;refine(ux ((H.out.later d).later (da _ _)) q.out m.out).mono ?_;unfold jv;rintro r l⟨rfl,f⟩;have g:Below c.heap.size c l:=(da c _).trans (f.mono (by simp));have B:c.heap.size<l.heap.size:=by have:=f.size;simp at this;omega
  have C:w.heap.size<l.heap.size:=by omega
  have x:∀o,l.cell? ⟨w.heap.size,o,none⟩=c.cell? ⟨w.heap.size,o,none⟩:=fun o=>g.cell (p:=⟨w.heap.size,o,none⟩) n
  have D:∀o,l.frozen? ⟨w.heap.size,o,none⟩=c.frozen? ⟨w.heap.size,o,none⟩:=fun o=>g.frozen (p:=⟨w.heap.size,o,none⟩) n
  clear f;go_wp2;refine bodyPost_ret (v:=.tuple #[.agg #[.int .i64 (s.ev k i).thread,.int .i64 (s.ev k i).kind,.int .i64 (s.ev k i).obj,.bool (s.ev k i).fail],.bool true]) (by simp[results,results108,go_sem,u,x]) rfl ⟨rfl,?_⟩;exact kg (d.trans (g.mono (by omega))) (Nat.le_refl _) _ _ _ _
theorem St.may_eq{F:Nat}{s:St}(b:s.Ok F)(t:Int):s.may t=match s.next t with|none=>false|some e=>s.free e:=by
 unfold St.may St.next
 cases d:s.ins t with
 |none=>rfl
 |some i=>
  simp only[Option.map_some];obtain⟨j,f,k,l,n,o⟩:=b.obj d
  by_cases a:i.kind=5
  ·have g:s.ev t i=⟨t,4,i.x,false⟩:=by unfold St.ev;rw[if_neg (by omega),if_neg (by omega),if_pos a]
   have hx:=f (.inl a);have c:i.x.toNat<s.m.length:=by have:=b.ml;omega
   have h:=b.mm (s.who i.x) (by unfold St.who;rw[dV _ c];exact List.getElem_mem c);rw[g,Bool.eq_iff_iff];simp[St.free,a];omega
  ·have:(s.ev t i).kind≠4:=by
    unfold St.ev
    repeat' split
    all_goals(first|omega|(simp;done))
   simp[St.free,a,this]
theorem Lu{F:Nat}{s:St}(b:s.Ok F){t:Int}{i:Ins}(c:s.ins t=some i)(h:(s.ev t i).kind=4):0<=(s.ev t i).obj/\(s.ev t i).obj<2:=by
 obtain⟨f,d,g,j,k,l⟩:=b.obj c
 by_cases a:i.kind=5
 ·have e:s.ev t i=⟨t,4,i.x,false⟩:=by unfold St.ev;rw[if_neg (by omega),if_neg (by omega),if_pos a]
  rw[e];exact d (.inl a)
 ·exfalso
  revert h
  unfold St.ev
  repeat' split
  all_goals(first|omega|(simp;done))
theorem yc{F:Nat}{s:St}(b:s.Ok F){t:Int}{e:Ev}(a:s.next t=some e)(h:e.kind=4):0<=e.obj/\e.obj<2:=by
 unfold St.next at a;obtain⟨i,c,rfl⟩:=Option.map_eq_some_iff.1 a;exact Lu b c h
theorem tI{F:Nat}{s:St}{b:Nat}{w:World}(h:di w b s)(a:s.Ok F){t:Int}{e:Ev}(c:s.next t=some e):
  Calls prog 138 #[.pointer (some ⟨b,0,none⟩),.agg #[.int .i64 e.thread,.int .i64 e.kind,.int .i64 e.obj,.bool e.fail]] w fun r d=>r=.returned (.bool (s.may t))/\Below w.heap.size w d:=by
 have:=Il h e (yc a c);rw[St.may_eq a,c];exact this
theorem di.setReg{w:World}{b:Nat}{s:St}(h:di w b s)(t y:Nat)(n:Int)(a:t<s.ts.length)(c:s.ts.length<=4)(d:y<2)(e:(s.th t).r.length=2):
  di (w.setCell ⟨b,2+t*37+35+y,none⟩ (.int .i64 n)) b (s.put t { s.th t with r:=(s.th t).r.set y n }):=by
 rw[add_assoc];exact h.set _ _ n (by omega) (sr s t _ (35+y) n a c (by omega) (CG _ _ y n d e))
theorem di.setAt{w:World}{b:Nat}{s:St}(h:di w b s)(t n:Nat)(a:t<s.ts.length)(c:s.ts.length<=4):
  di (w.setCell ⟨b,2+t*37+33,none⟩ (.int .i64 n)) b (s.put t { s.th t with at_:=n }):=
 h.set _ _ n (by omega) (sr s t _ 33 n a c (by omega) (CL _ _ n))
theorem di.setFuel{w:World}{b:Nat}{s:St}(h:di w b s)(t n:Nat)(a:t<s.ts.length)(c:s.ts.length<=4):
  di (w.setCell ⟨b,2+t*37+34,none⟩ (.int .i64 n)) b (s.put t { s.th t with fuel:=n }):=
 h.set _ _ n (by omega) (sr s t _ 34 n a c (by omega) (CK _ _ n))
theorem di.setVar{w:World}{b:Nat}{s:St}(h:di w b s)(x:Nat)(n:Int)(hx:x<4)(a:s.v.length=4):
  di (w.setCell ⟨b,150+x,none⟩ (.int .i64 n)) b { s with v:=s.v.set x n }:=h.set _ _ n (by omega) (Du s x n hx a)
theorem di.setWho{w:World}{b:Nat}{s:St}(h:di w b s)(x:Nat)(n:Int)(hx:x<2)(a:s.m.length=2):
  di (w.setCell ⟨b,154+x,none⟩ (.int .i64 n)) b { s with m:=s.m.set x n }:=h.set _ _ n (by omega) (Dt s x n hx a)
theorem Only.drewN{b:Nat}{w w':World}(h:Only b w w'){n:Nat}:Only b w (w'.drewN n):=⟨h.os,h.tape,h.output,h.size,h.block⟩
theorem mx(b:Nat)(w:World)(o:Obj):Only b w (w.alloc o):=(Only.refl b w).alloc o
theorem IW{s:St}{b:Nat}{w:World}(h:di w b s)(t:Nat)(d:t<s.ts.length)(f:s.ts.length<=4)(a n:Int)(r x:Nat)(i:r<2)(hx:x<4)(j:(s.th t).r.length=2):
  Calls prog 196 #[.pointer (some ⟨b,0,none⟩),.int .i64 t,.agg #[.int .i64 a,.int .i64 r,.int .i64 x,.int .i64 n]] w fun e c=>e=.returned (.tuple #[])/\di c b (s.put t { s.th t with r:=(s.th t).r.set r (s.v.getD x 0) })/\Only b w c:=by
 have q:=h.lt;have H:=hid h;have k:=hid (h.later (da w (.cells #[.int .i64 a,.int .i64 r,.int .i64 x,.int .i64 n] 63)));have u:=fun o=>k.out.frozen o
 have y:=fun o=>h.frozen o
 clear h;have l:=H.out.num (150+x) (by omega);rw[wa _ _ hx]at l;generalize m:s.v.getD x 0=g at *;clear m;have p:=H.out.num (2+t*37+(35+r)) (by omega);rw[iX _ _ _ (by omega) (by omega),nk,<-add_assoc]at p;go_enter func196,ntmps196;go_wp2
 go_region
 go_wp2;refine bodyPost_end (results_none rfl _ _ _) rfl ⟨rfl,?_,?_⟩
 ·exact((H.out.setReg t r g d f i j).later (da _ _)).drew
 ·exact(((Only.refl b w).setCell _ _).alloc _).drew
theorem C8{s:St}{b:Nat}{w:World}(h:di w b s)(t:Nat)(p:t<s.ts.length)(q:s.ts.length<=4)(a n:Int)(r x:Nat)(u:r<2)(hx:x<4)(d:s.v.length=4):
  Calls prog 197 #[.pointer (some ⟨b,0,none⟩),.int .i64 t,.agg #[.int .i64 a,.int .i64 r,.int .i64 x,.int .i64 n]] w fun e c=>e=.returned (.tuple #[])/\di c b ({ s with v:=s.v.set x ((s.th t).r.getD r 0) })/\Only b w c:=by
 have k:=h.lt;have H:=hid h;have f:=hid (h.later (da w (.cells #[.int .i64 a,.int .i64 r,.int .i64 x,.int .i64 n] 63)));have l:=fun o=>f.out.frozen o
 have m:=fun o=>h.frozen o
 clear h;have y:=H.out.num (150+x) (by omega);have i:=H.out.num (2+t*37+(35+r)) (by omega);rw[iX _ _ _ (by omega) (by omega),nk,<-add_assoc]at i;generalize j:(s.th t).r.getD r 0=g at *;clear j;go_enter func197,ntmps197;go_wp2
 go_region
 go_wp2;refine bodyPost_end (results_none rfl _ _ _) rfl ⟨rfl,?_,?_⟩
 ·exact((H.out.setVar x g hx d).later (da _ _)).drew
 ·exact(((Only.refl b w).setCell _ _).alloc _).drew
theorem DT{s:St}{b:Nat}{w:World}(h:di w b s)(t:Nat)(d:t<s.ts.length)(f:s.ts.length<=4)(a n:Int)(r x:Nat)(g:r<2)(i:(s.th t).r.length=2):
  Calls prog 198 #[.pointer (some ⟨b,0,none⟩),.int .i64 t,.agg #[.int .i64 a,.int .i64 r,.int .i64 x,.int .i64 n]] w fun e c=>e=.returned (.tuple #[])/\di c b (s.put t { s.th t with r:=(s.th t).r.set r n })/\Only b w c:=by
 have l:=h.lt;have H:=hid h;have j:=hid (h.later (da w (.cells #[.int .i64 a,.int .i64 r,.int .i64 x,.int .i64 n] 63)));have m:=fun o=>j.out.frozen o
 have p:=fun o=>h.frozen o
 clear h;have k:=H.out.num (2+t*37+(35+r)) (by omega);rw[iX _ _ _ (by omega) (by omega),nk,<-add_assoc]at k;go_enter func198,ntmps198;go_wp2
 go_region
 go_wp2;refine bodyPost_end (results_none rfl _ _ _) rfl ⟨rfl,?_,?_⟩
 ·exact((H.out.setReg t r n d f g i).later (da _ _)).drew
 ·exact(((Only.refl b w).setCell _ _).alloc _).drew
theorem Nt{s:St}{b:Nat}{w:World}(h:di w b s)(t:Nat)(d:t<s.ts.length)(f:s.ts.length<=4)(a n:Int)(r x:Nat)(i:r<2)(j:(s.th t).r.length=2):
  Calls prog 199 #[.pointer (some ⟨b,0,none⟩),.int .i64 t,.agg #[.int .i64 a,.int .i64 r,.int .i64 x,.int .i64 n]] w fun e c=>e=.returned (.tuple #[])/\di c b (s.put t { s.th t with r:=(s.th t).r.set r (IntKind.i64.wrap ((s.th t).r.getD r 0+n)) })/\Only b w c:=by
 have p:=h.lt;have H:=hid h;have k:=hid (h.later (da w (.cells #[.int .i64 a,.int .i64 r,.int .i64 x,.int .i64 n] 63)));have q:=fun o=>k.out.frozen o
 have u:=fun o=>h.frozen o
 clear h;have l:=H.out.num (2+t*37+(35+r)) (by omega);rw[iX _ _ _ (by omega) (by omega),nk,<-add_assoc]at l;generalize m:(s.th t).r.getD r 0=g at *;clear m;go_enter func199,ntmps199;go_wp2
 go_region
 go_wp2;have e:wrap64 (g+n)=IntKind.i64.wrap (g+n):=by rw[IntKind.wrap_i64];unfold wrap64;first|rfl|omega
 rw[e];refine bodyPost_end (results_none rfl _ _ _) rfl ⟨rfl,?_,?_⟩
 ·exact((H.out.setReg t r (IntKind.i64.wrap (g+n)) d f i j).later (da _ _)).drew
 ·exact(((Only.refl b w).setCell _ _).alloc _).drew
theorem IV{s:St}{b:Nat}{w:World}(h:di w b s)(t:Nat)(_ht:t<s.ts.length)(_h4:s.ts.length<=4)(a n:Int)(r x:Nat)(hx:x<2)(d:s.m.length=2):
  Calls prog 200 #[.pointer (some ⟨b,0,none⟩),.int .i64 t,.agg #[.int .i64 a,.int .i64 r,.int .i64 x,.int .i64 n]] w fun e c=>e=.returned (.tuple #[])/\di c b ({ s with m:=s.m.set x t })/\Only b w c:=by
 have g:=h.lt;have H:=hid h;have f:=hid (h.later (da w (.cells #[.int .i64 a,.int .i64 r,.int .i64 x,.int .i64 n] 63)));have i:=fun o=>f.out.frozen o
 have j:=fun o=>h.frozen o
 clear h;have k:=H.out.num (154+x) (by omega);go_enter func200,ntmps200;go_wp2
 go_region
 go_wp2;refine bodyPost_end (results_none rfl _ _ _) rfl ⟨rfl,?_,?_⟩
 ·exact((H.out.setWho x t hx d).later (da _ _)).drew
 ·exact(((Only.refl b w).setCell _ _).alloc _).drew
theorem Ch{s:St}{b:Nat}{w:World}(h:di w b s)(t:Nat)(_ht:t<s.ts.length)(_h4:s.ts.length<=4)(f n:Int)(r x:Nat)(hx:x<2)(j:s.m.length=2):
  Calls prog 201 #[.pointer (some ⟨b,0,none⟩),.int .i64 t,.agg #[.int .i64 f,.int .i64 r,.int .i64 x,.int .i64 n]] w fun e g=>e=.returned (.tuple #[])/\di g b (if s.who x=t then { s with m:=s.m.set x (-1) }else s)/\Only b w g:=by
 have k:=h.lt;have H:=hid h;have c:=hid (h.later (da w (.cells #[.int .i64 f,.int .i64 r,.int .i64 x,.int .i64 n] 63)));have l:=fun o=>c.out.frozen o
 have p:=fun o=>h.frozen o
 clear h;have d:=H.out.num (154+x) (by omega);rw[ql]at d;have i:s.m.getD x (-1)=s.who x:=rfl;rw[i]at d;clear i
 by_cases a:s.who x=t
 ·rw[if_pos a]
  rw[a]at d;clear a;go_enter func201,ntmps201;go_wp2
  go_quiet (fail)
  go_wp2
  go_region
  go_wp2;refine bodyPost_end (results_none rfl _ _ _) rfl ⟨rfl,?_,?_⟩
  ·exact di.setWho (w:=((w.alloc _).drewN _).drew) c.out x (-1) hx j
  ·exact((mx b w _).drewN.drew).setCell _ _
 ·rw[if_neg a]
  have q:(s.who x==(t:Int))=false:=by simpa using a
  clear a;go_enter func201,ntmps201;go_wp2
  go_quiet (fail)
  go_wp2;refine bodyPost_end (results_none rfl _ _ _) rfl ⟨rfl,?_,?_⟩
  ·exact c.out
  ·exact(mx b w _).drewN
theorem JH{s:St}{b:Nat}{w:World}(h:di w b s)(t:Nat)(j:t<s.ts.length)(k:s.ts.length<=4)(d n:Int)(r x:Nat)(q:r<2):
  Calls prog 202 #[.pointer (some ⟨b,0,none⟩),.int .i64 t,.agg #[.int .i64 d,.int .i64 r,.int .i64 x,.int .i64 n]] w fun e f=>e=.returned (.tuple #[])/\di f b (if (s.th t).r.getD r 0=0 then s else s.put t { s.th t with at_:=x })/\Only b w f:=by
 have l:=h.lt;have H:=hid h;have c:=hid (h.later (da w (.cells #[.int .i64 d,.int .i64 r,.int .i64 x,.int .i64 n] 63)));have m:=fun o=>c.out.frozen o
 have p:=fun o=>h.frozen o
 clear h;have i:=H.out.num (2+t*37+(35+r)) (by omega);rw[iX _ _ _ (by omega) (by omega),nk,<-add_assoc]at i;have u:=H.out.num (2+t*37+33) (by omega)
 by_cases a:(s.th t).r.getD r 0=0
 ·rw[if_pos a]
  rw[a]at i;clear a;go_enter func202,ntmps202;go_wp2
  go_quiet (fail)
  go_wp2;refine bodyPost_end (results_none rfl _ _ _) rfl ⟨rfl,?_,?_⟩
  ·exact c.out
  ·exact(mx b w _).drewN
 ·rw[if_neg a]
  have v:((s.th t).r.getD r 0 != 0)=true:=by simpa using a
  generalize (s.th t).r.getD r 0=g at *;clear a;go_enter func202,ntmps202;go_wp2
  go_quiet (fail)
  go_wp2;refine bodyPost_end (results_none rfl _ _ _) rfl ⟨rfl,?_,?_⟩
  ·exact di.setAt (w:=(w.alloc _).drewN _) c.out t x j k
  ·exact(mx b w _).drewN.setCell _ _
theorem Nb{s:St}{b:Nat}{w:World}(h:di w b s)(t:Nat)(_ht:t<s.ts.length)(_h4:s.ts.length<=4)(a n:Int)(r x:Int):
  Calls prog 203 #[.pointer (some ⟨b,0,none⟩),.int .i64 t,.agg #[.int .i64 a,.int .i64 r,.int .i64 x,.int .i64 n]] w fun e c=>e=.returned (.tuple #[])/\di c b (s)/\Only b w c:=by
 have f:=h.lt;have H:=hid h;have d:=hid (h.later (da w (.cells #[.int .i64 a,.int .i64 r,.int .i64 x,.int .i64 n] 63)));have g:=fun o=>d.out.frozen o
 have i:=fun o=>h.frozen o
 clear h;go_enter func203,ntmps203;go_wp2;refine bodyPost_end (results_none rfl _ _ _) rfl ⟨rfl,?_,?_⟩
 ·exact d.out
 ·exact mx b w _
end
section
open Go.Proofs.Tryz Go.RowKit
theorem LS(w:World):Calls prog 175 #[] w fun r a=>r=.returned (.agg #[.nilFunc,.func (.func 196) #[] #[],.func (.func 197) #[] #[],.func (.func 198) #[] #[],.func (.func 199) #[] #[],.func (.func 200) #[] #[],.func (.func 201) #[] #[],.func (.func 202) #[] #[],.func (.func 203) #[] #[]])/\Below w.heap.size w a:=by
 go_enter func175,ntmps175;go_wp2;refine bodyPost_ret (v:=.agg #[.nilFunc,.func (.func 196) #[] #[],.func (.func 197) #[] #[],.func (.func 198) #[] #[],.func (.func 199) #[] #[],.func (.func 200) #[] #[],.func (.func 201) #[] #[],.func (.func 202) #[] #[],.func (.func 203) #[] #[]]) ?_ rfl ⟨rfl,da w _⟩;simp[results,results175,go_sem]
theorem Only.setNew{b g:Nat}{w a:World}(h:Only b w a)(d:w.heap.size<=g)(o:Nat)(v:Value):Only b w (a.setCell ⟨g,o,none⟩ v):=
 ⟨h.os,h.tape,h.output,by simp[World.setCell];exact h.size,fun k c hb=>(Below.heap_setCell _ _ _ _ (by show k≠g;omega)).trans (h.block k c hb)⟩
theorem Only.set4{b g:Nat}{w c:World}(h:Only b w c)(a:w.heap.size<=g)(v0 v1 v2 d:Value):Only b w ((((c.setCell ⟨g,0,none⟩ v0).setCell ⟨g,1,none⟩ v1).setCell ⟨g,2,none⟩ v2).setCell ⟨g,3,none⟩ d):=
 (((h.setNew a 0 v0).setNew a 1 v1).setNew a 2 v2).setNew a 3 d
theorem di.other{b g:Nat}{w:World}{s:St}(h:di w b s)(a:b≠g)(o:Nat)(v:Value):di (w.setCell ⟨g,o,none⟩ v) b s:=(Below.heap_setCell _ _ _ _ a).trans h
theorem di.other4{b g:Nat}{w:World}{s:St}(h:di w b s)(a:b≠g)(v0 v1 v2 c:Value):di ((((w.setCell ⟨g,0,none⟩ v0).setCell ⟨g,1,none⟩ v1).setCell ⟨g,2,none⟩ v2).setCell ⟨g,3,none⟩ c) b s:=
 (((h.other a 0 v0).other a 1 v1).other a 2 v2).other a 3 c
theorem St.put_th(s:St)(t:Nat)(y:Thr)(a:t<s.ts.length):(s.put t y).th t=y:=by
 unfold St.put St.th;simp only[Int.toNat_natCast];rw[gr _ _ _ _ _ a,if_pos rfl]
theorem St.put_put(s:St)(t:Nat)(y z:Thr):(s.put t y).put t z=s.put t z:=by
 simp[St.put]
theorem St.put_len(s:St)(t:Nat)(y:Thr):(s.put t y).ts.length=s.ts.length:=by
 simp[St.put]
def St.go(s:St)(t:Nat):St:=s.put t { s.th t with fuel:=(s.th t).fuel-1,at_:=(s.th t).at_+1 }
theorem St.go_th(s:St)(t:Nat)(a:t<s.ts.length):(s.go t).th t={ s.th t with fuel:=(s.th t).fuel-1,at_:=(s.th t).at_+1 }:=St.put_th _ _ _ a
theorem di.go{w:World}{b:Nat}{s:St}(h:di w b s)(t f a:Nat)(c:t<s.ts.length)(d:s.ts.length<=4)(g:(s.th t).fuel=f+1)(i:(s.th t).at_=a):
  di ((w.setCell ⟨b,2+t*37+34,none⟩ (.int .i64 f)).setCell ⟨b,2+t*37+33,none⟩ (.int .i64 ((a+1:Nat):Int))) b (s.go t):=by
 have j:=h.setFuel t f c d;have e:=j.setAt t (a+1) (by rw[St.put_len];exact c) (by rw[St.put_len];exact d);rw[St.put_th _ _ _ c,St.put_put]at e;unfold St.go;rw[g,i];exact e
theorem lF(s:St)(t:Nat)(i:Ins)(_ht:t<s.ts.length):s.do_ t i={ s.put t (s.thr t i)with
  v:=if i.kind=2 then s.v.set i.x.toNat (s.reg t i)else s.v
  m:=if i.kind=5 then s.m.set i.x.toNat t else if i.kind=6/\s.who i.x=t then s.m.set i.x.toNat (-1)else s.m }:=rfl
theorem zI(s:St)(t r x:Nat)(n:Int)(a:t<s.ts.length):(s.go t).put t { (s.go t).th t with r:=((s.go t).th t).r.set r ((s.go t).v.getD x 0) }=s.do_ t ⟨1,r,x,n⟩:=by
 rw[St.go_th s t a];unfold St.go;rw[St.put_put,lF s t _ a];rfl
theorem zF(s:St)(t r x:Nat)(n:Int)(a:t<s.ts.length):{ s.go t with v:=(s.go t).v.set x (((s.go t).th t).r.getD r 0) }=s.do_ t ⟨2,r,x,n⟩:=by
 rw[St.go_th s t a,lF s t _ a];rfl
theorem zG(s:St)(t r x:Nat)(n:Int)(a:t<s.ts.length):(s.go t).put t { (s.go t).th t with r:=((s.go t).th t).r.set r n }=s.do_ t ⟨3,r,x,n⟩:=by
 rw[St.go_th s t a];unfold St.go;rw[St.put_put,lF s t _ a];rfl
theorem zK(s:St)(t r x:Nat)(n:Int)(a:t<s.ts.length):(s.go t).put t { (s.go t).th t with r:=((s.go t).th t).r.set r (IntKind.i64.wrap (((s.go t).th t).r.getD r 0+n)) }=s.do_ t ⟨4,r,x,n⟩:=by
 rw[St.go_th s t a];unfold St.go;rw[St.put_put,lF s t _ a];rfl
theorem zH(s:St)(t r x:Nat)(n:Int)(a:t<s.ts.length):{ s.go t with m:=(s.go t).m.set x t }=s.do_ t ⟨5,r,x,n⟩:=by
 rw[lF s t _ a];rfl
theorem um(s:St)(t r x:Nat)(n:Int)(a:t<s.ts.length):(if (s.go t).who x=t then { s.go t with m:=(s.go t).m.set x (-1) }else s.go t)=s.do_ t ⟨6,r,x,n⟩:=by
 have e:(s.go t).who x=s.who x:=rfl;rw[lF s t _ a,e];dsimp only
 by_cases h:s.who x=t
 ·rw[if_pos h];simp only[h,and_self,if_true,Int.toNat_natCast];rfl
 ·rw[if_neg h];simp only[h,and_false,if_false];rfl
theorem un(s:St)(t r x:Nat)(n:Int)(b:t<s.ts.length):(if ((s.go t).th t).r.getD r 0=0 then s.go t else (s.go t).put t { (s.go t).th t with at_:=x })=s.do_ t ⟨7,r,x,n⟩:=by
 rw[St.go_th s t b,lF s t _ b];unfold St.go;rw[St.put_put]
 by_cases h:(s.th t).r.getD r 0=0
 ·have a:s.reg t ⟨7,r,x,n⟩=0:=h
  dsimp only;rw[if_pos h];unfold St.thr;simp only[a,ne_eq,not_true,and_false,if_false];rfl
 ·have a:¬s.reg t ⟨7,r,x,n⟩=0:=h
  dsimp only;rw[if_neg h];unfold St.thr;simp only[a,ne_eq,not_false_eq_true,and_self,if_true,Int.toNat_natCast];rfl
theorem zJ(s:St)(t r x:Nat)(n:Int)(a:t<s.ts.length):s.go t=s.do_ t ⟨8,r,x,n⟩:=by
 rw[lF s t _ a];rfl
end
section
open Go.Lib (hid)
open Go.Proofs.Tryz Go.RowKit
theorem LQ{F:Nat}{s:St}{b:Nat}{w:World}(h:di w b s)(G:s.Ok F)(t:Nat)(i:Ins)(S:s.ins t=some i):
  Calls prog 139 #[.pointer (some ⟨b,0,none⟩),.int .i64 t,.agg #[.int .i64 i.kind,.int .i64 i.r,.int .i64 i.x,.int .i64 i.n]] w fun e q=>e=.returned (.tuple #[])/\di q b (s.do_ t i)/\Only b w q:=by
 obtain⟨u,v,A,o4,o5,o6⟩:=G.obj S;obtain⟨_,U,_⟩:=St.ins_has S
 have hk:i.kind=1∨i.kind=2∨i.kind=3∨i.kind=4∨i.kind=5∨i.kind=6∨i.kind=7∨i.kind=8:=by
  have:=(G.ins_right S).1;unfold gy at this
  repeat' split at this
  all_goals first|omega|(cases this)
 have ae:0<=i.x:=by
  have:=(G.ins_right S).1;unfold gy at this
  repeat' split at this
  all_goals first|(simp only[decide_eq_true_eq]at this;omega)|(cases this)
 obtain⟨k,aa,l⟩:=St.ins_nat S;obtain rfl:t=k:=by omega
 have M:=G.len4;have af:=h.lt;have d:(s.th t).r.length=2:=(G.thr _ (St.th_mem l)).1;have j:=G.vl;have g:=G.ml;obtain⟨E,r,x,n⟩:=i;dsimp only at *
 obtain⟨r,rfl⟩:∃y:Nat,r=y:=⟨r.toNat,by omega⟩
 obtain⟨x,rfl⟩:∃y:Nat,x=y:=⟨x.toNat,by omega⟩
 obtain⟨f,U⟩:∃f,(s.th t).fuel=f+1:=⟨(s.th t).fuel-1,by simp at U;omega⟩
 have c0:=h.num (2+t*37+34) (by omega);rw[iX _ _ _ (by omega) (by omega),vL,U,Int.natCast_add]at c0;have c1:=h.num (2+t*37+33) (by omega);rw[iX _ _ _ (by omega) (by omega),vM]at c1;have ag:f<=1000:=by have:=(G.thr _ (St.th_mem l)).2.2;have:=G.f8;omega
 have ah:(s.th t).at_<=8:=by have:=G.place t l;have:=G.code8 t l;omega
 have HG:=hid (h.go t f (s.th t).at_ l M U rfl);have ab:=fun o=>h.frozen o
 generalize (s.th t).at_=a at *;have H:=hid h;have OK:=hid G;have Z:=hid hk;have O:=hid (And.intro d (And.intro j (And.intro g (And.intro u (And.intro v A)))));clear h G hk U S aa d j g u v A o6;go_enter func139,ntmps139;go_wp2;have P:Hid (di (((w.setCell ⟨b,2+t*37+34,none⟩ (.int .i64 f)).setCell ⟨b,2+t*37+33,none⟩ (.int .i64 (a+1))).alloc (.cells #[.int .i64 E,.int .i64 r,.int .i64 x,.int .i64 n] 63)) b (s.go t)):=HG.out.later (da _ _);have Q:Hid (Only b w (((w.setCell ⟨b,2+t*37+34,none⟩ (.int .i64 f)).setCell ⟨b,2+t*37+33,none⟩ (.int .i64 (a+1))).alloc (.cells #[.int .i64 E,.int .i64 r,.int .i64 x,.int .i64 n] 63))):=(((Only.refl b w).setCell _ _).setCell _ _).alloc _;have HZ:Hid (w.heap.size<(((w.setCell ⟨b,2+t*37+34,none⟩ (.int .i64 f)).setCell ⟨b,2+t*37+33,none⟩ (.int .i64 (a+1))).alloc (.cells #[.int .i64 E,.int .i64 r,.int .i64 x,.int .i64 n] 63)).heap.size):=by show _<_;simp[World.setCell]
 have T:Hid ((((w.setCell ⟨b,2+t*37+34,none⟩ (.int .i64 f)).setCell ⟨b,2+t*37+33,none⟩ (.int .i64 (a+1))).alloc (.cells #[.int .i64 E,.int .i64 r,.int .i64 x,.int .i64 n] 63)).heap[w.heap.size]?=some (.cells #[.int .i64 E,.int .i64 r,.int .i64 x,.int .i64 n] 63 (0,0))):=by
  show _=_;have:=heap_alloc_new ((w.setCell ⟨b,2+t*37+34,none⟩ (.int .i64 f)).setCell ⟨b,2+t*37+33,none⟩ (.int .i64 (a+1))) (.cells #[.int .i64 E,.int .i64 r,.int .i64 x,.int .i64 n] 63);simpa [World.setCell]using this
 clear c0 c1 ab HG H;generalize ((w.setCell ⟨b,2+t*37+34,none⟩ (.int .i64 f)).setCell ⟨b,2+t*37+33,none⟩ (.int .i64 (a+1))).alloc (.cells #[.int .i64 E,.int .i64 r,.int .i64 x,.int .i64 n] 63)=W at *;generalize w.heap.size=I at *;have V:=HZ.out
 have HQ:Hid (∀q,Below W.heap.size W q->q.cell? ⟨I,0,none⟩=some (.int .i64 E)/\Below W.heap.size W q):=fun q h=>⟨by rw[h.cell (p:=⟨I,0,none⟩) V];simp[World.cell?,T.out],h⟩
 have ac:Hid (∀q,Below W.heap.size W q->q.cell? ⟨I,0,none⟩=some (.int .i64 E)/\q.cell? ⟨I,1,none⟩=some (.int .i64 r)/\q.cell? ⟨I,2,none⟩=some (.int .i64 x)/\q.cell? ⟨I,3,none⟩=some (.int .i64 n)):=fun q h=>by
  refine⟨?_,?_,?_,?_⟩
  ·rw[h.cell (p:=⟨I,0,none⟩) V];simp[World.cell?,T.out]
  ·rw[h.cell (p:=⟨I,1,none⟩) V];simp[World.cell?,T.out]
  ·rw[h.cell (p:=⟨I,2,none⟩) V];simp[World.cell?,T.out]
  ·rw[h.cell (p:=⟨I,3,none⟩) V];simp[World.cell?,T.out]
 have N:Below W.heap.size W W.drew:=(Below.refl _ _).drew;clear HZ T
 obtain⟨L,hL⟩:∃L:Array Value,L=#[.nilFunc,.func (.func 196) #[] #[],.func (.func 197) #[] #[],.func (.func 198) #[] #[],.func (.func 199) #[] #[],.func (.func 200) #[] #[],.func (.func 201) #[] #[],.func (.func 202) #[] #[],.func (.func 203) #[] #[]]:=⟨_,rfl⟩
 obtain⟨J,B,ad⟩:∃J,L[E.toNat]?=some J/\∀q,(Instr.index 264 (.agg L) (.int .i64 E)).run prog q=.ok J q:=by
  obtain⟨z,rfl⟩:∃z:Nat,E=z:=⟨E.toNat,by have:=Z.out;omega⟩
  have X:z<9:=by have:=Z.out;omega
  have hl:z<L.size:=by rw[hL];simpa using X
  exact⟨L[z],by simp[hl],fun q=>oH q z underlying264 underlying263 rfl (by kernel_rfl) X (by simp[hl])⟩
 subst hL
 go_region_held3 (fun q=>q.cell? ⟨I,0,none⟩=some (.int .i64 E)/\Below W.heap.size W q) (first|exact HQ.out _ N|exact HQ.out _ c)
  (first|(go_at_call 175;refine(LS _).mono ?_;rintro R ai⟨rfl,Y⟩;have c:=N.trans (Y.mono N.size)))
 obtain⟨q0,q1,q2,q3⟩:=ac.out _ c;clear N ad;rcases Z.out with rfl|rfl|rfl|rfl|rfl|rfl|rfl|rfl
 ·cases (show some (Value.func (.func 196) #[] #[])=some J from B)
  go_wp2_with fail
  obtain⟨d,j,g,u,v,A⟩:=O.out;refine(IW (P.out.later c) t (by rw[St.go,St.put_len];exact l) (by rw[St.go,St.put_len];exact M) _ _ r x (by omega) (by have:=u (by simp);omega) (by rw[St.go_th _ _ l];exact d)).mono ?_;rintro R D⟨rfl,m,C⟩;clear d j g u v A;rw[zI s t r x n l]at m;go_wp2;exact bodyPost_end (results_none rfl _ _ _) rfl ⟨rfl,m,(Q.out.trans (.of_below c)).trans C⟩
 ·cases (show some (Value.func (.func 197) #[] #[])=some J from B)
  go_wp2_with fail
  obtain⟨d,j,g,u,v,A⟩:=O.out;refine(C8 (P.out.later c) t (by rw[St.go,St.put_len];exact l) (by rw[St.go,St.put_len];exact M) _ _ r x (by omega) (by have:=u (by simp);omega) j).mono ?_;rintro R D⟨rfl,m,C⟩;clear d j g u v A;rw[zF s t r x n l]at m;go_wp2;exact bodyPost_end (results_none rfl _ _ _) rfl ⟨rfl,m,(Q.out.trans (.of_below c)).trans C⟩
 ·cases (show some (Value.func (.func 198) #[] #[])=some J from B)
  go_wp2_with fail
  obtain⟨d,j,g,u,v,A⟩:=O.out;refine(DT (P.out.later c) t (by rw[St.go,St.put_len];exact l) (by rw[St.go,St.put_len];exact M) _ _ r x (by omega) (by rw[St.go_th _ _ l];exact d)).mono ?_;rintro R D⟨rfl,m,C⟩;clear d j g u v A;rw[zG s t r x n l]at m;go_wp2;exact bodyPost_end (results_none rfl _ _ _) rfl ⟨rfl,m,(Q.out.trans (.of_below c)).trans C⟩
 ·cases (show some (Value.func (.func 199) #[] #[])=some J from B)
  go_wp2_with fail
  obtain⟨d,j,g,u,v,A⟩:=O.out;refine(Nt (P.out.later c) t (by rw[St.go,St.put_len];exact l) (by rw[St.go,St.put_len];exact M) _ _ r x (by omega) (by rw[St.go_th _ _ l];exact d)).mono ?_;rintro R D⟨rfl,m,C⟩;clear d j g u v A;rw[zK s t r x n l]at m;go_wp2;exact bodyPost_end (results_none rfl _ _ _) rfl ⟨rfl,m,(Q.out.trans (.of_below c)).trans C⟩
 ·cases (show some (Value.func (.func 200) #[] #[])=some J from B)
  go_wp2_with fail
  obtain⟨d,j,g,u,v,A⟩:=O.out;refine(IV (P.out.later c) t (by rw[St.go,St.put_len];exact l) (by rw[St.go,St.put_len];exact M) _ _ r x (by have:=v (by simp);omega) g).mono ?_;rintro R D⟨rfl,m,C⟩;clear d j g u v A;rw[zH s t r x n l]at m;go_wp2;exact bodyPost_end (results_none rfl _ _ _) rfl ⟨rfl,m,(Q.out.trans (.of_below c)).trans C⟩
 ·cases (show some (Value.func (.func 201) #[] #[])=some J from B)
  go_wp2_with fail
  obtain⟨d,j,g,u,v,A⟩:=O.out;refine(Ch (P.out.later c) t (by rw[St.go,St.put_len];exact l) (by rw[St.go,St.put_len];exact M) _ _ r x (by have:=v (by simp);omega) g).mono ?_;rintro R D⟨rfl,m,C⟩;clear d j g u v A;rw[um s t r x n l]at m;go_wp2;exact bodyPost_end (results_none rfl _ _ _) rfl ⟨rfl,m,(Q.out.trans (.of_below c)).trans C⟩
 ·cases (show some (Value.func (.func 202) #[] #[])=some J from B)
  go_wp2_with fail
  obtain⟨d,j,g,u,v,A⟩:=O.out;refine(JH (P.out.later c) t (by rw[St.go,St.put_len];exact l) (by rw[St.go,St.put_len];exact M) _ _ r x (by omega)).mono ?_;rintro R D⟨rfl,m,C⟩;clear d j g u v A;rw[un s t r x n l]at m;go_wp2;exact bodyPost_end (results_none rfl _ _ _) rfl ⟨rfl,m,(Q.out.trans (.of_below c)).trans C⟩
 ·cases (show some (Value.func (.func 203) #[] #[])=some J from B)
  go_wp2_with fail
  obtain⟨d,j,g,u,v,A⟩:=O.out;refine(Nb (P.out.later c) t (by rw[St.go,St.put_len];exact l) (by rw[St.go,St.put_len];exact M) _ _ r x).mono ?_;rintro R D⟨rfl,m,C⟩;clear d j g u v A;rw[zJ s t r x n l]at m;go_wp2;exact bodyPost_end (results_none rfl _ _ _) rfl ⟨rfl,m,(Q.out.trans (.of_below c)).trans C⟩
def jp(x:Int × Ev × St):Value:=.tuple #[jv x.2.1,.int .i64 x.1]
theorem nm(e:Int)(s:St):jp (e,iR,s)=.tuple #[.agg #[.int .i64 0,.int .i64 0,.int .i64 0,.bool false],.int .i64 e]:=rfl
theorem qk(e:Ev)(s:St):jp (0,e,s)=.tuple #[.agg #[.int .i64 e.thread,.int .i64 e.kind,.int .i64 e.obj,.bool e.fail],.int .i64 0]:=rfl
theorem Dd{F:Nat}{s:St}{b:Nat}{w:World}(h:di w b s)(_ok:s.Ok F)(t:Int)(hb:eK t s.ts.length=false):
  Calls prog 92 #[.pointer (some ⟨b,0,none⟩),.int .i64 t] w fun e c=>e=.returned (jp (s.step t))/\di c b (s.step t).2.2/\Only b w c:=by
 have a:s.step t=(2,iR,s):=by
  unfold St.step;rw[if_neg (fun e=>by unfold St.has at e;simp[eK]at hb;omega)]
 rw[a,nm];have g:=h.lt;have d:=h.num 0 (by omega);rw[np]at d;have f:=hid (h.later (da w (.cells #[.int .i64 0,.int .i64 0,.int .i64 0,.bool false] 112)));clear a h;go_enter func92,ntmps92
 go_wp2_with (go_at_call 86;refine(kr _ _ _).mono ?_;rintro r c ⟨rfl,rfl⟩)
 refine bodyPost_ret (v:=.tuple #[.agg #[.int .i64 0,.int .i64 0,.int .i64 0,.bool false],.int .i64 2]) (by simp[results,results92,go_sem]) rfl ⟨rfl,?_,?_⟩
 ·exact f.out
 ·exact mx b w _
theorem Dg{F:Nat}{s:St}{b:Nat}{w:World}(h:di w b s)(i:s.Ok F)(t:Int)(hb:eK t s.ts.length=true)(f:s.ins t=none):
  Calls prog 92 #[.pointer (some ⟨b,0,none⟩),.int .i64 t] w fun e g=>e=.returned (jp (s.step t))/\di g b (s.step t).2.2/\Only b w g:=by
 have c:s.step t=(6,iR,s):=by
  unfold St.step;rw[if_pos (by unfold St.has;simpa [eK]using hb),f]
 rw[c,nm];have y:=h.lt;have j:=h.num 0 (by omega);rw[np]at j;have k:=hid (h.later (da w (.cells #[.int .i64 0,.int .i64 0,.int .i64 0,.bool false] 112)));have l:=hid i;have m:=hid f;clear c h i f;go_enter func92,ntmps92
 go_wp2_with (go_at_call 86;refine(kr _ _ _).mono ?_;rintro r g ⟨rfl,rfl⟩)
 refine(po k.out l.out t).mono ?_;rw[m.out,pp];rintro r d⟨rfl,a⟩;have n:w.heap.size<d.heap.size:=by have:=a.size;simp at this;omega
 have q:∀o,d.cell? ⟨w.heap.size,o,none⟩=(w.alloc (.cells #[.int .i64 0,.int .i64 0,.int .i64 0,.bool false] 112)).cell? ⟨w.heap.size,o,none⟩:=fun o=>a.cell (p:=⟨w.heap.size,o,none⟩) (by simp)
 have z:∀o,d.frozen? ⟨w.heap.size,o,none⟩=(w.alloc (.cells #[.int .i64 0,.int .i64 0,.int .i64 0,.bool false] 112)).frozen? ⟨w.heap.size,o,none⟩:=fun o=>a.frozen (p:=⟨w.heap.size,o,none⟩) (by simp)
 have u:=hid (k.out.later a);have x:=hid ((mx b w (.cells #[.int .i64 0,.int .i64 0,.int .i64 0,.bool false] 112)).trans (.of_below a));have A:Hid (Below w.heap.size w d):=(da w _).trans (a.mono (by simp));clear a j;go_wp2;refine bodyPost_ret (v:=.tuple #[.agg #[.int .i64 0,.int .i64 0,.int .i64 0,.bool false],.int .i64 6]) (by simp[results,results92,go_sem,q,n]) rfl ⟨rfl,?_,?_⟩
 ·exact(u.out.other4 (by omega) _ _ _ _).later (da _ _)
 ·exact(x.out.set4 (Nat.le_refl _) _ _ _ _).alloc _
theorem Dc{F:Nat}{s:St}{b:Nat}{w:World}(h:di w b s)(N:s.Ok F)(t:Nat)(i:Ins)(l:s.ins t=some i)(y:s.may t=false):
  Calls prog 92 #[.pointer (some ⟨b,0,none⟩),.int .i64 t] w fun e z=>e=.returned (jp (s.step t))/\di z b (s.step t).2.2/\Only b w z:=by
 obtain⟨k,I,ht⟩:=St.ins_nat l;obtain rfl:t=k:=by omega
 have hb:eK t s.ts.length=true:=by simp[eK];omega
 have A:s.next t=some (s.ev t i):=by unfold St.next;rw[l];rfl
 have m:s.step t=(9,iR,s):=by
  unfold St.step;rw[if_pos (by unfold St.has;omega),l];simp only[y];rfl
 rw[m,nm];clear m;have Y:=h.lt;have O:=h.num 0 (by omega);rw[np]at O;have B:=hid (h.later (da w (.cells #[.int .i64 0,.int .i64 0,.int .i64 0,.bool false] 112)));have C:=hid N;have P:=hid l;have R:=hid y
 obtain⟨e,D⟩:∃e,e=s.ev t i:=⟨_,rfl⟩
 rw[<-D]at A;have S:=hid D;have T:=hid A;clear h N l I y D A;go_enter func92,ntmps92
 go_wp2_with (go_at_call 86;refine(kr _ _ _).mono ?_;rintro r z ⟨rfl,rfl⟩)
 refine(po B.out C.out t).mono ?_;rw[P.out,qV];rintro r a⟨rfl,d⟩;have Q:w.heap.size<a.heap.size:=by have:=d.size;simp at this;omega
 have U:∀o,a.cell? ⟨w.heap.size,o,none⟩=(w.alloc (.cells #[.int .i64 0,.int .i64 0,.int .i64 0,.bool false] 112)).cell? ⟨w.heap.size,o,none⟩:=fun o=>d.cell (p:=⟨w.heap.size,o,none⟩) (by simp)
 have hf:∀o,a.frozen? ⟨w.heap.size,o,none⟩=(w.alloc (.cells #[.int .i64 0,.int .i64 0,.int .i64 0,.bool false] 112)).frozen? ⟨w.heap.size,o,none⟩:=fun o=>d.frozen (p:=⟨w.heap.size,o,none⟩) (by simp)
 have E:=hid ((B.out.later d).later (da a (.cells #[.int .i64 i.kind,.int .i64 i.r,.int .i64 i.x,.int .i64 i.n] 63)));have V:Hid (Below w.heap.size w a):=(da w _).trans (d.mono (by simp));clear d O B;go_wp2_with fail;refine(ux E.out C.out P.out).mono ?_;rw[<-S.out,jv];rintro r c⟨rfl,f⟩;have J:a.heap.size<c.heap.size:=by have:=f.size;simp at this;omega
 have q:w.heap.size<c.heap.size:=by omega
 have G:Hid (Below a.heap.size a c):=(da a _).trans (f.mono (by simp));have L:∀o,c.cell? ⟨w.heap.size,o,none⟩=a.cell? ⟨w.heap.size,o,none⟩:=fun o=>G.out.cell (p:=⟨w.heap.size,o,none⟩) Q
 have Z:∀o,c.frozen? ⟨w.heap.size,o,none⟩=a.frozen? ⟨w.heap.size,o,none⟩:=fun o=>G.out.frozen (p:=⟨w.heap.size,o,none⟩) Q
 have aa:∀o,c.cell? ⟨a.heap.size,o,none⟩=(a.alloc (.cells #[.int .i64 i.kind,.int .i64 i.r,.int .i64 i.x,.int .i64 i.n] 63)).cell? ⟨a.heap.size,o,none⟩:=fun o=>f.cell (p:=⟨a.heap.size,o,none⟩) (by simp)
 have H:=hid ((E.out.later f).later (da c (.cells #[.int .i64 e.thread,.int .i64 e.kind,.int .i64 e.obj,.bool e.fail] 112)));clear f E;go_wp2_with fail;refine(tI H.out C.out T.out).mono ?_;rw[R.out];rintro r j⟨rfl,g⟩;have ab:c.heap.size<j.heap.size:=by have:=g.size;simp at this;omega
 have ac:a.heap.size<j.heap.size:=by omega
 have ad:w.heap.size<j.heap.size:=by omega
 have u:Hid (Below c.heap.size c j):=(da c _).trans (g.mono (by simp));have M:∀o,j.cell? ⟨w.heap.size,o,none⟩=c.cell? ⟨w.heap.size,o,none⟩:=fun o=>u.out.cell (p:=⟨w.heap.size,o,none⟩) q
 have ae:∀o,j.frozen? ⟨w.heap.size,o,none⟩=c.frozen? ⟨w.heap.size,o,none⟩:=fun o=>u.out.frozen (p:=⟨w.heap.size,o,none⟩) q
 have af:∀o,j.cell? ⟨a.heap.size,o,none⟩=c.cell? ⟨a.heap.size,o,none⟩:=fun o=>u.out.cell (p:=⟨a.heap.size,o,none⟩) J
 have ag:∀o,j.cell? ⟨c.heap.size,o,none⟩=(c.alloc (.cells #[.int .i64 e.thread,.int .i64 e.kind,.int .i64 e.obj,.bool e.fail] 112)).cell? ⟨c.heap.size,o,none⟩:=fun o=>g.cell (p:=⟨c.heap.size,o,none⟩) (by simp)
 have W:=hid (H.out.later g);have X:Hid (Below w.heap.size w j):=(V.out.trans (G.out.mono (by omega))).trans (u.out.mono (by omega));clear g H;go_wp2;refine bodyPost_ret (v:=.tuple #[.agg #[.int .i64 0,.int .i64 0,.int .i64 0,.bool false],.int .i64 9]) (by simp[results,results92,go_sem,U,L,M]) rfl ⟨rfl,?_,?_⟩
 ·exact W.out.other4 (by omega) _ _ _ _
 ·exact(Only.of_below X.out).set4 (Nat.le_refl _) _ _ _ _
theorem Dj{F:Nat}{s:St}{b:Nat}{w:World}(h:di w b s)(Y:s.Ok F)(t:Nat)(i:Ins)(y:s.ins t=some i)(G:s.may t=true):
  Calls prog 92 #[.pointer (some ⟨b,0,none⟩),.int .i64 t] w fun e H=>e=.returned (jp (s.step t))/\di H b (s.step t).2.2/\Only b w H:=by
 obtain⟨k,S,ht⟩:=St.ins_nat y;obtain rfl:t=k:=by omega
 have hb:eK t s.ts.length=true:=by simp[eK];omega
 have I:s.next t=some (s.ev t i):=by unfold St.next;rw[y];rfl
 have z:s.step t=(0,s.ev t i,s.do_ t i):=by
  unfold St.step;rw[if_pos (by unfold St.has;omega),y];simp only[G];rfl
 rw[z,qk];clear z;dsimp only;have aa:=h.lt;have Z:=h.num 0 (by omega);rw[np]at Z;have J:=hid (h.later (da w (.cells #[.int .i64 0,.int .i64 0,.int .i64 0,.bool false] 112)));have D:=hid Y;have L:=hid y;have HM:=hid G
 obtain⟨e,M⟩:∃e,e=s.ev t i:=⟨_,rfl⟩
 rw[<-M]at I ⊢;have HE:=hid M;have HN:=hid I;clear h Y y S G M I;go_enter func92,ntmps92
 go_wp2_with (go_at_call 86;refine(kr _ _ _).mono ?_;rintro r H ⟨rfl,rfl⟩)
 refine(po J.out D.out t).mono ?_;rw[L.out,qV];rintro r c⟨rfl,f⟩;have hz:w.heap.size<c.heap.size:=by have:=f.size;simp at this;omega
 have hc:∀o,c.cell? ⟨w.heap.size,o,none⟩=(w.alloc (.cells #[.int .i64 0,.int .i64 0,.int .i64 0,.bool false] 112)).cell? ⟨w.heap.size,o,none⟩:=fun o=>f.cell (p:=⟨w.heap.size,o,none⟩) (by simp)
 have hf:∀o,c.frozen? ⟨w.heap.size,o,none⟩=(w.alloc (.cells #[.int .i64 0,.int .i64 0,.int .i64 0,.bool false] 112)).frozen? ⟨w.heap.size,o,none⟩:=fun o=>f.frozen (p:=⟨w.heap.size,o,none⟩) (by simp)
 have N:=hid ((J.out.later f).later (da c (.cells #[.int .i64 i.kind,.int .i64 i.r,.int .i64 i.x,.int .i64 i.n] 63)));have B1:Hid (Below w.heap.size w c):=(da w _).trans (f.mono (by simp));clear f Z J;go_wp2_with fail;refine(ux N.out D.out L.out).mono ?_;rw[<-HE.out,jv];rintro r a⟨rfl,j⟩;have T:c.heap.size<a.heap.size:=by have:=j.size;simp at this;omega
 have A:w.heap.size<a.heap.size:=by omega
 have O:Hid (Below c.heap.size c a):=(da c _).trans (j.mono (by simp));have U:∀o,a.cell? ⟨w.heap.size,o,none⟩=c.cell? ⟨w.heap.size,o,none⟩:=fun o=>O.out.cell (p:=⟨w.heap.size,o,none⟩) hz
 have ab:∀o,a.frozen? ⟨w.heap.size,o,none⟩=c.frozen? ⟨w.heap.size,o,none⟩:=fun o=>O.out.frozen (p:=⟨w.heap.size,o,none⟩) hz
 have ac:∀o,a.cell? ⟨c.heap.size,o,none⟩=(c.alloc (.cells #[.int .i64 i.kind,.int .i64 i.r,.int .i64 i.x,.int .i64 i.n] 63)).cell? ⟨c.heap.size,o,none⟩:=fun o=>j.cell (p:=⟨c.heap.size,o,none⟩) (by simp)
 have P:=hid ((N.out.later j).later (da a (.cells #[.int .i64 e.thread,.int .i64 e.kind,.int .i64 e.obj,.bool e.fail] 112)));clear j N;go_wp2_with fail;refine(tI P.out D.out HN.out).mono ?_;rw[HM.out];rintro r d⟨rfl,l⟩;have V:a.heap.size<d.heap.size:=by have:=l.size;simp at this;omega
 have ad:c.heap.size<d.heap.size:=by omega
 have B:w.heap.size<d.heap.size:=by omega
 have E:Hid (Below a.heap.size a d):=(da a _).trans (l.mono (by simp));have W:∀o,d.cell? ⟨w.heap.size,o,none⟩=a.cell? ⟨w.heap.size,o,none⟩:=fun o=>E.out.cell (p:=⟨w.heap.size,o,none⟩) A
 have ae:∀o,d.frozen? ⟨w.heap.size,o,none⟩=a.frozen? ⟨w.heap.size,o,none⟩:=fun o=>E.out.frozen (p:=⟨w.heap.size,o,none⟩) A
 have af:∀o,d.cell? ⟨c.heap.size,o,none⟩=a.cell? ⟨c.heap.size,o,none⟩:=fun o=>E.out.cell (p:=⟨c.heap.size,o,none⟩) T
 have ag:∀o,d.cell? ⟨a.heap.size,o,none⟩=(a.alloc (.cells #[.int .i64 e.thread,.int .i64 e.kind,.int .i64 e.obj,.bool e.fail] 112)).cell? ⟨a.heap.size,o,none⟩:=fun o=>l.cell (p:=⟨a.heap.size,o,none⟩) (by simp)
 have H3:=hid (P.out.later l);have W3:Hid (Below w.heap.size w d):=(B1.out.trans (O.out.mono (by omega))).trans (E.out.mono (by omega));clear l P;go_wp2_with fail;refine(LQ H3.out D.out t i L.out).mono ?_;rintro r q⟨rfl,C,m⟩;have ah:a.heap.size<q.heap.size:=by have:=m.size;omega
 have ai:w.heap.size<q.heap.size:=by omega
 have Q:∀g o,g<d.heap.size->g≠b->q.cell? ⟨g,o,none⟩=d.cell? ⟨g,o,none⟩:=fun g o R u=>World.cell?_of_block (w:=d) (m.block g R u)
 have fl:∀g o,g<d.heap.size->g≠b->q.frozen? ⟨g,o,none⟩=d.frozen? ⟨g,o,none⟩:=fun g o R u=>World.frozen?_of_block (w:=d) (m.block g R u)
 have X:∀o,q.cell? ⟨w.heap.size,o,none⟩=d.cell? ⟨w.heap.size,o,none⟩:=fun o=>Q _ o B (by omega)
 have aj:∀o,q.frozen? ⟨w.heap.size,o,none⟩=d.frozen? ⟨w.heap.size,o,none⟩:=fun o=>fl _ o B (by omega)
 have ak:∀o,q.cell? ⟨a.heap.size,o,none⟩=d.cell? ⟨a.heap.size,o,none⟩:=fun o=>Q _ o V (by omega)
 have HS:=hid C;have HO:=hid m;clear C m Q fl;go_wp2;refine bodyPost_ret (v:=.tuple #[.agg #[.int .i64 e.thread,.int .i64 e.kind,.int .i64 e.obj,.bool e.fail],.int .i64 0]) (by simp[results,results92,go_sem,hc,U,W,X]) rfl ⟨rfl,?_,?_⟩
 ·exact HS.out.other4 (by omega) _ _ _ _
 ·exact(Only.trans (.of_below W3.out) HO.out).set4 (Nat.le_refl _) _ _ _ _
theorem vX{F:Nat}{s:St}{b:Nat}{w:World}(h:di w b s)(a:s.Ok F)(t:Int):
  Calls prog 92 #[.pointer (some ⟨b,0,none⟩),.int .i64 t] w fun e d=>e=.returned (jp (s.step t))/\di d b (s.step t).2.2/\Only b w d:=by
 cases hb:eK t s.ts.length
 ·exact Dd h a t hb
 ·cases c:s.ins t with
  |none=>exact Dg h a t hb c
  |some i=>
   obtain⟨k,rfl,_⟩:=St.ins_nat c
   cases f:s.may k
   ·exact Dc h a k i c f
   ·exact Dj h a k i c f
end
section
open Go.RowKit
def gn(l:List Ins):List Value:=l.flatMap fun i=>[.int .i64 i.kind,.int .i64 i.r,.int .i64 i.x,.int .i64 i.n]
theorem pq(l:List Ins):(gn l).length=l.length*4:=by
 induction l with
 |nil=>rfl
 |cons i l a=>simp only[gn,List.flatMap_cons,List.length_append,List.length_cons,List.length_nil]at *;omega
theorem pr(l:List Ins)(i j:Nat)(h:i<l.length)(a:j<4):
  (gn l)[i*4+j]?=[Value.int .i64 l[i].kind,.int .i64 l[i].r,.int .i64 l[i].x,.int .i64 l[i].n][j]?:=by
 induction l generalizing i with
 |nil=>simp at h
 |cons x l b=>
  cases i with
  |zero=>
   simp only[gn,List.flatMap_cons,Nat.zero_mul,Nat.zero_add,List.getElem_cons_zero];rw[List.getElem?_append_left (by simpa using a)]
  |succ i=>
   have:=b i (by simpa using h);simp only[gn,List.flatMap_cons,List.getElem_cons_succ]at *;rw[List.getElem?_append_right (by simp;omega),<-this]
   congr 1
   simp;omega
theorem zk(l:List Ins):∀v∈gn l,v.oneCell'=true:=by
 intro v a;simp only[gn,List.mem_flatMap]at a;obtain⟨i,_,a⟩:=a;simp at a
 rcases a with rfl|rfl|rfl|rfl <;> rfl
theorem ip.cells{w:World}{b o:Nat}{l:List Ins}(h:ip w (some ⟨b,o,none⟩) l):
  ∀j v,(gn l)[j]?=some v->w.cell? (Addr.add ⟨b,o,none⟩ j)=some v:=by
 intro j v d;have f:j<(gn l).length:=(List.getElem?_eq_some_iff.1 d).1;rw[pq]at f;have c:j/4<l.length:=by omega
 obtain⟨g,i,e,k⟩:=h.2 (by intro e;simp[e]at c);obtain⟨rfl,rfl⟩:b=g/\o=i:=by simpa using e
 obtain⟨m,n,p,q⟩:=k (j/4) c;have r:j/4*4+j%4=j:=by omega
 have s:j%4<4:=by omega
 have:=pr l (j/4) (j%4) c s;rw[r,d]at this
 have t:Addr.add ⟨b,o,none⟩ j=⟨b,o+j/4*4+j%4,none⟩:=by
  unfold Addr.add
  split
  ·rename_i u;subst u;rfl
  ·simp;omega
 rw[t];obtain h|h|h|h:j%4=0∨j%4=1∨j%4=2∨j%4=3:=by omega
 all_goals
  rw[h]at this ⊢;simp at this;subst this
  first|exact m|exact n|exact p|exact q
theorem Mf{w:World}{g:Nat}{l:List Ins}{t:TypeId}{c:Nat × Nat}(d:l.length<=maxLen)(h:w.heap[g]?=some (.cells (gn l).toArray t c)):ip w (some ⟨g,0,none⟩) l:=by
 refine⟨d,fun _=>⟨g,0,rfl,fun i b=>?_⟩⟩;have e:∀j,w.cell? ⟨g,j,none⟩=(gn l)[j]?:=by intro j;simp[World.cell?,h]
 refine⟨?_,?_,?_,?_⟩
 ·rw[e];simpa using pr l i 0 b (by omega)
 ·rw[e];simpa using pr l i 1 b (by omega)
 ·rw[e];simpa using pr l i 2 b (by omega)
 ·rw[e];simpa using pr l i 3 b (by omega)
end
section
open Go.Proofs.Tryz Go.RowKit
def nJ(l:List Ins):List Int:=l.flatMap fun i=>[i.kind,i.r,i.x,i.n]
theorem ua(l:List Ins):gn l=(nJ l).map (Value.int .i64):=by
 simp[gn,nJ,List.map_flatMap]
theorem zg(l:List Ins):(nJ l).length=l.length*4:=by
 have:=pq l;rw[ua]at this;simpa using this
theorem JZ(l:List Ins)(j:Nat):(nJ l).getD j 0=j7 (l.getD (j/4) jt) (j%4):=by
 induction l generalizing j with
 |nil=>
  simp[nJ];unfold j7 jt
  repeat' split
  all_goals rfl
 |cons i l a=>
  by_cases h:j<4
  ·rw[show j/4=0 by omega,show j%4=j by omega]
   obtain rfl|rfl|rfl|rfl:j=0∨j=1∨j=2∨j=3:=by omega
   all_goals rfl
  ·obtain⟨k,rfl⟩:∃k,j=k+4:=⟨j-4,by omega⟩
   rw[show(k+4)/4=k/4+1 by omega,show(k+4)%4=k%4 by omega];exact a k
def iS(w:World)(g:Nat)(f:Nat->Int):Prop:=w.heap[g]?=some (.cells (eB f) 163 (0,0))
theorem iS.cell{w:World}{g:Nat}{f:Nat->Int}(h:iS w g f)(o:Nat)(a:o<156):w.cell? ⟨g,o,none⟩=some (.int .i64 (f o)):=by
 rw[cell_of_row w g o _ _ _ h,my _ _ a]
theorem iS.frozen{w:World}{g:Nat}{f:Nat->Int}(h:iS w g f)(o:Nat):w.frozen? ⟨g,o,none⟩=false:=by
 simp[World.frozen?,show w.heap[g]?=_ from h]
theorem iS.set{w:World}{g:Nat}{f:Nat->Int}(h:iS w g f)(f':Nat->Int)(o:Nat)(n:Int)(a:o<156)(b:∀j,j<156->f' j=if j=o then n else f j):iS (w.setCell ⟨g,o,none⟩ (.int .i64 n)) g f':=by
 have:=heap_setCell_same w g o _ _ (.int .i64 n) h;rw[qH _ _ o n a b]at this;exact this
theorem GY(f f1:Nat->Int)(o:Nat)(a:List Int)(h:∀j,j<156->f1 j=if o<=j/\j<o+a.length then a.getD (j-o) 0 else f j)(i:o+a.length<=156):
  ((eB f).toList.take o++a.map (Value.int .i64)++(eB f).toList.drop (o+a.length)).toArray=eB f1:=by
 have b:(eB f).toList.length=156:=by simp[eB]
 apply Array.ext_getElem?;intro j;rw[List.getElem?_toArray]
 by_cases c:j<156
 ·rw[my f1 j c,h j c]
  by_cases d:j<o
  ·rw[if_neg (by omega),List.append_assoc,List.getElem?_append_left (by simp[b];omega),List.getElem?_take_of_lt d]
   have:=my f j c;simpa using this
  ·by_cases g:j<o+a.length
   ·rw[if_pos ⟨by omega,g⟩,List.getElem?_append_left (by simp[b];omega),List.getElem?_append_right (by simp[b];omega)]
    have e:j-((eB f).toList.take o).length=j-o:=by simp[b];omega
    rw[e,List.getElem?_map,List.getElem?_eq_getElem (by omega),dV _ (by omega)];rfl
   ·rw[if_neg (by omega),List.getElem?_append_right (by simp[b];omega),List.getElem?_drop]
    have e:o+a.length+(j-((eB f).toList.take o++a.map (Value.int .i64)).length)=j:=by simp[b];omega
    rw[e];have:=my f j c;simpa using this
 ·have d:(eB f1)[j]?=none:=Array.getElem?_eq_none (by rw[kA];omega)
  rw[d,List.getElem?_eq_none];simp[b];omega
theorem Ec(w:World)(g o:Nat)(f f1:Nat->Int)(r:iS w g f)(c:Option Addr)(cap:Nat)(l:List Ins)(n:ip w c l)(s:l.length<=8)(A:o+32<=156)
  (h:∀j,j<156->f1 j=if o<=j/\j<o+l.length*4 then j7 (l.getD ((j-o)/4) jt) ((j-o)%4)else f j):
  (Builtin.copy_ #[64,64] 3 #[.slice (some ⟨g,o,none⟩) 8 8,.slice c l.length cap]).run prog w=.ok (.int .i64 l.length) (w.setRow g (eB f1)):=by
 have p:(prog.info? 63).map (·.size)=some 4:=by kernel_rfl
 have t:Nat.min l.length 8=l.length:=Nat.min_eq_left s
 cases e:prog.info? 63 with
 |none=>simp[e]at p
 |some i=>
  have u:i.size=4:=by simpa [e]using p
  have a:=run_storeCells_at (P:=prog) g o 163 (gn l) 0 _ w r (by rw[pq,kA];omega) (zk l);have k:=GY f f1 o (nJ l) (fun j v=>by rw[h j v,zg,JZ]) (by rw[zg];omega);rw[Nat.add_zero,ua,List.length_map,k]at a
  by_cases q:l=[]
  ·subst q
   have m:∀(x:Addr),(loadCells x 0).run prog w=.ok #[] w:=fun x=>by simpa using run_loadCells_list (P:=prog) w x [] (by simp)
   have d:(storeCells ⟨g,o,none⟩ ([]:List Value)).run prog w=.ok () (w.setRow g (eB f1)):=a
   cases c <;> simp[Builtin.copy_,run_underlying underlying64,Builtin.lenOf,Builtin.firstCells,sizeOf,typeInfo,e,m,d,goInt]
  ·obtain⟨y,z,rfl,_⟩:=n.2 q
   have b:=run_loadCells_list (P:=prog) w ⟨y,z,none⟩ (gn l) n.cells;rw[pq]at b;rw[<-ua]at a;simp[Builtin.copy_,run_underlying underlying64,Builtin.lenOf,Builtin.firstCells,sizeOf,typeInfo,e,u,t,b,a,goInt]
def j4(p:Pg)(F k o:Nat):Int:=if o<2+k*37/\o<150 then eT (St.new p F) o else 0
def k7(p:Pg)(F k o:Nat):Int:=if o<154+k then eT (St.new p F) o else 0
theorem Hg(p:Pg)(F k:Nat)(a:k<p.threads.length):(St.new p F).th k=⟨0,F,[0,0]⟩:=by
 unfold St.th St.new;dsimp only;rw[dV _ (by simpa using a)];simp
theorem Hf(p:Pg)(F k:Nat)(a:p.threads.length<=k):(St.new p F).th k=qi:=by
 unfold St.th St.new;simp[List.getD,a]
theorem Hm(p:Pg)(F k:Nat)(a:k<p.threads.length):(St.new p F).code k=p.threads[k]:=by
 unfold St.code St.new;exact dV _ a
theorem Hl(p:Pg)(F k:Nat)(a:p.threads.length<=k):(St.new p F).code k=[]:=by
 unfold St.code St.new;simp[List.getD,a]
theorem CI(k:Nat):gl [] qi k=0:=by
 unfold gl
 have e:∀n,j7 jt n=0:=fun n=>by
  unfold j7 jt
  repeat' split
  all_goals rfl
 have a:∀n:Nat,([0,0]:List Int).getD n 0=0:=fun n=>match n with|0=>rfl|1=>rfl|n+2=>rfl
 dsimp only[qi]
 by_cases h:k<32
 ·rw[if_pos h];exact e _
 rw[if_neg h]
 by_cases h:k=32
 ·rw[if_pos h];rfl
 rw[if_neg h]
 by_cases h:k=33
 ·rw[if_pos h];rfl
 rw[if_neg h]
 by_cases h:k=34
 ·rw[if_pos h];rfl
 rw[if_neg h];exact a _
theorem Hn(p:Pg)(F o:Nat):j4 p F 0 o=if o=0 then (p.threads.length:Int)else if o=1 then p.mutexes else 0:=by
 unfold j4
 by_cases a:o=0
 ·subst a;simp[np,St.new]
 ·by_cases b:o=1
  ·subst b;simp[Dv,St.new]
  ·rw[if_neg (by omega),if_neg a,if_neg b]
theorem Ho(p:Pg)(F k:Nat)(f:k<p.threads.length)(l:p.threads.length<=4)(m:p.threads[k].length<=8)(f1 f2:Nat->Int)
  (h1:∀j,j<156->f1 j=if 2+k*37<=j/\j<2+k*37+p.threads[k].length*4 then j7 (p.threads[k].getD ((j-(2+k*37))/4) jt) ((j-(2+k*37))%4)else j4 p F k j)
  (h2:∀j,j<156->f2 j=if j=2+k*37+32 then (p.threads[k].length:Int)else f1 j):
  ∀j,j<156->j4 p F (k+1) j=if j=2+k*37+34 then (F:Int)else f2 j:=by
 intro j g;rw[h2 j g,h1 j g];unfold j4
 by_cases a:j<2+k*37
 ·rw[if_pos (by omega),if_neg (by omega),if_neg (by omega),if_neg (by omega),if_pos (by omega)]
 ·by_cases b:j<2+(k+1)*37
  ·obtain⟨d,rfl⟩:∃d,j=2+k*37+d:=⟨j-(2+k*37),by omega⟩
   rw[if_pos (by omega),iX _ _ _ (by omega) (by omega),Hg p F k f,Hm p F k f];have i:2+k*37+d-(2+k*37)=d:=by omega
   rw[i];unfold gl
   by_cases h:d<32
   ·rw[if_pos h,if_neg (by omega),if_neg (by omega)]
    by_cases n:d<p.threads[k].length*4
    ·rw[if_pos (by omega)]
    ·rw[if_neg (by omega),if_neg (by omega)]
     have e:p.threads[k].getD (d/4) jt=jt:=by
      rw[List.getD,List.getElem?_eq_none (by omega)];rfl
     rw[e];unfold j7 jt
     repeat' split
     all_goals rfl
   ·rw[if_neg h,if_neg (c:=2+k*37<=2+k*37+d/\2+k*37+d<2+k*37+p.threads[k].length*4) (by omega),if_neg (c:=2+k*37+d<2+k*37/\2+k*37+d<150) (by omega)]
    obtain rfl|rfl|rfl|rfl|rfl:d=32∨d=33∨d=34∨d=35∨d=36:=by omega
    all_goals simp
  ·rw[if_neg (by omega),if_neg (by omega),if_neg (by omega),if_neg (by omega),if_neg (by omega)]
theorem Hp(p:Pg)(F:Nat):∀j,j<156->j4 p F p.threads.length j=k7 p F 0 j:=by
 intro j f;unfold j4 k7
 by_cases a:j<2+p.threads.length*37/\j<150
 ·rw[if_pos a,if_pos (by omega)]
 ·rw[if_neg a]
  by_cases b:j<150
  ·rw[if_pos (by omega)]
   obtain⟨d,t,rfl,e⟩:∃d t,j=2+t*37+d/\d<37:=⟨(j-2)%37,(j-2)/37,by omega,by omega⟩
   rw[iX _ _ _ (by omega) e,Hf _ _ _ (by omega),Hl _ _ _ (by omega),CI]
  ·by_cases c:j<154
   ·rw[if_pos (by omega)]
    obtain⟨d,rfl⟩:∃d,j=150+d:=⟨j-150,by omega⟩
    rw[wa _ _ (by omega)];obtain rfl|rfl|rfl|rfl:d=0∨d=1∨d=2∨d=3:=by omega
    all_goals rfl
   ·rw[if_neg (by omega)]
theorem Hq(p:Pg)(F k:Nat)(c:k<2):∀j,j<156->k7 p F (k+1) j=if j=154+k then -1 else k7 p F k j:=by
 intro j d;unfold k7
 by_cases a:j=154+k
 ·rw[if_pos (by omega),if_pos a,a,ql]
  obtain rfl|rfl:k=0∨k=1:=by omega
  all_goals rfl
 ·rw[if_neg a]
  by_cases b:j<154+k
  ·rw[if_pos (by omega),if_pos b]
  ·rw[if_neg (by omega),if_neg b]
theorem Hr(p:Pg)(F:Nat):∀j,j<156->k7 p F 2 j=eT (St.new p F) j:=by
 intro j a;unfold k7;rw[if_pos (by omega)]
end
section
open Go.Lib (hid)
open Go.Proofs.Tryz Go.RowKit
open Nat (le_refl zero_le)
theorem Eu(V M:Int)(t:Value)(a:Option Addr)(cap:Nat)(l:List Ins)(w:World)(j:ip w a l):
  Calls prog 132 #[.agg #[.int .i64 V,.int .i64 M,t],.slice a l.length cap] w fun r B=>r=.returned (.bool (gz V M l))/\Below w.heap.size w B:=by
 have C:=j.1;unfold maxLen at C
 by_cases D:l.length<=8
 ·have H:Hid (gz V M l=l.all (gy V M l.length)):=by show _=_;simp[gz,D]
  have E:=hid j;have F:decide (8<l.length)=false:=by simp;omega
  clear j;go_enter func132,ntmps132;go_wp2
  go_loopw [12] (fun i wr=>∃k:Nat,k<=l.length/\i=.int .i64 k/\Hid ((l.take k).all (gy V M l.length)=true)/\Below (w.heap.size+1) (w.alloc (.cells #[.int .i64 V,.int .i64 M,t] 24)) wr) (fun i _=>l.length-(intOf i).toNat)
  case atStart=>exact⟨0,zero_le _,rfl,rfl,Below.refl _ _⟩
  case round=>
   obtain⟨k,G,rfl,d,hb⟩:=hrel
   by_cases f:k<l.length
   ·obtain⟨b,o,rfl,u⟩:=E.out.2 (by intro e;simp[e]at f)
    have c:Below w.heap.size w wr:=((Below.refl _ _).alloc (le_refl _) _).trans (hb.mono (by omega));obtain⟨v,x,y,z⟩:=u k f;have d0:=de c v;have d1:=de c x;have d2:=de c y;have d3:=de c z;have I:wr.cell? ⟨w.heap.size,0,none⟩=some (.int .i64 V):=by rw[hb.cell (p:=⟨w.heap.size,0,none⟩) (by simp)];simp
    have J:wr.cell? ⟨w.heap.size,1,none⟩=some (.int .i64 M):=by rw[hb.cell (p:=⟨w.heap.size,1,none⟩) (by simp)];simp
    have L:wr.cell? ⟨w.heap.size,2,none⟩=some t:=by rw[hb.cell (p:=⟨w.heap.size,2,none⟩) (by simp)];simp
    have N:w.heap.size<wr.heap.size:=by have:=hb.size;simp at this;omega
    clear v x y z u;go_wp2_with fail;refine(Et V M l.length (by omega) (by omega) t l[k] _).mono ?_;rintro r A⟨rfl,q⟩;have h:Below (w.heap.size+1) (w.alloc (.cells #[.int .i64 V,.int .i64 M,t] 24)) A:=(hb.alloc (by omega) _).trans (q.mono (by simp;omega));have s:Below w.heap.size w A:=((Below.refl _ _).alloc (le_refl _) _).trans (h.mono (by omega));have n:(l.take (k+1))=l.take k++[l[k]]:=List.take_succ_eq_append_getElem f
    cases m:gy V M l.length l[k]
    ·have g:Hid (gz V M l=false):=by
      show _=_;rw[H.out,List.all_eq_false];exact⟨l[k],List.getElem_mem _,by simp[m]⟩
     clear m n;go_wp2;go_ret;exact⟨dE g.out.symm,s⟩
    ·have g:Hid ((l.take (k+1)).all (gy V M l.length)=true):=by
      show _=_;rw[n,List.all_append,d.out];simp[m]
     clear m n;go_wp2
     go_roundw
     case rel=>exact⟨k+1,by omega,by go_num,g,h⟩
     case measure=>simp[intOf];omega
   ·obtain rfl:k=l.length:=by omega
    have g:Hid (gz V M l=true):=by
     show _=_;rw[H.out,<-d.out,List.take_length]
    have c:Below w.heap.size w wr:=((Below.refl _ _).alloc (le_refl _) _).trans (hb.mono (by omega));go_wp2;go_ret;exact⟨dE g.out.symm,c⟩
 ·have H:Hid (gz V M l=false):=by show _=_;simp[gz];omega
  have F:8<l.length:=by omega
  clear j;go_enter func132,ntmps132;go_wp2;go_ret;exact⟨dE H.out.symm,da _ _⟩
theorem sF(p:Pg)(a:Option Addr)(cap:Nat)(w:World)(f:dI w a p.threads):
  Calls prog 85 #[kw p a cap] w fun r l=>r=.returned (.bool (dL p))/\Below w.heap.size w l:=by
 obtain⟨V,M,d⟩:=p;unfold kw;dsimp only at *;have E:=f.1;unfold maxLen at E
 cases y:eK V 5
 ·have H:Hid (dL ⟨V,M,d⟩=false):=by
   show _=_;simp[eK]at y;simp[dL];omega
  have m:=hid f;clear f;go_enter func85,ntmps85
  go_wp2_with (go_at_call 131;refine(nY _ _ _).mono ?_;rintro r l ⟨rfl,rfl⟩)
  go_ret;exact⟨dE H.out.symm,da _ _⟩
 cases z:eK M 3
 ·have H:Hid (dL ⟨V,M,d⟩=false):=by
   show _=_;simp[eK]at z;simp[dL];omega
  have m:=hid f;clear f;go_enter func85,ntmps85
  go_wp2_with (go_at_call 131;refine(nY _ _ _).mono ?_;rintro r l ⟨rfl,rfl⟩)
  go_ret;exact⟨dE H.out.symm,da _ _⟩
 by_cases G:d.length<1
 ·have H:Hid (dL ⟨V,M,d⟩=false):=by
   show _=_;simp[dL];omega
  have m:=hid f;clear f;go_enter func85,ntmps85
  go_wp2_with (go_at_call 131;refine(nY _ _ _).mono ?_;rintro r l ⟨rfl,rfl⟩)
  go_ret;exact⟨dE H.out.symm,da _ _⟩
 by_cases I:4<d.length
 ·have H:Hid (dL ⟨V,M,d⟩=false):=by
   show _=_;simp[dL];omega
  have m:=hid f;clear f;go_enter func85,ntmps85
  go_wp2_with (go_at_call 131;refine(nY _ _ _).mono ?_;rintro r l ⟨rfl,rfl⟩)
  go_ret;exact⟨dE H.out.symm,da _ _⟩
 have H:Hid (dL ⟨V,M,d⟩=d.all (gz V M)):=by
  show _=_;simp[eK]at y z;have:decide (0<=V/\V<=4/\0<=M/\M<=2/\1<=d.length/\d.length<=4)=true:=by simp;omega
  unfold dL;dsimp only;rw[this,Bool.true_and]
 have m:=hid f;clear f;go_enter func85,ntmps85
 go_wp2_with (go_at_call 131;refine(nY _ _ _).mono ?_;rintro r l ⟨rfl,rfl⟩)
 go_loopw [28] (fun i wr=>∃k:Nat,k<=d.length/\i=.int .i64 k/\Hid ((d.take k).all (gz V M)=true)/\Below (w.heap.size+1) (w.alloc (.cells #[.int .i64 V,.int .i64 M,.slice a d.length cap] 24)) wr) (fun i _=>d.length-(intOf i).toNat)
 case atStart=>exact⟨0,zero_le _,rfl,rfl,Below.refl _ _⟩
 case round=>
  obtain⟨k,J,rfl,h,hb⟩:=hrel
  by_cases j:k<d.length
  ·obtain⟨b,o,rfl,A⟩:=m.out.2 (by intro e;simp[e]at j)
   have g:Below w.heap.size w wr:=((Below.refl _ _).alloc (le_refl _) _).trans (hb.mono (by omega));obtain⟨c,s,B,C,_⟩:=A k j;have d0:=de g B;have F:=hid (C.later g);have L:wr.cell? ⟨w.heap.size,0,none⟩=some (.int .i64 V):=by rw[hb.cell (p:=⟨w.heap.size,0,none⟩) (by simp)];simp
   have N:wr.cell? ⟨w.heap.size,1,none⟩=some (.int .i64 M):=by rw[hb.cell (p:=⟨w.heap.size,1,none⟩) (by simp)];simp
   have O:wr.cell? ⟨w.heap.size,2,none⟩=some (.slice (some ⟨b,o,none⟩) d.length cap):=by rw[hb.cell (p:=⟨w.heap.size,2,none⟩) (by simp)];simp
   have P:w.heap.size<wr.heap.size:=by have:=hb.size;simp at this;omega
   clear B C A;go_wp2_with fail;refine(Eu V M _ c s d[k] _ F.out).mono ?_;rintro r D⟨rfl,v⟩;have q:Below (w.heap.size+1) (w.alloc (.cells #[.int .i64 V,.int .i64 M,.slice (some ⟨b,o,none⟩) d.length cap] 24)) D:=hb.trans (v.mono (by omega));have x:Below w.heap.size w D:=((Below.refl _ _).alloc (le_refl _) _).trans (q.mono (by omega));have u:(d.take (k+1))=d.take k++[d[k]]:=List.take_succ_eq_append_getElem j
   cases t:gz V M d[k]
   ·have n:Hid (dL ⟨V,M,d⟩=false):=by
     show _=_;rw[H.out,List.all_eq_false];exact⟨d[k],List.getElem_mem _,by simp[t]⟩
    clear t u;go_wp2;go_ret;exact⟨dE n.out.symm,x⟩
   ·have n:Hid ((d.take (k+1)).all (gz V M)=true):=by
     show _=_;rw[u,List.all_append,h.out];simp[t]
    clear t u;go_wp2
    go_roundw
    case rel=>exact⟨k+1,by omega,by go_num,n,q⟩
    case measure=>simp[intOf];omega
  ·obtain rfl:k=d.length:=by omega
   have n:Hid (dL ⟨V,M,d⟩=true):=by
    show _=_;rw[H.out,<-h.out,List.take_length]
   have g:Below w.heap.size w wr:=((Below.refl _ _).alloc (le_refl _) _).trans (hb.mono (by omega));go_wp2;go_ret;exact⟨dE n.out.symm,g⟩
def mY(p:Pg)(fuel:Int)(w:World)(r:Ending)(w':World):Prop:=
 if dL p=true/\0<=fuel/\fuel<=8 then ∃g,r=.returned (.tuple #[.pointer (some ⟨g,0,none⟩),.int .i64 0])/\w.heap.size<=g/\di w' g (St.new p fuel.toNat)/\Below w.heap.size w w'
 else r=.returned (.tuple #[.pointer none,.int .i64 1])/\Below w.heap.size w w'
theorem Hh(p:Pg)(a:Option Addr)(cap:Nat)(fuel:Int)(w:World)(c:dI w a p.threads)(d:dL p=false):
  Calls prog 50 #[.agg #[.int .i64 p.vars,.int .i64 p.mutexes,.slice a p.threads.length cap],.int .i64 fuel] w fun r e=>r=.returned (.tuple #[.pointer none,.int .i64 1])/\Below w.heap.size w e:=by
 have f:=hid d;have g:=hid c;clear d c;go_enter func50,ntmps50;go_wp2_with fail;refine(sF p a cap _ (g.out.later (da w _))).mono ?_;rw[f.out];rintro r h⟨rfl,hb⟩;have b:Below w.heap.size w h:=(da w _).trans (hb.mono (by simp));clear hb;go_wp2;go_ret2;exact⟨rfl,b⟩
theorem Hk(p:Pg)(a:Option Addr)(cap:Nat)(fuel:Int)(w:World)(c:dI w a p.threads)(d:dL p=true)(i:eK fuel 9=false):
  Calls prog 50 #[.agg #[.int .i64 p.vars,.int .i64 p.mutexes,.slice a p.threads.length cap],.int .i64 fuel] w fun r e=>r=.returned (.tuple #[.pointer none,.int .i64 1])/\Below w.heap.size w e:=by
 have f:=hid d;have g:=hid c;clear d c;go_enter func50,ntmps50;go_wp2_with fail;refine(sF p a cap _ (g.out.later (da w _))).mono ?_;rw[f.out];rintro r h⟨rfl,hb⟩;have b:Below w.heap.size w h:=(da w _).trans (hb.mono (by simp));clear hb
 go_wp2_with (go_at_call 86;refine(kr _ _ _).mono ?_;rintro r e ⟨rfl,rfl⟩)
 go_ret2;exact⟨rfl,b⟩
theorem BC:∃Z:Array Value,Z=eB (fun _=>0)/\∀w,(zeroValue 163).run prog w=.ok (.agg Z) w:=
 ⟨_,rfl,(zero_of_info (P:=prog) (t:=163) (v:=.agg (eB fun _=>0)) (n:=156) (by kernel_rfl)).1⟩
theorem He(p:Pg)(a:Option Addr)(cap F:Nat)(w:World)(P:dI w a p.threads)(C:dL p=true)(hF:F<=8):
  Calls prog 50 #[.agg #[.int .i64 p.vars,.int .i64 p.mutexes,.slice a p.threads.length cap],.int .i64 F] w
   fun r G=>∃g,r=.returned (.tuple #[.pointer (some ⟨g,0,none⟩),.int .i64 0])/\w.heap.size<=g/\di G g (St.new p F)/\Below w.heap.size w G:=by
 have Y:eK F 9=true:=by simp[eK];omega
 have J:p.threads.length<=4:=by
  unfold dL at C;rw[Bool.and_eq_true,decide_eq_true_eq]at C;omega
 have Q:=hid C;have R:=hid P;obtain⟨Z,D,L⟩:=BC;have M:¬Z=#[]:=fun e=>by have:=congrArg Array.size e;rw[D,kA]at this;simp at this
 have N:Z.size=156:=by rw[D,kA]
 have A:(Z.setIfInBounds 0 (.int .i64 p.threads.length)).setIfInBounds 1 (.int .i64 p.mutexes)=eB (j4 p F 0):=by
  rw[D,qH (fun _=>0) (fun j=>if j=0 then (p.threads.length:Int)else 0) 0 _ (by omega) (fun j _=>rfl)];refine qH _ _ 1 _ (by omega) (fun j _=>?_);rw[Hn]
  by_cases S:j=0
  ·simp[S]
  ·simp[S]
 clear D;clear C P;go_enter func50,ntmps50;go_wp2_with fail;refine(sF p a cap _ (R.out.later (da w _))).mono ?_;rw[Q.out];rintro r f⟨rfl,hb⟩;have v:Below w.heap.size w f:=(da w _).trans (hb.mono (by simp));have E:∀o,f.cell? ⟨w.heap.size,o,none⟩=(w.alloc (.cells #[.int .i64 p.vars,.int .i64 p.mutexes,.slice a p.threads.length cap] 24)).cell? ⟨w.heap.size,o,none⟩:=fun o=>hb.cell (p:=⟨w.heap.size,o,none⟩) (by simp)
 have hz:w.heap.size<f.heap.size:=by have:=hb.size;simp at this;omega
 clear hb
 go_wp2_with (go_at_call 86;refine(kr _ _ _).mono ?_;rintro r G ⟨rfl,rfl⟩)
 clear A N M L E Y
 go_loopw [29] (fun i wr=>∃k:Nat,k<=p.threads.length/\i=.int .i64 k/\iS wr f.heap.size (j4 p F k)/\Below f.heap.size f wr) (fun i _=>p.threads.length-(intOf i).toNat)
 case atStart=>exact⟨0,zero_le _,rfl,heap_alloc_last f _,da _ _⟩
 case round=>
  obtain⟨k,hk,rfl,d,h⟩:=hrel
  by_cases l:k<p.threads.length
  ·obtain⟨b,o,rfl,E⟩:=R.out.2 (by intro e;simp[e]at l)
   obtain⟨c,B,T,U,_⟩:=E k l;have s:Below w.heap.size w wr:=v.trans (h.mono (by omega));have d0:=de s T;have V:=U.later s;have W:=(sG Q.out l).1
   obtain⟨f1,t⟩:∃f1:Nat->Int,∀j,f1 j=if 2+k*37<=j/\j<2+k*37+p.threads[k].length*4 then j7 (p.threads[k].getD ((j-(2+k*37))/4) jt) ((j-(2+k*37))%4)else j4 p F k j:=⟨_,fun _=>rfl⟩
   have aa:=Ec wr f.heap.size (2+k*37) _ f1 d c B p.threads[k] V W (by omega) (fun j _=>t j);have m:iS (wr.setRow f.heap.size (eB f1)) f.heap.size f1:=setRow_heap wr _ _ _ _ _ d;have x:Below f.heap.size f (wr.setRow f.heap.size (eB f1)):=h.trans ⟨rfl,rfl,rfl,by simp,fun q hq=>setRow_other _ _ _ _ (by omega)⟩;generalize wr.setRow f.heap.size (eB f1)=H at *;have y:iS (H.setCell ⟨f.heap.size,2+k*37+32,none⟩ (.int .i64 p.threads[k].length)) f.heap.size (fun j=>if j=2+k*37+32 then (p.threads[k].length:Int)else f1 j):=m.set _ _ _ (by omega) (fun j _=>rfl)
   have z:iS ((H.setCell ⟨f.heap.size,2+k*37+32,none⟩ (.int .i64 p.threads[k].length)).setCell ⟨f.heap.size,2+k*37+34,none⟩ (.int .i64 F)) f.heap.size (j4 p F (k+1)):=
    y.set _ _ _ (by omega) (Ho p F k l J W f1 _ (fun j _=>t j) (fun j _=>rfl))
   have u:Below f.heap.size f ((H.setCell ⟨f.heap.size,2+k*37+32,none⟩ (.int .i64 p.threads[k].length)).setCell ⟨f.heap.size,2+k*37+34,none⟩ (.int .i64 F)):=(x.setCell (p:=⟨f.heap.size,2+k*37+32,none⟩) (le_refl _) _).setCell (p:=⟨f.heap.size,2+k*37+34,none⟩) (le_refl _) _;have e0:=m.cell (2+k*37+32) (by omega);have e1:=m.frozen (2+k*37+32);have e2:=m.cell (2+k*37+34) (by omega);have e3:=m.frozen (2+k*37+34);have O:=hid z;have ab:k<4:=by omega
   clear T U E V t m y z x d h s;go_wp2
   go_roundw
   case rel=>exact⟨k+1,by omega,by go_num,O.out,u⟩
   case measure=>simp[intOf];omega
  ·obtain rfl:k=p.threads.length:=by omega
   have n:iS wr f.heap.size (k7 p F 0):=by
    unfold iS;rw[<-xZ _ _ (Hp p F)];exact d
   clear d;go_wp2
   go_loopw [53] (fun i X=>∃k:Nat,k<=2/\i=.int .i64 k/\iS X f.heap.size (k7 p F k)/\Below f.heap.size f X) (fun i _=>2-(intOf i).toNat)
   case atStart=>exact⟨0,by omega,rfl,n,h⟩
   case round=>
    clear n h;obtain⟨k,hk,rfl,d,h⟩:=hrel
    by_cases l:k<2
    ·have e0:=d.cell (154+k) (by omega)
     have e1:=d.frozen (154+k);have I:=hid (d.set _ (154+k) (-1) (by omega) (Hq p F k l));have u:=h.setCell (p:=⟨f.heap.size,154+k,none⟩) (le_refl _) (.int .i64 (-1));clear d h;go_wp2
     go_roundw
     case rel=>exact⟨k+1,by omega,by go_num,I.out,u⟩
     case measure=>simp[intOf];omega
    ·obtain rfl:k=2:=by omega
     have I:Hid (di wr f.heap.size (St.new p F)):=by
      show _=_;rw[<-xZ _ _ (Hr p F)];exact d
     clear d;go_wp2;go_ret2;exact⟨_,rfl,by omega,I.out,v.trans (h.mono (by omega))⟩
theorem tt(p:Pg)(a:Option Addr)(cap:Nat)(fuel:Int)(w:World)(c:dI w a p.threads):
  Calls prog 50 #[.agg #[.int .i64 p.vars,.int .i64 p.mutexes,.slice a p.threads.length cap],.int .i64 fuel] w (mY p fuel w):=by
 cases b:dL p
 ·refine(Hh p a cap fuel w c b).mono fun r e h=>?_
  unfold mY;rw[if_neg (by simp[b])];exact h
 ·cases d:eK fuel 9
  ·refine(Hk p a cap fuel w c b d).mono fun r e h=>?_
   unfold mY;rw[if_neg (by simp[eK]at d;omega)];exact h
  ·have f:0<=fuel/\fuel<9:=by simpa [eK]using d
   obtain⟨F,rfl⟩:∃F:Nat,fuel=F:=⟨fuel.toNat,by omega⟩
   refine(He p a cap F w c b (by omega)).mono fun r e h=>?_
   unfold mY;rw[if_pos ⟨b,by omega,by omega⟩];exact h
end
end Go.Proofs.YtjfmmnhcddckaaaGreat
