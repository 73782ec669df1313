import Derived.Maps.OwnOps
import Derived.Maps.OwnSet
import Derived.Maps.Views
import Derived.Deep.OwnRows
import Derived.Lib.SliceRun
import Derived.IntWalk
import Derived.Test.YtjfmmnhcddckaaaGreatPk02
set_option maxRecDepth 100000
set_option maxHeartbeats 4000000
namespace Go.Proofs.YtjfmmnhcddckaaaGreat
section
open Go.Lib (hid)
open Go.Proofs.Tryz Go.RowKit
def St.run(s:St):List Int->Int × List Ev × St
 | []=>(0,[],s)
 |t::a=>if (s.step t).1=0 then
    (if ((s.step t).2.2.run a).1=0 then (0,(s.step t).2.1::((s.step t).2.2.run a).2.1,((s.step t).2.2.run a).2.2)else (((s.step t).2.2.run a).1,[],s))
  else ((s.step t).1,[],s)
def iz(a:List Ev)(x:Int × List Ev × St):Int × List Ev × Option St:=if x.1=0 then (0,a++x.2.1,some x.2.2)else (x.1,[],none)
theorem uF(b:List Ev)(s:St)(t:Int)(row:List Int)(h:(s.step t).1=0):iz b (s.run (t::row))=iz (b++[(s.step t).2.1]) ((s.step t).2.2.run row):=by
 unfold iz;rw[St.run,if_pos h]
 by_cases a:((s.step t).2.2.run row).1=0
 ·rw[if_pos a,if_pos a];simp
 ·rw[if_neg a,if_neg a,if_neg a]
theorem pL(a:List Ev)(s:St)(t:Int)(row:List Int)(h:(s.step t).1≠0):iz a (s.run (t::row))=((s.step t).1,[],none):=by
 unfold iz;rw[St.run,if_neg h,if_neg h]
theorem Mc(a:List Ev)(s:St):iz a (s.run [])=(0,a,some s):=by
 unfold iz;simp[St.run]
def dF(p:Pg)(fuel:Int):Bool:=dL p&&decide (0<=fuel/\fuel<=8)
def dQ(p:Pg)(fuel:Int)(row:List Int):Int × List Ev × Option St:=if dF p fuel=true then iz [] ((St.new p fuel.toNat).run row)else (1,[],none)
def ma(p:Pg)(fuel:Int)(row:List Int)(w:World)(r:Ending)(w':World):Prop:=
 Below w.heap.size w w'/\match dQ p fuel row with
 |(_,es,some s)=>∃g v,r=.returned (.tuple #[.pointer (some ⟨g,0,none⟩),v,.int .i64 0])/\w.heap.size<=g/\di w' g s/\s.Ok fuel.toNat/\dr w' w.heap.size v es
 |(e,_,none)=>r=.returned (.tuple #[.pointer none,.slice none 0 0,.int .i64 e])
theorem EA{p:Pg}{fuel:Int}{row:List Int}{w w':World}{a:List Ev}{s:St}(h:dQ p fuel row=(0,a,some s)){g:Nat}{v:Value}(hb:Below w.heap.size w w')(b:w.heap.size<=g)(c:di w' g s)(d:s.Ok fuel.toNat)(e:dr w' w.heap.size v a):
  ma p fuel row w (.returned (.tuple #[.pointer (some ⟨g,0,none⟩),v,.int .i64 0])) w':=by
 unfold ma;rw[h];exact⟨hb,g,v,rfl,b,c,d,e⟩
theorem wK{p:Pg}{fuel:Int}{row:List Int}{w w':World}{e:Int}(h:dQ p fuel row=(e,[],none))(hb:Below w.heap.size w w'):
  ma p fuel row w (.returned (.tuple #[.pointer none,.slice none 0 0,.int .i64 e])) w':=by
 unfold ma;rw[h];exact⟨hb,rfl⟩
theorem xP{w:World}{B B':Nat}{v:Value}{l:List Ev}(h:dr w B v l)(f:B'<=B):dr w B' v l:=by
 obtain⟨d,a|⟨g,b,c,a,i,e⟩⟩:=h
 ·exact⟨d,.inl a⟩
 ·exact⟨d,.inr ⟨g,b,c,a,by omega,e⟩⟩
theorem Ez(p:Pg)(a:Option Addr)(cap:Nat)(fuel:Int)(ra:Option Addr)(U:Nat)(row:List Int)(w:World)(hp:dI w a p.threads)(z:iB w ra row)(Z:row.length<=1000):
  Calls prog 103 #[.agg #[.int .i64 p.vars,.int .i64 p.mutexes,.slice a p.threads.length cap],.int .i64 fuel,.slice ra row.length U] w (ma p fuel row w):=by
 have HP:=hid hp;have V:=hid z;clear hp z;go_enter func103,ntmps103;go_wp2_with fail;refine(tt p a cap fuel _ (HP.out.later (da w _))).mono ?_;rintro r u L;unfold mY at L
 by_cases b:dL p=true/\0<=fuel/\fuel<=8
 case neg=>
  rw[if_neg b]at L;obtain⟨rfl,h⟩:=L;have o:Below w.heap.size w u:=(da w _).trans (h.mono (by simp))
  have c:Hid (dQ p fuel row=(1,[],none)):=by
   show _=_;unfold dQ dF;rw[if_neg];simpa using b
  clear h b;go_wp2;refine bodyPost_ret (v:=.tuple #[.pointer none,.slice none 0 0,.int .i64 1]) (by simp[results,results103,go_sem]) rfl ?_;exact wK c.out o
 rw[if_pos b]at L;obtain⟨g,rfl,hg,y,h⟩:=L;obtain⟨B,af,ag⟩:=b
 obtain⟨F,rfl⟩:∃F:Nat,fuel=F:=⟨fuel.toNat,by omega⟩
 have c:Hid (dQ p F row=iz [] ((St.new p F).run row)):=by
  show _=_;unfold dQ dF;rw[if_pos (by simp[B];omega)];rfl
 simp only[Int.toNat_natCast]at y;have o:Below w.heap.size w u:=(da w _).trans (h.mono (by simp));have M:w.heap.size<=g:=by have:(w.alloc (.cells #[.int .i64 p.vars,.int .i64 p.mutexes,.slice a p.threads.length cap] 24)).heap.size<=g:=hg;simp at this;omega
 have N:=y.lt;have I:=hid y;have O:=hid (lN B F (by omega));clear y h B hg;go_wp2_with fail
 go_loopw [11,27] (fun l i wr=>∃(k:Nat) (s:St) (f:List Ev),k<=row.length/\i=.int .i64 k/\f.length<=k/\Hid (dQ p F row=iz f (s.run (row.drop k)))/\dr wr u.heap.size l f/\di wr g s/\s.Ok F/\Below w.heap.size w wr/\u.heap.size<=wr.heap.size) (fun _ i _=>row.length-(intOf i).toNat)
 case atStart=>exact⟨0,_,[],Nat.zero_le _,rfl,Nat.zero_le _,c,qF _ _,I.out,O.out,o,Nat.le_refl _⟩
 case round=>
  clear I O c;obtain⟨k,s,f,hk,rfl,ah,c,m,y,ok,hb,hz⟩:=hrel;have I:=hid y;have OK:=hid ok;have aa:=y.lt;clear y ok
  by_cases C:k<row.length
  ·obtain⟨rb,ro,rfl,hc⟩:=V.out.2 (by intro e;simp[e]at C)
   have d0:=de hb (hc k C);have P:row.drop k=row[k]::row.drop (k+1):=List.drop_eq_getElem_cons C;have Q:=hid P;clear hc P;generalize row[k]=t at *;go_wp2_with fail;refine(vX I.out OK.out t).mono ?_;rintro r J⟨rfl,R,q⟩;have A:=OK.out.step_ok t;have D:=hid (pL f s t (row.drop (k+1)));have E:=hid (uF f s t (row.drop (k+1)));have G:=hb.trans (q.below M hb.size);have n:=m.only q N;have ai:u.heap.size<=J.heap.size:=Nat.le_trans hz q.size;unfold jp jv;generalize s.step t=st at *;obtain⟨e,x,s'⟩:=st;dsimp only at *;have ab:=hid (R.later (da J (.cells #[.int .i64 x.thread,.int .i64 x.kind,.int .i64 x.obj,.bool x.fail] 112)));have W:=hid A;have S:Below w.heap.size w (J.alloc (.cells #[.int .i64 x.thread,.int .i64 x.kind,.int .i64 x.obj,.bool x.fail] 112)):=G.alloc G.size _;clear hb m q R A G I d0 aa
   by_cases X:e=0
   ·subst X
    have j:Hid (dQ p F row=iz (f++[x]) (s'.run (row.drop (k+1)))):=by
     show _=_;rw[c.out,Q.out];exact E.out rfl
    clear D E
    go_wp2_with (at_builtin;refine m8 rfl (.tmp 40) (.tmp 42) rfl u.heap.size _ f rfl ((n.alloc _).alloc _) ⟨J.heap.size+1,0,none⟩ rfl x (nU (J.alloc (.cells #[.int .i64 x.thread,.int .i64 x.kind,.int .i64 x.obj,.bool x.fail] 112)) x _ _ (by simp)) (by omega) (by simp;omega) ?_;intro v7 Y H T)
    have d:Below u.heap.size (J.alloc (.cells #[.int .i64 x.thread,.int .i64 x.kind,.int .i64 x.obj,.bool x.fail] 112)) Y:=((Below.refl _ _).alloc (by simp;omega) _).trans T;have ac:Hid (di Y g s'):=(d.block g N).trans ab.out;have ad:Below w.heap.size w Y:=S.trans (d.mono (by omega));have ae:u.heap.size<=Y.heap.size:=by have:=d.size;simp at this;omega
    clear T d n
    go_roundw
    case rel=>exact⟨k+1,s',f++[x],by omega,by go_num,by simp;omega,j,H,ac.out,W.out,ad,ae⟩
    case measure=>simp[intOf];omega
   ·have q0:(e != 0)=true:=by simpa using X
    have j:Hid (dQ p F row=(e,[],none)):=by
     show _=_;rw[c.out,Q.out];exact D.out X
    clear X D E;go_wp2;refine bodyPost_ret (v:=.tuple #[.pointer none,.slice none 0 0,.int .i64 e]) (by simp[results,results103,go_sem]) rfl ?_;exact wK j.out S
  ·obtain rfl:k=row.length:=by omega
   have j:Hid (dQ p F row=(0,f,some s)):=by
    show _=_;rw[c.out,List.drop_length];exact Mc f s
   go_wp2;refine bodyPost_ret (v:=.tuple #[.pointer (some ⟨g,0,none⟩),_,.int .i64 0]) (by simp[results,results103,go_sem];rfl) rfl ?_;exact EA j.out hb M I.out OK.out (xP m (by have:=o.size;omega))
end
section
theorem ED{p:Pg}{fuel:Int}{row:List Int}{e:Int}{a:List Ev}(h:dQ p fuel row=(e,a,none)):e≠0:=by
 unfold dQ at h
 split at h
 ·unfold iz at h
  split at h
  ·injection h with _ h;injection h with _ h;cases h
  ·rename_i b
   injection h with h1 _;rw[<-h1];exact b
 ·injection h with h1 _
  rw[<-h1];simp
theorem qx{p:Pg}{fuel:Int}{row:List Int}{e:Int}{a:List Ev}{s:St}(h:dQ p fuel row=(e,a,some s)):e=0/\dF p fuel=true/\((St.new p fuel.toNat).run row).1=0/\((St.new p fuel.toNat).run row).2.1=a:=by
 unfold dQ at h
 split at h
 ·rename_i b
  unfold iz at h
  split at h
  ·rename_i c
   injection h with h1 h;injection h with h2 h;exact⟨h1.symm,b,c,by simpa using h2⟩
  ·injection h with _ h;injection h with _ h;cases h
 ·injection h with _ h;injection h with _ h;cases h
theorem Ac{F:Nat}{s:St}(a:s.Ok F){t:Int}{e:Ev}{s1:St}(h:s.step t=(0,e,s1)):eM e=true:=by
 obtain⟨i,b,_,rfl,_⟩:=St.step_ok0 h;have c:=(St.ins_has b).1
 have f:s.ts.length<=4:=by
  have g:=a.len;have d:=a.right;unfold dL at d;rw[Bool.and_eq_true,decide_eq_true_eq]at d;omega
 unfold St.has at c;obtain⟨j,k,_,_,_,_⟩:=a.obj b;unfold eM St.ev;rw[decide_eq_true_eq]
 repeat' split
 all_goals dsimp only
 all_goals(refine⟨c.1,by omega,?_⟩)
 ·exact .inr (.inl ⟨.inl rfl,by omega,by omega,rfl⟩)
 ·exact .inr (.inl ⟨.inr rfl,by omega,by omega,rfl⟩)
 ·exact .inr (.inr ⟨.inl rfl,by omega,by omega,rfl⟩)
 ·exact .inr (.inr ⟨.inr rfl,by omega,by omega,rfl⟩)
 ·exact .inl ⟨rfl,rfl⟩
 ·exact .inl ⟨rfl,rfl⟩
 ·exact .inl ⟨rfl,rfl⟩
end
section
open Go.RowKit

end
section
open Go.Lib (hid)
open Go.Proofs.Tryz Go.RowKit
theorem LN(n e:Int)(w:World):Calls prog 188 #[.int .i64 n,.int .i64 e] w fun r a=>r=.returned (.bool (eK n e))/\w=a:=by
 go_enter func188,ntmps188;go_wp2
 all_goals
  go_ret;refine⟨dE ?_,rfl⟩;simp[eK]
  try omega
theorem xV(e:Ev)(w:World):Calls prog 173 #[.agg #[.int .i64 e.thread,.int .i64 e.kind,.int .i64 e.obj,.bool e.fail]] w fun r a=>r=.returned (.bool (ld e))/\Below w.heap.size w a:=by
 obtain⟨t,k,o,f⟩:=e;dsimp only;go_enter func173,ntmps173;go_wp2
 all_goals
  go_ret;refine⟨dE ?_,da _ _⟩;rw[Bool.eq_iff_iff];simp[ld]
  try omega
theorem tl(e:Ev)(w:World):Calls prog 174 #[.agg #[.int .i64 e.thread,.int .i64 e.kind,.int .i64 e.obj,.bool e.fail]] w fun r a=>r=.returned (.bool (lO e))/\Below w.heap.size w a:=by
 obtain⟨t,k,o,f⟩:=e;dsimp only;go_enter func174,ntmps174;go_wp2
 all_goals
  go_ret;refine⟨dE ?_,da _ _⟩;rw[Bool.eq_iff_iff];simp[lO]
  try omega
theorem uy(e:Ev)(w:World):Calls prog 165 #[.agg #[.int .i64 e.thread,.int .i64 e.kind,.int .i64 e.obj,.bool e.fail]] w fun r a=>r=.returned (.bool (eM e))/\Below w.heap.size w a:=by
 obtain⟨t,k,o,f⟩:=e;dsimp only;go_enter func165,ntmps165
 go_wp2_with (go_at_call 188;refine(LN _ _ _).mono ?_;rintro r a ⟨rfl,rfl⟩)
 all_goals
  go_ret;refine⟨dE ?_,da _ _⟩;simp[eK]at *;rw[Bool.eq_iff_iff];simp[eM, *]
  try(first|omega|(cases f <;> simp <;> omega))
theorem wN(e:Ev)(w:World):Calls prog 151 #[.agg #[.int .i64 e.thread,.int .i64 e.kind,.int .i64 e.obj,.bool e.fail]] w fun r a=>r=.returned (.bool (eM e))/\Below w.heap.size w a:=by
 obtain⟨t,k,o,f⟩:=e;dsimp only;go_enter func151,ntmps151;go_wp2
 all_goals
  go_ret;refine⟨dE ?_,da _ _⟩;simp at *;rw[Bool.eq_iff_iff];simp[eM, *]
  try(first|omega|(cases f <;> simp <;> omega))
theorem Cl(e f:Ev)(w:World):eo ((w.alloc (.cells #[.int .i64 e.thread,.int .i64 e.kind,.int .i64 e.obj,.bool e.fail] 112)).alloc (.cells #[.int .i64 f.thread,.int .i64 f.kind,.int .i64 f.obj,.bool f.fail] 112)) w.heap.size e/\eo ((w.alloc (.cells #[.int .i64 e.thread,.int .i64 e.kind,.int .i64 e.obj,.bool e.fail] 112)).alloc (.cells #[.int .i64 f.thread,.int .i64 f.kind,.int .i64 f.obj,.bool f.fail] 112)) (w.heap.size+1) f:=
 ⟨heap_alloc2_old w _ _,heap_alloc2_new w _ _⟩
theorem ry(e f:Ev)(w:World):Calls prog 135 #[.agg #[.int .i64 e.thread,.int .i64 e.kind,.int .i64 e.obj,.bool e.fail],.agg #[.int .i64 f.thread,.int .i64 f.kind,.int .i64 f.obj,.bool f.fail]] w fun r J=>r=.returned (.bool (dj e f))/\Below w.heap.size w J:=by
 obtain⟨G,H⟩:=Cl e f w;have q:=hid G;have s:=hid H;have d:=eH w (.cells #[.int .i64 e.thread,.int .i64 e.kind,.int .i64 e.obj,.bool e.fail] 112) (.cells #[.int .i64 f.thread,.int .i64 f.kind,.int .i64 f.obj,.bool f.fail] 112);clear G H
 by_cases g:e.thread=f.thread
 ·have y:Hid (dj e f=true):=by show _=_;simp[dj,g]
  have I:(e.thread==f.thread)=true:=by simp[g]
  clear g q s;go_enter func135,ntmps135;go_wp2;go_ret;exact⟨dE y.out.symm,d⟩
 by_cases n:e.obj=f.obj
 case neg=>
  have y:Hid (dj e f=false):=by show _=_;simp[dj,g,n]
  have I:(e.thread==f.thread)=false:=by simp[g]
  have L:(e.obj != f.obj)=true:=by simp[n]
  clear g n q s;go_enter func135,ntmps135;go_wp2;go_ret;exact⟨dE y.out.symm,d⟩
 have I:(e.thread==f.thread)=false:=by simp[g]
 have L:(e.obj != f.obj)=false:=by simp[n]
 have t:=hid g;have u:=hid n;clear g n;go_enter func135,ntmps135;go_wp2_with fail;generalize (w.alloc (.cells #[.int .i64 e.thread,.int .i64 e.kind,.int .i64 e.obj,.bool e.fail] 112)).alloc (.cells #[.int .i64 f.thread,.int .i64 f.kind,.int .i64 f.obj,.bool f.fail] 112)=S at *;refine(xV e _).mono ?_;rintro r M⟨rfl,h⟩;have o:=hid (q.out.later h);have p:=hid (s.out.later h);have i:Below w.heap.size w M:=d.trans (h.mono d.size);clear q s d h;obtain⟨z,A,B,C⟩:=o.out.cells;obtain⟨f0,f1,f2,f3⟩:=p.out.cells;have D:=o.out.lt;have v:=p.out.lt;generalize c:ld e=m
 cases m
 ·go_wp2_with fail
  refine(tl e _).mono ?_;rintro r E⟨rfl,a⟩;have b:Below w.heap.size w E:=i.trans (a.mono i.size);have N:=de a f0;have O:=de a f1;have P:=de a f2;have Q:=de a f3;have R:=Nat.lt_of_lt_of_le v a.size;generalize hx:lO e=x
  cases x
  ·go_wp2
   go_ret;refine⟨dE ?_,b⟩;unfold ld at c;unfold lO at hx;simp at c hx;simp[dj,t.out,u.out,c,hx]
  ·clear z A B C f0 f1 f2 f3 D v a
   go_wp2_with fail
   refine(tl f _).mono ?_;rintro r F⟨rfl,k⟩;have l:Below w.heap.size w F:=b.trans (k.mono b.size);go_wp2;go_ret;refine⟨dE ?_,l⟩;unfold ld at c;unfold lO at hx ⊢;simp at c hx;simp[dj,t.out,u.out,c,hx]
 ·go_wp2_with fail
  refine(xV f _).mono ?_;rintro r E⟨rfl,a⟩;have b:Below w.heap.size w E:=i.trans (a.mono i.size);have d0:=de a z;have d1:=de a A;have d2:=de a B;have d3:=de a C;have T:=Nat.lt_of_lt_of_le D a.size;have N:=de a f0;have O:=de a f1;have P:=de a f2;have Q:=de a f3;have R:=Nat.lt_of_lt_of_le v a.size;clear z A B C f0 f1 f2 f3 D v a;generalize hx:ld f=x
  cases x
  ·go_wp2_with fail
   refine(tl e _).mono ?_;rintro r F⟨rfl,k⟩
   have j:lO e=false:=by
    unfold ld at c;unfold lO;simp at c ⊢;omega
   rw[j];have l:Below w.heap.size w F:=b.trans (k.mono b.size);go_wp2;go_ret;refine⟨dE ?_,l⟩;unfold ld at c hx;unfold lO at j;simp at c hx j;simp[dj,t.out,u.out,c,hx,j]
  ·go_wp2
   all_goals
    go_ret;refine⟨dE ?_,b⟩;unfold ld at c hx;simp at *;rw[Bool.eq_iff_iff];simp[dj,t.out,u.out, *]
    try omega
theorem Fb(e f:Ev)(w:World):Calls prog 154 #[.agg #[.int .i64 e.thread,.int .i64 e.kind,.int .i64 e.obj,.bool e.fail],.agg #[.int .i64 f.thread,.int .i64 f.kind,.int .i64 f.obj,.bool f.fail]] w fun r a=>r=.returned (.bool (dj e f))/\Below w.heap.size w a:=by
 go_enter func154,ntmps154;go_wp2
 all_goals
  go_ret;refine⟨dE ?_,eH _ _ _⟩;simp at *;rw[Bool.eq_iff_iff];simp[dj, *]
  try omega
def dJ(l:List Ev):Bool:=l.all eM
theorem sH(l:List Ev)(k:Nat)(h:k<l.length):dJ (l.take (k+1))=(dJ (l.take k)&&eM l[k]):=by
 unfold dJ;rw[List.take_succ_eq_append_getElem h,List.all_append];simp
theorem sI{l:List Ev}{k:Nat}(h:k<l.length)(a:eM l[k]=false):dJ l=false:=by
 unfold dJ;rw[List.all_eq_false];exact⟨l[k],List.getElem_mem h,by simp[a]⟩
theorem oJ{l:List Ev}(h:dJ l=true){k:Nat}(a:k<l.length):eM l[k]=true:=by
 unfold dJ at h;exact List.all_eq_true.1 h _ (List.getElem_mem a)
theorem sC(a:Option Addr)(cap:Nat)(l:List Ev)(w:World)(j:ei w a l):
  Calls prog 96 #[.slice a l.length cap] w fun r z=>r=.returned (.bool (dJ l))/\Below w.heap.size w z:=by
 have A:=j.1;unfold maxLen at A;have B:=hid j;clear j;go_enter func96,ntmps96;go_wp2
 go_loopw [3] (fun i wr=>∃k:Nat,k<=l.length/\i=.int .i64 k/\Hid (dJ (l.take k)=true)/\Below w.heap.size w wr) (fun i _=>l.length-(intOf i).toNat)
 case atStart=>exact⟨0,Nat.zero_le _,rfl,rfl,Below.refl _ _⟩
 case round=>
  obtain⟨k,D,rfl,p,hb⟩:=hrel
  by_cases c:k<l.length
  ·obtain⟨b,o,rfl,q⟩:=B.out.2 (by intro e;simp[e]at c)
   obtain⟨s,t,u,v⟩:=q k c;have d0:=de hb s;have d1:=de hb t;have d2:=de hb u;have d3:=de hb v;have m:=hid (sH l k c);have d:Hid (eM l[k]=false->dJ l=false):=fun h=>sI c h
   clear q s t u v;generalize l[k]=x at *;go_wp2_with fail;refine(wN x _).mono ?_;rintro r E⟨rfl,f⟩;have g:=hb.trans (f.mono hb.size);clear f
   cases y:eM x
   ·have n:=hid (d.out y)
    clear d m;go_wp2;go_ret;exact⟨dE n.out.symm,g⟩
   ·have n:Hid (dJ (l.take (k+1))=true):=by show _=_;rw[m.out,p.out,y];rfl
    clear d m;go_wp2
    go_roundw
    case rel=>exact⟨k+1,by omega,by go_num,n,g⟩
    case measure=>simp[intOf];omega
  ·obtain rfl:k=l.length:=by omega
   have C:Hid (dJ l=true):=by have h:=p.out;rw[List.take_length]at h;exact h
   go_wp2;go_ret;exact⟨dE C.out.symm,hb⟩
end
section
open Go.RowKit
theorem D4{F:Nat}(row:List Int):∀{s:St},s.Ok F->(s.run row).2.1.all eM=true:=by
 induction row with
 |nil=>intro s _;rfl
 |cons t row b=>
  intro s a;rw[St.run]
  split
  ·rename_i c
   split
   ·have d:eM (s.step t).2.1=true:=Ac a (t:=t) (e:=(s.step t).2.1) (s1:=(s.step t).2.2) (by rw[<-c])
    have f:=b (a.step_ok t);simp only[List.all_cons,d,f,Bool.and_self]
   ·rfl
  ·rfl
theorem EC{p:Pg}{fuel:Int}{row:List Int}{e:Int}{b:List Ev}{s:St}(h:dQ p fuel row=(e,b,some s)):dJ b=true:=by
 obtain⟨_,a,_,rfl⟩:=qx h;unfold dF at a;rw[Bool.and_eq_true,decide_eq_true_eq]at a;exact D4 row (lN a.1 fuel.toNat (by omega))
abbrev dl:=List UInt8
def dB(k:dl):List Int:=k.map fun c=>(c.toNat:Int)
theorem mo(k:dl):(dB k).length=k.length:=by simp[dB]
theorem sE(k:dl)(n:Nat):dB (k.take n)=(dB k).take n:=by simp[dB,List.map_take]
theorem KW{s:St}{t:Int}(h:s.fuel=0):(s.step t).1≠0:=by
 rcases s.step_cases t with ⟨i,a,_,_⟩|⟨e,c,b⟩
 ·have:=St.fuel_do a;omega
 ·rw[b];dsimp only;omega
theorem KX{s:St}{t:Int}(h:(s.step t).1=0):(s.step t).2.2.fuel+1=s.fuel:=by
 rcases s.step_cases t with ⟨i,a,_,e⟩|⟨e,c,b⟩
 ·rw[e];exact St.fuel_do a
 ·rw[b]at h;dsimp only at h;omega
theorem Md(n:Nat):∀(c:List Ev) (s:St) (a:List Int),s.fuel<=n->iz c (s.run (a.take (n+1)))=iz c (s.run a):=by
 induction n with
 |zero=>
  intro c s a h
  cases a with
  |nil=>rfl
  |cons t a=>
   have b:=KW (t:=t) (by omega:s.fuel=0);rw[List.take_succ_cons,pL _ _ _ _ b,pL _ _ _ _ b]
 |succ n d=>
  intro c s a h
  cases a with
  |nil=>rfl
  |cons t a=>
   rw[List.take_succ_cons]
   by_cases b:(s.step t).1=0
   ·have e:=KX b
    rw[uF _ _ _ _ b,uF _ _ _ _ b,d _ _ a (by omega)]
   ·rw[pL _ _ _ _ b,pL _ _ _ _ b]
theorem Hi{p:Pg}(h:dL p=true){F:Nat}(hF:F<=8):(St.new p F).fuel<=32:=by
 have a:p.threads.length<=4:=by
  unfold dL at h;rw[Bool.and_eq_true,decide_eq_true_eq]at h;omega
 have e:(St.new p F).fuel=p.threads.length*F:=by
  unfold St.fuel St.new;simp[List.map_const']
 rw[e];have:=Nat.mul_le_mul a hF;omega
theorem sL(p:Pg)(fuel:Int)(row:List Int):dQ p fuel (row.take 33)=dQ p fuel row:=by
 unfold dQ
 by_cases a:dF p fuel=true
 ·rw[if_pos a,if_pos a]
  unfold dF at a;rw[Bool.and_eq_true,decide_eq_true_eq]at a;exact Md 32 [] _ row (Hi a.1 (by omega))
 ·rw[if_neg a,if_neg a]
structure TNd where
 pre:dl
 own:Int
 may:Nat
 asl:Nat
 todo:Nat
 gone:Nat
structure TNd.Ok(n:TNd):Prop where
 may:n.may<256
 asl:n.asl<256
 todo:n.todo<256
 gone:n.gone<256
def TNd.left(n:TNd):Nat:=wo (wo n.todo n.gone) n.asl
theorem TNd.Ok.left{n:TNd}(h:n.Ok):n.left<256:=jB _ _ (jB _ _ h.todo)
def ee(l:List TNd)(k:dl):Option Nat:=l.findIdx? fun n=>decide (n.pre=k)
theorem iQ{l:List TNd}{k:dl}{i:Nat}(h:ee l k=some i):∃a:i<l.length,l[i].pre=k:=by
 unfold ee at h;rw[List.findIdx?_eq_some_iff_getElem]at h;obtain⟨a,b,_⟩:=h;exact⟨a,by simpa using b⟩
theorem zo{l:List TNd}{k:dl}(h:ee l k=none):∀n∈l,n.pre≠k:=by
 unfold ee at h;rw[List.findIdx?_eq_none_iff]at h;intro n a;simpa using h n a
theorem nL{l:List TNd}(b:(l.map TNd.pre).Nodup){i:Nat}(a:i<l.length):ee l l[i].pre=some i:=by
 cases h:ee l l[i].pre with
 |none=>exact absurd rfl (zo h l[i] (List.getElem_mem a))
 |some j=>
  obtain⟨c,e⟩:=iQ h
  have:i=j:=by
   have d:(l.map TNd.pre)[i]'(by simpa using a)=(l.map TNd.pre)[j]'(by simpa using c):=by simp[e]
   exact(List.getElem_inj b).1 d
  rw[this]
theorem zn{l:List TNd}{n:TNd}(h:ee l n.pre=none)(k:dl):ee (l++[n]) k=if k=n.pre then some l.length else ee l k:=by
 unfold ee at *;rw[List.findIdx?_append]
 by_cases e:k=n.pre
 ·subst e
  rw[h,if_pos rfl];simp
 ·rw[if_neg e]
  have:([n].findIdx? fun m=>decide (m.pre=k))=none:=by
   simp[List.findIdx?_cons,Ne.symm e]
  rw[this];simp
theorem ue{l:List TNd}{i:Nat}{n:TNd}(b:i<l.length)(e:n.pre=l[i].pre)(k:dl):ee (l.set i n) k=ee l k:=by
 unfold ee
 have c:∀(l:List TNd) (i:Nat) (b:i<l.length),n.pre=l[i].pre->(l.set i n).findIdx? (fun m=>decide (m.pre=k))=l.findIdx? (fun m=>decide (m.pre=k)):=by
  intro l
  induction l with
  |nil=>intro i b;simp at b
  |cons a l d=>
   intro i b e
   cases i with
   |zero=>
    simp only[List.getElem_cons_zero]at e;simp[List.findIdx?_cons,e]
   |succ i=>
    simp only[List.getElem_cons_succ]at e;have:=d i (by simpa using b) e;simp[List.findIdx?_cons,this]
 exact c l i b e
def jS(l:List TNd)(k:dl):Bool:=match ee l k.dropLast with
 |some i=>dp (l.getD i ⟨[],0,0,0,0,0⟩).gone ((k.getLast?.getD 0).toNat:Int)
 |none=>false
def d'(p:Pg)(fuel:Int)(l:List TNd)(k:dl)(asl:Nat)(own:Int):Int × List TNd:=
 match dQ p fuel (dB k)with
 |(e,_,none)=>(e,l)
 |(_,_,some s)=>if (ee l k).isSome then (7,l)else if k≠[]/\jS l k=false then (6,l)else (0,l++[⟨k,own,dn s.all,asl,0,0⟩])
def dw(l:List TNd)(k:dl)(set:Nat):Int × List TNd:=match ee l k with
 |none=>(6,l)
 |some i=>(0,l.set i { l.getD i ⟨[],0,0,0,0,0⟩with todo:=(l.getD i ⟨[],0,0,0,0,0⟩).todo|||(set&&&(l.getD i ⟨[],0,0,0,0,0⟩).may) })
def eO(l:List TNd)(k:dl)(own:Int):Int × List TNd:=match ee l k with
 |none=>(6,l)
 |some i=>(0,l.set i { l.getD i ⟨[],0,0,0,0,0⟩with own:=own })
def dD(d:Int)(n:Nat):Nat:=((d%18446744073709551616)%(n:Int)).toNat
theorem lX(d:Int){n:Nat}(h:0<n):dD d n<n:=by
 unfold dD;have a:=Int.emod_lt_of_pos (d%18446744073709551616) (by omega:(0:Int)<n);have b:=Int.emod_nonneg (d%18446744073709551616) (by omega:(n:Int)≠0);omega
def oW(p:Pg)(fuel:Int)(k:dl):Int->Option Ev:=match dQ p fuel (dB k)with
 |(_,_,some s)=>s.next
 |(_,_,none)=>fun _=>none
def fK(p:Pg)(fuel:Int)(l:List TNd)(k:dl)(d:Int):Int × Int × Nat × List TNd:=match ee l k with
 |none=>(6,0,0,l)
 |some i=>if dW (l.getD i ⟨[],0,0,0,0,0⟩).left=[]then (6,0,0,l)else
   (0,((dW (l.getD i ⟨[],0,0,0,0,0⟩).left).getD (dD d (dW (l.getD i ⟨[],0,0,0,0,0⟩).left).length) 0:Nat),
    gj (oW p fuel k) (l.getD i ⟨[],0,0,0,0,0⟩).asl (l.getD i ⟨[],0,0,0,0,0⟩).gone ((dW (l.getD i ⟨[],0,0,0,0,0⟩).left).getD (dD d (dW (l.getD i ⟨[],0,0,0,0,0⟩).left).length) 0:Nat),
    l.set i { l.getD i ⟨[],0,0,0,0,0⟩with gone:=wt (l.getD i ⟨[],0,0,0,0,0⟩).gone ((dW (l.getD i ⟨[],0,0,0,0,0⟩).left).getD (dD d (dW (l.getD i ⟨[],0,0,0,0,0⟩).left).length) 0:Nat) })
structure TrOk(p:Pg)(fuel:Int)(l:List TNd):Prop where
 nodup:(l.map TNd.pre).Nodup
 ok:∀n∈l,n.Ok
 row:∀n∈l,∃es s,dQ p fuel (dB n.pre)=(0,es,some s)/\n.may=dn s.all
 todo:∀n∈l,∀i,n.todo.testBit i=true->n.may.testBit i=true
theorem vE(p:Pg)(fuel:Int):TrOk p fuel []:=⟨by simp,by simp,by simp,by simp⟩
theorem TrOk.set{p:Pg}{fuel:Int}{l:List TNd}(h:TrOk p fuel l){i:Nat}(c:i<l.length){n:TNd}(e:n.pre=l[i].pre)(d:n.may=l[i].may)(f:n.Ok)(g:∀i,n.todo.testBit i=true->n.may.testBit i=true):TrOk p fuel (l.set i n):=by
 have k:l[i]∈l:=List.getElem_mem c;refine⟨?_,?_,?_,?_⟩
 ·have:(l.set i n).map TNd.pre=l.map TNd.pre:=by
   rw[List.map_set,e];apply List.ext_getElem
   ·simp
   ·intro j b q
    rw[List.getElem_set]
    split
    ·rename_i o;subst o;simp
    ·rfl
  rw[this];exact h.nodup
 ·intro m a
  rcases List.mem_or_eq_of_mem_set a with b|rfl
  ·exact h.ok m b
  ·exact f
 ·intro m a
  rcases List.mem_or_eq_of_mem_set a with b|rfl
  ·exact h.row m b
  ·rw[e,d];exact h.row _ k
 ·intro m a
  rcases List.mem_or_eq_of_mem_set a with b|rfl
  ·exact h.todo m b
  ·exact g
theorem TrOk.snoc{p:Pg}{fuel:Int}{l:List TNd}(h:TrOk p fuel l){k:dl}(f:ee l k=none){e:List Ev}{s:St}(g:dQ p fuel (dB k)=(0,e,some s)){asl:Nat}(d:asl<256)(own:Int):TrOk p fuel (l++[⟨k,own,dn s.all,asl,0,0⟩]):=by
 refine⟨?_,?_,?_,?_⟩
 ·rw[List.map_append,List.nodup_append]
  refine⟨h.nodup,by simp,?_⟩;intro a d b hb;simp at hb;subst hb;obtain⟨n,c,rfl⟩:=List.mem_map.1 d;exact zo f n c
 ·intro n c
  rw[List.mem_append,List.mem_singleton]at c;rcases c with c|rfl
  ·exact h.ok n c
  ·exact⟨i7 _,d,by simp,by simp⟩
 ·intro n c
  rw[List.mem_append,List.mem_singleton]at c;rcases c with c|rfl
  ·exact h.row n c
  ·exact⟨e,s,g,rfl⟩
 ·intro n c
  rw[List.mem_append,List.mem_singleton]at c;rcases c with c|rfl
  ·exact h.todo n c
  ·intro i j;simp at j
def qI:TNd:=⟨[],0,0,0,0,0⟩
def gL(l:List TNd)(k:dl):Int:=match ee l k with
 |none=>-1
 |some i=>(l.getD i qI).own
def dt(l:List TNd)(k:dl):Nat:=match ee l k with
 |none=>0
 |some i=>(l.getD i qI).left
theorem di.onlyS{S:Nat->Prop}{w w':World}{b:Nat}{s:St}(h:di w b s)(a:OnlyS S w w')(c:¬S b):di w' b s:=(a.block b h.lt c).trans h
theorem dC.onlyS{S:Nat->Prop}{w w':World}{B:Nat}{v:Value}{l:List Int}(h:dC w B v l)(f:OnlyS S w w')(i:∀g,v.ownBlock=some g->¬S g):dC w' B v l:=by
 obtain⟨d,a|⟨g,b,c,a,j,e,k⟩⟩:=h
 ·exact⟨d,.inl a⟩
 ·refine⟨d,.inr ⟨g,b,c,a,j,(f.block g (Array.getElem?_eq_some_iff.1 e).1 (i g (by rw[a];rfl))).trans e,k⟩⟩
theorem dr.onlyS{S:Nat->Prop}{w w':World}{B:Nat}{v:Value}{l:List Ev}(h:dr w B v l)(f:OnlyS S w w')(i:∀g,v.ownBlock=some g->¬S g):dr w' B v l:=by
 obtain⟨d,a|⟨g,b,c,a,j,e,k⟩⟩:=h
 ·exact⟨d,.inl a⟩
 ·refine⟨d,.inr ⟨g,b,c,a,j,(f.block g (Array.getElem?_eq_some_iff.1 e).1 (i g (by rw[a];rfl))).trans e,k⟩⟩
end
section
open Go.Proofs.Tryz Go.RowKit Go.Maps
open List (getElem_mem length_append length_set)
def jq:Option Nat->DataW Unit
 |none=>.lit (.int .i64 (-1))
 |some g=>.lit (.int .i64 (g:Int))
theorem xr{a b:Option Nat}(h:jq a=jq b):a=b:=by
 cases a with
 |none=>
  cases b with
  |none=>rfl
  |some g=>unfold jq at h;injection h with h;injection h with _ h;omega
 |some f=>
  cases b with
  |none=>unfold jq at h;injection h with h;injection h with _ h;omega
  |some g=>unfold jq at h;injection h with h;injection h with _ h;rw[Int.ofNat.inj h]
def nv(o:Option Nat):Value:=.pointer (o.map fun g=>⟨g,0,none⟩)
def oN:Value->Option (DataW Unit × List MemPlace)
 | .pointer none=>some (jq none,[])
 | .pointer (some ⟨g,0,none⟩)=>some (jq (some g),[])
 |_=>none
theorem xq(o:Option Nat):oN (nv o)=some (jq o,[]):=by cases o <;> rfl
theorem FQ{v:Value}{o:Option Nat}{ps:List MemPlace}(h:oN v=some (jq o,ps)):v=nv o:=by
 unfold oN at h
 split at h
 ·injection h with h
  injection h with h _;rw[<-xr h];rfl
 ·injection h with h
  injection h with h _;rw[<-xr h];rfl
 ·cases h
theorem r8:Keyed prog 9:=string_keyed underlying9
theorem Cr(w:World):(zeroValue 187).run prog w=.ok (nv none) w:=by kernel_rfl
theorem vF{k:dl}(h:k.length<=1000):keyOf prog 9 (.string ⟨k.toArray⟩)=some (.string k):=by
 have:=WideMaps.keyOf_string_mk (P:=prog) underlying9 (s:=⟨k.toArray⟩) (by unfold maxLen;simp[ByteArray.size];omega);simpa using this
theorem qg{k:TypeId}{R:Value->Option (DataW Unit × List MemPlace)}{b n:Nat}{D:DataW Unit}{w w':World}(h:w.ownsMap prog k R b n D)(e:w'.heap[b]?=w.heap[b]?):w'.ownsMap prog k R b n D:=by
 obtain⟨a,c,d,f⟩:=h;exact⟨a,c,e.trans d,f⟩
def k8(n:TNd):Array Value:=#[.int .i64 n.own,.int .u8 (n.may:Nat),.int .u8 (n.asl:Nat),.int .u8 (n.todo:Nat),.int .u8 (n.gone:Nat)]
def jz(l:List TNd)(gs:List Nat)(k:dl):Option Nat:=(ee l k).bind fun i=>gs[i]?
structure TrH where
 b:Nat
 mb:Nat
 a:Option Addr
 cap:Nat
 wc:World
 p:Pg
 fuel:Int
def eS(h:TrH)(gs:List Nat)(x:Nat):Prop:=x=h.b∨x=h.mb∨x∈gs
def oy(h:TrH)(cl:Int):Array Value:=#[.int .i64 h.p.vars,.int .i64 h.p.mutexes,.slice h.a h.p.threads.length h.cap,.int .i64 h.fuel,.map (some h.mb),.int .i64 cl]
structure TrAt(h:TrH)(w:World)(gs:List Nat)(l:List TNd)(cl:Int):Prop where
 thr:dI h.wc h.a h.p.threads
 below:Below h.wc.heap.size h.wc w
 low:∀x,eS h gs x->h.wc.heap.size<=x
 box:w.heap[h.b]?=some (.cells (oy h cl) 121 (0,0))
 map:∃D,w.ownsMap prog 9 oN h.mb l.length D/\(∀k,D.atKey (.string k) (jq none)=jq (jz l gs k)/\Maps.has D (.string k)=(jz l gs k).isSome)/\Maps.size D=l.length
 len:gs.length=l.length
 nodup:gs.Nodup
 nodes:∀i (h1:i<l.length) (h2:i<gs.length),w.heap[gs[i]]?=some (.cells (k8 l[i]) 189 (0,0))
 ok:TrOk h.p h.fuel l
 fuel:dF h.p h.fuel=true
theorem TrAt.thrW{h:TrH}{w:World}{gs:List Nat}{l:List TNd}{cl:Int}(t:TrAt h w gs l cl):dI w h.a h.p.threads:=t.thr.later t.below
theorem TrAt.lt{h:TrH}{w:World}{gs:List Nat}{l:List TNd}{cl:Int}(t:TrAt h w gs l cl):∀x,eS h gs x->x<w.heap.size:=by
 rintro x (rfl|rfl|hx)
 ·exact(Array.getElem?_eq_some_iff.1 t.box).1
 ·obtain⟨D,a,_⟩:=t.map
  exact a.lt
 ·obtain⟨i,b,rfl⟩:=List.getElem_of_mem hx
  exact(Array.getElem?_eq_some_iff.1 (t.nodes i (by have:=t.len;omega) b)).1
theorem TrAt.keep{h:TrH}{w w':World}{gs:List Nat}{l:List TNd}{cl:Int}(t:TrAt h w gs l cl)(hb:Below h.wc.heap.size w w')(b:∀x,eS h gs x->w'.heap[x]?=w.heap[x]?):TrAt h w' gs l cl:=by
 obtain⟨D,c,a,d⟩:=t.map;exact⟨t.thr,t.below.trans hb,t.low,(b _ (.inl rfl)).trans t.box,⟨D,qg c (b _ (.inr (.inl rfl))),a,d⟩,t.len,t.nodup,fun i e a=>(b _ (.inr (.inr (getElem_mem a)))).trans (t.nodes i e a),t.ok,t.fuel⟩
theorem TrAt.later{h:TrH}{w w':World}{gs:List Nat}{l:List TNd}{cl:Int}(t:TrAt h w gs l cl)(hb:Below w.heap.size w w'):TrAt h w' gs l cl:=
 t.keep (hb.mono t.below.size) fun x hx=>hb.block x (t.lt x hx)
theorem TrAt.drew{h:TrH}{w:World}{gs:List Nat}{l:List TNd}{cl:Int}(t:TrAt h w gs l cl):TrAt h w.drew gs l cl:=t.keep (Below.refl _ _).drew fun _ _=>rfl
theorem TrAt.cells{h:TrH}{w:World}{gs:List Nat}{l:List TNd}{cl:Int}(t:TrAt h w gs l cl):w.cell? ⟨h.b,0,none⟩=some (.int .i64 h.p.vars)/\w.cell? ⟨h.b,1,none⟩=some (.int .i64 h.p.mutexes)/\w.cell? ⟨h.b,2,none⟩=some (.slice h.a h.p.threads.length h.cap) /\
  w.cell? ⟨h.b,3,none⟩=some (.int .i64 h.fuel)/\w.cell? ⟨h.b,4,none⟩=some (.map (some h.mb))/\w.cell? ⟨h.b,5,none⟩=some (.int .i64 cl):=
 ⟨by rw[cell_of_row w h.b 0 _ _ _ t.box];rfl,by rw[cell_of_row w h.b 1 _ _ _ t.box];rfl,by rw[cell_of_row w h.b 2 _ _ _ t.box];rfl,by rw[cell_of_row w h.b 3 _ _ _ t.box];rfl,by rw[cell_of_row w h.b 4 _ _ _ t.box];rfl,by rw[cell_of_row w h.b 5 _ _ _ t.box];rfl⟩
theorem TrAt.node{h:TrH}{w:World}{gs:List Nat}{l:List TNd}{cl:Int}(t:TrAt h w gs l cl){i:Nat}(c:i<l.length):∃b:i<gs.length,w.cell? ⟨gs[i],0,none⟩=some (.int .i64 l[i].own)/\w.cell? ⟨gs[i],1,none⟩=some (.int .u8 (l[i].may:Nat))/\w.cell? ⟨gs[i],2,none⟩=some (.int .u8 (l[i].asl:Nat)) /\
  w.cell? ⟨gs[i],3,none⟩=some (.int .u8 (l[i].todo:Nat))/\w.cell? ⟨gs[i],4,none⟩=some (.int .u8 (l[i].gone:Nat)):=by
 have b:i<gs.length:=by have:=t.len;omega
 have a:=t.nodes i c b;exact⟨b,by rw[cell_of_row w _ 0 _ _ _ a];rfl,by rw[cell_of_row w _ 1 _ _ _ a];rfl,by rw[cell_of_row w _ 2 _ _ _ a];rfl,by rw[cell_of_row w _ 3 _ _ _ a];rfl,by rw[cell_of_row w _ 4 _ _ _ a];rfl⟩
theorem TrAt.look{h:TrH}{w:World}{gs:List Nat}{l:List TNd}{cl:Int}(t:TrAt h w gs l cl){k:dl}(c:k.length<=1000):(Instr.lookup 119 (.map (some h.mb)) (.string ⟨k.toArray⟩) false).run prog w=.ok (nv (jz l gs k)) w:=by
 obtain⟨D,d,e,_⟩:=t.map;obtain⟨v,g,f,b⟩:=d.lookup r8 underlying119 (Cr w) (xq none) (vF c);rw[(e k).1]at b;rw[f,FQ b]
theorem AT{l:List TNd}{gs:List Nat}{k:dl}{i:Nat}(h:ee l k=some i)(a:i<gs.length):jz l gs k=some gs[i]:=by
 unfold jz;rw[h];simp[a]
theorem uT{l:List TNd}{gs:List Nat}{k:dl}(h:ee l k=none):jz l gs k=none:=by
 unfold jz;rw[h];rfl
theorem TrAt.put{h:TrH}{w w':World}{gs:List Nat}{l:List TNd}{cl:Int}(t:TrAt h w gs l cl){i:Nat}(f:i<l.length)(m:i<gs.length){n:TNd}(e:n.pre=l[i].pre)(u:n.may=l[i].may)(v:n.Ok)(y:∀i,n.todo.testBit i=true->n.may.testBit i=true)
  (g:OnlyS (fun x=>x=gs[i]) w w') (z:w'.heap[gs[i]]?=some (.cells (k8 n) 189 (0,0))):TrAt h w' gs (l.set i n) cl:=by
 have p:gs[i]≠h.b:=by
  intro d;have a:=t.nodes i f m;rw[d,t.box]at a;injection a with a;injection a with a;unfold oy k8 at a;simp at a
 have q:gs[i]≠h.mb:=by
  intro d;have a:=t.nodes i f m;obtain⟨D,⟨F,c,o,_⟩,_⟩:=t.map;rw[d,o]at a
  cases a
 have hb:Below h.wc.heap.size w w':=g.below t.below.size fun x hx=>by subst hx;exact t.low _ (.inr (.inr (getElem_mem m)))
 obtain⟨D,B,C,o⟩:=t.map;refine⟨t.thr,t.below.trans hb,t.low,(g.block _ (t.lt _ (.inl rfl)) (Ne.symm p)).trans t.box,⟨D,?_,?_,?_⟩,?_,t.nodup,?_,t.ok.set f e u v y,t.fuel⟩
 ·rw[length_set]
  exact qg B (g.block _ (t.lt _ (.inr (.inl rfl))) (Ne.symm q))
 ·intro k
  have:=C k;unfold jz at *;rw[ue f e];exact this
 ·rw[length_set];exact o
 ·rw[length_set];exact t.len
 ·intro j a s
  rw[length_set]at a;rw[List.getElem_set]
  split
  ·rename_i d;subst d;exact z
  ·rename_i d
   have r:gs[j]≠gs[i]:=fun E=>d ((List.getElem_inj t.nodup).1 E).symm
   exact(g.block _ (t.lt _ (.inr (.inr (getElem_mem s)))) r).trans (t.nodes j a s)
theorem TrAt.more{h:TrH}{w w':World}{gs:List Nat}{l:List TNd}{cl:Int}(t:TrAt h w gs l cl){n:TNd}{g:Nat}(u:w.heap.size<=g)(m:OnlyS (fun x=>x=h.mb) w w')(v:w'.heap[g]?=some (.cells (k8 n) 189 (0,0)))
  {D:DataW Unit} (y:w'.ownsMap prog 9 oN h.mb (l.length+1) D) (h2:∀k,D.atKey (.string k) (jq none)=jq (if k=n.pre then some g else jz l gs k)/\Maps.has D (.string k)=(if k=n.pre then some g else jz l gs k).isSome) (j:Maps.size D=l.length+1) (z:ee l n.pre=none) (B:TrOk h.p h.fuel (l++[n])):
  TrAt h w' (gs++[g]) (l++[n]) cl:=by
 have hb:Below h.wc.heap.size w w':=m.below t.below.size fun x hx=>by subst hx;exact t.low _ (.inr (.inl rfl))
 have q:h.b≠h.mb:=by
  intro e;have d:=t.box;obtain⟨D,⟨C,c,j,_⟩,_⟩:=t.map;rw[e,j]at d
  cases d
 have f:=t.len;refine⟨t.thr,t.below.trans hb,?_,(m.block _ (t.lt _ (.inl rfl)) q).trans t.box,⟨D,?_,?_,?_⟩,?_,?_,?_,B,t.fuel⟩
 ·rintro x (hx|hx|hx)
  ·exact t.low x (.inl hx)
  ·exact t.low x (.inr (.inl hx))
  ·rw[List.mem_append,List.mem_singleton]at hx
   rcases hx with hx|rfl
   ·exact t.low x (.inr (.inr hx))
   ·exact Nat.le_trans t.below.size u
 ·rw[length_append];exact y
 ·intro k
  have o:jz (l++[n]) (gs++[g]) k=if k=n.pre then some g else jz l gs k:=by
   unfold jz;rw[zn z]
   by_cases e:k=n.pre
   ·rw[if_pos e,if_pos e]
    simp[<-f]
   ·rw[if_neg e,if_neg e]
    cases E:ee l k with
    |none=>rfl
    |some i=>
     obtain⟨G,_⟩:=iQ E;simp only[Option.bind_some];rw[List.getElem?_append_left (by omega)]
  rw[o];exact h2 k
 ·rw[length_append];exact j
 ·rw[length_append,length_append,f];rfl
 ·rw[List.nodup_append]
  refine⟨t.nodup,by simp,?_⟩;intro a F b hb e;simp at hb;subst hb e;have:=t.lt a (.inr (.inr F));omega
 ·intro i d s
  rw[length_append]at d s;simp only[List.length_singleton]at d s
  by_cases e:i<l.length
  ·rw[List.getElem_append_left (by omega),List.getElem_append_left e]
   have r:gs[i]'(by omega)≠h.mb:=by
    intro o;have d:=t.nodes i e (by omega);obtain⟨D,⟨C,c,j,_⟩,_⟩:=t.map;rw[o,j]at d
    cases d
   exact(m.block _ (t.lt _ (.inr (.inr (getElem_mem _)))) r).trans (t.nodes i e (by omega))
  ·obtain rfl:i=l.length:=by omega
   simp only[<-f];rw[List.getElem_append_right (by omega),List.getElem_append_right (by omega)];simpa using v
theorem TrAt.count{h:TrH}{w w':World}{gs:List Nat}{l:List TNd}{cl f:Int}(t:TrAt h w gs l cl)(g:OnlyS (fun x=>x=h.b) w w')(n:w'.heap[h.b]?=some (.cells (oy h f) 121 (0,0))):TrAt h w' gs l f:=by
 have hb:Below h.wc.heap.size w w':=g.below t.below.size fun x hx=>by subst hx;exact t.low _ (.inl rfl)
 have k:h.b≠h.mb:=by
  intro e;have a:=t.box;obtain⟨D,⟨q,c,j,_⟩,_⟩:=t.map;rw[e,j]at a
  cases a
 obtain⟨D,o,d,j⟩:=t.map;refine⟨t.thr,t.below.trans hb,t.low,n,⟨D,qg o (g.block _ (t.lt _ (.inr (.inl rfl))) (Ne.symm k)),d,j⟩,t.len,t.nodup,fun i a d=>?_,t.ok,t.fuel⟩
 have m:gs[i]≠h.b:=by
  intro p;have a:=t.nodes i a d;rw[p,t.box]at a;injection a with a;injection a with a;unfold oy k8 at a;simp at a
 exact(g.block _ (t.lt _ (.inr (.inr (getElem_mem d)))) m).trans (t.nodes i a d)
end
section
open Go.RowKit
theorem lJ{P:Program}(t e:TypeId)(z:Value)(k bytes:Nat)(f:P.underlying t=some (.slice e))(a:(P.info? e).map (fun i=>(i.zero,i.size,i.bytes))=some (some z,k,bytes))
  (n:Nat) (c:bytes*n<=281474976710656) (m:n<=9223372036854775807) (w:World):
  (Instr.makeSlice t (.int .i64 (n:Int)) (.int .i64 (n:Int))).run P w=.ok (.slice (some ⟨w.heap.size,0,none⟩) n n) (w.alloc (.cells (madeCells z.cells (n*k)) e)):=by
 obtain⟨i,g,b⟩:=Option.map_eq_some_iff.1 a;simp only[Prod.mk.injEq]at b;obtain⟨j,l,hb⟩:=b
 have d:(i.bytes:Int)*(n:Int)<=281474976710656:=by
  rw[hb,<-Int.natCast_mul];omega
 have h:=run_make (P:=P) w t e i z f g j .i64 .i64 n n (by omega) (by omega) d (by omega);rw[l]at h;simpa using h
def dm(w:World)(g:Nat)(t:TypeId)(xs:List Value):Prop:=w.heap[g]?=some (.cells xs.toArray t (0,0))
theorem dm.lt{w:World}{g:Nat}{t:TypeId}{xs:List Value}(h:dm w g t xs):g<w.heap.size:=(Array.getElem?_eq_some_iff.1 h).1
theorem dm.later{w w':World}{g:Nat}{t:TypeId}{xs:List Value}(h:dm w g t xs)(hb:Below w.heap.size w w'):dm w' g t xs:=(hb.block g h.lt).trans h
theorem dm.cell{w:World}{g:Nat}{t:TypeId}{xs:List Value}(h:dm w g t xs)(j:Nat):w.cell? ⟨g,j,none⟩=xs[j]?:=by
 simp[World.cell?,show w.heap[g]?=_ from h]
theorem dm.frozen{w:World}{g:Nat}{t:TypeId}{xs:List Value}(h:dm w g t xs)(j:Nat):w.frozen? ⟨g,j,none⟩=false:=by
 simp[World.frozen?,show w.heap[g]?=_ from h]
theorem dm.set{w:World}{g:Nat}{t:TypeId}{xs:List Value}(h:dm w g t xs)(j:Nat)(v:Value):dm (w.setCell ⟨g,j,none⟩ v) g t (xs.set j v):=by
 have:=heap_setCell_same w g j _ _ v h;unfold dm;rw[this];simp
theorem dm.made(w:World)(t:TypeId)(z:Value)(n:Nat):dm (w.alloc (.cells (madeCells #[z] n) t)) w.heap.size t (List.replicate n z):=by
 have:=heap_alloc_new w (.cells (madeCells #[z] n) t);unfold dm;rw[this];simp[madeCells]
 apply Array.ext <;> simp[Nat.mod_one]
def iw{T:Type}(f:T->Value)(z:Value)(l:List T)(k:Nat):List Value:=(l.take k).map f++List.replicate (l.length-k) z
theorem us{T:Type}(f:T->Value)(z:Value)(l:List T):iw f z l 0=List.replicate l.length z:=by simp[iw]
theorem uu{T:Type}(f:T->Value)(z:Value)(l:List T):iw f z l l.length=l.map f:=by simp[iw]
theorem Ld{T:Type}(f:T->Value)(z:Value)(l:List T)(k:Nat)(h:k<=l.length):(iw f z l k).length=l.length:=by simp[iw];omega
theorem ut{T:Type}(f:T->Value)(z:Value)(l:List T)(k:Nat)(h:k<l.length):(iw f z l k).set k (f l[k])=iw f z l (k+1):=by
 unfold iw;have e:k-((l.take k).map f).length=0:=by simp;omega
 rw[List.set_append_right _ _ (by simp;omega),e,List.take_succ_eq_append_getElem h,show l.length-k=(l.length-(k+1))+1 by omega,List.replicate_succ,List.map_append,List.append_assoc];rfl
theorem dm.nums{w:World}{g:Nat}{t:TypeId}{ns:List Int}(h:dm w g t (ns.map (Value.int .i64)))(b:ns.length<=1000000):iB w (some ⟨g,0,none⟩) ns:=by
 refine⟨by unfold maxLen;omega,fun _=>⟨g,0,rfl,fun i a=>?_⟩⟩;rw[Nat.zero_add,h.cell];simp[a]
end
section
open Go.Lib (hid)
open Go.Proofs.Tryz Go.RowKit
theorem nR{h:TrH}{w:World}{gs:List Nat}{l:List TNd}{cl:Int}(t:TrAt h w gs l cl){k:dl}(e:k.length<=1000){i:Nat}(c:ee l k=some i)(f:i<gs.length):
  Calls prog 115 #[.pointer (some ⟨h.b,0,none⟩),.string ⟨k.toArray⟩] w fun r j=>r=.returned (.tuple #[.pointer (some ⟨gs[i],0,none⟩),.int .i64 0])/\w=j:=by
 have a:=t.look e;rw[AT c f]at a;obtain⟨_,_,_,_,m,_⟩:=t.cells;have d:nv (some gs[i])=.pointer (some ⟨gs[i],0,none⟩):=rfl;rw[d]at a;clear d t c;generalize gs[i]=g at *;go_enter func115,ntmps115;go_wp2;go_ret2;exact⟨rfl,rfl⟩
theorem nS{h:TrH}{w:World}{gs:List Nat}{l:List TNd}{cl:Int}(t:TrAt h w gs l cl){k:dl}(e:k.length<=1000)(c:ee l k=none):
  Calls prog 115 #[.pointer (some ⟨h.b,0,none⟩),.string ⟨k.toArray⟩] w fun r f=>r=.returned (.tuple #[.pointer none,.int .i64 6])/\w=f:=by
 have a:=t.look e;rw[uT c]at a;obtain⟨_,_,_,_,g,_⟩:=t.cells;have d:nv none=.pointer none:=rfl;rw[d]at a;clear d t c;go_enter func115,ntmps115;go_wp2;go_ret2;exact⟨rfl,rfl⟩
theorem yO{g:Nat}{n:TNd}(a:n.Ok){w:World}(e:w.cell? ⟨g,2,none⟩=some (.int .u8 (n.asl:Nat)))(f:w.cell? ⟨g,3,none⟩=some (.int .u8 (n.todo:Nat)))(h:w.cell? ⟨g,4,none⟩=some (.int .u8 (n.gone:Nat))):
  Calls prog 129 #[.pointer (some ⟨g,0,none⟩)] w fun r d=>r=.returned (.int .u8 (n.left:Nat))/\Below w.heap.size w d:=by
 have b:Hid (bits .andNot .u8 (n.todo:Int) (n.gone:Int)=((wo n.todo n.gone:Nat):Int)):=rH _ _ a.todo a.gone;have c:Hid (bits .andNot .u8 ((wo n.todo n.gone:Nat):Int) (n.asl:Int)=((wo (wo n.todo n.gone) n.asl:Nat):Int)):=rH _ _ (jB _ _ a.todo) a.asl;clear a;go_enter func129,ntmps129;go_wp2
 go_quiet (fail)
 go_wp2;go_ret;exact⟨by rw[b.out,c.out];rfl,(Below.refl _ _).drewN⟩
theorem rB(l:List UInt8)(j:Nat):(⟨l.toArray⟩:ByteArray).extract 0 j=⟨(l.take j).toArray⟩:=by
 apply ByteArray.ext;rw[ByteArray.data_extract];simp[List.extract_eq_take_drop]
theorem zV{T:Type}(f:T->Value)(z:Value)(l:List T)(j:Nat)(h:j<l.length):(iw f z l j)[j]?=some z:=by
 unfold iw;rw[List.getElem?_append_right (by simp;omega),List.getElem?_replicate,if_pos (by simp;omega)]
def jE(c:UInt8):Value:=.int .i64 (c.toNat:Int)
theorem vY(k:dl):k.map jE=(dB k).map (Value.int .i64):=by
 unfold dB jE;rw[List.map_map];rfl
theorem Da(k:dl)(w:World)(O:k.length<=1000)(F:33<k.length):
  Calls prog 104 #[.string ⟨k.toArray⟩] w fun r z=>∃g n:Nat,r=.returned (.slice (some ⟨g,0,none⟩) n n)/\n=((dB k).take 33).length/\w.heap.size<=g/\iB z (some ⟨g,0,none⟩) ((dB k).take 33)/\Below w.heap.size w z:=by
 obtain⟨q,f⟩:∃q,q=k.take 33:=⟨_,rfl⟩
 have G:(⟨k.toArray⟩:ByteArray).size=k.length:=by simp[ByteArray.size]
 have d:q.length=33:=by rw[f,List.length_take];omega
 have H:(⟨k.toArray⟩:ByteArray).extract 0 33=⟨q.toArray⟩:=by rw[rB,f]
 have A:Hid ((dB k).take 33=dB q):=by
  show _=_;rw[f,<-sE]
 have I:(⟨q.toArray⟩:ByteArray).size=33:=by rw[<-d];simp[ByteArray.size]
 have l:∀W:World,(Instr.makeSlice 108 (.int .i64 33) (.int .i64 33)).run prog W=.ok (.slice (some ⟨W.heap.size,0,none⟩) 33 33) (W.alloc (.cells (madeCells (Value.int .i64 0).cells (33*1)) 3)):=lJ (P:=prog) 108 3 (.int .i64 0) 1 8 underlying108 (by kernel_rfl) 33 (by omega) (by omega);have b:=hid d;have m:Hid (∀j (h:j<q.length) (D:j<(⟨q.toArray⟩:ByteArray).size),(⟨q.toArray⟩:ByteArray)[j]=q[j]'h):=fun j h D=>rfl
 have B:(33:Int)<k.length:=by omega
 have y:List.length q=33:=d;clear f;go_enter func104,ntmps104;go_wp2
 go_loopw [15] (fun i wr=>∃j:Nat,j<=33/\i=.int .i64 j/\Hid (dm wr w.heap.size 3 (iw jE (.int .i64 0) q j))/\Below w.heap.size w wr) (fun i _=>33-(intOf i).toNat)
 case atStart=>
  refine⟨0,Nat.zero_le _,rfl,?_,da _ _⟩;show dm _ _ _ _;rw[us,b.out];have:=dm.made w 3 (.int .i64 0) 33;simpa using this
 case round=>
  clear l;obtain⟨j,Q,rfl,e,hb⟩:=hrel
  by_cases o:j<33
  ·have R:=e.out.lt
   have a:j<q.length:=by rw[b.out];exact o
   have E:=hid (ut jE (.int .i64 0) q j a);have J:=m.out j a;have S:=UInt8.toNat_lt (q[j]'a);have L:=e.out.frozen j;have T:IntKind.i64.wrap ((q[j]'a).toNat:Int)=(q[j]'a).toNat:=IntWalk.i64_in _ (by omega);have s:Hid (jE (q[j]'a)=.int .i64 ((q[j]'a).toNat:Int)):=rfl
   have M:wr.cell? ⟨w.heap.size,j,none⟩=some (.int .i64 0):=by
    rw[e.out.cell];exact zV _ _ q j a
   have N:(j:Int)<33:=by omega
   have C:(0:Int)<=j:=by omega
   generalize q[j]'a=c at *;clear a;go_wp2;have u:=hb.setCell (p:=⟨w.heap.size,j,none⟩) (Nat.le_refl _) (.int .i64 (c.toNat:Int))
   have v:Hid (dm (wr.setCell ⟨w.heap.size,j,none⟩ (.int .i64 (c.toNat:Int))) w.heap.size 3 (iw jE (.int .i64 0) q (j+1))):=by
    show dm _ _ _ _;rw[<-E.out,s.out];exact e.out.set j _
   go_roundw
   case rel=>exact⟨j+1,by omega,by go_num,v,u⟩
   case measure=>simp[intOf];omega
  ·have x:j=33:=by omega
   subst x;go_wp2;go_ret;refine⟨w.heap.size,33,rfl,by rw[A.out,mo,b.out],Nat.le_refl _,?_,hb⟩;rw[A.out];refine dm.nums (t:=3) ?_ (by rw[mo,b.out];omega);rw[<-vY,<-uu jE (.int .i64 0) q,b.out];exact e.out
theorem C9(k:dl)(w:World)(M:k.length<=1000)(E:¬ 33<k.length):
  Calls prog 104 #[.string ⟨k.toArray⟩] w fun r x=>∃g n:Nat,r=.returned (.slice (some ⟨g,0,none⟩) n n)/\n=((dB k).take 33).length/\w.heap.size<=g/\iB x (some ⟨g,0,none⟩) ((dB k).take 33)/\Below w.heap.size w x:=by
 obtain⟨q,B⟩:∃q,q=k:=⟨_,rfl⟩
 subst B
 obtain⟨Q,e⟩:∃Q:Nat,q.length=Q:=⟨_,rfl⟩
 have F:(⟨q.toArray⟩:ByteArray).extract 0 Q=⟨q.toArray⟩:=by rw[rB,<-e,List.take_length]
 have y:Hid ((dB q).take 33=dB q):=by
  show _=_;rw[List.take_of_length_le];rw[mo];omega
 have G:(⟨q.toArray⟩:ByteArray).size=Q:=by rw[<-e];simp[ByteArray.size]
 have f:=lJ (P:=prog) 108 3 (.int .i64 0) 1 8 underlying108 (by kernel_rfl) Q (by omega) (by omega);have b:Hid (q.length=Q):=e;have l:Hid (∀j (h:j<q.length) (C:j<(⟨q.toArray⟩:ByteArray).size),(⟨q.toArray⟩:ByteArray)[j]=q[j]'h):=fun j h C=>rfl
 have z:¬(33:Int)<Q:=by omega
 go_enter func104,ntmps104;go_wp2
 go_loopw [15] (fun i wr=>∃j:Nat,j<=Q/\i=.int .i64 j/\Hid (dm wr w.heap.size 3 (iw jE (.int .i64 0) q j))/\Below w.heap.size w wr) (fun i _=>Q-(intOf i).toNat)
 case atStart=>
  refine⟨0,Nat.zero_le _,rfl,?_,da _ _⟩;show dm _ _ _ _;rw[us,b.out];have:=dm.made w 3 (.int .i64 0) Q;simpa using this
 case round=>
  clear f;obtain⟨j,N,rfl,d,hb⟩:=hrel
  by_cases m:j<Q
  ·have O:=d.out.lt
   have a:j<q.length:=by rw[b.out];exact m
   have D:=hid (ut jE (.int .i64 0) q j a);have H:=l.out j a;have R:=UInt8.toNat_lt (q[j]'a);have I:=d.out.frozen j;have S:IntKind.i64.wrap ((q[j]'a).toNat:Int)=(q[j]'a).toNat:=IntWalk.i64_in _ (by omega);have o:Hid (jE (q[j]'a)=.int .i64 ((q[j]'a).toNat:Int)):=rfl
   have J:wr.cell? ⟨w.heap.size,j,none⟩=some (.int .i64 0):=by
    rw[d.out.cell];exact zV _ _ q j a
   have L:(j:Int)<(Q:Int):=by omega
   have A:(0:Int)<=j:=by omega
   generalize q[j]'a=c at *;clear a;go_wp2;have s:=hb.setCell (p:=⟨w.heap.size,j,none⟩) (Nat.le_refl _) (.int .i64 (c.toNat:Int))
   have u:Hid (dm (wr.setCell ⟨w.heap.size,j,none⟩ (.int .i64 (c.toNat:Int))) w.heap.size 3 (iw jE (.int .i64 0) q (j+1))):=by
    show dm _ _ _ _;rw[<-D.out,o.out];exact d.out.set j _
   go_roundw
   case rel=>exact⟨j+1,by omega,by go_num,u,s⟩
   case measure=>simp[intOf];omega
  ·have v:j=Q:=by omega
   subst v;go_wp2;go_ret;refine⟨w.heap.size,j,rfl,by rw[y.out,mo,b.out],Nat.le_refl _,?_,hb⟩;rw[y.out];refine dm.nums (t:=3) ?_ (by rw[mo,b.out];omega);rw[<-vY,<-uu jE (.int .i64 0) q,b.out];exact d.out
theorem vS(k:dl)(w:World)(a:k.length<=1000):
  Calls prog 104 #[.string ⟨k.toArray⟩] w fun r b=>∃g n:Nat,r=.returned (.slice (some ⟨g,0,none⟩) n n)/\n=((dB k).take 33).length/\w.heap.size<=g/\iB b (some ⟨g,0,none⟩) ((dB k).take 33)/\Below w.heap.size w b:=by
 by_cases h:33<k.length
 ·exact Da k w a h
 ·exact C9 k w a h
theorem wJ(p:Pg)(a:Option Addr)(cap:Nat)(fuel:Int)(e:Option Addr)(c:Nat)(row:List Int)(w:World)(f:dI w a p.threads)(d:iB w e row)(b:row.length<=1000)(n:Nat)(g:n=row.length):
  Calls prog 103 #[.agg #[.int .i64 p.vars,.int .i64 p.mutexes,.slice a p.threads.length cap],.int .i64 fuel,.slice e n c] w (ma p fuel row w):=by
 subst g;exact Ez p a cap fuel e c row w f d b
theorem Ey(p:Pg)(a:Option Addr)(cap:Nat)(fuel:Int)(f:Option Addr)(c:Nat)(row:List Int)(w:World)(i:dI w a p.threads)(d:iB w f row)(b:row.length<=1000)(n:Nat)(j:n=row.length){e:Int}{k:List Ev}(l:dQ p fuel row=(e,k,none)):
  Calls prog 103 #[.agg #[.int .i64 p.vars,.int .i64 p.mutexes,.slice a p.threads.length cap],.int .i64 fuel,.slice f n c] w fun r g=>r=.returned (.tuple #[.pointer none,.slice none 0 0,.int .i64 e])/\Below w.heap.size w g:=
 (wJ p a cap fuel f c row w i d b n j).mono fun r g h=>by
  unfold ma at h;rw[l]at h;exact⟨h.2,h.1⟩
theorem Ew(p:Pg)(a:Option Addr)(cap:Nat)(fuel:Int)(i:Option Addr)(c:Nat)(row:List Int)(w:World)(k:dI w a p.threads)(d:iB w i row)(b:row.length<=1000)(n:Nat)(l:n=row.length){e:Int}{j:List Ev}{s:St}(m:dQ p fuel row=(e,j,some s)):
  Calls prog 103 #[.agg #[.int .i64 p.vars,.int .i64 p.mutexes,.slice a p.threads.length cap],.int .i64 fuel,.slice i n c] w fun r f=>∃g v,r=.returned (.tuple #[.pointer (some ⟨g,0,none⟩),v,.int .i64 0])/\w.heap.size<=g/\di f g s/\s.Ok fuel.toNat/\dr f w.heap.size v j/\Below w.heap.size w f:=
 (wJ p a cap fuel i c row w k d b n l).mono fun r f h=>by
  unfold ma at h;rw[m]at h;obtain⟨o,g,v,q,t,u,x,y⟩:=h;exact⟨g,v,q,t,u,x,y,o⟩
theorem Na{h:TrH}{w:World}{gs:List Nat}{l:List TNd}{cl:Int}(t:TrAt h w gs l cl){k:dl}(C:k.length<=1000){e:Int}{D:List Ev}(z:dQ h.p h.fuel (dB k)=(e,D,none)):
  Calls prog 65 #[.pointer (some ⟨h.b,0,none⟩),.string ⟨k.toArray⟩] w fun r E=>r=.returned (.tuple #[.pointer none,.slice none 0 0,.int .i64 e])/\Below w.heap.size w E:=by
 have M:=hid t;have o:Hid (dQ h.p h.fuel ((dB k).take 33)=dQ h.p h.fuel (dB k)):=sL _ _ _
 have d:Hid (∀W,Below w.heap.size w W->W.cell? ⟨h.b,0,none⟩=some (.int .i64 h.p.vars)/\W.cell? ⟨h.b,1,none⟩=some (.int .i64 h.p.mutexes)/\W.cell? ⟨h.b,2,none⟩=some (.slice h.a h.p.threads.length h.cap)/\W.cell? ⟨h.b,3,none⟩=some (.int .i64 h.fuel)):=fun W hb=>by
  obtain⟨F,G,H,I,_⟩:=(t.later hb).cells;exact⟨F,G,H,I⟩
 have q:Hid (∀W,Below w.heap.size w W->dI W h.a h.p.threads):=fun W hb=>(t.later hb).thrW
 have f:Below w.heap.size w w.drew:=(Below.refl _ _).drew;have s:=hid z;clear t z;go_enter func65,ntmps65;go_wp2
 go_region_held3 (fun W=>W.cell? ⟨h.b,0,none⟩=some (.int .i64 h.p.vars)/\W.cell? ⟨h.b,1,none⟩=some (.int .i64 h.p.mutexes)/\W.cell? ⟨h.b,2,none⟩=some (.slice h.a h.p.threads.length h.cap)/\W.cell? ⟨h.b,3,none⟩=some (.int .i64 h.fuel))
  (first|with_reducible exact d.out _ f|with_reducible exact d.out _ c|with_reducible exact d.out _ i)
  (first
   |(go_at_call 104;((with_reducible refine(vS k w.drew C).mono ?_);rintro r A⟨g,n,rfl,B,N,j,u⟩;have J:=hid B;clear B;have c:Below w.heap.size w A:=Below.trans f u;have x:=hid j;have m:Hid (((dB k).take 33).length<=1000):=by(show _<=_;rw[List.length_take];omega)))
   |(go_at_call 103;((with_reducible refine(Ey h.p h.a h.cap h.fuel (some ⟨g,0,none⟩) n ((dB k).take 33) A (q.out _ c) x.out m.out n J.out (o.out.trans s.out)).mono ?_);rintro r L⟨rfl,y⟩;have i:Below w.heap.size w L:=c.trans (y.mono c.size))))
 go_wp2;refine bodyPost_ret (v:=.tuple #[.pointer none,.slice none 0 0,.int .i64 e]) (by simp[results,results65,go_sem]) rfl ?_;exact⟨rfl,i⟩
theorem uU{h:TrH}{w:World}{gs:List Nat}{l:List TNd}{cl:Int}(t:TrAt h w gs l cl){k:dl}(N:k.length<=1000){e:Int}{G:List Ev}{s:St}(H:dQ h.p h.fuel (dB k)=(e,G,some s)):
  Calls prog 65 #[.pointer (some ⟨h.b,0,none⟩),.string ⟨k.toArray⟩] w fun r z=>∃g v,r=.returned (.tuple #[.pointer (some ⟨g,0,none⟩),v,.int .i64 0])/\w.heap.size<=g/\di z g s/\s.Ok h.fuel.toNat/\dr z w.heap.size v G/\Below w.heap.size w z:=by
 have V:=hid t;have A:Hid (dQ h.p h.fuel ((dB k).take 33)=dQ h.p h.fuel (dB k)):=sL _ _ _
 have j:Hid (∀W,Below w.heap.size w W->W.cell? ⟨h.b,0,none⟩=some (.int .i64 h.p.vars)/\W.cell? ⟨h.b,1,none⟩=some (.int .i64 h.p.mutexes)/\W.cell? ⟨h.b,2,none⟩=some (.slice h.a h.p.threads.length h.cap)/\W.cell? ⟨h.b,3,none⟩=some (.int .i64 h.fuel)):=fun W hb=>by
  obtain⟨O,P,Q,R,_⟩:=(t.later hb).cells;exact⟨O,P,Q,R⟩
 have B:Hid (∀W,Below w.heap.size w W->dI W h.a h.p.threads):=fun W hb=>(t.later hb).thrW
 have m:Below w.heap.size w w.drew:=(Below.refl _ _).drew;have C:=hid H;clear t H;go_enter func65,ntmps65;go_wp2
 go_region_held3 (fun W=>W.cell? ⟨h.b,0,none⟩=some (.int .i64 h.p.vars)/\W.cell? ⟨h.b,1,none⟩=some (.int .i64 h.p.mutexes)/\W.cell? ⟨h.b,2,none⟩=some (.slice h.a h.p.threads.length h.cap)/\W.cell? ⟨h.b,3,none⟩=some (.int .i64 h.fuel))
  (first|with_reducible exact j.out _ m|with_reducible exact j.out _ c|with_reducible exact j.out _ o)
  (first
   |(go_at_call 104;((with_reducible refine(vS k w.drew N).mono ?_);rintro r I⟨g,n,rfl,J,X,x,D⟩;have S:=hid J;clear J;have c:Below w.heap.size w I:=Below.trans m D;have E:=hid x;have y:Hid (((dB k).take 33).length<=1000):=by(show _<=_;rw[List.length_take];omega)))
   |(go_at_call 103;((with_reducible refine(Ew h.p h.a h.cap h.fuel (some ⟨g,0,none⟩) n ((dB k).take 33) I (B.out _ c) E.out y.out n S.out (A.out.trans C.out)).mono ?_);rintro r T⟨L,M,rfl,q,u,i,d,F⟩;have o:Below w.heap.size w T:=c.trans (F.mono c.size);have f:=hid (And.intro q (And.intro u (And.intro i d)));clear q u i d)))
 go_wp2;refine bodyPost_ret (v:=.tuple #[.pointer (some ⟨L,0,none⟩),M,.int .i64 0]) (by simp[results,results65,go_sem]) rfl ?_;have U:=c.size;exact⟨L,M,rfl,by have:=f.out.1;omega,f.out.2.1,f.out.2.2.1,xP f.out.2.2.2 U,o⟩
end
end Go.Proofs.YtjfmmnhcddckaaaGreat
