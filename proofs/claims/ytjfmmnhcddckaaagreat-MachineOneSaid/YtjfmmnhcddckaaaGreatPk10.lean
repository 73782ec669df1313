import Derived.Sort.Walk0
import Derived.Deep.CutBlock
import Derived.Test.YtjfmmnhcddckaaaGreatPk09
set_option maxRecDepth 100000
set_option maxHeartbeats 4000000
namespace Go.Proofs.YtjfmmnhcddckaaaGreat
section
open Go.Lib (hid)
open Go.Proofs.Tryz Go.RowKit
def ku(x:Int × Int):List Value:=[.int .i64 x.1,.int .i64 x.2]
theorem Gj(x:Int × Int):(ku x).length=2:=rfl
theorem en.pick{w:World}{a:Option Addr}{l:List (Int × Int)}(h:en w a 2 ku l){k:Nat}(c:k<l.length):∃b o,a=some ⟨b,o,none⟩/\w.cell? ⟨b,o+k*2,none⟩=some (.int .i64 l[k].1)/\w.cell? ⟨b,o+k*2+1,none⟩=some (.int .i64 l[k].2):=by
 obtain⟨b,o,rfl,d⟩:=h.2 (by intro e;simp[e]at c);have f:=d k c 0 _ rfl;have g:=d k c 1 _ rfl;exact⟨b,o,rfl,by simpa using f,by simpa using g⟩
structure RunI(I:MachI)(w:World)(B b:Nat)(p:Pg)(fuel:Int)(W Bud:Nat)(S:Nat->Prop)(m:Mac)(wr:World):Prop where
 mm:∃S',I.MM wr B b p fuel W Bud S' m/\∀y,S' y->S y∨w.heap.size<=y
 only:OnlyS S w wr
 good:GoodM p fuel W Bud m
section
variable{I:MachI}{w wr w':World}{B b W Bud:Nat}{p:Pg}{fuel:Int}{S:Nat->Prop}{m:Mac}
theorem RunI.start(h:I.MM w B b p fuel W Bud S m)(a:GoodM p fuel W Bud m):RunI I w B b p fuel W Bud S m w:=⟨⟨S,h,fun _ h=>.inl h⟩,OnlyS.refl _ _,a⟩
theorem RunI.later(h:RunI I w B b p fuel W Bud S m wr)(hb:Below wr.heap.size wr w'):RunI I w B b p fuel W Bud S m w':=by
 obtain⟨a,c,d⟩:=h.mm;exact⟨⟨a,I.only (R:=fun _=>False) c (OnlyS.of_below hb) fun _ _ h=>h,d⟩,h.only.trans (OnlyS.of_below hb),h.good⟩
theorem RunI.below(h:RunI I w B b p fuel W Bud S m wr){a:World}(hb:Below a.heap.size a w)(c:∀x,S x->a.heap.size<=x):Below a.heap.size a wr:=hb.trans (h.only.below hb.size c)
theorem RunI.step(h:RunI I w B b p fuel W Bud S m wr)(z d:Int):Calls prog 23 #[.pointer (some ⟨b,0,none⟩),.int .i64 z,.int .i64 d] wr fun r w'=>r=.returned (.int .i64 ((fQ p fuel W Bud z d m).1:Nat))/\RunI I w B b p fuel W Bud S (fQ p fuel W Bud z d m).2 w':=by
 obtain⟨o,f,c⟩:=h.mm
 refine(I.step z d f h.good).mono fun r w' ⟨e,g,i,j,k⟩=>⟨e,⟨g,i,fun y l=>?_⟩,h.only.thenS j fun x hx n=>?_,h.good.step z d⟩
 ·rcases k y l with a|a
  ·exact c y a
  ·exact .inr (Nat.le_trans h.only.size a)
 ·rcases c x n with a|a
  ·exact a
  ·omega
theorem RunI.halted(h:RunI I w B b p fuel W Bud S m wr):Calls prog 18 #[.pointer (some ⟨b,0,none⟩)] wr fun r w'=>r=.returned (.bool (el W m))/\RunI I w B b p fuel W Bud S m w':=by
 obtain⟨d,a,f⟩:=h.mm
 refine(I.halted a).mono fun r w' ⟨e,i,c⟩=>⟨e,?_⟩
 subst c;exact h.later (Below.refl _ _).drewN
theorem RunI.workers(h:RunI I w B b p fuel W Bud S m wr):Calls prog 29 #[.pointer (some ⟨b,0,none⟩)] wr fun r w'=>r=.returned (.int .i64 (W:Nat))/\RunI I w B b p fuel W Bud S m w':=by
 obtain⟨d,a,f⟩:=h.mm
 refine(I.workers a).mono fun r w' ⟨e,i,c⟩=>⟨e,?_⟩
 subst c;exact h.later (Below.refl _ _).drewN
theorem I5{l:List (Int × Int)}{j:Nat}(a:j<l.length):gh p fuel W Bud (l.take (j+1)) m=(fQ p fuel W Bud l[j].1 l[j].2 (gh p fuel W Bud (l.take j) m)).2:=by
 unfold gh fQ;rw[List.take_succ_eq_append_getElem a,List.foldl_append];simp only[List.foldl_cons,List.foldl_nil]
 split <;> rfl
theorem Cp(i k:Nat):iq p fuel W Bud i (List.range (k+1)) m=(fQ p fuel W Bud (k:Int) ((i:Int)+k) (iq p fuel W Bud i (List.range k) m)).2:=by
 unfold iq fQ;rw[List.range_succ,List.foldl_append,if_pos (by omega),Int.toNat_natCast];rfl
theorem Ei{n i:Nat}(h:el W m=false):fF p fuel W Bud (n+1) i m=fF p fuel W Bud n (i+1) (iq p fuel W Bud i (List.range W) m):=by
 conv=>lhs;unfold fF
 rw[if_neg (by rw[h];simp)];rfl
theorem Eh{n i:Nat}(h:el W m=true):fF p fuel W Bud n i m=m:=by
 cases n with
 |zero=>rfl
 |succ n=>unfold fF;rw[if_pos h]
theorem wF(I:MachI){w:World}{B b W Bud:Nat}{p:Pg}{fuel:Int}{S:Nat->Prop}{m:Mac}(h:I.MM w B b p fuel W Bud S m)(L:GoodM p fuel W Bud m)(C:World)(E:Below C.heap.size C w)(U:C.heap.size<=B)(M:Option Addr)(oc:Nat)(l:List (Int × Int))(f:en C M 2 ku l)(hl:l.length<=1000)(n:Nat)(hn:n<=1000000000):
  Calls prog 15 #[.pointer (some ⟨b,0,none⟩),.slice M l.length oc,.int .i64 (n:Int)] w fun r w'=>r=.returned (.tuple #[])/\RunI I w B b p fuel W Bud S (fF p fuel W Bud n 0 (gh p fuel W Bud l m)) w':=by
 have V:∀x,S x->C.heap.size<=x:=fun x hx=>Nat.le_trans U ((I.low h).2 x hx).1
 have g:Hid (∀X wr,RunI I w B b p fuel W Bud S X wr->en wr M 2 ku l):=fun X wr hr=>f.later (hr.below E V)
 have F:=hid (RunI.start h L);have hW:=L.few;clear h L E U f V;go_enter func15,ntmps15;go_wp2_with fail
 go_loopw [7,12] (fun _ i wr=>∃j:Nat,j<=l.length/\i=.int .i64 j/\Hid (RunI I w B b p fuel W Bud S (gh p fuel W Bud (l.take j) m) wr)) (fun _ i _=>l.length-(intOf i).toNat)
 case atStart=>exact⟨0,Nat.zero_le _,rfl,F⟩
 case round=>
  clear F;obtain⟨j,hj,rfl,d⟩:=hrel
  by_cases G:j<l.length
  ·obtain⟨pb,o,rfl,e0,e1⟩:=(g.out _ _ d.out).pick G
   have Y:Hid ((fQ p fuel W Bud l[j].1 l[j].2 (gh p fuel W Bud (l.take j) m)).2=gh p fuel W Bud (l.take (j+1)) m):=(I5 G).symm;have s:=hid ((d.out.later (da wr (.cells #[.int .i64 l[j].1,.int .i64 l[j].2] 48))).step l[j].1 l[j].2);rw[Y.out]at s;generalize l[j]=x at *;obtain⟨x1,x2⟩:=x;dsimp only at e0 e1 s;clear Y d;go_wp2_with fail;refine s.out.mono ?_;rintro r Z⟨rfl,e⟩;have N:=hid e;clear e;go_wp2_with fail
   go_roundw
   case rel=>exact⟨j+1,by omega,by go_num,N⟩
   case measure=>simp[intOf];omega
  ·obtain rfl:j=l.length:=by omega
   have t:Hid (RunI I w B b p fuel W Bud S (gh p fuel W Bud l m) wr):=by
    have:=d.out;rw[List.take_length]at this;exact this
   clear d g
   obtain⟨q,y⟩:∃q,q=gh p fuel W Bud l m:=⟨_,rfl⟩
   rw[<-y]at t;have H:=hid y;clear y;go_wp2_with fail
   go_loopw [8,9,35] (fun i _ _ Q=>∃(k:Nat) (c:Mac),k<=n/\i=.int .i64 k/\Hid (fF p fuel W Bud (n-k) k c=fF p fuel W Bud n 0 q)/\Hid (RunI I w B b p fuel W Bud S c Q)) (fun i _ _ _=>n-(intOf i).toNat)
   case atStart=>exact⟨0,q,Nat.zero_le _,rfl,rfl,t⟩
   case round=>
    clear t;obtain⟨k,c,hk,rfl,D,d⟩:=hrel
    by_cases aa:k<n
    ·have z:=hid d.out.halted
     cases A:el W c
     ·rw[A]at z
      have R:Hid (fF p fuel W Bud (n-(k+1)) (k+1) (iq p fuel W Bud k (List.range W) c)=fF p fuel W Bud n 0 q):=by
       have:=D.out;rw[show n-k=n-(k+1)+1 by omega,Ei A]at this;exact this
      clear D A;go_wp2_with fail;refine z.out.mono ?_;rintro r Z⟨rfl,e⟩;have J:=hid e.workers;clear e z;go_wp2_with fail;refine J.out.mono ?_;rintro r w4⟨rfl,h4⟩;have H4:Hid (RunI I w B b p fuel W Bud S (iq p fuel W Bud k (List.range 0) c) w4):=h4;clear h4 J;go_wp2_with fail
      go_loopw [9,35] (fun _ v T=>∃u:Nat,u<=W/\v=.int .i64 u/\Hid (RunI I w B b p fuel W Bud S (iq p fuel W Bud k (List.range u) c) T)) (fun _ v _=>W-(intOf v).toNat)
      case atStart=>exact⟨0,Nat.zero_le _,rfl,H4⟩
      case round=>
       clear H4;obtain⟨u,hu,rfl,O⟩:=hrel
       by_cases ab:u<W
       ·have P:=hid (O.out.step (u:Int) ((k:Int)+u))
        rw[<-Cp]at P;clear O;go_wp2_with fail;refine P.out.mono ?_;rintro r w5⟨rfl,h5⟩;have H5:=hid h5;clear h5 P;go_wp2_with fail
        go_roundw
        case rel=>exact⟨u+1,by omega,by go_num,H5⟩
        case measure=>simp[intOf];omega
       ·obtain rfl:u=W:=by omega
        go_wp2_with fail
        go_roundw
        case rel=>exact⟨k+1,_,by omega,by go_num,R,O⟩
        case measure=>simp[intOf];omega
     ·rw[A]at z
      have a:Hid (c=fF p fuel W Bud n 0 q):=by
       show _=_;rw[<-D.out,Eh A]
      clear D A;go_wp2_with fail;refine z.out.mono ?_;rintro r Z⟨rfl,e⟩;have N:=hid e;clear e z;go_wp2;exact bodyPost_end (results_none rfl _ _ _) rfl ⟨rfl,by rw[<-H.out,<-a.out];exact N.out⟩
    ·obtain rfl:k=n:=by omega
     have a:Hid (c=fF p fuel W Bud k 0 q):=by
      have:=D.out;rw[Nat.sub_self]at this;exact this
     go_wp2;exact bodyPost_end (results_none rfl _ _ _) rfl ⟨rfl,by rw[<-H.out,<-a.out];exact d.out⟩
end
end
section
open Go.RowKit
def iO(k:dk):List dk->List dk
 | []=>[k]
 |x::l=>if k<x then k::x::l else x::iO k l
def dZ(l:List dk)(k:dk):List dk:=if k∈l then l else iO k l
theorem zi(k:dk):∀l,(iO k l).length=l.length+1
 | []=>rfl
 |x::l=>by
  unfold iO
  split
  ·rfl
  ·simp[zi k l]
theorem xp(l:List dk)(k:dk):(dZ l k).length<=l.length+1:=by
 unfold dZ
 split
 ·omega
 ·rw[zi];omega
theorem tG{k x:dk}:∀{l:List dk},x∈iO k l↔x=k∨x∈l
 | []=>by simp[iO]
 |y::l=>by
  unfold iO
  split
  ·simp
  ·rw[List.mem_cons,tG,List.mem_cons]
   constructor
   ·rintro (h|h|h)
    ·exact .inr (.inl h)
    ·exact .inl h
    ·exact .inr (.inr h)
   ·rintro (h|h|h)
    ·exact .inr (.inl h)
    ·exact .inl h
    ·exact .inr (.inr h)
theorem If{l:List dk}{k x:dk}:x∈dZ l k↔x=k∨x∈l:=by
 unfold dZ
 split
 ·rename_i h
  exact⟨.inr,fun e=>e.elim (fun e=>e▸h) id⟩
 ·exact tG
theorem zh{k:dk}:∀{l:List dk},l.Pairwise (· < ·)->k∉l->(iO k l).Pairwise (· < ·)
 | [],_,_=>by simp[iO]
 |y::l,h,c=>by
  obtain⟨f,g⟩:=List.pairwise_cons.1 h;unfold iO
  split
  ·rename_i a
   exact List.pairwise_cons.2 ⟨fun z b=>by
    rcases List.mem_cons.1 b with rfl|b
    ·exact a
    ·exact List.lt_trans a (f z b),h⟩
  ·rename_i a
   refine List.pairwise_cons.2 ⟨fun z b=>?_,zh g (fun e=>c (List.mem_cons_of_mem _ e))⟩;rcases tG.1 b with rfl|b
   ·have d:y<=z:=by
     rcases List.le_total y z with h|h
     ·exact h
     ·exact absurd (by
       rcases List.le_iff_lt_or_eq.1 h with h|h
       ·exact h
       ·exact absurd (h▸List.mem_cons_self) c) a
    rcases List.le_iff_lt_or_eq.1 d with h|h
    ·exact h
    ·exact absurd (h▸List.mem_cons_self) c
   ·exact f z b
theorem FL{l:List dk}{k:dk}(h:l.Pairwise (· < ·)):(dZ l k).Pairwise (· < ·):=by
 unfold dZ
 split
 ·exact h
 ·rename_i a
  exact zh h a
theorem FN(ks:List dk):∀l:List dk,l.Pairwise (· < ·)->(ks.foldl dZ l).Pairwise (· < ·)/\∀x,x∈ks.foldl dZ l↔x∈ks∨x∈l:=by
 induction ks with
 |nil=>intro l h;exact⟨h,fun x=>by simp⟩
 |cons k ks a=>
  intro l h;obtain⟨b,c⟩:=a (dZ l k) (FL h);refine⟨b,fun x=>?_⟩;rw[List.foldl_cons,c,If,List.mem_cons]
  constructor
  ·rintro (h|h|h)
   ·exact .inl (.inr h)
   ·exact .inl (.inl h)
   ·exact .inr h
  ·rintro ((h|h)|h)
   ·exact .inr (.inl h)
   ·exact .inl h
   ·exact .inr (.inr h)
theorem sT(ks:List dk):ks.foldl dZ []=dG ks:=by
 obtain⟨c,d⟩:=FN ks [] List.Pairwise.nil;refine wi (c.imp fun {a b} h=>?_) (c.imp fun {a b} h e=>?_) fun x=>?_
 ·simp only[decide_eq_true_eq]
  exact List.le_of_lt h
 ·subst e
  exact List.lt_irrefl _ h
 ·rw[d];simp
def iI(k:dk)(l:List dk)(j:Nat)(d:Bool)(R:List dk):Prop:=
 k∉l.take j/\((d=false/\R=l.take j/\iO k l=l.take j++iO k (l.drop j))∨(d=true/\iO k l=R++l.drop j))
theorem xi(k:dk)(l:List dk):iI k l 0 false []:=⟨by simp,.inl ⟨rfl,rfl,rfl⟩⟩
theorem sS{k:dk}{l:List dk}{j:Nat}(h:k∉l.take j)(b:j<l.length)(a:l[j]≠k):k∉l.take (j+1):=by
 rw[List.take_succ_eq_append_getElem b,List.mem_append];rintro (e|e)
 ·exact h e
 ·exact a (List.mem_singleton.1 e).symm
theorem xk{k:dk}{l:List dk}{j:Nat}{R:List dk}(h:iI k l j false R)(c:j<l.length)(a:l[j]≠k)(b:k<l[j]):iI k l (j+1) true (R++[k]++[l[j]]):=by
 obtain⟨d,⟨_,e,f⟩|⟨g,_⟩⟩:=h
 ·refine⟨sS d c a,.inr ⟨rfl,?_⟩⟩
  rw[f,List.drop_eq_getElem_cons c,iO,if_pos b,e];simp
 ·cases g
theorem xl{k:dk}{l:List dk}{j:Nat}{R:List dk}(h:iI k l j false R)(a:j<l.length)(b:l[j]≠k)(c:¬k<l[j]):iI k l (j+1) false (R++[l[j]]):=by
 obtain⟨f,⟨_,d,g⟩|⟨i,_⟩⟩:=h
 ·have e:R++[l[j]]=l.take (j+1):=by rw[d,List.take_succ_eq_append_getElem a]
  refine⟨sS f a b,.inl ⟨rfl,e,?_⟩⟩;rw[g,List.drop_eq_getElem_cons a,iO,if_neg c,<-e,d,List.append_assoc];rfl
 ·cases i
theorem xj{k:dk}{l:List dk}{j:Nat}{R:List dk}(h:iI k l j true R)(b:j<l.length)(a:l[j]≠k):iI k l (j+1) true (R++[l[j]]):=by
 obtain⟨c,⟨d,_⟩|⟨_,e⟩⟩:=h
 ·cases d
 ·refine⟨sS c b a,.inr ⟨rfl,?_⟩⟩
  rw[e,List.drop_eq_getElem_cons b];simp
theorem xm{k:dk}{l R:List dk}{d:Bool}(h:iI k l l.length d R):dZ l k=if d then R else R++[k]:=by
 obtain⟨b,h⟩:=h;rw[List.take_length]at b h;rw[List.drop_length]at h;unfold dZ;rw[if_neg b];rcases h with ⟨rfl,a,c⟩|⟨rfl,a⟩
 ·rw[c,a];rfl
 ·rw[a];simp
end
section
open Go.Lib (hid)
open Go.Proofs.Tryz Go.RowKit Go.Sort
theorem FI(B:Nat)(a:Option Addr)(cap:Nat)(ks:List dk)(k:dk)(w:World)(V:dc w B 9 1 du (.slice a ks.length cap) ks)(hm:ks.length<=900000)(hB:B<=w.heap.size):
  Calls prog 57 #[.slice a ks.length cap,.string ⟨k.toArray⟩] w fun r w'=>∃M l,r=.returned (.slice M (dZ ks k).length l)/\dc w' B 9 1 du (.slice M (dZ ks k).length l) (dZ ks k)/\Below w.heap.size w w':=by
 obtain⟨a',ad,hv,T,_⟩:=dc.form V fP (by omega);injection hv with D _ P;subst D P;have HL:=hid V;have HA:=hid T;clear V T;go_enter func57,ntmps57;go_wp2
 go_loopw [5,6,7] (fun s5 d7 i wr=>∃(j:Nat) (d:Bool) (R:List dk),j<=ks.length/\i=.int .i64 j/\d7=.bool d/\R.length<=j+1/\Hid (iI k ks j d R)/\Hid (dc wr w.heap.size 9 1 du s5 R)/\Hid (Below w.heap.size w wr)) (fun _ _ i _=>ks.length-(intOf i).toNat)
 case atStart=>exact⟨0,false,[],Nat.zero_le _,rfl,rfl,by simp,xi k ks,iF _ _ _ _ _,Below.refl _ _⟩
 case round=>
  obtain⟨j,d,R,hj,rfl,rfl,hR,N,O,C⟩:=hrel
  by_cases v:j<ks.length
  ·obtain⟨b,o,rfl,X⟩:=HA.out.str v
   have c1:=de C.out X;have af:(j:Int)<(ks.length:Int):=by omega
   have ae:(0:Int)<=j:=by omega
   have G:Hid (ks[j]=k->dZ ks k=ks):=fun h=>by unfold dZ;rw[if_pos (by rw[<-h];exact List.getElem_mem v)]
   have H:Hid (d=false->ks[j]≠k->k<ks[j]->iI k ks (j+1) true (R++[k]++[ks[j]])):=fun E D P=>by subst E;exact xk N.out v D P
   have I:Hid (d=false->ks[j]≠k->¬k<ks[j]->iI k ks (j+1) false (R++[ks[j]])):=fun E D P=>by subst E;exact xl N.out v D P
   have J:Hid (d=true->ks[j]≠k->iI k ks (j+1) true (R++[ks[j]])):=fun E D=>by subst E;exact xj N.out v D
   have HC:Hid (∀W,Below w.heap.size w W->W.cell? ⟨b,o+j,none⟩=some (.string ⟨ks[j].toArray⟩)):=fun W h=>de h X
   have m:=C.out.size;have ag:=(da wr (.cells #[.string ⟨k.toArray⟩] 9)).size;clear X;generalize ks[j]=x at *
   by_cases hx:x=k
   ·have hq:(x==k)=true:=by simp[hx]
    have Q:=hid (G.out hx);have Z:=hid (HL.out.later C.out);clear hx H I J G;go_wp2_with fail;go_ret;exact⟨some ⟨b,o,none⟩,cap,(by rw[Q.out];rfl),by rw[Q.out];exact Z.out,C.out⟩
   ·have hq:(x==k)=false:=by simp[hx]
    have q:=hid (fun h=>H.out h hx);have s:=hid (fun h=>I.out h hx);have t:=hid (fun h=>J.out h hx);clear hx H I J G
    cases d
    ·by_cases u:k<x
     ·have S:=hid (q.out rfl u)
      have aa:R.length<=j:=by
       rcases N.out.2 with ⟨_,h,_⟩|⟨h,_⟩
       ·rw[h,List.length_take];omega
       ·cases h
      have E:Op.bytesLess k x=true:=by rw[bytesLess_eq];simp[u]
      clear u q s t
      go_wp2_with (first
       |(at_builtin;refine iU (f:=du) (n:=1) 30 9 16 (.string ByteArray.empty) underlying30 ju rfl (by omega) (by omega) fP rfl _ _ rfl w.heap.size _ (R++[k]) rfl (p.out.alloc _) ⟨F.heap.size,0,none⟩ rfl x (jo _) (gw F (du x) _ _ rfl) (by simp;omega) (Nat.le_trans z (da _ _).size) ?_;intro v2 w2 A U _;have ab:=hid A;have ac:=hid (g.out.trans (((da F (.cells #[.string ⟨x.toArray⟩] 9)).mono z).trans U));clear A U)
       |(at_builtin;refine iU (f:=du) (n:=1) 30 9 16 (.string ByteArray.empty) underlying30 ju rfl (by omega) (by omega) fP rfl _ _ rfl w.heap.size _ R rfl (O.out.alloc _) ⟨wr.heap.size,0,none⟩ rfl k (jo _) (gw wr (du k) _ _ rfl) (by omega) (Nat.le_trans m (da _ _).size) ?_;intro Y F c e _;have p:=hid c;have g:=hid (C.out.trans (((da wr (.cells #[.string ⟨k.toArray⟩] 9)).mono m).trans e));have z:=g.out.size;have c9:=HC.out F g.out;clear c e))
      go_roundw
      case rel=>exact⟨j+1,true,R++[k]++[x],by omega,by go_num,rfl,by simp;omega,S.out,ab.out,ac.out⟩
      case measure=>simp[intOf];omega
     ·have S:=hid (s.out rfl u)
      have aa:R.length<=j:=by
       rcases N.out.2 with ⟨_,h,_⟩|⟨h,_⟩
       ·rw[h,List.length_take];omega
       ·cases h
      have E:Op.bytesLess k x=false:=by rw[bytesLess_eq];simp[u]
      clear u q s t
      go_wp2_with (at_builtin;refine iU (f:=du) (n:=1) 30 9 16 (.string ByteArray.empty) underlying30 ju rfl (by omega) (by omega) fP rfl _ _ rfl w.heap.size _ R rfl (O.out.alloc _) ⟨wr.heap.size,0,none⟩ rfl x (jo _) (gw wr (du x) _ _ rfl) (by omega) (Nat.le_trans m (da _ _).size) ?_;intro Y F c e _;have p:=hid c;have g:=hid (C.out.trans (((da wr (.cells #[.string ⟨x.toArray⟩] 9)).mono m).trans e));clear c e)
      go_roundw
      case rel=>exact⟨j+1,false,R++[x],by omega,by go_num,rfl,by simp;omega,S.out,p.out,g.out⟩
      case measure=>simp[intOf];omega
    ·have S:=hid (t.out rfl)
     clear q s t
     go_wp2_with (at_builtin;refine iU (f:=du) (n:=1) 30 9 16 (.string ByteArray.empty) underlying30 ju rfl (by omega) (by omega) fP rfl _ _ rfl w.heap.size _ R rfl (O.out.alloc _) ⟨wr.heap.size,0,none⟩ rfl x (jo _) (gw wr (du x) _ _ rfl) (by omega) (Nat.le_trans m (da _ _).size) ?_;intro Y F c e _;have p:=hid c;have g:=hid (C.out.trans (((da wr (.cells #[.string ⟨x.toArray⟩] 9)).mono m).trans e));clear c e)
     go_roundw
     case rel=>exact⟨j+1,true,R++[x],by omega,by go_num,rfl,by simp;omega,S.out,p.out,g.out⟩
     case measure=>simp[intOf];omega
  ·obtain rfl:j=ks.length:=by omega
   have Q:=hid (xm N.out);have m:=C.out.size
   cases d
   ·have y:Hid (dZ ks k=R++[k]):=Q.out
    go_wp2_with (at_builtin;refine iU (f:=du) (n:=1) 30 9 16 (.string ByteArray.empty) underlying30 ju rfl (by omega) (by omega) fP rfl _ _ rfl w.heap.size _ R rfl (O.out.alloc _) ⟨wr.heap.size,0,none⟩ rfl k (jo _) (gw wr (du k) _ _ rfl) (by omega) (Nat.le_trans m (da _ _).size) ?_;intro Y F c e _;have p:=hid c;have g:=hid (C.out.trans (((da wr (.cells #[.string ⟨k.toArray⟩] 9)).mono m).trans e));have z:=g.out.size;clear c e)
    obtain⟨M,l,L,_,_⟩:=dc.form p.out fP (by simp;omega);subst L;go_wp2_with fail;go_ret;exact⟨M,l,(by rw[y.out];rfl),by rw[y.out];exact te p.out hB,g.out⟩
   ·have y:Hid (dZ ks k=R):=Q.out
    obtain⟨M,l,L,_,_⟩:=dc.form O.out fP (by omega);subst L;go_wp2_with fail;go_ret;exact⟨M,l,(by rw[y.out];rfl),by rw[y.out];exact te O.out hB,C.out⟩
end
section
open Go.RowKit
theorem CY{l m:List dk}{k:Nat}(h1:k<l.length)(h2:k<m.length)(a:l.take k=m.take k)(b:l[k]=m[k]):l.take (k+1)=m.take (k+1):=by
 rw[List.take_succ_eq_append_getElem h1,List.take_succ_eq_append_getElem h2,a,b]
end
section
open Go.Lib (hid)
open Go.Proofs.Tryz Go.RowKit Go.Sort
theorem JT(a:Option Addr)(cap:Nat)(ks:List dk)(k:dk)(w:World)(hl:en w a 1 du ks)(hm:ks.length<=900000):
  Calls prog 38 #[.slice a ks.length cap,.string ⟨k.toArray⟩] w fun r w'=>∃M m,r=.returned (.slice M (dZ ks k).length m)/\en w' M 1 du (dZ ks k)/\Below w.heap.size w w':=by
 have HA:=hid hl;clear hl;go_enter func38,ntmps38;go_wp2
 go_loopw [5,6,7] (fun s5 d7 i wr=>∃(j:Nat) (d:Bool) (R:List dk),j<=ks.length/\i=.int .i64 j/\d7=.bool d/\R.length<=j+1/\Hid (iI k ks j d R)/\Hid (dc wr w.heap.size 9 1 du s5 R)/\Hid (Below w.heap.size w wr)) (fun _ _ i _=>ks.length-(intOf i).toNat)
 case atStart=>exact⟨0,false,[],Nat.zero_le _,rfl,rfl,by simp,xi k ks,iF _ _ _ _ _,Below.refl _ _⟩
 case round=>
  obtain⟨j,d,R,hj,rfl,rfl,hR,N,O,C⟩:=hrel
  by_cases y:j<ks.length
  ·obtain⟨b,o,rfl,U⟩:=HA.out.str y
   have c1:=de C.out U;have ad:(j:Int)<(ks.length:Int):=by omega
   have ac:(0:Int)<=j:=by omega
   have F:Hid (ks[j]=k->dZ ks k=ks):=fun h=>by unfold dZ;rw[if_pos (by rw[<-h];exact List.getElem_mem y)]
   have G:Hid (d=false->ks[j]≠k->k<ks[j]->iI k ks (j+1) true (R++[k]++[ks[j]])):=fun D P V=>by subst D;exact xk N.out y P V
   have H:Hid (d=false->ks[j]≠k->¬k<ks[j]->iI k ks (j+1) false (R++[ks[j]])):=fun D P V=>by subst D;exact xl N.out y P V
   have I:Hid (d=true->ks[j]≠k->iI k ks (j+1) true (R++[ks[j]])):=fun D P=>by subst D;exact xj N.out y P
   have HC:Hid (∀W,Below w.heap.size w W->W.cell? ⟨b,o+j,none⟩=some (.string ⟨ks[j].toArray⟩)):=fun W h=>de h U
   have l:=C.out.size;have ae:=(da wr (.cells #[.string ⟨k.toArray⟩] 9)).size;clear U;generalize ks[j]=x at *
   by_cases hx:x=k
   ·have hq:(x==k)=true:=by simp[hx]
    have Q:=hid (F.out hx);have Y:=hid (HA.out.later C.out);clear hx G H I F;go_wp2_with fail;go_ret;exact⟨some ⟨b,o,none⟩,cap,(by rw[Q.out];rfl),by rw[Q.out];exact Y.out,C.out⟩
   ·have hq:(x==k)=false:=by simp[hx]
    have s:=hid (fun h=>G.out h hx);have t:=hid (fun h=>H.out h hx);have u:=hid (fun h=>I.out h hx);clear hx G H I F
    cases d
    ·by_cases v:k<x
     ·have S:=hid (s.out rfl v)
      have Z:R.length<=j:=by
       rcases N.out.2 with ⟨_,h,_⟩|⟨h,_⟩
       ·rw[h,List.length_take];omega
       ·cases h
      have D:Op.bytesLess k x=true:=by rw[bytesLess_eq];simp[v]
      clear v s t u
      go_wp2_with (first
       |(at_builtin;refine iU (f:=du) (n:=1) 30 9 16 (.string ByteArray.empty) underlying30 ju rfl (by omega) (by omega) fP rfl _ _ rfl w.heap.size _ (R++[k]) rfl (q.out.alloc _) ⟨E.heap.size,0,none⟩ rfl x (jo _) (gw E (du x) _ _ rfl) (by simp;omega) (Nat.le_trans A (da _ _).size) ?_;intro v2 w2 B T _;have aa:=hid B;have ab:=hid (g.out.trans (((da E (.cells #[.string ⟨x.toArray⟩] 9)).mono A).trans T));clear B T)
       |(at_builtin;refine iU (f:=du) (n:=1) 30 9 16 (.string ByteArray.empty) underlying30 ju rfl (by omega) (by omega) fP rfl _ _ rfl w.heap.size _ R rfl (O.out.alloc _) ⟨wr.heap.size,0,none⟩ rfl k (jo _) (gw wr (du k) _ _ rfl) (by omega) (Nat.le_trans l (da _ _).size) ?_;intro X E c e _;have q:=hid c;have g:=hid (C.out.trans (((da wr (.cells #[.string ⟨k.toArray⟩] 9)).mono l).trans e));have A:=g.out.size;have c9:=HC.out E g.out;clear c e))
      go_roundw
      case rel=>exact⟨j+1,true,R++[k]++[x],by omega,by go_num,rfl,by simp;omega,S.out,aa.out,ab.out⟩
      case measure=>simp[intOf];omega
     ·have S:=hid (t.out rfl v)
      have Z:R.length<=j:=by
       rcases N.out.2 with ⟨_,h,_⟩|⟨h,_⟩
       ·rw[h,List.length_take];omega
       ·cases h
      have D:Op.bytesLess k x=false:=by rw[bytesLess_eq];simp[v]
      clear v s t u
      go_wp2_with (at_builtin;refine iU (f:=du) (n:=1) 30 9 16 (.string ByteArray.empty) underlying30 ju rfl (by omega) (by omega) fP rfl _ _ rfl w.heap.size _ R rfl (O.out.alloc _) ⟨wr.heap.size,0,none⟩ rfl x (jo _) (gw wr (du x) _ _ rfl) (by omega) (Nat.le_trans l (da _ _).size) ?_;intro X E c e _;have q:=hid c;have g:=hid (C.out.trans (((da wr (.cells #[.string ⟨x.toArray⟩] 9)).mono l).trans e));clear c e)
      go_roundw
      case rel=>exact⟨j+1,false,R++[x],by omega,by go_num,rfl,by simp;omega,S.out,q.out,g.out⟩
      case measure=>simp[intOf];omega
    ·have S:=hid (u.out rfl)
     clear s t u
     go_wp2_with (at_builtin;refine iU (f:=du) (n:=1) 30 9 16 (.string ByteArray.empty) underlying30 ju rfl (by omega) (by omega) fP rfl _ _ rfl w.heap.size _ R rfl (O.out.alloc _) ⟨wr.heap.size,0,none⟩ rfl x (jo _) (gw wr (du x) _ _ rfl) (by omega) (Nat.le_trans l (da _ _).size) ?_;intro X E c e _;have q:=hid c;have g:=hid (C.out.trans (((da wr (.cells #[.string ⟨x.toArray⟩] 9)).mono l).trans e));clear c e)
     go_roundw
     case rel=>exact⟨j+1,true,R++[x],by omega,by go_num,rfl,by simp;omega,S.out,q.out,g.out⟩
     case measure=>simp[intOf];omega
  ·obtain rfl:j=ks.length:=by omega
   have Q:=hid (xm N.out);have l:=C.out.size
   cases d
   ·have z:Hid (dZ ks k=R++[k]):=Q.out
    go_wp2_with (at_builtin;refine iU (f:=du) (n:=1) 30 9 16 (.string ByteArray.empty) underlying30 ju rfl (by omega) (by omega) fP rfl _ _ rfl w.heap.size _ R rfl (O.out.alloc _) ⟨wr.heap.size,0,none⟩ rfl k (jo _) (gw wr (du k) _ _ rfl) (by omega) (Nat.le_trans l (da _ _).size) ?_;intro X E c e _;have q:=hid c;have g:=hid (C.out.trans (((da wr (.cells #[.string ⟨k.toArray⟩] 9)).mono l).trans e));have A:=g.out.size;clear c e)
    obtain⟨M,m,J,p,_⟩:=dc.form q.out fP (by simp;omega);subst J;have L:=hid p;clear p;go_wp2_with fail;go_ret;exact⟨M,m,(by rw[z.out];rfl),by rw[z.out];exact L.out,g.out⟩
   ·have z:Hid (dZ ks k=R):=Q.out
    obtain⟨M,m,J,p,_⟩:=dc.form O.out fP (by omega);subst J;have L:=hid p;clear p;go_wp2_with fail;go_ret;exact⟨M,⟨m,(by rw[z.out];rfl)⟩,by rw[z.out];exact L.out,C.out⟩
end
section
open Go.Lib (hid)
open Go.Proofs.Tryz Go.RowKit
open List (length_append)
def kR(v:Value):List Value:=[v]
theorem vt(v:Value):(kR v).length=1:=rfl
theorem J5:(prog.info? 30).map (fun i=>(i.zero,i.size,i.bytes))=some (some (.slice none 0 0),1,24):=by kernel_rfl
def il(w:World)(B:Nat)(v:Value)(ls:List (List dk)):Prop:=∃a:List Value,dc w B 30 1 kR v a/\a.length=ls.length/\∀i (b:i<a.length) (c:i<ls.length),fO w B a[i] ls[i]
theorem Ek(w:World)(B:Nat):il w B (.slice none 0 0) []:=⟨[],iF _ _ _ _ _,rfl,fun _ a _=>absurd a (Nat.not_lt_zero _)⟩
theorem il.later{w w':World}{B:Nat}{v:Value}{ls:List (List dk)}(h:il w B v ls)(hb:Below w.heap.size w w'):il w' B v ls:=by
 obtain⟨b,d,e,f⟩:=h;exact⟨b,d.later hb,e,fun i a c=>(f i a c).later hb⟩
theorem il.at_{w:World}{B:Nat}{v:Value}{ls:List (List dk)}(h:il w B v ls)(s:ls.length<=1000):∃a c,v=.slice a ls.length c/\∀i (k:i<ls.length),∃b o d f,a=some ⟨b,o,none⟩/\w.cell? ⟨b,o+i,none⟩=some (.slice d ls[i].length f)/\en w d 1 du ls[i]:=by
 obtain⟨t,m,l,n⟩:=h;obtain⟨a,c,e,p,_⟩:=m.form vt (by omega);rw[l]at e;refine⟨a,c,e,fun i k=>?_⟩;obtain⟨b,o,rfl,q⟩:=p.2 (by intro e;simp[e]at l;omega);have g:=q i (by omega) 0 _ rfl;rw[Nat.mul_one,Nat.add_zero]at g;obtain⟨d,f,r,j⟩:=(n i (by omega) k).form;rw[r]at g;exact⟨b,o,d,f,rfl,g,j⟩
theorem il.more{w j k:World}{B C:Nat}{v m x:Value}{ls:List (List dk)}{b:List Value}{ks:List dk}(h1:dc w B 30 1 kR v b)(h2:b.length=ls.length)(o:∀i (h1:i<b.length) (h2:i<ls.length),fO w B b[i] ls[i])(hx:fO j C x ks)(p:B<=C)(hb:Below w.heap.size w j)(q:j.grownBy k v.ownBlock)(r:dc k B 30 1 kR m (b++[x])):il k B m (ls++[ks]):=by
 have h:∀{l:List dk} {u:Value},fO j B u l->fO k B u l:=fun {l u} s=>s.keep fun g c _ n=>q.block g (Array.getElem?_eq_some_iff.1 n).1 fun e=>by
  obtain⟨_,d,f⟩:=(h1.later hb).kindQ e.symm;rw[n]at f;injection f with f;injection f with _ f;exact absurd f (by decide)
 refine⟨b++[x],r,by simp[h2],fun i a c=>?_⟩
 by_cases e:i<b.length
 ·rw[List.getElem_append_left e,List.getElem_append_left (by omega)]
  exact h ((o i e (by omega)).later hb)
 ·have t:i=b.length:=by simp at a;omega
  subst t;rw[List.getElem_append_right (by omega),List.getElem_append_right (by omega)];simpa using h (hx.lower p)
def gN(W:Nat)(m:Mac):List (List dk):=(List.range W).map m.keys
theorem nH(W:Nat)(m:Mac):(gN W m).length=W:=by simp[gN]
theorem Jx{W:Nat}{m:Mac}{i:Nat}(h:i<(gN W m).length):(gN W m)[i]=m.keys i:=by simp[gN]
theorem yV(W:Nat)(m:Mac):(gN W m).flatten=fJ W m.keys:=by
 unfold gN fJ;rw[List.flatMap_def]
section
variable{I:MachI}{w wr w':World}{B b W Bud:Nat}{p:Pg}{fuel:Int}{S:Nat->Prop}{m:Mac}
theorem MachI.later(I:MachI)(h:I.MM w B b p fuel W Bud S m)(hb:Below w.heap.size w w'):I.MM w' B b p fuel W Bud S m:=I.only (R:=fun _=>False) h (OnlyS.of_below hb) fun _ _ h=>h
theorem Bh(I:MachI){w:World}{B b W Bud:Nat}{p:Pg}{fuel:Int}{S:Nat->Prop}{m:Mac}(h:I.MM w B b p fuel W Bud S m)(H:GoodM p fuel W Bud m):
  Calls prog 17 #[.pointer (some ⟨b,0,none⟩)] w fun r w'=>∃v,r=.returned v/\il w' w.heap.size v (gN W m)/\Below w.heap.size w w':=by
 have Z:=hid h;have HG:=hid H;have hW:=H.few;have L:=hid (I.workers h);clear h H;go_enter func17,ntmps17;go_wp2_with fail;refine L.out.mono ?_;rintro r w2⟨rfl,i,rfl⟩;have o:Hid (Below w.heap.size w (w.drewN i)):=(Below.refl _ _).drewN;have q:Hid (il (w.drewN i) w.heap.size (.slice none 0 0) ((gN W m).take 0)):=Ek _ _;generalize w.drewN i=w2 at *;go_wp2_with fail
 go_loopw [3,4,7] (fun v _ i wr=>∃j:Nat,j<=W/\i=.int .i64 j/\Hid (il wr w.heap.size v ((gN W m).take j))/\Hid (Below w.heap.size w wr)) (fun _ _ i _=>W-(intOf i).toNat)
 case atStart=>exact⟨0,Nat.zero_le _,rfl,q,o⟩
 case round=>
  clear q o;obtain⟨j,hj,rfl,J,g⟩:=hrel
  by_cases s:j<W
  ·have HK:=hid (I.keys (j:Int) (MachI.later I Z.out g.out) HG.out)
   obtain⟨F,G,X,Y⟩:=J.out;have M:((gN W m).take j).length=j:=by rw[List.length_take,nH];omega
   have N:Hid (∀a,Below wr.heap.size wr a->dc a w.heap.size 30 1 kR u3 F/\w.heap.size<=a.heap.size):=fun a hb=>⟨G.later hb,Nat.le_trans g.out.size hb.size⟩
   have t:F.length<=1000000:=by omega
   have O:=hid t
   have u:jb W (j:Int) m=(gN W m)[j]'(by rw[nH];exact s):=by
    rw[Jx];unfold jb;rw[if_pos ⟨by omega,by omega⟩,Int.toNat_natCast]
   have P:Hid (∀x a l e,fO a wr.heap.size x (jb W (j:Int) m)->Below wr.heap.size wr a->dc e w.heap.size 30 1 kR l (F++[x])->(a.alloc (.cells #[x] 30)).grownBy e u3.ownBlock->il e w.heap.size l ((gN W m).take (j+1))/\Below w.heap.size w e):=fun x a l e hx c hv y=>by
    have z:Below wr.heap.size wr (a.alloc (.cells #[x] 30)):=c.alloc c.size _;have A:=g.out.trans (z.mono g.out.size);refine⟨?_,A.grown y A.size fun k hk=>(World.ownsRow.lt G k hk).1⟩;rw[List.take_succ_eq_append_getElem (by rw[nH];exact s),<-u];exact il.more G X Y (hx.later (da a _)) g.out.size z y hv
   clear G X Y M t u;go_wp2_with fail;refine HK.out.mono ?_;rintro r a⟨x,rfl,hx,c⟩;have HX:=hid hx;have Q:=hid c;obtain⟨R,T⟩:=N.out _ (c.alloc c.size (.cells #[x] 30));obtain⟨a2,c2,rfl,_⟩:=hx.form;clear hx c
   go_wp2_with (at_builtin;refine iU (f:=kR) (n:=1) 42 30 24 (.slice none 0 0) underlying42 J5 rfl (by omega) (by omega) vt rfl _ _ rfl w.heap.size _ F rfl R ⟨a.heap.size,0,none⟩ rfl (.slice a2 (jb W (j:Int) m).length c2) (by simp[kR,Value.oneCell']) (gw a (kR _) _ _ rfl) O.out T ?_;intro l e d _ C;obtain⟨D,E⟩:=P.out _ a l e HX.out Q.out d C;have U:=hid D;have V:=hid E;clear D E d C)
   go_roundw
   case rel=>exact⟨j+1,by omega,by go_num,U,V⟩
   case measure=>simp[intOf];omega
  ·obtain rfl:j=W:=by omega
   have HF:Hid (il wr w.heap.size u3 (gN j m)):=by
    have:=J.out;rw[List.take_of_length_le (by rw[nH];omega)]at this;exact this
   clear J;go_wp2;go_ret;exact⟨_,rfl,HF.out,g.out⟩
end
def fq(ls:List (List dk))(i j:Nat):List dk:=(ls.take i).flatten++(ls.getD i []).take j
theorem uq(ls:List (List dk)):fq ls 0 0=[]:=by simp[fq]
theorem KU{ls:List (List dk)}{i j:Nat}(a:i<ls.length)(b:j<ls[i].length):fq ls i (j+1)=fq ls i j++[ls[i][j]]:=by
 have e:ls.getD i []=ls[i]:=by simp[List.getD,a]
 unfold fq;rw[e,List.take_succ_eq_append_getElem b,List.append_assoc]
theorem KT{ls:List (List dk)}{i:Nat}(a:i<ls.length):fq ls i ls[i].length=fq ls (i+1) 0:=by
 have e:ls.getD i []=ls[i]:=by simp[List.getD,a]
 unfold fq;rw[e,List.take_length,List.take_succ_eq_append_getElem a];simp only[List.flatten_append,List.flatten_cons,List.flatten_nil,List.append_nil,List.take_zero]
theorem KV(ls:List (List dk)):fq ls ls.length 0=ls.flatten:=by simp[fq]
theorem zQ(ls:List (List dk))(i j:Nat):(fq ls i j).length<=ls.flatten.length:=by
 unfold fq;have b:ls=ls.take i++ls.drop i:=(List.take_append_drop i ls).symm
 have a:ls.flatten.length=(ls.take i).flatten.length+(ls.drop i).flatten.length:=by
  rw[<-length_append,<-List.flatten_append,List.take_append_drop]
 rw[length_append,a]
 have c:((ls.getD i []).take j).length<=(ls.drop i).flatten.length:=by
  by_cases h:i<ls.length
  ·have e:ls.getD i []=ls[i]:=by simp[List.getD,h]
   rw[e,List.drop_eq_getElem_cons h,List.flatten_cons,length_append,List.length_take];omega
  ·have e:ls.getD i []=[]:=by simp[List.getD,h]
   rw[e];simp
 omega
theorem FM(l:List dk)(k:dk):(l++[k]).foldl dZ []=dZ (l.foldl dZ []) k:=by
 rw[List.foldl_append];rfl
theorem DH(l:List dk):(l.foldl dZ []).length<=l.length:=by
 have b:∀(l a:List dk),(l.foldl dZ a).length<=a.length+l.length:=by
  intro l
  induction l with
  |nil=>intro a;simp
  |cons k l c=>
   intro a;rw[List.foldl_cons];have d:=c (dZ a k);have e:=xp a k;rw[List.length_cons];omega
 have:=b l [];simpa using this
theorem zP{w:World}{B:Nat}{a:Option Addr}{cap:Nat}{ls:List (List dk)}(h:il w B (.slice a ls.length cap) ls)(hl:ls.length<=1000)(hf:ls.flatten.length<=100000):
  Calls prog 16 #[.slice a ls.length cap] w fun r w'=>∃d k,r=.returned (.tuple #[.slice d (dG ls.flatten).length k,.bool (decide ((dG ls.flatten).length=ls.flatten.length))])/\en w' d 1 du (dG ls.flatten)/\Below w.heap.size w w':=by
 have S:Hid (∀wr,Below w.heap.size w wr->∀i (hi:i<ls.length),∃b o F L,a=some ⟨b,o,none⟩/\wr.cell? ⟨b,o+i,none⟩=some (.slice F ls[i].length L)/\en wr F 1 du ls[i]):=fun wr hb i hi=>by
  obtain⟨a',aa,e,h2⟩:=(h.later hb).at_ hl;injection e with e1 _ e3;subst e1 e3;exact h2 i hi
 have G:=hid hf;clear h hf;go_enter func16,ntmps16;go_wp2_with fail
 go_loopw [4,5,6,7] (fun v c i _ wr=>∃(u m:Nat) (d:Option Addr) (k n:Nat),u<=ls.length/\i=.int .i64 u/\c=.int .i64 m/\v=.slice d n k/\m<=100000/\n<=100000/\Hid (n=((fq ls u 0).foldl dZ []).length)/\Hid ((fq ls u 0).length=m)/\Hid (en wr d 1 du ((fq ls u 0).foldl dZ []))/\Hid (Below w.heap.size w wr)) (fun _ _ i _ _=>ls.length-(intOf i).toNat)
 case atStart=>exact⟨0,0,none,0,0,Nat.zero_le _,rfl,rfl,rfl,by omega,by omega,(by show 0=_;rw[uq];rfl),(by show _=0;rw[uq];rfl),(by show en _ _ _ _ _;rw[uq];exact oI _ _ _ _),Below.refl _ _⟩
 case round=>
  obtain⟨u,m,d,k,n,hu,rfl,rfl,rfl,M,N,s,t,y,C⟩:=hrel
  by_cases z:u<ls.length
  ·have HE:Hid (fq ls u ls[u].length=fq ls (u+1) 0):=KT z
   have D:Hid (∀j (P:j<ls[u].length),fq ls u (j+1)=fq ls u j++[ls[u][j]]):=fun j P=>KU z P
   have T:Hid (∀wr,Below w.heap.size w wr->∃b o F L,a=some ⟨b,o,none⟩/\wr.cell? ⟨b,o+u,none⟩=some (.slice F ls[u].length L)/\en wr F 1 du ls[u]):=fun wr hb=>S.out wr hb u z
   have ab:ls[u].length<=100000:=by
    have h1:=zQ ls (u+1) 0;rw[<-HE.out]at h1
    have h2:ls[u].length<=(fq ls u ls[u].length).length:=by
     have e:ls.getD u []=ls[u]:=by simp[List.getD,z]
     unfold fq;rw[e,length_append,List.take_length];omega
    have:=G.out;omega
   have H:Hid (∀j,(fq ls u j).length<=100000):=fun j=>Nat.le_trans (zQ ls u j) G.out
   generalize ls[u]=l at *;go_wp2_with fail
   go_loopw [4,5,7] (fun v c i wr=>∃(j m:Nat) (d:Option Addr) (k n:Nat),j<=l.length/\i=.int .i64 j/\c=.int .i64 m/\v=.slice d n k/\m<=100000/\n<=100000/\Hid (n=((fq ls u j).foldl dZ []).length)/\Hid ((fq ls u j).length=m)/\Hid (en wr d 1 du ((fq ls u j).foldl dZ []))/\Hid (Below w.heap.size w wr)) (fun _ _ i _=>l.length-(intOf i).toNat)
   case atStart=>exact⟨0,m,d,k,n,Nat.zero_le _,rfl,rfl,rfl,M,N,s,t,y,C⟩
   case round=>
    clear s t y C M N;obtain⟨j,m,d,k,n,P,rfl,rfl,rfl,M,N,s,t,y,C⟩:=hrel;obtain⟨b,o,F,L,rfl,c0,q⟩:=T.out _ C.out
    by_cases A:j<l.length
    ·obtain⟨b2,o2,rfl,c1⟩:=q.str A
     have Q:=JT d k ((fq ls u j).foldl dZ []) l[j] wr y.out (by rw[<-s.out];omega);rw[<-s.out,<-FM,<-D.out j A]at Q;have R:=hid Q
     have U:m+1<=100000:=by
      have:=H.out (j+1);rw[D.out j A,length_append,t.out]at this;exact this
     have V:Hid ((fq ls u (j+1)).length=m+1):=by
      show _=_;rw[D.out j A,length_append,t.out];rfl
     obtain⟨O,E⟩:∃O,O=((fq ls u (j+1)).foldl dZ []).length:=⟨_,rfl⟩
     have W:O<=100000:=by
      have:=DH (fq ls u (j+1));have:=H.out (j+1);omega
     have X:=hid E;rw[<-E]at R;clear q Q s t y E;generalize l[j]=x at *;go_wp2_with fail;refine R.out.mono ?_;rintro r w3⟨a3,c3,rfl,I,J⟩;have Y:=hid I;have Z:=hid (C.out.trans (J.mono C.out.size));clear I J R c0 c1;go_wp2_with fail
     go_roundw
     case rel=>exact⟨j+1,m+1,a3,c3,O,by omega,by go_num,by go_num,rfl,U,W,X,V,Y,Z⟩
     case measure=>simp[intOf];omega
    ·obtain rfl:j=l.length:=by omega
     have f:=s;have p:=t;have g:=y;rw[HE.out]at f p g;clear s t y q;go_wp2_with fail
     go_roundw
     case rel=>exact⟨u+1,m,d,k,n,by omega,by go_num,rfl,rfl,M,N,f,p,g,C⟩
     case measure=>simp[intOf];omega
  ·obtain rfl:u=ls.length:=by omega
   have f:=s;have p:=t;have g:=y;rw[KV]at f p g;rw[sT]at f g
   have hd:((n:Int)==(m:Int))=decide ((dG ls.flatten).length=ls.flatten.length):=by
    rw[f.out,p.out]
    by_cases e:(dG ls.flatten).length=m
    ·simp[e]
    ·have e2:(((dG ls.flatten).length:Int)==(m:Int))=false:=by rw[beq_eq_false_iff_ne];omega
     rw[e2,decide_eq_false e]
   have HD:=hid hd;clear hd s t y;go_wp2;refine bodyPost_ret (v:=.tuple #[.slice d n k,.bool ((n:Int)==(m:Int))]) (by simp[results,results16,go_sem]) rfl ?_;exact⟨d,k,by rw[HD.out,f.out],g.out,C.out⟩
end
section
open Go.RowKit
structure KM(w:World)(B kb W:Nat)(vs:Nat->Value)(keys:Nat->List dk):Prop where
 low:B<=w.heap.size
 lowk:B<=kb
 row:∃cs,w.heap[kb]?=some (.cells cs 30 (0,0))/\cs.size=W/\∀j,j<W->cs[j]?=some (vs j)
 own:∀j,j<W->dc w B 9 1 du (vs j) (keys j)
 apart:∀i j,i<W->j<W->i≠j->∀g,(vs i).ownBlock=some g->(vs j).ownBlock≠some g
def KB(kb W:Nat)(vs:Nat->Value)(x:Nat):Prop:=x=kb∨∃j,j<W/\(vs j).ownBlock=some x
section
variable{w w' w1:World}{B kb W j:Nat}{vs:Nat->Value}{keys:Nat->List dk}{R:Nat->Prop}{k:dk}{v':Value}
theorem KM.kinds(q:KM w B kb W vs keys){x:Nat}(hx:KB kb W vs x):B<=x/\∃c a,w.heap[x]?=some (.cells c a (0,0))/\(a=30∨a=9):=by
 rcases hx with rfl|⟨j,d,hx⟩
 ·obtain⟨e,b,_⟩:=q.row
  exact⟨q.lowk,e,_,b,.inl rfl⟩
 ·obtain⟨b,c,f⟩:=(q.own j d).kind hx
  exact⟨b,c,_,f,.inr rfl⟩
theorem KM.lt(q:KM w B kb W vs keys){x:Nat}(hx:KB kb W vs x):x<w.heap.size:=by
 obtain⟨_,c,a,e,_⟩:=q.kinds hx;exact(Array.getElem?_eq_some_iff.1 e).1
theorem KM.not_row(q:KM w B kb W vs keys){g:Nat}{c:Array Value}{a:TypeId}(h:w.heap[g]?=some (.cells c a (0,0)))(h1:a≠30)(h2:a≠9):¬KB kb W vs g:=fun hx=>by
 obtain⟨_,f,d,e,b⟩:=q.kinds hx;rw[h]at e;injection e with e;injection e with _ e;rcases b with rfl|rfl
 ·exact h1 e
 ·exact h2 e
theorem KM.onlyS(q:KM w B kb W vs keys)(o:OnlyS R w w')(a:∀x,KB kb W vs x->¬R x):KM w' B kb W vs keys:=by
 obtain⟨c,d,e⟩:=q.row;exact⟨Nat.le_trans q.low o.size,q.lowk,⟨c,o.row d (a _ (.inl rfl)),e⟩,fun j b=>(q.own j b).onlyS o fun g f=>a g (.inr ⟨j,b,f⟩),q.apart⟩
theorem KM.later(q:KM w B kb W vs keys)(hb:Below w.heap.size w w'):KM w' B kb W vs keys:=q.onlyS (R:=fun _=>False) (OnlyS.of_below hb) fun _ _ h=>h
theorem KM.cell(q:KM w B kb W vs keys)(a:j<W):w.cell? ⟨kb,j,none⟩=some (vs j):=by
 obtain⟨d,b,_,c⟩:=q.row;rw[cell_of_row w kb j _ _ _ b,c j a]
theorem KM.start{W:Nat}(a:B<=kb)(h:w.heap[kb]?=some (.cells (madeCells #[.slice none 0 0] W) 30 (0,0))):KM w B kb W (fun _=>.slice none 0 0) (fun _=>[]):=by
 refine⟨Nat.le_trans a (Nat.le_of_lt (Array.getElem?_eq_some_iff.1 h).1),a,⟨_,h,by simp[madeCells],fun j b=>?_⟩,fun j _=>iF _ _ _ _ _,fun i j _ _ _ g c=>by simp[Value.ownBlock]at c⟩;simp[madeCells,b,Nat.mod_one]
theorem KM.append(q:KM w B kb W vs keys)(A:j<W)(s:dc w1 B 9 1 du v' (keys j++[k]))(t:w.grownBy w1 (vs j).ownBlock)(M:v'.ownBlock=(vs j).ownBlock∨v'.ownBlock=some w.heap.size):
  w1.cell? ⟨kb,j,none⟩=some (vs j)/\w1.frozen? ⟨kb,j,none⟩=false/\KM (w1.setCell ⟨kb,j,none⟩ v') B kb W (db vs j v') (db keys j (keys j++[k]))/\OnlyS (KB kb W vs) w (w1.setCell ⟨kb,j,none⟩ v')/\∀x,KB kb W (db vs j v') x->KB kb W vs x∨w.heap.size<=x:=by
 have F:OnlyS (fun y=>(vs j).ownBlock=some y) w w1:=⟨t.os,t.tape,t.output,t.size,fun x hx N=>t.block x hx fun e=>N e.symm⟩
 obtain⟨G,H,u,I⟩:=q.row
 have v:∀i,i<W->(vs i).ownBlock≠some kb:=fun i m e=>by
  obtain⟨_,c,d⟩:=(q.own i m).kind e;rw[H]at d;injection d with d;injection d with _ d;exact absurd d (by decide)
 have C:w1.heap[kb]?=some (.cells G 30 (0,0)):=F.row H fun e=>v j A e
 have z:v'.ownBlock≠some kb:=fun e=>by
  obtain⟨_,c,d⟩:=s.kind e;rw[C]at d;injection d with d;injection d with _ d;exact absurd d (by decide)
 have D:OnlyS (fun y=>y=kb) w1 (w1.setCell ⟨kb,j,none⟩ v'):=(OnlyS.refl (fun y=>y=kb) w1).setCell (p:=⟨kb,j,none⟩) rfl _
 have n:∀g,v'.ownBlock=some g->(vs j).ownBlock=some g∨g=w.heap.size:=fun g f=>by
  rcases M with e|e
  ·exact .inl (e▸f)
  ·rw[e]at f;injection f with d;exact .inr d.symm
 refine⟨?_,?_,⟨?_,q.lowk,⟨G.set! j v',?_,by simp[u],fun i m=>?_⟩,fun i m=>?_,fun a b E hb r g l h=>?_⟩,?_,fun x hx=>?_⟩
 ·rw[cell_of_row w1 kb j _ _ _ C,I j A]
 ·unfold World.frozen?
  dsimp only;rw[C];rfl
 ·exact Nat.le_trans q.low (Nat.le_trans t.size D.size)
 ·rw[heap_setCell_same w1 kb j _ _ _ C]
  simp
 ·by_cases e:i=j
  ·subst e
   rw[dg];simp[u,m]
  ·rw[dh _ _ e,<-I i m]
   simp[Ne.symm e]
 ·by_cases e:i=j
  ·subst e
   rw[dg,dg];exact s.onlyS D fun g f d=>z (by rw[f,d])
  ·rw[dh _ _ e,dh _ _ e]
   refine((q.own i m).onlyS F fun g f d=>?_).onlyS D fun g f d=>v i m (by rw[f,d])
   exact q.apart i j m A e g f d
 ·by_cases J:a=j
  ·subst J
   rw[dg]at l;rw[dh _ _ (Ne.symm r)]at h;rcases n g l with o|o
   ·exact q.apart a b E hb r g o h
   ·have:=q.lt (.inr ⟨b,hb,h⟩);omega
  ·rw[dh _ _ J]at l
   by_cases L:b=j
   ·subst L
    rw[dg]at h;rcases n g h with o|o
    ·exact q.apart a b E hb r g l o
    ·have:=q.lt (.inr ⟨a,E,l⟩);omega
   ·rw[dh _ _ L]at h
    exact q.apart a b E hb r g l h
 ·exact(F.mono fun x _ hx=>.inr ⟨j,A,hx⟩).thenS D fun x _ hx=>.inl hx
 ·rcases hx with rfl|⟨i,m,hx⟩
  ·exact .inl (.inl rfl)
  ·by_cases e:i=j
   ·subst e
    rw[dg]at hx;rcases n x hx with o|o
    ·exact .inl (.inr ⟨i,m,o⟩)
    ·exact .inr (Nat.le_of_eq o.symm)
   ·rw[dh _ _ e]at hx
    exact .inl (.inr ⟨i,m,hx⟩)
end
end
section
theorem KJ{p:Pg}{fuel:Int}(h:dF p fuel=true):dL p=true/\0<=fuel/\fuel<=8:=by
 unfold dF at h;rw[Bool.and_eq_true,decide_eq_true_eq]at h;exact h
section
variable{p:Pg}{fuel:Int}{W w B:Nat}{m:Mac}{T:List Nd}
theorem sJ{k:dl}{e:Int}{b:List Ev}{s:St}(h:dQ p fuel (dB k)=(e,b,some s)):k.length<=33:=by
 have f:=qy h;have a:=sL p fuel (dB k);rw[h]at a;have c:=qy a;have d:(dB k).length=k.length:=by simp[dB]
 rw[List.length_take,d]at c;omega
theorem tq{l:List TNd}(h:TrOk p fuel l){n:TNd}(a:n∈l):n.pre.length<=33:=by
 obtain⟨c,s,b,_⟩:=h.row n a;exact sJ b
theorem Jd{l:List TNd}(h:TrOk p fuel l){q:dl}(a:dt l q≠0):q.length<=33:=by
 obtain⟨n,b,e,_⟩:=pe a;rw[<-e];exact tq h b
theorem vm{l:List TNd}{wk:Nat->List df}(a:ji W wk)(c:∀q,(∃w,w<W/\q∈wk w)->dt l q≠0):dS W wk<=l.length:=by
 rw[<-lw,<-List.length_map (f:=TNd.pre)];refine x8 a fun q d=>?_
 obtain⟨v,g,b⟩:=pu.1 (la.1 d);obtain⟨n,h,e,_⟩:=pe (c q ⟨v,g,b⟩);exact List.mem_map.2 ⟨n,h,e⟩
theorem L0:dT W m.box<=eG p fuel W m:=Nat.le_add_right _ _
theorem L1(c:dF p fuel=true)(b:dM p fuel<=600)(e:0<W)(f:1<=B):eG p fuel W (gM p fuel W)<=80400:=by
 have h:=(ye (W:=W) (B:=B) c e f).1;obtain⟨d,i,j⟩:=KJ c
 have a:p.threads.length<=4:=by
  unfold dL at d;rw[Bool.and_eq_true,decide_eq_true_eq]at d;omega
 have g:p.threads.length*(p.threads.length*fuel.toNat)<=4*(4*8):=Nat.mul_le_mul a (Nat.mul_le_mul a (by omega));have k:=Nat.mul_le_mul (Nat.add_le_add_right g 6) b;omega
theorem LZ(a:dF p fuel=true)(b:0<W)(h:InvM p fuel W B m T)(c:w<W)(d:Int):eG p fuel W (ej p fuel W B w d m).2<=eG p fuel W m:=(vV a b h c d).2
end
end
section
open Go.Proofs.Tryz Go.RowKit
abbrev lf(tb mb wb kb W:Nat)(Bud blk:Nat)(over:Bool):Array Value:=#[.pointer (some ⟨tb,0,none⟩),.pointer (some ⟨mb,0,none⟩),.pointer (some ⟨wb,0,none⟩),.slice (some ⟨kb,0,none⟩) W W,.int .i64 (Bud:Int),.bool over,.int .i64 (blk:Int)]
structure MX(p:Pg)(fuel:Int)(B b W Bud tb mb wb kb:Nat)(vs:Nat->Value)(Sp:Nat->Prop)(m:Mac)(w:World):Prop where
 lowb:B<=b
 box:w.heap[b]?=some (.cells (lf tb mb wb kb W Bud m.blk m.over) 79 (0,0))
 pm:PM p fuel w B tb mb wb W Sp m
 km:KM w B kb W vs m.keys
 pk:∀x,Sp x->¬KB kb W vs x
 pb:¬Sp b
def MY(p:Pg)(fuel:Int)(B b W Bud tb mb wb kb:Nat)(S:Nat->Prop)(m:Mac)(w:World):Prop:=∃vs Sp,MX p fuel B b W Bud tb mb wb kb vs Sp m w/\∀x,S x↔(Sp x∨KB kb W vs x∨x=b)
def dz(p:Pg)(fuel:Int)(B b W Bud tb mb wb kb:Nat)(S:Nat->Prop)(m:Mac)(w w':World):Prop:=∃c,MY p fuel B b W Bud tb mb wb kb c m w'/\OnlyS S w w'/\∀x,c x->S x∨w.heap.size<=x
section
variable{p:Pg}{fuel:Int}{B b W Bud tb mb wb kb j:Nat}{vs:Nat->Value}{Sp S R:Nat->Prop}{m m':Mac}{w w' w1:World}{k:dk}{v':Value}
theorem MX.notKB(h:MX p fuel B b W Bud tb mb wb kb vs Sp m w):¬KB kb W vs b:=h.km.not_row h.box (by decide) (by decide)
theorem MY.low(h:MY p fuel B b W Bud tb mb wb kb S m w):B<=w.heap.size/\∀x,S x->B<=x/\x<w.heap.size:=by
 obtain⟨vs,Sp,h,c⟩:=h;refine⟨h.km.low,fun x hx=>?_⟩;rcases (c x).1 hx with a|a|a
 ·exact h.pm.low.2 x a
 ·exact⟨(h.km.kinds a).1,h.km.lt a⟩
 ·subst a
  exact⟨h.lowb,(Array.getElem?_eq_some_iff.1 h.box).1⟩
theorem MY.only(h:MY p fuel B b W Bud tb mb wb kb S m w)(o:OnlyS R w w')(c:∀x,S x->¬R x):MY p fuel B b W Bud tb mb wb kb S m w':=by
 obtain⟨vs,Sp,h,a⟩:=h;exact⟨vs,Sp,⟨h.lowb,o.row h.box (c b ((a b).2 (.inr (.inr rfl)))),h.pm.only o fun x hx=>c x ((a x).2 (.inl hx)),h.km.onlyS o fun x hx=>c x ((a x).2 (.inr (.inl hx))),h.pk,h.pb⟩,a⟩
theorem MY.later(h:MY p fuel B b W Bud tb mb wb kb S m w)(hb:Below w.heap.size w w'):MY p fuel B b W Bud tb mb wb kb S m w':=h.only (R:=fun _=>False) (OnlyS.of_below hb) fun _ _ h=>h
theorem MY.cells(h:MY p fuel B b W Bud tb mb wb kb S m w):(w.cell? ⟨b,0,none⟩=some (.pointer (some ⟨tb,0,none⟩))/\w.cell? ⟨b,1,none⟩=some (.pointer (some ⟨mb,0,none⟩))/\w.cell? ⟨b,2,none⟩=some (.pointer (some ⟨wb,0,none⟩))/\w.cell? ⟨b,3,none⟩=some (.slice (some ⟨kb,0,none⟩) W W)/\w.cell? ⟨b,4,none⟩=some (.int .i64 (Bud:Int))/\w.cell? ⟨b,5,none⟩=some (.bool m.over)/\w.cell? ⟨b,6,none⟩=some (.int .i64 (m.blk:Int)))/\∀i,w.frozen? ⟨b,i,none⟩=false:=by
 obtain⟨vs,Sp,h,a⟩:=h;have c:=fun i=>cell_of_row w b i _ _ _ h.box
 refine⟨⟨?_,?_,?_,?_,?_,?_,?_⟩,fun i=>?_⟩
 all_goals first|(rw[c];rfl)|(unfold World.frozen?;dsimp only;rw[h.box];rfl)
theorem MY.keysOwn(h:MY p fuel B b W Bud tb mb wb kb S m w)(a:j<W):∃v,w.cell? ⟨kb,j,none⟩=some v/\dc w B 9 1 du v (m.keys j)/\B<=w.heap.size:=by
 obtain⟨vs,Sp,h,c⟩:=h;exact⟨_,h.km.cell a,h.km.own j a,h.km.low⟩
theorem MY.parts(h:MY p fuel B b W Bud tb mb wb kb S m w){F:FuncId}{args:Array Value}{V:Ending->Prop}(i:∀Sp,PM p fuel w B tb mb wb W Sp m->Calls prog F args w fun r w'=>V r/\gP p fuel B tb mb wb W Sp m' w w')(j:m'.keys=m.keys)(k:m'.blk=m.blk)(l:m'.over=m.over):
  Calls prog F args w fun r w'=>V r/\dz p fuel B b W Bud tb mb wb kb S m' w w':=by
 obtain⟨vs,Sp,h,d⟩:=h
 refine(i Sp h.pm).mono fun r w' ⟨e,c,n,o,g⟩=>⟨e,fun x=>c x∨KB kb W vs x∨x=b,⟨vs,c,⟨h.lowb,?_,n,?_,fun x hx f=>?_,fun hx=>?_⟩,fun _=>Iff.rfl⟩,o.mono fun x _ hx=>(d x).2 (.inl hx),fun x hx=>?_⟩
 ·rw[k,l]
  exact o.row h.box h.pb
 ·rw[j]
  exact h.km.onlyS o fun x f q=>h.pk x q f
 ·rcases g x hx with a|a
  ·exact h.pk x a f
  ·have:=h.km.lt f;omega
 ·rcases g b hx with a|a
  ·exact h.pb a
  ·have:=(Array.getElem?_eq_some_iff.1 h.box).1;omega
 ·rcases hx with hx|hx|hx
  ·rcases g x hx with a|a
   ·exact .inl ((d x).2 (.inl a))
   ·exact .inr a
  ·exact .inl ((d x).2 (.inr (.inl hx)))
  ·exact .inl ((d x).2 (.inr (.inr hx)))
theorem dz.below(h:MY p fuel B b W Bud tb mb wb kb S m w)(hb:Below w.heap.size w w'):dz p fuel B b W Bud tb mb wb kb S m w w':=⟨S,h.later hb,OnlyS.of_below hb,fun _ h=>.inl h⟩
theorem dz.andThen{c:World}(h:dz p fuel B b W Bud tb mb wb kb S m w w')(k:∀d,MY p fuel B b W Bud tb mb wb kb d m w'->dz p fuel B b W Bud tb mb wb kb d m' w' c):dz p fuel B b W Bud tb mb wb kb S m' w c:=by
 obtain⟨g,i,e,f⟩:=h;obtain⟨j,l,n,o⟩:=k g i;refine⟨j,l,e.thenS n fun x hx q=>?_,fun x hx=>?_⟩
 ·rcases f x q with a|a
  ·exact a
  ·omega
 ·rcases o x hx with a|a
  ·exact f x a
  ·exact .inr (Nat.le_trans e.size a)
theorem dz.behind{a:World}(hb:Below w.heap.size w w')(r:dz p fuel B b W Bud tb mb wb kb S m' w' a):dz p fuel B b W Bud tb mb wb kb S m' w a:=by
 obtain⟨c,d,e,f⟩:=r;refine⟨c,d,(OnlyS.of_below hb).trans e,fun x hx=>(f x hx).imp_right fun g=>Nat.le_trans hb.size g⟩
theorem dz.refl(h:MY p fuel B b W Bud tb mb wb kb S m w):dz p fuel B b W Bud tb mb wb kb S m w w:=dz.below h (Below.refl _ _)
theorem dz.later(r:dz p fuel B b W Bud tb mb wb kb S m w w1)(hb:Below w1.heap.size w1 w'):dz p fuel B b W Bud tb mb wb kb S m w w':=r.andThen fun _ h=>dz.below h hb
theorem dz.call(d:dz p fuel B b W Bud tb mb wb kb S m w w1){F:FuncId}{args:Array Value}{V:Ending->Prop}(h:∀Sp,PM p fuel w1 B tb mb wb W Sp m->Calls prog F args w1 fun r w'=>V r/\gP p fuel B tb mb wb W Sp m' w1 w')(i:m'.keys=m.keys)(j:m'.blk=m.blk)(k:m'.over=m.over):
  Calls prog F args w1 fun r w'=>V r/\dz p fuel B b W Bud tb mb wb kb S m' w w':=by
 have r:=d;obtain⟨v,l,f,g⟩:=d
 refine(l.parts h i j k).mono fun e w' ⟨a,n⟩=>⟨a,?_⟩
 obtain⟨o,q,s,t⟩:=n;refine⟨o,q,f.thenS s fun x hx u=>?_,fun x hx=>?_⟩
 ·rcases g x u with c|c
  ·exact c
  ·omega
 ·rcases t x hx with c|c
  ·exact g x c
  ·exact .inr (Nat.le_trans f.size c)
theorem dz.cells(r:dz p fuel B b W Bud tb mb wb kb S m w w1):(w1.cell? ⟨b,0,none⟩=some (.pointer (some ⟨tb,0,none⟩))/\w1.cell? ⟨b,1,none⟩=some (.pointer (some ⟨mb,0,none⟩))/\w1.cell? ⟨b,2,none⟩=some (.pointer (some ⟨wb,0,none⟩))/\w1.cell? ⟨b,3,none⟩=some (.slice (some ⟨kb,0,none⟩) W W)/\w1.cell? ⟨b,4,none⟩=some (.int .i64 (Bud:Int))/\w1.cell? ⟨b,5,none⟩=some (.bool m.over)/\w1.cell? ⟨b,6,none⟩=some (.int .i64 (m.blk:Int)))/\∀i,w1.frozen? ⟨b,i,none⟩=false:=by
 obtain⟨c,a,_⟩:=r;exact a.cells
theorem dz.pm(r:dz p fuel B b W Bud tb mb wb kb S m w w1):∃Sp,PM p fuel w1 B tb mb wb W Sp m:=by
 obtain⟨a,⟨vs,Sp,h,_⟩,_⟩:=r;exact⟨Sp,h.pm⟩
theorem dz.size(r:dz p fuel B b W Bud tb mb wb kb S m w w1):w.heap.size<=w1.heap.size:=by
 obtain⟨a,_,o,_⟩:=r;exact o.size
def gQ(p:Pg)(fuel:Int)(B b W Bud tb mb wb kb:Nat)(S:Nat->Prop)(m:Mac)(L:List (Nat × Obj))(w w':World):Prop:=∃a,MY p fuel B b W Bud tb mb wb kb a m w'/\OnlyS S w w'/\(∀x,a x->S x∨w.heap.size<=x)/\∀g o,(g,o)∈L->¬a g/\w'.heap[g]?=some o
theorem dz.local0(r:dz p fuel B b W Bud tb mb wb kb S m w w1):gQ p fuel B b W Bud tb mb wb kb S m [] w w1:=by
 obtain⟨a,c,d,e⟩:=r;exact⟨a,c,d,e,fun g o h=>by cases h⟩
theorem gQ.toR{L:List (Nat × Obj)}(r:gQ p fuel B b W Bud tb mb wb kb S m L w w1):dz p fuel B b W Bud tb mb wb kb S m w w1:=by
 obtain⟨a,c,d,e,_⟩:=r;exact⟨a,c,d,e⟩
theorem gQ.later{L:List (Nat × Obj)}(r:gQ p fuel B b W Bud tb mb wb kb S m L w w1)(hb:Below w1.heap.size w1 w'):gQ p fuel B b W Bud tb mb wb kb S m L w w':=by
 obtain⟨c,d,e,f,a⟩:=r;exact⟨c,d.later hb,e.trans (OnlyS.of_below hb),f,fun g o h=>⟨(a g o h).1,(hb.block _ (Array.getElem?_eq_some_iff.1 (a g o h).2).1).trans (a g o h).2⟩⟩
theorem gQ.more{L:List (Nat × Obj)}(r:gQ p fuel B b W Bud tb mb wb kb S m L w w1)(hb:Below w1.heap.size w1 w'){g:Nat}{o:Obj}(q:w1.heap.size<=g)(i:w'.heap[g]?=some o):gQ p fuel B b W Bud tb mb wb kb S m ((g,o)::L) w w':=by
 have s:=r.later hb;obtain⟨j,f,k,l,a⟩:=r;refine⟨j,f.later hb,k.trans (OnlyS.of_below hb),l,fun c d h=>?_⟩;rcases List.mem_cons.1 h with e|h
 ·injection e with e1 e2
  subst e1 e2;exact⟨fun n=>by have:=(f.low.2 _ n).2;omega,i⟩
 ·exact⟨(a c d h).1,(hb.block _ (Array.getElem?_eq_some_iff.1 (a c d h).2).1).trans (a c d h).2⟩
theorem gQ.call{L:List (Nat × Obj)}(n:gQ p fuel B b W Bud tb mb wb kb S m L w w1){F:FuncId}{args:Array Value}{V:Ending->Prop}(q:∀Sp,PM p fuel w1 B tb mb wb W Sp m->Calls prog F args w1 fun r w'=>V r/\gP p fuel B tb mb wb W Sp m' w1 w')(s:m'.keys=m.keys)(t:m'.blk=m.blk)(u:m'.over=m.over):
  Calls prog F args w1 fun r w'=>V r/\gQ p fuel B b W Bud tb mb wb kb S m' L w w':=by
 obtain⟨C,v,i,j,d⟩:=n
 refine(v.parts q s t u).mono fun e w' ⟨a,y⟩=>⟨a,?_⟩
 obtain⟨z,A,k,l⟩:=y;refine⟨z,A,i.thenS k fun x hx h=>?_,fun x hx=>?_,fun g o f=>⟨fun h=>?_,k.row (d g o f).2 (d g o f).1⟩⟩
 ·rcases j x h with c|c
  ·exact c
  ·omega
 ·rcases l x hx with c|c
  ·exact j x c
  ·exact .inr (Nat.le_trans i.size c)
 ·rcases l g h with c|c
  ·exact(d g o f).1 c
  ·have:=(Array.getElem?_eq_some_iff.1 (d g o f).2).1;omega
theorem gQ.own{L:List (Nat × Obj)}(q:gQ p fuel B b W Bud tb mb wb kb S m L w w1){F:FuncId}{args:Array Value}{V:Ending->Prop}(s:∀d,MY p fuel B b W Bud tb mb wb kb d m w1->Calls prog F args w1 fun r w'=>V r/\dz p fuel B b W Bud tb mb wb kb d m' w1 w'):
  Calls prog F args w1 fun r w'=>V r/\gQ p fuel B b W Bud tb mb wb kb S m' L w w':=by
 obtain⟨d,t,j,k,f⟩:=q
 refine(s d t).mono fun e w' ⟨a,u⟩=>⟨a,?_⟩
 obtain⟨v,y,l,n⟩:=u;refine⟨v,y,j.thenS l fun x hx i=>?_,fun x hx=>?_,fun g o h=>⟨fun i=>?_,l.row (f g o h).2 (f g o h).1⟩⟩
 ·rcases k x i with c|c
  ·exact c
  ·omega
 ·rcases n x hx with c|c
  ·exact k x c
  ·exact .inr (Nat.le_trans j.size c)
 ·rcases n g i with c|c
  ·exact(f g o h).1 c
  ·have:=(Array.getElem?_eq_some_iff.1 (f g o h).2).1;omega
theorem gQ.get{L:List (Nat × Obj)}(r:gQ p fuel B b W Bud tb mb wb kb S m L w w1){g:Nat}{o:Obj}(h:(g,o)∈L):w1.heap[g]?=some o:=by
 obtain⟨_,_,_,_,a⟩:=r;exact(a g o h).2
theorem MY.stored(h:MY p fuel B b W Bud tb mb wb kb S m w){i:Nat}{u:Value}{blk':Nat}{over':Bool}(e:(lf tb mb wb kb W Bud m.blk m.over).setIfInBounds i u=lf tb mb wb kb W Bud blk' over'):dz p fuel B b W Bud tb mb wb kb S { m with blk:=blk',over:=over' } w (w.setCell ⟨b,i,none⟩ u):=by
 obtain⟨vs,Sp,h,a⟩:=h;have o:OnlyS (fun y=>y=b) w (w.setCell ⟨b,i,none⟩ u):=(OnlyS.refl (fun y=>y=b) w).setCell (p:=⟨b,i,none⟩) rfl _;refine⟨S,⟨vs,Sp,⟨h.lowb,?_,?_,h.km.onlyS o fun x hx hb=>?_,h.pk,h.pb⟩,a⟩,o.mono fun x _ hx=>(a x).2 (.inr (.inr hx)),fun _ h=>.inl h⟩
 ·rw[heap_setCell_same w b i _ _ _ h.box]
  dsimp only;rw[<-e]
 ·have q:=h.pm.only o fun x hx hb=>h.pb (hb▸hx)
  obtain⟨C,c,d,f,g,j,q,k⟩:=q;exact⟨C,c,d,f,g,j,⟨q.eb,q.ep,q.ef,q.baseC,q.base,q.own,q.right,q.tr,q.ml,q.wk,q.wx,q.lowb,q.lowg,q.mlow,q.slow,q.tm,q.tw,q.mw⟩,k⟩
 ·subst hb
  exact h.notKB hx
theorem MY.keyed(h:MY p fuel B b W Bud tb mb wb kb S m w)(e:j<W):∃v,w.cell? ⟨kb,j,none⟩=some v/\dc w B 9 1 du v (m.keys j)/\∀v' w1,dc w1 B 9 1 du v' (m.keys j++[k])->w.grownBy w1 v.ownBlock->(v'.ownBlock=v.ownBlock∨v'.ownBlock=some w.heap.size) ->
  w1.cell? ⟨kb,j,none⟩=some v/\w1.frozen? ⟨kb,j,none⟩=false/\dz p fuel B b W Bud tb mb wb kb S { m with keys:=db m.keys j (m.keys j++[k]) } w (w1.setCell ⟨kb,j,none⟩ v'):=by
 obtain⟨vs,Sp,h,d⟩:=h;refine⟨vs j,h.km.cell e,h.km.own j e,fun v' w1 c l f=>?_⟩;obtain⟨n,o,r,g,i⟩:=h.km.append e c l f;refine⟨n,o,fun x=>Sp x∨KB kb W (db vs j v') x∨x=b,⟨db vs j v',Sp,⟨h.lowb,g.row h.box h.notKB,?_,r,fun x hx f=>?_,h.pb⟩,fun _=>Iff.rfl⟩,g.mono fun x _ hx=>(d x).2 (.inr (.inl hx)),fun x hx=>?_⟩
 ·have q:=h.pm.only g h.pk
  obtain⟨C,s,t,u,y,z,q,D⟩:=q;exact⟨C,s,t,u,y,z,⟨q.eb,q.ep,q.ef,q.baseC,q.base,q.own,q.right,q.tr,q.ml,q.wk,q.wx,q.lowb,q.lowg,q.mlow,q.slow,q.tm,q.tw,q.mw⟩,D⟩
 ·rcases i x f with a|a
  ·exact h.pk x hx a
  ·have:=(h.pm.low.2 x hx).2;omega
 ·rcases hx with hx|hx|hx
  ·exact .inl ((d x).2 (.inl hx))
  ·rcases i x hx with a|a
   ·exact .inl ((d x).2 (.inr (.inl a)))
   ·exact .inr a
  ·exact .inl ((d x).2 (.inr (.inr hx)))
end
end
section
open Go.RowKit
section
variable{T:Type}{f:T->List Value}{n:Nat}
theorem en.cellAt{w:World}{b o:Nat}{l:List T}(h:en w (some ⟨b,o,none⟩) n f l)(c:∀x,(f x).length=n)(m:0<n)(j:Nat)(u:Value)(d:(dA f l)[j]?=some u):w.cell? (Addr.add ⟨b,o,none⟩ j)=some u:=by
 have a:j<l.length*n:=by
  have:=(List.getElem?_eq_some_iff.1 d).1
  rwa [gF c]at this
 obtain⟨q,r,e,p⟩:=h.2 (by rintro rfl;simp at a)
 cases e
 have g:j/n<l.length:=Nat.div_lt_of_lt_mul (by rw[Nat.mul_comm];exact a);have e:j/n*n+j%n=j:=Nat.div_add_mod' j n;have i:=ik c l (j/n) (j%n) g (Nat.mod_lt j m);rw[e,d]at i;have k:=p (j/n) g (j%n) u i.symm;rw[Nat.add_assoc,e]at k;rw[jP];exact k
theorem vj{P:Program}{w:World}{o:Oper}{a:Act}{K:Act->World->Prop}{Q:Exit->Act->World->Prop}(st t:TypeId)(bytes:Nat)(z:Value)(M:P.underlying st=some (.slice t))
  (y:(P.info? t).map (fun i=>(i.zero,i.size,i.bytes))=some (some z,n,bytes)) (Y:z.cells.size=n) (N:0<n) (W:bytes<=1000) (Z:∀x,(f x).length=n) (h1:∀x,∀v∈f x,v.oneCell'=true)
  (s x:Operand) (O:o.op=.call { callee:=.builtin .append,args:=#[s,x],argTypes:=#[st,st] }) (B:Nat) (v:Value) (l:List T) (R:a.eval s=v) (c:dc w B t n f v l)
  (J:Option Addr) (d:Nat) (row:List T) (hx:a.eval x=.slice J row.length d) (m:en w J n f row) (X:J=none->d=0/\row=[]) (p:l.length+row.length<=1000000) (L:B<=w.heap.size)
  (h:∀C g,dc g B t n f C (l++row)->Below B w g->w.grownBy g v.ownBlock->K (a.put o.dst C) g):Oper.wp P o a w K Q:=by
 obtain⟨i,S,E⟩:=Option.map_eq_some_iff.1 y;simp only[Prod.mk.injEq]at E;obtain⟨F,q,r⟩:=E
 have G:(l.length+row.length)*bytes<=140737488355328:=by
  have:(l.length+row.length)*bytes<=1000000*1000:=Nat.mul_le_mul p W;omega
 cases J with
 |none=>
  obtain⟨rfl,rfl⟩:=X rfl;have I:=run_append_owned_none (P:=P) (w:=w) B st o.type t i n M S v l.length (dA f l) c;have hK:=h v w (by rw[List.append_nil];exact c) (Below.refl _ _) ⟨rfl,rfl,rfl,Nat.le_refl _,fun _ _ _=>rfl⟩;unfold Oper.wp;simp[execOp,O,resolve,invoke,builtin,R,hx,I,Result.andThen];exact hK
 |some ad=>
  by_cases H:row=[]
  ·subst H
   refine wp_append_own w s x st O B t i z n bytes M S F q r Y N v l.length (dA f l) R c ad 0 d [] hx (by simp) (by simp) (by simp) (by unfold maxLen;simp at p;omega) (by simpa using G) L ?_;intro C g U D _;refine h C g ?_ ((Below.refl B w).grown D L (fun k V=>(World.ownsRow.lt c k V).1)) D;unfold dc;simpa using U
  ·obtain⟨b,o',e,hc⟩:=m.2 H
   injection e with e;subst e
   refine wp_append_own w s x st O B t i z n bytes M S F q r Y N v l.length (dA f l) R c ⟨b,o',none⟩ row.length d (dA f row) hx (by rw[gF Z]) (fun j u hj=>m.cellAt Z N j u hj)
    (MD h1 _) (by unfold maxLen;omega) G L ?_
   intro C g U D _;refine h C g ?_ ((Below.refl B w).grown D L (fun k V=>(World.ownsRow.lt c k V).1)) D;unfold dc;rw[List.length_append,pN];exact U
theorem sq{P:Program}{w:World}{e:Array Oper}{o:Oper}{a:Act}{K:Act->World->Prop}{Q:Exit->Act->World->Prop}{E:Prop}(st d:TypeId)(bytes:Nat)(z:Value)(y:P.underlying st=some (.slice d))
  (c:(P.info? d).map (fun i=>(i.zero,i.size,i.bytes))=some (some z,n,bytes)) (A:z.cells.size=n) (C:0<n) (q:bytes<=1000) (D:∀x,(f x).length=n) (h1:∀x,∀v∈f x,v.oneCell'=true) (r:o.guard=none)
  (s x:Operand) (F:o.op=.call { callee:=.builtin .append,args:=#[s,x],argTypes:=#[st,st] }) (B:Nat) (v:Value) (l:List T) (G:a.eval s=v) (g:dc w B d n f v l)
  (m:Option Addr) (b:Nat) (row:List T) (hx:a.eval x=.slice m row.length b) (j:en w m n f row) (t:m=none->b=0/\row=[]) (k:l.length+row.length<=1000000) (H:B<=w.heap.size)
  (h:∀u p,dc p B d n f u (l++row)->Below B w p->w.grownBy p v.ownBlock->K (a.put o.dst u) p):if Region.wanted o (yielded e a.tmps)=true then Oper.wp P o a w K Q else E:=by
 have I:Region.wanted o (yielded e a.tmps)=true:=by simp[Region.wanted,r]
 rw[if_pos I];exact vj st d bytes z y c A C q D h1 s x F B v l G g m b row hx j t k H h
theorem vi{P:Program}{w:World}{g:Array Oper}{rest:List Oper}{o:Oper}{a:Act}{Q:Exit->Act->World->Prop}(st e:TypeId)(bytes:Nat)(z:Value)(y:P.underlying st=some (.slice e))
  (c:(P.info? e).map (fun i=>(i.zero,i.size,i.bytes))=some (some z,n,bytes)) (A:z.cells.size=n) (C:0<n) (r:bytes<=1000) (D:∀x,(f x).length=n) (h1:∀x,∀v∈f x,v.oneCell'=true) (t:o.guard=none)
  (s x:Operand) (E:o.op=.call { callee:=.builtin .append,args:=#[s,x],argTypes:=#[st,st] }) (B:Nat) (v:Value) (l:List T) (F:a.eval s=v) (j:dc w B e n f v l)
  (p:Option Addr) (b:Nat) (row:List T) (hx:a.eval x=.slice p row.length b) (k:en w p n f row) (u:p=none->b=0/\row=[]) (m:l.length+row.length<=1000000) (G:B<=w.heap.size)
  (h:∀q d,dc d B e n f q (l++row)->Below B w d->w.grownBy d v.ownBlock->wpList P g Q rest (a.put o.dst q) d):wpList P g Q (o::rest) a w:=
 wpList_plain t fun _ hK=>vj st e bytes z y c A C r D h1 s x E B v l F j p b row hx k u m G fun q d H I J=>hK _ _ (h q d H I J)
end
theorem dr.form2{w:World}{B:Nat}{v:Value}{c:List Ev}(h:dr w B v c)(i:c.length<=1000000):∃a b,v=.slice a c.length b/\ei w a c/\(a=none->b=0/\c=[]):=by
 obtain⟨a,b,e,j⟩:=h.form i;refine⟨a,b,e,j,fun k=>?_⟩;subst k;obtain⟨n,⟨d,l⟩|⟨g,f,m,d,_⟩⟩:=h
 ·rw[e]at d
  injection d with _ _ h4;exact⟨h4,List.eq_nil_of_length_eq_zero l⟩
 ·rw[e]at d
  injection d with h4
  cases h4
theorem dc.form2{T:Type}{f:T->List Value}{n:Nat}{w:World}{B:Nat}{t:TypeId}{v:Value}{l:List T}(h:dc w B t n f v l)(o:∀x,(f x).length=n)(p:l.length<=1000000):∃a b,v=.slice a l.length b/\en w a n f l/\l.length<=b/\((a=none/\b=0/\l=[])∨∃g,a=some ⟨g,0,none⟩):=by
 obtain⟨a,b,e,d,r⟩:=h.form o p;obtain⟨s,⟨c,i⟩|⟨g,m,q,c,i,j,k,u,y,z⟩⟩:=h
 ·rw[e]at c
  injection c with j _ k;exact⟨a,b,e,d,by omega,.inl ⟨j,k,List.eq_nil_of_length_eq_zero i⟩⟩
 ·rw[e]at c
  injection c with h4' _ h5';subst h5';exact⟨a,b,e,d,by omega,.inr ⟨g,h4'⟩⟩
theorem dr.at_{w:World}{B n cap:Nat}{a:Option Addr}{b:List Ev}(h:dr w B (.slice a n cap) b)(d:b.length<=1000000:=by omega):ei w a b:=by
 obtain⟨g,c,e,f⟩:=h.form d;injection e with e;subst e;exact f
end
section
open Go.Lib (hid)
open Go.Proofs.Tryz Go.RowKit
theorem Mj{w:World}{B:Nat}{v:Value}{ks:List dk}(h:dc w B 9 1 du v ks)(k:ks.length<=1000000)(_hB:B<=w.heap.size):
  Calls prog 49 #[v] w fun r l=>∃u,r=.returned u/\fO l w.heap.size u ks/\Below w.heap.size w l:=by
 obtain⟨a,e,rfl,b,q,⟨rfl,rfl,rfl⟩|⟨g,rfl⟩⟩:=dc.form2 h fP (by omega)
 ·have o:=fun w=>Lib.run_eql_slice_nil (P:=prog) w 30 9 none 0 0 0 0 underlying30
  clear h b;go_enter func49,ntmps49;go_wp2;go_ret;exact⟨_,rfl,⟨none,0,rfl,by simp,fun h=>absurd rfl h⟩,Below.refl _ _⟩
 ·have p:=hid b
  have m:=hid k;have o:=fun w=>Lib.run_eql_slice_nil (P:=prog) w 30 9 (some ⟨g,0,none⟩) ks.length e 0 0 underlying30
  clear h b k;go_enter func49,ntmps49
  have c:dc (w.alloc (.cells #[] 9)) w.heap.size 9 1 du (.slice (some ⟨w.heap.size,0,none⟩) 0 0) ([]:List dk):=by
   refine⟨by rfl,.inr ⟨w.heap.size,0,#[],rfl,Nat.le_refl _,?_,by simp,by simp,by simp,by rfl⟩⟩;exact heap_alloc_new w _
  have d:=p.out.later (da w (.cells #[] 9));have f:=da w (.cells #[] 9);have i:=hid f
  go_wp2_with (at_builtin;refine vi 30 9 16 (.string ByteArray.empty) underlying30 ju (by rfl) (by omega) (by omega) fP jo (by rfl) _ _ rfl w.heap.size _ [] rfl c _ _ ks rfl d (fun h=>by cases h) (by have:=m.out;simp;omega) (by simp) ?_;intro t x n j s)
  go_ret;exact⟨_,rfl,tV (by rw[List.nil_append]at n;exact n) m.out,i.out.trans j⟩
theorem Ct(n:Nat)(ls:Nat->List df):dS n ls=0↔∀j,j<n->ls j=[]:=by
 induction n with
 |zero=>simp[dS]
 |succ n a=>
  rw[vH]
  constructor
  ·intro h j b
   by_cases e:j=n
   ·subst e;exact List.eq_nil_of_length_eq_zero (by omega)
   ·exact a.1 (by omega) j (by omega)
  ·intro h
   rw[a.2 fun j b=>h j (by omega),h n (by omega)];rfl
theorem LM(W:Nat)(m:Mac):lW W m=(decide (dS W m.wk=0)&&decide (dT W m.box=0)):=by
 rw[Bool.eq_iff_iff];unfold lW;rw[List.all_eq_true,Bool.and_eq_true,decide_eq_true_eq,decide_eq_true_eq,Ct,oQ]
 constructor
 ·intro h
  have b:=fun j (a:j<W)=>h j (List.mem_range.2 a)
  refine⟨fun j a=>?_,fun j a=>?_⟩
  ·have:=b j a
   rw[Bool.and_eq_true]at this;exact List.isEmpty_iff.1 this.2
  ·have:=b j a
   rw[Bool.and_eq_true]at this;exact List.isEmpty_iff.1 this.1
 ·intro ⟨b,c⟩ j a
  rw[b j (List.mem_range.1 a),c j (List.mem_range.1 a)];rfl
section
variable{p:Pg}{fuel:Int}{B b W Bud tb mb wb kb:Nat}{S:Nat->Prop}{m:Mac}{w:World}
theorem MY.pm(h:MY p fuel B b W Bud tb mb wb kb S m w):∃a,PM p fuel w B tb mb wb W a m:=by
 obtain⟨c,a,h,_⟩:=h;exact⟨a,h.pm⟩
theorem uj(h:MY p fuel B b W Bud tb mb wb kb S m w):Calls prog 18 #[.pointer (some ⟨b,0,none⟩)] w fun r w'=>r=.returned (.bool (el W m))/\∃i,w'=w.drewN i:=by
 obtain⟨⟨x,y,z,t,u,o,v⟩,_⟩:=h.cells;have j:=hid (fun k=>(h.later (Below.refl w.heap.size w).drewN (w':=w.drewN k)).pm);have c:Hid (el W m=(m.over||(decide (dS W m.wk=0)&&decide (dT W m.box=0)))):=by show _=_;unfold el;rw[LM]
 clear h t u v
 cases g:m.over with
 |true=>
  rw[g]at o;rw[g,Bool.true_or]at c;go_enter func18,ntmps18;go_wp2;go_ret;exact⟨dE c.out.symm,0,rfl⟩
 |false=>
  rw[g]at o;rw[g,Bool.false_or]at c
  by_cases d:dS W m.wk=0
  ·have q:Hid (dS W m.wk=0):=d
   by_cases f:dT W m.box=0
   ·rw[d,f]at c
    have n:Hid (dT W m.box=0):=f;clear d f;go_enter func18,ntmps18;go_wp2_with fail;obtain⟨s,e⟩:=j.out 0;refine(sY e).mono ?_;rintro r w'⟨rfl,rfl⟩;rw[q.out];go_wp2_with fail;refine(xz e).mono ?_;rintro r w'⟨rfl,rfl⟩;rw[n.out];go_wp2;go_ret;exact⟨dE c.out.symm,0,rfl⟩
   ·have a:((dT W m.box:Int)==0)=false:=by simp;omega
    have l:=hid a;rw[d,decide_eq_false f,Bool.and_false]at c;clear d f a;go_enter func18,ntmps18;go_wp2_with fail;obtain⟨s,e⟩:=j.out 0;refine(sY e).mono ?_;rintro r w'⟨rfl,rfl⟩;rw[q.out];go_wp2_with fail;refine(xz e).mono ?_;rintro r w'⟨rfl,rfl⟩;have a:=l.out;go_wp2;go_ret;exact⟨dE c.out.symm,0,rfl⟩
  ·have a:((dS W m.wk:Int)==0)=false:=by simp;omega
   have l:=hid a;rw[decide_eq_false d,Bool.false_and]at c;clear d a;go_enter func18,ntmps18;go_wp2_with fail;obtain⟨s,e⟩:=j.out 0;refine(sY e).mono ?_;rintro r w'⟨rfl,rfl⟩;have a:=l.out;go_wp2;go_ret;exact⟨dE c.out.symm,0,rfl⟩
theorem tp(h:MY p fuel B b W Bud tb mb wb kb S m w):Calls prog 21 #[.pointer (some ⟨b,0,none⟩)] w fun r a=>r=.returned (.int .i64 (m.l.length:Nat))/\w=a:=by
 obtain⟨⟨e,_⟩,_⟩:=h.cells;obtain⟨f,c⟩:=h.pm;have d:=hid c;clear h c;go_enter func21,ntmps21;go_wp2_with fail;refine(F9 d.out).mono ?_;rintro r a⟨rfl,rfl⟩;go_wp2;go_ret;exact⟨rfl,rfl⟩
theorem Ha(h:MY p fuel B b W Bud tb mb wb kb S m w):Calls prog 21 #[.pointer (some ⟨b,0,none⟩)] w fun r d=>r=.returned (.int .i64 (m.l.length:Nat))/\∃i,d=w.drewN i:=(tp h).mono fun _ _ ⟨a,c⟩=>⟨a,0,c.symm⟩
theorem Ik(h:MY p fuel B b W Bud tb mb wb kb S m w):Calls prog 22 #[.pointer (some ⟨b,0,none⟩)] w fun r a=>r=.returned (.int .i64 (m.cl:Nat))/\∃i,a=w.drewN i:=by
 obtain⟨⟨e,_⟩,_⟩:=h.cells;obtain⟨f,c⟩:=h.pm;have d:=hid c;clear h c;go_enter func22,ntmps22;go_wp2_with fail;refine(Gb d.out).mono ?_;rintro r a⟨rfl,rfl⟩;go_wp2;go_ret;exact⟨rfl,0,rfl⟩
theorem MN(h:MY p fuel B b W Bud tb mb wb kb S m w):Calls prog 28 #[.pointer (some ⟨b,0,none⟩)] w fun r a=>r=.returned (.int .i64 (m.blk:Nat))/\∃i,a=w.drewN i:=by
 obtain⟨⟨c,d,e,f,g,j,k⟩,_⟩:=h.cells;clear h c d e f g j;go_enter func28,ntmps28;go_wp2;go_ret;exact⟨rfl,0,rfl⟩
theorem p7(h:MY p fuel B b W Bud tb mb wb kb S m w):Calls prog 29 #[.pointer (some ⟨b,0,none⟩)] w fun r a=>r=.returned (.int .i64 (W:Nat))/\a=w:=by
 obtain⟨⟨c,d,e,j,f,g,i⟩,_⟩:=h.cells;clear h c d e f g i;go_enter func29,ntmps29;go_wp2;go_ret;exact⟨rfl,rfl⟩
theorem qU(W:Nat)(z:Int):fo W z=decide (0<=z/\z<W):=by
 rw[Bool.eq_iff_iff];simp[fo]
theorem tC(h:MY p fuel B b W Bud tb mb wb kb S m w)(z:Int):Calls prog 43 #[.pointer (some ⟨b,0,none⟩),.int .i64 z] w fun r a=>r=.returned (.bool (fo W z))/\a=w:=by
 have c:=hid (p7 h);clear h
 by_cases h:0<=z
 ·have d:decide (z>=0)=true:=by simpa using h
  go_enter func43,ntmps43;go_wp2_with fail;refine c.out.mono ?_;rintro r a⟨rfl,rfl⟩;go_wp2;go_ret;exact⟨dE (by simp[fo,h]),rfl⟩
 ·have d:decide (z>=0)=false:=by simpa using h
  go_enter func43,ntmps43;go_wp2;go_ret;exact⟨dE (by simp[fo];omega),rfl⟩
theorem L'(h:MY p fuel B b W Bud tb mb wb kb S m w):Calls prog 19 #[.pointer (some ⟨b,0,none⟩)] w fun r a=>r=.returned (.bool (el W m && !m.over))/\∃i,a=w.drewN i:=by
 obtain⟨⟨e,f,g,j,k,c,l⟩,_⟩:=h.cells;have n:=hid (uj h);clear h e f g j k l
 cases d:m.over with
 |true=>
  rw[d]at c;go_enter func19,ntmps19;go_wp2;go_ret;exact⟨dE (by simp),0,rfl⟩
 |false=>
  rw[d]at c;go_enter func19,ntmps19;go_wp2_with fail;refine n.out.mono ?_;rintro r a⟨rfl,i,rfl⟩;go_wp2;go_ret;exact⟨dE (by simp),i,rfl⟩
theorem Js(h:MY p fuel B b W Bud tb mb wb kb S m w)(f:∀j,j<W->(m.keys j).length<=1000000)(z:Int):Calls prog 27 #[.pointer (some ⟨b,0,none⟩),.int .i64 z] w fun r d=>∃v,r=.returned v/\fO d w.heap.size v (jb W z m)/\Below w.heap.size w d:=by
 obtain⟨⟨n,o,q,C,s,t,x⟩,_⟩:=h.cells;have g:=hid (tC h z)
 by_cases c:0<=z/\z<W
 ·have e:fo W z=true:=by rw[qU];exact decide_eq_true c
  rw[e]at g
  obtain⟨j,rfl⟩:∃j:Nat,z=j:=⟨z.toNat,by omega⟩
  have i:j<W:=by omega
  obtain⟨v,H,k,y⟩:=h.keysOwn i;obtain⟨a,G,rfl,_⟩:=dc.form2 k fP (by have:=f j i;omega);have D:=hid (Mj k (f j i) y);have l:Hid (jb W j m=m.keys j):=by show _=_;unfold jb;rw[if_pos c,Int.toNat_natCast]
  clear h f k y e n o q s t x c;go_enter func27,ntmps27;go_wp2_with fail;refine g.out.mono ?_;rintro r d⟨rfl,rfl⟩;go_wp2_with fail;refine D.out.mono ?_;rintro r d⟨u,rfl,A,hb⟩;have E:=hid A;have F:=hid hb;clear A hb;go_wp2;go_ret;exact⟨_,rfl,by rw[l.out];exact E.out,F.out⟩
 ·have e:fo W z=false:=by rw[qU];exact decide_eq_false c
  rw[e]at g;have l:Hid (jb W z m=[]):=by show _=_;unfold jb;rw[if_neg c]
  clear h f e n o q C s t x c;go_enter func27,ntmps27;go_wp2_with fail;refine g.out.mono ?_;rintro r d⟨rfl,rfl⟩;go_wp2;go_ret;exact⟨_,rfl,by rw[l.out];exact⟨none,0,rfl,by simp,fun h=>absurd rfl h⟩,Below.refl _ _⟩
end
end
section
open List (length_append length_cons length_map)
theorem ur(s:St)(order:List Int):(lT s order).nodes=1:=yA _ _ _
theorem LH{s:St}{order:List Int}{b:Int}(h:eF (dx s order b)=true):(dx s order b).nodes=1+(b.toNat-1):=by
 have:=JK (b.toNat-1) (lT s order) h;rw[ur]at this;exact this
theorem rG(s0:St)(T:List Nd):(je s0 T).length+(kf s0 T).length<=T.length:=by
 unfold je kf
 induction T with
 |nil=>exact Nat.le_refl _
 |cons n T a=>
  simp only[List.filter_cons,length_cons]
  by_cases h:(fe s0 n.row).all=[]
  ·simp only[h,decide_true,if_true,ne_eq,not_true,decide_false,Bool.false_and,Bool.false_eq_true,if_false,length_cons]
   simp only[ne_eq]at a;omega
  ·simp only[h,decide_false,Bool.false_eq_true,if_false,ne_eq,not_false_eq_true,decide_true,Bool.true_and]
   simp only[ne_eq]at a
   split
   ·simp only[length_cons];omega
   ·omega
section
variable{p:Pg}{fuel:Int}{F:Nat}{order:List Int}{b:Int}
theorem pG(a:(s0 p fuel).Ok F):(dx (s0 p fuel) order b).nodes<=dM p fuel/\(dx (s0 p fuel) order b).runs=(dx (s0 p fuel) order b).keys.length/\(dx (s0 p fuel) order b).keys.Nodup /\
  (∀k∈(dx (s0 p fuel) order b).keys,k∈eD (ek p fuel))/\(dx (s0 p fuel) order b).runs+(dx (s0 p fuel) order b).blocked<=(dx (s0 p fuel) order b).nodes /\
  (eF (dx (s0 p fuel) order b)=false->dG (dx (s0 p fuel) order b).keys=dG (eD (ek p fuel))/\(dx (s0 p fuel) order b).keys.length=(dG (eD (ek p fuel))).length) /\
  (eF (dx (s0 p fuel) order b)=true->(dx (s0 p fuel) order b).nodes+1<=dM p fuel):=by
 obtain⟨T,M,C,h⟩:=LD a order b;generalize g:dx (s0 p fuel) order b=X at *;refine⟨?_,?_,?_,?_,?_,?_,?_⟩
 ·rw[h.nodes];exact ne a h.ok
 ·rw[h.runs,h.keys];unfold gi;rw[length_map]
 ·rw[h.keys];exact tU a h.ok
 ·intro k d
  rw[h.keys]at d;exact tT a h.ok d
 ·rw[h.runs,h.blk,h.nodes];exact rG _ _
 ·intro c
  rw[h.keys];exact yT a h.ok (h.done c)
 ·intro c
  obtain⟨i,j,l,e⟩:=h.back.go a (pQ c);have f:=e.nodes;have m:=ne a e.ok;rw[py,(nZ X).1]at f;omega
theorem LF(c:(s0 p fuel).Ok F)(hb:(dM p fuel:Int)<=b):eF (dx (s0 p fuel) order b)=false:=by
 rw[Bool.eq_false_iff];intro a;have d:=(pG (order:=order) (b:=b) c).2.2.2.2.2.2 a;have e:=LH a;have:=sX 33 (s0 p fuel);unfold dM at *;omega
end
theorem Jq{ks:List dk}(h:ks.Nodup):dG ks=ks.mergeSort (fun x y=>decide (x<=y)):=by unfold dG;rw[Aq h]
section
variable{p:Pg}{fuel:Int}{W w B:Nat}{m:Mac}{T:List Nd}
theorem yv{l:List TNd}(c:TrOk p fuel l){n:TNd}(d:n∈l):dw l n.pre 255=dw l n.pre n.may:=by
 obtain⟨i,e,b,a⟩:=c.at d;have g:=(c.ok n d).may;unfold dw;rw[a];dsimp only;rw[nP e,b]
 have f:255&&&n.may=n.may:=by
  have:=Nat.and_two_pow_sub_one_of_lt_two_pow (n:=8) (x:=n.may) (by omega);rw[Nat.and_comm];exact this
 rw[f,Nat.and_self]
theorem Ja(c:me W m.l m.box)(a:TrOk p fuel m.l)(d:w<W){x:Ltr}(hx:x∈m.box w):dw m.l x.q 255=dw m.l x.q x.set/\x.q.length<=33/\x.set<256:=by
 obtain⟨n,b,e,f⟩:=c w d x hx;rw[<-e,f];exact⟨yv a b,tq a b,(a.ok n b).may⟩
theorem Bc(_hg:dF p fuel=true)(c:CoreM p fuel W m T){b:Nd}(hb:b∈T){k:dl}(o:b.row.map Ev.thread=dB k)(i:Nat):
  ∃v,v<W/\gL m.l (k.take i)=(v:Nat)/\dw m.l (k.take i) 255=dw m.l (k.take i) (dn (ir p fuel (k.take i)).all)/\(k.take i).length<=33:=by
 obtain⟨n,a,q⟩:=c.tree.take hb o i;obtain⟨w,s,r,d⟩:=c.tree.tr.row n a;have t:=(jV r).1;obtain⟨j,u,h,e⟩:=c.tree.tr.at a;have f:gL m.l n.pre=n.own:=by rw[xH e u,h]
 have x:=c.tree.own n a;have g:dn (ir p fuel n.pre).all=n.may:=by rw[t,d]
 rw[<-q,g,f];exact⟨n.own.toNat,by omega,by omega,yv c.tree.tr a,tq c.tree.tr a⟩
theorem Gk{box:Nat->List Ltr}{v:Nat}(d:v<W)(x:Ltr):dT W (db box v (box v++[x]))<=dT W box+1:=by
 unfold dT
 induction W with
 |zero=>omega
 |succ n a=>
  rw[List.range_succ,List.map_append,List.map_append,List.sum_append,List.sum_append];simp only[List.map_cons,List.map_nil,List.sum_cons,List.sum_nil]
  by_cases e:v=n
  ·subst e
   rw[dg,length_append]
   have b:(List.range v).map (fun w=>(db box v (box v++[x]) w).length)=(List.range v).map fun w=>(box w).length:=List.map_congr_left fun y c=>by
    rw[dh _ _ (by have:=List.mem_range.1 c;omega)]
   rw[b];simp only[length_cons,List.length_nil];omega
  ·have:=a (by omega)
   rw[dh _ _ (Ne.symm e)];omega
theorem Gm(a:dF p fuel=true)(c:CoreM p fuel W m T){b:Nd}(hb:b∈T){k:dl}(d:b.row.map Ev.thread=dB k)(i:Nat):dT W (fb p fuel W w k m i).box<=dT W m.box+1:=by
 obtain⟨v,g,f,_⟩:=Bc a c hb d i;unfold fb
 by_cases h:gL m.l (k.take i)=w
 ·rw[if_pos h]
  have e:(fT W w (k.take i) (dn (ir p fuel (k.take i)).all) m).box=m.box:=by
   unfold fT ey
   split
   ·split <;> rfl
   ·rfl
  rw[e];omega
 ·rw[if_neg h,f]
  exact Gk (by omega) _
theorem Gl(a:dF p fuel=true)(e:w<W){b:Nd}(hb:b∈T){k:dl}(d:b.row.map Ev.thread=dB k)(l:List Nat):∀{m:Mac},CoreM p fuel W m T->dT W (l.foldl (fb p fuel W w k) m).box<=dT W m.box+l.length:=by
 induction l with
 |nil=>intro m c;exact Nat.le_refl _
 |cons j l f=>
  intro m c;have g:=Gm (w:=w) a c hb d j;have h:=f (xc a c e hb d j).1;rw[List.foldl_cons,length_cons];omega
theorem Fv(_hg:dF p fuel=true){k:dl}{e:Int}{a:List Ev}{s:St}(b:dQ p fuel (dB k)=(e,a,some s))(c:s.ts.length<=4):(gS p fuel k).length<=132:=by
 have h:=sJ b;obtain⟨d,f⟩:=jV b;unfold gS;rw[length_map,d,f];have i:=qA s.next a s.ts.length;have j:=qy b;have g:(dB k).length=k.length:=mo k;have l:s.ts.length*a.length<=4*33:=Nat.mul_le_mul c (by omega);omega
theorem yU{W j:Nat}{keys:Nat->List dk}(b:j<W):(keys j).length<=(fJ W keys).length:=by
 unfold fJ
 induction W with
 |zero=>omega
 |succ n a=>
  rw[List.range_succ,List.flatMap_append,length_append]
  by_cases e:j=n
  ·subst e
   simp
  ·have:=a (by omega)
   omega
theorem FY{a:Nd}{k:dl}{asl:Nat}(h:PreM p fuel W B m T a k asl){j:Nat}(b:j<W):(m.keys j).length<=T.length/\m.blk<=T.length/\m.l.length<=T.length:=by
 have d:=rG (s0 p fuel) T;have c:=h.keys.length_eq;have e:=yU (keys:=m.keys) b;have f:=h.blk;have g:=h.core.tree.len;rw[length_append]at c;have i:(gi (s0 p fuel) T).length=(je (s0 p fuel) T).length:=by unfold gi;rw[length_map]
 omega
theorem tW(a:dF p fuel=true)(h:InvM p fuel W B m T){j:Nat}(b:j<W):(m.keys j).length<=dM p fuel/\m.blk<=dM p fuel/\m.l.length<=dM p fuel:=by
 have c:=ne (lI a).1 h.tree.ok;have d:=rG (s0 p fuel) T;have e:=h.keys.length_eq;have f:=yU (keys:=m.keys) b;have g:=h.blk;have i:=h.tree.len;have k:(gi (s0 p fuel) T).length=(je (s0 p fuel) T).length:=by unfold gi;rw[length_map]
 omega
def kN(l:List TNd)(k:dl)(asl:Nat):Prop:=∃n∈l,n.pre=k/\n.gone=0/\n.asl=asl
theorem kN.mark{l:List TNd}{k:dl}{asl:Nat}(h:kN l k asl)(q:dl)(set:Nat):kN (dw l q set).2 k asl:=by
 obtain⟨n,j,c,d,f⟩:=h;unfold dw
 split
 ·exact⟨n,j,c,d,f⟩
 ·rename_i i m
  obtain⟨b,_⟩:=iQ m;obtain⟨a,o,rfl⟩:=List.getElem_of_mem j;dsimp only;rw[nP b];have g:a<(l.set i { l[i]with todo:=l[i].todo|||(set&&&l[i].may) }).length:=by rw[List.length_set];exact o
  by_cases e:i=a
  ·subst e
   refine⟨_,List.mem_set b _,c,d,f⟩
  ·refine⟨_,List.getElem_mem g,?_⟩
   rw[List.getElem_set_ne e];exact⟨c,d,f⟩
theorem It(W w:Nat)(k:dl)(set:Nat)(m:Mac):(fT W w k set m).l=(dw m.l k set).2:=by
 unfold fT ey
 split
 ·split <;> rfl
 ·rfl
theorem kN.races{k:dl}{asl:Nat}{q:dl}(l:List Nat):∀{m:Mac},kN m.l q asl->kN (l.foldl (fb p fuel W w k) m).l q asl:=by
 induction l with
 |nil=>intro m h;exact h
 |cons i l a=>
  intro m h;rw[List.foldl_cons];apply a;unfold fb
  split
  ·rw[It]
   exact h.mark _ _
  ·exact h
theorem Iz{l:List TNd}{k:dl}{asl:Nat}{own:Int}(h:(d' p fuel l k asl own).1=0){e:Int}{a:List Ev}{s:St}(b:dQ p fuel (dB k)=(e,a,some s)):kN (d' p fuel l k asl own).2 k asl:=by
 unfold d' at *;rw[b]at h ⊢;dsimp only at *
 split at h
 ·cases h
 ·rename_i c
  rw[if_neg c]
  split at h
  ·cases h
  ·rename_i d
   rw[if_neg d];exact⟨_,List.mem_append_right _ (List.mem_singleton.2 rfl),rfl,rfl,rfl⟩
theorem LA(c:TreeR p fuel W m.l T){k:dl}{asl:Nat}(h:kN m.l k asl){u:List Ev}{s:St}{e:Int}(v:dQ p fuel (dB k)=(e,u,some s)){x:Int}(hx:x∈s.all)(D:0<=x/\x<8)(o:dp asl x=false):dt (dw m.l k (dn [x])).2 k≠0:=by
 obtain⟨n,f,rfl,w,rfl⟩:=h;obtain⟨i,z,b,A,_⟩:=c.mark f (i7 [x]);have a:=c.tr.ok n f
 have j:dt (dw m.l n.pre (dn [x])).2 n.pre=({ n with todo:=n.todo|||(dn [x]&&&n.may) }:TNd).left:=by
  rw[A,mC c.tr.nodup z (by rw[b]),if_pos (by rw[b])]
 obtain⟨C,E,d,B⟩:=c.tr.row n f;rw[v]at d;injection d with _ e2;injection e2 with _ e2;injection e2 with e2;subst e2
 obtain⟨y,rfl⟩:∃y:Nat,x=y:=⟨x.toNat,by omega⟩
 have g:y<8:=by omega
 rw[gX _ g]at o;intro q;rw[j]at q
 have r:({ n with todo:=n.todo|||(dn [(y:Int)]&&&n.may) }:TNd).left.testBit y=true:=by
  unfold TNd.left;dsimp only;have t:n.todo|||(dn [(y:Int)]&&&n.may)<256:=lM a.todo (Nat.lt_of_le_of_lt Nat.and_le_right a.may);rw[jm (jB _ _ t) a.asl,jm t a.gone,Nat.testBit_or,Nat.testBit_and,w,o,kX _ g,B,kX _ g];simp[hx]
 rw[q,Nat.zero_testBit]at r
 cases r
theorem LB{k:dl}{asl:Nat}{d:Int}{e:Int}{a:List Ev}{s:St}(b:dQ p fuel (dB k)=(e,a,some s))(c:fu s asl=[])(hb:gG s.all asl=false):gu p fuel W w k asl d m={ m with keys:=db m.keys w (m.keys w++[eE a]) }:=by
 obtain⟨f,g⟩:=jV b;unfold gu;rw[f,g]
 have h:s.all=[]:=by
  apply Classical.byContradiction;intro i
  have:gG s.all asl=true:=by
   unfold gG;rw[Bool.and_eq_true];refine⟨by simpa using i,?_⟩;rw[List.all_eq_true];intro t j;apply Classical.byContradiction;intro l
   have:t∈fu s asl:=by
    unfold fu;rw[List.mem_filter];exact⟨j,by simpa using l⟩
   rw[c]at this
   cases this
  rw[hb]at this
  cases this
 rw[if_pos h]
theorem LG{k:dl}{asl:Nat}{d:Int}{e:Int}{a:List Ev}{s:St}(b:dQ p fuel (dB k)=(e,a,some s))(c:fu s asl=[])(hb:gG s.all asl=true):gu p fuel W w k asl d m={ m with blk:=m.blk+1 }:=by
 obtain⟨f,g⟩:=jV b;unfold gu;rw[f,g,c]
 have i:s.all≠[]:=by
  intro h;rw[h]at hb;unfold gG at hb;simp at hb
 rw[if_neg i,if_pos rfl]
theorem Lz{k:dl}{asl:Nat}{d:Int}{e:Int}{b:List Ev}{s:St}(c:dQ p fuel (dB k)=(e,b,some s))(a:fu s asl≠[]):gu p fuel W w k asl d m=fT W w k (dn [(fu s asl).getD (dD d (fu s asl).length) 0]) m:=by
 obtain⟨f,i⟩:=jV c;unfold gu;rw[f]
 have g:s.all≠[]:=by
  intro h;apply a;unfold fu;rw[h];rfl
 rw[if_neg g,if_neg a]
end
end
section
open Go.Lib (hid)
open Go.Proofs.Tryz Go.RowKit
section
variable{p:Pg}{fuel:Int}{B b W Bud tb mb wb kb:Nat}{S:Nat->Prop}{m:Mac}{w:World}
theorem Jf{l:List TNd}(h:TrOk p fuel l)(k:dl):0<(dW (dt l k)).length↔dt l k≠0:=by
 constructor
 ·intro a e
  rw[e,AY]at a;exact absurd a (Nat.lt_irrefl _)
 ·intro a
  obtain⟨n,b,_,i,f,d,_,c⟩:=pe a;rw[c]at a ⊢;exact List.length_pos_iff.2 (yN (h.ok n b) a)
theorem PM.trOk{a:Nat->Prop}(q:PM p fuel w B tb mb wb W a m):TrOk p fuel m.l:=by
 obtain⟨C,h,b,c,d,e,q,_⟩:=q;have:=q.tr.ok;rw[q.ep,q.ef]at this;exact this
theorem PM.noW{a:Nat->Prop}(q:PM p fuel w B tb mb wb W a m):ji W m.wk:=by
 obtain⟨C,h,b,c,d,e,q,_⟩:=q;exact q.wk.no
theorem F'{d:Nat->Prop}(q:PM p fuel w B tb mb wb W d m){k:dl}(f:k.length<=1000):Calls prog 128 #[.pointer (some ⟨tb,0,none⟩),.string ⟨k.toArray⟩] w fun r b=>∃a n c,r=.returned (.slice a n c)/\decide (0<n)=decide (dt m.l k≠0)/\Below w.heap.size w b:=by
 have g:=q.trOk;refine(Ga q f).mono fun r b ⟨v,e,h,hb⟩=>?_
 obtain⟨a,c,i,_⟩:=h.form (by have:=mP (dt m.l k);simp[ex];omega);refine⟨a,_,c,by rw[e,i],?_,hb⟩;rw[show(ex (dW (dt m.l k))).length=(dW (dt m.l k)).length by simp[ex],Bool.eq_iff_iff,decide_eq_true_eq,decide_eq_true_eq,<-Jf g k]
theorem sv(h:MY p fuel B b W Bud tb mb wb kb S m w){k:dl}(d:k.length<=1000):Calls prog 83 #[.pointer (some ⟨b,0,none⟩),.string ⟨k.toArray⟩] w fun r g=>r=.returned (.bool (decide (dt m.l k≠0)))/\Below w.heap.size w g:=by
 obtain⟨⟨q,_⟩,_⟩:=h.cells;obtain⟨s,e⟩:=h.pm;have i:=hid (F' e d);clear h e d;go_enter func83,ntmps83;go_wp2_with fail;refine i.out.mono ?_;rintro r t⟨a,n,c,rfl,f,hb⟩;have j:=hid hb;have o:=hid f;clear hb f;go_wp2;go_ret;exact⟨dE o.out,j.out⟩
theorem nu(W j:Nat)(k:dl)(m:Mac):(ey W j k m).keys=m.keys/\(ey W j k m).blk=m.blk/\(ey W j k m).over=m.over:=by
 unfold ey
 split <;> exact⟨rfl,rfl,rfl⟩
theorem tv(h:MY p fuel B b W Bud tb mb wb kb S m w)(s:W<=64)(g:dS W m.wk<100000){j:Nat}(t:j<W){k:dl}(f:k.length<=1000):Calls prog 78 #[.pointer (some ⟨b,0,none⟩),.int .i64 (j:Int),.string ⟨k.toArray⟩] w fun r u=>r=.returned (.bool (decide (dt m.l k≠0) && !gp W m k))/\dz p fuel B b W Bud tb mb wb kb S (if dt m.l k≠0 then ey W j k m else m) w u:=by
 have H:=hid h;have v:=hid (sv h f);have y:=hid g;have z:=hid f;clear h f g;go_enter func78,ntmps78;go_wp2_with fail;refine v.out.mono ?_;rintro r D⟨rfl,hb⟩;have A:=hid hb;have i:=hid (H.out.later hb);have n:=hid (dz.below H.out hb)
 by_cases c:dt m.l k≠0
 ·have e:decide (dt m.l k≠0)=true:=decide_eq_true c
  have a:=hid c;obtain⟨⟨d0,d1,d2,d3,d4,d5,d6⟩,_⟩:=i.out.cells;have C:=hid (i.out.parts (m':=ey W j k m) (fun E q=>xx q s y.out t z.out) (nu _ _ _ _).1 (nu _ _ _ _).2.1 (nu _ _ _ _).2.2);have F:Hid (∀x,(decide (dt m.l k≠0)&&x)=x):=fun x=>by rw[e,Bool.true_and]
  clear c d0 d1 d3 d4 d5 d6 hb;rw[e];go_wp2_with fail;refine C.out.mono ?_;rintro r G⟨rfl,o⟩;have d:=hid (dz.behind A.out o);clear o;go_wp2;go_ret;exact⟨dE (by first|rfl|simp),by first|exact d.out|(rw[if_pos a.out];exact d.out)⟩
 ·have e:decide (dt m.l k≠0)=false:=decide_eq_false c
  have a:=hid c;clear c hb;rw[e];go_wp2;go_ret;exact⟨dE (by first|rfl|simp),by first|exact n.out|(rw[if_neg a.out];exact n.out)⟩
theorem tP{w:World}{g:Nat}{x:Ltr}(h:w.heap[g]?=some (.cells #[.string ⟨x.q.toArray⟩,.int .u8 255] 146 (0,0))):w.cell? ⟨g,0,none⟩=some (.string ⟨x.q.toArray⟩)/\w.cell? ⟨g,1,none⟩=some (.int .u8 255):=⟨by rw[cell_of_row _ _ 0 _ _ _ h];rfl,by rw[cell_of_row _ _ 1 _ _ _ h];rfl⟩
theorem tA(d:Int){n:Nat}(a:0<n)(c:n<=1000)(w:World):Calls prog 72 #[.int .i64 d,.int .i64 (n:Int)] w fun r b=>r=.returned (.int .i64 (dD d n:Nat))/\b=w:=by
 obtain⟨j,k,l,m,o⟩:=Al d a;have e:=lX d a;have f:IntKind.u64.wrap (n:Int)=n:=IntWalk.u64_in _ (by omega);have g:IntKind.i64.wrap ((dD d n:Nat):Int)=(dD d n:Nat):=IntWalk.i64_in _ (by omega);have h:IntKind.u64.wrap ((dD d n:Nat):Int)=(dD d n:Nat):=IntWalk.u64_in _ (by omega);have i:¬(n:Int)=0:=by omega
 generalize dD d n=K at *;go_enter func72,ntmps72;go_wp2;go_ret;exact⟨rfl,rfl⟩
end
end
end Go.Proofs.YtjfmmnhcddckaaaGreat
