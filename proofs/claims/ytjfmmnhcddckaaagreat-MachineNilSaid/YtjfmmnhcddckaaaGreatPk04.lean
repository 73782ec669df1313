import Derived.Laws.OwnMore
import Derived.Maps.AppendAt
import Derived.Deep.RegionHeld
import Derived.OrdersHeld
import Derived.BigQuiet
import Derived.Test.YtjfmmnhcddckaaaGreatPk01
import Derived.Test.YtjfmmnhcddckaaaGreatPk02
import Derived.Test.YtjfmmnhcddckaaaGreatPk03
import Derived.Test.YtjfmmnhcddckaaaGreatPk03b
set_option maxRecDepth 100000
set_option maxHeartbeats 1000000
namespace Go.Proofs.YtjfmmnhcddckaaaGreat
open Go.RowKit
section
variable{T:Type}{f:T->List Value}{n:Nat}
def Zaq(f:T->List Value)(l:List T):List Value:=l.flatMap f
theorem Zar(hf:∀x,(f x).length=n)(l:List T):(Zaq f l).length=l.length*n:=by
 induction l with
 |nil=>simp[Zaq]
 |cons x l ih=>
  unfold Zaq at *
  rw[List.flatMap_cons,List.length_append,ih,hf,List.length_cons,Nat.add_mul,Nat.one_mul]
  omega
theorem Zcj(f:T->List Value)(a b:List T):Zaq f (a++b)=Zaq f a++Zaq f b:=by simp[Zaq]
theorem ZaI(hf:∀x,(f x).length=n)(l:List T)(i j:Nat)(h:i<l.length)(hj:j<n):(Zaq f l)[i*n+j]?=(f l[i])[j]?:=by
 induction l generalizing i with
 |nil=>simp at h
 |cons x l ih=>
  cases i with
  |zero=>
   simp only[Zaq,List.flatMap_cons,Nat.zero_mul,Nat.zero_add,List.getElem_cons_zero]
   rw[List.getElem?_append_left (by rw[hf];exact hj)]
  |succ i=>
   have:=ih i (by simpa using h)
   have e:(i+1)*n+j-(f x).length=i*n+j:=by rw[hf,Nat.add_mul];omega
   simp only[Zaq,List.flatMap_cons,List.getElem_cons_succ]at *
   rw[List.getElem?_append_right (by rw[hf,Nat.add_mul];omega),e,this]
theorem cellsL_one(h1:∀x,∀v∈f x,v.oneCell'=true)(l:List T):∀v∈Zaq f l,v.oneCell'=true:=by
 intro v hv
 simp only[Zaq,List.mem_flatMap]at hv
 obtain⟨x,_,hv⟩:=hv
 exact h1 x v hv
theorem Zdn(f:T->List Value)(x:T):Zaq f [x]=f x:=by simp[Zaq]
theorem Zcp(hf:∀x,(f x).length=n)(hn:0<n){l:List T}{xs:List Value}(hl:xs.length=l.length*n)(h:∀i (h:i<l.length),∀j,j<n->xs[i*n+j]?=(f l[i])[j]?):xs=Zaq f l:=by
 apply List.ext_getElem?
 intro p
 by_cases hp:p<l.length*n
 ·have h1:p/n<l.length:=Nat.div_lt_of_lt_mul (by rw[Nat.mul_comm];exact hp)
  have h2:p%n<n:=Nat.mod_lt _ hn
  have e:p=p/n*n+p%n:=by rw[Nat.mul_comm];exact(Nat.div_add_mod p n).symm
  rw[e,h _ h1 _ h2,ZaI hf _ _ _ h1 h2]
 ·rw[List.getElem?_eq_none (by omega),List.getElem?_eq_none (by rw[Zar hf];omega)]
def RowAt(w:World)(a:Option Addr)(n:Nat)(f:T->List Value)(l:List T):Prop:=
 l.length<=maxLen/\(l≠[]->∃b o,a=some ⟨b,o,none⟩/\∀i (h:i<l.length) j u,(f l[i])[j]?=some u->w.cell? ⟨b,o+i*n+j,none⟩=some u)
theorem RowAt.later{w w':World}{a:Option Addr}{l:List T}(h:RowAt w a n f l)(hb:Below w.heap.size w w'):RowAt w' a n f l:=by
 refine⟨h.1,fun hn=>?_⟩
 obtain⟨b,o,rfl,hc⟩:=h.2 hn
 exact⟨b,o,rfl,fun i hi j u hj=>Zab hb (hc i hi j u hj)⟩
theorem ZcZ(w:World)(a:Option Addr)(n:Nat)(f:T->List Value):RowAt w a n f []:=⟨by simp[maxLen],fun h=>absurd rfl h⟩
theorem RowAt.part{w:World}{b o:Nat}{l:List T}(h:RowAt w (some ⟨b,o,none⟩) n f l)(i m:Nat):RowAt w (some ⟨b,o+i*n,none⟩) n f ((l.drop i).take m):=by
 refine⟨Nat.le_trans (List.length_take_le' _ _) (Nat.le_trans (by simp) h.1),fun hn=>⟨b,o+i*n,rfl,fun k hk j u hj=>?_⟩⟩
 have hk':i+k<l.length:=by simp at hk;omega
 obtain⟨b',o',e,hc⟩:=h.2 (by intro e;simp[e]at hk')
 cases e
 have h1:=hc (i+k) hk' j u (by simpa using hj)
 rw[Nat.add_mul,<-Nat.add_assoc]at h1
 exact h1
def Zae(w:World)(B:Nat)(t:TypeId)(n:Nat)(f:T->List Value)(v:Value)(l:List T):Prop:=w.ownsRow B t n v l.length (Zaq f l)
theorem Zae.alloc{w:World}{B:Nat}{t:TypeId}{v:Value}{l:List T}(h:Zae w B t n f v l)(o:Obj):Zae (w.alloc o) B t n f v l:=World.ownsRow.alloc h o
theorem Za5(w:World)(B:Nat)(t:TypeId)(n:Nat)(f:T->List Value):Zae w B t n f (.slice none 0 0) []:=World.ownsRow_nil w B _ _
theorem Zae.later{w w':World}{B:Nat}{t:TypeId}{v:Value}{l:List T}(h:Zae w B t n f v l)(hb:Below w.heap.size w w'):Zae w' B t n f v l:=Zbv h hb
theorem Zae.only{w w':World}{B g:Nat}{t:TypeId}{v:Value}{l:List T}(h:Zae w B t n f v l)(ho:Only g w w')(hg:g<B):Zae w' B t n f v l:=ZfE h ho hg
theorem Zae.form{w:World}{B:Nat}{t:TypeId}{v:Value}{l:List T}(h:Zae w B t n f v l)(hf:∀x,(f x).length=n)(hm:l.length<=1000000):∃a cap,v=.slice a l.length cap/\RowAt w a n f l/\(a=none->cap=0):=by
 obtain⟨h1,⟨h2,h3⟩|⟨g,cap,cur,h2,h3,h4,h5,h6,h7,h8⟩⟩:=h
 ·have e:l=[]:=List.eq_nil_of_length_eq_zero h3
  subst e
  exact⟨none,0,h2,ZcZ _ _ _ _,fun _=>rfl⟩
 ·refine⟨some ⟨g,0,none⟩,cap,h2,⟨by unfold maxLen;omega,fun _=>⟨g,0,rfl,fun i hi j u hj=>?_⟩⟩,by simp⟩
  have hjn:j<n:=by rw[<-hf l[i]];exact(List.getElem?_eq_some_iff.1 hj).1
  rw[<-ZaI hf l i j hi hjn,<-h8]at hj
  have hlt:i*n+j<l.length*n:=by
   have:(i+1)*n<=l.length*n:=Nat.mul_le_mul_right n hi
   rw[Nat.add_mul,Nat.one_mul]at this
   omega
  rw[List.getElem?_take_of_lt hlt]at hj
  simp[World.cell?,h4]
  simpa using hj
theorem Zae.block{w:World}{B:Nat}{t:TypeId}{v:Value}{l:List T}(h:Zae w B t n f v l)(hn:l≠[]):∃g cap,v=.slice (some ⟨g,0,none⟩) l.length cap/\B<=g/\g<w.heap.size:=by
 obtain⟨h1,⟨h2,h3⟩|⟨g,cap,cur,h2,h3,h4,h5,h6,h7,h8⟩⟩:=h
 ·exact absurd (List.eq_nil_of_length_eq_zero h3) hn
 ·exact⟨g,cap,h2,h3,(Array.getElem?_eq_some_iff.1 h4).1⟩
theorem ZaH(w:World)(cs:List Value)(t:TypeId)(g:Nat)(hg:g=w.heap.size):∀j u,cs[j]?=some u->(w.alloc (.cells cs.toArray t)).cell? (Addr.add ⟨g,0,none⟩ j)=some u:=by
 subst hg
 intro j u hj
 have e:Addr.add ⟨w.heap.size,0,none⟩ j=⟨w.heap.size,j,none⟩:=by rw[ZcF,Nat.zero_add]
 rw[e,World.cell?_alloc_new]
 simpa using hj
theorem ZaP{P:Program}{w:World}{ops:Array Oper}{rest:List Oper}{o:Oper}{a:Act}{Q:Exit->Act->World->Prop}(st et:TypeId)(bytes:Nat)(z:Value)(hu:P.underlying st=some (.slice et))
  (hinfo:(P.info? et).map (fun i=>(i.zero,i.size,i.bytes))=some (some z,n,bytes)) (hz:z.cells.size=n) (hn:0<n) (hby:bytes<=1000) (hf:∀x,(f x).length=n)
  (hgd:o.guard=none) (s x:Operand) (ho:o.op=.call { callee:=.builtin .append,args:=#[s,x],argTypes:=#[st,st] }) (B:Nat) (v:Value) (l:List T) (hs:a.eval s=v) (hown:Zae w B et n f v l)
  (ad:Addr) (hx:a.eval x=.slice (some ad) 1 1) (e:T) (h1:∀v∈f e,v.oneCell'=true) (hnews:∀j u,(f e)[j]?=some u->w.cell? (ad.add j)=some u) (hlen:l.length<=1000000) (hB:B<=w.heap.size)
  (h:∀v' w',Zae w' B et n f v' (l++[e])->Below B w w'->w.grownBy w' v.ownBlock->wpList P ops Q rest (a.put o.dst v') w'):wpList P ops Q (o::rest) a w:=by
 obtain⟨i,hi,hzz⟩:=Option.map_eq_some_iff.1 hinfo
 simp only[Prod.mk.injEq]at hzz
 obtain⟨hiz,hisz,hiby⟩:=hzz
 refine wpList_append_own w hgd s x st ho B et i z n bytes hu hi hiz hisz hiby hz hn v l.length (Zaq f l) hs hown ad 1 1 (f e) hx (by rw[hf,Nat.one_mul]) hnews
  h1 (by unfold maxLen;omega) ?_ hB ?_
 ·have:(l.length+1)*bytes<=1000001*1000:=Nat.mul_le_mul (by omega) hby
  omega
 intro v' w' h2 h3 _
 refine h v' w' ?_ ((Below.refl B w).grown h3 hB (fun k hk=>(World.ownsRow.lt hown k hk).1)) h3
 unfold Zae
 rw[List.length_append,Zcj,Zdn]
 exact h2
theorem Zk0{P:Program}{w:World}{o:Oper}{a:Act}{K:Act->World->Prop}{Q:Exit->Act->World->Prop}(st et:TypeId)(bytes:Nat)(z:Value)(hu:P.underlying st=some (.slice et))
  (hinfo:(P.info? et).map (fun i=>(i.zero,i.size,i.bytes))=some (some z,n,bytes)) (hz:z.cells.size=n) (hn:0<n) (hby:bytes<=1000) (hf:∀x,(f x).length=n)
  (s x:Operand) (ho:o.op=.call { callee:=.builtin .append,args:=#[s,x],argTypes:=#[st,st] }) (B:Nat) (v:Value) (l:List T) (hs:a.eval s=v) (hown:Zae w B et n f v l)
  (ad:Addr) (hx:a.eval x=.slice (some ad) 1 1) (e:T) (h1:∀v∈f e,v.oneCell'=true) (hnews:∀j u,(f e)[j]?=some u->w.cell? (ad.add j)=some u) (hlen:l.length<=1000000) (hB:B<=w.heap.size)
  (h:∀v' w',Zae w' B et n f v' (l++[e])->Below B w w'->w.grownBy w' v.ownBlock->(v'.ownBlock=v.ownBlock∨v'.ownBlock=some w.heap.size)->K (a.put o.dst v') w'):Oper.wp P o a w K Q:=by
 obtain⟨i,hi,hzz⟩:=Option.map_eq_some_iff.1 hinfo
 simp only[Prod.mk.injEq]at hzz
 obtain⟨hiz,hisz,hiby⟩:=hzz
 have hbb:(l.length+1)*bytes<=140737488355328:=by
  have:(l.length+1)*bytes<=1000001*1000:=Nat.mul_le_mul (by omega) hby
  omega
 obtain⟨v',w',hrun,r1,r2,_,r4⟩:=run_append_own_at (P:=P) w B st o.type et i z n bytes hu hi hiz hisz hiby hz hn v l.length (Zaq f l) hown ad 1 1 (f e) (by rw[hf,Nat.one_mul]) hnews h1 (by unfold maxLen;omega) hbb hB
 have hK:=h v' w' (by unfold Zae;rw[List.length_append,Zcj,Zdn];exact r1) ((Below.refl B w).grown r2 hB (fun k hk=>(World.ownsRow.lt hown k hk).1)) r2 r4
 unfold Oper.wp
 simp[execOp,ho,resolve,invoke,builtin,hs,hx,hrun,Result.andThen]
 exact hK
theorem ZbP{P:Program}{w:World}{ops:Array Oper}{o:Oper}{a:Act}{K:Act->World->Prop}{Q:Exit->Act->World->Prop}{E:Prop}(st et:TypeId)(bytes:Nat)(z:Value)(hu:P.underlying st=some (.slice et))
  (hinfo:(P.info? et).map (fun i=>(i.zero,i.size,i.bytes))=some (some z,n,bytes)) (hz:z.cells.size=n) (hn:0<n) (hby:bytes<=1000) (hf:∀x,(f x).length=n) (hgd:o.guard=none)
  (s x:Operand) (ho:o.op=.call { callee:=.builtin .append,args:=#[s,x],argTypes:=#[st,st] }) (B:Nat) (v:Value) (l:List T) (hs:a.eval s=v) (hown:Zae w B et n f v l)
  (ad:Addr) (hx:a.eval x=.slice (some ad) 1 1) (e:T) (h1:∀v∈f e,v.oneCell'=true) (hnews:∀j u,(f e)[j]?=some u->w.cell? (ad.add j)=some u) (hlen:l.length<=1000000) (hB:B<=w.heap.size)
  (h:∀v' w',Zae w' B et n f v' (l++[e])->Below B w w'->w.grownBy w' v.ownBlock->(v'.ownBlock=v.ownBlock∨v'.ownBlock=some w.heap.size)->K (a.put o.dst v') w'):if Region.wanted o (yielded ops a.tmps)=true then Oper.wp P o a w K Q else E:=by
 have hw:Region.wanted o (yielded ops a.tmps)=true:=by simp[Region.wanted,hgd]
 rw[if_pos hw]
 exact Zk0 st et bytes z hu hinfo hz hn hby hf s x ho B v l hs hown ad hx e h1 hnews hlen hB h
def nums4(c:Nat->Int):List Value:=[.int .i64 (c 0),.int .i64 (c 1),.int .i64 (c 2),.int .i64 (c 3)]
theorem ZgG{c d:Nat->Int}(h:∀t,t<4->c t=d t):nums4 c=nums4 d:=by
 unfold nums4
 rw[h 0 (by omega),h 1 (by omega),h 2 (by omega),h 3 (by omega)]
theorem Zbx(c:Nat->Int){t:Nat}(h:t<4):(nums4 c)[t]?=some (.int .i64 (c t)):=by
 rcases (by omega:t=0∨t=1∨t=2∨t=3)with rfl|rfl|rfl|rfl <;> rfl
theorem nums4_set(c:Nat->Int)(v:Int){t:Nat}(h:t<4):(nums4 c).set t (.int .i64 v)=nums4 (fun j=>if j=t then v else c j):=by
 rcases (by omega:t=0∨t=1∨t=2∨t=3)with rfl|rfl|rfl|rfl <;> rfl
theorem run_index4{P:Program}(w:World){t elem:TypeId}{d:TypeDesc}(c:Nat->Int)(q:Nat)(hu:P.underlying t=some (.array 4 elem))(he:P.underlying elem=some d)
  (hd:(match d with | .struct _ | .array _ _=>true|_=>false)=false) (hs:(P.info? elem).map (·.size)=some 1) (hq:q<4):(Instr.index t (.agg #[.int .i64 (c 0),.int .i64 (c 1),.int .i64 (c 2),.int .i64 (c 3)]) (.int .i64 (q:Int))).run P w=.ok (.int .i64 (c q)) w:=
 ZaD w q hu he hd hs hq (by rcases (by omega:q=0∨q=1∨q=2∨q=3)with rfl|rfl|rfl|rfl <;> rfl)
end
theorem Zae.kindQ{T:Type}{f:T->List Value}{n:Nat}{w:World}{B:Nat}{t:TypeId}{v:Value}{l:List T}(h:Zae w B t n f v l){g:Nat}(hg:v.ownBlock=some g):B<=g/\∃c,w.heap[g]?=some (.cells c t (0,0)):=by
 obtain⟨h1,⟨rfl,_⟩|⟨g',cap,cur,rfl,h3,h4,h5⟩⟩:=h
 ·simp[Value.ownBlock]at hg
 ·simp[Value.ownBlock]at hg
  subst hg
  exact⟨h3,cur,h4⟩
theorem Zae.keepQ{T:Type}{f:T->List Value}{n:Nat}{w w':World}{B:Nat}{t:TypeId}{v:Value}{l:List T}(h:Zae w B t n f v l)(hs:∀g,v.ownBlock=some g->w'.heap[g]?=w.heap[g]?):Zae w' B t n f v l:=by
 obtain⟨h1,h2|⟨g,cap,cur,h2,h3,h4,h5⟩⟩:=h
 ·exact⟨h1,.inl h2⟩
 ·exact⟨h1,.inr ⟨g,cap,cur,h2,h3,(hs g (by rw[h2];rfl)).trans h4,h5⟩⟩
def cxA(n:Nat)(cx:Nat->Value):Array Value:=((List.range n).map cx).toArray
theorem Zg2{n i:Nat}(cx:Nat->Value)(h:i<n):(cxA n cx)[i]?=some (cx i):=by simp[cxA,h]
theorem cxA_set{n i:Nat}(cx:Nat->Value)(v:Value):(cxA n cx).setIfInBounds i v=cxA n (updF cx i v):=by
 apply Array.ext_getElem?
 intro j
 by_cases hj:j<n
 ·by_cases e:i=j
  ·subst e
   rw[Zg2 _ hj,Zac]
   simp[cxA,hj]
  ·rw[Zg2 _ hj,Zad _ _ (Ne.symm e),Array.getElem?_setIfInBounds_ne e,Zg2 _ hj]
 ·rw[Array.getElem?_eq_none (by simp[cxA];omega),Array.getElem?_eq_none (by simp[cxA];omega)]
theorem cxA_const{n:Nat}(z:Array Value)(cx:Nat->Value)(hz:z.size=n)(h:∀i,i<n->z[i]?=some (cx i)):z=cxA n cx:=by
 apply Array.ext_getElem?
 intro j
 by_cases hj:j<n
 ·rw[Zg2 _ hj,h j hj]
 ·rw[Array.getElem?_eq_none (by omega),Array.getElem?_eq_none (by simp[cxA];omega)]
theorem Zae.onlyS{T:Type}{f:T->List Value}{n:Nat}{S:Nat->Prop}{w w':World}{B:Nat}{t:TypeId}{v:Value}{l:List T}(h:Zae w B t n f v l)(ho:OnlyS S w w')(hs:∀g,v.ownBlock=some g->¬S g):Zae w' B t n f v l:=by
 obtain⟨h1,h2|⟨g,cap,cur,h2,h3,h4,h5⟩⟩:=h
 ·exact⟨h1,.inl h2⟩
 ·refine⟨h1,.inr ⟨g,cap,cur,h2,h3,(ho.block g (Array.getElem?_eq_some_iff.1 h4).1 (hs g (by rw[h2];rfl))).trans h4,h5⟩⟩
theorem Zae.kind{T:Type}{f:T->List Value}{n:Nat}{w:World}{B:Nat}{t:TypeId}{v:Value}{l:List T}(h:Zae w B t n f v l){g:Nat}(hg:v.ownBlock=some g):B<=g/\∃c,w.heap[g]?=some (.cells c t (0,0)):=by
 obtain⟨h1,⟨rfl,_⟩|⟨g',cap,cur,rfl,h3,h4,h5⟩⟩:=h
 ·simp[Value.ownBlock]at hg
 ·simp[Value.ownBlock]at hg
  subst hg
  exact⟨h3,cur,h4⟩
section
variable{h:TrH}{w:World}{gs:List Nat}{l:List TNd}{cl:Int}
theorem TrAt.kinds(t:TrAt h w gs l cl){x:Nat}(hx:TrS h gs x):(∃c ty,w.heap[x]?=some (.cells c ty (0,0))/\(ty=121∨ty=189))∨(x=h.mb/\∃es c,w.heap[x]?=some (.map es c)):=by
 rcases hx with rfl|rfl|hx
 ·exact .inl ⟨_,_,t.box,.inl rfl⟩
 ·obtain⟨D,⟨es,c,h1,_⟩,_⟩:=t.map
  exact .inr ⟨rfl,es,c,h1⟩
 ·obtain⟨i,hi,rfl⟩:=List.getElem_of_mem hx
  exact .inl ⟨_,_,t.nodes i (by have:=t.len;omega) hi,.inr rfl⟩
theorem TrAt.not_row(t:TrAt h w gs l cl){g:Nat}{c:Array Value}{ty:TypeId}(hc:w.heap[g]?=some (.cells c ty (0,0)))(h1:ty≠121)(h2:ty≠189):¬TrS h gs g:=fun hx=>by
 rcases t.kinds hx with ⟨c',ty',e,e2⟩|⟨_,es,c',e⟩
 ·rw[hc]at e
  injection e with e
  injection e with _ e
  rcases e2 with rfl|rfl
  ·exact h1 e
  ·exact h2 e
 ·rw[hc]at e;cases e
end
end Go.Proofs.YtjfmmnhcddckaaaGreat
namespace Go.Proofs.YtjfmmnhcddckaaaGreat
section
variable{P:Program}{ops:Array Oper}{Q:Exit->Act->World->Prop}{md:Region.Mode}{S:World->Prop}{k:Nat}
def Zec(P:Program)(md:Region.Mode)(ops:Array Oper)(Q:Exit->Act->World->Prop)(S:World->Prop)(k:Nat):Nat->Array Bool->Act->World->Prop
 |0,listed,a,w=>Region.ready md ops listed=[]/\Q .normal a w
 |fuel+1,listed,a,w=>
  (Region.ready md ops listed=[]->Q .normal a w) /\
  ∀i∈Region.ready md ops listed,wpOp P ops Q i (fun a' w'=>(i≠k->S w')/\Zec P md ops Q S k fuel (listed.setIfInBounds i true) a' w') a w
theorem Zhu:∀(fuel:Nat) (listed:Array Bool) (a:Act) (w:World),Zec P md ops Q S k fuel listed a w->wpAny P md ops Q fuel listed a w
 |0,_,_,_,h=>h
 |fuel+1,_,_,_,h=>⟨h.1,fun i hi=>wpOp_mono (fun a' w' h'=>Zhu fuel _ a' w' h'.2) (h.2 i hi)⟩
theorem Zjq{i:Nat}{oi:Oper}{v:Value}{bar:List Nat}(hi:ops[i]?=some oi)(hsel:∀(j:Nat) (o:Oper) cs b,ops[j]?=some o->o.op≠.select cs b)
  (hQ:∀c a w,Q (.panic c) (a.put oi.dst v) w->Q (.panic c) a w) (hk:k∈bar) (hbar:∀b∈bar,∀ob,ops[b]?=some ob->∃e∈ob.after,Region.binds md e=true/\(e.on=i∨e.on∈bar)):
  ∀(fuel:Nat) (listed:Array Bool) (a:Act) (w:World),
   (∀j oj,ops[j]?=some oj->j≠i->listed.getD j true=false->(∀e∈oj.after,Region.binds md e=true->e.on≠i)->oi.apart ops oj=true) ->
   (∀b∈bar,listed.getD b true=false)->i∈Region.ready md ops listed->YieldsIf P ops S oi v a->S w ->
   Zec P md ops Q S k fuel (listed.setIfInBounds i true) (a.put oi.dst v) w->Zec P md ops Q S k (fuel+1) listed a w:=by
 intro fuel
 induction fuel with
 |zero=>
  intro listed a w _ _ hr hy hS H
  refine⟨fun h=>(by rw[h]at hr;cases hr),fun j hj=>?_⟩
  by_cases hji:j=i
  ·subst hji;exact hy.wpOp hi hS ⟨fun _=>hS,H⟩
  ·have:=ready_mono hj hji
   rw[H.1]at this
   cases this
 |succ fuel ih=>
  intro listed a w hfree hun hr hy hS H
  refine⟨fun h=>(by rw[h]at hr;cases hr),fun j hj=>?_⟩
  by_cases hji:j=i
  ·subst hji;exact hy.wpOp hi hS ⟨fun _=>hS,H⟩
  ·have h1:=H.2 j (ready_mono hj hji)
   obtain⟨hjun,oj,hoj,hall⟩:=mem_ready.1 hj
   have hno:∀m,listed.getD m true=false->∀e∈oj.after,Region.binds md e=true->e.on≠m:=fun m h0 e he hb heq=>by
    have h1:=hall e he hb
    rw[heq]at h1
    rcases Nat.lt_or_ge m listed.size with h'|h'
    ·simp[h']at h0 h1;rw[h0]at h1;cases h1
    ·simp[Array.getElem?_eq_none h']at h1
   have hnot:=hno i (mem_ready.1 hr).1
   have hjb:j∉bar:=fun hjb=>by
    obtain⟨e,he,hb,heq|heq⟩:=hbar j hjb oj hoj
    ·exact hnot e he hb heq
    ·exact hno e.on (hun _ heq) e he hb rfl
   have hjk:j≠k:=fun e=>hjb (e▸hk)
   have h2:=wpOp_putIf hoj (hfree j oj hoj hji hjun hnot) (fun cs b=>hsel i oi cs b hi) (fun cs b=>hsel j oj cs b hoj) hQ hy h1
   have hfree':∀m om,ops[m]?=some om->m≠i->(listed.setIfInBounds j true).getD m true=false ->
     (∀e∈om.after,Region.binds md e=true->e.on≠i)->oi.apart ops om=true:=fun m om hm hmi hun hno=>by
    refine hfree m om hm hmi ?_ hno
    by_cases hjm:j=m
    ·subst hjm;exact hjun
    ·rw[getD_set_ne true hjm]at hun;exact hun
   have hun':∀b∈bar,(listed.setIfInBounds j true).getD b true=false:=fun b hb=>by
    have hjb2:j≠b:=fun e=>hjb (by rw[e];exact hb)
    rw[getD_set_ne true hjb2]
    exact hun b hb
   refine wpOp_mono (fun a' w' h3=>⟨h3.2.1,ih (listed.setIfInBounds j true) a' w' hfree' hun' (ready_mono hr (Ne.symm hji)) h3.1 (h3.2.1 hjk) ?_⟩) h2
   rw[Array.setIfInBounds_comm _ _ hji]
   exact h3.2.2
def waitsK(md:Region.Mode)(ops:Array Oper)(listed:Array Bool)(bar:List Nat)(i:Nat):Bool:=bar.all fun b=>!listed.getD b true&&match ops[b]? with
 |none=>true
 |some ob=>ob.after.any fun e=>Region.binds md e&&(decide (e.on=i)||bar.contains e.on)
theorem Zgh{listed:Array Bool}{bar:List Nat}{i:Nat}(h:waitsK md ops listed bar i=true):(∀b∈bar,listed.getD b true=false)/\∀b∈bar,∀ob,ops[b]?=some ob->∃e∈ob.after,Region.binds md e=true/\(e.on=i∨e.on∈bar):=by
 unfold waitsK at h
 rw[List.all_eq_true]at h
 refine⟨fun b hb=>?_,fun b hb ob hob=>?_⟩
 ·have h1:=h b hb
  rw[Bool.and_eq_true,Bool.not_eq_true']at h1
  exact h1.1
 ·have h1:=h b hb
  rw[Bool.and_eq_true,hob]at h1
  have h2:=h1.2
  dsimp only at h2
  rw[Array.any_eq_true']at h2
  obtain⟨e,he,h2⟩:=h2
  rw[Bool.and_eq_true,Bool.or_eq_true,decide_eq_true_eq]at h2
  exact⟨e,he,h2.1,h2.2.imp id fun h=>by simpa using h⟩
theorem Zaj{i:Nat}{oi:Oper}{v:Value}{fuel:Nat}{listed:Array Bool}{a:Act}{w:World}(bar:List Nat)(hi:ops[i]?=some oi)
  (hs:Region.noSelect ops=true) (hf:Region.free md ops listed i=true) (hr:(Region.ready md ops listed).contains i=true) (hk:bar.contains k=true) (hw:waitsK md ops listed bar i=true)
  (hQ:∀c a w,Q (.panic c) (a.put oi.dst v) w->Q (.panic c) a w) (hy:YieldsIf P ops S oi v a) (hS:S w)
  (h:Zec P md ops Q S k fuel (listed.setIfInBounds i true) (a.put oi.dst v) w):Zec P md ops Q S k (fuel+1) listed a w:=
 Zjq hi (Region.noSelect_spec hs) hQ (by simpa using hk) (Zgh hw).2 fuel listed a w (Region.free_spec hi hf) (Zgh hw).1 (by simpa using hr) hy hS h
theorem ZaX{i:Nat}{o:Oper}{fuel:Nat}{listed:Array Bool}{a:Act}{w:World}(hr:Region.ready md ops listed=[i])(ho:ops[i]?=some o)
  (h:∀K':Act->World->Prop,Shut (∀a w,(i≠k->S w)->Zec P md ops Q S k fuel (listed.setIfInBounds i true) a w->K' a w)->if Region.wanted o (yielded ops a.tmps)=true then Oper.wp P o a w K' Q else K' (a.put o.dst undef) w):Zec P md ops Q S k (fuel+1) listed a w:=by
 refine⟨fun h0=>(by rw[hr]at h0;cases h0),fun j hj=>?_⟩
 rw[hr]at hj
 obtain rfl:=List.mem_singleton.1 hj
 exact wpOp_step ho fun K' hK=>h K' fun a w h1 h2=>hK a w ⟨h1,h2⟩
theorem Zei{listed:Array Bool}{a:Act}{w:World}(hr:Region.ready md ops listed=[])(h:Q .normal a w):∀fuel,Zec P md ops Q S k fuel listed a w
 |0=>⟨hr,h⟩
 |_+1=>⟨fun _=>h,by rw[hr];simp⟩
theorem Zeh{id:Nat}{a:Act}{w:World}(hm:P.follows .mixedOrders=true)
  (h:Zec P .any ops Q S k ops.size (Array.replicate ops.size false) a w.drew):(Code.region id ops true).wp P Q a w:=
 wp_region_any hm (Zhu _ _ _ _ h)
end
end Go.Proofs.YtjfmmnhcddckaaaGreat
namespace Go.Proofs.YtjfmmnhcddckaaaGreat
open Go.RowKit
section
variable{h:TrH}{w:World}{gs:List Nat}{l:List TNd}{cl:Int}
theorem Zjs(l:List TNd)(k:Pfx)(c:UInt8):wasT l (k++[c])=match idxT l k with
 |some i=>hasB (l.getD i nd0).gone (c.toNat:Int)
 |none=>false:=by
 unfold wasT
 rw[List.dropLast_concat]
 cases idxT l k with
 |none=>rfl
 |some i=>simp[nd0]
theorem was_any(t:TrAt h w gs l cl)(k:Pfx)(c:UInt8)(hk:k.length<=900):Calls Tryz.prog 101 #[.pointer (some ⟨h.b,0,none⟩),.string ⟨(k++[c]).toArray⟩] w fun r w'=>r=.returned (.bool (wasT l (k++[c])))/\Below w.heap.size w w':=by
 have hsz:(⟨(k++[c]).toArray⟩:ByteArray).size=k.length+1:=by simp[ByteArray.size]
 have hx1:(⟨(k++[c]).toArray⟩:ByteArray).extract 0 k.length=⟨k.toArray⟩:=by rw[Zja];simp
 have hix:∀h':k.length<(⟨(k++[c]).toArray⟩:ByteArray).size,(⟨(k++[c]).toArray⟩:ByteArray)[k.length]=c:=fun h'=>by
  have e:(⟨(k++[c]).toArray⟩:ByteArray)[k.length]=(k++[c])[k.length]'(by simp):=rfl
  rw[e];simp
 have bc:=UInt8.toNat_lt c
 have vc:IntKind.i64.wrap (c.toNat:Int)=c.toNat:=IntWalk.i64_in _ (by omega)
 cases hi:idxT l k with
 |none=>
  have HE:Hid (wasT l (k++[c])=false):=by show _=_;rw[Zjs,hi]
  have HF:=Lib.hid (Zfo t (by omega) hi)
  have hd:((6:Int)==0)=false:=rfl
  clear t hi
  generalize k++[c]=q at *
  go_enter Tryz.func101,Tryz.ntmps101
  go_wp2_with fail
  refine HF.out.mono ?_
  rintro r w'⟨rfl,rfl⟩
  go_wp2
  go_quiet (fail)
  go_wp2
  go_ret
  exact⟨by rw[HE.out];rfl,(Below.refl _ _).drewN⟩
 |some i=>
  obtain⟨hil,_⟩:=Za0 hi
  have HE:Hid (wasT l (k++[c])=hasB l[i].gone (c.toNat:Int)):=by show _=_;rw[Zjs,hi];simp[List.getD,hil]
  have hok:=(t.ok.ok l[i] (List.getElem_mem hil)).gone
  obtain⟨hg,_,_,_,_,c4⟩:=t.node hil
  have HF:=Lib.hid (Zd9 t (by omega) hi hg)
  clear t hi
  generalize l[i].gone=G at *
  generalize gs[i]=g at *
  generalize k++[c]=q at *
  go_enter Tryz.func101,Tryz.ntmps101
  go_wp2_with fail
  refine HF.out.mono ?_
  rintro r w'⟨rfl,rfl⟩
  go_wp2
  go_quiet ((go_at_call 70;exact Calls.quiet_of_same ((ZlU hok (c.toNat:Int) _).mono fun _ _ ⟨h1,h2⟩=>⟨h1,h2.symm⟩)))
  go_wp2
  go_ret
  exact⟨by rw[HE.out];rfl,(Below.refl _ _).drewN⟩
theorem mark_any(t:TrAt h w gs l cl){k:Pfx}(hk:k.length<=1000){set:Nat}(hs:set<256):Calls Tryz.prog 71 #[.pointer (some ⟨h.b,0,none⟩),.string ⟨k.toArray⟩,.int .u8 (set:Nat)] w fun r w'=>r=.returned (.int .i64 (markT l k set).1)/\TrAt h w' gs (markT l k set).2 cl/\OnlyS (TrS h gs) w w':=by
 cases hi:idxT l k with
 |none=>
  have HE:Hid (markT l k set=(6,l)):=by show _=_;unfold markT;rw[hi]
  have HF:=Lib.hid (Zfo t hk hi)
  have HT:=Lib.hid t
  clear t hi
  go_enter Tryz.func71,Tryz.ntmps71
  go_wp2_with fail
  refine HF.out.mono ?_
  rintro r w'⟨rfl,rfl⟩
  go_wp2
  go_ret
  rw[HE.out]
  exact⟨rfl,HT.out,OnlyS.refl _ _⟩
 |some i=>
  obtain⟨hil,_⟩:=Za0 hi
  have HE:Hid (markT l k set=(0,l.set i { l[i]with todo:=l[i].todo|||(set&&&l[i].may) })):=by show _=_;unfold markT;rw[hi];simp[List.getD,hil]
  have hok:=t.ok.ok l[i] (List.getElem_mem hil)
  have htd:=t.ok.todo l[i] (List.getElem_mem hil)
  obtain⟨hg,_,c1,_,c3,_⟩:=t.node hil
  have hcell:=t.nodes i hil hg
  have f3:w.frozen? ⟨gs[i],3,none⟩=false:=by simp[World.frozen?,hcell]
  have HF:=Lib.hid (Zd9 t hk hi hg)
  have hand:set&&&l[i].may<256:=Nat.lt_of_le_of_lt Nat.and_le_left hs
  have HO:Hid (OnlyS (fun x=>x=gs[i]) w (w.setCell ⟨gs[i],3,none⟩ (.int .u8 ((l[i].todo|||(set&&&l[i].may):Nat):Int)))):=OnlyS.setCell (S:=fun x=>x=gs[i]) (OnlyS.refl _ w) (p:=⟨gs[i],3,none⟩) rfl _
  have HT:Hid (TrAt h (w.setCell ⟨gs[i],3,none⟩ (.int .u8 ((l[i].todo|||(set&&&l[i].may):Nat):Int))) gs (l.set i { l[i]with todo:=l[i].todo|||(set&&&l[i].may) }) cl):=t.put hil hg rfl rfl ⟨hok.may,hok.asl,ZfG hok.todo hand,hok.gone⟩ (fun j hj=>by
   rw[Nat.testBit_or,Bool.or_eq_true,Nat.testBit_and,Bool.and_eq_true]at hj
   rcases hj with hj|hj
   ·exact htd j hj
   ·exact hj.2) HO.out (by rw[heap_setCell_same w gs[i] 3 _ _ _ hcell];rfl)
  have HM:Hid (∀x,x=gs[i]->TrS h gs x):=fun x hx=>.inr (.inr (hx▸List.getElem_mem hg))
  have HU:Hid (∀W,Calls Tryz.prog 116 #[.int .u8 (l[i].todo:Nat),.int .u8 (bits .and .u8 (set:Int) (l[i].may:Int))] W fun r w'=>r=.returned (.int .u8 ((l[i].todo|||(set&&&l[i].may):Nat):Int))/\W=w'):=fun W=>by
   rw[Zhd _ _ hs hok.may]
   exact Zjv hok.todo hand W
  clear t hi hok htd hcell hand
  generalize l[i].todo|||(set&&&l[i].may)=U at *
  generalize l[i].todo=T at *
  generalize l[i].may=M at *
  generalize gs[i]=g at *
  go_enter Tryz.func71,Tryz.ntmps71
  go_wp2_with fail
  refine HF.out.mono ?_
  rintro r w'⟨rfl,rfl⟩
  go_wp2
  have hHeld:w.drew.cell? ⟨g,1,none⟩=some (.int .u8 (M:Nat))/\w.drew.cell? ⟨g,3,none⟩=some (.int .u8 (T:Nat)):=⟨c1,c3⟩
  have f3':w.drew.frozen? ⟨g,3,none⟩=false:=f3
  have c3':w.drew.cell? ⟨g,3,none⟩=some (.int .u8 (T:Nat)):=c3
  refine Zeh (S:=fun W=>W.cell? ⟨g,1,none⟩=some (.int .u8 (M:Nat))/\W.cell? ⟨g,3,none⟩=some (.int .u8 (T:Nat))) (k:=14) (by kernel_rfl) ?_
  refine Zaj (i:=0) (v:=?_) [14] rfl (by kernel_rfl) (by kernel_rfl) (by kernel_rfl) (by kernel_rfl) (by kernel_rfl) (fun _ _ _ h=>h) (Or.inl ⟨by kernel_rfl,?_⟩) hHeld ?_
  rotate_left
  ·intro w hSw
   try dsimp only at hSw
   go_simp
   with_reducible rfl
  try simp only[Act.put,List.setIfInBounds_toArray]
  refine Zaj (i:=1) (v:=?_) [14] rfl (by kernel_rfl) (by kernel_rfl) (by kernel_rfl) (by kernel_rfl) (by kernel_rfl) (fun _ _ _ h=>h) (Or.inl ⟨by kernel_rfl,?_⟩) hHeld ?_
  rotate_left
  ·intro w hSw
   try dsimp only at hSw
   go_simp
   with_reducible rfl
  try simp only[Act.put]
  refine Zaj (i:=2) (v:=?_) [14] rfl (by kernel_rfl) (by kernel_rfl) (by kernel_rfl) (by kernel_rfl) (by kernel_rfl) (fun _ _ _ h=>h) (Or.inl ⟨by kernel_rfl,?_⟩) hHeld ?_
  rotate_left
  ·intro w hSw
   try dsimp only at hSw
   go_simp
   with_reducible rfl
  try simp only[Act.put]
  refine Zaj (i:=3) (v:=?_) [14] rfl (by kernel_rfl) (by kernel_rfl) (by kernel_rfl) (by kernel_rfl) (by kernel_rfl) (fun _ _ _ h=>h) (Or.inl ⟨by kernel_rfl,?_⟩) hHeld ?_
  rotate_left
  ·intro w hSw
   try dsimp only at hSw
   go_simp
   with_reducible rfl
  try simp only[Act.put]
  refine Zaj (i:=4) (v:=?_) [14] rfl (by kernel_rfl) (by kernel_rfl) (by kernel_rfl) (by kernel_rfl) (by kernel_rfl) (fun _ _ _ h=>h) (Or.inl ⟨by kernel_rfl,?_⟩) hHeld ?_
  rotate_left
  ·intro w hSw
   try dsimp only at hSw
   go_simp
   with_reducible rfl
  try simp only[Act.put]
  refine Zaj (i:=5) (v:=?_) [14] rfl (by kernel_rfl) (by kernel_rfl) (by kernel_rfl) (by kernel_rfl) (by kernel_rfl) (fun _ _ _ h=>h) (Or.inl ⟨by kernel_rfl,?_⟩) hHeld ?_
  rotate_left
  ·intro w hSw
   try dsimp only at hSw
   go_simp
   with_reducible rfl
  try simp only[Act.put]
  refine Zaj (i:=6) (v:=?_) [14] rfl (by kernel_rfl) (by kernel_rfl) (by kernel_rfl) (by kernel_rfl) (by kernel_rfl) (fun _ _ _ h=>h) (Or.inl ⟨by kernel_rfl,?_⟩) hHeld ?_
  rotate_left
  ·intro w hSw
   try dsimp only at hSw
   go_simp
   with_reducible rfl
  try simp only[Act.put]
  refine Zaj (i:=7) (v:=?_) [14] rfl (by kernel_rfl) (by kernel_rfl) (by kernel_rfl) (by kernel_rfl) (by kernel_rfl) (fun _ _ _ h=>h) (Or.inl ⟨by kernel_rfl,?_⟩) hHeld ?_
  rotate_left
  ·intro w hSw
   try dsimp only at hSw
   go_simp
   with_reducible rfl
  try simp only[Act.put]
  refine Zaj (i:=8) (v:=?_) [14] rfl (by kernel_rfl) (by kernel_rfl) (by kernel_rfl) (by kernel_rfl) (by kernel_rfl) (fun _ _ _ h=>h) (Or.inl ⟨by kernel_rfl,?_⟩) hHeld ?_
  rotate_left
  ·intro w hSw
   try dsimp only at hSw
   go_simp
   with_reducible rfl
  try simp only[Act.put]
  refine Zaj (i:=9) (v:=?_) [14] rfl (by kernel_rfl) (by kernel_rfl) (by kernel_rfl) (by kernel_rfl) (by kernel_rfl) (fun _ _ _ h=>h) (Or.inl ⟨by kernel_rfl,?_⟩) hHeld ?_
  rotate_left
  ·intro w hSw
   try dsimp only at hSw
   go_simp
   with_reducible rfl
  try simp only[Act.put]
  refine Zaj (i:=10) (v:=?_) [14] rfl (by kernel_rfl) (by kernel_rfl) (by kernel_rfl) (by kernel_rfl) (by kernel_rfl) (fun _ _ _ h=>h) (Or.inl ⟨by kernel_rfl,?_⟩) hHeld ?_
  rotate_left
  ·intro w hSw
   try dsimp only at hSw
   go_simp
   with_reducible rfl
  try simp only[Act.put]
  refine ZaX (i:=11) (by kernel_rfl) rfl (fun K hK=>?_)
  go_simp
  refine(HU.out w.drew).mono ?_
  rintro r w'⟨rfl,rfl⟩
  refine hK.out _ _ (fun _=>hHeld) ?_
  clear hK K
  try simp only[Act.put,List.setIfInBounds_toArray,List.set_cons_zero,List.set_cons_succ]
  refine ZaX (i:=12) (by kernel_rfl) rfl (fun K hK=>?_)
  go_simp
  refine hK.out _ _ (fun _=>hHeld) ?_
  clear hK K
  try simp only[Act.put,List.setIfInBounds_toArray,List.set_cons_zero,List.set_cons_succ]
  refine ZaX (i:=13) (by kernel_rfl) rfl (fun K hK=>?_)
  go_simp
  refine hK.out _ _ (fun _=>hHeld) ?_
  clear hK K
  try simp only[Act.put,List.setIfInBounds_toArray,List.set_cons_zero,List.set_cons_succ]
  refine ZaX (i:=14) (by kernel_rfl) rfl (fun K hK=>?_)
  go_simp
  refine hK.out _ _ (fun h=>absurd rfl h) ?_
  clear hK K
  try simp only[Act.put,List.setIfInBounds_toArray,List.set_cons_zero,List.set_cons_succ]
  refine Zei (by kernel_rfl) ?_ _
  clear hHeld f3' c3'
  go_wp2
  go_ret
  rw[HE.out]
  exact⟨rfl,HT.out.drew,(HO.out.mono fun x _ hx=>HM.out x hx).drew⟩
end
theorem Zl3{F:Nat}{s:St}{b:Nat}{w:World}(h:StAt w b s)(ok:s.Ok F)(t:Int):
  Calls Tryz.prog 113 #[.pointer (some ⟨b,0,none⟩),.int .i64 t] w fun r w'=>r=.returned (.bool (s.may t))/\Below w.heap.size w w':=by
 have H:=Lib.hid h
 have OK:=Lib.hid ok
 clear h ok
 cases hn:s.next t with
 |none=>
  have hm:s.may t=false:=by rw[St.may_eq OK.out,hn]
  rw[hm]
  have HN:=Lib.hid hn
  clear hn hm
  go_enter Tryz.func113,Tryz.ntmps113
  go_wp2_with fail
  refine(Zf4 H.out OK.out t).mono ?_
  rw[HN.out,Zdl]
  rintro r w1⟨rfl,hb1⟩
  have hz:=hb1.size
  go_wp2
  go_ret
  exact⟨rfl,hb1.alloc hz _⟩
 |some e=>
  have HN:=Lib.hid hn
  clear hn
  go_enter Tryz.func113,Tryz.ntmps113
  go_wp2_with fail
  refine(Zf4 H.out OK.out t).mono ?_
  rw[HN.out,Zcg]
  rintro r w1⟨rfl,hb1⟩
  have hz:=hb1.size
  have H2:=Lib.hid ((H.out.later hb1).later (Zaa w1 (.cells #[.int .i64 e.thread,.int .i64 e.kind,.int .i64 e.obj,.bool e.fail] 112)))
  have hb2:=hb1.alloc hz (.cells #[.int .i64 e.thread,.int .i64 e.kind,.int .i64 e.obj,.bool e.fail] 112)
  clear hb1
  go_wp2_with fail
  refine(may_of H2.out OK.out HN.out).mono ?_
  rintro r w2⟨rfl,hb3⟩
  have hb4:=hb2.trans (hb3.mono (by simp;omega))
  clear hb2 hb3
  go_wp2
  go_ret
  exact⟨rfl,hb4⟩
def St.allTo(s:St)(k:Nat):List Int:=((List.range k).map Int.ofNat).filter s.may
theorem St.allTo_succ(s:St)(k:Nat):s.allTo (k+1)=s.allTo k++if s.may k=true then [(k:Int)]else []:=by
 unfold St.allTo
 rw[List.range_succ,List.map_append,List.filter_append]
 congr 1
 have e:Int.ofNat k=(k:Int):=rfl
 by_cases h:s.may k=true
 ·simp[h]
 ·simp[h]
theorem St.allTo_le(s:St)(k:Nat):(s.allTo k).length<=k:=by
 unfold St.allTo
 exact Nat.le_trans (List.length_filter_le _ _) (by simp)
theorem Zfs{F:Nat}{s:St}{b:Nat}{w:World}(h:StAt w b s)(ok:s.Ok F):
  Calls Tryz.prog 69 #[.pointer (some ⟨b,0,none⟩)] w fun r w'=>∃v,r=.returned v/\OwnN w' w.heap.size v s.all/\Below w.heap.size w w':=by
 have h4:=ok.len4
 have H:=Lib.hid h
 have OK:=Lib.hid ok
 clear h ok
 go_enter Tryz.func69,Tryz.ntmps69
 go_wp2_with (go_at_call 107;refine(ZbV H.out).mono ?_;rintro r w' ⟨rfl,rfl⟩)
 go_loopw [3,7] (fun l i wr=>∃k:Nat,k<=s.ts.length/\i=.int .i64 k/\OwnN wr w.heap.size l (s.allTo k)/\Below w.heap.size w wr) (fun _ i _=>s.ts.length-(intOf i).toNat)
 case atStart=>exact⟨0,Nat.zero_le _,rfl,ZeG _ _,Below.refl _ _⟩
 case round=>
  obtain⟨k,hk,rfl,hown,hb⟩:=hrel
  by_cases hlt:k<s.ts.length
  ·have hle:=s.allTo_le k
   have HS:=Lib.hid (s.allTo_succ k)
   go_wp2_with fail
   refine(Zl3 (H.out.later hb) OK.out k).mono ?_
   rintro r w1⟨rfl,hb1⟩
   have hb2:=hb.trans (hb1.mono hb.size)
   have hown1:=hown.later hb1
   have hz:=hb2.size
   clear hown hb hb1
   cases hm:s.may k
   ·have HR:Hid (s.allTo (k+1)=s.allTo k):=by
     show _=_
     rw[HS.out,hm];simp
    clear hm
    go_wp2
    go_roundw
    case rel=>exact⟨k+1,by omega,by go_num,by rw[HR.out];exact hown1,hb2⟩
    case measure=>simp[intOf];omega
   ·have HR:Hid (s.allTo (k+1)=s.allTo k++[(k:Int)]):=by
     show _=_
     rw[HS.out,hm];simp
    clear hm
    go_wp2_with (at_builtin;refine ZdV rfl (.tmp 13) (.tmp 15) rfl w.heap.size _ (s.allTo k) rfl (hown1.alloc _) ⟨w1.heap.size,0,none⟩ 1 1 rfl [(k:Int)] rfl (Zf2 w1 [(k:Int)] _ _ rfl) (by simp;omega) (by simp;omega) ?_;intro v1 w2 hown2 hb3 _)
    have hb4:=(hb2.alloc hz _).trans hb3
    go_roundw
    case rel=>exact⟨k+1,by omega,by go_num,by rw[HR.out];exact hown2,hb4⟩
    case measure=>simp[intOf];omega
  ·obtain rfl:k=s.ts.length:=by omega
   go_wp2
   go_ret
   exact⟨_,rfl,hown,hb⟩
end Go.Proofs.YtjfmmnhcddckaaaGreat
