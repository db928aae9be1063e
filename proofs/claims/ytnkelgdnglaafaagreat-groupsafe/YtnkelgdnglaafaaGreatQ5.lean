import Derived.Test.YtnkelgdnglaafaaGreatQ3
import Derived.Maps.Keyed
set_option maxHeartbeats 8000000
set_option maxRecDepth 100000
namespace Go.Proofs.YtnkelgdnglaafaaGreat
namespace RM
open SM
def sr:Nat→(Nat→Int)→Int
 |0,_=>0
 |n+1,f=>sr n f+f n
theorem sr_le{n:Nat}{f g:Nat→Int}(h:∀i,i<n→f i≤g i):sr n f≤sr n g:=by
 induction n with
 |zero=>exact Int.le_refl _
 |succ n ih=>have:=ih fun i hi=>h i (by omega);have:=h n (by omega);simp only[sr];omega
theorem sr_congr{n:Nat}{f g:Nat→Int}(h:∀i,i<n→f i=g i):sr n f=sr n g:=by
 induction n with
 |zero=>rfl
 |succ n ih=>rw[sr,sr,ih fun i hi=>h i (by omega),h n (by omega)]
theorem sr_add(n:Nat)(f g:Nat→Int):sr n (fun i=>f i+g i)=sr n f+sr n g:=by
 induction n with
 |zero=>rfl
 |succ n ih=>simp only[sr,ih];omega
theorem sr_zero(n:Nat):sr n (fun _=>0)=0:=by
 induction n with
 |zero=>rfl
 |succ n ih=>rw[sr,ih];rfl
theorem sr_one{n i:Nat}(hi:i<n)(a:Int):sr n (fun w=>if w=i then a else 0)=a:=by
 induction n with
 |zero=>omega
 |succ n ih=>
  rw[sr];by_cases e:n=i
  ·subst e;rw[if_pos rfl,sr_congr (g:=fun _=>0) (fun w hw=>if_neg (by omega)),sr_zero];omega
  ·rw[if_neg e,ih (by omega)];omega
theorem sum_sr{n:Nat}(T:Nat→Int):∀{L:List Int},L.Nodup→(∀x∈L,0≤x∧x<n)→(L.map fun x=>T x.toNat).sum=sr n (fun w=>if(w:Int)∈L then T w else 0)
 |[],_,_=>by simp[sr_zero]
 |x::L,hn,hr=>by
  obtain⟨h1,h2⟩:=List.nodup_cons.1 hn;have hx:=hr x (by simp);rw[List.map_cons,List.sum_cons,sum_sr T h2 fun y hy=>hr y (by simp[hy])]
  have e:sr n (fun w=>if(w:Int)∈x::L then T w else 0)=sr n (fun w=>(if w=x.toNat then T x.toNat else 0)+(if(w:Int)∈L then T w else 0)):=sr_congr fun w _=>by
   by_cases hw:w=x.toNat
   ·subst hw;have e1:((x.toNat:Nat):Int)=x:=by omega
    rw[if_pos rfl,e1,if_pos (by simp),if_neg h1];omega
   ·rw[if_neg hw,Int.zero_add];by_cases hm:(w:Int)∈L
    ·rw[if_pos hm,if_pos (by simp[hm])]
    ·rw[if_neg hm,if_neg (by simp[hm];omega)]
  rw[e,sr_add,sr_one (by omega)]
def lo:List Int→Option Int
 |[]=>none
 |a::l=>some (l.foldl min a)
theorem fold_min:∀{l:List Int} {a:Int},(l.foldl min a=a∨l.foldl min a∈l)∧l.foldl min a≤a∧∀t∈l,l.foldl min a≤t
 |[],a=>⟨.inl rfl,Int.le_refl _,fun t h=>by simp at h⟩
 |b::l,a=>by
  have⟨h1,h2,h3⟩:=fold_min (l:=l) (a:=min a b);show(l.foldl min (min a b)=a∨l.foldl min (min a b)∈b::l)∧l.foldl min (min a b)≤a∧∀t∈b::l,l.foldl min (min a b)≤t;refine⟨?_,by omega,fun t ht=> ?_⟩
  ·rcases h1 with h1|h1
   ·rw[h1];by_cases e:a≤b
    ·exact .inl (by omega)
    ·exact .inr (by rw[show min a b=b by omega];simp)
   ·exact .inr (by simp[h1])
  ·rcases List.mem_cons.1 ht with ht|ht
   ·rw[ht];omega
   ·exact h3 t ht
theorem lo_none{l:List Int}:lo l=none↔l=[]:=by cases l<;>simp[lo]
theorem lo_some{l:List Int}{m:Int}:lo l=some m↔m∈l∧∀t∈l,m≤t:=by
 cases l with
 |nil=>simp[lo]
 |cons a l=>
  have⟨h1,h2,h3⟩:=fold_min (l:=l) (a:=a);constructor
  ·intro h;simp only[lo,Option.some.injEq]at h;subst h;refine⟨?_,fun t ht=> ?_⟩
   ·rcases h1 with h1|h1
    ·rw[h1];simp
    ·exact List.mem_cons_of_mem _ h1
   ·rcases List.mem_cons.1 ht with ht|ht
    ·rw[ht];exact h2
    ·exact h3 t ht
  ·rintro⟨k1,k2⟩;simp only[lo,Option.some.injEq]
   have k3:l.foldl min a≤m:=by
    rcases List.mem_cons.1 k1 with e|e
    ·rw[e];exact h2
    ·exact h3 m e
   have k4:m≤l.foldl min a:=by
    rcases h1 with e|e
    ·rw[e];exact k2 a (by simp)
    ·exact k2 _ (List.mem_cons_of_mem _ e)
   omega
def low(l:List Int):Int:=(lo l).getD 0
theorem low_mem{l:List Int}(h:l≠[]):low l∈l∧∀t∈l,low l≤t:=by
 cases e:lo l with
 |none=>exact absurd (lo_none.1 e) h
 |some m=>
  have:=lo_some.1 e;unfold low;rw[e];exact this
def ops(s:St)(ws:List (Int×Int))(f:Int)(m:Nat):Nat→List (Int×Int)→List (List Int)→List Int
 |c,r::cs,l::b=>if PM.bt m c=true then ar s (go s (bg r) (l.map (wf ws))) f::ops s ws f m (c+1) cs b else ops s ws f m (c+1) cs b
 |_,_,_=>[]
section
variable {s:St} {ws:List (Int×Int)} {f:Int} {m:Nat}
theorem ops_mem{t:Int}:∀{cs:List (Int×Int)} {b:List (List Int)} {c:Nat},t∈ops s ws f m c cs b↔∃(i:Nat) (r:Int×Int) (l:List Int),cs[i]?=some r∧b[i]?=some l∧PM.bt m (c+i)=true∧t=ar s (go s (bg r) (l.map (wf ws))) f
 |[],_,_=>by simp[ops]
 |_::_,[],_=>by simp[ops]
 |r0::cs,l0::b,c=>by
  have ih:=ops_mem (t:=t) (cs:=cs) (b:=b) (c:=c+1)
  have key:(∃(i:Nat) (r:Int×Int) (l:List Int),(r0::cs)[i]?=some r∧(l0::b)[i]?=some l∧PM.bt m (c+i)=true∧t=ar s (go s (bg r) (l.map (wf ws))) f)↔
    (PM.bt m c=true∧t=ar s (go s (bg r0) (l0.map (wf ws))) f)∨t∈ops s ws f m (c+1) cs b:=by
   rw[ih];constructor
   ·rintro⟨i,r,l,h1,h2,h3,h4⟩;cases i with
    |zero=>
     simp at h1 h2;subst h1 h2;exact .inl ⟨h3,h4⟩
    |succ i=>exact .inr ⟨i,r,l,by simpa using h1,by simpa using h2,by rw[show c+1+i=c+(i+1) by omega];exact h3,h4⟩
   ·rintro (⟨h1,h2⟩|⟨i,r,l,h1,h2,h3,h4⟩)
    ·exact⟨0,r0,l0,rfl,rfl,h1,h2⟩
    ·exact⟨i+1,r,l,by simpa using h1,by simpa using h2,by rw[show c+(i+1)=c+1+i by omega];exact h3,h4⟩
  rw[key];show t∈(if PM.bt m c=true then _ else _)↔_;by_cases hb:PM.bt m c=true
  ·rw[if_pos hb,List.mem_cons];simp[hb]
  ·rw[if_neg hb];simp[hb]
end
structure Beg(k:Nat)(b p:List (List Int)):Prop where
 len:b.length=p.length
 lt:k<p.length
 pre:∀(c:Nat) l m,b[c]?=some l→p[c]?=some m→∃l2,m=l++l2∧(c<k→l2=[])∧(k<c→l=[])
theorem flat_sub:∀{b p:List (List Int)},b.length=p.length→(∀(c:Nat) l m,b[c]?=some l→p[c]?=some m→l.Sublist m)→b.flatten.Sublist p.flatten
 |[],[],_,_=>List.Sublist.refl _
 |[],_::_,h,_=>by simp at h
 |_::_,[],h,_=>by simp at h
 |l::b,m::p,h,hs=>by
  rw[List.flatten_cons,List.flatten_cons];exact(hs 0 l m rfl rfl).append (flat_sub (by simpa using h) fun c x y hx hy=>hs (c+1) x y (by simpa using hx) (by simpa using hy))
section
variable {s:St} {ws cs:List (Int×Int)} {ms:List Nat} {b b' p:List (List Int)} {k k':Nat}
theorem Beg.sub(h:Beg k b p):b.flatten.Sublist p.flatten:=flat_sub h.len fun c l m hl hm=>by
 obtain⟨l2,e,_⟩:=h.pre c l m hl hm;rw[e];exact List.sublist_append_left _ _
theorem Beg.prs(h:Beg k b p){x t:Int}(hx:(x,t)∈prs s ws cs b):(x,t)∈RM.prs s ws cs p:=by
 obtain⟨c,i,r,l,h1,h2,h3,h4⟩:=prs_where hx;have hc:c<p.length:=by have:=(List.getElem?_eq_some_iff.1 h2).1;have:=h.len;omega
 obtain⟨l2,e,_⟩:=h.pre c l _ h2 (List.getElem?_eq_getElem hc);have hi:=(List.getElem?_eq_some_iff.1 h3).1;have:=prs_at (s:=s) (ws:=ws) (cs:=cs) (p:=p) (i:=i) (w:=x) h1 (List.getElem?_eq_getElem hc) (by rw[e,List.getElem?_append_left hi];exact h3);rwa[e,List.take_append_of_le_length (by omega),←h4]at this
def opt(s:St)(ws cs:List (Int×Int))(ms:List Nat)(k:Nat)(b:List (List Int))(w:Nat):List Int:=ops s ws (wf ws (w:Int)) (ms[w]?.getD 0) k (cs.drop k) (b.drop k)
def lst(s:St)(ws cs:List (Int×Int))(ms:List Nat)(k:Nat)(b:List (List Int)):Int:=cst s ws cs b+sr ws.length (fun w=>if(w:Int)∈b.flatten then 0 else low (opt s ws cs ms k b w))
theorem Beg.whole(hk:k<p.length)(hlast:k+1=p.length):Beg k p p:=⟨rfl,hk,fun c l m hl hm=>by
 rw[hl]at hm;cases hm
 exact⟨[],by simp,fun _=>rfl,fun h=>by have:=(List.getElem?_eq_some_iff.1 hl).1;omega⟩⟩
end
end RM
open Go.RowKit
def bgn(s:Sn)(car:Int)(p:List (List Int)):Option (List Bool):=
 if(rgt s&&decide (p.length=s.cs.length)&&decide (0≤car)&&decide (car<(p.length:Int))&&(p.drop (car.toNat+1)).all List.isEmpty)=true then PM.runs (msk s) 0 (List.replicate (msk s).length false) p else none
theorem bgn_not{s:Sn}{car:Int}{p:List (List Int)}(h:¬(rgt s=true∧p.length=s.cs.length∧0≤car∧car<(p.length:Int))):bgn s car p=none:=by
 unfold bgn;rw[if_neg];simp only[Bool.and_eq_true,decide_eq_true_eq];exact fun g=>h ⟨g.1.1.1.1,g.1.1.1.2,g.1.1.2,g.1.2⟩
theorem bgn_behind{s:Sn}{k c:Nat}{p:List (List Int)}{l:List Int}(hl:p[c]?=some l)(hc:k<c)(hn:l≠[]):bgn s (k:Int) p=none:=by
 unfold bgn;rw[if_neg];simp only[Bool.and_eq_true,List.all_eq_true];intro g;have:=g.2 l (List.mem_of_getElem? (i:=c-(k+1)) (by rw[Int.toNat_natCast,List.getElem?_drop,show k+1+(c-(k+1))=c by omega];exact hl));exact hn (by simpa using this)
theorem bgn_runs{s:Sn}{k:Nat}{p:List (List Int)}(h1:rgt s=true)(h2:p.length=s.cs.length)(h3:k<p.length)(h4:∀(c:Nat) l,p[c]?=some l→k<c→l=[]):bgn s (k:Int) p=PM.runs (msk s) 0 (List.replicate (msk s).length false) p:=by
 unfold bgn;rw[if_pos];simp only[Bool.and_eq_true,decide_eq_true_eq,List.all_eq_true];refine⟨⟨⟨⟨h1,h2⟩,by omega⟩,by omega⟩,fun l hl=> ?_⟩;obtain⟨i,hi⟩:=List.getElem?_of_mem hl;rw[Int.toNat_natCast,List.getElem?_drop]at hi;rw[h4 _ l hi (by omega)];rfl
def lfk(st:List Bool)(k:Nat):List Int:=((List.range k).filter fun w=>st[w]?==some false).map fun (w:Nat)=>(w:Int)
theorem lfk_succ(st:List Bool)(k:Nat):lfk st (k+1)=lfk st k++if st[k]?=some false then[(k:Int)]else[]:=by
 unfold lfk;rw[List.range_succ,List.filter_append,List.map_append]
 congr 1
 by_cases h:st[k]?=some false
 ·simp[h]
 ·simp[h]
theorem lfk_length(st:List Bool):∀(k:Nat),(lfk st k).length≤k
 |0=>Nat.le_refl _
 |k+1=>by
  rw[lfk_succ,List.length_append];have:=lfk_length st k;split<;>simp<;>omega
namespace RM
section
variable {s:St} {ws cs:List (Int×Int)} {b:List (List Int)} {f:Int} {m k:Nat}
def opk(s:St)(ws cs:List (Int×Int))(b:List (List Int))(f:Int)(m k c:Nat):List Int:=ops s ws f m k ((cs.take c).drop k) ((b.take c).drop k)
theorem ops_append:∀{cs cs':List (Int×Int)} {b b':List (List Int)} {k:Nat},cs.length=b.length→ops s ws f m k (cs++cs') (b++b')=ops s ws f m k cs b++ops s ws f m (k+cs.length) cs' b'
 |[],cs',[],b',k,_=>by simp[ops]
 |[],_,_::_,_,_,h=>by simp at h
 |_::_,_,[],_,_,h=>by simp at h
 |r::cs,cs',l::b,b',k,h=>by
  have ih:=ops_append (cs:=cs) (cs':=cs') (b:=b) (b':=b') (k:=k+1) (by simpa using h);rw[List.cons_append,List.cons_append,ops,ops,ih,List.length_cons,show k+1+cs.length=k+(cs.length+1) by omega];split<;>simp
theorem opk_start:opk s ws cs b f m k k=[]:=by
 unfold opk;rw[List.drop_of_length_le (by simp;omega)];unfold ops
 rfl
theorem opk_succ{c:Nat}{r:Int×Int}{l:List Int}(hl:cs.length=b.length)(hk:k≤c)(hc:cs[c]?=some r)(hb:b[c]?=some l):opk s ws cs b f m k (c+1)=opk s ws cs b f m k c++if PM.bt m c=true then[ar s (go s (bg r) (l.map (wf ws))) f]else[]:=by
 unfold opk;have hcl:=(List.getElem?_eq_some_iff.1 hc).1;have e1:(cs.take (c+1)).drop k=(cs.take c).drop k++[r]:=by rw[List.take_add_one,hc,Option.toList_some,List.drop_append_of_le_length (by rw[List.length_take];omega)]
 have e2:(b.take (c+1)).drop k=(b.take c).drop k++[l]:=by rw[List.take_add_one,hb,Option.toList_some,List.drop_append_of_le_length (by rw[List.length_take];omega)]
 rw[e1,e2,ops_append (by rw[List.length_drop,List.length_drop,List.length_take,List.length_take,hl])]
 congr 1
 rw[List.length_drop,List.length_take,show k+(min c cs.length-k)=c by omega];unfold ops;split<;>simp[ops]
theorem opk_end{c:Nat}(h1:cs.length≤c)(h2:b.length≤c):opk s ws cs b f m k c=ops s ws f m k (cs.drop k) (b.drop k):=by
 unfold opk;rw[List.take_of_length_le h1,List.take_of_length_le h2]
end
theorem ops_bd{s:St}{ws cs:List (Int×Int)}{b:List (List Int)}{f:Int}{m k:Nat}(z:Rz s ws cs)(hb:∀x∈b.flatten,0≤x∧x<ws.length)(hc:∀r∈cs,r.2≤1000000)(hl:∀l∈b,l.length≤1000){c:Nat}:∀t∈opk s ws cs b f m k c,0≤t∧t≤80000000:=fun t ht=>by
 unfold opk at ht;obtain⟨i,r,l,h1,h2,_,rfl⟩:=ops_mem.1 ht;have hr:r∈cs:=List.mem_of_mem_take (List.mem_of_mem_drop (List.mem_of_getElem? h1));have hlb:l∈b:=List.mem_of_mem_take (List.mem_of_mem_drop (List.mem_of_getElem? h2));have hin:=z.inn (l:=l) fun x hx=>hb x (List.mem_flatten.2 ⟨l,hlb,hx⟩);have ok0:=z.cr r hr;have ok:=go_ok z.rt ok0 hin;have g1:=ar_nn z.rt ok f;have g2:=ar_le z.rt ok f;have g3:=go_le z.rt ok0 hin;have g4:=hc r hr;have g5:=hl l hlb;rw[List.length_map]at g3;have g7:(bg r).le=r.2:=rfl;omega
theorem cst_take{s:St}{ws:List (Int×Int)}:∀{cs:List (Int×Int)} {p:List (List Int)} {k:Nat},(∀(c:Nat) l,p[c]?=some l→k≤c→l=[])→prs s ws cs p=prs s ws (cs.take k) (p.take k)
 |[],_,_,_=>by simp[prs]
 |_::_,[],_,_=>by simp[prs]
 |r::cs,l::p,0,h=>by
  have h0:l=[]:=h 0 l rfl (Nat.zero_le _);have ih:=cst_take (s:=s) (ws:=ws) (cs:=cs) (p:=p) (k:=0) fun c m hm _=>h (c+1) m (by simpa using hm) (Nat.zero_le _);rw[List.take_zero,List.take_zero]at ih⊢;show pr1 s ws r l++prs s ws cs p=_;rw[ih,h0];rfl
 |r::cs,l::p,k+1,h=>by
  have ih:=cst_take (s:=s) (ws:=ws) (cs:=cs) (p:=p) (k:=k) fun c m hm hc=>h (c+1) m (by simpa using hm) (by omega);rw[List.take_succ_cons,List.take_succ_cons];show pr1 s ws r l++prs s ws cs p=pr1 s ws r l++prs s ws (cs.take k) (p.take k);rw[ih]
end RM
def optw(s:Sn)(k:Nat)(p:List (List Int))(w:Nat):List Int:=RM.opt s.st s.ws s.cs (msk s) k p w
def lsv(s:Sn)(k:Nat)(p:List (List Int))(st:List Bool):Int:=
 if((lfk st s.ws.length).all fun x=> !(optw s k p x.toNat).isEmpty)=true then RM.cst s.st s.ws s.cs p+((lfk st s.ws.length).map fun x=>RM.low (optw s k p x.toNat)).sum else 1099511627776
theorem lfk_mem{st:List Bool}{k:Nat}{x:Int}:x∈lfk st k↔∃w:Nat,x=(w:Int)∧w<k∧st[w]?=some false:=by
 unfold lfk;rw[List.mem_map];constructor
 ·rintro⟨w,hw,rfl⟩;rw[List.mem_filter,List.mem_range]at hw;exact⟨w,rfl,hw.1,by simpa using hw.2⟩
 ·rintro⟨w,rfl,h1,h2⟩;exact⟨w,List.mem_filter.2 ⟨List.mem_range.2 h1,by simp[h2]⟩,rfl⟩
structure Bs(s:Sn)(k:Nat)(p:List (List Int))(st:List Bool):Prop where
 rg:rgt s=true
 rz:RM.Rz s.st s.ws s.cs
 pc:s.cs.length=p.length
 kl:k<p.length
 p8:p.length≤8
 bh:∀(c:Nat) l,p[c]?=some l→k<c→l=[]
 fr:∀x∈p.flatten,0≤x∧x<s.ws.length
 sl:st.length=s.ws.length
 wl:s.ws.length≤128
 af:∀r∈s.cs,r.2≤1000000
 lf:∀w:Nat,w<s.ws.length→(st[w]?=some false↔(w:Int)∉p.flatten)
theorem bgn_bs{s:Sn}{k:Nat}{p:List (List Int)}{st:List Bool}(h:bgn s (k:Int) p=some st):Bs s k p st:=by
 unfold bgn at h;split at h
 case isFalse=>cases h
 case isTrue hh=>
  simp only[Bool.and_eq_true,decide_eq_true_eq,List.all_eq_true]at hh;obtain⟨⟨⟨⟨h1,h2⟩,_⟩,h4⟩,h5⟩:=hh;obtain⟨n,hrs⟩:=rgt_rs h1;have hml:(msk s).length=s.ws.length:=hrs.mm.len;have hr:=PM.runs_some (by simp) h;have g1:=hrs.cl;have g2:=hrs.n8;refine⟨h1,rgt_rz h1,h2.symm,by omega,by omega,fun c l hl hc=> ?_,fun x hx=> ?_,?_,hrs.wl,rgt_after h1,fun w hw=> ?_⟩
  ·have:=h5 l (List.mem_of_getElem? (i:=c-(k+1)) (by rw[Int.toNat_natCast,List.getElem?_drop,show k+1+(c-(k+1))=c by omega];exact hl));simpa using this
  ·obtain⟨l,hl,hxl⟩:=List.mem_flatten.1 hx;obtain⟨c,hc⟩:=List.getElem?_of_mem hl;have:=PM.okx_iff.1 (hr.1 c l hc x hxl);omega
  ·exact hr.2.1.trans hml
  ·have h6:=hr.2.2 w (by omega);rw[PM.nb_rep,Nat.zero_add]at h6;obtain⟨b,hb⟩:∃b,st[w]?=some b:=⟨_,List.getElem?_eq_getElem (by have:=hr.2.1;omega)⟩;cases b with
   |true=>
    rw[PM.nb_true hb]at h6;rw[hb];constructor
    ·intro hh;cases hh
    ·intro hh;exact absurd (List.count_pos_iff.1 (by omega)) hh
   |false=>
    rw[PM.nb_false hb]at h6;rw[hb];constructor
    ·intro _ hh;have:=List.count_pos_iff.2 hh;omega
    ·intro _;rfl
theorem prs_len{s:St}{ws:List (Int×Int)}:∀{cs:List (Int×Int)} {p:List (List Int)},(∀l∈p,l.length≤1000)→(RM.prs s ws cs p).length≤1000*p.length
 |[],_,_=>by simp[RM.prs]
 |_::_,[],_=>by simp[RM.prs]
 |r::cs,l::p,h=>by
  have ih:=prs_len (s:=s) (ws:=ws) (cs:=cs) (p:=p) fun l hl=>h l (by simp[hl]);have h0:=h l (by simp);show(RM.pr1 s ws r l++RM.prs s ws cs p).length≤_;rw[List.length_append,RM.pr1_length,List.length_cons];omega
def sm2(s:Sn)(p:List (List Int))(r:Int×Int)(l:List Int)(k j:Nat):Int:=((RM.prs s.st s.ws (s.cs.take k) (p.take k)++(RM.pr1 s.st s.ws r l).take j).map (·.2)).sum
def sm1(s:Sn)(p:List (List Int))(k:Nat):Int:=((RM.prs s.st s.ws (s.cs.take k) (p.take k)).map (·.2)).sum
theorem sm2_end{s:Sn}{p:List (List Int)}{r:Int×Int}{l:List Int}{k:Nat}(h1:s.cs[k]?=some r)(h2:p[k]?=some l):sm2 s p r l k l.length=sm1 s p (k+1):=by
 unfold sm2 sm1;rw[RM.prs_snoc h1 h2,List.take_of_length_le (l:=RM.pr1 s.st s.ws r l) (by rw[RM.pr1_length];exact Nat.le_refl _)]
theorem sm1_end{s:Sn}{k:Nat}{p:List (List Int)}{st:List Bool}(h:Bs s k p st):sm1 s p (k+1)=RM.cst s.st s.ws s.cs p:=by
 unfold sm1 RM.cst;rw[←RM.cst_take fun c l hl hc=>h.bh c l hl (by omega)]
theorem sm2_bd{s:Sn}{k0:Nat}{p:List (List Int)}{st:List Bool}(h:Bs s k0 p st)(hl:∀l∈p,l.length≤1000){r:Int×Int}{l:List Int}{k j:Nat}(h1:s.cs[k]?=some r)(h2:p[k]?=some l):0≤sm2 s p r l k j∧sm2 s p r l k j≤800000000000:=by
 unfold sm2;have hb:=RM.prs_bd h.rz h.fr h.af hl
 have hmem:∀x∈RM.prs s.st s.ws (s.cs.take k) (p.take k)++(RM.pr1 s.st s.ws r l).take j,x∈RM.prs s.st s.ws s.cs p:=fun x hx=>by
  have hx2:x∈RM.prs s.st s.ws (s.cs.take (k+1)) (p.take (k+1)):=by
   rw[RM.prs_snoc h1 h2];rcases List.mem_append.1 hx with hx|hx
   ·exact List.mem_append_left _ hx
   ·exact List.mem_append_right _ (List.mem_of_mem_take hx)
  obtain⟨w,t⟩:=x;obtain⟨c,i,r',l',g1,g2,g3,g4⟩:=RM.prs_where hx2
  have g1':s.cs[c]?=some r':=by
   rw[List.getElem?_take]at g1;split at g1
   ·exact g1
   ·cases g1
  have g2':p[c]?=some l':=by
   rw[List.getElem?_take]at g2;split at g2
   ·exact g2
   ·cases g2
  rw[g4];exact RM.prs_at g1' g2' g3
 have hsb:=RM.sum_bd (B:=80000000) (l:=(RM.prs s.st s.ws (s.cs.take k) (p.take k)++(RM.pr1 s.st s.ws r l).take j).map (·.2)) fun t ht=>by
  obtain⟨x,hx,rfl⟩:=List.mem_map.1 ht;exact hb x (hmem x hx)
 rw[List.length_map,List.length_append,List.length_take,RM.pr1_length]at hsb;have e1:=prs_len (s:=s.st) (ws:=s.ws) (cs:=s.cs.take k) (p:=p.take k) fun l hl'=>hl l (List.mem_of_mem_take hl');rw[List.length_take]at e1;have e2:=hl l (List.mem_of_getElem? h2);have e3:=h.p8;have e4:=(List.getElem?_eq_some_iff.1 h2).1;omega
section
variable {s:Sn} {p b:List (List Int)} {k:Nat}
end
def cutp(p:List (List Int))(k j:Nat):List (List Int):=p.take k++((p[k]?.getD []).take j::List.replicate (p.length-(k+1)) [])
theorem cutp_length{p:List (List Int)}{k:Nat}(j:Nat)(hk:k<p.length):(cutp p k j).length=p.length:=by
 unfold cutp;rw[List.length_append,List.length_cons,List.length_replicate,List.length_take];omega
theorem cutp_lo{p:List (List Int)}{k j c:Nat}(hk:k<p.length)(hc:c<k):(cutp p k j)[c]?=p[c]?:=by
 unfold cutp;rw[List.getElem?_append_left (by rw[List.length_take];omega),List.getElem?_take,if_pos hc]
theorem cutp_at{p:List (List Int)}{k j:Nat}(hk:k<p.length):(cutp p k j)[k]?=some ((p[k]?.getD []).take j):=by
 unfold cutp;rw[List.getElem?_append_right (by rw[List.length_take];omega),List.length_take,show k-min k p.length=0 by omega]
 rfl
theorem cutp_hi{p:List (List Int)}{k j c:Nat}(hk:k<p.length)(hc:k<c)(hl:c<p.length):(cutp p k j)[c]?=some []:=by
 unfold cutp;rw[List.getElem?_append_right (by rw[List.length_take];omega),List.length_take,show c-min k p.length=(c-k-1)+1 by omega,List.getElem?_cons_succ,List.getElem?_replicate,if_pos (by omega)]
theorem cutp_beg{p:List (List Int)}{k:Nat}(j:Nat)(hk:k<p.length):RM.Beg k (cutp p k j) p:=⟨cutp_length j hk,hk,fun c l m hl hm=>by
 have hcp:=(List.getElem?_eq_some_iff.1 hm).1;rcases Nat.lt_trichotomy c k with h|h|h
 ·rw[cutp_lo hk h,hm]at hl;cases hl;exact⟨[],by simp,fun _=>rfl,fun h'=>by omega⟩
 ·subst h;rw[cutp_at hk,hm]at hl;simp only[Option.getD_some,Option.some.injEq]at hl;subst hl;exact⟨m.drop j,(List.take_append_drop j m).symm,fun h'=>by omega,fun h'=>by omega⟩
 ·rw[cutp_hi hk h hcp]at hl;cases hl
  exact⟨m,rfl,fun h'=>by omega,fun _=>rfl⟩⟩
section
variable {p:List (List Int)} {k:Nat}
theorem cutp_whole{l:List Int}(hk:k+1=p.length)(hl:p[k]?=some l):cutp p k l.length=p:=by
 have hlt:k<p.length:=by omega
 refine List.ext_getElem? fun c=> ?_;rcases Nat.lt_trichotomy c k with h|h|h
 ·exact cutp_lo hlt h
 ·subst h;rw[cutp_at hlt,hl,Option.getD_some,List.take_length]
 ·rw[List.getElem?_eq_none (by rw[cutp_length _ hlt];omega),List.getElem?_eq_none (by omega)]
end
end Go.Proofs.YtnkelgdnglaafaaGreat
namespace Go.Proofs.YtnkelgdnglaafaaGreat
open Go.RowKit Go.ChangeMaps Go.MapKept
def wv(y:Int×Int):Value:=.agg #[.int .i64 y.1,.int .i64 y.2]
def MP(W:World)(mb:Nat)(f:Int→Option (Int×Int)):Prop:=∃es clock,W.heap[mb]?=some (.map es clock)∧(∀e∈es.toList,∃k y,e.key=.int .i64 k∧e.val=wv y∧f k=some y)∧
 (∀k y,f k=some y→∃e∈es.toList,e.key=.int .i64 k)∧es.toList.Pairwise fun a b=>a.key≠b.key
section
variable {W W':World} {mb:Nat} {f:Int→Option (Int×Int)}
theorem MP.lt(h:MP W mb f):mb<W.heap.size:=by
 obtain⟨es,clock,hb,_⟩:=h;exact(Array.getElem?_eq_some_iff.1 hb).1
theorem MP.keep(h:MP W mb f)(hk:W'.heap[mb]?=W.heap[mb]?):MP W' mb f:=by
 obtain⟨es,clock,hb,h2⟩:=h;exact⟨es,clock,hk.trans hb,h2⟩
theorem MP.below'(h:MP W mb f)(hb:Below W.heap.size W W'):MP W' mb f:=h.keep (hb.block mb h.lt)
theorem MP.new(W:World):MP (W.alloc (.map #[] 0)) W.heap.size fun _=>none:=⟨#[],0,World.alloc_heap_new W _,by simp,by simp,by simp⟩
theorem kp_block{es:Array MapEntry}{clock:Nat}(hb:W.heap[mb]?=some (.map es clock))(o:Obj):Kp (fun k=>k=mb) W (setBlock W mb o):=
 ⟨rfl,rfl,rfl,by simp[setBlock],fun _ _ hk=>heap_setBlock_other hb o hk⟩
theorem isKey_int(k:Int):IsKey (.int .i64) (.int .i64 k):=by simp[IsKey]
theorem MP.keys{es:Array MapEntry}(h:∀e∈es.toList,∃k y,e.key=.int .i64 k∧e.val=wv y∧f k=some y):∀x∈es.toList,IsKey (.int .i64) x.key:=fun x hx=>by
 obtain⟨k,y,h1,_⟩:=h x hx;rw[h1];exact isKey_int k
theorem MP.look(h:MP W mb f)(k:Int):(Instr.lookup 257 (.map (some mb)) (.int .i64 k) true).run Tryz.prog W=.ok (.tuple #[wv ((f k).getD (0,0)),.bool (f k).isSome]) W:=by
 obtain⟨es,clock,hb,h1,h2,h3⟩:=h;rcases findNow_spec (isKey_int k) es.toList 0 (MP.keys h1)with⟨g1,g2⟩|⟨j,e0,g1,g2,g3⟩
 ·have hn:f k=none:=by
   cases e:f k with
   |none=>rfl
   |some y=>
    obtain⟨e1,he1,he2⟩:=h2 k y e;exact absurd he2 (g2 e1 he1)
  rw[hn];simp[Instr.lookup,run_underlying Tryz.underlying257,MapKept.run_getObj_map hb,MapKept.run_checkKey Tryz.underlying3 (isKey_int k),MapKept.run_findKey Tryz.underlying3 g1,Result.andThen]
  rfl
 ·obtain⟨k',y,a1,a2,a3⟩:=h1 e0 (List.mem_of_getElem? g2);rw[a1]at g3;cases g3;rw[a3];rw[a2]at g1;simp[Instr.lookup,run_underlying Tryz.underlying257,MapKept.run_getObj_map hb,MapKept.run_checkKey Tryz.underlying3 (isKey_int k),MapKept.run_findKey Tryz.underlying3 g1,Result.andThen]
theorem MP.lay(h:MP W mb f){k:Int}(hn:f k=none)(y:Int×Int):∃W',(Instr.mapUpdate 257 (.map (some mb)) (.int .i64 k) (wv y)).run Tryz.prog W=.ok () W'∧MP W' mb (fun j=>if j=k then some y else f j)∧Kp (fun k=>k=mb) W W':=by
 obtain⟨es,clock,hb,h1,h2,h3⟩:=h;rcases findNow_spec (isKey_int k) es.toList 0 (MP.keys h1)with⟨g1,g2⟩|⟨j,e0,g1,g2,g3⟩
 ·refine⟨setBlock W mb (.map (es.push ⟨.int .i64 k,wv y,clock⟩) (clock+1)),?_,⟨_,_,heap_setBlock_same hb _,?_,?_,?_⟩,kp_block hb _⟩
  ·simp[Instr.mapUpdate,run_underlying Tryz.underlying257,MapKept.run_getObj_map hb,MapKept.run_checkKey Tryz.underlying3 (isKey_int k),MapKept.run_findKey Tryz.underlying3 g1,MapKept.run_setObj_map _ hb,Result.andThen,setBlock]
  ·intro e he;rw[Array.toList_push,List.mem_append,List.mem_singleton]at he;rcases he with he|rfl
   ·obtain⟨k',y',a1,a2,a3⟩:=h1 e he;refine⟨k',y',a1,a2,?_⟩;show(if k'=k then some y else f k')=_;rw[if_neg (fun e1:k'=k=>by rw[e1,hn]at a3;cases a3)];exact a3
   ·exact⟨k,y,rfl,rfl,if_pos rfl⟩
  ·intro j z hz;by_cases e:j=k
   ·subst e;exact⟨⟨.int .i64 j,wv y,clock⟩,by simp,rfl⟩
   ·have hz:(if j=k then some y else f j)=some z:=hz;rw[if_neg e]at hz;obtain⟨e1,he1,he2⟩:=h2 j z hz;exact⟨e1,by simp[he1],he2⟩
  ·rw[Array.toList_push,List.pairwise_append];refine⟨h3,by simp,fun a ha b hb2=> ?_⟩;rw[List.mem_singleton]at hb2;subst hb2;exact g2 a ha
 ·obtain⟨k',y',a1,_,a3⟩:=h1 e0 (List.mem_of_getElem? g2);rw[a1]at g3;cases g3;rw[hn]at a3;cases a3
theorem erase_ne{α:Type}{R:α→α→Prop}:∀{l:List α} {j:Nat} {e0:α},l.Pairwise R→(∀a b,R a b→R b a)→l[j]?=some e0→∀e∈l.eraseIdx j,R e0 e
 |[],_,_,_,_,h,_,_=>by simp at h
 |a::l,0,e0,hp,_,h,e,he=>by
  simp at h;subst h;exact(List.pairwise_cons.1 hp).1 e (by simpa using he)
 |a::l,j+1,e0,hp,hs,h,e,he=>by
  rw[List.eraseIdx_cons_succ,List.mem_cons]at he;have hj:l[j]?=some e0:=by simpa using h
  rcases he with rfl|he
  ·exact hs _ _ ((List.pairwise_cons.1 hp).1 e0 (List.mem_of_getElem? hj))
  ·exact erase_ne (List.pairwise_cons.1 hp).2 hs hj e he
theorem mem_erase{α:Type}:∀{l:List α} {j:Nat} {e0 e:α},l[j]?=some e0→e∈l→e≠e0→e∈l.eraseIdx j
 |[],_,_,_,h,_,_=>by simp at h
 |a::l,0,e0,e,h,he,hne=>by
  simp at h;subst h;rcases List.mem_cons.1 he with h|h
  ·exact absurd h hne
  ·simpa using h
 |a::l,j+1,e0,e,h,he,hne=>by
  have hj:l[j]?=some e0:=by simpa using h
  rw[List.eraseIdx_cons_succ,List.mem_cons];rcases List.mem_cons.1 he with h|h
  ·exact .inl h
  ·exact .inr (mem_erase hj h hne)
theorem MP.drop(h:MP W mb f){k:Int}{y:Int×Int}(hy:f k=some y):∃W',(∀ty,(Builtin.delete_ #[257,3] ty #[.map (some mb),.int .i64 k]).run Tryz.prog W=.ok (.tuple #[]) W')∧MP W' mb (fun j=>if j=k then none else f j)∧Kp (fun k=>k=mb) W W':=by
 obtain⟨es,clock,hb,h1,h2,h3⟩:=h;rcases findNow_spec (isKey_int k) es.toList 0 (MP.keys h1)with⟨g1,g2⟩|⟨j,e0,g1,g2,g3⟩
 ·obtain⟨e1,he1,he2⟩:=h2 k y hy;exact absurd he2 (g2 e1 he1)
 ·have hjs:j<es.size:=by simpa using (List.getElem?_eq_some_iff.1 g2).1
  have hsub:(es.eraseIdxIfInBounds j).toList=es.toList.eraseIdx j:=by
   unfold Array.eraseIdxIfInBounds;rw[dif_pos hjs];simp
  refine⟨setBlock W mb (.map (es.eraseIdxIfInBounds j) clock),?_,⟨_,_,heap_setBlock_same hb _,?_,?_,?_⟩,kp_block hb _⟩
  ·intro ty;rw[Nat.zero_add]at g1;simp[Builtin.delete_,run_underlying Tryz.underlying257,MapKept.run_getObj_map hb,MapKept.run_checkKey Tryz.underlying3 (isKey_int k),MapKept.run_findKey Tryz.underlying3 g1,MapKept.run_setObj_map _ hb,Result.andThen,setBlock]
  ·intro e he;rw[hsub]at he;obtain⟨k',y',a1,a2,a3⟩:=h1 e ((List.eraseIdx_sublist _ _).subset he);refine⟨k',y',a1,a2,?_⟩;show(if k'=k then none else f k')=_;rw[if_neg]
   ·exact a3
   ·intro e1;have:=erase_ne h3 (fun _ _ h=>Ne.symm h) g2 e he;rw[g3,a1,e1]at this;exact this rfl
  ·intro i z hz;have hz:(if i=k then none else f i)=some z:=hz;by_cases e:i=k
   ·rw[if_pos e]at hz;cases hz
   ·rw[if_neg e]at hz;obtain⟨e1,he1,he2⟩:=h2 i z hz;refine⟨e1,?_,he2⟩;rw[hsub];refine mem_erase g2 he1 fun e2=> ?_;rw[e2,g3]at he2;cases he2;exact e rfl
  ·rw[hsub];exact h3.sublist (List.eraseIdx_sublist _ _)
end
end Go.Proofs.YtnkelgdnglaafaaGreat
namespace Go.Proofs.YtnkelgdnglaafaaGreat
open Go.RowKit
structure Bz where
 es:List RM.Sp
 st:List Bool
 co:Int
def prp:Nat→List (List Int)→List (Int×Int)
 |_,[]=>[]
 |c,l::p=>l.map (fun x=>((c:Int),x))++prp (c+1) p
section
variable (s:Sn) (k:Nat)
def bstep(z:Bz)(q:Int×Int):Option Bz:=
 match z.es[q.1.toNat]? with
 |none=>none
 |some a=>if q.1≤(k:Int)∧PM.okx (msk s) q.1.toNat q.2=true∧z.st[q.2.toNat]?=some false then
   some ⟨z.es.set q.1.toNat (RM.nx s.st a (RM.wf s.ws q.2)),z.st.set q.2.toNat true,z.co+RM.ar s.st a (RM.wf s.ws q.2)⟩else none
def bfold(o:Option Bz)(xs:List (Int×Int)):Option Bz:=xs.foldl (fun o q=>o.bind fun z=>bstep s k z q) o
end
section
variable {s:Sn} {k:Nat}
theorem bfold_nil(o:Option Bz):bfold s k o []=o:=rfl
theorem bfold_cons(o:Option Bz)(q:Int×Int)(xs:List (Int×Int)):bfold s k o (q::xs)=bfold s k (o.bind fun z=>bstep s k z q) xs:=rfl
theorem bfold_append(o:Option Bz)(xs ys:List (Int×Int)):bfold s k o (xs++ys)=bfold s k (bfold s k o xs) ys:=by unfold bfold;rw[List.foldl_append]
theorem bfold_snoc(o:Option Bz)(xs:List (Int×Int))(q:Int×Int):bfold s k o (xs++[q])=(bfold s k o xs).bind fun z=>bstep s k z q:=by rw[bfold_append];rfl
theorem bfold_none:∀(xs:List (Int×Int)),bfold s k none xs=none
 |[]=>rfl
 |q::xs=>by rw[bfold_cons];exact bfold_none xs
theorem bfold_pre{o:Option Bz}{xs ys:List (Int×Int)}(h:xs<+:ys)(hn:bfold s k o xs=none):bfold s k o ys=none:=by
 obtain⟨zs,rfl⟩:=h;rw[bfold_append,hn,bfold_none]
theorem bstep_far{z:Bz}{q:Int×Int}(h:(k:Int)<q.1):bstep s k z q=none:=by
 unfold bstep;split
 ·rfl
 ·rw[if_neg fun g=>by omega]
theorem bfold_far{q:Int×Int}(h:(k:Int)<q.1):∀{xs:List (Int×Int)} (o:Option Bz),q∈xs→bfold s k o xs=none
 |[],_,hm=>by simp at hm
 |x::xs,o,hm=>by
  rw[bfold_cons];rcases List.mem_cons.1 hm with e|hm
  ·subst e;cases o with
   |none=>exact bfold_none xs
   |some z=>rw[Option.bind_some,bstep_far h];exact bfold_none xs
  ·exact bfold_far h _ hm
theorem prp_mem{q:Int×Int}:∀{p:List (List Int)} {c:Nat},q∈prp c p↔∃(d:Nat) (l:List Int),p[d]?=some l∧q.1=((c+d:Nat):Int)∧q.2∈l
 |[],c=>by simp[prp]
 |l::p,c=>by
  rw[prp,List.mem_append,prp_mem];constructor
  ·rintro (h|⟨d,m,h1,h2,h3⟩)
   ·obtain⟨x,hx,rfl⟩:=List.mem_map.1 h;exact⟨0,l,rfl,rfl,hx⟩
   ·exact⟨d+1,m,by simpa using h1,by rw[h2];omega,h3⟩
  ·rintro⟨d,m,h1,h2,h3⟩;cases d with
   |zero=>
    cases h1;left;exact List.mem_map.2 ⟨q.2,h3,by rw[show((c:Int))=q.1 by rw[h2];simp]⟩
   |succ d=>exact .inr ⟨d,m,by simpa using h1,by rw[h2];omega,h3⟩
theorem bfold_list{c:Nat}(hc:c≤k):∀(l:List Int) (z:Bz) (a:RM.Sp),z.es[c]?=some a→
  bfold s k (some z) (l.map fun x=>((c:Int),x))=(PM.run1 (msk s) c z.st l).map fun st'=>⟨z.es.set c (RM.go s.st a (l.map (RM.wf s.ws))),st',z.co+(RM.tm s.st a (l.map (RM.wf s.ws))).sum⟩
 |[],z,a,ha=>by
  obtain⟨es,st,co⟩:=z
  have e:es.set c a=es:=by
   obtain⟨hi,rfl⟩:=List.getElem?_eq_some_iff.1 ha;exact List.set_getElem_self hi
  simp only[List.map_nil,bfold_nil,PM.run1,Option.map_some,RM.go,RM.tm,List.sum_nil,Int.add_zero];rw[e]
 |x::l,z,a,ha=>by
  rw[List.map_cons,bfold_cons,Option.bind_some]
  have e1:bstep s k z ((c:Int),x)=if PM.okx (msk s) c x=true∧z.st[x.toNat]?=some false then some ⟨z.es.set c (RM.nx s.st a (RM.wf s.ws x)),z.st.set x.toNat true,z.co+RM.ar s.st a (RM.wf s.ws x)⟩else none:=by
   unfold bstep;simp only[Int.toNat_natCast,ha];by_cases h:PM.okx (msk s) c x=true∧z.st[x.toNat]?=some false
   ·rw[if_pos h,if_pos ⟨by omega,h⟩]
   ·rw[if_neg h,if_neg fun g=>h g.2]
  rw[e1,PM.run1];by_cases h:PM.okx (msk s) c x=true∧z.st[x.toNat]?=some false
  ·rw[if_pos h,if_pos h,bfold_list hc l _ (RM.nx s.st a (RM.wf s.ws x)) (List.getElem?_set_self (List.getElem?_eq_some_iff.1 ha).1)];simp only[List.set_set,List.map_cons,RM.go,RM.tm,List.sum_cons,Int.add_assoc]
  ·rw[if_neg h,if_neg h,bfold_none];rfl
def asp(s:Sn):List (Int×Int)→List (List Int)→List RM.Sp
 |r::cs,l::p=>RM.go s.st (RM.bg r) (l.map (RM.wf s.ws))::asp s cs p
 |_,_=>[]
theorem asp_get:∀{cs:List (Int×Int)} {p:List (List Int)} {c:Nat} {r:Int×Int} {l:List Int},cs[c]?=some r→p[c]?=some l→(asp s cs p)[c]?=some (RM.go s.st (RM.bg r) (l.map (RM.wf s.ws)))
 |[],_,_,_,_,h,_=>by simp at h
 |_::_,[],_,_,_,_,h=>by simp at h
 |r::cs,l::p,0,_,_,h1,h2=>by cases h1;cases h2;rfl
 |r::cs,l::p,c+1,_,_,h1,h2=>by
  have:=asp_get (cs:=cs) (p:=p) (c:=c) (by simpa using h1) (by simpa using h2);simpa[asp]using this
theorem asp_length:∀{cs:List (Int×Int)} {p:List (List Int)},cs.length=p.length→(asp s cs p).length=cs.length
 |[],_,_=>by simp[asp]
 |_::_,[],h=>by simp at h
 |r::cs,l::p,h=>by rw[asp,List.length_cons,asp_length (by simpa using h),List.length_cons]
theorem asp_empty:∀{cs:List (Int×Int)} {p:List (List Int)},cs.length=p.length→(∀l∈p,l=[])→asp s cs p=cs.map RM.bg
 |[],_,_,_=>by simp[asp]
 |_::_,[],h,_=>by simp at h
 |r::cs,l::p,h,he=>by
  have h0:l=[]:=he l (by simp);subst h0;rw[asp,asp_empty (by simpa using h) fun l hl=>he l (by simp[hl])];rfl
theorem bfold_plan:∀(p:List (List Int)) (c:Nat) (cs:List (Int×Int)) (A:List RM.Sp) (st:List Bool) (co:Int),A.length=c→cs.length=p.length→(∀(d:Nat) l,p[d]?=some l→k<c+d→l=[])→
  bfold s k (some ⟨A++cs.map RM.bg,st,co⟩) (prp c p)=(PM.runs (msk s) c st p).map fun st'=>⟨A++asp s cs p,st',co+RM.cst s.st s.ws cs p⟩
 |[],c,cs,A,st,co,_,hl,_=>by
  have:cs=[]:=List.eq_nil_of_length_eq_zero (by simpa using hl);subst this;simp[prp,bfold_nil,PM.runs,asp,RM.cst_nil]
 |l::p,c,[],A,st,co,_,hl,_=>by simp at hl
 |l::p,c,r::cs,A,st,co,hA,hl,he=>by
  have hl':cs.length=p.length:=by simpa using hl
  have he':∀(d:Nat) m,p[d]?=some m→k<c+1+d→m=[]:=fun d m hm hk=>he (d+1) m (by simpa using hm) (by omega);have ha:(A++(r::cs).map RM.bg)[c]?=some (RM.bg r):=by rw[List.getElem?_append_right (by omega),show c-A.length=0 by omega];rfl
  have hset:∀b:RM.Sp,(A++(r::cs).map RM.bg).set c b=(A++[b])++cs.map RM.bg:=fun b=>by
   rw[List.set_append,if_neg (by omega),show c-A.length=0 by omega,List.map_cons,List.set_cons_zero,List.append_assoc];rfl
  rw[prp,bfold_append,PM.runs]
  have key:bfold s k (some ⟨A++(r::cs).map RM.bg,st,co⟩) (l.map fun x=>((c:Int),x))=(PM.run1 (msk s) c st l).map fun st'=>⟨(A++[RM.go s.st (RM.bg r) (l.map (RM.wf s.ws))])++cs.map RM.bg,st',co+(RM.tm s.st (RM.bg r) (l.map (RM.wf s.ws))).sum⟩:=by
   by_cases hc:c≤k
   ·rw[bfold_list hc l _ (RM.bg r) ha];simp only[hset]
   ·have h0:l=[]:=he 0 l rfl (by omega);subst h0;simp only[List.map_nil,bfold_nil,PM.run1,Option.map_some,RM.go,RM.tm,List.sum_nil,Int.add_zero,List.map_cons];rw[List.append_assoc];rfl
  rw[key];cases hr:PM.run1 (msk s) c st l with
  |none=>rw[Option.map_none,Option.bind_none,bfold_none];rfl
  |some st'=>
   rw[Option.map_some,Option.bind_some,bfold_plan p (c+1) cs _ st' _ (by rw[List.length_append,hA];rfl) hl' he']
   congr 1
   funext st2
   rw[asp,RM.cst_cons,List.append_assoc,Int.add_assoc];rfl
def bz0(s:Sn):Bz:=⟨s.cs.map RM.bg,List.replicate (msk s).length false,0⟩
theorem bfold_bgn{p:List (List Int)}(hr:rgt s=true)(hl:p.length=s.cs.length)(hk:k<p.length):
  bfold s k (some (bz0 s)) (prp 0 p)=(bgn s (k:Int) p).map fun st=>⟨asp s s.cs p,st,RM.cst s.st s.ws s.cs p⟩:=by
 by_cases he:∀(d:Nat) l,p[d]?=some l→k<0+d→l=[]
 ·have:=bfold_plan (s:=s) (k:=k) p 0 s.cs [] (List.replicate (msk s).length false) 0 rfl hl.symm he;rw[List.nil_append]at this;unfold bz0;rw[this]
  have hb:bgn s (k:Int) p=PM.runs (msk s) 0 (List.replicate (msk s).length false) p:=by
   unfold bgn;rw[if_pos];simp only[Bool.and_eq_true,decide_eq_true_eq,List.all_eq_true,Int.toNat_natCast];refine⟨⟨⟨⟨hr,hl⟩,by omega⟩,by omega⟩,fun l hm=> ?_⟩;obtain⟨d,hd⟩:=List.getElem?_of_mem hm;rw[List.getElem?_drop]at hd;rw[he _ l hd (by omega)];rfl
  rw[hb]
  congr 1
  funext st
  rw[Int.zero_add];rfl
 ·have:∃(d:Nat) (l:List Int),p[d]?=some l∧k<d∧l≠[]:=by
   refine Classical.byContradiction fun hn=>he fun d l h1 h2=> ?_;refine Classical.byContradiction fun h3=>hn ⟨d,l,h1,by omega,h3⟩
  obtain⟨d,l,h1,h2,h3⟩:=this;rw[bgn_behind h1 h2 h3,Option.map_none];obtain⟨x,hx⟩:=List.exists_mem_of_ne_nil l h3;exact bfold_far (q:=((d:Int),x)) (by show(k:Int)<(d:Int);omega) _ (prp_mem.2 ⟨d,l,h1,by simp,hx⟩)
end
def bc(s:St)(vc vw:Value)(eb n mb:Nat)(co:Int):List Value:=nv s vc vw++[.slice (some ⟨eb,0,none⟩) n n,.map (some mb),.int .i64 co]
def tcs:List RM.Sp→List Value
 |[]=>[]
 |a::l=>.int .i64 a.fl::.int .i64 a.he::.int .i64 a.le::tcs l
theorem tcs_length:∀(l:List RM.Sp),(tcs l).length=3*l.length
 |[]=>rfl
 |a::l=>by rw[tcs,List.length_cons,List.length_cons,List.length_cons,tcs_length l,List.length_cons];omega
theorem tcs_get:∀{l:List RM.Sp} {j:Nat} {a:RM.Sp},l[j]?=some a→(tcs l)[j*3]?=some (.int .i64 a.fl)∧(tcs l)[j*3+1]?=some (.int .i64 a.he)∧(tcs l)[j*3+2]?=some (.int .i64 a.le)
 |[],_,_,h=>by simp at h
 |a::l,0,_,h=>by cases h;exact⟨rfl,rfl,rfl⟩
 |b::l,j+1,a,h=>by
  have:=tcs_get (l:=l) (j:=j) (a:=a) (by simpa using h);rw[show(j+1)*3=j*3+1+1+1 by omega];exact this
theorem tcs_set:∀(l:List RM.Sp) (j:Nat) (a:RM.Sp),(((tcs l).set (j*3) (.int .i64 a.fl)).set (j*3+1) (.int .i64 a.he)).set (j*3+2) (.int .i64 a.le)=tcs (l.set j a)
 |[],_,_=>rfl
 |b::l,0,a=>rfl
 |b::l,j+1,a=>by
  have:=tcs_set l j a;rw[show(j+1)*3=j*3+1+1+1 by omega,List.set_cons_succ,tcs,tcs,←this];rfl
structure Bg(W:World)(b eb mb:Nat)(s:St)(vc vw:Value)(es:List RM.Sp)(f:Int→Option (Int×Int))(co:Int):Prop where
 hb:W.heap[b]?=some (.cells (bc s vc vw eb es.length mb co).toArray 259 (0,0))
 he:W.heap[eb]?=some (.cells (tcs es).toArray 160 (0,0))
 hm:MP W mb f
 n1:b≠eb
 n2:b≠mb
 n3:eb≠mb
def bp(b eb mb k:Nat):Prop:=k=b∨k=eb∨k=mb
section
variable {W W':World} {b eb mb:Nat} {s:St} {vc vw:Value} {es:List RM.Sp} {f:Int→Option (Int×Int)} {co:Int}
theorem Bg.lb(h:Bg W b eb mb s vc vw es f co):b<W.heap.size:=(Array.getElem?_eq_some_iff.1 h.hb).1
theorem Bg.le(h:Bg W b eb mb s vc vw es f co):eb<W.heap.size:=(Array.getElem?_eq_some_iff.1 h.he).1
theorem Bg.lt(h:Bg W b eb mb s vc vw es f co):∀k,bp b eb mb k→k<W.heap.size:=fun k hk=>by
 rcases hk with rfl|rfl|rfl
 ·exact h.lb
 ·exact h.le
 ·exact h.hm.lt
theorem Bg.keep(h:Bg W b eb mb s vc vw es f co)(hk:∀k,bp b eb mb k→W'.heap[k]?=W.heap[k]?):Bg W' b eb mb s vc vw es f co:=
 ⟨(hk b (.inl rfl)).trans h.hb,(hk eb (.inr (.inl rfl))).trans h.he,h.hm.keep (hk mb (.inr (.inr rfl))),h.n1,h.n2,h.n3⟩
theorem Bg.below'(h:Bg W b eb mb s vc vw es f co)(hb:Below W.heap.size W W'):Bg W' b eb mb s vc vw es f co:=h.keep fun k hk=>hb.block k (h.lt k hk)
theorem Bg.drew(h:Bg W b eb mb s vc vw es f co):Bg W.drew b eb mb s vc vw es f co:=h.below' (Below.refl _ _).drew
theorem Bg.cell(h:Bg W b eb mb s vc vw es f co)(i:Nat):W.cell? ⟨b,i,none⟩=(bc s vc vw eb es.length mb co)[i]?:=blk_cell h.hb i
theorem Bg.c14(h:Bg W b eb mb s vc vw es f co):W.cell? ⟨b,14,none⟩=some vw:=h.cell 14
theorem Bg.c15(h:Bg W b eb mb s vc vw es f co):W.cell? ⟨b,15,none⟩=some (.slice (some ⟨eb,0,none⟩) es.length es.length):=h.cell 15
theorem Bg.c16(h:Bg W b eb mb s vc vw es f co):W.cell? ⟨b,16,none⟩=some (.map (some mb)):=h.cell 16
theorem Bg.c17(h:Bg W b eb mb s vc vw es f co):W.cell? ⟨b,17,none⟩=some (.int .i64 co):=h.cell 17
theorem Bg.fr(h:Bg W b eb mb s vc vw es f co)(i:Nat):W.frozen? ⟨b,i,none⟩=false:=blk_fr h.hb i
theorem Bg.site(h:Bg W b eb mb s vc vw es f co):W.rangeAt b 0 (sv s):=fun j v hv=>by
 rw[Nat.zero_add,h.cell,←hv];have hj:j<13:=by have:=(List.getElem?_eq_some_iff.1 hv).1;rwa[sv_length]at this
 show(sv s++[vc,vw,_,_,_])[j]?=_;rw[List.getElem?_append_left (by rw[sv_length];exact hj)]
theorem Bg.stop(h:Bg W b eb mb s vc vw es f co){j:Nat}{a:RM.Sp}(hj:es[j]?=some a):W.rangeAt eb (j*3) [.int .i64 a.fl,.int .i64 a.he,.int .i64 a.le]:=fun i v hv=>by
 rw[blk_cell h.he];obtain⟨h0,h1,h2⟩:=tcs_get hj
 match i,hv with
 |0,hv=>cases hv;exact h0
 |1,hv=>cases hv;exact h1
 |2,hv=>cases hv;exact h2
 |i+3,hv=>simp at hv
theorem Bg.put17(h:Bg W b eb mb s vc vw es f co)(n:Int):Bg (W.setCell ⟨b,17,none⟩ (.int .i64 n)) b eb mb s vc vw es f n:=by
 have hk:Kp (fun k=>k=b) W (W.setCell ⟨b,17,none⟩ (.int .i64 n)):=(Kp.refl _ W).set _ _ _ (fun _=>rfl);exact⟨blk_set h.hb 17 _,(hk.block eb h.le (fun e=>h.n1 e.symm)).trans h.he,h.hm.keep (hk.block mb h.hm.lt (fun e=>h.n2 e.symm)),h.n1,h.n2,h.n3⟩
theorem Bg.there(h:Bg W b eb mb s vc vw es f co){j:Nat}{a:RM.Sp}(hj:es[j]?=some a):W.there eb (j*3) 3:=fun i hi=>by
 refine⟨?_,blk_fr h.he _⟩;have:=h.stop hj
 match i,hi with
 |0,_=>rw[this 0 _ rfl];rfl
 |1,_=>rw[this 1 _ rfl];rfl
 |2,_=>rw[this 2 _ rfl];rfl
theorem Bg.put(h:Bg W b eb mb s vc vw es f co){j:Nat}(a:RM.Sp):Bg (W.setCells eb (j*3) [.int .i64 a.fl,.int .i64 a.he,.int .i64 a.le]) b eb mb s vc vw (es.set j a) f co∧Kp (fun k=>k=eb) W (W.setCells eb (j*3) [.int .i64 a.fl,.int .i64 a.he,.int .i64 a.le]):=by
 have e:W.setCells eb (j*3) [.int .i64 a.fl,.int .i64 a.he,.int .i64 a.le]=((W.setCell ⟨eb,j*3,none⟩ (.int .i64 a.fl)).setCell ⟨eb,j*3+1,none⟩ (.int .i64 a.he)).setCell ⟨eb,j*3+2,none⟩ (.int .i64 a.le):=by
  rfl
 rw[e];have hk:Kp (fun k=>k=eb) W (((W.setCell ⟨eb,j*3,none⟩ (.int .i64 a.fl)).setCell ⟨eb,j*3+1,none⟩ (.int .i64 a.he)).setCell ⟨eb,j*3+2,none⟩ (.int .i64 a.le)):=(((Kp.refl (fun k=>k=eb) W).set eb _ _ (fun _=>rfl)).set eb _ _ (fun _=>rfl)).set eb _ _ (fun _=>rfl);refine⟨⟨?_,?_,h.hm.keep (hk.block mb h.hm.lt (fun e=>h.n3 e.symm)),h.n1,h.n2,h.n3⟩,hk⟩
 ·rw[List.length_set];exact(hk.block b h.lb h.n1).trans h.hb
 ·have:=blk_set (blk_set (blk_set h.he (j*3) (.int .i64 a.fl)) (j*3+1) (.int .i64 a.he)) (j*3+2) (.int .i64 a.le);rw[tcs_set]at this;exact this
end
theorem ixE(W:World){g n cap j:Nat}(hj:j<n):(Instr.indexAt 158 (.slice (some ⟨g,0,none⟩) n cap) (.int .i64 (j:Int))).run Tryz.prog W=.ok (.pointer (some ⟨g,j*3,none⟩)) W:=by
 rw[run_indexAt_slice W 158 _ n cap .i64 j (by kernel_rfl),if_pos ⟨by omega,by omega⟩,show Tryz.prog.elem 158=160 by kernel_rfl,Tryz.sizeOf160];simp only[Result.andThen_ok,Int.toNat_natCast,Addr.add_mid,Nat.zero_add]
theorem loadE(w:World)(b o:Nat)(a:RM.Sp)(h:w.rangeAt b o [.int .i64 a.fl,.int .i64 a.he,.int .i64 a.le]):
  (Instr.loadAt 160 (.pointer (some ⟨b,o,none⟩))).run Tryz.prog w=.ok (.agg #[.int .i64 a.fl,.int .i64 a.he,.int .i64 a.le]) w:=
 run_loadAt_mid (P:=Tryz.prog) w b o 160 _ _ h Tryz.underlying160 rfl infoT
theorem loadSE(w:World)(b o:Nat)(v:Value)(h:w.cell? ⟨b,o,none⟩=some v):(Instr.loadAt 158 (.pointer (some ⟨b,o,none⟩))).run Tryz.prog w=.ok v w:=by simp[go_sem,h]
theorem loadMB(w:World)(b o:Nat)(v:Value)(h:w.cell? ⟨b,o,none⟩=some v):(Instr.loadAt 257 (.pointer (some ⟨b,o,none⟩))).run Tryz.prog w=.ok v w:=by simp[go_sem,h]
theorem loadWV(w:World)(b:Nat)(y:Int×Int)(h:w.heap[b]?=some (.cells #[.int .i64 y.1,.int .i64 y.2] 131 (0,0))):(Instr.loadAt 131 (.pointer (some ⟨b,0,none⟩))).run Tryz.prog w=.ok (wv y) w:=by
 have h0:w.cell? ⟨b,0,none⟩=some (.int .i64 y.1):=by rw[cell_of_row _ _ 0 _ _ _ h];rfl
 have h1:w.cell? ⟨b,1,none⟩=some (.int .i64 y.2):=by rw[cell_of_row _ _ 1 _ _ _ h];rfl
 unfold wv;simp[go_sem,h0,h1]
section
variable {W0:World} {K:Act→Prop} {o:Oper} {a:Act}
theorem calm_ixE(x y:Operand){g n cap j:Nat}(ho:o.op=.indexAddr 158 x y)(hx:a.eval x=.slice (some ⟨g,0,none⟩) n cap)(hy:a.eval y=.int .i64 (j:Int))(hj:j<n)
  (h:K (a.put o.dst (.pointer (some ⟨g,j*3,none⟩)))):Oper.calm Tryz.prog W0 o a K:=
 calm_val _ (fun w hw=>by unfold execOp;simp only[ho,hx,hy,Sem.run_bind,Sem.run_pure,Result.andThen_ok,ixE w hj]) h
theorem calm_loadE(x:Operand)(b k:Nat)(s:RM.Sp)(ho:o.op=.load 160 x)(hx:a.eval x=.pointer (some ⟨b,k,none⟩))(hr:∀w,Below W0.heap.size W0 w→w.rangeAt b k [.int .i64 s.fl,.int .i64 s.he,.int .i64 s.le])
  (h:K (a.put o.dst (.agg #[.int .i64 s.fl,.int .i64 s.he,.int .i64 s.le]))):Oper.calm Tryz.prog W0 o a K:=
 calm_val _ (fun w hw=>by unfold execOp;simp only[ho,hx,Sem.run_bind,Sem.run_pure,Result.andThen_ok,loadE w b k s (hr w hw)]) h
theorem calm_loadSE(x:Operand)(b k:Nat){v:Value}(ho:o.op=.load 158 x)(hx:a.eval x=.pointer (some ⟨b,k,none⟩))(hr:∀w,Below W0.heap.size W0 w→w.cell? ⟨b,k,none⟩=some v)
  (h:K (a.put o.dst v)):Oper.calm Tryz.prog W0 o a K:=
 calm_val _ (fun w hw=>by unfold execOp;simp only[ho,hx,Sem.run_bind,Sem.run_pure,Result.andThen_ok,loadSE w b k v (hr w hw)]) h
theorem calm_loadMB(x:Operand)(b k:Nat){v:Value}(ho:o.op=.load 257 x)(hx:a.eval x=.pointer (some ⟨b,k,none⟩))(hr:∀w,Below W0.heap.size W0 w→w.cell? ⟨b,k,none⟩=some v)
  (h:K (a.put o.dst v)):Oper.calm Tryz.prog W0 o a K:=
 calm_val _ (fun w hw=>by unfold execOp;simp only[ho,hx,Sem.run_bind,Sem.run_pure,Result.andThen_ok,loadMB w b k v (hr w hw)]) h
theorem calm_load23b(x:Operand)(b:Nat)(s:St)(ho:o.op=.load 23 x)(hx:a.eval x=.pointer (some ⟨b,0,none⟩))(hr:∀w,Below W0.heap.size W0 w→w.rangeAt b 0 (sv s))
  (h:K (a.put o.dst (.agg (sv s).toArray))):Oper.calm Tryz.prog W0 o a K:=
 calm_val _ (fun w hw=>by unfold execOp;simp only[ho,hx,Sem.run_bind,Sem.run_pure,Result.andThen_ok,load23 w b s (hr w hw)]) h
theorem calm_loadWV(x:Operand)(b:Nat)(y:Int×Int)(ho:o.op=.load 131 x)(hx:a.eval x=.pointer (some ⟨b,0,none⟩))(hr:∀w,Below W0.heap.size W0 w→w.heap[b]?=some (.cells #[.int .i64 y.1,.int .i64 y.2] 131 (0,0)))
  (h:K (a.put o.dst (wv y))):Oper.calm Tryz.prog W0 o a K:=
 calm_val _ (fun w hw=>by unfold execOp;simp only[ho,hx,Sem.run_bind,Sem.run_pure,Result.andThen_ok,loadWV w b y (hr w hw)]) h
end
theorem wpList_storeE{ops:Array Oper}{rest:List Oper}{op:Oper}{a:Act}{w:World}{Q:Exit→Act→World→Prop}(hgd:op.guard=none)(x y:Operand)(ho:op.op=.store 160 x y)
  {b eb mb:Nat} {s:St} {vc vw:Value} {es:List RM.Sp} {f:Int→Option (Int×Int)} {co:Int} (h:Bg w b eb mb s vc vw es f co) {j:Nat} {z:RM.Sp} (hj:es[j]?=some z) (n:RM.Sp)
  (hx:a.eval x=.pointer (some ⟨eb,j*3,none⟩)) (hy:a.eval y=.agg #[.int .i64 n.fl,.int .i64 n.he,.int .i64 n.le])
  (hn:∀W',Kp (fun k=>k=eb) w W'→Bg W' b eb mb s vc vw (es.set j n) f co→wpList Tryz.prog ops Q rest (a.put op.dst undef) W'):wpList Tryz.prog ops Q (op::rest) a w:=
 wpList_store_mid hgd 160 x y ho eb (j*3) #[.int .i64 n.fl,.int .i64 n.he,.int .i64 n.le] hx hy (h.there hj) infoT (by simp[Value.oneCell']) (hn _ (h.put n).2 (h.put n).1)
theorem has_any(f:Int)(m c:Nat)(hc:c≤64)(w:World):Calls Tryz.prog 172 #[.agg #[.int .i64 f,.int .i64 (m:Int)],.int .i64 (c:Int)] w fun e w'=>e=.returned (.bool (PM.bt m c))∧Below w.heap.size w w':=by
 have hb:=(Below.refl w.heap.size w).alloc (Nat.le_refl _) (.cells #[.int .i64 f,.int .i64 (m:Int)] 131);have hsh:=shr_any m c hc;have HE:=Hd (bt_bits m c)
 go_enter Tryz.func172,Tryz.ntmps172
 go_wp2;go_ret;exact⟨ret_bool HE.out,hb⟩
section
variable {W:World} {b eb mb:Nat} {s:St} {vc vw:Value} {es:List RM.Sp} {f:Int→Option (Int×Int)} {co:Int}
theorem take_none(h:Bg W b eb mb s vc vw es f co)(c:Nat)(x:Int)(hn:f x=none):
  Calls Tryz.prog 161 #[.pointer (some ⟨b,0,none⟩),.int .i64 (c:Int),.int .i64 x] W fun e w'=>e=.returned (.bool false)∧Below W.heap.size W w':=by
 have hlk:(Instr.lookup 257 (.map (some mb)) (.int .i64 x) true).run Tryz.prog W=.ok (.tuple #[.agg #[.int .i64 0,.int .i64 0],.bool false]) W:=by
  have:=h.hm.look x;rw[hn]at this;exact this
 have c16:=h.c16;have HB:=Hd ((Below.refl W.heap.size W).alloc (Nat.le_refl _) (.cells #[.int .i64 0,.int .i64 0] 131));clear h hn
 go_enter Tryz.func161,Tryz.ntmps161
 go_wp2;go_ret;exact⟨rfl,HB.out⟩
theorem take_not(h:Bg W b eb mb s vc vw es f co)(c:Nat)(hc:c≤64)(x g:Int)(m:Nat)(hn:f x=some (g,(m:Int)))(hb:PM.bt m c=false):
  Calls Tryz.prog 161 #[.pointer (some ⟨b,0,none⟩),.int .i64 (c:Int),.int .i64 x] W fun e w'=>e=.returned (.bool false)∧Below W.heap.size W w':=by
 have hlk:(Instr.lookup 257 (.map (some mb)) (.int .i64 x) true).run Tryz.prog W=.ok (.tuple #[.agg #[.int .i64 g,.int .i64 (m:Int)],.bool true]) W:=by
  have:=h.hm.look x;rw[hn]at this;exact this
 have c16:=h.c16;have HB:=Hd ((Below.refl W.heap.size W).alloc (Nat.le_refl _) (.cells #[.int .i64 g,.int .i64 (m:Int)] 131));have HH:=Hd (has_any g m c hc);rw[hb]at HH;clear h hn hb
 go_enter Tryz.func161,Tryz.ntmps161
 go_wp2_with fail
 refine (HH.out _).mono ?_;rintro e W2 ⟨rfl,hb2⟩;have HB2:=Hd (below_class HB.out hb2);clear hb2 HB HH c16 hlk;go_wp2;go_ret;exact⟨rfl,HB2.out⟩
theorem take_yes(h:Bg W b eb mb s vc vw es f co)(c:Nat)(hc:c≤64)(a:RM.Sp)(hj:es[c]?=some a)(x g:Int)(m:Nat)(hn:f x=some (g,(m:Int)))(hb:PM.bt m c=true)
  (r:SM.Rt s) (ok:RM.Ok s a) (hle:a.le≤100000000) (h0:0≤g) (h1:g<s.fl) (hc0:0≤co) (hc1:co≤1000000000000):
  Calls Tryz.prog 161 #[.pointer (some ⟨b,0,none⟩),.int .i64 (c:Int),.int .i64 x] W fun e w'=>e=.returned (.bool true)∧
   Bg w' b eb mb s vc vw (es.set c (RM.nx s a g)) (fun j=>if j=x then none else f j) (co+RM.ar s a g)∧Kp (bp b eb mb) W w':=by
 have hlk:(Instr.lookup 257 (.map (some mb)) (.int .i64 x) true).run Tryz.prog W=.ok (.tuple #[.agg #[.int .i64 g,.int .i64 (m:Int)],.bool true]) W:=by
  have:=h.hm.look x;rw[hn]at this;exact this
 have c16:=h.c16;have HX:=Hd (World.alloc_heap_new W (.cells #[.int .i64 g,.int .i64 (m:Int)] 131));have HB:=Hd ((Below.refl W.heap.size W).alloc (Nat.le_refl _) (.cells #[.int .i64 g,.int .i64 (m:Int)] 131));have HG:=Hd h;have HH:=Hd (has_any g m c hc);rw[hb]at HH;have HF:=Hd hn;have HJ:=Hd hj;have hcl:c<es.length:=(List.getElem?_eq_some_iff.1 hj).1;have HNE:=Hd (RM.nx_eq ok g);have HNX:Hid (∀w',Calls Tryz.prog 129 #[.agg (sv s).toArray,.agg #[.int .i64 a.fl,.int .i64 a.he,.int .i64 a.le],.int .i64 g] w' fun e w''=>e=.returned (.agg #[.int .i64 g,.int .i64 (RM.ar s a g),.int .i64 (RM.ar s a g+RM.dw s)])∧Below w'.heap.size w' w''):=fun w'=>next_any s r a ok hle g h0 h1 w';have HAB:=Hd (And.intro (RM.ar_nn r ok g) (RM.ar_le r ok g))
 have HAD:Hid (∀w',Calls Tryz.prog 58 #[.int .i64 co,.int .i64 (RM.ar s a g)] w' fun e w''=>e=.returned (.int .i64 (co+RM.ar s a g))∧Below w'.heap.size w' w''):=fun w'=>(add_any co (RM.ar s a g) w').mono fun e w'' hh=>by
  obtain⟨he,rfl⟩:=hh;refine⟨?_,Below.refl _ _⟩;rw[he,SM.addC hc0 HAB.out.1 (by have:=HAB.out;omega)]
 clear h hn hb hj r ok hle h0 h1 hc0 hc1 HAB;generalize RM.ar s a g=T at HNE HNX HAD⊢;generalize T+RM.dw s=L at HNE HNX;generalize RM.nx s a g=n at HNE⊢;generalize co+T=co2 at HAD⊢
 go_enter Tryz.func161,Tryz.ntmps161
 go_wp2_with fail
 refine (HH.out _).mono ?_;rintro e W2 ⟨rfl,hb2⟩;have HX2:Hid (W2.heap[W.heap.size]?=some (.cells #[.int .i64 g,.int .i64 (m:Int)] 131 (0,0))):=(hb2.block W.heap.size (by simp)).trans HX.out;have hbb:=below_class HB.out hb2;have HG2:=Hd (HG.out.below' hbb);have HK2:=Hd (Kp.ofBelow (bp b eb mb) hbb);obtain⟨W3,hdel,hm3,hk3⟩:=HG2.out.hm.drop HF.out;have c16b:=HG2.out.c16;have HG3:Hid (Bg W3 b eb mb s vc vw es (fun j=>if j=x then none else f j) co):=⟨(hk3.block b HG2.out.lb HG2.out.n2).trans HG2.out.hb,(hk3.block eb HG2.out.le HG2.out.n3).trans HG2.out.he,hm3,HG2.out.n1,HG2.out.n2,HG2.out.n3⟩;have HK3:Hid (Kp (bp b eb mb) W W3):=HK2.out.trans hk3 (fun i _ e=>.inr (.inr e));have HX3:Hid (W3.heap[W.heap.size]?=some (.cells #[.int .i64 g,.int .i64 (m:Int)] 131 (0,0))):=(hk3.block W.heap.size (Array.getElem?_eq_some_iff.1 HX2.out).1 (fun e=>by have:=HG.out.hm.lt;omega)).trans HX2.out;clear hbb hb2 HX HB HH c16 hlk hm3 hk3 HG2 HK2 HX2
 go_wp2_with fail
 clear hdel c16b;have hGA:∀w',Below W3.drew.heap.size W3.drew w'→Bg w' b eb mb s vc vw es (fun j=>if j=x then none else f j) co:=fun w' hw=>HG3.out.drew.below' hw;have H15:Hid (∀w',Below W3.drew.heap.size W3.drew w'→w'.cell? ⟨b,15,none⟩=some (.slice (some ⟨eb,0,none⟩) es.length es.length)):=fun w' hw=>(hGA w' hw).c15;have HST:Hid (∀w',Below W3.drew.heap.size W3.drew w'→w'.rangeAt b 0 (sv s)):=fun w' hw=>(hGA w' hw).site;have HSP:Hid (∀w',Below W3.drew.heap.size W3.drew w'→w'.rangeAt eb (c*3) [.int .i64 a.fl,.int .i64 a.he,.int .i64 a.le]):=fun w' hw=>(hGA w' hw).stop HJ.out
 have HXG:Hid (∀w',Below W3.drew.heap.size W3.drew w'→w'.cell? ⟨W.heap.size,0,none⟩=some (.int .i64 g)):=fun w' hw=>by
  rw[cell_of_row _ _ 0 _ _ _ ((hw.block W.heap.size (Array.getElem?_eq_some_iff.1 HX3.out).1).trans HX3.out)];rfl
 clear hGA;refine wp_region_tail 21 (by kernel_rfl) (by kernel_rfl) ?_;simp only[List.take_succ_cons,List.take_zero,List.drop_succ_cons,List.drop_zero]
 iterate 3 (unfold wpCalm;generalize hK:wpCalm _ _ _ _ _=K;unfold Oper.calm;go_simp;refine⟨_,fun _ _=>rfl,?_⟩;subst hK)
 unfold wpCalm;generalize hK:wpCalm _ _ _ _ _=K;rw[if_pos (by go_simp)];refine calm_loadSE _ _ _ rfl rfl H15.out ?_;go_simp;subst hK
 iterate 5 (unfold wpCalm;generalize hK:wpCalm _ _ _ _ _=K;unfold Oper.calm;go_simp;refine⟨_,fun _ _=>rfl,?_⟩;subst hK)
 unfold wpCalm;generalize hK:wpCalm _ _ _ _ _=K;rw[if_pos (by go_simp)];refine calm_load23b _ b s rfl rfl HST.out ?_;go_simp;subst hK
 iterate 3 (unfold wpCalm;generalize hK:wpCalm _ _ _ _ _=K;unfold Oper.calm;go_simp;refine⟨_,fun _ _=>rfl,?_⟩;subst hK)
 unfold wpCalm;generalize hK:wpCalm _ _ _ _ _=K;rw[if_pos (by go_simp)];refine calm_loadSE _ _ _ rfl rfl H15.out ?_;go_simp;subst hK;unfold wpCalm;generalize hK:wpCalm _ _ _ _ _=K;unfold Oper.calm;go_simp;refine⟨_,fun _ _=>rfl,?_⟩;subst hK;unfold wpCalm;generalize hK:wpCalm _ _ _ _ _=K;rw[if_pos (by go_simp)];refine calm_ixE _ _ rfl rfl rfl hcl ?_;go_simp;subst hK;unfold wpCalm;generalize hK:wpCalm _ _ _ _ _=K;rw[if_pos (by go_simp)];refine calm_loadE _ _ _ a rfl rfl HSP.out ?_;go_simp;subst hK;unfold wpCalm;generalize hK:wpCalm _ _ _ _ _=K;unfold Oper.calm;go_simp;refine⟨_,fun _ _=>rfl,?_⟩;subst hK;unfold wpCalm;generalize hK:wpCalm _ _ _ _ _=K;rw[if_pos (by go_simp)];refine calm_load3 _ _ _ rfl rfl HXG.out ?_;go_simp;subst hK;unfold wpCalm;generalize hK:wpCalm _ _ _ _ _=K;unfold Oper.calm;go_simp;refine⟨_,fun w' hw=>HNX.out w',?_⟩;subst hK;unfold wpCalm;generalize hK:wpCalm _ _ _ _ _=K;rw[if_pos (by go_simp)];refine calm_ixE _ _ rfl rfl rfl hcl ?_;go_simp;subst hK;refine wpCalm_nil ?_;intro W4 hb4;have hbd:=(Below.refl W3.heap.size W3).drew.trans hb4;have HG4:=Hd (HG3.out.below' hbd);have HK4:=Hd (HK3.out.thenBelow hbd);clear hbd hb4 H15 HST HSP HXG HG3 HK3 HX3 HNX
 go_wp2_with (refine wpList_storeE rfl _ _ rfl HG4.out HJ.out ⟨g,T,L⟩ rfl rfl ?_)
 intro W5 hk5 hg5;have HG5:=Hd hg5;have HK5:Hid (Kp (bp b eb mb) W W5):=HK4.out.trans hk5 (fun i _ e=>.inr (.inl e));have HJ5:Hid ((es.set c (⟨g,T,L⟩:RM.Sp))[c]?=some ⟨g,T,L⟩):=List.getElem?_set_self hcl;rw[←HNE.out]at HG5 HJ5;clear hk5 hg5 HG4 HK4 HJ
 go_wp2_with fail
 have hGA:∀w',Below W5.drew.heap.size W5.drew w'→Bg w' b eb mb s vc vw (es.set c n) (fun j=>if j=x then none else f j) co:=fun w' hw=>HG5.out.drew.below' hw;have H15:Hid (∀w',Below W5.drew.heap.size W5.drew w'→w'.cell? ⟨b,15,none⟩=some (.slice (some ⟨eb,0,none⟩) es.length es.length)):=fun w' hw=>by have:=(hGA w' hw).c15;rwa[List.length_set]at this
 have H17:Hid (∀w',Below W5.drew.heap.size W5.drew w'→w'.cell? ⟨b,17,none⟩=some (.int .i64 co)):=fun w' hw=>(hGA w' hw).c17;have HHE:Hid (∀w',Below W5.drew.heap.size W5.drew w'→w'.cell? ⟨eb,c*3+1,none⟩=some (.int .i64 T)):=fun w' hw=>by have:=(hGA w' hw).stop HJ5.out 1 _ rfl;rw[HNE.out]at this;exact this
 clear hGA;refine wp_region_tail 16 (by kernel_rfl) (by kernel_rfl) ?_;simp only[List.take_succ_cons,List.take_zero,List.drop_succ_cons,List.drop_zero]
 iterate 4 (unfold wpCalm;generalize hK:wpCalm _ _ _ _ _=K;unfold Oper.calm;go_simp;refine⟨_,fun _ _=>rfl,?_⟩;subst hK)
 unfold wpCalm;generalize hK:wpCalm _ _ _ _ _=K;rw[if_pos (by go_simp)];refine calm_load3 _ _ _ rfl rfl H17.out ?_;go_simp;subst hK
 iterate 3 (unfold wpCalm;generalize hK:wpCalm _ _ _ _ _=K;unfold Oper.calm;go_simp;refine⟨_,fun _ _=>rfl,?_⟩;subst hK)
 unfold wpCalm;generalize hK:wpCalm _ _ _ _ _=K;rw[if_pos (by go_simp)];refine calm_loadSE _ _ _ rfl rfl H15.out ?_;go_simp;subst hK;unfold wpCalm;generalize hK:wpCalm _ _ _ _ _=K;unfold Oper.calm;go_simp;refine⟨_,fun _ _=>rfl,?_⟩;subst hK;unfold wpCalm;generalize hK:wpCalm _ _ _ _ _=K;rw[if_pos (by go_simp)];refine calm_ixE _ _ rfl rfl rfl hcl ?_;go_simp;subst hK;unfold wpCalm;generalize hK:wpCalm _ _ _ _ _=K;unfold Oper.calm;go_simp;refine⟨_,fun _ _=>rfl,?_⟩;subst hK;unfold wpCalm;generalize hK:wpCalm _ _ _ _ _=K;rw[if_pos (by go_simp)];refine calm_load3 _ _ _ rfl rfl HHE.out ?_;go_simp;subst hK;unfold wpCalm;generalize hK:wpCalm _ _ _ _ _=K;unfold Oper.calm;go_simp;refine⟨_,fun w' hw=>HAD.out w',?_⟩;subst hK
 iterate 2 (unfold wpCalm;generalize hK:wpCalm _ _ _ _ _=K;unfold Oper.calm;go_simp;refine⟨_,fun _ _=>rfl,?_⟩;subst hK)
 refine wpCalm_nil ?_;intro W6 hb6;have hbd:=(Below.refl W5.heap.size W5).drew.trans hb6;have HG6:=Hd (HG5.out.below' hbd);have HK6:=Hd (HK5.out.thenBelow hbd);have c17:=HG6.out.c17;have f17:=HG6.out.fr 17;have HE:Hid (Bg (W6.setCell ⟨b,17,none⟩ (.int .i64 co2)) b eb mb s vc vw (es.set c n) (fun j=>if j=x then none else f j) co2∧Kp (bp b eb mb) W (W6.setCell ⟨b,17,none⟩ (.int .i64 co2))):=⟨HG6.out.put17 co2,HK6.out.set b 17 _ (fun _=>.inl rfl)⟩;clear hbd hb6 H15 H17 HHE HG5 HK5 HAD HG6 HK6;go_wp2;go_ret;exact⟨rfl,HE.out.1,HE.out.2⟩
end
def eml(l:List Int):Int:=l.foldl min 1099511627776
theorem eml_snoc(l:List Int)(t:Int):eml (l++[t])=min (eml l) t:=by unfold eml;rw[List.foldl_append];rfl
theorem eml_nil:eml []=1099511627776:=rfl
theorem eml_low{l:List Int}(h:∀t∈l,t≤1099511627776)(hn:l≠[]):eml l=RM.low l:=by
 cases l with
 |nil=>exact absurd rfl hn
 |cons a l=>
  unfold eml RM.low RM.lo;rw[List.foldl_cons,show min 1099511627776 a=a by have:=h a (by simp);omega];rfl
theorem eml_bd{l:List Int}(h:∀t∈l,0≤t):0≤eml l∧eml l≤1099511627776:=by
 have:=RM.fold_min (l:=l) (a:=1099511627776);refine⟨?_,this.2.1⟩;show 0≤l.foldl min 1099511627776;rcases this.1 with e|e
 ·rw[e];decide
 ·exact h _ e
section
variable {W0:World} {K:Act→Prop} {o:Oper} {a:Act}
theorem calm_fieldT(x:Operand){f h l:Int}(ho:o.op=.field 160 x 1)(hx:a.eval x=.agg #[.int .i64 f,.int .i64 h,.int .i64 l])
  (hK:K (a.put o.dst (.int .i64 h))):Oper.calm Tryz.prog W0 o a K:=
 calm_val _ (fun w hw=>by
  have hf:(Instr.field 160 (.agg #[.int .i64 f,.int .i64 h,.int .i64 l]) 1).run Tryz.prog w=.ok (.int .i64 h) w:=by kernel_rfl
  unfold execOp
  simp only[ho,hx,Sem.run_bind,Sem.run_pure,Result.andThen_ok,hf]) hK
theorem calm_min(x y:Operand){ats:Array TypeId}{t T:Int}(ho:o.op=.call {callee:=.builtin .min,args:= #[x,y],argTypes:=ats})(hx:a.eval x=.int .i64 t)(hy:a.eval y=.int .i64 T)
  (hK:K (a.put o.dst (.int .i64 (min t T)))):Oper.calm Tryz.prog W0 o a K:=
 calm_val _ (fun w hw=>by
  have hm:(Builtin.min_ ats o.type #[.int .i64 t,.int .i64 T]).run Tryz.prog w=.ok (.int .i64 (min t T)) w:=by
   have e:min t T=if T<t then T else t:=by split<;>omega
   rw[e];rfl
  unfold execOp
  simp[ho,resolve,invoke,hx,hy,builtin,hm,Result.andThen]) hK
end
section
variable {W:World} {b eb mb:Nat} {s:Sn} {vc vw:Value} {f:Int→Option (Int×Int)} {co:Int} {p:List (List Int)}
theorem earliest_any(h:Bg W b eb mb s.st vc vw (asp s s.cs p) f co)(z:RM.Rz s.st s.ws s.cs)(hcp:s.cs.length=p.length)(hc8:s.cs.length≤8)(haf:∀r∈s.cs,r.2≤1000000)(hpr:∀x∈p.flatten,0≤x∧x<s.ws.length)(hll:∀l∈p,l.length≤1000)
  (k m:Nat) (hk:k≤s.cs.length) (g:Int) (h0:0≤g) (h1:g<s.st.fl):
  Calls Tryz.prog 173 #[.pointer (some ⟨b,0,none⟩),.int .i64 (k:Int),.agg #[.int .i64 g,.int .i64 (m:Int)]] W fun e w'=>e=.returned (.int .i64 (eml (RM.opk s.st s.ws s.cs p g m k s.cs.length)))∧Below W.heap.size W w':=by
 have hel:(asp s s.cs p).length=s.cs.length:=asp_length hcp;have hb0:=(Below.refl W.heap.size W).alloc (Nat.le_refl _) (.cells #[.int .i64 g,.int .i64 (m:Int)] 131);have HG0:Hid (Bg (W.alloc (.cells #[.int .i64 g,.int .i64 (m:Int)] 131)) b eb mb s.st vc vw (asp s s.cs p) f co∧(W.alloc (.cells #[.int .i64 g,.int .i64 (m:Int)] 131)).heap[W.heap.size]?=some (.cells #[.int .i64 g,.int .i64 (m:Int)] 131 (0,0))∧Below W.heap.size W (W.alloc (.cells #[.int .i64 g,.int .i64 (m:Int)] 131))):=⟨h.below' hb0,World.alloc_heap_new W _,hb0⟩;have HZ:=Hd z;have HX:=Hd (And.intro haf (And.intro hpr (And.intro hll (And.intro h0 h1))));have HCP:=Hd hcp;have HBD:Hid (∀c,∀t∈RM.opk s.st s.ws s.cs p g m k c,0≤t∧t≤80000000):=fun c=>RM.ops_bd z hpr haf hll;clear h hb0 z hcp haf hpr hll h0 h1
 go_enter Tryz.func173,Tryz.ntmps173
 go_wp2_with fail
 generalize W.alloc (.cells #[.int .i64 g,.int .i64 (m:Int)] 131)=W1 at HG0⊢
 go_loopw [7,8] (fun tv cv wr=>∃(c:Nat) (t:Int),k≤c∧c≤s.cs.length∧tv=.int .i64 t∧cv=.int .i64 (c:Int)∧Hid (t=eml (RM.opk s.st s.ws s.cs p g m k c))∧Hid (Bg wr b eb mb s.st vc vw (asp s s.cs p) f co∧wr.heap[W.heap.size]?=some (.cells #[.int .i64 g,.int .i64 (m:Int)] 131 (0,0))∧Below W.heap.size W wr)) (fun _ cv _=>s.cs.length-(intOf cv).toNat)
 case atStart=>exact⟨k,_,Nat.le_refl _,hk,rfl,rfl,by show _=_;rw[RM.opk_start];rfl,HG0⟩
 case round=>
  clear HG0;obtain⟨c,t,hkc,hcn,rfl,rfl,HT,HG⟩:=hrel;have c15:=HG.out.1.c15;rw[hel]at c15;by_cases hlt:c<s.cs.length
  ·have hcz:(c:Int)<(s.cs.length:Int):=by omega
   have w0:wr.cell? ⟨W.heap.size,0,none⟩=some (.int .i64 g):=by rw[cell_of_row _ _ 0 _ _ _ HG.out.2.1];rfl
   have w1:wr.cell? ⟨W.heap.size,1,none⟩=some (.int .i64 (m:Int)):=by rw[cell_of_row _ _ 1 _ _ _ HG.out.2.1];rfl
   obtain⟨r,hr⟩:∃r,s.cs[c]?=some r:=⟨_,List.getElem?_eq_getElem hlt⟩;obtain⟨l,hl⟩:∃l,p[c]?=some l:=⟨_,List.getElem?_eq_getElem (by have:=HCP.out;omega)⟩;have HOS:=Hd (RM.opk_succ (s:=s.st) (ws:=s.ws) (f:=g) (m:=m) HCP.out hkc hr hl);have HH:=Hd (has_any g m c (by omega));have HRL:=Hd (And.intro hr hl);clear hr hl
   go_wp2_with fail
   refine (HH.out wr).mono ?_;rintro e W2 ⟨rfl,hb2⟩;have HG2:Hid (Bg W2 b eb mb s.st vc vw (asp s s.cs p) f co∧W2.heap[W.heap.size]?=some (.cells #[.int .i64 g,.int .i64 (m:Int)] 131 (0,0))∧Below W.heap.size W W2):=⟨HG.out.1.below' hb2,(hb2.block _ (Array.getElem?_eq_some_iff.1 HG.out.2.1).1).trans HG.out.2.1,below_class HG.out.2.2 hb2⟩;clear hb2 HG HH w0 w1 c15;cases hbt:PM.bt m c with
   |false=>
    have HT2:Hid (t=eml (RM.opk s.st s.ws s.cs p g m k (c+1))):=by
     show _=_;rw[HOS.out,hbt,if_neg (by simp),List.append_nil,HT.out]
    clear hbt HOS;go_wp2;go_roundw
    case rel=>exact⟨c+1,t,by omega,by omega,rfl,by go_num,HT2,HG2⟩
    case measure=>simp[intOf];omega
   |true=>
    have hall:∀x∈l,0≤x∧x<s.ws.length:=fun x hx=>HX.out.2.1 x (List.mem_flatten.2 ⟨l,List.mem_of_getElem? HRL.out.2,hx⟩);have hin:=HZ.out.inn (l:=l) hall;have ok0:=HZ.out.cr r (List.mem_of_getElem? HRL.out.1);have hok:=RM.go_ok HZ.out.rt ok0 hin
    have hle:(RM.go s.st (RM.bg r) (l.map (RM.wf s.ws))).le≤100000000:=by
     have g3:=RM.go_le HZ.out.rt ok0 hin;rw[List.length_map]at g3;have g7:(RM.bg r).le=r.2:=rfl;have:=HX.out.1 r (List.mem_of_getElem? HRL.out.1);have:=HX.out.2.2.1 l (List.mem_of_getElem? HRL.out.2);omega
    have HJ:=Hd (asp_get (s:=s) HRL.out.1 HRL.out.2);have HNX:Hid (∀w',Calls Tryz.prog 129 #[.agg (sv s.st).toArray,.agg #[.int .i64 (RM.go s.st (RM.bg r) (l.map (RM.wf s.ws))).fl,.int .i64 (RM.go s.st (RM.bg r) (l.map (RM.wf s.ws))).he,.int .i64 (RM.go s.st (RM.bg r) (l.map (RM.wf s.ws))).le],.int .i64 g] w' fun e w''=>e=.returned (.agg #[.int .i64 g,.int .i64 (RM.ar s.st (RM.go s.st (RM.bg r) (l.map (RM.wf s.ws))) g),.int .i64 (RM.ar s.st (RM.go s.st (RM.bg r) (l.map (RM.wf s.ws))) g+RM.dw s.st)])∧Below w'.heap.size w' w''):=fun w'=>next_any s.st HZ.out.rt _ hok hle g HX.out.2.2.2.1 HX.out.2.2.2.2 w';rw[hbt,if_pos rfl]at HOS
    have HT2:Hid (eml (RM.opk s.st s.ws s.cs p g m k (c+1))=min t (RM.ar s.st (RM.go s.st (RM.bg r) (l.map (RM.wf s.ws))) g)):=by
     show _=_;rw[HOS.out,eml_snoc,←HT.out]
    clear hbt HOS hall hin ok0 hok hle;generalize RM.go s.st (RM.bg r) (l.map (RM.wf s.ws))=a at HJ HNX HT2;generalize RM.ar s.st a g=T at HNX HT2;generalize T+RM.dw s.st=L at HNX;have hcl:c<s.cs.length:=hlt
    go_wp2_with fail
    have H15:Hid (∀w',Below W2.drew.heap.size W2.drew w'→w'.cell? ⟨b,15,none⟩=some (.slice (some ⟨eb,0,none⟩) s.cs.length s.cs.length)):=fun w' hw=>by have:=(HG2.out.1.drew.below' hw).c15;rwa[hel]at this
    have HST:Hid (∀w',Below W2.drew.heap.size W2.drew w'→w'.rangeAt b 0 (sv s.st)):=fun w' hw=>(HG2.out.1.drew.below' hw).site;have HSP:Hid (∀w',Below W2.drew.heap.size W2.drew w'→w'.rangeAt eb (c*3) [.int .i64 a.fl,.int .i64 a.he,.int .i64 a.le]):=fun w' hw=>(HG2.out.1.drew.below' hw).stop HJ.out
    have HXG:Hid (∀w',Below W2.drew.heap.size W2.drew w'→w'.cell? ⟨W.heap.size,0,none⟩=some (.int .i64 g)):=fun w' hw=>by
     rw[cell_of_row _ _ 0 _ _ _ ((hw.block W.heap.size (Array.getElem?_eq_some_iff.1 HG2.out.2.1).1).trans HG2.out.2.1)];rfl
    refine wp_region_tail 18 (by kernel_rfl) (by kernel_rfl) ?_;simp only[List.take_succ_cons,List.take_zero,List.drop_succ_cons,List.drop_zero]
    iterate 5 (unfold wpCalm;generalize hK:wpCalm _ _ _ _ _=K;unfold Oper.calm;go_simp;refine⟨_,fun _ _=>rfl,?_⟩;subst hK)
    unfold wpCalm;generalize hK:wpCalm _ _ _ _ _=K;rw[if_pos (by go_simp)];refine calm_load23b _ b s.st rfl rfl HST.out ?_;go_simp;subst hK
    iterate 3 (unfold wpCalm;generalize hK:wpCalm _ _ _ _ _=K;unfold Oper.calm;go_simp;refine⟨_,fun _ _=>rfl,?_⟩;subst hK)
    unfold wpCalm;generalize hK:wpCalm _ _ _ _ _=K;rw[if_pos (by go_simp)];refine calm_loadSE _ _ _ rfl rfl H15.out ?_;go_simp;subst hK;unfold wpCalm;generalize hK:wpCalm _ _ _ _ _=K;unfold Oper.calm;go_simp;refine⟨_,fun _ _=>rfl,?_⟩;subst hK;unfold wpCalm;generalize hK:wpCalm _ _ _ _ _=K;rw[if_pos (by go_simp)];refine calm_ixE _ _ rfl rfl rfl hcl ?_;go_simp;subst hK;unfold wpCalm;generalize hK:wpCalm _ _ _ _ _=K;rw[if_pos (by go_simp)];refine calm_loadE _ _ _ a rfl rfl HSP.out ?_;go_simp;subst hK;unfold wpCalm;generalize hK:wpCalm _ _ _ _ _=K;unfold Oper.calm;go_simp;refine⟨_,fun _ _=>rfl,?_⟩;subst hK;unfold wpCalm;generalize hK:wpCalm _ _ _ _ _=K;rw[if_pos (by go_simp)];refine calm_load3 _ _ _ rfl rfl HXG.out ?_;go_simp;subst hK;unfold wpCalm;generalize hK:wpCalm _ _ _ _ _=K;unfold Oper.calm;go_simp;refine⟨_,fun w' hw=>HNX.out w',?_⟩;subst hK;unfold wpCalm;generalize hK:wpCalm _ _ _ _ _=K;rw[if_pos (by go_simp)];refine calm_fieldT _ rfl rfl ?_;go_simp;subst hK;unfold wpCalm;generalize hK:wpCalm _ _ _ _ _=K;rw[if_pos (by go_simp)];refine calm_min _ _ rfl rfl rfl ?_;go_simp;subst hK;refine wpCalm_nil ?_;rw[←HT2.out];have HT3:Hid (eml (RM.opk s.st s.ws s.cs p g m k (c+1))=eml (RM.opk s.st s.ws s.cs p g m k (c+1))):=rfl;generalize hu:eml (RM.opk s.st s.ws s.cs p g m k (c+1))=u at HT3⊢;have HU:=Hd hu.symm;clear hu HT3 HT2;intro W3 hb3;have hbd:=(Below.refl W2.heap.size W2).drew.trans hb3;have HG3:Hid (Bg W3 b eb mb s.st vc vw (asp s s.cs p) f co∧W3.heap[W.heap.size]?=some (.cells #[.int .i64 g,.int .i64 (m:Int)] 131 (0,0))∧Below W.heap.size W W3):=⟨HG2.out.1.below' hbd,(hbd.block _ (Array.getElem?_eq_some_iff.1 HG2.out.2.1).1).trans HG2.out.2.1,below_class HG2.out.2.2 hbd⟩;clear hbd hb3 H15 HST HSP HXG HNX HG2;go_wp2;go_roundw
    case rel=>exact⟨c+1,u,by omega,by omega,rfl,by go_num,HU,HG3⟩
    case measure=>simp[intOf];omega
  ·have hcz:¬(c:Int)<(s.cs.length:Int):=by omega
   have HE:Hid (t=eml (RM.opk s.st s.ws s.cs p g m k s.cs.length)):=by
    show _=_;rw[HT.out,show c=s.cs.length by omega]
   go_wp2;go_ret;exact⟨ret_int HE.out,HG.out.2.2⟩
end
end Go.Proofs.YtnkelgdnglaafaaGreat
