import Derived.Test.YtlajleogofmkcaaGreatQ4
import Derived.Maps.Keyed
import Derived.RangeFuncBound
import Derived.Shelf.RegionOpen
import Derived.TacticsInMore
import Derived.LoopNIn
import Derived.LoopIn
import Derived.OwnWalkIn
namespace Go.Proofs.YtlajleogofmkcaaGreat
namespace RM
open SM
def sr:Nat→(Nat→Int)→Int
 |0,_=>0
 |n+1,f=>sr n f+f n
theorem sr_le{n:Nat}{f g:Nat→Int}(h:∀i,i<n→f i≤g i):sr n f≤sr n g:=by
 induction n with
 |zero=>exact Int.le_refl _
 |succ n ih=>have:=ih fun i hi=>h i (by omega);have:=h n (by omega);simp only[sr];omega
theorem sr_congr{n:Nat}{f g:Nat→Int}(h:∀i,i<n→f i=g i):sr n f=sr n g:=by
 induction n with
 |zero=>rfl
 |succ n ih=>rw[sr,sr,ih fun i hi=>h i (by omega),h n (by omega)]
theorem sr_add(n:Nat)(f g:Nat→Int):sr n (fun i=>f i+g i)=sr n f+sr n g:=by
 induction n with
 |zero=>rfl
 |succ n ih=>simp only[sr,ih];omega
theorem sr_zero(n:Nat):sr n (fun _=>0)=0:=by
 induction n with
 |zero=>rfl
 |succ n ih=>rw[sr,ih];rfl
theorem sr_one{n i:Nat}(hi:i<n)(a:Int):sr n (fun w=>if w=i then a else 0)=a:=by
 induction n with
 |zero=>omega
 |succ n ih=>
  rw[sr];by_cases e:n=i
  ·subst e;rw[if_pos rfl,sr_congr (g:=fun _=>0) (fun w hw=>if_neg (by omega)),sr_zero];omega
  ·rw[if_neg e,ih (by omega)];omega
theorem sum_sr{n:Nat}(T:Nat→Int):∀{L:List Int},L.Nodup→(∀x∈L,0≤x∧x<n)→(L.map fun x=>T x.toNat).sum=sr n (fun w=>if(w:Int)∈L then T w else 0)
 |[],_,_=>by simp[sr_zero]
 |x::L,hn,hr=>by
  obtain⟨h1,h2⟩:=List.nodup_cons.1 hn;have hx:=hr x (by simp);rw[List.map_cons,List.sum_cons,sum_sr T h2 fun y hy=>hr y (by simp[hy])]
  have e:sr n (fun w=>if(w:Int)∈x::L then T w else 0)=sr n (fun w=>(if w=x.toNat then T x.toNat else 0)+(if(w:Int)∈L then T w else 0)):=sr_congr fun w _=>by
   by_cases hw:w=x.toNat
   ·subst hw;have e1:((x.toNat:Nat):Int)=x:=by omega
    rw[if_pos rfl,e1,if_pos (by simp),if_neg h1];omega
   ·rw[if_neg hw,Int.zero_add];by_cases hm:(w:Int)∈L
    ·rw[if_pos hm,if_pos (by simp[hm])]
    ·rw[if_neg hm,if_neg (by simp[hm];omega)]
  rw[e,sr_add,sr_one (by omega)]
def lo:List Int→Option Int
 |[]=>none
 |a::l=>some (l.foldl min a)
def low(l:List Int):Int:=(lo l).getD 0
def ops(s:St)(ws:List (Int×Int))(f:Int)(m:Nat):Nat→List (Int×Int)→List (List Int)→List Int
 |c,r::cs,l::b=>if PM.bt m c=true then ar s (go s (bg r) (l.map (wf ws))) f::ops s ws f m (c+1) cs b else ops s ws f m (c+1) cs b
 |_,_,_=>[]
section
variable {s:St} {ws:List (Int×Int)} {f:Int} {m:Nat}
end
structure Beg(k:Nat)(b p:List (List Int)):Prop where
 len:b.length=p.length
 lt:k<p.length
 pre:∀(c:Nat) l m,b[c]?=some l→p[c]?=some m→∃l2,m=l++l2∧(c<k→l2=[])∧(k<c→l=[])
theorem flat_sub:∀{b p:List (List Int)},b.length=p.length→(∀(c:Nat) l m,b[c]?=some l→p[c]?=some m→l.Sublist m)→b.flatten.Sublist p.flatten
 |[],[],_,_=>List.Sublist.refl _
 |[],_::_,h,_=>by simp at h
 |_::_,[],h,_=>by simp at h
 |l::b,m::p,h,hs=>by
  rw[List.flatten_cons,List.flatten_cons];exact(hs 0 l m rfl rfl).append (flat_sub (by simpa using h) fun c x y hx hy=>hs (c+1) x y (by simpa using hx) (by simpa using hy))
section
variable {s:St} {ws cs:List (Int×Int)} {ms:List Nat} {b b' p:List (List Int)} {k k':Nat}
theorem Beg.sub(h:Beg k b p):b.flatten.Sublist p.flatten:=flat_sub h.len fun c l m hl hm=>by
 obtain⟨l2,e,_⟩:=h.pre c l m hl hm;rw[e];exact List.sublist_append_left _ _
theorem Beg.prs(h:Beg k b p){x t:Int}(hx:(x,t)∈prs s ws cs b):(x,t)∈RM.prs s ws cs p:=by
 obtain⟨c,i,r,l,h1,h2,h3,h4⟩:=prs_where hx;have hc:c<p.length:=by have:=(List.getElem?_eq_some_iff.1 h2).1;have:=h.len;omega
 obtain⟨l2,e,_⟩:=h.pre c l _ h2 (List.getElem?_eq_getElem hc);have hi:=(List.getElem?_eq_some_iff.1 h3).1;have:=prs_at (s:=s) (ws:=ws) (cs:=cs) (p:=p) (i:=i) (w:=x) h1 (List.getElem?_eq_getElem hc) (by rw[e,List.getElem?_append_left hi];exact h3);rwa[e,List.take_append_of_le_length (by omega),←h4]at this
def opt(s:St)(ws cs:List (Int×Int))(ms:List Nat)(k:Nat)(b:List (List Int))(w:Nat):List Int:=ops s ws (wf ws (w:Int)) (ms[w]?.getD 0) k (cs.drop k) (b.drop k)
def lst(s:St)(ws cs:List (Int×Int))(ms:List Nat)(k:Nat)(b:List (List Int)):Int:=cst s ws cs b+sr ws.length (fun w=>if(w:Int)∈b.flatten then 0 else low (opt s ws cs ms k b w))
theorem Beg.whole(hk:k<p.length)(hlast:k+1=p.length):Beg k p p:=⟨rfl,hk,fun c l m hl hm=>by
 rw[hl]at hm;cases hm
 exact⟨[],by simp,fun _=>rfl,fun h=>by have:=(List.getElem?_eq_some_iff.1 hl).1;omega⟩⟩
end
end RM
open Go.RowKit
def bgn(s:Sn)(car:Int)(p:List (List Int)):Option (List Bool):=
 if(rgt s&&decide (p.length=s.cs.length)&&decide (0≤car)&&decide (car<(p.length:Int))&&(p.drop (car.toNat+1)).all List.isEmpty)=true then PM.runs (msk s) 0 (List.replicate (msk s).length false) p else none
theorem bgn_runs{s:Sn}{k:Nat}{p:List (List Int)}(h1:rgt s=true)(h2:p.length=s.cs.length)(h3:k<p.length)(h4:∀(c:Nat) l,p[c]?=some l→k<c→l=[]):bgn s (k:Int) p=PM.runs (msk s) 0 (List.replicate (msk s).length false) p:=by
 unfold bgn;rw[if_pos];simp only[Bool.and_eq_true,decide_eq_true_eq,List.all_eq_true];refine⟨⟨⟨⟨h1,h2⟩,by omega⟩,by omega⟩,fun l hl=> ?_⟩;obtain⟨i,hi⟩:=List.getElem?_of_mem hl;rw[Int.toNat_natCast,List.getElem?_drop]at hi;rw[h4 _ l hi (by omega)];rfl
def lfk(st:List Bool)(k:Nat):List Int:=((List.range k).filter fun w=>st[w]?==some false).map fun (w:Nat)=>(w:Int)
theorem lfk_succ(st:List Bool)(k:Nat):lfk st (k+1)=lfk st k++if st[k]?=some false then[(k:Int)]else[]:=by
 unfold lfk;rw[List.range_succ,List.filter_append,List.map_append]
 congr 1
 by_cases h:st[k]?=some false
 ·simp[h]
 ·simp[h]
namespace RM
section
variable {s:St} {ws cs:List (Int×Int)} {b:List (List Int)} {f:Int} {m k:Nat}
end
theorem cst_take{s:St}{ws:List (Int×Int)}:∀{cs:List (Int×Int)} {p:List (List Int)} {k:Nat},(∀(c:Nat) l,p[c]?=some l→k≤c→l=[])→prs s ws cs p=prs s ws (cs.take k) (p.take k)
 |[],_,_,_=>by simp[prs]
 |_::_,[],_,_=>by simp[prs]
 |r::cs,l::p,0,h=>by
  have h0:l=[]:=h 0 l rfl (Nat.zero_le _);have ih:=cst_take (s:=s) (ws:=ws) (cs:=cs) (p:=p) (k:=0) fun c m hm _=>h (c+1) m (by simpa using hm) (Nat.zero_le _);rw[List.take_zero,List.take_zero]at ih⊢;show pr1 s ws r l++prs s ws cs p=_;rw[ih,h0];rfl
 |r::cs,l::p,k+1,h=>by
  have ih:=cst_take (s:=s) (ws:=ws) (cs:=cs) (p:=p) (k:=k) fun c m hm hc=>h (c+1) m (by simpa using hm) (by omega);rw[List.take_succ_cons,List.take_succ_cons];show pr1 s ws r l++prs s ws cs p=pr1 s ws r l++prs s ws (cs.take k) (p.take k);rw[ih]
end RM
def optw(s:Sn)(k:Nat)(p:List (List Int))(w:Nat):List Int:=RM.opt s.st s.ws s.cs (msk s) k p w
def lsv(s:Sn)(k:Nat)(p:List (List Int))(st:List Bool):Int:=
 if((lfk st s.ws.length).all fun x=> !(optw s k p x.toNat).isEmpty)=true then RM.cst s.st s.ws s.cs p+((lfk st s.ws.length).map fun x=>RM.low (optw s k p x.toNat)).sum else 1099511627776
theorem lfk_mem{st:List Bool}{k:Nat}{x:Int}:x∈lfk st k↔∃w:Nat,x=(w:Int)∧w<k∧st[w]?=some false:=by
 unfold lfk;rw[List.mem_map];constructor
 ·rintro⟨w,hw,rfl⟩;rw[List.mem_filter,List.mem_range]at hw;exact⟨w,rfl,hw.1,by simpa using hw.2⟩
 ·rintro⟨w,rfl,h1,h2⟩;exact⟨w,List.mem_filter.2 ⟨List.mem_range.2 h1,by simp[h2]⟩,rfl⟩
structure Bs(s:Sn)(k:Nat)(p:List (List Int))(st:List Bool):Prop where
 rg:rgt s=true
 rz:RM.Rz s.st s.ws s.cs
 pc:s.cs.length=p.length
 kl:k<p.length
 p8:p.length≤8
 bh:∀(c:Nat) l,p[c]?=some l→k<c→l=[]
 fr:∀x∈p.flatten,0≤x∧x<s.ws.length
 sl:st.length=s.ws.length
 wl:s.ws.length≤128
 af:∀r∈s.cs,r.2≤1000000
 lf:∀w:Nat,w<s.ws.length→(st[w]?=some false↔(w:Int)∉p.flatten)
theorem bgn_bs{s:Sn}{k:Nat}{p:List (List Int)}{st:List Bool}(h:bgn s (k:Int) p=some st):Bs s k p st:=by
 unfold bgn at h;split at h
 case isFalse=>cases h
 case isTrue hh=>
  simp only[Bool.and_eq_true,decide_eq_true_eq,List.all_eq_true]at hh;obtain⟨⟨⟨⟨h1,h2⟩,_⟩,h4⟩,h5⟩:=hh;obtain⟨n,hrs⟩:=rgt_rs h1;have hml:(msk s).length=s.ws.length:=hrs.mm.len;have hr:=PM.runs_some (by simp) h;have g1:=hrs.cl;have g2:=hrs.n8;refine⟨h1,rgt_rz h1,h2.symm,by omega,by omega,fun c l hl hc=> ?_,fun x hx=> ?_,?_,hrs.wl,rgt_after h1,fun w hw=> ?_⟩
  ·have:=h5 l (List.mem_of_getElem? (i:=c-(k+1)) (by rw[Int.toNat_natCast,List.getElem?_drop,show k+1+(c-(k+1))=c by omega];exact hl));simpa using this
  ·obtain⟨l,hl,hxl⟩:=List.mem_flatten.1 hx;obtain⟨c,hc⟩:=List.getElem?_of_mem hl;have:=PM.okx_iff.1 (hr.1 c l hc x hxl);omega
  ·exact hr.2.1.trans hml
  ·have h6:=hr.2.2 w (by omega);rw[PM.nb_rep,Nat.zero_add]at h6;obtain⟨b,hb⟩:∃b,st[w]?=some b:=⟨_,List.getElem?_eq_getElem (by have:=hr.2.1;omega)⟩;cases b with
   |true=>
    rw[PM.nb_true hb]at h6;rw[hb];constructor
    ·intro hh;cases hh
    ·intro hh;exact absurd (List.count_pos_iff.1 (by omega)) hh
   |false=>
    rw[PM.nb_false hb]at h6;rw[hb];constructor
    ·intro _ hh;have:=List.count_pos_iff.2 hh;omega
    ·intro _;rfl
theorem prs_len{s:St}{ws:List (Int×Int)}:∀{cs:List (Int×Int)} {p:List (List Int)},(∀l∈p,l.length≤1000)→(RM.prs s ws cs p).length≤1000*p.length
 |[],_,_=>by simp[RM.prs]
 |_::_,[],_=>by simp[RM.prs]
 |r::cs,l::p,h=>by
  have ih:=prs_len (s:=s) (ws:=ws) (cs:=cs) (p:=p) fun l hl=>h l (by simp[hl]);have h0:=h l (by simp);show(RM.pr1 s ws r l++RM.prs s ws cs p).length≤_;rw[List.length_append,RM.pr1_length,List.length_cons];omega
def sm2(s:Sn)(p:List (List Int))(r:Int×Int)(l:List Int)(k j:Nat):Int:=((RM.prs s.st s.ws (s.cs.take k) (p.take k)++(RM.pr1 s.st s.ws r l).take j).map (·.2)).sum
def sm1(s:Sn)(p:List (List Int))(k:Nat):Int:=((RM.prs s.st s.ws (s.cs.take k) (p.take k)).map (·.2)).sum
theorem sm2_end{s:Sn}{p:List (List Int)}{r:Int×Int}{l:List Int}{k:Nat}(h1:s.cs[k]?=some r)(h2:p[k]?=some l):sm2 s p r l k l.length=sm1 s p (k+1):=by
 unfold sm2 sm1;rw[RM.prs_snoc h1 h2,List.take_of_length_le (l:=RM.pr1 s.st s.ws r l) (by rw[RM.pr1_length];exact Nat.le_refl _)]
theorem sm1_end{s:Sn}{k:Nat}{p:List (List Int)}{st:List Bool}(h:Bs s k p st):sm1 s p (k+1)=RM.cst s.st s.ws s.cs p:=by
 unfold sm1 RM.cst;rw[←RM.cst_take fun c l hl hc=>h.bh c l hl (by omega)]
theorem sm2_bd{s:Sn}{k0:Nat}{p:List (List Int)}{st:List Bool}(h:Bs s k0 p st)(hl:∀l∈p,l.length≤1000){r:Int×Int}{l:List Int}{k j:Nat}(h1:s.cs[k]?=some r)(h2:p[k]?=some l):0≤sm2 s p r l k j∧sm2 s p r l k j≤800000000000:=by
 unfold sm2;have hb:=RM.prs_bd h.rz h.fr h.af hl
 have hmem:∀x∈RM.prs s.st s.ws (s.cs.take k) (p.take k)++(RM.pr1 s.st s.ws r l).take j,x∈RM.prs s.st s.ws s.cs p:=fun x hx=>by
  have hx2:x∈RM.prs s.st s.ws (s.cs.take (k+1)) (p.take (k+1)):=by
   rw[RM.prs_snoc h1 h2];rcases List.mem_append.1 hx with hx|hx
   ·exact List.mem_append_left _ hx
   ·exact List.mem_append_right _ (List.mem_of_mem_take hx)
  obtain⟨w,t⟩:=x;obtain⟨c,i,r',l',g1,g2,g3,g4⟩:=RM.prs_where hx2
  have g1':s.cs[c]?=some r':=by
   rw[List.getElem?_take]at g1;split at g1
   ·exact g1
   ·cases g1
  have g2':p[c]?=some l':=by
   rw[List.getElem?_take]at g2;split at g2
   ·exact g2
   ·cases g2
  rw[g4];exact RM.prs_at g1' g2' g3
 have hsb:=RM.sum_bd (B:=80000000) (l:=(RM.prs s.st s.ws (s.cs.take k) (p.take k)++(RM.pr1 s.st s.ws r l).take j).map (·.2)) fun t ht=>by
  obtain⟨x,hx,rfl⟩:=List.mem_map.1 ht;exact hb x (hmem x hx)
 rw[List.length_map,List.length_append,List.length_take,RM.pr1_length]at hsb;have e1:=prs_len (s:=s.st) (ws:=s.ws) (cs:=s.cs.take k) (p:=p.take k) fun l hl'=>hl l (List.mem_of_mem_take hl');rw[List.length_take]at e1;have e2:=hl l (List.mem_of_getElem? h2);have e3:=h.p8;have e4:=(List.getElem?_eq_some_iff.1 h2).1;omega
section
variable {s:Sn} {p b:List (List Int)} {k:Nat}
end
def cutp(p:List (List Int))(k j:Nat):List (List Int):=p.take k++((p[k]?.getD []).take j::List.replicate (p.length-(k+1)) [])
theorem cutp_length{p:List (List Int)}{k:Nat}(j:Nat)(hk:k<p.length):(cutp p k j).length=p.length:=by
 unfold cutp;rw[List.length_append,List.length_cons,List.length_replicate,List.length_take];omega
theorem cutp_lo{p:List (List Int)}{k j c:Nat}(hk:k<p.length)(hc:c<k):(cutp p k j)[c]?=p[c]?:=by
 unfold cutp;rw[List.getElem?_append_left (by rw[List.length_take];omega),List.getElem?_take,if_pos hc]
theorem cutp_at{p:List (List Int)}{k j:Nat}(hk:k<p.length):(cutp p k j)[k]?=some ((p[k]?.getD []).take j):=by
 unfold cutp;rw[List.getElem?_append_right (by rw[List.length_take];omega),List.length_take,show k-min k p.length=0 by omega]
 rfl
theorem cutp_hi{p:List (List Int)}{k j c:Nat}(hk:k<p.length)(hc:k<c)(hl:c<p.length):(cutp p k j)[c]?=some []:=by
 unfold cutp;rw[List.getElem?_append_right (by rw[List.length_take];omega),List.length_take,show c-min k p.length=(c-k-1)+1 by omega,List.getElem?_cons_succ,List.getElem?_replicate,if_pos (by omega)]
section
variable {p:List (List Int)} {k:Nat}
theorem cutp_whole{l:List Int}(hk:k+1=p.length)(hl:p[k]?=some l):cutp p k l.length=p:=by
 have hlt:k<p.length:=by omega
 refine List.ext_getElem? fun c=> ?_;rcases Nat.lt_trichotomy c k with h|h|h
 ·exact cutp_lo hlt h
 ·subst h;rw[cutp_at hlt,hl,Option.getD_some,List.take_length]
 ·rw[List.getElem?_eq_none (by rw[cutp_length _ hlt];omega),List.getElem?_eq_none (by omega)]
end
end Go.Proofs.YtlajleogofmkcaaGreat
namespace Go.Proofs.YtlajleogofmkcaaGreat
open Go.RowKit Go.ChangeMaps Go.MapKept
def wv(y:Int×Int):Value:=.agg #[.int .i64 y.1,.int .i64 y.2]
def MP(W:World)(mb:Nat)(f:Int→Option (Int×Int)):Prop:=∃es clock,W.heap[mb]?=some (.map es clock)∧(∀e∈es.toList,∃k y,e.key=.int .i64 k∧e.val=wv y∧f k=some y)∧
 (∀k y,f k=some y→∃e∈es.toList,e.key=.int .i64 k)∧es.toList.Pairwise fun a b=>a.key≠b.key
section
variable {W W':World} {mb:Nat} {f:Int→Option (Int×Int)}
theorem MP.lt(h:MP W mb f):mb<W.heap.size:=by
 obtain⟨es,clock,hb,_⟩:=h;exact(Array.getElem?_eq_some_iff.1 hb).1
theorem MP.keep(h:MP W mb f)(hk:W'.heap[mb]?=W.heap[mb]?):MP W' mb f:=by
 obtain⟨es,clock,hb,h2⟩:=h;exact⟨es,clock,hk.trans hb,h2⟩
theorem MP.below'(h:MP W mb f)(hb:Below W.heap.size W W'):MP W' mb f:=h.keep (hb.block mb h.lt)
theorem MP.new(W:World):MP (W.alloc (.map #[] 0)) W.heap.size fun _=>none:=⟨#[],0,World.alloc_heap_new W _,by simp,by simp,by simp⟩
theorem kp_block{es:Array MapEntry}{clock:Nat}(hb:W.heap[mb]?=some (.map es clock))(o:Obj):Kp (fun k=>k=mb) W (setBlock W mb o):=
 ⟨rfl,rfl,rfl,by simp[setBlock],fun _ _ hk=>heap_setBlock_other hb o hk⟩
theorem isKey_int(k:Int):IsKey (.int .i64) (.int .i64 k):=by simp[IsKey]
theorem MP.keys{es:Array MapEntry}(h:∀e∈es.toList,∃k y,e.key=.int .i64 k∧e.val=wv y∧f k=some y):∀x∈es.toList,IsKey (.int .i64) x.key:=fun x hx=>by
 obtain⟨k,y,h1,_⟩:=h x hx;rw[h1];exact isKey_int k
theorem MP.look(h:MP W mb f)(k:Int):(Instr.lookup 316 (.map (some mb)) (.int .i64 k) true).run Tryz.prog W=.ok (.tuple #[wv ((f k).getD (0,0)),.bool (f k).isSome]) W:=by
 obtain⟨es,clock,hb,h1,h2,h3⟩:=h;rcases findNow_spec (isKey_int k) es.toList 0 (MP.keys h1)with⟨g1,g2⟩|⟨j,e0,g1,g2,g3⟩
 ·have hn:f k=none:=by
   cases e:f k with
   |none=>rfl
   |some y=>
    obtain⟨e1,he1,he2⟩:=h2 k y e;exact absurd he2 (g2 e1 he1)
  rw[hn];simp[Instr.lookup,run_underlying Tryz.underlying316,MapKept.run_getObj_map hb,MapKept.run_checkKey Tryz.underlying3 (isKey_int k),MapKept.run_findKey Tryz.underlying3 g1,Result.andThen]
  rfl
 ·obtain⟨k',y,a1,a2,a3⟩:=h1 e0 (List.mem_of_getElem? g2);rw[a1]at g3;cases g3;rw[a3];rw[a2]at g1;simp[Instr.lookup,run_underlying Tryz.underlying316,MapKept.run_getObj_map hb,MapKept.run_checkKey Tryz.underlying3 (isKey_int k),MapKept.run_findKey Tryz.underlying3 g1,Result.andThen]
theorem MP.lay(h:MP W mb f){k:Int}(hn:f k=none)(y:Int×Int):∃W',(Instr.mapUpdate 316 (.map (some mb)) (.int .i64 k) (wv y)).run Tryz.prog W=.ok () W'∧MP W' mb (fun j=>if j=k then some y else f j)∧Kp (fun k=>k=mb) W W':=by
 obtain⟨es,clock,hb,h1,h2,h3⟩:=h;rcases findNow_spec (isKey_int k) es.toList 0 (MP.keys h1)with⟨g1,g2⟩|⟨j,e0,g1,g2,g3⟩
 ·refine⟨setBlock W mb (.map (es.push ⟨.int .i64 k,wv y,clock⟩) (clock+1)),?_,⟨_,_,heap_setBlock_same hb _,?_,?_,?_⟩,kp_block hb _⟩
  ·simp[Instr.mapUpdate,run_underlying Tryz.underlying316,MapKept.run_getObj_map hb,MapKept.run_checkKey Tryz.underlying3 (isKey_int k),MapKept.run_findKey Tryz.underlying3 g1,MapKept.run_setObj_map _ hb,Result.andThen,setBlock]
  ·intro e he;rw[Array.toList_push,List.mem_append,List.mem_singleton]at he;rcases he with he|rfl
   ·obtain⟨k',y',a1,a2,a3⟩:=h1 e he;refine⟨k',y',a1,a2,?_⟩;show(if k'=k then some y else f k')=_;rw[if_neg (fun e1:k'=k=>by rw[e1,hn]at a3;cases a3)];exact a3
   ·exact⟨k,y,rfl,rfl,if_pos rfl⟩
  ·intro j z hz;by_cases e:j=k
   ·subst e;exact⟨⟨.int .i64 j,wv y,clock⟩,by simp,rfl⟩
   ·have hz:(if j=k then some y else f j)=some z:=hz;rw[if_neg e]at hz;obtain⟨e1,he1,he2⟩:=h2 j z hz;exact⟨e1,by simp[he1],he2⟩
  ·rw[Array.toList_push,List.pairwise_append];refine⟨h3,by simp,fun a ha b hb2=> ?_⟩;rw[List.mem_singleton]at hb2;subst hb2;exact g2 a ha
 ·obtain⟨k',y',a1,_,a3⟩:=h1 e0 (List.mem_of_getElem? g2);rw[a1]at g3;cases g3;rw[hn]at a3;cases a3
theorem erase_ne{α:Type}{R:α→α→Prop}:∀{l:List α} {j:Nat} {e0:α},l.Pairwise R→(∀a b,R a b→R b a)→l[j]?=some e0→∀e∈l.eraseIdx j,R e0 e
 |[],_,_,_,_,h,_,_=>by simp at h
 |a::l,0,e0,hp,_,h,e,he=>by
  simp at h;subst h;exact(List.pairwise_cons.1 hp).1 e (by simpa using he)
 |a::l,j+1,e0,hp,hs,h,e,he=>by
  rw[List.eraseIdx_cons_succ,List.mem_cons]at he;have hj:l[j]?=some e0:=by simpa using h
  rcases he with rfl|he
  ·exact hs _ _ ((List.pairwise_cons.1 hp).1 e0 (List.mem_of_getElem? hj))
  ·exact erase_ne (List.pairwise_cons.1 hp).2 hs hj e he
theorem mem_erase{α:Type}:∀{l:List α} {j:Nat} {e0 e:α},l[j]?=some e0→e∈l→e≠e0→e∈l.eraseIdx j
 |[],_,_,_,h,_,_=>by simp at h
 |a::l,0,e0,e,h,he,hne=>by
  simp at h;subst h;rcases List.mem_cons.1 he with h|h
  ·exact absurd h hne
  ·simpa using h
 |a::l,j+1,e0,e,h,he,hne=>by
  have hj:l[j]?=some e0:=by simpa using h
  rw[List.eraseIdx_cons_succ,List.mem_cons];rcases List.mem_cons.1 he with h|h
  ·exact .inl h
  ·exact .inr (mem_erase hj h hne)
theorem MP.drop(h:MP W mb f){k:Int}{y:Int×Int}(hy:f k=some y):∃W',(∀ty,(Builtin.delete_ #[316,3] ty #[.map (some mb),.int .i64 k]).run Tryz.prog W=.ok (.tuple #[]) W')∧MP W' mb (fun j=>if j=k then none else f j)∧Kp (fun k=>k=mb) W W':=by
 obtain⟨es,clock,hb,h1,h2,h3⟩:=h;rcases findNow_spec (isKey_int k) es.toList 0 (MP.keys h1)with⟨g1,g2⟩|⟨j,e0,g1,g2,g3⟩
 ·obtain⟨e1,he1,he2⟩:=h2 k y hy;exact absurd he2 (g2 e1 he1)
 ·have hjs:j<es.size:=by simpa using (List.getElem?_eq_some_iff.1 g2).1
  have hsub:(es.eraseIdxIfInBounds j).toList=es.toList.eraseIdx j:=by
   unfold Array.eraseIdxIfInBounds;rw[dif_pos hjs];simp
  refine⟨setBlock W mb (.map (es.eraseIdxIfInBounds j) clock),?_,⟨_,_,heap_setBlock_same hb _,?_,?_,?_⟩,kp_block hb _⟩
  ·intro ty;rw[Nat.zero_add]at g1;simp[Builtin.delete_,run_underlying Tryz.underlying316,MapKept.run_getObj_map hb,MapKept.run_checkKey Tryz.underlying3 (isKey_int k),MapKept.run_findKey Tryz.underlying3 g1,MapKept.run_setObj_map _ hb,Result.andThen,setBlock]
  ·intro e he;rw[hsub]at he;obtain⟨k',y',a1,a2,a3⟩:=h1 e ((List.eraseIdx_sublist _ _).subset he);refine⟨k',y',a1,a2,?_⟩;show(if k'=k then none else f k')=_;rw[if_neg]
   ·exact a3
   ·intro e1;have:=erase_ne h3 (fun _ _ h=>Ne.symm h) g2 e he;rw[g3,a1,e1]at this;exact this rfl
  ·intro i z hz;have hz:(if i=k then none else f i)=some z:=hz;by_cases e:i=k
   ·rw[if_pos e]at hz;cases hz
   ·rw[if_neg e]at hz;obtain⟨e1,he1,he2⟩:=h2 i z hz;refine⟨e1,?_,he2⟩;rw[hsub];refine mem_erase g2 he1 fun e2=> ?_;rw[e2,g3]at he2;cases he2;exact e rfl
  ·rw[hsub];exact h3.sublist (List.eraseIdx_sublist _ _)
end
end Go.Proofs.YtlajleogofmkcaaGreat
namespace Go.Proofs.YtlajleogofmkcaaGreat
open Go.RowKit
structure Bz where
 es:List RM.Sp
 st:List Bool
 co:Int
section
variable (s:Sn) (k:Nat)
end
section
variable {s:Sn} {k:Nat}
def asp(s:Sn):List (Int×Int)→List (List Int)→List RM.Sp
 |r::cs,l::p=>RM.go s.st (RM.bg r) (l.map (RM.wf s.ws))::asp s cs p
 |_,_=>[]
theorem asp_get:∀{cs:List (Int×Int)} {p:List (List Int)} {c:Nat} {r:Int×Int} {l:List Int},cs[c]?=some r→p[c]?=some l→(asp s cs p)[c]?=some (RM.go s.st (RM.bg r) (l.map (RM.wf s.ws)))
 |[],_,_,_,_,h,_=>by simp at h
 |_::_,[],_,_,_,_,h=>by simp at h
 |r::cs,l::p,0,_,_,h1,h2=>by cases h1;cases h2;rfl
 |r::cs,l::p,c+1,_,_,h1,h2=>by
  have:=asp_get (cs:=cs) (p:=p) (c:=c) (by simpa using h1) (by simpa using h2);simpa[asp]using this
theorem asp_length:∀{cs:List (Int×Int)} {p:List (List Int)},cs.length=p.length→(asp s cs p).length=cs.length
 |[],_,_=>by simp[asp]
 |_::_,[],h=>by simp at h
 |r::cs,l::p,h=>by rw[asp,List.length_cons,asp_length (by simpa using h),List.length_cons]
theorem asp_empty:∀{cs:List (Int×Int)} {p:List (List Int)},cs.length=p.length→(∀l∈p,l=[])→asp s cs p=cs.map RM.bg
 |[],_,_,_=>by simp[asp]
 |_::_,[],h,_=>by simp at h
 |r::cs,l::p,h,he=>by
  have h0:l=[]:=he l (by simp);subst h0;rw[asp,asp_empty (by simpa using h) fun l hl=>he l (by simp[hl])];rfl
def bz0(s:Sn):Bz:=⟨s.cs.map RM.bg,List.replicate (msk s).length false,0⟩
end
def bc(s:St)(vc vw:Value)(eb n mb:Nat)(co:Int):List Value:=nv s vc vw++[.slice (some ⟨eb,0,none⟩) n n,.map (some mb),.int .i64 co]
def tcs:List RM.Sp→List Value
 |[]=>[]
 |a::l=>.int .i64 a.fl::.int .i64 a.he::.int .i64 a.le::tcs l
theorem tcs_length:∀(l:List RM.Sp),(tcs l).length=3*l.length
 |[]=>rfl
 |a::l=>by rw[tcs,List.length_cons,List.length_cons,List.length_cons,tcs_length l,List.length_cons];omega
theorem tcs_get:∀{l:List RM.Sp} {j:Nat} {a:RM.Sp},l[j]?=some a→(tcs l)[j*3]?=some (.int .i64 a.fl)∧(tcs l)[j*3+1]?=some (.int .i64 a.he)∧(tcs l)[j*3+2]?=some (.int .i64 a.le)
 |[],_,_,h=>by simp at h
 |a::l,0,_,h=>by cases h;exact⟨rfl,rfl,rfl⟩
 |b::l,j+1,a,h=>by
  have:=tcs_get (l:=l) (j:=j) (a:=a) (by simpa using h);rw[show(j+1)*3=j*3+1+1+1 by omega];exact this
theorem tcs_set:∀(l:List RM.Sp) (j:Nat) (a:RM.Sp),(((tcs l).set (j*3) (.int .i64 a.fl)).set (j*3+1) (.int .i64 a.he)).set (j*3+2) (.int .i64 a.le)=tcs (l.set j a)
 |[],_,_=>rfl
 |b::l,0,a=>rfl
 |b::l,j+1,a=>by
  have:=tcs_set l j a;rw[show(j+1)*3=j*3+1+1+1 by omega,List.set_cons_succ,tcs,tcs,←this];rfl
structure Bg(W:World)(b eb mb:Nat)(s:St)(vc vw:Value)(es:List RM.Sp)(f:Int→Option (Int×Int))(co:Int):Prop where
 hb:W.heap[b]?=some (.cells (bc s vc vw eb es.length mb co).toArray 318 (0,0))
 he:W.heap[eb]?=some (.cells (tcs es).toArray 220 (0,0))
 hm:MP W mb f
 n1:b≠eb
 n2:b≠mb
 n3:eb≠mb
def bp(b eb mb k:Nat):Prop:=k=b∨k=eb∨k=mb
section
variable {W W':World} {b eb mb:Nat} {s:St} {vc vw:Value} {es:List RM.Sp} {f:Int→Option (Int×Int)} {co:Int}
theorem Bg.lb(h:Bg W b eb mb s vc vw es f co):b<W.heap.size:=(Array.getElem?_eq_some_iff.1 h.hb).1
theorem Bg.le(h:Bg W b eb mb s vc vw es f co):eb<W.heap.size:=(Array.getElem?_eq_some_iff.1 h.he).1
theorem Bg.lt(h:Bg W b eb mb s vc vw es f co):∀k,bp b eb mb k→k<W.heap.size:=fun k hk=>by
 rcases hk with rfl|rfl|rfl
 ·exact h.lb
 ·exact h.le
 ·exact h.hm.lt
theorem Bg.keep(h:Bg W b eb mb s vc vw es f co)(hk:∀k,bp b eb mb k→W'.heap[k]?=W.heap[k]?):Bg W' b eb mb s vc vw es f co:=
 ⟨(hk b (.inl rfl)).trans h.hb,(hk eb (.inr (.inl rfl))).trans h.he,h.hm.keep (hk mb (.inr (.inr rfl))),h.n1,h.n2,h.n3⟩
theorem Bg.below'(h:Bg W b eb mb s vc vw es f co)(hb:Below W.heap.size W W'):Bg W' b eb mb s vc vw es f co:=h.keep fun k hk=>hb.block k (h.lt k hk)
theorem Bg.drew(h:Bg W b eb mb s vc vw es f co):Bg W.drew b eb mb s vc vw es f co:=h.below' (Below.refl _ _).drew
theorem Bg.cell(h:Bg W b eb mb s vc vw es f co)(i:Nat):W.cell? ⟨b,i,none⟩=(bc s vc vw eb es.length mb co)[i]?:=blk_cell h.hb i
theorem Bg.c14(h:Bg W b eb mb s vc vw es f co):W.cell? ⟨b,14,none⟩=some vw:=h.cell 14
theorem Bg.c15(h:Bg W b eb mb s vc vw es f co):W.cell? ⟨b,15,none⟩=some (.slice (some ⟨eb,0,none⟩) es.length es.length):=h.cell 15
theorem Bg.c16(h:Bg W b eb mb s vc vw es f co):W.cell? ⟨b,16,none⟩=some (.map (some mb)):=h.cell 16
theorem Bg.c17(h:Bg W b eb mb s vc vw es f co):W.cell? ⟨b,17,none⟩=some (.int .i64 co):=h.cell 17
theorem Bg.fr(h:Bg W b eb mb s vc vw es f co)(i:Nat):W.frozen? ⟨b,i,none⟩=false:=blk_fr h.hb i
theorem Bg.site(h:Bg W b eb mb s vc vw es f co):W.rangeAt b 0 (sv s):=fun j v hv=>by
 rw[Nat.zero_add,h.cell,←hv];have hj:j<13:=by have:=(List.getElem?_eq_some_iff.1 hv).1;rwa[sv_length]at this
 show(sv s++[vc,vw,_,_,_])[j]?=_;rw[List.getElem?_append_left (by rw[sv_length];exact hj)]
theorem Bg.stop(h:Bg W b eb mb s vc vw es f co){j:Nat}{a:RM.Sp}(hj:es[j]?=some a):W.rangeAt eb (j*3) [.int .i64 a.fl,.int .i64 a.he,.int .i64 a.le]:=fun i v hv=>by
 rw[blk_cell h.he];obtain⟨h0,h1,h2⟩:=tcs_get hj
 match i,hv with
 |0,hv=>cases hv;exact h0
 |1,hv=>cases hv;exact h1
 |2,hv=>cases hv;exact h2
 |i+3,hv=>simp at hv
theorem Bg.there(h:Bg W b eb mb s vc vw es f co){j:Nat}{a:RM.Sp}(hj:es[j]?=some a):W.there eb (j*3) 3:=fun i hi=>by
 refine⟨?_,blk_fr h.he _⟩;have:=h.stop hj
 match i,hi with
 |0,_=>rw[this 0 _ rfl];rfl
 |1,_=>rw[this 1 _ rfl];rfl
 |2,_=>rw[this 2 _ rfl];rfl
theorem Bg.put(h:Bg W b eb mb s vc vw es f co){j:Nat}(a:RM.Sp):Bg (W.setCells eb (j*3) [.int .i64 a.fl,.int .i64 a.he,.int .i64 a.le]) b eb mb s vc vw (es.set j a) f co∧Kp (fun k=>k=eb) W (W.setCells eb (j*3) [.int .i64 a.fl,.int .i64 a.he,.int .i64 a.le]):=by
 have e:W.setCells eb (j*3) [.int .i64 a.fl,.int .i64 a.he,.int .i64 a.le]=((W.setCell ⟨eb,j*3,none⟩ (.int .i64 a.fl)).setCell ⟨eb,j*3+1,none⟩ (.int .i64 a.he)).setCell ⟨eb,j*3+2,none⟩ (.int .i64 a.le):=by
  rfl
 rw[e];have hk:Kp (fun k=>k=eb) W (((W.setCell ⟨eb,j*3,none⟩ (.int .i64 a.fl)).setCell ⟨eb,j*3+1,none⟩ (.int .i64 a.he)).setCell ⟨eb,j*3+2,none⟩ (.int .i64 a.le)):=(((Kp.refl (fun k=>k=eb) W).set eb _ _ (fun _=>rfl)).set eb _ _ (fun _=>rfl)).set eb _ _ (fun _=>rfl);refine⟨⟨?_,?_,h.hm.keep (hk.block mb h.hm.lt (fun e=>h.n3 e.symm)),h.n1,h.n2,h.n3⟩,hk⟩
 ·rw[List.length_set];exact(hk.block b h.lb h.n1).trans h.hb
 ·have:=blk_set (blk_set (blk_set h.he (j*3) (.int .i64 a.fl)) (j*3+1) (.int .i64 a.he)) (j*3+2) (.int .i64 a.le);rw[tcs_set]at this;exact this
end
section
variable {W0:World} {K:Act→Prop} {o:Oper} {a:Act}
theorem calm_load23b(x:Operand)(b:Nat)(s:St)(ho:o.op=.load 23 x)(hx:a.eval x=.pointer (some ⟨b,0,none⟩))(hr:∀w,Below W0.heap.size W0 w→w.rangeAt b 0 (sv s))
  (h:K (a.put o.dst (.agg (sv s).toArray))):Oper.calm Tryz.prog W0 o a K:=
 calm_val _ (fun w hw=>by unfold execOp;simp only[ho,hx,Sem.run_bind,Sem.run_pure,Result.andThen_ok,load23 w b s (hr w hw)]) h
end
theorem has_any(f:Int)(m c:Nat)(hc:c≤64)(w:World):Calls Tryz.prog 222 #[.agg #[.int .i64 f,.int .i64 (m:Int)],.int .i64 (c:Int)] w fun e w'=>e=.returned (.bool (PM.bt m c))∧Below w.heap.size w w':=by
 have hb:=(Below.refl w.heap.size w).alloc (Nat.le_refl _) (.cells #[.int .i64 f,.int .i64 (m:Int)] 182);have hsh:=shr_any m c hc;have HE:=Hd (bt_bits m c)
 go_enter Tryz.func222,Tryz.ntmps222
 go_wp2;go_ret;exact⟨ret_bool HE.out,hb⟩
def lfm(s:Sn)(st:List Bool)(j:Int):Option (Int×Int):=if 0≤j∧st[j.toNat]?=some false then s.ws[j.toNat]? else none
section
variable {s:Sn} {k:Nat} {p:List (List Int)} {st:List Bool}
theorem cst_bd(h:Bs s k p st)(hll:∀l∈p,l.length≤1000):0≤RM.cst s.st s.ws s.cs p∧RM.cst s.st s.ws s.cs p≤800000000000:=by
 obtain⟨l,hl⟩:∃l,p[k]?=some l:=⟨_,List.getElem?_eq_getElem h.kl⟩;obtain⟨r,hr⟩:∃r,s.cs[k]?=some r:=⟨_,List.getElem?_eq_getElem (by have:=h.pc;have:=h.kl;omega)⟩;have:=sm2_bd h hll (j:=l.length) hr hl;rw[sm2_end hr hl,sm1_end h]at this;exact this
end
section
variable {W:World} {b eb mb:Nat} {s:Sn} {vc vw:Value} {p:List (List Int)} {st:List Bool}
end
theorem infoHT:(Tryz.prog.info? 220).map (fun i=>(i.zero,i.size,i.bytes))=some (some (.agg #[.int .i64 0,.int .i64 0,.int .i64 0]),3,24):=by kernel_rfl
theorem tcs_rep(n:Nat)(i:Nat)(h:i<3*n):(tcs (List.replicate n ⟨0,0,0⟩))[i]?=some (.int .i64 0):=by
 induction n generalizing i with
 |zero=>omega
 |succ n ih=>
  rw[List.replicate_succ,tcs]
  match i,h with
  |0,_=>rfl
  |1,_=>rfl
  |2,_=>rfl
  |i+3,h=>exact ih i (by omega)
theorem made_stops(n:Nat):madeCells (Value.agg #[.int .i64 0,.int .i64 0,.int .i64 0]).cells (n*3)=(tcs (List.replicate n ⟨0,0,0⟩)).toArray:=by
 apply Array.ext
 ·rw[size_madeCells,List.size_toArray,tcs_length,List.length_replicate];omega
 ·intro i h1 h2;rw[size_madeCells]at h1;have hg:=tcs_rep n i (by omega);obtain⟨hi,e⟩:=List.getElem?_eq_some_iff.1 hg;rw[show(tcs (List.replicate n ⟨0,0,0⟩)).toArray[i]=Value.int .i64 0 from e];simp only[madeCells,Value.cells];have:i%3=0∨i%3=1∨i%3=2:=by omega
  rcases this with e|e|e<;>simp[e]
theorem mkE(n:Nat)(hn:n≤1000)(W:World):(Instr.makeSlice 218 (.int .i64 (n:Int)) (.int .i64 (n:Int))).run Tryz.prog W=.ok (.slice (some ⟨W.heap.size,0,none⟩) n n) (W.alloc (.cells (tcs (List.replicate n ⟨0,0,0⟩)).toArray 220)):=by
 obtain⟨i,hi,h1,h2,h3⟩:=info_h infoHT
 have:=run_make (P:=Tryz.prog) W 218 220 i _ Tryz.underlying218 hi h1 .i64 .i64 (n:Int) (n:Int) (by omega) (by omega) (by
  have:(i.bytes:Int)*(n:Int)≤24*1000:=Int.mul_le_mul (by omega) (by omega) (by omega) (by omega)
  omega) (by omega)
 rw[this,h2,Int.toNat_natCast,made_stops]
structure Bu(w W:World)(b eb mb:Nat)(s:Sn)(vc vw:Value)(D:Nat→Prop)(es:List RM.Sp)(f:Int→Option (Int×Int)):Prop where
 bg:Bg W b eb mb s.st vc vw es f 0
 nb:NB W w.heap.size s.st vc vw
 rc:R2 (fun g=>D g∧g<w.heap.size) W vc s.cs
 rw:R2 (fun g=>D g∧g<w.heap.size) W vw s.ws
 bel:Below w.heap.size w W
 nw:∀k,bp b eb mb k→w.heap.size<k
theorem Bu.next{w W W':World}{b eb mb:Nat}{s:Sn}{vc vw:Value}{D:Nat→Prop}{es:List RM.Sp}{f:Int→Option (Int×Int)}(h:Bu w W b eb mb s vc vw D es f)(hb:Below W.heap.size W W'):Bu w W' b eb mb s vc vw D es f:=
 ⟨h.bg.below' hb,h.nb.below' hb,h.rc.below' hb,h.rw.below' hb,below_class h.bel hb,h.nw⟩
theorem Bu.put{w W W':World}{b eb mb:Nat}{s:Sn}{vc vw:Value}{D:Nat→Prop}{es es':List RM.Sp}{f f':Int→Option (Int×Int)}(h:Bu w W b eb mb s vc vw D es f)(hk:Kp (bp b eb mb) W W')(hg:Bg W' b eb mb s.st vc vw es' f' 0):Bu w W' b eb mb s vc vw D es' f':=
 ⟨hg,h.nb.kp hk (fun e=>by have:=h.nw _ e;omega),h.rc.keep hk.size (fun g hg hlt=>hk.block g hlt (fun e=>by have:=h.nw _ e;have:=hg.2;omega)),h.rw.keep hk.size (fun g hg hlt=>hk.block g hlt (fun e=>by have:=h.nw _ e;have:=hg.2;omega)),hk.below h.bel h.bel.size (fun i hi e=>by have:=h.nw _ e;omega),h.nw⟩
theorem Bu.new(w:World)(s:Sn)(vc vw:Value)(D:Nat→Prop){W:World}{b eb mb:Nat}(hc:R2 D (w.alloc (.cells (nv s.st vc vw).toArray 146)) vc s.cs)(hw:R2 D (w.alloc (.cells (nv s.st vc vw).toArray 146)) vw s.ws)
  (hb:Below (w.alloc (.cells (nv s.st vc vw).toArray 146)).heap.size (w.alloc (.cells (nv s.st vc vw).toArray 146)) W) (h1:W.heap[b]?=some (.cells (bc s.st vc vw eb s.cs.length mb 0).toArray 318 (0,0)))
  (h2:W.heap[eb]?=some (.cells (tcs (List.replicate s.cs.length ⟨0,0,0⟩)).toArray 220 (0,0))) (h3:W.heap[mb]?=some (.map #[] 0)) (n1:b≠eb) (n2:b≠mb) (n3:eb≠mb) (nw:∀k,bp b eb mb k→w.heap.size<k)
  (hdc:∀g,D g→g<w.heap.size):Bu w W b eb mb s vc vw D (List.replicate s.cs.length (⟨0,0,0⟩:RM.Sp)) (fun _=>none):=by
 refine⟨⟨?_,h2,⟨#[],0,h3,by simp,by simp,by simp⟩,n1,n2,n3⟩,(NB.new w s.st vc vw).below' hb,(hc.below' hb).mono fun g hg _ _=>⟨hg,hdc g hg⟩,(hw.below' hb).mono fun g hg _ _=>⟨hg,hdc g hg⟩,((Below.refl _ w).alloc (Nat.le_refl _) _).trans (hb.mono (by simp)),nw⟩;rw[List.length_replicate];exact h1
section
variable (s:Sn) (D:Nat→Prop) (vc vw:Value) (w:World)
end
open Go.Shelf
attribute [local go_sem] Oper.semAt_some
structure Pj(w W:World)(c1:Nat)(vp:Value)(p:List (List Int))(G:Nat→Prop)(J:List (Int×Int)→(Nat→Prop)→World→Prop)(pre:List (Int×Int)):Prop where
 pc:W.heap[c1]?=some (.cells #[vp] 150 (0,0))
 rp:RL G W vp p
 jj:J pre (fun _=>False) W
 sz:w.heap.size≤W.heap.size
theorem Pj.round{w W W':World}{c1:Nat}{vp:Value}{p:List (List Int)}{G:Nat→Prop}{J:List (Int×Int)→(Nat→Prop)→World→Prop}{pre:List (Int×Int)}{x:Int×Int}(h:Pj w W c1 vp p G J pre)(h1:G c1)(hk:Kept (fun k=>False∨G k) W W')(hj:J (pre++[x]) (fun _=>False) W'):Pj w W' c1 vp p G J (pre++[x]):=
 ⟨(hk.same c1 (Array.getElem?_eq_some_iff.1 h.pc).1 (.inr h1)).trans h.pc,h.rp.keep hk.size (fun k hg hlt=>hk.same k hlt (.inr hg)),hj,Nat.le_trans h.sz hk.size⟩
end Go.Proofs.YtlajleogofmkcaaGreat
namespace Go.Proofs.YtlajleogofmkcaaGreat
open Go.RowKit
structure Bok(s:Sn)(z:Bz):Prop where
 el:z.es.length=s.cs.length
 sl:z.st.length=s.ws.length
 ok:∀a∈z.es,RM.Ok s.st a∧a.le≤1000000+68002*((s.ws.length:Int)-PM.lf z.st)
 c0:0≤z.co
 c1:z.co≤10000000*((s.ws.length:Int)-PM.lf z.st)
theorem lf_le(st:List Bool):PM.lf st≤st.length:=List.count_le_length
theorem Bok.zero{s:Sn}(hr:rgt s=true):Bok s (bz0 s):=by
 have hml:(msk s).length=s.ws.length:=by unfold msk;rw[List.length_map]
 have hz:=rgt_rz hr;have ha:=rgt_after hr;have hl:PM.lf (List.replicate (msk s).length false)=s.ws.length:=by unfold PM.lf;rw[List.count_replicate,hml];simp
 refine⟨by unfold bz0;rw[List.length_map],by unfold bz0;rw[List.length_replicate,hml],fun a h=> ?_,Int.le_refl _,?_⟩
 ·obtain⟨r,hr1,rfl⟩:=List.mem_map.1 h;refine⟨hz.cr r hr1,?_⟩;have:=ha r hr1;show r.2≤1000000+68002*((s.ws.length:Int)-PM.lf (List.replicate (msk s).length false));rw[hl];omega
 ·show 0≤10000000*((s.ws.length:Int)-PM.lf (List.replicate (msk s).length false));rw[hl];omega
section
variable {s:Sn} {k c:Nat} {z:Bz} {x:Int}
theorem lfm_some{y:Int×Int}(h:lfm s z.st x=some y):0≤x∧z.st[x.toNat]?=some false∧s.ws[x.toNat]?=some y:=by
 unfold lfm at h;split at h
 ·rename_i g;exact⟨g.1,g.2,h⟩
 ·cases h
theorem Bok.step{a:RM.Sp}{y:Int×Int}(ok:Bok s z)(hz:RM.Rz s.st s.ws s.cs)(hw:s.ws.length≤128)(ha:z.es[c]?=some a)(hy:lfm s z.st x=some y):Bok s ⟨z.es.set c (RM.nx s.st a y.1),z.st.set x.toNat true,z.co+RM.ar s.st a y.1⟩:=by
 obtain⟨h1,h2,h3⟩:=lfm_some hy;have hlf:=PM.lf_set h2;have hle:=lf_le z.st;have hsl:=ok.sl;have oka:=ok.ok a (List.mem_of_getElem? ha);have hyr:=hz.wr y (List.mem_of_getElem? h3);have g1:=RM.ar_nn hz.rt oka.1 y.1;have g2:=RM.ar_le hz.rt oka.1 y.1;have g3:=RM.dw_bd hz.rt;have g4:=ok.c0;have g5:=ok.c1;refine⟨by rw[List.length_set];exact ok.el,by rw[List.length_set];exact ok.sl,fun b hb=> ?_,by show 0≤z.co+_;omega,?_⟩
 ·rcases List.mem_or_eq_of_mem_set hb with h|h
  ·have:=ok.ok b h;refine⟨this.1,?_⟩;show b.le≤1000000+68002*((s.ws.length:Int)-PM.lf (z.st.set x.toNat true));omega
  ·rw[h];refine⟨RM.nx_ok hz.rt oka.1 hyr.1 hyr.2,?_⟩;rw[RM.nx_eq oka.1];show RM.ar s.st a y.1+RM.dw s.st≤1000000+68002*((s.ws.length:Int)-PM.lf (z.st.set x.toNat true));omega
 ·show z.co+RM.ar s.st a y.1≤10000000*((s.ws.length:Int)-PM.lf (z.st.set x.toNat true));have:=oka.2;omega
end
open Go.Shelf
attribute [local go_sem] Oper.semAt_some
structure Lz(w W:World)(s:Sn)(vc vw:Value)(car:Int):Prop where
 nb:NB W w.heap.size s.st vc vw
 cb:W.heap[w.heap.size+1]?=some (.cells #[.int .i64 car] 3 (0,0))
 nb2:W.heap[w.heap.size+1+1]?=some (.cells #[.int .i64 0] 3 (0,0))
 eb2:W.heap[w.heap.size+1+1+1]?=some (.cells #[.int .i64 0] 29 (0,0))
 bel:Below w.heap.size w W
section
variable {w W W':World} {s:Sn} {vc vw:Value} {car:Int}
theorem Lz.next(h:Lz w W s vc vw car)(hb:Below W.heap.size W W'):Lz w W' s vc vw car:=
 ⟨h.nb.below' hb,(hb.block _ (Array.getElem?_eq_some_iff.1 h.cb).1).trans h.cb,(hb.block _ (Array.getElem?_eq_some_iff.1 h.nb2).1).trans h.nb2,(hb.block _ (Array.getElem?_eq_some_iff.1 h.eb2).1).trans h.eb2,below_class h.bel hb⟩
theorem Lz.size(h:Lz w W s vc vw car):w.heap.size+1+1+1<W.heap.size:=(Array.getElem?_eq_some_iff.1 h.eb2).1
theorem Lz.kp{G:Nat→Prop}(h:Lz w W s vc vw car)(hk:Kp G W W')(hG:∀k,G k→w.heap.size+1+1+1<k):Lz w W' s vc vw car:=by
 have hz:=h.size;have f:∀k,k≤w.heap.size+1+1+1→W'.heap[k]?=W.heap[k]?:=fun k hk'=>hk.block k (by omega) (fun e=>by have:=hG k e;omega);exact⟨(f _ (by omega)).trans h.nb,(f _ (by omega)).trans h.cb,(f _ (by omega)).trans h.nb2,(f _ (by omega)).trans h.eb2,hk.below h.bel h.bel.size (fun i hi e=>by have:=hG i e;omega)⟩
theorem Lz.new(w:World)(s:Sn)(vc vw:Value)(car:Int):Lz w ((((w.alloc (.cells (nv s.st vc vw).toArray 146)).alloc (.cells #[.int .i64 car] 3)).alloc (.cells #[.int .i64 0] 3)).alloc (.cells #[.int .i64 0] 29)) s vc vw car:=by
 obtain⟨p1,p2,p3⟩:=heap3 (w.alloc (.cells (nv s.st vc vw).toArray 146)) (.cells #[.int .i64 car] 3) (.cells #[.int .i64 0] 3) (.cells #[.int .i64 0] 29);rw[World.size_alloc]at p1 p2 p3
 have hb:Below (w.alloc (.cells (nv s.st vc vw).toArray 146)).heap.size (w.alloc (.cells (nv s.st vc vw).toArray 146)) ((((w.alloc (.cells (nv s.st vc vw).toArray 146)).alloc (.cells #[.int .i64 car] 3)).alloc (.cells #[.int .i64 0] 3)).alloc (.cells #[.int .i64 0] 29)):=
  (((Below.refl _ _).alloc (Nat.le_refl _) _).alloc (by simp) _).alloc (by simp) _
 exact⟨(NB.new w s.st vc vw).below' hb,p1,p2,p3,((Below.refl _ w).alloc (Nat.le_refl _) _).trans (hb.mono (by simp))⟩
end
theorem Lz.put{w W:World}{s:Sn}{vc vw:Value}{car:Int}(h:Lz w W s vc vw car)(x y:Int):
  ((W.setCell ⟨w.heap.size+1+1,0,none⟩ (.int .i64 x)).setCell ⟨w.heap.size+1+1+1,0,none⟩ (.int .i64 y)).heap[w.heap.size+1+1]?=some (.cells #[.int .i64 x] 3 (0,0))∧
  ((W.setCell ⟨w.heap.size+1+1,0,none⟩ (.int .i64 x)).setCell ⟨w.heap.size+1+1+1,0,none⟩ (.int .i64 y)).heap[w.heap.size+1+1+1]?=some (.cells #[.int .i64 y] 29 (0,0))∧
  Kp (fun k=>k=w.heap.size+1+1∨k=w.heap.size+1+1+1) W ((W.setCell ⟨w.heap.size+1+1,0,none⟩ (.int .i64 x)).setCell ⟨w.heap.size+1+1+1,0,none⟩ (.int .i64 y)):=by
 have hk:Kp (fun k=>k=w.heap.size+1+1∨k=w.heap.size+1+1+1) W ((W.setCell ⟨w.heap.size+1+1,0,none⟩ (.int .i64 x)).setCell ⟨w.heap.size+1+1+1,0,none⟩ (.int .i64 y)):=((Kp.refl _ W).set _ _ _ (fun _=>.inl rfl)).set _ _ _ (fun _=>.inr rfl);have h1:=blk_set (C:=[.int .i64 0]) h.nb2 0 (.int .i64 x);have hz:=h.size;have hk1:Kp (fun k=>k=w.heap.size+1+1) W (W.setCell ⟨w.heap.size+1+1,0,none⟩ (.int .i64 x)):=(Kp.refl _ W).set _ _ _ (fun _=>rfl);have hk2:Kp (fun k=>k=w.heap.size+1+1+1) (W.setCell ⟨w.heap.size+1+1,0,none⟩ (.int .i64 x)) ((W.setCell ⟨w.heap.size+1+1,0,none⟩ (.int .i64 x)).setCell ⟨w.heap.size+1+1+1,0,none⟩ (.int .i64 y)):=(Kp.refl _ _).set _ _ _ (fun _=>rfl);refine⟨(hk2.block _ (by have:=hk1.size;omega) (by omega)).trans h1,?_,hk⟩;exact blk_set (C:=[.int .i64 0]) ((hk1.block (w.heap.size+1+1+1) hz (by omega)).trans h.eb2) 0 (.int .i64 y)
end Go.Proofs.YtlajleogofmkcaaGreat
namespace Go.Proofs.YtlajleogofmkcaaGreat
open Go.RowKit Go.Shelf
attribute [local go_sem] Oper.semAt_some
section
variable (s:Sn) (k B b eb mb:Nat) (vc vw:Value) (Wz:World)
end
end Go.Proofs.YtlajleogofmkcaaGreat
