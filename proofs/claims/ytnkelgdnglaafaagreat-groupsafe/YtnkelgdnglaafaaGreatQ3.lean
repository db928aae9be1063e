import Derived.Test.YtnkelgdnglaafaaGreatQ2
import Derived.Laws.Rows
import Derived.Laws.CopyOwn
import Derived.RangeFuncNested
import Derived.RangeFuncCalls
import Derived.RangeFuncLeaves
import Derived.RangeFuncBound
import Derived.Shelf.RegionOpen
import Derived.TacticsInMore
import Derived.LoopNIn
import Derived.LoopIn
import Derived.OwnWalkIn
set_option maxHeartbeats 8000000
set_option maxRecDepth 100000
namespace Go.Proofs.YtnkelgdnglaafaaGreat
namespace RM
open SM
structure Sp where
 fl:Int
 he:Int
 le:Int
def dw(s:St):Int:=s.opn+s.wai+s.clo+2
def bg(r:Int×Int):Sp:=⟨r.1,-1,r.2⟩
def ar(s:St)(a:Sp)(f:Int):Int:=if a.he≠ -1∧a.fl=f then a.he else a.le+trav s a.fl f
def nx(s:St)(a:Sp)(f:Int):Sp:=if a.he≠ -1∧a.fl=f then a else⟨f,a.le+trav s a.fl f,a.le+trav s a.fl f+dw s⟩
structure Ok(s:St)(a:Sp):Prop where
 f0:0≤a.fl
 f1:a.fl<s.fl
 l0:0≤a.le
 hh:a.he= -1∨(0≤a.he∧a.le=a.he+dw s)
section
variable {s:St} {a b c:Sp} {f:Int}
theorem dw_bd(r:Rt s):5≤dw s∧dw s≤3002:=by
 have:=r.opn1;have:=r.opn2;have:=r.wai1;have:=r.wai2;have:=r.clo1;have:=r.clo2;unfold dw;omega
theorem bg_ok{r:Int×Int}(h0:0≤r.1)(h1:r.1<s.fl)(h2:0≤r.2):Ok s (bg r):=⟨h0,h1,h2,.inl rfl⟩
theorem nx_eq(ok:Ok s a)(f:Int):nx s a f=⟨f,ar s a f,ar s a f+dw s⟩:=by
 unfold nx ar;by_cases h:a.he≠ -1∧a.fl=f
 ·simp only[if_pos h];rcases ok.hh with h1|⟨_,h1⟩
  ·exact absurd h1 h.1
  ·obtain⟨x,y,z⟩:=a;simp only at h h1;rw[h1,h.2]
 ·simp only[if_neg h]
theorem ar_nn(r:Rt s)(ok:Ok s a)(f:Int):0≤ar s a f:=by
 unfold ar;split
 ·rename_i h;rcases ok.hh with h1|⟨h1,_⟩
  ·exact absurd h1 h.1
  ·exact h1
 ·have:=ok.l0;have:=(trav_bd r a.fl f).1;omega
theorem ar_le(r:Rt s)(ok:Ok s a)(f:Int):ar s a f≤a.le+65000:=by
 unfold ar;split
 ·rename_i h;rcases ok.hh with h1|⟨h1,h2⟩
  ·exact absurd h1 h.1
  ·have:=dw_bd r;omega
 ·have:=(trav_bd r a.fl f).2;omega
theorem nx_ok(r:Rt s)(ok:Ok s a)(h0:0≤f)(h1:f<s.fl):Ok s (nx s a f):=by
 rw[nx_eq ok];have hn:=ar_nn r ok f;have:=dw_bd r;exact⟨h0,h1,by show 0≤ar s a f+dw s;omega,.inr ⟨hn,rfl⟩⟩
theorem ar_nx(r:Rt s)(ok:Ok s a)(f g:Int):ar s (nx s a f) g=if f=g then ar s a f else ar s a f+dw s+trav s f g:=by
 rw[nx_eq ok];have:=ar_nn r ok f;unfold ar at this⊢;simp only;by_cases e:f=g
 ·rw[if_pos ⟨by omega,e⟩,if_pos e]
 ·rw[if_neg (fun h=>e h.2),if_neg e]
def Le(s:St)(a b:Sp):Prop:=∀f,0≤f→f<s.fl→ar s a f≤ar s b f
theorem Le.refl(s:St)(a:Sp):Le s a a:=fun _ _ _=>Int.le_refl _
theorem Le.trans(h:Le s a b)(k:Le s b c):Le s a c:=fun f h0 h1=>Int.le_trans (h f h0 h1) (k f h0 h1)
theorem Le.nx(r:Rt s)(oa:Ok s a)(ob:Ok s b)(h:Le s a b)(h0:0≤f)(h1:f<s.fl):Le s (nx s a f) (nx s b f):=fun g _ _=>by
 rw[ar_nx r oa,ar_nx r ob];have:=h f h0 h1;split<;>omega
end
def go(s:St):Sp→List Int→Sp
 |a,[]=>a
 |a,f::l=>go s (nx s a f) l
def tm(s:St):Sp→List Int→List Int
 |_,[]=>[]
 |a,f::l=>ar s a f::tm s (nx s a f) l
def In(s:St)(l:List Int):Prop:=∀f∈l,0≤f∧f<s.fl
section
variable {s:St} {a b:Sp} {l m:List Int}
theorem In.cons{f:Int}(h:In s (f::l)):(0≤f∧f<s.fl)∧In s l:=⟨h f (by simp),fun g hg=>h g (by simp[hg])⟩
theorem In.append:In s (l++m)↔In s l∧In s m:=⟨fun h=>⟨fun f hf=>h f (by simp[hf]),fun f hf=>h f (by simp[hf])⟩,fun h f hf=>(List.mem_append.1 hf).elim (h.1 f) (h.2 f)⟩
theorem go_append:∀(l m:List Int) (a:Sp),go s a (l++m)=go s (go s a l) m
 |[],_,_=>rfl
 |f::l,m,a=>go_append l m (nx s a f)
theorem tm_append:∀(l m:List Int) (a:Sp),tm s a (l++m)=tm s a l++tm s (go s a l) m
 |[],_,_=>rfl
 |f::l,m,a=>by
  show ar s a f::tm s (nx s a f) (l++m)=_;rw[tm_append l m];rfl
theorem tm_length:∀(l:List Int) (a:Sp),(tm s a l).length=l.length
 |[],_=>rfl
 |f::l,a=>by
  show(tm s (nx s a f) l).length+1=_;rw[tm_length l];rfl
theorem go_snoc(f:Int):go s a (l++[f])=nx s (go s a l) f:=by rw[go_append];rfl
theorem tm_snoc(f:Int):tm s a (l++[f])=tm s a l++[ar s (go s a l) f]:=by rw[tm_append];rfl
theorem tm_get{f:Int}:∀{l:List Int} {a:Sp} {i:Nat},l[i]?=some f→(tm s a l)[i]?=some (ar s (go s a (l.take i)) f)
 |[],_,_,h=>by simp at h
 |g::l,a,0,h=>by simp at h;subst h;rfl
 |g::l,a,i+1,h=>tm_get (l:=l) (a:=nx s a g) (i:=i) (by simpa using h)
theorem go_ok(r:Rt s):∀{l:List Int} {a:Sp},Ok s a→In s l→Ok s (go s a l)
 |[],_,ok,_=>ok
 |f::l,a,ok,h=>go_ok (l:=l) (a:=nx s a f) r (nx_ok r ok h.cons.1.1 h.cons.1.2) h.cons.2
theorem Le.go(r:Rt s):∀{l:List Int} {a b:Sp},Ok s a→Ok s b→In s l→Le s a b→Le s (go s a l) (go s b l)
 |[],_,_,_,_,_,h=>h
 |f::l,a,b,oa,ob,hl,h=>Le.go (l:=l) (a:=RM.nx s a f) (b:=RM.nx s b f) r (nx_ok r oa hl.cons.1.1 hl.cons.1.2) (nx_ok r ob hl.cons.1.1 hl.cons.1.2) hl.cons.2 (h.nx r oa ob hl.cons.1.1 hl.cons.1.2)
theorem go_le(r:Rt s):∀{l:List Int} {a:Sp},Ok s a→In s l→(go s a l).le≤a.le+68002*(l.length:Int)
 |[],_,_,_=>by simp[go]
 |f::l,a,ok,hl=>by
  have h1:=go_le r (nx_ok r ok hl.cons.1.1 hl.cons.1.2) hl.cons.2;have h2:=ar_le r ok f;have h3:=dw_bd r;show(go s (nx s a f) l).le≤_;rw[nx_eq ok]at h1⊢;simp only at h1;rw[List.length_cons];omega
end
section
variable {s:St} {a:Sp} {n:Int}
end
end RM
namespace RM
open SM
def wf(ws:List (Int×Int))(w:Int):Int:=(ws[w.toNat]?.map (·.1)).getD 0
theorem wf_get{ws:List (Int×Int)}{i:Nat}{y:Int×Int}(h:ws[i]?=some y):wf ws (i:Int)=y.1:=by unfold wf;rw[Int.toNat_natCast,h];rfl
def pr1(s:St)(ws:List (Int×Int))(r:Int×Int)(l:List Int):List (Int×Int):=l.zip (tm s (bg r) (l.map (wf ws)))
def prs(s:St)(ws:List (Int×Int)):List (Int×Int)→List (List Int)→List (Int×Int)
 |r::cs,l::p=>pr1 s ws r l++prs s ws cs p
 |_,_=>[]
def put:List Int→List (Int×Int)→List Int
 |o,[]=>o
 |o,x::q=>put (o.set x.1.toNat x.2) q
def wts(s:St)(ws cs:List (Int×Int))(p:List (List Int)):List Int:=put (List.replicate ws.length 0) (prs s ws cs p)
def cst(s:St)(ws cs:List (Int×Int))(p:List (List Int)):Int:=((prs s ws cs p).map (·.2)).sum
section
variable {s:St} {ws:List (Int×Int)}
theorem pr1_fst(r:Int×Int)(l:List Int):(pr1 s ws r l).map (·.1)=l:=by
 unfold pr1;exact List.map_fst_zip (by rw[tm_length,List.length_map];exact Nat.le_refl _)
theorem pr1_snd(r:Int×Int)(l:List Int):(pr1 s ws r l).map (·.2)=tm s (bg r) (l.map (wf ws)):=by
 unfold pr1;exact List.map_snd_zip (by rw[tm_length,List.length_map];exact Nat.le_refl _)
theorem prs_fst:∀{cs:List (Int×Int)} {p:List (List Int)},cs.length=p.length→(prs s ws cs p).map (·.1)=p.flatten
 |[],[],_=>rfl
 |[],_::_,h=>by simp at h
 |_::_,[],h=>by simp at h
 |r::cs,l::p,h=>by
  show(pr1 s ws r l++prs s ws cs p).map (·.1)=_;rw[List.map_append,pr1_fst,prs_fst (by simpa using h),List.flatten_cons]
theorem cst_cons(r:Int×Int)(l:List Int)(cs:List (Int×Int))(p:List (List Int)):cst s ws (r::cs) (l::p)=(tm s (bg r) (l.map (wf ws))).sum+cst s ws cs p:=by
 show((pr1 s ws r l++prs s ws cs p).map (·.2)).sum=_;rw[List.map_append,List.sum_append,pr1_snd];rfl
theorem cst_nil(cs:List (Int×Int)):cst s ws cs []=0:=by cases cs<;>rfl
end
theorem put_length:∀(q:List (Int×Int)) (o:List Int),(put o q).length=o.length
 |[],_=>rfl
 |x::q,o=>by
  show(put (o.set x.1.toNat x.2) q).length=_;rw[put_length q,List.length_set]
theorem put_append:∀(q r:List (Int×Int)) (o:List Int),put o (q++r)=put (put o q) r
 |[],_,_=>rfl
 |x::q,r,o=>put_append q r (o.set x.1.toNat x.2)
def Once(q:List (Int×Int)):Prop:=q.Pairwise fun a b=>a.1.toNat≠b.1.toNat
theorem sum_set{t:Int}:∀{o:List Int} {i:Nat},o[i]?=some 0→(o.set i t).sum=o.sum+t
 |[],_,h=>by simp at h
 |a::o,0,h=>by
  simp at h;subst h;rw[List.set_cons_zero,List.sum_cons,List.sum_cons];omega
 |a::o,i+1,h=>by
  rw[List.set_cons_succ,List.sum_cons,List.sum_cons,sum_set (by simpa using h)];omega
theorem put_sum:∀{q:List (Int×Int)} {o:List Int},Once q→(∀x∈q,o[x.1.toNat]?=some 0)→(put o q).sum=o.sum+(q.map (·.2)).sum
 |[],_,_,_=>by simp[put]
 |x::q,o,ho,h=>by
  obtain⟨h1,h2⟩:=List.pairwise_cons.1 ho;show(put (o.set x.1.toNat x.2) q).sum=_;rw[put_sum h2 (fun y hy=>by rw[List.getElem?_set_ne (h1 y hy)];exact h y (by simp[hy])),sum_set (h x (by simp)),List.map_cons,List.sum_cons];omega
theorem sum_rep(n:Nat):(List.replicate n (0:Int)).sum=0:=by
 induction n with
 |zero=>rfl
 |succ n ih=>rw[List.replicate_succ,List.sum_cons,ih];rfl
theorem fz_range{ms:List Nat}{p:List (List Int)}(h:PM.Fz ms p):∀x∈p.flatten,0≤x∧x<ms.length:=fun x hx=>by
 obtain⟨l,hl,hxl⟩:=List.mem_flatten.1 hx;obtain⟨c,hc⟩:=List.getElem?_of_mem hl;have:=PM.okx_iff.1 (h.ok c l hc x hxl);exact⟨this.1,this.2.1⟩
theorem fz_nodup{ms:List Nat}{p:List (List Int)}(h:PM.Fz ms p):p.flatten.Nodup:=by
 rw[List.nodup_iff_count];intro x;by_cases hx:x∈p.flatten
 ·have hr:=fz_range h x hx;obtain⟨w,rfl⟩:∃w:Nat,x=(w:Int):=⟨x.toNat,by omega⟩;rw[h.once w (by omega)];exact Nat.le_refl _
 ·rw[List.count_eq_zero.2 hx];omega
theorem once_of{q:List (Int×Int)}(h:(q.map (·.1)).Nodup)(h0:∀x∈q,0≤x.1):Once q:=by
 unfold Once
 have h1:q.Pairwise fun a b=>a.1≠b.1:=by
  have:=h;unfold List.Nodup at this;rwa[List.pairwise_map]at this
 refine h1.imp_of_mem fun ha hb hne=> ?_;have:=h0 _ ha;have:=h0 _ hb;omega
section
variable {s:St} {ws cs:List (Int×Int)} {ms:List Nat} {p:List (List Int)}
theorem prs_mem(hl:cs.length=p.length){x:Int×Int}(hx:x∈prs s ws cs p):x.1∈p.flatten:=by
 rw[←prs_fst (s:=s) (ws:=ws) hl];exact List.mem_map.2 ⟨x,hx,rfl⟩
theorem prs_once(hf:PM.Fz ms p)(hl:cs.length=p.length):Once (prs s ws cs p):=
 once_of (by rw[prs_fst hl];exact fz_nodup hf) fun x hx=>(fz_range hf _ (prs_mem hl hx)).1
theorem wts_length:(wts s ws cs p).length=ws.length:=by unfold wts;rw[put_length,List.length_replicate]
theorem wts_sum(hf:PM.Fz ms p)(hm:ms.length=ws.length)(hl:cs.length=p.length):(wts s ws cs p).sum=cst s ws cs p:=by
 unfold wts cst;rw[put_sum (prs_once hf hl) (fun x hx=> ?_),sum_rep,Int.zero_add];have:=fz_range hf _ (prs_mem hl hx);rw[List.getElem?_replicate,if_pos (by omega)]
theorem prs_at:∀{cs:List (Int×Int)} {p:List (List Int)} {c i:Nat} {r:Int×Int} {l:List Int} {w:Int},cs[c]?=some r→p[c]?=some l→l[i]?=some w→(w,ar s (go s (bg r) ((l.take i).map (wf ws))) (wf ws w))∈prs s ws cs p
 |[],_,_,_,_,_,_,h,_,_=>by simp at h
 |_::_,[],_,_,_,_,_,_,h,_=>by simp at h
 |r0::cs,l0::p,0,i,r,l,w,h1,h2,h3=>by
  simp at h1 h2;subst h1 h2;show _∈pr1 s ws r0 l0++prs s ws cs p;refine List.mem_append_left _ ?_;have hi:=(List.getElem?_eq_some_iff.1 h3).1;have h4:(l0.map (wf ws))[i]?=some (wf ws w):=by rw[List.getElem?_map,h3];rfl
  have h5:=tm_get (s:=s) (a:=bg r0) h4;rw[←List.map_take]at h5;refine List.mem_of_getElem? (i:=i) ?_;unfold pr1;rw[List.getElem?_zip_eq_some];exact⟨h3,h5⟩
 |r0::cs,l0::p,c+1,i,r,l,w,h1,h2,h3=>List.mem_append_right _ (prs_at (cs:=cs) (p:=p) (by simpa using h1) (by simpa using h2) h3)
theorem prs_where:∀{cs:List (Int×Int)} {p:List (List Int)} {w t:Int},(w,t)∈prs s ws cs p→∃(c i:Nat) (r:Int×Int) (l:List Int),cs[c]?=some r∧p[c]?=some l∧l[i]?=some w∧t=ar s (go s (bg r) ((l.take i).map (wf ws))) (wf ws w)
 |[],_,_,_,h=>by simp[prs]at h
 |_::_,[],_,_,h=>by simp[prs]at h
 |r0::cs,l0::p,w,t,h=>by
  rcases List.mem_append.1 (show _∈pr1 s ws r0 l0++prs s ws cs p from h)with h|h
  ·obtain⟨i,hi⟩:=List.getElem?_of_mem h;unfold pr1 at hi;rw[List.getElem?_zip_eq_some]at hi;have h4:(l0.map (wf ws))[i]?=some (wf ws w):=by rw[List.getElem?_map,hi.1];rfl
   have h5:=tm_get (s:=s) (a:=bg r0) h4;rw[←List.map_take,hi.2]at h5;cases h5;exact⟨0,i,r0,l0,rfl,rfl,hi.1,rfl⟩
  ·obtain⟨c,i,r,l,h1,h2,h3,h4⟩:=prs_where h;exact⟨c+1,i,r,l,by simpa using h1,by simpa using h2,h3,h4⟩
end
end RM
namespace RM
open SM
section
variable {s:St} {ws:List (Int×Int)}
theorem cst_set:∀{cs:List (Int×Int)} {p:List (List Int)} {c:Nat} {r:Int×Int} {l:List Int} (l':List Int),cs[c]?=some r→p[c]?=some l→
  cst s ws cs (p.set c l')+(tm s (bg r) (l.map (wf ws))).sum=cst s ws cs p+(tm s (bg r) (l'.map (wf ws))).sum
 |[],_,_,_,_,_,h,_=>by simp at h
 |_::_,[],_,_,_,_,_,h=>by simp at h
 |r0::cs,l0::p,0,r,l,l',h1,h2=>by
  simp at h1 h2;subst h1 h2;rw[List.set_cons_zero,cst_cons,cst_cons];omega
 |r0::cs,l0::p,c+1,r,l,l',h1,h2=>by
  have:=cst_set (cs:=cs) (p:=p) (c:=c) (r:=r) (l:=l) l' (by simpa using h1) (by simpa using h2);rw[List.set_cons_succ,cst_cons,cst_cons];omega
end
structure Rz(s:St)(ws cs:List (Int×Int)):Prop where
 rt:Rt s
 cr:∀r∈cs,Ok s (bg r)
 wr:∀y∈ws,0≤y.1∧y.1<s.fl
section
variable {s:St} {ws cs:List (Int×Int)} {p:List (List Int)}
theorem Rz.wf(h:Rz s ws cs){x:Int}(h0:0≤x)(h1:x<ws.length):0≤wf ws x∧wf ws x<s.fl:=by
 obtain⟨w,rfl⟩:∃w:Nat,x=(w:Int):=⟨x.toNat,by omega⟩;have hw:ws[w]?=some (ws[w]'(by omega)):=List.getElem?_eq_getElem (by omega);rw[wf_get hw];exact h.wr _ (List.mem_of_getElem? hw)
theorem Rz.inn(h:Rz s ws cs){l:List Int}(hl:∀x∈l,0≤x∧x<ws.length):In s (l.map (RM.wf ws)):=fun f hf=>by
 obtain⟨x,hx,rfl⟩:=List.mem_map.1 hf;exact h.wf (hl x hx).1 (hl x hx).2
theorem Rz.more(h:Rz s ws cs){y:Int×Int}(h0:0≤y.1)(h1:y.1<s.fl):Rz s (ws++[y]) cs:=⟨h.rt,h.cr,fun z hz=>by
 rcases List.mem_append.1 hz with hz|hz
 ·exact h.wr z hz
 ·simp at hz;subst hz;exact⟨h0,h1⟩⟩
end
end RM
open Go.RowKit
theorem rgt_rz{s:Sn}(h:rgt s=true):RM.Rz s.st s.ws s.cs:=by
 unfold rgt at h;simp only[Bool.and_eq_true,decide_eq_true_eq]at h;obtain⟨⟨⟨⟨h1,_⟩,_⟩,h4⟩,h5⟩:=h;rw[List.all_eq_true]at h4 h5;refine⟨(rightB_iff _).1 h1,fun r hr=> ?_,fun y hy=> ?_⟩
 ·have:=h4 r hr;unfold cok at this;simp only[Bool.and_eq_true,decide_eq_true_eq]at this;exact RM.bg_ok this.1.1.1 this.1.1.2 this.1.2
 ·have:=wok_iff'.1 (h5 y hy);exact⟨this.1,this.2.1⟩
theorem rgt_after{s:Sn}(h:rgt s=true):∀r∈s.cs,r.2≤1000000:=fun r hr=>by
 unfold rgt at h;simp only[Bool.and_eq_true,decide_eq_true_eq]at h;obtain⟨⟨⟨⟨_,_⟩,_⟩,h4⟩,_⟩:=h;rw[List.all_eq_true]at h4;have:=h4 r hr;unfold cok at this;simp only[Bool.and_eq_true,decide_eq_true_eq]at this;exact this.2
namespace RM
variable {s:St} {ws:List (Int×Int)}
theorem pr1_length(r:Int×Int)(l:List Int):(pr1 s ws r l).length=l.length:=by
 unfold pr1;rw[List.length_zip,tm_length,List.length_map,Nat.min_self]
theorem prs_snoc:∀{k:Nat} {cs:List (Int×Int)} {p:List (List Int)} {r:Int×Int} {l:List Int},cs[k]?=some r→p[k]?=some l→prs s ws (cs.take (k+1)) (p.take (k+1))=prs s ws (cs.take k) (p.take k)++pr1 s ws r l
 |_,[],_,_,_,h,_=>by simp at h
 |_,_::_,[],_,_,_,h=>by simp at h
 |0,r0::cs,l0::p,r,l,h1,h2=>by
  simp at h1 h2;subst h1 h2;simp[prs]
 |k+1,r0::cs,l0::p,r,l,h1,h2=>by
  have:=prs_snoc (k:=k) (cs:=cs) (p:=p) (r:=r) (l:=l) (by simpa using h1) (by simpa using h2);rw[List.take_succ_cons,List.take_succ_cons,List.take_succ_cons,List.take_succ_cons];show pr1 s ws r0 l0++prs s ws (cs.take (k+1)) (p.take (k+1))=(pr1 s ws r0 l0++prs s ws (cs.take k) (p.take k))++pr1 s ws r l;rw[this,List.append_assoc]
variable {cs:List (Int×Int)} {p:List (List Int)}
end RM
structure Wq(w W:World)(cb:Nat)(s:Sn)(D:Nat→Prop)(vc vw vp:Value)(p:List (List Int))(o:List Int):Prop where
 nb:NB W w.heap.size s.st vc vw
 ow:OI W (w.heap.size+1) (.slice (some ⟨cb,0,none⟩) s.ws.length s.ws.length) o
 rp:RL D W vp p
 rc:R2 D W vc s.cs
 rw:R2 D W vw s.ws
 dl:∀g,D g→g<w.heap.size
 bel:Below w.heap.size w W
section
variable {w W W':World} {cb:Nat} {s:Sn} {D:Nat→Prop} {vc vw vp:Value} {p:List (List Int)} {o:List Int}
theorem Wq.next(h:Wq w W cb s D vc vw vp p o)(hb:Below W.heap.size W W'):Wq w W' cb s D vc vw vp p o:=
 ⟨h.nb.below' hb,h.ow.keep fun g hg=>hb.block g (h.ow.lt g hg).2,h.rp.below' hb,h.rc.below' hb,h.rw.below' hb,h.dl,below_class h.bel hb⟩
theorem Wq.put(h:Wq w W cb s D vc vw vp p o)(i:Nat)(x:Int):Wq w (W.setCell ⟨cb,i,none⟩ (.int .i64 x)) cb s D vc vw vp p (o.set i x):=by
 have hl:=(h.ow.lt cb rfl).1;have keep:∀k,k≠cb→(W.setCell ⟨cb,i,none⟩ (.int .i64 x)).heap[k]?=W.heap[k]?:=fun k hk=>Below.heap_setCell W ⟨cb,i,none⟩ _ k hk;have kd:∀g,D g→g<W.heap.size→(W.setCell ⟨cb,i,none⟩ (.int .i64 x)).heap[g]?=W.heap[g]?:=fun g hg _=>keep g (by have:=h.dl g hg;omega);have hs:W.heap.size≤(W.setCell ⟨cb,i,none⟩ (.int .i64 x)).heap.size:=by simp[World.setCell]
 exact⟨(keep _ (by omega)).trans h.nb,h.ow.put i x,h.rp.keep hs kd,h.rc.keep hs kd,h.rw.keep hs kd,h.dl,h.bel.setCell (p:=⟨cb,i,none⟩) (by show _≤cb;omega) _⟩
end
theorem ic_rep(n:Nat):ic (List.replicate n 0)=List.replicate n (Value.int .i64 0):=by unfold ic;rw[List.map_replicate]
theorem cell_lt{W:World}{g o:Nat}{v:Value}(h:W.cell? ⟨g,o,none⟩=some v):g<W.heap.size:=by
 obtain⟨ob,ho,_⟩:=cells_of_cell h;exact(Array.getElem?_eq_some_iff.1 ho).1
namespace RM
theorem put_mem{t:Int}:∀{q:List (Int×Int)} {o:List Int},t∈put o q→t∈o∨∃x∈q,x.2=t
 |[],_,h=>.inl h
 |x::q,o,h=>by
  rcases put_mem (q:=q) (o:=o.set x.1.toNat x.2) h with h|⟨y,hy,e⟩
  ·rcases List.mem_or_eq_of_mem_set h with h|h
   ·exact .inl h
   ·exact .inr ⟨x,by simp,h.symm⟩
  ·exact .inr ⟨y,by simp[hy],e⟩
theorem prs_bd{s:St}{ws cs:List (Int×Int)}{p:List (List Int)}(z:Rz s ws cs)(hp:∀x∈p.flatten,0≤x∧x<ws.length)(hc:∀r∈cs,r.2≤1000000)(hl:∀l∈p,l.length≤1000):∀x∈prs s ws cs p,0≤x.2∧x.2≤80000000:=fun x hx=>by
 obtain⟨w,t⟩:=x;obtain⟨c,i,r,l,h1,h2,h3,h4⟩:=prs_where hx;have hall:∀x∈l,0≤x∧x<ws.length:=fun x hx=>hp x (List.mem_flatten.2 ⟨l,List.mem_of_getElem? h2,hx⟩);have hin:=z.inn (l:=l.take i) fun x hx=>hall x (List.mem_of_mem_take hx);have ok0:=z.cr r (List.mem_of_getElem? h1);have ok:=go_ok z.rt ok0 hin;have g1:=ar_nn z.rt ok (wf ws w);have g2:=ar_le z.rt ok (wf ws w);have g3:=go_le z.rt ok0 hin;have g4:=hc r (List.mem_of_getElem? h1);have g5:=hl l (List.mem_of_getElem? h2);have g6:=(List.getElem?_eq_some_iff.1 h3).1;rw[List.length_map,List.length_take]at g3;have g7:(bg r).le=r.2:=rfl;show 0≤t∧t≤_;omega
theorem wts_bd{s:St}{ws cs:List (Int×Int)}{p:List (List Int)}(z:Rz s ws cs)(hp:∀x∈p.flatten,0≤x∧x<ws.length)(hc:∀r∈cs,r.2≤1000000)(hl:∀l∈p,l.length≤1000):∀t∈wts s ws cs p,0≤t∧t≤80000000:=fun t ht=>by
 rcases put_mem ht with h|⟨x,hx,e⟩
 ·rw[List.mem_replicate]at h;omega
 ·rw[←e];exact prs_bd z hp hc hl x hx
theorem sum_bd{B:Int}:∀{l:List Int},(∀t∈l,0≤t∧t≤B)→0≤l.sum∧l.sum≤B*(l.length:Int)
 |[],_=>by simp
 |a::l,h=>by
  have h1:=h a (by simp);have h2:=sum_bd (l:=l) fun t ht=>h t (by simp[ht]);rw[List.sum_cons,List.length_cons,Int.natCast_add,Int.mul_add];omega
end RM
structure Fs(s:Sn)(p:List (List Int)):Prop where
 rg:rgt s=true
 rz:RM.Rz s.st s.ws s.cs
 fz:PM.Fz (msk s) p
 pc:s.cs.length=p.length
 ml:(msk s).length=s.ws.length
 wl:s.ws.length≤128
 p1:1≤p.length
 p8:p.length≤8
 fr:∀x∈p.flatten,0≤x∧x<s.ws.length
 af:∀r∈s.cs,r.2≤1000000
theorem fsb_fs{s:Sn}{p:List (List Int)}(hf:fsb s p=true):Fs s p:=by
 have hf3:rgt s=true∧p.length=s.cs.length∧PM.feas (msk s) p=true:=by unfold fsb at hf;simp[Bool.and_eq_true]at hf;exact⟨hf.1.1,hf.1.2,hf.2⟩
 obtain⟨n,hrs⟩:=rgt_rs hf3.1;have h1:=hrs.cl;have h2:=hrs.n8;have h3:=hrs.n1;have h4:=hf3.2.1;refine⟨hf3.1,rgt_rz hf3.1,PM.feas_iff.1 hf3.2.2,hf3.2.1.symm,hrs.mm.len,hrs.wl,by omega,by omega,fun x hx=> ?_,rgt_after hf3.1⟩;have:=RM.fz_range (PM.feas_iff.1 hf3.2.2) x hx;rw[show(msk s).length=s.ws.length from hrs.mm.len]at this;exact this
theorem Fs.sum{s:Sn}{p:List (List Int)}(h:Fs s p):(RM.wts s.st s.ws s.cs p).sum=RM.cst s.st s.ws s.cs p:=RM.wts_sum h.fz h.ml h.pc
theorem Fs.bd{s:Sn}{p:List (List Int)}(h:Fs s p)(hl:∀l∈p,l.length≤1000):∀t∈RM.wts s.st s.ws s.cs p,0≤t∧t≤80000000:=RM.wts_bd h.rz h.fr h.af hl
theorem Fs.cost{s:Sn}{p:List (List Int)}(h:Fs s p)(hl:∀l∈p,l.length≤1000):0≤RM.cst s.st s.ws s.cs p∧RM.cst s.st s.ws s.cs p≤10240000000:=by
 have h1:=RM.sum_bd (h.bd hl);rw[h.sum,RM.wts_length]at h1;have:=h.wl;omega
def TB(W:World)(b:Nat)(a:RM.Sp):Prop:=W.heap[b]?=some (.cells #[.int .i64 a.fl,.int .i64 a.he,.int .i64 a.le] 160 (0,0))
section
variable {W W':World} {b:Nat} {a:RM.Sp}
theorem TB.lt(H:TB W b a):b<W.heap.size:=(Array.getElem?_eq_some_iff.1 H).1
theorem TB.c0(H:TB W b a):W.cell? ⟨b,0,none⟩=some (.int .i64 a.fl):=by simp[World.cell?,show W.heap[b]?=_ from H]
theorem TB.c1(H:TB W b a):W.cell? ⟨b,1,none⟩=some (.int .i64 a.he):=by simp[World.cell?,show W.heap[b]?=_ from H]
theorem TB.c2(H:TB W b a):W.cell? ⟨b,2,none⟩=some (.int .i64 a.le):=by simp[World.cell?,show W.heap[b]?=_ from H]
theorem TB.below'(H:TB W b a)(hb:Below W.heap.size W W'):TB W' b a:=(hb.block b H.lt).trans H
theorem TB.kp{G:Nat→Prop}(H:TB W b a)(k:Kp G W W')(hG:¬G b):TB W' b a:=(k.block b H.lt hG).trans H
theorem TB.new(W:World)(a:RM.Sp):TB (W.alloc (.cells #[.int .i64 a.fl,.int .i64 a.he,.int .i64 a.le] 160)) W.heap.size a:=World.alloc_heap_new W _
end
theorem infoT:(Tryz.prog.info? 160).map (·.size)=some 3:=by kernel_rfl
theorem kp_row(b:Nat)(w:World)(cs:Array Value):Kp (fun k=>k=b) w (w.setRow b cs):=by
 have h:Below 0 w (w.setRow b cs):=below_setRow (Below.refl 0 w) (Nat.zero_le _) cs;exact⟨h.os,h.tape,h.output,h.size,fun k _ hk=>setRow_other w b k cs hk⟩
theorem wpList_storeT{ops:Array Oper}{rest:List Oper}{op:Oper}{a:Act}{w:World}{Q:Exit→Act→World→Prop}(hgd:op.guard=none)(x y:Operand)(ho:op.op=.store 160 x y)
  (b:Nat) {s:RM.Sp} {f h l:Int} (hx:a.eval x=.pointer (some ⟨b,0,none⟩)) (hy:a.eval y=.agg #[.int .i64 f,.int .i64 h,.int .i64 l]) (hL:TB w b s)
  (hn:∀W',Kp (fun k=>k=b) w W'→TB W' b ⟨f,h,l⟩→wpList Tryz.prog ops Q rest (a.put op.dst undef) W'):wpList Tryz.prog ops Q (op::rest) a w:=
 wpList_store_row hgd 160 x y ho b _ hx hy _ _ hL infoT rfl (by simp[Value.oneCell']) (hn _ (kp_row b w _) (setRow_heap w b _ _ _ _ hL))
theorem loadT(w:World)(b:Nat)(a:RM.Sp)(h:TB w b a):(Instr.loadAt 160 (.pointer (some ⟨b,0,none⟩))).run Tryz.prog w=.ok (.agg #[.int .i64 a.fl,.int .i64 a.he,.int .i64 a.le]) w:=by
 simp only[Instr.loadAt,Instr.sureAddr,Sem.run_bind,Sem.run_pure,Result.andThen_ok,run_loadVar_row (P:=Tryz.prog) w b 160 160 _ _ _ h Tryz.underlying160 rfl infoT]
theorem quiet_load23r{C:World→Prop}{K:Act→Prop}{o:Oper}{a:Act}(x:Operand)(b:Nat)(s:St)(ho:o.op=.load 23 x)(hx:a.eval x=.pointer (some ⟨b,0,none⟩))(hr:∀w,C w→SB w b s)
  (h:K (a.put o.dst (.agg (sv s).toArray))):o.quiet Tryz.prog a C K:=
 quiet_val _ (fun w hw=>by unfold execOp;simp only[ho,hx,Sem.run_bind,Sem.run_pure,Result.andThen_ok,load23 w b s (hr w hw).range]) h
theorem retT{fn:Func}{t:Tmp}(hf:fn.results= #[.cell t 160]){tmps:Array Value}{w:World}{b:Nat}{a:RM.Sp}(hp:tmps.getD t undef=.pointer (some ⟨b,0,none⟩))(hC:TB w b a):
  (results fn tmps).run Tryz.prog w=.ok (.agg #[.int .i64 a.fl,.int .i64 a.he,.int .i64 a.le]) w:=
 results_cell_row hf tmps w b _ _ _ _ hp hC Tryz.underlying160 rfl infoT
theorem begin_any(f a:Int)(w:World):Calls Tryz.prog 89 #[.agg #[.int .i64 f,.int .i64 a]] w fun e w'=>e=.returned (.agg #[.int .i64 f,.int .i64 (-1),.int .i64 a])∧Below w.heap.size w w':=by
 have HT:=Hd (TB.new (w.alloc (.cells #[.int .i64 f,.int .i64 a] 127)) ⟨0,0,0⟩);have HB:=Hd (((Below.refl w.heap.size w).alloc (Nat.le_refl _) (.cells #[.int .i64 f,.int .i64 a] 127)).alloc (by simp) (.cells #[.int .i64 0,.int .i64 0,.int .i64 0] 160))
 go_enter Tryz.func89,Tryz.ntmps89
 go_wp2_with (refine wpList_storeT rfl _ _ rfl (w.heap.size+1) rfl rfl (by simpa using HT.out) ?_)
 intro W1 hk1 ht1;go_wp2;refine bodyPost_ret (retT Tryz.results89 rfl ht1) rfl ⟨rfl,hk1.below HB.out (by simp;omega) (fun i hi e=>by omega)⟩
structure Nz(w W:World)(s:St)(fl he le:Int):Prop where
 sb:SB W w.heap.size s
 tb:TB W (w.heap.size+1) ⟨fl,he,le⟩
 rb:TB W (w.heap.size+1+1) ⟨0,0,0⟩
 bel:Below w.heap.size w W
theorem Nz.new(w:World)(s:St)(fl he le:Int):Nz w (((w.alloc (.cells (sv s).toArray 23)).alloc (.cells #[.int .i64 fl,.int .i64 he,.int .i64 le] 160)).alloc (.cells #[.int .i64 0,.int .i64 0,.int .i64 0] 160)) s fl he le:=by
 have b1:=(((Below.refl (w.heap.size+1) (w.alloc (.cells (sv s).toArray 23))).alloc (by simp) (.cells #[.int .i64 fl,.int .i64 he,.int .i64 le] 160))).alloc (by simp) (.cells #[.int .i64 0,.int .i64 0,.int .i64 0] 160);have b2:=(Below.refl (w.heap.size+2) ((w.alloc (.cells (sv s).toArray 23)).alloc (.cells #[.int .i64 fl,.int .i64 he,.int .i64 le] 160))).alloc (by simp) (.cells #[.int .i64 0,.int .i64 0,.int .i64 0] 160);have h2:=(TB.new (w.alloc (.cells (sv s).toArray 23)) ⟨fl,he,le⟩).below' (by simpa using b2);have h3:=TB.new ((w.alloc (.cells (sv s).toArray 23)).alloc (.cells #[.int .i64 fl,.int .i64 he,.int .i64 le] 160)) ⟨0,0,0⟩;simp only[World.size_alloc]at h2 h3;exact⟨(SB.new w s).below' (by simpa using b1),h2,h3,(((Below.refl w.heap.size w).alloc (Nat.le_refl _) _).alloc (by simp) _).alloc (by simp;omega) _⟩
theorem Nz.next{w W W':World}{s:St}{fl he le:Int}(h:Nz w W s fl he le)(hb:Below W.heap.size W W'):Nz w W' s fl he le:=⟨h.sb.below' hb,h.tb.below' hb,h.rb.below' hb,below_class h.bel hb⟩
theorem next_same(s:St)(f he le:Int)(hh:he≠ -1)(w:World):Calls Tryz.prog 129 #[.agg (sv s).toArray,.agg #[.int .i64 f,.int .i64 he,.int .i64 le],.int .i64 f] w fun e w'=>e=.returned (.agg #[.int .i64 f,.int .i64 he,.int .i64 le])∧Below w.heap.size w w':=by
 have HZ:=Hd (Nz.new w s f he le);have c0:=HZ.out.tb.c0;have c1:=HZ.out.tb.c1;have c2:=HZ.out.tb.c2;have q1:(he != -1)=true:=by simpa using hh
 clear hh
 go_enter Tryz.func129,Tryz.ntmps129
 go_wp2_with (refine wpList_storeT rfl _ _ rfl (w.heap.size+1+1) rfl rfl HZ.out.rb ?_)
 intro W1 hk1 ht1;have HK:=Hd (And.intro hk1 ht1);clear hk1 ht1 c0 c1 c2;go_wp2;exact bodyPost_ret (retT Tryz.results129 rfl HK.out.2) rfl ⟨rfl,HK.out.1.below HZ.out.bel HZ.out.bel.size (fun i hi e=>by omega)⟩
theorem next_first(s:St)(fl le f tr T L:Int)(HTV:Hid (∀w',Calls Tryz.prog 87 #[.agg (sv s).toArray,.int .i64 fl,.int .i64 f] w' fun e w''=>e=.returned (.int .i64 tr)∧Below w'.heap.size w' w''))(HAD:Hid (∀w',Calls Tryz.prog 58 #[.int .i64 le,.int .i64 tr] w' fun e w''=>e=.returned (.int .i64 T)∧Below w'.heap.size w' w''))(HSU:Hid (∀(W:World) n,W.heap[n]?=some (.cells #[.int .i64 T,.int .i64 s.opn,.int .i64 s.wai,.int .i64 s.clo,.int .i64 2] 3)→Calls Tryz.prog 92 #[.slice (some ⟨n,0,none⟩) 5 5] W fun e w'=>e=.returned (.int .i64 L)∧w'=W))(w:World):Calls Tryz.prog 129 #[.agg (sv s).toArray,.agg #[.int .i64 fl,.int .i64 (-1),.int .i64 le],.int .i64 f] w fun e w'=>e=.returned (.agg #[.int .i64 f,.int .i64 T,.int .i64 L])∧Below w.heap.size w w':=by
 have HZ:=Hd (Nz.new w s fl (-1) le);have c0:=HZ.out.tb.c0;have c1:=HZ.out.tb.c1
 go_enter Tryz.func129,Tryz.ntmps129
 go_wp2_with fail
 clear c0 c1;generalize (((w.alloc (.cells (sv s).toArray 23)).alloc (.cells #[.int .i64 fl,.int .i64 (-1),.int .i64 le] 160)).alloc (.cells #[.int .i64 0,.int .i64 0,.int .i64 0] 160))=W1 at HZ⊢;have HA0:Hid (∀w',Below W1.heap.size W1 w'→w'.cell? ⟨w.heap.size+1,0,none⟩=some (.int .i64 fl)):=fun w' hw=>(HZ.out.next hw).tb.c0;have HA2:Hid (∀w',Below W1.heap.size W1 w'→w'.cell? ⟨w.heap.size+1,2,none⟩=some (.int .i64 le)):=fun w' hw=>(HZ.out.next hw).tb.c2;have HSB:Hid (∀w',Below W1.heap.size W1 w'→SB w' w.heap.size s):=fun w' hw=>(HZ.out.next hw).sb;have HTW:Hid (∀w',Below W1.heap.size W1 w'→Calls Tryz.prog 87 #[.agg (sv s).toArray,.int .i64 fl,.int .i64 f] w' fun e w''=>e=.returned (.int .i64 tr)∧Below w'.heap.size w' w''):=fun w' _=>HTV.out w';have HAW:Hid (∀w',Below W1.heap.size W1 w'→Calls Tryz.prog 58 #[.int .i64 le,.int .i64 tr] w' fun e w''=>e=.returned (.int .i64 T)∧Below w'.heap.size w' w''):=fun w' _=>HAD.out w';refine wp_region_quiet (C:=fun w'=>Below W1.heap.size W1 w') (by kernel_rfl) (by kernel_rfl) ((Below.refl _ _).drew) ?_;simp only[];unfold wpQuiet;generalize hK:wpQuiet _ _ _ _ _=K;go_simp;refine⟨_,fun _ _=>rfl,?_⟩;subst hK;unfold wpQuiet;generalize hK:wpQuiet _ _ _ _ _=K;rw[if_pos (by go_simp)];refine quiet_load3 _ _ _ rfl rfl HA2.out ?_;go_simp;subst hK;unfold wpQuiet;generalize hK:wpQuiet _ _ _ _ _=K;rw[if_pos (by go_simp)];refine quiet_load23r _ w.heap.size s rfl rfl HSB.out ?_;go_simp;subst hK;unfold wpQuiet;generalize hK:wpQuiet _ _ _ _ _=K;go_simp;refine⟨_,fun _ _=>rfl,?_⟩;subst hK;unfold wpQuiet;generalize hK:wpQuiet _ _ _ _ _=K;rw[if_pos (by go_simp)];refine quiet_load3 _ _ _ rfl rfl HA0.out ?_;go_simp;subst hK;unfold wpQuiet;generalize hK:wpQuiet _ _ _ _ _=K;go_simp;refine⟨_,fun _ _=>rfl,?_⟩;subst hK;unfold wpQuiet;generalize hK:wpQuiet _ _ _ _ _=K;go_simp;refine⟨_,fun w' hw=>(HTW.out w' hw).mono fun e w'' hh=>⟨hh.1,below_class hw hh.2⟩,?_⟩;subst hK;unfold wpQuiet;generalize hK:wpQuiet _ _ _ _ _=K;go_simp;refine⟨_,fun w' hw=>(HAW.out w' hw).mono fun e w'' hh=>⟨hh.1,below_class hw hh.2⟩,?_⟩;subst hK;unfold wpQuiet;generalize hK:wpQuiet _ _ _ _ _=K;go_simp;refine⟨_,fun _ _=>rfl,?_⟩;subst hK;refine wpQuiet_nil ?_;intro W2 hb2;have HZ2:=Hd (HZ.out.next hb2);have s5:W2.cell? ⟨w.heap.size,5,none⟩=some (.int .i64 s.opn):=HZ2.out.sb.cell 5;have s6:W2.cell? ⟨w.heap.size,6,none⟩=some (.int .i64 s.wai):=HZ2.out.sb.cell 6;have s7:W2.cell? ⟨w.heap.size,7,none⟩=some (.int .i64 s.clo):=HZ2.out.sb.cell 7;have HRB:=Hd ((HZ2.out.next ((Below.refl W2.heap.size W2).alloc (Nat.le_refl _) (.cells #[.int .i64 T,.int .i64 s.opn,.int .i64 s.wai,.int .i64 s.clo,.int .i64 2] 3))));clear hb2 HA0 HA2 HSB HTV HAD HZ HZ2 HTW HAW
 go_wp2_with (first|(go_at_call 92;refine (HSU.out _ _ (new_at _ _ _ rfl)).mono ?_;rintro e w' ⟨rfl,rfl⟩)|(refine wpList_storeT rfl _ _ rfl (w.heap.size+1+1) rfl rfl HRB.out.rb ?_))
 intro W3 hk3 ht3;have HK:=Hd (And.intro hk3 ht3);clear hk3 ht3 s5 s6 s7;go_wp2;exact bodyPost_ret (retT Tryz.results129 rfl HK.out.2) rfl ⟨rfl,HK.out.1.below HRB.out.bel HRB.out.bel.size (fun i hi e=>by omega)⟩
theorem next_far(s:St)(fl he le f tr T L:Int)(q1:(he != -1)=true)(q2:(fl==f)=false)(HTV:Hid (∀w',Calls Tryz.prog 87 #[.agg (sv s).toArray,.int .i64 fl,.int .i64 f] w' fun e w''=>e=.returned (.int .i64 tr)∧Below w'.heap.size w' w''))(HAD:Hid (∀w',Calls Tryz.prog 58 #[.int .i64 le,.int .i64 tr] w' fun e w''=>e=.returned (.int .i64 T)∧Below w'.heap.size w' w''))(HSU:Hid (∀(W:World) n,W.heap[n]?=some (.cells #[.int .i64 T,.int .i64 s.opn,.int .i64 s.wai,.int .i64 s.clo,.int .i64 2] 3)→Calls Tryz.prog 92 #[.slice (some ⟨n,0,none⟩) 5 5] W fun e w'=>e=.returned (.int .i64 L)∧w'=W))(w:World):Calls Tryz.prog 129 #[.agg (sv s).toArray,.agg #[.int .i64 fl,.int .i64 he,.int .i64 le],.int .i64 f] w fun e w'=>e=.returned (.agg #[.int .i64 f,.int .i64 T,.int .i64 L])∧Below w.heap.size w w':=by
 have HZ:=Hd (Nz.new w s fl he le);have c0:=HZ.out.tb.c0;have c1:=HZ.out.tb.c1
 go_enter Tryz.func129,Tryz.ntmps129
 go_wp2_with fail
 clear c0 c1;generalize (((w.alloc (.cells (sv s).toArray 23)).alloc (.cells #[.int .i64 fl,.int .i64 he,.int .i64 le] 160)).alloc (.cells #[.int .i64 0,.int .i64 0,.int .i64 0] 160))=W1 at HZ⊢;have HA0:Hid (∀w',Below W1.heap.size W1 w'→w'.cell? ⟨w.heap.size+1,0,none⟩=some (.int .i64 fl)):=fun w' hw=>(HZ.out.next hw).tb.c0;have HA2:Hid (∀w',Below W1.heap.size W1 w'→w'.cell? ⟨w.heap.size+1,2,none⟩=some (.int .i64 le)):=fun w' hw=>(HZ.out.next hw).tb.c2;have HSB:Hid (∀w',Below W1.heap.size W1 w'→SB w' w.heap.size s):=fun w' hw=>(HZ.out.next hw).sb;have HTW:Hid (∀w',Below W1.heap.size W1 w'→Calls Tryz.prog 87 #[.agg (sv s).toArray,.int .i64 fl,.int .i64 f] w' fun e w''=>e=.returned (.int .i64 tr)∧Below w'.heap.size w' w''):=fun w' _=>HTV.out w';have HAW:Hid (∀w',Below W1.heap.size W1 w'→Calls Tryz.prog 58 #[.int .i64 le,.int .i64 tr] w' fun e w''=>e=.returned (.int .i64 T)∧Below w'.heap.size w' w''):=fun w' _=>HAD.out w';refine wp_region_quiet (C:=fun w'=>Below W1.heap.size W1 w') (by kernel_rfl) (by kernel_rfl) ((Below.refl _ _).drew) ?_;simp only[];unfold wpQuiet;generalize hK:wpQuiet _ _ _ _ _=K;go_simp;refine⟨_,fun _ _=>rfl,?_⟩;subst hK;unfold wpQuiet;generalize hK:wpQuiet _ _ _ _ _=K;rw[if_pos (by go_simp)];refine quiet_load3 _ _ _ rfl rfl HA2.out ?_;go_simp;subst hK;unfold wpQuiet;generalize hK:wpQuiet _ _ _ _ _=K;rw[if_pos (by go_simp)];refine quiet_load23r _ w.heap.size s rfl rfl HSB.out ?_;go_simp;subst hK;unfold wpQuiet;generalize hK:wpQuiet _ _ _ _ _=K;go_simp;refine⟨_,fun _ _=>rfl,?_⟩;subst hK;unfold wpQuiet;generalize hK:wpQuiet _ _ _ _ _=K;rw[if_pos (by go_simp)];refine quiet_load3 _ _ _ rfl rfl HA0.out ?_;go_simp;subst hK;unfold wpQuiet;generalize hK:wpQuiet _ _ _ _ _=K;go_simp;refine⟨_,fun _ _=>rfl,?_⟩;subst hK;unfold wpQuiet;generalize hK:wpQuiet _ _ _ _ _=K;go_simp;refine⟨_,fun w' hw=>(HTW.out w' hw).mono fun e w'' hh=>⟨hh.1,below_class hw hh.2⟩,?_⟩;subst hK;unfold wpQuiet;generalize hK:wpQuiet _ _ _ _ _=K;go_simp;refine⟨_,fun w' hw=>(HAW.out w' hw).mono fun e w'' hh=>⟨hh.1,below_class hw hh.2⟩,?_⟩;subst hK;unfold wpQuiet;generalize hK:wpQuiet _ _ _ _ _=K;go_simp;refine⟨_,fun _ _=>rfl,?_⟩;subst hK;refine wpQuiet_nil ?_;intro W2 hb2;have HZ2:=Hd (HZ.out.next hb2);have s5:W2.cell? ⟨w.heap.size,5,none⟩=some (.int .i64 s.opn):=HZ2.out.sb.cell 5;have s6:W2.cell? ⟨w.heap.size,6,none⟩=some (.int .i64 s.wai):=HZ2.out.sb.cell 6;have s7:W2.cell? ⟨w.heap.size,7,none⟩=some (.int .i64 s.clo):=HZ2.out.sb.cell 7;have HRB:=Hd ((HZ2.out.next ((Below.refl W2.heap.size W2).alloc (Nat.le_refl _) (.cells #[.int .i64 T,.int .i64 s.opn,.int .i64 s.wai,.int .i64 s.clo,.int .i64 2] 3))));clear hb2 HA0 HA2 HSB HTV HAD HZ HZ2 HTW HAW
 go_wp2_with (first|(go_at_call 92;refine (HSU.out _ _ (new_at _ _ _ rfl)).mono ?_;rintro e w' ⟨rfl,rfl⟩)|(refine wpList_storeT rfl _ _ rfl (w.heap.size+1+1) rfl rfl HRB.out.rb ?_))
 intro W3 hk3 ht3;have HK:=Hd (And.intro hk3 ht3);clear hk3 ht3 s5 s6 s7;go_wp2;exact bodyPost_ret (retT Tryz.results129 rfl HK.out.2) rfl ⟨rfl,HK.out.1.below HRB.out.bel HRB.out.bel.size (fun i hi e=>by omega)⟩
theorem next_new(s:St)(r:SM.Rt s)(fl he le f:Int)(hh:he= -1∨fl≠f)(h0:0≤le)(h1:le≤100000000)(w:World):Calls Tryz.prog 129 #[.agg (sv s).toArray,.agg #[.int .i64 fl,.int .i64 he,.int .i64 le],.int .i64 f] w fun e w'=>e=.returned (.agg #[.int .i64 f,.int .i64 (le+SM.trav s fl f),.int .i64 (le+SM.trav s fl f+RM.dw s)])∧Below w.heap.size w w':=by
 have ht:=SM.trav_bd r fl f;have g1:∀w',Calls Tryz.prog 87 #[.agg (sv s).toArray,.int .i64 fl,.int .i64 f] w' fun e w''=>e=.returned (.int .i64 (SM.trav s fl f))∧Below w'.heap.size w' w'':=fun w'=>travel_any s r fl f w';generalize SM.trav s fl f=tr at ht g1⊢
 have g2:∀w',Calls Tryz.prog 58 #[.int .i64 le,.int .i64 tr] w' fun e w''=>e=.returned (.int .i64 (le+tr))∧Below w'.heap.size w' w'':=fun w'=>(add_any le tr w').mono fun e w'' hh=>by
  obtain⟨he,rfl⟩:=hh;refine⟨?_,Below.refl _ _⟩;rw[he,SM.addC h0 ht.1 (by omega)]
 generalize hT:le+tr=T at g2⊢
 have hs:NumM.sumL [T,s.opn,s.wai,s.clo,2]=T+RM.dw s:=by
  have:=r.opn1;have:=r.opn2;have:=r.wai1;have:=r.wai2;have:=r.clo1;have:=r.clo2;rw[show[T,s.opn,s.wai,s.clo,2]=[T,s.opn,s.wai,s.clo]++[2]from rfl,NumM.sumL_snoc,SM.sumL4 (by omega) (by omega) (by omega) (by omega) (by omega),SM.addC (by omega) (by omega) (by omega)];unfold RM.dw;omega
 have g3:∀(W:World) n,W.heap[n]?=some (.cells #[.int .i64 T,.int .i64 s.opn,.int .i64 s.wai,.int .i64 s.clo,.int .i64 2] 3)→Calls Tryz.prog 92 #[.slice (some ⟨n,0,none⟩) 5 5] W fun e w'=>e=.returned (.int .i64 (T+RM.dw s))∧w'=W:=fun W n hn=>by
  rw[←hs];exact sum_row W n [T,s.opn,s.wai,s.clo,2] 5 5 rfl (by omega) hn
 by_cases e:he= -1
 ·subst e;exact next_first s fl le f tr T _ g1 g2 g3 w
 ·exact next_far s fl he le f tr T _ (by simpa using e) (by simpa using hh.resolve_left e) g1 g2 g3 w
theorem next_any(s:St)(r:SM.Rt s)(a:RM.Sp)(ok:RM.Ok s a)(hle:a.le≤100000000)(f:Int)(_h0:0≤f)(_h1:f<s.fl)(w:World):Calls Tryz.prog 129 #[.agg (sv s).toArray,.agg #[.int .i64 a.fl,.int .i64 a.he,.int .i64 a.le],.int .i64 f] w fun e w'=>e=.returned (.agg #[.int .i64 f,.int .i64 (RM.ar s a f),.int .i64 (RM.ar s a f+RM.dw s)])∧Below w.heap.size w w':=by
 by_cases h:a.he≠ -1∧a.fl=f
 ·have e1:RM.ar s a f=a.he:=by unfold RM.ar;rw[if_pos h]
  have e2:a.he+RM.dw s=a.le:=((ok.hh.resolve_left h.1).2).symm;rw[e1,e2,←h.2];exact next_same s a.fl a.he a.le h.1 w
 ·have e1:RM.ar s a f=a.le+SM.trav s a.fl f:=by unfold RM.ar;rw[if_neg h]
  rw[e1];refine next_new s r a.fl a.he a.le f ?_ ok.l0 hle w;by_cases e:a.he= -1
  ·exact .inl e
  ·exact .inr fun g=>h ⟨e,g⟩
theorem RI.cut{D:Nat→Prop}{W:World}{a:Option Addr}{n cap j:Nat}{l:List Int}(h:RI D W (.slice a n cap) l)(hj:j≤l.length):RI D W (.slice a j cap) (l.take j):=by
 obtain⟨a',c,e,h1,h2,h3⟩:=h;cases e;have hlen:(l.take j).length=j:=by rw[List.length_take];omega
 refine⟨_,_,by rw[hlen],by omega,h2,?_⟩;rcases h3 with h3|⟨g',o',e,hd,hlt,h4⟩
 ·left;rw[h3];simp
 ·cases e
  exact .inr ⟨g',o',rfl,hd,hlt,fun i x hx=>h4 i x (by
   rw[List.getElem?_take]at hx;split at hx
   ·exact hx
   ·cases hx)⟩
def restA(a:Option Addr)(cap j:Nat):Option Addr:=if cap=j then a else a.map fun x=>x.add j
theorem RI.rest{D:Nat→Prop}{W:World}{a:Option Addr}{n cap j:Nat}{l:List Int}(h:RI D W (.slice a n cap) l)(hj:j≤l.length):RI D W (.slice (restA a cap j) (n-j) (cap-j)) (l.drop j):=by
 obtain⟨a',c,e,h1,h2,h3⟩:=h;cases e;have hlen:(l.drop j).length=l.length-j:=List.length_drop
 refine⟨_,_,by rw[hlen],by omega,fun e=>by
  unfold restA at e;split at e
  ·omega
  ·cases a with
   |none=>have:=h2 rfl;omega
   |some x=>simp at e,?_⟩
 by_cases hcj:cap=j
 ·left;rw[List.drop_eq_nil_iff];omega
 ·rcases h3 with h3|⟨g',o',e,hd,hlt,h4⟩
  ·left;rw[h3];simp
  ·cases e;refine .inr ⟨g',o'+j,by unfold restA;rw[if_neg hcj,Option.map_some,Addr.add_mid],hd,hlt,fun i x hx=> ?_⟩;rw[List.getElem?_drop]at hx;rw[Nat.add_assoc];exact h4 (j+i) x hx
def Stb{β:Type}(J:β→(Nat→Prop)→World→Prop):Prop:=∀s F F' W W',J s F W→Kp F W W'→(∀k,F' k→F k∨(W.heap.size≤k∧k<W'.heap.size))→J s F' W'
structure Kept(F:Nat→Prop)(W W':World):Prop where
 size:W.heap.size≤W'.heap.size
 same:∀k,k<W.heap.size→F k→W'.heap[k]?=W.heap[k]?
theorem Kept.refl(F:Nat→Prop)(W:World):Kept F W W:=⟨Nat.le_refl _,fun _ _ _=>rfl⟩
theorem Kept.trans{F:Nat→Prop}{A B C:World}(h:Kept F A B)(k:Kept F B C):Kept F A C:=⟨Nat.le_trans h.size k.size,fun i hi hf=>(k.same i (Nat.lt_of_lt_of_le hi h.size) hf).trans (h.same i hi hf)⟩
theorem Kept.mono{F G:Nat→Prop}{A B:World}(h:Kept F A B)(hg:∀k,k<A.heap.size→G k→F k):Kept G A B:=⟨h.size,fun i hi hf=>h.same i hi (hg i hi hf)⟩
theorem Kept.ofKp{F G:Nat→Prop}{A B:World}(h:Kp G A B)(hf:∀k,k<A.heap.size→F k→¬G k):Kept F A B:=⟨h.size,fun i hi hF=>h.block i hi (hf i hi hF)⟩
theorem Kept.ofBelow{F:Nat→Prop}{A B:World}(h:Below A.heap.size A B):Kept F A B:=⟨h.size,fun i hi _=>h.block i hi⟩
theorem YieldAt.deep{m:Nat}(m':Nat){P:Program}{l:Nat}{args:Array Value}{W:World}{R:Ending→World→Prop}(h:YieldAt Fence.wide m P l args W R):YieldAt Fence.wide m' P l args W R:=by
 obtain⟨fn,tmps,assign,body,hy,hR⟩:=h;exact⟨fn,tmps,assign,body,hy,hR.1,fun c cs _=>hR.2 c cs (room_wide _)⟩
def SeqF{α:Type}(P:Program)(g:Nat)(lb:Array Value)(Enc:α→(Nat→Prop)→World→Array Value→Prop)(F0 G:Nat→Prop)(S Sp:List α→Prop)(w:World):Prop:=
 ∀(n l:Nat) (J Jx:List α→(Nat→Prop)→World→Prop) (W:World),Below w.heap.size w W→Stb J→Stb Jx→
  (∀m pre x F W1 args,J pre F W1→Enc x F W1 args→YieldAt Fence.wide m P l args W1 fun e W'=>
   (e=.returned (.bool true)∧J (pre++[x]) F W'∧Kept (fun k=>F k∨G k) W1 W')∨(e=.returned (.bool false)∧Jx (pre++[x]) F W'∧Kept F W1 W'))→
  J [] F0 W→
  CallsIn Fence.wide n P g (#[.func (.yield l) #[] #[]]++lb) W fun e W'=>(∃v,e=.returned v)∧((∃xs F,S xs∧J xs F W')∨(∃pre F,Sp pre∧Jx pre F W'))
def postF{α:Type}(G:Nat→Prop)(I:List α→(Nat→Prop)→World→Prop)(Ix:Code→List α→(Nat→Prop)→World→Prop)(xs:List α)(F:Nat→Prop)(W:World):Exit→Act→World→Prop
 |.normal,_,W'=>Kept (fun k=>F k∨G k) W W'∧I xs F W'
 |.ret,_,W'=>Kept F W W'∧Ix .ret xs F W'
 |.exit id,_,W'=>Kept F W W'∧Ix (.exit id) xs F W'
 |.goto t,_,W'=>Kept F W W'∧Ix (.goto t) xs F W'
 |.panic _,_,_=>False
 |.outgrown,_,_=>False
theorem Stb.put{β:Type}{J:β→(Nat→Prop)→World→Prop}(h:Stb J){s:β}{F:Nat→Prop}{W:World}(l:Nat)(o:Obj)(hj:J s F W)(hl:F l):J s F (W.putObj l o):=
 h s F F W _ hj ((Kp.refl F W).put l o (fun _=>hl)) (fun _ h=>.inl h)
open Go.Shelf
attribute [local go_sem] Oper.semAt_some
namespace RM
def st1(s:St)(ws:List (Int×Int)):Sp→List Int→List (Int×Sp)
 |_,[]=>[]
 |a,x::l=>(x,nx s a (wf ws x))::st1 s ws (nx s a (wf ws x)) l
def stp(s:St)(ws:List (Int×Int)):List (Int×Int)→List (List Int)→List (Int×Sp)
 |r::cs,l::p=>st1 s ws (bg r) l++stp s ws cs p
 |_,_=>[]
section
variable {s:St} {ws:List (Int×Int)}
theorem nx_he(a:Sp)(f:Int):(nx s a f).he=ar s a f:=by
 unfold nx ar;split<;>rfl
theorem st1_pr:∀(l:List Int) (a:Sp),(st1 s ws a l).map (fun x=>(x.1,x.2.he))=l.zip (tm s a (l.map (wf ws)))
 |[],_=>rfl
 |x::l,a=>by
  show(x,(nx s a (wf ws x)).he)::(st1 s ws (nx s a (wf ws x)) l).map _=(x,ar s a (wf ws x))::l.zip _;rw[st1_pr l,nx_he]
theorem stp_prs:∀(cs:List (Int×Int)) (p:List (List Int)),(stp s ws cs p).map (fun x=>(x.1,x.2.he))=prs s ws cs p
 |r::cs,l::p=>by
  show(st1 s ws (bg r) l++stp s ws cs p).map _=pr1 s ws r l++prs s ws cs p;rw[List.map_append,stp_prs cs p,st1_pr];rfl
 |[],_=>by simp[stp,prs]
 |_::_,[]=>rfl
theorem st1_snoc:∀(l:List Int) (x:Int) (a:Sp),st1 s ws a (l++[x])=st1 s ws a l++[(x,nx s (go s a (l.map (wf ws))) (wf ws x))]
 |[],_,_=>rfl
 |y::l,x,a=>by
  show _::st1 s ws _ (l++[x])=_::(st1 s ws _ l++_);rw[st1_snoc l x];rfl
theorem st1_take{l:List Int}{j:Nat}{x:Int}(h:l[j]?=some x)(a:Sp):st1 s ws a (l.take (j+1))=st1 s ws a (l.take j)++[(x,nx s (go s a ((l.take j).map (wf ws))) (wf ws x))]:=by
 rw[List.take_add_one,h,Option.toList_some,st1_snoc]
theorem st1_pre:∀{l:List Int} {j:Nat} (a:Sp),st1 s ws a (l.take j)<+:st1 s ws a l
 |[],j,a=>by rw[List.take_nil];exact List.prefix_rfl
 |x::l,0,a=>List.nil_prefix
 |x::l,j+1,a=>by
  show _::_<+:_::_;exact(List.prefix_cons_inj _).2 (st1_pre _)
theorem stp_append:∀{cs cs':List (Int×Int)} {p p':List (List Int)},cs.length=p.length→stp s ws (cs++cs') (p++p')=stp s ws cs p++stp s ws cs' p'
 |[],_,[],_,_=>rfl
 |[],_,_::_,_,h=>by simp at h
 |_::_,_,[],_,h=>by simp at h
 |r::cs,cs',l::p,p',h=>by
  show st1 s ws (bg r) l++stp s ws (cs++cs') (p++p')=st1 s ws (bg r) l++stp s ws cs p++stp s ws cs' p';rw[stp_append (by simpa using h),List.append_assoc]
def stk(s:St)(ws cs:List (Int×Int))(p:List (List Int))(k:Nat):List (Int×Sp):=stp s ws (cs.take k) (p.take k)
variable {cs:List (Int×Int)} {p:List (List Int)} {k:Nat} {r:Int×Int} {l:List Int}
theorem stk_succ(hl:cs.length=p.length)(hr:cs[k]?=some r)(hp:p[k]?=some l):stk s ws cs p (k+1)=stk s ws cs p k++st1 s ws (bg r) l:=by
 unfold stk;rw[List.take_add_one,List.take_add_one,hr,hp,Option.toList_some,Option.toList_some,stp_append (by rw[List.length_take,List.length_take,hl])]
 congr 1
 show st1 s ws (bg r) l++[]=_;rw[List.append_nil]
theorem stk_all(hl:cs.length=p.length)(hk:p.length≤k):stk s ws cs p k=stp s ws cs p:=by
 unfold stk;rw[List.take_of_length_le (by omega),List.take_of_length_le hk]
theorem stk_pre(hl:cs.length=p.length):stk s ws cs p k<+:stp s ws cs p:=by
 have e:stp s ws cs p=stp s ws (cs.take k++cs.drop k) (p.take k++p.drop k):=by rw[List.take_append_drop,List.take_append_drop]
 rw[e,stp_append (by rw[List.length_take,List.length_take,hl])];exact List.prefix_append _ _
end
end RM
structure Sq(W:World)(c1 c2:Nat)(s:Sn)(vc vw vp:Value)(p:List (List Int))(G:Nat→Prop):Prop where
 nb:NB W c2 s.st vc vw
 pc:W.heap[c1]?=some (.cells #[vp] 104 (0,0))
 rc:R2 G W vc s.cs
 rw:R2 G W vw s.ws
 rp:RL G W vp p
theorem Sq.keep{W W':World}{c1 c2:Nat}{s:Sn}{vc vw vp:Value}{p:List (List Int)}{G:Nat→Prop}(h:Sq W c1 c2 s vc vw vp p G)(h1:G c1)(h2:G c2)(hz:W.heap.size≤W'.heap.size)(hk:∀k,G k→k<W.heap.size→W'.heap[k]?=W.heap[k]?):Sq W' c1 c2 s vc vw vp p G:=
 ⟨(hk c2 h2 h.nb.lt).trans h.nb,(hk c1 h1 (Array.getElem?_eq_some_iff.1 h.pc).1).trans h.pc,h.rc.keep hz hk,h.rw.keep hz hk,h.rp.keep hz hk⟩
theorem Sq.below'{W W':World}{c1 c2:Nat}{s:Sn}{vc vw vp:Value}{p:List (List Int)}{G:Nat→Prop}(h:Sq W c1 c2 s vc vw vp p G)(hb:Below W.heap.size W W'):Sq W' c1 c2 s vc vw vp p G:=
 ⟨h.nb.below' hb,(hb.block _ (Array.getElem?_eq_some_iff.1 h.pc).1).trans h.pc,h.rc.below' hb,h.rw.below' hb,h.rp.below' hb⟩
def ES(n:Nat)(x:Int×RM.Sp)(_:Nat→Prop)(_:World)(args:Array Value):Prop:=args= #[.int .i64 x.1,.agg #[.int .i64 x.2.fl,.int .i64 x.2.he,.int .i64 x.2.le]]∧0≤x.1∧x.1<(n:Int)
structure Sj(w W:World)(c1 c2:Nat)(s:Sn)(vc vw vp:Value)(p:List (List Int))(G F:Nat→Prop)(J:List (Int×RM.Sp)→(Nat→Prop)→World→Prop)(pre:List (Int×RM.Sp)):Prop where
 sq:Sq W c1 c2 s vc vw vp p G
 nw:∀k,F k→w.heap.size≤k
 jj:J pre F W
 sz:w.heap.size≤W.heap.size
section
variable {w W W':World} {c1 c2:Nat} {s:Sn} {vc vw vp:Value} {p:List (List Int)} {G F:Nat→Prop} {J:List (Int×RM.Sp)→(Nat→Prop)→World→Prop} {pre:List (Int×RM.Sp)}
theorem Sj.next(h:Sj w W c1 c2 s vc vw vp p G F J pre)(hJ:Stb J)(hb:Below W.heap.size W W'):Sj w W' c1 c2 s vc vw vp p G F J pre:=
 ⟨h.sq.below' hb,h.nw,hJ pre F F W W' h.jj (Kp.ofBelow _ hb) (fun _ h=>.inl h),Nat.le_trans h.sz hb.size⟩
theorem Sj.new(h:Sj w W c1 c2 s vc vw vp p G F J pre)(hJ:Stb J)(o:Obj):Sj w (W.alloc o) c1 c2 s vc vw vp p G (fun k=>F k∨k=W.heap.size) J pre:=by
 have hb:=(Below.refl W.heap.size W).alloc (Nat.le_refl _) o;refine⟨h.sq.below' hb,fun k hk=>hk.elim (h.nw k) (fun e=>by have:=h.sz;omega),hJ pre F _ W _ h.jj (Kp.ofBelow _ hb) (fun k hk=>hk.elim .inl fun e=>.inr ⟨by omega,by rw[e];simp⟩),Nat.le_trans h.sz hb.size⟩
theorem Sj.put(h:Sj w W c1 c2 s vc vw vp p G F J pre)(hJ:Stb J)(hG:∀k,G k→k<w.heap.size)(h1:G c1)(h2:G c2){b:Nat}(hF:F b)(hk:Kp (fun k=>k=b) W W'):Sj w W' c1 c2 s vc vw vp p G F J pre:=by
 refine⟨h.sq.keep h1 h2 hk.size (fun k hg hlt=>hk.block k hlt (fun e=> ?_)),h.nw,hJ pre F F W W' h.jj (hk.mono fun i _ e=>by rw[e];exact hF) (fun _ h=>.inl h),Nat.le_trans h.sz hk.size⟩;have e1:=hG k hg;have e2:=h.nw b hF;omega
theorem Sj.round(h:Sj w W c1 c2 s vc vw vp p G F J pre)(h1:G c1)(h2:G c2){x:Int×RM.Sp}(hk:Kept (fun k=>F k∨G k) W W')(hj:J (pre++[x]) F W'):Sj w W' c1 c2 s vc vw vp p G F J (pre++[x]):=
 ⟨h.sq.keep h1 h2 hk.size (fun k hg hlt=>hk.same k hlt (.inr hg)),h.nw,hj,Nat.le_trans h.sz hk.size⟩
end
section
variable {W0:World} {K:Act→Prop} {o:Oper} {a:Act}
theorem calm_load23n(x:Operand)(b:Nat)(s:St)(vc vw:Value)(ho:o.op=.load 23 x)(hx:a.eval x=.pointer (some ⟨b,0,none⟩))(hr:∀w,Below W0.heap.size W0 w→NB w b s vc vw)
  (h:K (a.put o.dst (.agg (sv s).toArray))):Oper.calm Tryz.prog W0 o a K:=
 calm_val _ (fun w hw=>by unfold execOp;simp only[ho,hx,Sem.run_bind,Sem.run_pure,Result.andThen_ok,load23 w b s (hr w hw).site]) h
theorem calm_loadT(x:Operand)(b:Nat)(s:RM.Sp)(ho:o.op=.load 160 x)(hx:a.eval x=.pointer (some ⟨b,0,none⟩))(hr:∀w,Below W0.heap.size W0 w→TB w b s)
  (h:K (a.put o.dst (.agg #[.int .i64 s.fl,.int .i64 s.he,.int .i64 s.le]))):Oper.calm Tryz.prog W0 o a K:=
 calm_val _ (fun w hw=>by unfold execOp;simp only[ho,hx,Sem.run_bind,Sem.run_pure,Result.andThen_ok,loadT w b s (hr w hw)]) h
theorem loadWs(w:World)(b o:Nat)(v:Value)(h:w.cell? ⟨b,o,none⟩=some v):(Instr.loadAt 98 (.pointer (some ⟨b,o,none⟩))).run Tryz.prog w=.ok v w:=by simp[go_sem,h]
theorem calm_loadWs(x:Operand)(b k:Nat){v:Value}(ho:o.op=.load 98 x)(hx:a.eval x=.pointer (some ⟨b,k,none⟩))(hr:∀w,Below W0.heap.size W0 w→w.cell? ⟨b,k,none⟩=some v)
  (h:K (a.put o.dst v)):Oper.calm Tryz.prog W0 o a K:=
 calm_val _ (fun w hw=>by unfold execOp;simp only[ho,hx,Sem.run_bind,Sem.run_pure,Result.andThen_ok,loadWs w b k v (hr w hw)]) h
theorem calm_ixWs(x y:Operand){g f n cap j:Nat}(ho:o.op=.indexAddr 98 x y)(hx:a.eval x=.slice (some ⟨g,f,none⟩) n cap)(hy:a.eval y=.int .i64 (j:Int))(hj:j<n)
  (h:K (a.put o.dst (.pointer (some ⟨g,f+j*2,none⟩)))):Oper.calm Tryz.prog W0 o a K:=
 calm_val _ (fun w hw=>by unfold execOp;simp only[ho,hx,hy,Sem.run_bind,Sem.run_pure,Result.andThen_ok,ixW w rfl hj]) h
end
structure Si(w W:World)(c1 c2:Nat)(s:Sn)(vc vw vp vl:Value)(p:List (List Int))(l:List Int)(G F:Nat→Prop)(J:List (Int×RM.Sp)→(Nat→Prop)→World→Prop)(pre:List (Int×RM.Sp))(b:Nat)(a:RM.Sp):Prop where
 sj:Sj w W c1 c2 s vc vw vp p G F J pre
 ri:RI G W vl l
 own:F b
 tb:TB W b a
section
variable {w W W':World} {c1 c2 b:Nat} {s:Sn} {vc vw vp vl:Value} {p:List (List Int)} {l:List Int} {G F:Nat→Prop} {J:List (Int×RM.Sp)→(Nat→Prop)→World→Prop} {pre:List (Int×RM.Sp)} {a a':RM.Sp}
theorem Si.next(h:Si w W c1 c2 s vc vw vp vl p l G F J pre b a)(hJ:Stb J)(hb:Below W.heap.size W W'):Si w W' c1 c2 s vc vw vp vl p l G F J pre b a:=⟨h.sj.next hJ hb,h.ri.below' hb,h.own,h.tb.below' hb⟩
theorem Si.put(h:Si w W c1 c2 s vc vw vp vl p l G F J pre b a)(hJ:Stb J)(hG:(∀k,G k→k<w.heap.size)∧G c1∧G c2)(hk:Kp (fun k=>k=b) W W')(ht:TB W' b a'):Si w W' c1 c2 s vc vw vp vl p l G F J pre b a':=
 ⟨h.sj.put hJ hG.1 hG.2.1 hG.2.2 h.own hk,h.ri.keep hk.size (fun k hg hlt=>hk.block k hlt (fun e=>by have e1:=hG.1 k hg;have e2:=h.sj.nw b h.own;omega)),h.own,ht⟩
theorem Si.round(h:Si w W c1 c2 s vc vw vp vl p l G F J pre b a)(hG:(∀k,G k→k<w.heap.size)∧G c1∧G c2){x:Int×RM.Sp}(hk:Kept (fun k=>F k∨G k) W W')(hj:J (pre++[x]) F W'):Si w W' c1 c2 s vc vw vp vl p l G F J (pre++[x]) b a:=
 ⟨h.sj.round hG.2.1 hG.2.2 hk hj,h.ri.keep hk.size (fun k hg hlt=>hk.same k hlt (.inr hg)),h.own,(hk.same b h.tb.lt (.inl h.own)).trans h.tb⟩
end
theorem stops_seq(s:Sn)(c1 c2:Nat)(vc vw vp:Value)(p:List (List Int))(G:Nat→Prop)(w:World)(hq:Sq w c1 c2 s vc vw vp p G)(h1:G c1)(h2:G c2)(hG:∀k,G k→k<w.heap.size)(hf:Fs s p)(hll:∀l∈p,l.length≤1000):
  SeqF Tryz.prog 154 #[.pointer (some ⟨c1,0,none⟩),.pointer (some ⟨c2,0,none⟩)] (ES s.ws.length) (fun _=>False) G (fun xs=>xs=RM.stp s.st s.ws s.cs p) (fun pre=>pre<+:RM.stp s.st s.ws s.cs p) w:=by
 intro nn lo J Jx W hW hJ hJx hY h0;show CallsIn Fence.wide nn Tryz.prog 154 #[.func (.yield lo) #[] #[],.pointer (some ⟨c1,0,none⟩),.pointer (some ⟨c2,0,none⟩)] W _;obtain⟨ac,kc,rfl,_,_⟩:=hq.rc.form;obtain⟨aw,kw,rfl,_,_⟩:=hq.rw.form;obtain⟨ap,kp,rfl,_,_⟩:=hq.rp.form
 have HQ0:Hid (Sj w W c1 c2 s (.slice ac s.cs.length kc) (.slice aw s.ws.length kw) (.slice ap p.length kp) p G (fun _=>False) J []):=
  ⟨hq.keep h1 h2 hW.size (fun k hg hlt=>hW.block k hlt),fun _ h=>h.elim,h0,hW.size⟩
 have HJ:=Hd hJ;have HJX:=Hd hJx;have HY:=Hd hY;have HG:=Hd (And.intro hG (And.intro h1 h2));have HFS:=Hd hf;have HLL:=Hd hll;have cp:W.cell? ⟨c1,0,none⟩=some (.slice ap p.length kp):=by rw[cell_of_row _ _ 0 _ _ _ HQ0.out.sq.pc];rfl
 have hp8:p.length≤8:=hf.p8;refine callsIn_of_wp Tryz.func154 rfl trivial ?_ rfl;simp only[Tryz.ntmps154,List.size_toArray,List.length_cons,List.length_nil,Nat.reduceAdd,Nat.reduceSub,Array.replicate_succ,Array.replicate_zero,List.push_toArray,List.append_toArray,List.nil_append,List.cons_append];have hwf:∀k,Fence.wide.fn k:=fun _=>trivial;have hdd:∀k:Nat,(Fence.wide.depth.isSome=true→1≤k):=fun k h=>by cases h
 clear hq h1 h2 hG hf hll hW hJ hJx hY h0
 gi_wp2_with fail
 refine wpIn_wide.2 ?_;apply wp_scope_straight;refine (wpIn_wide (n:=nn)).1 ?_
 gi_wp2_with fail
 refine wpIn_label ?_
 gi_wp2_with fail
 gi_loopw [11] (fun i wr=>∃(k:Nat) (F:Nat→Prop),k≤p.length∧i=.int .i64 (k:Int)∧Hid (Sj w wr c1 c2 s (.slice ac s.cs.length kc) (.slice aw s.ws.length kw) (.slice ap p.length kp) p G F J (RM.stk s.st s.ws s.cs p k))) (fun i _=>p.length-(intOf i).toNat)
 case atStart=>exact⟨0,_,Nat.zero_le _,rfl,HQ0⟩
 case round=>
  clear HQ0 cp
  rename World=>Wr
  obtain⟨k,F,hk,rfl,HQ⟩:=hrel;by_cases hlt:k<p.length
  ·obtain⟨l,hl⟩:∃l,p[k]?=some l:=⟨_,List.getElem?_eq_getElem hlt⟩;have hkc:k<s.cs.length:=by have:=HFS.out.pc;omega
   obtain⟨r,hr⟩:∃r,s.cs[k]?=some r:=⟨_,List.getElem?_eq_getElem hkc⟩;obtain⟨gp,op,rfl,u,hcu,hru⟩:=HQ.out.sq.rp.at hl;obtain⟨gc,oc,rfl,hc0,hc1⟩:=HQ.out.sq.rc.at hr;obtain⟨al,kl,rfl,_,_⟩:=hru.form;have c13:Wr.cell? ⟨c2,13,none⟩=some (.slice (some ⟨gc,oc,none⟩) s.cs.length kc):=HQ.out.sq.nb.cell 13;have HKL:=Hd (And.intro hl hr);have HRU:=Hd hru;have hlll:l.length≤1000:=HLL.out l (List.mem_of_getElem? hl);have HLX:Hid (∀x∈l,0≤x∧x<s.ws.length):=fun x hx=>HFS.out.fr x (List.mem_flatten.2 ⟨l,List.mem_of_getElem? hl,hx⟩);have HOK:=Hd (HFS.out.rz.cr r (List.mem_of_getElem? hr));have HAF:=Hd (HFS.out.af r (List.mem_of_getElem? hr));have hkz:(k:Int)<(p.length:Int):=by omega
   have hkz2:(k:Int)<(s.cs.length:Int):=by omega
   clear hl hr hru
   gi_wp2_with fail
   refine⟨hdd _,(callsIn_wide.2 (begin_any r.1 r.2 _)).mono ?_⟩;rintro e W1 ⟨rfl,hb1⟩;have hsj:=(HQ.out.next HJ.out hb1).new HJ.out (.cells #[.int .i64 r.1,.int .i64 (-1),.int .i64 r.2] 160)
   have HI1:Hid (Si w (W1.alloc (.cells #[.int .i64 r.1,.int .i64 (-1),.int .i64 r.2] 160)) c1 c2 s (.slice (some ⟨gc,oc,none⟩) s.cs.length kc) (.slice aw s.ws.length kw) (.slice (some ⟨gp,op,none⟩) p.length kp) (.slice al l.length kl) p l G (fun k=>F k∨k=W1.heap.size) J (RM.stk s.st s.ws s.cs p k++RM.st1 s.st s.ws (RM.bg r) (l.take 0)) W1.heap.size (RM.go s.st (RM.bg r) ((l.take 0).map (RM.wf s.ws)))):=by
    refine⟨?_,(HRU.out.below' hb1).alloc _,.inr rfl,TB.new W1 (RM.bg r)⟩;rw[List.take_zero];show Sj _ _ _ _ _ _ _ _ _ _ _ _ (_++[]);rw[List.append_nil];exact hsj
   have hwl:(s.ws.length:Int)≤128:=by have:=HFS.out.wl;omega
   clear hb1 hcu hc0 hc1 c13 HQ HRU hsj
   gi_wp2_with fail
   generalize (W1.alloc (.cells #[.int .i64 r.1,.int .i64 (-1),.int .i64 r.2] 160))=W2 at HI1⊢;generalize W1.heap.size=b6 at HI1⊢;generalize (fun k=>F k∨k=b6)=F1 at HI1
   gi_loopw [24] (fun i wr=>∃(j:Nat),j≤l.length∧i=.int .i64 (j:Int)∧Hid (Si w wr c1 c2 s (.slice (some ⟨gc,oc,none⟩) s.cs.length kc) (.slice aw s.ws.length kw) (.slice (some ⟨gp,op,none⟩) p.length kp) (.slice al l.length kl) p l G F1 J (RM.stk s.st s.ws s.cs p k++RM.st1 s.st s.ws (RM.bg r) (l.take j)) b6 (RM.go s.st (RM.bg r) ((l.take j).map (RM.wf s.ws))))) (fun i _=>l.length-(intOf i).toNat)
   case atStart=>exact⟨0,Nat.zero_le _,rfl,HI1⟩
   case round=>
    clear HI1;obtain⟨j,hj,rfl,HI⟩:=hrel;by_cases hjl:j<l.length
    ·obtain⟨x,hx⟩:∃x,l[j]?=some x:=⟨_,List.getElem?_eq_getElem hjl⟩;have hxr:=HLX.out x (List.mem_of_getElem? hx);obtain⟨i,rfl⟩:∃i:Nat,x=(i:Int):=⟨x.toNat,by omega⟩;have hiw:i<s.ws.length:=by omega
     obtain⟨y,hy⟩:∃y,s.ws[i]?=some y:=⟨_,List.getElem?_eq_getElem hiw⟩;obtain⟨gl,ol,rfl,hcx⟩:=HI.out.ri.at hx;obtain⟨gw,ow,rfl,hcy,_⟩:=HI.out.sj.sq.rw.at hy;have hjz:(j:Int)<(l.length:Int):=by omega
     have HCY:=Hd hcy
     have HTK:Hid (RM.st1 s.st s.ws (RM.bg r) (l.take (j+1))=RM.st1 s.st s.ws (RM.bg r) (l.take j)++[((i:Int),RM.nx s.st (RM.go s.st (RM.bg r) ((l.take j).map (RM.wf s.ws))) y.1)]):=by
      show _=_;rw[RM.st1_take hx,RM.wf_get hy]
     have HGO:Hid (RM.go s.st (RM.bg r) ((l.take (j+1)).map (RM.wf s.ws))=RM.nx s.st (RM.go s.st (RM.bg r) ((l.take j).map (RM.wf s.ws))) y.1):=by
      show _=_;rw[take_snoc hx,List.map_append,RM.go_append,List.map_cons,List.map_nil,RM.wf_get hy];rfl
     have hin:=HFS.out.rz.inn (l:=l.take j) fun x hx=>HLX.out x (List.mem_of_mem_take hx);have hok:=RM.go_ok HFS.out.rz.rt HOK.out hin;have HOA:=Hd hok
     have HLE:Hid ((RM.go s.st (RM.bg r) ((l.take j).map (RM.wf s.ws))).le≤100000000):=by
      have g3:=RM.go_le HFS.out.rz.rt HOK.out hin;rw[List.length_map,List.length_take]at g3;have g7:(RM.bg r).le=r.2:=rfl;have:=HAF.out;show _≤_;omega
     have HYR:=Hd (HFS.out.rz.wr y (List.mem_of_getElem? hy));clear hin hok hx hy hxr;generalize RM.go s.st (RM.bg r) ((l.take j).map (RM.wf s.ws))=a at HI HTK HGO HOA HLE;have HNE:=Hd (RM.nx_eq HOA.out y.1);have HNXT:Hid (∀w',Calls Tryz.prog 129 #[.agg (sv s.st).toArray,.agg #[.int .i64 a.fl,.int .i64 a.he,.int .i64 a.le],.int .i64 y.1] w' fun e w''=>e=.returned (.agg #[.int .i64 y.1,.int .i64 (RM.ar s.st a y.1),.int .i64 (RM.ar s.st a y.1+RM.dw s.st)])∧Below w'.heap.size w' w''):=fun w'=>next_any s.st HFS.out.rz.rt a HOA.out HLE.out y.1 HYR.out.1 HYR.out.2 w';generalize RM.ar s.st a y.1=T at HNE HNXT;generalize T+RM.dw s.st=L at HNE HNXT;rw[HNE.out]at HTK HGO;generalize y.1=fy at HTK HGO HNXT HCY hcy;clear HNE HOA HLE HYR
     gi_wp2_with fail
     clear hcx hcy;have HNB:Hid (∀w',Below wr.drew.heap.size wr.drew w'→NB w' c2 s.st (.slice (some ⟨gc,oc,none⟩) s.cs.length kc) (.slice (some ⟨gw,ow,none⟩) s.ws.length kw)):=fun w' hw=>HI.out.sj.sq.nb.drew.below' hw;have HTB:Hid (∀w',Below wr.drew.heap.size wr.drew w'→TB w' b6 a):=fun w' hw=>(HI.out.next HJ.out ((Below.refl _ wr).drew.trans hw)).tb;have HC14:Hid (∀w',Below wr.drew.heap.size wr.drew w'→w'.cell? ⟨c2,14,none⟩=some (.slice (some ⟨gw,ow,none⟩) s.ws.length kw)):=fun w' hw=>(HNB.out w' hw).cell 14;have HCZ:Hid (∀w',Below wr.drew.heap.size wr.drew w'→w'.cell? ⟨gw,ow+i*2,none⟩=some (.int .i64 fy)):=fun w' hw=>(hw.cell (p:=⟨gw,ow+i*2,none⟩) (cell_lt HCY.out)).trans HCY.out;refine wpIn_wide.2 ?_;refine wp_region_tail 10 (by kernel_rfl) (by kernel_rfl) ?_;simp only[List.take_succ_cons,List.take_zero,List.drop_succ_cons,List.drop_zero];unfold wpCalm;generalize hK:wpCalm _ _ _ _ _=K;unfold Oper.calm;go_simp;refine⟨_,fun _ _=>rfl,?_⟩;subst hK;unfold wpCalm;generalize hK:wpCalm _ _ _ _ _=K;rw[if_pos (by go_simp)];refine calm_load23n _ c2 s.st _ _ rfl rfl HNB.out ?_;go_simp;subst hK;unfold wpCalm;generalize hK:wpCalm _ _ _ _ _=K;rw[if_pos (by go_simp)];refine calm_loadT _ b6 a rfl rfl HTB.out ?_;go_simp;subst hK;unfold wpCalm;generalize hK:wpCalm _ _ _ _ _=K;unfold Oper.calm;go_simp;refine⟨_,fun _ _=>rfl,?_⟩;subst hK;unfold wpCalm;generalize hK:wpCalm _ _ _ _ _=K;rw[if_pos (by go_simp)];refine calm_loadWs _ _ _ rfl rfl HC14.out ?_;go_simp;subst hK;unfold wpCalm;generalize hK:wpCalm _ _ _ _ _=K;unfold Oper.calm;go_simp;refine⟨_,fun _ _=>rfl,?_⟩;subst hK;unfold wpCalm;generalize hK:wpCalm _ _ _ _ _=K;rw[if_pos (by go_simp)];refine calm_ixWs _ _ rfl rfl rfl hiw ?_;go_simp;subst hK;unfold wpCalm;generalize hK:wpCalm _ _ _ _ _=K;unfold Oper.calm;go_simp;refine⟨_,fun _ _=>rfl,?_⟩;subst hK;unfold wpCalm;generalize hK:wpCalm _ _ _ _ _=K;rw[if_pos (by go_simp)];refine calm_load3 _ _ _ rfl rfl HCZ.out ?_;go_simp;subst hK;unfold wpCalm;generalize hK:wpCalm _ _ _ _ _=K;unfold Oper.calm;go_simp;refine⟨_,fun w' hw=>HNXT.out w',?_⟩;subst hK;refine wpCalm_nil ?_;intro W4 hb4;have HI4:=Hd (HI.out.next HJ.out ((Below.refl _ wr).drew.trans hb4));clear hb4 HNB HTB HC14 HCZ HCY HNXT HI
     go_wp2_with (refine wpList_storeT rfl _ _ rfl b6 rfl rfl HI4.out.tb ?_)
     intro W5 hk5 ht5;have HI5:=Hd (HI4.out.put HJ.out HG.out hk5 ht5);clear hk5 ht5 HI4;have hcx5:=HI5.out.tb.c0;have hcy5:=HI5.out.tb.c1;have hcz5:=HI5.out.tb.c2;obtain⟨fn,tmps,assign,body,hy5,hR5⟩:=HY.out (nn-1) _ ((i:Int),⟨fy,T,L⟩) F1 W5 #[.int .i64 (i:Int),.agg #[.int .i64 fy,.int .i64 T,.int .i64 L]] HI5.out.sj.jj ⟨rfl,Int.natCast_nonneg _,by show(i:Int)<_;omega⟩;have HR5:=Hd hR5;clear hR5
     have HPR:Hid (RM.stk s.st s.ws s.cs p k++RM.st1 s.st s.ws (RM.bg r) (l.take j)++[((i:Int),(⟨fy,T,L⟩:RM.Sp))]<+:RM.stp s.st s.ws s.cs p):=by
      show _<+:_;rw[List.append_assoc,←HTK.out]
      have h1:RM.stk s.st s.ws s.cs p k++RM.st1 s.st s.ws (RM.bg r) (l.take (j+1))<+:RM.stk s.st s.ws s.cs p (k+1):=by
       rw[RM.stk_succ HFS.out.pc HKL.out.2 HKL.out.1];exact(List.prefix_append_right_inj _).2 (RM.st1_pre _)
      exact h1.trans (RM.stk_pre HFS.out.pc)
     go_wp2_with fail
     gi_wp2_with fail
     refine⟨hdd _,HR5.out.mono ?_⟩;rintro e W6 (⟨rfl,hj6,hk6⟩|⟨rfl,hx6,_⟩)
     ·have HI6:=Hd (HI5.out.round HG.out hk6 hj6);rw[List.append_assoc,←HTK.out,←HGO.out]at HI6;clear hj6 hk6 HI5 hcx5 hcy5 hcz5 hy5 HR5 HPR
      gi_wp2
      go_roundw
      case rel=>exact⟨j+1,by omega,by go_num,HI6⟩
      case measure=>simp[intOf];omega
     ·have HX6:=Hd (And.intro HPR.out hx6);clear hx6 HI5 hcx5 hcy5 hcz5 hy5 HR5 HPR
      gi_wp2
      rw[Exit.noGoto_normal]
      go_end0
      exact⟨⟨_,rfl⟩,.inr ⟨_,_,HX6.out.1,HX6.out.2⟩⟩
    ·have hjz:¬(j:Int)<(l.length:Int):=by omega
     have HS:=Hd HI.out.sj;rw[show l.take j=l from List.take_of_length_le (by omega),←RM.stk_succ HFS.out.pc HKL.out.2 HKL.out.1]at HS;clear HI
     gi_wp2
     go_roundw
     case rel=>exact⟨k+1,_,by omega,by go_num,HS⟩
     case measure=>simp[intOf];omega
  ·have hkz:¬(k:Int)<(p.length:Int):=by omega
   have HE:=Hd HQ.out.jj;rw[RM.stk_all HFS.out.pc (by omega)]at HE;clear HQ
   gi_wp2
   go_end0
   exact⟨⟨_,rfl⟩,.inl ⟨_,_,rfl,HE.out⟩⟩
end Go.Proofs.YtnkelgdnglaafaaGreat
