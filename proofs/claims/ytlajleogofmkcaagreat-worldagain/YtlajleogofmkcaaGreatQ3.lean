import Derived.Test.YtlajleogofmkcaaGreatQ2
import Derived.WalkKit
import Derived.Below
import Derived.Deep.AppendLies
import Derived.Laws.OwnMore
import Derived.Deep.MidRow
import Derived.Laws.CopyOwn
import Derived.Laws.Rows
import Derived.RangeFuncNested
import Derived.RangeFuncCalls
import Derived.RangeFuncLeaves
set_option maxHeartbeats 8000000
set_option maxRecDepth 100000
namespace Go.Proofs.YtlajleogofmkcaaGreat
open Go.RowKit
section
variable {α:Type} {cf:α→List Value} {k:Nat}
def rcs(cf:α→List Value)(l:List α):List Value:=l.flatMap cf
theorem rcs_cons(y:α)(l:List α):rcs cf (y::l)=cf y++rcs cf l:=rfl
theorem rcs_append(l m:List α):rcs cf (l++m)=rcs cf l++rcs cf m:=by unfold rcs;rw[List.flatMap_append]
theorem rcs_get(hk:∀x,(cf x).length=k){y:α}{u:Value}{j:Nat}(hj:(cf y)[j]?=some u):∀{l:List α} {i:Nat},l[i]?=some y→(rcs cf l)[i*k+j]?=some u
 |[],_,h=>by simp at h
 |z::l,0,h=>by
  simp at h;subst h;rw[rcs_cons,Nat.zero_mul,Nat.zero_add,List.getElem?_append_left ((List.getElem?_eq_some_iff.1 hj).1)];exact hj
 |z::l,i+1,h=>by
  rw[rcs_cons,List.getElem?_append_right (by rw[hk,Nat.add_mul];omega),hk,show(i+1)*k+j-k=i*k+j by rw[Nat.add_mul];omega];exact rcs_get hk hj (by simpa using h)
def OG(cf:α→List Value)(k:Nat)(t:TypeId)(W:World)(B:Nat)(v:Value)(l:List α):Prop:=W.ownsRow B t k v l.length (rcs cf l)
variable {t:TypeId} {W W':World} {B:Nat} {v:Value} {l:List α}
theorem OG.lt(h:OG cf k t W B v l):∀g,v.ownBlock=some g→B≤g∧g<W.heap.size:=World.ownsRow.lt h
theorem OG.keep(h:OG cf k t W B v l)(hk:∀g,v.ownBlock=some g→W'.heap[g]?=W.heap[g]?):OG cf k t W' B v l:=by
 refine⟨h.1,?_⟩;rcases h.2 with h1|⟨g,cap,cur,hv,hb,hg,hc⟩
 ·exact .inl h1
 ·exact .inr ⟨g,cap,cur,hv,hb,(hk g (by rw[hv];rfl)).trans hg,hc⟩
theorem OG.below'(h:OG cf k t W B v l)(hb:Below W.heap.size W W'):OG cf k t W' B v l:=h.keep fun g hg=>hb.block g (h.lt g hg).2
theorem OG.form(h:OG cf k t W B v l):(v=.slice none 0 0∧l=[])∨∃g cap,v=.slice (some ⟨g,0,none⟩) l.length cap∧B≤g∧g<W.heap.size∧l.length≤cap:=by
 rcases h.2 with⟨h1,h2⟩|⟨g,cap,cur,hv,hb,hg,hc,_⟩
 ·exact .inl ⟨h1,List.length_eq_zero_iff.1 h2⟩
 ·exact .inr ⟨g,cap,hv,hb,(Array.getElem?_eq_some_iff.1 hg).1,hc⟩
theorem OG.slice(h:OG cf k t W B v l):∃a c,v=.slice a l.length c:=by
 rcases h.form with⟨rfl,rfl⟩|⟨g,cap,rfl,_⟩
 ·exact⟨_,_,rfl⟩
 ·exact⟨_,_,rfl⟩
theorem OG.at(hk:∀x,(cf x).length=k){g cap n i:Nat}{y:α}(h:OG cf k t W B (.slice (some ⟨g,0,none⟩) n cap) l)(hi:l[i]?=some y):W.rangeAt g (i*k) (cf y):=fun j u hu=>by
 have:=World.ownsRow.cells h (g:=g) rfl _ _ (rcs_get hk hu hi);rwa[Addr.add_mid,Nat.zero_add]at this
theorem OG.nil(cf:α→List Value)(k:Nat)(W:World)(hB:B≤W.heap.size):OG cf k t (W.alloc (.cells #[] t)) B (.slice (some ⟨W.heap.size,0,none⟩) 0 0) []:=
 World.ownsRow_lit (e:=t) (size:=k) W #[] 0 hB (by unfold maxLen;omega) (by simp)
end
def ZB(W:World)(b:Nat):Prop:=W.heap[b]?=some (.cells #[.int .i64 0,.int .i64 0,.int .i64 0,.int .i64 0,.int .i64 0,.int .i64 0,.bool false,.bool false] 48 (0,0))
section
variable {W W':World} {b:Nat}
theorem ZB.lt(H:ZB W b):b<W.heap.size:=(Array.getElem?_eq_some_iff.1 H).1
theorem ZB.cell(H:ZB W b)(i:Nat):W.cell? ⟨b,i,none⟩=(#[.int .i64 0,.int .i64 0,.int .i64 0,.int .i64 0,.int .i64 0,.int .i64 0,.bool false,.bool false]:Array Value)[i]?:=by simp[World.cell?,show W.heap[b]?=_ from H]
theorem ZB.fr(H:ZB W b)(i:Nat):W.frozen? ⟨b,i,none⟩=false:=by simp[World.frozen?,show W.heap[b]?=_ from H]
theorem ZB.below'(H:ZB W b)(hb:Below W.heap.size W W'):ZB W' b:=(hb.block b H.lt).trans H
theorem ZB.alloc(H:ZB W b)(x:Obj):ZB (W.alloc x) b:=(Below.heap_alloc W x b H.lt).trans H
theorem ZB.new(W:World){n:Nat}(hn:W.heap.size=n):ZB (W.alloc (.cells #[.int .i64 0,.int .i64 0,.int .i64 0,.int .i64 0,.int .i64 0,.int .i64 0,.bool false,.bool false] 48)) n:=hn▸World.alloc_heap_new W _
theorem infoZk:(Tryz.prog.info? 48).map (·.size)=some 8:=by kernel_rfl
theorem infoZd:(Tryz.prog.info? 46).map (·.size)=some 4:=by kernel_rfl
end
section
variable {ops:Array Oper} {rest:List Oper} {op:Oper} {a:Act} {w:World} {Q:Exit→Act→World→Prop}
theorem wpList_storeZ(hgd:op.guard=none)(x y:Operand)(ho:op.op=.store 48 x y)
  (b:Nat) (hx:a.eval x=.pointer (some ⟨b,0,none⟩)) (hy:a.eval y=.agg #[.int .i64 0,.int .i64 0,.int .i64 0,.int .i64 0,.int .i64 0,.int .i64 0,.bool false,.bool false]) (hC:ZB w b)
  (hn:∀W',ZB W' b→(∀n w0,Below n w0 w→n≤b→Below n w0 W')→wpList Tryz.prog ops Q rest (a.put op.dst undef) W'):wpList Tryz.prog ops Q (op::rest) a w:=
 wpList_store_row hgd 48 x y ho b _ hx hy _ _ hC infoZk rfl (by simp[Value.oneCell']) (hn _ (setRow_heap w b _ _ _ _ hC) fun n w0 h h2=>below_setRow h h2 _)
theorem wpList_loadZ(hgd:op.guard=none)(x:Operand)(ho:op.op=.load 48 x)
  (b:Nat) (hx:a.eval x=.pointer (some ⟨b,0,none⟩)) (hC:ZB w b)
  (hn:wpList Tryz.prog ops Q rest (a.put op.dst (.agg #[.int .i64 0,.int .i64 0,.int .i64 0,.int .i64 0,.int .i64 0,.int .i64 0,.bool false,.bool false])) w):wpList Tryz.prog ops Q (op::rest) a w:=
 wpList_load_row hgd 48 x ho b hx _ _ _ _ hC Tryz.underlying48 rfl infoZk hn
theorem loadZ(w:World)(b:Nat)(hC:ZB w b):(Instr.loadAt 48 (.pointer (some ⟨b,0,none⟩))).run Tryz.prog w=.ok (.agg #[.int .i64 0,.int .i64 0,.int .i64 0,.int .i64 0,.int .i64 0,.int .i64 0,.bool false,.bool false]) w:=by
 simp only[Instr.loadAt,Instr.sureAddr,Sem.run_bind,Sem.run_pure,Result.andThen_ok,run_loadVar_row (P:=Tryz.prog) w b 48 48 _ _ _ hC Tryz.underlying48 rfl infoZk]
theorem wpList_loadZg(hgd:Region.wanted op (yielded ops a.tmps)=true)(x:Operand)(ho:op.op=.load 48 x)
  (b:Nat) (hx:a.eval x=.pointer (some ⟨b,0,none⟩)) (hC:ZB w b)
  (hn:wpList Tryz.prog ops Q rest (a.put op.dst (.agg #[.int .i64 0,.int .i64 0,.int .i64 0,.int .i64 0,.int .i64 0,.int .i64 0,.bool false,.bool false])) w):wpList Tryz.prog ops Q (op::rest) a w:=
 wpList_step fun _ hK=>by
  rw[if_pos hgd];unfold Oper.wp execOp;simp only[ho,Sem.run_bind,Sem.run_pure,Result.andThen_ok,hx,loadZ w b hC];exact hK _ _ hn
theorem ZB.range3{b:Nat}(hC:ZB w b):w.rangeAt b 3 [.int .i64 0,.int .i64 0,.int .i64 0,.bool false]:=fun j v hv=>by
 rw[hC.cell];rcases j with _|_|_|_|j<;>first|exact hv|(simp at hv)
theorem wpList_loadZd(hgd:op.guard=none)(x:Operand)(ho:op.op=.load 46 x)
  (b:Nat) (hx:a.eval x=.pointer (some ⟨b,3,none⟩)) (hC:ZB w b)
  (hn:wpList Tryz.prog ops Q rest (a.put op.dst (.agg #[.int .i64 0,.int .i64 0,.int .i64 0,.bool false])) w):wpList Tryz.prog ops Q (op::rest) a w:=
 wpList_load_mid hgd 46 x ho b 3 hx _ _ hC.range3 Tryz.underlying46 rfl infoZd hn
end
theorem zat_any(w:World):Calls Tryz.prog 19 #[.int .i64 0] w fun e w'=>e=.returned (.agg #[.int .i64 0,.int .i64 0,.int .i64 0,.int .i64 0,.int .i64 0,.int .i64 0,.bool false,.bool false])∧Below w.heap.size w w':=by
 go_enter Tryz.func19,Tryz.ntmps19
 go_wp2;refine bodyPost_ret (by simp[results,Tryz.results19,go_sem];rfl) rfl ?_;exact⟨rfl,(Below.refl _ w).alloc (Nat.le_refl _) _⟩
theorem zmoves_any(w:World):Calls Tryz.prog 85 #[.agg #[.int .i64 0,.int .i64 0,.int .i64 0,.int .i64 0,.int .i64 0,.int .i64 0,.bool false,.bool false]] w fun e w'=>e=.returned (.bool false)∧Below w.heap.size w w':=by
 go_enter Tryz.func85,Tryz.ntmps85
 go_wp2;go_ret;exact⟨rfl,(Below.refl _ w).alloc (Nat.le_refl _) _⟩
theorem zshut_any(w:World):Calls Tryz.prog 87 #[.agg #[.int .i64 0,.int .i64 0,.int .i64 0,.int .i64 0,.int .i64 0,.int .i64 0,.bool false,.bool false]] w fun e w'=>e=.returned (.bool true)∧Below w.heap.size w w':=by
 go_enter Tryz.func87,Tryz.ntmps87
 go_wp2;go_ret;exact⟨rfl,(Below.refl _ w).alloc (Nat.le_refl _) _⟩
theorem zhas_no(s:St)(w:World):Calls Tryz.prog 89 #[.agg (sv s).toArray,.int .i64 (-1)] w fun e w'=>e=.returned (.bool false)∧Below w.heap.size w w':=by
 have HB:Hid (Below w.heap.size w (w.alloc (.cells (sv s).toArray 23))):=Hd ((Below.refl _ w).alloc (Nat.le_refl _) _)
 go_enter Tryz.func89,Tryz.ntmps89
 go_wp2;go_ret;exact⟨rfl,HB.out⟩
theorem zhas_yes(s:St)(hf:0<s.fl)(w:World):Calls Tryz.prog 89 #[.agg (sv s).toArray,.int .i64 0] w fun e w'=>e=.returned (.bool true)∧Below w.heap.size w w':=by
 have n0:=SB.new w s;have hc0:(w.alloc (.cells (sv s).toArray 23)).cell? ⟨w.heap.size,0,none⟩=some (.int .i64 s.fl):=n0.cell 0;have HB:Hid (Below w.heap.size w (w.alloc (.cells (sv s).toArray 23))):=Hd ((Below.refl _ w).alloc (Nat.le_refl _) _);have hd:decide ((0:Int)<s.fl)=true:=by simpa using hf
 clear n0
 go_enter Tryz.func89,Tryz.ntmps89
 go_wp2;go_ret;exact⟨rfl,HB.out⟩
theorem CBm.new(W:World){n:Nat}(hn:W.heap.size=n):(W.alloc (.cells #[.bool false,.int .i64 (-1)] 103)).heap[n]?=some (.cells #[.bool false,.int .i64 (-1)] 103 (0,0)):=hn▸World.alloc_heap_new W _
structure Bzw(w0 W:World)(S:Nat)(s:St):Prop where
 bel:Below w0.heap.size w0 W
 sb:SB W S s
 cb:ZB W (S+1)
 mb:W.heap[S+1+1]?=some (.cells #[.bool false,.int .i64 (-1)] 103 (0,0))
 eb:ZB W (S+1+1+1)
theorem Bzw.new(w:World)(s:St):Bzw w ((((w.alloc (.cells (sv s).toArray 23)).alloc (.cells #[.int .i64 0,.int .i64 0,.int .i64 0,.int .i64 0,.int .i64 0,.int .i64 0,.bool false,.bool false] 48)).alloc (.cells #[.bool false,.int .i64 (-1)] 103)).alloc (.cells #[.int .i64 0,.int .i64 0,.int .i64 0,.int .i64 0,.int .i64 0,.int .i64 0,.bool false,.bool false] 48)) w.heap.size s:=
 ⟨((((Below.refl _ w).alloc (Nat.le_refl _) _).alloc (by simp) _).alloc (by simp;omega) _).alloc (by simp;omega) _,(((SB.new w s).alloc _).alloc _).alloc _,((ZB.new _ (by simp)).alloc _).alloc _,(Below.heap_alloc _ _ _ (by simp)).trans (CBm.new _ (by simp)),ZB.new _ (by simp)⟩
theorem Bzw.keep{w0 W:World}{S:Nat}{s:St}{f:FuncId}{args:Array Value}{R:Ending→Prop}(h:Bzw w0 W S s)
  (hc:Calls Tryz.prog f args W fun e w'=>R e∧Below W.heap.size W w'):Calls Tryz.prog f args W fun e w'=>R e∧Bzw w0 w' S s:=
 hc.mono fun _ _ hh=>⟨hh.1,below_class h.bel hh.2,h.sb.below' hh.2,h.cb.below' hh.2,(hh.2.block _ (Array.getElem?_eq_some_iff.1 h.mb).1).trans h.mb,h.eb.below' hh.2⟩
theorem zstep_any(s:St)(w:World):
  Calls Tryz.prog 62 #[.agg (sv s).toArray,.agg #[.int .i64 0,.int .i64 0,.int .i64 0,.int .i64 0,.int .i64 0,.int .i64 0,.bool false,.bool false],.agg #[.bool false,.int .i64 (-1)],.bool false] w fun e w'=>e=.returned (.agg #[.int .i64 0,.int .i64 0,.int .i64 0,.int .i64 0,.int .i64 0,.int .i64 0,.bool false,.bool false])∧Below w.heap.size w w':=by
 have H0:=Hd (Bzw.new w s)
 go_enter Tryz.func62,Tryz.ntmps62
 go_wp2_with (refine wpList_loadZ rfl _ rfl (w.heap.size+1) rfl H0.out.cb ?_)
 refine (H0.out.keep (zmoves_any _)).mono ?_;rintro e W1 ⟨rfl,hk⟩;have H1:=Hd hk;clear hk H0
 go_wp2_with (refine wpList_loadZ rfl _ rfl (w.heap.size+1) rfl H1.out.cb ?_)
 refine (H1.out.keep (zshut_any _)).mono ?_;rintro e W2 ⟨rfl,hk⟩;have H2:=Hd hk;have m0:W2.cell? ⟨w.heap.size+1+1,0,none⟩=some (.bool false):=by simp[World.cell?,hk.mb]
 have m1:W2.cell? ⟨w.heap.size+1+1,1,none⟩=some (.int .i64 (-1)):=by simp[World.cell?,hk.mb]
 have c0:W2.cell? ⟨w.heap.size+1,0,none⟩=some (.int .i64 0):=hk.cb.cell 0;have m7:W2.cell? ⟨w.heap.size+1,7,none⟩=some (.bool false):=hk.cb.cell 7;clear hk H1
 go_wp2_with (refine wpList_load23g rfl _ rfl w.heap.size s rfl H2.out.sb ?_)
 refine (H2.out.keep (zhas_no s _)).mono ?_;rintro e W3 ⟨rfl,hk⟩;have H3:=Hd hk;clear hk H2 m0 m1 m7 c0
 go_wp2_with (first|(refine wpList_loadZ rfl _ rfl (w.heap.size+1) rfl H3.out.cb ?_)|(refine wpList_storeZ rfl _ _ rfl (w.heap.size+1+1+1) rfl rfl H3.out.eb ?_))
 intro W5 hc hu;go_wp2;exact bodyPost_ret (results_cell_row Tryz.results62 _ _ _ _ _ _ _ rfl hc Tryz.underlying48 rfl infoZk) rfl ⟨rfl,hu _ _ H3.out.bel (by omega)⟩
namespace RM
open SM
structure Sp where
 fl:Int
 he:Int
 le:Int
def dw(s:St):Int:=s.opn+s.wai+s.clo+2
def bg(r:Int×Int):Sp:=⟨r.1,-1,r.2⟩
def ar(s:St)(a:Sp)(f:Int):Int:=if a.he≠ -1∧a.fl=f then a.he else a.le+trav s a.fl f
def nx(s:St)(a:Sp)(f:Int):Sp:=if a.he≠ -1∧a.fl=f then a else⟨f,a.le+trav s a.fl f,a.le+trav s a.fl f+dw s⟩
structure Ok(s:St)(a:Sp):Prop where
 f0:0≤a.fl
 f1:a.fl<s.fl
 l0:0≤a.le
 hh:a.he= -1∨(0≤a.he∧a.le=a.he+dw s)
section
variable {s:St} {a b c:Sp} {f:Int}
theorem dw_bd(r:Rt s):5≤dw s∧dw s≤3002:=by
 have:=r.opn1;have:=r.opn2;have:=r.wai1;have:=r.wai2;have:=r.clo1;have:=r.clo2;unfold dw;omega
theorem bg_ok{r:Int×Int}(h0:0≤r.1)(h1:r.1<s.fl)(h2:0≤r.2):Ok s (bg r):=⟨h0,h1,h2,.inl rfl⟩
theorem nx_eq(ok:Ok s a)(f:Int):nx s a f=⟨f,ar s a f,ar s a f+dw s⟩:=by
 unfold nx ar;by_cases h:a.he≠ -1∧a.fl=f
 ·simp only[if_pos h];rcases ok.hh with h1|⟨_,h1⟩
  ·exact absurd h1 h.1
  ·obtain⟨x,y,z⟩:=a;simp only at h h1;rw[h1,h.2]
 ·simp only[if_neg h]
theorem ar_nn(r:Rt s)(ok:Ok s a)(f:Int):0≤ar s a f:=by
 unfold ar;split
 ·rename_i h;rcases ok.hh with h1|⟨h1,_⟩
  ·exact absurd h1 h.1
  ·exact h1
 ·have:=ok.l0;have:=(trav_bd r a.fl f).1;omega
theorem ar_le(r:Rt s)(ok:Ok s a)(f:Int):ar s a f≤a.le+65000:=by
 unfold ar;split
 ·rename_i h;rcases ok.hh with h1|⟨h1,h2⟩
  ·exact absurd h1 h.1
  ·have:=dw_bd r;omega
 ·have:=(trav_bd r a.fl f).2;omega
theorem nx_ok(r:Rt s)(ok:Ok s a)(h0:0≤f)(h1:f<s.fl):Ok s (nx s a f):=by
 rw[nx_eq ok];have hn:=ar_nn r ok f;have:=dw_bd r;exact⟨h0,h1,by show 0≤ar s a f+dw s;omega,.inr ⟨hn,rfl⟩⟩
theorem ar_nx(r:Rt s)(ok:Ok s a)(f g:Int):ar s (nx s a f) g=if f=g then ar s a f else ar s a f+dw s+trav s f g:=by
 rw[nx_eq ok];have:=ar_nn r ok f;unfold ar at this⊢;simp only;by_cases e:f=g
 ·rw[if_pos ⟨by omega,e⟩,if_pos e]
 ·rw[if_neg (fun h=>e h.2),if_neg e]
def Le(s:St)(a b:Sp):Prop:=∀f,0≤f→f<s.fl→ar s a f≤ar s b f
theorem Le.refl(s:St)(a:Sp):Le s a a:=fun _ _ _=>Int.le_refl _
theorem Le.trans(h:Le s a b)(k:Le s b c):Le s a c:=fun f h0 h1=>Int.le_trans (h f h0 h1) (k f h0 h1)
theorem Le.nx(r:Rt s)(oa:Ok s a)(ob:Ok s b)(h:Le s a b)(h0:0≤f)(h1:f<s.fl):Le s (nx s a f) (nx s b f):=fun g _ _=>by
 rw[ar_nx r oa,ar_nx r ob];have:=h f h0 h1;split<;>omega
end
def go(s:St):Sp→List Int→Sp
 |a,[]=>a
 |a,f::l=>go s (nx s a f) l
def tm(s:St):Sp→List Int→List Int
 |_,[]=>[]
 |a,f::l=>ar s a f::tm s (nx s a f) l
def In(s:St)(l:List Int):Prop:=∀f∈l,0≤f∧f<s.fl
section
variable {s:St} {a b:Sp} {l m:List Int}
theorem In.cons{f:Int}(h:In s (f::l)):(0≤f∧f<s.fl)∧In s l:=⟨h f (by simp),fun g hg=>h g (by simp[hg])⟩
theorem In.append:In s (l++m)↔In s l∧In s m:=⟨fun h=>⟨fun f hf=>h f (by simp[hf]),fun f hf=>h f (by simp[hf])⟩,fun h f hf=>(List.mem_append.1 hf).elim (h.1 f) (h.2 f)⟩
theorem go_append:∀(l m:List Int) (a:Sp),go s a (l++m)=go s (go s a l) m
 |[],_,_=>rfl
 |f::l,m,a=>go_append l m (nx s a f)
theorem tm_length:∀(l:List Int) (a:Sp),(tm s a l).length=l.length
 |[],_=>rfl
 |f::l,a=>by
  show(tm s (nx s a f) l).length+1=_;rw[tm_length l];rfl
theorem go_snoc(f:Int):go s a (l++[f])=nx s (go s a l) f:=by rw[go_append];rfl
theorem tm_get{f:Int}:∀{l:List Int} {a:Sp} {i:Nat},l[i]?=some f→(tm s a l)[i]?=some (ar s (go s a (l.take i)) f)
 |[],_,_,h=>by simp at h
 |g::l,a,0,h=>by simp at h;subst h;rfl
 |g::l,a,i+1,h=>tm_get (l:=l) (a:=nx s a g) (i:=i) (by simpa using h)
theorem go_ok(r:Rt s):∀{l:List Int} {a:Sp},Ok s a→In s l→Ok s (go s a l)
 |[],_,ok,_=>ok
 |f::l,a,ok,h=>go_ok (l:=l) (a:=nx s a f) r (nx_ok r ok h.cons.1.1 h.cons.1.2) h.cons.2
theorem Le.go(r:Rt s):∀{l:List Int} {a b:Sp},Ok s a→Ok s b→In s l→Le s a b→Le s (go s a l) (go s b l)
 |[],_,_,_,_,_,h=>h
 |f::l,a,b,oa,ob,hl,h=>Le.go (l:=l) (a:=RM.nx s a f) (b:=RM.nx s b f) r (nx_ok r oa hl.cons.1.1 hl.cons.1.2) (nx_ok r ob hl.cons.1.1 hl.cons.1.2) hl.cons.2 (h.nx r oa ob hl.cons.1.1 hl.cons.1.2)
theorem go_le(r:Rt s):∀{l:List Int} {a:Sp},Ok s a→In s l→(go s a l).le≤a.le+68002*(l.length:Int)
 |[],_,_,_=>by simp[go]
 |f::l,a,ok,hl=>by
  have h1:=go_le r (nx_ok r ok hl.cons.1.1 hl.cons.1.2) hl.cons.2;have h2:=ar_le r ok f;have h3:=dw_bd r;show(go s (nx s a f) l).le≤_;rw[nx_eq ok]at h1⊢;simp only at h1;rw[List.length_cons];omega
end
section
variable {s:St} {a:Sp} {n:Int}
end
end RM
namespace RM
open SM
def wf(ws:List (Int×Int))(w:Int):Int:=(ws[w.toNat]?.map (·.1)).getD 0
theorem wf_get{ws:List (Int×Int)}{i:Nat}{y:Int×Int}(h:ws[i]?=some y):wf ws (i:Int)=y.1:=by unfold wf;rw[Int.toNat_natCast,h];rfl
def pr1(s:St)(ws:List (Int×Int))(r:Int×Int)(l:List Int):List (Int×Int):=l.zip (tm s (bg r) (l.map (wf ws)))
def prs(s:St)(ws:List (Int×Int)):List (Int×Int)→List (List Int)→List (Int×Int)
 |r::cs,l::p=>pr1 s ws r l++prs s ws cs p
 |_,_=>[]
def put:List Int→List (Int×Int)→List Int
 |o,[]=>o
 |o,x::q=>put (o.set x.1.toNat x.2) q
def wts(s:St)(ws cs:List (Int×Int))(p:List (List Int)):List Int:=put (List.replicate ws.length 0) (prs s ws cs p)
def cst(s:St)(ws cs:List (Int×Int))(p:List (List Int)):Int:=((prs s ws cs p).map (·.2)).sum
section
variable {s:St} {ws:List (Int×Int)}
theorem pr1_fst(r:Int×Int)(l:List Int):(pr1 s ws r l).map (·.1)=l:=by
 unfold pr1;exact List.map_fst_zip (by rw[tm_length,List.length_map];exact Nat.le_refl _)
theorem pr1_snd(r:Int×Int)(l:List Int):(pr1 s ws r l).map (·.2)=tm s (bg r) (l.map (wf ws)):=by
 unfold pr1;exact List.map_snd_zip (by rw[tm_length,List.length_map];exact Nat.le_refl _)
theorem prs_fst:∀{cs:List (Int×Int)} {p:List (List Int)},cs.length=p.length→(prs s ws cs p).map (·.1)=p.flatten
 |[],[],_=>rfl
 |[],_::_,h=>by simp at h
 |_::_,[],h=>by simp at h
 |r::cs,l::p,h=>by
  show(pr1 s ws r l++prs s ws cs p).map (·.1)=_;rw[List.map_append,pr1_fst,prs_fst (by simpa using h),List.flatten_cons]
theorem cst_cons(r:Int×Int)(l:List Int)(cs:List (Int×Int))(p:List (List Int)):cst s ws (r::cs) (l::p)=(tm s (bg r) (l.map (wf ws))).sum+cst s ws cs p:=by
 show((pr1 s ws r l++prs s ws cs p).map (·.2)).sum=_;rw[List.map_append,List.sum_append,pr1_snd];rfl
theorem cst_nil(cs:List (Int×Int)):cst s ws cs []=0:=by cases cs<;>rfl
end
theorem put_length:∀(q:List (Int×Int)) (o:List Int),(put o q).length=o.length
 |[],_=>rfl
 |x::q,o=>by
  show(put (o.set x.1.toNat x.2) q).length=_;rw[put_length q,List.length_set]
theorem put_append:∀(q r:List (Int×Int)) (o:List Int),put o (q++r)=put (put o q) r
 |[],_,_=>rfl
 |x::q,r,o=>put_append q r (o.set x.1.toNat x.2)
def Once(q:List (Int×Int)):Prop:=q.Pairwise fun a b=>a.1.toNat≠b.1.toNat
theorem sum_set{t:Int}:∀{o:List Int} {i:Nat},o[i]?=some 0→(o.set i t).sum=o.sum+t
 |[],_,h=>by simp at h
 |a::o,0,h=>by
  simp at h;subst h;rw[List.set_cons_zero,List.sum_cons,List.sum_cons];omega
 |a::o,i+1,h=>by
  rw[List.set_cons_succ,List.sum_cons,List.sum_cons,sum_set (by simpa using h)];omega
theorem put_sum:∀{q:List (Int×Int)} {o:List Int},Once q→(∀x∈q,o[x.1.toNat]?=some 0)→(put o q).sum=o.sum+(q.map (·.2)).sum
 |[],_,_,_=>by simp[put]
 |x::q,o,ho,h=>by
  obtain⟨h1,h2⟩:=List.pairwise_cons.1 ho;show(put (o.set x.1.toNat x.2) q).sum=_;rw[put_sum h2 (fun y hy=>by rw[List.getElem?_set_ne (h1 y hy)];exact h y (by simp[hy])),sum_set (h x (by simp)),List.map_cons,List.sum_cons];omega
theorem sum_rep(n:Nat):(List.replicate n (0:Int)).sum=0:=by
 induction n with
 |zero=>rfl
 |succ n ih=>rw[List.replicate_succ,List.sum_cons,ih];rfl
theorem fz_range{ms:List Nat}{p:List (List Int)}(h:PM.Fz ms p):∀x∈p.flatten,0≤x∧x<ms.length:=fun x hx=>by
 obtain⟨l,hl,hxl⟩:=List.mem_flatten.1 hx;obtain⟨c,hc⟩:=List.getElem?_of_mem hl;have:=PM.okx_iff.1 (h.ok c l hc x hxl);exact⟨this.1,this.2.1⟩
theorem fz_nodup{ms:List Nat}{p:List (List Int)}(h:PM.Fz ms p):p.flatten.Nodup:=by
 rw[List.nodup_iff_count];intro x;by_cases hx:x∈p.flatten
 ·have hr:=fz_range h x hx;obtain⟨w,rfl⟩:∃w:Nat,x=(w:Int):=⟨x.toNat,by omega⟩;rw[h.once w (by omega)];exact Nat.le_refl _
 ·rw[List.count_eq_zero.2 hx];omega
theorem once_of{q:List (Int×Int)}(h:(q.map (·.1)).Nodup)(h0:∀x∈q,0≤x.1):Once q:=by
 unfold Once
 have h1:q.Pairwise fun a b=>a.1≠b.1:=by
  have:=h;unfold List.Nodup at this;rwa[List.pairwise_map]at this
 refine h1.imp_of_mem fun ha hb hne=> ?_;have:=h0 _ ha;have:=h0 _ hb;omega
section
variable {s:St} {ws cs:List (Int×Int)} {ms:List Nat} {p:List (List Int)}
theorem prs_mem(hl:cs.length=p.length){x:Int×Int}(hx:x∈prs s ws cs p):x.1∈p.flatten:=by
 rw[←prs_fst (s:=s) (ws:=ws) hl];exact List.mem_map.2 ⟨x,hx,rfl⟩
theorem prs_once(hf:PM.Fz ms p)(hl:cs.length=p.length):Once (prs s ws cs p):=
 once_of (by rw[prs_fst hl];exact fz_nodup hf) fun x hx=>(fz_range hf _ (prs_mem hl hx)).1
theorem wts_length:(wts s ws cs p).length=ws.length:=by unfold wts;rw[put_length,List.length_replicate]
theorem wts_sum(hf:PM.Fz ms p)(hm:ms.length=ws.length)(hl:cs.length=p.length):(wts s ws cs p).sum=cst s ws cs p:=by
 unfold wts cst;rw[put_sum (prs_once hf hl) (fun x hx=> ?_),sum_rep,Int.zero_add];have:=fz_range hf _ (prs_mem hl hx);rw[List.getElem?_replicate,if_pos (by omega)]
theorem prs_at:∀{cs:List (Int×Int)} {p:List (List Int)} {c i:Nat} {r:Int×Int} {l:List Int} {w:Int},cs[c]?=some r→p[c]?=some l→l[i]?=some w→(w,ar s (go s (bg r) ((l.take i).map (wf ws))) (wf ws w))∈prs s ws cs p
 |[],_,_,_,_,_,_,h,_,_=>by simp at h
 |_::_,[],_,_,_,_,_,_,h,_=>by simp at h
 |r0::cs,l0::p,0,i,r,l,w,h1,h2,h3=>by
  simp at h1 h2;subst h1 h2;show _∈pr1 s ws r0 l0++prs s ws cs p;refine List.mem_append_left _ ?_;have hi:=(List.getElem?_eq_some_iff.1 h3).1;have h4:(l0.map (wf ws))[i]?=some (wf ws w):=by rw[List.getElem?_map,h3];rfl
  have h5:=tm_get (s:=s) (a:=bg r0) h4;rw[←List.map_take]at h5;refine List.mem_of_getElem? (i:=i) ?_;unfold pr1;rw[List.getElem?_zip_eq_some];exact⟨h3,h5⟩
 |r0::cs,l0::p,c+1,i,r,l,w,h1,h2,h3=>List.mem_append_right _ (prs_at (cs:=cs) (p:=p) (by simpa using h1) (by simpa using h2) h3)
theorem prs_where:∀{cs:List (Int×Int)} {p:List (List Int)} {w t:Int},(w,t)∈prs s ws cs p→∃(c i:Nat) (r:Int×Int) (l:List Int),cs[c]?=some r∧p[c]?=some l∧l[i]?=some w∧t=ar s (go s (bg r) ((l.take i).map (wf ws))) (wf ws w)
 |[],_,_,_,h=>by simp[prs]at h
 |_::_,[],_,_,h=>by simp[prs]at h
 |r0::cs,l0::p,w,t,h=>by
  rcases List.mem_append.1 (show _∈pr1 s ws r0 l0++prs s ws cs p from h)with h|h
  ·obtain⟨i,hi⟩:=List.getElem?_of_mem h;unfold pr1 at hi;rw[List.getElem?_zip_eq_some]at hi;have h4:(l0.map (wf ws))[i]?=some (wf ws w):=by rw[List.getElem?_map,hi.1];rfl
   have h5:=tm_get (s:=s) (a:=bg r0) h4;rw[←List.map_take,hi.2]at h5;cases h5;exact⟨0,i,r0,l0,rfl,rfl,hi.1,rfl⟩
  ·obtain⟨c,i,r,l,h1,h2,h3,h4⟩:=prs_where h;exact⟨c+1,i,r,l,by simpa using h1,by simpa using h2,h3,h4⟩
end
end RM
namespace RM
open SM
section
variable {s:St} {ws:List (Int×Int)}
end
structure Rz(s:St)(ws cs:List (Int×Int)):Prop where
 rt:Rt s
 cr:∀r∈cs,Ok s (bg r)
 wr:∀y∈ws,0≤y.1∧y.1<s.fl
section
variable {s:St} {ws cs:List (Int×Int)} {p:List (List Int)}
theorem Rz.wf(h:Rz s ws cs){x:Int}(h0:0≤x)(h1:x<ws.length):0≤wf ws x∧wf ws x<s.fl:=by
 obtain⟨w,rfl⟩:∃w:Nat,x=(w:Int):=⟨x.toNat,by omega⟩;have hw:ws[w]?=some (ws[w]'(by omega)):=List.getElem?_eq_getElem (by omega);rw[wf_get hw];exact h.wr _ (List.mem_of_getElem? hw)
theorem Rz.inn(h:Rz s ws cs){l:List Int}(hl:∀x∈l,0≤x∧x<ws.length):In s (l.map (RM.wf ws)):=fun f hf=>by
 obtain⟨x,hx,rfl⟩:=List.mem_map.1 hf;exact h.wf (hl x hx).1 (hl x hx).2
theorem Rz.more(h:Rz s ws cs){y:Int×Int}(h0:0≤y.1)(h1:y.1<s.fl):Rz s (ws++[y]) cs:=⟨h.rt,h.cr,fun z hz=>by
 rcases List.mem_append.1 hz with hz|hz
 ·exact h.wr z hz
 ·simp at hz;subst hz;exact⟨h0,h1⟩⟩
end
end RM
theorem rgt_rz{s:Sn}(h:rgt s=true):RM.Rz s.st s.ws s.cs:=by
 unfold rgt at h;simp only[Bool.and_eq_true,decide_eq_true_eq]at h;obtain⟨⟨⟨⟨h1,_⟩,_⟩,h4⟩,h5⟩:=h;rw[List.all_eq_true]at h4 h5;refine⟨(rightB_iff _).1 h1,fun r hr=> ?_,fun y hy=> ?_⟩
 ·have:=h4 r hr;unfold cok at this;simp only[Bool.and_eq_true,decide_eq_true_eq]at this;exact RM.bg_ok this.1.1.1 this.1.1.2 this.1.2
 ·have:=wok_iff'.1 (h5 y hy);exact⟨this.1,this.2.1⟩
theorem rgt_after{s:Sn}(h:rgt s=true):∀r∈s.cs,r.2≤1000000:=fun r hr=>by
 unfold rgt at h;simp only[Bool.and_eq_true,decide_eq_true_eq]at h;obtain⟨⟨⟨⟨_,_⟩,_⟩,h4⟩,_⟩:=h;rw[List.all_eq_true]at h4;have:=h4 r hr;unfold cok at this;simp only[Bool.and_eq_true,decide_eq_true_eq]at this;exact this.2
namespace RM
variable {s:St} {ws:List (Int×Int)}
theorem pr1_length(r:Int×Int)(l:List Int):(pr1 s ws r l).length=l.length:=by
 unfold pr1;rw[List.length_zip,tm_length,List.length_map,Nat.min_self]
theorem prs_snoc:∀{k:Nat} {cs:List (Int×Int)} {p:List (List Int)} {r:Int×Int} {l:List Int},cs[k]?=some r→p[k]?=some l→prs s ws (cs.take (k+1)) (p.take (k+1))=prs s ws (cs.take k) (p.take k)++pr1 s ws r l
 |_,[],_,_,_,h,_=>by simp at h
 |_,_::_,[],_,_,_,h=>by simp at h
 |0,r0::cs,l0::p,r,l,h1,h2=>by
  simp at h1 h2;subst h1 h2;simp[prs]
 |k+1,r0::cs,l0::p,r,l,h1,h2=>by
  have:=prs_snoc (k:=k) (cs:=cs) (p:=p) (r:=r) (l:=l) (by simpa using h1) (by simpa using h2);rw[List.take_succ_cons,List.take_succ_cons,List.take_succ_cons,List.take_succ_cons];show pr1 s ws r0 l0++prs s ws (cs.take (k+1)) (p.take (k+1))=(pr1 s ws r0 l0++prs s ws (cs.take k) (p.take k))++pr1 s ws r l;rw[this,List.append_assoc]
variable {cs:List (Int×Int)} {p:List (List Int)}
end RM
structure Wq(w W:World)(cb:Nat)(s:Sn)(D:Nat→Prop)(vc vw vp:Value)(p:List (List Int))(o:List Int):Prop where
 nb:NB W w.heap.size s.st vc vw
 ow:OI W (w.heap.size+1) (.slice (some ⟨cb,0,none⟩) s.ws.length s.ws.length) o
 rp:RL D W vp p
 rc:R2 D W vc s.cs
 rw:R2 D W vw s.ws
 dl:∀g,D g→g<w.heap.size
 bel:Below w.heap.size w W
section
variable {w W W':World} {cb:Nat} {s:Sn} {D:Nat→Prop} {vc vw vp:Value} {p:List (List Int)} {o:List Int}
theorem Wq.next(h:Wq w W cb s D vc vw vp p o)(hb:Below W.heap.size W W'):Wq w W' cb s D vc vw vp p o:=
 ⟨h.nb.below' hb,h.ow.keep fun g hg=>hb.block g (h.ow.lt g hg).2,h.rp.below' hb,h.rc.below' hb,h.rw.below' hb,h.dl,below_class h.bel hb⟩
theorem Wq.put(h:Wq w W cb s D vc vw vp p o)(i:Nat)(x:Int):Wq w (W.setCell ⟨cb,i,none⟩ (.int .i64 x)) cb s D vc vw vp p (o.set i x):=by
 have hl:=(h.ow.lt cb rfl).1;have keep:∀k,k≠cb→(W.setCell ⟨cb,i,none⟩ (.int .i64 x)).heap[k]?=W.heap[k]?:=fun k hk=>Below.heap_setCell W ⟨cb,i,none⟩ _ k hk;have kd:∀g,D g→g<W.heap.size→(W.setCell ⟨cb,i,none⟩ (.int .i64 x)).heap[g]?=W.heap[g]?:=fun g hg _=>keep g (by have:=h.dl g hg;omega);have hs:W.heap.size≤(W.setCell ⟨cb,i,none⟩ (.int .i64 x)).heap.size:=by simp[World.setCell]
 exact⟨(keep _ (by omega)).trans h.nb,h.ow.put i x,h.rp.keep hs kd,h.rc.keep hs kd,h.rw.keep hs kd,h.dl,h.bel.setCell (p:=⟨cb,i,none⟩) (by show _≤cb;omega) _⟩
end
theorem ic_rep(n:Nat):ic (List.replicate n 0)=List.replicate n (Value.int .i64 0):=by unfold ic;rw[List.map_replicate]
theorem cell_lt{W:World}{g o:Nat}{v:Value}(h:W.cell? ⟨g,o,none⟩=some v):g<W.heap.size:=by
 obtain⟨ob,ho,_⟩:=cells_of_cell h;exact(Array.getElem?_eq_some_iff.1 ho).1
namespace RM
theorem put_mem{t:Int}:∀{q:List (Int×Int)} {o:List Int},t∈put o q→t∈o∨∃x∈q,x.2=t
 |[],_,h=>.inl h
 |x::q,o,h=>by
  rcases put_mem (q:=q) (o:=o.set x.1.toNat x.2) h with h|⟨y,hy,e⟩
  ·rcases List.mem_or_eq_of_mem_set h with h|h
   ·exact .inl h
   ·exact .inr ⟨x,by simp,h.symm⟩
  ·exact .inr ⟨y,by simp[hy],e⟩
theorem prs_bd{s:St}{ws cs:List (Int×Int)}{p:List (List Int)}(z:Rz s ws cs)(hp:∀x∈p.flatten,0≤x∧x<ws.length)(hc:∀r∈cs,r.2≤1000000)(hl:∀l∈p,l.length≤1000):∀x∈prs s ws cs p,0≤x.2∧x.2≤80000000:=fun x hx=>by
 obtain⟨w,t⟩:=x;obtain⟨c,i,r,l,h1,h2,h3,h4⟩:=prs_where hx;have hall:∀x∈l,0≤x∧x<ws.length:=fun x hx=>hp x (List.mem_flatten.2 ⟨l,List.mem_of_getElem? h2,hx⟩);have hin:=z.inn (l:=l.take i) fun x hx=>hall x (List.mem_of_mem_take hx);have ok0:=z.cr r (List.mem_of_getElem? h1);have ok:=go_ok z.rt ok0 hin;have g1:=ar_nn z.rt ok (wf ws w);have g2:=ar_le z.rt ok (wf ws w);have g3:=go_le z.rt ok0 hin;have g4:=hc r (List.mem_of_getElem? h1);have g5:=hl l (List.mem_of_getElem? h2);have g6:=(List.getElem?_eq_some_iff.1 h3).1;rw[List.length_map,List.length_take]at g3;have g7:(bg r).le=r.2:=rfl;show 0≤t∧t≤_;omega
theorem wts_bd{s:St}{ws cs:List (Int×Int)}{p:List (List Int)}(z:Rz s ws cs)(hp:∀x∈p.flatten,0≤x∧x<ws.length)(hc:∀r∈cs,r.2≤1000000)(hl:∀l∈p,l.length≤1000):∀t∈wts s ws cs p,0≤t∧t≤80000000:=fun t ht=>by
 rcases put_mem ht with h|⟨x,hx,e⟩
 ·rw[List.mem_replicate]at h;omega
 ·rw[←e];exact prs_bd z hp hc hl x hx
theorem sum_bd{B:Int}:∀{l:List Int},(∀t∈l,0≤t∧t≤B)→0≤l.sum∧l.sum≤B*(l.length:Int)
 |[],_=>by simp
 |a::l,h=>by
  have h1:=h a (by simp);have h2:=sum_bd (l:=l) fun t ht=>h t (by simp[ht]);rw[List.sum_cons,List.length_cons,Int.natCast_add,Int.mul_add];omega
end RM
structure Fs(s:Sn)(p:List (List Int)):Prop where
 rg:rgt s=true
 rz:RM.Rz s.st s.ws s.cs
 fz:PM.Fz (msk s) p
 pc:s.cs.length=p.length
 ml:(msk s).length=s.ws.length
 wl:s.ws.length≤128
 p1:1≤p.length
 p8:p.length≤8
 fr:∀x∈p.flatten,0≤x∧x<s.ws.length
 af:∀r∈s.cs,r.2≤1000000
theorem fsb_fs{s:Sn}{p:List (List Int)}(hf:fsb s p=true):Fs s p:=by
 have hf3:rgt s=true∧p.length=s.cs.length∧PM.feas (msk s) p=true:=by unfold fsb at hf;simp[Bool.and_eq_true]at hf;exact⟨hf.1.1,hf.1.2,hf.2⟩
 obtain⟨n,hrs⟩:=rgt_rs hf3.1;have h1:=hrs.cl;have h2:=hrs.n8;have h3:=hrs.n1;have h4:=hf3.2.1;refine⟨hf3.1,rgt_rz hf3.1,PM.feas_iff.1 hf3.2.2,hf3.2.1.symm,hrs.mm.len,hrs.wl,by omega,by omega,fun x hx=> ?_,rgt_after hf3.1⟩;have:=RM.fz_range (PM.feas_iff.1 hf3.2.2) x hx;rw[show(msk s).length=s.ws.length from hrs.mm.len]at this;exact this
theorem Fs.sum{s:Sn}{p:List (List Int)}(h:Fs s p):(RM.wts s.st s.ws s.cs p).sum=RM.cst s.st s.ws s.cs p:=RM.wts_sum h.fz h.ml h.pc
theorem Fs.bd{s:Sn}{p:List (List Int)}(h:Fs s p)(hl:∀l∈p,l.length≤1000):∀t∈RM.wts s.st s.ws s.cs p,0≤t∧t≤80000000:=RM.wts_bd h.rz h.fr h.af hl
theorem Fs.cost{s:Sn}{p:List (List Int)}(h:Fs s p)(hl:∀l∈p,l.length≤1000):0≤RM.cst s.st s.ws s.cs p∧RM.cst s.st s.ws s.cs p≤10240000000:=by
 have h1:=RM.sum_bd (h.bd hl);rw[h.sum,RM.wts_length]at h1;have:=h.wl;omega
def TB(W:World)(b:Nat)(a:RM.Sp):Prop:=W.heap[b]?=some (.cells #[.int .i64 a.fl,.int .i64 a.he,.int .i64 a.le] 220 (0,0))
section
variable {W W':World} {b:Nat} {a:RM.Sp}
theorem TB.lt(H:TB W b a):b<W.heap.size:=(Array.getElem?_eq_some_iff.1 H).1
theorem TB.c0(H:TB W b a):W.cell? ⟨b,0,none⟩=some (.int .i64 a.fl):=by simp[World.cell?,show W.heap[b]?=_ from H]
theorem TB.c1(H:TB W b a):W.cell? ⟨b,1,none⟩=some (.int .i64 a.he):=by simp[World.cell?,show W.heap[b]?=_ from H]
theorem TB.c2(H:TB W b a):W.cell? ⟨b,2,none⟩=some (.int .i64 a.le):=by simp[World.cell?,show W.heap[b]?=_ from H]
theorem TB.below'(H:TB W b a)(hb:Below W.heap.size W W'):TB W' b a:=(hb.block b H.lt).trans H
theorem TB.kp{G:Nat→Prop}(H:TB W b a)(k:Kp G W W')(hG:¬G b):TB W' b a:=(k.block b H.lt hG).trans H
theorem TB.new(W:World)(a:RM.Sp):TB (W.alloc (.cells #[.int .i64 a.fl,.int .i64 a.he,.int .i64 a.le] 220)) W.heap.size a:=World.alloc_heap_new W _
end
theorem infoT:(Tryz.prog.info? 220).map (·.size)=some 3:=by kernel_rfl
theorem kp_row(b:Nat)(w:World)(cs:Array Value):Kp (fun k=>k=b) w (w.setRow b cs):=by
 have h:Below 0 w (w.setRow b cs):=below_setRow (Below.refl 0 w) (Nat.zero_le _) cs;exact⟨h.os,h.tape,h.output,h.size,fun k _ hk=>setRow_other w b k cs hk⟩
theorem wpList_storeT{ops:Array Oper}{rest:List Oper}{op:Oper}{a:Act}{w:World}{Q:Exit→Act→World→Prop}(hgd:op.guard=none)(x y:Operand)(ho:op.op=.store 220 x y)
  (b:Nat) {s:RM.Sp} {f h l:Int} (hx:a.eval x=.pointer (some ⟨b,0,none⟩)) (hy:a.eval y=.agg #[.int .i64 f,.int .i64 h,.int .i64 l]) (hL:TB w b s)
  (hn:∀W',Kp (fun k=>k=b) w W'→TB W' b ⟨f,h,l⟩→wpList Tryz.prog ops Q rest (a.put op.dst undef) W'):wpList Tryz.prog ops Q (op::rest) a w:=
 wpList_store_row hgd 220 x y ho b _ hx hy _ _ hL infoT rfl (by simp[Value.oneCell']) (hn _ (kp_row b w _) (setRow_heap w b _ _ _ _ hL))
theorem loadT(w:World)(b:Nat)(a:RM.Sp)(h:TB w b a):(Instr.loadAt 220 (.pointer (some ⟨b,0,none⟩))).run Tryz.prog w=.ok (.agg #[.int .i64 a.fl,.int .i64 a.he,.int .i64 a.le]) w:=by
 simp only[Instr.loadAt,Instr.sureAddr,Sem.run_bind,Sem.run_pure,Result.andThen_ok,run_loadVar_row (P:=Tryz.prog) w b 220 220 _ _ _ h Tryz.underlying220 rfl infoT]
theorem quiet_load23r{C:World→Prop}{K:Act→Prop}{o:Oper}{a:Act}(x:Operand)(b:Nat)(s:St)(ho:o.op=.load 23 x)(hx:a.eval x=.pointer (some ⟨b,0,none⟩))(hr:∀w,C w→SB w b s)
  (h:K (a.put o.dst (.agg (sv s).toArray))):o.quiet Tryz.prog a C K:=
 quiet_val _ (fun w hw=>by unfold execOp;simp only[ho,hx,Sem.run_bind,Sem.run_pure,Result.andThen_ok,load23 w b s (hr w hw).range]) h
theorem retT{fn:Func}{t:Tmp}(hf:fn.results= #[.cell t 220]){tmps:Array Value}{w:World}{b:Nat}{a:RM.Sp}(hp:tmps.getD t undef=.pointer (some ⟨b,0,none⟩))(hC:TB w b a):
  (results fn tmps).run Tryz.prog w=.ok (.agg #[.int .i64 a.fl,.int .i64 a.he,.int .i64 a.le]) w:=
 results_cell_row hf tmps w b _ _ _ _ hp hC Tryz.underlying220 rfl infoT
theorem begin_any(f a:Int)(w:World):Calls Tryz.prog 140 #[.agg #[.int .i64 f,.int .i64 a]] w fun e w'=>e=.returned (.agg #[.int .i64 f,.int .i64 (-1),.int .i64 a])∧Below w.heap.size w w':=by
 have HT:=Hd (TB.new (w.alloc (.cells #[.int .i64 f,.int .i64 a] 178)) ⟨0,0,0⟩);have HB:=Hd (((Below.refl w.heap.size w).alloc (Nat.le_refl _) (.cells #[.int .i64 f,.int .i64 a] 178)).alloc (by simp) (.cells #[.int .i64 0,.int .i64 0,.int .i64 0] 220))
 go_enter Tryz.func140,Tryz.ntmps140
 go_wp2_with (refine wpList_storeT rfl _ _ rfl (w.heap.size+1) rfl rfl (by simpa using HT.out) ?_)
 intro W1 hk1 ht1;go_wp2;refine bodyPost_ret (retT Tryz.results140 rfl ht1) rfl ⟨rfl,hk1.below HB.out (by simp;omega) (fun i hi e=>by omega)⟩
structure Nz(w W:World)(s:St)(fl he le:Int):Prop where
 sb:SB W w.heap.size s
 tb:TB W (w.heap.size+1) ⟨fl,he,le⟩
 rb:TB W (w.heap.size+1+1) ⟨0,0,0⟩
 bel:Below w.heap.size w W
theorem Nz.new(w:World)(s:St)(fl he le:Int):Nz w (((w.alloc (.cells (sv s).toArray 23)).alloc (.cells #[.int .i64 fl,.int .i64 he,.int .i64 le] 220)).alloc (.cells #[.int .i64 0,.int .i64 0,.int .i64 0] 220)) s fl he le:=by
 have b1:=(((Below.refl (w.heap.size+1) (w.alloc (.cells (sv s).toArray 23))).alloc (by simp) (.cells #[.int .i64 fl,.int .i64 he,.int .i64 le] 220))).alloc (by simp) (.cells #[.int .i64 0,.int .i64 0,.int .i64 0] 220);have b2:=(Below.refl (w.heap.size+2) ((w.alloc (.cells (sv s).toArray 23)).alloc (.cells #[.int .i64 fl,.int .i64 he,.int .i64 le] 220))).alloc (by simp) (.cells #[.int .i64 0,.int .i64 0,.int .i64 0] 220);have h2:=(TB.new (w.alloc (.cells (sv s).toArray 23)) ⟨fl,he,le⟩).below' (by simpa using b2);have h3:=TB.new ((w.alloc (.cells (sv s).toArray 23)).alloc (.cells #[.int .i64 fl,.int .i64 he,.int .i64 le] 220)) ⟨0,0,0⟩;simp only[World.size_alloc]at h2 h3;exact⟨(SB.new w s).below' (by simpa using b1),h2,h3,(((Below.refl w.heap.size w).alloc (Nat.le_refl _) _).alloc (by simp) _).alloc (by simp;omega) _⟩
theorem Nz.next{w W W':World}{s:St}{fl he le:Int}(h:Nz w W s fl he le)(hb:Below W.heap.size W W'):Nz w W' s fl he le:=⟨h.sb.below' hb,h.tb.below' hb,h.rb.below' hb,below_class h.bel hb⟩
theorem next_same(s:St)(f he le:Int)(hh:he≠ -1)(w:World):Calls Tryz.prog 180 #[.agg (sv s).toArray,.agg #[.int .i64 f,.int .i64 he,.int .i64 le],.int .i64 f] w fun e w'=>e=.returned (.agg #[.int .i64 f,.int .i64 he,.int .i64 le])∧Below w.heap.size w w':=by
 have HZ:=Hd (Nz.new w s f he le);have c0:=HZ.out.tb.c0;have c1:=HZ.out.tb.c1;have c2:=HZ.out.tb.c2;have q1:(he != -1)=true:=by simpa using hh
 clear hh
 go_enter Tryz.func180,Tryz.ntmps180
 go_wp2_with (refine wpList_storeT rfl _ _ rfl (w.heap.size+1+1) rfl rfl HZ.out.rb ?_)
 intro W1 hk1 ht1;have HK:=Hd (And.intro hk1 ht1);clear hk1 ht1 c0 c1 c2;go_wp2;exact bodyPost_ret (retT Tryz.results180 rfl HK.out.2) rfl ⟨rfl,HK.out.1.below HZ.out.bel HZ.out.bel.size (fun i hi e=>by omega)⟩
theorem next_first(s:St)(fl le f tr T L:Int)(HTV:Hid (∀w',Calls Tryz.prog 90 #[.agg (sv s).toArray,.int .i64 fl,.int .i64 f] w' fun e w''=>e=.returned (.int .i64 tr)∧Below w'.heap.size w' w''))(HAD:Hid (∀w',Calls Tryz.prog 94 #[.int .i64 le,.int .i64 tr] w' fun e w''=>e=.returned (.int .i64 T)∧Below w'.heap.size w' w''))(HSU:Hid (∀(W:World) n,W.heap[n]?=some (.cells #[.int .i64 T,.int .i64 s.opn,.int .i64 s.wai,.int .i64 s.clo,.int .i64 2] 3)→Calls Tryz.prog 123 #[.slice (some ⟨n,0,none⟩) 5 5] W fun e w'=>e=.returned (.int .i64 L)∧w'=W))(w:World):Calls Tryz.prog 180 #[.agg (sv s).toArray,.agg #[.int .i64 fl,.int .i64 (-1),.int .i64 le],.int .i64 f] w fun e w'=>e=.returned (.agg #[.int .i64 f,.int .i64 T,.int .i64 L])∧Below w.heap.size w w':=by
 have HZ:=Hd (Nz.new w s fl (-1) le);have c0:=HZ.out.tb.c0;have c1:=HZ.out.tb.c1
 go_enter Tryz.func180,Tryz.ntmps180
 go_wp2_with fail
 clear c0 c1;generalize (((w.alloc (.cells (sv s).toArray 23)).alloc (.cells #[.int .i64 fl,.int .i64 (-1),.int .i64 le] 220)).alloc (.cells #[.int .i64 0,.int .i64 0,.int .i64 0] 220))=W1 at HZ⊢;have HA0:Hid (∀w',Below W1.heap.size W1 w'→w'.cell? ⟨w.heap.size+1,0,none⟩=some (.int .i64 fl)):=fun w' hw=>(HZ.out.next hw).tb.c0;have HA2:Hid (∀w',Below W1.heap.size W1 w'→w'.cell? ⟨w.heap.size+1,2,none⟩=some (.int .i64 le)):=fun w' hw=>(HZ.out.next hw).tb.c2;have HSB:Hid (∀w',Below W1.heap.size W1 w'→SB w' w.heap.size s):=fun w' hw=>(HZ.out.next hw).sb;have HTW:Hid (∀w',Below W1.heap.size W1 w'→Calls Tryz.prog 90 #[.agg (sv s).toArray,.int .i64 fl,.int .i64 f] w' fun e w''=>e=.returned (.int .i64 tr)∧Below w'.heap.size w' w''):=fun w' _=>HTV.out w';have HAW:Hid (∀w',Below W1.heap.size W1 w'→Calls Tryz.prog 94 #[.int .i64 le,.int .i64 tr] w' fun e w''=>e=.returned (.int .i64 T)∧Below w'.heap.size w' w''):=fun w' _=>HAD.out w';refine wp_region_quiet (C:=fun w'=>Below W1.heap.size W1 w') (by kernel_rfl) (by kernel_rfl) ((Below.refl _ _).drew) ?_;simp only[];unfold wpQuiet;generalize hK:wpQuiet _ _ _ _ _=K;go_simp;refine⟨_,fun _ _=>rfl,?_⟩;subst hK;unfold wpQuiet;generalize hK:wpQuiet _ _ _ _ _=K;rw[if_pos (by go_simp)];refine quiet_load3 _ _ _ rfl rfl HA2.out ?_;go_simp;subst hK;unfold wpQuiet;generalize hK:wpQuiet _ _ _ _ _=K;rw[if_pos (by go_simp)];refine quiet_load23r _ w.heap.size s rfl rfl HSB.out ?_;go_simp;subst hK;unfold wpQuiet;generalize hK:wpQuiet _ _ _ _ _=K;go_simp;refine⟨_,fun _ _=>rfl,?_⟩;subst hK;unfold wpQuiet;generalize hK:wpQuiet _ _ _ _ _=K;rw[if_pos (by go_simp)];refine quiet_load3 _ _ _ rfl rfl HA0.out ?_;go_simp;subst hK;unfold wpQuiet;generalize hK:wpQuiet _ _ _ _ _=K;go_simp;refine⟨_,fun _ _=>rfl,?_⟩;subst hK;unfold wpQuiet;generalize hK:wpQuiet _ _ _ _ _=K;go_simp;refine⟨_,fun w' hw=>(HTW.out w' hw).mono fun e w'' hh=>⟨hh.1,below_class hw hh.2⟩,?_⟩;subst hK;unfold wpQuiet;generalize hK:wpQuiet _ _ _ _ _=K;go_simp;refine⟨_,fun w' hw=>(HAW.out w' hw).mono fun e w'' hh=>⟨hh.1,below_class hw hh.2⟩,?_⟩;subst hK;unfold wpQuiet;generalize hK:wpQuiet _ _ _ _ _=K;go_simp;refine⟨_,fun _ _=>rfl,?_⟩;subst hK;refine wpQuiet_nil ?_;intro W2 hb2;have HZ2:=Hd (HZ.out.next hb2);have s5:W2.cell? ⟨w.heap.size,5,none⟩=some (.int .i64 s.opn):=HZ2.out.sb.cell 5;have s6:W2.cell? ⟨w.heap.size,6,none⟩=some (.int .i64 s.wai):=HZ2.out.sb.cell 6;have s7:W2.cell? ⟨w.heap.size,7,none⟩=some (.int .i64 s.clo):=HZ2.out.sb.cell 7;have HRB:=Hd ((HZ2.out.next ((Below.refl W2.heap.size W2).alloc (Nat.le_refl _) (.cells #[.int .i64 T,.int .i64 s.opn,.int .i64 s.wai,.int .i64 s.clo,.int .i64 2] 3))));clear hb2 HA0 HA2 HSB HTV HAD HZ HZ2 HTW HAW
 go_wp2_with (first|(go_at_call 123;refine (HSU.out _ _ (new_at _ _ _ rfl)).mono ?_;rintro e w' ⟨rfl,rfl⟩)|(refine wpList_storeT rfl _ _ rfl (w.heap.size+1+1) rfl rfl HRB.out.rb ?_))
 intro W3 hk3 ht3;have HK:=Hd (And.intro hk3 ht3);clear hk3 ht3 s5 s6 s7;go_wp2;exact bodyPost_ret (retT Tryz.results180 rfl HK.out.2) rfl ⟨rfl,HK.out.1.below HRB.out.bel HRB.out.bel.size (fun i hi e=>by omega)⟩
theorem next_far(s:St)(fl he le f tr T L:Int)(q1:(he != -1)=true)(q2:(fl==f)=false)(HTV:Hid (∀w',Calls Tryz.prog 90 #[.agg (sv s).toArray,.int .i64 fl,.int .i64 f] w' fun e w''=>e=.returned (.int .i64 tr)∧Below w'.heap.size w' w''))(HAD:Hid (∀w',Calls Tryz.prog 94 #[.int .i64 le,.int .i64 tr] w' fun e w''=>e=.returned (.int .i64 T)∧Below w'.heap.size w' w''))(HSU:Hid (∀(W:World) n,W.heap[n]?=some (.cells #[.int .i64 T,.int .i64 s.opn,.int .i64 s.wai,.int .i64 s.clo,.int .i64 2] 3)→Calls Tryz.prog 123 #[.slice (some ⟨n,0,none⟩) 5 5] W fun e w'=>e=.returned (.int .i64 L)∧w'=W))(w:World):Calls Tryz.prog 180 #[.agg (sv s).toArray,.agg #[.int .i64 fl,.int .i64 he,.int .i64 le],.int .i64 f] w fun e w'=>e=.returned (.agg #[.int .i64 f,.int .i64 T,.int .i64 L])∧Below w.heap.size w w':=by
 have HZ:=Hd (Nz.new w s fl he le);have c0:=HZ.out.tb.c0;have c1:=HZ.out.tb.c1
 go_enter Tryz.func180,Tryz.ntmps180
 go_wp2_with fail
 clear c0 c1;generalize (((w.alloc (.cells (sv s).toArray 23)).alloc (.cells #[.int .i64 fl,.int .i64 he,.int .i64 le] 220)).alloc (.cells #[.int .i64 0,.int .i64 0,.int .i64 0] 220))=W1 at HZ⊢;have HA0:Hid (∀w',Below W1.heap.size W1 w'→w'.cell? ⟨w.heap.size+1,0,none⟩=some (.int .i64 fl)):=fun w' hw=>(HZ.out.next hw).tb.c0;have HA2:Hid (∀w',Below W1.heap.size W1 w'→w'.cell? ⟨w.heap.size+1,2,none⟩=some (.int .i64 le)):=fun w' hw=>(HZ.out.next hw).tb.c2;have HSB:Hid (∀w',Below W1.heap.size W1 w'→SB w' w.heap.size s):=fun w' hw=>(HZ.out.next hw).sb;have HTW:Hid (∀w',Below W1.heap.size W1 w'→Calls Tryz.prog 90 #[.agg (sv s).toArray,.int .i64 fl,.int .i64 f] w' fun e w''=>e=.returned (.int .i64 tr)∧Below w'.heap.size w' w''):=fun w' _=>HTV.out w';have HAW:Hid (∀w',Below W1.heap.size W1 w'→Calls Tryz.prog 94 #[.int .i64 le,.int .i64 tr] w' fun e w''=>e=.returned (.int .i64 T)∧Below w'.heap.size w' w''):=fun w' _=>HAD.out w';refine wp_region_quiet (C:=fun w'=>Below W1.heap.size W1 w') (by kernel_rfl) (by kernel_rfl) ((Below.refl _ _).drew) ?_;simp only[];unfold wpQuiet;generalize hK:wpQuiet _ _ _ _ _=K;go_simp;refine⟨_,fun _ _=>rfl,?_⟩;subst hK;unfold wpQuiet;generalize hK:wpQuiet _ _ _ _ _=K;rw[if_pos (by go_simp)];refine quiet_load3 _ _ _ rfl rfl HA2.out ?_;go_simp;subst hK;unfold wpQuiet;generalize hK:wpQuiet _ _ _ _ _=K;rw[if_pos (by go_simp)];refine quiet_load23r _ w.heap.size s rfl rfl HSB.out ?_;go_simp;subst hK;unfold wpQuiet;generalize hK:wpQuiet _ _ _ _ _=K;go_simp;refine⟨_,fun _ _=>rfl,?_⟩;subst hK;unfold wpQuiet;generalize hK:wpQuiet _ _ _ _ _=K;rw[if_pos (by go_simp)];refine quiet_load3 _ _ _ rfl rfl HA0.out ?_;go_simp;subst hK;unfold wpQuiet;generalize hK:wpQuiet _ _ _ _ _=K;go_simp;refine⟨_,fun _ _=>rfl,?_⟩;subst hK;unfold wpQuiet;generalize hK:wpQuiet _ _ _ _ _=K;go_simp;refine⟨_,fun w' hw=>(HTW.out w' hw).mono fun e w'' hh=>⟨hh.1,below_class hw hh.2⟩,?_⟩;subst hK;unfold wpQuiet;generalize hK:wpQuiet _ _ _ _ _=K;go_simp;refine⟨_,fun w' hw=>(HAW.out w' hw).mono fun e w'' hh=>⟨hh.1,below_class hw hh.2⟩,?_⟩;subst hK;unfold wpQuiet;generalize hK:wpQuiet _ _ _ _ _=K;go_simp;refine⟨_,fun _ _=>rfl,?_⟩;subst hK;refine wpQuiet_nil ?_;intro W2 hb2;have HZ2:=Hd (HZ.out.next hb2);have s5:W2.cell? ⟨w.heap.size,5,none⟩=some (.int .i64 s.opn):=HZ2.out.sb.cell 5;have s6:W2.cell? ⟨w.heap.size,6,none⟩=some (.int .i64 s.wai):=HZ2.out.sb.cell 6;have s7:W2.cell? ⟨w.heap.size,7,none⟩=some (.int .i64 s.clo):=HZ2.out.sb.cell 7;have HRB:=Hd ((HZ2.out.next ((Below.refl W2.heap.size W2).alloc (Nat.le_refl _) (.cells #[.int .i64 T,.int .i64 s.opn,.int .i64 s.wai,.int .i64 s.clo,.int .i64 2] 3))));clear hb2 HA0 HA2 HSB HTV HAD HZ HZ2 HTW HAW
 go_wp2_with (first|(go_at_call 123;refine (HSU.out _ _ (new_at _ _ _ rfl)).mono ?_;rintro e w' ⟨rfl,rfl⟩)|(refine wpList_storeT rfl _ _ rfl (w.heap.size+1+1) rfl rfl HRB.out.rb ?_))
 intro W3 hk3 ht3;have HK:=Hd (And.intro hk3 ht3);clear hk3 ht3 s5 s6 s7;go_wp2;exact bodyPost_ret (retT Tryz.results180 rfl HK.out.2) rfl ⟨rfl,HK.out.1.below HRB.out.bel HRB.out.bel.size (fun i hi e=>by omega)⟩
theorem next_new(s:St)(r:SM.Rt s)(fl he le f:Int)(hh:he= -1∨fl≠f)(h0:0≤le)(h1:le≤100000000)(w:World):Calls Tryz.prog 180 #[.agg (sv s).toArray,.agg #[.int .i64 fl,.int .i64 he,.int .i64 le],.int .i64 f] w fun e w'=>e=.returned (.agg #[.int .i64 f,.int .i64 (le+SM.trav s fl f),.int .i64 (le+SM.trav s fl f+RM.dw s)])∧Below w.heap.size w w':=by
 have ht:=SM.trav_bd r fl f;have g1:∀w',Calls Tryz.prog 90 #[.agg (sv s).toArray,.int .i64 fl,.int .i64 f] w' fun e w''=>e=.returned (.int .i64 (SM.trav s fl f))∧Below w'.heap.size w' w'':=fun w'=>travel_any s r fl f w';generalize SM.trav s fl f=tr at ht g1⊢
 have g2:∀w',Calls Tryz.prog 94 #[.int .i64 le,.int .i64 tr] w' fun e w''=>e=.returned (.int .i64 (le+tr))∧Below w'.heap.size w' w'':=fun w'=>(add_any le tr w').mono fun e w'' hh=>by
  obtain⟨he,rfl⟩:=hh;refine⟨?_,Below.refl _ _⟩;rw[he,SM.addC h0 ht.1 (by omega)]
 generalize hT:le+tr=T at g2⊢
 have hs:NumM.sumL [T,s.opn,s.wai,s.clo,2]=T+RM.dw s:=by
  have:=r.opn1;have:=r.opn2;have:=r.wai1;have:=r.wai2;have:=r.clo1;have:=r.clo2;rw[show[T,s.opn,s.wai,s.clo,2]=[T,s.opn,s.wai,s.clo]++[2]from rfl,NumM.sumL_snoc,SM.sumL4 (by omega) (by omega) (by omega) (by omega) (by omega),SM.addC (by omega) (by omega) (by omega)];unfold RM.dw;omega
 have g3:∀(W:World) n,W.heap[n]?=some (.cells #[.int .i64 T,.int .i64 s.opn,.int .i64 s.wai,.int .i64 s.clo,.int .i64 2] 3)→Calls Tryz.prog 123 #[.slice (some ⟨n,0,none⟩) 5 5] W fun e w'=>e=.returned (.int .i64 (T+RM.dw s))∧w'=W:=fun W n hn=>by
  rw[←hs];exact sum_row W n [T,s.opn,s.wai,s.clo,2] 5 5 rfl (by omega) hn
 by_cases e:he= -1
 ·subst e;exact next_first s fl le f tr T _ g1 g2 g3 w
 ·exact next_far s fl he le f tr T _ (by simpa using e) (by simpa using hh.resolve_left e) g1 g2 g3 w
theorem next_any(s:St)(r:SM.Rt s)(a:RM.Sp)(ok:RM.Ok s a)(hle:a.le≤100000000)(f:Int)(_h0:0≤f)(_h1:f<s.fl)(w:World):Calls Tryz.prog 180 #[.agg (sv s).toArray,.agg #[.int .i64 a.fl,.int .i64 a.he,.int .i64 a.le],.int .i64 f] w fun e w'=>e=.returned (.agg #[.int .i64 f,.int .i64 (RM.ar s a f),.int .i64 (RM.ar s a f+RM.dw s)])∧Below w.heap.size w w':=by
 by_cases h:a.he≠ -1∧a.fl=f
 ·have e1:RM.ar s a f=a.he:=by unfold RM.ar;rw[if_pos h]
  have e2:a.he+RM.dw s=a.le:=((ok.hh.resolve_left h.1).2).symm;rw[e1,e2,←h.2];exact next_same s a.fl a.he a.le h.1 w
 ·have e1:RM.ar s a f=a.le+SM.trav s a.fl f:=by unfold RM.ar;rw[if_neg h]
  rw[e1];refine next_new s r a.fl a.he a.le f ?_ ok.l0 hle w;by_cases e:a.he= -1
  ·exact .inl e
  ·exact .inr fun g=>h ⟨e,g⟩
theorem RI.cut{D:Nat→Prop}{W:World}{a:Option Addr}{n cap j:Nat}{l:List Int}(h:RI D W (.slice a n cap) l)(hj:j≤l.length):RI D W (.slice a j cap) (l.take j):=by
 obtain⟨a',c,e,h1,h2,h3⟩:=h;cases e;have hlen:(l.take j).length=j:=by rw[List.length_take];omega
 refine⟨_,_,by rw[hlen],by omega,h2,?_⟩;rcases h3 with h3|⟨g',o',e,hd,hlt,h4⟩
 ·left;rw[h3];simp
 ·cases e
  exact .inr ⟨g',o',rfl,hd,hlt,fun i x hx=>h4 i x (by
   rw[List.getElem?_take]at hx;split at hx
   ·exact hx
   ·cases hx)⟩
def restA(a:Option Addr)(cap j:Nat):Option Addr:=if cap=j then a else a.map fun x=>x.add j
theorem RI.rest{D:Nat→Prop}{W:World}{a:Option Addr}{n cap j:Nat}{l:List Int}(h:RI D W (.slice a n cap) l)(hj:j≤l.length):RI D W (.slice (restA a cap j) (n-j) (cap-j)) (l.drop j):=by
 obtain⟨a',c,e,h1,h2,h3⟩:=h;cases e;have hlen:(l.drop j).length=l.length-j:=List.length_drop
 refine⟨_,_,by rw[hlen],by omega,fun e=>by
  unfold restA at e;split at e
  ·omega
  ·cases a with
   |none=>have:=h2 rfl;omega
   |some x=>simp at e,?_⟩
 by_cases hcj:cap=j
 ·left;rw[List.drop_eq_nil_iff];omega
 ·rcases h3 with h3|⟨g',o',e,hd,hlt,h4⟩
  ·left;rw[h3];simp
  ·cases e;refine .inr ⟨g',o'+j,by unfold restA;rw[if_neg hcj,Option.map_some,Addr.add_mid],hd,hlt,fun i x hx=> ?_⟩;rw[List.getElem?_drop]at hx;rw[Nat.add_assoc];exact h4 (j+i) x hx
def Stb{β:Type}(J:β→(Nat→Prop)→World→Prop):Prop:=∀s F F' W W',J s F W→Kp F W W'→(∀k,F' k→F k∨(W.heap.size≤k∧k<W'.heap.size))→J s F' W'
structure Kept(F:Nat→Prop)(W W':World):Prop where
 size:W.heap.size≤W'.heap.size
 same:∀k,k<W.heap.size→F k→W'.heap[k]?=W.heap[k]?
theorem Kept.refl(F:Nat→Prop)(W:World):Kept F W W:=⟨Nat.le_refl _,fun _ _ _=>rfl⟩
theorem Kept.trans{F:Nat→Prop}{A B C:World}(h:Kept F A B)(k:Kept F B C):Kept F A C:=⟨Nat.le_trans h.size k.size,fun i hi hf=>(k.same i (Nat.lt_of_lt_of_le hi h.size) hf).trans (h.same i hi hf)⟩
theorem Kept.mono{F G:Nat→Prop}{A B:World}(h:Kept F A B)(hg:∀k,k<A.heap.size→G k→F k):Kept G A B:=⟨h.size,fun i hi hf=>h.same i hi (hg i hi hf)⟩
theorem Kept.ofKp{F G:Nat→Prop}{A B:World}(h:Kp G A B)(hf:∀k,k<A.heap.size→F k→¬G k):Kept F A B:=⟨h.size,fun i hi hF=>h.block i hi (hf i hi hF)⟩
theorem Kept.ofBelow{F:Nat→Prop}{A B:World}(h:Below A.heap.size A B):Kept F A B:=⟨h.size,fun i hi _=>h.block i hi⟩
theorem YieldAt.deep{m:Nat}(m':Nat){P:Program}{l:Nat}{args:Array Value}{W:World}{R:Ending→World→Prop}(h:YieldAt Fence.wide m P l args W R):YieldAt Fence.wide m' P l args W R:=by
 obtain⟨fn,tmps,assign,body,hy,hR⟩:=h;exact⟨fn,tmps,assign,body,hy,hR.1,fun c cs _=>hR.2 c cs (room_wide _)⟩
def SeqF{α:Type}(P:Program)(g:Nat)(lb:Array Value)(Enc:α→(Nat→Prop)→World→Array Value→Prop)(F0 G:Nat→Prop)(S Sp:List α→Prop)(w:World):Prop:=
 ∀(n l:Nat) (J Jx:List α→(Nat→Prop)→World→Prop) (W:World),Below w.heap.size w W→Stb J→Stb Jx→
  (∀m pre x F W1 args,J pre F W1→Enc x F W1 args→YieldAt Fence.wide m P l args W1 fun e W'=>
   (e=.returned (.bool true)∧J (pre++[x]) F W'∧Kept (fun k=>F k∨G k) W1 W')∨(e=.returned (.bool false)∧Jx (pre++[x]) F W'∧Kept F W1 W'))→
  J [] F0 W→
  CallsIn Fence.wide n P g (#[.func (.yield l) #[] #[]]++lb) W fun e W'=>(∃v,e=.returned v)∧((∃xs F,S xs∧J xs F W')∨(∃pre F,Sp pre∧Jx pre F W'))
def postF{α:Type}(G:Nat→Prop)(I:List α→(Nat→Prop)→World→Prop)(Ix:Code→List α→(Nat→Prop)→World→Prop)(xs:List α)(F:Nat→Prop)(W:World):Exit→Act→World→Prop
 |.normal,_,W'=>Kept (fun k=>F k∨G k) W W'∧I xs F W'
 |.ret,_,W'=>Kept F W W'∧Ix .ret xs F W'
 |.exit id,_,W'=>Kept F W W'∧Ix (.exit id) xs F W'
 |.goto t,_,W'=>Kept F W W'∧Ix (.goto t) xs F W'
 |.panic _,_,_=>False
 |.outgrown,_,_=>False
theorem Stb.put{β:Type}{J:β→(Nat→Prop)→World→Prop}(h:Stb J){s:β}{F:Nat→Prop}{W:World}(l:Nat)(o:Obj)(hj:J s F W)(hl:F l):J s F (W.putObj l o):=
 h s F F W _ hj ((Kp.refl F W).put l o (fun _=>hl)) (fun _ h=>.inl h)
end Go.Proofs.YtlajleogofmkcaaGreat
