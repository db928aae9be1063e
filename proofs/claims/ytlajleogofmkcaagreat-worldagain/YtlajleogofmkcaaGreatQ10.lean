import Derived.Test.YtlajleogofmkcaaGreatQ6
import Derived.OrdersHeld
import Derived.Deep.Cut
set_option maxHeartbeats 8000000
set_option maxRecDepth 100000
namespace Go.Proofs.YtlajleogofmkcaaGreat
def ckd(s:Sn)(go:Nat→List (List Int)→List Bool→List Nat→Option (List Nat))(k:Nat)(b:List (List Int))(st:List Bool)(l:List Int)(x:Option (List Nat)):Option (List Nat):=
 l.foldl (fun y w=>if mayk s k w=true then y.bind (go k (PM.add b k w) (st.set w.toNat true))else y) x
def cnx(go:Nat→List (List Int)→List Bool→List Nat→Option (List Nat))(k:Nat)(b:List (List Int))(st:List Bool)(x:Option (List Nat)):Option (List Nat):=if k+1<b.length then x.bind (go (k+1) b st)else x
def cvs(s:Sn)(c:Int)(go:Nat→List (List Int)→List Bool→List Nat→Option (List Nat))(k:Nat)(b:List (List Int))(st:List Bool):List Nat→Option (List Nat)
 |[]=>none
 |m::r=>
  if 2<m∨(m=1∧lfs s st=[])∨(m=2∧lfs s st≠[])then none
  else if m≠1 then(if c≤lsv s k b st then some r else none)
  else cnx go k b st (ckd s go k b st (lfs s st) (some r))
def cvi(s:Sn)(c:Int):Nat→Nat→List (List Int)→List Bool→List Nat→Option (List Nat)
 |0,_,_,_,_=>none
 |f+1,k,b,st,r=>cvs s c (cvi s c f) k b st r
section
variable {s:Sn} {c:Int} {k:Nat} {b:List (List Int)} {st:List Bool}
theorem cvs_cons(go:Nat→List (List Int)→List Bool→List Nat→Option (List Nat))(m:Nat)(r:List Nat):cvs s c go k b st (m::r)=if 2<m∨(m=1∧lfs s st=[])∨(m=2∧lfs s st≠[])then none
  else if m≠1 then(if c≤lsv s k b st then some r else none)
  else cnx go k b st (ckd s go k b st (lfs s st) (some r)):=rfl
def Lft(x y:List Nat):Prop:=∃m,x=m++y
theorem Lft.refl(x:List Nat):Lft x x:=⟨[],rfl⟩
theorem Lft.trans{x y z:List Nat}(h:Lft x y)(g:Lft y z):Lft x z:=by
 obtain⟨m,rfl⟩:=h;obtain⟨n,rfl⟩:=g;exact⟨m++n,by rw[List.append_assoc]⟩
end
section
variable {s:Sn} {n:Nn}
def wys(s:Sn)(n:Nn):List RM.Sp:=asp s s.cs n.b
theorem wys_nd0(s:Sn):wys s (nd0 s)=s.cs.map RM.bg:=asp_empty (by simp[nd0]) fun l hl=>List.eq_of_mem_replicate hl
end
section
variable {s:Sn} {p:List (List Int)}
theorem cut_next{k:Nat}{l:List Int}(hk:k+1<p.length)(hl:p[k]?=some l):cutp p k l.length=cutp p (k+1) 0:=by
 have hlt:k<p.length:=by omega
 refine List.ext_getElem? fun c=> ?_;rcases Nat.lt_trichotomy c k with h|h|h
 ·rw[cutp_lo hlt h,cutp_lo hk (by omega)]
 ·subst h;rw[cutp_at hlt,cutp_lo hk (by omega),hl,Option.getD_some,List.take_length]
 ·by_cases hc:c<p.length
  ·rw[cutp_hi hlt h hc];by_cases e:c=k+1
   ·subst e;rw[cutp_at hk,List.take_zero]
   ·rw[cutp_hi hk (by omega) hc]
  ·rw[List.getElem?_eq_none (by rw[cutp_length _ hlt];omega),List.getElem?_eq_none (by rw[cutp_length _ hk];omega)]
theorem cut_zero(hp:0<p.length):cutp p 0 0=List.replicate p.length []:=by
 unfold cutp;rw[List.take_zero,List.take_zero,List.nil_append,←List.replicate_succ,show p.length-(0+1)+1=p.length by omega]
end
open Go.RowKit Go.Shelf
def wcs:List RM.Sp→List Value
 |[]=>[]
 |a::l=>.int .i64 a.fl::.int .i64 a.he::.int .i64 a.le::wcs l
theorem wcs_get:∀{l:List RM.Sp} {i:Nat} {a:RM.Sp},l[i]?=some a→(wcs l)[i*3]?=some (.int .i64 a.fl)∧(wcs l)[i*3+1]?=some (.int .i64 a.he)∧(wcs l)[i*3+2]?=some (.int .i64 a.le)
 |[],_,_,h=>by simp at h
 |x::l,0,a,h=>by simp at h;subst h;exact⟨rfl,rfl,rfl⟩
 |x::l,i+1,a,h=>by
  have:=wcs_get (l:=l) (i:=i) (a:=a) (by simpa using h);rw[show(i+1)*3=i*3+1+1+1 by omega];exact this
theorem wcs_set:∀(l:List RM.Sp) (i:Nat) (a:RM.Sp),(((wcs l).set (i*3) (.int .i64 a.fl)).set (i*3+1) (.int .i64 a.he)).set (i*3+2) (.int .i64 a.le)=wcs (l.set i a)
 |[],_,_=>by simp[wcs]
 |x::l,0,a=>rfl
 |x::l,i+1,a=>by
  rw[List.set_cons_succ,wcs,wcs,←wcs_set l i a,show(i+1)*3=i*3+1+1+1 by omega]
  rfl
def w0:RM.Sp:=⟨0,0,0⟩
theorem wcs_rep:∀(n:Nat),wcs (List.replicate n w0)=List.replicate (n*3) (.int .i64 0)
 |0=>rfl
 |n+1=>by rw[List.replicate_succ,wcs,wcs_rep n,show(n+1)*3=n*3+1+1+1 by omega];rfl
theorem infoV:(Tryz.prog.info? 311).map (·.size)=some 3:=by kernel_rfl
theorem infoVz:(Tryz.prog.info? 311).map (fun i=>(i.zero,i.size,i.bytes))=some (some (.agg #[.int .i64 0,.int .i64 0,.int .i64 0]),3,24):=by kernel_rfl
theorem mkV(n:Nat)(hn:n≤1000)(W:World):(Instr.makeSlice 284 (.int .i64 (n:Int)) (.int .i64 (n:Int))).run Tryz.prog W=.ok (.slice (some ⟨W.heap.size,0,none⟩) n n) (W.alloc (.cells (wcs (List.replicate n w0)).toArray 311)):=by
 obtain⟨i,hi,h1,h2,h3⟩:=info_parts infoVz
 have:=run_make (P:=Tryz.prog) W 284 311 i _ Tryz.underlying284 hi h1 .i64 .i64 (n:Int) (n:Int) (by omega) (by omega) (by
  have:(i.bytes:Int)*(n:Int)≤24*1000:=Int.mul_le_mul (by omega) (by omega) (by omega) (by omega)
  omega) (by omega)
 have e:madeCells (Value.agg #[.int .i64 0,.int .i64 0,.int .i64 0]).cells (n*3)=(wcs (List.replicate n w0)).toArray:=by
  rw[wcs_rep];apply Array.ext
  ·rw[size_madeCells];simp
  ·intro j h4 h5;have:j%3=0∨j%3=1∨j%3=2:=by omega
   simp only[madeCells,List.getElem_toArray,List.getElem_replicate,Array.getElem_map,Array.getElem_range,Value.cells];rcases this with e|e|e<;>simp[e]
 rw[this,h2,Int.toNat_natCast,e]
def WR(W:World)(g:Nat)(l:List RM.Sp):Prop:=W.heap[g]?=some (.cells (wcs l).toArray 311 (0,0))
section
variable {W W':World} {g:Nat} {l:List RM.Sp}
theorem WR.lt(h:WR W g l):g<W.heap.size:=(Array.getElem?_eq_some_iff.1 h).1
theorem WR.keep(h:WR W g l)(hk:W'.heap[g]?=W.heap[g]?):WR W' g l:=hk.trans h
theorem WR.below'(h:WR W g l)(hb:Below W.heap.size W W'):WR W' g l:=h.keep (hb.block g h.lt)
theorem WR.kp{G:Nat→Prop}(h:WR W g l)(k:Kp G W W')(hG:¬G g):WR W' g l:=h.keep (k.block g h.lt hG)
theorem WR.new(W:World)(l:List RM.Sp):WR (W.alloc (.cells (wcs l).toArray 311)) W.heap.size l:=World.alloc_heap_new W _
theorem WR.cells(h:WR W g l){i:Nat}{a:RM.Sp}(hi:l[i]?=some a):W.cell? ⟨g,i*3,none⟩=some (.int .i64 a.fl)∧W.cell? ⟨g,i*3+1,none⟩=some (.int .i64 a.he)∧W.cell? ⟨g,i*3+2,none⟩=some (.int .i64 a.le):=by
 obtain⟨h1,h2,h3⟩:=wcs_get hi;exact⟨(blk_cell h _).trans h1,(blk_cell h _).trans h2,(blk_cell h _).trans h3⟩
theorem WR.range(h:WR W g l){i:Nat}{a:RM.Sp}(hi:l[i]?=some a):W.rangeAt g (i*3) [.int .i64 a.fl,.int .i64 a.he,.int .i64 a.le]:=fun j v hv=>by
 obtain⟨h1,h2,h3⟩:=h.cells hi
 match j,hv with
 |0,hv=>cases hv;exact h1
 |1,hv=>cases hv;exact h2
 |2,hv=>cases hv;exact h3
 |j+3,hv=>simp at hv
theorem WR.put(h:WR W g l)(i:Nat)(a:RM.Sp):WR (((W.setCell ⟨g,i*3,none⟩ (.int .i64 a.fl)).setCell ⟨g,i*3+1,none⟩ (.int .i64 a.he)).setCell ⟨g,i*3+2,none⟩ (.int .i64 a.le)) g (l.set i a):=by
 have h1:W.heap[g]?=some (.cells (wcs l).toArray 311 (0,0)):=h;have:=blk_set (blk_set (blk_set h1 (i*3) (.int .i64 a.fl)) (i*3+1) (.int .i64 a.he)) (i*3+2) (.int .i64 a.le);rw[wcs_set]at this;exact this
end
theorem ixV(W:World){g n cap j:Nat}(hj:j<n):(Instr.indexAt 284 (.slice (some ⟨g,0,none⟩) n cap) (.int .i64 (j:Int))).run Tryz.prog W=.ok (.pointer (some ⟨g,j*3,none⟩)) W:=by
 rw[run_indexAt_slice W 284 _ n cap .i64 j (by kernel_rfl),if_pos ⟨by omega,by omega⟩,show Tryz.prog.elem 284=311 by kernel_rfl,Tryz.sizeOf311];simp only[Result.andThen_ok,Int.toNat_natCast,Addr.add_mid,Nat.zero_add]
section
variable {W0:World} {K:Act→Prop} {o:Oper} {a:Act}
end
theorem wpList_storeV{ops:Array Oper}{rest:List Oper}{op:Oper}{a:Act}{w:World}{Q:Exit→Act→World→Prop}(hgd:op.guard=none)(x y:Operand)(ho:op.op=.store 311 x y)
  (g i:Nat) (l:List RM.Sp) (hi:i<l.length) (z:RM.Sp) (hL:WR w g l) (hx:a.eval x=.pointer (some ⟨g,i*3,none⟩)) (hy:a.eval y=.agg #[.int .i64 z.fl,.int .i64 z.he,.int .i64 z.le])
  (hn:∀W',Kp (fun k=>k=g) w W'→WR W' g (l.set i z)→wpList Tryz.prog ops Q rest (a.put op.dst undef) W'):wpList Tryz.prog ops Q (op::rest) a w:=by
 obtain⟨b,hb⟩:∃b,l[i]?=some b:=⟨_,List.getElem?_eq_getElem hi⟩;obtain⟨h1,h2,h3⟩:=hL.cells hb;refine wpList_store_mid hgd 311 x y ho g (i*3) #[.int .i64 z.fl,.int .i64 z.he,.int .i64 z.le] hx hy (fun j hj=> ?_) infoV (by simp[Value.oneCell']) ?_
 ·refine⟨?_,blk_fr hL _⟩;have:j=0∨j=1∨j=2:=by simp at hj;omega
  rcases this with rfl|rfl|rfl
  ·rw[Nat.add_zero,h1];rfl
  ·rw[h2];rfl
  ·rw[h3];rfl
 ·exact hn _ ((((Kp.refl (fun k=>k=g) w).set g _ _ (fun _=>rfl)).set g _ _ (fun _=>rfl)).set g _ _ (fun _=>rfl)) (hL.put i z)
def VB(W:World)(b:Nat)(a:RM.Sp):Prop:=W.heap[b]?=some (.cells #[.int .i64 a.fl,.int .i64 a.he,.int .i64 a.le] 311 (0,0))
section
variable {W W':World} {b:Nat} {a:RM.Sp}
theorem VB.lt(H:VB W b a):b<W.heap.size:=(Array.getElem?_eq_some_iff.1 H).1
theorem VB.cell(H:VB W b a)(i:Nat):W.cell? ⟨b,i,none⟩=[Value.int .i64 a.fl,.int .i64 a.he,.int .i64 a.le][i]?:=blk_cell H i
theorem VB.below'(H:VB W b a)(hb:Below W.heap.size W W'):VB W' b a:=(hb.block b H.lt).trans H
theorem VB.new(W:World)(a:RM.Sp):VB (W.alloc (.cells #[.int .i64 a.fl,.int .i64 a.he,.int .i64 a.le] 311)) W.heap.size a:=World.alloc_heap_new W _
end
def knc(k:Int)(g n:Nat)(co lf:Int)(st:List Bool):List Value:=[.int .i64 k,.slice (some ⟨g,0,none⟩) n n,.int .i64 co,.int .i64 lf]++st.map Value.bool
theorem knc_length{st:List Bool}(h:st.length=128)(k:Int)(g n:Nat)(co lf:Int):(knc k g n co lf st).length=132:=by unfold knc;rw[List.length_append,List.length_map,h];rfl
theorem knc_one(k:Int)(g n:Nat)(co lf:Int)(st:List Bool):∀u∈knc k g n co lf st,u.oneCell'=true:=fun u hu=>by
 unfold knc at hu;rcases List.mem_append.1 hu with hu|hu
 ·simp only[List.mem_cons,List.not_mem_nil,or_false]at hu;rcases hu with rfl|rfl|rfl|rfl<;>rfl
 ·obtain⟨b,_,rfl⟩:=List.mem_map.1 hu
  rfl
def kc(s:Sn)(n:Nn)(g:Nat):List Value:=knc (n.k:Int) g s.cs.length (RM.cst s.st s.ws s.cs n.b) ((PM.lf n.st:Nat):Int) (pad n.st)
theorem kc_length(s:Sn)(n:Nn)(g:Nat):(kc s n g).length=132:=knc_length (pad_length _) _ _ _ _ _
theorem infoK:(Tryz.prog.info? 286).map (·.size)=some 132:=by kernel_rfl
def zk:List Value:=[.int .i64 0,.slice none 0 0,.int .i64 0,.int .i64 0]++List.replicate 128 (.bool false)
theorem zk_length:zk.length=132:=by unfold zk;rw[List.length_append,List.length_replicate];rfl
theorem infoKz:(Tryz.prog.info? 286).map (fun i=>(i.zero,i.size,i.bytes))=some (some (.agg zk.toArray),132,176):=by kernel_rfl
def KN(W:World)(q:Nat)(cs:List Value):Prop:=cs.length=132∧W.heap[q]?=some (.cells cs.toArray 286 (0,0))
section
variable {W W':World} {q:Nat} {cs:List Value}
theorem KN.lt(h:KN W q cs):q<W.heap.size:=(Array.getElem?_eq_some_iff.1 h.2).1
theorem KN.keep(h:KN W q cs)(hk:W'.heap[q]?=W.heap[q]?):KN W' q cs:=⟨h.1,hk.trans h.2⟩
theorem KN.below'(h:KN W q cs)(hb:Below W.heap.size W W'):KN W' q cs:=h.keep (hb.block q h.lt)
theorem KN.kp{G:Nat→Prop}(h:KN W q cs)(k:Kp G W W')(hG:¬G q):KN W' q cs:=h.keep (k.block q h.lt hG)
theorem KN.cell(h:KN W q cs)(i:Nat):W.cell? ⟨q,i,none⟩=cs[i]?:=blk_cell h.2 i
theorem KN.fr(h:KN W q cs)(i:Nat):W.frozen? ⟨q,i,none⟩=false:=blk_fr h.2 i
theorem KN.range(h:KN W q cs):W.rangeAt q 0 cs:=fun j v hv=>by rw[Nat.zero_add,h.cell,hv]
theorem KN.put(h:KN W q cs)(i:Nat)(v:Value):KN (W.setCell ⟨q,i,none⟩ v) q (cs.set i v):=⟨by rw[List.length_set];exact h.1,blk_set h.2 i v⟩
theorem KN.new(W:World)(hl:cs.length=132):KN (W.alloc (.cells cs.toArray 286)) W.heap.size cs:=⟨hl,World.alloc_heap_new W _⟩
end
theorem loadK(w:World)(b:Nat)(cs:List Value)(h:KN w b cs):(Instr.loadAt 286 (.pointer (some ⟨b,0,none⟩))).run Tryz.prog w=.ok (.agg cs.toArray) w:=
 run_loadAt_mid (P:=Tryz.prog) w b 0 286 cs _ h.range Tryz.underlying286 rfl (by rw[h.1];exact infoK)
theorem wpList_loadK{ops:Array Oper}{rest:List Oper}{op:Oper}{a:Act}{w:World}{Q:Exit→Act→World→Prop}(hgd:Region.wanted op (yielded ops a.tmps)=true)(x:Operand)(ho:op.op=.load 286 x)
  (b:Nat) (cs:List Value) (hx:a.eval x=.pointer (some ⟨b,0,none⟩)) (hr:KN w b cs)
  (h:wpList Tryz.prog ops Q rest (a.put op.dst (.agg cs.toArray)) w):wpList Tryz.prog ops Q (op::rest) a w:=
 wpList_step fun _ hK=>by
  rw[if_pos hgd];unfold Oper.wp execOp;simp only[ho,Sem.run_bind,Sem.run_pure,Result.andThen_ok,hx,loadK w b cs hr];exact hK _ _ h
theorem wpList_storeK{ops:Array Oper}{rest:List Oper}{op:Oper}{a:Act}{w:World}{Q:Exit→Act→World→Prop}(hgd:op.guard=none)(x y:Operand)(ho:op.op=.store 286 x y)
  (b:Nat) {old cs:List Value} (hx:a.eval x=.pointer (some ⟨b,0,none⟩)) (hy:a.eval y=.agg cs.toArray) (hL:KN w b old) (hl:cs.length=132) (h1:∀u∈cs,u.oneCell'=true)
  (hn:∀W',Kp (fun k=>k=b) w W'→KN W' b cs→wpList Tryz.prog ops Q rest (a.put op.dst undef) W'):wpList Tryz.prog ops Q (op::rest) a w:=
 wpList_store_row hgd 286 x y ho b _ hx hy _ _ hL.2 (by rw[List.size_toArray,hl];exact infoK) (by rw[List.size_toArray,List.size_toArray,hl,hL.1]) (all_oneCell_toArray h1) (hn _ (kp_row b w _) ⟨hl,setRow_heap w b _ _ _ _ hL.2⟩)
theorem run_allocK(w:World):(Instr.alloc 286 true (.tuple #[])).run Tryz.prog w=.ok (.pointer (some ⟨w.heap.size,0,none⟩)) (w.alloc (.cells zk.toArray 286)):=by
 obtain⟨i0,hi,hz0,hz1,hz2⟩:=info_parts infoKz;simp[Instr.alloc,zeroValue,typeInfo,hi,hz0,newVar,newRow,Value.cells]
theorem wpList_allocK{ops:Array Oper}{rest:List Oper}{op:Oper}{a:Act}{w:World}{Q:Exit→Act→World→Prop}(hgd:op.guard=none)(ho:op.op=.alloc 286)
  (hn:wpList Tryz.prog ops Q rest (a.put op.dst (.pointer (some ⟨w.heap.size,0,none⟩))) (w.alloc (.cells zk.toArray 286))):wpList Tryz.prog ops Q (op::rest) a w:=
 wpList_plain hgd fun _ hK=>by
  unfold Oper.wp execOp;simp only[ho,Sem.run_bind,Sem.run_pure,Result.andThen_ok,run_allocK];exact hK _ _ hn
theorem retK{fn:Func}{t:Tmp}(hf:fn.results= #[.cell t 286]){tmps:Array Value}{w:World}{b:Nat}{cs:List Value}(hp:tmps.getD t undef=.pointer (some ⟨b,0,none⟩))(hC:KN w b cs):
  (results fn tmps).run Tryz.prog w=.ok (.agg cs.toArray) w:=
 results_cell_row hf tmps w b _ _ _ _ hp hC.2 Tryz.underlying286 rfl (by rw[List.size_toArray,hC.1];exact infoK)
def tbl(s:St):List (List Int):=(List.range s.fl.toNat).map fun (i:Nat)=>(List.range s.fl.toNat).map fun (j:Nat)=>SM.trav s (i:Int) (j:Int)
theorem tbl_get{s:St}{i:Nat}(h:i<s.fl.toNat):(tbl s)[i]?=some ((List.range s.fl.toNat).map fun (j:Nat)=>SM.trav s (i:Int) (j:Int)):=by
 unfold tbl;rw[List.getElem?_map,List.getElem?_range h];rfl
theorem tbl_at{s:St}(i:Nat){j:Nat}(h:j<s.fl.toNat):((List.range s.fl.toNat).map fun (j:Nat)=>SM.trav s (i:Int) (j:Int))[j]?=some (SM.trav s (i:Int) (j:Int)):=by
 rw[List.getElem?_map,List.getElem?_range h];rfl
def tcl2(s:St)(vc vw vt:Value):List Value:=nv s vc vw++[vt,.int .i64 (RM.dw s)]
structure TC(D:Nat→Prop)(W:World)(tb:Nat)(s:Sn)(vc vw vt:Value):Prop where
 hl:W.heap[tb]?=some (.cells (tcl2 s.st vc vw vt).toArray 283 (0,0))
 td:D tb
 cs:R2 D W vc s.cs
 ws:R2 D W vw s.ws
 tt:RL D W vt (tbl s.st)
 rg:rgt s=true
section
variable {D D':Nat→Prop} {W W':World} {tb:Nat} {s:Sn} {vc vw vt:Value}
theorem TC.lt(h:TC D W tb s vc vw vt):tb<W.heap.size:=(Array.getElem?_eq_some_iff.1 h.hl).1
theorem TC.keep(h:TC D W tb s vc vw vt)(hs:W.heap.size≤W'.heap.size)(hk:∀g,D g→g<W.heap.size→W'.heap[g]?=W.heap[g]?):TC D W' tb s vc vw vt:=
 ⟨(hk tb h.td h.lt).trans h.hl,h.td,h.cs.keep hs hk,h.ws.keep hs hk,h.tt.keep hs hk,h.rg⟩
theorem TC.mono(h:TC D W tb s vc vw vt)(hD:∀g,D g→g<W.heap.size→D' g):TC D' W tb s vc vw vt:=
 ⟨h.hl,hD tb h.td h.lt,h.cs.mono fun g hg hl _=>hD g hg hl,h.ws.mono fun g hg hl _=>hD g hg hl,h.tt.mono fun g hg hl _=>hD g hg hl,h.rg⟩
theorem TC.below'(h:TC D W tb s vc vw vt)(hb:Below W.heap.size W W'):TC D W' tb s vc vw vt:=h.keep hb.size fun g _ hl=>hb.block g hl
theorem TC.kp{G:Nat→Prop}(h:TC D W tb s vc vw vt)(k:Kp G W W')(hG:∀g,D g→¬G g):TC D W' tb s vc vw vt:=h.keep k.size fun g hg hl=>k.block g hl (hG g hg)
theorem TC.cell(h:TC D W tb s vc vw vt)(i:Nat):W.cell? ⟨tb,i,none⟩=(tcl2 s.st vc vw vt)[i]?:=blk_cell h.hl i
theorem TC.c13(h:TC D W tb s vc vw vt):W.cell? ⟨tb,13,none⟩=some vc:=h.cell 13
theorem TC.c14(h:TC D W tb s vc vw vt):W.cell? ⟨tb,14,none⟩=some vw:=h.cell 14
theorem TC.c15(h:TC D W tb s vc vw vt):W.cell? ⟨tb,15,none⟩=some vt:=h.cell 15
theorem TC.c16(h:TC D W tb s vc vw vt):W.cell? ⟨tb,16,none⟩=some (.int .i64 (RM.dw s.st)):=h.cell 16
theorem TC.trav(h:TC D W tb s vc vw vt){i j:Nat}(hi:(i:Int)<s.st.fl)(hj:(j:Int)<s.st.fl):
  ∃g o cap,vt=.slice (some ⟨g,o,none⟩) s.st.fl.toNat cap∧∃g' o' cap',W.cell? ⟨g,o+i,none⟩=some (.slice (some ⟨g',o',none⟩) s.st.fl.toNat cap')∧W.cell? ⟨g',o'+j,none⟩=some (.int .i64 (SM.trav s.st (i:Int) (j:Int))):=by
 obtain⟨a,cap,rfl,_,_⟩:=h.tt.form;obtain⟨g,o,rfl,u,hu,hri⟩:=h.tt.at (tbl_get (s:=s.st) (i:=i) (by omega));rw[show(tbl s.st).length=s.st.fl.toNat by unfold tbl;simp];obtain⟨a',cap',rfl,_,_⟩:=hri.form;obtain⟨g',o',rfl,hc⟩:=hri.at (tbl_at i (j:=j) (by omega));rw[List.length_map,List.length_range]at hu;exact⟨g,o,cap,rfl,g',o',cap',hu,hc⟩
end
theorem wp_nrm{P:Program}{Q:Exit→Act→World→Prop}{c:Code}{a:Act}{w:World}(h:c.wp P (fun ex a w=>ex=Exit.normal∧Q ex a w) a w):c.wp P Q a w:=wp_mono h (fun _ _ _ h=>h.2)
theorem built_kn(g n:Nat)(m:Int):Tryz.prog.built 286 [(1,.slice (some ⟨g,0,none⟩) n n),(3,.int .i64 m)]=some (knc 0 g n 0 m (List.replicate 128 false)).toArray:=by kernel_rfl
section
variable {S:World→Prop} {ops:Array Oper} {Q:Exit→Act→World→Prop} {i:Nat} {o:Oper} {K:Act→World→Prop} {a:Act} {w:World}
theorem yif_build(hw:Region.wanted o (yielded ops a.tmps)=true)(t:TypeId)(parts:Array (Nat×Operand))(ho:o.op=.build t parts)(ps:List (Nat×Value))(hp:(parts.map fun (i,x)=>(i,a.eval x)).toList=ps)(cells:Array Value)(hb:Tryz.prog.built t ps=some cells):YieldsIf Tryz.prog ops S o (.agg cells) a:=
 .inl ⟨hw,fun w _=>by
  subst hp;unfold execOp
  simp only[ho,Sem.run_bind,Sem.run_pure,run_build w t _ cells hb,Result.andThen_ok]⟩
theorem wpOp_mkV(hi:ops[i]?=some o)(hw:Region.wanted o (yielded ops a.tmps)=true)(x y:Operand)(ho:o.op=.makeSlice 284 x y)(n:Nat)(hn:n≤1000)(hx:a.eval x=.int .i64 (n:Int))(hy:a.eval y=.int .i64 (n:Int))
  (h:K (a.put o.dst (.slice (some ⟨w.heap.size,0,none⟩) n n)) (w.alloc (.cells (wcs (List.replicate n w0)).toArray 311))):wpOp Tryz.prog ops Q i K a w:=
 wpOp_val hi hw (by unfold execOp;simp only[ho,hx,hy,Sem.run_bind,Sem.run_pure,Result.andThen_ok,mkV n hn]) h
theorem wpOp_allocK(hi:ops[i]?=some o)(hw:Region.wanted o (yielded ops a.tmps)=true)(ho:o.op=.alloc 286)
  (h:K (a.put o.dst (.pointer (some ⟨w.heap.size,0,none⟩))) (w.alloc (.cells zk.toArray 286))):wpOp Tryz.prog ops Q i K a w:=
 wpOp_val hi hw (by unfold execOp;simp only[ho,Sem.run_bind,Sem.run_pure,Result.andThen_ok,run_allocK]) h
theorem wpOp_storeK(hi:ops[i]?=some o)(hw:Region.wanted o (yielded ops a.tmps)=true)(x y:Operand)(ho:o.op=.store 286 x y)(b:Nat){old cs:List Value}(hx:a.eval x=.pointer (some ⟨b,0,none⟩))(hy:a.eval y=.agg cs.toArray)(hL:KN w b old)(hl:cs.length=132)(h1:∀u∈cs,u.oneCell'=true)
  (h:∀W',Kp (fun k=>k=b) w W'→KN W' b cs→K (a.put o.dst undef) W'):wpOp Tryz.prog ops Q i K a w:=by
 unfold wpOp;rw[hi];simp only;rw[if_pos hw];refine .inl ?_;unfold Oper.wp execOp;simp only[ho,hx,hy,Instr.storeAt,Instr.sureAddr,Sem.run_bind,Sem.run_pure,Result.andThen_ok,run_storeVar_row (P:=Tryz.prog) w b 286 286 _ _ hL.2 (by rw[List.size_toArray,hl];exact infoK) (by rw[List.size_toArray,List.size_toArray,hl,hL.1]) (all_oneCell_toArray h1)];exact h _ (kp_row b w _) ⟨hl,setRow_heap w b _ _ _ _ hL.2⟩
end
def wfst(cs:List (Int×Int))(c:Nat):List RM.Sp:=(cs.take c).map RM.bg++List.replicate (cs.length-c) w0
theorem wfst_zero(cs:List (Int×Int)):wfst cs 0=List.replicate cs.length w0:=by unfold wfst;simp
theorem wfst_end(cs:List (Int×Int)):wfst cs cs.length=cs.map RM.bg:=by unfold wfst;simp
theorem wfst_length{cs:List (Int×Int)}{c:Nat}(h:c≤cs.length):(wfst cs c).length=cs.length:=by unfold wfst;simp;omega
theorem wfst_succ{cs:List (Int×Int)}{c:Nat}{r:Int×Int}(h:cs[c]?=some r):(wfst cs c).set c (RM.bg r)=wfst cs (c+1):=by
 have hc:c<cs.length:=(List.getElem?_eq_some_iff.1 h).1;unfold wfst;rw[List.set_append_right _ _ (by simp;omega),List.take_add_one,h,Option.toList_some,List.map_append,List.append_assoc];have e:c-((cs.take c).map RM.bg).length=0:=by simp;omega
 rw[e,show cs.length-c=(cs.length-(c+1))+1 by omega,List.replicate_succ,List.set_cons_zero]
 rfl
structure Fz(W wr:World)(s:Sn)(q g c:Nat):Prop where
 nd:KN wr q (knc 0 g s.cs.length 0 (s.ws.length:Int) (List.replicate 128 false))
 rw:WR wr g (wfst s.cs c)
 z:KN wr W.heap.size zk
 bel:Below W.heap.size W wr
 q1:W.heap.size<q
 g1:W.heap.size<g
 qg:q≠g
section
variable {D:Nat→Prop} {W:World} {tb:Nat} {s:Sn} {vc vw vt:Value}
theorem Fz.next{wr w':World}{q g c:Nat}(h:Fz W wr s q g c)(hb:Below wr.heap.size wr w'):Fz W w' s q g c:=⟨h.nd.below' hb,h.rw.below' hb,h.z.below' hb,below_class h.bel hb,h.q1,h.g1,h.qg⟩
theorem Fz.kp{wr w':World}{q g c c':Nat}(h:Fz W wr s q g c)(k:Kp (fun i=>i=g) wr w')(hr:WR w' g (wfst s.cs c')):Fz W w' s q g c':=⟨h.nd.kp k h.qg,hr,h.z.kp k (by have:=h.g1;omega),k.below h.bel (by have:=h.z.lt;omega) (fun i hi e=>by have:=h.g1;omega),h.q1,h.g1,h.qg⟩
theorem kfirst_any(ht:TC D W tb s vc vw vt):
  Calls Tryz.prog 194 #[.pointer (some ⟨tb,0,none⟩)] W fun r w'=>∃g,r=.returned (.agg (kc s (nd0 s) g).toArray)∧W.heap.size≤g∧WR w' g (wys s (nd0 s))∧Below W.heap.size W w':=by
 obtain⟨n8,hrs⟩:=rgt_rs ht.rg;have hN:s.cs.length≤1000:=by have:=hrs.cl;have:=hrs.n8;omega
 have hw8:=hrs.wl
 have HEQ:Hid (∀g,kc s (nd0 s) g=knc 0 g s.cs.length 0 (s.ws.length:Int) (List.replicate 128 false)):=fun g=>by
  unfold kc nd0;simp only[cst_nil0,pad_rep _ hw8];unfold PM.lf;simp
 rw[wys_nd0];obtain⟨ac,kc',rfl,_,_⟩:=ht.cs.form;obtain⟨aw,kw,rfl,_,_⟩:=ht.ws.form;have HT:=Hd ht;have HZ:=Hd (KN.new W zk_length);have HB:=Hd ((Below.refl W.heap.size W).alloc (Nat.le_refl _) (.cells zk.toArray 286));have HSZ:Hid ((W.alloc (.cells zk.toArray 286)).heap.size=W.heap.size+1):=by show _=_;simp
 clear ht hrs
 go_enter Tryz.func194,Tryz.ntmps194
 go_upto_region 1 with (refine wpList_allocK rfl rfl ?_)
 generalize W.alloc (.cells zk.toArray 286)=X at HZ HB HSZ⊢;refine wp_nrm ?_;have HS0:Hid (∀w',Below X.heap.size X w'→w'.cell? ⟨tb,13,none⟩=some (.slice ac s.cs.length kc')∧w'.cell? ⟨tb,14,none⟩=some (.slice aw s.ws.length kw)):=fun w' hw=>⟨(HT.out.below' (below_class HB.out hw)).c13,(HT.out.below' (below_class HB.out hw)).c14⟩;refine wp_region_held (S:=fun w'=>Below X.heap.size X w') (by kernel_rfl) ?_;change wpAnyH _ _ _ _ _ _ _ _ (World.drew _);have HD:Hid (Below X.heap.size X X.drew):=(Below.refl _ _).drew;generalize hXd:X.drew=X0 at HD⊢;clear hXd;refine wpAnyH_take (i:=0) rfl (by kernel_rfl) (by kernel_rfl) (by kernel_rfl) (fun _ _ _ h=>by cases h.1) (.inl ⟨rfl,fun _ _=>rfl⟩) HD.out ?_;generalize hKK:wpAnyH _ _ _ _ _ _ _=KK;go_simp;subst hKK;refine wpAnyH_take (i:=1) rfl (by kernel_rfl) (by kernel_rfl) (by kernel_rfl) (fun _ _ _ h=>by cases h.1) (.inl ⟨rfl,fun _ _=>rfl⟩) HD.out ?_;generalize hKK:wpAnyH _ _ _ _ _ _ _=KK;go_simp;subst hKK;refine wpAnyH_take (i:=2) rfl (by kernel_rfl) (by kernel_rfl) (by kernel_rfl) (fun _ _ _ h=>by cases h.1) (.inl ⟨rfl,fun _ _=>rfl⟩) HD.out ?_;generalize hKK:wpAnyH _ _ _ _ _ _ _=KK;go_simp;subst hKK;refine wpAnyH_take (i:=3) rfl (by kernel_rfl) (by kernel_rfl) (by kernel_rfl) (fun _ _ _ h=>by cases h.1) (.inl ⟨rfl,fun _ _=>rfl⟩) HD.out ?_;generalize hKK:wpAnyH _ _ _ _ _ _ _=KK;go_simp;subst hKK;refine wpAnyH_take (i:=4) (v:=.slice ac s.cs.length kc') rfl (by kernel_rfl) (by kernel_rfl) (by kernel_rfl) (fun _ _ _ h=>by cases h.1) (.inl ⟨rfl,fun w hw=>by have hc:=(HS0.out w hw).1;go_simp⟩) HD.out ?_;generalize hKK:wpAnyH _ _ _ _ _ _ _=KK;go_simp;subst hKK;refine wpAnyH_take (i:=5) (v:=.int .i64 (s.cs.length:Int)) rfl (by kernel_rfl) (by kernel_rfl) (by kernel_rfl) (fun _ _ _ h=>by cases h.1) (.inl ⟨rfl,fun w _=>by go_simp⟩) HD.out ?_;generalize hKK:wpAnyH _ _ _ _ _ _ _=KK;go_simp;subst hKK;refine wpAnyH_take (i:=7) rfl (by kernel_rfl) (by kernel_rfl) (by kernel_rfl) (fun _ _ _ h=>by cases h.1) (.inl ⟨rfl,fun _ _=>rfl⟩) HD.out ?_;generalize hKK:wpAnyH _ _ _ _ _ _ _=KK;go_simp;subst hKK;refine wpAnyH_take (i:=8) rfl (by kernel_rfl) (by kernel_rfl) (by kernel_rfl) (fun _ _ _ h=>by cases h.1) (.inl ⟨rfl,fun _ _=>rfl⟩) HD.out ?_;generalize hKK:wpAnyH _ _ _ _ _ _ _=KK;go_simp;subst hKK;refine wpAnyH_take (i:=9) rfl (by kernel_rfl) (by kernel_rfl) (by kernel_rfl) (fun _ _ _ h=>by cases h.1) (.inl ⟨rfl,fun _ _=>rfl⟩) HD.out ?_;generalize hKK:wpAnyH _ _ _ _ _ _ _=KK;go_simp;subst hKK;refine wpAnyH_take (i:=10) rfl (by kernel_rfl) (by kernel_rfl) (by kernel_rfl) (fun _ _ _ h=>by cases h.1) (.inl ⟨rfl,fun _ _=>rfl⟩) HD.out ?_;generalize hKK:wpAnyH _ _ _ _ _ _ _=KK;go_simp;subst hKK;refine wpAnyH_take (i:=11) (v:=.slice aw s.ws.length kw) rfl (by kernel_rfl) (by kernel_rfl) (by kernel_rfl) (fun _ _ _ h=>by cases h.1) (.inl ⟨rfl,fun w hw=>by have hc:=(HS0.out w hw).2;go_simp⟩) HD.out ?_;generalize hKK:wpAnyH _ _ _ _ _ _ _=KK;go_simp;subst hKK;refine wpAnyH_take (i:=12) (v:=.int .i64 (s.ws.length:Int)) rfl (by kernel_rfl) (by kernel_rfl) (by kernel_rfl) (fun _ _ _ h=>by cases h.1) (.inl ⟨rfl,fun w _=>by go_simp⟩) HD.out ?_;generalize hKK:wpAnyH _ _ _ _ _ _ _=KK;go_simp;subst hKK;have HXS:=HSZ.out;have HLN:Hid (∀g,(knc 0 g s.cs.length 0 (s.ws.length:Int) (List.replicate 128 false)).length=132):=fun g=>knc_length (by simp) _ _ _ _ _;have HON:Hid (∀g,∀u∈knc 0 g s.cs.length 0 (s.ws.length:Int) (List.replicate 128 false),u.oneCell'=true):=fun g=>knc_one _ _ _ _ _ _;refine wpAnyH_all (rs:=[6,14]) (by kernel_rfl) (by simp) (fun ii hii=> ?_);have h7:ii=6∨ii=14:=by simpa using hii
 clear hii;rcases h7 with rfl|rfl;refine wpOp_mkV rfl rfl _ _ rfl s.cs.length hN rfl rfl ?_;have hb1:=HD.out.alloc HD.out.size (.cells (wcs (List.replicate s.cs.length w0)).toArray 311);refine⟨hb1,?_⟩;generalize hKK:wpAnyH _ _ _ _ _ _ _=KK;go_simp;subst hKK;have HW1:=Hd (WR.new X0 (List.replicate s.cs.length w0));have HB1:=Hd hb1;have hg1:=HD.out.size;have hg2:X0.heap.size<(X0.alloc (.cells (wcs (List.replicate s.cs.length w0)).toArray 311)).heap.size:=by simp
 clear hb1;generalize X0.alloc (.cells (wcs (List.replicate s.cs.length w0)).toArray 311)=X1 at HW1 HB1 hg2⊢;generalize X0.heap.size=g at HW1 hg1 hg2⊢;refine wpAnyH_take (i:=13) (v:=.agg (knc 0 g s.cs.length 0 (s.ws.length:Int) (List.replicate 128 false)).toArray) rfl (by kernel_rfl) (by kernel_rfl) (by kernel_rfl) (fun _ _ _ h=>by cases h.1) (yif_build rfl _ _ rfl [(1,.slice (some ⟨g,0,none⟩) s.cs.length s.cs.length),(3,.int .i64 (s.ws.length:Int))] (by simp[Act.eval]) _ (built_kn _ _ _)) HB1.out ?_;generalize hKK:wpAnyH _ _ _ _ _ _ _=KK;go_simp;subst hKK;refine wpAnyH_all (rs:=[14]) (by kernel_rfl) (by simp) (fun ii hii=> ?_);obtain rfl:ii=14:=by simpa using hii
 clear hii;refine wpOp_allocK rfl rfl rfl ?_;have hb2:=HB1.out.alloc HB1.out.size (.cells zk.toArray 286);refine⟨hb2,?_⟩;generalize hKK:wpAnyH _ _ _ _ _ _ _=KK;go_simp;subst hKK;have HW2:=Hd (HW1.out.below' ((Below.refl _ _).alloc (Nat.le_refl _) (.cells zk.toArray 286)));have HK2:=Hd (KN.new X1 zk_length);have HB2:=Hd hb2;have HZ2:=Hd (HZ.out.below' hb2);have hq2:X1.heap.size<(X1.alloc (.cells zk.toArray 286)).heap.size:=by simp
 have hqg:X1.heap.size≠g:=by omega
 have hq1:X.heap.size≤X1.heap.size:=HB1.out.size;clear hb2 HW1 HB1 hg2;generalize X1.alloc (.cells zk.toArray 286)=X2 at HW2 HK2 HB2 HZ2 hq2⊢;generalize X1.heap.size=q at HK2 hq1 hq2 hqg⊢;refine wpAnyH_all (rs:=[15]) (by kernel_rfl) (by simp) (fun ii hii=> ?_);obtain rfl:ii=15:=by simpa using hii
 clear hii;refine wpOp_storeK rfl rfl _ _ rfl q rfl rfl HK2.out (HLN.out g) (HON.out g) ?_;intro W3 hk3 hn3;have HB3:=Hd (hk3.below HB2.out (by omega) (fun i hi e=>by omega));refine⟨HB3.out,?_⟩;have HF:Hid (Fz W W3 s q g 0):=⟨hn3,by rw[wfst_zero];exact HW2.out.kp hk3 (by omega),(HZ2.out).kp hk3 (by omega),hk3.below (below_class HB.out HB2.out) (by omega) (fun i hi e=>by omega),by omega,by omega,by omega⟩;clear hk3 hn3 HB3 HK2 HW2 HZ2 HB2;refine wpAnyH_done (by kernel_rfl) ⟨rfl,?_⟩ _;rotate_left;refine wpOp_allocK rfl rfl rfl ?_;have hb1:=HD.out.alloc HD.out.size (.cells zk.toArray 286);refine⟨hb1,?_⟩;generalize hKK:wpAnyH _ _ _ _ _ _ _=KK;go_simp;subst hKK;have HK1:=Hd (KN.new X0 zk_length);have HB1:=Hd hb1;have hq1:=HD.out.size;have hg2:X0.heap.size<(X0.alloc (.cells zk.toArray 286)).heap.size:=by simp
 clear hb1;generalize X0.alloc (.cells zk.toArray 286)=X1 at HK1 HB1 hg2⊢;generalize X0.heap.size=q at HK1 hq1 hg2⊢;refine wpAnyH_all (rs:=[6]) (by kernel_rfl) (by simp) (fun ii hii=> ?_);obtain rfl:ii=6:=by simpa using hii
 clear hii;refine wpOp_mkV rfl rfl _ _ rfl s.cs.length hN rfl rfl ?_;have hb2:=HB1.out.alloc HB1.out.size (.cells (wcs (List.replicate s.cs.length w0)).toArray 311);refine⟨hb2,?_⟩;generalize hKK:wpAnyH _ _ _ _ _ _ _=KK;go_simp;subst hKK;have HK2:=Hd (HK1.out.below' ((Below.refl _ _).alloc (Nat.le_refl _) (.cells (wcs (List.replicate s.cs.length w0)).toArray 311)));have HW2:=Hd (WR.new X1 (List.replicate s.cs.length w0));have HB2:=Hd hb2;have HZ2:=Hd (HZ.out.below' hb2);have hq2:q<(X1.alloc (.cells (wcs (List.replicate s.cs.length w0)).toArray 311)).heap.size:=by simp;omega
 have hqg:q≠X1.heap.size:=by omega
 have hg1:X.heap.size≤X1.heap.size:=HB1.out.size;clear hb2 HK1 HB1 hg2;generalize X1.alloc (.cells (wcs (List.replicate s.cs.length w0)).toArray 311)=X2 at HW2 HK2 HB2 HZ2 hq2⊢;generalize X1.heap.size=g at HW2 hg1 hqg⊢;refine wpAnyH_take (i:=13) (v:=.agg (knc 0 g s.cs.length 0 (s.ws.length:Int) (List.replicate 128 false)).toArray) rfl (by kernel_rfl) (by kernel_rfl) (by kernel_rfl) (fun _ _ _ h=>by cases h.1) (yif_build rfl _ _ rfl [(1,.slice (some ⟨g,0,none⟩) s.cs.length s.cs.length),(3,.int .i64 (s.ws.length:Int))] (by simp[Act.eval]) _ (built_kn _ _ _)) HB2.out ?_;generalize hKK:wpAnyH _ _ _ _ _ _ _=KK;go_simp;subst hKK;refine wpAnyH_all (rs:=[15]) (by kernel_rfl) (by simp) (fun ii hii=> ?_);obtain rfl:ii=15:=by simpa using hii
 clear hii;refine wpOp_storeK rfl rfl _ _ rfl q rfl rfl HK2.out (HLN.out g) (HON.out g) ?_;intro W3 hk3 hn3;have HB3:=Hd (hk3.below HB2.out (by omega) (fun i hi e=>by omega));refine⟨HB3.out,?_⟩;have HF:Hid (Fz W W3 s q g 0):=⟨hn3,by rw[wfst_zero];exact HW2.out.kp hk3 (by omega),(HZ2.out).kp hk3 (by omega),hk3.below (below_class HB.out HB2.out) (by omega) (fun i hi e=>by omega),by omega,by omega,by omega⟩;clear hk3 hn3 HB3 HK2 HW2 HZ2 HB2;refine wpAnyH_done (by kernel_rfl) ⟨rfl,?_⟩ _
 all_goals
  clear hq1 hq2 hg1 HS0 HD HZ HB HSZ HXS hqg;have c13:W3.cell? ⟨tb,13,none⟩=some (.slice ac s.cs.length kc'):=(HT.out.below' HF.out.bel).c13
  go_wp2_with fail
  clear c13
  go_loopw [26] (fun cv wr=>∃c:Nat,c≤s.cs.length∧cv=.int .i64 (c:Int)∧Hid (Fz W wr s q g c)) (fun cv _=>s.cs.length-(intOf cv).toNat)
  case atStart=>exact⟨0,Nat.zero_le _,rfl,HF⟩
  case round=>
   clear HF;obtain⟨c,hc,rfl,HF⟩:=hrel;by_cases hlt:c<s.cs.length
   ·have hcz:(c:Int)<(s.cs.length:Int):=by omega
    obtain⟨r,hr⟩:∃r,s.cs[c]?=some r:=⟨_,List.getElem?_eq_getElem hlt⟩;obtain⟨gc,oc,hac,x0,x1⟩:=(HT.out.below' HF.out.bel).cs.at hr;subst hac;have HF1:=Hd (HF.out.next ((Below.refl wr.heap.size wr).alloc (Nat.le_refl _) (.cells #[.int .i64 r.1,.int .i64 r.2] 178)));have c1:(wr.alloc (.cells #[.int .i64 r.1,.int .i64 r.2] 178)).cell? ⟨q,1,none⟩=some (.slice (some ⟨g,0,none⟩) s.cs.length s.cs.length):=HF1.out.nd.cell 1;have hix:∀W:World,(Instr.indexAt 284 (.slice (some ⟨g,0,none⟩) s.cs.length s.cs.length) (.int .i64 (c:Int))).run Tryz.prog W=.ok (.pointer (some ⟨g,c*3,none⟩)) W:=fun W=>ixV W hlt;have HSC:=Hd (wfst_succ hr);have HCL:Hid (c<(wfst s.cs c).length):=by show _<_;rw[wfst_length hc];exact hlt
    clear hr HF
    go_wp2_with (refine wpList_storeV rfl _ _ rfl g c (wfst s.cs c) HCL.out (RM.bg r) HF1.out.rw rfl rfl ?_)
    intro W4 hk4 hr4;rw[HSC.out]at hr4;have HF2:=Hd (HF1.out.kp hk4 hr4);clear hk4 hr4 HF1 c1 hix x0 x1 HSC HCL;go_wp2;go_roundw
    case rel=>exact⟨c+1,by omega,by go_num,HF2⟩
    case measure=>simp[intOf];omega
   ·have hcz:¬(c:Int)<(s.cs.length:Int):=by omega
    have hce:c=s.cs.length:=by omega
    rw[hce]at HF;have HN:=Hd HF.out.nd;have HZ:=Hd HF.out.z;clear hce
    go_wp2_with (first|(refine wpList_loadK rfl _ rfl q _ rfl HN.out ?_)|(refine wpList_storeK rfl _ _ rfl W.heap.size rfl rfl HZ.out (HLN.out g) (HON.out g) ?_))
    intro W5 hk5 hn5;have HK:=Hd (And.intro hk5 hn5);clear hk5 hn5 HN HZ;go_wp2;refine bodyPost_ret (retK Tryz.results194 rfl HK.out.2) rfl ⟨g,by rw[HEQ.out];rfl,by have:=HF.out.g1;omega,?_,HK.out.1.below HF.out.bel (by have:=HF.out.z.lt;omega) (fun i hi e=>by omega)⟩;have:=HF.out.rw.kp HK.out.1 (by have:=HF.out.g1;omega);rwa[wfst_end]at this
end
theorem nx_he{s:St}{a:RM.Sp}(ok:RM.Ok s a)(f:Int):(RM.nx s a f).he=RM.ar s a f:=by rw[RM.nx_eq ok]
structure Gz(W wr:World)(cs:List Value):Prop where
 n1:KN wr W.heap.size cs
 n2:KN wr (W.heap.size+1) zk
 bel:Below W.heap.size W wr
section
variable {W wr w':World} {cs:List Value}
theorem Gz.next(h:Gz W wr cs)(hb:Below wr.heap.size wr w'):Gz W w' cs:=⟨h.n1.below' hb,h.n2.below' hb,below_class h.bel hb⟩
theorem Gz.kp{g:Nat}(h:Gz W wr cs)(k:Kp (fun i=>i=g) wr w')(hg:W.heap.size+2≤g):Gz W w' cs:=⟨h.n1.kp k (by omega),h.n2.kp k (by omega),k.below h.bel (by have:=h.n1.lt;omega) (fun i hi e=>by omega)⟩
theorem Gz.put(h:Gz W wr cs)(i:Nat)(v:Value):Gz W (wr.setCell ⟨W.heap.size,i,none⟩ v) (cs.set i v):=by
 have k:Kp (fun i=>i=W.heap.size) wr (wr.setCell ⟨W.heap.size,i,none⟩ v):=(Kp.refl _ _).set _ _ _ (fun _=>rfl);exact⟨h.n1.put i v,h.n2.kp k (by simp),k.below h.bel (by have:=h.n1.lt;omega) (fun i hi e=>by omega)⟩
theorem Gz.lt(h:Gz W wr cs):W.heap.size+2≤wr.heap.size:=h.n2.lt
end
section
variable {D:Nat→Prop} {W:World} {tb:Nat} {s:Sn} {vc vw vt:Value}
end
structure Cn(W wr:World)(s:Sn)(q:Nat)(k:Int)(n:Nn):Prop where
 nd:∃g,KN wr q (knc k g s.cs.length (RM.cst s.st s.ws s.cs n.b) ((PM.lf n.st:Nat):Int) (pad n.st))∧WR wr g (wys s n)∧g≠q
 ok:n.ok s
 bel:Below W.heap.size W wr
 q1:W.heap.size≤q
structure Cz(W wr:World)(s:Sn)(q:Nat)(p:List (List Int))(c:Nat):Prop where
 more:c<p.length→∃k st,Cn W wr s q k ⟨c,cutp p c 0,st⟩
 done:c=p.length→wr.cell? ⟨q,2,none⟩=some (.int .i64 (RM.cst s.st s.ws s.cs p))∧Below W.heap.size W wr
section
variable {D D':Nat→Prop} {W:World} {tb:Nat} {s:Sn} {vc vw vt vp:Value} {p:List (List Int)}
theorem Cn.next{wr w':World}{q:Nat}{k:Int}{n:Nn}(h:Cn W wr s q k n)(hb:Below wr.heap.size wr w'):Cn W w' s q k n:=by
 obtain⟨g,h1,h2,h3⟩:=h.nd;exact⟨⟨g,h1.below' hb,h2.below' hb,h3⟩,h.ok,below_class h.bel hb,h.q1⟩
theorem Cn.lt{wr:World}{q:Nat}{k:Int}{n:Nn}(h:Cn W wr s q k n):q<wr.heap.size:=by
 obtain⟨g,h1,_⟩:=h.nd;exact h1.lt
theorem Cn.c0{wr:World}{q:Nat}{k:Int}{n:Nn}(h:Cn W wr s q k n):wr.cell? ⟨q,0,none⟩=some (.int .i64 k)∧wr.frozen? ⟨q,0,none⟩=false:=by
 obtain⟨g,h1,_⟩:=h.nd;exact⟨h1.cell 0,h1.fr 0⟩
theorem Cn.put{wr:World}{q:Nat}{k:Int}{n:Nn}(h:Cn W wr s q k n)(k':Int):Cn W (wr.setCell ⟨q,0,none⟩ (.int .i64 k')) s q k' n:=by
 obtain⟨g,h1,h2,h3⟩:=h.nd;have kp:Kp (fun i=>i=q) wr (wr.setCell ⟨q,0,none⟩ (.int .i64 k')):=(Kp.refl (fun i=>i=q) wr).set _ _ _ (fun _=>rfl);exact⟨⟨g,h1.put 0 (.int .i64 k'),h2.kp kp h3,h3⟩,h.ok,kp.below h.bel (by have:=h1.lt;have:=h.q1;omega) (fun i hi e=>by have:=h.q1;omega),h.q1⟩
theorem Cz.next{wr:World}{q c:Nat}{k:Int}{l:List Int}{st:List Bool}(h:Cn W wr s q k ⟨c,cutp p c l.length,st⟩)(hl:p[c]?=some l):Cz W wr s q p (c+1):=by
 refine⟨fun h1=> ?_,fun h1=> ?_⟩
 ·rw[cut_next h1 hl]at h;obtain⟨g,h2,h3,h4⟩:=h.nd;have hk:c+1<(cutp p (c+1) 0).length:=by rw[cutp_length 0 h1];exact h1
  exact⟨k,st,⟨g,h2,h3,h4⟩,Nn.ok.nxc h.ok hk,h.bel,h.q1⟩
 ·obtain⟨g,h2,h3,h4⟩:=h.nd;rw[cutp_whole h1 hl]at h2;exact⟨h2.cell 2,h.bel⟩
end
structure Ez(W wr:World)(s:Sn)(n:Nn)(g:Nat)(f:Int)(m:Nat):Prop where
 n1:KN wr W.heap.size (kc s n g)
 wb:wr.heap[W.heap.size+1]?=some (.cells #[.int .i64 f,.int .i64 (m:Int)] 182 (0,0))
 bel:Below W.heap.size W wr
section
variable {D:Nat→Prop} {W:World} {tb:Nat} {s:Sn} {vc vw vt:Value} {n:Nn} {g:Nat}
theorem Ez.next{wr w':World}{f:Int}{m:Nat}(h:Ez W wr s n g f m)(hb:Below wr.heap.size wr w'):Ez W w' s n g f m:=⟨h.n1.below' hb,(hb.block _ (Array.getElem?_eq_some_iff.1 h.wb).1).trans h.wb,below_class h.bel hb⟩
theorem Ez.c(W:World)(f:Int)(m:Nat):Ez W ((W.alloc (.cells (kc s n g).toArray 286)).alloc (.cells #[.int .i64 f,.int .i64 (m:Int)] 182)) s n g f m:=by
 have h2:=World.alloc_heap_new (W.alloc (.cells (kc s n g).toArray 286)) (.cells #[.int .i64 f,.int .i64 (m:Int)] 182);rw[World.size_alloc]at h2;exact⟨(KN.new W (kc_length s n g)).below' ((Below.refl _ _).alloc (Nat.le_refl _) _),h2,((Below.refl W.heap.size W).alloc (Nat.le_refl _) _).alloc (by simp) _⟩
structure Lz2(W wr:World)(s:Sn)(n:Nn)(g:Nat):Prop where
 n1:KN wr W.heap.size (kc s n g)
 bel:Below W.heap.size W wr
theorem Lz2.next{wr w':World}(h:Lz2 W wr s n g)(hb:Below wr.heap.size wr w'):Lz2 W w' s n g:=⟨h.n1.below' hb,below_class h.bel hb⟩
end
def Byt(l:List Nat):Prop:=∀x∈l,x<256
theorem Byt.drop{l:List Nat}(h:Byt l)(k:Nat):Byt (l.drop k):=fun x hx=>h x (List.mem_of_mem_drop hx)
theorem Byt.take{l:List Nat}(h:Byt l)(k:Nat):Byt (l.take k):=fun x hx=>h x (List.mem_of_mem_take hx)
def RY(D:Nat→Prop)(W:World)(v:Value)(l:List Nat):Prop:=
 Byt l∧∃a cap,v=.slice a l.length cap∧l.length≤cap∧(cap≤maxLen∧(a=none→cap=0))∧(l=[]∨∃g o,a=some ⟨g,o,none⟩∧D g∧g<W.heap.size∧∀(i:Nat) x,l[i]?=some x→W.cell? ⟨g,o+i,none⟩=some (.int .u8 (x:Int)))
section
variable {D D':Nat→Prop} {W W':World} {v:Value} {l:List Nat}
theorem RY.keep(h:RY D W v l)(hs:W.heap.size≤W'.heap.size)(hk:∀g,D g→g<W.heap.size→W'.heap[g]?=W.heap[g]?):RY D W' v l:=by
 obtain⟨hB,a,cap,rfl,hc,hm,h⟩:=h;refine⟨hB,a,cap,rfl,hc,hm,?_⟩;rcases h with h|⟨g,o,rfl,hd,hlt,h⟩
 ·exact .inl h
 ·exact .inr ⟨g,o,rfl,hd,Nat.lt_of_lt_of_le hlt hs,fun i y hy=>(World.cell?_of_block (a:=⟨g,o+i,none⟩) (hk g hd hlt)).trans (h i y hy)⟩
theorem RY.below'(h:RY D W v l)(hb:Below W.heap.size W W'):RY D W' v l:=h.keep hb.size fun g _ hlt=>hb.block g hlt
theorem RY.alloc(h:RY D W v l)(o:Obj):RY D (W.alloc o) v l:=h.below' ((Below.refl _ _).alloc (Nat.le_refl _) o)
theorem RY.mono(h:RY D W v l)(hD:∀g,D g→g<W.heap.size→(∃o:Obj,W.heap[g]?=some o∧o.isCells=true)→D' g):RY D' W v l:=by
 obtain⟨hB,a,cap,rfl,hc,hn,h⟩:=h;refine⟨hB,a,cap,rfl,hc,hn,?_⟩;rcases h with h|⟨g,o,rfl,hd,hlt,h⟩
 ·exact .inl h
 ·cases l with
  |nil=>exact .inl rfl
  |cons y l=>exact .inr ⟨g,o,rfl,hD g hd hlt (cells_of_cell (h 0 y rfl)),hlt,h⟩
theorem RY.nil(D:Nat→Prop)(W:World):RY D W (.slice none 0 0) []:=⟨fun x hx=>by simp at hx,none,0,rfl,Nat.le_refl _,⟨Nat.zero_le _,fun _=>rfl⟩,.inl rfl⟩
theorem RY.form(h:RY D W v l):∃a cap,v=.slice a l.length cap∧l.length≤cap∧cap≤maxLen∧(a=none→cap=0):=by
 obtain⟨_,a,cap,h1,h2,hm,_⟩:=h;exact⟨a,cap,h1,h2,hm.1,hm.2⟩
theorem RY.len{a:Option Addr}{n cap:Nat}(h:RY D W (.slice a n cap) l):n=l.length:=by
 obtain⟨_,a',cap',e,_⟩:=h;cases e;rfl
theorem RY.at{a:Option Addr}{n cap:Nat}(h:RY D W (.slice a n cap) l){i x:Nat}(hi:l[i]?=some x):∃g o,a=some ⟨g,o,none⟩∧W.cell? ⟨g,o+i,none⟩=some (.int .u8 (x:Int)):=by
 obtain⟨_,a',cap',e,_,_,h⟩:=h;cases e;rcases h with h|⟨g,o,rfl,_,_,h⟩
 ·rw[h]at hi;simp at hi
 ·exact⟨g,o,rfl,h i x hi⟩
theorem RY.lies{a:Option Addr}{n cap:Nat}(h:RY D W (.slice a n cap) l)(hl:l≠[]):∃g o,a=some ⟨g,o,none⟩∧D g∧g<W.heap.size∧∀(i:Nat) x,l[i]?=some x→W.cell? ⟨g,o+i,none⟩=some (.int .u8 (x:Int)):=by
 obtain⟨_,a',cap',e,_,_,h⟩:=h;cases e;rcases h with h|h
 ·exact absurd h hl
 ·exact h
theorem RY.cut{a:Option Addr}{n cap j:Nat}(h:RY D W (.slice a n cap) l)(hj:j≤l.length):RY D W (.slice a j cap) (l.take j):=by
 obtain⟨hB,a',c,e,h1,h2,h3⟩:=h;cases e;have hlen:(l.take j).length=j:=by rw[List.length_take];omega
 refine⟨hB.take j,_,_,by rw[hlen],by omega,h2,?_⟩;rcases h3 with h3|⟨g',o',e,hd,hlt,h4⟩
 ·left;rw[h3];simp
 ·cases e
  exact .inr ⟨g',o',rfl,hd,hlt,fun i x hx=>h4 i x (by
   rw[List.getElem?_take]at hx;split at hx
   ·exact hx
   ·cases hx)⟩
theorem RY.rest{a:Option Addr}{n cap j:Nat}(h:RY D W (.slice a n cap) l)(hj:j≤l.length):RY D W (.slice (restA a cap j) (n-j) (cap-j)) (l.drop j):=by
 obtain⟨hB,a',c,e,h1,h2,h3⟩:=h;cases e;have hlen:(l.drop j).length=l.length-j:=List.length_drop
 refine⟨hB.drop j,_,_,by rw[hlen],by omega,⟨by have:=h2.1;omega,fun e=>by
  unfold restA at e;split at e
  ·omega
  ·cases a with
   |none=>have:=h2.2 rfl;omega
   |some x=>simp at e⟩,?_⟩
 by_cases hcj:cap=j
 ·left;rw[List.drop_eq_nil_iff];omega
 ·rcases h3 with h3|⟨g',o',e,hd,hlt,h4⟩
  ·left;rw[h3];simp
  ·cases e;refine .inr ⟨g',o'+j,by unfold restA;rw[if_neg hcj,Option.map_some,Addr.add_mid],hd,hlt,fun i x hx=> ?_⟩;rw[List.getElem?_drop]at hx;rw[Nat.add_assoc];exact h4 (j+i) x hx
theorem OY.ry{B:Nat}(h:OY W B v l)(hb:Byt l)(hD:∀g,v.ownBlock=some g→D g):RY D W v l:=by
 rcases h.form with⟨rfl,rfl⟩|⟨g,cap,rfl,_,hlt,hc,hm⟩
 ·exact RY.nil _ _
 ·exact⟨hb,_,cap,rfl,hc,⟨hm,fun e=>by cases e⟩,.inr ⟨g,0,rfl,hD g rfl,hlt,fun i x hx=>by rw[Nat.zero_add];exact h.cell hx⟩⟩
end
theorem sliceY_rest(aa:Option Addr)(La ac n:Nat)(w:World)(hn:n≤La):(Instr.sliceAt 62 (.slice aa La ac) (some (.int .i64 (n:Int))) none none).run Tryz.prog w=.ok (.slice (restA aa ac n) (La-n) (ac-n)) w:=by
 have h1:(n:Int)≤(La:Int):=by omega
 unfold restA;cases aa with
 |none=>simp[go_sem,h1]
 |some x=>
  by_cases e:ac=n
  ·simp[go_sem,h1,e]
  ·simp[go_sem,h1,e]
section
variable {W0:World} {K:Act→Prop} {o:Oper} {a:Act}
end
theorem i64_byt{x:Nat}(h:x<256):IntKind.i64.wrap (x:Int)=(x:Int):=by rw[IntKind.wrap_i64];omega
def OQ(W:World)(B:Nat)(v:Value)(p:List (List Int)):Prop:=∃us,OP W B v us∧us.length=p.length∧∀(i:Nat) u l,us[i]?=some u→p[i]?=some l→RI (fun g=>B≤g∧v.ownBlock≠some g) W u l
section
variable {W W':World} {B:Nat} {v:Value} {p:List (List Int)}
theorem OQ.nil(W:World)(B:Nat):OQ W B (.slice none 0 0) []:=⟨[],World.ownsRow_nil W B _ 1,rfl,fun i u l hu=>by simp at hu⟩
theorem OQ.keep(h:OQ W B v p)(hs:W.heap.size≤W'.heap.size)(hk:∀g,B≤g→g<W.heap.size→W'.heap[g]?=W.heap[g]?):OQ W' B v p:=by
 obtain⟨us,h1,h2,h3⟩:=h;exact⟨us,h1.keep fun g hg=>hk g (h1.lt g hg).1 (h1.lt g hg).2,h2,fun i u l hu hl=>(h3 i u l hu hl).keep hs fun g hg hlt=>hk g hg.1 hlt⟩
theorem OQ.next(h:OQ W B v p)(hb:Below W.heap.size W W'):OQ W' B v p:=h.keep hb.size fun g _ hlt=>hb.block g hlt
theorem OQ.form(h:OQ W B v p):∃a c,v=.slice a p.length c:=by
 obtain⟨us,h1,h2,_⟩:=h;rcases h1.2 with⟨h3,h4⟩|⟨g,cap,cur,h3,_⟩
 ·exact⟨none,0,by rw[h3,←h2,h4]⟩
 ·exact⟨_,cap,by rw[h3,h2]⟩
theorem OQ.rl(h:OQ W B v p):RL (fun g=>B≤g) W v p:=by
 obtain⟨us,h1,h2,h3⟩:=h;rcases h1.2 with⟨h4,h5⟩|⟨g,cap,cur,h4,_⟩
 ·have:p=[]:=List.length_eq_zero_iff.1 (by omega);subst this;rw[h4];exact RL.nil _ _
 ·subst h4;have:=(h1.lt g rfl).1;rw[show(us.length:Nat)=us.length from rfl];exact h1.rl this h2 fun i u l hu hl=>(h3 i u l hu hl).mono fun _ h _ _=>h.1
end
def RB(W:World)(b:Nat)(v:Value):Prop:=W.heap[b]?=some (.cells #[v] 240 (0,0))
structure RR(W:World)(b:Nat)(r:List Nat):Prop where
 bl:∃v,RB W b v∧RY (fun g=>g<b) W v r
section
variable {W W':World} {b:Nat} {v:Value} {r:List Nat}
theorem RB.lt(H:RB W b v):b<W.heap.size:=(Array.getElem?_eq_some_iff.1 H).1
theorem RB.below'(H:RB W b v)(hb:Below W.heap.size W W'):RB W' b v:=(hb.block b H.lt).trans H
theorem RB.cell(H:RB W b v):W.cell? ⟨b,0,none⟩=some v:=(blk_cell (C:=[v]) H 0).trans rfl
theorem RB.fr(H:RB W b v):W.frozen? ⟨b,0,none⟩=false:=blk_fr (C:=[v]) H 0
theorem RB.put(H:RB W b v)(u:Value):RB (W.setCell ⟨b,0,none⟩ u) b u:=blk_set (C:=[v]) H 0 u
theorem RB.new(W:World)(v:Value):RB (W.alloc (.cells #[v] 240)) W.heap.size v:=World.alloc_heap_new W _
theorem RR.lt(h:RR W b r):b<W.heap.size:=by
 obtain⟨v,h1,_⟩:=h.bl;exact h1.lt
theorem RR.below'(h:RR W b r)(hb:Below W.heap.size W W'):RR W' b r:=by
 obtain⟨v,h1,h2⟩:=h.bl;exact⟨v,h1.below' hb,h2.below' hb⟩
theorem RR.kp{G:Nat→Prop}(h:RR W b r)(k:Kp G W W')(hG:∀i,i<W.heap.size→¬G i):RR W' b r:=h.below' (k.toBelow (Nat.le_refl _) hG)
theorem RR.far{G:Nat→Prop}(h:RR W b r)(k:Kp G W W')(hG:∀i,G i→b<i):RR W' b r:=by
 obtain⟨v,h1,h2⟩:=h.bl;exact⟨v,(k.block b h1.lt (fun e=>Nat.lt_irrefl _ (hG b e))).trans h1,h2.keep k.size fun g hg hlt=>k.block g hlt (fun e=>by have:=hG g e;omega)⟩
theorem RR.byt(h:RR W b r):Byt r:=by
 obtain⟨v,_,h2⟩:=h.bl;exact h2.1
end
theorem sliceY_three(aa:Option Addr)(La ac n:Nat)(w:World)(hn:n≤ac):(Instr.sliceAt 62 (.slice aa La ac) none (some (.int .i64 (n:Int))) (some (.int .i64 (n:Int)))).run Tryz.prog w=.ok (.slice aa n n) w:=by
 have h1:(n:Int)≤(ac:Int):=by omega
 cases aa<;>simp[go_sem,h1]
theorem RY.three{D:Nat→Prop}{W:World}{a:Option Addr}{n cap j:Nat}{l:List Nat}(h:RY D W (.slice a n cap) l)(hj:j≤l.length):RY D W (.slice a j j) (l.take j):=by
 obtain⟨hB,a',c,e,h1,h2,h3⟩:=h;cases e;have hlen:(l.take j).length=j:=by rw[List.length_take];omega
 refine⟨hB.take j,_,_,by rw[hlen],by omega,⟨by have:=h2.1;omega,fun e=>by have:=h2.2 e;omega⟩,?_⟩;rcases h3 with h3|⟨g',o',e,hd,hlt,h4⟩
 ·left;rw[h3];simp
 ·cases e
  exact .inr ⟨g',o',rfl,hd,hlt,fun i x hx=>h4 i x (by
   rw[List.getElem?_take]at hx;split at hx
   ·exact hx
   ·cases hx)⟩
section
variable {W:World} {b:Nat} {r:List Nat}
theorem ktake_no(h:RR W b r){n:Nat}(hn:r.length<n):Calls Tryz.prog 186 #[.pointer (some ⟨b,0,none⟩),.int .i64 (n:Int)] W fun e w'=>e=.returned (.tuple #[.slice none 0 0,.bool false])∧w'=W:=by
 obtain⟨v,h1,h2⟩:=h.bl;obtain⟨a,k,rfl,_,_,_⟩:=h2.form;have c0:=h1.cell;have q:(r.length:Int)<(n:Int):=by omega
 clear h h1 h2
 go_enter Tryz.func186,Tryz.ntmps186
 go_wp2
 go_ret2
 exact⟨rfl,rfl⟩
theorem ktake_yes(h:RR W b r){n:Nat}(hn:n≤r.length):Calls Tryz.prog 186 #[.pointer (some ⟨b,0,none⟩),.int .i64 (n:Int)] W fun e w'=>∃a,e=.returned (.tuple #[.slice a n n,.bool true])∧RY (fun g=>g<b) w' (.slice a n n) (r.take n)∧RR w' b (r.drop n)∧Kp (fun i=>i=b) W w':=by
 obtain⟨v,h1,h2⟩:=h.bl;obtain⟨a,k,rfl,hk,_,_⟩:=h2.form;have c0:=h1.cell;have f0:=h1.fr;have q:¬(r.length:Int)<(n:Int):=by omega
 have s1:=sliceY_three a r.length k n W (by omega);have s2:=sliceY_rest a r.length k n W hn;have kp:Kp (fun i=>i=b) W (W.setCell ⟨b,0,none⟩ (.slice (restA a k n) (r.length-n) (k-n))):=(Kp.refl (fun i=>i=b) W).set _ _ _ (fun _=>rfl)
 have HE:Hid (RY (fun g=>g<b) (W.setCell ⟨b,0,none⟩ (.slice (restA a k n) (r.length-n) (k-n))) (.slice a n n) (r.take n)∧RR (W.setCell ⟨b,0,none⟩ (.slice (restA a k n) (r.length-n) (k-n))) b (r.drop n)∧Kp (fun i=>i=b) W (W.setCell ⟨b,0,none⟩ (.slice (restA a k n) (r.length-n) (k-n)))):=
  ⟨(h2.three hn).keep kp.size fun g hg hlt=>kp.block g hlt (Nat.ne_of_lt hg),⟨_,h1.put _,(h2.rest hn).keep kp.size fun g hg hlt=>kp.block g hlt (Nat.ne_of_lt hg)⟩,kp⟩
 clear h h1 h2 kp;generalize restA a k n=ra at HE s2;generalize r.length-n=rn at HE s2;generalize k-n=rk at HE s2
 go_enter Tryz.func186,Tryz.ntmps186
 go_wp2
 go_ret2
 exact⟨a,rfl,HE.out⟩
end
def cvm(s:Sn)(c:Int)(n:Nn)(r:List Nat):Option (List Nat):=cvi s c n.m n.k n.b n.st r
def cvb(s:Sn)(c:Int)(n:Nn)(r:List Nat):Option (List Nat):=cnx (cvi s c (n.m-1)) n.k n.b n.st (ckd s (cvi s c (n.m-1)) n.k n.b n.st (lfs s n.st) (some r))
section
variable {s:Sn} {c:Int} {n:Nn} {r:List Nat}
theorem ok_m(h:n.ok s):n.m=n.m-1+1:=by
 have:=h.kl;unfold Nn.m;omega
theorem cvm_eq(h:n.ok s)(m:Nat):cvm s c n (m::r)=if 2<m∨(m=1∧lfs s n.st=[])∨(m=2∧lfs s n.st≠[])then none
  else if m≠1 then(if c≤lsv s n.k n.b n.st then some r else none)else cvb s c n r:=by
 unfold cvm;rw[ok_m h];exact cvs_cons (cvi s c (n.m-1)) m r
end
structure Lop(o:Option (List Nat))(mb:Nat)(W:World)(e:Ending)(w':World):Prop where
 kp:Kp (fun i=>i=mb) W w'
 out:(∃r,o=some r∧e=.returned (.bool true)∧RR w' mb r)∨(o=none∧e=.returned (.bool false))
structure Lin(W:World)(mb:Nat)(s:Sn)(n:Nn)(tb g:Nat)(vc vw vt:Value)(r:List Nat):Prop where
 tr:TC (fun i=>i≠mb) W tb s vc vw vt
 ok:n.ok s
 row:WR W g (wys s n)
 gm:g≠mb
 rr:RR W mb r
structure Vz(W wr:World)(mb:Nat)(s:Sn)(n:Nn)(tb g:Nat)(vc vw vt:Value)(r:List Nat):Prop where
 li:Lin wr mb s n tb g vc vw vt r
 nd:KN wr W.heap.size (kc s n g)
 qm:W.heap.size≠mb
 kp:Kp (fun i=>i=mb) W wr
section
variable {W wr w':World} {mb tb g:Nat} {s:Sn} {n:Nn} {vc vw vt:Value} {r r':List Nat} {c:Int}
theorem Lin.next(h:Lin W mb s n tb g vc vw vt r)(hb:Below W.heap.size W w'):Lin w' mb s n tb g vc vw vt r:=⟨h.tr.below' hb,h.ok,h.row.below' hb,h.gm,h.rr.below' hb⟩
theorem Lin.kp(h:Lin W mb s n tb g vc vw vt r)(k:Kp (fun i=>i=mb) W w')(hr:RR w' mb r'):Lin w' mb s n tb g vc vw vt r':=⟨h.tr.kp k (fun _ h=>h),h.ok,h.row.kp k h.gm,h.gm,hr⟩
theorem Vz.next(h:Vz W wr mb s n tb g vc vw vt r)(hb:Below wr.heap.size wr w'):Vz W w' mb s n tb g vc vw vt r:=⟨h.li.next hb,h.nd.below' hb,h.qm,h.kp.thenBelow hb⟩
theorem Vz.look(h:Vz W wr mb s n tb g vc vw vt r)(k:Kp (fun i=>i=mb) wr w')(hr:RR w' mb r'):Vz W w' mb s n tb g vc vw vt r':=⟨h.li.kp k hr,h.nd.kp k h.qm,h.qm,h.kp.trans k (fun _ _ h=>h)⟩
theorem Vz.new(h:Lin W mb s n tb g vc vw vt r):Vz W (W.alloc (.cells (kc s n g).toArray 286)) mb s n tb g vc vw vt r:=
 ⟨h.next ((Below.refl _ _).alloc (Nat.le_refl _) _),KN.new W (kc_length s n g),by have:=h.rr.lt;omega,(Kp.refl _ W).alloc _⟩
end
def be(l:List Nat):Int:=l.foldl (fun a (x:Nat)=>256*a+(x:Int)) 0
def rds(b:List Nat)(x:List (List Int)×Nat):Option (List (List Int)×Nat):=
 b[x.2]?.bind fun n=>if b.length<x.2+1+n then none else some (x.1++[((b.drop (x.2+1)).take n).map fun (x:Nat)=>(x:Int)],x.2+n+1)
def rdk(b:List Nat):Nat→Option (List (List Int)×Nat)
 |0=>some ([],9)
 |k+1=>(rdk b k).bind (rds b)
theorem rdk_none{b:List Nat}{k:Nat}(h:rdk b k=none):∀j,rdk b (k+j)=none
 |0=>h
 |j+1=>by
  show(rdk b (k+j)).bind (rds b)=none;rw[rdk_none h j];rfl
theorem rdk_out{b:List Nat}{k a:Nat}{p:List (List Int)}(h:rdk b k=some (p,a))(ha:b.length≤a):rdk b (k+1)=none:=by
 show(rdk b k).bind (rds b)=none;rw[h,Option.bind_some];unfold rds;rw[List.getElem?_eq_none ha]
 rfl
theorem rdk_long{b:List Nat}{k a n:Nat}{p:List (List Int)}(h:rdk b k=some (p,a))(ha:b[a]?=some n)(hn:b.length<a+1+n):rdk b (k+1)=none:=by
 show(rdk b k).bind (rds b)=none;rw[h,Option.bind_some];unfold rds;rw[ha,Option.bind_some,if_pos hn]
theorem rdk_next{b:List Nat}{k a n:Nat}{p:List (List Int)}(h:rdk b k=some (p,a))(ha:b[a]?=some n)(hn:a+1+n≤b.length):rdk b (k+1)=some (p++[((b.drop (a+1)).take n).map fun (x:Nat)=>(x:Int)],a+n+1):=by
 show(rdk b k).bind (rds b)=_;rw[h,Option.bind_some];unfold rds;rw[ha,Option.bind_some,if_neg (by show¬b.length<a+1+n;omega)]
theorem rdk_form{b:List Nat}(hb:9≤b.length):∀{k a:Nat} {p:List (List Int)},rdk b k=some (p,a)→p.length=k∧9≤a∧a≤b.length
 |0,a,p,h=>by cases h;exact⟨rfl,Nat.le_refl _,hb⟩
 |k+1,a,p,h=>by
  cases hk:rdk b k with
  |none=>rw[show rdk b (k+1)=(rdk b k).bind (rds b)from rfl,hk]at h;cases h
  |some x=>
   obtain⟨q,c⟩:=x;obtain⟨h1,h2,h3⟩:=rdk_form hb hk;cases hc:b[c]? with
   |none=>rw[rdk_out hk (by rw[List.getElem?_eq_none_iff]at hc;exact hc)]at h;cases h
   |some n=>
    by_cases hn:b.length<c+1+n
    ·rw[rdk_long hk hc hn]at h;cases h
    ·rw[rdk_next hk hc (by omega)]at h;cases h;exact⟨by rw[List.length_append,h1];rfl,by omega,by omega⟩
structure Clm where
 best:Bool
 cost:Int
 plan:List (List Int)
def clm0:Clm:=⟨false,0,[]⟩
def rdc(n:Nat)(b:List Nat):Option (Clm×Nat):=
 if b.length<9∨1<b[0]?.getD 0∨1099511627776<be ((b.drop 1).take 8)then none
 else match rdk b n with
  |none=>none
  |some (p,a)=>if b[0]?.getD 0=1∨a=b.length then some (⟨decide (b[0]?.getD 0=1),be ((b.drop 1).take 8),p⟩,a)else none
def mrk(s:Sn)(c:Int)(r:List Nat):Bool:=cvi s c (s.cs.length+s.ws.length) 0 (List.replicate s.cs.length []) (List.replicate s.ws.length false) r==some []
def ckw(s:Sn)(b:List Nat):Nat×Clm:=
 if rgt s=true then
  match rdc s.cs.length b with
  |none=>(3,clm0)
  |some (x,a)=>if fsb s x.plan=true then
    (if RM.cst s.st s.ws s.cs x.plan=x.cost then
     (if x.best=true∧mrk s x.cost (b.drop a)=false then(10,clm0)else(0,x))else(10,clm0))else(9,clm0)
 else(1,clm0)
section
section
variable {s:Sn} {B:Nat}
end
end
def JB(W:World)(b:Nat)(ok:Bool)(co:Int)(vp:Value):Prop:=W.heap[b]?=some (.cells #[.bool ok,.int .i64 co,vp] 192 (0,0))
section
variable {W W':World} {b:Nat} {vp:Value} {co:Int} {ok:Bool}
theorem JB.lt(H:JB W b ok co vp):b<W.heap.size:=(Array.getElem?_eq_some_iff.1 H).1
theorem JB.below'(H:JB W b ok co vp)(hb:Below W.heap.size W W'):JB W' b ok co vp:=(hb.block b H.lt).trans H
theorem JB.kp{G:Nat→Prop}(H:JB W b ok co vp)(k:Kp G W W')(hG:¬G b):JB W' b ok co vp:=(k.block b H.lt hG).trans H
theorem JB.new(W:World)(ok:Bool)(co:Int)(vp:Value):JB (W.alloc (.cells #[.bool ok,.int .i64 co,vp] 192)) W.heap.size ok co vp:=World.alloc_heap_new W _
theorem JB.cell(H:JB W b ok co vp)(i:Nat):W.cell? ⟨b,i,none⟩=[Value.bool ok,.int .i64 co,vp][i]?:=blk_cell H i
theorem JB.fr(H:JB W b ok co vp)(i:Nat):W.frozen? ⟨b,i,none⟩=false:=blk_fr H i
end
theorem infoJ:(Tryz.prog.info? 192).map (·.size)=some 3:=by kernel_rfl
theorem kp_rowJ(w:World)(b:Nat)(cs:Array Value):Kp (fun k=>k=b) w (w.setRow b cs):=⟨rfl,rfl,rfl,by simp[World.setRow],fun k _ hk=>setRow_other w b k cs hk⟩
theorem wpList_storeJ{ops:Array Oper}{rest:List Oper}{op:Oper}{a:Act}{w:World}{Q:Exit→Act→World→Prop}(hgd:op.guard=none)(x y:Operand)(ho:op.op=.store 192 x y)
  (b:Nat) {vp:Value} {co:Int} {ok:Bool} {a1:Option Addr} {n1 c1:Nat} {co':Int} {ok':Bool} (hx:a.eval x=.pointer (some ⟨b,0,none⟩)) (hy:a.eval y=.agg #[.bool ok',.int .i64 co',.slice a1 n1 c1]) (hL:JB w b ok co vp)
  (hn:∀W',Kp (fun k=>k=b) w W'→JB W' b ok' co' (.slice a1 n1 c1)→wpList Tryz.prog ops Q rest (a.put op.dst undef) W'):wpList Tryz.prog ops Q (op::rest) a w:=
 wpList_store_row hgd 192 x y ho b _ hx hy _ _ hL infoJ rfl (by simp[Value.oneCell']) (hn _ (kp_rowJ w b _) (setRow_heap w b _ _ _ _ hL))
theorem wpList_loadJ{ops:Array Oper}{rest:List Oper}{op:Oper}{a:Act}{w:World}{Q:Exit→Act→World→Prop}(hgd:op.guard=none)(x:Operand)(ho:op.op=.load 192 x)(b:Nat){vp:Value}{co:Int}{ok:Bool}(hx:a.eval x=.pointer (some ⟨b,0,none⟩))(H:JB w b ok co vp)
  (hn:wpList Tryz.prog ops Q rest (a.put op.dst (.agg #[.bool ok,.int .i64 co,vp])) w):wpList Tryz.prog ops Q (op::rest) a w:=
 wpList_load_row hgd 192 x ho b hx _ _ _ _ H Tryz.underlying192 rfl infoJ hn
theorem retJ2{fn:Func}{p t:Tmp}(hf:fn.results= #[.cell p 192,.tmp t]){tmps:Array Value}{w:World}{b:Nat}{vp:Value}{co:Int}{ok:Bool}{u:Value}(hp:tmps.getD p undef=.pointer (some ⟨b,0,none⟩))(ht:tmps.getD t undef=u)(H:JB w b ok co vp):
  (results fn tmps).run Tryz.prog w=.ok (.tuple #[.agg #[.bool ok,.int .i64 co,vp],u]) w:=by
 have hp':tmps[p]?.getD undef=.pointer (some ⟨b,0,none⟩):=by simpa using hp
 have ht':tmps[t]?.getD undef=u:=by simpa using ht
 have H':w.heap[b]?=some (.cells #[.bool ok,.int .i64 co,vp] 192 (0,0)):=H;simp[results,hf,hp',ht',asAddr,run_loadVar_row w b 192 192 _ _ _ H' Tryz.underlying192 rfl infoJ]
theorem rdk_len{b:List Nat}(hb:Byt b):∀{k a:Nat} {p:List (List Int)},rdk b k=some (p,a)→∀l∈p,l.length≤255
 |0,a,p,h=>by
  cases h;intro l hl;simp at hl
 |k+1,a,p,h=>by
  cases hk:rdk b k with
  |none=>rw[show rdk b (k+1)=(rdk b k).bind (rds b)from rfl,hk]at h;cases h
  |some x=>
   obtain⟨q,c⟩:=x;have ih:=rdk_len hb hk;cases hc:b[c]? with
   |none=>rw[rdk_out hk (by rw[List.getElem?_eq_none_iff]at hc;exact hc)]at h;cases h
   |some n=>
    by_cases hn:b.length<c+1+n
    ·rw[rdk_long hk hc hn]at h;cases h
    ·rw[rdk_next hk hc (by omega)]at h;cases h;intro l hl;rw[List.mem_append,List.mem_singleton]at hl;rcases hl with hl|hl
     ·exact ih l hl
     ·have:=hb n (List.mem_of_getElem? hc);rw[hl,List.length_map,List.length_take];omega
theorem rdc_some{n:Nat}{b:List Nat}{c:Clm}{a:Nat}(h:rdc n b=some (c,a)):9≤b.length∧rdk b n=some (c.plan,a):=by
 unfold rdc at h;split at h
 ·cases h
 ·rename_i hno;cases hk:rdk b n with
  |none=>rw[hk]at h;cases h
  |some x=>
   obtain⟨p,a'⟩:=x;rw[hk]at h;dsimp only at h;split at h
   ·cases h;exact⟨by omega,rfl⟩
   ·cases h
structure CkP(s:Sn)(b:List Nat)(w:World)(e:Ending)(w':World):Prop where
 bel:Below w.heap.size w w'
 out:∃vp,e=.returned (.tuple #[.agg #[.bool (ckw s b).2.best,.int .i64 (ckw s b).2.cost,vp],.int .i64 ((ckw s b).1:Int)])∧RL (fun g=>w.heap.size≤g) w' vp (ckw s b).2.plan
theorem CkP.no{s:Sn}{b:List Nat}{w w':World}{n:Nat}(h:ckw s b=(n,clm0))(hb:Below w.heap.size w w'):CkP s b w (.returned (.tuple #[.agg #[.bool false,.int .i64 0,.slice none 0 0],.int .i64 (n:Int)])) w':=⟨hb,.slice none 0 0,by rw[h];rfl,by rw[h];exact RL.nil _ _⟩
theorem CkP.yes{s:Sn}{b:List Nat}{w w':World}{vp:Value}{c:Clm}(h:ckw s b=(0,c))(hb:Below w.heap.size w w')(hr:RL (fun g=>w.heap.size≤g) w' vp c.plan):CkP s b w (.returned (.tuple #[.agg #[.bool c.best,.int .i64 c.cost,vp],.int .i64 0])) w':=⟨hb,vp,by rw[h];rfl,by rw[h];exact hr⟩
def ben(l:List Nat):Nat:=l.foldl (fun a x=>a*256+x) 0
theorem ben_snoc(l:List Nat)(x:Nat):ben (l++[x])=ben l*256+x:=by unfold ben;rw[List.foldl_append];rfl
theorem ben_be(l:List Nat):be l=(ben l:Int):=by
 unfold be ben
 have:∀(l:List Nat) (a:Nat),l.foldl (fun a (x:Nat)=>256*a+(x:Int)) (a:Int)=((l.foldl (fun a x=>a*256+x) a:Nat):Int):=by
  intro l
  induction l with
  |nil=>intro a;rfl
  |cons x l ih=>
   intro a;rw[List.foldl_cons,List.foldl_cons,←ih]
   congr 1
   omega
 exact this l 0
theorem ben_lt{l:List Nat}(hl:Byt l):∀k,k≤l.length→ben (l.take k)<256^k
 |0,_=>by simp[ben]
 |k+1,h=>by
  obtain⟨x,hx⟩:∃x,l[k]?=some x:=⟨_,List.getElem?_eq_getElem (by omega)⟩;have ih:=ben_lt hl k (by omega);have:=hl x (List.mem_of_getElem? hx);rw[take_snoc hx,ben_snoc,Nat.pow_succ];omega
theorem or8(x y:Nat)(hy:y<256)(hx:x<72057594037927936):bits .or .u64 ((x:Int)*256) (y:Int)=((x*256+y:Nat):Int):=by
 have h1:(x*256)|||y=x*256+y:=by
  have:=Nat.two_pow_add_eq_or_of_lt (i:=8) hy x;rw[show 2^8*x=x*256 by omega]at this;exact this.symm
 rw[show(x:Int)*256=((x*256:Nat):Int) by omega];show IntKind.u64.wrap ((BitVec.ofInt 64 ((x*256:Nat):Int)|||BitVec.ofInt 64 (y:Int)).toNat:Nat)=_;rw[BitVec.toNat_or,BitVec.ofInt_natCast,BitVec.ofInt_natCast,BitVec.toNat_ofNat,BitVec.toNat_ofNat,Nat.mod_eq_of_lt (by omega),Nat.mod_eq_of_lt (by omega),h1,IntKind.wrap_u64];omega
section
variable {W:World} {b:Nat} {r:List Nat}
theorem kcostr_short(h:RR W b r)(hn:r.length<8):Calls Tryz.prog 187 #[.pointer (some ⟨b,0,none⟩)] W fun e w'=>e=.returned (.tuple #[.int .i64 0,.bool false])∧Kp (fun i=>i=b) W w':=by
 have HTK:=Hd (ktake_no h (n:=8) hn);clear h hn
 go_enter Tryz.func187,Tryz.ntmps187
 go_wp2_with fail
 refine HTK.out.mono ?_;rintro e W2 ⟨rfl,rfl⟩
 go_wp2_with fail
 go_loopw [6,16] (fun cv iv wr=>cv=.int .u64 0∧iv=.int .i64 0∧Hid (wr=W2)) (fun _ _ _=>0)
 case atStart=>exact⟨rfl,rfl,rfl⟩
 case round=>
  obtain⟨rfl,rfl,HW⟩:=hrel;go_wp2
  go_ret2
  exact⟨rfl,by rw[HW.out];exact Kp.refl _ _⟩
structure Rz3(W wr:World)(b:Nat)(a:Option Addr)(r:List Nat):Prop where
 by8:RY (fun g=>g<b) wr (.slice a 8 8) (r.take 8)
 rr:RR wr b (r.drop 8)
 kp:Kp (fun i=>i=b) W wr
theorem kcostr_any(h:RR W b r)(hn:8≤r.length):Calls Tryz.prog 187 #[.pointer (some ⟨b,0,none⟩)] W fun e w'=>Kp (fun i=>i=b) W w'∧((1099511627776<be (r.take 8)∧e=.returned (.tuple #[.int .i64 0,.bool false]))∨(be (r.take 8)≤1099511627776∧e=.returned (.tuple #[.int .i64 (be (r.take 8)),.bool true])∧RR w' b (r.drop 8))):=by
 have HTK:=Hd (ktake_yes h (n:=8) hn);have HBY:=Hd (h.byt.take 8);have HL8:Hid ((r.take 8).length=8):=by show _=_;rw[List.length_take];omega
 rw[ben_be];clear h hn
 go_enter Tryz.func187,Tryz.ntmps187
 go_wp2_with fail
 refine HTK.out.mono ?_;rintro e W2 ⟨a,rfl,h1,h2,h3⟩;have HZ0:Hid (Rz3 W W2 b a r):=⟨h1,h2,h3⟩;clear h1 h2 h3 HTK;generalize hl:r.take 8=l at HBY HL8;have HL:=Hd hl;clear hl
 go_wp2_with fail
 go_loopw [6,16] (fun cv iv wr=>∃i:Nat,i≤8∧cv=.int .u64 (ben (l.take i):Int)∧iv=.int .i64 (i:Int)∧Hid (Rz3 W wr b a r)) (fun _ iv _=>8-(intOf iv).toNat)
 case atStart=>exact⟨0,by omega,rfl,rfl,HZ0⟩
 case round=>
  clear HZ0;obtain⟨i,hi,rfl,rfl,HZ⟩:=hrel;by_cases hlt:i<8
  ·have hiz:(i:Int)<8:=by omega
   obtain⟨x,hx⟩:∃x,l[i]?=some x:=⟨_,List.getElem?_eq_getElem (by rw[HL8.out];exact hlt)⟩;have hb:=HZ.out.by8;rw[HL.out]at hb;obtain⟨g,o,ha,hc⟩:=hb.at hx;subst ha;have hxb:x<256:=HBY.out x (List.mem_of_getElem? hx)
   have hlt56:ben (l.take i)<72057594037927936:=by
    have h1:=ben_lt HBY.out i (by rw[HL8.out];omega);have h2:256^i≤256^7:=Nat.pow_le_pow_right (by omega) (by omega);have h3:(256:Nat)^7=72057594037927936:=by decide
    omega
   have HNX:Hid (ben (l.take (i+1))=ben (l.take i)*256+x):=by show _=_;rw[take_snoc hx,ben_snoc]
   have hsh:IntKind.u64.wrap ((ben (l.take i):Int)*256)=(ben (l.take i):Int)*256:=by rw[IntKind.wrap_u64];omega
   have hor:=or8 (ben (l.take i)) x hxb hlt56;have hwx:IntKind.u64.wrap (x:Int)=(x:Int):=by rw[IntKind.wrap_u64];omega
   rw[←HNX.out]at hor;generalize ben (l.take i)=c at hsh hor;generalize hd:ben (l.take (i+1))=d at hor;have HD:=Hd hd.symm;clear hx hb hlt56 hxb HNX hd;go_wp2;go_roundw
   case rel=>exact⟨i+1,by omega,by rw[HD.out],by go_num,HZ⟩
   case measure=>simp[intOf];omega
  ·have hiz:¬(i:Int)<8:=by omega
   have hie:l.take i=l:=List.take_of_length_le (by rw[HL8.out];omega);rw[hie];by_cases hbig:1099511627776<ben l
   ·have q:(1099511627776:Int)<(ben l:Int):=by omega
    clear hie;go_wp2
    go_ret2
    exact⟨HZ.out.kp,.inl ⟨by rw[HL.out];exact q,rfl⟩⟩
   ·have q:¬(1099511627776:Int)<(ben l:Int):=by omega
    have hw:IntKind.i64.wrap (ben l:Int)=(ben l:Int):=IntWalk.i64_in _ (by omega);have HQ:Hid ((ben l:Int)≤1099511627776):=by show _≤_;omega
    clear hie hbig;go_wp2
    go_ret2
    exact⟨HZ.out.kp,.inr ⟨by rw[HL.out];exact HQ.out,by rw[HL.out];rfl,HZ.out.rr⟩⟩
end
def lrd(r:List Nat)(n i:Nat):List Int:=((r.take i).map fun (x:Nat)=>(x:Int))++List.replicate (n-i) 0
theorem lrd_zero(r:List Nat)(n:Nat):lrd r n 0=List.replicate n 0:=by simp[lrd]
theorem lrd_end(r:List Nat)(n:Nat):lrd r n n=(r.take n).map fun (x:Nat)=>(x:Int):=by simp[lrd]
theorem lrd_at{r:List Nat}{n i:Nat}(hi:i<n)(hr:n≤r.length):(lrd r n i)[i]?=some 0:=by
 unfold lrd;rw[List.getElem?_append_right (by simp;omega),List.getElem?_replicate,if_pos (by simp;omega)]
theorem lrd_succ{r:List Nat}{n i x:Nat}(hi:i<n)(hr:n≤r.length)(hx:r[i]?=some x):(lrd r n i).set i (x:Int)=lrd r n (i+1):=by
 unfold lrd;rw[List.set_append_right _ _ (by simp;omega),take_snoc hx,List.map_append,List.append_assoc];have e:i-((r.take i).map fun (x:Nat)=>(x:Int)).length=0:=by simp;omega
 rw[e,show n-i=(n-(i+1))+1 by omega,List.replicate_succ,List.set_cons_zero]
 rfl
structure Lz4(W wr:World)(b g n:Nat)(a:Option Addr)(r:List Nat)(i:Nat):Prop where
 oi:OI wr W.heap.size (.slice (some ⟨g,0,none⟩) n n) (lrd r n i)
 ry:RY (fun k=>k<g) wr (.slice a n n) (r.take n)
 rr:RR wr b (r.drop n)
 kp:Kp (fun i=>i=b) W wr
 g1:W.heap.size≤g
section
variable {W:World} {b:Nat} {r:List Nat}
theorem Lz4.put{wr:World}{g n i x:Nat}{a:Option Addr}(h:Lz4 W wr b g n a r i)(hi:i<n)(hr:n≤r.length)(hx:r[i]?=some x)(hb:b<W.heap.size):Lz4 W (wr.setCell ⟨g,i,none⟩ (.int .i64 (x:Int))) b g n a r (i+1):=by
 have kp:Kp (fun k=>k=g) wr (wr.setCell ⟨g,i,none⟩ (.int .i64 (x:Int))):=(Kp.refl (fun k=>k=g) wr).set _ _ _ (fun _=>rfl);have h1:=h.oi.put i (x:Int);rw[lrd_succ hi hr hx]at h1;have hg:=h.g1;exact⟨h1,h.ry.keep kp.size fun k hk hlt=>kp.block k hlt (by omega),h.rr.far kp (fun i e=>by omega),h.kp.set _ _ _ (fun h=>by omega),hg⟩
theorem klist_nil(h:RR W b []):Calls Tryz.prog 188 #[.pointer (some ⟨b,0,none⟩)] W fun e w'=>(∃a k c,e=.returned (.tuple #[.slice a k c,.bool false]))∧Kp (fun i=>i=b) W w':=by
 have HTK:=Hd (ktake_no h (n:=1) (by simp));clear h
 go_enter Tryz.func188,Tryz.ntmps188
 go_wp2_with fail
 refine HTK.out.mono ?_;rintro e W2 ⟨rfl,rfl⟩;go_wp2
 go_ret2
 exact⟨⟨_,_,_,rfl⟩,Kp.refl _ _⟩
theorem klist_short{n:Nat}(h:RR W b (n::r))(hn:r.length<n):Calls Tryz.prog 188 #[.pointer (some ⟨b,0,none⟩)] W fun e w'=>(∃a k c,e=.returned (.tuple #[.slice a k c,.bool false]))∧Kp (fun i=>i=b) W w':=by
 have HTK:=Hd (ktake_yes h (n:=1) (by simp));have hw:=i64_byt (h.byt n (by simp));clear h
 go_enter Tryz.func188,Tryz.ntmps188
 go_wp2_with fail
 refine HTK.out.mono ?_;rintro e W2 ⟨a,rfl,h1,h2,h3⟩;obtain⟨g,o,rfl,hc⟩:=h1.at (i:=0) (x:=n) rfl;have c0:W2.cell? ⟨g,o,none⟩=some (.int .u8 (n:Int)):=hc;have HTK2:=Hd (ktake_no h2 hn);have HK:=Hd h3;clear h1 h2 h3 hc HTK
 go_wp2_with fail
 refine HTK2.out.mono ?_;rintro e W3 ⟨rfl,rfl⟩;have hmk:∀W:World,(Instr.makeSlice 52 (.int .i64 0) (.int .i64 0)).run Tryz.prog W=.ok (.slice (some ⟨W.heap.size,0,none⟩) 0 0) (W.alloc (.cells #[] 3)):=fun W=>mkI 0 (by omega) W;have HK2:Hid (Kp (fun i=>i=b) W (W3.alloc (.cells #[] 3))):=HK.out.alloc _
 go_wp2_with fail
 generalize W3.alloc (.cells #[] 3)=W4 at HK2⊢
 go_loopw [31] (fun iv wr=>iv=.int .i64 0∧Hid (wr=W4)) (fun _ _=>0)
 case atStart=>exact⟨rfl,rfl⟩
 case round=>
  obtain⟨rfl,HW⟩:=hrel;go_wp2
  go_ret2
  exact⟨⟨_,_,_,rfl⟩,by rw[HW.out];exact HK2.out⟩
theorem klist_yes{n:Nat}(h:RR W b (n::r))(hn:n≤r.length):Calls Tryz.prog 188 #[.pointer (some ⟨b,0,none⟩)] W fun e w'=>∃g,e=.returned (.tuple #[.slice (some ⟨g,0,none⟩) n n,.bool true])∧W.heap.size≤g∧RI (fun k=>k=g) w' (.slice (some ⟨g,0,none⟩) n n) ((r.take n).map fun (x:Nat)=>(x:Int))∧RR w' b (r.drop n)∧Kp (fun i=>i=b) W w':=by
 have HTK:=Hd (ktake_yes h (n:=1) (by simp));have hn8:=h.byt n (by simp);have hw:=i64_byt hn8;have hbl:=h.lt;have HBY:Hid (Byt r):=fun x hx=>h.byt x (by simp[hx]);clear h
 go_enter Tryz.func188,Tryz.ntmps188
 go_wp2_with fail
 refine HTK.out.mono ?_;rintro e W2 ⟨a,rfl,h1,h2,h3⟩;obtain⟨g,o,rfl,hc⟩:=h1.at (i:=0) (x:=n) rfl;have c0:W2.cell? ⟨g,o,none⟩=some (.int .u8 (n:Int)):=hc;have h2:RR W2 b r:=h2;have HTK2:=Hd (ktake_yes h2 hn);have HK:=Hd h3;clear h1 h2 h3 hc HTK
 go_wp2_with fail
 refine HTK2.out.mono ?_;rintro e W3 ⟨a2,rfl,h1,h2,h3⟩;have HK3:=Hd (HK.out.trans h3 (fun _ _ h=>h));have hmk:=mkI n (by omega);have hbA:=(Below.refl W3.heap.size W3).alloc (Nat.le_refl _) (.cells (List.replicate n (Value.int .i64 0)).toArray 3);have hic:ic (List.replicate n 0)=List.replicate n (Value.int .i64 0):=by unfold ic;rw[List.map_replicate]
 have HZ0:Hid (Lz4 W (W3.alloc (.cells (List.replicate n (Value.int .i64 0)).toArray 3)) b W3.heap.size n a2 r 0):=by
  have h4:=OI.lit (B:=W.heap.size) W3 (List.replicate n 0) HK3.out.size (by simp;unfold maxLen;omega);rw[hic,List.length_replicate]at h4;refine⟨by rw[lrd_zero];exact h4,?_,h2.below' hbA,HK3.out.alloc _,HK3.out.size⟩;exact(h1.mono fun k hk hlt _=>hlt).below' hbA
 clear h1 h2 h3 hbA hic HK HK3 HTK2 c0
 go_wp2_with fail
 clear hmk;rw[List.toArray_replicate]at HZ0;generalize W3.alloc (.cells (Array.replicate n (Value.int .i64 0)) 3)=W4 at HZ0⊢;generalize W3.heap.size=gl at HZ0⊢
 go_loopw [31] (fun iv wr=>∃i:Nat,i≤n∧iv=.int .i64 (i:Int)∧Hid (Lz4 W wr b gl n a2 r i)) (fun iv _=>n-(intOf iv).toNat)
 case atStart=>exact⟨0,by omega,rfl,HZ0⟩
 case round=>
  clear HZ0;obtain⟨i,hi,rfl,HZ⟩:=hrel;by_cases hlt:i<n
  ·have hiz:(i:Int)<(n:Int):=by omega
   obtain⟨x,hx⟩:∃x,r[i]?=some x:=⟨_,List.getElem?_eq_getElem (by omega)⟩;have hxt:(r.take n)[i]?=some x:=by rw[List.getElem?_take,if_pos hlt];exact hx
   obtain⟨gy,oy,ha,hc⟩:=HZ.out.ry.at hxt;subst ha;have hwx:=i64_byt (HBY.out x (List.mem_of_getElem? hx));have d0:wr.cell? ⟨gl,i,none⟩=some (.int .i64 0):=HZ.out.oi.cell (lrd_at hlt hn);have f0:=HZ.out.oi.fr i;have HZ2:=Hd (HZ.out.put hlt hn hx hbl);clear hx hxt HZ;go_wp2;go_roundw
   case rel=>exact⟨i+1,by omega,by go_num,HZ2⟩
   case measure=>simp[intOf];omega
  ·have hiz:¬(i:Int)<(n:Int):=by omega
   have hie:i=n:=by omega
   rw[hie]at HZ;have ho:=HZ.out.oi;rw[lrd_end,List.map_take]at ho;have HO:=Hd ho;clear hie ho;go_wp2
   go_ret2
   exact⟨gl,rfl,HZ.out.g1,HO.out.ri fun k hk=>by simpa[Value.ownBlock]using hk.symm,HZ.out.rr,HZ.out.kp⟩
end
end Go.Proofs.YtlajleogofmkcaaGreat
