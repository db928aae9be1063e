import Derived.Test.YtlajleogofmkcaaGreatQ3
import Derived.RangeFuncBound
import Derived.Shelf.RegionOpen
import Derived.TacticsInMore
import Derived.LoopNIn
import Derived.LoopIn
import Derived.OwnWalkIn
set_option maxHeartbeats 8000000
set_option maxRecDepth 100000
namespace Go.Proofs.YtlajleogofmkcaaGreat
open Go.RowKit Go.Shelf
attribute [local go_sem] Oper.semAt_some
namespace RM
def st1(s:St)(ws:List (Int×Int)):Sp→List Int→List (Int×Sp)
 |_,[]=>[]
 |a,x::l=>(x,nx s a (wf ws x))::st1 s ws (nx s a (wf ws x)) l
def stp(s:St)(ws:List (Int×Int)):List (Int×Int)→List (List Int)→List (Int×Sp)
 |r::cs,l::p=>st1 s ws (bg r) l++stp s ws cs p
 |_,_=>[]
section
variable {s:St} {ws:List (Int×Int)}
theorem nx_he(a:Sp)(f:Int):(nx s a f).he=ar s a f:=by
 unfold nx ar;split<;>rfl
theorem st1_pr:∀(l:List Int) (a:Sp),(st1 s ws a l).map (fun x=>(x.1,x.2.he))=l.zip (tm s a (l.map (wf ws)))
 |[],_=>rfl
 |x::l,a=>by
  show(x,(nx s a (wf ws x)).he)::(st1 s ws (nx s a (wf ws x)) l).map _=(x,ar s a (wf ws x))::l.zip _;rw[st1_pr l,nx_he]
theorem stp_prs:∀(cs:List (Int×Int)) (p:List (List Int)),(stp s ws cs p).map (fun x=>(x.1,x.2.he))=prs s ws cs p
 |r::cs,l::p=>by
  show(st1 s ws (bg r) l++stp s ws cs p).map _=pr1 s ws r l++prs s ws cs p;rw[List.map_append,stp_prs cs p,st1_pr];rfl
 |[],_=>by simp[stp,prs]
 |_::_,[]=>rfl
theorem st1_snoc:∀(l:List Int) (x:Int) (a:Sp),st1 s ws a (l++[x])=st1 s ws a l++[(x,nx s (go s a (l.map (wf ws))) (wf ws x))]
 |[],_,_=>rfl
 |y::l,x,a=>by
  show _::st1 s ws _ (l++[x])=_::(st1 s ws _ l++_);rw[st1_snoc l x];rfl
theorem st1_take{l:List Int}{j:Nat}{x:Int}(h:l[j]?=some x)(a:Sp):st1 s ws a (l.take (j+1))=st1 s ws a (l.take j)++[(x,nx s (go s a ((l.take j).map (wf ws))) (wf ws x))]:=by
 rw[List.take_add_one,h,Option.toList_some,st1_snoc]
theorem st1_pre:∀{l:List Int} {j:Nat} (a:Sp),st1 s ws a (l.take j)<+:st1 s ws a l
 |[],j,a=>by rw[List.take_nil];exact List.prefix_rfl
 |x::l,0,a=>List.nil_prefix
 |x::l,j+1,a=>by
  show _::_<+:_::_;exact(List.prefix_cons_inj _).2 (st1_pre _)
theorem stp_append:∀{cs cs':List (Int×Int)} {p p':List (List Int)},cs.length=p.length→stp s ws (cs++cs') (p++p')=stp s ws cs p++stp s ws cs' p'
 |[],_,[],_,_=>rfl
 |[],_,_::_,_,h=>by simp at h
 |_::_,_,[],_,h=>by simp at h
 |r::cs,cs',l::p,p',h=>by
  show st1 s ws (bg r) l++stp s ws (cs++cs') (p++p')=st1 s ws (bg r) l++stp s ws cs p++stp s ws cs' p';rw[stp_append (by simpa using h),List.append_assoc]
def stk(s:St)(ws cs:List (Int×Int))(p:List (List Int))(k:Nat):List (Int×Sp):=stp s ws (cs.take k) (p.take k)
variable {cs:List (Int×Int)} {p:List (List Int)} {k:Nat} {r:Int×Int} {l:List Int}
theorem stk_succ(hl:cs.length=p.length)(hr:cs[k]?=some r)(hp:p[k]?=some l):stk s ws cs p (k+1)=stk s ws cs p k++st1 s ws (bg r) l:=by
 unfold stk;rw[List.take_add_one,List.take_add_one,hr,hp,Option.toList_some,Option.toList_some,stp_append (by rw[List.length_take,List.length_take,hl])]
 congr 1
 show st1 s ws (bg r) l++[]=_;rw[List.append_nil]
theorem stk_all(hl:cs.length=p.length)(hk:p.length≤k):stk s ws cs p k=stp s ws cs p:=by
 unfold stk;rw[List.take_of_length_le (by omega),List.take_of_length_le hk]
theorem stk_pre(hl:cs.length=p.length):stk s ws cs p k<+:stp s ws cs p:=by
 have e:stp s ws cs p=stp s ws (cs.take k++cs.drop k) (p.take k++p.drop k):=by rw[List.take_append_drop,List.take_append_drop]
 rw[e,stp_append (by rw[List.length_take,List.length_take,hl])];exact List.prefix_append _ _
end
end RM
structure Sq(W:World)(c1 c2:Nat)(s:Sn)(vc vw vp:Value)(p:List (List Int))(G:Nat→Prop):Prop where
 nb:NB W c2 s.st vc vw
 pc:W.heap[c1]?=some (.cells #[vp] 150 (0,0))
 rc:R2 G W vc s.cs
 rw:R2 G W vw s.ws
 rp:RL G W vp p
theorem Sq.keep{W W':World}{c1 c2:Nat}{s:Sn}{vc vw vp:Value}{p:List (List Int)}{G:Nat→Prop}(h:Sq W c1 c2 s vc vw vp p G)(h1:G c1)(h2:G c2)(hz:W.heap.size≤W'.heap.size)(hk:∀k,G k→k<W.heap.size→W'.heap[k]?=W.heap[k]?):Sq W' c1 c2 s vc vw vp p G:=
 ⟨(hk c2 h2 h.nb.lt).trans h.nb,(hk c1 h1 (Array.getElem?_eq_some_iff.1 h.pc).1).trans h.pc,h.rc.keep hz hk,h.rw.keep hz hk,h.rp.keep hz hk⟩
theorem Sq.below'{W W':World}{c1 c2:Nat}{s:Sn}{vc vw vp:Value}{p:List (List Int)}{G:Nat→Prop}(h:Sq W c1 c2 s vc vw vp p G)(hb:Below W.heap.size W W'):Sq W' c1 c2 s vc vw vp p G:=
 ⟨h.nb.below' hb,(hb.block _ (Array.getElem?_eq_some_iff.1 h.pc).1).trans h.pc,h.rc.below' hb,h.rw.below' hb,h.rp.below' hb⟩
def ES(n:Nat)(x:Int×RM.Sp)(_:Nat→Prop)(_:World)(args:Array Value):Prop:=args= #[.int .i64 x.1,.agg #[.int .i64 x.2.fl,.int .i64 x.2.he,.int .i64 x.2.le]]∧0≤x.1∧x.1<(n:Int)
structure Sj(w W:World)(c1 c2:Nat)(s:Sn)(vc vw vp:Value)(p:List (List Int))(G F:Nat→Prop)(J:List (Int×RM.Sp)→(Nat→Prop)→World→Prop)(pre:List (Int×RM.Sp)):Prop where
 sq:Sq W c1 c2 s vc vw vp p G
 nw:∀k,F k→w.heap.size≤k
 jj:J pre F W
 sz:w.heap.size≤W.heap.size
section
variable {w W W':World} {c1 c2:Nat} {s:Sn} {vc vw vp:Value} {p:List (List Int)} {G F:Nat→Prop} {J:List (Int×RM.Sp)→(Nat→Prop)→World→Prop} {pre:List (Int×RM.Sp)}
theorem Sj.next(h:Sj w W c1 c2 s vc vw vp p G F J pre)(hJ:Stb J)(hb:Below W.heap.size W W'):Sj w W' c1 c2 s vc vw vp p G F J pre:=
 ⟨h.sq.below' hb,h.nw,hJ pre F F W W' h.jj (Kp.ofBelow _ hb) (fun _ h=>.inl h),Nat.le_trans h.sz hb.size⟩
theorem Sj.new(h:Sj w W c1 c2 s vc vw vp p G F J pre)(hJ:Stb J)(o:Obj):Sj w (W.alloc o) c1 c2 s vc vw vp p G (fun k=>F k∨k=W.heap.size) J pre:=by
 have hb:=(Below.refl W.heap.size W).alloc (Nat.le_refl _) o;refine⟨h.sq.below' hb,fun k hk=>hk.elim (h.nw k) (fun e=>by have:=h.sz;omega),hJ pre F _ W _ h.jj (Kp.ofBelow _ hb) (fun k hk=>hk.elim .inl fun e=>.inr ⟨by omega,by rw[e];simp⟩),Nat.le_trans h.sz hb.size⟩
theorem Sj.put(h:Sj w W c1 c2 s vc vw vp p G F J pre)(hJ:Stb J)(hG:∀k,G k→k<w.heap.size)(h1:G c1)(h2:G c2){b:Nat}(hF:F b)(hk:Kp (fun k=>k=b) W W'):Sj w W' c1 c2 s vc vw vp p G F J pre:=by
 refine⟨h.sq.keep h1 h2 hk.size (fun k hg hlt=>hk.block k hlt (fun e=> ?_)),h.nw,hJ pre F F W W' h.jj (hk.mono fun i _ e=>by rw[e];exact hF) (fun _ h=>.inl h),Nat.le_trans h.sz hk.size⟩;have e1:=hG k hg;have e2:=h.nw b hF;omega
theorem Sj.round(h:Sj w W c1 c2 s vc vw vp p G F J pre)(h1:G c1)(h2:G c2){x:Int×RM.Sp}(hk:Kept (fun k=>F k∨G k) W W')(hj:J (pre++[x]) F W'):Sj w W' c1 c2 s vc vw vp p G F J (pre++[x]):=
 ⟨h.sq.keep h1 h2 hk.size (fun k hg hlt=>hk.same k hlt (.inr hg)),h.nw,hj,Nat.le_trans h.sz hk.size⟩
end
section
variable {W0:World} {K:Act→Prop} {o:Oper} {a:Act}
theorem calm_load23n(x:Operand)(b:Nat)(s:St)(vc vw:Value)(ho:o.op=.load 23 x)(hx:a.eval x=.pointer (some ⟨b,0,none⟩))(hr:∀w,Below W0.heap.size W0 w→NB w b s vc vw)
  (h:K (a.put o.dst (.agg (sv s).toArray))):Oper.calm Tryz.prog W0 o a K:=
 calm_val _ (fun w hw=>by unfold execOp;simp only[ho,hx,Sem.run_bind,Sem.run_pure,Result.andThen_ok,load23 w b s (hr w hw).site]) h
theorem calm_loadT(x:Operand)(b:Nat)(s:RM.Sp)(ho:o.op=.load 220 x)(hx:a.eval x=.pointer (some ⟨b,0,none⟩))(hr:∀w,Below W0.heap.size W0 w→TB w b s)
  (h:K (a.put o.dst (.agg #[.int .i64 s.fl,.int .i64 s.he,.int .i64 s.le]))):Oper.calm Tryz.prog W0 o a K:=
 calm_val _ (fun w hw=>by unfold execOp;simp only[ho,hx,Sem.run_bind,Sem.run_pure,Result.andThen_ok,loadT w b s (hr w hw)]) h
theorem loadWs(w:World)(b o:Nat)(v:Value)(h:w.cell? ⟨b,o,none⟩=some v):(Instr.loadAt 144 (.pointer (some ⟨b,o,none⟩))).run Tryz.prog w=.ok v w:=by simp[go_sem,h]
theorem calm_loadWs(x:Operand)(b k:Nat){v:Value}(ho:o.op=.load 144 x)(hx:a.eval x=.pointer (some ⟨b,k,none⟩))(hr:∀w,Below W0.heap.size W0 w→w.cell? ⟨b,k,none⟩=some v)
  (h:K (a.put o.dst v)):Oper.calm Tryz.prog W0 o a K:=
 calm_val _ (fun w hw=>by unfold execOp;simp only[ho,hx,Sem.run_bind,Sem.run_pure,Result.andThen_ok,loadWs w b k v (hr w hw)]) h
theorem calm_ixWs(x y:Operand){g f n cap j:Nat}(ho:o.op=.indexAddr 144 x y)(hx:a.eval x=.slice (some ⟨g,f,none⟩) n cap)(hy:a.eval y=.int .i64 (j:Int))(hj:j<n)
  (h:K (a.put o.dst (.pointer (some ⟨g,f+j*2,none⟩)))):Oper.calm Tryz.prog W0 o a K:=
 calm_val _ (fun w hw=>by unfold execOp;simp only[ho,hx,hy,Sem.run_bind,Sem.run_pure,Result.andThen_ok,ixW w rfl hj]) h
end
structure Si(w W:World)(c1 c2:Nat)(s:Sn)(vc vw vp vl:Value)(p:List (List Int))(l:List Int)(G F:Nat→Prop)(J:List (Int×RM.Sp)→(Nat→Prop)→World→Prop)(pre:List (Int×RM.Sp))(b:Nat)(a:RM.Sp):Prop where
 sj:Sj w W c1 c2 s vc vw vp p G F J pre
 ri:RI G W vl l
 own:F b
 tb:TB W b a
section
variable {w W W':World} {c1 c2 b:Nat} {s:Sn} {vc vw vp vl:Value} {p:List (List Int)} {l:List Int} {G F:Nat→Prop} {J:List (Int×RM.Sp)→(Nat→Prop)→World→Prop} {pre:List (Int×RM.Sp)} {a a':RM.Sp}
theorem Si.next(h:Si w W c1 c2 s vc vw vp vl p l G F J pre b a)(hJ:Stb J)(hb:Below W.heap.size W W'):Si w W' c1 c2 s vc vw vp vl p l G F J pre b a:=⟨h.sj.next hJ hb,h.ri.below' hb,h.own,h.tb.below' hb⟩
theorem Si.put(h:Si w W c1 c2 s vc vw vp vl p l G F J pre b a)(hJ:Stb J)(hG:(∀k,G k→k<w.heap.size)∧G c1∧G c2)(hk:Kp (fun k=>k=b) W W')(ht:TB W' b a'):Si w W' c1 c2 s vc vw vp vl p l G F J pre b a':=
 ⟨h.sj.put hJ hG.1 hG.2.1 hG.2.2 h.own hk,h.ri.keep hk.size (fun k hg hlt=>hk.block k hlt (fun e=>by have e1:=hG.1 k hg;have e2:=h.sj.nw b h.own;omega)),h.own,ht⟩
theorem Si.round(h:Si w W c1 c2 s vc vw vp vl p l G F J pre b a)(hG:(∀k,G k→k<w.heap.size)∧G c1∧G c2){x:Int×RM.Sp}(hk:Kept (fun k=>F k∨G k) W W')(hj:J (pre++[x]) F W'):Si w W' c1 c2 s vc vw vp vl p l G F J (pre++[x]) b a:=
 ⟨h.sj.round hG.2.1 hG.2.2 hk hj,h.ri.keep hk.size (fun k hg hlt=>hk.same k hlt (.inr hg)),h.own,(hk.same b h.tb.lt (.inl h.own)).trans h.tb⟩
end
theorem stops_seq(s:Sn)(c1 c2:Nat)(vc vw vp:Value)(p:List (List Int))(G:Nat→Prop)(w:World)(hq:Sq w c1 c2 s vc vw vp p G)(h1:G c1)(h2:G c2)(hG:∀k,G k→k<w.heap.size)(hf:Fs s p)(hll:∀l∈p,l.length≤1000):
  SeqF Tryz.prog 204 #[.pointer (some ⟨c1,0,none⟩),.pointer (some ⟨c2,0,none⟩)] (ES s.ws.length) (fun _=>False) G (fun xs=>xs=RM.stp s.st s.ws s.cs p) (fun pre=>pre<+:RM.stp s.st s.ws s.cs p) w:=by
 intro nn lo J Jx W hW hJ hJx hY h0;show CallsIn Fence.wide nn Tryz.prog 204 #[.func (.yield lo) #[] #[],.pointer (some ⟨c1,0,none⟩),.pointer (some ⟨c2,0,none⟩)] W _;obtain⟨ac,kc,rfl,_,_⟩:=hq.rc.form;obtain⟨aw,kw,rfl,_,_⟩:=hq.rw.form;obtain⟨ap,kp,rfl,_,_⟩:=hq.rp.form
 have HQ0:Hid (Sj w W c1 c2 s (.slice ac s.cs.length kc) (.slice aw s.ws.length kw) (.slice ap p.length kp) p G (fun _=>False) J []):=
  ⟨hq.keep h1 h2 hW.size (fun k hg hlt=>hW.block k hlt),fun _ h=>h.elim,h0,hW.size⟩
 have HJ:=Hd hJ;have HJX:=Hd hJx;have HY:=Hd hY;have HG:=Hd (And.intro hG (And.intro h1 h2));have HFS:=Hd hf;have HLL:=Hd hll;have cp:W.cell? ⟨c1,0,none⟩=some (.slice ap p.length kp):=by rw[cell_of_row _ _ 0 _ _ _ HQ0.out.sq.pc];rfl
 have hp8:p.length≤8:=hf.p8;refine callsIn_of_wp Tryz.func204 rfl trivial ?_ rfl;simp only[Tryz.ntmps204,List.size_toArray,List.length_cons,List.length_nil,Nat.reduceAdd,Nat.reduceSub,Array.replicate_succ,Array.replicate_zero,List.push_toArray,List.append_toArray,List.nil_append,List.cons_append];have hwf:∀k,Fence.wide.fn k:=fun _=>trivial;have hdd:∀k:Nat,(Fence.wide.depth.isSome=true→1≤k):=fun k h=>by cases h
 clear hq h1 h2 hG hf hll hW hJ hJx hY h0
 gi_wp2_with fail
 refine wpIn_wide.2 ?_;apply wp_scope_straight;refine (wpIn_wide (n:=nn)).1 ?_
 gi_wp2_with fail
 refine wpIn_label ?_
 gi_wp2_with fail
 gi_loopw [11] (fun i wr=>∃(k:Nat) (F:Nat→Prop),k≤p.length∧i=.int .i64 (k:Int)∧Hid (Sj w wr c1 c2 s (.slice ac s.cs.length kc) (.slice aw s.ws.length kw) (.slice ap p.length kp) p G F J (RM.stk s.st s.ws s.cs p k))) (fun i _=>p.length-(intOf i).toNat)
 case atStart=>exact⟨0,_,Nat.zero_le _,rfl,HQ0⟩
 case round=>
  clear HQ0 cp
  rename World=>Wr
  obtain⟨k,F,hk,rfl,HQ⟩:=hrel;by_cases hlt:k<p.length
  ·obtain⟨l,hl⟩:∃l,p[k]?=some l:=⟨_,List.getElem?_eq_getElem hlt⟩;have hkc:k<s.cs.length:=by have:=HFS.out.pc;omega
   obtain⟨r,hr⟩:∃r,s.cs[k]?=some r:=⟨_,List.getElem?_eq_getElem hkc⟩;obtain⟨gp,op,rfl,u,hcu,hru⟩:=HQ.out.sq.rp.at hl;obtain⟨gc,oc,rfl,hc0,hc1⟩:=HQ.out.sq.rc.at hr;obtain⟨al,kl,rfl,_,_⟩:=hru.form;have c13:Wr.cell? ⟨c2,13,none⟩=some (.slice (some ⟨gc,oc,none⟩) s.cs.length kc):=HQ.out.sq.nb.cell 13;have HKL:=Hd (And.intro hl hr);have HRU:=Hd hru;have hlll:l.length≤1000:=HLL.out l (List.mem_of_getElem? hl);have HLX:Hid (∀x∈l,0≤x∧x<s.ws.length):=fun x hx=>HFS.out.fr x (List.mem_flatten.2 ⟨l,List.mem_of_getElem? hl,hx⟩);have HOK:=Hd (HFS.out.rz.cr r (List.mem_of_getElem? hr));have HAF:=Hd (HFS.out.af r (List.mem_of_getElem? hr));have hkz:(k:Int)<(p.length:Int):=by omega
   have hkz2:(k:Int)<(s.cs.length:Int):=by omega
   clear hl hr hru
   gi_wp2_with fail
   refine⟨hdd _,(callsIn_wide.2 (begin_any r.1 r.2 _)).mono ?_⟩;rintro e W1 ⟨rfl,hb1⟩;have hsj:=(HQ.out.next HJ.out hb1).new HJ.out (.cells #[.int .i64 r.1,.int .i64 (-1),.int .i64 r.2] 220)
   have HI1:Hid (Si w (W1.alloc (.cells #[.int .i64 r.1,.int .i64 (-1),.int .i64 r.2] 220)) c1 c2 s (.slice (some ⟨gc,oc,none⟩) s.cs.length kc) (.slice aw s.ws.length kw) (.slice (some ⟨gp,op,none⟩) p.length kp) (.slice al l.length kl) p l G (fun k=>F k∨k=W1.heap.size) J (RM.stk s.st s.ws s.cs p k++RM.st1 s.st s.ws (RM.bg r) (l.take 0)) W1.heap.size (RM.go s.st (RM.bg r) ((l.take 0).map (RM.wf s.ws)))):=by
    refine⟨?_,(HRU.out.below' hb1).alloc _,.inr rfl,TB.new W1 (RM.bg r)⟩;rw[List.take_zero];show Sj _ _ _ _ _ _ _ _ _ _ _ _ (_++[]);rw[List.append_nil];exact hsj
   have hwl:(s.ws.length:Int)≤128:=by have:=HFS.out.wl;omega
   clear hb1 hcu hc0 hc1 c13 HQ HRU hsj
   gi_wp2_with fail
   generalize (W1.alloc (.cells #[.int .i64 r.1,.int .i64 (-1),.int .i64 r.2] 220))=W2 at HI1⊢;generalize W1.heap.size=b6 at HI1⊢;generalize (fun k=>F k∨k=b6)=F1 at HI1
   gi_loopw [24] (fun i wr=>∃(j:Nat),j≤l.length∧i=.int .i64 (j:Int)∧Hid (Si w wr c1 c2 s (.slice (some ⟨gc,oc,none⟩) s.cs.length kc) (.slice aw s.ws.length kw) (.slice (some ⟨gp,op,none⟩) p.length kp) (.slice al l.length kl) p l G F1 J (RM.stk s.st s.ws s.cs p k++RM.st1 s.st s.ws (RM.bg r) (l.take j)) b6 (RM.go s.st (RM.bg r) ((l.take j).map (RM.wf s.ws))))) (fun i _=>l.length-(intOf i).toNat)
   case atStart=>exact⟨0,Nat.zero_le _,rfl,HI1⟩
   case round=>
    clear HI1;obtain⟨j,hj,rfl,HI⟩:=hrel;by_cases hjl:j<l.length
    ·obtain⟨x,hx⟩:∃x,l[j]?=some x:=⟨_,List.getElem?_eq_getElem hjl⟩;have hxr:=HLX.out x (List.mem_of_getElem? hx);obtain⟨i,rfl⟩:∃i:Nat,x=(i:Int):=⟨x.toNat,by omega⟩;have hiw:i<s.ws.length:=by omega
     obtain⟨y,hy⟩:∃y,s.ws[i]?=some y:=⟨_,List.getElem?_eq_getElem hiw⟩;obtain⟨gl,ol,rfl,hcx⟩:=HI.out.ri.at hx;obtain⟨gw,ow,rfl,hcy,_⟩:=HI.out.sj.sq.rw.at hy;have hjz:(j:Int)<(l.length:Int):=by omega
     have HCY:=Hd hcy
     have HTK:Hid (RM.st1 s.st s.ws (RM.bg r) (l.take (j+1))=RM.st1 s.st s.ws (RM.bg r) (l.take j)++[((i:Int),RM.nx s.st (RM.go s.st (RM.bg r) ((l.take j).map (RM.wf s.ws))) y.1)]):=by
      show _=_;rw[RM.st1_take hx,RM.wf_get hy]
     have HGO:Hid (RM.go s.st (RM.bg r) ((l.take (j+1)).map (RM.wf s.ws))=RM.nx s.st (RM.go s.st (RM.bg r) ((l.take j).map (RM.wf s.ws))) y.1):=by
      show _=_;rw[take_snoc hx,List.map_append,RM.go_append,List.map_cons,List.map_nil,RM.wf_get hy];rfl
     have hin:=HFS.out.rz.inn (l:=l.take j) fun x hx=>HLX.out x (List.mem_of_mem_take hx);have hok:=RM.go_ok HFS.out.rz.rt HOK.out hin;have HOA:=Hd hok
     have HLE:Hid ((RM.go s.st (RM.bg r) ((l.take j).map (RM.wf s.ws))).le≤100000000):=by
      have g3:=RM.go_le HFS.out.rz.rt HOK.out hin;rw[List.length_map,List.length_take]at g3;have g7:(RM.bg r).le=r.2:=rfl;have:=HAF.out;show _≤_;omega
     have HYR:=Hd (HFS.out.rz.wr y (List.mem_of_getElem? hy));clear hin hok hx hy hxr;generalize RM.go s.st (RM.bg r) ((l.take j).map (RM.wf s.ws))=a at HI HTK HGO HOA HLE;have HNE:=Hd (RM.nx_eq HOA.out y.1);have HNXT:Hid (∀w',Calls Tryz.prog 180 #[.agg (sv s.st).toArray,.agg #[.int .i64 a.fl,.int .i64 a.he,.int .i64 a.le],.int .i64 y.1] w' fun e w''=>e=.returned (.agg #[.int .i64 y.1,.int .i64 (RM.ar s.st a y.1),.int .i64 (RM.ar s.st a y.1+RM.dw s.st)])∧Below w'.heap.size w' w''):=fun w'=>next_any s.st HFS.out.rz.rt a HOA.out HLE.out y.1 HYR.out.1 HYR.out.2 w';generalize RM.ar s.st a y.1=T at HNE HNXT;generalize T+RM.dw s.st=L at HNE HNXT;rw[HNE.out]at HTK HGO;generalize y.1=fy at HTK HGO HNXT HCY hcy;clear HNE HOA HLE HYR
     gi_wp2_with fail
     clear hcx hcy;have HNB:Hid (∀w',Below wr.drew.heap.size wr.drew w'→NB w' c2 s.st (.slice (some ⟨gc,oc,none⟩) s.cs.length kc) (.slice (some ⟨gw,ow,none⟩) s.ws.length kw)):=fun w' hw=>HI.out.sj.sq.nb.drew.below' hw;have HTB:Hid (∀w',Below wr.drew.heap.size wr.drew w'→TB w' b6 a):=fun w' hw=>(HI.out.next HJ.out ((Below.refl _ wr).drew.trans hw)).tb;have HC14:Hid (∀w',Below wr.drew.heap.size wr.drew w'→w'.cell? ⟨c2,14,none⟩=some (.slice (some ⟨gw,ow,none⟩) s.ws.length kw)):=fun w' hw=>(HNB.out w' hw).cell 14;have HCZ:Hid (∀w',Below wr.drew.heap.size wr.drew w'→w'.cell? ⟨gw,ow+i*2,none⟩=some (.int .i64 fy)):=fun w' hw=>(hw.cell (p:=⟨gw,ow+i*2,none⟩) (cell_lt HCY.out)).trans HCY.out;refine wpIn_wide.2 ?_;refine wp_region_tail 10 (by kernel_rfl) (by kernel_rfl) ?_;simp only[List.take_succ_cons,List.take_zero,List.drop_succ_cons,List.drop_zero];unfold wpCalm;generalize hK:wpCalm _ _ _ _ _=K;unfold Oper.calm;go_simp;refine⟨_,fun _ _=>rfl,?_⟩;subst hK;unfold wpCalm;generalize hK:wpCalm _ _ _ _ _=K;rw[if_pos (by go_simp)];refine calm_load23n _ c2 s.st _ _ rfl rfl HNB.out ?_;go_simp;subst hK;unfold wpCalm;generalize hK:wpCalm _ _ _ _ _=K;rw[if_pos (by go_simp)];refine calm_loadT _ b6 a rfl rfl HTB.out ?_;go_simp;subst hK;unfold wpCalm;generalize hK:wpCalm _ _ _ _ _=K;unfold Oper.calm;go_simp;refine⟨_,fun _ _=>rfl,?_⟩;subst hK;unfold wpCalm;generalize hK:wpCalm _ _ _ _ _=K;rw[if_pos (by go_simp)];refine calm_loadWs _ _ _ rfl rfl HC14.out ?_;go_simp;subst hK;unfold wpCalm;generalize hK:wpCalm _ _ _ _ _=K;unfold Oper.calm;go_simp;refine⟨_,fun _ _=>rfl,?_⟩;subst hK;unfold wpCalm;generalize hK:wpCalm _ _ _ _ _=K;rw[if_pos (by go_simp)];refine calm_ixWs _ _ rfl rfl rfl hiw ?_;go_simp;subst hK;unfold wpCalm;generalize hK:wpCalm _ _ _ _ _=K;unfold Oper.calm;go_simp;refine⟨_,fun _ _=>rfl,?_⟩;subst hK;unfold wpCalm;generalize hK:wpCalm _ _ _ _ _=K;rw[if_pos (by go_simp)];refine calm_load3 _ _ _ rfl rfl HCZ.out ?_;go_simp;subst hK;unfold wpCalm;generalize hK:wpCalm _ _ _ _ _=K;unfold Oper.calm;go_simp;refine⟨_,fun w' hw=>HNXT.out w',?_⟩;subst hK;refine wpCalm_nil ?_;intro W4 hb4;have HI4:=Hd (HI.out.next HJ.out ((Below.refl _ wr).drew.trans hb4));clear hb4 HNB HTB HC14 HCZ HCY HNXT HI
     go_wp2_with (refine wpList_storeT rfl _ _ rfl b6 rfl rfl HI4.out.tb ?_)
     intro W5 hk5 ht5;have HI5:=Hd (HI4.out.put HJ.out HG.out hk5 ht5);clear hk5 ht5 HI4;have hcx5:=HI5.out.tb.c0;have hcy5:=HI5.out.tb.c1;have hcz5:=HI5.out.tb.c2;obtain⟨fn,tmps,assign,body,hy5,hR5⟩:=HY.out (nn-1) _ ((i:Int),⟨fy,T,L⟩) F1 W5 #[.int .i64 (i:Int),.agg #[.int .i64 fy,.int .i64 T,.int .i64 L]] HI5.out.sj.jj ⟨rfl,Int.natCast_nonneg _,by show(i:Int)<_;omega⟩;have HR5:=Hd hR5;clear hR5
     have HPR:Hid (RM.stk s.st s.ws s.cs p k++RM.st1 s.st s.ws (RM.bg r) (l.take j)++[((i:Int),(⟨fy,T,L⟩:RM.Sp))]<+:RM.stp s.st s.ws s.cs p):=by
      show _<+:_;rw[List.append_assoc,←HTK.out]
      have h1:RM.stk s.st s.ws s.cs p k++RM.st1 s.st s.ws (RM.bg r) (l.take (j+1))<+:RM.stk s.st s.ws s.cs p (k+1):=by
       rw[RM.stk_succ HFS.out.pc HKL.out.2 HKL.out.1];exact(List.prefix_append_right_inj _).2 (RM.st1_pre _)
      exact h1.trans (RM.stk_pre HFS.out.pc)
     go_wp2_with fail
     gi_wp2_with fail
     refine⟨hdd _,HR5.out.mono ?_⟩;rintro e W6 (⟨rfl,hj6,hk6⟩|⟨rfl,hx6,_⟩)
     ·have HI6:=Hd (HI5.out.round HG.out hk6 hj6);rw[List.append_assoc,←HTK.out,←HGO.out]at HI6;clear hj6 hk6 HI5 hcx5 hcy5 hcz5 hy5 HR5 HPR
      gi_wp2
      go_roundw
      case rel=>exact⟨j+1,by omega,by go_num,HI6⟩
      case measure=>simp[intOf];omega
     ·have HX6:=Hd (And.intro HPR.out hx6);clear hx6 HI5 hcx5 hcy5 hcz5 hy5 HR5 HPR
      gi_wp2
      rw[Exit.noGoto_normal]
      go_end0
      exact⟨⟨_,rfl⟩,.inr ⟨_,_,HX6.out.1,HX6.out.2⟩⟩
    ·have hjz:¬(j:Int)<(l.length:Int):=by omega
     have HS:=Hd HI.out.sj;rw[show l.take j=l from List.take_of_length_le (by omega),←RM.stk_succ HFS.out.pc HKL.out.2 HKL.out.1]at HS;clear HI
     gi_wp2
     go_roundw
     case rel=>exact⟨k+1,_,by omega,by go_num,HS⟩
     case measure=>simp[intOf];omega
  ·have hkz:¬(k:Int)<(p.length:Int):=by omega
   have HE:=Hd HQ.out.jj;rw[RM.stk_all HFS.out.pc (by omega)]at HE;clear HQ
   gi_wp2
   go_end0
   exact⟨⟨_,rfl⟩,.inl ⟨_,_,rfl,HE.out⟩⟩
end Go.Proofs.YtlajleogofmkcaaGreat
namespace Go.Proofs.YtlajleogofmkcaaGreat
open Go.RowKit
def KB(Wz:World)(P F:Nat→Prop)(A:World):Prop:=Kp P Wz A∧∀k,k<Wz.heap.size→¬F k
theorem KB.stb{Wz:World}{P F F':Nat→Prop}{A B:World}(h:KB Wz P F A)(hk:Kp F A B)(hF:∀k,F' k→F k∨(A.heap.size≤k∧k<B.heap.size)):KB Wz P F' B:=
 ⟨h.1.trans hk (fun i hi hf=>absurd hf (h.2 i hi)),fun k hk' hf=>(hF k hf).elim (h.2 k hk') (fun e=>by have:=h.1.size;omega)⟩
theorem wpIn_rangeFunc_B{α:Type}{n:Nat}{P:Program}{g:Operand}{ps:Array Tmp}{assign body:Code}{Q:Exit→Act→World→Prop}{a:Act}{w:World}
  {gf:Nat} {lb:Array Value} (hg:a.eval g=.func (.func gf) #[] lb) (eg:∀args w,(callFunc gf args).run P w=.ok (.enter gf args) w)
  {Enc:α→(Nat→Prop)→World→Array Value→Prop} {F0 G:Nat→Prop} {S Sp:List α→Prop} {w0:World} (hseq:SeqF P gf lb Enc F0 G S Sp w0) (hb0:Below w0.heap.size w0 w)
  (hps:∀x F W args,Enc x F W args→args.size=ps.size) (hG:∀k,G k→k<w.heap.size) (hF0:∀k,F0 k→k<w.heap.size)
  (I:List α→(Nat→Prop)→World→Prop) (Ix:Code→List α→(Nat→Prop)→World→Prop) (hI:Stb I) (hIx:∀c,Stb (Ix c)) (h0:I [] F0 w) (B:α→Act→World→Prop)
  (hB:∀x a' W W',B x a' W→W.heap.size≤W'.heap.size→(∀k,k<W.heap.size→(∃o:Obj,W.heap[k]?=some o∧o.isCells=true)→W'.heap[k]?=W.heap[k]?)→B x a' W')
  (hassign:∀(l:Nat) (x:α) (F:Nat→Prop) (W:World) (args:Array Value) (K:Act→World→Prop),Enc x F W args→(∀a' W',Below W.heap.size W W'→B x a' W'→K a' W')→
   assign.wpIn (Fence.wide.inRound l) n P (Exit.then K (fun _ _ _=>False)) {tmps:=(ps.zip args).foldl (fun t (p,v)=>t.setIfInBounds p v) a.tmps,defers:=[]} W)
  (hbody:∀(l:Nat) (pre:List α) (x:α) (F:Nat→Prop) (W:World) (a':Act),I pre F W→B x a' W→body.wpIn (Fence.wide.inRound l) n P (postF G I Ix (pre++[x]) F W) a' W)
  (hdone:∀(D:Nat) (xs:List α) (F:Nat→Prop) (W:World),w.heap.size≤D→F D→S xs→I xs F W→W.heap[D]?=some (.deferred (some []))→Q .normal {a with defers:={target:=.collected D,args:= #[]}::a.defers} W)
  (hstop:∀(D:Nat) (c:Code) (pre:List α) (F:Nat→Prop) (W:World),w.heap.size≤D→F D→Sp pre→Ix c pre F W→W.heap[D]?=some (.deferred (some []))→c.wpIn Fence.wide n P Q {a with defers:={target:=.collected D,args:= #[]}::a.defers} W):
  (Code.rangeFunc g ps assign body).wpIn Fence.wide n P Q a w:=by
 refine wpIn_rangeFunc ?_;intro fn hfn;rw[show Fence.wide.round=none from rfl];obtain⟨rec,hrec⟩:∃rec:LoopState→Option Code→Loop,rec=fun st pe=>{state:=st,pending:=pe,fn,tmps:=a.tmps,params:=ps,assign,body,defers:=w.heap.size}:=⟨_,rfl⟩;obtain⟨W1,hW1⟩:∃W1,(w.alloc (.deferred (some []))).alloc (.loop (rec .ready none))=W1:=⟨_,rfl⟩;generalize hD:w.heap.size=D at*
 have hL1:W1.heap[D+1]?=some (.loop (rec .ready none)):=by
  rw[←hW1,←hD];have:=World.alloc_heap_new (w.alloc (.deferred (some []))) (.loop (rec .ready none));rwa[World.size_alloc]at this
 have hK1:W1.heap[D]?=some (.deferred (some [])):=by
  rw[←hW1,←hD];exact(Below.heap_alloc _ _ _ (by simp)).trans (World.alloc_heap_new w _)
 have hbel:Below w.heap.size w W1:=by rw[←hW1];exact((Below.refl _ w).alloc (Nat.le_refl _) _).alloc (by simp) _
 -- the two blocks of the loop are the iterator's,as the caller sees it
 obtain⟨U,hU⟩:∃U:(Nat→Prop)→Nat→Prop,U=fun F k=>F k∨k=D∨k=D+1:=⟨_,rfl⟩;have hUF:∀F k,F k→U F k:=fun F k h=>by rw[hU];exact .inl h
 have hU1:∀F,U F (D+1):=fun F=>by rw[hU];exact .inr (.inr rfl)
 have hU0:∀F,U F D:=fun F=>by rw[hU];exact .inr (.inl rfl)
 refine⟨D+1,[{target:=.collected D,args:= #[]}],W1,{target:=.fn (.func gf) lb,args:= #[.func (.yield (D+1)) #[] #[]]},W1,gf,#[.func (.yield (D+1)) #[] #[]]++lb,W1,?_,?_,fun _ _=>trivial,?_,fun h=>(by cases h),?_⟩
 ·rw[←hW1,hrec,←hD];exact run_enterLoop_outer _ _ _ _ _
 ·simp only[resolve,hg];simp[go_sem]
 ·simp[invoke,go_sem,eg]
 have stab:∀{β:Type} (X:β→(Nat→Prop)→World→Prop) (o:β→Obj),Stb X→Stb (fun s F W=>X s (U F) W∧W.heap[D+1]?=some (o s)∧W.heap[D]?=some (.deferred (some []))∧¬F (D+1)∧¬F D):=by
  intro β X o hX s F F' A B h hk hF;obtain⟨h1,h2,h3,h4,h5⟩:=h;have l2:=(Array.getElem?_eq_some_iff.1 h2).1;have l3:=(Array.getElem?_eq_some_iff.1 h3).1;refine⟨hX s (U F) (U F') A B h1 (hk.mono fun i _ hi=>hUF F i hi) (fun k hk'=> ?_),(hk.block _ l2 h4).trans h2,(hk.block _ l3 h5).trans h3,fun h=> ?_,fun h=> ?_⟩
  ·rw[hU]at hk'⊢;rcases hk' with e|e|e
   ·rcases hF k e with e|e
    ·exact .inl (.inl e)
    ·exact .inr e
   ·exact .inl (.inr (.inl e))
   ·exact .inl (.inr (.inr e))
  ·rcases hF _ h with e|e
   ·exact h4 e
   ·omega
  ·rcases hF _ h with e|e
   ·exact h5 e
   ·omega
 refine (hseq (n-1) (D+1)
  (fun pre F W=>I pre (U F) W∧W.heap[D+1]?=some (.loop (rec .ready none))∧W.heap[D]?=some (.deferred (some []))∧¬F (D+1)∧¬F D)
  (fun pre F W=>∃c,Ix c pre (U F) W∧W.heap[D+1]?=some (.loop (rec .done (some c)))∧W.heap[D]?=some (.deferred (some []))∧¬F (D+1)∧¬F D)
  W1 (hb0.trans (hbel.mono hb0.size)) (stab I (fun _=>.loop (rec .ready none)) hI) ?_ ?_ ?_).mono ?_
 ·intro s F F' A B h hk hF;obtain⟨c,h⟩:=h;exact⟨c,stab (Ix c) (fun _=>.loop (rec .done (some c))) (hIx c) s F F' A B h hk hF⟩
 · -- a round
  rintro m pre x F W args ⟨hi,hl,hk,hf1,hf0⟩ henc;have hlt:D+1<W.heap.size:=(Array.getElem?_eq_some_iff.1 hl).1;have hsz:=hps x F W args henc;have hy:=run_yield (P:=P) (args:=args) hl (by rw[hrec];exact hsz);rw[hrec]at hy;refine YieldAt.deep (m:=n) m ⟨fn,_,assign,body,hy,roundIn_of_wpIn hfn (hassign (D+1) x F W args _ henc ?_)⟩;clear hy;intro a' Wa hba hBa;have hza:=hba.size;have hla:=(hba.block _ hlt).trans hl;have hka:=(hba.block _ (Array.getElem?_eq_some_iff.1 hk).1).trans hk;have hlta:D+1<Wa.heap.size:=(Array.getElem?_eq_some_iff.1 hla).1;refine⟨_,run_beginRound hla (by rw[hrec]),?_⟩;obtain⟨W2,hW2⟩:∃W2,Wa.putObj (D+1) (.loop {rec .ready none with state:=.busy})=W2:=⟨_,rfl⟩;rw[hW2];have hz2:W2.heap.size=Wa.heap.size:=by rw[←hW2];simp
  have ho2:∀k,k≠D+1→W2.heap[k]?=Wa.heap[k]?:=fun k hk=>by rw[←hW2];exact World.putObj_heap_other hk
  have hl2:W2.heap[D+1]?=some (.loop {rec .ready none with state:=.busy}):=by rw[←hW2];exact World.putObj_heap_same hlta
  have hia:I pre (U F) Wa:=hI pre (U F) (U F) W Wa hi (Kp.ofBelow _ hba) (fun _ h=>.inl h);have hi2:I pre (U F) W2:=by rw[←hW2];exact hI.put _ _ hia (hU1 F)
  have he2:B x a' W2:=hB x a' Wa W2 hBa (by omega) (fun k _ h=>ho2 k (fun e=>by
    subst e;obtain⟨o,h1,h2⟩:=h;rw[hla]at h1;cases h1
    cases h2))
  refine wpIn_mono (hbody (D+1) pre x (U F) W2 a' hi2 he2) ?_
  have fin:∀(jump:Option Code) (W3:World),Kept (U F) W2 W3→
    (Instr.endRound (D+1) jump).run P W3=.ok (.bool jump.isNone) (W3.putObj (D+1) (.loop (rec (if jump.isNone then .ready else .done) jump)))∧
    (W3.putObj (D+1) (.loop (rec (if jump.isNone then .ready else .done) jump))).heap[D+1]?=some (.loop (rec (if jump.isNone then .ready else .done) jump))∧
    (W3.putObj (D+1) (.loop (rec (if jump.isNone then .ready else .done) jump))).heap[D]?=some (.deferred (some [])):=fun jump W3 h3=>by
   have hl3:W3.heap[D+1]?=some (.loop {rec .ready none with state:=.busy}):=(h3.same _ (by omega) (hU1 F)).trans hl2;have hk3:W3.heap[D]?=some (.deferred (some [])):=(h3.same _ (by omega) (hU0 F)).trans ((ho2 D (by omega)).trans hka);have:=run_endRound (P:=P) jump hl3;rw[hrec]at this⊢;exact⟨this,World.putObj_heap_same (Array.getElem?_eq_some_iff.1 hl3).1,(World.putObj_heap_other (by omega)).trans hk3⟩
  have keptF:∀(W3:World) (o:Obj),Kept (U F) W2 W3→Kept F W (W3.putObj (D+1) o):=fun W3 o h3=>by
   have hz:=h3.size;refine⟨by simp;omega,fun k hk' hfk=> ?_⟩;have hne:k≠D+1:=fun e=>by subst e;exact hf1 hfk
   rw[World.putObj_heap_other hne,h3.same k (by omega) (hUF F k hfk),ho2 k hne,hba.block k hk']
  rintro e a3 W3 hp;cases e with
  |normal=>
   obtain⟨h3,hi3⟩:=hp;obtain⟨hr,hl4,hk4⟩:=fin none W3 (h3.mono fun _ _ h=>.inl h);refine⟨_,_,hr,.inl ⟨rfl,⟨hI.put _ _ hi3 (hU1 F),hl4,hk4,hf1,hf0⟩,?_⟩⟩;have hz:=h3.size;refine⟨by simp;omega,fun k hk' hfk=> ?_⟩
   have hne:k≠D+1:=fun e=>by
    subst e;rcases hfk with h|h
    ·exact hf1 h
    ·have:=hG _ h;omega
   rw[World.putObj_heap_other hne,h3.same k (by omega) (hfk.elim (fun h=>.inl (hUF F k h)) .inr),ho2 k hne,hba.block k hk']
  |ret=>
   obtain⟨h3,hi3⟩:=hp;obtain⟨hr,hl4,hk4⟩:=fin (some .ret) W3 h3;exact⟨_,_,hr,.inr ⟨rfl,⟨.ret,(hIx _).put _ _ hi3 (hU1 F),hl4,hk4,hf1,hf0⟩,keptF W3 _ h3⟩⟩
  |exit id=>
   obtain⟨h3,hi3⟩:=hp;obtain⟨hr,hl4,hk4⟩:=fin (some (.exit id)) W3 h3;exact⟨_,_,hr,.inr ⟨rfl,⟨.exit id,(hIx _).put _ _ hi3 (hU1 F),hl4,hk4,hf1,hf0⟩,keptF W3 _ h3⟩⟩
  |goto t=>
   obtain⟨h3,hi3⟩:=hp;obtain⟨hr,hl4,hk4⟩:=fin (some (.goto t)) W3 h3;exact⟨_,_,hr,.inr ⟨rfl,⟨.goto t,(hIx _).put _ _ hi3 (hU1 F),hl4,hk4,hf1,hf0⟩,keptF W3 _ h3⟩⟩
  |panic ch=>exact hp.elim
  |outgrown=>exact hp.elim
 ·have z1:=(Array.getElem?_eq_some_iff.1 hL1).1;refine⟨hI [] F0 _ w W1 h0 (Kp.ofBelow _ hbel) (fun k h=> ?_),hL1,hK1,fun h=>by have:=hF0 _ h;omega,fun h=>by have:=hF0 _ h;omega⟩;rw[hU]at h;rcases h with h|h|h
  ·exact .inl h
  ·right;omega
  ·right;omega
 · -- behind the iterator
  rintro e W2 ⟨⟨v,rfl⟩,(⟨xs,F,hS,hi,hl,hk,_,_⟩|⟨pre,F,hSp,c,hi,hl,hk,_,_⟩)⟩
  ·exact⟨none,_,by have:=run_endLoop (P:=P) hl (by rw[hrec];simp);rw[hrec]at this;exact this,hdone D xs (U F) _ (Nat.le_refl _) (hU0 F) hS (hI.put _ _ hi (hU1 F)) ((World.putObj_heap_other (by omega)).trans hk)⟩
  ·exact⟨some c,_,by have:=run_endLoop (P:=P) hl (by rw[hrec];simp);rw[hrec]at this;exact this,hstop D c pre (U F) _ (Nat.le_refl _) (hU0 F) hSp ((hIx c).put _ _ hi (hU1 F)) ((World.putObj_heap_other (by omega)).trans hk)⟩
open Go.Shelf
attribute [local go_sem] Oper.semAt_some
theorem stops_any(vs:List Value)(ap:Option Addr)(n k:Nat)(w:World):
  Calls Tryz.prog 181 #[.agg vs.toArray,.slice ap n k] w fun e w'=>e=.returned (.func (.func 204) #[] #[.pointer (some ⟨w.heap.size+1,0,none⟩),.pointer (some ⟨w.heap.size,0,none⟩)])∧w'=(w.alloc (.cells vs.toArray 146)).alloc (.cells #[.slice ap n k] 150):=by
 have hmf:∀(fn:Fn) (first cap:Array Value) (w:World),(Instr.makeFunc fn first cap).run Tryz.prog w=.ok (.func fn first cap) w:=fun _ _ _ _=>rfl
 go_enter Tryz.func181,Tryz.ntmps181
 go_wp2;go_ret;exact⟨rfl,rfl⟩
def wtp(n:Nat)(pre:List (Int×RM.Sp)):List Int:=RM.put (List.replicate n 0) (pre.map fun x=>(x.1,x.2.he))
theorem wtp_nil(n:Nat):wtp n []=List.replicate n 0:=rfl
theorem wtp_snoc(n:Nat)(pre:List (Int×RM.Sp))(x:Int×RM.Sp):wtp n (pre++[x])=(wtp n pre).set x.1.toNat x.2.he:=by
 unfold wtp;rw[List.map_append,RM.put_append];rfl
theorem wtp_length(n:Nat)(pre:List (Int×RM.Sp)):(wtp n pre).length=n:=by unfold wtp;rw[RM.put_length,List.length_replicate]
def WI(Wz:World)(cb n:Nat)(pre:List (Int×RM.Sp))(F:Nat→Prop)(A:World):Prop:=KB Wz (fun k=>k=cb) F A∧cb<Wz.heap.size∧OI A cb (.slice (some ⟨cb,0,none⟩) n n) (wtp n pre)
theorem wi_stb(Wz:World)(cb n:Nat):Stb (WI Wz cb n):=fun _ _ _ _ _ h hk hF=>
 ⟨h.1.stb hk hF,h.2.1,h.2.2.keep fun g hg=>by cases hg;exact hk.block _ (Nat.lt_of_lt_of_le h.2.1 h.1.1.size) (h.1.2 _ h.2.1)⟩
section
variable (s:Sn) (D:Nat→Prop) (vc vw vp:Value) (p:List (List Int)) (w:World)
theorem waits_yes(hc:R2 D w vc s.cs)(hw:R2 D w vw s.ws)(hp:RL D w vp p)(hf:fsb s p=true)(hpl:p.length≤1000)(hll:∀l∈p,l.length≤1000):
  Calls Tryz.prog 142 #[.agg (nv s.st vc vw).toArray,vp] w fun e w'=>∃v,e=.returned (.tuple #[v,.int .i64 0])∧RI (fun g=>w.heap.size≤g) w' v (RM.wts s.st s.ws s.cs p)∧Below w.heap.size w w':=by
 have hbx:=(Below.refl w.heap.size w).alloc (Nat.le_refl _) (.cells (nv s.st vc vw).toArray 146);have HN:=Hd (NB.new w s.st vc vw);have HB:=Hd hbx;have hfe:=feasible_any s D vc vw vp p _ (hc.below' hbx) (hw.below' hbx) (hp.below' hbx) hpl hll;rw[hf]at hfe;have HFS:=Hd (fsb_fs hf);have HLL:=Hd hll;have HP:Hid (RL (fun g=>g<w.heap.size) w vp p):=hp.mono fun g _ h _=>h;have HW:Hid (R2 (fun g=>g<w.heap.size) w vw s.ws):=hw.mono fun g _ h _=>h;have HC:Hid (R2 (fun g=>g<w.heap.size) w vc s.cs):=hc.mono fun g _ h _=>h;obtain⟨ac,kc,rfl,_,_⟩:=hc.form;obtain⟨aw,kw,rfl,_,_⟩:=hw.form;obtain⟨ap,kp,rfl,_,_⟩:=hp.form;have HFE:=Hd hfe;have hwl:s.ws.length≤128:=HFS.out.wl;have hmk:=mkI s.ws.length (by omega);clear hc hw hp hf hll hbx hpl hfe;refine (callsIn_wide (n:=0)).1 ?_;refine callsIn_of_wp_marks Tryz.func142 rfl trivial ?_ rfl;simp only[Tryz.ntmps142,List.size_toArray,List.length_cons,List.length_nil,Nat.reduceAdd,Nat.reduceSub,Array.replicate_succ,Array.replicate_zero,List.push_toArray,List.append_toArray,List.nil_append,List.cons_append];have hwf:∀k,Fence.wide.fn k:=fun _=>trivial
 gi_wp2_with (refine wpListIn_load27g rfl _ rfl w.heap.size s.st _ _ rfl HN.out ?_)
 refine⟨rfl,(callsIn_wide.2 HFE.out).mono ?_⟩;rintro e W1 ⟨rfl,hb1⟩;have HN1:=Hd (HN.out.below' hb1);have HB1:=Hd (below_class HB.out hb1);have HZ1:Hid (w.heap.size<W1.heap.size):=HN1.out.lt;have c14:W1.cell? ⟨w.heap.size,14,none⟩=some (.slice aw s.ws.length kw):=HN1.out.cell 14;clear hb1 HN HB HFE
 gi_wp2_with (refine wpListIn_load27g rfl _ rfl w.heap.size s.st _ _ rfl ((HN1.out.alloc _).alloc _) ?_)
 clear c14 hmk;have hbY:=((Below.refl W1.heap.size W1).alloc (Nat.le_refl _) (.cells (Array.replicate s.ws.length (Value.int .i64 0)) 3)).alloc (by simp) (.cells #[.slice (some ⟨W1.heap.size,0,none⟩) s.ws.length s.ws.length] 52);have HBY:=Hd (below_class HB1.out hbY)
 have HOY:Hid (OI ((W1.alloc (.cells (Array.replicate s.ws.length (Value.int .i64 0)) 3)).alloc (.cells #[.slice (some ⟨W1.heap.size,0,none⟩) s.ws.length s.ws.length] 52)) W1.heap.size (.slice (some ⟨W1.heap.size,0,none⟩) s.ws.length s.ws.length) (wtp s.ws.length [])):=by
  have:=OI.lit (B:=W1.heap.size) W1 (List.replicate s.ws.length 0) (Nat.le_refl _) (by rw[List.length_replicate];unfold maxLen;omega);rw[ic_rep,List.length_replicate,List.toArray_replicate]at this;rw[wtp_nil];exact this.alloc _
 have HCY:Hid (((W1.alloc (.cells (Array.replicate s.ws.length (Value.int .i64 0)) 3)).alloc (.cells #[.slice (some ⟨W1.heap.size,0,none⟩) s.ws.length s.ws.length] 52)).heap[W1.heap.size+1]?=some (.cells #[.slice (some ⟨W1.heap.size,0,none⟩) s.ws.length s.ws.length] 52 (0,0))):=by
  have:=World.alloc_heap_new (W1.alloc (.cells (Array.replicate s.ws.length (Value.int .i64 0)) 3)) (.cells #[.slice (some ⟨W1.heap.size,0,none⟩) s.ws.length s.ws.length] 52);rwa[World.size_alloc]at this
 have HZY:Hid (((W1.alloc (.cells (Array.replicate s.ws.length (Value.int .i64 0)) 3)).alloc (.cells #[.slice (some ⟨W1.heap.size,0,none⟩) s.ws.length s.ws.length] 52)).heap.size=W1.heap.size+1+1):=by show _=_;simp
 clear hbY HB1 HN1;generalize ((W1.alloc (.cells (Array.replicate s.ws.length (Value.int .i64 0)) 3)).alloc (.cells #[.slice (some ⟨W1.heap.size,0,none⟩) s.ws.length s.ws.length] 52))=Y at HBY HOY HCY HZY⊢;generalize W1.heap.size=cb at HOY HCY HZY HZ1⊢;refine⟨rfl,(callsIn_wide.2 (stops_any (nv s.st (.slice ac s.cs.length kc) (.slice aw s.ws.length kw)) ap p.length kp _)).mono ?_⟩;rintro e W2 ⟨rfl,rfl⟩
 gi_wp2_with fail
 have hb1:=(Below.refl Y.heap.size Y).alloc (Nat.le_refl _) (.cells (nv s.st (.slice ac s.cs.length kc) (.slice aw s.ws.length kw)).toArray 146);have hb2:=hb1.alloc (by simp) (.cells #[.slice ap p.length kp] 150)
 have HSQ:Hid (Sq ((Y.alloc (.cells (nv s.st (.slice ac s.cs.length kc) (.slice aw s.ws.length kw)).toArray 146)).alloc (.cells #[.slice ap p.length kp] 150)) (Y.heap.size+1) Y.heap.size s (.slice ac s.cs.length kc) (.slice aw s.ws.length kw) (.slice ap p.length kp) p (fun k=>k<w.heap.size∨k=Y.heap.size+1∨k=Y.heap.size)):=by
  have hbw:=HBY.out.trans (hb2.mono HBY.out.size);have h3:=World.alloc_heap_new (Y.alloc (.cells (nv s.st (.slice ac s.cs.length kc) (.slice aw s.ws.length kw)).toArray 146)) (.cells #[.slice ap p.length kp] 150);rw[World.size_alloc]at h3;exact⟨(NB.new Y s.st _ _).alloc _,h3,(HC.out.below' hbw).mono fun g hg _ _=>.inl hg,(HW.out.below' hbw).mono fun g hg _ _=>.inl hg,(HP.out.below' hbw).mono fun g hg _ _=>.inl hg⟩
 have HBZ:=Hd (below_class HBY.out hb2)
 have HI0:Hid (WI ((Y.alloc (.cells (nv s.st (.slice ac s.cs.length kc) (.slice aw s.ws.length kw)).toArray 146)).alloc (.cells #[.slice ap p.length kp] 150)) cb s.ws.length [] (fun _=>False) ((Y.alloc (.cells (nv s.st (.slice ac s.cs.length kc) (.slice aw s.ws.length kw)).toArray 146)).alloc (.cells #[.slice ap p.length kp] 150))):=
  ⟨⟨Kp.refl _ _,fun _ _ h=>h⟩,by have:=HZY.out;have:=hb2.size;omega,(HOY.out.alloc _).alloc _⟩
 have HZZ:Hid (((Y.alloc (.cells (nv s.st (.slice ac s.cs.length kc) (.slice aw s.ws.length kw)).toArray 146)).alloc (.cells #[.slice ap p.length kp] 150)).heap.size=Y.heap.size+1+1):=by show _=_;simp
 have HCZ:Hid (((Y.alloc (.cells (nv s.st (.slice ac s.cs.length kc) (.slice aw s.ws.length kw)).toArray 146)).alloc (.cells #[.slice ap p.length kp] 150)).heap[cb+1]?=some (.cells #[.slice (some ⟨cb,0,none⟩) s.ws.length s.ws.length] 52 (0,0))):=(hb2.block (cb+1) (by have:=HZY.out;omega)).trans HCY.out;clear hb1 hb2 HOY HCY HBY HC HW HP;generalize ((Y.alloc (.cells (nv s.st (.slice ac s.cs.length kc) (.slice aw s.ws.length kw)).toArray 146)).alloc (.cells #[.slice ap p.length kp] 150))=Z at HSQ HBZ HI0 HZZ HCZ⊢;generalize hG0:(fun k=>k<w.heap.size∨k=Y.heap.size+1∨k=Y.heap.size)=G at HSQ
 have hG:∀k,G k→k<Z.heap.size∧k≠cb:=fun k hk=>by
  rw[←hG0]at hk;have:=HZZ.out;have:=HZY.out;have:=HZ1.out;have:=HBZ.out.size;rcases hk with h|h|h<;>omega
 have hseq:=stops_seq s (Y.heap.size+1) Y.heap.size _ _ _ p G Z HSQ.out (by rw[←hG0];exact .inr (.inl rfl)) (by rw[←hG0];exact .inr (.inr rfl)) (fun k hk=>(hG k hk).1) HFS.out HLL.out;have HG:=Hd hG;have eg:∀args w,(callFunc 204 args).run Tryz.prog w=.ok (.enter 204 args) w:=by intro args w;simp[go_sem]
 clear hG hG0 HSQ;generalize Value.agg (nv s.st (.slice ac s.cs.length kc) (.slice aw s.ws.length kw)).toArray=jn;generalize Value.slice ap p.length kp=jp;generalize Value.slice aw s.ws.length kw=jw;generalize Y.heap.size=yz at hseq HZY HZZ⊢
 refine wpIn_rangeFunc_B (gf:=204) (lb:= #[.pointer (some ⟨yz+1,0,none⟩),.pointer (some ⟨yz,0,none⟩)]) rfl eg hseq (Below.refl _ _) (fun x F A args h=>by rw[h.1];rfl) (fun k hk=>(HG.out k hk).1) (fun k h=>h.elim)
  (WI Z cb s.ws.length) (fun _ _ _ _=>False) (wi_stb _ _ _) (fun _ _ _ _ _ _ h _ _=>h) HI0.out
  (fun x a' A=>0≤x.1∧x.1<(s.ws.length:Int)∧∃b8,TB A b8 x.2∧a'={tmps:= #[jn,jp,.pointer (some ⟨w.heap.size,0,none⟩),undef,.slice none 0 0,.int .i64 0,.pointer (some ⟨cb+1,0,none⟩),.int .i64 x.1,.pointer (some ⟨b8,0,none⟩),jn,jp,.bool true,.bool false,.pointer (some ⟨w.heap.size,14,none⟩),jw,.int .i64 (s.ws.length:Int),.slice (some ⟨cb,0,none⟩) s.ws.length s.ws.length,jn,jp,
   .func (.func 204) #[] #[.pointer (some ⟨yz+1,0,none⟩),.pointer (some ⟨yz,0,none⟩)],.int .i64 x.1,.agg #[.int .i64 x.2.fl,.int .i64 x.2.he,.int .i64 x.2.le],undef,undef,undef,undef,undef,undef],defers:=[]}) ?hB ?assign ?body ?done ?stop
 case hB=>
  rintro x a' A A' ⟨h1,h2,b8,h3,h4⟩ _ hk;exact⟨h1,h2,b8,(hk b8 h3.lt ⟨_,h3,rfl⟩).trans h3,h4⟩
 case assign=>
  rintro l' x F A args K ⟨rfl,h1,h2⟩ hK;obtain⟨x,fl,he,le⟩:=x;have HK:=Hd hK;have HT:=Hd (TB.new A ⟨fl,he,le⟩);clear hK hseq
  gi_wp2
  refine HK.out _ _ ((Below.refl _ A).alloc (Nat.le_refl _) _) ⟨h1,h2,A.heap.size,HT.out,rfl⟩
 case body=>
  rintro l' pre x F A a' ⟨hk,hl,ho⟩ ⟨h1,h2,b8,h3,rfl⟩;obtain⟨x,fl,he,le⟩:=x;obtain⟨i,rfl⟩:∃i:Nat,x=(i:Int):=⟨x.toNat,by have:0≤x:=h1;omega⟩;have hi:i<s.ws.length:=by have:(i:Int)<_:=h2;omega
  have hil:(i:Int)<(s.ws.length:Int):=by omega
  have hwf':∀k,(Fence.wide.inRound l').fn k:=fun _=>trivial
  have hcb:A.cell? ⟨cb+1,0,none⟩=some (.slice (some ⟨cb,0,none⟩) s.ws.length s.ws.length):=by
   rw[cell_of_row _ _ 0 _ _ _ ((hk.1.block (cb+1) (by have:=HZY.out;have:=HZZ.out;omega) (by omega)).trans HCZ.out)];rfl
  have hc8:=h3.c1;obtain⟨y,hy⟩:∃y,(wtp s.ws.length pre)[i]?=some y:=⟨_,List.getElem?_eq_getElem (by rw[wtp_length];exact hi)⟩;have s4:A.cell? ⟨cb,i,none⟩=some (.int .i64 y):=ho.cell hy;have t4:=ho.fr i
  have HF:Hid (Kept (fun k=>F k∨G k) A (A.setCell ⟨cb,i,none⟩ (.int .i64 he))∧WI Z cb s.ws.length (pre++[((i:Int),⟨fl,he,le⟩)]) F (A.setCell ⟨cb,i,none⟩ (.int .i64 he))):=by
   have hkp:Kp (fun k=>k=cb) A (A.setCell ⟨cb,i,none⟩ (.int .i64 he)):=(Kp.refl _ A).set _ _ _ (fun _=>rfl);refine⟨Kept.ofKp hkp (fun k _ hf e=> ?_),⟨hk.1.trans hkp (fun _ _ h=>h),hk.2⟩,hl,?_⟩
   ·rcases hf with hf|hf
    ·rw[e]at hf;exact hk.2 _ hl hf
    ·exact(HG.out k hf).2 e
   ·rw[wtp_snoc];exact ho.put i he
  clear hk hl ho h1 h2 h3 hy hseq HI0
  gi_wp2
  exact HF.out
 case done=>
  rintro Dd xs F A hD hFD rfl ⟨hk,hl,ho⟩ hK
  have hcb:A.cell? ⟨cb+1,0,none⟩=some (.slice (some ⟨cb,0,none⟩) s.ws.length s.ws.length):=by
   rw[cell_of_row _ _ 0 _ _ _ ((hk.1.block (cb+1) (by have:=HZY.out;have:=HZZ.out;omega) (by omega)).trans HCZ.out)];rfl
  have hDc:Dd≠cb:=fun e=>hk.2 cb hl (e▸hFD)
  have HE:Hid (RI (fun g=>w.heap.size≤g) (A.putObj Dd (.deferred none)) (.slice (some ⟨cb,0,none⟩) s.ws.length s.ws.length) (RM.wts s.st s.ws s.cs p)∧Below w.heap.size w (A.putObj Dd (.deferred none))):=by
   have hz:=HZ1.out;have e:wtp s.ws.length (RM.stp s.st s.ws s.cs p)=RM.wts s.st s.ws s.cs p:=by unfold wtp RM.wts;rw[RM.stp_prs]
   rw[e]at ho;have hkd:Kp (fun k=>k=Dd) A (A.putObj Dd (.deferred none)):=(Kp.refl _ A).put Dd _ (fun _=>rfl);refine⟨(ho.keep fun g hg=>by cases hg;exact hkd.block cb (by have:=hk.1.size;omega) (fun h=>hDc h.symm)).ri (fun g hg=>by cases hg;show _≤cb;omega),?_⟩;have hbA:Below w.heap.size w A:=hk.1.below HBZ.out HBZ.out.size (fun i hi e=>by omega);refine hkd.below hbA hbA.size (fun i hi e=> ?_);have:=HBZ.out.size;omega
  clear hk hl ho hseq HI0
  gi_wp2
  refine⟨by simp,.inl ⟨_,_,rfl,run_takeDeferred hK,?_⟩⟩;exact⟨_,results_tmp2 rfl _ _ _,_,rfl,HE.out.1,HE.out.2⟩
 case stop=>
  rintro Dd c pre F A hD hFD hSp h hK;exact h.elim
end
theorem sum_nn:∀{l:List Int},(∀t∈l,0≤t)→0≤l.sum
 |[],_=>by simp
 |x::l,h=>by
  have h1:=h x (by simp);have h2:=sum_nn (l:=l) fun t ht=>h t (by simp[ht]);rw[List.sum_cons];omega
theorem fold_sum:∀(l:List Int) (a:Int),0≤a→(∀t∈l,0≤t)→a+l.sum≤1099511627776→l.foldl (fun n x=>NumM.cl (NumM.cl n+NumM.cl x)) a=a+l.sum
 |[],a,_,_,_=>by simp
 |x::l,a,ha,h,hs=>by
  have h1:=h x (by simp);have h3:∀t∈l,0≤t:=fun t ht=>h t (by simp[ht]);have h2:=sum_nn h3;rw[List.sum_cons]at hs⊢;rw[List.foldl_cons,SM.addC ha h1 (by omega),fold_sum l (a+x) (by omega) h3 (by omega)];omega
theorem sumL_sum{l:List Int}(h0:∀t∈l,0≤t)(hs:l.sum≤1099511627776):NumM.sumL l=l.sum:=by
 unfold NumM.sumL;rw[fold_sum l 0 (Int.le_refl _) h0 (by omega),Int.zero_add]
theorem sum_nil(a:Option Addr)(cap:Nat)(w:World):Calls Tryz.prog 123 #[.slice a 0 cap] w fun e w'=>e=.returned (.int .i64 0)∧w'=w:=by
 go_enter Tryz.func123,Tryz.ntmps123
 go_wp2
 go_loop [3,8] (fun t i=>i=.int .i64 0∧t=.int .i64 0) (fun _ _=>0)
 case atStart=>exact⟨rfl,rfl⟩
 case round=>
  obtain⟨rfl,rfl⟩:=hrel;go_wp2;go_ret;exact⟨rfl,rfl⟩
theorem sum_ri(D:Nat→Prop)(W:World)(v:Value)(l:List Int)(h:RI D W v l)(hl:l.length≤100000)(h0:∀t∈l,0≤t)(hs:l.sum≤1099511627776):Calls Tryz.prog 123 #[v] W fun e w'=>e=.returned (.int .i64 l.sum)∧w'=W:=by
 obtain⟨a,cap,rfl,_,_⟩:=h.form;cases l with
 |nil=>exact sum_nil a cap W
 |cons x l=>
  obtain⟨g,o,rfl,_⟩:=h.at (i:=0) (y:=x) rfl
  have:=sum_any g o (x::l).length cap (x::l) W (Nat.le_refl _) (by omega) (fun i hi=>by
   have e:(x::l)[i]?=some ((x::l)[i]):=List.getElem?_eq_getElem hi;rw[e]
   exact h.cells i _ e)
  rw[List.take_length,sumL_sum h0 hs]at this;exact this
section
variable (s:Sn) (D:Nat→Prop) (vc vw vp:Value) (p:List (List Int)) (w:World)
theorem cost_yes(hc:R2 D w vc s.cs)(hw:R2 D w vw s.ws)(hp:RL D w vp p)(hf:fsb s p=true)(hpl:p.length≤1000)(hll:∀l∈p,l.length≤1000):
  Calls Tryz.prog 106 #[.agg (nv s.st vc vw).toArray,vp] w fun e w'=>e=.returned (.tuple #[.int .i64 (RM.cst s.st s.ws s.cs p),.int .i64 0])∧Below w.heap.size w w':=by
 have hbx:=(Below.refl w.heap.size w).alloc (Nat.le_refl _) (.cells (nv s.st vc vw).toArray 146);have HN:=Hd (NB.new w s.st vc vw);have HB:=Hd hbx;have HF:=Hd (waits_yes s D vc vw vp p _ (hc.below' hbx) (hw.below' hbx) (hp.below' hbx) hf hpl hll);have hfs:=fsb_fs hf;have HS:=Hd hfs.sum;have HL:Hid ((RM.wts s.st s.ws s.cs p).length≤100000):=by show _≤_;rw[RM.wts_length];have:=hfs.wl;omega
 have HBD:=Hd (hfs.bd hll);have HCO:=Hd (hfs.cost hll);clear hc hw hp hf hll hbx hpl hfs;generalize RM.wts s.st s.ws s.cs p=ts at HF HS HL HBD;generalize RM.cst s.st s.ws s.cs p=ct at HS HCO⊢
 go_enter Tryz.func106,Tryz.ntmps106
 go_wp2_with (refine wpList_load27g rfl _ rfl w.heap.size s.st _ _ rfl HN.out ?_)
 refine HF.out.mono ?_;rintro e W1 ⟨v,rfl,hr,hb1⟩;have HB1:=Hd (below_class HB.out hb1);have hsum:=sum_ri _ W1 v ts hr HL.out (fun t ht=>(HBD.out t ht).1) (by rw[HS.out];have:=HCO.out;omega);rw[HS.out]at hsum;have HSU:=Hd hsum;clear hb1 HN HB HF hr hsum HBD HL HS HCO
 go_wp2_with fail
 refine HSU.out.mono ?_;rintro e W2 ⟨rfl,rfl⟩;go_wp2
 go_ret2
 exact⟨rfl,HB1.out⟩
end
end Go.Proofs.YtlajleogofmkcaaGreat
namespace Go.Proofs.YtlajleogofmkcaaGreat
open Go.ChangeShapes Go.WideShapes Go.ChangeAt Go.RowKit
section
variable {H:Type} {enc:TypeId×Value→H} {w:World} {base:Nat} {spare:Nat→Bool} {held:Bool}
theorem ready_open{r:Reach}{b0:Nat}{v:Value}{d:DataW H}{p:List MemPlace}(hv:Value.okWide Tryz.prog w r b0 178 v)(h:DataW.Trod enc Tryz.prog w base spare held 178 v d p):
  ∃x y:Int,v=.agg #[.int .i64 x,.int .i64 y]:=by
 obtain⟨v0,v1,y0,y1,n,rfl,_,_,h0,h1⟩:=Go.Joins.open_agg2 Tryz.underlying178 (by kernel_rfl) Tryz.cellsYp hv h;obtain⟨z0,e0,_,_⟩:=DataW.trod_int Tryz.underlying3 h0;obtain⟨z1,e1,_,_⟩:=DataW.trod_int Tryz.underlying3 h1;cases e0;cases e1;exact⟨z0,z1,rfl⟩
theorem ints_open{r:Reach}{b0:Nat}{v:Value}{d:DataW H}{p:List MemPlace}(hv:Value.okWide Tryz.prog w r b0 52 v)(h:DataW.Trod enc Tryz.prog w base spare held 52 v d p):∃l,RI (fun _=>True) w v l:=by
 obtain⟨a,len,cap,rfl⟩:=okWide_slice Tryz.underlying52 hv;obtain⟨fuel,hf⟩:=h;obtain⟨v,l,e,hr⟩:=ints_read hf;simp[Value.cells]at e;exact⟨l,by rw[e];exact hr⟩
end
end Go.Proofs.YtlajleogofmkcaaGreat
