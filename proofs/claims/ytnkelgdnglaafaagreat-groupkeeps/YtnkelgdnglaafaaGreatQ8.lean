import Derived.Test.YtnkelgdnglaafaaGreatQ7
set_option maxHeartbeats 8000000
set_option maxRecDepth 100000
namespace Go.Proofs.YtnkelgdnglaafaaGreat
open Go.RowKit Go.Shelf
def gnc(pa:Option Addr)(k wt:Int)(a:RM.Sp)(co le:Int)(st:List Bool):List Value:=[.pointer pa,.int .i64 k,.int .i64 wt,.int .i64 a.fl,.int .i64 a.he,.int .i64 a.le,.int .i64 co,.int .i64 le]++st.map Value.bool
theorem ncl_gnc(s:Sn)(pa:Option Addr)(wt:Int)(n:Nn):ncl s pa wt n=gnc pa (n.k:Int) wt (sat s n) (RM.cst s.st s.ws s.cs n.b) ((PM.lf n.st:Nat):Int) (pad n.st):=rfl
theorem gnc_st(pa:Option Addr)(k wt:Int)(a:RM.Sp)(co le:Int)(st:List Bool)(w:Nat):(gnc pa k wt a co le st).set (8+w) (.bool true)=gnc pa k wt a co le (st.set w true):=by
 unfold gnc;rw[List.set_append_right _ _ (by simp),List.map_set];simp
theorem gnc_one(pa:Option Addr)(k wt:Int)(a:RM.Sp)(co le:Int)(st:List Bool):∀u∈gnc pa k wt a co le st,u.oneCell'=true:=fun u hu=>by
 unfold gnc at hu;rcases List.mem_append.1 hu with hu|hu
 ·simp only[List.mem_cons,List.not_mem_nil,or_false]at hu;rcases hu with rfl|rfl|rfl|rfl|rfl|rfl|rfl|rfl<;>rfl
 ·obtain⟨b,_,rfl⟩:=List.mem_map.1 hu
  rfl
theorem wpList_storeA{ops:Array Oper}{rest:List Oper}{op:Oper}{a:Act}{w:World}{Q:Exit→Act→World→Prop}(hgd:op.guard=none)(x y:Operand)(ho:op.op=.store 160 x y)
  (b:Nat) {pa:Option Addr} {k wt:Int} {z:RM.Sp} {co le:Int} {st:List Bool} (c:RM.Sp) (hL:NK w b (gnc pa k wt z co le st)) (hx:a.eval x=.pointer (some ⟨b,3,none⟩)) (hy:a.eval y=.agg #[.int .i64 c.fl,.int .i64 c.he,.int .i64 c.le])
  (hn:∀W',Kp (fun k=>k=b) w W'→NK W' b (gnc pa k wt c co le st)→wpList Tryz.prog ops Q rest (a.put op.dst undef) W'):wpList Tryz.prog ops Q (op::rest) a w:=by
 refine wpList_store_mid hgd 160 x y ho b 3 #[.int .i64 c.fl,.int .i64 c.he,.int .i64 c.le] hx hy (fun j hj=> ?_) infoT (by simp[Value.oneCell']) ?_
 ·refine⟨?_,hL.fr _⟩;rw[hL.cell];have:j=0∨j=1∨j=2:=by simp at hj;omega
  rcases this with rfl|rfl|rfl<;>rfl
 ·refine hn _ ((((Kp.refl (fun k=>k=b) w).set b _ _ (fun _=>rfl)).set b _ _ (fun _=>rfl)).set b _ _ (fun _=>rfl)) ?_;exact((hL.put 3 (.int .i64 c.fl)).put 4 (.int .i64 c.he)).put 5 (.int .i64 c.le)
def tcl(s:St)(vc vw vb:Value):List Value:=nv s vc vw++[vb]
structure TR(D:Nat→Prop)(W:World)(tb:Nat)(s:Sn)(vc vw vb:Value):Prop where
 hl:W.heap[tb]?=some (.cells (tcl s.st vc vw vb).toArray 178 (0,0))
 td:D tb
 cs:R2 D W vc s.cs
 ws:R2 D W vw s.ws
 bh:RL D W vb (bhd s)
 rg:rgt s=true
section
variable {D D':Nat→Prop} {W W':World} {tb:Nat} {s:Sn} {vc vw vb:Value}
theorem TR.lt(h:TR D W tb s vc vw vb):tb<W.heap.size:=(Array.getElem?_eq_some_iff.1 h.hl).1
theorem TR.keep(h:TR D W tb s vc vw vb)(hs:W.heap.size≤W'.heap.size)(hk:∀g,D g→g<W.heap.size→W'.heap[g]?=W.heap[g]?):TR D W' tb s vc vw vb:=
 ⟨(hk tb h.td h.lt).trans h.hl,h.td,h.cs.keep hs hk,h.ws.keep hs hk,h.bh.keep hs hk,h.rg⟩
theorem TR.mono(h:TR D W tb s vc vw vb)(hD:∀g,D g→g<W.heap.size→D' g):TR D' W tb s vc vw vb:=
 ⟨h.hl,hD tb h.td h.lt,h.cs.mono fun g hg hl _=>hD g hg hl,h.ws.mono fun g hg hl _=>hD g hg hl,h.bh.mono fun g hg hl _=>hD g hg hl,h.rg⟩
theorem TR.below'(h:TR D W tb s vc vw vb)(hb:Below W.heap.size W W'):TR D W' tb s vc vw vb:=h.keep hb.size fun g _ hl=>hb.block g hl
theorem TR.drew(h:TR D W tb s vc vw vb):TR D W.drew tb s vc vw vb:=h.below' (Below.refl _ _).drew
theorem TR.cell(h:TR D W tb s vc vw vb)(i:Nat):W.cell? ⟨tb,i,none⟩=(tcl s.st vc vw vb)[i]?:=blk_cell h.hl i
theorem TR.c13(h:TR D W tb s vc vw vb):W.cell? ⟨tb,13,none⟩=some vc:=h.cell 13
theorem TR.c14(h:TR D W tb s vc vw vb):W.cell? ⟨tb,14,none⟩=some vw:=h.cell 14
theorem TR.c15(h:TR D W tb s vc vw vb):W.cell? ⟨tb,15,none⟩=some vb:=h.cell 15
theorem TR.site(h:TR D W tb s vc vw vb):W.rangeAt tb 0 (sv s.st):=fun j v hv=>by
 rw[Nat.zero_add,h.cell,←hv];have hj:j<13:=by have:=(List.getElem?_eq_some_iff.1 hv).1;rwa[sv_length]at this
 show(sv s.st++[vc,vw,vb])[j]?=_;rw[List.getElem?_append_left (by rw[sv_length];exact hj)]
end
section
variable {W0:World} {K:Act→Prop} {o:Oper} {a:Act}
theorem loadRs(w:World)(b k:Nat)(v:Value)(h:w.cell? ⟨b,k,none⟩=some v):(Instr.loadAt 97 (.pointer (some ⟨b,k,none⟩))).run Tryz.prog w=.ok v w:=by simp[go_sem,h]
theorem calm_loadRs(x:Operand)(b k:Nat){v:Value}(ho:o.op=.load 97 x)(hx:a.eval x=.pointer (some ⟨b,k,none⟩))(hr:∀w,Below W0.heap.size W0 w→w.cell? ⟨b,k,none⟩=some v)
  (h:K (a.put o.dst v)):Oper.calm Tryz.prog W0 o a K:=
 calm_val _ (fun w hw=>by unfold execOp;simp only[ho,hx,Sem.run_bind,Sem.run_pure,Result.andThen_ok,loadRs w b k v (hr w hw)]) h
theorem calm_ixRs(x y:Operand){g f n cap j:Nat}(ho:o.op=.indexAddr 97 x y)(hx:a.eval x=.slice (some ⟨g,f,none⟩) n cap)(hy:a.eval y=.int .i64 (j:Int))(hj:j<n)
  (h:K (a.put o.dst (.pointer (some ⟨g,f+j*2,none⟩)))):Oper.calm Tryz.prog W0 o a K:=
 calm_val _ (fun w hw=>by unfold execOp;simp only[ho,hx,hy,Sem.run_bind,Sem.run_pure,Result.andThen_ok,ixR w rfl hj]) h
theorem loadR2(w:World)(b k:Nat)(y:Int×Int)(h0:w.cell? ⟨b,k,none⟩=some (.int .i64 y.1))(h1:w.cell? ⟨b,k+1,none⟩=some (.int .i64 y.2)):(Instr.loadAt 127 (.pointer (some ⟨b,k,none⟩))).run Tryz.prog w=.ok (.agg #[.int .i64 y.1,.int .i64 y.2]) w:=by
 simp[go_sem,h0,h1]
theorem calm_loadR2(x:Operand)(b k:Nat)(y:Int×Int)(ho:o.op=.load 127 x)(hx:a.eval x=.pointer (some ⟨b,k,none⟩))(hr:∀w,Below W0.heap.size W0 w→w.cell? ⟨b,k,none⟩=some (.int .i64 y.1)∧w.cell? ⟨b,k+1,none⟩=some (.int .i64 y.2))
  (h:K (a.put o.dst (.agg #[.int .i64 y.1,.int .i64 y.2]))):Oper.calm Tryz.prog W0 o a K:=
 calm_val _ (fun w hw=>by unfold execOp;simp only[ho,hx,Sem.run_bind,Sem.run_pure,Result.andThen_ok,loadR2 w b k y (hr w hw).1 (hr w hw).2]) h
end
theorem shas_any(f:Int)(m c:Nat)(hc:c≤64)(w:World):Calls Tryz.prog 128 #[.agg #[.int .i64 f,.int .i64 (m:Int)],.int .i64 (c:Int)] w fun e w'=>e=.returned (.bool (PM.bt m c))∧Below w.heap.size w w':=by
 have hb:=(Below.refl w.heap.size w).alloc (Nat.le_refl _) (.cells #[.int .i64 f,.int .i64 (m:Int)] 131);have hsh:=shr_any m c hc;have HE:=Hd (bt_bits m c)
 go_enter Tryz.func128,Tryz.ntmps128
 go_wp2;go_ret;exact⟨ret_bool HE.out,hb⟩
def En.grw(e:En)(q w:Nat):En:=⟨some ⟨q,0,none⟩,(w:Int),Go.Proofs.YtnkelgdnglaafaaGreat.grw e.nd w⟩
def En.nxc(e:En)(q:Nat):En:=⟨some ⟨q,0,none⟩,-1,Go.Proofs.YtnkelgdnglaafaaGreat.nxc e.nd⟩
section
variable {D:Nat→Prop} {W:World} {tb q:Nat} {s:Sn} {vc vw vb:Value} {e:En}
theorem grown_any(ht:TR D W tb s vc vw vb)(hq:NK W q (e.c s))(ok:e.nd.ok s){j:Nat}(hj:j<s.ws.length)(hs:e.nd.st[j]?=some false):
  Calls Tryz.prog 156 #[.pointer (some ⟨tb,0,none⟩),.pointer (some ⟨q,0,none⟩),.int .i64 (j:Int)] W fun r w'=>r=.returned (.agg ((e.grw q j).c s).toArray)∧Below W.heap.size W w':=by
 obtain⟨y,hy⟩:∃y,s.ws[j]?=some y:=⟨_,List.getElem?_eq_getElem hj⟩;have nb:=ok.nb;have hwr:=nb.bs.rz.wr y (List.mem_of_getElem? hy);have HNX:Hid (∀w',Calls Tryz.prog 129 #[.agg (sv s.st).toArray,.agg #[.int .i64 (sat s e.nd).fl,.int .i64 (sat s e.nd).he,.int .i64 (sat s e.nd).le],.int .i64 y.1] w' fun r w''=>r=.returned (.agg #[.int .i64 y.1,.int .i64 (RM.ar s.st (sat s e.nd) y.1),.int .i64 (RM.ar s.st (sat s e.nd) y.1+RM.dw s.st)])∧Below w'.heap.size w' w''):=fun w'=>next_any s.st nb.bs.rz.rt (sat s e.nd) nb.sk nb.sl y.1 hwr.1 hwr.2 w';have hnn:=RM.ar_nn nb.bs.rz.rt nb.sk y.1;have hll:=RM.ar_le nb.bs.rz.rt nb.sk y.1
 have HAD:Hid (∀w',Calls Tryz.prog 58 #[.int .i64 (RM.cst s.st s.ws s.cs e.nd.b),.int .i64 (RM.ar s.st (sat s e.nd) y.1)] w' fun r w''=>r=.returned (.int .i64 (RM.cst s.st s.ws s.cs e.nd.b+RM.ar s.st (sat s e.nd) y.1))∧w''=w'):=fun w'=>(add_any _ _ w').mono fun r w'' hh=>by
  obtain⟨he,rfl⟩:=hh;refine⟨?_,rfl⟩;rw[he,SM.addC nb.c0 hnn (by have:=nb.c1;have:=nb.sl;omega)]
 have hlf:=PM.lf_set hs;have hjs:j<e.nd.st.length:=(List.getElem?_eq_some_iff.1 hs).1
 have HEQ:Hid ((e.grw q j).c s=gnc (some ⟨q,0,none⟩) (e.nd.k:Int) (j:Int) ⟨y.1,RM.ar s.st (sat s e.nd) y.1,RM.ar s.st (sat s e.nd) y.1+RM.dw s.st⟩ (RM.cst s.st s.ws s.cs e.nd.b+RM.ar s.st (sat s e.nd) y.1) (((PM.lf e.nd.st:Nat):Int)-1) ((pad e.nd.st).set j true)):=by
  show ncl s _ _ _=_;rw[ncl_gnc];show gnc _ _ _ (sat s (grw e.nd j)) (RM.cst s.st s.ws s.cs (grw e.nd j).b) ((PM.lf (e.nd.st.set j true):Nat):Int) (pad (e.nd.st.set j true))=_;rw[sat_grw ok.kl,cst_grw ok,RM.wf_get hy,RM.nx_eq nb.sk,pad_set hjs]
  congr 1
  omega
 have hq':NK W q (gnc e.pa (e.nd.k:Int) e.wt (sat s e.nd) (RM.cst s.st s.ws s.cs e.nd.b) ((PM.lf e.nd.st:Nat):Int) (pad e.nd.st)):=hq;obtain⟨lf,HLF⟩:∃l:Nat,Hid (PM.lf e.nd.st=l+1):=⟨PM.lf e.nd.st-1,by show _=_;omega⟩;have HPL:=Hd (pad_length e.nd.st);have HJ8:Hid (j<128):=by have:=nb.bs.wl;show _<_;omega
 rw[HEQ.out];rw[HLF.out]at hq'⊢;have hcast:((lf+1:Nat):Int)-1=(lf:Int):=by omega
 rw[hcast];obtain⟨ac,kc,rfl,_,_⟩:=ht.cs.form;obtain⟨aw,kw,rfl,_,_⟩:=ht.ws.form;obtain⟨gw,ow,rfl,w0,w1⟩:=ht.ws.at hy;have hl128:lf≤128:=by have:PM.lf e.nd.st≤e.nd.st.length:=List.count_le_length;have:=ok.sl;have:=nb.bs.wl;have:=HLF.out;omega
 generalize RM.ar s.st (sat s e.nd) y.1=T at HNX HAD⊢;generalize T+RM.dw s.st=L at HNX⊢;generalize RM.cst s.st s.ws s.cs e.nd.b=co at hq' HAD⊢;generalize co+T=co2 at HAD⊢;generalize sat s e.nd=a0 at hq' HNX⊢;generalize pad e.nd.st=st at hq' HPL⊢;generalize (e.nd.k:Int)=k at hq'⊢;generalize e.pa=pa at hq';generalize e.wt=wt at hq';have HT:=Hd ht;have HQ:=Hd hq';have HWC:Hid (∀w',Below W.heap.size W w'→w'.cell? ⟨gw,ow+j*2,none⟩=some (.int .i64 y.1)):=fun w' hw=>(Below.cell hw (p:=⟨gw,ow+j*2,none⟩) (World.block_lt_of_cell? W _ w0)).trans w0;have hx1:=(Below.refl W.heap.size W).alloc (Nat.le_refl _) (.cells zn.toArray 171);have HQ1:=Hd (hq'.below' hx1);have HZ1:=Hd (NK.new W zn_length);have HB1:=Hd hx1;have HS1:Hid ((W.alloc (.cells zn.toArray 171)).heap.size=W.heap.size+1):=by show _=_;simp
 have HZ2:=Hd (NK.new (W.alloc (.cells zn.toArray 171)) zn_length);have HG1:=Hd (gnc_one pa k wt a0 co ((lf+1:Nat):Int) st);clear hq hq' ht hlf hs HEQ HLF nb hnn hll w0 w1 hwr hcast hx1 HQ
 go_enter Tryz.func156,Tryz.ntmps156
 go_wp2_with (first|(refine wpList_loadN rfl _ rfl q 0 _ HQ1.out.1 rfl HQ1.out.range ?_)|(refine wpList_storeN rfl _ _ rfl _ rfl rfl HZ2.out HQ1.out.1 HG1.out ?_)|(refine wpList_allocN rfl rfl ?_))
 intro W2 hk2 hz2 hn2;have hb2:Below W.heap.size W W2:=hk2.below ((HB1.out).alloc (by rw[HS1.out];omega) _) (by simp;omega) (fun i hi e=>by omega);have HZ:=Hd ((HZ1.out.below' ((Below.refl _ _).alloc (Nat.le_refl _) (.cells zn.toArray 171))).kp hk2 (by simp));have HB2:=Hd hb2;have HN2:=Hd hn2;have c0:W2.cell? ⟨W.heap.size+1,0,none⟩=some (.pointer pa):=hn2.cell 0;have f0:=hn2.fr 0;have c2:W2.cell? ⟨W.heap.size+1,2,none⟩=some (.int .i64 wt):=hn2.cell 2;have f2:=hn2.fr 2;have HS2:Hid (W.heap.size+2≤W2.heap.size):=by show _≤_;omega
 clear hk2 hz2 hn2 hb2 HQ1 HZ1 HZ2 HB1 HS1 HG1
 go_wp2_with fail
 clear c0 f0 c2 f2;have HN3:=Hd ((HN2.out.put 0 (.pointer (some ⟨q,0,none⟩))).put 2 (.int .i64 (j:Int)));have hk3:Kp (fun i=>i=W.heap.size+1) W2 ((W2.setCell ⟨W.heap.size+1,0,none⟩ (.pointer (some ⟨q,0,none⟩))).setCell ⟨W.heap.size+1,2,none⟩ (.int .i64 (j:Int))):=((Kp.refl (fun i=>i=W.heap.size+1) W2).set _ _ _ (fun _=>rfl)).set _ _ _ (fun _=>rfl);have HB3:=Hd (hk3.below HB2.out (by have:=HS2.out;omega) (fun i hi e=>by omega));have HZ3:=Hd (HZ.out.kp hk3 (by simp));have HN3':Hid (NK ((W2.setCell ⟨W.heap.size+1,0,none⟩ (.pointer (some ⟨q,0,none⟩))).setCell ⟨W.heap.size+1,2,none⟩ (.int .i64 (j:Int))) (W.heap.size+1) (gnc (some ⟨q,0,none⟩) k (j:Int) a0 co ((lf:Int)+1) st)):=HN3.out;clear HN3 hk3 HZ HN2 HB2;generalize (W2.setCell ⟨W.heap.size+1,0,none⟩ (.pointer (some ⟨q,0,none⟩))).setCell ⟨W.heap.size+1,2,none⟩ (.int .i64 (j:Int))=W3 at HN3' HB3 HZ3⊢;have HT3:=Hd (HT.out.below' HB3.out);have HST:Hid (∀w',Below W3.drew.heap.size W3.drew w'→w'.rangeAt tb 0 (sv s.st)):=fun w' hw=>(HT3.out.drew.below' hw).site;have HWS:Hid (∀w',Below W3.drew.heap.size W3.drew w'→w'.cell? ⟨tb,14,none⟩=some (.slice (some ⟨gw,ow,none⟩) s.ws.length kw)):=fun w' hw=>(HT3.out.drew.below' hw).c14
 have HAT:Hid (∀w',Below W3.drew.heap.size W3.drew w'→w'.rangeAt (W.heap.size+1) 3 [.int .i64 a0.fl,.int .i64 a0.he,.int .i64 a0.le]):=fun w' hw=>fun i v hv=>by
  rw[(HN3'.out.below' ((Below.refl W3.heap.size W3).drew.trans hw)).cell]
  match i,hv with
  |0,hv=>cases hv;rfl
  |1,hv=>cases hv;rfl
  |2,hv=>cases hv;rfl
  |i+3,hv=>simp at hv
 have HXG:Hid (∀w',Below W3.drew.heap.size W3.drew w'→w'.cell? ⟨gw,ow+j*2,none⟩=some (.int .i64 y.1)):=fun w' hw=>HWC.out w' (below_class HB3.out ((Below.refl W3.heap.size W3).drew.trans hw));refine wp_region_tail 18 (by kernel_rfl) (by kernel_rfl) ?_;simp only[List.take_succ_cons,List.take_zero,List.drop_succ_cons,List.drop_zero]
 iterate 4 (unfold wpCalm;generalize hK:wpCalm _ _ _ _ _=K;unfold Oper.calm;go_simp;refine⟨_,fun _ _=>rfl,?_⟩;subst hK)
 unfold wpCalm;generalize hK:wpCalm _ _ _ _ _=K;rw[if_pos (by go_simp)];refine calm_load23b _ tb s.st rfl rfl HST.out ?_;go_simp;subst hK;unfold wpCalm;generalize hK:wpCalm _ _ _ _ _=K;unfold Oper.calm;go_simp;refine⟨_,fun _ _=>rfl,?_⟩;subst hK;unfold wpCalm;generalize hK:wpCalm _ _ _ _ _=K;rw[if_pos (by go_simp)];refine calm_loadE _ _ _ a0 rfl rfl HAT.out ?_;go_simp;subst hK
 iterate 4 (unfold wpCalm;generalize hK:wpCalm _ _ _ _ _=K;unfold Oper.calm;go_simp;refine⟨_,fun _ _=>rfl,?_⟩;subst hK)
 unfold wpCalm;generalize hK:wpCalm _ _ _ _ _=K;rw[if_pos (by go_simp)];refine calm_loadWs _ _ _ rfl rfl HWS.out ?_;go_simp;subst hK;unfold wpCalm;generalize hK:wpCalm _ _ _ _ _=K;unfold Oper.calm;go_simp;refine⟨_,fun _ _=>rfl,?_⟩;subst hK;unfold wpCalm;generalize hK:wpCalm _ _ _ _ _=K;rw[if_pos (by go_simp)];refine calm_ixWs _ _ rfl rfl rfl hj ?_;go_simp;subst hK;unfold wpCalm;generalize hK:wpCalm _ _ _ _ _=K;unfold Oper.calm;go_simp;refine⟨_,fun _ _=>rfl,?_⟩;subst hK;unfold wpCalm;generalize hK:wpCalm _ _ _ _ _=K;rw[if_pos (by go_simp)];refine calm_load3 _ _ _ rfl rfl HXG.out ?_;go_simp;subst hK;unfold wpCalm;generalize hK:wpCalm _ _ _ _ _=K;unfold Oper.calm;go_simp;refine⟨_,fun w' hw=>HNX.out w',?_⟩;subst hK;unfold wpCalm;generalize hK:wpCalm _ _ _ _ _=K;unfold Oper.calm;go_simp;refine⟨_,fun _ _=>rfl,?_⟩;subst hK;refine wpCalm_nil ?_;intro W4 hb4;have hbd:=(Below.refl W3.heap.size W3).drew.trans hb4;have HN4:=Hd (HN3'.out.below' hbd);have HB4:=Hd (below_class HB3.out hbd);have HZ4:=Hd (HZ3.out.below' hbd);clear hbd hb4 HST HWS HAT HXG HN3' HB3 HZ3 HT3 HNX HWC
 go_wp2_with (refine wpList_storeA rfl _ _ rfl (W.heap.size+1) ⟨y.1,T,L⟩ HN4.out rfl rfl ?_)
 intro W5 hk5 hn5;have HB5:=Hd (hk5.below HB4.out (by have:=HN4.out.lt;omega) (fun i hi e=>by omega));have HZ5:=Hd (HZ4.out.kp hk5 (by simp));have HN5:=Hd hn5;have c4:W5.cell? ⟨W.heap.size+1,4,none⟩=some (.int .i64 T):=hn5.cell 4;have c6:W5.cell? ⟨W.heap.size+1,6,none⟩=some (.int .i64 co):=hn5.cell 6;have f6:=hn5.fr 6;have c7:W5.cell? ⟨W.heap.size+1,7,none⟩=some (.int .i64 ((lf:Int)+1)):=hn5.cell 7;have f7:=hn5.fr 7;obtain⟨q8,hq8⟩:∃q8,st[j]?=some q8:=⟨_,List.getElem?_eq_getElem (by rw[HPL.out];exact HJ8.out)⟩
 have c8:W5.cell? ⟨W.heap.size+1,8+j,none⟩=some (.bool q8):=by
  rw[hn5.cell];unfold gnc;rw[List.getElem?_append_right (by simp)];simp[hq8]
 have f8:=hn5.fr (8+j);have hj8:(j:Int)<128:=by have:=HJ8.out;omega
 clear hk5 hn5 HB4 HZ4 HN4 hq8;have hkF:Kp (fun i=>i=W.heap.size+1) W5 (((W5.setCell ⟨W.heap.size+1,6,none⟩ (.int .i64 co2)).setCell ⟨W.heap.size+1,7,none⟩ (.int .i64 (lf:Int))).setCell ⟨W.heap.size+1,8+j,none⟩ (.bool true)):=(((Kp.refl (fun i=>i=W.heap.size+1) W5).set _ _ _ (fun _=>rfl)).set _ _ _ (fun _=>rfl)).set _ _ _ (fun _=>rfl)
 have HNF:Hid (NK (((W5.setCell ⟨W.heap.size+1,6,none⟩ (.int .i64 co2)).setCell ⟨W.heap.size+1,7,none⟩ (.int .i64 (lf:Int))).setCell ⟨W.heap.size+1,8+j,none⟩ (.bool true)) (W.heap.size+1) (gnc (some ⟨q,0,none⟩) k (j:Int) ⟨y.1,T,L⟩ co2 (lf:Int) (st.set j true))):=by
  have h1:=((HN5.out.put 6 (.int .i64 co2)).put 7 (.int .i64 (lf:Int))).put (8+j) (.bool true);have h2:((gnc (some ⟨q,0,none⟩) k (j:Int) ⟨y.1,T,L⟩ co ((lf:Int)+1) st).set 6 (.int .i64 co2)).set 7 (.int .i64 (lf:Int))=gnc (some ⟨q,0,none⟩) k (j:Int) ⟨y.1,T,L⟩ co2 (lf:Int) st:=rfl;rw[h2,gnc_st]at h1;exact h1
 have HBF:=Hd (hkF.below HB5.out (by have:=HN5.out.lt;omega) (fun i hi e=>by omega));have HZF:=Hd (HZ5.out.kp hkF (by simp));have HG1:=Hd (gnc_one (some ⟨q,0,none⟩) k (j:Int) ⟨y.1,T,L⟩ co2 (lf:Int) (st.set j true));clear hkF HN5 HB5 HZ5
 go_wp2_with (first|(go_at_call 58;refine (HAD.out _).mono ?_;rintro r w' ⟨rfl,rfl⟩)|(refine wpList_loadN rfl _ rfl (W.heap.size+1) 0 _ HNF.out.1 rfl HNF.out.range ?_)|(refine wpList_storeN rfl _ _ rfl W.heap.size rfl rfl HZF.out HNF.out.1 HG1.out ?_))
 intro W6 hk6 _ hn6;go_wp2;refine bodyPost_ret (retN Tryz.results156 rfl hn6) rfl ⟨rfl,?_⟩;exact hk6.below HBF.out (by have:=HZF.out.lt;omega) (fun i hi e=>by omega)
end
section
variable {D:Nat→Prop} {W:World} {tb q:Nat} {s:Sn} {vc vw vb:Value} {e:En}
theorem nextCar_any(ht:TR D W tb s vc vw vb)(hq:NK W q (e.c s))(ok:e.nd.ok s)(hk:e.nd.k+1<s.cs.length):
  Calls Tryz.prog 157 #[.pointer (some ⟨tb,0,none⟩),.pointer (some ⟨q,0,none⟩)] W fun r w'=>r=.returned (.agg ((e.nxc q).c s).toArray)∧Below W.heap.size W w':=by
 obtain⟨y,hy⟩:∃y,s.cs[e.nd.k+1]?=some y:=⟨_,List.getElem?_eq_getElem hk⟩;have HBG:Hid (∀w',Calls Tryz.prog 89 #[.agg #[.int .i64 y.1,.int .i64 y.2]] w' fun r w''=>r=.returned (.agg #[.int .i64 y.1,.int .i64 (-1),.int .i64 y.2])∧Below w'.heap.size w' w''):=fun w'=>begin_any y.1 y.2 w'
 have HEQ:Hid ((e.nxc q).c s=gnc (some ⟨q,0,none⟩) ((e.nd.k+1:Nat):Int) (-1) ⟨y.1,-1,y.2⟩ (RM.cst s.st s.ws s.cs e.nd.b) ((PM.lf e.nd.st:Nat):Int) (pad e.nd.st)):=by
  show ncl s _ _ _=_;rw[ncl_gnc];show gnc _ _ _ (sat s (nxc e.nd)) _ _ _=_;rw[sat_nxc ok hy];rfl
 have hq':NK W q (gnc e.pa (e.nd.k:Int) e.wt (sat s e.nd) (RM.cst s.st s.ws s.cs e.nd.b) ((PM.lf e.nd.st:Nat):Int) (pad e.nd.st)):=hq;rw[HEQ.out];obtain⟨ac,kc,rfl,_,_⟩:=ht.cs.form;obtain⟨gc,oc,rfl,w0,w1⟩:=ht.cs.at hy
 have HK8:Hid (e.nd.k≤100):=by
  obtain⟨n8,hrs⟩:=rgt_rs ht.rg;have:=hrs.cl;have:=hrs.n8;show _≤_;omega
 have hk8:e.nd.k≤100:=HK8.out;have hks:e.nd.k+1<s.cs.length:=hk;generalize RM.cst s.st s.ws s.cs e.nd.b=co at hq'⊢;generalize ((PM.lf e.nd.st:Nat):Int)=lf at hq'⊢;generalize sat s e.nd=a0 at hq'⊢;generalize pad e.nd.st=st at hq'⊢;generalize e.nd.k=k at hq' hk8 hks w0 w1 hk⊢;generalize e.pa=pa at hq';generalize e.wt=wt at hq';have HT:=Hd ht;have HWC:Hid (∀w',Below W.heap.size W w'→w'.cell? ⟨gc,oc+(k+1)*2,none⟩=some (.int .i64 y.1)∧w'.cell? ⟨gc,oc+(k+1)*2+1,none⟩=some (.int .i64 y.2)):=fun w' hw=>⟨(Below.cell hw (p:=⟨gc,oc+(k+1)*2,none⟩) (World.block_lt_of_cell? W _ w0)).trans w0,(Below.cell hw (p:=⟨gc,oc+(k+1)*2+1,none⟩) (World.block_lt_of_cell? W _ w1)).trans w1⟩;have hx1:=(Below.refl W.heap.size W).alloc (Nat.le_refl _) (.cells zn.toArray 171);have HQ1:=Hd (hq'.below' hx1);have HZ1:=Hd (NK.new W zn_length);have HB1:=Hd hx1;have HS1:Hid ((W.alloc (.cells zn.toArray 171)).heap.size=W.heap.size+1):=by show _=_;simp
 have HZ2:=Hd (NK.new (W.alloc (.cells zn.toArray 171)) zn_length);have HG1:=Hd (gnc_one pa (k:Int) wt a0 co lf st);clear hq hq' ht HEQ w0 w1 hx1 HK8 hk hy
 go_enter Tryz.func157,Tryz.ntmps157
 go_wp2_with (first|(refine wpList_loadN rfl _ rfl q 0 _ HQ1.out.1 rfl HQ1.out.range ?_)|(refine wpList_storeN rfl _ _ rfl _ rfl rfl HZ2.out HQ1.out.1 HG1.out ?_)|(refine wpList_allocN rfl rfl ?_))
 intro W2 hk2 hz2 hn2;have hb2:Below W.heap.size W W2:=hk2.below ((HB1.out).alloc (by rw[HS1.out];omega) _) (by simp;omega) (fun i hi e=>by omega);have HZ:=Hd ((HZ1.out.below' ((Below.refl _ _).alloc (Nat.le_refl _) (.cells zn.toArray 171))).kp hk2 (by simp));have HB2:=Hd hb2;have HN2:=Hd hn2;have c0:W2.cell? ⟨W.heap.size+1,0,none⟩=some (.pointer pa):=hn2.cell 0;have f0:=hn2.fr 0;have c1:W2.cell? ⟨W.heap.size+1,1,none⟩=some (.int .i64 (k:Int)):=hn2.cell 1;have f1:=hn2.fr 1;have c2:W2.cell? ⟨W.heap.size+1,2,none⟩=some (.int .i64 wt):=hn2.cell 2;have f2:=hn2.fr 2;have HS2:Hid (W.heap.size+2≤W2.heap.size):=by show _≤_;omega
 have hw1:IntKind.i64.wrap ((k:Int)+1)=((k+1:Nat):Int):=by rw[IntWalk.i64_in _ (by omega)];omega
 clear hk2 hz2 hn2 hb2 HQ1 HZ1 HZ2 HB1 HS1 HG1
 go_wp2_with fail
 clear c0 f0 c2 f2 c1 f1;have hk3:Kp (fun i=>i=W.heap.size+1) W2 (((W2.setCell ⟨W.heap.size+1,0,none⟩ (.pointer (some ⟨q,0,none⟩))).setCell ⟨W.heap.size+1,2,none⟩ (.int .i64 (-1))).setCell ⟨W.heap.size+1,1,none⟩ (.int .i64 ((k:Int)+1))):=(((Kp.refl (fun i=>i=W.heap.size+1) W2).set _ _ _ (fun _=>rfl)).set _ _ _ (fun _=>rfl)).set _ _ _ (fun _=>rfl);have HB3:=Hd (hk3.below HB2.out (by have:=HS2.out;omega) (fun i hi e=>by omega));have HZ3:=Hd (HZ.out.kp hk3 (by simp));have HN3:Hid (NK (((W2.setCell ⟨W.heap.size+1,0,none⟩ (.pointer (some ⟨q,0,none⟩))).setCell ⟨W.heap.size+1,2,none⟩ (.int .i64 (-1))).setCell ⟨W.heap.size+1,1,none⟩ (.int .i64 ((k:Int)+1))) (W.heap.size+1) (gnc (some ⟨q,0,none⟩) ((k:Int)+1) (-1) a0 co lf st)):=((HN2.out.put 0 (.pointer (some ⟨q,0,none⟩))).put 2 (.int .i64 (-1))).put 1 (.int .i64 ((k:Int)+1));clear hk3 HZ HN2 HB2 hw1;generalize ((W2.setCell ⟨W.heap.size+1,0,none⟩ (.pointer (some ⟨q,0,none⟩))).setCell ⟨W.heap.size+1,2,none⟩ (.int .i64 (-1))).setCell ⟨W.heap.size+1,1,none⟩ (.int .i64 ((k:Int)+1))=W3 at HN3 HB3 HZ3⊢;have HT3:=Hd (HT.out.below' HB3.out);have HWS:Hid (∀w',Below W3.drew.heap.size W3.drew w'→w'.cell? ⟨tb,13,none⟩=some (.slice (some ⟨gc,oc,none⟩) s.cs.length kc)):=fun w' hw=>(HT3.out.drew.below' hw).c13
 have HKC:Hid (∀w',Below W3.drew.heap.size W3.drew w'→w'.cell? ⟨W.heap.size+1,1,none⟩=some (.int .i64 ((k+1:Nat):Int))):=fun w' hw=>by
  rw[(HN3.out.below' ((Below.refl W3.heap.size W3).drew.trans hw)).cell];rfl
 have HXG:Hid (∀w',Below W3.drew.heap.size W3.drew w'→w'.cell? ⟨gc,oc+(k+1)*2,none⟩=some (.int .i64 y.1)∧w'.cell? ⟨gc,oc+(k+1)*2+1,none⟩=some (.int .i64 y.2)):=fun w' hw=>HWC.out w' (below_class HB3.out ((Below.refl W3.heap.size W3).drew.trans hw));refine wp_region_tail 11 (by kernel_rfl) (by kernel_rfl) ?_;simp only[List.take_succ_cons,List.take_zero,List.drop_succ_cons,List.drop_zero]
 iterate 4 (unfold wpCalm;generalize hK:wpCalm _ _ _ _ _=K;unfold Oper.calm;go_simp;refine⟨_,fun _ _=>rfl,?_⟩;subst hK)
 unfold wpCalm;generalize hK:wpCalm _ _ _ _ _=K;rw[if_pos (by go_simp)];refine calm_loadRs _ _ _ rfl rfl HWS.out ?_;go_simp;subst hK;unfold wpCalm;generalize hK:wpCalm _ _ _ _ _=K;unfold Oper.calm;go_simp;refine⟨_,fun _ _=>rfl,?_⟩;subst hK;unfold wpCalm;generalize hK:wpCalm _ _ _ _ _=K;rw[if_pos (by go_simp)];refine calm_load3 _ _ _ rfl rfl HKC.out ?_;go_simp;subst hK;unfold wpCalm;generalize hK:wpCalm _ _ _ _ _=K;rw[if_pos (by go_simp)];refine calm_ixRs _ _ rfl rfl rfl hks ?_;go_simp;subst hK;unfold wpCalm;generalize hK:wpCalm _ _ _ _ _=K;rw[if_pos (by go_simp)];refine calm_loadR2 _ _ _ y rfl rfl HXG.out ?_;go_simp;subst hK;unfold wpCalm;generalize hK:wpCalm _ _ _ _ _=K;unfold Oper.calm;go_simp;refine⟨_,fun w' hw=>HBG.out w',?_⟩;subst hK;unfold wpCalm;generalize hK:wpCalm _ _ _ _ _=K;unfold Oper.calm;go_simp;refine⟨_,fun _ _=>rfl,?_⟩;subst hK;refine wpCalm_nil ?_;intro W4 hb4;have hbd:=(Below.refl W3.heap.size W3).drew.trans hb4;have HN4:=Hd (HN3.out.below' hbd);have HB4:=Hd (below_class HB3.out hbd);have HZ4:=Hd (HZ3.out.below' hbd);clear hbd hb4 HWS HKC HXG HN3 HB3 HZ3 HT3 HBG HWC
 go_wp2_with (refine wpList_storeA rfl _ _ rfl (W.heap.size+1) ⟨y.1,-1,y.2⟩ HN4.out rfl rfl ?_)
 intro W5 hk5 hn5;have HB5:=Hd (hk5.below HB4.out (by have:=HN4.out.lt;omega) (fun i hi e=>by omega));have HZ5:=Hd (HZ4.out.kp hk5 (by simp));have HN5:=Hd hn5;have HG1:=Hd (gnc_one (some ⟨q,0,none⟩) ((k:Int)+1) (-1) ⟨y.1,-1,y.2⟩ co lf st);clear hk5 hn5 HB4 HZ4 HN4
 go_wp2_with (first|(refine wpList_loadN rfl _ rfl (W.heap.size+1) 0 _ HN5.out.1 rfl HN5.out.range ?_)|(refine wpList_storeN rfl _ _ rfl W.heap.size rfl rfl HZ5.out HN5.out.1 HG1.out ?_))
 intro W6 hk6 _ hn6;go_wp2;refine bodyPost_ret (retN Tryz.results157 rfl hn6) rfl ⟨rfl,?_⟩;exact hk6.below HB5.out (by have:=HZ5.out.lt;omega) (fun i hi e=>by omega)
theorem built_first(a:RM.Sp)(n:Int):Tryz.prog.built 171 [(2,.int .i64 (-1)),(3,.agg #[.int .i64 a.fl,.int .i64 a.he,.int .i64 a.le]),(5,.int .i64 n)]=some (gnc none 0 (-1) a 0 n (List.replicate 128 false)).toArray:=by kernel_rfl
theorem calm_build{W0:World}{K:Act→Prop}{o:Oper}{a:Act}(t:TypeId)(parts:Array (Nat×Operand))(ho:o.op=.build t parts)(ps:List (Nat×Value))(hp:(parts.map fun (i,x)=>(i,a.eval x)).toList=ps)(cells:Array Value)(hb:Tryz.prog.built t ps=some cells)
  (h:K (a.put o.dst (.agg cells))):Oper.calm Tryz.prog W0 o a K:=
 calm_val _ (fun w hw=>by
  subst hp;unfold execOp
  simp only[ho,Sem.run_bind,Sem.run_pure,run_build w t _ cells hb,Result.andThen_ok]) h
def En.z(s:Sn):En:=⟨none,-1,nd0 s⟩
theorem tfirst_any(ht:TR D W tb s vc vw vb):
  Calls Tryz.prog 93 #[.pointer (some ⟨tb,0,none⟩)] W fun r w'=>r=.returned (.agg ((En.z s).c s).toArray)∧Below W.heap.size W w':=by
 obtain⟨n8,hrs⟩:=rgt_rs ht.rg
 have hc0:0<s.cs.length:=by
  have h1:=hrs.cl;have h2:=hrs.n1;omega
 obtain⟨y,hy⟩:∃y,s.cs[0]?=some y:=⟨_,List.getElem?_eq_getElem hc0⟩;have HBG:Hid (∀w',Calls Tryz.prog 89 #[.agg #[.int .i64 y.1,.int .i64 y.2]] w' fun r w''=>r=.returned (.agg #[.int .i64 y.1,.int .i64 (-1),.int .i64 y.2])∧Below w'.heap.size w' w''):=fun w'=>begin_any y.1 y.2 w'
 have HEQ:Hid ((En.z s).c s=gnc none 0 (-1) ⟨y.1,-1,y.2⟩ 0 (s.ws.length:Int) (List.replicate 128 false)):=by
  show ncl s _ _ _=_;rw[ncl_gnc];show gnc _ _ _ (sat s (nd0 s)) (RM.cst s.st s.ws s.cs (List.replicate s.cs.length [])) ((PM.lf (List.replicate s.ws.length false):Nat):Int) (pad (List.replicate s.ws.length false))=_;rw[sat_nd0 hy,cst_nil0,pad_rep _ hrs.wl];unfold PM.lf;rw[List.count_replicate];simp;rfl
 rw[HEQ.out];obtain⟨ac,kc,rfl,_,_⟩:=ht.cs.form;obtain⟨aw,kw,rfl,_,_⟩:=ht.ws.form;obtain⟨gc,oc,rfl,w0,w1⟩:=ht.cs.at hy;have HT:=Hd ht;have HWC:Hid (∀w',Below W.heap.size W w'→w'.cell? ⟨gc,oc+0*2,none⟩=some (.int .i64 y.1)∧w'.cell? ⟨gc,oc+0*2+1,none⟩=some (.int .i64 y.2)):=fun w' hw=>⟨(Below.cell hw (p:=⟨gc,oc+0*2,none⟩) (World.block_lt_of_cell? W _ w0)).trans w0,(Below.cell hw (p:=⟨gc,oc+0*2+1,none⟩) (World.block_lt_of_cell? W _ w1)).trans w1⟩;have hwl:s.ws.length≤128:=hrs.wl;have hx1:=(Below.refl W.heap.size W).alloc (Nat.le_refl _) (.cells zn.toArray 171);have HZ1:=Hd (NK.new W zn_length);have HB1:=Hd hx1;clear ht HEQ w0 w1 hx1 hy hrs
 go_enter Tryz.func93,Tryz.ntmps93
 go_wp2_with (refine wpList_allocN rfl rfl ?_)
 generalize W.alloc (.cells zn.toArray 171)=W3 at HZ1 HB1⊢;have HT3:=Hd (HT.out.below' HB1.out);have HWS:Hid (∀w',Below W3.drew.heap.size W3.drew w'→w'.cell? ⟨tb,13,none⟩=some (.slice (some ⟨gc,oc,none⟩) s.cs.length kc)):=fun w' hw=>(HT3.out.drew.below' hw).c13;have HWV:Hid (∀w',Below W3.drew.heap.size W3.drew w'→w'.cell? ⟨tb,14,none⟩=some (.slice aw s.ws.length kw)):=fun w' hw=>(HT3.out.drew.below' hw).c14;have HXG:Hid (∀w',Below W3.drew.heap.size W3.drew w'→w'.cell? ⟨gc,oc+0*2,none⟩=some (.int .i64 y.1)∧w'.cell? ⟨gc,oc+0*2+1,none⟩=some (.int .i64 y.2)):=fun w' hw=>HWC.out w' (below_class HB1.out ((Below.refl W3.heap.size W3).drew.trans hw));refine wp_region_tail 15 (by kernel_rfl) (by kernel_rfl) ?_;simp only[List.take_succ_cons,List.take_zero,List.drop_succ_cons,List.drop_zero]
 iterate 4 (unfold wpCalm;generalize hK:wpCalm _ _ _ _ _=K;unfold Oper.calm;go_simp;refine⟨_,fun _ _=>rfl,?_⟩;subst hK)
 unfold wpCalm;generalize hK:wpCalm _ _ _ _ _=K;rw[if_pos (by go_simp)];refine calm_loadRs _ _ _ rfl rfl HWS.out ?_;go_simp;subst hK;unfold wpCalm;generalize hK:wpCalm _ _ _ _ _=K;rw[if_pos (by go_simp)];refine calm_ixRs _ _ (j:=0) rfl rfl rfl hc0 ?_;go_simp;subst hK;unfold wpCalm;generalize hK:wpCalm _ _ _ _ _=K;rw[if_pos (by go_simp)];refine calm_loadR2 _ _ _ y rfl rfl HXG.out ?_;go_simp;subst hK;unfold wpCalm;generalize hK:wpCalm _ _ _ _ _=K;unfold Oper.calm;go_simp;refine⟨_,fun w' hw=>HBG.out w',?_⟩;subst hK
 iterate 4 (unfold wpCalm;generalize hK:wpCalm _ _ _ _ _=K;unfold Oper.calm;go_simp;refine⟨_,fun _ _=>rfl,?_⟩;subst hK)
 unfold wpCalm;generalize hK:wpCalm _ _ _ _ _=K;rw[if_pos (by go_simp)];refine calm_loadWs _ _ _ rfl rfl HWV.out ?_;go_simp;subst hK;unfold wpCalm;generalize hK:wpCalm _ _ _ _ _=K;unfold Oper.calm;go_simp;refine⟨_,fun _ _=>rfl,?_⟩;subst hK;unfold wpCalm;generalize hK:wpCalm _ _ _ _ _=K;rw[if_pos (by go_simp)];refine calm_build _ _ rfl [(2,.int .i64 (-1)),(3,.agg #[.int .i64 y.1,.int .i64 (-1),.int .i64 y.2]),(5,.int .i64 (s.ws.length:Int))] (by simp only[List.map_toArray,List.map_cons,List.map_nil];rfl) _ (built_first ⟨y.1,-1,y.2⟩ (s.ws.length:Int)) ?_;go_simp;subst hK;refine wpCalm_nil ?_;intro W4 hb4;have hbd:=(Below.refl W3.heap.size W3).drew.trans hb4;have HB4:=Hd (below_class HB1.out hbd);have HZ4:=Hd (HZ1.out.below' hbd);have HG1:=Hd (gnc_one none 0 (-1) ⟨y.1,-1,y.2⟩ 0 (s.ws.length:Int) (List.replicate 128 false));clear hbd hb4 HWS HXG HWV HB1 HZ1 HT3 HBG HWC
 go_wp2_with (refine wpList_storeN rfl _ _ rfl W.heap.size rfl rfl HZ4.out (by unfold gnc;simp) HG1.out ?_)
 intro W6 hk6 _ hn6;go_wp2;refine bodyPost_ret (retN Tryz.results93 rfl hn6) rfl ⟨rfl,?_⟩;exact hk6.below HB4.out (by have:=HZ4.out.lt;omega) (fun i hi e=>by omega)
end
attribute [local go_sem] Oper.semAt_some
def cke(s:Sn)(e:En)(q:Nat):Nat→List En
 |0=>[]
 |j+1=>cke s e q j++if e.nd.st[j]?=some false∧mayk s e.nd.k (j:Int)=true then[e.grw q j]else[]
def che(s:Sn)(e:En)(q:Nat):List En:=cke s e q s.ws.length++if e.nd.k+1<s.cs.length then[e.nxc q]else[]
section
variable {s:Sn} {e:En} {q:Nat}
theorem cke_yes{j:Nat}(h1:e.nd.st[j]?=some false)(h2:mayk s e.nd.k (j:Int)=true):cke s e q (j+1)=cke s e q j++[e.grw q j]:=by rw[cke,if_pos ⟨h1,h2⟩]
theorem cke_no{j:Nat}(h:¬(e.nd.st[j]?=some false∧mayk s e.nd.k (j:Int)=true)):cke s e q (j+1)=cke s e q j:=by rw[cke,if_neg h,List.append_nil]
theorem cke_pre{i j:Nat}(h:i≤j):cke s e q i<+:cke s e q j:=by
 induction j with
 |zero=>rw[Nat.le_zero.1 h];exact List.prefix_rfl
 |succ j ih=>
  rcases Nat.lt_or_ge i (j+1)with h1|h1
  ·refine (ih (by omega)).trans ?_;rw[cke];exact List.prefix_append _ _
  ·rw[show i=j+1 by omega];exact List.prefix_rfl
theorem cke_len:∀(j:Nat),(cke s e q j).length≤j
 |0=>Nat.le_refl _
 |j+1=>by
  rw[cke,List.length_append];have:=cke_len j;split<;>simp<;>omega
theorem che_len(hw:s.ws.length≤128):(che s e q).length≤129:=by
 unfold che;rw[List.length_append];have:=cke_len (s:=s) (e:=e) (q:=q) s.ws.length;split<;>simp<;>omega
theorem cke_nd:∀(j:Nat),(cke s e q j).map (·.nd)=chk s e.nd j
 |0=>rfl
 |j+1=>by
  rw[cke,List.map_append,cke_nd j,chk];split<;>rfl
theorem che_nd(h:e.nd.ok s):(che s e q).map (·.nd)=chd s e.nd:=by
 unfold che chd;rw[List.map_append,cke_nd,h.bl];split<;>rfl
end
structure Cq(W:World)(c1 c2 tb q:Nat)(s:Sn)(vc vw vb:Value)(e:En)(G:Nat→Prop):Prop where
 t1:W.heap[c1]?=some (.cells #[.pointer (some ⟨tb,0,none⟩)] 137 (0,0))
 t2:W.heap[c2]?=some (.cells #[.pointer (some ⟨q,0,none⟩)] 168 (0,0))
 tr:TR G W tb s vc vw vb
 nk:NK W q (e.c s)
 g1:G c1
 g2:G c2
 gq:G q
section
variable {w W W':World} {c1 c2 tb q:Nat} {s:Sn} {vc vw vb:Value} {e:En} {G:Nat→Prop}
theorem Cq.keep(h:Cq W c1 c2 tb q s vc vw vb e G)(hz:W.heap.size≤W'.heap.size)(hk:∀k,G k→k<W.heap.size→W'.heap[k]?=W.heap[k]?):Cq W' c1 c2 tb q s vc vw vb e G:=
 ⟨(hk c1 h.g1 (Array.getElem?_eq_some_iff.1 h.t1).1).trans h.t1,(hk c2 h.g2 (Array.getElem?_eq_some_iff.1 h.t2).1).trans h.t2,h.tr.keep hz hk,h.nk.keep (hk q h.gq h.nk.lt),h.g1,h.g2,h.gq⟩
theorem Cq.below'(h:Cq W c1 c2 tb q s vc vw vb e G)(hb:Below W.heap.size W W'):Cq W' c1 c2 tb q s vc vw vb e G:=h.keep hb.size fun k _ hl=>hb.block k hl
end
def EN(s:Sn)(x:En)(_:Nat→Prop)(_:World)(args:Array Value):Prop:=args= #[.agg (x.c s).toArray]
structure Cj(W:World)(c1 c2 tb q:Nat)(s:Sn)(vc vw vb:Value)(e:En)(G:Nat→Prop)(J:List En→(Nat→Prop)→World→Prop)(pre:List En):Prop where
 sq:Cq W c1 c2 tb q s vc vw vb e G
 jj:J pre (fun _=>False) W
section
variable {W W':World} {c1 c2 tb q:Nat} {s:Sn} {vc vw vb:Value} {e:En} {G:Nat→Prop} {J:List En→(Nat→Prop)→World→Prop} {pre:List En}
theorem Cj.next(h:Cj W c1 c2 tb q s vc vw vb e G J pre)(hJ:Stb J)(hb:Below W.heap.size W W'):Cj W' c1 c2 tb q s vc vw vb e G J pre:=
 ⟨h.sq.below' hb,hJ pre _ _ W W' h.jj (Kp.ofBelow _ hb) (fun _ h=>.inl h)⟩
theorem Cj.round(h:Cj W c1 c2 tb q s vc vw vb e G J pre){x:En}(hk:Kept (fun k=>False∨G k) W W')(hj:J (pre++[x]) (fun _=>False) W'):Cj W' c1 c2 tb q s vc vw vb e G J (pre++[x]):=
 ⟨h.sq.keep hk.size (fun k hg hlt=>hk.same k hlt (.inr hg)),hj⟩
end
section
variable {W0:World} {K:Act→Prop} {o:Oper} {a:Act}
theorem loadPN(w:World)(b k:Nat)(v:Value)(h:w.cell? ⟨b,k,none⟩=some v):(Instr.loadAt 168 (.pointer (some ⟨b,k,none⟩))).run Tryz.prog w=.ok v w:=by simp[go_sem,h]
theorem calm_loadPN(x:Operand)(b k:Nat){v:Value}(ho:o.op=.load 168 x)(hx:a.eval x=.pointer (some ⟨b,k,none⟩))(hr:∀w,Below W0.heap.size W0 w→w.cell? ⟨b,k,none⟩=some v)
  (h:K (a.put o.dst v)):Oper.calm Tryz.prog W0 o a K:=
 calm_val _ (fun w hw=>by unfold execOp;simp only[ho,hx,Sem.run_bind,Sem.run_pure,Result.andThen_ok,loadPN w b k v (hr w hw)]) h
theorem loadPT(w:World)(b k:Nat)(v:Value)(h:w.cell? ⟨b,k,none⟩=some v):(Instr.loadAt 137 (.pointer (some ⟨b,k,none⟩))).run Tryz.prog w=.ok v w:=by simp[go_sem,h]
theorem calm_loadPT(x:Operand)(b k:Nat){v:Value}(ho:o.op=.load 137 x)(hx:a.eval x=.pointer (some ⟨b,k,none⟩))(hr:∀w,Below W0.heap.size W0 w→w.cell? ⟨b,k,none⟩=some v)
  (h:K (a.put o.dst v)):Oper.calm Tryz.prog W0 o a K:=
 calm_val _ (fun w hw=>by unfold execOp;simp only[ho,hx,Sem.run_bind,Sem.run_pure,Result.andThen_ok,loadPT w b k v (hr w hw)]) h
theorem loadB4(w:World)(b k:Nat)(v:Value)(h:w.cell? ⟨b,k,none⟩=some v):(Instr.loadAt 4 (.pointer (some ⟨b,k,none⟩))).run Tryz.prog w=.ok v w:=by simp[go_sem,h]
theorem calm_loadB4(x:Operand)(b k:Nat){v:Value}(ho:o.op=.load 4 x)(hx:a.eval x=.pointer (some ⟨b,k,none⟩))(hr:∀w,Below W0.heap.size W0 w→w.cell? ⟨b,k,none⟩=some v)
  (h:K (a.put o.dst v)):Oper.calm Tryz.prog W0 o a K:=
 calm_val _ (fun w hw=>by unfold execOp;simp only[ho,hx,Sem.run_bind,Sem.run_pure,Result.andThen_ok,loadB4 w b k v (hr w hw)]) h
end
theorem children_seq(s:Sn)(c1 c2 tb q:Nat)(vc vw vb:Value)(e:En)(G:Nat→Prop)(w:World)(hq:Cq w c1 c2 tb q s vc vw vb e G)(ok:e.nd.ok s):
  SeqG Tryz.prog 155 #[.pointer (some ⟨c1,0,none⟩),.pointer (some ⟨c2,0,none⟩)] (EN s) (fun _=>False) G (fun xs=>xs=che s e q) (fun pre=>pre<+:che s e q) w:=by
 intro nn lo J Jx W hW hJ hJx hY h0;show CallsIn Fence.wide nn Tryz.prog 155 #[.func (.yield lo) #[] #[],.pointer (some ⟨c1,0,none⟩),.pointer (some ⟨c2,0,none⟩)] W _;obtain⟨ac,kc,rfl,_,_⟩:=hq.tr.cs.form;obtain⟨aw,kw,rfl,_,_⟩:=hq.tr.ws.form;have HQ0:Hid (Cj W c1 c2 tb q s (.slice ac s.cs.length kc) (.slice aw s.ws.length kw) vb e G J []):=⟨hq.keep hW.size (fun k _ hlt=>hW.block k hlt),h0⟩;have HJ:=Hd hJ;have HY:=Hd hY;have HOK:=Hd ok;obtain⟨n8,hrs⟩:=rgt_rs hq.tr.rg;have HRS:=Hd hrs;have hwl:s.ws.length≤128:=hrs.wl;have hkc:e.nd.k<s.cs.length:=by have:=ok.kl;have:=ok.bl;omega
 have hk8:e.nd.k≤8:=by have:=hrs.cl;have:=hrs.n8;omega
 have d1:W.cell? ⟨c1,0,none⟩=some (.pointer (some ⟨tb,0,none⟩)):=by rw[cell_of_row _ _ 0 _ _ _ HQ0.out.sq.t1];rfl
 have d14:W.cell? ⟨tb,14,none⟩=some (.slice aw s.ws.length kw):=HQ0.out.sq.tr.c14;refine callsIn_of_wp Tryz.func155 rfl trivial ?_ rfl;simp only[Tryz.ntmps155,List.size_toArray,List.length_cons,List.length_nil,Nat.reduceAdd,Nat.reduceSub,Array.replicate_succ,Array.replicate_zero,List.push_toArray,List.append_toArray,List.nil_append,List.cons_append];have hwf:∀k,Fence.wide.fn k:=fun _=>trivial;have hdd:∀k:Nat,(Fence.wide.depth.isSome=true→1≤k):=fun k h=>by cases h
 clear hq ok hW hJ hJx hY h0 hrs
 gi_wp2_with fail
 clear d1 d14
 gi_loopw [12] (fun i wr=>∃(j:Nat),j≤s.ws.length∧i=.int .i64 (j:Int)∧Hid (Cj wr c1 c2 tb q s (.slice ac s.cs.length kc) (.slice aw s.ws.length kw) vb e G J (cke s e q j))) (fun i _=>s.ws.length-(intOf i).toNat)
 case atStart=>exact⟨0,Nat.zero_le _,rfl,HQ0⟩
 case round=>
  clear HQ0
  rename World=>Wr
  obtain⟨j,hj,rfl,HQ⟩:=hrel;by_cases hlt:j<s.ws.length
  ·have hjz:(j:Int)<(s.ws.length:Int):=by omega
   obtain⟨y,hy⟩:∃y,s.ws[j]?=some y:=⟨_,List.getElem?_eq_getElem hlt⟩;obtain⟨st,hst⟩:∃st,e.nd.st[j]?=some st:=⟨_,List.getElem?_eq_getElem (by rw[HOK.out.sl];exact hlt)⟩;obtain⟨gw,ow,haw,w0,w1⟩:=HQ.out.sq.tr.ws.at hy;subst haw;have hja:j<128:=by omega
   have hjb:(j:Int)<128:=by omega
   obtain⟨m,hm,hym⟩:=HRS.out.mm.eq j y hy;have HMY:Hid (mayk s e.nd.k (j:Int)=PM.bt m e.nd.k):=by show _=_;unfold mayk;rw[Int.toNat_natCast,hm];rfl
   obtain⟨y1,y2⟩:=y;simp only at hym;subst hym;have HQ1:=Hd (HQ.out.next HJ.out ((Below.refl Wr.heap.size Wr).alloc (Nat.le_refl _) (.cells #[.int .i64 y1,.int .i64 (m:Int)] 131)));have HY2:Hid ((Wr.alloc (.cells #[.int .i64 y1,.int .i64 (m:Int)] 131)).heap[Wr.heap.size]?=some (.cells #[.int .i64 y1,.int .i64 (m:Int)] 131 (0,0))):=World.alloc_heap_new Wr _;have HST:=Hd hst;clear hy hst hm HQ
   gi_wp2_with fail
   clear w0 w1;generalize Wr.alloc (.cells #[.int .i64 y1,.int .i64 (m:Int)] 131)=V at HQ1 HY2⊢;generalize Wr.heap.size=wb at HY2⊢;have hcell:∀{w':World} {p:Addr} {v:Value},Below V.drew.heap.size V.drew w'→V.cell? p=some v→w'.cell? p=some v:=fun hw h=>(Below.cell ((Below.refl V.heap.size V).drew.trans hw) (World.block_lt_of_cell? V _ h)).trans h;have HC2:Hid (∀w',Below V.drew.heap.size V.drew w'→w'.cell? ⟨c2,0,none⟩=some (.pointer (some ⟨q,0,none⟩))):=fun w' hw=>hcell hw (by rw[cell_of_row _ _ 0 _ _ _ HQ1.out.sq.t2];rfl);have HC1:Hid (∀w',Below V.drew.heap.size V.drew w'→w'.cell? ⟨c1,0,none⟩=some (.pointer (some ⟨tb,0,none⟩))):=fun w' hw=>hcell hw (by rw[cell_of_row _ _ 0 _ _ _ HQ1.out.sq.t1];rfl);have HC8:Hid (∀w',Below V.drew.heap.size V.drew w'→w'.cell? ⟨q,8+j,none⟩=some (.bool st)):=fun w' hw=>hcell hw ((HQ1.out.sq.nk.cell (8+j)).trans (ncl_st (by rw[HOK.out.sl];exact hwl) HST.out));have HKK:Hid (∀w',Below V.drew.heap.size V.drew w'→w'.cell? ⟨q,1,none⟩=some (.int .i64 (e.nd.k:Int))):=fun w' hw=>hcell hw (HQ1.out.sq.nk.cell 1);have HWV:Hid (∀w',Below V.drew.heap.size V.drew w'→w'.heap[wb]?=some (.cells #[.int .i64 (y1,(m:Int)).1,.int .i64 (y1,(m:Int)).2] 131 (0,0))):=fun w' hw=>(((Below.refl V.heap.size V).drew.trans hw).block wb (Array.getElem?_eq_some_iff.1 HY2.out).1).trans HY2.out;clear hcell;cases st with
   |true=>
    have HE:Hid (cke s e q (j+1)=cke s e q j):=cke_no (fun h=>by rw[HST.out]at h;cases h.1);refine wpIn_region_tail 23 (by kernel_rfl) (by kernel_rfl) ?_;simp only[List.take_succ_cons,List.take_zero,List.drop_succ_cons,List.drop_zero];unfold wpCalm;generalize hK:wpCalm _ _ _ _ _=K;rw[if_pos (by go_simp)];refine calm_loadPN _ _ _ rfl rfl HC2.out ?_;go_simp;subst hK
    iterate 4 (unfold wpCalm;generalize hK:wpCalm _ _ _ _ _=K;unfold Oper.calm;go_simp;refine⟨_,fun _ _=>rfl,?_⟩;subst hK)
    unfold wpCalm;generalize hK:wpCalm _ _ _ _ _=K;rw[if_pos (by go_simp)];refine calm_loadB4 _ _ _ rfl rfl HC8.out ?_;go_simp;subst hK
    iterate 2 (unfold wpCalm;generalize hK:wpCalm _ _ _ _ _=K;unfold Oper.calm;go_simp;refine⟨_,fun _ _=>rfl,?_⟩;subst hK)
    iterate 6 (unfold wpCalm;generalize hK:wpCalm _ _ _ _ _=K;go_simp;subst hK)
    iterate 2 (unfold wpCalm;generalize hK:wpCalm _ _ _ _ _=K;unfold Oper.calm;go_simp;refine⟨_,fun _ _=>rfl,?_⟩;subst hK)
    iterate 7 (unfold wpCalm;generalize hK:wpCalm _ _ _ _ _=K;go_simp;subst hK)
    refine wpCalm_nil ?_;intro V2 hb2;have HQ2:=Hd (HQ1.out.next HJ.out ((Below.refl V.heap.size V).drew.trans hb2));rw[←HE.out]at HQ2;clear hb2 HC1 HC2 HC8 HKK HWV HQ1 HY2
    gi_wp2
    go_roundw
    case rel=>exact⟨j+1,by omega,by go_num,HQ2⟩
    case measure=>simp[intOf];omega
   |false=>
    have HH:=Hd (shas_any y1 m e.nd.k (by omega));cases hbt:PM.bt m e.nd.k with
    |false=>
     rw[hbt]at HH;have HE:Hid (cke s e q (j+1)=cke s e q j):=cke_no (fun h=>by rw[HMY.out,hbt]at h;cases h.2);clear hbt;refine wpIn_region_tail 23 (by kernel_rfl) (by kernel_rfl) ?_;simp only[List.take_succ_cons,List.take_zero,List.drop_succ_cons,List.drop_zero];unfold wpCalm;generalize hK:wpCalm _ _ _ _ _=K;rw[if_pos (by go_simp)];refine calm_loadPN _ _ _ rfl rfl HC2.out ?_;go_simp;subst hK
     iterate 4 (unfold wpCalm;generalize hK:wpCalm _ _ _ _ _=K;unfold Oper.calm;go_simp;refine⟨_,fun _ _=>rfl,?_⟩;subst hK)
     unfold wpCalm;generalize hK:wpCalm _ _ _ _ _=K;rw[if_pos (by go_simp)];refine calm_loadB4 _ _ _ rfl rfl HC8.out ?_;go_simp;subst hK
     iterate 2 (unfold wpCalm;generalize hK:wpCalm _ _ _ _ _=K;unfold Oper.calm;go_simp;refine⟨_,fun _ _=>rfl,?_⟩;subst hK)
     unfold wpCalm;generalize hK:wpCalm _ _ _ _ _=K;rw[if_pos (by go_simp)];refine calm_loadWV _ wb (y1,(m:Int)) rfl rfl HWV.out ?_;go_simp;subst hK;unfold wpCalm;generalize hK:wpCalm _ _ _ _ _=K;rw[if_pos (by go_simp)];refine calm_loadPN _ _ _ rfl rfl HC2.out ?_;go_simp;subst hK
     iterate 2 (unfold wpCalm;generalize hK:wpCalm _ _ _ _ _=K;unfold Oper.calm;go_simp;refine⟨_,fun _ _=>rfl,?_⟩;subst hK)
     unfold wpCalm;generalize hK:wpCalm _ _ _ _ _=K;rw[if_pos (by go_simp)];refine calm_load3 _ _ _ rfl rfl HKK.out ?_;go_simp;subst hK;unfold wpCalm;generalize hK:wpCalm _ _ _ _ _=K;unfold Oper.calm;go_simp;refine⟨_,fun w' hw=>HH.out w',?_⟩;subst hK
     iterate 2 (unfold wpCalm;generalize hK:wpCalm _ _ _ _ _=K;unfold Oper.calm;go_simp;refine⟨_,fun _ _=>rfl,?_⟩;subst hK)
     iterate 7 (unfold wpCalm;generalize hK:wpCalm _ _ _ _ _=K;go_simp;subst hK)
     refine wpCalm_nil ?_;intro V2 hb2;have HQ2:=Hd (HQ1.out.next HJ.out ((Below.refl V.heap.size V).drew.trans hb2));rw[←HE.out]at HQ2;clear hb2 HC1 HC2 HC8 HKK HWV HQ1 HY2
     gi_wp2
     go_roundw
     case rel=>exact⟨j+1,by omega,by go_num,HQ2⟩
     case measure=>simp[intOf];omega
    |true=>
     rw[hbt]at HH;have HE:Hid (cke s e q (j+1)=cke s e q j++[e.grw q j]):=cke_yes HST.out (HMY.out.trans hbt)
     have HGR:Hid (∀w',Below V.drew.heap.size V.drew w'→Calls Tryz.prog 156 #[.pointer (some ⟨tb,0,none⟩),.pointer (some ⟨q,0,none⟩),.int .i64 (j:Int)] w' fun r w''=>r=.returned (.agg ((e.grw q j).c s).toArray)∧Below w'.heap.size w' w''):=fun w' hw=>
      have h:=HQ1.out.next HJ.out ((Below.refl V.heap.size V).drew.trans hw)
      grown_any h.sq.tr h.sq.nk HOK.out hlt HST.out
     clear hbt;refine wpIn_region_tail 21 (by kernel_rfl) (by kernel_rfl) ?_;simp only[List.take_succ_cons,List.take_zero,List.drop_succ_cons,List.drop_zero];unfold wpCalm;generalize hK:wpCalm _ _ _ _ _=K;rw[if_pos (by go_simp)];refine calm_loadPN _ _ _ rfl rfl HC2.out ?_;go_simp;subst hK
     iterate 4 (unfold wpCalm;generalize hK:wpCalm _ _ _ _ _=K;unfold Oper.calm;go_simp;refine⟨_,fun _ _=>rfl,?_⟩;subst hK)
     unfold wpCalm;generalize hK:wpCalm _ _ _ _ _=K;rw[if_pos (by go_simp)];refine calm_loadB4 _ _ _ rfl rfl HC8.out ?_;go_simp;subst hK
     iterate 2 (unfold wpCalm;generalize hK:wpCalm _ _ _ _ _=K;unfold Oper.calm;go_simp;refine⟨_,fun _ _=>rfl,?_⟩;subst hK)
     unfold wpCalm;generalize hK:wpCalm _ _ _ _ _=K;rw[if_pos (by go_simp)];refine calm_loadWV _ wb (y1,(m:Int)) rfl rfl HWV.out ?_;go_simp;subst hK;unfold wpCalm;generalize hK:wpCalm _ _ _ _ _=K;rw[if_pos (by go_simp)];refine calm_loadPN _ _ _ rfl rfl HC2.out ?_;go_simp;subst hK
     iterate 2 (unfold wpCalm;generalize hK:wpCalm _ _ _ _ _=K;unfold Oper.calm;go_simp;refine⟨_,fun _ _=>rfl,?_⟩;subst hK)
     unfold wpCalm;generalize hK:wpCalm _ _ _ _ _=K;rw[if_pos (by go_simp)];refine calm_load3 _ _ _ rfl rfl HKK.out ?_;go_simp;subst hK;unfold wpCalm;generalize hK:wpCalm _ _ _ _ _=K;unfold Oper.calm;go_simp;refine⟨_,fun w' hw=>HH.out w',?_⟩;subst hK
     iterate 3 (unfold wpCalm;generalize hK:wpCalm _ _ _ _ _=K;unfold Oper.calm;go_simp;refine⟨_,fun _ _=>rfl,?_⟩;subst hK)
     unfold wpCalm;generalize hK:wpCalm _ _ _ _ _=K;rw[if_pos (by go_simp)];refine calm_loadPT _ _ _ rfl rfl HC1.out ?_;go_simp;subst hK;unfold wpCalm;generalize hK:wpCalm _ _ _ _ _=K;rw[if_pos (by go_simp)];refine calm_loadPN _ _ _ rfl rfl HC2.out ?_;go_simp;subst hK;unfold wpCalm;generalize hK:wpCalm _ _ _ _ _=K;unfold Oper.calm;go_simp;refine⟨_,fun _ _=>rfl,?_⟩;subst hK;unfold wpCalm;generalize hK:wpCalm _ _ _ _ _=K;unfold Oper.calm;go_simp;refine⟨_,fun w' hw=>HGR.out w' hw,?_⟩;subst hK;refine wpCalm_nil ?_;intro V2 hb2;have HQ2:=Hd (HQ1.out.next HJ.out ((Below.refl V.heap.size V).drew.trans hb2));clear hb2 HC1 HC2 HC8 HKK HWV HQ1 HY2 HGR HH
     have HPR:Hid (cke s e q j++[e.grw q j]<+:che s e q):=by
      show _<+:_;rw[←HE.out];exact(cke_pre (by omega)).trans (List.prefix_append _ _)
     obtain⟨fn,tmps,assign,body,hy5,hR5⟩:=HY.out (nn-1) _ (e.grw q j) (fun _=>False) V2 #[.agg ((e.grw q j).c s).toArray] HPR.out HQ2.out.jj rfl;have HR5:=Hd hR5;clear hR5
     gi_wp2_with fail
     refine⟨hdd _,HR5.out.mono ?_⟩;rintro r W6 (⟨rfl,hj6,hk6⟩|⟨rfl,hx6,_⟩)
     ·have HQ6:=Hd (HQ2.out.round hk6 hj6);rw[←HE.out]at HQ6;clear hj6 hk6 HQ2 hy5 HR5
      gi_wp2
      go_roundw
      case rel=>exact⟨j+1,by omega,by go_num,HQ6⟩
      case measure=>simp[intOf];omega
     ·have HX6:=Hd hx6;clear hx6 HQ2 hy5 HR5
      gi_wp2
      refine bodyPost_ret (results_none rfl _ _ _) rfl ?_;exact⟨⟨_,rfl⟩,.inr ⟨_,_,HPR.out,HX6.out⟩⟩
  ·have hjz:¬(j:Int)<(s.ws.length:Int):=by omega
   rw[show j=s.ws.length by omega]at HQ;have hw1:IntKind.i64.wrap ((e.nd.k:Int)+1)=((e.nd.k+1:Nat):Int):=by rw[IntWalk.i64_in _ (by omega)];omega
   gi_wp2_with fail
   have hcell:∀{w':World} {p:Addr} {v:Value},Below Wr.drew.heap.size Wr.drew w'→Wr.cell? p=some v→w'.cell? p=some v:=fun hw h=>(Below.cell ((Below.refl Wr.heap.size Wr).drew.trans hw) (World.block_lt_of_cell? Wr _ h)).trans h;have HC2:Hid (∀w',Below Wr.drew.heap.size Wr.drew w'→w'.cell? ⟨c2,0,none⟩=some (.pointer (some ⟨q,0,none⟩))):=fun w' hw=>hcell hw (by rw[cell_of_row _ _ 0 _ _ _ HQ.out.sq.t2];rfl);have HC1:Hid (∀w',Below Wr.drew.heap.size Wr.drew w'→w'.cell? ⟨c1,0,none⟩=some (.pointer (some ⟨tb,0,none⟩))):=fun w' hw=>hcell hw (by rw[cell_of_row _ _ 0 _ _ _ HQ.out.sq.t1];rfl);have HKK:Hid (∀w',Below Wr.drew.heap.size Wr.drew w'→w'.cell? ⟨q,1,none⟩=some (.int .i64 (e.nd.k:Int))):=fun w' hw=>hcell hw (HQ.out.sq.nk.cell 1);have H13:Hid (∀w',Below Wr.drew.heap.size Wr.drew w'→w'.cell? ⟨tb,13,none⟩=some (.slice ac s.cs.length kc)):=fun w' hw=>hcell hw HQ.out.sq.tr.c13;clear hcell;refine wpIn_region_tail 11 (by kernel_rfl) (by kernel_rfl) ?_;simp only[List.take_succ_cons,List.take_zero,List.drop_succ_cons,List.drop_zero];unfold wpCalm;generalize hK:wpCalm _ _ _ _ _=K;rw[if_pos (by go_simp)];refine calm_loadPN _ _ _ rfl rfl HC2.out ?_;go_simp;subst hK
   iterate 2 (unfold wpCalm;generalize hK:wpCalm _ _ _ _ _=K;unfold Oper.calm;go_simp;refine⟨_,fun _ _=>rfl,?_⟩;subst hK)
   unfold wpCalm;generalize hK:wpCalm _ _ _ _ _=K;rw[if_pos (by go_simp)];refine calm_load3 _ _ _ rfl rfl HKK.out ?_;go_simp;subst hK;unfold wpCalm;generalize hK:wpCalm _ _ _ _ _=K;unfold Oper.calm;go_simp;refine⟨_,fun _ _=>rfl,?_⟩;subst hK;unfold wpCalm;generalize hK:wpCalm _ _ _ _ _=K;rw[if_pos (by go_simp)];refine calm_loadPT _ _ _ rfl rfl HC1.out ?_;go_simp;subst hK
   iterate 3 (unfold wpCalm;generalize hK:wpCalm _ _ _ _ _=K;unfold Oper.calm;go_simp;refine⟨_,fun _ _=>rfl,?_⟩;subst hK)
   unfold wpCalm;generalize hK:wpCalm _ _ _ _ _=K;rw[if_pos (by go_simp)];refine calm_loadRs _ _ _ rfl rfl H13.out ?_;go_simp;subst hK;unfold wpCalm;generalize hK:wpCalm _ _ _ _ _=K;unfold Oper.calm;go_simp;refine⟨_,fun _ _=>rfl,?_⟩;subst hK;refine wpCalm_nil ?_;intro V2 hb2;have HQ2:=Hd (HQ.out.next HJ.out ((Below.refl Wr.heap.size Wr).drew.trans hb2));clear hb2 HC1 HC2 HKK H13 HQ;by_cases hkn:e.nd.k+1<s.cs.length
   ·have hkz:((e.nd.k:Int)+1)<(s.cs.length:Int):=by omega
    have HE:Hid (cke s e q s.ws.length++[e.nxc q]=che s e q):=by show _=_;unfold che;rw[if_pos hkn]
    have HNC:=Hd (nextCar_any HQ2.out.sq.tr HQ2.out.sq.nk HOK.out hkn);have d1:V2.cell? ⟨c1,0,none⟩=some (.pointer (some ⟨tb,0,none⟩)):=by rw[cell_of_row _ _ 0 _ _ _ HQ2.out.sq.t1];rfl
    have d2:V2.cell? ⟨c2,0,none⟩=some (.pointer (some ⟨q,0,none⟩)):=by rw[cell_of_row _ _ 0 _ _ _ HQ2.out.sq.t2];rfl
    gi_wp2_with fail
    refine⟨hdd _,(callsIn_wide.2 HNC.out).mono ?_⟩;rintro r V3 ⟨rfl,hb3⟩;have HQ3:=Hd (HQ2.out.next HJ.out hb3);clear hb3 HQ2 HNC d1 d2;obtain⟨fn,tmps,assign,body,hy5,hR5⟩:=HY.out (nn-1) _ (e.nxc q) (fun _=>False) V3 #[.agg ((e.nxc q).c s).toArray] (by rw[HE.out];exact List.prefix_rfl) HQ3.out.jj rfl;have HR5:=Hd hR5;clear hR5
    gi_wp2_with fail
    refine⟨hdd _,HR5.out.mono ?_⟩;rintro r W6 (⟨rfl,hj6,hk6⟩|⟨rfl,hx6,_⟩)
    ·rw[HE.out]at hj6;have HJ6:=Hd hj6;clear hj6 hk6 HQ3 hy5 HR5
     gi_wp2
     go_end0
     exact⟨⟨_,rfl⟩,.inl ⟨_,_,rfl,HJ6.out⟩⟩
    ·have HX6:=Hd hx6;clear hx6 HQ3 hy5 HR5
     gi_wp2
     go_end0
     exact⟨⟨_,rfl⟩,.inr ⟨_,_,by rw[HE.out];exact List.prefix_rfl,HX6.out⟩⟩
   ·have hkz:¬((e.nd.k:Int)+1)<(s.cs.length:Int):=by omega
    have HE:Hid (cke s e q s.ws.length=che s e q):=by show _=_;unfold che;rw[if_neg hkn,List.append_nil]
    have hj2:=HQ2.out.jj;rw[HE.out]at hj2;have HJ2:=Hd hj2;clear hj2 HQ2
    gi_wp2
    go_end0
    first|exact⟨⟨_,rfl⟩,.inl ⟨_,_,rfl,HJ2.out⟩⟩|exact⟨⟨_,rfl⟩,.inl ⟨_,HJ2.out⟩⟩|(trace_state;fail)
end Go.Proofs.YtnkelgdnglaafaaGreat
namespace Go.Proofs.YtnkelgdnglaafaaGreat
open Go.RowKit Go.Shelf
structure Rvi{α:Type}(M R:List α)(i:Nat):Prop where
 len:R.length=M.length
 out:∀t,t<i∨M.length≤t+i→R[t]?=M.reverse[t]?
 inn:∀t,¬(t<i∨M.length≤t+i)→R[t]?=M[t]?
section
variable {α:Type} {M R:List α} {i:Nat}
theorem Rvi.zero(M:List α):Rvi M M 0:=⟨rfl,fun t h=>by
 have ht:M.length≤t:=by omega
 rw[List.getElem?_eq_none ht,List.getElem?_eq_none (by simpa using ht)],fun _ _=>rfl⟩
theorem Rvi.step(h:Rvi M R i){a b:α}(hi:i+1<M.length-i)(ha:M[i]?=some a)(hb:M[M.length-1-i]?=some b):Rvi M ((R.set i b).set (M.length-1-i) a) (i+1):=by
 have hl:=h.len;refine⟨by rw[List.length_set,List.length_set,hl],fun t ht=> ?_,fun t ht=> ?_⟩
 ·by_cases e1:M.length-1-i=t
  ·subst e1;rw[List.getElem?_set_self (by rw[List.length_set];omega),List.getElem?_reverse (by omega),show M.length-1-(M.length-1-i)=i by omega,ha]
  ·rw[List.getElem?_set_ne e1];by_cases e2:i=t
   ·subst e2;rw[List.getElem?_set_self (by omega),List.getElem?_reverse (by omega),hb]
   ·rw[List.getElem?_set_ne e2];exact h.out t (by omega)
 ·rw[List.getElem?_set_ne (by omega),List.getElem?_set_ne (by omega)];exact h.inn t (by omega)
theorem Rvi.done(h:Rvi M R i)(hi:¬i+1<M.length-i):R=M.reverse:=List.ext_getElem? fun t=>by
 by_cases ht:t<i∨M.length≤t+i
 ·exact h.out t ht
 ·rw[h.inn t ht,List.getElem?_reverse (by omega),show M.length-1-t=t by omega]
theorem Rvi.at(h:Rvi M R i){a:α}(hi:i<M.length-i)(ha:M[i]?=some a):R[i]?=some a:=by rw[h.inn i (by omega),ha]
theorem Rvi.at'(h:Rvi M R i){b:α}(hi:i<M.length-i)(hb:M[M.length-1-i]?=some b):R[M.length-1-i]?=some b:=by rw[h.inn _ (by omega),hb]
end
section
variable {s:Sn} {W W':World} {B:Nat} {L:List En}
theorem nrow_set:∀(L:List En) (t:Nat) (e:En),t<L.length→(nrow s L).take (t*136)++e.c s++(nrow s L).drop (t*136+136)=nrow s (L.set t e)
 |[],t,e,h=>by simp at h
 |a::L,0,e,_=>by
  rw[List.set_cons_zero,nrow,nrow,Nat.zero_mul,List.take_zero,List.nil_append,Nat.zero_add,List.drop_left' (En.len s a)]
 |a::L,t+1,e,h=>by
  rw[List.set_cons_succ,nrow,nrow,←nrow_set L t e (by simpa using h)];rw[List.take_append,En.len,List.take_of_length_le (l:=a.c s) (by rw[En.len];omega),show(t+1)*136-136=t*136 by omega,List.drop_append,En.len,show(a.c s).drop ((t+1)*136+136)=[]from List.drop_eq_nil_iff.2 (by rw[En.len];omega),List.nil_append,show(t+1)*136+136-136=t*136+136 by omega];simp only[List.append_assoc]
theorem ON.put{g cap n:Nat}(h:ON s W B (.slice (some ⟨g,0,none⟩) n cap) L){t:Nat}(e:En)(ht:t<L.length):ON s (W.setCells g (t*136) (e.c s)) B (.slice (some ⟨g,0,none⟩) n cap) (L.set t e)∧Kp (fun k=>k=g) W (W.setCells g (t*136) (e.c s))∧(W.setCells g (t*136) (e.c s)).heap.size=W.heap.size:=by
 have hk:∀(vs:List Value) (o:Nat) (w:World),Kp (fun k=>k=g) w (w.setCells g o vs)∧(w.setCells g o vs).heap.size=w.heap.size:=fun vs=>by
  induction vs with
  |nil=>intro o w;exact⟨Kp.refl _ w,rfl⟩
  |cons v vs ih=>
   intro o w;rw[World.setCells];have h2:=ih (o+1) (w.setCell ⟨g,o,none⟩ v);exact⟨((Kp.refl (fun k=>k=g) w).set g o v (fun _=>rfl)).trans h2.1 (fun _ _ h=>h),by rw[h2.2];simp[World.setCell]⟩
 refine⟨?_,hk _ _ _⟩;rcases h.2 with⟨h',_⟩|⟨g',cap',cur,hv,hb,hg,hc,hm,hs,htk⟩
 ·cases h'
 ·cases hv
  have hrow:∀(vs:List Value) (o:Nat) (w:World) (cu:Array Value),w.heap[g]?=some (.cells cu 171 (0,0))→o+vs.length≤cu.size→∃cu':Array Value,(w.setCells g o vs).heap[g]?=some (.cells cu' 171 (0,0))∧cu'.size=cu.size∧cu'.toList=cu.toList.take o++vs++cu.toList.drop (o+vs.length):=fun vs=>by
   induction vs with
   |nil=>intro o w cu hcu _;exact⟨cu,hcu,rfl,by simp⟩
   |cons v vs ih=>
    intro o w cu hcu hle;rw[World.setCells];rw[List.length_cons]at hle;obtain⟨cu',h1,h2,h3⟩:=ih (o+1) (w.setCell ⟨g,o,none⟩ v) (cu.setIfInBounds o v) (heap_setCell_same w g o cu _ v hcu) (by simp;omega);refine⟨cu',h1,by simpa using h2,?_⟩;rw[h3,Array.toList_setIfInBounds,List.length_cons];have ho:o<cu.toList.length:=by rw[Array.length_toList];omega
    rw[List.take_set,List.drop_set_of_lt (by omega),List.take_add_one,List.getElem?_eq_getElem ho];rw[List.set_append_right _ _ (by rw[List.length_take];omega),List.length_take,show o-min o cu.toList.length=0 by omega];simp[Nat.add_assoc,Nat.add_comm 1]
  have hle:t*136+136≤cur.size:=by
   rw[hs];have:(t+1)*136≤cap*136:=Nat.mul_le_mul_right _ (by omega);omega
  obtain⟨cu',h1,h2,h3⟩:=hrow (e.c s) (t*136) W cur hg (by rw[En.len];exact hle);refine⟨by rw[nrow_length],.inr ⟨g,cap,cu',by rw[List.length_set],hb,h1,by rw[List.length_set];exact hc,hm,by rw[h2];exact hs,?_⟩⟩;rw[List.length_set,h3,En.len]
  have ht2:t*136+136≤L.length*136:=by
   have:(t+1)*136≤L.length*136:=Nat.mul_le_mul_right _ (by omega);omega
  rw[←nrow_set L t e ht,←htk];have e1:min (t*136) cur.toList.length=t*136:=by rw[Array.length_toList];omega
  rw[List.take_append,List.take_append,List.take_take,List.length_append,List.length_take,En.len,e1,show min (L.length*136) (t*136)=t*136 by omega];rw[List.take_of_length_le (l:=e.c s) (by rw[En.len];omega),List.take_take,show min (t*136) (L.length*136)=t*136 by omega,List.drop_take]
theorem ON.there{g cap n:Nat}(h:ON s W B (.slice (some ⟨g,0,none⟩) n cap) L){t:Nat}(ht:t<L.length):W.there g (t*136) 136:=fun j hj=>by
 obtain⟨e,he⟩:∃e,L[t]?=some e:=⟨_,List.getElem?_eq_getElem ht⟩;refine⟨?_,h.fr _⟩;obtain⟨v,hv⟩:∃v,(e.c s)[j]?=some v:=⟨_,List.getElem?_eq_getElem (by rw[En.len];exact hj)⟩;rw[h.range he j v hv];rfl
end
theorem ON.store{s:Sn}{W:World}{B:Nat}{L:List En}{g cap n:Nat}(h:ON s W B (.slice (some ⟨g,0,none⟩) n cap) L){t:Nat}(e:En)(ht:t<L.length):∃W',(Instr.storeAt 171 (.pointer (some ⟨g,t*136,none⟩)) (.agg (e.c s).toArray)).run Tryz.prog W=.ok () W'∧ON s W' B (.slice (some ⟨g,0,none⟩) n cap) (L.set t e)∧Kp (fun k=>k=g) W W':=by
 obtain⟨h1,h2,_⟩:=h.put e ht;exact⟨_,run_storeAt_mid W g (t*136) 171 (e.c s).toArray (by rw[List.size_toArray,En.len];exact h.there ht) (by rw[List.size_toArray,En.len];exact infoN) (all_oneCell_toArray (ncl_one _ _ _ _)),h1,h2⟩
theorem ixNo(W:World){g o n cap j:Nat}(hj:j<n):(Instr.indexAt 173 (.slice (some ⟨g,o,none⟩) n cap) (.int .i64 (j:Int))).run Tryz.prog W=.ok (.pointer (some ⟨g,o+j*136,none⟩)) W:=by
 rw[run_indexAt_slice W 173 _ n cap .i64 j (by kernel_rfl),if_pos ⟨by omega,by omega⟩,show Tryz.prog.elem 173=171 by kernel_rfl,Tryz.sizeOf171];simp only[Result.andThen_ok,Int.toNat_natCast,Addr.add_mid]
theorem wpList_ixN{ops:Array Oper}{rest:List Oper}{op:Oper}{a:Act}{w:World}{Q:Exit→Act→World→Prop}(hgd:Region.wanted op (yielded ops a.tmps)=true)(x y:Operand)(ho:op.op=.indexAddr 173 x y)
  {g f n cap j:Nat} (hx:a.eval x=.slice (some ⟨g,f,none⟩) n cap) (hy:a.eval y=.int .i64 (j:Int)) (hj:j<n)
  (h:wpList Tryz.prog ops Q rest (a.put op.dst (.pointer (some ⟨g,f+j*136,none⟩))) w):wpList Tryz.prog ops Q (op::rest) a w:=
 wpList_step fun _ hK=>by
  rw[if_pos hgd];unfold Oper.wp execOp;simp only[ho,Sem.run_bind,Sem.run_pure,Result.andThen_ok,hx,hy,ixNo w hj];exact hK _ _ h
theorem wpList_storeR{ops:Array Oper}{rest:List Oper}{op:Oper}{a:Act}{w:World}{Q:Exit→Act→World→Prop}(hgd:op.guard=none)(x y:Operand)(ho:op.op=.store 171 x y)
  {s:Sn} {B g cap n o t:Nat} {L:List En} (e:En) (h:ON s w B (.slice (some ⟨g,0,none⟩) n cap) L) (ht:t<L.length) (hot:o=t*136) (hx:a.eval x=.pointer (some ⟨g,o,none⟩)) (hy:a.eval y=.agg (e.c s).toArray)
  (hn:∀W',ON s W' B (.slice (some ⟨g,0,none⟩) n cap) (L.set t e)→Kp (fun k=>k=g) w W'→wpList Tryz.prog ops Q rest (a.put op.dst undef) W'):wpList Tryz.prog ops Q (op::rest) a w:=by
 subst hot;refine wpList_store_mid hgd 171 x y ho g (t*136) (e.c s).toArray hx hy (by rw[List.size_toArray,En.len];exact h.there ht) (by rw[List.size_toArray,En.len];exact infoN) (all_oneCell_toArray (ncl_one _ _ _ _)) ?_;obtain⟨h1,h2,_⟩:=h.put e ht;exact hn _ h1 h2
end Go.Proofs.YtnkelgdnglaafaaGreat
