import Derived.Test.YtnkelgdnglaafaaGreatQ13
import Derived.Deep.Cut
set_option maxHeartbeats 8000000
set_option maxRecDepth 100000
namespace Go.Proofs.YtnkelgdnglaafaaGreat
open Go.RowKit Go.Shelf
theorem nx_he{s:St}{a:RM.Sp}(ok:RM.Ok s a)(f:Int):(RM.nx s a f).he=RM.ar s a f:=by rw[RM.nx_eq ok]
structure Gz(W wr:World)(cs:List Value):Prop where
 n1:KN wr W.heap.size cs
 n2:KN wr (W.heap.size+1) zk
 bel:Below W.heap.size W wr
section
variable {W wr w':World} {cs:List Value}
theorem Gz.next(h:Gz W wr cs)(hb:Below wr.heap.size wr w'):Gz W w' cs:=⟨h.n1.below' hb,h.n2.below' hb,below_class h.bel hb⟩
theorem Gz.kp{g:Nat}(h:Gz W wr cs)(k:Kp (fun i=>i=g) wr w')(hg:W.heap.size+2≤g):Gz W w' cs:=⟨h.n1.kp k (by omega),h.n2.kp k (by omega),k.below h.bel (by have:=h.n1.lt;omega) (fun i hi e=>by omega)⟩
theorem Gz.put(h:Gz W wr cs)(i:Nat)(v:Value):Gz W (wr.setCell ⟨W.heap.size,i,none⟩ v) (cs.set i v):=by
 have k:Kp (fun i=>i=W.heap.size) wr (wr.setCell ⟨W.heap.size,i,none⟩ v):=(Kp.refl _ _).set _ _ _ (fun _=>rfl);exact⟨h.n1.put i v,h.n2.kp k (by simp),k.below h.bel (by have:=h.n1.lt;omega) (fun i hi e=>by omega)⟩
theorem Gz.lt(h:Gz W wr cs):W.heap.size+2≤wr.heap.size:=h.n2.lt
end
section
variable {D:Nat→Prop} {W:World} {tb:Nat} {s:Sn} {vc vw vt:Value}
theorem kgrown_any(ht:TC D W tb s vc vw vt){A:List RM.Sp}{g k j:Nat}{co lf:Int}{st:List Bool}(hA:WR W g A)(hAl:A.length=s.cs.length){a:RM.Sp}(ha:A[k]?=some a)(ok:RM.Ok s.st a)(hle:a.le≤100000000){y:Int×Int}(hy:s.ws[j]?=some y)(hst:st.length=128)
  (c0:0≤co) (c1:co≤900000000000) (l0:0≤lf) (l1:lf≤1000):
  Calls Tryz.prog 144 #[.pointer (some ⟨tb,0,none⟩),.agg (knc (k:Int) g s.cs.length co lf st).toArray,.int .i64 (j:Int)] W fun r w'=>∃g',r=.returned (.agg (knc (k:Int) g' s.cs.length (co+RM.ar s.st a y.1) (lf-1) (st.set j true)).toArray)∧W.heap.size≤g'∧WR w' g' (A.set k (RM.nx s.st a y.1))∧Below W.heap.size W w':=by
 have rz:=rgt_rz ht.rg;have hwr:=rz.wr y (List.mem_of_getElem? hy);have hnn:=RM.ar_nn rz.rt ok y.1;have hll:=RM.ar_le rz.rt ok y.1;obtain⟨n8,hrs⟩:=rgt_rs ht.rg;have hN:s.cs.length≤1000:=by have:=hrs.cl;have:=hrs.n8;omega
 have hkN:k<s.cs.length:=by rw[←hAl];exact(List.getElem?_eq_some_iff.1 ha).1
 have hj:j<s.ws.length:=(List.getElem?_eq_some_iff.1 hy).1;have hj8:(j:Int)<128:=by have:=hrs.wl;omega
 have HJ8:Hid (j<st.length):=by show _<_;have:=hrs.wl;omega
 have HNX:Hid (∀w',Below W.heap.size W w'→Calls Tryz.prog 165 #[.pointer (some ⟨tb,0,none⟩),.agg #[.int .i64 a.fl,.int .i64 a.he,.int .i64 a.le],.int .i64 y.1] w' fun e w''=>e=.returned (.agg #[.int .i64 (RM.nx s.st a y.1).fl,.int .i64 (RM.nx s.st a y.1).he,.int .i64 (RM.nx s.st a y.1).le])∧Below w'.heap.size w' w''):=fun w' hw=>knext_any (ht.below' hw) a ok hle y.1 hwr.1 hwr.2;have hez:=nx_he ok y.1;generalize RM.nx s.st a y.1=z at HNX hez⊢;rw[←hez]at hnn hll⊢;have hw1:IntKind.i64.wrap (co+z.he)=co+z.he:=IntWalk.i64_in _ (by omega);have hw2:IntKind.i64.wrap (lf-1)=lf-1:=IntWalk.i64_in _ (by omega);obtain⟨aw,kw,rfl,_,_⟩:=ht.ws.form;obtain⟨gw,ow,rfl,x0,x1⟩:=ht.ws.at hy;have HT:=Hd ht;have HX0:=Hd x0;have HA:=Hd hA;have HLK:Hid (A.length=s.cs.length∧A[k]?=some a):=⟨hAl,ha⟩;have HST:=Hd hst;obtain⟨h1,h2,h3⟩:=kn_two W _ (knc_length hst (k:Int) g s.cs.length co lf);have HG0:Hid (Gz W ((W.alloc (.cells (knc (k:Int) g s.cs.length co lf st).toArray 227)).alloc (.cells zk.toArray 227)) (knc (k:Int) g s.cs.length co lf st)):=⟨h1,h2,h3⟩;have d1:((W.alloc (.cells (knc (k:Int) g s.cs.length co lf st).toArray 227)).alloc (.cells zk.toArray 227)).cell? ⟨W.heap.size,1,none⟩=some (.slice (some ⟨g,0,none⟩) s.cs.length s.cs.length):=h1.cell 1;have hmk:=mkV s.cs.length hN;have HGM:=Hd (HG0.out.next ((Below.refl _ _).alloc (Nat.le_refl _) (.cells (wcs (List.replicate s.cs.length w0)).toArray 252)));have hwn:=WR.new ((W.alloc (.cells (knc (k:Int) g s.cs.length co lf st).toArray 227)).alloc (.cells zk.toArray 227)) (List.replicate s.cs.length w0);rw[World.size_alloc,World.size_alloc]at hwn;have HWN:=Hd hwn;have HAM:=Hd (hA.below' HGM.out.bel);have HRL:Hid ((List.replicate s.cs.length w0).length=s.cs.length):=by show _=_;simp
 have d2:((((W.alloc (.cells (knc (k:Int) g s.cs.length co lf st).toArray 227)).alloc (.cells zk.toArray 227))).alloc (.cells (wcs (List.replicate s.cs.length w0)).toArray 252)).cell? ⟨W.heap.size,1,none⟩=some (.slice (some ⟨g,0,none⟩) s.cs.length s.cs.length):=HGM.out.n1.cell 1;clear hA hAl ha hst h1 h2 h3 x0 x1 ht hwr rz hrs hwn hez ok hle hnn hll c0 c1 l0 l1 hy HG0 hN
 go_enter Tryz.func144,Tryz.ntmps144
 go_wp2_with (first|(refine wpList_allocK rfl rfl ?_)|(refine wpList_copyV rfl _ _ rfl (W.heap.size+1+1) g s.cs.length A _ HLK.out.1 HRL.out HWN.out HAM.out rfl rfl ?_))
 intro W3 hk3 hr3;have HG3:=Hd (HGM.out.kp hk3 (by omega));have HR3:=Hd hr3;clear hk3 hr3 HGM HWN HAM d1 d2 hmk HRL
 go_wp2_with fail
 have hcl:∀w',Below W3.drew.heap.size W3.drew w'→Below W3.heap.size W3 w':=fun w' hw=>(Below.refl _ _).drew.trans hw;have G0:Hid (∀w',Below W3.drew.heap.size W3.drew w'→w'.cell? ⟨W.heap.size,0,none⟩=some (.int .i64 (k:Int))):=fun w' hw=>(HG3.out.next (hcl w' hw)).n1.cell 0;have GA:Hid (∀w',Below W3.drew.heap.size W3.drew w'→w'.rangeAt (W.heap.size+1+1) (k*3) [.int .i64 a.fl,.int .i64 a.he,.int .i64 a.le]):=fun w' hw=>(HR3.out.below' (hcl w' hw)).range HLK.out.2;have GW:Hid (∀w',Below W3.drew.heap.size W3.drew w'→w'.cell? ⟨tb,14,none⟩=some (.slice (some ⟨gw,ow,none⟩) s.ws.length kw)):=fun w' hw=>(HT.out.below' (HG3.out.next (hcl w' hw)).bel).c14;have GX:Hid (∀w',Below W3.drew.heap.size W3.drew w'→w'.cell? ⟨gw,ow+j*2,none⟩=some (.int .i64 y.1)):=fun w' hw=>(Below.cell (HG3.out.next (hcl w' hw)).bel (World.block_lt_of_cell? W _ HX0.out)).trans HX0.out;have GN:Hid (∀w',Below W3.drew.heap.size W3.drew w'→Calls Tryz.prog 165 #[.pointer (some ⟨tb,0,none⟩),.agg #[.int .i64 a.fl,.int .i64 a.he,.int .i64 a.le],.int .i64 y.1] w' fun e w''=>e=.returned (.agg #[.int .i64 z.fl,.int .i64 z.he,.int .i64 z.le])∧Below w'.heap.size w' w''):=fun w' hw=>HNX.out w' (HG3.out.next (hcl w' hw)).bel;clear hcl;refine wp_region_tail 20 (by kernel_rfl) (by kernel_rfl) ?_;simp only[List.take_succ_cons,List.take_zero,List.drop_succ_cons,List.drop_zero]
 iterate 2 (unfold wpCalm;generalize hK:wpCalm _ _ _ _ _=K;unfold Oper.calm;go_simp;refine⟨_,fun _ _=>rfl,?_⟩;subst hK)
 unfold wpCalm;generalize hK:wpCalm _ _ _ _ _=K;rw[if_pos (by go_simp)];refine calm_load3 _ _ _ rfl rfl G0.out ?_;go_simp;subst hK
 iterate 3 (unfold wpCalm;generalize hK:wpCalm _ _ _ _ _=K;unfold Oper.calm;go_simp;refine⟨_,fun _ _=>rfl,?_⟩;subst hK)
 unfold wpCalm;generalize hK:wpCalm _ _ _ _ _=K;rw[if_pos (by go_simp)];refine calm_load3 _ _ _ rfl rfl G0.out ?_;go_simp;subst hK;unfold wpCalm;generalize hK:wpCalm _ _ _ _ _=K;rw[if_pos (by go_simp)];refine calm_ixV _ _ rfl rfl rfl hkN ?_;go_simp;subst hK;unfold wpCalm;generalize hK:wpCalm _ _ _ _ _=K;rw[if_pos (by go_simp)];refine calm_loadV _ _ _ a rfl rfl GA.out ?_;go_simp;subst hK
 iterate 4 (unfold wpCalm;generalize hK:wpCalm _ _ _ _ _=K;unfold Oper.calm;go_simp;refine⟨_,fun _ _=>rfl,?_⟩;subst hK)
 unfold wpCalm;generalize hK:wpCalm _ _ _ _ _=K;rw[if_pos (by go_simp)];refine calm_loadWv _ _ _ rfl rfl GW.out ?_;go_simp;subst hK;unfold wpCalm;generalize hK:wpCalm _ _ _ _ _=K;unfold Oper.calm;go_simp;refine⟨_,fun _ _=>rfl,?_⟩;subst hK;unfold wpCalm;generalize hK:wpCalm _ _ _ _ _=K;rw[if_pos (by go_simp)];refine calm_ixWv _ _ rfl rfl rfl hj ?_;go_simp;subst hK;unfold wpCalm;generalize hK:wpCalm _ _ _ _ _=K;unfold Oper.calm;go_simp;refine⟨_,fun _ _=>rfl,?_⟩;subst hK;unfold wpCalm;generalize hK:wpCalm _ _ _ _ _=K;rw[if_pos (by go_simp)];refine calm_load3 _ _ _ rfl rfl GX.out ?_;go_simp;subst hK;unfold wpCalm;generalize hK:wpCalm _ _ _ _ _=K;unfold Oper.calm;go_simp;refine⟨_,fun w' hw=>GN.out w' hw,?_⟩;subst hK;unfold wpCalm;generalize hK:wpCalm _ _ _ _ _=K;rw[if_pos (by go_simp)];refine calm_ixV _ _ rfl rfl rfl hkN ?_;go_simp;subst hK;refine wpCalm_nil ?_;intro W4 hb4;have hbd:=(Below.refl W3.heap.size W3).drew.trans hb4;have HG4:=Hd (HG3.out.next hbd);have HR4:=Hd (HR3.out.below' hbd);have HKA:Hid (k<A.length):=by show _<_;rw[HLK.out.1];exact hkN
 clear hbd hb4 G0 GA GW GX GN HG3 HR3
 go_wp2_with (refine wpList_storeV rfl _ _ rfl (W.heap.size+1+1) k A HKA.out z HR4.out rfl rfl ?_)
 intro W5 hk5 hr5;have HG5:=Hd (HG4.out.kp hk5 (by omega));have HR5:=Hd hr5;clear hk5 hr5 HG4 HR4
 go_wp2_with fail
 have hcl:∀w',Below W5.drew.heap.size W5.drew w'→Below W5.heap.size W5 w':=fun w' hw=>(Below.refl _ _).drew.trans hw;have G0:Hid (∀w',Below W5.drew.heap.size W5.drew w'→w'.cell? ⟨W.heap.size,0,none⟩=some (.int .i64 (k:Int))):=fun w' hw=>(HG5.out.next (hcl w' hw)).n1.cell 0;have G2:Hid (∀w',Below W5.drew.heap.size W5.drew w'→w'.cell? ⟨W.heap.size,2,none⟩=some (.int .i64 co)):=fun w' hw=>(HG5.out.next (hcl w' hw)).n1.cell 2;have GH:Hid (∀w',Below W5.drew.heap.size W5.drew w'→w'.cell? ⟨W.heap.size+1+1,k*3+1,none⟩=some (.int .i64 z.he)):=fun w' hw=>((HR5.out.below' (hcl w' hw)).cells (List.getElem?_set_self HKA.out)).2.1;clear hcl;refine wp_region_tail 10 (by kernel_rfl) (by kernel_rfl) ?_;simp only[List.take_succ_cons,List.take_zero,List.drop_succ_cons,List.drop_zero];unfold wpCalm;generalize hK:wpCalm _ _ _ _ _=K;unfold Oper.calm;go_simp;refine⟨_,fun _ _=>rfl,?_⟩;subst hK;unfold wpCalm;generalize hK:wpCalm _ _ _ _ _=K;rw[if_pos (by go_simp)];refine calm_load3 _ _ _ rfl rfl G2.out ?_;go_simp;subst hK
 iterate 2 (unfold wpCalm;generalize hK:wpCalm _ _ _ _ _=K;unfold Oper.calm;go_simp;refine⟨_,fun _ _=>rfl,?_⟩;subst hK)
 unfold wpCalm;generalize hK:wpCalm _ _ _ _ _=K;rw[if_pos (by go_simp)];refine calm_load3 _ _ _ rfl rfl G0.out ?_;go_simp;subst hK;unfold wpCalm;generalize hK:wpCalm _ _ _ _ _=K;rw[if_pos (by go_simp)];refine calm_ixV _ _ rfl rfl rfl hkN ?_;go_simp;subst hK;unfold wpCalm;generalize hK:wpCalm _ _ _ _ _=K;unfold Oper.calm;go_simp;refine⟨_,fun _ _=>rfl,?_⟩;subst hK;unfold wpCalm;generalize hK:wpCalm _ _ _ _ _=K;rw[if_pos (by go_simp)];refine calm_load3 _ _ _ rfl rfl GH.out ?_;go_simp;subst hK
 iterate 2 (unfold wpCalm;generalize hK:wpCalm _ _ _ _ _=K;unfold Oper.calm;go_simp;refine⟨_,fun _ _=>rfl,?_⟩;subst hK)
 refine wpCalm_nil ?_;intro W6 hb6;have hbd:=(Below.refl W5.heap.size W5).drew.trans hb6;have HG6:=Hd (HG5.out.next hbd);have HR6:=Hd (HR5.out.below' hbd);clear hbd hb6 G0 G2 GH HG5 HR5;have e1:W6.cell? ⟨W.heap.size,1,none⟩=some (.slice (some ⟨g,0,none⟩) s.cs.length s.cs.length):=HG6.out.n1.cell 1;have e2:W6.cell? ⟨W.heap.size,2,none⟩=some (.int .i64 co):=HG6.out.n1.cell 2;have e3:W6.cell? ⟨W.heap.size,3,none⟩=some (.int .i64 lf):=HG6.out.n1.cell 3;have f1:=HG6.out.n1.fr 1;have f2:=HG6.out.n1.fr 2;have f3:=HG6.out.n1.fr 3;obtain⟨q8,hq8⟩:∃q8,st[j]?=some q8:=⟨_,List.getElem?_eq_getElem HJ8.out⟩;have e4:W6.cell? ⟨W.heap.size,4+j,none⟩=some (.bool q8):=(HG6.out.n1.cell (4+j)).trans (knc_at hq8);have f4:=HG6.out.n1.fr (4+j);have HG7:=Hd ((((HG6.out.put 2 (.int .i64 (co+z.he))).put 1 (.slice (some ⟨W.heap.size+1+1,0,none⟩) s.cs.length s.cs.length)).put 3 (.int .i64 (lf-1))).put (4+j) (.bool true))
 have hset:(((((knc (k:Int) g s.cs.length co lf st).set 2 (.int .i64 (co+z.he))).set 1 (.slice (some ⟨W.heap.size+1+1,0,none⟩) s.cs.length s.cs.length)).set 3 (.int .i64 (lf-1))).set (4+j) (.bool true))=knc (k:Int) (W.heap.size+1+1) s.cs.length (co+z.he) (lf-1) (st.set j true):=by
  rw[←knc_set];rfl
 rw[hset]at HG7;have hkF:Kp (fun i=>i=W.heap.size) W6 ((((W6.setCell ⟨W.heap.size,2,none⟩ (.int .i64 (co+z.he))).setCell ⟨W.heap.size,1,none⟩ (.slice (some ⟨W.heap.size+1+1,0,none⟩) s.cs.length s.cs.length)).setCell ⟨W.heap.size,3,none⟩ (.int .i64 (lf-1))).setCell ⟨W.heap.size,4+j,none⟩ (.bool true)):=((((Kp.refl (fun i=>i=W.heap.size) W6).set _ _ _ (fun _=>rfl)).set _ _ _ (fun _=>rfl)).set _ _ _ (fun _=>rfl)).set _ _ _ (fun _=>rfl);have HR7:=Hd (HR6.out.kp hkF (by omega));have HN7:=Hd HG7.out.n1;have HZ7:=Hd HG7.out.n2;have H1:=Hd (knc_one (k:Int) (W.heap.size+1+1) s.cs.length (co+z.he) (lf-1) (st.set j true));clear hset hkF HG6 HR6 hq8
 go_upto_region 8 with (fail)
 clear e1 e2 e3 e4 f1 f2 f3 f4;generalize (((W6.setCell ⟨W.heap.size,2,none⟩ (.int .i64 (co+z.he))).setCell ⟨W.heap.size,1,none⟩ (.slice (some ⟨W.heap.size+1+1,0,none⟩) s.cs.length s.cs.length)).setCell ⟨W.heap.size,3,none⟩ (.int .i64 (lf-1))).setCell ⟨W.heap.size,4+j,none⟩ (.bool true)=W7 at HG7 HR7 HN7 HZ7⊢
 go_wp2_with (first|(refine wpList_loadK rfl _ rfl W.heap.size _ rfl HN7.out ?_)|(refine wpList_storeK rfl _ _ rfl (W.heap.size+1) rfl rfl HZ7.out HN7.out.1 H1.out ?_))
 intro W8 hk8 hn8;have HK:=Hd (And.intro hk8 hn8);clear hk8 hn8;go_wp2;exact bodyPost_ret (retK Tryz.results144 rfl HK.out.2) rfl ⟨_,rfl,by omega,HR7.out.kp HK.out.1 (by omega),HK.out.1.below HG7.out.bel (by have:=HG7.out.lt;omega) (fun i hi e=>by omega)⟩
theorem kc_grw{n:Nn}(ok:n.ok s){w:Nat}{y:Int×Int}(hy:s.ws[w]?=some y)(hs:n.st[w]?=some false)(g:Nat):kc s (grw n w) g=knc (n.k:Int) g s.cs.length (RM.cst s.st s.ws s.cs n.b+RM.ar s.st (sat s n) y.1) (((PM.lf n.st:Nat):Int)-1) ((pad n.st).set w true):=by
 have hlf:=PM.lf_set hs;have hws:w<n.st.length:=(List.getElem?_eq_some_iff.1 hs).1;unfold kc;rw[cst_grw ok,RM.wf_get hy,pad_set hws];show knc (n.k:Int) g s.cs.length _ ((PM.lf (n.st.set w true):Nat):Int) (pad (n.st.set w true))=_
 congr 1
 omega
theorem kgrown_node(ht:TC D W tb s vc vw vt){n:Nn}(ok:n.ok s){g:Nat}(hA:WR W g (wys s n)){w:Nat}(hw:w<s.ws.length)(hs:n.st[w]?=some false):
  Calls Tryz.prog 144 #[.pointer (some ⟨tb,0,none⟩),.agg (kc s n g).toArray,.int .i64 (w:Int)] W fun r w'=>∃g',r=.returned (.agg (kc s (grw n w) g').toArray)∧W.heap.size≤g'∧WR w' g' (wys s (grw n w))∧Below W.heap.size W w':=by
 obtain⟨y,hy⟩:∃y,s.ws[w]?=some y:=⟨_,List.getElem?_eq_getElem hw⟩;have nb:=ok.nb;have hl:PM.lf n.st≤n.st.length:=List.count_le_length;have:=ok.sl;have:=nb.bs.wl;have c1:=nb.c1;refine (kgrown_any ht hA (wys_length ok) (wys_k ok) nb.sk nb.sl hy (pad_length n.st) nb.c0 (by omega) (by omega) (by omega)).mono fun r w' h=> ?_;obtain⟨g',e,h1,h2,h3⟩:=h;refine⟨g',by rw[kc_grw ok hy hs];exact e,h1,?_,h3⟩;rw[wys_grw ok,RM.wf_get hy];exact h2
theorem knext_node{n:Nn}(ok:n.ok s)(g:Nat)(hk:n.k+1<n.b.length)(hN:s.cs.length≤8)(W:World):
  Calls Tryz.prog 176 #[.agg (kc s n g).toArray] W fun e w'=>e=.returned (.agg (kc s (nxc n) g).toArray)∧Below W.heap.size W w':=
 knextCar_any n.k g s.cs.length _ _ _ (pad_length n.st) (by have:=ok.bl;omega) W
end
structure Cn(W wr:World)(s:Sn)(q:Nat)(k:Int)(n:Nn):Prop where
 nd:∃g,KN wr q (knc k g s.cs.length (RM.cst s.st s.ws s.cs n.b) ((PM.lf n.st:Nat):Int) (pad n.st))∧WR wr g (wys s n)∧g≠q
 ok:n.ok s
 bel:Below W.heap.size W wr
 q1:W.heap.size≤q
structure Cz(W wr:World)(s:Sn)(q:Nat)(p:List (List Int))(c:Nat):Prop where
 more:c<p.length→∃k st,Cn W wr s q k ⟨c,cutp p c 0,st⟩
 done:c=p.length→wr.cell? ⟨q,2,none⟩=some (.int .i64 (RM.cst s.st s.ws s.cs p))∧Below W.heap.size W wr
section
variable {D D':Nat→Prop} {W:World} {tb:Nat} {s:Sn} {vc vw vt vp:Value} {p:List (List Int)}
theorem Cn.next{wr w':World}{q:Nat}{k:Int}{n:Nn}(h:Cn W wr s q k n)(hb:Below wr.heap.size wr w'):Cn W w' s q k n:=by
 obtain⟨g,h1,h2,h3⟩:=h.nd;exact⟨⟨g,h1.below' hb,h2.below' hb,h3⟩,h.ok,below_class h.bel hb,h.q1⟩
theorem Cn.lt{wr:World}{q:Nat}{k:Int}{n:Nn}(h:Cn W wr s q k n):q<wr.heap.size:=by
 obtain⟨g,h1,_⟩:=h.nd;exact h1.lt
theorem Cn.c0{wr:World}{q:Nat}{k:Int}{n:Nn}(h:Cn W wr s q k n):wr.cell? ⟨q,0,none⟩=some (.int .i64 k)∧wr.frozen? ⟨q,0,none⟩=false:=by
 obtain⟨g,h1,_⟩:=h.nd;exact⟨h1.cell 0,h1.fr 0⟩
theorem Cn.put{wr:World}{q:Nat}{k:Int}{n:Nn}(h:Cn W wr s q k n)(k':Int):Cn W (wr.setCell ⟨q,0,none⟩ (.int .i64 k')) s q k' n:=by
 obtain⟨g,h1,h2,h3⟩:=h.nd;have kp:Kp (fun i=>i=q) wr (wr.setCell ⟨q,0,none⟩ (.int .i64 k')):=(Kp.refl (fun i=>i=q) wr).set _ _ _ (fun _=>rfl);exact⟨⟨g,h1.put 0 (.int .i64 k'),h2.kp kp h3,h3⟩,h.ok,kp.below h.bel (by have:=h1.lt;have:=h.q1;omega) (fun i hi e=>by have:=h.q1;omega),h.q1⟩
theorem Cz.next{wr:World}{q c:Nat}{k:Int}{l:List Int}{st:List Bool}(h:Cn W wr s q k ⟨c,cutp p c l.length,st⟩)(hl:p[c]?=some l):Cz W wr s q p (c+1):=by
 refine⟨fun h1=> ?_,fun h1=> ?_⟩
 ·rw[cut_next h1 hl]at h;obtain⟨g,h2,h3,h4⟩:=h.nd;have hk:c+1<(cutp p (c+1) 0).length:=by rw[cutp_length 0 h1];exact h1
  exact⟨k,st,⟨g,h2,h3,h4⟩,Nn.ok.nxc h.ok hk,h.bel,h.q1⟩
 ·obtain⟨g,h2,h3,h4⟩:=h.nd;rw[cutp_whole h1 hl]at h2;exact⟨h2.cell 2,h.bel⟩
theorem kcost_any(ht:TC D W tb s vc vw vt)(hp:RL D' W vp p)(hf:Fs s p)(hll:∀l∈p,l.length≤1000):
  Calls Tryz.prog 101 #[.pointer (some ⟨tb,0,none⟩),vp] W fun e w'=>e=.returned (.int .i64 (RM.cst s.st s.ws s.cs p))∧Below W.heap.size W w':=by
 obtain⟨n8,hrs⟩:=rgt_rs ht.rg;have hpl:p.length=s.cs.length:=hf.pc.symm;have hp0:0<p.length:=by have:=hrs.cl;have:=hrs.n1;omega
 have hp8:p.length≤8:=by have:=hrs.cl;have:=hrs.n8;omega
 obtain⟨ap,kp,rfl,_,_⟩:=hp.form;have HT:=Hd ht;have HP:=Hd hp;have HF:=Hd hf;have HLL:=Hd hll;have HFI:=Hd (kfirst_any ht);have HN0:Hid (nd0 s=⟨0,cutp p 0 0,List.replicate s.ws.length false⟩):=by show _=_;rw[cut_zero hp0,hpl];rfl
 have HK0:=Hd (nd0_ok ht.rg);obtain⟨CT,HCT⟩:∃c,Hid (RM.cst s.st s.ws s.cs p=c):=⟨_,Hd rfl⟩;rw[HCT.out];clear ht hp hf hrs hll hpl
 go_enter Tryz.func101,Tryz.ntmps101
 go_wp2_with fail
 refine HFI.out.mono ?_;rintro r W1 ⟨g,rfl,hg,hr,hb⟩;have HB1:=Hd hb;have HR1:=Hd hr;have HKN:=Hd (KN.new W1 zk_length);have HBA:=Hd ((Below.refl W1.heap.size W1).alloc (Nat.le_refl _) (.cells zk.toArray 227));have HLN:=Hd (kc_length s (nd0 s) g);have HON:Hid (∀u∈kc s (nd0 s) g,u.oneCell'=true):=knc_one _ _ _ _ _ _;clear hg hr hb HFI
 go_wp2_with (first|(refine wpList_allocK rfl rfl ?_)|(refine wpList_storeK rfl _ _ rfl W1.heap.size rfl rfl HKN.out HLN.out HON.out ?_))
 intro W2 hk2 hn2;have hrl:=HR1.out.lt;have hbs:=HB1.out.size
 have HC0:Hid (Cz W W2 s W1.heap.size p 0):=by
  refine⟨fun _=>⟨0,List.replicate s.ws.length false,?_⟩,fun h=>by omega⟩;rw[←HN0.out];exact⟨⟨g,hn2,(HR1.out.below' HBA.out).kp hk2 (by omega),by omega⟩,HK0.out,hk2.below (below_class HB1.out HBA.out) (by simp;omega) (fun i hi e=>by omega),hbs⟩
 clear hk2 hn2 HKN HBA HLN HON HR1 HB1 hrl hbs HK0 HN0;generalize W1.heap.size=q at HC0⊢
 go_wp2_with fail
 go_loopw [14] (fun cv wr=>∃c:Nat,c≤p.length∧cv=.int .i64 (c:Int)∧Hid (Cz W wr s q p c)) (fun cv _=>p.length-(intOf cv).toNat)
 case atStart=>exact⟨0,Nat.zero_le _,rfl,HC0⟩
 case round=>
  clear HC0;obtain⟨c,hc,rfl,HC⟩:=hrel;by_cases hlt:c<p.length
  ·have hcz:(c:Int)<(p.length:Int):=by omega
   obtain⟨k,st,hcn⟩:=HC.out.more hlt;have HCN:=Hd hcn;obtain⟨l,hl⟩:∃l,p[c]?=some l:=⟨_,List.getElem?_eq_getElem hlt⟩;obtain⟨gp,op,hap,u,hu,hri⟩:=(HP.out.below' hcn.bel).at hl;subst hap;obtain⟨al,kl,rfl,_,_⟩:=hri.form;have HRI:Hid (RI D' wr (.slice al l.length kl) l):=hri;have hll:l.length≤1000:=HLL.out l (List.mem_of_getElem? hl);have HL:=Hd hl;obtain⟨c0,f0⟩:=hcn.c0;have HIN:Hid (Cn W (wr.setCell ⟨q,0,none⟩ (.int .i64 (c:Int))) s q (c:Int) ⟨c,cutp p c 0,st⟩):=hcn.put (c:Int);have hql:=hcn.lt;have HKQ:Hid (Kp (fun i=>i=q) wr (wr.setCell ⟨q,0,none⟩ (.int .i64 (c:Int)))):=(Kp.refl (fun i=>i=q) wr).set _ _ _ (fun _=>rfl)
   have HRD:Hid (RI (fun g=>g<W.heap.size) W (.slice al l.length kl) l):=by
    obtain⟨g2,o2,e2,u2,hu2,hri2⟩:=HP.out.at hl;cases e2
    have:u2=.slice al l.length kl:=by
     have h1:=(Below.cell hcn.bel (World.block_lt_of_cell? W _ hu2)).trans hu2;rw[hu]at h1;cases h1;rfl
    subst this;exact hri2.mono fun g _ h _=>h
   clear hcn HC hl hri HRI
   go_wp2_with fail
   clear hu c0 f0;generalize wr.setCell ⟨q,0,none⟩ (.int .i64 (c:Int))=W3 at HIN HKQ⊢;clear HCN HKQ
   go_loopw [23] (fun jv wr=>∃(j:Nat) (st:List Bool),j≤l.length∧jv=.int .i64 (j:Int)∧Hid (Cn W wr s q (c:Int) ⟨c,cutp p c j,st⟩)) (fun jv _=>l.length-(intOf jv).toNat)
   case atStart=>exact⟨0,st,Nat.zero_le _,rfl,HIN⟩
   case round=>
    clear HIN;obtain⟨j,st,hj,rfl,HIN⟩:=hrel;by_cases hjl:j<l.length
    ·have hjz:(j:Int)<(l.length:Int):=by omega
     obtain⟨x,hx⟩:∃x,l[j]?=some x:=⟨_,List.getElem?_eq_getElem hjl⟩;have hxr:=HF.out.fr x (List.mem_flatten.2 ⟨l,List.mem_of_getElem? HL.out,List.mem_of_getElem? hx⟩);obtain⟨w,rfl⟩:∃w:Nat,x=(w:Int):=⟨x.toNat,by omega⟩;obtain⟨gl,ol,hal,hcx⟩:=(HRD.out.below' HIN.out.bel).at hx;subst hal;obtain⟨hwl,hsf,hok2,hb2⟩:=cut_step HF.out hlt HL.out hx HIN.out.ok;obtain⟨g,h1,h2,h3⟩:=HIN.out.nd;have HN1:Hid (KN wr q (kc s ⟨c,cutp p c j,st⟩ g)):=h1;have HGR:=Hd (kgrown_node (HT.out.below' HIN.out.bel) HIN.out.ok h2 hwl hsf);have HOK:Hid (Nn.ok s (grw ⟨c,cutp p c j,st⟩ w)∧(grw ⟨c,cutp p c j,st⟩ w).b=cutp p c (j+1)):=⟨hok2,hb2⟩;clear hx hwl hsf hok2 hb2 h1 h2 h3 hxr
     go_wp2_with (refine wpList_loadK rfl _ rfl q _ rfl HN1.out ?_)
     refine HGR.out.mono ?_;rintro r W4 ⟨g',rfl,hg',hr',hb'⟩;have HN4:=Hd (HN1.out.below' hb');have HB4:=Hd (below_class HIN.out.bel hb');have HR4:=Hd hr';have hqg:g'≠q:=by have:=HN1.out.lt;omega
     have hq1:=HIN.out.q1;have HLN:=Hd (kc_length s (grw ⟨c,cutp p c j,st⟩ w) g');have HON:Hid (∀u∈kc s (grw ⟨c,cutp p c j,st⟩ w) g',u.oneCell'=true):=knc_one _ _ _ _ _ _;clear hg' hr' hb' HGR HN1 HIN hcx
     go_wp2_with (refine wpList_storeK rfl _ _ rfl q rfl rfl HN4.out HLN.out HON.out ?_)
     intro W5 hk5 hn5
     have HI5:Hid (Cn W W5 s q (c:Int) ⟨c,cutp p c (j+1),st.set w true⟩):=by
      have hB:(grw ⟨c,cutp p c j,st⟩ w)=⟨c,cutp p c (j+1),st.set w true⟩:=by
       have:=HOK.out.2;unfold grw at this⊢;simp only at this⊢;rw[this]
      rw[←hB];exact⟨⟨g',hn5,HR4.out.kp hk5 hqg,hqg⟩,HOK.out.1,hk5.below HB4.out (by have:=HN4.out.lt;omega) (fun i hi e=>by omega),hq1⟩
     clear hk5 hn5 HN4 HB4 HR4 HLN HON HOK;go_wp2;go_roundw
     case rel=>exact⟨j+1,_,by omega,by go_num,HI5⟩
     case measure=>simp[intOf];omega
    ·have hjz:¬(j:Int)<(l.length:Int):=by omega
     have hje:j=l.length:=by omega
     rw[hje]at HIN;have HC2:=Hd (Cz.next HIN.out HL.out);clear hje HIN;go_wp2;go_roundw
     case rel=>exact⟨c+1,by omega,by go_num,HC2⟩
     case measure=>simp[intOf];omega
  ·have hcz:¬(c:Int)<(p.length:Int):=by omega
   obtain⟨h2,hb⟩:=HC.out.done (by omega);rw[HCT.out]at h2;have HB:=Hd hb;clear hb HC;go_wp2;go_ret;exact⟨rfl,HB.out⟩
end
structure Ez(W wr:World)(s:Sn)(n:Nn)(g:Nat)(f:Int)(m:Nat):Prop where
 n1:KN wr W.heap.size (kc s n g)
 wb:wr.heap[W.heap.size+1]?=some (.cells #[.int .i64 f,.int .i64 (m:Int)] 131 (0,0))
 bel:Below W.heap.size W wr
section
variable {D:Nat→Prop} {W:World} {tb:Nat} {s:Sn} {vc vw vt:Value} {n:Nn} {g:Nat}
theorem Ez.next{wr w':World}{f:Int}{m:Nat}(h:Ez W wr s n g f m)(hb:Below wr.heap.size wr w'):Ez W w' s n g f m:=⟨h.n1.below' hb,(hb.block _ (Array.getElem?_eq_some_iff.1 h.wb).1).trans h.wb,below_class h.bel hb⟩
theorem Ez.c(W:World)(f:Int)(m:Nat):Ez W ((W.alloc (.cells (kc s n g).toArray 227)).alloc (.cells #[.int .i64 f,.int .i64 (m:Int)] 131)) s n g f m:=by
 have h2:=World.alloc_heap_new (W.alloc (.cells (kc s n g).toArray 227)) (.cells #[.int .i64 f,.int .i64 (m:Int)] 131);rw[World.size_alloc]at h2;exact⟨(KN.new W (kc_length s n g)).below' ((Below.refl _ _).alloc (Nat.le_refl _) _),h2,((Below.refl W.heap.size W).alloc (Nat.le_refl _) _).alloc (by simp) _⟩
theorem kearliest_any(ht:TC D W tb s vc vw vt)(ok:n.ok s)(hA:WR W g (wys s n)){j:Nat}{y:Int×Int}(hy:s.ws[j]?=some y):
  Calls Tryz.prog 174 #[.pointer (some ⟨tb,0,none⟩),.agg (kc s n g).toArray,.agg #[.int .i64 y.1,.int .i64 y.2]] W fun e w'=>e=.returned (.int .i64 (ert s n j s.cs.length))∧Below W.heap.size W w':=by
 obtain⟨n8,hrs⟩:=rgt_rs ht.rg;obtain⟨m,hm,hym⟩:=hrs.mm.eq j y hy;have hwr:=(rgt_rz ht.rg).wr y (List.mem_of_getElem? hy);have HMY:Hid (∀c,mayk s c (j:Int)=PM.bt m c):=fun c=>by unfold mayk;rw[Int.toNat_natCast,hm];rfl
 have HWF:Hid (RM.wf s.ws (j:Int)=y.1):=RM.wf_get hy;obtain⟨f,m2⟩:=y;simp only at hym hwr HWF⊢;subst hym;have hkc:n.k<s.cs.length:=by have:=ok.kl;have:=ok.bl;omega
 have hc8:s.cs.length≤8:=by have:=hrs.cl;have:=hrs.n8;omega
 have HNX:Hid (∀a:RM.Sp,RM.Ok s.st a→a.le≤100000000→∀w',Below W.heap.size W w'→Calls Tryz.prog 165 #[.pointer (some ⟨tb,0,none⟩),.agg #[.int .i64 a.fl,.int .i64 a.he,.int .i64 a.le],.int .i64 f] w' fun e w''=>e=.returned (.agg #[.int .i64 (RM.nx s.st a f).fl,.int .i64 (RM.nx s.st a f).he,.int .i64 (RM.nx s.st a f).le])∧Below w'.heap.size w' w''):=fun a oa la w' hw=>knext_any (ht.below' hw) a oa la f hwr.1 hwr.2;have HOK:=Hd ok;have HA:=Hd hA;have HE0:=Hd (Ez.c (s:=s) (n:=n) (g:=g) W f m);have c0:((W.alloc (.cells (kc s n g).toArray 227)).alloc (.cells #[.int .i64 f,.int .i64 (m:Int)] 131)).cell? ⟨W.heap.size,0,none⟩=some (.int .i64 (n.k:Int)):=HE0.out.n1.cell 0;obtain⟨T0,HT0⟩:∃T,Hid (ert s n j s.cs.length=T):=⟨_,Hd rfl⟩;rw[HT0.out];clear ht ok hA hy hm hrs hwr
 go_enter Tryz.func174,Tryz.ntmps174
 go_wp2_with fail
 clear c0;generalize (W.alloc (.cells (kc s n g).toArray 227)).alloc (.cells #[.int .i64 f,.int .i64 (m:Int)] 131)=W1 at HE0⊢
 go_loopw [7,8] (fun tv cv wr=>∃(c:Nat) (t:Int),n.k≤c∧c≤s.cs.length∧tv=.int .i64 t∧cv=.int .i64 (c:Int)∧Hid (t=ert s n j c)∧Hid (Ez W wr s n g f m)) (fun _ cv _=>s.cs.length-(intOf cv).toNat)
 case atStart=>exact⟨n.k,_,Nat.le_refl _,by omega,rfl,rfl,(ert_zero j).symm,HE0⟩
 case round=>
  clear HE0;obtain⟨c,t,hkc2,hcn,rfl,rfl,HT,HE⟩:=hrel;have c1:wr.cell? ⟨W.heap.size,1,none⟩=some (.slice (some ⟨g,0,none⟩) s.cs.length s.cs.length):=HE.out.n1.cell 1;by_cases hlt:c<s.cs.length
  ·have hcz:(c:Int)<(s.cs.length:Int):=by omega
   have x0:wr.cell? ⟨W.heap.size+1,0,none⟩=some (.int .i64 f):=by rw[cell_of_row _ _ 0 _ _ _ HE.out.wb];rfl
   have x1:wr.cell? ⟨W.heap.size+1,1,none⟩=some (.int .i64 (m:Int)):=by rw[cell_of_row _ _ 1 _ _ _ HE.out.wb];rfl
   obtain⟨a,ha⟩:∃a,(wys s n)[c]?=some a:=⟨_,List.getElem?_eq_getElem (by rw[wys_length HOK.out];exact hlt)⟩;have HH:=Hd (khas_any f m c (by omega));have HAA:=Hd ha;clear ha
   go_wp2_with fail
   refine (HH.out wr).mono ?_;rintro e W2 ⟨rfl,hb2⟩;have HE2:=Hd (HE.out.next hb2);clear hb2 HE HH x0 x1 c1;cases hbt:PM.bt m c with
   |false=>
    have HT2:Hid (t=ert s n j (c+1)):=by
     show _=_;rw[ert_no HOK.out hkc2 HAA.out (by rw[HMY.out,hbt]),HT.out]
    clear hbt;go_wp2;go_roundw
    case rel=>exact⟨c+1,t,by omega,by omega,rfl,by go_num,HT2,HE2⟩
    case measure=>simp[intOf];omega
   |true=>
    have hok:=wys_ok HOK.out HAA.out
    have HT2:Hid (ert s n j (c+1)=min t (RM.nx s.st a f).he):=by
     show _=_;rw[ert_yes HOK.out hkc2 HAA.out (by rw[HMY.out,hbt]),HT.out,HWF.out,RM.nx_eq hok.1]
    have HNA:=Hd (HNX.out a hok.1 hok.2);clear hbt hok;generalize RM.nx s.st a f=z at HNA HT2;have hcl:c<s.cs.length:=hlt
    go_wp2_with fail
    have hbw:∀w',Below W2.drew.heap.size W2.drew w'→Ez W w' s n g f m:=fun w' hw=>HE2.out.next ((Below.refl _ _).drew.trans hw);have G1:Hid (∀w',Below W2.drew.heap.size W2.drew w'→w'.cell? ⟨W.heap.size,1,none⟩=some (.slice (some ⟨g,0,none⟩) s.cs.length s.cs.length)):=fun w' hw=>(hbw w' hw).n1.cell 1;have GA:Hid (∀w',Below W2.drew.heap.size W2.drew w'→w'.rangeAt g (c*3) [.int .i64 a.fl,.int .i64 a.he,.int .i64 a.le]):=fun w' hw=>(HA.out.below' (hbw w' hw).bel).range HAA.out;have GX:Hid (∀w',Below W2.drew.heap.size W2.drew w'→w'.cell? ⟨W.heap.size+1,0,none⟩=some (.int .i64 f)):=fun w' hw=>by rw[cell_of_row _ _ 0 _ _ _ (hbw w' hw).wb];rfl
    have GN:Hid (∀w',Below W2.drew.heap.size W2.drew w'→Calls Tryz.prog 165 #[.pointer (some ⟨tb,0,none⟩),.agg #[.int .i64 a.fl,.int .i64 a.he,.int .i64 a.le],.int .i64 f] w' fun e w''=>e=.returned (.agg #[.int .i64 z.fl,.int .i64 z.he,.int .i64 z.le])∧Below w'.heap.size w' w''):=fun w' hw=>HNA.out w' (hbw w' hw).bel;clear hbw HNA;refine wp_region_tail 12 (by kernel_rfl) (by kernel_rfl) ?_;simp only[List.take_succ_cons,List.take_zero,List.drop_succ_cons,List.drop_zero]
    iterate 3 (unfold wpCalm;generalize hK:wpCalm _ _ _ _ _=K;unfold Oper.calm;go_simp;refine⟨_,fun _ _=>rfl,?_⟩;subst hK)
    unfold wpCalm;generalize hK:wpCalm _ _ _ _ _=K;rw[if_pos (by go_simp)];refine calm_loadVs _ _ _ rfl rfl G1.out ?_;go_simp;subst hK;unfold wpCalm;generalize hK:wpCalm _ _ _ _ _=K;unfold Oper.calm;go_simp;refine⟨_,fun _ _=>rfl,?_⟩;subst hK;unfold wpCalm;generalize hK:wpCalm _ _ _ _ _=K;rw[if_pos (by go_simp)];refine calm_ixV _ _ rfl rfl rfl hcl ?_;go_simp;subst hK;unfold wpCalm;generalize hK:wpCalm _ _ _ _ _=K;rw[if_pos (by go_simp)];refine calm_loadV _ _ _ a rfl rfl GA.out ?_;go_simp;subst hK;unfold wpCalm;generalize hK:wpCalm _ _ _ _ _=K;unfold Oper.calm;go_simp;refine⟨_,fun _ _=>rfl,?_⟩;subst hK;unfold wpCalm;generalize hK:wpCalm _ _ _ _ _=K;rw[if_pos (by go_simp)];refine calm_load3 _ _ _ rfl rfl GX.out ?_;go_simp;subst hK;unfold wpCalm;generalize hK:wpCalm _ _ _ _ _=K;unfold Oper.calm;go_simp;refine⟨_,fun w' hw=>GN.out w' hw,?_⟩;subst hK;unfold wpCalm;generalize hK:wpCalm _ _ _ _ _=K;rw[if_pos (by go_simp)];refine calm_fieldV _ rfl rfl ?_;go_simp;subst hK;unfold wpCalm;generalize hK:wpCalm _ _ _ _ _=K;rw[if_pos (by go_simp)];refine calm_min _ _ rfl rfl rfl ?_;go_simp;subst hK;refine wpCalm_nil ?_;rw[←HT2.out];generalize hu:ert s n j (c+1)=u;have HU:=Hd hu.symm;clear hu HT2;intro W3 hb3;have HE3:=Hd (HE2.out.next ((Below.refl W2.heap.size W2).drew.trans hb3));clear hb3 HE2 G1 GA GX GN;go_wp2;go_roundw
    case rel=>exact⟨c+1,u,by omega,by omega,rfl,by go_num,HU,HE3⟩
    case measure=>simp[intOf];omega
  ·have hcz:¬(c:Int)<(s.cs.length:Int):=by omega
   have HU:Hid (t=T0):=by
    show _=_;rw[HT.out,←HT0.out,show c=s.cs.length by omega]
   clear HT;go_wp2;go_ret;exact⟨ret_int HU.out,HE.out.bel⟩
structure Lz2(W wr:World)(s:Sn)(n:Nn)(g:Nat):Prop where
 n1:KN wr W.heap.size (kc s n g)
 bel:Below W.heap.size W wr
theorem Lz2.next{wr w':World}(h:Lz2 W wr s n g)(hb:Below wr.heap.size wr w'):Lz2 W w' s n g:=⟨h.n1.below' hb,below_class h.bel hb⟩
theorem kleast_any(ht:TC D W tb s vc vw vt)(ok:n.ok s)(hA:WR W g (wys s n)):
  Calls Tryz.prog 166 #[.pointer (some ⟨tb,0,none⟩),.agg (kc s n g).toArray] W fun e w'=>e=.returned (.int .i64 (lsv s n.k n.b n.st))∧Below W.heap.size W w':=by
 have hb0:=(Below.refl W.heap.size W).alloc (Nat.le_refl _) (.cells (kc s n g).toArray 227);have HL0:Hid (Lz2 W (W.alloc (.cells (kc s n g).toArray 227)) s n g):=⟨KN.new W (kc_length s n g),hb0⟩;obtain⟨aw,kw,rfl,_,_⟩:=ht.ws.form;have c2:(W.alloc (.cells (kc s n g).toArray 227)).cell? ⟨W.heap.size,2,none⟩=some (.int .i64 (RM.cst s.st s.ws s.cs n.b)):=HL0.out.n1.cell 2;have c14:=(ht.below' hb0).c14;have HEA:Hid (∀(j:Nat) y,s.ws[j]?=some y→∀w',Below W.heap.size W w'→Calls Tryz.prog 174 #[.pointer (some ⟨tb,0,none⟩),.agg (kc s n g).toArray,.agg #[.int .i64 y.1,.int .i64 y.2]] w' fun e w''=>e=.returned (.int .i64 (ert s n j s.cs.length))∧Below w'.heap.size w' w''):=fun j y hy w' hw=>kearliest_any (ht.below' hw) ok (hA.below' hw) hy;have HOK:=Hd ok;have HT:=Hd ht;obtain⟨n8,hrs⟩:=rgt_rs ht.rg;have hwl:s.ws.length≤128:=hrs.wl;generalize hT:lsv s n.k n.b n.st=T;have HTT:=Hd hT;obtain⟨ct,HCT⟩:∃ct,Hid (RM.cst s.st s.ws s.cs n.b=ct):=⟨_,Hd rfl⟩;rw[HCT.out]at c2;clear ht hb0 ok hrs hT hA
 go_enter Tryz.func166,Tryz.ntmps166
 go_wp2_with fail
 clear c2 c14;generalize W.alloc (.cells (kc s n g).toArray 227)=W1 at HL0⊢
 go_loopw [5,17] (fun tv jv wr=>∃(j:Nat) (t:Int),j≤s.ws.length∧tv=.int .i64 t∧jv=.int .i64 (j:Int)∧Hid (t=lsk s n.k n.b n.st j∧Lall s n j)∧Hid (Lz2 W wr s n g)) (fun _ jv _=>s.ws.length-(intOf jv).toNat)
 case atStart=>exact⟨0,ct,Nat.zero_le _,rfl,rfl,⟨by rw[lsk_zero,HCT.out],lall_zero⟩,HL0⟩
 case round=>
  clear HL0;obtain⟨j,t,hj,rfl,rfl,HTJ,HL⟩:=hrel;by_cases hlt:j<s.ws.length
  ·have hjz:(j:Int)<(s.ws.length:Int):=by omega
   obtain⟨y,hy⟩:∃y,s.ws[j]?=some y:=⟨_,List.getElem?_eq_getElem hlt⟩;obtain⟨q,hq⟩:∃q,n.st[j]?=some q:=⟨_,List.getElem?_eq_getElem (by rw[HOK.out.sl];exact hlt)⟩;obtain⟨gw,ow,haw,w0,w1⟩:=(HT.out.below' HL.out.bel).ws.at hy;subst haw;have hja:j<128:=by omega
   have hjb:(j:Int)<128:=by omega
   have HL1:=Hd (HL.out.next ((Below.refl wr.heap.size wr).alloc (Nat.le_refl _) (.cells #[.int .i64 y.1,.int .i64 y.2] 131)));have c4:(wr.alloc (.cells #[.int .i64 y.1,.int .i64 y.2] 131)).cell? ⟨W.heap.size,4+j,none⟩=some (.bool q):=(HL1.out.n1.cell (4+j)).trans (knc_at (pad_get (by rw[HOK.out.sl];exact hwl) hq));cases q with
   |true=>
    have HT2:Hid (t=lsk s n.k n.b n.st (j+1)∧Lall s n (j+1)):=⟨by rw[lsk_same (by rw[hq];simp),HTJ.out.1],lall_same HTJ.out.2 (by rw[hq];simp)⟩;clear hq hy HL;go_wp2;go_roundw
    case rel=>exact⟨j+1,t,by omega,rfl,by go_num,HT2,HL1⟩
    case measure=>simp[intOf];omega
   |false=>
    have HQ:=Hd hq;have HEY:=Hd (HEA.out j y hy);have HER:=Hd (ert_end HOK.out j);have HN1:=Hd HL1.out.n1;obtain⟨E,HE⟩:∃E,Hid (ert s n j s.cs.length=E):=⟨_,Hd rfl⟩;rw[HE.out]at HEY HER;clear hq hy HL
    go_wp2_with (refine wpList_loadK rfl _ rfl W.heap.size _ rfl HN1.out ?_)
    refine (HEY.out _ HL1.out.bel).mono ?_;rintro e V2 ⟨rfl,hb2⟩;have HL2:=Hd (HL1.out.next hb2);clear hb2 HL1 HN1 HEY w0 w1 c4;by_cases hE:E=1099511627776
    ·subst hE
     have HR:Hid ((1099511627776:Int)=T):=by
      show _=_;rw[←HTT.out,lsk_limit HOK.out HQ.out hlt HER.out.symm]
     clear HTJ HER HE HQ;go_wp2;go_ret;exact⟨ret_int HR.out,HL2.out.bel⟩
    ·obtain⟨h1,h2,h3,h4,h5,h6⟩:=lall_more HOK.out HTJ.out.2 hja HQ.out (by rw[←HER.out];exact hE);rw[←HTJ.out.1]at h2 h3 h4;rw[←HER.out]at h2 h5 h6;have hz:(E==1099511627776)=false:=by simpa using hE
     have hw1:IntKind.i64.wrap (t+E)=t+E:=IntWalk.i64_in _ (by omega);have HT2:Hid (t+E=lsk s n.k n.b n.st (j+1)∧Lall s n (j+1)):=⟨h2.symm,h1⟩;clear h1 h2 h3 h4 h5 h6 HTJ HER HE HQ hE;go_wp2;go_roundw
     case rel=>exact⟨j+1,t+E,by omega,rfl,by go_num,HT2,HL2⟩
     case measure=>simp[intOf];omega
  ·have hjz:¬(j:Int)<(s.ws.length:Int):=by omega
   have HE:Hid (t=T):=by
    show _=_;rw[←HTT.out,←lsk_end,HTJ.out.1,show j=s.ws.length by omega]
   go_wp2;go_ret;exact⟨ret_int HE.out,HL.out.bel⟩
end
def Byt(l:List Nat):Prop:=∀x∈l,x<256
theorem Byt.drop{l:List Nat}(h:Byt l)(k:Nat):Byt (l.drop k):=fun x hx=>h x (List.mem_of_mem_drop hx)
theorem Byt.take{l:List Nat}(h:Byt l)(k:Nat):Byt (l.take k):=fun x hx=>h x (List.mem_of_mem_take hx)
def RY(D:Nat→Prop)(W:World)(v:Value)(l:List Nat):Prop:=
 Byt l∧∃a cap,v=.slice a l.length cap∧l.length≤cap∧(cap≤maxLen∧(a=none→cap=0))∧(l=[]∨∃g o,a=some ⟨g,o,none⟩∧D g∧g<W.heap.size∧∀(i:Nat) x,l[i]?=some x→W.cell? ⟨g,o+i,none⟩=some (.int .u8 (x:Int)))
section
variable {D D':Nat→Prop} {W W':World} {v:Value} {l:List Nat}
theorem RY.keep(h:RY D W v l)(hs:W.heap.size≤W'.heap.size)(hk:∀g,D g→g<W.heap.size→W'.heap[g]?=W.heap[g]?):RY D W' v l:=by
 obtain⟨hB,a,cap,rfl,hc,hm,h⟩:=h;refine⟨hB,a,cap,rfl,hc,hm,?_⟩;rcases h with h|⟨g,o,rfl,hd,hlt,h⟩
 ·exact .inl h
 ·exact .inr ⟨g,o,rfl,hd,Nat.lt_of_lt_of_le hlt hs,fun i y hy=>(World.cell?_of_block (a:=⟨g,o+i,none⟩) (hk g hd hlt)).trans (h i y hy)⟩
theorem RY.below'(h:RY D W v l)(hb:Below W.heap.size W W'):RY D W' v l:=h.keep hb.size fun g _ hlt=>hb.block g hlt
theorem RY.alloc(h:RY D W v l)(o:Obj):RY D (W.alloc o) v l:=h.below' ((Below.refl _ _).alloc (Nat.le_refl _) o)
theorem RY.mono(h:RY D W v l)(hD:∀g,D g→g<W.heap.size→(∃o:Obj,W.heap[g]?=some o∧o.isCells=true)→D' g):RY D' W v l:=by
 obtain⟨hB,a,cap,rfl,hc,hn,h⟩:=h;refine⟨hB,a,cap,rfl,hc,hn,?_⟩;rcases h with h|⟨g,o,rfl,hd,hlt,h⟩
 ·exact .inl h
 ·cases l with
  |nil=>exact .inl rfl
  |cons y l=>exact .inr ⟨g,o,rfl,hD g hd hlt (cells_of_cell (h 0 y rfl)),hlt,h⟩
theorem RY.nil(D:Nat→Prop)(W:World):RY D W (.slice none 0 0) []:=⟨fun x hx=>by simp at hx,none,0,rfl,Nat.le_refl _,⟨Nat.zero_le _,fun _=>rfl⟩,.inl rfl⟩
theorem RY.form(h:RY D W v l):∃a cap,v=.slice a l.length cap∧l.length≤cap∧cap≤maxLen∧(a=none→cap=0):=by
 obtain⟨_,a,cap,h1,h2,hm,_⟩:=h;exact⟨a,cap,h1,h2,hm.1,hm.2⟩
theorem RY.len{a:Option Addr}{n cap:Nat}(h:RY D W (.slice a n cap) l):n=l.length:=by
 obtain⟨_,a',cap',e,_⟩:=h;cases e;rfl
theorem RY.at{a:Option Addr}{n cap:Nat}(h:RY D W (.slice a n cap) l){i x:Nat}(hi:l[i]?=some x):∃g o,a=some ⟨g,o,none⟩∧W.cell? ⟨g,o+i,none⟩=some (.int .u8 (x:Int)):=by
 obtain⟨_,a',cap',e,_,_,h⟩:=h;cases e;rcases h with h|⟨g,o,rfl,_,_,h⟩
 ·rw[h]at hi;simp at hi
 ·exact⟨g,o,rfl,h i x hi⟩
theorem RY.lies{a:Option Addr}{n cap:Nat}(h:RY D W (.slice a n cap) l)(hl:l≠[]):∃g o,a=some ⟨g,o,none⟩∧D g∧g<W.heap.size∧∀(i:Nat) x,l[i]?=some x→W.cell? ⟨g,o+i,none⟩=some (.int .u8 (x:Int)):=by
 obtain⟨_,a',cap',e,_,_,h⟩:=h;cases e;rcases h with h|h
 ·exact absurd h hl
 ·exact h
theorem RY.cut{a:Option Addr}{n cap j:Nat}(h:RY D W (.slice a n cap) l)(hj:j≤l.length):RY D W (.slice a j cap) (l.take j):=by
 obtain⟨hB,a',c,e,h1,h2,h3⟩:=h;cases e;have hlen:(l.take j).length=j:=by rw[List.length_take];omega
 refine⟨hB.take j,_,_,by rw[hlen],by omega,h2,?_⟩;rcases h3 with h3|⟨g',o',e,hd,hlt,h4⟩
 ·left;rw[h3];simp
 ·cases e
  exact .inr ⟨g',o',rfl,hd,hlt,fun i x hx=>h4 i x (by
   rw[List.getElem?_take]at hx;split at hx
   ·exact hx
   ·cases hx)⟩
theorem RY.rest{a:Option Addr}{n cap j:Nat}(h:RY D W (.slice a n cap) l)(hj:j≤l.length):RY D W (.slice (restA a cap j) (n-j) (cap-j)) (l.drop j):=by
 obtain⟨hB,a',c,e,h1,h2,h3⟩:=h;cases e;have hlen:(l.drop j).length=l.length-j:=List.length_drop
 refine⟨hB.drop j,_,_,by rw[hlen],by omega,⟨by have:=h2.1;omega,fun e=>by
  unfold restA at e;split at e
  ·omega
  ·cases a with
   |none=>have:=h2.2 rfl;omega
   |some x=>simp at e⟩,?_⟩
 by_cases hcj:cap=j
 ·left;rw[List.drop_eq_nil_iff];omega
 ·rcases h3 with h3|⟨g',o',e,hd,hlt,h4⟩
  ·left;rw[h3];simp
  ·cases e;refine .inr ⟨g',o'+j,by unfold restA;rw[if_neg hcj,Option.map_some,Addr.add_mid],hd,hlt,fun i x hx=> ?_⟩;rw[List.getElem?_drop]at hx;rw[Nat.add_assoc];exact h4 (j+i) x hx
theorem OY.ry{B:Nat}(h:OY W B v l)(hb:Byt l)(hD:∀g,v.ownBlock=some g→D g):RY D W v l:=by
 rcases h.form with⟨rfl,rfl⟩|⟨g,cap,rfl,_,hlt,hc,hm⟩
 ·exact RY.nil _ _
 ·exact⟨hb,_,cap,rfl,hc,⟨hm,fun e=>by cases e⟩,.inr ⟨g,0,rfl,hD g rfl,hlt,fun i x hx=>by rw[Nat.zero_add];exact h.cell hx⟩⟩
end
theorem sliceY_rest(aa:Option Addr)(La ac n:Nat)(w:World)(hn:n≤La):(Instr.sliceAt 32 (.slice aa La ac) (some (.int .i64 (n:Int))) none none).run Tryz.prog w=.ok (.slice (restA aa ac n) (La-n) (ac-n)) w:=by
 have h1:(n:Int)≤(La:Int):=by omega
 unfold restA;cases aa with
 |none=>simp[go_sem,h1]
 |some x=>
  by_cases e:ac=n
  ·simp[go_sem,h1,e]
  ·simp[go_sem,h1,e]
section
variable {W0:World} {K:Act→Prop} {o:Oper} {a:Act}
end
theorem i64_byt{x:Nat}(h:x<256):IntKind.i64.wrap (x:Int)=(x:Int):=by rw[IntKind.wrap_i64];omega
def OQ(W:World)(B:Nat)(v:Value)(p:List (List Int)):Prop:=∃us,OP W B v us∧us.length=p.length∧∀(i:Nat) u l,us[i]?=some u→p[i]?=some l→RI (fun g=>B≤g∧v.ownBlock≠some g) W u l
section
variable {W W':World} {B:Nat} {v:Value} {p:List (List Int)}
theorem OQ.nil(W:World)(B:Nat):OQ W B (.slice none 0 0) []:=⟨[],World.ownsRow_nil W B _ 1,rfl,fun i u l hu=>by simp at hu⟩
theorem OQ.keep(h:OQ W B v p)(hs:W.heap.size≤W'.heap.size)(hk:∀g,B≤g→g<W.heap.size→W'.heap[g]?=W.heap[g]?):OQ W' B v p:=by
 obtain⟨us,h1,h2,h3⟩:=h;exact⟨us,h1.keep fun g hg=>hk g (h1.lt g hg).1 (h1.lt g hg).2,h2,fun i u l hu hl=>(h3 i u l hu hl).keep hs fun g hg hlt=>hk g hg.1 hlt⟩
theorem OQ.next(h:OQ W B v p)(hb:Below W.heap.size W W'):OQ W' B v p:=h.keep hb.size fun g _ hlt=>hb.block g hlt
theorem OQ.form(h:OQ W B v p):∃a c,v=.slice a p.length c:=by
 obtain⟨us,h1,h2,_⟩:=h;rcases h1.2 with⟨h3,h4⟩|⟨g,cap,cur,h3,_⟩
 ·exact⟨none,0,by rw[h3,←h2,h4]⟩
 ·exact⟨_,cap,by rw[h3,h2]⟩
theorem OQ.rl(h:OQ W B v p):RL (fun g=>B≤g) W v p:=by
 obtain⟨us,h1,h2,h3⟩:=h;rcases h1.2 with⟨h4,h5⟩|⟨g,cap,cur,h4,_⟩
 ·have:p=[]:=List.length_eq_zero_iff.1 (by omega);subst this;rw[h4];exact RL.nil _ _
 ·subst h4;have:=(h1.lt g rfl).1;rw[show(us.length:Nat)=us.length from rfl];exact h1.rl this h2 fun i u l hu hl=>(h3 i u l hu hl).mono fun _ h _ _=>h.1
end
def RB(W:World)(b:Nat)(v:Value):Prop:=W.heap[b]?=some (.cells #[v] 181 (0,0))
structure RR(W:World)(b:Nat)(r:List Nat):Prop where
 bl:∃v,RB W b v∧RY (fun g=>g<b) W v r
section
variable {W W':World} {b:Nat} {v:Value} {r:List Nat}
theorem RB.lt(H:RB W b v):b<W.heap.size:=(Array.getElem?_eq_some_iff.1 H).1
theorem RB.below'(H:RB W b v)(hb:Below W.heap.size W W'):RB W' b v:=(hb.block b H.lt).trans H
theorem RB.cell(H:RB W b v):W.cell? ⟨b,0,none⟩=some v:=(blk_cell (C:=[v]) H 0).trans rfl
theorem RB.fr(H:RB W b v):W.frozen? ⟨b,0,none⟩=false:=blk_fr (C:=[v]) H 0
theorem RB.put(H:RB W b v)(u:Value):RB (W.setCell ⟨b,0,none⟩ u) b u:=blk_set (C:=[v]) H 0 u
theorem RB.new(W:World)(v:Value):RB (W.alloc (.cells #[v] 181)) W.heap.size v:=World.alloc_heap_new W _
theorem RR.lt(h:RR W b r):b<W.heap.size:=by
 obtain⟨v,h1,_⟩:=h.bl;exact h1.lt
theorem RR.below'(h:RR W b r)(hb:Below W.heap.size W W'):RR W' b r:=by
 obtain⟨v,h1,h2⟩:=h.bl;exact⟨v,h1.below' hb,h2.below' hb⟩
theorem RR.kp{G:Nat→Prop}(h:RR W b r)(k:Kp G W W')(hG:∀i,i<W.heap.size→¬G i):RR W' b r:=h.below' (k.toBelow (Nat.le_refl _) hG)
theorem RR.far{G:Nat→Prop}(h:RR W b r)(k:Kp G W W')(hG:∀i,G i→b<i):RR W' b r:=by
 obtain⟨v,h1,h2⟩:=h.bl;exact⟨v,(k.block b h1.lt (fun e=>Nat.lt_irrefl _ (hG b e))).trans h1,h2.keep k.size fun g hg hlt=>k.block g hlt (fun e=>by have:=hG g e;omega)⟩
theorem RR.byt(h:RR W b r):Byt r:=by
 obtain⟨v,_,h2⟩:=h.bl;exact h2.1
end
theorem sliceY_three(aa:Option Addr)(La ac n:Nat)(w:World)(hn:n≤ac):(Instr.sliceAt 32 (.slice aa La ac) none (some (.int .i64 (n:Int))) (some (.int .i64 (n:Int)))).run Tryz.prog w=.ok (.slice aa n n) w:=by
 have h1:(n:Int)≤(ac:Int):=by omega
 cases aa<;>simp[go_sem,h1]
theorem RY.three{D:Nat→Prop}{W:World}{a:Option Addr}{n cap j:Nat}{l:List Nat}(h:RY D W (.slice a n cap) l)(hj:j≤l.length):RY D W (.slice a j j) (l.take j):=by
 obtain⟨hB,a',c,e,h1,h2,h3⟩:=h;cases e;have hlen:(l.take j).length=j:=by rw[List.length_take];omega
 refine⟨hB.take j,_,_,by rw[hlen],by omega,⟨by have:=h2.1;omega,fun e=>by have:=h2.2 e;omega⟩,?_⟩;rcases h3 with h3|⟨g',o',e,hd,hlt,h4⟩
 ·left;rw[h3];simp
 ·cases e
  exact .inr ⟨g',o',rfl,hd,hlt,fun i x hx=>h4 i x (by
   rw[List.getElem?_take]at hx;split at hx
   ·exact hx
   ·cases hx)⟩
section
variable {W:World} {b:Nat} {r:List Nat}
theorem ktake_no(h:RR W b r){n:Nat}(hn:r.length<n):Calls Tryz.prog 135 #[.pointer (some ⟨b,0,none⟩),.int .i64 (n:Int)] W fun e w'=>e=.returned (.tuple #[.slice none 0 0,.bool false])∧w'=W:=by
 obtain⟨v,h1,h2⟩:=h.bl;obtain⟨a,k,rfl,_,_,_⟩:=h2.form;have c0:=h1.cell;have q:(r.length:Int)<(n:Int):=by omega
 clear h h1 h2
 go_enter Tryz.func135,Tryz.ntmps135
 go_wp2
 go_ret2
 exact⟨rfl,rfl⟩
theorem ktake_yes(h:RR W b r){n:Nat}(hn:n≤r.length):Calls Tryz.prog 135 #[.pointer (some ⟨b,0,none⟩),.int .i64 (n:Int)] W fun e w'=>∃a,e=.returned (.tuple #[.slice a n n,.bool true])∧RY (fun g=>g<b) w' (.slice a n n) (r.take n)∧RR w' b (r.drop n)∧Kp (fun i=>i=b) W w':=by
 obtain⟨v,h1,h2⟩:=h.bl;obtain⟨a,k,rfl,hk,_,_⟩:=h2.form;have c0:=h1.cell;have f0:=h1.fr;have q:¬(r.length:Int)<(n:Int):=by omega
 have s1:=sliceY_three a r.length k n W (by omega);have s2:=sliceY_rest a r.length k n W hn;have kp:Kp (fun i=>i=b) W (W.setCell ⟨b,0,none⟩ (.slice (restA a k n) (r.length-n) (k-n))):=(Kp.refl (fun i=>i=b) W).set _ _ _ (fun _=>rfl)
 have HE:Hid (RY (fun g=>g<b) (W.setCell ⟨b,0,none⟩ (.slice (restA a k n) (r.length-n) (k-n))) (.slice a n n) (r.take n)∧RR (W.setCell ⟨b,0,none⟩ (.slice (restA a k n) (r.length-n) (k-n))) b (r.drop n)∧Kp (fun i=>i=b) W (W.setCell ⟨b,0,none⟩ (.slice (restA a k n) (r.length-n) (k-n)))):=
  ⟨(h2.three hn).keep kp.size fun g hg hlt=>kp.block g hlt (Nat.ne_of_lt hg),⟨_,h1.put _,(h2.rest hn).keep kp.size fun g hg hlt=>kp.block g hlt (Nat.ne_of_lt hg)⟩,kp⟩
 clear h h1 h2 kp;generalize restA a k n=ra at HE s2;generalize r.length-n=rn at HE s2;generalize k-n=rk at HE s2
 go_enter Tryz.func135,Tryz.ntmps135
 go_wp2
 go_ret2
 exact⟨a,rfl,HE.out⟩
end
def cvm(s:Sn)(c:Int)(n:Nn)(r:List Nat):Option (List Nat):=cvi s c n.m n.k n.b n.st r
def cvb(s:Sn)(c:Int)(n:Nn)(r:List Nat):Option (List Nat):=cnx (cvi s c (n.m-1)) n.k n.b n.st (ckd s (cvi s c (n.m-1)) n.k n.b n.st (lfs s n.st) (some r))
def cvk(s:Sn)(c:Int)(n:Nn)(j:Nat)(r:List Nat):Option (List Nat):=ckd s (cvi s c (n.m-1)) n.k n.b n.st (lfk n.st j) (some r)
section
variable {s:Sn} {c:Int} {n:Nn} {r:List Nat}
theorem ok_m(h:n.ok s):n.m=n.m-1+1:=by
 have:=h.kl;unfold Nn.m;omega
theorem cvm_nil(h:n.ok s):cvm s c n []=none:=by unfold cvm;rw[ok_m h];rfl
theorem cvm_eq(h:n.ok s)(m:Nat):cvm s c n (m::r)=if 2<m∨(m=1∧lfs s n.st=[])∨(m=2∧lfs s n.st≠[])then none
  else if m≠1 then(if c≤lsv s n.k n.b n.st then some r else none)else cvb s c n r:=by
 unfold cvm;rw[ok_m h];exact cvs_cons (cvi s c (n.m-1)) m r
theorem cvk_skip{j:Nat}(hs:¬(n.st[j]?=some false∧mayk s n.k (j:Int)=true)):cvk s c n (j+1) r=cvk s c n j r:=by
 unfold cvk;rw[lfk_succ];split
 ·rename_i h;rw[ckd_append,ckd_cons,if_neg (fun g=>hs ⟨h,g⟩)];rfl
 ·rw[List.append_nil]
theorem cvk_go{j:Nat}(h1:n.st[j]?=some false)(h2:mayk s n.k (j:Int)=true):cvk s c n (j+1) r=(cvk s c n j r).bind (cvm s c (grw n j)):=by
 have:=grw_m n h1;unfold cvk cvm;rw[lfk_succ,if_pos h1,ckd_append,ckd_cons,if_pos h2,show(grw n j).m=n.m-1 by omega,Int.toNat_natCast]
 rfl
theorem cvk_none{j:Nat}(h:cvk s c n j r=none):∀i,cvk s c n (j+i) r=none
 |0=>h
 |i+1=>by
  have ih:=cvk_none h i;by_cases hc:n.st[j+i]?=some false∧mayk s n.k ((j+i:Nat):Int)=true
  ·rw[←Nat.add_assoc,cvk_go hc.1 hc.2,ih];rfl
  ·rw[←Nat.add_assoc,cvk_skip hc,ih]
theorem cvb_none{j:Nat}(hj:j≤s.ws.length)(h:cvk s c n j r=none):cvb s c n r=none:=by
 have:=cvk_none h (s.ws.length-j);rw[show j+(s.ws.length-j)=s.ws.length by omega]at this;unfold cvb lfs;unfold cvk at this;rw[this,cnx_none]
theorem cvb_last{r':List Nat}(h:cvk s c n s.ws.length r=some r')(hk:¬n.k+1<n.b.length):cvb s c n r=some r':=by
 unfold cvb lfs;unfold cvk at h;rw[h];unfold cnx;rw[if_neg hk]
theorem cvb_next{r':List Nat}(h:cvk s c n s.ws.length r=some r')(hk:n.k+1<n.b.length):cvb s c n r=cvm s c (nxc n) r':=by
 have:=nxc_m n hk;unfold cvb lfs cvm;unfold cvk at h;rw[h,show(nxc n).m=n.m-1 by omega];unfold cnx;rw[if_pos hk];rfl
end
structure Lop(o:Option (List Nat))(mb:Nat)(W:World)(e:Ending)(w':World):Prop where
 kp:Kp (fun i=>i=mb) W w'
 out:(∃r,o=some r∧e=.returned (.bool true)∧RR w' mb r)∨(o=none∧e=.returned (.bool false))
structure Lin(W:World)(mb:Nat)(s:Sn)(n:Nn)(tb g:Nat)(vc vw vt:Value)(r:List Nat):Prop where
 tr:TC (fun i=>i≠mb) W tb s vc vw vt
 ok:n.ok s
 row:WR W g (wys s n)
 gm:g≠mb
 rr:RR W mb r
def Lok(s:Sn)(c:Int)(f:Nat):Prop:=∀(W:World) (mb:Nat) (n:Nn) (tb g:Nat) (vc vw vt:Value) (r:List Nat),n.m≤f→Lin W mb s n tb g vc vw vt r→
 Calls Tryz.prog 145 #[.pointer (some ⟨tb,0,none⟩),.agg (kc s n g).toArray,.int .i64 c,.pointer (some ⟨mb,0,none⟩)] W fun e w'=>Lop (cvm s c n r) mb W e w'
structure Vz(W wr:World)(mb:Nat)(s:Sn)(n:Nn)(tb g:Nat)(vc vw vt:Value)(r:List Nat):Prop where
 li:Lin wr mb s n tb g vc vw vt r
 nd:KN wr W.heap.size (kc s n g)
 qm:W.heap.size≠mb
 kp:Kp (fun i=>i=mb) W wr
section
variable {W wr w':World} {mb tb g:Nat} {s:Sn} {n:Nn} {vc vw vt:Value} {r r':List Nat} {c:Int}
theorem Lin.next(h:Lin W mb s n tb g vc vw vt r)(hb:Below W.heap.size W w'):Lin w' mb s n tb g vc vw vt r:=⟨h.tr.below' hb,h.ok,h.row.below' hb,h.gm,h.rr.below' hb⟩
theorem Lin.kp(h:Lin W mb s n tb g vc vw vt r)(k:Kp (fun i=>i=mb) W w')(hr:RR w' mb r'):Lin w' mb s n tb g vc vw vt r':=⟨h.tr.kp k (fun _ h=>h),h.ok,h.row.kp k h.gm,h.gm,hr⟩
theorem Vz.next(h:Vz W wr mb s n tb g vc vw vt r)(hb:Below wr.heap.size wr w'):Vz W w' mb s n tb g vc vw vt r:=⟨h.li.next hb,h.nd.below' hb,h.qm,h.kp.thenBelow hb⟩
theorem Vz.look(h:Vz W wr mb s n tb g vc vw vt r)(k:Kp (fun i=>i=mb) wr w')(hr:RR w' mb r'):Vz W w' mb s n tb g vc vw vt r':=⟨h.li.kp k hr,h.nd.kp k h.qm,h.qm,h.kp.trans k (fun _ _ h=>h)⟩
theorem Vz.new(h:Lin W mb s n tb g vc vw vt r):Vz W (W.alloc (.cells (kc s n g).toArray 227)) mb s n tb g vc vw vt r:=
 ⟨h.next ((Below.refl _ _).alloc (Nat.le_refl _) _),KN.new W (kc_length s n g),by have:=h.rr.lt;omega,(Kp.refl _ W).alloc _⟩
theorem klookBehind_any{f:Nat}(hL:Lok s c f)(hm:n.m≤f+1)(h:Lin W mb s n tb g vc vw vt r):
  Calls Tryz.prog 167 #[.pointer (some ⟨tb,0,none⟩),.agg (kc s n g).toArray,.int .i64 c,.pointer (some ⟨mb,0,none⟩)] W fun e w'=>Lop (cvb s c n r) mb W e w':=by
 have HV0:=Hd (Vz.new h);obtain⟨aw,kw,rfl,_,_⟩:=h.tr.ws.form;have c14:=HV0.out.li.tr.c14;have HOK:=Hd h.ok;obtain⟨n8,hrs⟩:=rgt_rs h.tr.rg;have HRS:=Hd hrs;have hwl:s.ws.length≤128:=hrs.wl;have hN:s.cs.length≤8:=by have:=hrs.cl;have:=hrs.n8;omega
 have hkc:n.k<s.cs.length:=by have:=h.ok.kl;have:=h.ok.bl;omega
 have HLK:=Hd hL;have HM:=Hd hm;obtain⟨o,HO⟩:∃o,Hid (cvb s c n r=o):=⟨_,Hd rfl⟩;rw[HO.out];have HC0:Hid (cvk s c n 0 r=some r):=rfl;clear h hrs hL hm
 go_enter Tryz.func167,Tryz.ntmps167
 go_wp2_with fail
 clear c14;generalize W.alloc (.cells (kc s n g).toArray 227)=W1 at HV0⊢
 go_loopw [17] (fun jv wr=>∃(j:Nat) (rj:List Nat),j≤s.ws.length∧jv=.int .i64 (j:Int)∧Hid (cvk s c n j r=some rj)∧Hid (Vz W wr mb s n tb g vc (.slice aw s.ws.length kw) vt rj)) (fun jv _=>s.ws.length-(intOf jv).toNat)
 case atStart=>exact⟨0,r,Nat.zero_le _,rfl,HC0,HV0⟩
 case round=>
  clear HV0 HC0;obtain⟨j,rj,hj,rfl,HC,HV⟩:=hrel;by_cases hlt:j<s.ws.length
  ·have hjz:(j:Int)<(s.ws.length:Int):=by omega
   have hj8:(j:Int)<128:=by omega
   obtain⟨y,hy⟩:∃y,s.ws[j]?=some y:=⟨_,List.getElem?_eq_getElem hlt⟩;obtain⟨q,hq⟩:∃q,n.st[j]?=some q:=⟨_,List.getElem?_eq_getElem (by rw[HOK.out.sl];exact hlt)⟩;obtain⟨gw,ow,haw,x0,x1⟩:=HV.out.li.tr.ws.at hy;subst haw;have HV1:=Hd (HV.out.next ((Below.refl wr.heap.size wr).alloc (Nat.le_refl _) (.cells #[.int .i64 y.1,.int .i64 y.2] 131)));have c4:(wr.alloc (.cells #[.int .i64 y.1,.int .i64 y.2] 131)).cell? ⟨W.heap.size,4+j,none⟩=some (.bool q):=(HV1.out.nd.cell (4+j)).trans (knc_at (pad_get (by rw[HOK.out.sl];exact hwl) hq));cases q with
   |true=>
    have HC2:Hid (cvk s c n (j+1) r=some rj):=by
     show _=_;rw[cvk_skip (fun h=>by rw[hq]at h;cases h.1),HC.out]
    clear hq hy HV HC;go_wp2;go_roundw
    case rel=>exact⟨j+1,rj,by omega,by go_num,HC2,HV1⟩
    case measure=>simp[intOf];omega
   |false=>
    obtain⟨m,hmk,hym⟩:=HRS.out.mm.eq j y hy;have HMY:Hid (mayk s n.k (j:Int)=PM.bt m n.k):=by show _=_;unfold mayk;rw[Int.toNat_natCast,hmk];rfl
    obtain⟨y1,y2⟩:=y;simp only at hym;subst hym;have c0:(wr.alloc (.cells #[.int .i64 y1,.int .i64 (m:Int)] 131)).cell? ⟨W.heap.size,0,none⟩=some (.int .i64 (n.k:Int)):=HV1.out.nd.cell 0;have HH:=Hd (khas_any y1 m n.k (by omega));have HQ:=Hd hq;clear hq hy hmk HV
    go_wp2_with fail
    refine (HH.out _).mono ?_;rintro e V2 ⟨rfl,hb2⟩;have HV2:=Hd (HV1.out.next hb2);clear hb2 HV1 HH c0 c4 x0 x1;cases hbt:PM.bt m n.k with
    |false=>
     have HC2:Hid (cvk s c n (j+1) r=some rj):=by
      show _=_;rw[cvk_skip (fun h=>by rw[HMY.out,hbt]at h;cases h.2),HC.out]
     clear hbt HC;go_wp2;go_roundw
     case rel=>exact⟨j+1,rj,by omega,by go_num,HC2,HV2⟩
     case measure=>simp[intOf];omega
    |true=>
     have HC2:Hid (cvk s c n (j+1) r=cvm s c (grw n j) rj):=by
      show _=_;rw[cvk_go HQ.out (by rw[HMY.out,hbt]),HC.out];rfl
     have HOG:=Hd (HOK.out.grw hlt HQ.out (by rw[HMY.out,hbt]));have HGM:Hid ((grw n j).m≤f):=by show _≤_;have:=grw_m n HQ.out;have:=HM.out;omega
     have HGR:=Hd (kgrown_node HV2.out.li.tr HOK.out HV2.out.li.row hlt HQ.out);have HN2:=Hd HV2.out.nd;clear hbt HC HMY HQ
     go_wp2_with (refine wpList_loadK rfl _ rfl W.heap.size _ rfl HN2.out ?_)
     refine HGR.out.mono ?_;rintro e V3 ⟨g',rfl,hg',hr',hb3⟩;have HV3:=Hd (HV2.out.next hb3);have HLI:Hid (Lin V3 mb s (grw n j) tb g' vc (.slice (some ⟨gw,ow,none⟩) s.ws.length kw) vt rj):=⟨HV3.out.li.tr,HOG.out,hr',by have:=HV2.out.li.rr.lt;omega,HV3.out.li.rr⟩;have HLC:=Hd (HLK.out V3 mb (grw n j) tb g' vc _ vt rj HGM.out HLI.out);clear hg' hr' hb3 HV2 HGR HN2 HLI HGM HOG
     go_wp2_with fail
     refine HLC.out.mono ?_;rintro e V4 ⟨hk4,ho⟩;have HK4:=Hd hk4;clear hk4 HLC;rcases ho with⟨r2,h1,rfl,h2⟩|⟨h1,rfl⟩
     ·have HC3:Hid (cvk s c n (j+1) r=some r2):=by show _=_;rw[HC2.out,h1]
      have HV4:=Hd (HV3.out.look HK4.out h2);clear h1 h2 HC2 HV3 HK4;go_wp2;go_roundw
      case rel=>exact⟨j+1,r2,by omega,by go_num,HC3,HV4⟩
      case measure=>simp[intOf];omega
     ·have HR:Hid (o=none):=by
       show _=_;rw[←HO.out,cvb_none (j:=j+1) (by omega) (by rw[HC2.out,h1])]
      have HKK:=Hd (HV3.out.kp.trans HK4.out (fun _ _ h=>h));clear h1 HC2 HV3 HK4;go_wp2;go_ret;exact⟨HKK.out,.inr ⟨HR.out,rfl⟩⟩
  ·have hjz:¬(j:Int)<(s.ws.length:Int):=by omega
   have hje:j=s.ws.length:=by omega
   rw[hje]at HC;have c0:wr.cell? ⟨W.heap.size,0,none⟩=some (.int .i64 (n.k:Int)):=HV.out.nd.cell 0;have c1:wr.cell? ⟨W.heap.size,1,none⟩=some (.slice (some ⟨g,0,none⟩) s.cs.length s.cs.length):=HV.out.nd.cell 1;have hw1:IntKind.i64.wrap ((n.k:Int)+1)=(n.k:Int)+1:=IntWalk.i64_in _ (by omega);have HBL:=Hd HOK.out.bl;by_cases hk:n.k+1<s.cs.length
   ·have q1:((n.k:Int)+1==(s.cs.length:Int))=false:=by simp;omega
    have hk':n.k+1<n.b.length:=by rw[HBL.out];exact hk
    have HNC:=Hd (knext_node HOK.out g hk' hN wr);have HLM:Hid ((nxc n).m≤f):=by show _≤_;have:=nxc_m n hk';have:=HM.out;omega
    have HON:=Hd (HOK.out.nxc hk');have HR:Hid (o=cvm s c (nxc n) rj):=by show _=_;rw[←HO.out,cvb_next HC.out hk']
    have HN1:=Hd HV.out.nd;clear hk' HC hje
    go_wp2_with (refine wpList_loadK rfl _ rfl W.heap.size _ rfl HN1.out ?_)
    refine HNC.out.mono ?_;rintro e V3 ⟨rfl,hb3⟩;have HV3:=Hd (HV.out.next hb3);have HLI:Hid (Lin V3 mb s (nxc n) tb g vc (.slice aw s.ws.length kw) vt rj):=⟨HV3.out.li.tr,HON.out,HV3.out.li.row,HV3.out.li.gm,HV3.out.li.rr⟩;have HLC:=Hd (HLK.out V3 mb (nxc n) tb g vc _ vt rj HLM.out HLI.out);clear hb3 HV HNC HN1 HLI HLM HON c0 c1
    go_wp2_with fail
    refine HLC.out.mono ?_;rintro e V4 ⟨hk4,ho⟩;have HKK:=Hd (HV3.out.kp.trans hk4 (fun _ _ h=>h));rw[←HR.out]at ho;have HOO:=Hd ho;clear hk4 HLC HV3 ho
    obtain⟨bb,rfl,HE⟩:∃b,e=.returned (.bool b)∧Hid ((∃r,o=some r∧b=true∧RR V4 mb r)∨(o=none∧b=false)):=by
     rcases HOO.out with⟨r2,h1,rfl,h2⟩|⟨h1,rfl⟩
     ·exact⟨true,rfl,.inl ⟨r2,h1,rfl,h2⟩⟩
     ·exact⟨false,rfl,.inr ⟨h1,rfl⟩⟩
    clear HOO;go_wp2;go_ret;refine⟨HKK.out,?_⟩;rcases HE.out with⟨r2,h1,rfl,h2⟩|⟨h1,rfl⟩
    ·exact .inl ⟨r2,h1,rfl,h2⟩
    ·exact .inr ⟨h1,rfl⟩
   ·have q1:((n.k:Int)+1==(s.cs.length:Int))=true:=by simp;omega
    have HR:Hid (o=some rj):=by show _=_;rw[←HO.out,cvb_last HC.out (by rw[HBL.out];exact hk)]
    clear HC hje;go_wp2;go_ret;exact⟨HV.out.kp,.inl ⟨rj,HR.out,rfl,HV.out.li.rr⟩⟩
end
def be(l:List Nat):Int:=l.foldl (fun a (x:Nat)=>256*a+(x:Int)) 0
def rds(b:List Nat)(x:List (List Int)×Nat):Option (List (List Int)×Nat):=
 b[x.2]?.bind fun n=>if b.length<x.2+1+n then none else some (x.1++[((b.drop (x.2+1)).take n).map fun (x:Nat)=>(x:Int)],x.2+n+1)
def rdk(b:List Nat):Nat→Option (List (List Int)×Nat)
 |0=>some ([],9)
 |k+1=>(rdk b k).bind (rds b)
theorem rdk_none{b:List Nat}{k:Nat}(h:rdk b k=none):∀j,rdk b (k+j)=none
 |0=>h
 |j+1=>by
  show(rdk b (k+j)).bind (rds b)=none;rw[rdk_none h j];rfl
theorem rdk_out{b:List Nat}{k a:Nat}{p:List (List Int)}(h:rdk b k=some (p,a))(ha:b.length≤a):rdk b (k+1)=none:=by
 show(rdk b k).bind (rds b)=none;rw[h,Option.bind_some];unfold rds;rw[List.getElem?_eq_none ha]
 rfl
theorem rdk_long{b:List Nat}{k a n:Nat}{p:List (List Int)}(h:rdk b k=some (p,a))(ha:b[a]?=some n)(hn:b.length<a+1+n):rdk b (k+1)=none:=by
 show(rdk b k).bind (rds b)=none;rw[h,Option.bind_some];unfold rds;rw[ha,Option.bind_some,if_pos hn]
theorem rdk_next{b:List Nat}{k a n:Nat}{p:List (List Int)}(h:rdk b k=some (p,a))(ha:b[a]?=some n)(hn:a+1+n≤b.length):rdk b (k+1)=some (p++[((b.drop (a+1)).take n).map fun (x:Nat)=>(x:Int)],a+n+1):=by
 show(rdk b k).bind (rds b)=_;rw[h,Option.bind_some];unfold rds;rw[ha,Option.bind_some,if_neg (by show¬b.length<a+1+n;omega)]
theorem rdk_form{b:List Nat}(hb:9≤b.length):∀{k a:Nat} {p:List (List Int)},rdk b k=some (p,a)→p.length=k∧9≤a∧a≤b.length
 |0,a,p,h=>by cases h;exact⟨rfl,Nat.le_refl _,hb⟩
 |k+1,a,p,h=>by
  cases hk:rdk b k with
  |none=>rw[show rdk b (k+1)=(rdk b k).bind (rds b)from rfl,hk]at h;cases h
  |some x=>
   obtain⟨q,c⟩:=x;obtain⟨h1,h2,h3⟩:=rdk_form hb hk;cases hc:b[c]? with
   |none=>rw[rdk_out hk (by rw[List.getElem?_eq_none_iff]at hc;exact hc)]at h;cases h
   |some n=>
    by_cases hn:b.length<c+1+n
    ·rw[rdk_long hk hc hn]at h;cases h
    ·rw[rdk_next hk hc (by omega)]at h;cases h;exact⟨by rw[List.length_append,h1];rfl,by omega,by omega⟩
structure Clm where
 best:Bool
 cost:Int
 plan:List (List Int)
def clm0:Clm:=⟨false,0,[]⟩
def rdc(n:Nat)(b:List Nat):Option (Clm×Nat):=
 if b.length<9∨1<b[0]?.getD 0∨1099511627776<be ((b.drop 1).take 8)then none
 else match rdk b n with
  |none=>none
  |some (p,a)=>if b[0]?.getD 0=1∨a=b.length then some (⟨decide (b[0]?.getD 0=1),be ((b.drop 1).take 8),p⟩,a)else none
def mrk(s:Sn)(c:Int)(r:List Nat):Bool:=cvi s c (s.cs.length+s.ws.length) 0 (List.replicate s.cs.length []) (List.replicate s.ws.length false) r==some []
def ckw(s:Sn)(b:List Nat):Nat×Clm:=
 if rgt s=true then
  match rdc s.cs.length b with
  |none=>(3,clm0)
  |some (x,a)=>if fsb s x.plan=true then
    (if RM.cst s.st s.ws s.cs x.plan=x.cost then
     (if x.best=true∧mrk s x.cost (b.drop a)=false then(10,clm0)else(0,x))else(10,clm0))else(9,clm0)
 else(1,clm0)
section
theorem be_bek(m:Nat):∀(k:Nat) (a:Int),(bek (m:Int) k).foldl (fun a (x:Nat)=>256*a+(x:Int)) a=a*256^k+((m%256^k:Nat):Int)
 |0,a=>by simp[bek,Nat.mod_one]
 |k+1,a=>by
  show(bek (m:Int) k).foldl _ (256*a+(((((m:Int)/256^k)%256).toNat:Nat):Int))=_
  have h1:(((m:Int)/256^k)%256).toNat=m/256^k%256:=by
   rw[show((m:Int)/256^k)=((m/256^k:Nat):Int) by rw[Int.natCast_ediv,Int.natCast_pow];rfl];omega
  rw[be_bek m k,h1,Nat.pow_succ,Nat.mod_mul,Int.natCast_add,Int.natCast_mul,Int.natCast_pow,Int.pow_succ,Int.add_mul,Int.mul_comm 256 a,Int.mul_assoc,Int.mul_comm 256 (256^k),Int.mul_comm ((m/256^k%256:Nat):Int)];have:((256:Nat):Int)=256:=rfl;rw[this];omega
theorem be_all{n:Int}(h:0≤n)(h2:n≤1099511627776):be (bek n 8)=n:=by
 obtain⟨m,rfl⟩:∃m:Nat,n=(m:Int):=⟨n.toNat,by omega⟩;unfold be;rw[be_bek m 8 0,Int.zero_mul,Int.zero_add,Nat.mod_eq_of_lt (by have:(256:Nat)^8=18446744073709551616:=(by decide);omega)]
theorem prl_take{p:List (List Int)}{k:Nat}{l:List Int}(h:p[k]?=some l):prl (p.take (k+1))=prl (p.take k)++l.length::l.map Int.toNat:=by
 rw[List.take_add_one,h,Option.toList_some,prl_snoc]
theorem prl_split{p:List (List Int)}{k:Nat}{l:List Int}(h:p[k]?=some l):prl p=prl (p.take k)++(l.length::l.map Int.toNat)++prl (p.drop (k+1)):=by
 rw[←prl_take h];unfold prl;rw[←List.flatMap_append,List.take_append_drop]
theorem rdk_prl{p:List (List Int)}(hp:∀x∈p.flatten,0≤x){A:List Nat}(hA:A.length=9)(R:List Nat):∀k,k≤p.length→rdk (A++prl p++R) k=some (p.take k,9+(prl (p.take k)).length)
 |0,_=>by simp[rdk,prl]
 |k+1,h=>by
  obtain⟨l,hl⟩:∃l,p[k]?=some l:=⟨_,List.getElem?_eq_getElem (by omega)⟩;have hs:=prl_split hl;have ht:=prl_take hl;have ih:=rdk_prl hp hA R k (by omega)
  have hat:A++prl p++R=(A++prl (p.take k))++(l.length::(l.map Int.toNat++(prl (p.drop (k+1))++R))):=by
   rw[hs];simp
  have hlen:(A++prl (p.take k)).length=9+(prl (p.take k)).length:=by rw[List.length_append,hA]
  have hget:(A++prl p++R)[9+(prl (p.take k)).length]?=some l.length:=by
   rw[hat,List.getElem?_append_right (by omega),hlen,Nat.sub_self];rfl
  have hlen2:(A++prl p++R).length=9+(prl (p.take k)).length+1+(l.length+(prl (p.drop (k+1))++R).length):=by
   rw[hat,List.length_append,hlen,List.length_cons,List.length_append,List.length_map];omega
  have hdrop:(A++prl p++R).drop (9+(prl (p.take k)).length+1)=l.map Int.toNat++(prl (p.drop (k+1))++R):=by
   rw[hat,←hlen,List.drop_append,List.drop_of_length_le (by omega),show(A++prl (p.take k)).length+1-(A++prl (p.take k)).length=1 by omega];rfl
  rw[rdk_next ih hget (by omega),hdrop,List.take_left' (by rw[List.length_map]),List.map_map,ht,List.take_add_one,hl,Option.toList_some]
  have hid:l.map ((fun (x:Nat)=>(x:Int))∘Int.toNat)=l:=by
   conv=>rhs;rw[←List.map_id l]
   refine List.map_congr_left fun x hx=> ?_;have:=hp x (List.mem_flatten.2 ⟨l,List.mem_of_getElem? hl,hx⟩);show((x.toNat:Nat):Int)=x;omega
  rw[hid,List.length_append,List.length_cons,List.length_map]
  congr 2
  omega
def hdb(e:Bool)(c:Int)(p:List (List Int)):List Nat:=(if e=true then 0 else 1)::(bek c 8++prl p)
theorem prf_eq(x:Sx):prf x=hdb x.ended x.cost x.plan++if x.ended=true then[]else x.marks:=by
 unfold prf hdb;rw[List.cons_append]
theorem hdb_length(e:Bool)(c:Int)(p:List (List Int)):(hdb e c p).length=9+(prl p).length:=by
 unfold hdb;rw[List.length_cons,List.length_append,bek_length];omega
theorem rdc_hdb{e:Bool}{c:Int}{p:List (List Int)}(hp:∀x∈p.flatten,0≤x)(h:0≤c)(h2:c≤1099511627776)(R:List Nat)(hR:e=true→R=[]):rdc p.length (hdb e c p++R)=some (⟨!e,c,p⟩,(hdb e c p).length):=by
 have hA:((if e=true then 0 else 1)::bek c 8).length=9:=by rw[List.length_cons,bek_length]
 have hk:=rdk_prl hp hA R p.length (Nat.le_refl _);have hb:(if e=true then 0 else 1)::bek c 8++prl p++R=hdb e c p++R:=by unfold hdb;simp
 rw[hb,List.take_length]at hk;have hl:=hdb_length e c p;have h0:(hdb e c p++R)[0]?.getD 0=if e=true then 0 else 1:=by unfold hdb;simp
 have hd:((hdb e c p++R).drop 1).take 8=bek c 8:=by
  unfold hdb;show((bek c 8++prl p)++R).take 8=_;rw[List.append_assoc,List.take_left' (bek_length c 8)]
 unfold rdc;rw[h0,hd,be_all h h2,hk,if_neg (by rw[List.length_append,hl];cases e<;>simp<;>omega),←hl];cases e with
 |true=>rw[hR rfl];simp
 |false=>simp
theorem ckw_hdb{s:Sn}{e:Bool}{c:Int}{p:List (List Int)}(hr:rgt s=true)(hf:fsb s p=true)(hc:c=RM.cst s.st s.ws s.cs p)(h:0≤c)(h2:c≤1099511627776)(R:List Nat)(hR:e=true→R=[]):ckw s (hdb e c p++R)=if e=false∧mrk s c R=false then(10,clm0)else(0,⟨!e,c,p⟩):=by
 have hfs:=fsb_fs hf;have hrd:=rdc_hdb (e:=e) (fun x hx=>(hfs.fr x hx).1) h h2 R hR;unfold ckw;rw[if_pos hr,hfs.pc,hrd];show(if fsb s p=true then(if RM.cst s.st s.ws s.cs p=c then(if(!e)=true∧mrk s c ((hdb e c p++R).drop (hdb e c p).length)=false then(10,clm0)else(0,(⟨!e,c,p⟩:Clm)))else(10,clm0))else(9,clm0))=_;rw[if_pos hf,if_pos hc.symm,List.drop_left];cases e<;>simp
section
variable {s:Sn} {B:Nat}
theorem fnd_mrk(hr:rgt s=true)(he:(fnd s B).ended=false):(fnd s B).nodes=(fnd s B).marks.length∧∀t,cvi s (fnd s B).cost (s.cs.length+s.ws.length) 0 (List.replicate s.cs.length []) (List.replicate s.ws.length false) ((fnd s B).marks++t)=some t:=by
 have hb:=(bgn_all (root_bgn hr)).2.2.1
 obtain⟨_,M,e1,e2,e3⟩:=vis_mk (s:=s) (c:=(fnd s B).cost) (B:=B) (s.cs.length+s.ws.length) 0 (List.replicate s.cs.length []) (List.replicate s.ws.length false) (root s) (by
  rw[List.length_replicate];unfold PM.lf;rw[List.count_replicate]
  simp) hb he
 have e1:(fnd s B).marks=M:=e1;have e2:(fnd s B).nodes=0+M.length:=e2;rw[e1,e2,Nat.zero_add];exact⟨rfl,fun t=>e3 (Int.le_refl _) t⟩
theorem mrk_find(hr:rgt s=true)(he:(fnd s B).ended=false):mrk s (fnd s B).cost (fnd s B).marks=true:=by
 unfold mrk;have:=(fnd_mrk hr he).2 [];rw[List.append_nil]at this;rw[this]
 rfl
end
end
end Go.Proofs.YtnkelgdnglaafaaGreat
