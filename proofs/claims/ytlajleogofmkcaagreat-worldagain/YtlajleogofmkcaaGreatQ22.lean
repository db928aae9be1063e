import Derived.Test.YtlajleogofmkcaaGreatQ21
import Derived.Deep.MidRow
import Derived.OrdersHeld
set_option maxHeartbeats 8000000
set_option maxRecDepth 100000
namespace Go.Proofs.YtlajleogofmkcaaGreat
open Go.RowKit
def CmB(W:World)(b:Nat)(o:Bool)(g:Int):Prop:=W.heap[b]?=some (.cells [Value.bool o,.int .i64 g].toArray 103 (0,0))
theorem infoCm:(Tryz.prog.info? 103).map (·.size)=some 2:=by kernel_rfl
theorem infoSd:(Tryz.prog.info? 89).map (·.size)=some 2:=by kernel_rfl
theorem built_cm(n:Int):Tryz.prog.built 103 [(1,.int .i64 n)]=some #[.bool false,.int .i64 n]:=by kernel_rfl
theorem built_s2(u d:Bool):Tryz.prog.built 89 [(0,.bool u),(1,.bool d)]=some #[.bool u,.bool d]:=by kernel_rfl
section
variable {W W' W2:World} {ow ow':Nat→Nat} {B:Nat} {C:Gc} {V V':Gv} {G G' G2:Gs} {m m':Mb} {i b:Nat} {n g:Int} {o:Bool}
theorem CmB.lt(h:CmB W b o g):b<W.heap.size:=(Array.getElem?_eq_some_iff.1 h).1
theorem CmB.below'(h:CmB W b o g)(hb:Below W.heap.size W W'):CmB W' b o g:=(hb.block b h.lt).trans h
theorem CmB.rng(h:CmB W b o g):W.rangeAt b 0 [.bool o,.int .i64 g]:=fun j u hu=>by rw[Nat.zero_add,blk_cell h];exact hu
theorem retCm{fn:Func}{t:Tmp}(hf:fn.results= #[.cell t 103]){tmps:Array Value}{w:World}(hp:tmps.getD t undef=.pointer (some ⟨b,0,none⟩))(hD:CmB w b o g):
  (results fn tmps).run Tryz.prog w=.ok (.agg #[.bool o,.int .i64 g]) w:=
 results_cell_row hf tmps w b _ _ _ _ hp hD Tryz.underlying103 rfl infoCm
theorem wpList_storeCm{ops:Array Oper}{rest:List Oper}{op:Oper}{a:Act}{w:World}{Q:Exit→Act→World→Prop}(hgd:op.guard=none)(x y:Operand)(ho:op.op=.store 103 x y)
  (b:Nat) {o o':Bool} {g g':Int} (hx:a.eval x=.pointer (some ⟨b,0,none⟩)) (hy:a.eval y=.agg #[.bool o',.int .i64 g']) (hL:CmB w b o g)
  (hn:∀W',Kp (fun k=>k=b) w W'→CmB W' b o' g'→wpList Tryz.prog ops Q rest (a.put op.dst undef) W'):wpList Tryz.prog ops Q (op::rest) a w:=
 wpList_store_row hgd 103 x y ho b _ hx hy _ _ hL infoCm rfl (by simp[Value.oneCell']) (hn _ (kp_row b w _) (setRow_heap w b _ _ _ _ hL))
theorem nothing_any(W:World):Calls Tryz.prog 115 #[] W fun e w'=>e=.returned (.agg #[.bool false,.int .i64 (-1)])∧Below W.heap.size W w':=by
 have HB:=Hd ((Below.refl W.heap.size W).alloc (Nat.le_refl _) (.cells #[.bool false,.int .i64 0] 103));have HR:Hid (CmB (W.alloc (.cells #[.bool false,.int .i64 0] 103)) W.heap.size false 0):=World.alloc_heap_new W _
 go_enter Tryz.func115,Tryz.ntmps115
 go_wp2_with (first|(refine wpList_buildS rfl _ _ rfl [(1,.int .i64 (-1))] (by simp[Act.eval]) _ (built_cm _) ?_)|(refine wpList_storeCm rfl _ _ rfl W.heap.size rfl rfl HR.out ?_))
 intro W2 hk hc;have HC:=Hd hc;have HB2:=Hd (hk.below HB.out HB.out.size fun i hi e=>by omega);clear hk hc HB HR;go_wp2;exact bodyPost_ret (retCm Tryz.results115 rfl HC.out) rfl ⟨rfl,HB2.out⟩
theorem sideOf_any(c:CC.Cl)(W:World):Calls Tryz.prog 118 #[.agg #[.int .i64 c.fl,.int .i64 c.ca,.int .i64 c.ag,.bool c.up]] W fun e w'=>e=.returned (.agg #[.bool (decide (c.ca= -1)&&c.up),.bool (decide (c.ca= -1)&& !c.up)])∧Below W.heap.size W w':=by
 have hb:=(Below.refl W.heap.size W).alloc (Nat.le_refl _) (.cells #[.int .i64 c.fl,.int .i64 c.ca,.int .i64 c.ag,.bool c.up] 33);have HB:=Hd (hb.alloc (by simp) (.cells #[.bool false,.bool false] 89));have hr:=World.alloc_heap_new (W.alloc (.cells #[.int .i64 c.fl,.int .i64 c.ca,.int .i64 c.ag,.bool c.up] 33)) (.cells #[.bool false,.bool false] 89);rw[World.size_alloc]at hr;have HR:=Hd hr;clear hb hr
 go_enter Tryz.func118,Tryz.ntmps118
 by_cases q:c.ca= -1
 ·have d:(c.ca != -1)=false:=by simpa using q
  have HE:=Hd (decide_eq_true q);clear q
  go_wp2_with (first|(refine wpList_buildS rfl _ _ rfl [(0,.bool c.up),(1,.bool !c.up)] (by simp[Act.eval]) _ (built_s2 _ _) ?_)|(refine wpList_store_row rfl _ _ _ rfl (W.heap.size+1) #[.bool c.up,.bool !c.up] rfl rfl _ _ HR.out infoSd rfl (by simp[Value.oneCell']) ?_))
  refine bodyPost_ret (results_cell_row Tryz.results118 _ _ (W.heap.size+1) _ _ _ _ rfl (setRow_heap _ _ _ _ _ _ HR.out) Tryz.underlying89 rfl infoSd) rfl ?_;rw[HE.out];exact⟨by simp,below_setRow HB.out (by omega) _⟩
 ·have d:(c.ca != -1)=true:=by simpa using q
  have HE:=Hd (decide_eq_false q);clear q
  go_wp2_with (refine wpList_store_row rfl _ _ _ rfl (W.heap.size+1) #[.bool false,.bool false] rfl rfl _ _ HR.out infoSd rfl (by simp[Value.oneCell']) ?_)
  refine bodyPost_ret (results_cell_row Tryz.results118 _ _ (W.heap.size+1) _ _ _ _ rfl (setRow_heap _ _ _ _ _ _ HR.out) Tryz.underlying89 rfl infoSd) rfl ?_;rw[HE.out];exact⟨by simp,below_setRow HB.out (by omega) _⟩
theorem sendTo_any(h:GX al W ow B C V G)(hm:G.M[i]?=some m)(f:Int)(u d:Bool):
  Calls Tryz.prog 116 #[.pointer (some ⟨C.cb,i*12,none⟩),.int .i64 f,.agg #[.bool u,.bool d]] W fun e w'=>e=.returned (.agg #[.bool (GM.snd m f u d).1.1,.int .i64 (GM.snd m f u d).1.2])∧Ga W ow B C {G with M:=G.M.set i (GM.snd m f u d).2} w':=by
 have hb0:=(Below.refl W.heap.size W).alloc (Nat.le_refl _) (.cells #[.bool u,.bool d] 89);have hs0:=World.alloc_heap_new W (.cells #[.bool u,.bool d] 89);have hr0:=World.alloc_heap_new (W.alloc (.cells #[.bool u,.bool d] 89)) (.cells #[.bool false,.int .i64 0] 103);rw[World.size_alloc]at hr0;have HB:=Hd (hb0.alloc (by simp) (.cells #[.bool false,.int .i64 0] 103));have HS:Hid (((W.alloc (.cells #[.bool u,.bool d] 89)).alloc (.cells #[.bool false,.int .i64 0] 103)).heap[W.heap.size]?=some (.cells [Value.bool u,.bool d].toArray 89 (0,0))):=(((Below.refl _ _).alloc (Nat.le_refl _) _).block _ (by simp)).trans hs0;have HR:Hid (CmB ((W.alloc (.cells #[.bool u,.bool d] 89)).alloc (.cells #[.bool false,.int .i64 0] 103)) (W.heap.size+1) false 0):=hr0;have HN:=Hd (nothing_any ((W.alloc (.cells #[.bool u,.bool d] 89)).alloc (.cells #[.bool false,.int .i64 0] 103)));have HH:=Hd h;have HM:=Hd hm;have HCB:Hid (ow C.cb=1∧C.cb<W.heap.size):=⟨h.t1,h.sz.2.1⟩;have HZ:Hid (W.heap.size+2≤((W.alloc (.cells #[.bool u,.bool d] 89)).alloc (.cells #[.bool false,.int .i64 0] 103)).heap.size):=by show _≤_;simp
 obtain⟨r,HE⟩:∃r,Hid (GM.snd m f u d=r):=⟨_,Hd rfl⟩;rw[HE.out];clear h hm hb0 hs0 hr0
 go_enter Tryz.func116,Tryz.ntmps116
 go_wp2_with fail
 generalize (W.alloc (.cells #[.bool u,.bool d] 89)).alloc (.cells #[.bool false,.int .i64 0] 103)=W1 at HB HS HR HN HZ⊢;refine HN.out.mono ?_;rintro e W2 ⟨rfl,hb2⟩;have hb3:=hb2.alloc hb2.size (.cells #[.bool false,.int .i64 0] 103);have HR3:=Hd (HR.out.below' hb3);have HS3:=Hd ((hb3.block _ (by have:=HZ.out;omega)).trans HS.out);have HB3:=Hd (below_class HB.out hb3);have HZ3:Hid (W.heap.size+2≤W2.heap.size):=Nat.le_trans HZ.out hb2.size;clear HB HS HR HN HZ hb2 hb3
 go_wp2_with (refine wpList_storeCm rfl _ _ rfl W2.heap.size rfl rfl (World.alloc_heap_new W2 _) ?_)
 intro W3 hk3 hc3;have HB4:=Hd (hk3.below HB3.out HB3.out.size fun j hj e=>by have:=HZ3.out;omega);have HR4:Hid (CmB W3 (W.heap.size+1) false 0):=(hk3.block _ HR3.out.lt (by have:=HZ3.out;omega)).trans HR3.out;have HS4:Hid (W3.heap[W.heap.size]?=some (.cells [Value.bool u,.bool d].toArray 89 (0,0))):=(hk3.block _ (by have:=HZ3.out;simp;omega) (by have:=HZ3.out;omega)).trans HS3.out;have HC4:=Hd hc3;have HX4:=Hd ((HH.out.retag 1000).below' HB4.out);have m5:W3.cell? ⟨C.cb,i*12+5,none⟩=some (.int .i64 m.fl):=HX4.out.mcell HM.out 5 (by decide);clear HB3 HR3 HS3 hk3 hc3;generalize W2.heap.size=cb at*;by_cases q:m.fl=f
 ·have dd:(m.fl !=f)=false:=by simpa using q
  have HX:Hid (r=((true,-1),{m with su:=u,sd:=d})):=by show _=_;rw[←HE.out];unfold GM.snd;rw[if_neg (by simpa using q)]
  have c0:=blk_cell HC4.out 0;have r0:=blk_fr HC4.out 0;have HC5:Hid (CmB (W3.setCell ⟨cb,0,none⟩ (.bool true)) cb true (-1)):=heap_setCell_same W3 cb 0 _ _ _ HC4.out;have HR5:Hid (CmB (W3.setCell ⟨cb,0,none⟩ (.bool true)) (W.heap.size+1) false 0):=(Below.heap_setCell _ _ _ _ fun e=>by have:=HZ3.out;have e:W.heap.size+1=cb:=e;omega).trans HR4.out;have HS5:Hid ((W3.setCell ⟨cb,0,none⟩ (.bool true)).rangeAt W.heap.size 0 [.bool u,.bool d]):=fun j x hx=>by rw[Nat.zero_add,blk_cell ((Below.heap_setCell _ _ _ _ fun e=>by have:=HZ3.out;have e:W.heap.size=cb:=e;omega).trans HS4.out)];exact hx
  have HB5:Hid (Below W.heap.size W (W3.setCell ⟨cb,0,none⟩ (.bool true))):=((Kp.refl (fun k=>k=cb) W3).set cb 0 _ fun _=>rfl).below HB4.out HB4.out.size fun j hj e=>by have:=HZ3.out;omega
  have HX5:=Hd ((HH.out.retag 1000).below' HB5.out);have HCL:Hid (cb<(W3.setCell ⟨cb,0,none⟩ (.bool true)).heap.size):=HC5.out.lt;clear q HX4 HC4 HR4 HS4
  go_upto_region 6 with (fail)
  clear m5 c0 r0;generalize W3.setCell ⟨cb,0,none⟩ (.bool true)=W4 at HC5 HR5 HS5 HB5 HX5 HCL⊢
  have HT:Hid (W4.there C.cb (i*12+9) 2):=fun j hj=>by
   have:j=0∨j=1:=by omega
   rcases this with rfl|rfl
   ·exact⟨by rw[Nat.add_zero,HX5.out.mcell HM.out 9 (by decide)];rfl,HX5.out.mfr _⟩
   ·exact⟨by rw[Nat.add_assoc,HX5.out.mcell HM.out 10 (by decide)];rfl,HX5.out.mfr _⟩
  have hil:=(List.getElem?_eq_some_iff.1 HM.out).1
  have HX6:Hid (GX al (W4.setCells C.cb (i*12+9) [.bool u,.bool d]) (nw ow W 1000) B C V {G with M:=G.M.set i {m with su:=u,sd:=d}}):=by
   have h1:=HX5.out.setM HM.out 9 (by decide) (.bool u) {m with su:=u} rfl rfl rfl;have h2:=h1.setM (i:=i) (m:={m with su:=u}) (by simp only;rw[List.getElem?_set,if_pos rfl,if_pos hil]) 10 (by decide) (.bool d) {m with su:=u,sd:=d} rfl rfl rfl;simp only[List.set_set]at h2;exact h2
  have HK6:Hid (Kp (fun b=>ow b<1000) W (W4.setCells C.cb (i*12+9) [.bool u,.bool d])):=((Kp.ofBelow _ HB5.out).set C.cb _ _ fun _=>by show ow C.cb<1000;rw[HCB.out.1];omega).set C.cb _ _ fun _=>by show ow C.cb<1000;rw[HCB.out.1];omega
  have HKO:Hid (∀g,W.heap.size≤g→(W4.setCells C.cb (i*12+9) [.bool u,.bool d]).heap[g]?=W4.heap[g]?):=fun g hg=>(Below.heap_setCell _ _ _ _ (by have:=HCB.out.2;show g≠C.cb;omega)).trans (Below.heap_setCell _ _ _ _ (by have:=HCB.out.2;show g≠C.cb;omega));have HC6:Hid (CmB (W4.setCells C.cb (i*12+9) [.bool u,.bool d]) cb true (-1)):=(HKO.out _ (by have:=HZ3.out;omega)).trans HC5.out;have HR6:Hid (CmB (W4.setCells C.cb (i*12+9) [.bool u,.bool d]) (W.heap.size+1) false 0):=(HKO.out _ (by omega)).trans HR5.out;clear hil HKO HX5 HB5 HR5 HC5
  go_wp2_with (first|(refine wpList_load_mid rfl _ _ rfl W.heap.size 0 rfl [.bool u,.bool d] _ HS5.out Tryz.underlying89 rfl infoSd ?_)|(refine wpList_store_mid rfl _ _ _ rfl C.cb (i*12+9) #[.bool u,.bool d] rfl rfl HT.out infoSd (by simp[Value.oneCell']) ?_)|(refine wpList_load_mid rfl _ _ rfl cb 0 rfl [.bool true,.int .i64 (-1)] _ HC6.out.rng Tryz.underlying103 rfl infoCm ?_)|(refine wpList_storeCm rfl _ _ rfl (W.heap.size+1) rfl rfl HR6.out ?_))
  intro W6 hk6 hc6;have HC7:=Hd hc6
  have HX7:Hid (GX al W6 (nw ow W 1000) B C V {G with M:=G.M.set i {m with su:=u,sd:=d}}):=(HX6.out.kp (i:=1000) hk6 fun b _ e=>by rw[e];exact nw_new (by omega)).fills fun k x hx=>by
   have h1:=(List.getElem?_eq_some_iff.1 hx).1;simp only[List.length_set]at h1;have h2:=HH.out.ml;exact⟨fun e=>by have e:994=4+2*k:=e;omega,fun e=>by have e:994=5+2*k:=e;omega⟩
  have HK7:Hid (Kp (fun b=>ow b<1000) W W6):=HK6.out.trans hk6 fun b hb e=>by omega
  clear hk6 hc6 HX6 HK6 HC6 HR6;go_wp2;refine bodyPost_ret (retCm Tryz.results116 rfl HC7.out) rfl ?_;rw[HX.out];exact⟨rfl,nw ow W 1000,V,HX7.out,fun b hb=>nw_old hb,HK7.out⟩
 ·have dd:(m.fl !=f)=true:=by simpa using q
  have HX:Hid (r=((false,f),m)):=by show _=_;rw[←HE.out];unfold GM.snd;rw[if_pos q]
  have c1:=blk_cell HC4.out 1;have r1:=blk_fr HC4.out 1;have HC5:Hid (CmB (W3.setCell ⟨cb,1,none⟩ (.int .i64 f)) cb false f):=heap_setCell_same W3 cb 1 _ _ _ HC4.out;have HR5:Hid (CmB (W3.setCell ⟨cb,1,none⟩ (.int .i64 f)) (W.heap.size+1) false 0):=(Below.heap_setCell _ _ _ _ fun e=>by have:=HZ3.out;have e:W.heap.size+1=cb:=e;omega).trans HR4.out;have HB5:Hid (Below W.heap.size W (W3.setCell ⟨cb,1,none⟩ (.int .i64 f))):=((Kp.refl (fun k=>k=cb) W3).set cb 1 _ fun _=>rfl).below HB4.out HB4.out.size fun j hj e=>by have:=HZ3.out;omega
  clear q
  go_wp2_with (first|(refine wpList_load_mid rfl _ _ rfl cb 0 rfl [.bool false,.int .i64 f] _ HC5.out.rng Tryz.underlying103 rfl infoCm ?_)|(refine wpList_storeCm rfl _ _ rfl (W.heap.size+1) rfl rfl HR5.out ?_))
  intro W6 hk6 hc6;have HC6:=Hd hc6;have HX6:=Hd ((HH.out.retag 1000).below' (hk6.below HB5.out HB5.out.size fun j hj e=>by omega));have HK6:=Hd (hk6.below HB5.out HB5.out.size fun j hj e=>by omega);clear hk6 hc6 c1 r1 m5 HB5 HR5 HC5;go_wp2;refine bodyPost_ret (retCm Tryz.results116 rfl HC6.out) rfl ?_;rw[HX.out];refine⟨rfl,nw ow W 1000,V,?_,fun b hb=>nw_old hb,Kp.ofBelow _ HK6.out⟩
  have e:G.M.set i m=G.M:=by
   obtain⟨hl,he⟩:=List.getElem?_eq_some_iff.1 HM.out;rw[←he];exact List.set_getElem_self hl
  show GX al _ _ B C V {G with M:=G.M.set i m};rw[e];exact HX6.out
end
def sev(m:Mb):List Value:=[.bool m.lv,.bool m.ou,.bool m.mo,.bool m.fa,.bool m.ov,.int .i64 m.fl,.int .i64 m.tg,.int .i64 m.ph]
def GM.see(M:List Mb)(c:Int):Mb:=if 0≤c∧c<M.length then(M[c.toNat]?).getD z else z
theorem infoSe:(Tryz.prog.info? 50).map (·.size)=some 8:=by kernel_rfl
theorem built_se:Tryz.prog.built 50 []=some (sev GM.z).toArray:=by kernel_rfl
section
variable {W W' W2:World} {ow:Nat→Nat} {B:Nat} {C:Gc} {V:Gv} {G:Gs} {m:Mb} {i:Nat} {N:List (Int×Int)} {v:Value}
theorem wpList_loadSe{ops:Array Oper}{rest:List Oper}{op:Oper}{a:Act}{w:World}{Q:Exit→Act→World→Prop}(hgd:op.guard=none)(x:Operand)(ho:op.op=.load 50 x)
  (b o:Nat) (hx:a.eval x=.pointer (some ⟨b,o,none⟩)) (H:w.rangeAt b o (sev m))
  (h:wpList Tryz.prog ops Q rest (a.put op.dst (.agg (sev m).toArray)) w):wpList Tryz.prog ops Q (op::rest) a w:=
 wpList_plain hgd fun _ hK=>by
  unfold Oper.wp execOp;simp only[ho,Sem.run_bind,Sem.run_pure,Result.andThen_ok,hx,run_loadAt_mid (P:=Tryz.prog) w b o 50 (sev m) _ H Tryz.underlying50 rfl infoSe];exact hK _ _ h
theorem retSe{fn:Func}{t:Tmp}{b:Nat}(hf:fn.results= #[.cell t 50]){tmps:Array Value}{w:World}(hp:tmps.getD t undef=.pointer (some ⟨b,0,none⟩))(hD:w.heap[b]?=some (.cells (sev m).toArray 50 (0,0))):
  (results fn tmps).run Tryz.prog w=.ok (.agg (sev m).toArray) w:=
 results_cell_row hf tmps w b _ _ _ _ hp hD Tryz.underlying50 rfl infoSe
theorem gseen_any(h:GX al W ow B C V G)(c:Int):
  Calls Tryz.prog 15 #[.pointer (some ⟨C.gb,0,none⟩),.int .i64 c] W fun e w'=>e=.returned (.agg (sev (GM.see G.M c)).toArray)∧Below W.heap.size W w':=by
 have hb:=(Below.refl W.heap.size W).alloc (Nat.le_refl _) (.cells (sev GM.z).toArray 50);have HR:Hid ((W.alloc (.cells (sev GM.z).toArray 50)).heap[W.heap.size]?=some (.cells (sev GM.z).toArray 50 (0,0))):=World.alloc_heap_new W _;have HB:=Hd hb;have h1:=h.below' hb;have HC:=Hd (hasCar_any h1 c);have c15:=h1.c15;have hml:=h.ml;clear hb;by_cases q:0≤c∧c<G.M.length
 ·obtain⟨i,rfl⟩:∃n:Nat,c=n:=⟨c.toNat,by omega⟩;have hi:i<G.M.length:=by omega
  obtain⟨m,hm⟩:∃m,G.M[i]?=some m:=⟨_,List.getElem?_eq_getElem hi⟩;have HS:Hid (GM.see G.M (i:Int)=m):=by show _=_;unfold GM.see;rw[if_pos q,Int.toNat_natCast,hm];rfl
  have HG:Hid ((W.alloc (.cells (sev GM.z).toArray 50)).rangeAt C.cb (i*12) (sev m)):=fun j u hu=>by
   have hj:j<8:=(List.getElem?_eq_some_iff.1 hu).1;rw[h1.mcell hm j (by omega),show mc (C.lb i) (V.vl i) m=sev m++[.pointer (some ⟨C.lb i,0,none⟩),.bool m.su,.bool m.sd,V.vl i]from rfl,List.getElem?_append_left hj,hu]
  have hix:∀W:World,_:=fun W=>ixM (ab:=C.cb) W hi;rw[show(decide (0≤(i:Int))&&decide ((i:Int)<(G.M.length:Int)))=true by simp;omega]at HC;rw[HS.out];clear h h1 hm q hi HS;have e0:(sev GM.z).toArray= #[.bool false,.bool false,.bool false,.bool false,.bool false,.int .i64 0,.int .i64 0,.int .i64 0]:=rfl;rw[e0]at HC c15 HG HR HB;clear e0
  go_enter Tryz.func15,Tryz.ntmps15
  go_wp2_with fail
  refine HC.out.mono ?_;rintro e w' ⟨rfl,rfl⟩;clear HC
  go_wp2_with (first|(refine wpList_loadSe rfl _ rfl C.cb (i*12) rfl HG.out ?_)|(refine wpList_store_row rfl _ _ _ rfl W.heap.size (sev m).toArray rfl rfl _ _ HR.out infoSe rfl (by simp[Value.oneCell',sev]) ?_))
  exact bodyPost_ret (retSe Tryz.results15 rfl (setRow_heap _ _ _ _ _ _ HR.out)) rfl ⟨rfl,below_setRow HB.out (Nat.le_refl _) _⟩
 ·have HS:Hid (GM.see G.M c=GM.z):=by show _=_;unfold GM.see;rw[if_neg q]
  rw[show(decide (0≤c)&&decide (c<(G.M.length:Int)))=false by simp;omega]at HC;rw[HS.out];clear h h1 q HS;have e0:(sev GM.z).toArray= #[.bool false,.bool false,.bool false,.bool false,.bool false,.int .i64 0,.int .i64 0,.int .i64 0]:=rfl;rw[e0]at HC c15 HR HB;clear e0
  go_enter Tryz.func15,Tryz.ntmps15
  go_wp2_with fail
  refine HC.out.mono ?_;rintro e w' ⟨rfl,rfl⟩;clear HC
  go_wp2_with (first|(refine wpList_buildS rfl _ _ rfl [] (by simp[Act.eval]) _ built_se ?_)|(refine wpList_store_row rfl _ _ _ rfl W.heap.size (sev GM.z).toArray rfl rfl _ _ HR.out infoSe rfl (by simp[Value.oneCell',sev]) ?_))
  exact bodyPost_ret (retSe Tryz.results15 rfl (setRow_heap _ _ _ _ _ _ HR.out)) rfl ⟨rfl,below_setRow HB.out (Nat.le_refl _) _⟩
theorem nclone_any(h:O2 56 W B v N)(hl:N.length≤10000):
  Calls Tryz.prog 33 #[v] W fun e w'=>∃v',e=.returned v'∧O2 56 w' W.heap.size v' N∧Below W.heap.size W w':=by
 obtain⟨i0,hi,hz0,hz1,hz2⟩:=info_parts infoNote;have q30:∀(w:World) (a:Option Addr) (n c n' c':Nat),(binOp .eql 53 (.slice a n c) (.slice none n' c')).run Tryz.prog w=.ok (.bool a.isNone) w:=fun w a n c n' c'=>Lib.run_eql_slice_nil w _ _ a n c n' c' Tryz.underlying53;rcases h.form with⟨rfl,rfl⟩|⟨b,cap,rfl,hB,hlt,hcap⟩
 ·go_enter Tryz.func33,Tryz.ntmps33
  go_wp2;go_ret;exact⟨_,rfl,⟨rfl,.inl ⟨rfl,rfl⟩⟩,Below.refl _ _⟩
 ·have HR:=Hd h;generalize hn:N.length=n at hcap hl;have HN:=Hd hn;clear h hn
  go_enter Tryz.func33,Tryz.ntmps33
  go_wp2_with (at_builtin;refine wpList_append_own _ rfl _ _ 53 rfl W.heap.size 56 i0 _ 2 16 Tryz.underlying53 hi hz0 hz1 hz2 rfl (by decide) _ _ _ rfl (World.ownsRow_made W #[] 0 (Nat.le_refl _) (Nat.zero_le _) (by simp)) ⟨b,0,none⟩ n cap (pc N) rfl ?qc1 ?qc2 ?qc3 ?qc4 ?qc5 ?qc6 ?_)
  case qc1=>rw[pc_length,HN.out]
  case qc2=>exact World.ownsRow.cells (HR.out.below' ((Below.refl _ _).alloc (Nat.le_refl _) _)) rfl
  case qc3=>exact pc_one N
  case qc4=>unfold maxLen;omega
  case qc5=>omega
  case qc6=>simp
  intro v' w1 hown hgrow hnil;have HO:=Hd hown;clear hown hnil;go_wp2;go_ret;refine⟨v',rfl,?_,?_⟩
  ·have:=HO.out;unfold O2;rw[HN.out];simpa using this
  ·exact((Below.refl _ W).alloc (Nat.le_refl _) _).grown hgrow (by simp) (by intro k hk;simp[Value.ownBlock]at hk;omega)
theorem gnotes_any(h:GX al W ow B C V G)(hl:G.N.length≤10000):
  Calls Tryz.prog 17 #[.pointer (some ⟨C.gb,0,none⟩)] W fun e w'=>∃v',e=.returned v'∧O2 56 w' W.heap.size v' G.N∧Below W.heap.size W w':=by
 have c:W.cell? ⟨C.gb,18,none⟩=some V.vn:=h.cell 18;have HC:=Hd (nclone_any (h.pt 5 trivial).1 hl)
 go_enter Tryz.func17,Tryz.ntmps17
 go_wp2_with fail
 refine HC.out.mono ?_;rintro e w' ⟨v',rfl,h1,h2⟩;have HN:=Hd h1;clear h1 c;go_wp2;go_ret;exact⟨v',rfl,HN.out,h2⟩
end
section
variable {W W' W2:World} {ow ow':Nat→Nat} {B:Nat} {C:Gc} {V V':Gv} {G G' G2:Gs} {m m':Mb} {i b:Nat} {n g:Int} {o:Bool}
def BX(W:World)(p:Nat)(v:Value):Prop:=∃t,W.heap[p]?=some (.cells #[v] t (0,0))
theorem BX.below'{p:Nat}{v:Value}(h:BX W p v)(hb:Below W.heap.size W W'):BX W' p v:=let⟨t,h⟩:=h;⟨t,(hb.block p (Array.getElem?_eq_some_iff.1 h).1).trans h⟩
theorem BX.c{p:Nat}{v:Value}(h:BX W p v):W.cell? ⟨p,0,none⟩=some v:=by obtain⟨t,h⟩:=h;simp[World.cell?,h]
theorem goal1_any(h:GX al W ow B C V G)(p q:Nat)(c:Int)(hp:BX W p (.pointer (some ⟨C.gb,0,none⟩)))(hq:BX W q (.int .i64 c))(x:CC.Cl):
  Calls Tryz.prog 158 #[.agg #[.int .i64 x.fl,.int .i64 x.ca,.int .i64 x.ag,.bool x.up],.pointer (some ⟨p,0,none⟩),.pointer (some ⟨q,0,none⟩)] W fun e w'=>e=.returned (.bool (GM.may G.M c x))∧Below W.heap.size W w':=by
 have hb:=(Below.refl W.heap.size W).alloc (Nat.le_refl _) (.cells #[.int .i64 x.fl,.int .i64 x.ca,.int .i64 x.ag,.bool x.up] 33);have c1:=(hp.below' hb).c;have c2:=(hq.below' hb).c;have HX:=Hd (CC.CB.new W x).range;have HM:=Hd (gmay_any (h.below' hb) c x);have HB:=Hd hb;clear h hb hp hq
 go_enter Tryz.func158,Tryz.ntmps158
 go_wp2_with (refine wpList_loadKo rfl _ rfl W.heap.size 0 rfl HX.out ?_)
 refine HM.out.mono ?_;rintro e w' ⟨rfl,hb'⟩;have HB2:=Hd (below_class HB.out hb');clear hb' HM HX;go_wp2;go_ret;exact⟨rfl,HB2.out⟩
theorem waits1_any(x y:CC.Cl)(q:Nat)(h:CC.CB W q x):
  Calls Tryz.prog 200 #[.agg #[.int .i64 y.fl,.int .i64 y.ca,.int .i64 y.ag,.bool y.up],.pointer (some ⟨q,0,none⟩)] W fun e w'=>e=.returned (.bool (CC.KM.same (GM.agl y) x))∧Below W.heap.size W w':=by
 have h0:Below W.heap.size W (W.alloc (.cells #[.int .i64 y.fl,.int .i64 y.ca,.int .i64 y.ag,.bool y.up] 33)):=(Below.refl _ W).alloc (Nat.le_refl _) _;have HB0:=Hd h0;have HX:Hid (∀w',Below (W.alloc (.cells #[.int .i64 y.fl,.int .i64 y.ca,.int .i64 y.ag,.bool y.up] 33)).heap.size (W.alloc (.cells #[.int .i64 y.fl,.int .i64 y.ca,.int .i64 y.ag,.bool y.up] 33)) w'→w'.rangeAt W.heap.size 0 (CC.cv y)):=fun w' hw=>((CC.CB.new W y).below' hw).range;have HK:Hid (∀w',Below (W.alloc (.cells #[.int .i64 y.fl,.int .i64 y.ca,.int .i64 y.ag,.bool y.up] 33)).heap.size (W.alloc (.cells #[.int .i64 y.fl,.int .i64 y.ca,.int .i64 y.ag,.bool y.up] 33)) w'→w'.rangeAt q 0 (CC.cv x)):=fun w' hw=>((h.below' h0).below' hw).range;have HAG:=Hd (ageless_any y);generalize GM.agl y=z at HAG⊢;have hq:∀w,(Op.equalIn 10000 33 (.agg #[.int .i64 z.fl,.int .i64 z.ca,.int .i64 z.ag,.bool z.up]) (.agg #[.int .i64 x.fl,.int .i64 x.ca,.int .i64 x.ag,.bool x.up])).run Tryz.prog w=.ok (CC.KM.same z x) w:=fun w=>CC.eqCall w z x;generalize CC.KM.same z x=r at hq⊢;clear h h0
 go_enter Tryz.func200,Tryz.ntmps200
 go_wp2_with fail
 generalize W.alloc (.cells #[.int .i64 y.fl,.int .i64 y.ca,.int .i64 y.ag,.bool y.up] 33)=W1 at HB0 HX HK⊢;refine wp_region_quiet (C:=fun w'=>Below W1.heap.size W1 w') (by kernel_rfl) (by kernel_rfl) ((Below.refl _ _).drew) ?_;simp only[];unfold wpQuiet;generalize hK:wpQuiet _ _ _ _ _=K;rw[if_pos (by go_simp)];refine CC.quiet_loadK _ W.heap.size 0 rfl rfl HX.out ?_;go_simp;subst hK;unfold wpQuiet;generalize hK:wpQuiet _ _ _ _ _=K;go_simp;refine⟨_,fun w' hw=>(HAG.out _).mono fun e w'' hh=>⟨hh.1,below_class hw hh.2⟩,?_⟩;subst hK;unfold wpQuiet;generalize hK:wpQuiet _ _ _ _ _=K;rw[if_pos (by go_simp)];refine CC.quiet_loadK _ q 0 rfl rfl HK.out ?_;go_simp;subst hK
 iterate 2 (unfold wpQuiet;generalize hK:wpQuiet _ _ _ _ _=K;go_simp;refine⟨_,fun _ _=>rfl,?_⟩;subst hK)
 refine wpQuiet_nil ?_;intro w' hw;go_wp2;go_ret;exact⟨rfl,HB0.out.trans (hw.mono HB0.out.size)⟩
theorem waits_any(x:CC.Cl)(v:Value)(L:List CC.Cl)(hR:CC.RW W B v L)(hL:L.length≤128):
  Calls Tryz.prog 161 #[.agg #[.int .i64 x.fl,.int .i64 x.ca,.int .i64 x.ag,.bool x.up],v] W fun e w'=>e=.returned (.bool (GM.wts L x))∧Below W.heap.size W w':=by
 have h0:Below W.heap.size W (W.alloc (.cells #[.int .i64 x.fl,.int .i64 x.ca,.int .i64 x.ag,.bool x.up] 33)):=(Below.refl _ W).alloc (Nat.le_refl _) _;have HB0:=Hd h0;have hp:CC.Pr 200 #[] #[.pointer (some ⟨W.heap.size,0,none⟩)] (fun y=>CC.KM.same (GM.agl y) x) (W.alloc (.cells #[.int .i64 x.fl,.int .i64 x.ca,.int .i64 x.ag,.bool x.up] 33)):=fun W' y hW=>waits1_any x y W.heap.size ((CC.CB.new W x).below' hW);have HC:=Hd (CC.containsFunc_any 200 #[] _ _ (fun _ _=>rfl) B v L _ (hR.below' h0) hL hp);clear hR hL hp h0
 go_enter Tryz.func161,Tryz.ntmps161
 go_wp2_with fail
 refine HC.out.mono ?_;rintro e w' ⟨rfl,hb'⟩;have HB2:=Hd (below_class HB0.out hb');clear hb' HC;go_wp2;go_ret;exact⟨rfl,HB2.out⟩
theorem goal2_any(h:GX al W ow B C V G)(p q r s:Nat)(c:Int)(hp:BX W p (.pointer (some ⟨C.gb,0,none⟩)))(hq:BX W q (.int .i64 c))(hr:BX W r (.func (.func 158) #[] #[.pointer (some ⟨p,0,none⟩),.pointer (some ⟨q,0,none⟩)]))(v:Value)(L:List CC.Cl)(hs:BX W s v)(hR:CC.RW W B v L)(hL:L.length≤128)(x:CC.Cl):
  Calls Tryz.prog 160 #[.agg #[.int .i64 x.fl,.int .i64 x.ca,.int .i64 x.ag,.bool x.up],.pointer (some ⟨r,0,none⟩),.pointer (some ⟨s,0,none⟩)] W fun e w'=>e=.returned (.bool (GM.may G.M c x&&GM.wts L x))∧Below W.heap.size W w':=by
 obtain⟨a,k,l,rfl⟩:=hR.slice;have hb:=(Below.refl W.heap.size W).alloc (Nat.le_refl _) (.cells #[.int .i64 x.fl,.int .i64 x.ca,.int .i64 x.ag,.bool x.up] 33);have c1:=(hr.below' hb).c;have HX:=Hd (CC.CB.new W x).range;have HM:=Hd (goal1_any (h.below' hb) p q c (hp.below' hb) (hq.below' hb) x);have HB:=Hd hb;have HS:=Hd (hs.below' hb);have HR:=Hd (hR.below' hb);have HKB:=Hd (CC.CB.new W x);obtain⟨rs,hrs⟩:∃z,GM.wts L x=z:=⟨_,rfl⟩;have HRS:=Hd hrs;rw[hrs];clear h hb hp hq hr hs hR hrs;generalize GM.may G.M c x=z at HM⊢;generalize hW1:W.alloc (.cells #[.int .i64 x.fl,.int .i64 x.ca,.int .i64 x.ag,.bool x.up] 33)=W1 at*
 go_enter Tryz.func160,Tryz.ntmps160
 go_upto_region 1 with (fail)
 clear hW1;cases z
 ·go_wp2_with (refine wpList_loadKo rfl _ rfl W.heap.size 0 rfl HX.out ?_)
  refine HM.out.mono ?_;rintro e w' ⟨rfl,hb'⟩;have HB2:=Hd (below_class HB.out hb');clear hb' HX HM;go_wp2;go_ret;exact⟨rfl,HB2.out⟩
 ·have HW:Hid (∀w',Below W1.heap.size W1 w'→w'.rangeAt W.heap.size 0 (CC.cv x)∧w'.cell? ⟨s,0,none⟩=some (.slice a k l)∧Calls Tryz.prog 161 #[.agg #[.int .i64 x.fl,.int .i64 x.ca,.int .i64 x.ag,.bool x.up],.slice a k l] w' fun e w''=>e=.returned (.bool rs)∧Below w'.heap.size w' w''):=fun w' hw=>⟨(HKB.out.below' hw).range,(HS.out.below' hw).c,by rw[←HRS.out];exact waits_any x _ L (HR.out.below' hw) hL⟩
  go_wp2_with (refine wpList_loadKo rfl _ rfl W.heap.size 0 rfl HX.out ?_)
  refine HM.out.mono ?_;rintro e w' ⟨rfl,hb'⟩;obtain⟨hx,c3,hw⟩:=HW.out w' hb';have HX2:=Hd hx;have HW2:=Hd hw;have HB2:=Hd (below_class HB.out hb');clear hb' hx hw HW HX HM c1;have e0:w'.cell? ⟨W.heap.size,0,none⟩=some (.int .i64 x.fl):=HX2.out 0 _ rfl;have e1:w'.cell? ⟨W.heap.size,1,none⟩=some (.int .i64 x.ca):=HX2.out 1 _ rfl;have e2:w'.cell? ⟨W.heap.size,2,none⟩=some (.int .i64 x.ag):=HX2.out 2 _ rfl;have e3:w'.cell? ⟨W.heap.size,3,none⟩=some (.bool x.up):=HX2.out 3 _ rfl
  go_wp2_with fail
  refine HW2.out.mono ?_;rintro e w2 ⟨rfl,hb2⟩;have HB3:=Hd (below_class HB2.out hb2);clear hb2 HX2 HW2;go_wp2;go_ret;exact⟨by simp,HB3.out⟩
end
section
variable {W W' W2 X:World} {ow ow':Nat→Nat} {B:Nat} {C:Gc} {V V':Gv} {G G' G2:Gs} {m m':Mb} {i b:Nat} {n g:Int} {o:Bool}
def cl0:CC.Cl:=⟨0,0,0,false⟩
structure Gzl(W X:World)(gb i:Nat)(v:Value):Prop where
 bel:Below W.heap.size W X
 p:BX X W.heap.size (.pointer (some ⟨gb,0,none⟩))
 q:BX X (W.heap.size+1) (.int .i64 (i:Int))
 s:BX X (W.heap.size+2) v
 f:BX X (W.heap.size+4) (.func (.func 158) #[] #[.pointer (some ⟨W.heap.size,0,none⟩),.pointer (some ⟨W.heap.size+1,0,none⟩)])
 z:CC.CB X (W.heap.size+3) cl0
theorem Gzl.next{gb:Nat}{v:Value}(h:Gzl W X gb i v)(hb:Below X.heap.size X W'):Gzl W W' gb i v:=⟨below_class h.bel hb,h.p.below' hb,h.q.below' hb,h.s.below' hb,h.f.below' hb,h.z.below' hb⟩
theorem Gzl.kp{gb b:Nat}{v:Value}(h:Gzl W X gb i v)(k:Kp (fun k=>k=b) X W')(hb:W.heap.size+5≤b):Gzl W W' gb i v:=by
 have q:∀{p:Nat} {v:Value},p<b→BX X p v→BX W' p v:=fun hp ⟨t,h⟩=>⟨t,(k.block _ (Array.getElem?_eq_some_iff.1 h).1 (by omega)).trans h⟩;exact⟨k.below h.bel h.bel.size fun j hj e=>by omega,q (by omega) h.p,q (by omega) h.q,q (by omega) h.s,q (by omega) h.f,(k.block _ h.z.lt (by omega)).trans h.z⟩
theorem bx_new(W:World)(v:Value)(t:TypeId){k:Nat}(hk:W.heap.size=k):BX (W.alloc (.cells #[v] t)) k v:=⟨t,hk▸World.alloc_heap_new W _⟩
theorem al_bel(W:World)(o:Obj):Below W.heap.size W (W.alloc o):=(Below.refl _ _).alloc (Nat.le_refl _) o
theorem Gzl.new(W:World)(gb i:Nat)(v:Value)(t1 t2 t3 t5:TypeId):Gzl W (((((W.alloc (.cells #[.pointer (some ⟨gb,0,none⟩)] t1)).alloc (.cells #[.int .i64 (i:Int)] t2)).alloc (.cells #[v] t3)).alloc (.cells #[.int .i64 cl0.fl,.int .i64 cl0.ca,.int .i64 cl0.ag,.bool cl0.up] 33)).alloc (.cells #[.func (.func 158) #[] #[.pointer (some ⟨W.heap.size,0,none⟩),.pointer (some ⟨W.heap.size+1,0,none⟩)]] t5)) gb i v:=by
 have z:∀(W:World) (k:Nat),W.heap.size=k→CC.CB (W.alloc (.cells #[.int .i64 cl0.fl,.int .i64 cl0.ca,.int .i64 cl0.ag,.bool cl0.up] 33)) k cl0:=fun W k e=>e▸CC.CB.new W cl0
 exact⟨((((al_bel W _).alloc (by simp) _).alloc (by simp;omega) _).alloc (by simp;omega) _).alloc (by simp;omega) _,
  ((((bx_new W _ t1 rfl).below' (al_bel _ _)).below' (al_bel _ _)).below' (al_bel _ _)).below' (al_bel _ _),
  (((bx_new _ _ t2 (by simp)).below' (al_bel _ _)).below' (al_bel _ _)).below' (al_bel _ _),
  ((bx_new _ _ t3 (by simp)).below' (al_bel _ _)).below' (al_bel _ _),
  bx_new _ _ t5 (by simp),
  (z _ _ (by simp)).below' (al_bel _ _)⟩
theorem rc_of{v:Value}{L:List CC.Cl}(h:CC.RW W B v L):RC (fun _=>True) W v (L.map GM.ka):=by
 rcases h.form with⟨rfl,rfl⟩|⟨g,cap,rfl,_,hlt,hcap⟩
 ·exact⟨none,0,rfl,Nat.le_refl _,.inl rfl⟩
 ·refine⟨_,cap,by rw[List.length_map],by rw[List.length_map];exact hcap,.inr ⟨g,0,rfl,trivial,hlt,fun i y hy=> ?_⟩⟩;rw[List.getElem?_map]at hy;obtain⟨x,hx,rfl⟩:=Option.map_eq_some_iff.1 hy;obtain⟨hk,rfl⟩:=List.getElem?_eq_some_iff.1 hx;rw[Nat.zero_add];exact h.range hk
def oldg(G:Gs)(i:Nat):Option (Nat×Ca):=oldk (fun y=>decide (G.st.age≤y.ag)&&GM.may G.M i (GM.kc y)) (G.L.map GM.ka) (G.L.map GM.ka).length
theorem gol_eq:GM.gol G i m=match oldg G i with
  |some x=>some (GM.kc x.2)
  |none=>m.ls.find? fun x=>GM.may G.M i x&&GM.wts G.L x:=by
 unfold GM.gol oldg;rw[List.length_map]
 rfl
theorem find_at{p:CC.Cl→Bool}{L:List CC.Cl}{k:Nat}{x:CC.Cl}(hk:L[k]?=some x)(hp:p x=true)(hf:∀(j:Nat) y,j<k→L[j]?=some y→p y=false):L.find? p=some x:=by
 obtain⟨hl,he⟩:=List.getElem?_eq_some_iff.1 hk;refine List.find?_eq_some_iff_getElem.2 ⟨hp,k,hl,he,fun j hj=> ?_⟩;rw[hf j _ hj (List.getElem?_eq_getElem (Nat.lt_trans hj hl))]
 rfl
theorem find_not{p:CC.Cl→Bool}{L:List CC.Cl}(hf:∀(j:Nat) y,L[j]?=some y→p y=false):L.find? p=none:=by
 refine List.find?_eq_none.2 fun x hx=> ?_;obtain⟨j,hj⟩:=List.getElem?_of_mem hx;rw[hf j x hj];simp
theorem old_any(h:GX al W ow B C V G)(v:Value)(hz:Gzl W' X C.gb i v)(hb:Below W.heap.size W X)(hR:CC.RW W B v G.L)(hL:G.L.length≤128):
  Calls Tryz.prog 159 #[v,.func (.func 158) #[] #[.pointer (some ⟨W'.heap.size,0,none⟩),.pointer (some ⟨W'.heap.size+1,0,none⟩)],.int .i64 G.st.age] X fun e w'=>e=.returned (.tuple #[.agg #[.int .i64 (GM.kc (ocl (oldg G i))).fl,.int .i64 (GM.kc (ocl (oldg G i))).ca,.int .i64 (GM.kc (ocl (oldg G i))).ag,.bool (GM.kc (ocl (oldg G i))).up],.bool (oldg G i).isSome])∧Below X.heap.size X w':=
 oldest_any (fun _=>True) v (G.L.map GM.ka) 158 _ (fun y=>GM.may G.M i (GM.kc y)) G.st.age X (fun _ _=>rfl) (rc_of (hR.below' hb)) (by rw[List.length_map];omega) fun X' y hX=>goal1_any (h.below' (below_class hb hX)) _ _ _ (hz.p.below' hX) (hz.q.below' hX) (GM.kc y)
theorem infoKz':(Tryz.prog.info? 33).map (fun i=>(i.zero,i.size))=some (some (.agg #[.int .i64 0,.int .i64 0,.int .i64 0,.bool false]),4):=by kernel_rfl
theorem run_allocC(w:World):(Instr.alloc 33 true (.tuple #[])).run Tryz.prog w=.ok (.pointer (some ⟨w.heap.size,0,none⟩)) (w.alloc (.cells #[.int .i64 cl0.fl,.int .i64 cl0.ca,.int .i64 cl0.ag,.bool cl0.up] 33)):=by
 obtain⟨i0,hi,hz⟩:=Option.map_eq_some_iff.1 infoKz';simp only[Prod.mk.injEq]at hz;simp[Instr.alloc,zeroValue,typeInfo,hi,hz.1,newVar,newRow,Value.cells,cl0]
theorem wpOp_allocC{ops:Array Oper}{Q:Exit→Act→World→Prop}{i:Nat}{o:Oper}{K:Act→World→Prop}{a:Act}{w:World}(hi:ops[i]?=some o)(hw:Region.wanted o (yielded ops a.tmps)=true)(ho:o.op=.alloc 33)(h:K (a.put o.dst (.pointer (some ⟨w.heap.size,0,none⟩))) (w.alloc (.cells #[.int .i64 cl0.fl,.int .i64 cl0.ca,.int .i64 cl0.ag,.bool cl0.up] 33))):wpOp Tryz.prog ops Q i K a w:=by
 refine wpOp_val hi hw ?_ h;unfold execOp;simp only[ho,Sem.run_bind,Sem.run_pure,Result.andThen_ok,run_allocC]
theorem wpOp_storeC{ops:Array Oper}{Q:Exit→Act→World→Prop}{i:Nat}{o:Oper}{K:Act→World→Prop}{a:Act}{w:World}(hi:ops[i]?=some o)(hw:Region.wanted o (yielded ops a.tmps)=true)(x y:Operand)(ho:o.op=.store 33 x y)(b:Nat){c c':CC.Cl}(hx:a.eval x=.pointer (some ⟨b,0,none⟩))(hy:a.eval y=.agg #[.int .i64 c'.fl,.int .i64 c'.ca,.int .i64 c'.ag,.bool c'.up])(hL:CC.CB w b c)
  (h:∀W',Kp (fun k=>k=b) w W'→CC.CB W' b c'→K (a.put o.dst undef) W'):wpOp Tryz.prog ops Q i K a w:=by
 unfold wpOp;rw[hi];simp only;rw[if_pos hw];refine .inl ?_;unfold Oper.wp execOp;simp only[ho,hx,hy,Instr.storeAt,Instr.sureAddr,Sem.run_bind,Sem.run_pure,Result.andThen_ok,run_storeVar_row (P:=Tryz.prog) w b 33 33 _ #[.int .i64 c'.fl,.int .i64 c'.ca,.int .i64 c'.ag,.bool c'.up] hL CC.infoK rfl (by simp[Value.oneCell'])];exact h _ (kp_rowJ w b _) (setRow_heap w b _ _ _ _ hL)
theorem goal_any(h:GX al W ow B C V G)(hm:G.M[i]?=some m)(v:Value)(hR:CC.RW W B v G.L)(hL:G.L.length≤128)(hl:m.ls.length≤128):
  Calls Tryz.prog 117 #[.pointer (some ⟨C.gb,0,none⟩),.int .i64 (i:Int),v] W fun e w'=>e=.returned (.tuple #[.agg #[.int .i64 ((GM.gol G i m).getD cl0).fl,.int .i64 ((GM.gol G i m).getD cl0).ca,.int .i64 ((GM.gol G i m).getD cl0).ag,.bool ((GM.gol G i m).getD cl0).up],.bool (GM.gol G i m).isSome])∧Below W.heap.size W w':=by
 obtain⟨av,nv',kv,rfl⟩:=hR.slice;have HGZ:=Hd (Gzl.new W C.gb i (.slice av nv' kv) 39 3 38 173);have HH:=Hd h;have HM:=Hd hm;have HR:=Hd hR;obtain⟨r,hr⟩:∃r,oldg G i=r:=⟨_,rfl⟩;have HOA:Hid (∀X,Gzl W X C.gb i (.slice av nv' kv)→Calls Tryz.prog 159 #[.slice av nv' kv,.func (.func 158) #[] #[.pointer (some ⟨W.heap.size,0,none⟩),.pointer (some ⟨W.heap.size+1,0,none⟩)],.int .i64 G.st.age] X fun e w'=>e=.returned (.tuple #[.agg #[.int .i64 (GM.kc (ocl r)).fl,.int .i64 (GM.kc (ocl r)).ca,.int .i64 (GM.kc (ocl r)).ag,.bool (GM.kc (ocl r)).up],.bool r.isSome])∧Below X.heap.size X w'):=fun X hX=>by rw[←hr];exact old_any h _ hX hX.bel hR hL
 have HRR:=Hd hr;obtain⟨co,hco⟩:∃c,GM.kc (ocl r)=c:=⟨_,rfl⟩;rw[hco]at HOA;have HCO:=Hd hco;clear h hm hR hr hco
 go_enter Tryz.func117,Tryz.ntmps117
 go_upto_region 2 with (fail)
 change Hid (Gzl W (((((W.alloc (.cells #[.pointer (some ⟨C.gb,0,none⟩)] 39)).alloc (.cells #[.int .i64 (i:Int)] 3)).alloc (.cells #[.slice av nv' kv] 38)).alloc (.cells #[.int .i64 0,.int .i64 0,.int .i64 0,.bool false] 33)).alloc (.cells #[.func (.func 158) #[] #[.pointer (some ⟨W.heap.size,0,none⟩),.pointer (some ⟨W.heap.size+1,0,none⟩)]] 173)) C.gb i (.slice av nv' kv))at HGZ;generalize ((((W.alloc (.cells #[.pointer (some ⟨C.gb,0,none⟩)] 39)).alloc (.cells #[.int .i64 (i:Int)] 3)).alloc (.cells #[.slice av nv' kv] 38)).alloc (.cells #[.int .i64 0,.int .i64 0,.int .i64 0,.bool false] 33)).alloc (.cells #[.func (.func 158) #[] #[.pointer (some ⟨W.heap.size,0,none⟩),.pointer (some ⟨W.heap.size+1,0,none⟩)]] 173)=W1 at HGZ⊢
 go_cut [9,10] (fun v9 v10 X=>∃b,v9=.pointer (some ⟨b,0,none⟩)∧v10=.bool r.isSome∧Hid (Gzl W X C.gb i (.slice av nv' kv)∧CC.CB X b co))
 case first=>
  rename_i hJ hK;refine wp_nrm ?_;refine wp_region_held (S:=fun w'=>Gzl W w' C.gb i (.slice av nv' kv)) (by kernel_rfl) ?_;change wpAnyH _ _ _ _ _ _ _ _ (World.drew _);have HD:=Hd (HGZ.out.next (Below.refl _ _).drew);generalize W1.drew=X0 at HD⊢;have HAG:Hid (∀w',Gzl W w' C.gb i (.slice av nv' kv)→w'.cell? ⟨C.gb,9,none⟩=some (.int .i64 G.st.age)):=fun w' hw=>(HH.out.below' hw.bel).cell 9;refine wpAnyH_take (i:=0) (v:=.slice av nv' kv) rfl (by kernel_rfl) (by kernel_rfl) (by kernel_rfl) (fun _ _ _ h=>by cases h.1) (.inl ⟨rfl,(fun w hw=>by have hc:=hw.s.c;go_simp)⟩) HD.out ?_;generalize hKK:wpAnyH _ _ _ _ _ _ _=KK;go_simp;subst hKK;refine wpAnyH_take (i:=1) (v:=.func (.func 158) #[] #[.pointer (some ⟨W.heap.size,0,none⟩),.pointer (some ⟨W.heap.size+1,0,none⟩)]) rfl (by kernel_rfl) (by kernel_rfl) (by kernel_rfl) (fun _ _ _ h=>by cases h.1) (.inl ⟨rfl,(fun w hw=>by have hc:=hw.f.c;go_simp)⟩) HD.out ?_;generalize hKK:wpAnyH _ _ _ _ _ _ _=KK;go_simp;subst hKK;refine wpAnyH_take (i:=2) (v:=.pointer (some ⟨C.gb,0,none⟩)) rfl (by kernel_rfl) (by kernel_rfl) (by kernel_rfl) (fun _ _ _ h=>by cases h.1) (.inl ⟨rfl,(fun w hw=>by have hc:=hw.p.c;go_simp)⟩) HD.out ?_;generalize hKK:wpAnyH _ _ _ _ _ _ _=KK;go_simp;subst hKK;refine wpAnyH_take (i:=3) rfl (by kernel_rfl) (by kernel_rfl) (by kernel_rfl) (fun _ _ _ h=>by cases h.1) (.inl ⟨rfl,fun _ _=>rfl⟩) HD.out ?_;generalize hKK:wpAnyH _ _ _ _ _ _ _=KK;go_simp;subst hKK;refine wpAnyH_take (i:=4) rfl (by kernel_rfl) (by kernel_rfl) (by kernel_rfl) (fun _ _ _ h=>by cases h.1) (.inl ⟨rfl,fun _ _=>rfl⟩) HD.out ?_;generalize hKK:wpAnyH _ _ _ _ _ _ _=KK;go_simp;subst hKK;refine wpAnyH_take (i:=5) rfl (by kernel_rfl) (by kernel_rfl) (by kernel_rfl) (fun _ _ _ h=>by cases h.1) (.inl ⟨rfl,fun _ _=>rfl⟩) HD.out ?_;generalize hKK:wpAnyH _ _ _ _ _ _ _=KK;go_simp;subst hKK;refine wpAnyH_take (i:=6) (v:=.int .i64 G.st.age) rfl (by kernel_rfl) (by kernel_rfl) (by kernel_rfl) (fun _ _ _ h=>by cases h.1) (.inl ⟨rfl,(fun w hw=>by have hc:=HAG.out w hw;go_simp)⟩) HD.out ?_;generalize hKK:wpAnyH _ _ _ _ _ _ _=KK;go_simp;subst hKK;refine wpAnyH_all (rs:=[7,11]) (by kernel_rfl) (by simp) (fun ii hii=> ?_);have h7:ii=7∨ii=11:=by simpa using hii
  clear hii;rcases h7 with rfl|rfl
  ·refine wpOp_call (f:=159) (args:= #[.slice av nv' kv,.func (.func 158) #[] #[.pointer (some ⟨W.heap.size,0,none⟩),.pointer (some ⟨W.heap.size+1,0,none⟩)],.int .i64 G.st.age]) rfl rfl (by go_simp) (HOA.out X0 HD.out) ?_;rintro e X1 ⟨rfl,hbx⟩;have HD1:=Hd (HD.out.next hbx);refine⟨_,rfl,HD1.out,?_⟩;clear hbx HD;have HD:=HD1;generalize hKK:wpAnyH _ _ _ _ _ _ _=KK;go_simp;subst hKK;refine wpAnyH_take (i:=8) rfl (by kernel_rfl) (by kernel_rfl) (by kernel_rfl) (fun _ _ _ h=>by cases h.1) (.inl ⟨rfl,fun _ _=>rfl⟩) HD.out ?_;generalize hKK:wpAnyH _ _ _ _ _ _ _=KK;go_simp;subst hKK;refine wpAnyH_take (i:=9) rfl (by kernel_rfl) (by kernel_rfl) (by kernel_rfl) (fun _ _ _ h=>by cases h.1) (.inl ⟨rfl,fun _ _=>rfl⟩) HD.out ?_;generalize hKK:wpAnyH _ _ _ _ _ _ _=KK;go_simp;subst hKK;refine wpAnyH_take (i:=10) rfl (by kernel_rfl) (by kernel_rfl) (by kernel_rfl) (fun _ _ _ h=>by cases h.1) (.inl ⟨rfl,fun _ _=>rfl⟩) HD.out ?_;generalize hKK:wpAnyH _ _ _ _ _ _ _=KK;go_simp;subst hKK;refine wpAnyH_all (rs:=[11]) (by kernel_rfl) (by simp) (fun ii hii=> ?_);obtain rfl:ii=11:=by simpa using hii
   clear hii;have HD2:=Hd (HD1.out.next (al_bel X1 (.cells #[.int .i64 cl0.fl,.int .i64 cl0.ca,.int .i64 cl0.ag,.bool cl0.up] 33)));have HG2:=Hd (CC.CB.new X1 cl0);have HBL:Hid (W.heap.size+5≤X1.heap.size):=by have:=HD1.out.f;obtain⟨t,h⟩:=this;exact(Array.getElem?_eq_some_iff.1 h).1
   clear HD1;refine wpOp_allocC rfl rfl rfl ⟨HD2.out,?_⟩;generalize X1.alloc (.cells #[.int .i64 cl0.fl,.int .i64 cl0.ca,.int .i64 cl0.ag,.bool cl0.up] 33)=X2 at HD2 HG2⊢;generalize X1.heap.size=gb at HG2 HBL⊢;generalize hKK:wpAnyH _ _ _ _ _ _ _=KK;go_simp;subst hKK;refine wpAnyH_all (rs:=[12]) (by kernel_rfl) (by simp) (fun ii hii=> ?_);obtain rfl:ii=12:=by simpa using hii
   clear hii;refine wpOp_storeC rfl rfl _ _ rfl gb (c':=co) rfl rfl HG2.out ?_;intro X3 hk3 hg3;have HP:Hid (Gzl W X3 C.gb i (.slice av nv' kv)∧CC.CB X3 gb co):=⟨HD2.out.kp hk3 HBL.out,hg3⟩;have HS3:=Hd HP.out.1;refine⟨HS3.out,?_⟩;clear hk3 hg3 HD2 HG2 HBL;generalize hKK:wpAnyH _ _ _ _ _ _ _=KK;go_simp;subst hKK;refine wpAnyH_take (i:=13) rfl (by kernel_rfl) (by kernel_rfl) (by kernel_rfl) (fun _ _ _ h=>by cases h.1) (.inl ⟨rfl,fun _ _=>rfl⟩) HS3.out ?_;generalize hKK:wpAnyH _ _ _ _ _ _ _=KK;go_simp;subst hKK;refine wpAnyH_done (by kernel_rfl) ⟨rfl,hK _ _ ?_⟩ _;go_meet
   case rel=>exact⟨gb,rfl,rfl,HP⟩
  ·have HD1:=Hd (HD.out.next (al_bel X0 (.cells #[.int .i64 cl0.fl,.int .i64 cl0.ca,.int .i64 cl0.ag,.bool cl0.up] 33)));have HG1:=Hd (CC.CB.new X0 cl0);have HBL:Hid (W.heap.size+5≤X0.heap.size):=by have:=HD.out.f;obtain⟨t,h⟩:=this;exact(Array.getElem?_eq_some_iff.1 h).1
   clear HD;refine wpOp_allocC rfl rfl rfl ⟨HD1.out,?_⟩;generalize X0.alloc (.cells #[.int .i64 cl0.fl,.int .i64 cl0.ca,.int .i64 cl0.ag,.bool cl0.up] 33)=X1 at HD1 HG1⊢;generalize X0.heap.size=gb at HG1 HBL⊢;generalize hKK:wpAnyH _ _ _ _ _ _ _=KK;go_simp;subst hKK;refine wpAnyH_all (rs:=[7]) (by kernel_rfl) (by simp) (fun ii hii=> ?_);obtain rfl:ii=7:=by simpa using hii
   clear hii;refine wpOp_call (f:=159) (args:= #[.slice av nv' kv,.func (.func 158) #[] #[.pointer (some ⟨W.heap.size,0,none⟩),.pointer (some ⟨W.heap.size+1,0,none⟩)],.int .i64 G.st.age]) rfl rfl (by go_simp) (HOA.out X1 HD1.out) ?_;rintro e X2 ⟨rfl,hbx⟩;have HD:=Hd (HD1.out.next hbx);have HG2:=Hd (HG1.out.below' hbx);refine⟨_,rfl,HD.out,?_⟩;clear hbx HD1 HG1;generalize hKK:wpAnyH _ _ _ _ _ _ _=KK;go_simp;subst hKK;refine wpAnyH_take (i:=8) rfl (by kernel_rfl) (by kernel_rfl) (by kernel_rfl) (fun _ _ _ h=>by cases h.1) (.inl ⟨rfl,fun _ _=>rfl⟩) HD.out ?_;generalize hKK:wpAnyH _ _ _ _ _ _ _=KK;go_simp;subst hKK;refine wpAnyH_take (i:=9) rfl (by kernel_rfl) (by kernel_rfl) (by kernel_rfl) (fun _ _ _ h=>by cases h.1) (.inl ⟨rfl,fun _ _=>rfl⟩) HD.out ?_;generalize hKK:wpAnyH _ _ _ _ _ _ _=KK;go_simp;subst hKK;refine wpAnyH_take (i:=10) rfl (by kernel_rfl) (by kernel_rfl) (by kernel_rfl) (fun _ _ _ h=>by cases h.1) (.inl ⟨rfl,fun _ _=>rfl⟩) HD.out ?_;generalize hKK:wpAnyH _ _ _ _ _ _ _=KK;go_simp;subst hKK;refine wpAnyH_all (rs:=[12]) (by kernel_rfl) (by simp) (fun ii hii=> ?_);obtain rfl:ii=12:=by simpa using hii
   clear hii;refine wpOp_storeC rfl rfl _ _ rfl gb (c':=co) rfl rfl HG2.out ?_;intro X3 hk3 hg3;have HP:Hid (Gzl W X3 C.gb i (.slice av nv' kv)∧CC.CB X3 gb co):=⟨HD.out.kp hk3 HBL.out,hg3⟩;have HS3:=Hd HP.out.1;refine⟨HS3.out,?_⟩;clear hk3 hg3 HD HG2 HBL;generalize hKK:wpAnyH _ _ _ _ _ _ _=KK;go_simp;subst hKK;refine wpAnyH_take (i:=13) rfl (by kernel_rfl) (by kernel_rfl) (by kernel_rfl) (fun _ _ _ h=>by cases h.1) (.inl ⟨rfl,fun _ _=>rfl⟩) HS3.out ?_;generalize hKK:wpAnyH _ _ _ _ _ _ _=KK;go_simp;subst hKK;refine wpAnyH_done (by kernel_rfl) ⟨rfl,hK _ _ ?_⟩ _;go_meet
   case rel=>exact⟨gb,rfl,rfl,HP⟩
 case rest=>
  obtain⟨b,rfl,rfl,HP⟩:=hcut;clear HOA HGZ;have HZ:Hid (CaB wc (W.heap.size+3) (GM.ka cl0)):=HP.out.1.z;have HRG:=Hd HP.out.2.range;have hzb:W.heap.size+3<wc.heap.size:=HP.out.1.z.lt;cases r with
  |some x=>
   have HE:Hid (GM.gol G i m=some co):=by show _=_;rw[gol_eq,HRR.out,←HCO.out];rfl
   go_wp2_with (first|(refine wpList_loadKo rfl _ rfl b 0 rfl HRG.out ?_)|(refine wpList_storeCa rfl _ _ rfl (W.heap.size+3) (GM.ka co) rfl rfl HZ.out ?_))
   intro W9 hk9 hc9;have HC9:=Hd hc9;have HB9:=Hd (hk9.below HP.out.1.bel HP.out.1.bel.size fun j hj e=>by omega);clear hk9 hc9 HZ HRG;go_wp2;refine bodyPost_ret (retCa2 Tryz.results117 rfl rfl HC9.out) rfl ?_;rw[HE.out];exact⟨rfl,HB9.out⟩
  |none=>
   have hx:=HH.out.below' HP.out.1.bel;have hvl:CC.RW wc B (V.vl i) m.ls:=((hx.pt (5+2*i+6) trivial i m HM.out).2 rfl).1;obtain⟨al',nl,kl,hvs⟩:=hvl.slice;have m11:wc.cell? ⟨C.cb,i*12+11,none⟩=some (V.vl i):=hx.mcell HM.out 11 (by decide);rw[hvs]at m11 hvl;have c15:=hx.c15;have cp:=HP.out.1.p.c;have cq:=HP.out.1.q.c;have hix:∀W:World,_:=fun W=>ixM (ab:=C.cb) W (List.getElem?_eq_some_iff.1 HM.out).1;have HVL:=Hd hvl;have HE:Hid (GM.gol G i m=m.ls.find? fun x=>GM.may G.M i x&&GM.wts G.L x):=by show _=_;rw[gol_eq,HRR.out]
   clear hvl hvs hx
   go_wp2_with fail
   go_region
   have HP5:=Hd (HP.out.1.next (Below.refl _ _).drew);have HVL5:=Hd (HVL.out.below' (Below.refl _ _).drew);clear c15 cp cq m11 hix HVL HP HZ HRG hzb;generalize wc.drew=Y at HP5 HVL5⊢;have HIF:=Hd (CC.indexFunc_any 160 #[] #[.pointer (some ⟨W.heap.size+4,0,none⟩),.pointer (some ⟨W.heap.size+2,0,none⟩)] (fun x=>GM.may G.M i x&&GM.wts G.L x) (fun _ _=>rfl) B _ m.ls Y HVL5.out hl fun X x hX=>goal2_any (HH.out.below' (HP5.out.next hX).bel) _ _ _ _ i (HP5.out.next hX).p (HP5.out.next hX).q (HP5.out.next hX).f _ G.L (HP5.out.next hX).s (HR.out.below' (HP5.out.next hX).bel) hL x)
   go_wp2_with fail
   refine HIF.out.mono ?_;rintro e W6 ⟨j,rfl,hb6,hij⟩;have HP6:=Hd (HP5.out.next hb6);have HVL6:=Hd (HVL5.out.below' hb6);have HZ:Hid (CaB W6 (W.heap.size+3) (GM.ka cl0)):=HP6.out.z;have hzb:W.heap.size+3<W6.heap.size:=HP6.out.z.lt;clear hb6 HIF HP5 HVL5;rcases hij with⟨rfl,hno⟩|⟨k,x,hk,rfl,hpx,hfi⟩
   ·have HE2:Hid (GM.gol G i m=none):=by show _=_;rw[HE.out];exact find_not hno
    clear hno
    go_wp2_with (refine wpList_storeCa rfl _ _ rfl (W.heap.size+3) (GM.ka cl0) rfl rfl HZ.out ?_)
    intro W9 hk9 hc9;have HC9:=Hd hc9;have HB9:=Hd (hk9.below HP6.out.bel HP6.out.bel.size fun j hj e=>by omega);clear hk9 hc9 HZ;go_wp2;refine bodyPost_ret (retCa2 Tryz.results117 rfl rfl HC9.out) rfl ?_;rw[HE2.out];exact⟨rfl,HB9.out⟩
   ·have HE2:Hid (GM.gol G i m=some x):=by show _=_;rw[HE.out];exact find_at hk hpx hfi
    have hkl:=(List.getElem?_eq_some_iff.1 hk).1;obtain⟨a5,c5,e5,h5⟩:=HVL6.out.calls (D:=fun _=>True) fun _ _=>trivial;obtain⟨gx,rfl,-,-,hrx⟩:=h5 k x hk;cases e5;have HRX:=Hd hrx
    have hixw:∀W:World,(Instr.indexAt 38 (.slice (some ⟨gx,0,none⟩) m.ls.length kl) (.int .i64 (k:Int))).run Tryz.prog W=.ok (.pointer (some ⟨gx,k*4,none⟩)) W:=fun W=>by
     have:=ixCa W (g:=gx) (o:=0) (cap:=kl) hkl;rw[Nat.zero_add]at this;exact this
    have qk:¬(k:Int)<0:=by omega
    clear hfi hk hpx hrx h5 hkl
    go_wp2_with (first|(refine wpList_loadKo rfl _ rfl gx (k*4) rfl HRX.out ?_)|(refine wpList_storeCa rfl _ _ rfl (W.heap.size+3) (GM.ka x) rfl rfl HZ.out ?_))
    intro W9 hk9 hc9;have HC9:=Hd hc9;have HB9:=Hd (hk9.below HP6.out.bel HP6.out.bel.size fun j hj e=>by omega);clear hk9 hc9 HZ hixw HRX;go_wp2;refine bodyPost_ret (retCa2 Tryz.results117 rfl rfl HC9.out) rfl ?_;rw[HE2.out];exact⟨rfl,HB9.out⟩
end
section
variable {W W' W2 X X0 X1:World} {ow ow':Nat→Nat} {B:Nat} {C:Gc} {V V':Gv} {G G' G2:Gs} {m m':Mb} {i b:Nat} {n g:Int} {o:Bool}
theorem Ga.res(hg:Ga X0 (nw ow W 1000) B C G' X1)(hb:Below W.heap.size W X0)(hlt:W.heap.size<X0.heap.size)(hk:Kp (fun k=>k=W.heap.size) X1 W2):Ga W ow B C G' W2:=by
 obtain⟨p,V1,h1,h2,h3⟩:=hg;refine⟨p,V1,(h1.kp (i:=1000) hk fun b _ e=>by rw[e,h2 _ hlt];exact nw_new (Nat.le_refl _)).fills fun k x hx=> ?_,fun b hb'=>(h2 b (Nat.lt_trans hb' hlt)).trans (nw_old hb'),((Kp.ofBelow _ hb).trans h3 fun b hb x=>by rw[nw_old hb]at x;exact x).trans hk fun b hb e=>by omega⟩;have h4:=(List.getElem?_eq_some_iff.1 hx).1;have h5:=h1.ml;exact⟨fun e=>by have e:994=4+2*k:=e;omega,fun e=>by have e:994=5+2*k:=e;omega⟩
theorem set_same(hm:G.M[i]?=some m):({G with M:=G.M.set i m}:Gs)=G:=by
 obtain⟨hl,he⟩:=List.getElem?_eq_some_iff.1 hm;rw[←he,List.set_getElem_self hl]
structure Cmz(W X:World)(ow:Nat→Nat)(B:Nat)(C:Gc)(V:Gv)(G:Gs):Prop where
 bel:Below W.heap.size W X
 lt:W.heap.size<X.heap.size
 gx:GX al X (nw ow W 1000) B C V G
 r:CmB X W.heap.size false 0
theorem Cmz.next(h:Cmz W X ow B C V G)(hb:Below X.heap.size X W'):Cmz W W' ow B C V G:=⟨below_class h.bel hb,Nat.lt_of_lt_of_le h.lt hb.size,h.gx.below' hb,h.r.below' hb⟩
theorem wpOp_storeCm{ops:Array Oper}{Q:Exit→Act→World→Prop}{i:Nat}{o:Oper}{K:Act→World→Prop}{a:Act}{w:World}(hi:ops[i]?=some o)(hw:Region.wanted o (yielded ops a.tmps)=true)(x y:Operand)(ho:o.op=.store 103 x y)(b:Nat){p p':Bool}{g g':Int}(hx:a.eval x=.pointer (some ⟨b,0,none⟩))(hy:a.eval y=.agg #[.bool p',.int .i64 g'])(hL:CmB w b p g)
  (h:∀W',Kp (fun k=>k=b) w W'→CmB W' b p' g'→K (a.put o.dst undef) W'):wpOp Tryz.prog ops Q i K a w:=by
 unfold wpOp;rw[hi];simp only;rw[if_pos hw];refine .inl ?_;unfold Oper.wp execOp;simp only[ho,hx,hy,Instr.storeAt,Instr.sureAddr,Sem.run_bind,Sem.run_pure,Result.andThen_ok,run_storeVar_row (P:=Tryz.prog) w b 103 103 _ #[.bool p',.int .i64 g'] hL infoCm rfl (by simp[Value.oneCell'])];exact h _ (kp_rowJ w b _) (setRow_heap w b _ _ _ _ hL)
theorem command_any(h:GX al W ow B C V G)(hm:G.M[i]?=some m)(v:Value)(hR:CC.RW W B v G.L)(hL:G.L.length≤128)(hl:m.ls.length≤128):
  Calls Tryz.prog 84 #[.pointer (some ⟨C.gb,0,none⟩),.int .i64 (i:Int),v] W fun e w'=>e=.returned (.agg #[.bool (GM.cmd G i m).1.1,.int .i64 (GM.cmd G i m).1.2])∧Ga W ow B C {G with M:=G.M.set i (GM.cmd G i m).2} w':=by
 have hb:=al_bel W (.cells #[.bool false,.int .i64 0] 103);have HCZ:Hid (Cmz W (W.alloc (.cells #[.bool false,.int .i64 0] 103)) ow B C V G):=⟨hb,by simp,(h.retag 1000).below' hb,World.alloc_heap_new W _⟩;have HR:=Hd hR;have HM:=Hd hm;have HH:=Hd h;have hix:∀W:World,_:=fun W=>ixM (ab:=C.cb) W (List.getElem?_eq_some_iff.1 hm).1;have c15:=HCZ.out.gx.c15;have c16:(W.alloc (.cells #[.bool false,.int .i64 0] 103)).cell? ⟨C.gb,16,none⟩=some (.bool G.rc):=HCZ.out.gx.cell 16;have HWK:=Hd (works_any HCZ.out.gx hm);have HID:=Hd (idle_any HCZ.out.gx hm)
 have HCM:Hid (GM.cmd G i m=if GM.wk m=true∧GM.idl m=true then
  (if G.rc=true then GM.snd m 0 false false else match GM.gol G i m with
   |none=>((false,-1),m)
   |some x=>if x.ca= -1 then GM.snd m x.fl x.up (!x.up)else GM.snd m x.fl false false)
 else((false,-1),m)):=rfl
 obtain⟨r,HE⟩:∃r,Hid (GM.cmd G i m=r):=⟨_,Hd rfl⟩;rw[HE.out]at HCM⊢;clear h hm hR hb;generalize GM.wk m=wk at HWK HCM;generalize GM.idl m=idl at HID HCM
 go_enter Tryz.func84,Tryz.ntmps84
 go_wp2_with fail
 generalize W.alloc (.cells #[.bool false,.int .i64 0] 103)=W1 at HCZ HWK HID c15 c16⊢
 have HNO:Hid (∀X,Cmz W X ow B C V G→r=((false,-1),m)→∀W9,Kp (fun k=>k=W.heap.size) X W9→Ga W ow B C {G with M:=G.M.set i r.2} W9):=fun X hX e W9 hk=>by
  rw[e,set_same HM.out];exact(Ga.below hX.gx (Below.refl _ _)).res hX.bel hX.lt hk
 refine HWK.out.mono ?_;rintro e W2 ⟨rfl,e1⟩;subst e1;cases wk
 ·have HX:Hid (r=((false,-1),m)):=by show _=_;rw[HCM.out];simp
  clear HID HCM
  go_wp2_with fail
  refine (nothing_any _).mono ?_;rintro e W3 ⟨rfl,hb3⟩;have HC3:=Hd (HCZ.out.next hb3);clear hb3
  go_wp2_with (refine wpList_storeCm rfl _ _ rfl W.heap.size rfl rfl HC3.out.r ?_)
  intro W9 hk9 hc9;have HG9:=Hd (HNO.out _ HC3.out HX.out W9 hk9);have HC9:=Hd hc9;clear hk9 hc9 HC3;go_wp2;refine bodyPost_ret (retCm Tryz.results84 rfl HC9.out) rfl ?_;exact⟨by rw[HX.out],HG9.out⟩
 ·go_wp2_with fail
  refine HID.out.mono ?_;rintro e W2 ⟨rfl,e1⟩;subst e1;clear HWK HID;cases idl
  ·have HX:Hid (r=((false,-1),m)):=by show _=_;rw[HCM.out];simp
   clear HCM
   go_wp2_with fail
   refine (nothing_any _).mono ?_;rintro e W3 ⟨rfl,hb3⟩;have HC3:=Hd (HCZ.out.next hb3);clear hb3
   go_wp2_with (refine wpList_storeCm rfl _ _ rfl W.heap.size rfl rfl HC3.out.r ?_)
   intro W9 hk9 hc9;have HG9:=Hd (HNO.out _ HC3.out HX.out W9 hk9);have HC9:=Hd hc9;clear hk9 hc9 HC3;go_wp2;refine bodyPost_ret (retCm Tryz.results84 rfl HC9.out) rfl ?_;exact⟨by rw[HX.out],HG9.out⟩
  ·cases hrc:G.rc with
   |true=>
    have HX:Hid (r=GM.snd m 0 false false):=by show _=_;rw[HCM.out,hrc];rfl
    rw[hrc]at c16;have HST:=Hd (sendTo_any HCZ.out.gx HM.out 0 false false);rw[←HX.out]at HST;clear HCM hrc
    go_wp2_with fail
    refine HST.out.mono ?_;rintro e W3 ⟨rfl,hg3⟩;have HR3:Hid (CmB W3 W.heap.size false 0):=(hg3.kp.block _ HCZ.out.lt (by rw[nw_new (Nat.le_refl _)];omega)).trans HCZ.out.r;have HG3:=Hd hg3;clear hg3 HST
    go_wp2_with (refine wpList_storeCm rfl _ _ rfl W.heap.size rfl rfl HR3.out ?_)
    intro W9 hk9 hc9;have HG9:=Hd (HG3.out.res HCZ.out.bel HCZ.out.lt hk9);have HC9:=Hd hc9;clear hk9 hc9 HR3 HG3;go_wp2;refine bodyPost_ret (retCm Tryz.results84 rfl HC9.out) rfl ?_;exact⟨rfl,HG9.out⟩
   |false=>
    rw[hrc]at c16;have HGL:=Hd (goal_any HCZ.out.gx HM.out v (HR.out.below' HCZ.out.bel) hL hl);obtain⟨res,HRS⟩:∃res,Hid (GM.gol G i m=res):=⟨_,Hd rfl⟩;rw[HRS.out]at HGL;cases res with
    |none=>
     have HX:Hid (r=((false,-1),m)):=by show _=_;rw[HCM.out,hrc,HRS.out];rfl
     clear HCM hrc
     go_wp2_with fail
     refine HGL.out.mono ?_;rintro e W3 ⟨rfl,hb3⟩;have HC3:=Hd ((HCZ.out.next hb3).next (al_bel W3 (.cells #[.int .i64 cl0.fl,.int .i64 cl0.ca,.int .i64 cl0.ag,.bool cl0.up] 33)));clear hb3 HGL
     go_wp2_with fail
     refine (nothing_any _).mono ?_;rintro e W4 ⟨rfl,hb4⟩;have HC4:=Hd (HC3.out.next hb4);clear hb4 HC3
     go_wp2_with (refine wpList_storeCm rfl _ _ rfl W.heap.size rfl rfl HC4.out.r ?_)
     intro W9 hk9 hc9;have HG9:=Hd (HNO.out _ HC4.out HX.out W9 hk9);have HC9:=Hd hc9;clear hk9 hc9 HC4;go_wp2;refine bodyPost_ret (retCm Tryz.results84 rfl HC9.out) rfl ?_;exact⟨by rw[HX.out],HG9.out⟩
    |some x=>
     have HX:Hid (r=GM.snd m x.fl (decide (x.ca= -1)&&x.up) (decide (x.ca= -1)&& !x.up)):=by
      show _=_;rw[HCM.out,hrc,HRS.out];by_cases q:x.ca= -1<;>simp[q]
     clear HCM hrc
     go_wp2_with fail
     refine HGL.out.mono ?_;rintro e W3 ⟨rfl,hb3⟩;have HC4:=Hd ((HCZ.out.next hb3).next (al_bel W3 (.cells #[.int .i64 x.fl,.int .i64 x.ca,.int .i64 x.ag,.bool x.up] 33)));have HB4:=Hd (CC.CB.new W3 x);have HCB:Hid (W.heap.size<W3.heap.size):=Nat.lt_of_lt_of_le HCZ.out.lt hb3.size;clear hb3 HGL
     go_upto_region 9 with (fail)
     clear c15 c16 hix HNO;generalize W3.alloc (.cells #[.int .i64 x.fl,.int .i64 x.ca,.int .i64 x.ag,.bool x.up] 33)=W4 at HC4 HB4⊢;generalize W3.heap.size=cb at HB4 HCB⊢;refine wp_nrm ?_;refine wp_region_held (S:=fun w'=>CC.CB w' cb x) (by kernel_rfl) ?_;change wpAnyH _ _ _ _ _ _ _ _ (World.drew _);have HD:=Hd (HB4.out.below' (Below.refl _ _).drew);have HC5:=Hd (HC4.out.next (Below.refl _ _).drew);generalize W4.drew=X0 at HD HC5⊢;refine wpAnyH_take (i:=0) rfl (by kernel_rfl) (by kernel_rfl) (by kernel_rfl) (fun _ _ _ h=>by cases h.1) (.inl ⟨rfl,fun _ _=>rfl⟩) HD.out ?_;generalize hKK:wpAnyH _ _ _ _ _ _ _=KK;go_simp;subst hKK;refine wpAnyH_take (i:=1) rfl (by kernel_rfl) (by kernel_rfl) (by kernel_rfl) (fun _ _ _ h=>by cases h.1) (.inl ⟨rfl,fun _ _=>rfl⟩) HD.out ?_;generalize hKK:wpAnyH _ _ _ _ _ _ _=KK;go_simp;subst hKK;refine wpAnyH_take (i:=2) (v:=.int .i64 x.fl) rfl (by kernel_rfl) (by kernel_rfl) (by kernel_rfl) (fun _ _ _ h=>by cases h.1) (.inl ⟨rfl,(fun w hw=>by have hc:w.cell? ⟨cb,0,none⟩=some (.int .i64 x.fl):=hw.c0;go_simp)⟩) HD.out ?_;generalize hKK:wpAnyH _ _ _ _ _ _ _=KK;go_simp;subst hKK;refine wpAnyH_take (i:=3) (v:=.agg #[.int .i64 x.fl,.int .i64 x.ca,.int .i64 x.ag,.bool x.up]) rfl (by kernel_rfl) (by kernel_rfl) (by kernel_rfl) (fun _ _ _ h=>by cases h.1) (.inl ⟨rfl,(fun w hw=>by have e0:w.cell? ⟨cb,0,none⟩=some (.int .i64 x.fl):=hw.c0;have e1:w.cell? ⟨cb,1,none⟩=some (.int .i64 x.ca):=hw.c1;have e2:w.cell? ⟨cb,2,none⟩=some (.int .i64 x.ag):=hw.c2;have e3:w.cell? ⟨cb,3,none⟩=some (.bool x.up):=hw.c3;go_simp)⟩) HD.out ?_;generalize hKK:wpAnyH _ _ _ _ _ _ _=KK;go_simp;subst hKK;refine wpAnyH_all (rs:=[4]) (by kernel_rfl) (by simp) (fun ii hii=> ?_);obtain rfl:ii=4:=by simpa using hii
     clear hii;refine wpOp_call (f:=118) (args:= #[.agg #[.int .i64 x.fl,.int .i64 x.ca,.int .i64 x.ag,.bool x.up]]) rfl rfl (by go_simp) (sideOf_any x X0) ?_;rintro e X1 ⟨rfl,hb1⟩;have HD1:=Hd (HD.out.below' hb1);have HC6:=Hd (HC5.out.next hb1);refine⟨_,rfl,HD1.out,?_⟩;clear hb1 HD HC5;generalize hKK:wpAnyH _ _ _ _ _ _ _=KK;go_simp;subst hKK;refine wpAnyH_all (rs:=[5]) (by kernel_rfl) (by simp) (fun ii hii=> ?_);obtain rfl:ii=5:=by simpa using hii
     clear hii;obtain⟨su,hsu⟩:∃z,(decide (x.ca= -1)&&x.up)=z:=⟨_,rfl⟩;obtain⟨sd,hsd⟩:∃z,(decide (x.ca= -1)&& !x.up)=z:=⟨_,rfl⟩;rw[hsu,hsd]at HX;have HST:=sendTo_any HC6.out.gx HM.out x.fl su sd;rw[←HX.out]at HST;refine wpOp_call (f:=116) (args:= #[.pointer (some ⟨C.cb,i*12,none⟩),.int .i64 x.fl,.agg #[.bool su,.bool sd]]) rfl rfl (by rw[←hsu,←hsd];go_simp) HST ?_;rintro e X2 ⟨rfl,hg2⟩;have HD2:Hid (CC.CB X2 cb x):=(hg2.kp.block _ HD1.out.lt (by rw[nw_new (by have:=HCB.out;omega)];omega)).trans HD1.out;have HR2:Hid (CmB X2 W.heap.size false 0):=(hg2.kp.block _ HC6.out.lt (by rw[nw_new (Nat.le_refl _)];omega)).trans HC6.out.r;refine⟨_,rfl,HD2.out,?_⟩;have HG2:=Hd hg2;clear hg2 hsu hsd;generalize hKK:wpAnyH _ _ _ _ _ _ _=KK;go_simp;subst hKK;refine wpAnyH_all (rs:=[6]) (by kernel_rfl) (by simp) (fun ii hii=> ?_);obtain rfl:ii=6:=by simpa using hii
     clear hii;refine wpOp_storeCm rfl rfl _ _ rfl W.heap.size (p':=r.1.1) (g':=r.1.2) rfl rfl HR2.out ?_;intro W9 hk9 hc9;have HG9:=Hd (HG2.out.res HC6.out.bel HC6.out.lt hk9);have HC9:=Hd hc9;have HD9:Hid (CC.CB W9 cb x):=(hk9.block _ HD2.out.lt (by have:=HCB.out;omega)).trans HD2.out;refine⟨HD9.out,?_⟩;clear hk9 hc9 HG2 HD2 HR2;generalize hKK:wpAnyH _ _ _ _ _ _ _=KK;go_simp;subst hKK;refine wpAnyH_done (by kernel_rfl) ⟨rfl,?_⟩ _;go_wp2;refine bodyPost_ret (retCm Tryz.results84 rfl HC9.out) rfl ?_;exact⟨rfl,HG9.out⟩
end
namespace GM
variable {G:Gs} {n k:Nat} {m:Mb}
theorem tll_more(hm:G.M[n]?=some m):tll G (n+1)=((tll G n).1++[(cmd G n m).1],{(tll G n).2 with M:=(tll G n).2.M.set n (cmd G n m).2}):=by
 show(match G.M[n]? with|none=>tll G n|some m=>((tll G n).1++[(cmd G n m).1],{(tll G n).2 with M:=(tll G n).2.M.set n (cmd G n m).2}))=_;rw[hm]
theorem tll_eq:∀n,∃M,(tll G n).2={G with M:=M}∧M.length=G.M.length∧∀k,n≤k→M[k]?=G.M[k]?
 |0=>⟨G.M,rfl,rfl,fun _ _=>rfl⟩
 |n+1=>by
  obtain⟨M,h1,h2,h3⟩:=tll_eq n;cases hm:G.M[n]? with
  |none=>exact⟨M,by rw[←h1];show(match G.M[n]? with|none=>tll G n|some m=>_).2=_;rw[hm],h2,fun k hk=>h3 k (by omega)⟩
  |some m=>
   rw[tll_more hm];refine⟨M.set n (cmd G n m).2,by simp only[h1],by rw[List.length_set,h2],fun k hk=> ?_⟩;rw[List.getElem?_set_ne (by omega)];exact h3 k (by omega)
theorem tll_len(h:n≤G.M.length):(tll G n).1.length=n:=by
 induction n with
 |zero=>rfl
 |succ n ih=>
  obtain⟨m,hm⟩:∃m,G.M[n]?=some m:=⟨_,List.getElem?_eq_getElem (by omega)⟩;rw[tll_more hm];simp only[List.length_append,List.length_singleton,ih (by omega)]
theorem may_same{M M':List Mb}{x:CC.Cl}(h:M[n]?=M'[n]?):may M n x=may M' n x:=by
 unfold may;simp only[Int.toNat_natCast,h]
theorem cmd_same{M:List Mb}(h:M[n]?=G.M[n]?):cmd {G with M:=M} n m=cmd G n m:=by
 have e:∀x,may M n x=may G.M n x:=fun x=>may_same h;unfold cmd gol;simp only[e]
end GM
def cms:List (Bool×Int)→List Value
 |[]=>[]
 |a::l=>.bool a.1::.int .i64 a.2::cms l
theorem cms_get:∀{l:List (Bool×Int)} {i:Nat} {a:Bool×Int},l[i]?=some a→(cms l)[i*2]?=some (.bool a.1)∧(cms l)[i*2+1]?=some (.int .i64 a.2)
 |[],_,_,h=>by simp at h
 |x::l,0,a,h=>by simp at h;subst h;exact⟨rfl,rfl⟩
 |x::l,i+1,a,h=>by
  have:=cms_get (l:=l) (i:=i) (a:=a) (by simpa using h);rw[show(i+1)*2=i*2+1+1 by omega];exact this
theorem cms_set:∀(l:List (Bool×Int)) (i:Nat) (a:Bool×Int),((cms l).set (i*2) (.bool a.1)).set (i*2+1) (.int .i64 a.2)=cms (l.set i a)
 |[],_,_=>by simp[cms]
 |x::l,0,a=>rfl
 |x::l,i+1,a=>by
  rw[List.set_cons_succ,cms,cms,←cms_set l i a,show(i+1)*2=i*2+1+1 by omega]
  rfl
theorem infoCz:(Tryz.prog.info? 103).map (fun i=>(i.zero,i.size,i.bytes))=some (some (.agg #[.bool false,.int .i64 0]),2,16):=by kernel_rfl
theorem mkCm(n:Nat)(hn:n≤8)(W:World):(Instr.makeSlice 65 (.int .i64 (n:Int)) (.int .i64 (n:Int))).run Tryz.prog W=.ok (.slice (some ⟨W.heap.size,0,none⟩) n n) (W.alloc (.cells (cms (List.replicate n (false,0))).toArray 103)):=by
 obtain⟨i,hi,h1,h2,h3⟩:=info_parts infoCz
 have:=run_make (P:=Tryz.prog) W 65 103 i _ Tryz.underlying65 hi h1 .i64 .i64 (n:Int) (n:Int) (by omega) (by omega) (by
  have:(i.bytes:Int)*(n:Int)≤16*8:=Int.mul_le_mul (by omega) (by omega) (by omega) (by omega)
  omega) (by omega)
 have e:madeCells (Value.agg #[.bool false,.int .i64 0]).cells (n*2)=(cms (List.replicate n (false,0))).toArray:=by
  have:n=0∨n=1∨n=2∨n=3∨n=4∨n=5∨n=6∨n=7∨n=8:=by omega
  apply Array.toList_inj.1;rcases this with rfl|rfl|rfl|rfl|rfl|rfl|rfl|rfl|rfl<;>simp[madeCells,Value.cells,cms,List.replicate,List.range,List.range.loop]
 rw[this,h2,Int.toNat_natCast,e]
def CR(W:World)(g:Nat)(l:List (Bool×Int)):Prop:=W.heap[g]?=some (.cells (cms l).toArray 103 (0,0))
section
variable {W W':World} {g:Nat} {l:List (Bool×Int)}
theorem CR.lt(h:CR W g l):g<W.heap.size:=(Array.getElem?_eq_some_iff.1 h).1
theorem CR.there(h:CR W g l){i:Nat}(hi:i<l.length):W.there g (i*2) 2:=fun j hj=>by
 obtain⟨a,ha⟩:∃a,l[i]?=some a:=⟨_,List.getElem?_eq_getElem hi⟩;obtain⟨h1,h2⟩:=cms_get ha;refine⟨?_,blk_fr h _⟩;have:j=0∨j=1:=by omega
 rcases this with rfl|rfl
 ·rw[Nat.add_zero,blk_cell h,h1];rfl
 ·rw[blk_cell h,h2];rfl
theorem CR.put(h:CR W g l)(i:Nat)(a:Bool×Int):CR (W.setCells g (i*2) [.bool a.1,.int .i64 a.2]) g (l.set i a):=by
 have h1:=heap_setCell_same W g (i*2) _ _ (.bool a.1) h;have h2:=heap_setCell_same (W.setCell ⟨g,i*2,none⟩ (.bool a.1)) g (i*2+1) _ _ (.int .i64 a.2) h1;refine h2.trans ?_;rw[←cms_set];simp
end
section
variable {W W' W2 X wr:World} {ow ow':Nat→Nat} {B:Nat} {C:Gc} {V V':Gv} {G G' G2:Gs} {m m':Mb} {i b g c:Nat} {n:Int} {vl:Value}
structure Tl(W X wr:World)(ow:Nat→Nat)(B:Nat)(C:Gc)(G:Gs)(g c:Nat)(vl:Value):Prop where
 gx:∃o V',GX al wr o B C V' (GM.tll G c).2∧(∀b,b<W.heap.size→o b=ow b)∧∀b,W.heap.size≤b→b<X.heap.size→o b=1000
 kp:Kp (fun b=>ow b<1000) W wr
 sz:X.heap.size≤wr.heap.size
 cr:CR wr g ((GM.tll G c).1++List.replicate (G.M.length-c) (false,0))
 rw:CC.RW wr W.heap.size vl G.L
theorem ixCm{g n j:Nat}(W:World)(h:j<n):(Instr.indexAt 65 (.slice (some ⟨g,0,none⟩) n n) (.int .i64 (j:Int))).run Tryz.prog W=.ok (.pointer (some ⟨g,j*2,none⟩)) W:=by
 rw[run_indexAt_slice W 65 _ n n .i64 j (by kernel_rfl),if_pos ⟨by omega,by omega⟩,show Tryz.prog.elem 65=103 by kernel_rfl,Tryz.sizeOf103];simp[Addr.add];exact fun e=>e.symm
theorem Tl.step(h:Tl W X wr ow B C G g c vl)(hm:G.M[c]?=some m)(hg:W.heap.size≤g∧g<X.heap.size)(hv:∀q,vl.ownBlock=some q→q<X.heap.size∧q≠g)(hL:G.L.length≤128)(hl:m.ls.length≤128)(hB:B≤W.heap.size):
  Calls Tryz.prog 84 #[.pointer (some ⟨C.gb,0,none⟩),.int .i64 (c:Int),vl] wr fun e w'=>e=.returned (.agg #[.bool (GM.cmd G c m).1.1,.int .i64 (GM.cmd G c m).1.2])∧w'.there g (c*2) 2∧Tl W X (w'.setCells g (c*2) [.bool (GM.cmd G c m).1.1,.int .i64 (GM.cmd G c m).1.2]) ow B C G g (c+1) vl:=by
 obtain⟨o,V1,h1,h2,h3⟩:=h.gx;obtain⟨M,e1,e2,e3⟩:=GM.tll_eq (G:=G) c;have hc:=(List.getElem?_eq_some_iff.1 hm).1;have hm2:(GM.tll G c).2.M[c]?=some m:=by rw[e1];exact(e3 c (Nat.le_refl _)).trans hm
 have hLc:(GM.tll G c).2.L=G.L:=by rw[e1]
 have hcm:GM.cmd (GM.tll G c).2 c m=GM.cmd G c m:=by rw[e1];exact GM.cmd_same (e3 c (Nat.le_refl _))
 have hrw:CC.RW wr B vl (GM.tll G c).2.L:=by
  rw[hLc];exact⟨h.rw.1,h.rw.2.imp id fun⟨g,c,u,h1,h2,h3⟩=>⟨g,c,u,h1,Nat.le_trans hB h2,h3⟩⟩
 have hln:(GM.tll G c).1.length=c:=GM.tll_len (by omega);refine (command_any h1 hm2 vl hrw (by rw[hLc];exact hL) hl).mono fun e w' ⟨he,hg2⟩=> ?_;rw[hcm]at he hg2;obtain⟨o2,V2,k1,k2,k3⟩:=hg2;have hgr:=h.cr.lt;have hcr:CR w' g ((GM.tll G c).1++List.replicate (G.M.length-c) (false,0)):=(k3.block g hgr (by rw[h3 g hg.1 hg.2];omega)).trans h.cr;have hkp:Kp (fun k=>k=g) w' (w'.setCells g (c*2) [.bool (GM.cmd G c m).1.1,.int .i64 (GM.cmd G c m).1.2]):=((Kp.refl (fun k=>k=g) w').set g _ _ fun _=>rfl).set g _ _ fun _=>rfl;refine⟨he,hcr.there (by rw[List.length_append,List.length_replicate,hln];omega),⟨o2,V2,?_,fun b hb=>(k2 b (by have:=h.sz;omega)).trans (h2 b hb),fun b hb hx=>(k2 b (by have:=h.sz;omega)).trans (h3 b hb hx)⟩,?_,Nat.le_trans h.sz (Nat.le_trans k3.size hkp.size),?_,?_⟩
 ·rw[GM.tll_more hm];refine (k1.kp (i:=1000) hkp fun b _ e=>by rw[e,k2 _ hgr];exact h3 g hg.1 hg.2).fills fun k x hx=> ?_;have h4:=(List.getElem?_eq_some_iff.1 hx).1;have h5:=k1.ml;exact⟨fun e=>by have e:994=4+2*k:=e;omega,fun e=>by have e:994=5+2*k:=e;omega⟩
 ·exact(h.kp.trans k3 fun b hb x=>by rw[h2 b hb]at x;exact x).trans hkp fun b hb e=>by omega
 ·rw[GM.tll_more hm];have:=hcr.put c (GM.cmd G c m).1;rw[List.set_append_right _ _ (by omega),hln,Nat.sub_self,show G.M.length-c=(G.M.length-(c+1))+1 by omega,List.replicate_succ,List.set_cons_zero]at this;simpa using this
 ·refine h.rw.keep fun q hq=>(hkp.block q ?_ (hv q hq).2).trans (k3.block q (h.rw.lt q hq).2 ?_)
  ·exact Nat.lt_of_lt_of_le (h.rw.lt q hq).2 k3.size
  ·rw[h3 q (h.rw.lt q hq).1 (hv q hq).1];omega
def Told(W:World)(ow:Nat→Nat)(B:Nat)(C:Gc)(G':Gs)(l:List (Bool×Int))(g:Nat)(w':World):Prop:=CR w' g l∧W.heap.size≤g∧∃o V',GX al w' o B C V' G'∧(∀b,b<W.heap.size→o b=ow b)∧Kp (fun b=>ow b<1000) W w'∧o g=1000
theorem tell_any(h:GX al W ow B C V G)(ho:GO n G):
  Calls Tryz.prog 61 #[.pointer (some ⟨C.gb,0,none⟩)] W fun e w'=>∃g,e=.returned (.slice (some ⟨g,0,none⟩) G.M.length G.M.length)∧Told W ow B C (GM.tll G G.M.length).2 (GM.tll G G.M.length).1 g w':=by
 have hml:=h.ml;have HH:=Hd h;have HO:=Hd ho;have HMK:=Hd (fun X=>mkCm G.M.length hml X);have c14:W.cell? ⟨C.gb,14,none⟩=some (.pointer (some ⟨C.bb,0,none⟩)):=h.cell 14;have HA:=Hd (CC.all_any B C.bb _ _ _ _ _ W (h.pt 2 trivial).1 ho.gd.len);clear h ho;obtain⟨N,hN⟩:∃x,G.M.length=x:=⟨_,rfl⟩;have HN:=Hd hN;rw[hN]at hml⊢;clear hN
 go_enter Tryz.func61,Tryz.ntmps61
 go_wp2_with fail
 refine HA.out.mono ?_;rintro e W1 ⟨vl,rfl,hr1,hb1⟩;have HR1:=Hd hr1;have HB1:=Hd hb1;have hb2:=below_class hb1 (al_bel W1 (.cells (cms (List.replicate G.M.length (false,0))).toArray 103));have c15:=(HH.out.below' hb1).c15;have d15:=(HH.out.below' hb2).c15;have hmk:=HMK.out W1;have HT0:Hid (Tl W (W1.alloc (.cells (cms (List.replicate G.M.length (false,0))).toArray 103)) (W1.alloc (.cells (cms (List.replicate G.M.length (false,0))).toArray 103)) ow B C G W1.heap.size 0 vl):=⟨⟨nw ow W 1000,V,(HH.out.retag 1000).below' hb2,fun b hb=>nw_old hb,fun b hb _=>nw_new hb⟩,Kp.ofBelow _ hb2,Nat.le_refl _,World.alloc_heap_new W1 _,hr1.below' (al_bel W1 _)⟩;have HG:Hid (W.heap.size≤W1.heap.size∧W1.heap.size<(W1.alloc (.cells (cms (List.replicate G.M.length (false,0))).toArray 103)).heap.size):=⟨hb1.size,by simp⟩
 have HV:Hid (∀q,vl.ownBlock=some q→q<(W1.alloc (.cells (cms (List.replicate G.M.length (false,0))).toArray 103)).heap.size∧q≠W1.heap.size):=fun q hq=>by
  have:=(hr1.lt q hq).2;rw[World.size_alloc];omega
 obtain⟨al',nl,kl,rfl⟩:=hr1.slice;clear hr1 hb1 hb2 HA c14 HMK HR1 HB1;rw[HN.out]at hmk c15 d15 HT0 HG HV
 go_wp2_with fail
 generalize W1.alloc (.cells (cms (List.replicate N (false,0))).toArray 103)=X at HT0 HG HV d15⊢;clear hmk c15 d15;generalize W1.heap.size=g at HT0 HG HV⊢
 go_loopw [22] (fun kv wr=>∃c:Nat,c≤N∧kv=.int .i64 (c:Int)∧Hid (Tl W X wr ow B C G g c (.slice al' nl kl))) (fun kv _=>N-(intOf kv).toNat)
 case atStart=>exact⟨0,Nat.zero_le _,rfl,HT0⟩
 case round=>
  clear HT0;obtain⟨c,hc,rfl,HT⟩:=hrel;by_cases hlt:c<N
  ·have hz:(c:Int)<(N:Int):=by omega
   obtain⟨m,hm⟩:∃m,G.M[c]?=some m:=⟨_,List.getElem?_eq_getElem (by have:=HN.out;omega)⟩;have HS:=Hd (HT.out.step hm HG.out HV.out HO.out.gd.len (HO.out.mo m (List.mem_of_getElem? hm)).ll HH.out.hB);have hix:∀W:World,_:=fun W=>ixCm (g:=g) W hlt;have hc1:c+1≤N:=hlt;clear hm HT
   go_wp2_with fail
   refine HS.out.mono ?_;rintro e w2 ⟨rfl,hth,ht2⟩;have HTH:=Hd hth;have HT2:=Hd ht2;clear hth ht2 HS
   go_wp2_with (refine wpList_store_mid rfl _ _ _ rfl g (c*2) #[.bool (GM.cmd G c m).1.1,.int .i64 (GM.cmd G c m).1.2] rfl rfl HTH.out infoCm (by simp[Value.oneCell']) ?_)
   go_roundw
   case rel=>exact⟨c+1,hc1,by go_num,HT2⟩
   case measure=>simp[intOf];omega
  ·have hz:¬(c:Int)<(N:Int):=by omega
   have e1:c=N:=by omega
   rw[e1]at HT
   have HTo:Hid (Told W ow B C (GM.tll G N).2 (GM.tll G N).1 g wr):=by
    obtain⟨⟨o,V1,h1,h2,h3⟩,h4,h5,h6,h7⟩:=HT.out;refine⟨?_,HG.out.1,o,V1,h1,h2,h4,h3 g HG.out.1 HG.out.2⟩;have:=h6;rw[HN.out,Nat.sub_self,List.replicate_zero,List.append_nil]at this;exact this
   clear e1 HT;go_wp2;go_ret;exact⟨g,rfl,HTo.out⟩
end
end Go.Proofs.YtlajleogofmkcaaGreat
