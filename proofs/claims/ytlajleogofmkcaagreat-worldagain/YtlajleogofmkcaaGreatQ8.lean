import Derived.Test.YtlajleogofmkcaaGreatQ7
set_option maxHeartbeats 8000000
set_option maxRecDepth 100000
namespace Go.Proofs.YtlajleogofmkcaaGreat
open Go.RowKit Go.Shelf
def ER(W:World)(eb:Nat)(es:List RM.Sp):Prop:=W.heap[eb]?=some (.cells (tcs es).toArray 220 (0,0))
section
variable {W W':World} {eb:Nat} {es:List RM.Sp}
theorem ER.lt(h:ER W eb es):eb<W.heap.size:=(Array.getElem?_eq_some_iff.1 h).1
theorem ER.below'(h:ER W eb es)(hb:Below W.heap.size W W'):ER W' eb es:=(hb.block eb h.lt).trans h
theorem ER.kp{G:Nat→Prop}(h:ER W eb es)(k:Kp G W W')(hG:¬G eb):ER W' eb es:=(k.block eb h.lt hG).trans h
theorem ER.stop(h:ER W eb es){j:Nat}{a:RM.Sp}(hj:es[j]?=some a):W.rangeAt eb (j*3) [.int .i64 a.fl,.int .i64 a.he,.int .i64 a.le]:=fun i v hv=>by
 rw[blk_cell h];obtain⟨h0,h1,h2⟩:=tcs_get hj
 match i,hv with
 |0,hv=>cases hv;exact h0
 |1,hv=>cases hv;exact h1
 |2,hv=>cases hv;exact h2
 |i+3,hv=>simp at hv
theorem ER.put(h:ER W eb es)(j:Nat)(a:RM.Sp):ER (W.setCells eb (j*3) [.int .i64 a.fl,.int .i64 a.he,.int .i64 a.le]) eb (es.set j a)∧Kp (fun k=>k=eb) W (W.setCells eb (j*3) [.int .i64 a.fl,.int .i64 a.he,.int .i64 a.le]):=by
 have e:W.setCells eb (j*3) [.int .i64 a.fl,.int .i64 a.he,.int .i64 a.le]=((W.setCell ⟨eb,j*3,none⟩ (.int .i64 a.fl)).setCell ⟨eb,j*3+1,none⟩ (.int .i64 a.he)).setCell ⟨eb,j*3+2,none⟩ (.int .i64 a.le):=rfl;rw[e];refine⟨?_,(((Kp.refl (fun k=>k=eb) W).set eb _ _ (fun _=>rfl)).set eb _ _ (fun _=>rfl)).set eb _ _ (fun _=>rfl)⟩;have:=blk_set (blk_set (blk_set h (j*3) (.int .i64 a.fl)) (j*3+1) (.int .i64 a.he)) (j*3+2) (.int .i64 a.le);rw[tcs_set]at this;exact this
end
theorem wpList_storeER{ops:Array Oper}{rest:List Oper}{op:Oper}{a:Act}{w:World}{Q:Exit→Act→World→Prop}(hgd:op.guard=none)(x y:Operand)(ho:op.op=.store 220 x y)
  {eb j:Nat} {es:List RM.Sp} {z:RM.Sp} (h:ER w eb es) (hj:es[j]?=some z) (c:RM.Sp) (hx:a.eval x=.pointer (some ⟨eb,j*3,none⟩)) (hy:a.eval y=.agg #[.int .i64 c.fl,.int .i64 c.he,.int .i64 c.le])
  (hn:∀W',ER W' eb (es.set j c)→Kp (fun k=>k=eb) w W'→wpList Tryz.prog ops Q rest (a.put op.dst undef) W'):wpList Tryz.prog ops Q (op::rest) a w:=by
 refine wpList_store_mid hgd 220 x y ho eb (j*3) #[.int .i64 c.fl,.int .i64 c.he,.int .i64 c.le] hx hy (fun i hi=> ?_) infoT (by simp[Value.oneCell']) ?_
 ·have h3:=h.stop hj;refine⟨?_,blk_fr h _⟩;have:i=0∨i=1∨i=2:=by simp at hi;omega
  rcases this with rfl|rfl|rfl
  ·rw[h3 0 _ rfl];rfl
  ·rw[h3 1 _ rfl];rfl
  ·rw[h3 2 _ rfl];rfl
 ·obtain⟨h1,h2⟩:=h.put j c;exact hn _ h1 h2
theorem ret2T{fn:Func}{t p:Tmp}(hf:fn.results= #[.tmp t,.cell p 220]){tmps:Array Value}{w:World}{b:Nat}{a:RM.Sp}{u:Value}(hp:tmps.getD p undef=.pointer (some ⟨b,0,none⟩))(ht:tmps.getD t undef=u)(H:TB w b a):
  (results fn tmps).run Tryz.prog w=.ok (.tuple #[u,.agg #[.int .i64 a.fl,.int .i64 a.he,.int .i64 a.le]]) w:=by
 have hp':tmps[p]?.getD undef=.pointer (some ⟨b,0,none⟩):=by simpa using hp
 have ht':tmps[t]?.getD undef=u:=by simpa using ht
 simp[results,hf,hp',ht',asAddr,run_loadVar_row w b 220 220 _ _ _ H Tryz.underlying220 rfl infoT]
structure Ea(s:Sn)(p:List (List Int))(w c fi:Nat)(a:RM.Sp):Prop where
 ne:(fcar s p (w:Int) c).1<0→fi=0∧a.he=1099511627776
 eq:0≤(fcar s p (w:Int) c).1→(fcar s p (w:Int) c).1=(fi:Int)∧(fcar s p (w:Int) c).2=a.he∧fi<c∧∃z,(asp s s.cs p)[fi]?=some z∧a=RM.nx s.st z (RM.wf s.ws (w:Int))
section
variable {s:Sn} {p:List (List Int)} {w c fi:Nat} {a z:RM.Sp}
theorem Ea.zero(s:Sn)(p:List (List Int))(w:Nat):Ea s p w 0 0 ⟨0,1099511627776,0⟩:=⟨fun _=>⟨rfl,rfl⟩,fun h=>by have h2:(0:Int)≤ -1:=h;omega⟩
theorem Ea.no(h:Ea s p w c fi a)(hm:mayk s c (w:Int)=false):Ea s p w (c+1) fi a:=by
 have e:=fcar_no (p:=p) hm;refine⟨fun hn=>h.ne (by rwa[e]at hn),fun hn=> ?_⟩;rw[e]at hn⊢;obtain⟨h1,h2,h3,h4⟩:=h.eq hn;exact⟨h1,h2,by omega,h4⟩
theorem Ea.yes(h:Ea s p w c fi a)(hm:mayk s c (w:Int)=true)(hz:(asp s s.cs p)[c]?=some z)(ht:tend s p (w:Int) c=RM.ar s.st z (RM.wf s.ws (w:Int)))
  (hlt:(RM.nx s.st z (RM.wf s.ws (w:Int))).he<a.he):Ea s p w (c+1) c (RM.nx s.st z (RM.wf s.ws (w:Int))):=by
 have hhe:=RM.nx_he (s:=s.st) z (RM.wf s.ws (w:Int))
 have e:fcar s p (w:Int) (c+1)=((c:Int),tend s p (w:Int) c):=fcar_yes hm (by
  by_cases h0:(fcar s p (w:Int) c).1<0
  ·exact .inl h0
  ·right;have:=(h.eq (by omega)).2.1
   rw[this,ht,←hhe];exact hlt)
 rw[show Ea s p w (c+1) c (RM.nx s.st z (RM.wf s.ws (w:Int)))↔True from⟨fun _=>trivial,fun _=>⟨fun hn=>by rw[e]at hn;have h9:((c:Int))<0:=hn;omega,fun _=>by rw[e];exact⟨rfl,by rw[hhe];exact ht,by omega,z,hz,rfl⟩⟩⟩]
 trivial
theorem Ea.stay(h:Ea s p w c fi a)(ht:tend s p (w:Int) c=RM.ar s.st z (RM.wf s.ws (w:Int)))(hl:RM.ar s.st z (RM.wf s.ws (w:Int))<1099511627776)
  (hlt:¬(RM.nx s.st z (RM.wf s.ws (w:Int))).he<a.he):Ea s p w (c+1) fi a:=by
 have hhe:=RM.nx_he (s:=s.st) z (RM.wf s.ws (w:Int))
 have h0:¬(fcar s p (w:Int) c).1<0:=fun h0=>by
  have:=(h.ne h0).2;rw[hhe,this]at hlt;omega
 have e:fcar s p (w:Int) (c+1)=fcar s p (w:Int) c:=fcar_stay (fun hh=>by
  rcases hh with hh|hh
  ·exact h0 hh
  ·have:=(h.eq (by omega)).2.1;rw[this,ht,←hhe]at hh
   exact hlt hh)
 refine⟨fun hn=>h.ne (by rwa[e]at hn),fun hn=> ?_⟩;rw[e]at hn⊢;obtain⟨h1,h2,h3,h4⟩:=h.eq hn;exact⟨h1,h2,by omega,h4⟩
end
structure Eq1(W wr:World)(s:Sn)(eb:Nat)(es:List RM.Sp)(y1:Int)(m:Nat)(a:RM.Sp):Prop where
 sb:SB wr W.heap.size s.st
 wb:wr.heap[W.heap.size+1]?=some (.cells #[.int .i64 y1,.int .i64 (m:Int)] 182 (0,0))
 rb:TB wr (W.heap.size+1+1) ⟨0,0,0⟩
 ab:TB wr (W.heap.size+1+1+1) a
 er:ER wr eb es
 el:eb<W.heap.size
 bel:Below W.heap.size W wr
section
variable {W wr w':World} {s:Sn} {eb:Nat} {es:List RM.Sp} {y1:Int} {m:Nat} {a a':RM.Sp}
theorem Eq1.next(h:Eq1 W wr s eb es y1 m a)(hb:Below wr.heap.size wr w'):Eq1 W w' s eb es y1 m a:=
 ⟨h.sb.below' hb,(hb.block _ (Array.getElem?_eq_some_iff.1 h.wb).1).trans h.wb,h.rb.below' hb,h.ab.below' hb,h.er.below' hb,h.el,below_class h.bel hb⟩
theorem Eq1.put(h:Eq1 W wr s eb es y1 m a)(hk:Kp (fun k=>k=W.heap.size+1+1+1) wr w')(ht:TB w' (W.heap.size+1+1+1) a'):Eq1 W w' s eb es y1 m a':=by
 have h1:=h.ab.lt;refine⟨?_,(hk.block _ (Array.getElem?_eq_some_iff.1 h.wb).1 (by omega)).trans h.wb,h.rb.kp hk (by omega),ht,h.er.kp hk (by have:=h.el;omega),h.el,hk.below h.bel (by omega) (fun i hi e=>by omega)⟩;exact(hk.block _ h.sb.lt (by omega)).trans h.sb
end
theorem searliest_any(s:Sn)(p:List (List Int))(W:World)(eb w:Nat)(hE:ER W eb (asp s s.cs p))(z:RM.Rz s.st s.ws s.cs)(hcp:s.cs.length=p.length)(hc8:s.cs.length≤8)(haf:∀r∈s.cs,r.2≤1000000)(hpr:∀x∈p.flatten,0≤x∧x<s.ws.length)(hll:∀l∈p,l.length≤1000)
  (y1:Int) (m:Nat) (hy:s.ws[w]?=some (y1,(m:Int))) (hmm:∀c,mayk s c (w:Int)=PM.bt m c):
  Calls Tryz.prog 141 #[.agg (sv s.st).toArray,.slice (some ⟨eb,0,none⟩) s.cs.length s.cs.length,.agg #[.int .i64 y1,.int .i64 (m:Int)]] W fun e W'=>Below W.heap.size W W'∧∃(fi:Nat) (a:RM.Sp),e=.returned (.tuple #[.int .i64 (fi:Int),.agg #[.int .i64 a.fl,.int .i64 a.he,.int .i64 a.le]])∧Ea s p w s.cs.length fi a:=by
 have hel:(asp s s.cs p).length=s.cs.length:=asp_length hcp;have HZ:=Hd z;have HX:=Hd (And.intro haf (And.intro hpr hll));have HCP:=Hd hcp;have HY:=Hd hy;have HM:=Hd hmm;have HEL:=Hd hel;have HE0:=Hd hE;clear hE z hcp haf hpr hll hy hmm hel
 go_enter Tryz.func141,Tryz.ntmps141
 go_wp2_with fail
 have HQ0:Hid (Eq1 W ((((W.alloc (.cells (sv s.st).toArray 23)).alloc (.cells #[.int .i64 y1,.int .i64 (m:Int)] 182)).alloc (.cells #[.int .i64 0,.int .i64 0,.int .i64 0] 220)).alloc (.cells #[.int .i64 0,.int .i64 1099511627776,.int .i64 0] 220)) s eb (asp s s.cs p) y1 m ⟨0,1099511627776,0⟩):=by
  have hb1:=(Below.refl W.heap.size W).alloc (Nat.le_refl _) (.cells (sv s.st).toArray 23);have hb2:=hb1.alloc (by simp) (.cells #[.int .i64 y1,.int .i64 (m:Int)] 182);have hb3:=hb2.alloc (by simp<;>omega) (.cells #[.int .i64 0,.int .i64 0,.int .i64 0] 220);have hb4:=hb3.alloc (by simp<;>omega) (.cells #[.int .i64 0,.int .i64 1099511627776,.int .i64 0] 220);refine⟨?_,?_,?_,?_,HE0.out.below' hb4,HE0.out.lt,hb4⟩
  ·exact(Below.heap_alloc _ _ _ (by simp<;>omega)).trans ((Below.heap_alloc _ _ _ (by simp<;>omega)).trans ((Below.heap_alloc _ _ _ (by simp)).trans (World.alloc_heap_new W _)))
  ·have:=World.alloc_heap_new (W.alloc (.cells (sv s.st).toArray 23)) (.cells #[.int .i64 y1,.int .i64 (m:Int)] 182);rw[World.size_alloc]at this;exact(Below.heap_alloc _ _ _ (by simp<;>omega)).trans ((Below.heap_alloc _ _ _ (by simp)).trans this)
  ·have:=World.alloc_heap_new ((W.alloc (.cells (sv s.st).toArray 23)).alloc (.cells #[.int .i64 y1,.int .i64 (m:Int)] 182)) (.cells #[.int .i64 0,.int .i64 0,.int .i64 0] 220);rw[World.size_alloc,World.size_alloc]at this;exact(Below.heap_alloc _ _ _ (by simp)).trans this
  ·have:=World.alloc_heap_new (((W.alloc (.cells (sv s.st).toArray 23)).alloc (.cells #[.int .i64 y1,.int .i64 (m:Int)] 182)).alloc (.cells #[.int .i64 0,.int .i64 0,.int .i64 0] 220)) (.cells #[.int .i64 0,.int .i64 1099511627776,.int .i64 0] 220);rw[World.size_alloc,World.size_alloc,World.size_alloc]at this;exact this
 clear HE0;generalize ((((W.alloc (.cells (sv s.st).toArray 23)).alloc (.cells #[.int .i64 y1,.int .i64 (m:Int)] 182)).alloc (.cells #[.int .i64 0,.int .i64 0,.int .i64 0] 220)).alloc (.cells #[.int .i64 0,.int .i64 1099511627776,.int .i64 0] 220))=V at HQ0⊢
 go_loopw [8,16] (fun fv cv wr=>∃(c fi:Nat) (a:RM.Sp),c≤s.cs.length∧fi≤8∧fv=.int .i64 (fi:Int)∧cv=.int .i64 (c:Int)∧Hid (Ea s p w c fi a)∧Hid (Eq1 W wr s eb (asp s s.cs p) y1 m a)) (fun _ cv _=>s.cs.length-(intOf cv).toNat)
 case atStart=>exact⟨0,0,_,Nat.zero_le _,by omega,rfl,rfl,Ea.zero s p w,HQ0⟩
 case round=>
  clear HQ0;obtain⟨c,fi,a,hcn,hfi,rfl,rfl,HA,HQ⟩:=hrel;by_cases hlt:c<s.cs.length
  ·have hcz:(c:Int)<(s.cs.length:Int):=by omega
   obtain⟨r,hr⟩:∃r,s.cs[c]?=some r:=⟨_,List.getElem?_eq_getElem hlt⟩;obtain⟨l,hl⟩:∃l,p[c]?=some l:=⟨_,List.getElem?_eq_getElem (by have:=HCP.out;omega)⟩;have hes:=asp_get (s:=s) hr hl;have hall:∀x∈l,0≤x∧x<s.ws.length:=fun x hx=>HX.out.2.1 x (List.mem_flatten.2 ⟨l,List.mem_of_getElem? hl,hx⟩);have hin:=HZ.out.inn (l:=l) hall;have ok0:=HZ.out.cr r (List.mem_of_getElem? hr);have HOK:=Hd (RM.go_ok HZ.out.rt ok0 hin)
   have HLE:Hid ((RM.go s.st (RM.bg r) (l.map (RM.wf s.ws))).le≤100000000):=by
    have g3:=RM.go_le HZ.out.rt ok0 hin;rw[List.length_map]at g3;have g7:(RM.bg r).le=r.2:=rfl;have:=HX.out.1 r (List.mem_of_getElem? hr);have:=HX.out.2.2 l (List.mem_of_getElem? hl);show _≤_;omega
   have HTE:=Hd (tend_at (s:=s) (p:=p) (w:=(w:Int)) hr hl);have HES:=Hd hes;clear hr hl hall hin ok0 hes;generalize RM.go s.st (RM.bg r) (l.map (RM.wf s.ws))=z at HOK HLE HTE HES;have st:=HQ.out.er.stop HES.out;have s0:wr.cell? ⟨eb,c*3,none⟩=some (.int .i64 z.fl):=st 0 _ rfl;have s1:wr.cell? ⟨eb,c*3+1,none⟩=some (.int .i64 z.he):=st 1 _ rfl;have s2:wr.cell? ⟨eb,c*3+2,none⟩=some (.int .i64 z.le):=st 2 _ rfl;have HQ1:=Hd (HQ.out.next ((Below.refl wr.heap.size wr).alloc (Nat.le_refl _) (.cells #[.int .i64 z.fl,.int .i64 z.he,.int .i64 z.le] 220)));have HT1:=Hd (TB.new wr z);have d0:(wr.alloc (.cells #[.int .i64 z.fl,.int .i64 z.he,.int .i64 z.le] 220)).cell? ⟨W.heap.size+1,0,none⟩=some (.int .i64 y1):=by rw[cell_of_row _ _ 0 _ _ _ HQ1.out.wb];rfl
   have d1:(wr.alloc (.cells #[.int .i64 z.fl,.int .i64 z.he,.int .i64 z.le] 220)).cell? ⟨W.heap.size+1,1,none⟩=some (.int .i64 (m:Int)):=by rw[cell_of_row _ _ 1 _ _ _ HQ1.out.wb];rfl
   have HH:=Hd (shas_any y1 m c (by omega));clear st
   go_wp2_with fail
   refine (HH.out _).mono ?_;rintro r' V2 ⟨rfl,hb2⟩;have HQ2:=Hd (HQ1.out.next hb2);have HT2:=Hd (HT1.out.below' hb2);clear hb2 HQ1 HT1 d0 d1 s0 s1 s2 HH HQ;generalize wr.heap.size=eb2 at HT2⊢;cases hbt:PM.bt m c with
   |false=>
    have HA2:=Hd (HA.out.no ((HM.out c).trans hbt));clear hbt;go_wp2;go_roundw
    case rel=>exact⟨c+1,fi,a,by omega,hfi,rfl,by go_num,HA2,HQ2⟩
    case measure=>simp[intOf];omega
   |true=>
    have HMC:=Hd ((HM.out c).trans hbt);clear hbt;have hwr:=HZ.out.wr _ (List.mem_of_getElem? HY.out);have HWF:=Hd (RM.wf_get HY.out);have HNX:=Hd (next_any s.st HZ.out.rt z HOK.out HLE.out y1 hwr.1 hwr.2 V2);have HNE:=Hd (RM.nx_eq HOK.out y1);have HBD:Hid (RM.ar s.st z y1<1099511627776):=by have:=RM.ar_le HZ.out.rt HOK.out y1;have:=HLE.out;show _<_;omega
    have d2:V2.cell? ⟨W.heap.size+1,0,none⟩=some (.int .i64 y1):=by rw[cell_of_row _ _ 0 _ _ _ HQ2.out.wb];rfl
    have t0:=HT2.out.c0;have t1:=HT2.out.c1;have t2:=HT2.out.c2;clear hwr
    go_wp2_with (refine wpList_load23g rfl _ rfl W.heap.size s.st rfl HQ2.out.sb ?_)
    refine HNX.out.mono ?_;rintro r' V3 ⟨rfl,hb3⟩;have HQ3:=Hd (HQ2.out.next hb3);clear hb3 HQ2 HT2 HNX d2 t0 t1 t2;rw[←HWF.out]at HNE HBD;have HNE':=HNE;rw[HWF.out]at HNE';have HAY:=Hd (HA.out.yes HMC.out HES.out HTE.out);have HAS:=Hd (HA.out.stay (z:=z) HTE.out HBD.out);rw[HNE.out,HWF.out]at HAY HAS;generalize RM.ar s.st z y1=T at HAY HAS⊢;generalize T+RM.dw s.st=L at HAY HAS⊢;have HQ4:=Hd (HQ3.out.next ((Below.refl V3.heap.size V3).alloc (Nat.le_refl _) (.cells #[.int .i64 y1,.int .i64 T,.int .i64 L] 220)));have HT4:=Hd (TB.new V3 ⟨y1,T,L⟩);have a1:=HQ4.out.ab.c1;by_cases hlt2:T<a.he
    ·have HA2:=Hd (HAY.out hlt2);clear HAY HAS HNE HNE' HBD
     go_wp2_with fail
     clear a1;generalize V3.alloc (.cells #[.int .i64 y1,.int .i64 T,.int .i64 L] 220)=V4 at HQ4 HT4⊢;generalize V3.heap.size=nb at HT4⊢;have HTT:Hid (∀w',Below V4.drew.heap.size V4.drew w'→TB w' nb ⟨y1,T,L⟩):=fun w' hw=>HT4.out.below' ((Below.refl V4.heap.size V4).drew.trans hw);refine wp_region_tail 3 (by kernel_rfl) (by kernel_rfl) ?_;simp only[List.take_succ_cons,List.take_zero,List.drop_succ_cons,List.drop_zero];unfold wpCalm;generalize hK:wpCalm _ _ _ _ _=K;unfold Oper.calm;go_simp;refine⟨_,fun _ _=>rfl,?_⟩;subst hK;unfold wpCalm;generalize hK:wpCalm _ _ _ _ _=K;rw[if_pos (by go_simp)];refine calm_loadT _ nb ⟨y1,T,L⟩ rfl rfl HTT.out ?_;go_simp;subst hK;unfold wpCalm;generalize hK:wpCalm _ _ _ _ _=K;unfold Oper.calm;go_simp;refine⟨_,fun _ _=>rfl,?_⟩;subst hK;refine wpCalm_nil ?_;intro V5 hb5;have HQ5:=Hd (HQ4.out.next ((Below.refl V4.heap.size V4).drew.trans hb5));clear hb5 HTT HT4 HQ4
     go_wp2_with (refine wpList_storeT rfl _ _ rfl (W.heap.size+1+1+1) rfl rfl HQ5.out.ab ?_)
     intro V6 hk6 ht6;have HQ6:=Hd (HQ5.out.put hk6 ht6);clear hk6 ht6 HQ5;go_wp2;go_roundw
     case rel=>exact⟨c+1,c,_,by omega,by omega,rfl,by go_num,HA2,HQ6⟩
     case measure=>simp[intOf];omega
    ·have HA2:=Hd (HAS.out hlt2);clear HAY HAS HNE HNE' HBD;go_wp2;go_roundw
     case rel=>exact⟨c+1,fi,a,by omega,hfi,rfl,by go_num,HA2,HQ4⟩
     case measure=>simp[intOf];omega
  ·have hcz:¬(c:Int)<(s.cs.length:Int):=by omega
   have hce:c=s.cs.length:=by omega
   rw[hce]at HA;clear hce
   go_wp2_with fail
   have HTT:Hid (∀w',Below wr.drew.heap.size wr.drew w'→TB w' (W.heap.size+1+1+1) a):=fun w' hw=>HQ.out.ab.below' ((Below.refl wr.heap.size wr).drew.trans hw);refine wp_region_tail 3 (by kernel_rfl) (by kernel_rfl) ?_;simp only[List.take_succ_cons,List.take_zero,List.drop_succ_cons,List.drop_zero];unfold wpCalm;generalize hK:wpCalm _ _ _ _ _=K;unfold Oper.calm;go_simp;refine⟨_,fun _ _=>rfl,?_⟩;subst hK;unfold wpCalm;generalize hK:wpCalm _ _ _ _ _=K;rw[if_pos (by go_simp)];refine calm_loadT _ (W.heap.size+1+1+1) a rfl rfl HTT.out ?_;go_simp;subst hK;unfold wpCalm;generalize hK:wpCalm _ _ _ _ _=K;unfold Oper.calm;go_simp;refine⟨_,fun _ _=>rfl,?_⟩;subst hK;refine wpCalm_nil ?_;intro V5 hb5;have HQ5:=Hd (HQ.out.next ((Below.refl wr.heap.size wr).drew.trans hb5));clear hb5 HTT HQ
   go_wp2_with (refine wpList_storeT rfl _ _ rfl (W.heap.size+1+1) rfl rfl HQ5.out.rb ?_)
   intro V6 hk6 ht6;have HB6:=Hd (hk6.below HQ5.out.bel HQ5.out.bel.size (fun i hi e=>by omega));go_wp2;refine bodyPost_ret (ret2T Tryz.results141 rfl rfl ht6) rfl ⟨HB6.out,fi,a,rfl,HA.out⟩
theorem asp_add{s:Sn}{p:List (List Int)}{c:Nat}{x:Int}{z:RM.Sp}(hcp:s.cs.length=p.length)(hz:(asp s s.cs p)[c]?=some z):asp s s.cs (PM.add p c x)=(asp s s.cs p).set c (RM.nx s.st z (RM.wf s.ws x)):=by
 have hl:(asp s s.cs p).length=s.cs.length:=asp_length hcp;have hc:c<s.cs.length:=by rw[←hl];exact(List.getElem?_eq_some_iff.1 hz).1
 have hpl:(PM.add p c x).length=p.length:=by unfold PM.add;rw[List.length_set]
 refine List.ext_getElem? fun d=> ?_;by_cases hd:d<s.cs.length
 ·obtain⟨r,hr⟩:∃r,s.cs[d]?=some r:=⟨_,List.getElem?_eq_getElem hd⟩;obtain⟨l,hl'⟩:∃l,p[d]?=some l:=⟨_,List.getElem?_eq_getElem (by omega)⟩;by_cases e:c=d
  ·subst e;have h1:(PM.add p c x)[c]?=some (l++[x]):=by unfold PM.add;rw[List.getElem?_set_self (by omega),hl'];rfl
   have h2:=asp_get (s:=s) hr hl';rw[hz]at h2;cases h2;rw[asp_get hr h1,List.getElem?_set_self (by rw[hl];exact hc),List.map_append,List.map_cons,List.map_nil,RM.go_snoc]
  ·have h1:(PM.add p c x)[d]?=some l:=by unfold PM.add;rw[List.getElem?_set_ne e,hl']
   rw[asp_get hr h1,List.getElem?_set_ne e,asp_get hr hl']
 ·rw[List.getElem?_eq_none (by rw[asp_length (by rw[hcp,hpl])];omega),List.getElem?_eq_none (by rw[List.length_set,hl];omega)]
structure Fw(w W:World)(g:Nat)(s:Sn)(vc vw:Value)(us:List Value)(p:List (List Int))(es:List RM.Sp):Prop where
 nb:NB W w.heap.size s.st vc vw
 ow:OW W (w.heap.size+1) g us p
 er:ER W (g+1) es
 nl:∀(c:Nat) u,us[c]?=some u→u.ownBlock≠some (g+1)
 bel:Below w.heap.size w W
section
variable {w W W':World} {g:Nat} {s:Sn} {vc vw:Value} {us:List Value} {p:List (List Int)} {es es':List RM.Sp}
theorem Fw.next(h:Fw w W g s vc vw us p es)(hb:Below W.heap.size W W'):Fw w W' g s vc vw us p es:=⟨h.nb.below' hb,h.ow.next hb,h.er.below' hb,h.nl,below_class h.bel hb⟩
theorem Fw.put(h:Fw w W g s vc vw us p es)(hk:Kp (fun k=>k=g+1) W W')(he:ER W' (g+1) es'):Fw w W' g s vc vw us p es':=by
 have h1:=h.er.lt;have h5:=h.ow.bg;refine⟨h.nb.kp hk (by omega),⟨(hk.block _ h.ow.lt (by omega)).trans h.ow.hl,h.ow.len,fun c u l hu hl=>(h.ow.li c u l hu hl).keep fun k hk'=>hk.block k ((h.ow.li c u l hu hl).lt k hk').2 (fun e=>h.nl c u hu (e▸hk')),h.ow.bg,h.ow.ne,h.ow.dj⟩,he,h.nl,hk.below h.bel (by omega) (fun i hi e=>by omega)⟩
theorem Fw.add(h:Fw w W g s vc vw us p es){c:Nat}{u u':Value}{l:List Int}{x:Int}(hu:us[c]?=some u)(hl:p[c]?=some l)(hg:W.grownBy W' u.ownBlock){q:Nat}(hq:u'.ownBlock=some q)(hor:u.ownBlock=some q∨q=W.heap.size)(ho:OI W' (w.heap.size+1) u' (l++[x])):Fw w (W'.setCell ⟨g,c,none⟩ u') g s vc vw (us.set c u') (PM.add p c x) es:=by
 have ou:=h.ow.li c u l hu hl;have hs:=h.bel.size;have h1:=h.nb.lt;have h3:=h.er.lt;have hcl:c<us.length:=(List.getElem?_eq_some_iff.1 hu).1;refine⟨?_,h.ow.add hu hl hg hq hor ho,?_,fun d v hv=> ?_,?_⟩
 ·unfold NB;rw[Below.heap_setCell W' ⟨g,c,none⟩ _ _ (by have:=h.ow.bg;show w.heap.size≠g;omega),hg.block _ h1 (fun e=>by have:=(ou.lt _ e.symm).1;omega)];exact h.nb
 ·unfold ER;rw[Below.heap_setCell W' ⟨g,c,none⟩ _ _ (by show g+1≠g;omega),hg.block _ h3 (fun e=>h.nl c u hu e.symm)];exact h.er
 ·by_cases e:c=d
  ·subst e;rw[List.getElem?_set_self hcl]at hv;cases hv;rw[hq];intro e;cases e;rcases hor with e|e
   ·exact h.nl c u hu e
   ·omega
  ·rw[List.getElem?_set_ne e]at hv;exact h.nl d v hv
 ·exact(h.bel.grown hg hs (fun j hj=>by have:=(ou.lt j hj).1;omega)).setCell (p:=⟨g,c,none⟩) (by have:=h.ow.bg;show w.heap.size≤g;omega) _
end
section
variable (s:Sn) (D:Nat→Prop) (vc vw:Value) (w:World)
theorem first_yes(hc:R2 D w vc s.cs)(hw:R2 D w vw s.ws)(hr:rgt s=true):
  Calls Tryz.prog 105 #[.agg (nv s.st vc vw).toArray] w fun e w'=>Below w.heap.size w w'∧∃v,e=.returned (.tuple #[v,.int .i64 0])∧RL (fun g=>w.heap.size≤g) w' v (ffp s s.ws.length):=by
 have hbx:=(Below.refl w.heap.size w).alloc (Nat.le_refl _) (.cells (nv s.st vc vw).toArray 146);have hR:=snapRight_any s D vc vw _ (hc.below' hbx) (hw.below' hbx);rw[hr]at hR;have HR:=Hd hR;have HN:=Hd (NB.new w s.st vc vw);have HB:=Hd hbx;have HC:Hid (R2 (fun g=>g<w.heap.size) w vc s.cs):=hc.mono fun g _ h _=>h;have HW:Hid (R2 (fun g=>g<w.heap.size) w vw s.ws):=hw.mono fun g _ h _=>h;obtain⟨ac,kc,rfl,_,_⟩:=hc.form;obtain⟨aw,kw,rfl,_,_⟩:=hw.form;have HRT:=Hd hr;have HZ:=Hd (rgt_rz hr);have HAF:=Hd (rgt_after hr);obtain⟨n8,hrs⟩:=rgt_rs hr;have HRS:=Hd hrs;have hwl:s.ws.length≤128:=hrs.wl;have hcl:s.cs.length≤8:=by have:=hrs.cl;have:=hrs.n8;omega
 have k1:=mkL s.cs.length (by omega);have k2:=mkE s.cs.length (by omega);clear hc hw hr hbx hR hrs
 go_enter Tryz.func105,Tryz.ntmps105
 go_wp2_with (refine wpList_load27g rfl _ rfl w.heap.size s.st _ _ rfl HN.out ?_)
 refine HR.out.mono ?_;rintro e X ⟨rfl,hb1⟩;have HB1:=Hd (below_class HB.out hb1);have HN1:=Hd (HN.out.below' hb1);clear hb1 HR HN HB;have c13:X.cell? ⟨w.heap.size,13,none⟩=some (.slice ac s.cs.length kc):=HN1.out.cell 13;have c13b:(X.alloc (.cells (Array.replicate s.cs.length (Value.slice none 0 0)) 52)).cell? ⟨w.heap.size,13,none⟩=some (.slice ac s.cs.length kc):=(HN1.out.alloc _).cell 13;have c13c:((X.alloc (.cells (Array.replicate s.cs.length (Value.slice none 0 0)) 52)).alloc (.cells (tcs (List.replicate s.cs.length ⟨0,0,0⟩)).toArray 220)).cell? ⟨w.heap.size,13,none⟩=some (.slice ac s.cs.length kc):=((HN1.out.alloc _).alloc _).cell 13
 go_wp2_with fail
 clear c13 c13b c13c k1 k2
 have HF0:Hid (Fw w ((X.alloc (.cells (Array.replicate s.cs.length (Value.slice none 0 0)) 52)).alloc (.cells (tcs (List.replicate s.cs.length ⟨0,0,0⟩)).toArray 220)) X.heap.size s (.slice ac s.cs.length kc) (.slice aw s.ws.length kw) (List.replicate s.cs.length (Value.slice none 0 0)) (ffp s 0) (List.replicate s.cs.length ⟨0,0,0⟩)):=by
  have hbY:=(Below.refl X.heap.size X).alloc (Nat.le_refl _) (.cells (Array.replicate s.cs.length (Value.slice none 0 0)) 52);have hbZ:=(Below.refl (X.alloc (.cells (Array.replicate s.cs.length (Value.slice none 0 0)) 52)).heap.size (X.alloc (.cells (Array.replicate s.cs.length (Value.slice none 0 0)) 52))).alloc (Nat.le_refl _) (.cells (tcs (List.replicate s.cs.length ⟨0,0,0⟩)).toArray 220);have hg:w.heap.size+1≤X.heap.size:=HN1.out.lt;have hmk:=OW.make (B:=w.heap.size+1) X s.cs.length hg;rw[List.toArray_replicate]at hmk;refine⟨(HN1.out.alloc _).alloc _,hmk.next hbZ,?_,fun c u hu=> ?_,below_class (below_class HB1.out hbY) hbZ⟩
  ·have:=World.alloc_heap_new (X.alloc (.cells (Array.replicate s.cs.length (Value.slice none 0 0)) 52)) (.cells (tcs (List.replicate s.cs.length ⟨0,0,0⟩)).toArray 220);rw[World.size_alloc]at this;exact this
  ·rw[List.getElem?_replicate]at hu;split at hu
   ·cases hu;simp[Value.ownBlock]
   ·cases hu
 generalize (X.alloc (.cells (Array.replicate s.cs.length (Value.slice none 0 0)) 52)).alloc (.cells (tcs (List.replicate s.cs.length ⟨0,0,0⟩)).toArray 220)=Y at HF0⊢;generalize X.heap.size=g at HF0⊢;clear HB1 HN1
 go_loopw [26] (fun iv wr=>∃(j:Nat) (es:List RM.Sp),j≤s.cs.length∧iv=.int .i64 (j:Int)∧Hid (es.length=s.cs.length∧∀i,i<j→es[i]?=(s.cs[i]?).map RM.bg)∧Hid (Fw w wr g s (.slice ac s.cs.length kc) (.slice aw s.ws.length kw) (List.replicate s.cs.length (Value.slice none 0 0)) (ffp s 0) es)) (fun iv _=>s.cs.length-(intOf iv).toNat)
 case atStart=>exact⟨0,_,Nat.zero_le _,rfl,⟨by simp,fun i hi=>by omega⟩,HF0⟩
 case round=>
  clear HF0;obtain⟨j,es,hj,rfl,HE,HF⟩:=hrel;by_cases hlt:j<s.cs.length
  ·have hjz:(j:Int)<(s.cs.length:Int):=by omega
   obtain⟨r,hr⟩:∃r,s.cs[j]?=some r:=⟨_,List.getElem?_eq_getElem hlt⟩;obtain⟨gc,oc,hac,hc0,hc1⟩:=(HC.out.below' HF.out.bel).at hr;subst hac;obtain⟨a0,ha0⟩:∃a0,es[j]?=some a0:=⟨_,List.getElem?_eq_getElem (by have:=HE.out.1;omega)⟩
   have HE2:Hid ((es.set j (RM.bg r)).length=s.cs.length∧∀i,i<j+1→(es.set j (RM.bg r))[i]?=(s.cs[i]?).map RM.bg):=by
    refine⟨by rw[List.length_set];exact HE.out.1,fun i hi=> ?_⟩;by_cases e:j=i
    ·subst e;rw[List.getElem?_set_self (by have:=HE.out.1;omega),hr];rfl
    ·rw[List.getElem?_set_ne e];exact HE.out.2 i (by omega)
   have HA0:=Hd ha0;have hba:=(Below.refl wr.heap.size wr).alloc (Nat.le_refl _) (.cells #[.int .i64 r.1,.int .i64 r.2] 178);have HF2:=Hd (HF.out.next hba);have HRB:Hid ((wr.alloc (.cells #[.int .i64 r.1,.int .i64 r.2] 178)).heap[wr.heap.size]?=some (.cells #[.int .i64 r.1,.int .i64 r.2] 178 (0,0))):=World.alloc_heap_new wr _;have e0:(wr.alloc (.cells #[.int .i64 r.1,.int .i64 r.2] 178)).cell? ⟨wr.heap.size,0,none⟩=some (.int .i64 r.1):=by rw[cell_of_row _ _ 0 _ _ _ HRB.out];rfl
   have e1:(wr.alloc (.cells #[.int .i64 r.1,.int .i64 r.2] 178)).cell? ⟨wr.heap.size,1,none⟩=some (.int .i64 r.2):=by rw[cell_of_row _ _ 1 _ _ _ HRB.out];rfl
   have HBG:=Hd (begin_any r.1 r.2 (wr.alloc (.cells #[.int .i64 r.1,.int .i64 r.2] 178)));clear hba ha0 hr HF HRB
   go_wp2_with fail
   refine HBG.out.mono ?_;rintro e' V3 ⟨rfl,hb3⟩;have HF3:=Hd (HF2.out.next hb3);clear hb3 HF2 HBG hc0 hc1 e0 e1
   go_wp2_with (refine wpList_storeER rfl _ _ rfl HF3.out.er HA0.out (RM.bg r) rfl rfl ?_)
   intro V4 he4 hk4;have HF4:=Hd (HF3.out.put hk4 he4);clear he4 hk4 HF3;go_wp2;go_roundw
   case rel=>exact⟨j+1,_,by omega,by go_num,HE2,HF4⟩
   case measure=>simp[intOf];omega
  ·have hjz:¬(j:Int)<(s.cs.length:Int):=by omega
   have hes:es=asp s s.cs (ffp s 0):=by
    rw[show asp s s.cs (ffp s 0)=s.cs.map RM.bg from asp_empty (by simp[ffp]) (fun l hl=>List.eq_of_mem_replicate (show l∈List.replicate s.cs.length []from hl))];refine List.ext_getElem? fun i=> ?_;by_cases hi:i<s.cs.length
    ·rw[HE.out.2 i (by omega),List.getElem?_map]
    ·rw[List.getElem?_eq_none (by rw[HE.out.1];omega),List.getElem?_eq_none (by rw[List.length_map];omega)]
   have hF:=HF.out;rw[hes]at hF;have HF0:=Hd hF;clear hF HF hes HE;have c14:wr.cell? ⟨w.heap.size,14,none⟩=some (.slice aw s.ws.length kw):=HF0.out.nb.cell 14
   go_wp2_with fail
   clear c14;generalize wr=U at HF0⊢
   go_loopw [40] (fun iv wr=>∃(k:Nat) (us:List Value),k≤s.ws.length∧iv=.int .i64 (k:Int)∧Hid (Fw w wr g s (.slice ac s.cs.length kc) (.slice aw s.ws.length kw) us (ffp s k) (asp s s.cs (ffp s k)))) (fun iv _=>s.ws.length-(intOf iv).toNat)
   case atStart=>exact⟨0,_,Nat.zero_le _,rfl,HF0⟩
   case round=>
    clear HF0;obtain⟨k,us,hk,rfl,HF⟩:=hrel;by_cases hlt:k<s.ws.length
    ·have hkz:(k:Int)<(s.ws.length:Int):=by omega
     obtain⟨y,hy⟩:∃y,s.ws[k]?=some y:=⟨_,List.getElem?_eq_getElem hlt⟩;obtain⟨m,hm,hym⟩:=HRS.out.mm.eq k y hy;have HMY:Hid (∀c,mayk s c (k:Int)=PM.bt m c):=fun c=>by unfold mayk;rw[Int.toNat_natCast,hm];rfl
     obtain⟨gw,ow,haw,w0,w1⟩:=(HW.out.below' HF.out.bel).at hy;subst haw;obtain⟨y1,y2⟩:=y;simp only at hym;subst hym;have hpw:=ffp_pw HRT.out k hk;have HPW:=Hd hpw;have HMX:=Hd (ffp_max (s:=s) k);have hcp:s.cs.length=(ffp s k).length:=hpw.len.symm;have HF1:=Hd (HF.out.next ((Below.refl wr.heap.size wr).alloc (Nat.le_refl _) (.cells #[.int .i64 y1,.int .i64 (m:Int)] 182)));have HYB:Hid ((wr.alloc (.cells #[.int .i64 y1,.int .i64 (m:Int)] 182)).heap[wr.heap.size]?=some (.cells #[.int .i64 y1,.int .i64 (m:Int)] 182 (0,0))):=World.alloc_heap_new wr _
     have HEA:=Hd (searliest_any s (ffp s k) (wr.alloc (.cells #[.int .i64 y1,.int .i64 (m:Int)] 182)) (g+1) k HF1.out.er HZ.out hcp (by omega) HAF.out (fun x hx=>by
      obtain⟨l,hl,hxl⟩:=List.mem_flatten.1 hx;obtain⟨c,hc⟩:=List.getElem?_of_mem hl
      exact hpw.fr hc x hxl) (fun l hl=>by have:=ffp_max (s:=s) k l hl;omega) y1 m hy HMY.out)
     have e0:(wr.alloc (.cells #[.int .i64 y1,.int .i64 (m:Int)] 182)).cell? ⟨wr.heap.size,0,none⟩=some (.int .i64 y1):=by rw[cell_of_row _ _ 0 _ _ _ HYB.out];rfl
     have e1:(wr.alloc (.cells #[.int .i64 y1,.int .i64 (m:Int)] 182)).cell? ⟨wr.heap.size,1,none⟩=some (.int .i64 (m:Int)):=by rw[cell_of_row _ _ 1 _ _ _ HYB.out];rfl
     have HCP:=Hd hcp;have HY:=Hd hy;have HNB:=Hd HF1.out.nb;clear hy hm hpw hcp HF HYB
     go_wp2_with (refine wpList_load23n rfl _ rfl w.heap.size s.st _ _ rfl HNB.out ?_)
     refine HEA.out.mono ?_;rintro e' V3 ⟨hb3,fi,a,rfl,hea⟩;have HF3:=Hd (HF1.out.next hb3);clear hb3 HF1 HEA e0 e1 w0 w1 HNB
     have hex:∃d:Nat,(fcar s (ffp s k) (k:Int) s.cs.length).1=(d:Int)∧d<s.cs.length:=by
      rcases fcar_some (s:=s) (p:=ffp s k) (w:=(k:Int)) s.cs.length with⟨_,h2⟩|⟨d,h1,h2,_⟩
      ·obtain⟨d,hd,hm⟩:=has_car HRT.out hlt;rw[h2 d hd]at hm;cases hm
      ·exact⟨d,h1,h2⟩
     obtain⟨d,hfd,hdn⟩:=hex;obtain⟨h1,_,_,z,hz,hza⟩:=hea.eq (by rw[hfd];omega);have hdf:fi=d:=by rw[hfd]at h1;omega
     subst hdf;have HFD:=Hd hfd;have HZE:=Hd (And.intro hz hza)
     have HAS:Hid (asp s s.cs (ffp s (k+1))=(asp s s.cs (ffp s k)).set fi a):=by
      show asp s s.cs (PM.add (ffp s k) (fcar s (ffp s k) (k:Int) s.cs.length).1.toNat (k:Int))=_;rw[hfd,Int.toNat_natCast,asp_add HCP.out hz,←hza]
     have HFP:Hid (ffp s (k+1)=PM.add (ffp s k) fi (k:Int)):=by
      show PM.add (ffp s k) (fcar s (ffp s k) (k:Int) s.cs.length).1.toNat (k:Int)=_;rw[hfd,Int.toNat_natCast]
     clear h1 hz hza hfd hea;have hdz:(fi:Int)<(s.cs.length:Int):=by omega
     obtain⟨l,hl⟩:∃l,(ffp s k)[fi]?=some l:=⟨_,List.getElem?_eq_getElem (by rw[HPW.out.len];exact hdn)⟩;obtain⟨u,hu⟩:∃u,us[fi]?=some u:=⟨_,List.getElem?_eq_getElem (by rw[HF3.out.ow.len,HPW.out.len];exact hdn)⟩;have hl0:l.length≤1000000:=by have:=HMX.out l (List.mem_of_getElem? hl);omega
     have HF4:=Hd (HF3.out.next ((Below.refl V3.heap.size V3).alloc (Nat.le_refl _) (.cells #[.int .i64 a.fl,.int .i64 a.he,.int .i64 a.le] 220)));have HT4:=Hd (TB.new V3 a);have ou:=HF4.out.ow.li fi u l hu hl;have HOL:Hid (∀j,u.ownBlock=some j→j<V3.heap.size):=fun j hj=>((HF3.out.ow.li fi u l hu hl).lt j hj).2;have HGL:=Hd HF3.out.ow.lt;obtain⟨au,ku,rfl⟩:=ou.slice;have cu:(V3.alloc (.cells #[.int .i64 a.fl,.int .i64 a.he,.int .i64 a.le] 220)).cell? ⟨g,fi,none⟩=some (.slice au l.length ku):=(blk_cell HF4.out.ow.hl fi).trans hu;have HOU:=Hd ou;have HL:=Hd hl;have HU:=Hd hu;clear ou hl hu HF3;have HOA:=Hd (HOU.out.alloc (.cells #[.int .i64 (k:Int)] 3))
     have HCX:Hid (((V3.alloc (.cells #[.int .i64 a.fl,.int .i64 a.he,.int .i64 a.le] 220)).alloc (.cells #[.int .i64 (k:Int)] 3)).cell? ⟨V3.heap.size+1,0,none⟩=some (.int .i64 (k:Int))):=by
      have:=(OI.lit (B:=0) (V3.alloc (.cells #[.int .i64 a.fl,.int .i64 a.he,.int .i64 a.le] 220)) [(k:Int)] (Nat.zero_le _) (by unfold maxLen;simp)).cell (i:=0) rfl;rwa[World.size_alloc]at this
     have HFA:=Hd (HF4.out.next ((Below.refl _ _).alloc (Nat.le_refl _) (.cells #[.int .i64 (k:Int)] 3)));have HTA:=Hd (HT4.out.below' ((Below.refl _ _).alloc (Nat.le_refl _) (.cells #[.int .i64 (k:Int)] 3)));have HSZ:Hid (w.heap.size+1≤V3.heap.size):=by have h1:=HF4.out.ow.lt;have h2:=HF4.out.ow.bg;have h3:=HF4.out.er.lt;simp at h1 h3;show _≤_;omega
     have HAZ:Hid (((V3.alloc (.cells #[.int .i64 a.fl,.int .i64 a.he,.int .i64 a.le] 220)).alloc (.cells #[.int .i64 (k:Int)] 3)).heap.size=V3.heap.size+1+1):=by show _=_;simp
     clear HF4 HT4 HOU
     go_wp2_with (at_builtin;refine wpList_appI rfl _ _ rfl (w.heap.size+1) _ l rfl HOA.out (V3.heap.size+1) 1 (k:Int) rfl HCX.out hl0 ?qb2 ?_)
     case qb2=>have:=HSZ.out;simp;omega
     intro g7 c7 W7 ho7 hg7 hat7 hlt7;have hgb:W7.heap[g]?=_:=(hg7.block g HFA.out.ow.lt (fun e=>HFA.out.ow.ne fi _ HU.out e.symm)).trans HFA.out.ow.hl;have d1:W7.cell? ⟨g,fi,none⟩=some (.slice au l.length ku):=(blk_cell hgb fi).trans HU.out;have d2:W7.frozen? ⟨g,fi,none⟩=false:=blk_fr hgb fi;have hau:(Value.slice au l.length ku).ownBlock≠some V3.heap.size:=fun e=>by have:=HOL.out _ e;omega
     have HT8:Hid (TB (W7.setCell ⟨g,fi,none⟩ (.slice (some ⟨g7,0,none⟩) (l.length+1) c7)) V3.heap.size a):=by
      show TB _ _ _;unfold TB;rw[Below.heap_setCell W7 ⟨g,fi,none⟩ _ _ (by have:=HGL.out;show V3.heap.size≠g;omega),hg7.block _ HTA.out.lt (fun e=>hau e.symm)];exact HTA.out
     have HF8:=Hd (HFA.out.add HU.out HL.out hg7 (q:=g7) (u':=.slice (some ⟨g7,0,none⟩) (l.length+1) c7) rfl (hat7.imp id fun e=>by rw[e];simp) ho7);rw[←HFP.out]at HF8;clear ho7 hg7 hat7 hlt7 HOA HCX HFA HTA cu hgb hau;have t0:=HT8.out.c0;have t1:=HT8.out.c1;have t2:=HT8.out.c2
     go_wp2_with (refine wpList_storeER rfl _ _ rfl HF8.out.er HZE.out.1 a rfl rfl ?_)
     intro W9 he9 hk9;have HF9:=Hd (HF8.out.put hk9 he9);rw[←HAS.out]at HF9;clear he9 hk9 HF8 HT8 t0 t1 t2 d1 d2;go_wp2;go_roundw
     case rel=>exact⟨k+1,_,by omega,by go_num,HF9⟩
     case measure=>simp[intOf];omega
    ·have hkz:¬(k:Int)<(s.ws.length:Int):=by omega
     have hke:k=s.ws.length:=by omega
     have HE:Hid (RL (fun g=>w.heap.size≤g) wr (.slice (some ⟨g,0,none⟩) s.cs.length s.cs.length) (ffp s s.ws.length)):=by
      have hlen:=(ffp_pw HRT.out k hk).len;have:=HF.out.ow.rl (D:=fun g=>w.heap.size≤g) fun q hq=>by show _≤q;omega
      rw[hlen,hke]at this;exact this
     have HB:=Hd HF.out.bel;clear HF hke;go_wp2
     go_ret2
     exact⟨HB.out,_,rfl,HE.out⟩
end
def GB(W:World)(b:Nat)(vp:Value)(co:Int)(ok:Bool)(n:Int)(vf:Value):Prop:=W.heap[b]?=some (.cells (rcl vp co ok n vf).toArray 152 (0,0))
section
variable {W W':World} {b:Nat} {vp vf:Value} {co n:Int} {ok:Bool}
theorem GB.lt(H:GB W b vp co ok n vf):b<W.heap.size:=(Array.getElem?_eq_some_iff.1 H).1
theorem GB.below'(H:GB W b vp co ok n vf)(hb:Below W.heap.size W W'):GB W' b vp co ok n vf:=(hb.block b H.lt).trans H
theorem GB.kp{G:Nat→Prop}(H:GB W b vp co ok n vf)(k:Kp G W W')(hG:¬G b):GB W' b vp co ok n vf:=(k.block b H.lt hG).trans H
theorem GB.new(W:World)(vp:Value)(co:Int)(ok:Bool)(n:Int)(vf:Value):GB (W.alloc (.cells #[vp,.int .i64 co,.bool ok,.int .i64 n,vf] 152)) W.heap.size vp co ok n vf:=World.alloc_heap_new W _
theorem GB.cell(H:GB W b vp co ok n vf)(i:Nat):W.cell? ⟨b,i,none⟩=(rcl vp co ok n vf)[i]?:=blk_cell H i
theorem GB.fr(H:GB W b vp co ok n vf)(i:Nat):W.frozen? ⟨b,i,none⟩=false:=blk_fr H i
end
theorem infoG:(Tryz.prog.info? 152).map (·.size)=some 5:=by kernel_rfl
theorem wpList_storeG{ops:Array Oper}{rest:List Oper}{op:Oper}{a:Act}{w:World}{Q:Exit→Act→World→Prop}(hgd:op.guard=none)(x y:Operand)(ho:op.op=.store 152 x y)
  (b:Nat) {vp vf:Value} {co n:Int} {ok:Bool} {a1 a2:Option Addr} {n1 c1 n2 c2:Nat} {co' n':Int} {ok':Bool} (hx:a.eval x=.pointer (some ⟨b,0,none⟩)) (hy:a.eval y=.agg #[.slice a1 n1 c1,.int .i64 co',.bool ok',.int .i64 n',.slice a2 n2 c2]) (hL:GB w b vp co ok n vf)
  (hn:∀W',Kp (fun k=>k=b) w W'→GB W' b (.slice a1 n1 c1) co' ok' n' (.slice a2 n2 c2)→wpList Tryz.prog ops Q rest (a.put op.dst undef) W'):wpList Tryz.prog ops Q (op::rest) a w:=
 wpList_store_row hgd 152 x y ho b _ hx hy _ _ hL infoG rfl (by simp[Value.oneCell']) (hn _ (kp_row b w _) (setRow_heap w b _ _ _ _ hL))
theorem wpList_loadG{ops:Array Oper}{rest:List Oper}{op:Oper}{a:Act}{w:World}{Q:Exit→Act→World→Prop}(hgd:op.guard=none)(x:Operand)(ho:op.op=.load 152 x)(b:Nat){vp vf:Value}{co n:Int}{ok:Bool}(hx:a.eval x=.pointer (some ⟨b,0,none⟩))(H:GB w b vp co ok n vf)
  (hn:wpList Tryz.prog ops Q rest (a.put op.dst (.agg #[vp,.int .i64 co,.bool ok,.int .i64 n,vf])) w):wpList Tryz.prog ops Q (op::rest) a w:=
 wpList_load_row hgd 152 x ho b hx _ _ _ _ H Tryz.underlying152 rfl infoG hn
theorem retG2{fn:Func}{p t:Tmp}(hf:fn.results= #[.cell p 152,.tmp t]){tmps:Array Value}{w:World}{b:Nat}{vp vf:Value}{co n:Int}{ok:Bool}{u:Value}(hp:tmps.getD p undef=.pointer (some ⟨b,0,none⟩))(ht:tmps.getD t undef=u)(H:GB w b vp co ok n vf):
  (results fn tmps).run Tryz.prog w=.ok (.tuple #[.agg #[vp,.int .i64 co,.bool ok,.int .i64 n,vf],u]) w:=by
 have hp':tmps[p]?.getD undef=.pointer (some ⟨b,0,none⟩):=by simpa using hp
 have ht':tmps[t]?.getD undef=u:=by simpa using ht
 have H':w.heap[b]?=some (.cells #[vp,.int .i64 co,.bool ok,.int .i64 n,vf] 152 (0,0)):=H;simp[results,hf,hp',ht',asAddr,run_loadVar_row w b 152 152 _ _ _ H' Tryz.underlying152 rfl infoG]
theorem OY.less{W:World}{B B':Nat}{v:Value}{l:List Nat}(h:OY W B v l)(hb:B'≤B):OY W B' v l:=
 ⟨h.1,h.2.imp id fun⟨g,c,u,h1,h2,h3⟩=>⟨g,c,u,h1,Nat.le_trans hb h2,h3⟩⟩
theorem OY.low{W:World}{B:Nat}{v:Value}{l:List Nat}(h:OY W B v l):OY W 0 v l:=h.less (Nat.zero_le _)
end Go.Proofs.YtlajleogofmkcaaGreat
