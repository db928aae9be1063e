import Derived.Test.YtnkelgdnglaafaaGreatQ9
set_option maxHeartbeats 8000000
set_option maxRecDepth 100000
namespace Go.Proofs.YtnkelgdnglaafaaGreat
open Go.RowKit Go.Shelf
theorem TR.time{D:Nat→Prop}{W:World}{tb:Nat}{s:Sn}{vc vw vb:Value}(h:TR D W tb s vc vw vb){k j:Nat}{y:Int×Int}(hk:k<s.cs.length)(hy:s.ws[j]?=some y):
  ∃g o cap,vb=.slice (some ⟨g,o,none⟩) s.cs.length cap∧∃g' o' cap',W.cell? ⟨g,o+k,none⟩=some (.slice (some ⟨g',o',none⟩) s.ws.length cap')∧W.cell? ⟨g',o'+j,none⟩=some (.int .i64 (alo s (k+1) y)):=by
 obtain⟨a,cap,rfl,_,_⟩:=h.bh.form;obtain⟨g,o,rfl,u,hu,hri⟩:=h.bh.at (bhd_get s hk);rw[bhd_length];obtain⟨a',cap',rfl,_,_⟩:=hri.form;obtain⟨g',o',rfl,hc⟩:=hri.at (i:=j) (y:=alo s (k+1) y) (by rw[List.getElem?_map,hy];rfl);rw[List.length_map]at hu;exact⟨g,o,cap,rfl,g',o',cap',hu,hc⟩
structure Lq(D:Nat→Prop)(W wr:World)(tb:Nat)(s:Sn)(vc vw vb:Value)(e:En):Prop where
 tr:TR D wr tb s vc vw vb
 nk:NK wr W.heap.size (e.c s)
 bel:Below W.heap.size W wr
theorem Lq.next{D:Nat→Prop}{W wr w':World}{tb:Nat}{s:Sn}{vc vw vb:Value}{e:En}(h:Lq D W wr tb s vc vw vb e)(hb:Below wr.heap.size wr w'):Lq D W w' tb s vc vw vb e:=⟨h.tr.below' hb,h.nk.below' hb,below_class h.bel hb⟩
theorem En.cell1(s:Sn)(e:En):(e.c s)[1]?=some (.int .i64 (e.nd.k:Int)):=rfl
section
variable {D:Nat→Prop} {W:World} {tb:Nat} {s:Sn} {vc vw vb:Value} {e:En}
theorem tleast_any(ht:TR D W tb s vc vw vb)(ok:e.nd.ok s):
  Calls Tryz.prog 95 #[.pointer (some ⟨tb,0,none⟩),.agg (e.c s).toArray] W fun r w'=>r=.returned (.int .i64 (lsv s e.nd.k e.nd.b e.nd.st))∧Below W.heap.size W w':=by
 have hb0:=(Below.refl W.heap.size W).alloc (Nat.le_refl _) (.cells (e.c s).toArray 171);have HL0:Hid (Lq D W (W.alloc (.cells (e.c s).toArray 171)) tb s vc vw vb e):=⟨ht.below' hb0,NK.new W (En.len s e),hb0⟩;obtain⟨aw,kw,rfl,_,_⟩:=ht.ws.form;have c6:(W.alloc (.cells (e.c s).toArray 171)).cell? ⟨W.heap.size,6,none⟩=some (.int .i64 (RM.cst s.st s.ws s.cs e.nd.b)):=HL0.out.nk.cell 6;have c14:=HL0.out.tr.c14;have HOK:=Hd ok;have HNB:=Hd ok.nb;obtain⟨n8,hrs⟩:=rgt_rs ht.rg;have HRS:=Hd hrs;have hwl:s.ws.length≤128:=hrs.wl;have hkc:e.nd.k<s.cs.length:=by have:=ok.kl;have:=ok.bl;omega
 have hk8:e.nd.k≤8:=by have:=hrs.cl;have:=hrs.n8;omega
 generalize hT:lsv s e.nd.k e.nd.b e.nd.st=T;have HTT:=Hd hT;obtain⟨ct,HCT⟩:∃ct,Hid (RM.cst s.st s.ws s.cs e.nd.b=ct):=⟨_,Hd rfl⟩;rw[HCT.out]at c6;clear ht hb0 ok hrs hT
 go_enter Tryz.func95,Tryz.ntmps95
 go_wp2_with fail
 clear c6 c14;generalize W.alloc (.cells (e.c s).toArray 171)=W1 at HL0⊢
 go_loopw [5,17] (fun tv jv wr=>∃(j:Nat) (t:Int),j≤s.ws.length∧tv=.int .i64 t∧jv=.int .i64 (j:Int)∧Hid (t=lsk s e.nd.k e.nd.b e.nd.st j)∧Hid (Lq D W wr tb s vc (.slice aw s.ws.length kw) vb e)) (fun _ jv _=>s.ws.length-(intOf jv).toNat)
 case atStart=>exact⟨0,ct,Nat.zero_le _,rfl,rfl,by show _=_;rw[lsk_zero,HCT.out],HL0⟩
 case round=>
  clear HL0;obtain⟨j,t,hj,rfl,rfl,HT,HL⟩:=hrel;by_cases hlt:j<s.ws.length
  ·have hjz:(j:Int)<(s.ws.length:Int):=by omega
   obtain⟨y,hy⟩:∃y,s.ws[j]?=some y:=⟨_,List.getElem?_eq_getElem hlt⟩;obtain⟨q,hq⟩:∃q,e.nd.st[j]?=some q:=⟨_,List.getElem?_eq_getElem (by rw[HOK.out.sl];exact hlt)⟩;obtain⟨gw,ow,haw,w0,w1⟩:=HL.out.tr.ws.at hy;subst haw;have hja:j<128:=by omega
   have HL1:=Hd (HL.out.next ((Below.refl wr.heap.size wr).alloc (Nat.le_refl _) (.cells #[.int .i64 y.1,.int .i64 y.2] 131)));have HY1:=Hd (World.alloc_heap_new wr (.cells #[.int .i64 y.1,.int .i64 y.2] 131));have c8:(wr.alloc (.cells #[.int .i64 y.1,.int .i64 y.2] 131)).cell? ⟨W.heap.size,8+j,none⟩=some (.bool q):=(HL1.out.nk.cell (8+j)).trans (ncl_st (by rw[HOK.out.sl];exact hwl) hq);cases q with
   |true=>
    have HT2:Hid (t=lsk s e.nd.k e.nd.b e.nd.st (j+1)):=by
     show _=_;rw[lsk_same (by rw[hq];simp),HT.out]
    clear hq hy HL HY1;go_wp2;go_roundw
    case rel=>exact⟨j+1,t,by omega,rfl,by go_num,HT2,HL1⟩
    case measure=>simp[intOf];omega
   |false=>
    obtain⟨m,hm,hym⟩:=HRS.out.mm.eq j y hy;have HSPL:=Hd (optw_split HOK.out hy);have HMY:Hid (mayk s e.nd.k (j:Int)=PM.bt m e.nd.k):=by show _=_;unfold mayk;rw[Int.toNat_natCast,hm];rfl
    rw[HMY.out]at HSPL;have HMO:=Hd (lsk_more HNB.out.bs (fun l hl=>by have:=HNB.out.ll l hl;omega) hja hq);rw[←HT.out]at HMO;obtain⟨u,HU⟩:∃u,Hid (u=lsk s e.nd.k e.nd.b e.nd.st (j+1)):=⟨_,Hd rfl⟩;rw[←HU.out]at HMO;have HY:=Hd hy;obtain⟨y1,y2⟩:=y;simp only at hym;subst hym;clear hq hy hm HL HMY
    go_wp2_with fail
    clear w0 w1 c8;have HY2:Hid ((wr.alloc (.cells #[.int .i64 y1,.int .i64 (m:Int)] 131)).heap[wr.heap.size]?=some (.cells #[.int .i64 y1,.int .i64 (m:Int)] 131 (0,0))):=HY1.out;clear HY1;generalize wr.alloc (.cells #[.int .i64 y1,.int .i64 (m:Int)] 131)=V at HL1 HY2⊢;generalize wr.heap.size=wb at HY2⊢;obtain⟨gb,ob,cb,hvb,gb2,ob2,cb2,hr1,hr2⟩:=HL1.out.tr.time hkc HY.out;subst hvb;have hcell:∀{w':World} {p:Addr} {v:Value},Below V.drew.heap.size V.drew w'→V.cell? p=some v→w'.cell? p=some v:=fun hw h=>(Below.cell ((Below.refl V.heap.size V).drew.trans hw) (World.block_lt_of_cell? V _ h)).trans h;have H15:Hid (∀w',Below V.drew.heap.size V.drew w'→w'.cell? ⟨tb,15,none⟩=some (.slice (some ⟨gb,ob,none⟩) s.cs.length cb)):=fun w' hw=>hcell hw HL1.out.tr.c15;have HKK:Hid (∀w',Below V.drew.heap.size V.drew w'→w'.cell? ⟨W.heap.size,1,none⟩=some (.int .i64 (e.nd.k:Int))):=fun w' hw=>hcell hw (HL1.out.nk.cell 1);have HR1:Hid (∀w',Below V.drew.heap.size V.drew w'→w'.cell? ⟨gb,ob+e.nd.k,none⟩=some (.slice (some ⟨gb2,ob2,none⟩) s.ws.length cb2)):=fun w' hw=>hcell hw hr1;have HR2:Hid (∀w',Below V.drew.heap.size V.drew w'→w'.cell? ⟨gb2,ob2+j,none⟩=some (.int .i64 (alo s (e.nd.k+1) (y1,(m:Int))))):=fun w' hw=>hcell hw hr2;clear hr1 hr2 hcell;generalize alo s (e.nd.k+1) (y1,(m:Int))=A at HSPL HR2;refine wp_region_tail 11 (by kernel_rfl) (by kernel_rfl) ?_;simp only[List.take_succ_cons,List.take_zero,List.drop_succ_cons,List.drop_zero]
    iterate 3 (unfold wpCalm;generalize hK:wpCalm _ _ _ _ _=K;unfold Oper.calm;go_simp;refine⟨_,fun _ _=>rfl,?_⟩;subst hK)
    unfold wpCalm;generalize hK:wpCalm _ _ _ _ _=K;rw[if_pos (by go_simp)];refine calm_loadBH _ _ _ rfl rfl H15.out ?_;go_simp;subst hK;unfold wpCalm;generalize hK:wpCalm _ _ _ _ _=K;unfold Oper.calm;go_simp;refine⟨_,fun _ _=>rfl,?_⟩;subst hK;unfold wpCalm;generalize hK:wpCalm _ _ _ _ _=K;rw[if_pos (by go_simp)];refine calm_load3 _ _ _ rfl rfl HKK.out ?_;go_simp;subst hK;unfold wpCalm;generalize hK:wpCalm _ _ _ _ _=K;rw[if_pos (by go_simp)];refine calm_ixB _ _ rfl rfl rfl hkc ?_;go_simp;subst hK;unfold wpCalm;generalize hK:wpCalm _ _ _ _ _=K;rw[if_pos (by go_simp)];refine calm_loadLI _ _ _ rfl rfl HR1.out ?_;go_simp;subst hK;unfold wpCalm;generalize hK:wpCalm _ _ _ _ _=K;unfold Oper.calm;go_simp;refine⟨_,fun _ _=>rfl,?_⟩;subst hK;unfold wpCalm;generalize hK:wpCalm _ _ _ _ _=K;rw[if_pos (by go_simp)];refine calm_ixI _ _ rfl rfl rfl hlt ?_;go_simp;subst hK;unfold wpCalm;generalize hK:wpCalm _ _ _ _ _=K;rw[if_pos (by go_simp)];refine calm_load3 _ _ _ rfl rfl HR2.out ?_;go_simp;subst hK;refine wpCalm_nil ?_;intro V2 hb2;have hbd:=(Below.refl V.heap.size V).drew.trans hb2;have HL2:=Hd (HL1.out.next hbd);have HY3:Hid (V2.heap[wb]?=some (.cells #[.int .i64 y1,.int .i64 (m:Int)] 131 (0,0))):=(hbd.block wb (Array.getElem?_eq_some_iff.1 HY2.out).1).trans HY2.out;clear hbd hb2 H15 HKK HR1 HR2 HL1 HY2;have d0:V2.cell? ⟨wb,0,none⟩=some (.int .i64 y1):=by rw[cell_of_row _ _ 0 _ _ _ HY3.out];rfl
    have d1:V2.cell? ⟨wb,1,none⟩=some (.int .i64 (m:Int)):=by rw[cell_of_row _ _ 1 _ _ _ HY3.out];rfl
    have d2:V2.cell? ⟨W.heap.size,1,none⟩=some (.int .i64 (e.nd.k:Int)):=HL2.out.nk.cell 1;have HH:=Hd (shas_any y1 m e.nd.k (by omega))
    go_wp2_with fail
    refine (HH.out _).mono ?_;rintro r V3 ⟨rfl,hb3⟩;have HL3:=Hd (HL2.out.next hb3);have HY4:Hid (V3.heap[wb]?=some (.cells #[.int .i64 y1,.int .i64 (m:Int)] 131 (0,0))):=(hb3.block wb (Array.getElem?_eq_some_iff.1 HY3.out).1).trans HY3.out;clear hb3 HL2 HY3 d0 d1 d2 HH;cases hbt:PM.bt m e.nd.k with
    |false=>
     rw[hbt,if_neg (by simp)]at HSPL;rw[HSPL.out]at HMO;have HAD:Hid (∀w',Calls Tryz.prog 58 #[.int .i64 t,.int .i64 A] w' fun r w''=>r=.returned (.int .i64 u)∧w''=w'):=fun w'=>by have:=add_any t A w';rw[HMO.out]at this;exact this
     clear hbt HSPL HMO HY4
     go_wp2_with (go_at_call 58;refine (HAD.out _).mono ?_;rintro r w' ⟨rfl,rfl⟩)
     go_roundw
     case rel=>exact⟨j+1,u,by omega,rfl,by go_num,HU,HL3⟩
     case measure=>simp[intOf];omega
    |true=>
     rw[hbt,if_pos rfl]at HSPL;rw[HSPL.out]at HMO;have hwr:=HNB.out.bs.rz.wr _ (List.mem_of_getElem? HY.out);have HNX:Hid (∀w',Calls Tryz.prog 129 #[.agg (sv s.st).toArray,.agg #[.int .i64 (sat s e.nd).fl,.int .i64 (sat s e.nd).he,.int .i64 (sat s e.nd).le],.int .i64 y1] w' fun r w''=>r=.returned (.agg #[.int .i64 y1,.int .i64 (RM.ar s.st (sat s e.nd) y1),.int .i64 (RM.ar s.st (sat s e.nd) y1+RM.dw s.st)])∧Below w'.heap.size w' w''):=fun w'=>next_any s.st HNB.out.bs.rz.rt (sat s e.nd) HNB.out.sk HNB.out.sl y1 hwr.1 hwr.2 w';have hdr:∀w',Below V3.drew.heap.size V3.drew w'→Lq D W w' tb s vc (.slice (some ⟨gw,ow,none⟩) s.ws.length kw) (.slice (some ⟨gb,ob,none⟩) s.cs.length cb) e:=fun w' hw=>HL3.out.next ((Below.refl V3.heap.size V3).drew.trans hw);have HST:Hid (∀w',Below V3.drew.heap.size V3.drew w'→w'.rangeAt tb 0 (sv s.st)):=fun w' hw=>(hdr w' hw).tr.site
     have HAT:Hid (∀w',Below V3.drew.heap.size V3.drew w'→w'.rangeAt W.heap.size 3 [.int .i64 (sat s e.nd).fl,.int .i64 (sat s e.nd).he,.int .i64 (sat s e.nd).le]):=fun w' hw=>fun i v hv=>by
      rw[(hdr w' hw).nk.cell]
      match i,hv with
      |0,hv=>cases hv;rfl
      |1,hv=>cases hv;rfl
      |2,hv=>cases hv;rfl
      |i+3,hv=>simp at hv
     have HXG:Hid (∀w',Below V3.drew.heap.size V3.drew w'→w'.cell? ⟨wb,0,none⟩=some (.int .i64 y1)):=fun w' hw=>by
      rw[cell_of_row _ _ 0 _ _ _ ((((Below.refl V3.heap.size V3).drew.trans hw).block wb (Array.getElem?_eq_some_iff.1 HY4.out).1).trans HY4.out)];rfl
     clear hdr hbt HSPL hwr;generalize RM.ar s.st (sat s e.nd) y1=R at HNX HMO;generalize R+RM.dw s.st=L at HNX;generalize sat s e.nd=a0 at HNX HAT;have HAD:Hid (∀w',Calls Tryz.prog 58 #[.int .i64 t,.int .i64 (min A R)] w' fun r w''=>r=.returned (.int .i64 u)∧w''=w'):=fun w'=>by have:=add_any t (min A R) w';rw[HMO.out]at this;exact this
     clear HMO
     go_wp2_with fail
     refine wp_region_tail 13 (by kernel_rfl) (by kernel_rfl) ?_;simp only[List.take_succ_cons,List.take_zero,List.drop_succ_cons,List.drop_zero]
     iterate 5 (unfold wpCalm;generalize hK:wpCalm _ _ _ _ _=K;unfold Oper.calm;go_simp;refine⟨_,fun _ _=>rfl,?_⟩;subst hK)
     unfold wpCalm;generalize hK:wpCalm _ _ _ _ _=K;rw[if_pos (by go_simp)];refine calm_load23b _ tb s.st rfl rfl HST.out ?_;go_simp;subst hK;unfold wpCalm;generalize hK:wpCalm _ _ _ _ _=K;unfold Oper.calm;go_simp;refine⟨_,fun _ _=>rfl,?_⟩;subst hK;unfold wpCalm;generalize hK:wpCalm _ _ _ _ _=K;rw[if_pos (by go_simp)];refine calm_loadE _ _ _ a0 rfl rfl HAT.out ?_;go_simp;subst hK;unfold wpCalm;generalize hK:wpCalm _ _ _ _ _=K;unfold Oper.calm;go_simp;refine⟨_,fun _ _=>rfl,?_⟩;subst hK;unfold wpCalm;generalize hK:wpCalm _ _ _ _ _=K;rw[if_pos (by go_simp)];refine calm_load3 _ _ _ rfl rfl HXG.out ?_;go_simp;subst hK;unfold wpCalm;generalize hK:wpCalm _ _ _ _ _=K;unfold Oper.calm;go_simp;refine⟨_,fun w' hw=>HNX.out w',?_⟩;subst hK;unfold wpCalm;generalize hK:wpCalm _ _ _ _ _=K;rw[if_pos (by go_simp)];refine calm_fieldT _ rfl rfl ?_;go_simp;subst hK;unfold wpCalm;generalize hK:wpCalm _ _ _ _ _=K;rw[if_pos (by go_simp)];refine calm_min _ _ rfl rfl rfl ?_;go_simp;subst hK;refine wpCalm_nil ?_;intro V4 hb4;have hbd:=(Below.refl V3.heap.size V3).drew.trans hb4;have HL4:=Hd (HL3.out.next hbd);clear hbd hb4 HST HAT HXG HNX HL3 HY4;generalize min A R=mn at HAD⊢
     go_wp2_with (go_at_call 58;refine (HAD.out _).mono ?_;rintro r w' ⟨rfl,rfl⟩)
     go_roundw
     case rel=>exact⟨j+1,u,by omega,rfl,by go_num,HU,HL4⟩
     case measure=>simp[intOf];omega
  ·have hjz:¬(j:Int)<(s.ws.length:Int):=by omega
   have HE:Hid (t=T):=by
    show _=_;rw[←HTT.out,←lsk_end,HT.out,show j=s.ws.length by omega]
   go_wp2;go_ret;exact⟨ret_int HE.out,HL.out.bel⟩
end
theorem leastAlone_any(s:Sn)(D:Nat→Prop)(vc vw:Value)(k:Nat)(y1 y2:Int)(W:World)(hc:R2 D W vc s.cs)(hr:rgt s=true)(hy:(y1,y2)∈s.ws):
  Calls Tryz.prog 97 #[.agg (nv s.st vc vw).toArray,.int .i64 (k:Int),.agg #[.int .i64 y1,.int .i64 y2]] W fun e W'=>e=.returned (.int .i64 (alo s k (y1,y2)))∧Below W.heap.size W W':=by
 obtain⟨n8,hrs⟩:=rgt_rs hr;have hcl:s.cs.length≤8:=by have:=hrs.cl;have:=hrs.n8;omega
 have HC:Hid (R2 (fun g=>g<W.heap.size) W vc s.cs):=hc.mono fun g _ h _=>h;obtain⟨ac,kc,rfl,_,_⟩:=hc.form;have hmk:=mkL s.cs.length (by omega);have HHR:=Hd hr;have HHY:=Hd hy;clear hc hr hy hrs
 go_enter Tryz.func97,Tryz.ntmps97
 go_wp2_with fail
 have HV:Hid (NB (((W.alloc (.cells ((nv s.st (.slice ac s.cs.length kc) vw).set 14 (.slice (some ⟨W.heap.size+1+1,0,none⟩) 1 1)).toArray 100)).alloc (.cells #[.int .i64 y1,.int .i64 y2] 131)).alloc (.cells #[.int .i64 y1,.int .i64 y2] 131)) W.heap.size s.st (.slice ac s.cs.length kc) (.slice (some ⟨W.heap.size+1+1,0,none⟩) 1 1)∧Below W.heap.size W (((W.alloc (.cells ((nv s.st (.slice ac s.cs.length kc) vw).set 14 (.slice (some ⟨W.heap.size+1+1,0,none⟩) 1 1)).toArray 100)).alloc (.cells #[.int .i64 y1,.int .i64 y2] 131)).alloc (.cells #[.int .i64 y1,.int .i64 y2] 131))∧R2 (fun g=>g=W.heap.size+1+1) (((W.alloc (.cells ((nv s.st (.slice ac s.cs.length kc) vw).set 14 (.slice (some ⟨W.heap.size+1+1,0,none⟩) 1 1)).toArray 100)).alloc (.cells #[.int .i64 y1,.int .i64 y2] 131)).alloc (.cells #[.int .i64 y1,.int .i64 y2] 131)) (.slice (some ⟨W.heap.size+1+1,0,none⟩) 1 1) [(y1,y2)]):=by
  have hb1:=(Below.refl W.heap.size W).alloc (Nat.le_refl _) (.cells ((nv s.st (.slice ac s.cs.length kc) vw).set 14 (.slice (some ⟨W.heap.size+1+1,0,none⟩) 1 1)).toArray 100);have hb2:=hb1.alloc (by simp) (.cells #[.int .i64 y1,.int .i64 y2] 131);have hb3:=hb2.alloc (by simp<;>omega) (.cells #[.int .i64 y1,.int .i64 y2] 131);have h3:=World.alloc_heap_new ((W.alloc (.cells ((nv s.st (.slice ac s.cs.length kc) vw).set 14 (.slice (some ⟨W.heap.size+1+1,0,none⟩) 1 1)).toArray 100)).alloc (.cells #[.int .i64 y1,.int .i64 y2] 131)) (.cells #[.int .i64 y1,.int .i64 y2] 131);rw[World.size_alloc,World.size_alloc]at h3;refine⟨(Below.heap_alloc _ _ _ (by simp<;>omega)).trans ((Below.heap_alloc _ _ _ (by simp)).trans (World.alloc_heap_new W _)),hb3,some ⟨W.heap.size+1+1,0,none⟩,1,rfl,Nat.le_refl _,(fun e=>by cases e),.inr ⟨W.heap.size+1+1,0,rfl,rfl,(Array.getElem?_eq_some_iff.1 h3).1,fun i z hz=> ?_⟩⟩;cases i with
  |zero=>
   simp at hz;subst hz;exact⟨by rw[cell_of_row _ _ _ _ _ _ h3];rfl,by rw[cell_of_row _ _ _ _ _ _ h3];rfl⟩
  |succ i=>simp at hz
 generalize (((W.alloc (.cells ((nv s.st (.slice ac s.cs.length kc) vw).set 14 (.slice (some ⟨W.heap.size+1+1,0,none⟩) 1 1)).toArray 100)).alloc (.cells #[.int .i64 y1,.int .i64 y2] 131)).alloc (.cells #[.int .i64 y1,.int .i64 y2] 131))=V at HV⊢;have hdr:=(Below.refl V.heap.size V).drew;have hal:=hdr.alloc (Nat.le_refl _) (.cells (Array.replicate s.cs.length (Value.slice none 0 0)) 90);have HND:=Hd (HV.out.1.below' hdr);have HNA:=Hd (HV.out.1.below' hal);have e0:V.drew.cell? ⟨W.heap.size,0,none⟩=some (.int .i64 s.st.fl):=HND.out.cell 0;have ex0:V.cell? ⟨W.heap.size,0,none⟩=some (.int .i64 s.st.fl):=e0;have f0:(V.drew.alloc (.cells (Array.replicate s.cs.length (Value.slice none 0 0)) 90)).cell? ⟨W.heap.size,0,none⟩=some (.int .i64 s.st.fl):=HNA.out.cell 0;have fx0:(V.alloc (.cells (Array.replicate s.cs.length (Value.slice none 0 0)) 90)).cell? ⟨W.heap.size,0,none⟩=some (.int .i64 s.st.fl):=f0;have e1:V.drew.cell? ⟨W.heap.size,1,none⟩=some (.int .i64 s.st.ca):=HND.out.cell 1;have ex1:V.cell? ⟨W.heap.size,1,none⟩=some (.int .i64 s.st.ca):=e1;have f1:(V.drew.alloc (.cells (Array.replicate s.cs.length (Value.slice none 0 0)) 90)).cell? ⟨W.heap.size,1,none⟩=some (.int .i64 s.st.ca):=HNA.out.cell 1;have fx1:(V.alloc (.cells (Array.replicate s.cs.length (Value.slice none 0 0)) 90)).cell? ⟨W.heap.size,1,none⟩=some (.int .i64 s.st.ca):=f1;have e2:V.drew.cell? ⟨W.heap.size,2,none⟩=some (.int .i64 s.st.sta):=HND.out.cell 2;have ex2:V.cell? ⟨W.heap.size,2,none⟩=some (.int .i64 s.st.sta):=e2;have f2:(V.drew.alloc (.cells (Array.replicate s.cs.length (Value.slice none 0 0)) 90)).cell? ⟨W.heap.size,2,none⟩=some (.int .i64 s.st.sta):=HNA.out.cell 2;have fx2:(V.alloc (.cells (Array.replicate s.cs.length (Value.slice none 0 0)) 90)).cell? ⟨W.heap.size,2,none⟩=some (.int .i64 s.st.sta):=f2;have e3:V.drew.cell? ⟨W.heap.size,3,none⟩=some (.int .i64 s.st.ste):=HND.out.cell 3;have ex3:V.cell? ⟨W.heap.size,3,none⟩=some (.int .i64 s.st.ste):=e3;have f3:(V.drew.alloc (.cells (Array.replicate s.cs.length (Value.slice none 0 0)) 90)).cell? ⟨W.heap.size,3,none⟩=some (.int .i64 s.st.ste):=HNA.out.cell 3;have fx3:(V.alloc (.cells (Array.replicate s.cs.length (Value.slice none 0 0)) 90)).cell? ⟨W.heap.size,3,none⟩=some (.int .i64 s.st.ste):=f3;have e4:V.drew.cell? ⟨W.heap.size,4,none⟩=some (.int .i64 s.st.sto):=HND.out.cell 4;have ex4:V.cell? ⟨W.heap.size,4,none⟩=some (.int .i64 s.st.sto):=e4;have f4:(V.drew.alloc (.cells (Array.replicate s.cs.length (Value.slice none 0 0)) 90)).cell? ⟨W.heap.size,4,none⟩=some (.int .i64 s.st.sto):=HNA.out.cell 4;have fx4:(V.alloc (.cells (Array.replicate s.cs.length (Value.slice none 0 0)) 90)).cell? ⟨W.heap.size,4,none⟩=some (.int .i64 s.st.sto):=f4;have e5:V.drew.cell? ⟨W.heap.size,5,none⟩=some (.int .i64 s.st.opn):=HND.out.cell 5;have ex5:V.cell? ⟨W.heap.size,5,none⟩=some (.int .i64 s.st.opn):=e5;have f5:(V.drew.alloc (.cells (Array.replicate s.cs.length (Value.slice none 0 0)) 90)).cell? ⟨W.heap.size,5,none⟩=some (.int .i64 s.st.opn):=HNA.out.cell 5;have fx5:(V.alloc (.cells (Array.replicate s.cs.length (Value.slice none 0 0)) 90)).cell? ⟨W.heap.size,5,none⟩=some (.int .i64 s.st.opn):=f5;have e6:V.drew.cell? ⟨W.heap.size,6,none⟩=some (.int .i64 s.st.wai):=HND.out.cell 6;have ex6:V.cell? ⟨W.heap.size,6,none⟩=some (.int .i64 s.st.wai):=e6;have f6:(V.drew.alloc (.cells (Array.replicate s.cs.length (Value.slice none 0 0)) 90)).cell? ⟨W.heap.size,6,none⟩=some (.int .i64 s.st.wai):=HNA.out.cell 6;have fx6:(V.alloc (.cells (Array.replicate s.cs.length (Value.slice none 0 0)) 90)).cell? ⟨W.heap.size,6,none⟩=some (.int .i64 s.st.wai):=f6;have e7:V.drew.cell? ⟨W.heap.size,7,none⟩=some (.int .i64 s.st.clo):=HND.out.cell 7;have ex7:V.cell? ⟨W.heap.size,7,none⟩=some (.int .i64 s.st.clo):=e7;have f7:(V.drew.alloc (.cells (Array.replicate s.cs.length (Value.slice none 0 0)) 90)).cell? ⟨W.heap.size,7,none⟩=some (.int .i64 s.st.clo):=HNA.out.cell 7;have fx7:(V.alloc (.cells (Array.replicate s.cs.length (Value.slice none 0 0)) 90)).cell? ⟨W.heap.size,7,none⟩=some (.int .i64 s.st.clo):=f7;have e8:V.drew.cell? ⟨W.heap.size,8,none⟩=some (.int .i64 s.st.nud):=HND.out.cell 8;have ex8:V.cell? ⟨W.heap.size,8,none⟩=some (.int .i64 s.st.nud):=e8;have f8:(V.drew.alloc (.cells (Array.replicate s.cs.length (Value.slice none 0 0)) 90)).cell? ⟨W.heap.size,8,none⟩=some (.int .i64 s.st.nud):=HNA.out.cell 8;have fx8:(V.alloc (.cells (Array.replicate s.cs.length (Value.slice none 0 0)) 90)).cell? ⟨W.heap.size,8,none⟩=some (.int .i64 s.st.nud):=f8;have e9:V.drew.cell? ⟨W.heap.size,9,none⟩=some (.int .i64 s.st.age):=HND.out.cell 9;have ex9:V.cell? ⟨W.heap.size,9,none⟩=some (.int .i64 s.st.age):=e9;have f9:(V.drew.alloc (.cells (Array.replicate s.cs.length (Value.slice none 0 0)) 90)).cell? ⟨W.heap.size,9,none⟩=some (.int .i64 s.st.age):=HNA.out.cell 9;have fx9:(V.alloc (.cells (Array.replicate s.cs.length (Value.slice none 0 0)) 90)).cell? ⟨W.heap.size,9,none⟩=some (.int .i64 s.st.age):=f9;have e10:V.drew.cell? ⟨W.heap.size,10,none⟩=some (.int .i64 s.st.sil):=HND.out.cell 10;have ex10:V.cell? ⟨W.heap.size,10,none⟩=some (.int .i64 s.st.sil):=e10;have f10:(V.drew.alloc (.cells (Array.replicate s.cs.length (Value.slice none 0 0)) 90)).cell? ⟨W.heap.size,10,none⟩=some (.int .i64 s.st.sil):=HNA.out.cell 10;have fx10:(V.alloc (.cells (Array.replicate s.cs.length (Value.slice none 0 0)) 90)).cell? ⟨W.heap.size,10,none⟩=some (.int .i64 s.st.sil):=f10;have e11:V.drew.cell? ⟨W.heap.size,11,none⟩=some (.int .i64 s.st.bud):=HND.out.cell 11;have ex11:V.cell? ⟨W.heap.size,11,none⟩=some (.int .i64 s.st.bud):=e11;have f11:(V.drew.alloc (.cells (Array.replicate s.cs.length (Value.slice none 0 0)) 90)).cell? ⟨W.heap.size,11,none⟩=some (.int .i64 s.st.bud):=HNA.out.cell 11;have fx11:(V.alloc (.cells (Array.replicate s.cs.length (Value.slice none 0 0)) 90)).cell? ⟨W.heap.size,11,none⟩=some (.int .i64 s.st.bud):=f11;have e12:V.drew.cell? ⟨W.heap.size,12,none⟩=some (.int .i64 s.st.per):=HND.out.cell 12;have ex12:V.cell? ⟨W.heap.size,12,none⟩=some (.int .i64 s.st.per):=e12;have f12:(V.drew.alloc (.cells (Array.replicate s.cs.length (Value.slice none 0 0)) 90)).cell? ⟨W.heap.size,12,none⟩=some (.int .i64 s.st.per):=HNA.out.cell 12;have fx12:(V.alloc (.cells (Array.replicate s.cs.length (Value.slice none 0 0)) 90)).cell? ⟨W.heap.size,12,none⟩=some (.int .i64 s.st.per):=f12;have e13:V.drew.cell? ⟨W.heap.size,13,none⟩=some (.slice ac s.cs.length kc):=HND.out.cell 13;have ex13:V.cell? ⟨W.heap.size,13,none⟩=some (.slice ac s.cs.length kc):=e13;have f13:(V.drew.alloc (.cells (Array.replicate s.cs.length (Value.slice none 0 0)) 90)).cell? ⟨W.heap.size,13,none⟩=some (.slice ac s.cs.length kc):=HNA.out.cell 13;have fx13:(V.alloc (.cells (Array.replicate s.cs.length (Value.slice none 0 0)) 90)).cell? ⟨W.heap.size,13,none⟩=some (.slice ac s.cs.length kc):=f13;have e14:V.drew.cell? ⟨W.heap.size,14,none⟩=some (.slice (some ⟨W.heap.size+1+1,0,none⟩) 1 1):=HND.out.cell 14;have ex14:V.cell? ⟨W.heap.size,14,none⟩=some (.slice (some ⟨W.heap.size+1+1,0,none⟩) 1 1):=e14;have f14:(V.drew.alloc (.cells (Array.replicate s.cs.length (Value.slice none 0 0)) 90)).cell? ⟨W.heap.size,14,none⟩=some (.slice (some ⟨W.heap.size+1+1,0,none⟩) 1 1):=HNA.out.cell 14;have fx14:(V.alloc (.cells (Array.replicate s.cs.length (Value.slice none 0 0)) 90)).cell? ⟨W.heap.size,14,none⟩=some (.slice (some ⟨W.heap.size+1+1,0,none⟩) 1 1):=f14;have HBA:=Hd (below_class HV.out.2.1 hal)
 have HRL:Hid (RL (fun _=>True) (V.drew.alloc (.cells (Array.replicate s.cs.length (Value.slice none 0 0)) 90)) (.slice (some ⟨V.drew.heap.size,0,none⟩) s.cs.length s.cs.length) (List.replicate s.cs.length [])):=by
  have:=(OW.make (B:=0) V.drew s.cs.length (Nat.zero_le _)).rl (D:=fun _=>True) (fun _ _=>trivial);rwa[List.length_replicate,List.toArray_replicate]at this
 have HLE:Hid (∃r1 r2:Int,(if r2=0 then r1 else 1099511627776)=alo s k (y1,y2)∧Calls Tryz.prog 134 #[.agg (nv s.st (.slice ac s.cs.length kc) (.slice (some ⟨W.heap.size+1+1,0,none⟩) 1 1)).toArray,.int .i64 (k:Int),.slice (some ⟨V.drew.heap.size,0,none⟩) s.cs.length s.cs.length] (V.drew.alloc (.cells (Array.replicate s.cs.length (Value.slice none 0 0)) 90)) fun e w'=>e=.returned (.tuple #[.int .i64 r1,.int .i64 r2])∧Below (V.drew.alloc (.cells (Array.replicate s.cs.length (Value.slice none 0 0)) 90)).heap.size (V.drew.alloc (.cells (Array.replicate s.cs.length (Value.slice none 0 0)) 90)) w'):=by
  have h1:=(HC.out.below' HBA.out).mono (D':=fun _=>True) fun _ _ _ _=>trivial;have h2:=(HV.out.2.2.below' hal).mono (D':=fun _=>True) fun _ _ _ _=>trivial;by_cases hk:k<s.cs.length
  ·refine⟨lsv (one1 s (y1,y2)) k (List.replicate s.cs.length []) [false],0,by unfold alo;rw[if_pos hk,if_pos rfl],?_⟩;exact least_yes (one1 s (y1,y2)) (fun _=>True) _ _ _ k (List.replicate s.cs.length []) [false] _ h1 h2 HRL.out (one1_bgn HHR.out HHY.out hk) (by simp;omega) (fun l hl=>by rw[List.eq_of_mem_replicate hl];simp)
  ·refine⟨0,9,by unfold alo;rw[if_neg hk,if_neg (by omega)],?_⟩;exact least_no (one1 s (y1,y2)) (fun _=>True) _ _ _ (k:Int) (List.replicate s.cs.length []) _ h1 h2 HRL.out (one1_none hk) (by simp;omega) (fun l hl=>by rw[List.eq_of_mem_replicate hl];simp)
 obtain⟨r1,r2,hre,hcall⟩:=HLE.out;have HCA:=Hd hcall;have HRE:=Hd hre;clear hcall hre HLE hdr hal HRL HV HND HNA HHR HHY HC
 go_region_with ((go_at_call 134;refine HCA.out.mono ?_;rintro e' V5 ⟨rfl,hb5⟩))
 all_goals
  have HB5:=Hd (below_class HBA.out hb5);clear hb5 HBA HCA hmk e0 ex0 f0 fx0 e1 ex1 f1 fx1 e2 ex2 f2 fx2 e3 ex3 f3 fx3 e4 ex4 f4 fx4 e5 ex5 f5 fx5 e6 ex6 f6 fx6 e7 ex7 f7 fx7 e8 ex8 f8 fx8 e9 ex9 f9 fx9 e10 ex10 f10 fx10 e11 ex11 f11 fx11 e12 ex12 f12 fx12 e13 ex13 f13 fx13 e14 ex14 f14 fx14;by_cases h0:r2=0
  ·subst h0;have HV1:Hid (r1=alo s k (y1,y2)):=by show _=_;rw[←HRE.out,if_pos rfl]
   clear HRE;go_wp2;go_ret;exact⟨ret_int HV1.out,HB5.out⟩
  ·have HV1:Hid (1099511627776=alo s k (y1,y2)):=by show _=_;rw[←HRE.out,if_neg h0]
   clear HRE;go_wp2;go_ret;exact⟨ret_int HV1.out,HB5.out⟩
theorem mkBh(n:Nat)(hn:n≤1000)(W:World):(Instr.makeSlice 103 (.int .i64 (n:Int)) (.int .i64 (n:Int))).run Tryz.prog W=.ok (.slice (some ⟨W.heap.size,0,none⟩) n n) (W.alloc (.cells (List.replicate n (Value.slice none 0 0)).toArray 90)):=by
 obtain⟨i,hi,h1,h2,h3⟩:=info_h infoHL
 have:=run_make (P:=Tryz.prog) W 103 90 i _ Tryz.underlying103 hi h1 .i64 .i64 (n:Int) (n:Int) (by omega) (by omega) (by
  have:(i.bytes:Int)*(n:Int)≤24*1000:=Int.mul_le_mul (by omega) (by omega) (by omega) (by omega)
  omega) (by omega)
 rw[this,h2,Int.toNat_natCast,made_one _ rfl,Nat.mul_one]
theorem wpOp_loadRs{ops:Array Oper}{Q:Exit→Act→World→Prop}{i:Nat}{o:Oper}{K:Act→World→Prop}{a:Act}{w:World}(hi:ops[i]?=some o)(hw:Region.wanted o (yielded ops a.tmps)=true)(x:Operand)(ho:o.op=.load 97 x)
  (b f:Nat) (v:Value) (hx:a.eval x=.pointer (some ⟨b,f,none⟩)) (hr:w.cell? ⟨b,f,none⟩=some v) (h:K (a.put o.dst v) w):wpOp Tryz.prog ops Q i K a w:=
 wpOp_val hi hw (by unfold execOp;simp only[ho,Sem.run_bind,Sem.run_pure,Result.andThen_ok,hx,loadRs w b f v hr]) h
theorem wpOp_mkB{ops:Array Oper}{Q:Exit→Act→World→Prop}{i:Nat}{o:Oper}{K:Act→World→Prop}{a:Act}{w:World}(hi:ops[i]?=some o)(hw:Region.wanted o (yielded ops a.tmps)=true)(x y:Operand)(ho:o.op=.makeSlice 103 x y)
  (n:Nat) (hn:n≤1000) (hx:a.eval x=.int .i64 (n:Int)) (hy:a.eval y=.int .i64 (n:Int)) (h:K (a.put o.dst (.slice (some ⟨w.heap.size,0,none⟩) n n)) (w.alloc (.cells (Array.replicate n (Value.slice none 0 0)) 90))):wpOp Tryz.prog ops Q i K a w:=
 wpOp_val hi hw (by unfold execOp;simp only[ho,Sem.run_bind,Sem.run_pure,Result.andThen_ok,hx,hy,mkBh n hn w,List.toArray_replicate]) h
theorem built_tree(s:St)(vc vw:Value)(a:Option Addr)(n c:Nat):Tryz.prog.built 178 [(0,.agg (nv s vc vw).toArray),(1,.slice a n c)]=some (tcl s vc vw (.slice a n c)).toArray:=by kernel_rfl
structure Tn(W wr:World)(s:Sn)(vc vw:Value)(us:List Value)(rows:List (List Int)):Prop where
 nb:NB wr W.heap.size s.st vc vw
 tb:wr.heap[W.heap.size+1+1]?=some (.cells (tcl s.st vc vw (.slice (some ⟨W.heap.size+1,0,none⟩) s.cs.length s.cs.length)).toArray 178 (0,0))
 ow:OW wr (W.heap.size+1) (W.heap.size+1) us rows
 nt:∀(c:Nat) u,us[c]?=some u→u.ownBlock≠some (W.heap.size+1+1)
 bel:Below W.heap.size W wr
section
variable {W wr w':World} {s:Sn} {vc vw:Value} {us:List Value} {rows:List (List Int)}
theorem Tn.next(h:Tn W wr s vc vw us rows)(hb:Below wr.heap.size wr w'):Tn W w' s vc vw us rows:=⟨h.nb.below' hb,(hb.block _ (Array.getElem?_eq_some_iff.1 h.tb).1).trans h.tb,h.ow.next hb,h.nt,below_class h.bel hb⟩
theorem Tn.c15(h:Tn W wr s vc vw us rows):wr.cell? ⟨W.heap.size+1+1,15,none⟩=some (.slice (some ⟨W.heap.size+1,0,none⟩) s.cs.length s.cs.length):=blk_cell h.tb 15
theorem Tn.lay(h:Tn W wr s vc vw us rows){c:Nat}{u':Value}{l:List Int}(hcp:c<rows.length)(hb:Below wr.heap.size wr w')(hf:∀q,u'.ownBlock=some q→wr.heap.size≤q)(ho:OI w' (W.heap.size+1) u' l):Tn W (w'.setCell ⟨W.heap.size+1,c,none⟩ u') s vc vw (us.set c u') (rows.set c l):=by
 have h1:=h.next hb;have htl:=(Array.getElem?_eq_some_iff.1 h.tb).1;have hcl:c<us.length:=by rw[h.ow.len];exact hcp
 refine⟨?_,?_,h.ow.put hcp hb hf ho,fun d v hv=> ?_,h1.bel.setCell (p:=⟨W.heap.size+1,c,none⟩) (by show W.heap.size≤W.heap.size+1;omega) _⟩
 ·unfold NB;rw[Below.heap_setCell w' ⟨W.heap.size+1,c,none⟩ _ _ (by show W.heap.size≠W.heap.size+1;omega)];exact h1.nb
 ·rw[Below.heap_setCell w' ⟨W.heap.size+1,c,none⟩ _ _ (by show W.heap.size+1+1≠W.heap.size+1;omega)];exact h1.tb
 ·by_cases e:c=d
  ·subst e;rw[List.getElem?_set_self hcl]at hv;cases hv;exact fun e=>by have:=hf _ e;omega
  ·rw[List.getElem?_set_ne e]at hv;exact h.nt d v hv
theorem Tn.put(h:Tn W wr s vc vw us rows){c:Nat}{gl n cap:Nat}{l:List Int}(hu:us[c]?=some (.slice (some ⟨gl,0,none⟩) n cap))(hl:rows[c]?=some l)(j:Nat)(v:Int):Tn W (wr.setCell ⟨gl,j,none⟩ (.int .i64 v)) s vc vw us (rows.set c (l.set j v)):=by
 have ou:=h.ow.li c _ l hu hl;have hlt:=ou.lt gl rfl;have hne:gl≠W.heap.size+1+1:=fun e=>h.nt c _ hu (by rw[←e];rfl);have hk:Kp (fun k=>(Value.slice (some ⟨gl,0,none⟩) n cap).ownBlock=some k) wr (wr.setCell ⟨gl,j,none⟩ (.int .i64 v)):=(Kp.refl _ wr).set gl j _ (fun _=>rfl);refine⟨h.nb.kp hk (fun e=> ?_),(hk.block _ (Array.getElem?_eq_some_iff.1 h.tb).1 (fun e=> ?_)).trans h.tb,h.ow.turn hu hl hk (ou.put j v),h.nt,hk.below h.bel h.bel.size (fun i hi e=> ?_)⟩
 ·have e2:gl=W.heap.size:=by simpa[Value.ownBlock]using e
  omega
 ·have e2:gl=W.heap.size+1+1:=by simpa[Value.ownBlock]using e
  exact hne e2
 ·have e2:gl=i:=by simpa[Value.ownBlock]using e
  omega
end
def bhk(s:Sn)(c:Nat):List (List Int):=(bhd s).take c++List.replicate (s.cs.length-c) []
def bhj(s:Sn)(c j:Nat):List Int:=((s.ws.take j).map fun y=>alo s (c+1) y)++List.replicate (s.ws.length-j) 0
theorem bhk_zero(s:Sn):bhk s 0=List.replicate s.cs.length []:=by unfold bhk;simp
theorem bhk_end(s:Sn):bhk s s.cs.length=bhd s:=by
 unfold bhk;rw[List.take_of_length_le (by rw[bhd_length];exact Nat.le_refl _),Nat.sub_self];simp
theorem bhk_length{s:Sn}{c:Nat}(h:c≤s.cs.length):(bhk s c).length=s.cs.length:=by unfold bhk;simp[bhd_length];omega
theorem bhk_succ{s:Sn}{c:Nat}(h:c<s.cs.length):(bhk s c).set c (s.ws.map fun y=>alo s (c+1) y)=bhk s (c+1):=by
 unfold bhk;rw[List.set_append_right _ _ (by rw[List.length_take,bhd_length];omega),List.length_take,bhd_length,show c-min c s.cs.length=0 by omega,show s.cs.length-c=(s.cs.length-(c+1))+1 by omega,List.replicate_succ,List.set_cons_zero,take_snoc (bhd_get s h),List.append_assoc]
 rfl
theorem bhj_zero(s:Sn)(c:Nat):bhj s c 0=List.replicate s.ws.length 0:=by unfold bhj;simp
theorem bhj_end(s:Sn)(c:Nat):bhj s c s.ws.length=s.ws.map fun y=>alo s (c+1) y:=by unfold bhj;simp
theorem bhj_length{s:Sn}{c j:Nat}(h:j≤s.ws.length):(bhj s c j).length=s.ws.length:=by unfold bhj;simp;omega
theorem bhj_succ{s:Sn}{c j:Nat}{y:Int×Int}(h:s.ws[j]?=some y):(bhj s c j).set j (alo s (c+1) y)=bhj s c (j+1):=by
 have hj:j<s.ws.length:=(List.getElem?_eq_some_iff.1 h).1;unfold bhj;rw[List.set_append_right _ _ (by rw[List.length_map,List.length_take];omega),List.length_map,List.length_take,show j-min j s.ws.length=0 by omega,show s.ws.length-j=(s.ws.length-(j+1))+1 by omega,List.replicate_succ,List.set_cons_zero,take_snoc h,List.map_append,List.append_assoc]
 rfl
section
variable (s:Sn) (D:Nat→Prop) (vc vw:Value) (W:World)
theorem newTree_any(hc:R2 D W vc s.cs)(hw:R2 D W vw s.ws)(hr:rgt s=true):
  Calls Tryz.prog 67 #[.agg (nv s.st vc vw).toArray] W fun e w'=>Below W.heap.size W w'∧∃tb vb,e=.returned (.pointer (some ⟨tb,0,none⟩))∧W.heap.size≤tb∧TR (fun g=>(D g∧g<W.heap.size)∨W.heap.size≤g) w' tb s vc vw vb:=by
 have hbx:=(Below.refl W.heap.size W).alloc (Nat.le_refl _) (.cells (nv s.st vc vw).toArray 100);have HN:=Hd (NB.new W s.st vc vw);have HB:=Hd hbx;have HC:Hid (R2 (fun g=>D g∧g<W.heap.size) W vc s.cs):=hc.mono fun g h1 h _=>⟨h1,h⟩;have HW:Hid (R2 (fun g=>D g∧g<W.heap.size) W vw s.ws):=hw.mono fun g h1 h _=>⟨h1,h⟩;obtain⟨ac,kc,rfl,_,_⟩:=hc.form;obtain⟨aw,kw,rfl,_,_⟩:=hw.form;have HR:=Hd hr;obtain⟨n8,hrs⟩:=rgt_rs hr;have HRS:=Hd hrs;have hwl:s.ws.length≤128:=hrs.wl;have hcl:s.cs.length≤8:=by have:=hrs.cl;have:=hrs.n8;omega
 have HS1:Hid ((W.alloc (.cells (nv s.st (.slice ac s.cs.length kc) (.slice aw s.ws.length kw)).toArray 100)).heap.size=W.heap.size+1):=by show _=_;simp
 clear hc hw hr hbx hrs
 go_enter Tryz.func67,Tryz.ntmps67
 go_wp2_with fail
 generalize hX:W.alloc (.cells (nv s.st (.slice ac s.cs.length kc) (.slice aw s.ws.length kw)).toArray 100)=X at HN HB HS1⊢;clear hX;refine wp_mono (Q:=fun e a W'=>e=Exit.normal∧W'=(X.drew.alloc (.cells (Array.replicate s.cs.length (Value.slice none 0 0)) 90)).alloc (.cells (tcl s.st (.slice ac s.cs.length kc) (.slice aw s.ws.length kw) (.slice (some ⟨X.heap.size,0,none⟩) s.cs.length s.cs.length)).toArray 178)∧a={tmps:= #[.agg (nv s.st (.slice ac s.cs.length kc) (.slice aw s.ws.length kw)).toArray,.pointer (some ⟨W.heap.size,0,none⟩),.pointer none,.pointer (some ⟨X.heap.size+1,0,none⟩),undef,undef,undef,.agg (nv s.st (.slice ac s.cs.length kc) (.slice aw s.ws.length kw)).toArray,.pointer (some ⟨W.heap.size,13,none⟩),.slice ac s.cs.length kc,.int .i64 (s.cs.length:Int),(.slice (some ⟨X.heap.size,0,none⟩) s.cs.length s.cs.length),.agg (tcl s.st (.slice ac s.cs.length kc) (.slice aw s.ws.length kw) (.slice (some ⟨X.heap.size,0,none⟩) s.cs.length s.cs.length)).toArray,.pointer (some ⟨X.heap.size+1,0,none⟩),undef,undef,undef,undef,undef,undef,undef,undef,undef,undef,undef,undef,undef,undef,undef,undef,undef,undef,undef,undef,undef,undef,undef,undef,undef,undef,undef,undef,undef,undef,undef,undef,undef,undef,undef,undef,undef,undef,undef,undef,undef,undef,undef],defers:=[]}) ?reg ?rest
 case reg=>
  have hdr:=(Below.refl X.heap.size X).drew;have hal:=hdr.alloc (Nat.le_refl _) (.cells (Array.replicate s.cs.length (Value.slice none 0 0)) 90);have HNX:=Hd (HN.out.below' hdr);have HNA:=Hd (HN.out.below' hal);have k2:X.drew.cell? ⟨W.heap.size,13,none⟩=some (.slice ac s.cs.length kc):=HNX.out.cell 13;have k3:X.cell? ⟨W.heap.size,13,none⟩=some (.slice ac s.cs.length kc):=HN.out.cell 13;have kk:=mkBh s.cs.length (by omega);clear hdr hal;refine wp_region_any (by kernel_rfl) ?_;change wpAny _ _ _ _ _ _ _ (World.drew _);refine wpAny_take (i:=1) (v:=.pointer (some ⟨W.heap.size,13,none⟩)) rfl (by kernel_rfl) (by kernel_rfl) (by kernel_rfl) (fun _ _ _ h=>by cases h.1) ?hy ?_
  case hy=>exact yields_val rfl (fun w=>by go_simp)
  generalize hKK:wpAny Tryz.prog _ _ _ _ _=KK;go_simp;subst hKK;refine wpAny_all (rs:=[0,2]) (by kernel_rfl) (by simp) (fun ii hii=> ?_);have h7:ii=0∨ii=2:=by simpa using hii
  clear hii;rcases h7 with rfl|rfl
  ·refine wpOp_load27 rfl rfl _ rfl W.heap.size s.st _ _ rfl HNX.out ?_;generalize hKK:wpAny Tryz.prog _ _ _ _ _=KK;go_simp;subst hKK;refine wpAny_seq 2 (by kernel_rfl) (by kernel_rfl) ?_;simp only[List.drop_succ_cons,List.drop_zero]
   go_wp2_with (first|(refine wpList_load27g rfl _ rfl W.heap.size s.st _ _ rfl HNX.out ?_)|(refine wpList_buildS rfl _ _ rfl [(0,.agg (nv s.st (.slice ac s.cs.length kc) (.slice aw s.ws.length kw)).toArray),(1,(.slice (some ⟨X.heap.size,0,none⟩) s.cs.length s.cs.length))] (by simp only[List.map_toArray,List.map_cons,List.map_nil];rfl) _ (built_tree s.st _ _ _ _ _) ?_))
  ·refine wpOp_loadRs rfl rfl _ rfl W.heap.size 13 _ rfl k2 ?_;generalize hKK:wpAny Tryz.prog _ _ _ _ _=KK;go_simp;subst hKK;refine wpAny_take (i:=3) (v:=.int .i64 (s.cs.length:Int)) rfl (by kernel_rfl) (by kernel_rfl) (by kernel_rfl) (fun _ _ _ h=>by cases h.1) ?hy ?_
   case hy=>exact yields_val rfl (fun w=>by go_simp)
   generalize hKK:wpAny Tryz.prog _ _ _ _ _=KK;go_simp;subst hKK;refine wpAny_all (rs:=[0,4]) (by kernel_rfl) (by simp) (fun ii hii=> ?_);have h7:ii=0∨ii=4:=by simpa using hii
   clear hii;rcases h7 with rfl|rfl
   ·refine wpOp_load27 rfl rfl _ rfl W.heap.size s.st _ _ rfl HNX.out ?_;generalize hKK:wpAny Tryz.prog _ _ _ _ _=KK;go_simp;subst hKK;refine wpAny_seq 4 (by kernel_rfl) (by kernel_rfl) ?_;simp only[List.drop_succ_cons,List.drop_zero]
    go_wp2_with (first|(refine wpList_load27g rfl _ rfl W.heap.size s.st _ _ rfl HNX.out ?_)|(refine wpList_buildS rfl _ _ rfl [(0,.agg (nv s.st (.slice ac s.cs.length kc) (.slice aw s.ws.length kw)).toArray),(1,(.slice (some ⟨X.heap.size,0,none⟩) s.cs.length s.cs.length))] (by simp only[List.map_toArray,List.map_cons,List.map_nil];rfl) _ (built_tree s.st _ _ _ _ _) ?_))
   ·refine wpOp_mkB rfl rfl _ _ rfl s.cs.length (by omega) rfl rfl ?_;generalize hKK:wpAny Tryz.prog _ _ _ _ _=KK;go_simp;subst hKK;refine wpAny_all (rs:=[0]) (by kernel_rfl) (by simp) (fun ii hii=> ?_);have h7:ii=0:=by simpa using hii
    clear hii;subst h7;refine wpOp_load27 rfl rfl _ rfl W.heap.size s.st _ _ rfl HNA.out ?_;generalize hKK:wpAny Tryz.prog _ _ _ _ _=KK;go_simp;subst hKK;refine wpAny_seq 5 (by kernel_rfl) (by kernel_rfl) ?_;simp only[List.drop_succ_cons,List.drop_zero]
    go_wp2_with (first|(refine wpList_load27g rfl _ rfl W.heap.size s.st _ _ rfl HNX.out ?_)|(refine wpList_buildS rfl _ _ rfl [(0,.agg (nv s.st (.slice ac s.cs.length kc) (.slice aw s.ws.length kw)).toArray),(1,(.slice (some ⟨X.heap.size,0,none⟩) s.cs.length s.cs.length))] (by simp only[List.map_toArray,List.map_cons,List.map_nil];rfl) _ (built_tree s.st _ _ _ _ _) ?_))
 case rest=>
  rintro e a W1 ⟨rfl,rfl,rfl⟩
  have HT0:Hid (Tn W ((X.drew.alloc (.cells (Array.replicate s.cs.length (Value.slice none 0 0)) 90)).alloc (.cells (tcl s.st (.slice ac s.cs.length kc) (.slice aw s.ws.length kw) (.slice (some ⟨X.heap.size,0,none⟩) s.cs.length s.cs.length)).toArray 178)) s (.slice ac s.cs.length kc) (.slice aw s.ws.length kw) (List.replicate s.cs.length (Value.slice none 0 0)) (bhk s 0)):=by
   have hdr:=(Below.refl X.heap.size X).drew;have hal:=hdr.alloc (Nat.le_refl _) (.cells (Array.replicate s.cs.length (Value.slice none 0 0)) 90);have hb2:=(Below.refl _ (X.drew.alloc (.cells (Array.replicate s.cs.length (Value.slice none 0 0)) 90))).alloc (Nat.le_refl _) (.cells (tcl s.st (.slice ac s.cs.length kc) (.slice aw s.ws.length kw) (.slice (some ⟨X.heap.size,0,none⟩) s.cs.length s.cs.length)).toArray 178);have hmk:=OW.make (B:=W.heap.size+1) X.drew s.cs.length (by show _≤X.heap.size;rw[HS1.out];exact Nat.le_refl _);rw[List.toArray_replicate]at hmk;have hgs:X.drew.heap.size=W.heap.size+1:=HS1.out;rw[hgs]at hmk;refine⟨(HN.out.below' hal).below' hb2,?_,by rw[bhk_zero];exact hmk.next hb2,fun c u hu=> ?_,below_class (below_class HB.out hal) hb2⟩
   ·have:=World.alloc_heap_new (X.drew.alloc (.cells (Array.replicate s.cs.length (Value.slice none 0 0)) 90)) (.cells (tcl s.st (.slice ac s.cs.length kc) (.slice aw s.ws.length kw) (.slice (some ⟨X.heap.size,0,none⟩) s.cs.length s.cs.length)).toArray 178);rw[World.size_alloc,hgs,HS1.out]at this;rw[HS1.out];exact this
   ·rw[List.getElem?_replicate]at hu;split at hu
    ·cases hu;simp[Value.ownBlock]
    ·cases hu
  have hvb:(.slice (some ⟨X.heap.size,0,none⟩) s.cs.length s.cs.length)=Value.slice (some ⟨W.heap.size+1,0,none⟩) s.cs.length s.cs.length:=by rw[HS1.out]
  rw[HS1.out]at HT0⊢;clear hvb HN HB HS1;generalize (X.drew.alloc (.cells (Array.replicate s.cs.length (Value.slice none 0 0)) 90)).alloc (.cells (tcl s.st (.slice ac s.cs.length kc) (.slice aw s.ws.length kw) (.slice (some ⟨W.heap.size+1,0,none⟩) s.cs.length s.cs.length)).toArray 178)=Y at HT0⊢;have c15:=HT0.out.c15
  go_wp2_with fail
  clear c15
  go_loopw [19] (fun iv wr=>∃(c:Nat) (us:List Value),c≤s.cs.length∧iv=.int .i64 (c:Int)∧Hid (Tn W wr s (.slice ac s.cs.length kc) (.slice aw s.ws.length kw) us (bhk s c))) (fun iv _=>s.cs.length-(intOf iv).toNat)
  case atStart=>exact⟨0,_,Nat.zero_le _,rfl,HT0⟩
  case round=>
   clear HT0;obtain⟨c,us,hc,rfl,HT⟩:=hrel;by_cases hlt:c<s.cs.length
   ·have hcz:(c:Int)<(s.cs.length:Int):=by omega
    have hal:=(Below.refl wr.heap.size wr).alloc (Nat.le_refl _) (.cells (Array.replicate s.ws.length (Value.int .i64 0)) 3);have HTA:=Hd (HT.out.next hal);have c15:=HT.out.c15;have c15a:=HTA.out.c15;have c14:wr.cell? ⟨W.heap.size,14,none⟩=some (.slice aw s.ws.length kw):=HT.out.nb.cell 14;have c14a:(wr.alloc (.cells (Array.replicate s.ws.length (Value.int .i64 0)) 3)).cell? ⟨W.heap.size,14,none⟩=some (.slice aw s.ws.length kw):=HTA.out.nb.cell 14;have hrl:(bhk s c).length=s.cs.length:=bhk_length hc;have HRL:=Hd hrl;obtain⟨u,hu⟩:∃u,us[c]?=some u:=⟨_,List.getElem?_eq_getElem (by rw[HT.out.ow.len,hrl];exact hlt)⟩;have cu:(wr.alloc (.cells (Array.replicate s.ws.length (Value.int .i64 0)) 3)).cell? ⟨W.heap.size+1,c,none⟩=some u:=(blk_cell HTA.out.ow.hl c).trans hu;have fu:(wr.alloc (.cells (Array.replicate s.ws.length (Value.int .i64 0)) 3)).frozen? ⟨W.heap.size+1,c,none⟩=false:=blk_fr HTA.out.ow.hl c;have hmk:=mkI s.ws.length (by omega);have HUC:Hid (c<us.length):=(List.getElem?_eq_some_iff.1 hu).1;clear hal hrl hu
    go_wp2_with fail
    go_region
    have HT1:Hid (Tn W ((wr.alloc (.cells (Array.replicate s.ws.length (Value.int .i64 0)) 3)).setCell ⟨W.heap.size+1,c,none⟩ (.slice (some ⟨wr.heap.size,0,none⟩) s.ws.length s.ws.length)).drew s (.slice ac s.cs.length kc) (.slice aw s.ws.length kw) (us.set c (.slice (some ⟨wr.heap.size,0,none⟩) s.ws.length s.ws.length)) ((bhk s c).set c (bhj s c 0))):=by
     have hoi:OI (wr.alloc (.cells (Array.replicate s.ws.length (Value.int .i64 0)) 3)) (W.heap.size+1) (.slice (some ⟨wr.heap.size,0,none⟩) s.ws.length s.ws.length) (bhj s c 0):=by
      have:=OI.lit (B:=W.heap.size+1) wr (List.replicate s.ws.length 0) (by have:=HT.out.ow.lt;omega) (by rw[List.length_replicate];unfold maxLen;omega);rw[ic_rep,List.length_replicate,List.toArray_replicate]at this;rw[bhj_zero];exact this
     exact(HT.out.lay (by rw[HRL.out];exact hlt) ((Below.refl _ _).alloc (Nat.le_refl _) _) (fun q hq=>Nat.le_of_eq (by simpa[Value.ownBlock]using hq)) hoi).next (Below.refl _ _).drew
    clear c15 c15a c14 c14a cu fu hmk HTA HT;generalize ((wr.alloc (.cells (Array.replicate s.ws.length (Value.int .i64 0)) 3)).setCell ⟨W.heap.size+1,c,none⟩ (.slice (some ⟨wr.heap.size,0,none⟩) s.ws.length s.ws.length)).drew=V at HT1⊢;generalize wr.heap.size=gl at HT1⊢;have c14:V.cell? ⟨W.heap.size,14,none⟩=some (.slice aw s.ws.length kw):=HT1.out.nb.cell 14
    go_wp2_with fail
    clear c14
    go_loopw [35] (fun jv wr=>∃(j:Nat),j≤s.ws.length∧jv=.int .i64 (j:Int)∧Hid (Tn W wr s (.slice ac s.cs.length kc) (.slice aw s.ws.length kw) (us.set c (.slice (some ⟨gl,0,none⟩) s.ws.length s.ws.length)) ((bhk s c).set c (bhj s c j)))) (fun jv _=>s.ws.length-(intOf jv).toNat)
    case atStart=>exact⟨0,Nat.zero_le _,rfl,HT1⟩
    case round=>
     clear HT1;obtain⟨j,hj,rfl,HT⟩:=hrel;by_cases hjl:j<s.ws.length
     ·have hjz:(j:Int)<(s.ws.length:Int):=by omega
      obtain⟨y,hy⟩:∃y,s.ws[j]?=some y:=⟨_,List.getElem?_eq_getElem hjl⟩;obtain⟨gw,ow,haw,w0,w1⟩:=(HW.out.below' HT.out.bel).at hy;subst haw;obtain⟨y1,y2⟩:=y;have HY:=Hd hy;have hal:=(Below.refl wr.heap.size wr).alloc (Nat.le_refl _) (.cells #[.int .i64 y1,.int .i64 y2] 131);have HTA:=Hd (HT.out.next hal);have HYB:Hid ((wr.alloc (.cells #[.int .i64 y1,.int .i64 y2] 131)).heap[wr.heap.size]?=some (.cells #[.int .i64 y1,.int .i64 y2] 131 (0,0))):=World.alloc_heap_new wr _;clear hal hy HT
      go_wp2_with fail
      clear w0 w1;generalize wr.alloc (.cells #[.int .i64 y1,.int .i64 y2] 131)=V1 at HTA HYB⊢;generalize wr.heap.size=wb at HYB⊢;have hus:(us.set c (.slice (some ⟨gl,0,none⟩) s.ws.length s.ws.length))[c]?=some (.slice (some ⟨gl,0,none⟩) s.ws.length s.ws.length):=List.getElem?_set_self HUC.out;have hrs2:((bhk s c).set c (bhj s c j))[c]?=some (bhj s c j):=List.getElem?_set_self (by rw[HRL.out];exact hlt);have HUR:=Hd (And.intro hus hrs2);have hcell:∀{w':World} {p:Addr} {v:Value},Below V1.drew.heap.size V1.drew w'→V1.cell? p=some v→w'.cell? p=some v:=fun hw h=>(Below.cell ((Below.refl V1.heap.size V1).drew.trans hw) (World.block_lt_of_cell? V1 _ h)).trans h;have H15:Hid (∀w',Below V1.drew.heap.size V1.drew w'→w'.cell? ⟨W.heap.size+1+1,15,none⟩=some (.slice (some ⟨W.heap.size+1,0,none⟩) s.cs.length s.cs.length)):=fun w' hw=>hcell hw HTA.out.c15;have HRW:Hid (∀w',Below V1.drew.heap.size V1.drew w'→w'.cell? ⟨W.heap.size+1,c,none⟩=some (.slice (some ⟨gl,0,none⟩) s.ws.length s.ws.length)):=fun w' hw=>hcell hw ((blk_cell HTA.out.ow.hl c).trans hus);have HNB:Hid (∀w',Below V1.drew.heap.size V1.drew w'→NB w' W.heap.size s.st (.slice ac s.cs.length kc) (.slice (some ⟨gw,ow,none⟩) s.ws.length kw)):=fun w' hw=>(HTA.out.next ((Below.refl V1.heap.size V1).drew.trans hw)).nb;have HWV:Hid (∀w',Below V1.drew.heap.size V1.drew w'→w'.heap[wb]?=some (.cells #[.int .i64 (y1,y2).1,.int .i64 (y1,y2).2] 131 (0,0))):=fun w' hw=>(((Below.refl V1.heap.size V1).drew.trans hw).block wb (Array.getElem?_eq_some_iff.1 HYB.out).1).trans HYB.out
      have HLA:Hid (∀w',Below V1.drew.heap.size V1.drew w'→Calls Tryz.prog 97 #[.agg (nv s.st (.slice ac s.cs.length kc) (.slice (some ⟨gw,ow,none⟩) s.ws.length kw)).toArray,.int .i64 ((c:Int)+1),.agg #[.int .i64 y1,.int .i64 y2]] w' fun e w''=>e=.returned (.int .i64 (alo s (c+1) (y1,y2)))∧Below w'.heap.size w' w''):=fun w' hw=>by
       have hca:((c+1:Nat):Int)=(c:Int)+1:=by omega
       rw[←hca];exact leastAlone_any s (fun _=>True) _ _ (c+1) y1 y2 w' ((HC.out.mono fun _ _ _ _=>trivial).below' (HTA.out.next ((Below.refl V1.heap.size V1).drew.trans hw)).bel) HR.out (List.mem_of_getElem? HY.out)
      have HBJ:=Hd (bhj_succ (c:=c) HY.out);have hw1:IntKind.i64.wrap ((c:Int)+1)=(c:Int)+1:=IntWalk.i64_in _ (by omega);clear hus hrs2 hcell;generalize alo s (c+1) (y1,y2)=A at HLA HBJ;refine wp_region_tail 14 (by kernel_rfl) (by kernel_rfl) ?_;simp only[List.take_succ_cons,List.take_zero,List.drop_succ_cons,List.drop_zero]
      iterate 3 (unfold wpCalm;generalize hK:wpCalm _ _ _ _ _=K;unfold Oper.calm;go_simp;refine⟨_,fun _ _=>rfl,?_⟩;subst hK)
      unfold wpCalm;generalize hK:wpCalm _ _ _ _ _=K;rw[if_pos (by go_simp)];refine calm_loadBH _ _ _ rfl rfl H15.out ?_;go_simp;subst hK;unfold wpCalm;generalize hK:wpCalm _ _ _ _ _=K;unfold Oper.calm;go_simp;refine⟨_,fun _ _=>rfl,?_⟩;subst hK;unfold wpCalm;generalize hK:wpCalm _ _ _ _ _=K;rw[if_pos (by go_simp)];refine calm_ixB _ _ rfl rfl rfl hlt ?_;go_simp;subst hK;unfold wpCalm;generalize hK:wpCalm _ _ _ _ _=K;rw[if_pos (by go_simp)];refine calm_loadLI _ _ _ rfl rfl HRW.out ?_;go_simp;subst hK;unfold wpCalm;generalize hK:wpCalm _ _ _ _ _=K;unfold Oper.calm;go_simp;refine⟨_,fun _ _=>rfl,?_⟩;subst hK;unfold wpCalm;generalize hK:wpCalm _ _ _ _ _=K;rw[if_pos (by go_simp)];refine calm_load27 _ W.heap.size s.st _ _ rfl rfl HNB.out ?_;go_simp;subst hK
      iterate 2 (unfold wpCalm;generalize hK:wpCalm _ _ _ _ _=K;unfold Oper.calm;go_simp;refine⟨_,fun _ _=>rfl,?_⟩;subst hK)
      unfold wpCalm;generalize hK:wpCalm _ _ _ _ _=K;rw[if_pos (by go_simp)];refine calm_loadWV _ wb (y1,y2) rfl rfl HWV.out ?_;go_simp;subst hK;unfold wpCalm;generalize hK:wpCalm _ _ _ _ _=K;unfold Oper.calm;go_simp;refine⟨_,fun w' hw=>HLA.out w' hw,?_⟩;subst hK;unfold wpCalm;generalize hK:wpCalm _ _ _ _ _=K;rw[if_pos (by go_simp)];refine calm_ixI _ _ rfl rfl rfl hjl ?_;go_simp;subst hK;refine wpCalm_nil ?_;intro V3 hb3;have HT3:=Hd (HTA.out.next ((Below.refl V1.heap.size V1).drew.trans hb3));have ou:=HT3.out.ow.li c _ _ HUR.out.1 HUR.out.2;obtain⟨v0,hv0⟩:∃v0,(bhj s c j)[j]?=some v0:=⟨_,List.getElem?_eq_getElem (by rw[bhj_length hj];exact hjl)⟩;have d0:V3.cell? ⟨gl,j,none⟩=some (.int .i64 v0):=ou.cell hv0;have g0:V3.frozen? ⟨gl,j,none⟩=false:=ou.fr j
      have HT4:Hid (Tn W (V3.setCell ⟨gl,j,none⟩ (.int .i64 A)) s (.slice ac s.cs.length kc) (.slice (some ⟨gw,ow,none⟩) s.ws.length kw) (us.set c (.slice (some ⟨gl,0,none⟩) s.ws.length s.ws.length)) ((bhk s c).set c (bhj s c (j+1)))):=by
       have:=HT3.out.put HUR.out.1 HUR.out.2 j A;rwa[List.set_set,HBJ.out]at this
      clear hb3 H15 HRW HNB HWV HLA HTA HYB HT3 ou hv0 HBJ HUR;go_wp2;go_roundw
      case rel=>exact⟨j+1,by omega,by go_num,HT4⟩
      case measure=>simp[intOf];omega
     ·have hjz:¬(j:Int)<(s.ws.length:Int):=by omega
      have hje:j=s.ws.length:=by omega
      have hT:=HT.out;rw[hje,bhj_end,bhk_succ hlt]at hT;have HT2:=Hd hT;clear hT HT hje;go_wp2;go_roundw
      case rel=>exact⟨c+1,_,by omega,by go_num,HT2⟩
      case measure=>simp[intOf];omega
   ·have hcz:¬(c:Int)<(s.cs.length:Int):=by omega
    have hce:c=s.cs.length:=by omega
    rw[hce,bhk_end]at HT
    have HE:Hid (Below W.heap.size W wr∧TR (fun g=>(D g∧g<W.heap.size)∨W.heap.size≤g) wr (W.heap.size+1+1) s (.slice ac s.cs.length kc) (.slice aw s.ws.length kw) (.slice (some ⟨W.heap.size+1,0,none⟩) s.cs.length s.cs.length)):=by
     refine⟨HT.out.bel,HT.out.tb,.inr (by omega),(HC.out.below' HT.out.bel).mono fun g hg _ _=>.inl hg,(HW.out.below' HT.out.bel).mono fun g hg _ _=>.inl hg,?_,HR.out⟩;have:=HT.out.ow.rl (D:=fun g=>(D g∧g<W.heap.size)∨W.heap.size≤g) fun q hq=>.inr (by omega);rwa[bhd_length]at this
    clear HT hce;go_wp2;go_ret;refine⟨HE.out.1,W.heap.size+1+1,?_⟩
    first
     |exact⟨rfl,by omega,_,HE.out.2⟩
     |exact⟨_,rfl,by omega,HE.out.2⟩
end
def Dw(r0 rb:Nat)(vm vo:Value)(g:Nat):Prop:=(g≠rb∧g≠r0)∧vm.ownBlock≠some g∧vo.ownBlock≠some g
structure Mw(rb:Nat)(vm vo vm' vo':Value)(w w':World):Prop where
 kp:Kp (fun i=>i=rb∨vm.ownBlock=some i∨vo.ownBlock=some i) w w'
 om:vm'.ownBlock=vm.ownBlock∨∀g,vm'.ownBlock=some g→w.heap.size≤g
 oo:vo'.ownBlock=vo.ownBlock∨∀g,vo'.ownBlock=some g→w.heap.size≤g
section
variable {r0 rb:Nat} {vm vo vm' vo':Value} {w w':World}
theorem Mw.below(h:Below w.heap.size w w'):Mw rb vm vo vm vo w w':=⟨Kp.ofBelow _ h,.inl rfl,.inl rfl⟩
theorem Mw.dn(h:Mw rb vm vo vm' vo' w w'){g:Nat}(hg:Dw r0 rb vm vo g)(hlt:g<w.heap.size):Dw r0 rb vm' vo' g:=
 ⟨hg.1,fun e=>by
  rcases h.om with o|o
  ·exact hg.2.1 (o.symm.trans e)
  ·have:=o g e;omega,fun e=>by
  rcases h.oo with o|o
  ·exact hg.2.2 (o.symm.trans e)
  ·have:=o g e;omega⟩
theorem Mw.block(h:Mw rb vm vo vm' vo' w w'){g:Nat}(hg:Dw r0 rb vm vo g)(hlt:g<w.heap.size):w'.heap[g]?=w.heap[g]?:=h.kp.block g hlt (fun e=>e.elim hg.1.1 (fun e=>e.elim hg.2.1 hg.2.2))
theorem Mw.rl(h:Mw rb vm vo vm' vo' w w'){v:Value}{p:List (List Int)}(hp:RL (Dw r0 rb vm vo) w v p):RL (Dw r0 rb vm' vo') w' v p:=
 RL.keep (hp.mono (D':=fun g=>Dw r0 rb vm' vo' g∧Dw r0 rb vm vo g) (fun _ hg hlt _=>⟨h.dn hg hlt,hg⟩)) h.kp.size (fun _ hg hlt=>h.block hg.2 hlt)|>.mono fun _ hg _ _=>hg.1
theorem Mw.tr(h:Mw rb vm vo vm' vo' w w'){tb:Nat}{s:Sn}{vc vw vb:Value}(hp:TR (Dw r0 rb vm vo) w tb s vc vw vb):TR (Dw r0 rb vm' vo') w' tb s vc vw vb:=
 TR.keep (hp.mono (D':=fun g=>Dw r0 rb vm' vo' g∧Dw r0 rb vm vo g) (fun _ hg hlt=>⟨h.dn hg hlt,hg⟩)) h.kp.size (fun _ hg hlt=>h.block hg.2 hlt)|>.mono fun _ hg _=>hg.1
theorem Mw.pth(h:Mw rb vm vo vm' vo' w w'){s:Sn}{pa:Option Addr}{wt:Int}{n:Nn}{d:Nat}(hp:Pth s (Dw r0 rb vm vo) w pa wt n d):Pth s (Dw r0 rb vm' vo') w' pa wt n d:=
 Pth.mono (Pth.keep (hp.mono (D':=fun g=>Dw r0 rb vm' vo' g∧Dw r0 rb vm vo g) (fun _ hg hlt=>⟨h.dn hg hlt,hg⟩)) (fun _ hg hlt=>h.block hg.2 hlt)) fun _ hg _=>hg.1
end
def rcl(vp:Value)(co:Int)(ok:Bool)(n:Int)(pf:Value):List Value:=[vp,.int .i64 co,.bool ok,.int .i64 n,pf]
structure Vi(r0:Nat)(W wr:World)(rb tb:Nat)(s:Sn)(vc vw vb vp vm vo:Value)(x:Sx)(st:List En):Prop where
 rs:wr.heap[rb]?=some (.cells (rcl vp x.cost true 0 (.slice none 0 0)).toArray 106 (0,0))
 rl:RL (Dw r0 rb vm vo) wr vp x.plan
 tr:TR (Dw r0 rb vm vo) wr tb s vc vw vb
 ms:OY wr W.heap.size vm x.marks
 op:ON s wr W.heap.size vo st
 mo:∀g,vm.ownBlock=some g→vo.ownBlock≠some g
 pt:∀e∈st,e.nd.ok s∧∃d,Pth s (Dw r0 rb vm vo) wr e.pa e.wt e.nd d
 kp:Kp (fun k=>k=rb) W wr
 lt:rb<W.heap.size
 l0:r0<W.heap.size
section
variable {W wr w':World} {r0 rb tb:Nat} {s:Sn} {vc vw vb vp vm vo:Value} {x:Sx} {st:List En}
theorem Vi.rlt(h:Vi r0 W wr rb tb s vc vw vb vp vm vo x st):rb<wr.heap.size:=(Array.getElem?_eq_some_iff.1 h.rs).1
theorem Vi.next(h:Vi r0 W wr rb tb s vc vw vb vp vm vo x st)(hb:Below wr.heap.size wr w'):Vi r0 W w' rb tb s vc vw vb vp vm vo x st:=
 ⟨(hb.block rb h.rlt).trans h.rs,h.rl.below' hb,h.tr.below' hb,h.ms.below' hb,h.op.below' hb,h.mo,fun e he=>⟨(h.pt e he).1,(h.pt e he).2.imp fun _ hp=>hp.below' hb⟩,h.kp.thenBelow hb,h.lt,h.l0⟩
theorem Vi.cell(h:Vi r0 W wr rb tb s vc vw vb vp vm vo x st)(i:Nat):wr.cell? ⟨rb,i,none⟩=(rcl vp x.cost true 0 (.slice none 0 0))[i]?:=blk_cell h.rs i
theorem Vi.fr(h:Vi r0 W wr rb tb s vc vw vb vp vm vo x st)(i:Nat):wr.frozen? ⟨rb,i,none⟩=false:=blk_fr h.rs i
theorem Vi.pop{e:En}{g n cap:Nat}(h:Vi r0 W wr rb tb s vc vw vb vp vm (.slice (some ⟨g,0,none⟩) n cap) x (st++[e])):Vi r0 W wr rb tb s vc vw vb vp vm (.slice (some ⟨g,0,none⟩) st.length cap) x st:=
 ⟨h.rs,h.rl,h.tr,h.ms,h.op.pop,h.mo,fun e he=>h.pt e (by simp[he]),h.kp,h.lt,h.l0⟩
theorem Vi.mark(h:Vi r0 W wr rb tb s vc vw vb vp vm vo x st){vm':Value}{m n:Nat}(hg:wr.grownBy w' vm.ownBlock){q:Nat}(hq:vm'.ownBlock=some q)(hor:vm.ownBlock=some q∨q=wr.heap.size)(ho:OY w' W.heap.size vm' (x.marks++[m])):
  Vi r0 W w' rb tb s vc vw vb vp vm' vo ⟨n,x.ended,x.plan,x.cost,x.marks++[m]⟩ st:=by
 have hmr:vm.ownBlock≠some rb:=fun e=>by have:=(h.ms.lt rb e).1;have:=h.lt;omega
 have hmw:Mw rb vm vo vm' vo wr w':=by
  refine⟨(Kp.refl _ wr).grown hg (fun k _ e=>.inr (.inl e)),?_,.inl rfl⟩;rcases hor with e|e
  ·exact .inl (hq.trans e.symm)
  ·refine .inr fun g eg=> ?_;rw[hq]at eg;cases eg;omega
 refine⟨(hg.block rb h.rlt (fun e=>hmr e.symm)).trans h.rs,hmw.rl h.rl,hmw.tr h.tr,ho,h.op.keep fun g hg'=>hg.block g (h.op.lt g hg').2 (fun e=>h.mo g e.symm hg'),fun g eg e2=> ?_,fun e he=>⟨(h.pt e he).1,(h.pt e he).2.imp fun _ hp=>hmw.pth hp⟩,?_,h.lt,h.l0⟩
 ·rw[hq]at eg;cases eg;rcases hor with e|e
  ·exact h.mo q e e2
  ·have:=(h.op.lt q e2).2;omega
 ·exact h.kp.grown hg (fun k hk e=>by have:=(h.ms.lt k e).1;omega)
theorem Vi.better(h:Vi r0 W wr rb tb s vc vw vb vp vm vo x st){vp':Value}{p:List (List Int)}{co:Int}(hp:RL (Dw r0 rb vm vo) wr vp' p):
  Vi r0 W ((wr.setCell ⟨rb,0,none⟩ vp').setCell ⟨rb,1,none⟩ (.int .i64 co)) rb tb s vc vw vb vp' vm vo ⟨x.nodes,x.ended,p,co,x.marks⟩ st:=by
 have hmr:vm.ownBlock≠some rb:=fun e=>by have:=(h.ms.lt rb e).1;have:=h.lt;omega
 have hor:vo.ownBlock≠some rb:=fun e=>by have:=(h.op.lt rb e).1;have:=h.lt;omega
 have hk:Kp (fun k=>k=rb) wr ((wr.setCell ⟨rb,0,none⟩ vp').setCell ⟨rb,1,none⟩ (.int .i64 co)):=((Kp.refl (fun k=>k=rb) wr).set rb 0 _ (fun _=>rfl)).set rb 1 _ (fun _=>rfl);have hmw:Mw rb vm vo vm vo wr ((wr.setCell ⟨rb,0,none⟩ vp').setCell ⟨rb,1,none⟩ (.int .i64 co)):=⟨hk.mono fun _ _ e=>.inl e,.inl rfl,.inl rfl⟩;refine⟨blk_set (blk_set h.rs 0 vp') 1 (.int .i64 co),hmw.rl hp,hmw.tr h.tr,h.ms.keep fun g hg=>hk.block g (h.ms.lt g hg).2 (fun e=>hmr (e▸hg)),h.op.keep fun g hg=>hk.block g (h.op.lt g hg).2 (fun e=>hor (e▸hg)),h.mo,fun e he=>⟨(h.pt e he).1,(h.pt e he).2.imp fun _ hp=>hmw.pth hp⟩,h.kp.trans hk (fun _ _ e=>e),h.lt,h.l0⟩
theorem che_pth{D:Nat→Prop}{wr:World}{e:En}{q d:Nat}(ok:e.nd.ok s)(hq:NK wr q (e.c s))(hd:D q)(h:Pth s D wr e.pa e.wt e.nd d):∀c∈che s e q,c.nd.ok s∧∃d,Pth s D wr c.pa c.wt c.nd d:=fun c hc=>by
 have hmem:∀j,j≤s.ws.length→∀c∈cke s e q j,∃w:Nat,w<j∧e.nd.st[w]?=some false∧mayk s e.nd.k (w:Int)=true∧c=e.grw q w:=by
  intro j
  induction j with
  |zero=>intro _ c hc;simp[cke]at hc
  |succ j ih=>
   intro hj c hc;rw[cke,List.mem_append]at hc;rcases hc with hc|hc
   ·obtain⟨w,h1,h2⟩:=ih (by omega) c hc;exact⟨w,by omega,h2⟩
   ·split at hc
    ·rename_i hh;rw[List.mem_singleton]at hc;exact⟨j,by omega,hh.1,hh.2,hc⟩
    ·cases hc
 unfold che at hc;rw[List.mem_append]at hc;rcases hc with hc|hc
 ·obtain⟨w,h1,h2,h3,rfl⟩:=hmem _ (Nat.le_refl _) c hc;exact⟨ok.grw h1 h2 h3,d+1,.grow hd hq h ok.kl h2⟩
 ·split at hc
  ·rename_i hk;rw[List.mem_singleton]at hc;subst hc;exact⟨ok.nxc (by rw[ok.bl];exact hk),d+1,.next hd hq h (by rw[ok.bl];exact hk)⟩
  ·cases hc
theorem Vi.push(h:Vi r0 W wr rb tb s vc vw vb vp vm vo x st){e:En}{d:Nat}(ok:e.nd.ok s)(hp:Pth s (Dw r0 rb vm vo) wr e.pa e.wt e.nd d){vo':Value}{q:Nat}(h1:wr.heap.size≤q)(h2:NK w' q (e.c s))(h3:ON s w' W.heap.size vo' (st++(che s e q).reverse))(h4:vo'.ownBlock=vo.ownBlock∨∀g,vo'.ownBlock=some g→wr.heap.size≤g)(h5:vo'.ownBlock≠some q)(h6:Kp (fun k=>vo.ownBlock=some k) wr w'):
  Vi r0 W w' rb tb s vc vw vb vp vm vo' x (st++(che s e q).reverse):=by
 have hmr:vm.ownBlock≠some rb:=fun e=>by have:=(h.ms.lt rb e).1;have:=h.lt;omega
 have hor:vo.ownBlock≠some rb:=fun e=>by have:=(h.op.lt rb e).1;have:=h.lt;omega
 have hmw:Mw rb vm vo vm vo' wr w':=⟨h6.mono fun _ _ e=>.inr (.inr e),.inl rfl,h4⟩;have hdq:Dw r0 rb vm vo' q:=⟨⟨by have:=h.rlt;omega,by have:=h.l0;have:=h.kp.size;omega⟩,fun e=>by have:=(h.ms.lt q e).2;omega,h5⟩;refine⟨(h6.block rb h.rlt hor).trans h.rs,hmw.rl h.rl,hmw.tr h.tr,h.ms.keep fun g hg=>h6.block g (h.ms.lt g hg).2 (fun e=>h.mo g hg e),h3,fun g hg e2=> ?_,fun c hc=> ?_,h.kp.trans h6 (fun k hk e=>by have:=(h.op.lt k e).1;omega),h.lt,h.l0⟩
 ·rcases h4 with e|e
  ·exact h.mo g hg (e.symm.trans e2)
  ·have:=e g e2;have:=(h.ms.lt g hg).2;omega
 ·rw[List.mem_append,List.mem_reverse]at hc;rcases hc with hc|hc
  ·exact⟨(h.pt c hc).1,(h.pt c hc).2.imp fun _ hp=>hmw.pth hp⟩
  ·exact che_pth ok h2 hdq (hmw.pth hp) c hc
end
def Tgt(s:Sn)(B:Nat)(x:Sx)(st:List En):Prop:=(st.reverse.map (·.nd)).foldl (vm s B) x=fnd s B∧x.ended=false∧x.marks.length=x.nodes∧x.nodes≤B
section
variable {s:Sn} {B:Nat} {x:Sx} {st:List En} {e:En}
theorem Tgt.top(h:Tgt s B x (st++[e])):(st.reverse.map (·.nd)).foldl (vm s B) (vm s B x e.nd)=fnd s B:=by
 have:=h.1;rw[List.reverse_append,List.reverse_singleton,List.singleton_append,List.map_cons,List.foldl_cons]at this;exact this
theorem Tgt.full(h:Tgt s B x (st++[e]))(ok:e.nd.ok s)(hn:x.marks.length=B):fnd s B=⟨x.nodes,true,x.plan,x.cost,x.marks⟩:=by
 rw[←h.top,vm_full ok h.2.1 (by have:=h.2.2.1;omega)];exact vms_ended rfl _
theorem Tgt.better(h:Tgt s B x (st++[e]))(ok:e.nd.ok s)(hn:x.marks.length≠B)(hl:PM.lf e.nd.st=0)(hc:RM.cst s.st s.ws s.cs e.nd.b<x.cost):Tgt s B ⟨x.nodes+1,false,e.nd.b,RM.cst s.st s.ws s.cs e.nd.b,x.marks++[2]⟩ st:=by
 have h2:=h.2.2;refine⟨?_,rfl,by simp;omega,by show x.nodes+1≤B;omega⟩;rw[←h.top,vm_better ok h.2.1 (by omega) ((left_nil ok).2 hl) hc]
theorem Tgt.leaf(h:Tgt s B x (st++[e]))(ok:e.nd.ok s)(hn:x.marks.length≠B)(hl:PM.lf e.nd.st=0)(hc:¬RM.cst s.st s.ws s.cs e.nd.b<x.cost):Tgt s B ⟨x.nodes+1,false,x.plan,x.cost,x.marks++[2]⟩ st:=by
 have h2:=h.2.2;refine⟨?_,rfl,by simp;omega,by show x.nodes+1≤B;omega⟩;rw[←h.top,vm_leaf ok h.2.1 (by omega) ((left_nil ok).2 hl) hc]
theorem Tgt.cut(h:Tgt s B x (st++[e]))(ok:e.nd.ok s)(hn:x.marks.length≠B)(hl:PM.lf e.nd.st≠0)(hc:x.cost≤lsv s e.nd.k e.nd.b e.nd.st):Tgt s B ⟨x.nodes+1,false,x.plan,x.cost,x.marks++[0]⟩ st:=by
 have h2:=h.2.2;refine⟨?_,rfl,by simp;omega,by show x.nodes+1≤B;omega⟩;rw[←h.top,vm_cut ok h.2.1 (by omega) (fun e=>hl ((left_nil ok).1 e)) hc]
theorem Tgt.branch(h:Tgt s B x (st++[e]))(ok:e.nd.ok s)(hn:x.marks.length≠B)(hl:PM.lf e.nd.st≠0)(hc:¬x.cost≤lsv s e.nd.k e.nd.b e.nd.st)(q:Nat):Tgt s B ⟨x.nodes+1,false,x.plan,x.cost,x.marks++[1]⟩ (st++(che s e q).reverse):=by
 have h2:=h.2.2;refine⟨?_,rfl,by simp;omega,by show x.nodes+1≤B;omega⟩;rw[←h.top,vm_branch ok h.2.1 (by omega) (fun e=>hl ((left_nil ok).1 e)) hc,List.reverse_append,List.reverse_reverse,List.map_append,List.foldl_append,che_nd ok]
end
end Go.Proofs.YtnkelgdnglaafaaGreat
