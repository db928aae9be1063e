import Derived.Test.YtnkelgdnglaafaaGreatQ26
set_option maxHeartbeats 8000000
set_option maxRecDepth 100000
namespace Go.Proofs.YtnkelgdnglaafaaGreat
open Go.RowKit
theorem GroupSafe_any(s:St)(v1:Value)(ps:List (List FF.Fr))(W:World)(hv:RPg FF.RF W v1 ps)(hp:∀l∈ps,l.length≤2000000):
  Calls Tryz.prog 3 #[.agg (sv s).toArray,v1] W fun e w'=>e=.returned (.bool true)∧Below W.heap.size W w':=by
 obtain⟨a1,c1,rfl,-⟩:=hv.form;have HV:=Hd hv;have HP:=Hd hp;have HS:=Hd (SB.new W s);have HB:=Hd ((Below.refl W.heap.size W).alloc (Nat.le_refl _) (.cells (sv s).toArray 23));clear hv hp
 go_enter Tryz.func3,Tryz.ntmps3
 go_wp2_with fail
 generalize W.alloc (.cells (sv s).toArray 23)=X at HS HB⊢;refine (speaks15_any X).mono ?_;rintro e X1 ⟨rfl,hb1⟩;have HS1:=Hd (HS.out.below' hb1);have HB1:=Hd (below_class HB.out hb1);clear hb1 HS HB
 go_wp2_with (refine wpList_load23 rfl _ rfl W.heap.size s rfl HS1.out ?_)
 by_cases r:SM.Rt s
 ·refine (gg_new r X1).mono ?_;rintro e X2 ⟨gb,rfl,hg2,hb2⟩;obtain⟨B,hB⟩:∃B,X1.heap.size=B:=⟨_,rfl⟩;rw[hB]at hg2;have HLT:Hid (W.heap.size<B):=hB▸HS1.out.lt;have HG2:=Hd hg2;have HS2:=Hd (HS1.out.below' hb2);have HB2:=Hd (below_class HB1.out hb2);clear hg2 hb2 hB HS1 HB1
  go_wp2_with (refine wpList_load23 rfl _ rfl W.heap.size s rfl HS2.out ?_)
  have HR:=Hd (rright_any s X2);rw[rightB_true r]at HR;refine HR.out.mono ?_;rintro e X3 ⟨rfl,hb3⟩;have HG3:Hid (Sg W X3 s B W.heap.size gb 0):=⟨⟨_,HG2.out.below hb3,rfl⟩,HS2.out.below' hb3,below_class HB2.out hb3⟩;clear hb3 HR HS2 HG2 HB2;have c11:X3.cell? ⟨W.heap.size,11,none⟩=some (.int .i64 s.bud):=HG3.out.ss.cell 11;by_cases q:s.bud≤2500∧(ps.length:Int)≤120
  ·obtain⟨q1,q2⟩:=q;have p1:¬2500<s.bud:=by omega
   have p2:¬120<(ps.length:Int):=by omega
   go_wp2_with fail
   clear c11
   go_loopw [44] (fun iv wr=>∃j:Nat,j≤ps.length∧iv=.int .i64 (j:Int)∧Hid (Sg W wr s B W.heap.size gb j)) (fun iv _=>ps.length-(intOf iv).toNat)
   case atStart=>exact⟨0,Nat.zero_le _,rfl,HG3⟩
   case round=>
    clear HG3;obtain⟨j,hj,rfl,HG⟩:=hrel;by_cases hlt:j<ps.length
    ·have hz:(j:Int)<(ps.length:Int):=by omega
     obtain⟨l,hl⟩:∃l,ps[j]?=some l:=⟨_,List.getElem?_eq_getElem hlt⟩;have HLL:=Hd (HP.out l (List.mem_of_getElem? hl));obtain⟨g,o,rfl,u,hcu,hru⟩:=HV.out.at HG.out.bel hl;have hru2:=hru.keep HG.out.bel.size fun g _ hlt=>HG.out.bel.block g hlt;have HRF:=Hd (show FF.RF wr u l from hru2);obtain⟨ao,ko,rfl,-⟩:=hru2;have hix:∀W:World,_:=fun W=>ixT (g:=g) (o:=o) (cap:=c1) W hlt;have HBY:=Hd (gbytes_any HRF.out HLL.out);have hj1:j+1≤ps.length:=hlt;clear hl hru HLL
     go_wp2_with fail
     clear hix hcu;refine HBY.out.mono ?_;rintro e W4 ⟨hb4,⟨rfl,-⟩|⟨u4,rfl,hmay,ho4⟩⟩
     ·have HBB:=Hd (below_class HG.out.bel hb4);clear hb4 HBY;go_wp2;go_ret;exact⟨rfl,HBB.out⟩
     ·by_cases q40:(l.length:Int)≤40
      ·have p40:¬40<(l.length:Int):=by omega
       obtain⟨G,hgg,hst⟩:=HG.out.ex;have hlb:(FF.FC.ens l).length≤900:=by rw[FF.FC.ens_length];omega
       have hbs:=FF.FC.ens_Bs hmay;have HT:=Hd (gg_tick hgg (by omega) hb4 (ho4.rd hbs) hlb fun g hg=>(ho4.lt g hg).1);have HOK:Hid (∀i:Nat,(i:Int)<s.ca→∃m c,(GM.tck G (FF.FC.ens l)).2.M[i]?=some m∧(GM.tck G (FF.FC.ens l)).1[i]?=some c∧CmOk (GM.tck G (FF.FC.ens l)).2 m c):=fun i hi=>tck_ok hgg.q (by omega) hbs hlb (by rw[hst];exact hi);have hnd:=tck_nd hgg.q (by omega) hbs hlb;rw[hst]at hnd;have HND:=Hd hnd;have HS4:=Hd (HG.out.ss.below' hb4);have HB4:=Hd (below_class HG.out.bel hb4);have HST:=Hd hst;clear hgg hst hbs hlb hnd hb4 ho4 hmay HBY
       go_wp2_with fail
       refine HT.out.mono ?_;rintro e W5 ⟨g5,k,rfl,hk,hg5,hcr,hlg,hb5,-⟩;rw[HST.out]at hk;obtain⟨G2,hG2⟩:∃x,(GM.tck G (FF.FC.ens l)).2=x:=⟨_,rfl⟩;obtain⟨cs,hcs⟩:∃x,(GM.tck G (FF.FC.ens l)).1=x:=⟨_,rfl⟩;rw[hG2]at hg5 HOK HND;rw[hcs]at hcr HOK;have hdn:((k:Int) !=s.ca)=false:=by simpa using hk
       have p3:¬s.bud<G2.nd:=by have:=HND.out.1;omega
       have p4:¬128<(G2.L.length:Int):=by have:=hg5.q.go.gd.len;omega
       have HK:=Hd hk;have HG5:=Hd hg5;have HCR:=Hd hcr;have HS5:=Hd (HS4.out.below hb5 HLT.out);have HB5:=Hd (HB4.out.trans (hb5.mono (Nat.le_of_lt HLT.out)));have HSG5:Hid (Sg W W5 s B W.heap.size gb (j+1)):=⟨⟨G2,by rw[Int.natCast_add];exact hg5,HND.out.2⟩,HS5.out,HB5.out⟩;clear hg5 hcr hlg hb5 hk hG2 hcs HT HG HS4 HB4 HRF HST
       go_upto_region 15 with (fail)
       refine wp_nrm ?_;refine wp_region_held (S:=fun w=>SB w W.heap.size s) (by kernel_rfl) ?_;change wpAnyH _ _ _ _ _ _ _ _ (World.drew _);have HBD:=Hd (Below.refl W5.heap.size W5).drew;have HD:Hid (SB W5.drew W.heap.size s):=HS5.out.drew;generalize W5.drew=w0 at HBD HD⊢;refine wpAnyH_take (i:=0) rfl (by kernel_rfl) (by kernel_rfl) (by kernel_rfl) (fun _ _ _ h=>by cases h.1) (.inl ⟨rfl,fun _ _=>rfl⟩) HD.out ?_;generalize hKK:wpAnyH _ _ _ _ _ _ _=KK;go_simp;subst hKK;refine wpAnyH_take (i:=1) (v:=.int .i64 (k:Int)) rfl (by kernel_rfl) (by kernel_rfl) (by kernel_rfl) (fun _ _ _ h=>by cases h.1) (.inl ⟨rfl,fun w _=>by go_simp⟩) HD.out ?_;generalize hKK:wpAnyH _ _ _ _ _ _ _=KK;go_simp;subst hKK;refine wpAnyH_take (i:=2) rfl (by kernel_rfl) (by kernel_rfl) (by kernel_rfl) (fun _ _ _ h=>by cases h.1) (.inl ⟨rfl,fun _ _=>rfl⟩) HD.out ?_;generalize hKK:wpAnyH _ _ _ _ _ _ _=KK;go_simp;subst hKK;refine wpAnyH_take (i:=3) (v:=.int .i64 s.ca) rfl (by kernel_rfl) (by kernel_rfl) (by kernel_rfl) (fun _ _ _ h=>by cases h.1) (.inl ⟨rfl,(fun w hw=>by have hc:w.cell? ⟨W.heap.size,1,none⟩=some (.int .i64 s.ca):=hw.cell 1;go_simp)⟩) HD.out ?_;generalize hKK:wpAnyH _ _ _ _ _ _ _=KK;go_simp;subst hKK;refine wpAnyH_take (i:=4) (v:=.bool false) rfl (by kernel_rfl) (by kernel_rfl) (by kernel_rfl) (fun _ _ _ h=>by cases h.1) (.inl ⟨rfl,(fun w _=>by have:=hdn;go_simp)⟩) HD.out ?_;generalize hKK:wpAnyH _ _ _ _ _ _ _=KK;go_simp;subst hKK;refine wpAnyH_take (i:=5) rfl (by kernel_rfl) (by kernel_rfl) (by kernel_rfl) (fun _ _ _ h=>by cases h.1) (.inl ⟨rfl,fun _ _=>rfl⟩) HD.out ?_;generalize hKK:wpAnyH _ _ _ _ _ _ _=KK;go_simp;subst hKK;refine wpAnyH_take (i:=6) rfl (by kernel_rfl) (by kernel_rfl) (by kernel_rfl) (fun _ _ _ h=>by cases h.1) (.inl ⟨rfl,fun _ _=>rfl⟩) HD.out ?_;generalize hKK:wpAnyH _ _ _ _ _ _ _=KK;go_simp;subst hKK;refine wpAnyH_take (i:=8) rfl (by kernel_rfl) (by kernel_rfl) (by kernel_rfl) (fun _ _ _ h=>by cases h.1) (.inl ⟨rfl,fun _ _=>rfl⟩) HD.out ?_;generalize hKK:wpAnyH _ _ _ _ _ _ _=KK;go_simp;subst hKK;refine wpAnyH_take (i:=9) (v:=.int .i64 s.bud) rfl (by kernel_rfl) (by kernel_rfl) (by kernel_rfl) (fun _ _ _ h=>by cases h.1) (.inl ⟨rfl,(fun w hw=>by have hc:w.cell? ⟨W.heap.size,11,none⟩=some (.int .i64 s.bud):=hw.cell 11;go_simp)⟩) HD.out ?_;generalize hKK:wpAnyH _ _ _ _ _ _ _=KK;go_simp;subst hKK;refine wpAnyH_all (rs:=[7]) (by kernel_rfl) (by simp) (fun ii hii=> ?_);obtain rfl:ii=7:=by simpa using hii
       clear hii;refine wpOp_call (f:=12) (args:= #[.pointer (some ⟨gb,0,none⟩)]) rfl rfl (by go_simp) (gg_nodes (HG5.out.below HBD.out)) ?_;rintro e w1 ⟨rfl,rfl⟩;refine⟨_,rfl,HD.out,?_⟩;generalize hKK:wpAnyH _ _ _ _ _ _ _=KK;go_simp;subst hKK;refine wpAnyH_take (i:=10) (v:=.bool false) rfl (by kernel_rfl) (by kernel_rfl) (by kernel_rfl) (fun _ _ _ h=>by cases h.1) (.inl ⟨rfl,(fun w _=>by have:=p3;go_simp)⟩) HD.out ?_;generalize hKK:wpAnyH _ _ _ _ _ _ _=KK;go_simp;subst hKK;refine wpAnyH_take (i:=11) (v:=.bool false) rfl (by kernel_rfl) (by kernel_rfl) (by kernel_rfl) (fun _ _ _ h=>by cases h.1) (.inl ⟨rfl,fun w _=>by go_simp⟩) HD.out ?_;generalize hKK:wpAnyH _ _ _ _ _ _ _=KK;go_simp;subst hKK;refine wpAnyH_take (i:=12) rfl (by kernel_rfl) (by kernel_rfl) (by kernel_rfl) (fun _ _ _ h=>by cases h.1) (.inl ⟨rfl,fun _ _=>rfl⟩) HD.out ?_;generalize hKK:wpAnyH _ _ _ _ _ _ _=KK;go_simp;subst hKK;refine wpAnyH_take (i:=13) rfl (by kernel_rfl) (by kernel_rfl) (by kernel_rfl) (fun _ _ _ h=>by cases h.1) (.inl ⟨rfl,fun _ _=>rfl⟩) HD.out ?_;generalize hKK:wpAnyH _ _ _ _ _ _ _=KK;go_simp;subst hKK;refine wpAnyH_all (rs:=[14]) (by kernel_rfl) (by simp) (fun ii hii=> ?_);obtain rfl:ii=14:=by simpa using hii
       clear hii;refine wpOp_call (f:=13) (args:= #[.pointer (some ⟨gb,0,none⟩)]) rfl rfl (by go_simp) (gg_calls (HG5.out.below HBD.out)) ?_;rintro e w2 ⟨v2,rfl,hr2,hb2⟩;obtain⟨a2,n2,k2,rfl⟩:=hr2.slice;obtain rfl:=hr2.len;have HB2:=Hd (below_class HBD.out hb2);refine⟨_,rfl,HD.out.below' hb2,?_⟩;clear HD;have HD:=Hd (HS5.out.below' HB2.out);clear hr2 hb2 HBD;generalize hKK:wpAnyH _ _ _ _ _ _ _=KK;go_simp;subst hKK;refine wpAnyH_take (i:=15) (v:=.int .i64 (G2.L.length:Int)) rfl (by kernel_rfl) (by kernel_rfl) (by kernel_rfl) (fun _ _ _ h=>by cases h.1) (.inl ⟨rfl,fun w _=>by go_simp⟩) HD.out ?_;generalize hKK:wpAnyH _ _ _ _ _ _ _=KK;go_simp;subst hKK;refine wpAnyH_take (i:=16) (v:=.bool false) rfl (by kernel_rfl) (by kernel_rfl) (by kernel_rfl) (fun _ _ _ h=>by cases h.1) (.inl ⟨rfl,(fun w _=>by have:=p4;go_simp)⟩) HD.out ?_;generalize hKK:wpAnyH _ _ _ _ _ _ _=KK;go_simp;subst hKK;refine wpAnyH_take (i:=17) (v:=.bool false) rfl (by kernel_rfl) (by kernel_rfl) (by kernel_rfl) (fun _ _ _ h=>by cases h.1) (.inl ⟨rfl,fun w _=>by go_simp⟩) HD.out ?_;generalize hKK:wpAnyH _ _ _ _ _ _ _=KK;go_simp;subst hKK;refine wpAnyH_done (by kernel_rfl) ⟨rfl,?_⟩ _;have HSG2:=Hd (HSG5.out.next HB2.out);have HG2:=Hd (HG5.out.below HB2.out);have HCR2:Hid (CR w2 g5 cs):=(HB2.out.block _ HCR.out.lt).trans HCR.out;clear HD HB2 HSG5 HG5 HCR HS5 HB5
       go_wp2_with fail
       have hk8:k≤8:=by have:=HK.out;have:=r.ca2;omega
       go_loopw [12,13,14,15,83] (fun _ _ _ _ nv wr=>∃n:Nat,n≤k∧nv=.int .i64 (n:Int)∧Hid (Below w2.heap.size w2 wr)) (fun _ _ _ _ nv _=>k-(intOf nv).toNat)
       case atStart=>exact⟨0,Nat.zero_le _,rfl,Hd (Below.refl _ _)⟩
       case round=>
        rename World=>Wr
        obtain⟨n,hn,rfl,HB⟩:=hrel;by_cases hln:n<k
        ·have hnz:(n:Int)<(k:Int):=by omega
         obtain⟨m,⟨cc,cg⟩,hm,hc,hok⟩:=HOK.out n (by have:=HK.out;omega);obtain⟨t0,t1⟩:=cms_get hc;have hcw:Wr.heap[g5]?=some (.cells (cms cs).toArray 41 (0,0)):=(HB.out.block _ HCR2.out.lt).trans HCR2.out;have e0:Wr.cell? ⟨g5,n*2,none⟩=some (.bool cc):=by simp[World.cell?,hcw];exact t0
         have e1:Wr.cell? ⟨g5,n*2+1,none⟩=some (.int .i64 cg):=by simp[World.cell?,hcw];exact t1
         have hix:∀W:World,_:=fun W=>ixCm (g:=g5) W hln;have HX1:=Hd ((Below.refl Wr.heap.size Wr).alloc (Nat.le_refl _) (.cells #[.bool cc,.int .i64 cg] 41));have HCB:=Hd (World.alloc_heap_new Wr (.cells #[.bool cc,.int .i64 cg] 41));have hn1:n+1≤k:=hln;have HM:=Hd hm;clear hc t0 t1 hcw hm
         go_wp2_with fail
         clear e0 e1 hix;generalize Wr.alloc (.cells #[.bool cc,.int .i64 cg] 41)=V1 at HX1 HCB⊢;generalize Wr.heap.size=cb at HCB⊢;have hb1:=below_class HB.out HX1.out;have hsn:=gg_seen (HG2.out.below hb1) n;rw[see_at HM.out]at hsn;refine hsn.mono ?_;rintro e V2 ⟨rfl,hb2⟩;have HCB2:=Hd ((hb2.block _ (Array.getElem?_eq_some_iff.1 HCB.out).1).trans HCB.out);have HB2:=Hd (below_class hb1 hb2);rw[show(sev m).toArray= #[.bool m.lv,.bool m.ou,.bool m.mo,.bool m.fa,.bool m.ov,.int .i64 m.fl,.int .i64 m.tg,.int .i64 m.ph]from rfl];clear hb1 hb2 hsn HX1 HCB HB;have hal:=(Below.refl V2.heap.size V2).alloc (Nat.le_refl _) (.cells #[.bool m.lv,.bool m.ou,.bool m.mo,.bool m.fa,.bool m.ov,.int .i64 m.fl,.int .i64 m.tg,.int .i64 m.ph] 43);have hnw:=World.alloc_heap_new V2 (.cells #[.bool m.lv,.bool m.ou,.bool m.mo,.bool m.fa,.bool m.ov,.int .i64 m.fl,.int .i64 m.tg,.int .i64 m.ph] 43);have HB3:=Hd (below_class HB2.out hal);have HCB3:=Hd ((hal.block _ (Array.getElem?_eq_some_iff.1 HCB2.out).1).trans HCB2.out);have HXB:=Hd hnw;clear hal hnw HCB2 HB2
         go_upto_region 21 with (fail)
         generalize V2.alloc (.cells #[.bool m.lv,.bool m.ou,.bool m.mo,.bool m.fa,.bool m.ov,.int .i64 m.fl,.int .i64 m.tg,.int .i64 m.ph] 43)=V3 at HB3 HCB3 HXB⊢;generalize V2.heap.size=xb at HXB⊢;have x0:V3.cell? ⟨cb,0,none⟩=some (.bool cc):=blk_cell HCB3.out 0;have x1:V3.cell? ⟨cb,1,none⟩=some (.int .i64 cg):=blk_cell HCB3.out 1;have y0:V3.cell? ⟨xb,0,none⟩=some (.bool m.lv):=blk_cell HXB.out 0;have y1:V3.cell? ⟨xb,1,none⟩=some (.bool m.ou):=blk_cell HXB.out 1;have y2:V3.cell? ⟨xb,2,none⟩=some (.bool m.mo):=blk_cell HXB.out 2;have y3:V3.cell? ⟨xb,3,none⟩=some (.bool m.fa):=blk_cell HXB.out 3;have y5:V3.cell? ⟨xb,5,none⟩=some (.int .i64 m.fl):=blk_cell HXB.out 5;have y7:V3.cell? ⟨xb,7,none⟩=some (.int .i64 m.ph):=blk_cell HXB.out 7;have c0:V3.cell? ⟨W.heap.size,0,none⟩=some (.int .i64 s.fl):=(HSG2.out.next HB3.out).ss.cell 0;have HRC:=Hd (gg_recall (HG2.out.below HB3.out));have hfl:=r.fl1;have hst:=HND.out.2;unfold CmOk at hok;rw[hst]at hok;obtain⟨rc,hrc⟩:∃x,G2.rc=x:=⟨_,rfl⟩;rw[hrc]at hok HRC;clear HCB3 HXB HM hst hrc
         have HCASE:Hid ((cc=false∧cg= -1)∨(m.lv=true∧m.ou=false∧m.fa=false∧m.mo=false∧m.ph=0)∧((cc=false∧0≤cg∧cg<s.fl∧m.fl≠cg∧(rc=true→cg=0))∨(cc=true∧cg= -1∧(rc=true→m.fl=0)))):=by
          rcases hok with h|⟨h,⟨f,h1,h2⟩|⟨h1,h2⟩⟩
          ·cases h;exact .inl ⟨rfl,rfl⟩
          ·cases h1;exact .inr ⟨h,.inl ⟨rfl,h2⟩⟩
          ·cases h1;exact .inr ⟨h,.inr ⟨rfl,rfl,h2⟩⟩
         clear hok;obtain⟨mlv,h1⟩:∃x,m.lv=x:=⟨_,rfl⟩;obtain⟨mou,h2⟩:∃x,m.ou=x:=⟨_,rfl⟩;obtain⟨mmo,h3⟩:∃x,m.mo=x:=⟨_,rfl⟩;obtain⟨mfa,h4⟩:∃x,m.fa=x:=⟨_,rfl⟩;obtain⟨mfl,h5⟩:∃x,m.fl=x:=⟨_,rfl⟩;obtain⟨mph,h6⟩:∃x,m.ph=x:=⟨_,rfl⟩;rw[h1,h2,h3,h4,h5,h6]at HCASE;rw[h1]at y0;rw[h2]at y1;rw[h3]at y2;rw[h4]at y3;rw[h5]at y5;rw[h6]at y7;clear h1 h2 h3 h4 h5 h6;rcases HCASE.out with⟨rfl,rfl⟩|⟨⟨rfl,rfl,rfl,rfl,rfl⟩,⟨rfl,f0,f1,f2,f3⟩|⟨rfl,rfl,f3⟩⟩
         ·have d1:¬s.fl≤ -1:=by omega
          clear HCASE
          go_wp2_with fail
          refine HRC.out.mono ?_;rintro e w' ⟨rfl,rfl⟩;clear HRC;cases rc
          all_goals
           go_wp2;go_roundw
           case rel=>exact⟨n+1,hn1,by go_num,HB3⟩
           case measure=>simp[intOf];omega
         ·have d1:¬s.fl≤cg:=by omega
          have d2:(cg== -1)=false:=by simp;omega
          have d3:¬cg< -1:=by omega
          clear HCASE
          go_wp2_with fail
          refine HRC.out.mono ?_;rintro e w' ⟨rfl,rfl⟩;clear HRC;cases rc
          ·clear f3;go_wp2;go_roundw
           case rel=>exact⟨n+1,hn1,by go_num,HB3⟩
           case measure=>simp[intOf];omega
          ·have f4:=f3 rfl;have d4:(cg==0)=true:=by simpa using f4
           have d5:(mfl !=0)=true:=by rw[f4]at f2;simpa using f2
           clear f3 f4 f2;go_wp2;go_roundw
           case rel=>exact⟨n+1,hn1,by go_num,HB3⟩
           case measure=>simp[intOf];omega
         ·have d1:¬s.fl≤ -1:=by omega
          clear HCASE
          go_wp2_with fail
          refine HRC.out.mono ?_;rintro e w' ⟨rfl,rfl⟩;clear HRC;cases rc
          ·clear f3;go_wp2;go_roundw
           case rel=>exact⟨n+1,hn1,by go_num,HB3⟩
           case measure=>simp[intOf];omega
          ·have d5:(mfl==0)=true:=by simpa using f3 rfl
           clear f3;go_wp2;go_roundw
           case rel=>exact⟨n+1,hn1,by go_num,HB3⟩
           case measure=>simp[intOf];omega
        ·have hnz:¬(n:Int)<(k:Int):=by omega
         have HSG3:=Hd (HSG2.out.next HB.out);clear HB;go_wp2;go_roundw
         case rel=>exact⟨j+1,hj1,by go_num,HSG3⟩
         case measure=>simp[intOf];omega
      ·have HBB:=Hd (below_class HG.out.bel hb4);have p40:40<(l.length:Int):=by omega
       clear hb4 ho4 hmay HBY;go_wp2;go_ret;exact⟨rfl,HBB.out⟩
    ·have hz:¬(j:Int)<(ps.length:Int):=by omega
     have HBB:=Hd HG.out.bel;go_wp2;go_ret;exact⟨rfl,HBB.out⟩
  ·go_wp2_with fail
   all_goals first
    |(exfalso;omega)
    |(go_ret;exact⟨rfl,HG3.out.bel⟩)
 ·refine (gnew_no s r X1).mono ?_;rintro e X2 ⟨rfl,hb2⟩;have HS2:=Hd (HS1.out.below' hb2);have HB2:=Hd (below_class HB1.out hb2);clear hb2 HS1 HB1
  go_wp2_with (refine wpList_load23 rfl _ rfl W.heap.size s rfl HS2.out ?_)
  have HR:=Hd (rright_any s X2);rw[rightB_false r]at HR;refine HR.out.mono ?_;rintro e X3 ⟨rfl,hb3⟩;have HB3:=Hd (below_class HB2.out hb3);clear hb3 HR HS2 HB2;go_wp2;go_ret;exact⟨rfl,HB3.out⟩
end Go.Proofs.YtnkelgdnglaafaaGreat
