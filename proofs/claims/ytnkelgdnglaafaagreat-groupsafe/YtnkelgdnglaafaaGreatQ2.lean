import Derived.Test.YtnkelgdnglaafaaGreatQ1
import Derived.StillTail
import Derived.WalkMore
import Derived.OrdersIn
import Derived.TacticsIn
import Derived.TacticsInMore
set_option maxHeartbeats 8000000
set_option maxRecDepth 100000
namespace Go.Proofs.YtnkelgdnglaafaaGreat
open Go.RowKit
theorem wp_region_tail{P:Program}{id:Nat}{Q:Exit→Act→World→Prop}{a:Act}{w:World}{l:List Oper}(n:Nat)(hm:P.follows .mixedOrders=true)(hB:shapeB .any l.toArray n n=true)
  (h:wpCalm P l.toArray w.drew (fun a'=>∀w',Below w.drew.heap.size w.drew w'→wpList P l.toArray Q (l.drop n) a' w') (l.take n) a):
  (Code.region id l.toArray true).wp P Q a w:=by
 refine wp_region_new n n (fun _=>.cells #[] 0) hm hB (fun j h1 h2=>by omega) ?_;refine wpCalm_mono (fun a' ha σ w' hs=> ?_) _ a h
 match σ,hs with
 |[],hs=>exact ha w' hs.bel
 |p::r,hs=>
  exfalso;have h1:=hs.some p (by simp);omega
theorem calm_val{P:Program}{W0:World}{K:Act→Prop}{o:Oper}{a:Act}(v:Value)(hrun:∀w,Below W0.heap.size W0 w→(execOp a.eval o).run P w=.ok (.value v) w)(h:K (a.put o.dst v)):Oper.calm P W0 o a K:=
 ⟨v,fun w hw=>by unfold Oper.quietAt;rw[hrun w hw];exact⟨rfl,rfl⟩,h⟩
section
variable {W0:World} {K:Act→Prop} {o:Oper} {a:Act}
theorem calm_load27(x:Operand)(b:Nat)(s:St)(vc vw:Value)(ho:o.op=.load 100 x)(hx:a.eval x=.pointer (some ⟨b,0,none⟩))(hr:∀w,Below W0.heap.size W0 w→NB w b s vc vw)
  (h:K (a.put o.dst (.agg (nv s vc vw).toArray))):Oper.calm Tryz.prog W0 o a K:=
 calm_val _ (fun w hw=>by unfold execOp;simp only[ho,hx,Sem.run_bind,Sem.run_pure,Result.andThen_ok,load27 w b s vc vw (hr w hw).range]) h
theorem calm_load3(x:Operand)(b k:Nat){v:Value}(ho:o.op=.load 3 x)(hx:a.eval x=.pointer (some ⟨b,k,none⟩))(hr:∀w,Below W0.heap.size W0 w→w.cell? ⟨b,k,none⟩=some v)
  (h:K (a.put o.dst v)):Oper.calm Tryz.prog W0 o a K:=
 calm_val _ (fun w hw=>by unfold execOp;simp only[ho,hx,Sem.run_bind,Sem.run_pure,Result.andThen_ok,load3 w b k v (hr w hw)]) h
theorem loadLI(w:World)(b o:Nat)(v:Value)(h:w.cell? ⟨b,o,none⟩=some v):(Instr.loadAt 90 (.pointer (some ⟨b,o,none⟩))).run Tryz.prog w=.ok v w:=by simp[go_sem,h]
theorem calm_loadLI(x:Operand)(b k:Nat){v:Value}(ho:o.op=.load 90 x)(hx:a.eval x=.pointer (some ⟨b,k,none⟩))(hr:∀w,Below W0.heap.size W0 w→w.cell? ⟨b,k,none⟩=some v)
  (h:K (a.put o.dst v)):Oper.calm Tryz.prog W0 o a K:=
 calm_val _ (fun w hw=>by unfold execOp;simp only[ho,hx,Sem.run_bind,Sem.run_pure,Result.andThen_ok,loadLI w b k v (hr w hw)]) h
theorem calm_ixI(x y:Operand){g f n cap j:Nat}(ho:o.op=.indexAddr 90 x y)(hx:a.eval x=.slice (some ⟨g,f,none⟩) n cap)(hy:a.eval y=.int .i64 (j:Int))(hj:j<n)
  (h:K (a.put o.dst (.pointer (some ⟨g,f+j,none⟩)))):Oper.calm Tryz.prog W0 o a K:=
 calm_val _ (fun w hw=>by unfold execOp;simp only[ho,hx,hy,Sem.run_bind,Sem.run_pure,Result.andThen_ok,ixI w rfl hj]) h
end
section
variable {C:World→Prop} {K:Act→Prop} {o:Oper} {a:Act}
end
def fsb(s:Sn)(p:List (List Int)):Bool:=rgt s&&decide (p.length=s.cs.length)&&PM.feas (msk s) p
structure Fq(w W:World)(B b sb lb:Nat)(s:Sn)(D G:Nat→Prop)(vc vw vp:Value)(p:List (List Int))(vs:List Value)(st:List Bool)(ls:List (List Int)):Prop where
 nb:NB W w.heap.size s.st vc vw
 nB:w.heap.size<B
 dq:Dq W B b sb lb vw vs G s.ws st ls
 rp:RL D W vp p
 dl:∀g,D g→g<w.heap.size
 bel:Below w.heap.size w W
 sl:st.length=s.ws.length
 BW:B≤W.heap.size
section
variable {w W W':World} {B b sb lb:Nat} {s:Sn} {D G:Nat→Prop} {vc vw vp:Value} {p:List (List Int)} {vs vs':List Value} {st st':List Bool} {ls ls':List (List Int)}
theorem Fq.next(h:Fq w W B b sb lb s D G vc vw vp p vs st ls)(hb:Below W.heap.size W W'):Fq w W' B b sb lb s D G vc vw vp p vs st ls:=
 ⟨h.nb.below' hb,h.nB,h.dq.below' hb,h.rp.below' hb,h.dl,below_class h.bel hb,h.sl,Nat.le_trans h.BW hb.size⟩
theorem Fq.step(h:Fq w W B b sb lb s D G vc vw vp p vs st ls)(hd:Dq W' B b sb lb vw vs' G s.ws st' ls')(hk:Kp (fp b sb lb vs) W W')(hs:st'.length=st.length):Fq w W' B b sb lb s D G vc vw vp p vs' st' ls':=by
 have far:∀k,k<B→¬fp b sb lb vs k:=fun k hk hf=>by have:=(h.dq.fp_lo hf).1;omega
 have hB:=h.nB;exact⟨h.nb.kp hk (far _ h.nB),h.nB,hd,h.rp.keep hk.size fun g hg hlt=>hk.block g hlt (far g (by have:=h.dl g hg;omega)),h.dl,hk.below h.bel h.bel.size (fun i hi=>far i (by omega)),hs.trans h.sl,Nat.le_trans h.BW hk.size⟩
end
theorem RI.base{w W:World}{v:Value}{l:List Int}(h:RI (fun g=>g<w.heap.size) W v l)(hb:Below w.heap.size w W):RI (fun g=>g<w.heap.size) w v l:=by
 obtain⟨a,cap,rfl,hc,hn,h⟩:=h;refine⟨a,cap,rfl,hc,hn,?_⟩;rcases h with h|⟨g,o,rfl,hd,_,h⟩
 ·exact .inl h
 ·exact .inr ⟨g,o,rfl,hd,hd,fun i y hy=>(hb.cell (p:=⟨g,o+i,none⟩) hd).symm.trans (h i y hy)⟩
def Lf(R:Option (List Bool))(ms:List Nat)(k:Nat)(st:List Bool)(l:List Int)(p:List (List Int)):Prop:=R=(PM.run1 ms k st l).bind fun st'=>PM.runs ms (k+1) st' p
theorem Lf.no{R:Option (List Bool)}{ms:List Nat}{k:Nat}{st:List Bool}{x:Int}{l:List Int}{p:List (List Int)}(h:Lf R ms k st (x::l) p)(hx:¬(PM.okx ms k x=true∧st[x.toNat]?=some false)):R=none:=by
 unfold Lf at h;rw[h,PM.run1,if_neg hx];rfl
theorem Lf.yes{R:Option (List Bool)}{ms:List Nat}{k:Nat}{st:List Bool}{x:Int}{l:List Int}{p:List (List Int)}(h:Lf R ms k st (x::l) p)(hx:PM.okx ms k x=true∧st[x.toNat]?=some false):Lf R ms k (st.set x.toNat true) l p:=by
 unfold Lf at h⊢;rw[h,PM.run1,if_pos hx]
theorem drop_cons{α:Type}{l:List α}{k:Nat}{x:α}(h:l[k]?=some x):l.drop k=x::l.drop (k+1):=by
 obtain⟨hk,rfl⟩:=List.getElem?_eq_some_iff.1 h;exact List.drop_eq_getElem_cons hk
theorem feas_none{ms:List Nat}{p:List (List Int)}(h:PM.runs ms 0 (List.replicate ms.length false) p=none):PM.feas ms p=false:=by unfold PM.feas;rw[h];rfl
theorem feas_some{ms:List Nat}{p:List (List Int)}{st:List Bool}(h:PM.runs ms 0 (List.replicate ms.length false) p=some st):PM.feas ms p=st.all id:=by unfold PM.feas;rw[h];rfl
theorem feasible_any(s:Sn)(D:Nat→Prop)(vc vw vp:Value)(p:List (List Int))(w:World)(hc:R2 D w vc s.cs)(hw:R2 D w vw s.ws)(hp:RL D w vp p)(hpl:p.length≤1000)(hll:∀l∈p,l.length≤1000):
  Calls Tryz.prog 99 #[.agg (nv s.st vc vw).toArray,vp] w fun e w'=>e=.returned (.bool (fsb s p))∧Below w.heap.size w w':=by
 have HP:Hid (RL (fun g=>g<w.heap.size) w vp p):=hp.mono fun g _ h _=>h;have HW:Hid (R2 (fun g=>g<w.heap.size) w vw s.ws):=hw.mono fun g _ h _=>h;have hbx:=(Below.refl w.heap.size w).alloc (Nat.le_refl _) (.cells (nv s.st vc vw).toArray 100);have HR:=Hd (snapRight_any s D vc vw _ (hc.below' hbx) (hw.below' hbx));have HN:=Hd (NB.new w s.st vc vw);have HB:=Hd hbx;obtain⟨ac,kc,rfl,_,_⟩:=hc.form;obtain⟨aw,kw,rfl,_,_⟩:=hw.form;obtain⟨ap,kp,rfl,_,_⟩:=hp.form;have HLL:=Hd hll;clear hc hw hp hbx hll
 go_enter Tryz.func99,Tryz.ntmps99
 go_wp2_with (refine wpList_load27g rfl _ rfl w.heap.size s.st _ _ rfl HN.out ?_)
 refine HR.out.mono ?_;rintro e W1 ⟨rfl,hb1⟩;have HN1:=Hd (HN.out.below' hb1);have HB1:=Hd (below_class HB.out hb1);have HZ1:=Hd (show w.heap.size<W1.heap.size by have:=hb1.size;simp at this;omega);clear hb1 HR HN HB;cases hr:rgt s with
 |false=>
  go_wp2;go_ret;exact⟨ret_bool (by unfold fsb;rw[hr];rfl),HB1.out⟩
 |true=>
  obtain⟨n,hrs⟩:=rgt_rs hr;have HRS:=Hd hrs;have HRR:=Hd hr;have hcl:s.cs.length=n:=hrs.cl;have hn8:n≤8:=hrs.n8;have hwl:s.ws.length≤128:=hrs.wl;clear hrs hr;have c13:W1.cell? ⟨w.heap.size,13,none⟩=some (.slice ac s.cs.length kc):=HN1.out.cell 13;have c14:W1.cell? ⟨w.heap.size,14,none⟩=some (.slice aw s.ws.length kw):=HN1.out.cell 14;rw[hcl]at c13;have HCL:=Hd hcl;by_cases hpn:p.length=n
  ·have q1:((p.length:Int) !=(n:Int))=false:=by simp;omega
   have HPN:=Hd hpn;clear hcl hpn
   go_wp2_with fail
   clear c13 c14 q1;refine (newDraft_any n (by omega) (fun g=>g<w.heap.size) _ s.ws W1 (HW.out.below' HB1.out) (fun g hg=>Nat.lt_of_lt_of_le hg HB1.out.size) (by omega)).mono ?_;rintro e W2 ⟨b,sb,lb,rfl,hd2,hb2⟩
   have HF2:Hid (Fq w W2 W1.heap.size b sb lb s (fun g=>g<w.heap.size) (fun g=>g<w.heap.size) (.slice ac s.cs.length kc) (.slice aw s.ws.length kw) (.slice ap p.length kp) p (List.replicate n (Value.slice none 0 0)) (List.replicate s.ws.length false) (List.replicate n [])):=
    ⟨HN1.out.below' hb2,HZ1.out,hd2,HP.out.below' (below_class HB1.out hb2),fun _ h=>h,below_class HB1.out hb2,by simp,hb2.size⟩
   clear hd2 hb2 HN1 HZ1;generalize W1.heap.size=B at HF2;obtain⟨R,HR⟩:∃R,Hid (PM.runs (msk s) 0 (List.replicate (msk s).length false) p=R):=⟨_,Hd rfl⟩
   have HFN:Hid (R=none→fsb s p=false):=fun e=>by
    show fsb s p=false;have:=HR.out;rw[e]at this;unfold fsb;rw[feas_none this];simp
   have HFS:Hid (∀st,R=some st→fsb s p=st.all id):=fun st e=>by
    show fsb s p=st.all id;have:=HR.out;rw[e]at this;unfold fsb;rw[feas_some this,HRR.out,HPN.out,HCL.out];simp
   have HML:Hid ((msk s).length=s.ws.length):=HRS.out.mm.len
   go_wp2_with fail
   go_loopw [29] (fun i wr=>∃(k:Nat) (vs:List Value) (st:List Bool) (ls:List (List Int)),k≤p.length∧i=.int .i64 (k:Int)∧Hid (Fq w wr B b sb lb s (fun g=>g<w.heap.size) (fun g=>g<w.heap.size) (.slice ac s.cs.length kc) (.slice aw s.ws.length kw) (.slice ap p.length kp) p vs st ls)∧
    Hid (R=PM.runs (msk s) k st (p.drop k)∧ls.length=n∧∀c,k≤c→c<n→ls[c]?=some [])) (fun i _=>p.length-(intOf i).toNat)
   case atStart=>
    refine⟨0,_,_,_,Nat.zero_le _,rfl,HF2,?_,by simp,fun c _ hc=>by simp[hc]⟩;rw[←HR.out,HML.out,List.drop_zero]
   case round=>
    obtain⟨k,vs,st,ls,hk,rfl,HF,HI⟩:=hrel;clear HF2;by_cases hlt:k<p.length
    ·have hkz:(k:Int)<(p.length:Int):=by omega
     obtain⟨l,hl⟩:∃l,p[k]?=some l:=⟨_,List.getElem?_eq_getElem hlt⟩;obtain⟨gp,op,rfl,u,hcu,hru⟩:=HF.out.rp.at hl;obtain⟨au,ku,rfl,_,_⟩:=hru.form;have HL:=Hd hl;have hln:l.length≤1000:=HLL.out l (List.mem_of_getElem? hl);have HRU3:=Hd (hru.base HF.out.bel);clear hl hru
     go_wp2_with fail
     have HK2:Hid (Lf R (msk s) k st l (p.drop (k+1))):=by
      show R=_;rw[HI.out.1,drop_cons HL.out,PM.runs]
     have HLN:=Hd HI.out.2.1;have HEM:=Hd HI.out.2.2;have hkn:k<n:=by have:=HPN.out;omega
     clear HI hcu;have HF3:=HF;clear HF;generalize wr=W3 at HF3⊢
     go_loopw [36] (fun i wr=>∃(j:Nat) (vs:List Value) (st:List Bool) (ls:List (List Int)),j≤l.length∧i=.int .i64 (j:Int)∧Hid (Fq w wr B b sb lb s (fun g=>g<w.heap.size) (fun g=>g<w.heap.size) (.slice ac s.cs.length kc) (.slice aw s.ws.length kw) (.slice (some ⟨gp,op,none⟩) p.length kp) p vs st ls)∧
      Hid (Lf R (msk s) k st (l.drop j) (p.drop (k+1)))∧Hid (ls.length=n∧∃l',ls[k]?=some l'∧l'.length≤j)∧Hid (∀c,k<c→c<n→ls[c]?=some [])) (fun i _=>l.length-(intOf i).toNat)
     case atStart=>exact⟨0,vs,st,ls,Nat.zero_le _,rfl,HF3,HK2,⟨HLN.out,[],HEM.out k (Nat.le_refl _) hkn,Nat.le_refl _⟩,fun c h1 h2=>HEM.out c (by omega) h2⟩
     case round=>
      clear HF3 HK2 HLN HEM;obtain⟨j,vs,st,ls,hj,rfl,HF,HK,HLN,HEM⟩:=hrel;by_cases hjl:j<l.length
      ·have hjz:(j:Int)<(l.length:Int):=by omega
       obtain⟨x,hx⟩:∃x,l[j]?=some x:=⟨_,List.getElem?_eq_getElem hjl⟩;obtain⟨gu,ou,rfl,hcx⟩:=(HRU3.out.below' HF.out.bel).at hx;have c14:wr.cell? ⟨w.heap.size,14,none⟩=some (.slice aw s.ws.length kw):=HF.out.nb.cell 14;have HDC:=Hd (drop_cons hx);have HXX:=Hd hx
       have HK1:Hid (Lf R (msk s) k st (x::l.drop (j+1)) (p.drop (k+1))):=by
        have h:=HK.out;rw[HDC.out]at h;exact h
       clear HK hx;by_cases hx0:x<0
       ·have HNO:=Hd (HFN.out (HK1.out.no fun h=>by have:=(PM.okx_iff.1 h.1).1;omega));go_wp2;go_ret;exact⟨ret_bool HNO.out.symm,HF.out.bel⟩
       ·by_cases hx1:(s.ws.length:Int)≤x
        ·have HNO:=Hd (HFN.out (HK1.out.no fun h=>by have:=(PM.okx_iff.1 h.1).2.1;have:=HML.out;omega));have q1:decide (x<0)=false:=decide_eq_false hx0;clear hx0;go_wp2;go_ret;exact⟨ret_bool HNO.out.symm,HF.out.bel⟩
        ·obtain⟨i,rfl⟩:∃i:Nat,x=(i:Int):=⟨x.toNat,by omega⟩;have hiw:i<s.ws.length:=by omega
         have q1:decide ((i:Int)<0)=false:=decide_eq_false hx0;have q2:decide ((s.ws.length:Int)≤(i:Int))=false:=decide_eq_false hx1;obtain⟨y,hy⟩:∃y,s.ws[i]?=some y:=⟨_,List.getElem?_eq_getElem hiw⟩;obtain⟨z,hz⟩:∃z,st[i]?=some z:=⟨_,List.getElem?_eq_getElem (by rw[HF.out.sl];exact hiw)⟩;obtain⟨m,hm,hym⟩:=HRS.out.mm.eq i y hy;have hmt:=mayTake_any HF.out.dq k i m z y (by omega) hz hy hym
         have HIFF:Hid ((PM.okx (msk s) k (i:Int)=true∧st[(i:Int).toNat]?=some false)↔(!z&&PM.bt m k)=true):=by
          show _↔_;rw[PM.okx_iff,Int.toNat_natCast,hz,hm,Option.getD_some];have:=HML.out;constructor
          ·rintro⟨⟨_,_,h1⟩,h2⟩;cases h2;rw[h1];rfl
          ·intro h;rw[Bool.and_eq_true]at h;refine⟨⟨by omega,by omega,h.2⟩,?_⟩;cases z
           ·rfl
           ·cases h.1
         have HZ:=Hd hz;clear hx0 hx1 hy hz hm hym;cases hq:(!z&&PM.bt m k)with
         |false=>
          rw[hq]at hmt HIFF;have HNO:=Hd (HFN.out (HK1.out.no fun h=>by have:=HIFF.out.1 h;cases this))
          go_wp2_with (go_at_call 139;refine hmt.mono ?_;rintro e w' ⟨rfl,rfl⟩)
          go_ret;exact⟨ret_bool HNO.out.symm,HF.out.bel⟩
         |true=>
          rw[hq]at hmt HIFF;have HK3:=Hd (HK1.out.yes (HIFF.out.2 rfl));obtain⟨l',hl',hll'⟩:=HLN.out.2;have HTK:=Hd (take_any HF.out.dq k i z l' HZ.out hl' (by omega) HF.out.BW)
          go_wp2_with (go_at_call 139;refine hmt.mono ?_;rintro e w' ⟨rfl,rfl⟩)
          refine HTK.out.mono ?_;rintro e W5 ⟨⟨v,rfl⟩,vs',hd5,hk5,_⟩;have HF5:=Hd (HF.out.step hd5 hk5 (by rw[List.length_set]))
          have HL5:Hid ((ls.set k (l'++[(i:Int)])).length=n∧∃l'',(ls.set k (l'++[(i:Int)]))[k]?=some l''∧l''.length≤j+1):=
           ⟨by rw[List.length_set];exact HLN.out.1,l'++[(i:Int)],by rw[List.getElem?_set_self (by rw[HLN.out.1];exact hkn)],by simp;exact hll'⟩
          have HE5:Hid (∀c,k<c→c<n→(ls.set k (l'++[(i:Int)]))[c]?=some []):=fun c h1 h2=>by
           show _=_;rw[List.getElem?_set_ne (by omega)];exact HEM.out c h1 h2
          rw[Int.toNat_natCast]at HK3;clear hd5 hk5 HTK hmt hcx c14 HF HLN HEM HK1;go_wp2;go_roundw
          case rel=>exact⟨j+1,vs',st.set i true,_,by omega,by go_num,HF5,HK3,HL5,HE5⟩
          case measure=>simp[intOf];omega
      ·have hjz:¬(j:Int)<(l.length:Int):=by omega
       have HK2:Hid (R=PM.runs (msk s) (k+1) st (p.drop (k+1))):=by
        show R=_;have h:=HK.out;unfold Lf at h;rw[h,List.drop_of_length_le (by omega),PM.run1];rfl
       go_wp2;go_roundw
       case rel=>exact⟨k+1,vs,st,ls,by omega,by go_num,HF,HK2.out,HLN.out.1,fun c h1 h2=>HEM.out c (by omega) h2⟩
       case measure=>simp[intOf];omega
    ·have hkz:¬(k:Int)<(p.length:Int):=by omega
     have HS:=Hd (HFS.out st (by rw[HI.out.1,List.drop_of_length_le (by omega),PM.runs]))
     go_wp2_with fail
     refine (nothingLeft_any HF.out.dq (by have:=HF.out.sl;omega)).mono ?_;rintro e w' ⟨rfl,rfl⟩;go_wp2;go_ret;exact⟨ret_bool HS.out.symm,HF.out.bel⟩
  ·have q1:((p.length:Int) !=(n:Int))=true:=by simp;omega
   have HQ:Hid (fsb s p=false):=by
    show fsb s p=false;unfold fsb;rw[HCL.out,decide_eq_false hpn];simp
   clear hpn hcl;go_wp2;go_ret;exact⟨ret_bool HQ.out.symm,HB1.out⟩
structure Ry(w W:World)(s:Sn)(D:Nat→Prop)(vc vw:Value):Prop where
 nb:NB W w.heap.size s.st vc vw
 rc:R2 D W vc s.cs
 rw:R2 D W vw s.ws
 bel:Below w.heap.size w W
theorem Ry.next{w W W':World}{s:Sn}{D:Nat→Prop}{vc vw:Value}(h:Ry w W s D vc vw)(hb:Below W.heap.size W W'):Ry w W' s D vc vw:=
 ⟨h.nb.below' hb,h.rc.below' hb,h.rw.below' hb,below_class h.bel hb⟩
theorem Ry.alloc{w W:World}{s:Sn}{D:Nat→Prop}{vc vw:Value}(h:Ry w W s D vc vw)(o:Obj):Ry w (W.alloc o) s D vc vw:=h.next ((Below.refl _ _).alloc (Nat.le_refl _) o)
def nc(ct:List Nat):List Value:=ct.map fun (n:Nat)=>Value.int .i64 (n:Int)
theorem nc_set(ct:List Nat)(i x:Nat):(nc ct).set i (.int .i64 (x:Int))=nc (ct.set i x):=by unfold nc;rw[List.map_set]
structure Gq(w W:World)(cb:Nat)(s:Sn)(D:Nat→Prop)(vc vw vp:Value)(p:List (List Int))(ct:List Nat):Prop where
 nb:NB W w.heap.size s.st vc vw
 lo:w.heap.size<cb
 hc:W.heap[cb]?=some (.cells (nc ct).toArray 3 (0,0))
 rp:RL D W vp p
 rw:R2 D W vw s.ws
 dl:∀g,D g→g<w.heap.size
 bel:Below w.heap.size w W
 cl:ct.length=s.ws.length
section
variable {w W W':World} {cb:Nat} {s:Sn} {D:Nat→Prop} {vc vw vp:Value} {p:List (List Int)} {ct:List Nat}
theorem Gq.next(h:Gq w W cb s D vc vw vp p ct)(hb:Below W.heap.size W W'):Gq w W' cb s D vc vw vp p ct:=
 ⟨h.nb.below' hb,h.lo,(hb.block cb (Array.getElem?_eq_some_iff.1 h.hc).1).trans h.hc,h.rp.below' hb,h.rw.below' hb,h.dl,below_class h.bel hb,h.cl⟩
theorem Gq.put(h:Gq w W cb s D vc vw vp p ct)(i x:Nat):Gq w (W.setCell ⟨cb,i,none⟩ (.int .i64 (x:Int))) cb s D vc vw vp p (ct.set i x):=by
 have keep:∀k,k≠cb→(W.setCell ⟨cb,i,none⟩ (.int .i64 (x:Int))).heap[k]?=W.heap[k]?:=fun k hk=>Below.heap_setCell W ⟨cb,i,none⟩ _ k hk;have hl:=h.lo;refine⟨(keep _ (by omega)).trans h.nb,h.lo,by rw[←nc_set];exact blk_set h.hc i _,h.rp.keep (by simp[World.setCell]) fun g hg _=>keep g (by have:=h.dl g hg;omega),h.rw.keep (by simp[World.setCell]) fun g hg _=>keep g (by have:=h.dl g hg;omega),h.dl,h.bel.setCell (p:=⟨cb,i,none⟩) (Nat.le_of_lt h.lo) _,by rw[List.length_set];exact h.cl⟩
end
def Cf(R:Option (List Nat))(ms:List Nat)(k:Nat)(ct:List Nat)(l:List Int)(p:List (List Int)):Prop:=R=(PM.cnt1 ms k ct l).bind fun ct'=>PM.cnts ms (k+1) ct' p
theorem Cf.no{R:Option (List Nat)}{ms:List Nat}{k:Nat}{ct:List Nat}{x:Int}{l:List Int}{p:List (List Int)}(h:Cf R ms k ct (x::l) p)(hx:PM.okx ms k x=false):R=none:=by
 unfold Cf at h;rw[h,PM.cnt1,if_neg (by rw[hx];simp)];rfl
theorem Cf.yes{R:Option (List Nat)}{ms:List Nat}{k:Nat}{ct:List Nat}{x:Int}{l:List Int}{p:List (List Int)}(h:Cf R ms k ct (x::l) p)(hx:PM.okx ms k x=true):Cf R ms k (ct.set x.toNat (ct[x.toNat]?.getD 0+1)) l p:=by
 unfold Cf at h⊢;rw[h,PM.cnt1,if_pos hx]
open Go.Shelf
def OP(W:World)(B:Nat)(v:Value)(us:List Value):Prop:=W.ownsRow B 90 1 v us.length us
section
variable {W W':World} {B:Nat} {v:Value} {us:List Value}
theorem OP.lt(h:OP W B v us):∀g,v.ownBlock=some g→B≤g∧g<W.heap.size:=World.ownsRow.lt h
theorem OP.keep(h:OP W B v us)(hk:∀g,v.ownBlock=some g→W'.heap[g]?=W.heap[g]?):OP W' B v us:=by
 refine⟨h.1,?_⟩;rcases h.2 with h1|⟨g,cap,cur,hv,hb,hg,hc⟩
 ·exact .inl h1
 ·exact .inr ⟨g,cap,cur,hv,hb,(hk g (by rw[hv];rfl)).trans hg,hc⟩
theorem OP.below'(h:OP W B v us)(hb:Below W.heap.size W W'):OP W' B v us:=h.keep fun g hg=>hb.block g (h.lt g hg).2
theorem OP.cell{g cap n:Nat}(h:OP W B (.slice (some ⟨g,0,none⟩) n cap) us){i:Nat}{u:Value}(hi:us[i]?=some u):W.cell? ⟨g,i,none⟩=some u:=by
 have:=World.ownsRow.cells h (g:=g) rfl i u hi;rwa[Addr.add_mid,Nat.zero_add]at this
theorem OP.rl{D:Nat→Prop}{g cap:Nat}{p:List (List Int)}(h:OP W B (.slice (some ⟨g,0,none⟩) us.length cap) us)(hD:D g)(hlen:us.length=p.length)(hr:∀(i:Nat) u l,us[i]?=some u→p[i]?=some l→RI D W u l):RL D W (.slice (some ⟨g,0,none⟩) us.length cap) p:=by
 have hlt:=(h.lt g rfl).2
 have hcap:us.length≤cap:=by
  rcases h.2 with⟨h1,_⟩|⟨g',cap',cur,hv,_,_,hc,_⟩
  ·cases h1
  ·cases hv;exact hc
 refine⟨_,cap,by rw[hlen],by omega,(fun e=>by cases e),?_⟩;by_cases hp:p=[]
 ·exact .inl hp
 ·refine .inr ⟨g,0,rfl,hD,hlt,fun i l hl=> ?_⟩;have hi:i<us.length:=by rw[hlen];exact(List.getElem?_eq_some_iff.1 hl).1
  refine⟨us[i],?_,hr i _ l (List.getElem?_eq_getElem hi) hl⟩;rw[Nat.zero_add];exact h.cell (List.getElem?_eq_getElem hi)
end
theorem wpList_appI{ops:Array Oper}{rest:List Oper}{o:Oper}{a:Act}{w:World}{Q:Exit→Act→World→Prop}(hgd:o.guard=none)(s x:Operand)
  (ho:o.op=.call {callee:=.builtin .append,args:= #[s,x],argTypes:= #[90,90]})
  (B:Nat) (v:Value) (l:List Int) (hs:a.eval s=v) (hown:OI w B v l) (g c:Nat) (y:Int) (hx:a.eval x=.slice (some ⟨g,0,none⟩) 1 c) (hc:w.cell? ⟨g,0,none⟩=some (.int .i64 y))
  (h63:l.length≤1000000) (hB:B≤w.heap.size)
  (h:∀g' cap w',OI w' B (.slice (some ⟨g',0,none⟩) (l.length+1) cap) (l++[y])→w.grownBy w' v.ownBlock→(v.ownBlock=some g'∨g'=w.heap.size)→g'<w'.heap.size→wpList Tryz.prog ops Q rest (a.put o.dst (.slice (some ⟨g',0,none⟩) (l.length+1) cap)) w'):wpList Tryz.prog ops Q (o::rest) a w:=by
 obtain⟨i0,hi,hz0,hz1,hz2⟩:=info_parts infoI;refine wpList_append_lies w hgd s x 90 ho B 3 i0 _ 1 8 Tryz.underlying90 hi hz0 hz1 hz2 rfl (by decide) v l.length (ic l) hs hown ⟨g,0,none⟩ 1 c (ic [y]) hx rfl ?_ (ic_one [y]) (by omega) (by unfold maxLen;omega) (by omega) hB w.heap.size rfl ?_
 ·intro j u hj;cases j with
  |zero=>
   simp[ic]at hj;subst hj;rw[Addr.add_mid];exact hc
  |succ j=>simp[ic]at hj
 ·intro g' cap w' h1 h2 h3 h4;refine h g' cap w' ?_ h2 h3 h4;unfold OI;rw[List.length_append,ic_append];exact h1
theorem list_of'{α:Type}{P:Nat→α→Prop}:∀(n:Nat),(∀i,i<n→∃z,P i z)→∃l:List α,l.length=n∧∀(i:Nat) z,l[i]?=some z→P i z
 |0,_=>⟨[],rfl,by simp⟩
 |n+1,h=>by
  obtain⟨l,h1,h2⟩:=list_of' n (fun i hi=>h i (by omega));obtain⟨z,hz⟩:=h n (by omega);refine⟨l++[z],by simp[h1],fun i x hx=> ?_⟩;by_cases hi:i<l.length
  ·rw[List.getElem?_append_left hi]at hx;exact h2 i x hx
  ·rw[List.getElem?_append_right (by omega)]at hx
   have hi0:i-l.length=0:=by
    have:=(List.getElem?_eq_some_iff.1 hx).1;simp at this;omega
   rw[hi0]at hx;simp at hx;subst hx;have:i=n:=by omega
   subst this;exact hz
section
variable {W W':World} {B:Nat} {v:Value} {us:List Value}
theorem OP.nil(W:World)(hB:B≤W.heap.size):OP (W.alloc (.cells #[] 90)) B (.slice (some ⟨W.heap.size,0,none⟩) 0 0) []:=
 World.ownsRow_lit (e:=90) (size:=1) W #[] 0 hB (by unfold maxLen;omega) (by simp)
theorem OP.len{a:Option Addr}{n cap:Nat}(h:OP W B (.slice a n cap) us):n=us.length:=by
 rcases h.2 with⟨h1,h2⟩|⟨g,c,cur,h1,_⟩
 ·cases h1;omega
 ·cases h1;rfl
theorem OP.fr{g cap n:Nat}(h:OP W B (.slice (some ⟨g,0,none⟩) n cap) us)(j:Nat):W.frozen? ⟨g,j,none⟩=false:=by
 have hn:=h.len;subst hn;exact World.ownsRow.frozenAt h j
theorem OP.put{g cap n:Nat}(h:OP W B (.slice (some ⟨g,0,none⟩) n cap) us)(i:Nat)(u:Value):OP (W.setCell ⟨g,i,none⟩ u) B (.slice (some ⟨g,0,none⟩) n cap) (us.set i u):=by
 have hn:=h.len;subst hn;have:=(World.ownsRow.stored h i u).1;unfold OP;rw[List.length_set];exact this
theorem OP.mono{B':Nat}(h:OP W B v us)(hB:B'≤B):OP W B' v us:=by
 refine⟨h.1,?_⟩;rcases h.2 with h1|⟨g,cap,cur,hv,hb,hg⟩
 ·exact .inl h1
 ·exact .inr ⟨g,cap,cur,hv,by omega,hg⟩
end
theorem RL.slices{D:Nat→Prop}{W:World}{a:Option Addr}{n cap:Nat}{p:List (List Int)}(h:RL D W (.slice a n cap) p):∃us:List Value,us.length=p.length∧(∀u∈us,u.oneCell'=true)∧(∀(i:Nat) u l,us[i]?=some u→p[i]?=some l→RI D W u l)∧∀ad,a=some ad→∀(j:Nat) u,us[j]?=some u→W.cell? (ad.add j)=some u:=by
 obtain⟨us,h1,h2⟩:=list_of' (P:=fun i u=>∀l,p[i]?=some l→RI D W u l∧∀ad,a=some ad→W.cell? (ad.add i)=some u) p.length (fun i hi=>by
  have hl:p[i]?=some p[i]:=List.getElem?_eq_getElem hi;obtain⟨g,o,rfl,u,hu,hr⟩:=h.at hl;refine⟨u,fun l hl'=> ?_⟩;rw[hl]at hl';cases hl'
  exact⟨hr,fun ad e=>by cases e;rw[Addr.add_mid];exact hu⟩)
 have key:∀(i:Nat) u,us[i]?=some u→∃l,p[i]?=some l∧RI D W u l∧∀ad,a=some ad→W.cell? (ad.add i)=some u:=fun i u hu=>by
  have hi:i<p.length:=by rw[←h1];exact(List.getElem?_eq_some_iff.1 hu).1
  exact⟨p[i],List.getElem?_eq_getElem hi,h2 i u hu _ (List.getElem?_eq_getElem hi)⟩
 refine⟨us,h1,fun u hu=> ?_,fun i u l hu hl=>(h2 i u hu l hl).1,fun ad e j u hu=> ?_⟩
 ·obtain⟨i,hi⟩:=List.getElem?_of_mem hu;obtain⟨l,_,hr,_⟩:=key i u hi;obtain⟨a',c',rfl,_,_⟩:=hr.form
  rfl
 ·obtain⟨l,_,_,hc⟩:=key j u hu;exact hc ad e
section
variable {P:Program} {ops:Array Oper} {md:Region.Mode} {W0:World}
section
variable {m:Nat}
end
structure RowDo(P:Program)(ops:Array Oper)(o:Oper)(a:Act)(w:World)(R:Value→World→Prop)(own:Option Nat):Prop where
 want:Region.wanted o (yielded ops a.tmps)=true
 does:∃v w',(execOp a.eval o).run P w=.ok (.value v) w'∧R v w'∧w.grownBy w' own∧∀g,v.ownBlock=some g→own=some g∨w.heap.size≤g
end
section
variable {P:Program} {ops:Array Oper} {W0:World}
def pl(ops:Array Oper)(vl:Nat→Value)(a:Act)(hs:List Nat):Act:=hs.foldl (fun a i=>a.put (dstOf ops i) (vl i)) a
end
def pc(l:List (Int×Int)):List Value:=l.flatMap fun y=>[.int .i64 y.1,.int .i64 y.2]
theorem pc_cons(y:Int×Int)(l:List (Int×Int)):pc (y::l)=.int .i64 y.1::.int .i64 y.2::pc l:=rfl
theorem pc_length:∀(l:List (Int×Int)),(pc l).length=l.length*2
 |[]=>rfl
 |y::l=>by rw[pc_cons,List.length_cons,List.length_cons,pc_length l,List.length_cons];omega
theorem pc_append(l m:List (Int×Int)):pc (l++m)=pc l++pc m:=by unfold pc;rw[List.flatMap_append]
theorem pc_one(l:List (Int×Int)):∀u∈pc l,u.oneCell'=true:=fun u hu=>by
 obtain⟨y,_,h⟩:=List.mem_flatMap.1 hu;simp at h;rcases h with rfl|rfl<;>rfl
theorem pc_get0{y:Int×Int}:∀{l:List (Int×Int)} {i:Nat},l[i]?=some y→(pc l)[i*2]?=some (.int .i64 y.1)
 |[],_,h=>by simp at h
 |z::l,0,h=>by simp at h;subst h;rfl
 |z::l,i+1,h=>by
  rw[pc_cons,show(i+1)*2=i*2+1+1 by omega,List.getElem?_cons_succ,List.getElem?_cons_succ];exact pc_get0 (by simpa using h)
theorem pc_get1{y:Int×Int}:∀{l:List (Int×Int)} {i:Nat},l[i]?=some y→(pc l)[i*2+1]?=some (.int .i64 y.2)
 |[],_,h=>by simp at h
 |z::l,0,h=>by simp at h;subst h;rfl
 |z::l,i+1,h=>by
  rw[pc_cons,show(i+1)*2+1=(i*2+1)+1+1 by omega,List.getElem?_cons_succ,List.getElem?_cons_succ];exact pc_get1 (by simpa using h)
theorem R2.cells{D:Nat→Prop}{W:World}{ad:Addr}{n cap:Nat}{l:List (Int×Int)}(h:R2 D W (.slice (some ad) n cap) l):∀(j:Nat) u,(pc l)[j]?=some u→W.cell? (ad.add j)=some u:=fun j u hu=>by
 have hj:j<l.length*2:=by have:=(List.getElem?_eq_some_iff.1 hu).1;rwa[pc_length]at this
 obtain⟨y,hy⟩:∃y,l[j/2]?=some y:=⟨_,List.getElem?_eq_getElem (by omega)⟩;obtain⟨g,o,e,h1,h2⟩:=h.at hy;cases e;rw[Addr.add_mid];by_cases hm:j%2=0
 ·have e1:j/2*2=j:=by omega
  have:=pc_get0 hy;rw[e1,hu]at this;cases this;rw[e1]at h1;exact h1
 ·have e1:j/2*2+1=j:=by omega
  have:=pc_get1 hy;rw[e1,hu]at this;cases this;rw[Nat.add_assoc,e1]at h2;exact h2
def O2(t:TypeId)(W:World)(B:Nat)(v:Value)(l:List (Int×Int)):Prop:=W.ownsRow B t 2 v l.length (pc l)
section
variable {t:TypeId} {W W':World} {B:Nat} {v:Value} {l:List (Int×Int)}
theorem O2.lt(h:O2 t W B v l):∀g,v.ownBlock=some g→B≤g∧g<W.heap.size:=World.ownsRow.lt h
theorem O2.keep(h:O2 t W B v l)(hk:∀g,v.ownBlock=some g→W'.heap[g]?=W.heap[g]?):O2 t W' B v l:=by
 refine⟨h.1,?_⟩;rcases h.2 with h1|⟨g,cap,cur,hv,hb,hg,hc⟩
 ·exact .inl h1
 ·exact .inr ⟨g,cap,cur,hv,hb,(hk g (by rw[hv];rfl)).trans hg,hc⟩
theorem O2.below'(h:O2 t W B v l)(hb:Below W.heap.size W W'):O2 t W' B v l:=h.keep fun g hg=>hb.block g (h.lt g hg).2
theorem O2.form(h:O2 t W B v l):(v=.slice none 0 0∧l=[])∨∃g cap,v=.slice (some ⟨g,0,none⟩) l.length cap∧B≤g∧g<W.heap.size∧l.length≤cap:=by
 rcases h.2 with⟨h1,h2⟩|⟨g,cap,cur,hv,hb,hg,hc,_⟩
 ·exact .inl ⟨h1,List.length_eq_zero_iff.1 h2⟩
 ·exact .inr ⟨g,cap,hv,hb,(Array.getElem?_eq_some_iff.1 hg).1,hc⟩
theorem O2.cell0{g cap n i:Nat}{y:Int×Int}(h:O2 t W B (.slice (some ⟨g,0,none⟩) n cap) l)(hi:l[i]?=some y):W.cell? ⟨g,i*2,none⟩=some (.int .i64 y.1):=by
 have:=World.ownsRow.cells h (g:=g) rfl _ _ (pc_get0 hi);rwa[Addr.add_mid,Nat.zero_add]at this
theorem O2.cell1{g cap n i:Nat}{y:Int×Int}(h:O2 t W B (.slice (some ⟨g,0,none⟩) n cap) l)(hi:l[i]?=some y):W.cell? ⟨g,i*2+1,none⟩=some (.int .i64 y.2):=by
 have:=World.ownsRow.cells h (g:=g) rfl _ _ (pc_get1 hi);rwa[Addr.add_mid,Nat.zero_add]at this
theorem O2.r2{D:Nat→Prop}(h:O2 t W B v l)(hD:∀g,v.ownBlock=some g→D g):R2 D W v l:=by
 rcases h.form with⟨rfl,rfl⟩|⟨g,cap,rfl,hB,hlt,hc⟩
 ·exact⟨none,0,rfl,Nat.le_refl _,fun _=>rfl,.inl rfl⟩
 ·exact⟨_,cap,rfl,hc,(fun e=>by cases e),.inr ⟨g,0,rfl,hD g rfl,hlt,fun i y hy=>⟨by rw[Nat.zero_add];exact h.cell0 hy,by rw[Nat.zero_add];exact h.cell1 hy⟩⟩⟩
theorem O2.len{a:Option Addr}{n cap:Nat}(h:O2 t W B (.slice a n cap) l):n=l.length:=by
 rcases h.form with⟨h1,h2⟩|⟨g,c,h1,_⟩
 ·cases h1;rw[h2];rfl
 ·cases h1;rfl
theorem O2.fr{g cap n:Nat}(h:O2 t W B (.slice (some ⟨g,0,none⟩) n cap) l)(j:Nat):W.frozen? ⟨g,j,none⟩=false:=by
 have hn:=h.len;subst hn;exact World.ownsRow.frozenAt h j
theorem O2.nil(W:World)(hB:B≤W.heap.size):O2 t (W.alloc (.cells #[] t)) B (.slice (some ⟨W.heap.size,0,none⟩) 0 0) []:=
 World.ownsRow_lit (e:=t) (size:=2) W #[] 0 hB (by unfold maxLen;omega) (by simp)
theorem O2.some(h:O2 t W B v l)(hn:0<l.length):∃g cap,v=.slice (some ⟨g,0,none⟩) l.length cap∧B≤g:=by
 rcases h.form with⟨_,e⟩|⟨g,cap,hv,hB,_⟩
 ·rw[e]at hn;simp at hn
 ·exact⟨g,cap,hv,hB⟩
end
theorem wpList_append2{ops:Array Oper}{rest:List Oper}{o:Oper}{a:Act}{w:World}{Q:Exit→Act→World→Prop}(e t:TypeId)(ht:Tryz.prog.underlying t=some (.slice e))
  (hinfo:(Tryz.prog.info? e).map (fun i=>(i.zero,i.size,i.bytes))=some (some (.agg #[.int .i64 0,.int .i64 0]),2,16)) (hgd:o.guard=none) (s x:Operand)
  (ho:o.op=.call {callee:=.builtin .append,args:= #[s,x],argTypes:= #[t,t]})
  (B:Nat) (v u:Value) (l m:List (Int×Int)) (D:Nat→Prop) (hs:a.eval s=v) (hown:O2 e w B v l) (hx:a.eval x=u) (hr:R2 D w u m)
  (h63:l.length+m.length≤1000000) (hB:B≤w.heap.size)
  (h:∀v' w',O2 e w' B v' (l++m)→w.grownBy w' v.ownBlock→wpList Tryz.prog ops Q rest (a.put o.dst v') w'):wpList Tryz.prog ops Q (o::rest) a w:=by
 obtain⟨ao,cap,rfl,hc,hn⟩:=hr.form;obtain⟨i0,hi,hz⟩:=Option.map_eq_some_iff.1 hinfo;simp only[Prod.mk.injEq]at hz;obtain⟨hz0,hz1,hz2⟩:=hz;cases ao with
 |none=>
  obtain rfl:cap=0:=hn rfl;obtain rfl:m=[]:=List.length_eq_zero_iff.1 (by omega);refine wpList_append_own_none hgd s x t ho B e i0 2 ht hi v l.length (pc l) hs hown (by rw[hx];rfl) ?_;refine h v w ?_ (World.grownBy.refl w _);rw[List.append_nil];exact hown
 |some ad=>
  refine wpList_append_own w hgd s x t ho B e i0 _ 2 16 ht hi hz0 hz1 hz2 rfl (by decide) v l.length (pc l) hs hown ad m.length cap (pc m) hx (pc_length m) hr.cells (pc_one m) (by unfold maxLen;omega) (by omega) hB ?_;intro v' w' h1 h2 _;refine h v' w' ?_ h2;unfold O2;rw[List.length_append,pc_append];exact h1
section
variable {ops:Array Oper} {o:Oper} {a:Act} {w:World}
theorem want_none(h:o.guard=none)(tmps:Array Value):Region.wanted o (yielded ops tmps)=true:=by unfold Region.wanted;rw[h]
theorem RowDo.lit{R:Value→World→Prop}(hg:o.guard=none)(n:Nat)(ob:Obj)(hrun:(execOp a.eval o).run Tryz.prog w=.ok (.value (.slice (some ⟨w.heap.size,0,none⟩) n n)) (w.alloc ob))(hR:R (.slice (some ⟨w.heap.size,0,none⟩) n n) (w.alloc ob)):RowDo Tryz.prog ops o a w R none:=by
 refine⟨want_none hg _,_,_,hrun,hR,?_,fun g e=>.inr ?_⟩
 ·exact⟨rfl,rfl,rfl,by simp,fun k hk _=>Below.heap_alloc w ob k hk⟩
 ·have:w.heap.size=g:=by simpa[Value.ownBlock]using e
  omega
end
def looseB(l:List Oper)(n:Nat):Bool:=l.all fun o=>o.guard.isNone&&o.after.all fun e=>decide (e.on≠n)
section
variable {P:Program} {md:Region.Mode} {Q:Exit→Act→World→Prop} {l:List Oper} {o:Oper}
theorem ready_pop(hB:looseB l l.length=true){ls:Array Bool}(hs:ls.size=l.length):Region.ready md (l++[o]).toArray (ls.push true)=Region.ready md l.toArray ls:=by
 unfold Region.ready;have h1:(l++[o]).toArray.size=l.toArray.size+1:=by simp
 rw[h1,List.range_succ,List.filter_append]
 have h2:([l.toArray.size].filter fun i=> !(ls.push true).getD i true&&(((l++[o]).toArray[i]?).map (·.after.all fun e=> !Region.binds md e||(ls.push true).getD e.on false)).getD false)=[]:=by
  rw[List.filter_eq_nil_iff];intro i hi;simp only[List.mem_singleton]at hi;subst hi
  have:(ls.push true).getD l.toArray.size true=true:=by
   simp[Array.getD,←hs]
  rw[this];simp
 rw[h2,List.append_nil];refine List.filter_congr fun i hi=> ?_;have hi':i<l.length:=by simpa using List.mem_range.1 hi
 have e1:(ls.push true).getD i true=ls.getD i true:=by
  simp[Array.getD,hs,hi',Nat.lt_succ_of_lt hi',Array.getElem_push]
 have e2:(l++[o]).toArray[i]?=l.toArray[i]?:=by simp[List.getElem?_append_left hi']
 rw[e1,e2]
 congr 1
 cases hx:l.toArray[i]? with
 |none=>rfl
 |some oi=>
  simp only[Option.map_some,Option.getD_some]
  have hmem:oi∈l:=by
   have:l[i]?=some oi:=by simpa using hx
   exact List.mem_of_getElem? this
  have hb:=List.all_eq_true.1 hB oi hmem;simp only[Bool.and_eq_true,Array.all_eq_true',decide_eq_true_eq]at hb;apply Bool.eq_iff_iff.2;simp only[Array.all_eq_true',Bool.or_eq_true,Bool.not_eq_true']
  have key:∀e∈oi.after,(ls.push true).getD e.on false=ls.getD e.on false:=fun e he=>by
   have hne:=hb.2 e he;by_cases hlt:e.on<l.length
   ·simp[Array.getD,hs,hlt,Nat.lt_succ_of_lt hlt,Array.getElem_push]
   ·have h3:¬e.on<ls.size+1:=by omega
    have h4:¬e.on<ls.size:=by omega
    simp[Array.getD,h3,h4]
  constructor
  ·intro h e he;rw[←key e he];exact h e he
  ·intro h e he;rw[key e he];exact h e he
theorem wpAny_pop(hB:looseB l l.length=true):∀(fuel:Nat) (ls:Array Bool) (a:Act) (w:World),ls.size=l.length→wpAny P md l.toArray Q fuel ls a w→wpAny P md (l++[o]).toArray Q fuel (ls.push true) a w
 |0,ls,a,w,hs,h=>by
  unfold wpAny at h⊢;rw[ready_pop hB hs];exact h
 |fuel+1,ls,a,w,hs,h=>by
  unfold wpAny at h⊢;rw[ready_pop hB hs];refine⟨h.1,fun i hi=> ?_⟩
  have hlt:i<l.length:=by
   unfold Region.ready at hi;simpa using List.mem_range.1 (List.mem_filter.1 hi).1
  have hset:(ls.push true).setIfInBounds i true=(ls.setIfInBounds i true).push true:=by
   apply Array.ext';simp[hs,hlt,List.set_append_left]
  have h2:=wpOp_mono (K':=wpAny P md (l++[o]).toArray Q fuel ((ls.setIfInBounds i true).push true)) (fun a w h=>wpAny_pop hB fuel _ a w (by simpa using hs) h) (h.2 i hi);rw[hset];have hget:l.toArray[i]?=(l++[o]).toArray[i]?:=by simp[List.getElem?_append_left hlt]
  unfold wpOp at h2⊢;rw[←hget];obtain⟨oi,hoi⟩:∃oi,l.toArray[i]?=some oi:=⟨l[i],by simp[hlt]⟩;rw[hoi]at h2⊢;simp only at h2⊢
  have hg:oi.guard=none:=by
   have hmem:oi∈l:=List.mem_of_getElem? (show l[i]?=some oi by simpa using hoi);have hb:=List.all_eq_true.1 hB oi hmem;simp only[Bool.and_eq_true]at hb;exact Option.isNone_iff_eq_none.1 hb.1
  have hw:∀y,Region.wanted oi y=true:=fun y=>by unfold Region.wanted;rw[hg]
  rw[if_pos (hw _)]at h2⊢;exact h2
theorem wp_region_last{id:Nat}{a:Act}{w:World}(v:Value)(hm:P.follows .mixedOrders=true)(hs:Region.noSelect (l++[o]).toArray=true)(hB:looseB l l.length=true)(hf:Region.free .any (l++[o]).toArray (Array.replicate (l++[o]).toArray.size false) l.length=true)(hr:(Region.ready .any (l++[o]).toArray (Array.replicate (l++[o]).toArray.size false)).contains l.length=true)
  (hQ:∀c a w,Q (.panic c) (a.put o.dst v) w→Q (.panic c) a w) (hy:Yields P (l++[o]).toArray o v a)
  (h:wpAny P .any l.toArray Q l.toArray.size (Array.replicate l.toArray.size false) (a.put o.dst v) w.drew):(Code.region id (l++[o]).toArray true).wp P Q a w:=by
 refine wp_region_any hm ?_;have hsz:(l++[o]).toArray.size=l.toArray.size+1:=by simp
 rw[hsz];refine wpAny_take (i:=l.length) (v:=v) (by simp) hs (by rw[←hsz];exact hf) (by rw[←hsz];exact hr) hQ hy ?_
 have hpush:(Array.replicate (l.toArray.size+1) false).setIfInBounds l.length true=(Array.replicate l.toArray.size false).push true:=by
  apply Array.ext';simp[List.replicate_succ',List.set_append_right]
 rw[hpush];exact wpAny_pop hB _ _ _ _ (by simp) h
theorem wp_region_last2{id:Nat}{a:Act}{w:World}(n:Nat)(v:Value)(hn:l.length=n+1)(ho:l[n]?=some o)(hm:P.follows .mixedOrders=true)(hs:Region.noSelect l.toArray=true)(hB:looseB (l.take n) n=true)(hf:Region.free .any l.toArray (Array.replicate (n+1) false) n=true)(hr:(Region.ready .any l.toArray (Array.replicate (n+1) false)).contains n=true)
  (hQ:∀c a w,Q (.panic c) (a.put o.dst v) w→Q (.panic c) a w) (hy:Yields P l.toArray o v a)
  (h:wpAny P .any (l.take n).toArray Q n (Array.replicate n false) (a.put o.dst v) w.drew):(Code.region id l.toArray true).wp P Q a w:=by
 have hl:l=l.take n++[o]:=by
  have h1:=List.take_append_drop n l
  have h2:l.drop n=[o]:=by
   have h3:(l.drop n).length=1:=by rw[List.length_drop];omega
   obtain⟨x,hx⟩:=List.length_eq_one_iff.1 h3;rw[hx];have h4:(l.drop n)[0]?=some o:=by rw[List.getElem?_drop];exact ho
   rw[hx]at h4;simpa using h4
  rw[h2]at h1;exact h1.symm
 have hlen:(l.take n).length=n:=by rw[List.length_take];omega
 generalize l.take n=l' at*;subst hl;subst hlen;refine wp_region_last v hm hs hB ?_ ?_ hQ hy ?_
 ·simpa using hf
 ·simpa using hr
 ·simpa using h
theorem wp_normal{c:Code}{a:Act}{w:World}(h:c.wp P (fun ex a w=>ex=Exit.normal∧Q ex a w) a w):c.wp P Q a w:=wp_mono h (fun _ _ _ h=>h.2)
end
theorem wpOp_val{P:Program}{ops:Array Oper}{Q:Exit→Act→World→Prop}{i:Nat}{o:Oper}{K:Act→World→Prop}{a:Act}{w w':World}{v:Value}(hi:ops[i]?=some o)(hw:Region.wanted o (yielded ops a.tmps)=true)(hrun:(execOp a.eval o).run P w=.ok (.value v) w')(h:K (a.put o.dst v) w'):wpOp P ops Q i K a w:=by
 unfold wpOp;rw[hi];simp only;rw[if_pos hw];refine .inl ?_;unfold Oper.wp;rw[hrun];exact h
theorem wpOp_call{P:Program}{ops:Array Oper}{Q:Exit→Act→World→Prop}{i:Nat}{o:Oper}{K:Act→World→Prop}{a:Act}{w:World}{f:FuncId}{args:Array Value}{R:Ending→World→Prop}(hi:ops[i]?=some o)(hw:Region.wanted o (yielded ops a.tmps)=true)(hrun:(execOp a.eval o).run P w=.ok (.enter f args) w)(hc:Calls P f args w R)(hK:∀e w',R e w'→∃v,e=.returned v∧K (a.put o.dst v) w'):wpOp P ops Q i K a w:=by
 unfold wpOp;rw[hi];simp only;rw[if_pos hw];refine .inl ?_;unfold Oper.wp;rw[hrun];refine hc.mono fun e w' h=> ?_;obtain⟨v,rfl,hk⟩:=hK e w' h;exact hk
theorem yields_val{P:Program}{ops:Array Oper}{o:Oper}{a:Act}{v:Value}(hw:Region.wanted o (yielded ops a.tmps)=true)(h:∀w,(execOp a.eval o).run P w=.ok (.value v) w):Yields P ops o v a:=.inl ⟨hw,h⟩
theorem yields_move{P:Program}{ops:Array Oper}{o:Oper}{a:Act}(x:Operand)(ho:o.op=.move x)(hw:Region.wanted o (yielded ops a.tmps)=true):Yields P ops o (a.eval x) a:=
 .inl ⟨hw,fun w=>by unfold execOp;simp[ho]⟩
theorem wpAny_seq{P:Program}{md:Region.Mode}{l:List Oper}{Q:Exit→Act→World→Prop}{fuel:Nat}{listed:Array Bool}{a:Act}{w:World}(k:Nat)(hk:(l.drop k).length=fuel)(hB:Region.seqB md l.toArray fuel k listed=true)(h:wpList P l.toArray Q (l.drop k) a w):wpAny P md l.toArray Q fuel listed a w:=by
 subst hk;exact wpAny_of_seq (l.drop k) k listed a w (fun j=>by simp[List.getElem?_drop]) hB h
section
variable {W0:World} {K:Act→Prop} {o:Oper} {a:Act}
theorem loadBH(w:World)(b k:Nat)(v:Value)(h:w.cell? ⟨b,k,none⟩=some v):(Instr.loadAt 103 (.pointer (some ⟨b,k,none⟩))).run Tryz.prog w=.ok v w:=by simp[go_sem,h]
theorem calm_loadBH(x:Operand)(b k:Nat){v:Value}(ho:o.op=.load 103 x)(hx:a.eval x=.pointer (some ⟨b,k,none⟩))(hr:∀w,Below W0.heap.size W0 w→w.cell? ⟨b,k,none⟩=some v)
  (h:K (a.put o.dst v)):Oper.calm Tryz.prog W0 o a K:=
 calm_val _ (fun w hw=>by unfold execOp;simp only[ho,hx,Sem.run_bind,Sem.run_pure,Result.andThen_ok,loadBH w b k v (hr w hw)]) h
theorem ixBh(W:World){a:Option Addr}{g o n cap j:Nat}(ha:a=some ⟨g,o,none⟩)(hj:j<n):(Instr.indexAt 103 (.slice a n cap) (.int .i64 (j:Int))).run Tryz.prog W=.ok (.pointer (some ⟨g,o+j,none⟩)) W:=by
 subst ha;rw[run_indexAt_slice W 103 _ n cap .i64 j (by kernel_rfl),if_pos ⟨by omega,by omega⟩,show Tryz.prog.elem 103=90 by kernel_rfl,Tryz.sizeOf90];simp only[Result.andThen_ok,Int.toNat_natCast,Addr.add_mid,Nat.mul_one]
theorem calm_ixB(x y:Operand){g f n cap j:Nat}(ho:o.op=.indexAddr 103 x y)(hx:a.eval x=.slice (some ⟨g,f,none⟩) n cap)(hy:a.eval y=.int .i64 (j:Int))(hj:j<n)
  (h:K (a.put o.dst (.pointer (some ⟨g,f+j,none⟩)))):Oper.calm Tryz.prog W0 o a K:=
 calm_val _ (fun w hw=>by unfold execOp;simp only[ho,hx,hy,Sem.run_bind,Sem.run_pure,Result.andThen_ok,ixBh w rfl hj]) h
end
section
variable {P:Program} {ops:Array Oper} {W0:World} {md:Region.Mode}
theorem wpIn_of_calm{nn:Nat}{o:Oper}{a:Act}{w:World}{v:Value}{K:Act→World→Prop}{Q:Exit→Act→World→Prop}(h:o.quietAt P a (fun w2=>Below w.heap.size w w2) w v)
  (hk:∀w2,Below w.heap.size w w2→K (a.put o.dst v) w2):o.wpIn Fence.wide nn P a w K Q:=by
 unfold Oper.quietAt at h;refine⟨fun _ _=>trivial,?_⟩;rw[show Fence.wide.round=none from rfl,Oper.semAt_none];generalize (execOp a.eval o).run P w=r at*;cases r with
 |ok x w'=>
  cases x<;>simp only[Oper.quietUpon]at h<;>simp only[Oper.uponIn]
  case value u=>obtain⟨rfl,rfl⟩:=h;exact hk _ (Below.refl _ _)
  case skip=>obtain⟨rfl,rfl⟩:=h;exact hk _ (Below.refl _ _)
  case enter f args=>
   obtain⟨rfl,hc⟩:=h;exact⟨fun e=>(by cases e),(callsIn_wide.2 hc).mono fun e w2 hh=>by obtain⟨rfl,hb⟩:=hh;exact hk w2 hb⟩
 |halt x w'=>simp only[Oper.quietUpon]at h
theorem wpAnyIn_of_seq{nn:Nat}{Q':Exit→Act→World→Prop}:∀(l:List Oper) (k:Nat) (listed:Array Bool) (a:Act) (w:World),(∀j,l[j]?=ops[k+j]?)→
  Region.seqB md ops l.length k listed=true→wpListIn Fence.wide nn P ops Q' l a w→wpAnyIn Fence.wide nn P md ops Q' l.length listed a w
 |[],_,_,_,_,_,hB,h=>⟨by simpa[Region.seqB]using hB,h⟩
 |o::l,k,listed,a,w,hl,hB,h=>by
  have h0:ops[k]?=some o:=by simpa using (hl 0).symm
  simp only[List.length_cons,Region.seqB,Bool.and_eq_true,decide_eq_true_eq]at hB;refine⟨fun h1=>(by rw[hB.1]at h1;cases h1),fun i hi=> ?_⟩;rw[hB.1]at hi;have hik:i=k:=by simpa using hi
  subst hik;have hw:wpOpIn Fence.wide nn P ops Q' i (wpListIn Fence.wide nn P ops Q' l) a w:=by unfold wpOpIn;simp only[h0];exact h
  exact wpOpIn_mono (fun a' w' h'=>wpAnyIn_of_seq l (i+1) _ a' w' (fun j=>by have:=hl (j+1);simpa[Nat.add_assoc,Nat.add_comm 1 j]using this) hB.2 h') hw
theorem any_tailIn{Q:Act→Prop}{Q':Exit→Act→World→Prop}{m g nn:Nat}(hB:headB md ops m=true)(hmo:m<ops.size)
  (hsink:Region.sinkB md ops m=true) (hchain:Region.chainB md ops m=true)
  (hend:∀a w,Below W0.heap.size W0 w→Q a→wpAnyIn Fence.wide nn P md ops Q' g (upto ops m) a w):
  ∀(c:Nat) (ls:Array Bool) (done:Nat→Bool) (a:Act) (w:World) (f:Nat),left ls m=c→(∀i,i<m→ls.getD i false=done i)→HeadInv md ops m ls→ls.size=ops.size→(∀t,m≤t→ls.getD t false=false)→Below W0.heap.size W0 w→
   AnyF P md ops W0 m Q f done a→wpAnyIn Fence.wide nn P md ops Q' (c+g) ls a w:=by
 intro c
 induction c with
 |zero=>
  intro ls done a w f hc hd _ hsz htl hb hF;have hall:=left_none hc;obtain rfl:=upto_of hsz hall htl;cases f with
  |zero=>rw[Nat.zero_add];exact hend a w hb hF.2
  |succ f=>
   obtain⟨i,hi,hf,_⟩:=hF.1;rw[←hd i hi,hall i hi]at hf;cases hf
 |succ c ih=>
  intro ls done a w f hc hd inv hsz htl hb hF;obtain⟨i0,hi0,hu0⟩:=left_some (ls:=ls) (m:=m) (by omega);have hsz0:i0<ls.size:=by rw[hsz];omega
  have notail:∀i∈Region.ready md ops ls,i<m:=fun i hi=>by
   rcases Nat.lt_or_ge i m with h|h
   ·exact h
   ·exact absurd hi (tail_waits hsink hchain hmo inv _ i0 rfl hi0 (getD_in hsz0 hu0) i h)
  rw[show c+1+g=(c+g)+1 by omega];refine⟨fun hnil=> ?_,fun i hi=> ?_⟩
  ·exfalso;cases f with
   |zero=>
    have:=hF.1 i0 hi0;rw[←hd i0 hi0,hu0]at this;cases this
   |succ f=>
    obtain⟨i,hi,hf,o,ho,hall⟩:=hF.1
    have:i∈Region.ready md ops ls:=mem_ready.2 ⟨getD_in (by rw[hsz];exact(Array.getElem?_eq_some_iff.1 ho).1) (by rw[hd i hi];exact hf),o,ho,fun e he hb=>by
     rw[hd e.on (by have:=headB_on hB hi ho e he hb;omega)];exact hall e he hb⟩
    rw[hnil]at this;cases this
  ·have him:=notail i hi;obtain⟨hun,o,ho,hall⟩:=mem_ready.1 hi;have hu:=getD_both hun;have hszi:i<ls.size:=by rw[hsz];omega
   have hc':left (ls.setIfInBounds i true) m=c:=by have:=left_set hszi hu him;omega
   have hr:rdy md ops m done i:=⟨him,by rw[←hd i him];exact hu,o,ho,fun e he hb=>by
    rw[←hd e.on (by have:=headB_on hB him ho e he hb;omega)];exact hall e he hb⟩
   cases f with
   |zero=>
    have:=hF.1 i him;rw[hr.2.1]at this;cases this
   |succ f=>
    obtain⟨v,hy,hn⟩:=hF.2 i o ho hr
    have hd':∀k,k<m→(ls.setIfInBounds i true).getD k false=more done i k:=fun k hk=>by
     by_cases hki:k=i
     ·subst hki;rw[getD_set_self hszi];unfold more;rw[if_pos rfl]
     ·rw[getD_set_ne false (Ne.symm hki),more_ne hki];exact hd k hk
    have go:∀w2,Below w.heap.size w w2→wpAnyIn Fence.wide nn P md ops Q' (c+g) (ls.setIfInBounds i true) (a.put o.dst v) w2:=fun w2 hb2=>
     ih _ _ _ w2 f hc' hd' (inv.set hi him) (by simp[hsz]) (fun t ht=>by rw[getD_set_ne false (by omega)];exact htl t ht) (below_class hb hb2) hn
    unfold wpOpIn;rw[ho];simp only;rcases hy with⟨hw,hq⟩|⟨hw,rfl⟩
    ·rw[if_pos hw];exact wpIn_of_calm (v:=v) (hq w hb) go
    ·rw[if_neg (by rw[hw];simp)];exact⟨fun _ _=>trivial,go w (Below.refl _ _)⟩
end
theorem wpIn_region_tail{nn:Nat}{P:Program}{id:Nat}{Q:Exit→Act→World→Prop}{a:Act}{w:World}{l:List Oper}(m:Nat)(hm:P.follows .mixedOrders=true)(hB:shapeB .any l.toArray m m=true)
  (h:wpCalm P l.toArray w.drew (fun a'=>∀w',Below w.drew.heap.size w.drew w'→wpListIn Fence.wide nn P l.toArray Q (l.drop m) a' w') (l.take m) a):
  (Code.region id l.toArray true).wpIn Fence.wide nn P Q a w:=by
 simp only[shapeB,Bool.and_eq_true,decide_eq_true_eq]at hB;obtain⟨⟨⟨⟨⟨⟨⟨hsel,hhead⟩,_⟩,_⟩,hmo⟩,hsink⟩,hchain⟩,hseq⟩:=hB;have hmo':m<l.length:=by simpa using hmo
 have htl:(l.take m).length=m:=by simp;omega
 have hdl:(l.drop m).length=l.toArray.size-m:=by simp
 have inv0:HeadInv .any l.toArray m (Array.replicate l.toArray.size false):=
  ⟨by simp,fun j oj _ hl=>(by rw[getD_replicate_false]at hl;cases hl),fun t _ ht=>getD_in (by simpa using ht) (getD_replicate_false _ _)⟩
 have H:=anyF_lex (md:=.any) (n:=m) hsel hhead (l.take m) 0 a (fun j hj=>by
  have hj':j<m:=by rw[htl]at hj;exact hj
  simp[hj']) (by simpa using htl) h
 rw[htl]at H
 have hl0:left (Array.replicate l.toArray.size false) m=m:=by
  have:∀k,left (Array.replicate l.toArray.size false) k=k:=fun k=>by
   induction k with
   |zero=>rfl
   |succ k ih=>unfold left;rw[ih,getD_replicate_false];simp
  exact this m
 refine wpIn_region_any hm ?_
 have:=any_tailIn (md:=.any) (W0:=w.drew) (Q':=Q) (g:=l.toArray.size-m) (nn:=nn) hhead hmo hsink hchain (fun a' w' hs hQ=>by
  have:=wpAnyIn_of_seq (md:=.any) (nn:=nn) (Q':=Q) (l.drop m) m (upto l.toArray m) a' w' (fun j=>by simp[List.getElem?_drop]) (by rw[hdl];exact hseq) (hQ w' hs)
  rwa[hdl]at this) m (Array.replicate l.toArray.size false) (fun j=>decide (j<0)) a w.drew m hl0 (fun i _=>by rw[getD_replicate_false];simp) inv0 (by simp) (fun t _=>getD_replicate_false _ _) (Below.refl _ _) H
 rw[show m+(l.toArray.size-m)=l.toArray.size by omega]at this;exact this
theorem wpListIn_load27g{F:Fence}{n:Nat}{ops:Array Oper}{rest:List Oper}{op:Oper}{a:Act}{w:World}{Q:Exit→Act→World→Prop}(hgd:Region.wanted op (yielded ops a.tmps)=true)(x:Operand)(ho:op.op=.load 100 x)
  (b:Nat) (s:St) (vc vw:Value) (hx:a.eval x=.pointer (some ⟨b,0,none⟩)) (hr:NB w b s vc vw)
  (h:wpListIn F n Tryz.prog ops Q rest (a.put op.dst (.agg (nv s vc vw).toArray)) w):wpListIn F n Tryz.prog ops Q (op::rest) a w:=by
 refine wpListIn_step fun K hK=> ?_;rw[if_pos hgd];unfold Oper.wpIn;refine⟨by simp[Oper.about,ho],?_⟩;rw[Oper.semAt_plain F _ _ (by rw[ho];intro c hc';cases hc')];simp only[execOp,ho,Sem.run_bind,Sem.run_pure,Result.andThen_ok,hx,load27 w b s vc vw hr.range,Oper.uponIn];exact hK _ _ h
end Go.Proofs.YtnkelgdnglaafaaGreat
