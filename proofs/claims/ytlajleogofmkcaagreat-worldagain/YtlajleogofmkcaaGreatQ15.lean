import Derived.Test.YtlajleogofmkcaaGreatQ10
import Derived.Test.YtlajleogofmkcaaGreatQ14
import Derived.StillTail
import Derived.Deep.DeepCutAuto
import Derived.OrdersHeld
import Derived.Defers
import Derived.Laws.MakeOwn
set_option maxHeartbeats 8000000
set_option maxRecDepth 100000
namespace Go.Proofs.YtlajleogofmkcaaGreat
open Go.RowKit
theorem setCell_id{W:World}{b i:Nat}{u:Value}(h:W.cell? ⟨b,i,none⟩=some u):W.setCell ⟨b,i,none⟩ u=W:=by
 have hh:W.heap.modify b (fun o=>match o with|.cells c t f=>.cells (c.setIfInBounds i u) t f|o=>o)=W.heap:=by
  apply Array.ext_getElem?;intro k;rw[Array.getElem?_modify];split
  ·rename_i e;subst e;unfold World.cell? at h;cases ho:W.heap[b]? with
   |none=>rfl
   |some o=>
    rw[ho]at h;cases o with
    |cells c t f=>
     simp at h
     have hc:c.setIfInBounds i u=c:=by
      apply Array.ext_getElem?;intro j;rw[Array.getElem?_setIfInBounds];split
      ·rename_i e;subst e;split
       ·exact h.symm
       ·rename_i hn;rw[Array.getElem?_eq_none (by omega)]
      ·rfl
     simp[hc]
    |_=>simp at h
  ·rfl
 unfold World.setCell;simp only at hh⊢;exact congrArg (fun H=>({W with heap:=H}:World)) hh
def zmv:List Value:=[.int .i64 0,.int .i64 0,.int .i64 0,.int .i64 0,.int .i64 0,.int .i64 0,.bool false,.bool false,.bool false,.bool false,.bool false]
def zr(n:Nat):List Value:=rcs (fun _:Unit=>zmv) (List.replicate n ())
theorem zr_get{n i j:Nat}(hi:i<n)(hj:j<11):(zr n)[i*11+j]?=zmv[j]?:=by
 obtain⟨u,hu⟩:∃u,zmv[j]?=some u:=⟨_,List.getElem?_eq_getElem (by simpa[zmv]using hj)⟩;rw[hu];exact rcs_get (k:=11) (cf:=fun _:Unit=>zmv) (y:=()) (fun _=>rfl) hu (by simp[hi])
def MR(W:World)(cb n:Nat):Prop:=W.heap[cb]?=some (.cells (zr n).toArray 70 (0,0))
section
variable {W W':World} {cb n i j:Nat}
theorem MR.lt(h:MR W cb n):cb<W.heap.size:=(Array.getElem?_eq_some_iff.1 h).1
theorem MR.below'(h:MR W cb n)(hb:Below W.heap.size W W'):MR W' cb n:=(hb.block cb h.lt).trans h
theorem MR.cell(h:MR W cb n)(hi:i<n)(hj:j<11):W.cell? ⟨cb,i*11+j,none⟩=zmv[j]?:=by
 rw[←zr_get hi hj];simp[World.cell?,show W.heap[cb]?=_ from h]
theorem MR.fr(h:MR W cb n)(j:Nat):W.frozen? ⟨cb,j,none⟩=false:=by simp[World.frozen?,show W.heap[cb]?=_ from h]
theorem MR.same(h:MR W cb n)(hi:i<n)(hj:j<11){u:Value}(hu:zmv[j]?=some u):W.setCell ⟨cb,i*11+j,none⟩ u=W:=setCell_id ((h.cell hi hj).trans hu)
end
structure Wv where
 vp:Value
 vn:Value
 va:Value
 vt:Value
 vf:Value
def wcv(s:St)(cb n gb:Nat)(v:Wv):List Value:=sv s++[.slice (some ⟨cb,0,none⟩) n n,v.vp,v.vn,v.va,.pointer (some ⟨gb,0,none⟩),v.vt,v.vf]
def WB(W:World)(wb:Nat)(s:St)(cb n gb:Nat)(v:Wv):Prop:=W.heap[wb]?=some (.cells (wcv s cb n gb v).toArray 67 (0,0))
section
variable {W W':World} {wb cb n gb:Nat} {s:St} {v:Wv}
theorem WB.lt(h:WB W wb s cb n gb v):wb<W.heap.size:=(Array.getElem?_eq_some_iff.1 h).1
theorem WB.below'(h:WB W wb s cb n gb v)(hb:Below W.heap.size W W'):WB W' wb s cb n gb v:=(hb.block wb h.lt).trans h
theorem WB.keep(h:WB W wb s cb n gb v)(hk:W'.heap[wb]?=W.heap[wb]?):WB W' wb s cb n gb v:=hk.trans h
theorem WB.cell(h:WB W wb s cb n gb v)(i:Nat):W.cell? ⟨wb,i,none⟩=(wcv s cb n gb v)[i]?:=by simp[World.cell?,show W.heap[wb]?=_ from h]
theorem WB.fr(h:WB W wb s cb n gb v)(i:Nat):W.frozen? ⟨wb,i,none⟩=false:=by simp[World.frozen?,show W.heap[wb]?=_ from h]
theorem WB.site(h:WB W wb s cb n gb v):W.rangeAt wb 0 (sv s):=fun j u hu=>by
 rw[Nat.zero_add,h.cell];unfold wcv;rw[List.getElem?_append_left (List.getElem?_eq_some_iff.1 hu).1];exact hu
theorem WB.put(h:WB W wb s cb n gb v)(i:Nat)(u:Value){v':Wv}(e:(wcv s cb n gb v).set i u=wcv s cb n gb v'):WB (W.setCell ⟨wb,i,none⟩ u) wb s cb n gb v':=by
 have:=heap_setCell_same W wb i _ _ u h;unfold WB;rw[this]
 congr 2
 rw[←e];simp
theorem WB.past(h:WB W wb s cb n gb v):W.cell? ⟨wb,14,none⟩=some v.vp:=h.cell 14
theorem WB.now(h:WB W wb s cb n gb v):W.cell? ⟨wb,15,none⟩=some v.vn:=h.cell 15
theorem WB.again(h:WB W wb s cb n gb v):W.cell? ⟨wb,16,none⟩=some v.va:=h.cell 16
theorem WB.cars(h:WB W wb s cb n gb v):W.cell? ⟨wb,13,none⟩=some (.slice (some ⟨cb,0,none⟩) n n):=h.cell 13
theorem WB.group(h:WB W wb s cb n gb v):W.cell? ⟨wb,17,none⟩=some (.pointer (some ⟨gb,0,none⟩)):=h.cell 17
end
section
variable {W W':World} {wb cb n gb i:Nat} {s:St} {v:Wv}
def rp0(c:Nat)(q:Int):FF.Fr:=⟨1,c,q,0,0,0⟩
theorem bits_any(h:MR W cb n)(hi:i<n):Calls Tryz.prog 71 #[.pointer (some ⟨cb,i*11,none⟩)] W fun e w'=>e=.returned (.int .i64 0)∧w'=W:=by
 have m2:W.cell? ⟨cb,i*11+2,none⟩=some (.int .i64 0):=h.cell hi (by decide);have m3:W.cell? ⟨cb,i*11+3,none⟩=some (.int .i64 0):=h.cell hi (by decide);have m7:W.cell? ⟨cb,i*11+7,none⟩=some (.bool false):=h.cell hi (by decide);have m8:W.cell? ⟨cb,i*11+8,none⟩=some (.bool false):=h.cell hi (by decide)
 go_enter Tryz.func71,Tryz.ntmps71
 go_wp2;go_ret;exact⟨rfl,rfl⟩
theorem mreport_any(h:MR W cb n)(hi:i<n)(q:Int):Calls Tryz.prog 55 #[.pointer (some ⟨cb,i*11,none⟩),.int .i64 (i:Int),.int .i64 q] W fun e w'=>e=.returned (.agg #[.int .i64 (rp0 i q).ki,.int .i64 (rp0 i q).ca,.int .i64 (rp0 i q).sq,.int .i64 (rp0 i q).a,.int .i64 (rp0 i q).b,.int .i64 (rp0 i q).c])∧Below W.heap.size W w':=by
 have hb:=(Below.refl W.heap.size W).alloc (Nat.le_refl _) (.cells #[.int .i64 0,.int .i64 0,.int .i64 0,.int .i64 0,.int .i64 0,.int .i64 0] 73);have HB:=Hd hb;have HF:=Hd (FF.FB.new W ⟨0,0,0,0,0,0⟩);have h1:=h.below' hb;have H1:=Hd h1;have m0:(W.alloc (.cells #[.int .i64 0,.int .i64 0,.int .i64 0,.int .i64 0,.int .i64 0,.int .i64 0] 73)).cell? ⟨cb,i*11,none⟩=some (.int .i64 0):=h1.cell hi (j:=0) (by decide);have m1:(W.alloc (.cells #[.int .i64 0,.int .i64 0,.int .i64 0,.int .i64 0,.int .i64 0,.int .i64 0] 73)).cell? ⟨cb,i*11+1,none⟩=some (.int .i64 0):=h1.cell hi (by decide);clear h hb h1
 go_enter Tryz.func55,Tryz.ntmps55
 go_upto_region 1 with fail
 generalize W.alloc (.cells #[.int .i64 0,.int .i64 0,.int .i64 0,.int .i64 0,.int .i64 0,.int .i64 0] 73)=V at HB HF H1 m0 m1⊢;refine wp_region_still_tail 14 (by kernel_rfl) (by kernel_rfl) ?_;simp only[List.take_succ_cons,List.take_zero,List.drop_succ_cons,List.drop_zero]
 iterate 13 (unfold wpStill;generalize hK:wpStill _ _ _ _ _=K;go_simp;subst hK)
 unfold wpStill;generalize hK:wpStill _ _ _ _ _=K;go_simp;refine⟨_,bits_any (H1.out.below' (Below.refl _ _).drew) hi,?_⟩;subst hK;refine wpStill_nil ?_;have HD:=Hd (HB.out.trans ((Below.refl V.heap.size V).drew.mono HB.out.size));have HF2:=Hd (HF.out.below' (Below.refl V.heap.size V).drew);clear HB HF H1 m0 m1
 go_wp2_with (refine FF.wpList_storeF (f':=rp0 i q) rfl _ _ rfl _ rfl rfl HF2.out ?_)
 intro W9 hf9 hk9;have HF9:=Hd hf9;have HB9:=Hd (HD.out.trans (FF.Kp.toBelow hk9 HD.out.size fun i hi e=>by omega));clear hf9 hk9 HD HF2;go_wp2;exact bodyPost_ret (results_cell_row Tryz.results55 _ _ _ _ _ _ _ rfl HF9.out Tryz.underlying73 rfl FF.infoF) rfl ⟨rfl,HB9.out⟩
end
theorem grown_kw{W W':World}{F:Nat→Prop}{row:Option Nat}(hg:W.grownBy W' row)(hF:∀k,k<W.heap.size→row=some k→F k):Kp F W W':=(Kp.refl F W).grown hg hF
theorem ow_slice{W:World}{B:Nat}{v:Value}{l:List Nat}(h:FF.OW W B v l):∃a n c,v=.slice a n c:=by
 rcases h.form with⟨h,_⟩|⟨g,c,h,_⟩
 ·exact⟨_,_,_,h⟩
 ·exact⟨_,_,_,h⟩
def Pb(W:World)(wb:Nat)(s:St)(cb n gb:Nat)(v:Wv)(Bn:Nat)(N:List Nat)(W':World):Prop:=∃vn,WB W' wb s cb n gb {v with vn:=vn}∧FF.OW W' Bn vn N∧Kp (fun k=>k=wb∨Bn≤k) W W'
section
variable {W W' W2:World} {wb cb n gb i Bn:Nat} {s:St} {v:Wv} {N:List Nat}
theorem Pb.cons(k:Kp (fun k=>k=wb∨Bn≤k) W W')(h:Pb W' wb s cb n gb v Bn N W2):Pb W wb s cb n gb v Bn N W2:=let⟨vn,h1,h2,h3⟩:=h;⟨vn,h1,h2,k.trans h3 fun _ _ x=>x⟩
theorem put_any(h:WB W wb s cb n gb v)(ho:FF.OW W Bn v.vn N)(hB:Bn≤W.heap.size)(hw:wb<Bn)(f:FF.Fr)(hf:FF.FC.May f)(hN:N.length≤10000):
  Calls Tryz.prog 20 #[.pointer (some ⟨wb,14,none⟩),.agg #[.int .i64 f.ki,.int .i64 f.ca,.int .i64 f.sq,.int .i64 f.a,.int .i64 f.b,.int .i64 f.c]] W fun e w'=>e=.returned (.int .i64 0)∧Pb W wb s cb n gb v Bn (N++FF.FC.en f) w':=by
 have hb:=(Below.refl W.heap.size W).alloc (Nat.le_refl _) (.cells #[.int .i64 f.ki,.int .i64 f.ca,.int .i64 f.sq,.int .i64 f.a,.int .i64 f.b,.int .i64 f.c] 73);have HB:=Hd hb;have HF:=Hd (FF.FB.new W f);have H1:=Hd (h.below' hb);have HO:=Hd (ho.below' hb);have HM:=Hd hf;clear h ho hb hf
 go_enter Tryz.func20,Tryz.ntmps20
 go_wp2_with (refine FF.wpList_loadF rfl _ rfl _ rfl HF.out ?_)
 generalize W.alloc (.cells #[.int .i64 f.ki,.int .i64 f.ca,.int .i64 f.sq,.int .i64 f.a,.int .i64 f.b,.int .i64 f.c] 73)=V at HB HF H1 HO⊢;refine (FF.encode_yes f V HM.out).mono ?_;rintro e W2 ⟨u,rfl,hu,hb2⟩;have HB2:=Hd (HB.out.trans (hb2.mono HB.out.size));have HU:=Hd (hu.rd (FF.FC.en_Bs HM.out));have H2:=Hd (H1.out.below' hb2);have HO2:=Hd (HO.out.below' hb2);have hl:=FF.FC.en_length f;have hB2:Bn≤W2.heap.size:=Nat.le_trans hB HB2.out.size;clear hu hb2 HB HF H1 HO HM;have c15:W2.cell? ⟨wb,15,none⟩=some v.vn:=H2.out.now
 go_wp2_with (at_builtin;refine FF.wpList_appendR rfl _ _ rfl Bn v.vn u N (FF.FC.en f) rfl HO2.out rfl HU.out (by omega) hB2 ?_)
 intro v' W3 ho3 hg3;obtain⟨a3,n3,c3,rfl⟩:=ow_slice ho3;have hk3:Kp (fun k=>k=wb∨Bn≤k) W2 W3:=grown_kw hg3 fun k _ e=>.inr (HO2.out.lt k e).1;have hwb3:W3.heap[wb]?=W2.heap[wb]?:=hg3.block wb H2.out.lt fun e=>by have:=(HO2.out.lt wb e.symm).1;omega
 have h3:=H2.out.keep hwb3;have c15:W3.cell? ⟨wb,15,none⟩=some v.vn:=h3.now;have f15:=h3.fr 15
 have HQ:Hid (Pb W wb s cb n gb v Bn (N++FF.FC.en f) (W3.setCell ⟨wb,15,none⟩ (.slice a3 n3 c3))):=by
  refine⟨.slice a3 n3 c3,h3.put 15 (.slice a3 n3 c3) rfl,ho3.keep fun g hg=>Below.heap_setCell _ _ _ _ (by have:=(ho3.lt g hg).1;show g≠wb;omega),?_⟩;exact((Kp.ofBelow _ HB2.out).trans hk3 fun _ _ x=>x).set wb 15 (.slice a3 n3 c3) fun _=>.inl rfl
 clear ho3 hg3 hk3 hwb3 h3 H2 HO2 HU HB2;go_wp2;go_ret;exact⟨rfl,HQ.out⟩
theorem ixFo(W:World){g m cap j:Nat}(hj:j<m):(Instr.indexAt 119 (.slice (some ⟨g,0,none⟩) m cap) (.int .i64 (j:Int))).run Tryz.prog W=.ok (.pointer (some ⟨g,j*6,none⟩)) W:=by
 rw[run_indexAt_slice W 119 _ m cap .i64 j (by kernel_rfl),if_pos ⟨by omega,by omega⟩,show Tryz.prog.elem 119=73 by kernel_rfl,Tryz.sizeOf73];simp only[Result.andThen_ok,Int.toNat_natCast,Addr.add_mid,Nat.zero_add]
theorem wpList_loadFr{ops:Array Oper}{rest:List Oper}{op:Oper}{a:Act}{w:World}{Q:Exit→Act→World→Prop}(hgd:op.guard=none)(x:Operand)(ho:op.op=.load 73 x)
  (b o:Nat) {f:FF.Fr} (hx:a.eval x=.pointer (some ⟨b,o,none⟩)) (H:w.rangeAt b o (FF.fv f))
  (h:wpList Tryz.prog ops Q rest (a.put op.dst (.agg #[.int .i64 f.ki,.int .i64 f.ca,.int .i64 f.sq,.int .i64 f.a,.int .i64 f.b,.int .i64 f.c])) w):wpList Tryz.prog ops Q (op::rest) a w:=
 wpList_plain hgd fun _ hK=>by
  unfold Oper.wp execOp;simp only[ho,Sem.run_bind,Sem.run_pure,Result.andThen_ok,hx,FF.loadF w b o f H];exact hK _ _ h
theorem Pb.below(h:Pb W wb s cb n gb v Bn N W')(hb:Below W'.heap.size W' W2):Pb W wb s cb n gb v Bn N W2:=let⟨vn,h1,h2,h3⟩:=h;⟨vn,h1.below' hb,h2.below' hb,h3.thenBelow hb⟩
theorem putAhead_any{B:Nat}(h:WB W wb s cb n gb v)(hv:v.vn=.slice none 0 0)(hw:wb<B)(fo:Value)(F:List FF.Fr)(hr:FF.FO W B fo F)(hf:∀f∈F,FF.FC.May f)(hN:F.length≤100):
  Calls Tryz.prog 56 #[.pointer (some ⟨wb,14,none⟩),fo] W fun e w'=>e=.returned (.tuple #[])∧Pb W wb s cb n gb v W.heap.size (FF.FC.ens F) w':=by
 obtain⟨ao,ko,rfl⟩:∃a k,fo=.slice a F.length k:=by
  rcases hr.form with⟨h,rfl⟩|⟨g,c,h,_⟩
  ·exact⟨_,_,h⟩
  ·exact⟨_,_,h⟩
 have c15:W.cell? ⟨wb,15,none⟩=some (.slice none 0 0):=hv▸h.now;have f15:=h.fr 15;have hid:=setCell_id c15;have HH:=Hd h;have HV:=Hd hv;have HR:=Hd hr;have HM:=Hd hf;clear h hv hr hf
 go_enter Tryz.func56,Tryz.ntmps56
 go_wp2;clear c15 f15 hid;have HP0:Hid (Pb W wb s cb n gb v W.heap.size (FF.FC.ens []) W):=⟨v.vn,HH.out,by rw[HV.out];exact FF.OW.nil _ _,Kp.refl _ _⟩
 go_loopw [16] (fun iv wr=>∃i:Nat,i≤F.length∧iv=.int .i64 (i:Int)∧Hid (Pb W wb s cb n gb v W.heap.size (FF.FC.ens (F.take i)) wr)) (fun iv _=>F.length-(intOf iv).toNat)
 case atStart=>exact⟨0,Nat.zero_le _,rfl,HP0⟩
 case round=>
  obtain⟨i,hi,rfl,HP⟩:=hrel;clear HP0;by_cases hlt:i<F.length
  ·have hz:(i:Int)<(F.length:Int):=by omega
   obtain⟨f,hfi⟩:∃f,F[i]?=some f:=⟨_,List.getElem?_eq_getElem hlt⟩;have hr:=HR.out;rcases hr.form with⟨e1,e2⟩|⟨g,cap,e1,hg1,hg2,_⟩
   ·rw[e2]at hlt;simp at hlt
   cases e1;obtain⟨vn,h1,h2,h3⟩:=HP.out;have hr2:=hr.keep (W':=wr) fun g' hg'=>h3.block g' (hr.lt g' hg').2 (by have:=hr.lt g' hg';omega);have hrg:=hr2.range hlt;rw[(List.getElem?_eq_some_iff.1 hfi).2]at hrg;have HRG:=Hd hrg;have hix:∀W:World,(Instr.indexAt 119 (.slice (some ⟨g,0,none⟩) F.length ko) (.int .i64 (i:Int))).run Tryz.prog W=.ok (.pointer (some ⟨g,i*6,none⟩)) W:=fun W=>ixFo W hlt;have HF:=Hd (FF.FB.new wr f);have HP1:=Hd (HP.out.below ((Below.refl _ wr).alloc (Nat.le_refl _) (.cells #[.int .i64 f.ki,.int .i64 f.ca,.int .i64 f.sq,.int .i64 f.a,.int .i64 f.b,.int .i64 f.c] 73)));have HMF:=Hd (HM.out f (List.mem_of_getElem? hfi))
   have HNX:Hid (FF.FC.ens (F.take i)++FF.FC.en f=FF.FC.ens (F.take (i+1))):=by
    show _=_;rw[List.take_add_one,hfi];exact(FF.FC.ens_snoc f (F.take i)).symm
   have hln:(FF.FC.ens (F.take i)).length≤10000:=by rw[FF.FC.ens_length,List.length_take];omega
   clear h1 h2 h3 hr hr2 hrg hfi HP
   go_wp2_with (first|(refine wpList_loadFr rfl _ rfl g (i*6) rfl HRG.out ?_)|(refine FF.wpList_loadF rfl _ rfl _ rfl HF.out ?_))
   generalize wr.alloc (.cells #[.int .i64 f.ki,.int .i64 f.ca,.int .i64 f.sq,.int .i64 f.a,.int .i64 f.b,.int .i64 f.c] 73)=V at HF HP1⊢;obtain⟨vn,h1,h2,h3⟩:=HP1.out;have HX:=Hd (put_any h1 h2 h3.size (by have:=HH.out.lt;omega) f HMF.out hln);have HK:=Hd h3;clear h1 h2 h3 HP1 HF HRG;refine HX.out.mono ?_;rintro e W2 ⟨rfl,hp⟩
   have HP2:Hid (Pb W wb s cb n gb v W.heap.size (FF.FC.ens (F.take (i+1))) W2):=by
    rw[←HNX.out];obtain⟨vn,k1,k2,k3⟩:=hp;exact⟨vn,k1,k2,HK.out.trans k3 fun _ _ x=>x⟩
   clear hp HX HK HNX;go_wp2;go_roundw
   case rel=>exact⟨i+1,hlt,by go_num,HP2⟩
   case measure=>simp[intOf];omega
  ·have hz:¬((i:Int)<(F.length:Int)):=by omega
   obtain rfl:i=F.length:=by omega
   rw[List.take_length]at HP;obtain⟨vn,h1,h2,h3⟩:=HP.out;obtain⟨a3,n3,c3,rfl⟩:=ow_slice h2;have c15:wr.cell? ⟨wb,15,none⟩=some (.slice a3 n3 c3):=h1.now;have f15:=h1.fr 15;have hid:=setCell_id c15;have HO:=Hd h2;have H1:=Hd h1;have HK:=Hd h3;have hsz:=h3.size;have hwl:=HH.out.lt;clear h1 h2 h3
   go_wp2_with (at_builtin;refine FF.wpList_appendR rfl _ _ rfl W.heap.size (.slice a3 n3 c3) (.slice none 0 0) (FF.FC.ens F) [] rfl HO.out rfl (FF.RD.nil _) (by rw[FF.FC.ens_length];simp;omega) hsz ?_)
   intro v' W3 ho3 hg3;obtain⟨a4,n4,c4,rfl⟩:=ow_slice ho3;have hk3:Kp (fun k=>k=wb∨W.heap.size≤k) wr W3:=grown_kw hg3 fun k _ e=>.inr (HO.out.lt k e).1;have h3:=H1.out.keep (hg3.block wb H1.out.lt fun e=>by have:=(HO.out.lt wb e.symm).1;omega);have c15:W3.cell? ⟨wb,15,none⟩=some (.slice a3 n3 c3):=h3.now;have f15:=h3.fr 15
   have HQ:Hid (Pb W wb s cb n gb v W.heap.size (FF.FC.ens F) (W3.setCell ⟨wb,15,none⟩ (.slice a4 n4 c4))):=by
    refine⟨.slice a4 n4 c4,h3.put 15 (.slice a4 n4 c4) rfl,?_,(HK.out.trans hk3 fun _ _ x=>x).set wb 15 (.slice a4 n4 c4) fun _=>.inl rfl⟩;exact ho3.keep fun g hg=>Below.heap_setCell _ _ _ _ (by have:=(ho3.lt g hg).1;show g≠wb;omega)
   clear ho3 hg3 hk3 h3 H1 HO HK HP;go_wp2
   go_end0
   exact⟨rfl,HQ.out⟩
end
def rpl(n:Nat)(q:Int):List FF.Fr:=(List.range n).map fun c=>rp0 c q
theorem rpl_snoc(n:Nat)(q:Int):rpl (n+1) q=rpl n q++[rp0 n q]:=by unfold rpl;rw[List.range_succ,List.map_append];rfl
theorem rpl_len(n:Nat)(q:Int):(rpl n q).length=n:=by unfold rpl;rw[List.length_map,List.length_range]
theorem rp0_may{c:Nat}{q:Int}(hc:c≤255)(h0:0≤q)(h1:q≤65535):FF.FC.May (rp0 c q):=by
 constructor<;>(simp only[rp0];omega)
theorem rpl_may{n:Nat}{q:Int}(hn:n≤8)(h0:0≤q)(h1:q≤65535):∀f∈rpl n q,FF.FC.May f:=fun f hf=>by
 unfold rpl at hf;obtain⟨c,hc,rfl⟩:=List.mem_map.1 hf;have:=List.mem_range.1 hc;exact rp0_may (by omega) h0 h1
section
variable {W W' W2:World} {wb cb n gb i k:Nat} {s:St} {v:Wv}
theorem ticks_any(h:WB W wb s cb n gb v){ap:Option Addr}{cp:Nat}(hp:v.vp=.slice ap k cp):Calls Tryz.prog 32 #[.pointer (some ⟨wb,14,none⟩)] W fun e w'=>e=.returned (.int .i64 (k:Int))∧w'=W:=by
 have c14:W.cell? ⟨wb,14,none⟩=some (.slice ap k cp):=hp▸h.past
 go_enter Tryz.func32,Tryz.ntmps32
 go_wp2;go_ret;exact⟨rfl,rfl⟩
theorem now_any(h:WB W wb s cb n gb v){ap:Option Addr}{cp:Nat}(hp:v.vp=.slice ap k cp):Calls Tryz.prog 16 #[.pointer (some ⟨wb,0,none⟩)] W fun e w'=>e=.returned (.int .i64 (k:Int))∧w'=W:=by
 have HT:=Hd (ticks_any h hp)
 go_enter Tryz.func16,Tryz.ntmps16
 go_wp2_with fail
 refine HT.out.mono ?_;rintro e W2 ⟨rfl,rfl⟩;go_wp2;go_ret;exact⟨rfl,rfl⟩
theorem ixWm(W:World){g m cap j:Nat}(hj:j<m):(Instr.indexAt 60 (.slice (some ⟨g,0,none⟩) m cap) (.int .i64 (j:Int))).run Tryz.prog W=.ok (.pointer (some ⟨g,j*11,none⟩)) W:=by
 rw[run_indexAt_slice W 60 _ m cap .i64 j (by kernel_rfl),if_pos ⟨by omega,by omega⟩,show Tryz.prog.elem 60=70 by kernel_rfl,Tryz.sizeOf70];simp only[Result.andThen_ok,Int.toNat_natCast,Addr.add_mid,Nat.zero_add]
theorem wreport_any(h:WB W wb s cb n gb v)(hm:MR W cb n)(hn:n≤8){ap:Option Addr}{cp:Nat}(hp:v.vp=.slice ap k cp)(hk:k≤1000)(hv:v.vn=.slice none 0 0):
  Calls Tryz.prog 40 #[.pointer (some ⟨wb,0,none⟩)] W fun e w'=>e=.returned (.tuple #[])∧Pb W wb s cb n gb v W.heap.size (FF.FC.ens (rpl n ((k+1:Nat):Int))) w':=by
 have HNW:=Hd (now_any h hp);have HH:=Hd h;have HM:=Hd hm;have HV:=Hd hv;have c13:=h.cars;obtain⟨q,hqe⟩:∃q:Int,((k+1:Nat):Int)=q:=⟨_,rfl⟩;have hq:((k:Int)+1).tmod 65536=q:=by rw[←hqe,Int.tmod_eq_emod_of_nonneg (by omega)];omega
 have HQ:Hid (0≤q∧q≤65535):=Hd (by omega);rw[hqe];clear hqe;clear h hm hv hp
 go_enter Tryz.func40,Tryz.ntmps40
 go_wp2_with fail
 refine HNW.out.mono ?_;rintro e W2 ⟨rfl,rfl⟩;go_wp2;clear hq;have HF0:Hid (FF.FO W2 W2.heap.size (.slice none 0 0) (rpl 0 q)∧Below W2.heap.size W2 W2):=⟨FF.FO.nil _ _,Below.refl _ _⟩
 go_loopw [3,15] (fun lv iv wr=>∃i:Nat,i≤n∧iv=.int .i64 (i:Int)∧Hid (FF.FO wr W2.heap.size lv (rpl i q)∧Below W2.heap.size W2 wr)) (fun _ iv _=>n-(intOf iv).toNat)
 case atStart=>exact⟨0,Nat.zero_le _,rfl,HF0⟩
 case round=>
  obtain⟨i,hi,rfl,HL⟩:=hrel;clear HF0;have h13:=HH.out.below' HL.out.2;have c13:wr.cell? ⟨wb,13,none⟩=some (.slice (some ⟨cb,0,none⟩) n n):=h13.cars;by_cases hlt:i<n
  ·have hz:(i:Int)<(n:Int):=by omega
   have hix:∀W:World,(Instr.indexAt 60 (.slice (some ⟨cb,0,none⟩) n n) (.int .i64 (i:Int))).run Tryz.prog W=.ok (.pointer (some ⟨cb,i*11,none⟩)) W:=fun W=>ixWm W hlt;have hm2:=HM.out.below' HL.out.2;have m9:wr.cell? ⟨cb,i*11+2+7,none⟩=some (.bool false):=hm2.cell hlt (j:=9) (by decide);have m9':wr.cell? ⟨cb,i*11+9,none⟩=some (.bool false):=hm2.cell hlt (by decide);have HMR:=Hd (mreport_any hm2 hlt q);clear h13 hm2
   go_wp2_with fail
   refine HMR.out.mono ?_;rintro e V1 ⟨rfl,hb1⟩;have hb2:=(Below.refl V1.heap.size V1).alloc (Nat.le_refl _) (.cells #[.int .i64 (rp0 i q).ki,.int .i64 (rp0 i q).ca,.int .i64 (rp0 i q).sq,.int .i64 (rp0 i q).a,.int .i64 (rp0 i q).b,.int .i64 (rp0 i q).c] 73);have HB2:=Hd (below_class HL.out.2 (below_class hb1 hb2));have HFB:=Hd (FF.FB.new V1 (rp0 i q));have HFO:=Hd ((HL.out.1.below' hb1).below' hb2);have hll:=rpl_len i q;have hsz:=HB2.out.size;clear hb1 hb2 HMR HL c13 m9 m9'
   go_wp2_with (at_builtin;refine FF.wpList_appendF1 rfl _ _ rfl W2.heap.size _ (rpl i q) rfl HFO.out _ 1 (rp0 i q) rfl HFB.out (by omega) hsz ?_)
   intro v' V3 ho3 hg3 _
   have HL3:Hid (FF.FO V3 W2.heap.size v' (rpl (i+1) q)∧Below W2.heap.size W2 V3):=by
    rw[rpl_snoc];exact⟨ho3,(grown_kw (F:=fun k=>W2.heap.size≤k) hg3 fun k _ e=>(HFO.out.lt k e).1).below HB2.out HB2.out.size fun i hi=>by omega⟩
   clear ho3 hg3 HFO HFB HB2;go_wp2;go_roundw
   case rel=>exact⟨i+1,hlt,by go_num,HL3⟩
   case measure=>simp[intOf];omega
  ·have hz:¬((i:Int)<(n:Int)):=by omega
   obtain rfl:i=n:=by omega
   clear h13;have HPA:=Hd (putAhead_any (HH.out.below' HL.out.2) HV.out HH.out.lt _ (rpl i q) HL.out.1 (rpl_may hn HQ.out.1 HQ.out.2) (by rw[rpl_len];omega))
   go_wp2_with fail
   refine HPA.out.mono ?_;rintro e W3 ⟨rfl,hp⟩
   have HP:Hid (Pb W2 wb s cb i gb v W2.heap.size (FF.FC.ens (rpl i q)) W3):=by
    obtain⟨vn,k1,k2,k3⟩:=hp;exact⟨vn,k1,k2.mono HL.out.2.size,(Kp.ofBelow _ HL.out.2).trans k3 fun x hx y=>y.imp id fun y=>by have:=HL.out.2.size;omega⟩
   clear hp HPA HL c13;go_wp2
   go_end0
   exact⟨rfl,HP.out⟩
end
def zc(z:Int):List Value:=[.int .i64 z]
def xc1(x:Value):List Value:=[x]
abbrev ZR(W:World)(B:Nat)(v:Value)(A:List Int):Prop:=OG zc 1 3 W B v A
abbrev XR(W:World)(B:Nat)(v:Value)(es:List Value):Prop:=OG xc1 1 62 W B v es
theorem ixZ(W:World){g m cap j:Nat}(hj:j<m):(Instr.indexAt 52 (.slice (some ⟨g,0,none⟩) m cap) (.int .i64 (j:Int))).run Tryz.prog W=.ok (.pointer (some ⟨g,j,none⟩)) W:=by
 rw[run_indexAt_slice W 52 _ m cap .i64 j (by kernel_rfl),if_pos ⟨by omega,by omega⟩,show Tryz.prog.elem 52=3 by kernel_rfl,Tryz.sizeOf3];simp only[Result.andThen_ok,Int.toNat_natCast,Addr.add_mid,Nat.zero_add,Nat.mul_one]
theorem ixX(W:World){g m cap j:Nat}(hj:j<m):(Instr.indexAt 61 (.slice (some ⟨g,0,none⟩) m cap) (.int .i64 (j:Int))).run Tryz.prog W=.ok (.pointer (some ⟨g,j,none⟩)) W:=by
 rw[run_indexAt_slice W 61 _ m cap .i64 j (by kernel_rfl),if_pos ⟨by omega,by omega⟩,show Tryz.prog.elem 61=62 by kernel_rfl,Tryz.sizeOf62];simp only[Result.andThen_ok,Int.toNat_natCast,Addr.add_mid,Nat.zero_add,Nat.mul_one]
section
variable {W W' W2:World} {wb cb n gb i k Ba Bp:Nat} {s:St} {v:Wv} {A:List Int} {es:List Value} {N:List Nat}
theorem ZR.cell{g m cap:Nat}(h:ZR W Ba (.slice (some ⟨g,0,none⟩) m cap) A){z:Int}(hi:A[i]?=some z):W.cell? ⟨g,i,none⟩=some (.int .i64 z):=by
 have:=OG.at (k:=1) (fun _=>rfl) h hi 0 _ rfl;rwa[Nat.mul_one,Nat.add_zero]at this
theorem XR.cell{g m cap:Nat}(h:XR W Ba (.slice (some ⟨g,0,none⟩) m cap) es){z:Value}(hi:es[i]?=some z):W.cell? ⟨g,i,none⟩=some z:=by
 have:=OG.at (k:=1) (fun _=>rfl) h hi 0 _ rfl;rwa[Nat.mul_one,Nat.add_zero]at this
theorem flat_len{pb:Nat→List Nat}:∀(l:List Int),(∀z∈l,(pb z.toNat).length≤1000)→(l.flatMap fun z=>pb z.toNat).length≤l.length*1000
 |[],_=>by simp
 |y::l,h=>by
  have h1:=h y (List.mem_cons_self ..);have h2:=flat_len l fun z hz=>h z (List.mem_cons_of_mem _ hz);rw[List.flatMap_cons,List.length_append,List.length_cons];omega
theorem coming_any(h:WB W wb s cb n gb v)(ha:ZR W Ba v.va A)(hp:XR W Bp v.vp es)(pb:Nat→List Nat)(hq:∀z∈A,0≤z∧∃e,es[z.toNat]?=some e∧FF.RD W e (pb z.toNat)∧(pb z.toNat).length≤1000)(hN:FF.RD W v.vn N)(hl:N.length≤1000)(hA:A.length≤1000):
  Calls Tryz.prog 42 #[.pointer (some ⟨wb,14,none⟩)] W fun e w'=>∃v',e=.returned v'∧FF.OW w' W.heap.size v' (A.flatMap (fun z=>pb z.toNat)++N)∧Below W.heap.size W w':=by
 obtain⟨aa,ca,hva⟩:=ha.slice;obtain⟨ax,cx,hvp⟩:=hp.slice;rw[hva]at ha;rw[hvp]at hp;have HA:=Hd ha;have HP:=Hd hp;have HQ:=Hd hq;have HN:=Hd hN;have HH:=Hd h;have HVA:=Hd hva;have HVP:=Hd hvp;have c16:W.cell? ⟨wb,16,none⟩=some (.slice aa A.length ca):=hva▸h.again;clear ha hp hq hN h hva hvp
 go_enter Tryz.func42,Tryz.ntmps42
 go_wp2;clear c16;have HF0:Hid (FF.OW W W.heap.size (.slice none 0 0) ((A.take 0).flatMap fun z=>pb z.toNat)∧Below W.heap.size W W):=⟨FF.OW.nil _ _,Below.refl _ _⟩
 go_loopw [3,11] (fun lv iv wr=>∃i:Nat,i≤A.length∧iv=.int .i64 (i:Int)∧Hid (FF.OW wr W.heap.size lv ((A.take i).flatMap fun z=>pb z.toNat)∧Below W.heap.size W wr)) (fun _ iv _=>A.length-(intOf iv).toNat)
 case atStart=>exact⟨0,Nat.zero_le _,rfl,HF0⟩
 case round=>
  obtain⟨i,hi,rfl,HL⟩:=hrel;clear HF0;by_cases hlt:i<A.length
  ·have hz:(i:Int)<(A.length:Int):=by omega
   obtain⟨z,hzi⟩:∃z,A[i]?=some z:=⟨_,List.getElem?_eq_getElem hlt⟩;obtain⟨hz0,e,he,hre,hle⟩:=HQ.out z (List.mem_of_getElem? hzi);obtain⟨j,rfl⟩:=Int.eq_ofNat_of_zero_le hz0;rw[Int.toNat_natCast]at he hre hle;have ha2:=HA.out;rcases ha2.form with⟨e1,e2⟩|⟨ga,ka,e1,_⟩
   ·rw[e2]at hlt;simp at hlt
   cases e1;have hp2:=HP.out;have hjl:=(List.getElem?_eq_some_iff.1 he).1;rcases hp2.form with⟨e1,e2⟩|⟨gp,kp,e1,_⟩
   ·rw[e2]at hjl;simp at hjl
   cases e1;have ci:wr.cell? ⟨ga,i,none⟩=some (.int .i64 (j:Int)):=ZR.cell (OG.below' ha2 HL.out.2) hzi;have cj:wr.cell? ⟨gp,j,none⟩=some e:=XR.cell (OG.below' hp2 HL.out.2) he;have c14:wr.cell? ⟨wb,14,none⟩=some (.slice (some ⟨gp,0,none⟩) es.length cx):=HVP.out▸(HH.out.below' HL.out.2).past;have hixZ:∀W:World,(Instr.indexAt 52 (.slice (some ⟨ga,0,none⟩) A.length ca) (.int .i64 (i:Int))).run Tryz.prog W=.ok (.pointer (some ⟨ga,i,none⟩)) W:=fun W=>ixZ W hlt;have hixX:∀W:World,(Instr.indexAt 61 (.slice (some ⟨gp,0,none⟩) es.length cx) (.int .i64 (j:Int))).run Tryz.prog W=.ok (.pointer (some ⟨gp,j,none⟩)) W:=fun W=>ixX W hjl;have HRE:=Hd (hre.below' HL.out.2)
   have HNX:Hid ((A.take i).flatMap (fun z=>pb z.toNat)++pb j=(A.take (i+1)).flatMap fun z=>pb z.toNat):=by
    show _=_;rw[List.take_add_one,hzi];simp
   have hlen:((A.take i).flatMap fun z=>pb z.toNat).length≤1000000:=by
    have h1:=flat_len (pb:=pb) (A.take i) fun z hz=>by
     obtain⟨_,e,_,_,h⟩:=HQ.out z (List.mem_of_mem_take hz);exact h
    have h2:(A.take i).length≤1000:=by rw[List.length_take];omega
    omega
   have hsz:=HL.out.2.size;clear hz0 he hre ha2 hp2 hjl hzi
   go_wp2_with (at_builtin;refine FF.wpList_appendR rfl _ _ rfl W.heap.size _ e _ (pb j) rfl HL.out.1 rfl HRE.out (by omega) hsz ?_)
   intro v' V3 ho3 hg3
   have HL3:Hid (FF.OW V3 W.heap.size v' ((A.take (i+1)).flatMap fun z=>pb z.toNat)∧Below W.heap.size W V3):=by
    rw[←HNX.out];exact⟨ho3,(grown_kw (F:=fun k=>W.heap.size≤k) hg3 fun k _ e=>(HL.out.1.lt k e).1).below HL.out.2 hsz fun i hi=>by omega⟩
   clear ho3 hg3 HL HRE HNX ci cj c14;go_wp2;go_roundw
   case rel=>exact⟨i+1,hlt,by go_num,HL3⟩
   case measure=>simp[intOf];omega
  ·have hz:¬((i:Int)<(A.length:Int)):=by omega
   obtain rfl:i=A.length:=by omega
   rw[List.take_length]at HL;have c15:wr.cell? ⟨wb,15,none⟩=some v.vn:=(HH.out.below' HL.out.2).now;have HN2:=Hd (HN.out.below' HL.out.2);have hsz:=HL.out.2.size
   have hlen:(A.flatMap fun z=>pb z.toNat).length≤10000000:=by
    have h1:=flat_len (pb:=pb) A fun z hz=>by
     obtain⟨_,e,_,_,h⟩:=HQ.out z hz;exact h
    omega
   go_wp2_with (at_builtin;refine FF.wpList_appendR rfl _ _ rfl W.heap.size _ v.vn _ N rfl HL.out.1 rfl HN2.out (by omega) hsz ?_)
   intro v' V3 ho3 hg3;have HL3:Hid (FF.OW V3 W.heap.size v' (A.flatMap (fun z=>pb z.toNat)++N)∧Below W.heap.size W V3):=⟨ho3,(grown_kw (F:=fun k=>W.heap.size≤k) hg3 fun k _ e=>(HL.out.1.lt k e).1).below HL.out.2 hsz fun i hi=>by omega⟩;clear ho3 hg3 HL c15 HN2;go_wp2;go_ret;exact⟨_,rfl,HL3.out.1,HL3.out.2⟩
end
theorem infoX:(Tryz.prog.info? 62).map (fun i=>(i.zero,i.size,i.bytes))=some (some (.slice none 0 0),1,24):=by kernel_rfl
theorem infoZ:(Tryz.prog.info? 3).map (fun i=>(i.zero,i.size,i.bytes))=some (some (.int .i64 0),1,8):=by kernel_rfl
section
variable {W W' W2:World} {wb cb n gb i k Ba Bp:Nat} {s:St} {v:Wv} {A:List Int} {es:List Value} {N:List Nat}
theorem msettle_any(h:MR W cb n)(hi:i<n):Calls Tryz.prog 53 #[.pointer (some ⟨cb,i*11,none⟩)] W fun e w'=>e=.returned (.tuple #[])∧w'=W:=by
 have m9:W.cell? ⟨cb,i*11+9,none⟩=some (.bool false):=h.cell hi (by decide);have m10:W.cell? ⟨cb,i*11+10,none⟩=some (.bool false):=h.cell hi (by decide);have f9:=h.fr (i*11+9);have f10:=h.fr (i*11+10);have h9:=setCell_id m9;have h10:=setCell_id m10
 go_enter Tryz.func53,Tryz.ntmps53
 go_wp2
 go_end0
 exact⟨rfl,rfl⟩
theorem run_loadXX{a:Act}{o:Oper}{w:World}{u:Value}(x:Operand){b j:Nat}(ho:o.op=.load 61 x)(hx:a.eval x=.pointer (some ⟨b,j,none⟩))(hr:w.cell? ⟨b,j,none⟩=some u):(execOp a.eval o).run Tryz.prog w=.ok (.value u) w:=by
 unfold execOp;simp only[ho,hx];simp[go_sem,hr]
theorem run_loadYY{a:Act}{o:Oper}{w:World}{u:Value}(x:Operand){b j:Nat}(ho:o.op=.load 62 x)(hx:a.eval x=.pointer (some ⟨b,j,none⟩))(hr:w.cell? ⟨b,j,none⟩=some u):(execOp a.eval o).run Tryz.prog w=.ok (.value u) w:=by
 unfold execOp;simp only[ho,hx];simp[go_sem,hr]
structure Js(W:World)(wb:Nat)(s:St)(cb n gb Bp:Nat)(v:Wv)(es:List Value)(N:List Nat)(X:World):Prop where
 bk:WB X wb s cb n gb v
 xr:XR X Bp v.vp es
 rd:FF.RD X v.vn N
 be:Below W.heap.size W X
 lo:∀g,v.vp.ownBlock=some g→g<W.heap.size
 wl:wb<W.heap.size
structure Jc(W:World)(wb:Nat)(s:St)(cb n gb Bp:Nat)(v:Wv)(es:List Value)(N:List Nat)(e':Value)(X:World):Prop where
 bk:WB X wb s cb n gb v
 xr:XR X Bp v.vp es
 ow:FF.OW X W.heap.size e' N
 be:Below W.heap.size W X
 lo:∀g,v.vp.ownBlock=some g→g<W.heap.size
 wl:wb<W.heap.size
theorem Js.cloned{X X1:World}{e':Value}(h:Js W wb s cb n gb Bp v es N X)(ho:FF.OW X1 X.heap.size e' N)(hb:Below X.heap.size X X1):Jc W wb s cb n gb Bp v es N e' X1:=⟨h.bk.below' hb,h.xr.below' hb,ho.mono h.be.size,h.be.trans (hb.mono h.be.size),h.lo,h.wl⟩
theorem Jc.built{X:World}{e':Value}(h:Jc W wb s cb n gb Bp v es N e' X):Jc W wb s cb n gb Bp v es N e' (X.alloc (.cells #[e'] 62)):=⟨h.bk.below' ((Below.refl _ _).alloc (Nat.le_refl _) _),h.xr.below' ((Below.refl _ _).alloc (Nat.le_refl _) _),h.ow.alloc _,h.be.alloc h.be.size _,h.lo,h.wl⟩
theorem fill_x(a:Option Addr)(m c:Nat):Instr.fill (fun i=>some (i,1)) (Array.map (fun x=>(Value.slice none 0 0).cells[x%(Value.slice none 0 0).cells.size]!) (Array.range 1)) [(0,.slice a m c)]=some #[.slice a m c]:=by kernel_rfl
theorem wpOp_buildX{ops:Array Oper}{Q:Exit→Act→World→Prop}{o:Oper}{K:Act→World→Prop}{a:Act}{w:World}(hi:ops[i]?=some o)(hw:Region.wanted o (yielded ops a.tmps)=true)(x:Operand)(ho:o.op=.buildSlice 61 1 #[(0,x)]){p:Option Addr}{m c:Nat}(hx:a.eval x=.slice p m c)
  (h:K (a.put o.dst (.slice (some ⟨w.heap.size,0,none⟩) 1 1)) (w.alloc (.cells #[.slice p m c] 62))):wpOp Tryz.prog ops Q i K a w:=
 wpOp_val hi hw (by
  obtain⟨i0,hi0,hz0,hz1,hz2⟩:=info_parts infoX;unfold execOp;simp only[ho]
  simp[hx,Instr.buildSlice,run_underlying Tryz.underlying61,sizeOf,typeInfo,zeroValue,hi0,hz0,hz1,newRow,fill_x]) h
theorem wpOp_appX{ops:Array Oper}{Q:Exit→Act→World→Prop}{o:Oper}{K:Act→World→Prop}{a:Act}{w:World}(hi:ops[i]?=some o)(hw:Region.wanted o (yielded ops a.tmps)=true)(sx x:Operand)(ho:o.op=.call {callee:=.builtin .append,args:= #[sx,x],argTypes:= #[61,61]})
  (B:Nat) (u:Value) (l:List Value) (hs:a.eval sx=u) (hown:XR w B u l) (g c:Nat) (y:Value) (hx:a.eval x=.slice (some ⟨g,0,none⟩) 1 c) (hc:w.cell? ⟨g,0,none⟩=some y) (hy:y.oneCell'=true) (h63:l.length≤1000000) (hB:B≤w.heap.size)
  (h:∀g' cap w',XR w' B (.slice (some ⟨g',0,none⟩) (l.length+1) cap) (l++[y])→w.grownBy w' u.ownBlock→(u.ownBlock=some g'∨g'=w.heap.size)→K (a.put o.dst (.slice (some ⟨g',0,none⟩) (l.length+1) cap)) w'):wpOp Tryz.prog ops Q i K a w:=by
 obtain⟨i0,h1,h2,h3,h4⟩:=info_parts infoX
 obtain⟨g',cap,w',hrun,k1,k2,k3,k4⟩:=run_append_lies (P:=Tryz.prog) w 61 o.type B 62 i0 _ 1 24 Tryz.underlying61 h1 h2 h3 h4 rfl (by decide) u l.length (rcs xc1 l) hown ⟨g,0,none⟩ 1 c [y] rfl (fun j z hj=>by
  have:j=0:=by
   have:=(List.getElem?_eq_some_iff.1 hj).1;simpa using this
  subst this;simp at hj;subst hj
  rw[Addr.add_mid];exact hc) (by simpa using hy) (by omega) (by unfold maxLen;omega) (by omega) hB w.heap.size rfl
 refine wpOp_val hi hw (v:=.slice (some ⟨g',0,none⟩) (l.length+1) cap) (w':=w') ?_ (h g' cap w' ?_ k2 k3)
 ·unfold execOp;simp only[ho,resolve,invoke,builtin,Sem.run_bind,Sem.run_pure,Result.andThen_ok,List.map_toArray,List.map_cons,List.map_nil,hs,hx,hrun]
 ·show w'.ownsRow B 62 1 _ (l++[y]).length (rcs xc1 (l++[y]));rw[List.length_append,rcs_append,show rcs xc1 [y]=[y] by simp[rcs,xc1]];exact k1
structure Jd(W:World)(wb:Nat)(s:St)(cb n gb Bp:Nat)(v:Wv)(es:List Value)(N:List Nat)(e' vp:Value)(X:World):Prop where
 bk:WB X wb s cb n gb v
 xr:XR X Bp vp (es++[e'])
 lie:v.vp.ownBlock=vp.ownBlock∨∀g,vp.ownBlock=some g→W.heap.size≤g
 ne:vp.ownBlock≠some wb
 ow:FF.OW X W.heap.size e' N
 be:Kp (fun k=>k=wb∨v.vp.ownBlock=some k) W X
 lo:∀g,v.vp.ownBlock=some g→g<W.heap.size
 wl:wb<W.heap.size
def Je(W:World)(wb:Nat)(s:St)(cb n gb Bp:Nat)(v:Wv)(es:List Value)(N:List Nat)(X:World):Prop:=∃vp e',WB X wb s cb n gb {v with vp:=vp}∧XR X Bp vp (es++[e'])∧(v.vp.ownBlock=vp.ownBlock∨∀g,vp.ownBlock=some g→W.heap.size≤g)∧FF.OW X W.heap.size e' N∧Kp (fun k=>k=wb∨v.vp.ownBlock=some k) W X
theorem Je.now{X:World}(h:Je W wb s cb n gb Bp v es N X):X.cell? ⟨wb,15,none⟩=some v.vn:=let⟨_,_,h1,_⟩:=h;h1.now
theorem Jc.apped{X X3:World}{e':Value}{g3 l3 cap3:Nat}(h:Jc W wb s cb n gb Bp v es N e' X)(hw:v.vp.ownBlock≠some wb)(hx:XR X3 Bp (.slice (some ⟨g3,0,none⟩) l3 cap3) (es++[e']))(hg:X.grownBy X3 v.vp.ownBlock)(hp:v.vp.ownBlock=some g3∨g3=X.heap.size):Jd W wb s cb n gb Bp v es N e' (.slice (some ⟨g3,0,none⟩) l3 cap3) X3:=by
 have hs:=h.be.size;have hlt:=h.bk.lt;have hwl:=h.wl;refine⟨h.bk.keep (hg.block wb hlt fun e=>hw e.symm),hx,?_,?_,h.ow.keep fun g hgo=>hg.block g (h.ow.lt g hgo).2 fun e=> ?_,(Kp.ofBelow _ h.be).trans (grown_kw (F:=fun k=>v.vp.ownBlock=some k) hg fun k _ e=>e) fun _ _ x=>.inr x,h.lo,h.wl⟩
 ·rcases hp with hp|hp
  ·exact .inl hp
  ·refine .inr fun g e=> ?_;have e:g3=g:=Option.some.inj e;omega
 ·intro e;have e:g3=wb:=Option.some.inj e;subst e;rcases hp with hp|hp
  ·exact hw hp
  ·omega
 ·have h1:=(h.ow.lt g hgo).1;have h2:=h.lo g e.symm;omega
theorem Jd.stored{X:World}{e' vp:Value}(h:Jd W wb s cb n gb Bp v es N e' vp X):Je W wb s cb n gb Bp v es N (X.setCell ⟨wb,14,none⟩ vp):=
 ⟨vp,e',h.bk.put 14 vp rfl,h.xr.keep fun g hg=>Below.heap_setCell _ _ _ _ fun e=>h.ne (by rw[hg];exact congrArg some e),h.lie,h.ow.keep fun g hg=>Below.heap_setCell _ _ _ _ fun e=>by have h1:=(h.ow.lt g hg).1;have h2:=h.wl;have e:g=wb:=e;omega,h.be.set wb 14 vp fun _=>.inl rfl⟩
theorem wpOp_storeX{ops:Array Oper}{Q:Exit→Act→World→Prop}{o:Oper}{K:Act→World→Prop}{a:Act}{w:World}(hi:ops[i]?=some o)(hw:Region.wanted o (yielded ops a.tmps)=true)(x y:Operand)(ho:o.op=.store 61 x y){b j m c:Nat}{p:Option Addr}{old:Value}(hx:a.eval x=.pointer (some ⟨b,j,none⟩))(hy:a.eval y=.slice p m c)(hc:w.cell? ⟨b,j,none⟩=some old)(hf:w.frozen? ⟨b,j,none⟩=false)
  (h:K (a.put o.dst undef) (w.setCell ⟨b,j,none⟩ (.slice p m c))):wpOp Tryz.prog ops Q i K a w:=by
 unfold wpOp;rw[hi];simp only;rw[if_pos hw];refine .inl ?_;unfold Oper.wp execOp;simp only[ho,hx,hy];simp[go_sem,hc,hf];exact h
theorem bsettle_any(h:WB W wb s cb n gb v)(hp:XR W Bp v.vp es)(hB:Bp≤W.heap.size)(hw:v.vp.ownBlock≠some wb)(hN:FF.RD W v.vn N)(hl:N.length≤1000)(he:es.length≤1000):
  Calls Tryz.prog 54 #[.pointer (some ⟨wb,14,none⟩)] W fun e w'=>e=.returned (.tuple #[])∧∃vp e',WB w' wb s cb n gb {v with vp:=vp,vn:=.slice none 0 0,va:=.slice none 0 0}∧XR w' Bp vp (es++[e'])∧(v.vp.ownBlock=vp.ownBlock∨∀g,vp.ownBlock=some g→W.heap.size≤g)∧FF.OW w' W.heap.size e' N∧Kp (fun k=>k=wb∨v.vp.ownBlock=some k) W w':=by
 have c14:W.drew.cell? ⟨wb,14,none⟩=some v.vp:=h.past;have c15:W.drew.cell? ⟨wb,15,none⟩=some v.vn:=h.now;have HH:=Hd (show WB W.drew wb s cb n gb v from h);have HP:=Hd (show XR W.drew Bp v.vp es from hp.below' (Below.refl _ _).drew);have HN:=Hd (show FF.RD W.drew v.vn N from hN.below' (Below.refl _ _).drew);have HCL:Hid (∀w',Below W.drew.heap.size W.drew w'→Calls Tryz.prog 70 #[v.vn] w' fun e w2=>∃v',e=.returned v'∧FF.OW w2 w'.heap.size v' N∧Below w'.heap.size w' w2):=fun w' hw'=>FF.clone_any v.vn N w' (HN.out.below' hw') hl;have HLO:Hid (∀g,v.vp.ownBlock=some g→g<W.heap.size):=fun g hg=>(hp.lt g hg).2;clear h hp hN
 go_enter Tryz.func54,Tryz.ntmps54
 go_upto_region 0 with fail
 go_cut [] (fun X=>Hid (Je W wb s cb n gb Bp v es N X))
 case first=>
  rename_i hJ hK;refine wp_nrm ?_;refine wp_region_held (S:=fun w'=>w'.cell? ⟨wb,15,none⟩=some v.vn) (by kernel_rfl) ?_;change wpAnyH _ _ _ _ _ _ _ _ (World.drew _);have HJ0:Hid (Js W wb s cb n gb Bp v es N W.drew):=⟨HH.out,HP.out,HN.out,(Below.refl _ _).drew,HLO.out,HH.out.lt⟩;have HD:=Hd HJ0.out.bk.now;generalize W.drew=X0 at HJ0 HD⊢;refine wpAnyH_take (i:=0) rfl (by kernel_rfl) (by kernel_rfl) (by kernel_rfl) (fun _ _ _ h=>by cases h.1) (.inl ⟨rfl,fun _ _=>rfl⟩) HD.out ?_;generalize hKK:wpAnyH _ _ _ _ _ _ _=KK;go_simp;subst hKK;refine wpAnyH_take (i:=1) rfl (by kernel_rfl) (by kernel_rfl) (by kernel_rfl) (fun _ _ _ h=>by cases h.1) (.inl ⟨rfl,fun _ _=>rfl⟩) HD.out ?_;generalize hKK:wpAnyH _ _ _ _ _ _ _=KK;go_simp;subst hKK;refine wpAnyH_take (i:=2) rfl (by kernel_rfl) (by kernel_rfl) (by kernel_rfl) (fun _ _ _ h=>by cases h.1) (.inl ⟨rfl,fun _ _=>rfl⟩) HD.out ?_;generalize hKK:wpAnyH _ _ _ _ _ _ _=KK;go_simp;subst hKK;refine wpAnyH_take (i:=3) rfl (by kernel_rfl) (by kernel_rfl) (by kernel_rfl) (fun _ _ _ h=>by cases h.1) (.inl ⟨rfl,fun _ _=>rfl⟩) HD.out ?_;generalize hKK:wpAnyH _ _ _ _ _ _ _=KK;go_simp;subst hKK;refine wpAnyH_take (i:=5) rfl (by kernel_rfl) (by kernel_rfl) (by kernel_rfl) (fun _ _ _ h=>by cases h.1) (.inl ⟨rfl,fun _ _=>rfl⟩) HD.out ?_;generalize hKK:wpAnyH _ _ _ _ _ _ _=KK;go_simp;subst hKK;refine wpAnyH_take (i:=6) rfl (by kernel_rfl) (by kernel_rfl) (by kernel_rfl) (fun _ _ _ h=>by cases h.1) (.inl ⟨rfl,fun _ _=>rfl⟩) HD.out ?_;generalize hKK:wpAnyH _ _ _ _ _ _ _=KK;go_simp;subst hKK;refine wpAnyH_take (i:=7) rfl (by kernel_rfl) (by kernel_rfl) (by kernel_rfl) (fun _ _ _ h=>by cases h.1) (.inl ⟨rfl,fun _ _=>rfl⟩) HD.out ?_;generalize hKK:wpAnyH _ _ _ _ _ _ _=KK;go_simp;subst hKK;refine wpAnyH_take (i:=8) (v:=v.vn) rfl (by kernel_rfl) (by kernel_rfl) (by kernel_rfl) (fun _ _ _ h=>by cases h.1) (.inl ⟨rfl,fun w hw=>run_loadYY _ rfl rfl hw⟩) HD.out ?_;generalize hKK:wpAnyH _ _ _ _ _ _ _=KK;go_simp;subst hKK;clear HD;refine wpAnyH_all (rs:=[4,9]) (by kernel_rfl) (by simp) (fun ii hii=> ?_);have h2:ii=4∨ii=9:=by simpa using hii
  clear hii;rcases h2 with rfl|rfl
  ·refine wpOp_val rfl rfl (run_loadXX _ rfl rfl HJ0.out.bk.past) ⟨HJ0.out.bk.now,?_⟩;generalize hKK:wpAnyH _ _ _ _ _ _ _=KK;go_simp;subst hKK;refine wpAnyH_all (rs:=[9]) (by kernel_rfl) (by simp) (fun ii hii=> ?_);obtain rfl:ii=9:=by simpa using hii
   clear hii;refine wpOp_call (f:=70) (args:= #[v.vn]) rfl rfl (by go_simp) (FF.clone_any v.vn N _ HJ0.out.rd hl) ?_;rintro e X1 ⟨v',rfl,ho,hb⟩;obtain⟨p,m,c,rfl⟩:=ow_slice ho;have HJ1:=Hd (HJ0.out.cloned ho hb);clear ho hb HJ0;refine⟨_,rfl,HJ1.out.bk.now,?_⟩;generalize hKK:wpAnyH _ _ _ _ _ _ _=KK;go_simp;subst hKK;refine wpAnyH_all (rs:=[10]) (by kernel_rfl) (by simp) (fun ii hii=> ?_);obtain rfl:ii=10:=by simpa using hii
   clear hii;have HJ2:=Hd (HJ1.out.built);have hnew:=World.cell?_alloc_new X1 #[.slice p m c] 62 0;clear HJ1;refine wpOp_buildX rfl rfl _ rfl rfl ⟨HJ2.out.bk.now,?_⟩;generalize hKK:wpAnyH _ _ _ _ _ _ _=KK;go_simp;subst hKK;refine wpAnyH_all (rs:=[11]) (by kernel_rfl) (by simp) (fun ii hii=> ?_);obtain rfl:ii=11:=by simpa using hii
   clear hii;refine wpOp_appX rfl rfl _ _ rfl Bp v.vp es rfl HJ2.out.xr _ 1 (.slice p m c) rfl hnew rfl (by omega) (by have:=HJ2.out.be.size;omega) ?_;intro g3 cap3 X3 hx3 hg3 hp3;have HJ3:=Hd (HJ2.out.apped hw hx3 hg3 hp3);clear hx3 hg3 hp3 HJ2 hnew;refine⟨HJ3.out.bk.now,?_⟩;generalize hKK:wpAnyH _ _ _ _ _ _ _=KK;go_simp;subst hKK;have HD:=Hd HJ3.out.bk.now;refine wpAnyH_take (i:=12) rfl (by kernel_rfl) (by kernel_rfl) (by kernel_rfl) (fun _ _ _ h=>by cases h.1) (.inl ⟨rfl,fun _ _=>rfl⟩) HD.out ?_;generalize hKK:wpAnyH _ _ _ _ _ _ _=KK;go_simp;subst hKK;refine wpAnyH_take (i:=13) rfl (by kernel_rfl) (by kernel_rfl) (by kernel_rfl) (fun _ _ _ h=>by cases h.1) (.inl ⟨rfl,fun _ _=>rfl⟩) HD.out ?_;generalize hKK:wpAnyH _ _ _ _ _ _ _=KK;go_simp;subst hKK;clear HD;refine wpAnyH_all (rs:=[14]) (by kernel_rfl) (by simp) (fun ii hii=> ?_);obtain rfl:ii=14:=by simpa using hii
   clear hii;refine wpOp_storeX rfl rfl _ _ rfl rfl rfl HJ3.out.bk.past (HJ3.out.bk.fr 14) ?_;have HE:=Hd HJ3.out.stored;clear HJ3;refine⟨HE.out.now,?_⟩;generalize hKK:wpAnyH _ _ _ _ _ _ _=KK;go_simp;subst hKK;refine wpAnyH_done (by kernel_rfl) ⟨rfl,hK _ _ ?_⟩ _;go_meet
   case rel=>exact HE
  ·refine wpOp_call (f:=70) (args:= #[v.vn]) rfl rfl (by go_simp) (FF.clone_any v.vn N _ HJ0.out.rd hl) ?_;rintro e X1 ⟨v',rfl,ho,hb⟩;obtain⟨p,m,c,rfl⟩:=ow_slice ho;have HJ1:=Hd (HJ0.out.cloned ho hb);clear ho hb HJ0;refine⟨_,rfl,HJ1.out.bk.now,?_⟩;generalize hKK:wpAnyH _ _ _ _ _ _ _=KK;go_simp;subst hKK;refine wpAnyH_all (rs:=[4,10]) (by kernel_rfl) (by simp) (fun ii hii=> ?_);have h2:ii=4∨ii=10:=by simpa using hii
   clear hii;rcases h2 with rfl|rfl
   ·refine wpOp_val rfl rfl (run_loadXX _ rfl rfl HJ1.out.bk.past) ⟨HJ1.out.bk.now,?_⟩;generalize hKK:wpAnyH _ _ _ _ _ _ _=KK;go_simp;subst hKK;refine wpAnyH_all (rs:=[10]) (by kernel_rfl) (by simp) (fun ii hii=> ?_);obtain rfl:ii=10:=by simpa using hii
    clear hii;have HJ2:=Hd (HJ1.out.built);have hnew:=World.cell?_alloc_new X1 #[.slice p m c] 62 0;clear HJ1;refine wpOp_buildX rfl rfl _ rfl rfl ⟨HJ2.out.bk.now,?_⟩;generalize hKK:wpAnyH _ _ _ _ _ _ _=KK;go_simp;subst hKK;refine wpAnyH_all (rs:=[11]) (by kernel_rfl) (by simp) (fun ii hii=> ?_);obtain rfl:ii=11:=by simpa using hii
    clear hii;refine wpOp_appX rfl rfl _ _ rfl Bp v.vp es rfl HJ2.out.xr _ 1 (.slice p m c) rfl hnew rfl (by omega) (by have:=HJ2.out.be.size;omega) ?_;intro g3 cap3 X3 hx3 hg3 hp3;have HJ3:=Hd (HJ2.out.apped hw hx3 hg3 hp3);clear hx3 hg3 hp3 HJ2 hnew;refine⟨HJ3.out.bk.now,?_⟩;generalize hKK:wpAnyH _ _ _ _ _ _ _=KK;go_simp;subst hKK;have HD:=Hd HJ3.out.bk.now;refine wpAnyH_take (i:=12) rfl (by kernel_rfl) (by kernel_rfl) (by kernel_rfl) (fun _ _ _ h=>by cases h.1) (.inl ⟨rfl,fun _ _=>rfl⟩) HD.out ?_;generalize hKK:wpAnyH _ _ _ _ _ _ _=KK;go_simp;subst hKK;refine wpAnyH_take (i:=13) rfl (by kernel_rfl) (by kernel_rfl) (by kernel_rfl) (fun _ _ _ h=>by cases h.1) (.inl ⟨rfl,fun _ _=>rfl⟩) HD.out ?_;generalize hKK:wpAnyH _ _ _ _ _ _ _=KK;go_simp;subst hKK;clear HD;refine wpAnyH_all (rs:=[14]) (by kernel_rfl) (by simp) (fun ii hii=> ?_);obtain rfl:ii=14:=by simpa using hii
    clear hii;refine wpOp_storeX rfl rfl _ _ rfl rfl rfl HJ3.out.bk.past (HJ3.out.bk.fr 14) ?_;have HE:=Hd HJ3.out.stored;clear HJ3;refine⟨HE.out.now,?_⟩;generalize hKK:wpAnyH _ _ _ _ _ _ _=KK;go_simp;subst hKK;refine wpAnyH_done (by kernel_rfl) ⟨rfl,hK _ _ ?_⟩ _;go_meet
    case rel=>exact HE
   ·have HJ2:=Hd (HJ1.out.built);have hnew:=World.cell?_alloc_new X1 #[.slice p m c] 62 0;clear HJ1;refine wpOp_buildX rfl rfl _ rfl rfl ⟨HJ2.out.bk.now,?_⟩;generalize hKK:wpAnyH _ _ _ _ _ _ _=KK;go_simp;subst hKK;refine wpAnyH_all (rs:=[4]) (by kernel_rfl) (by simp) (fun ii hii=> ?_);obtain rfl:ii=4:=by simpa using hii
    clear hii;refine wpOp_val rfl rfl (run_loadXX _ rfl rfl HJ2.out.bk.past) ⟨HJ2.out.bk.now,?_⟩;generalize hKK:wpAnyH _ _ _ _ _ _ _=KK;go_simp;subst hKK;refine wpAnyH_all (rs:=[11]) (by kernel_rfl) (by simp) (fun ii hii=> ?_);obtain rfl:ii=11:=by simpa using hii
    clear hii;refine wpOp_appX rfl rfl _ _ rfl Bp v.vp es rfl HJ2.out.xr _ 1 (.slice p m c) rfl hnew rfl (by omega) (by have:=HJ2.out.be.size;omega) ?_;intro g3 cap3 X3 hx3 hg3 hp3;have HJ3:=Hd (HJ2.out.apped hw hx3 hg3 hp3);clear hx3 hg3 hp3 HJ2 hnew;refine⟨HJ3.out.bk.now,?_⟩;generalize hKK:wpAnyH _ _ _ _ _ _ _=KK;go_simp;subst hKK;have HD:=Hd HJ3.out.bk.now;refine wpAnyH_take (i:=12) rfl (by kernel_rfl) (by kernel_rfl) (by kernel_rfl) (fun _ _ _ h=>by cases h.1) (.inl ⟨rfl,fun _ _=>rfl⟩) HD.out ?_;generalize hKK:wpAnyH _ _ _ _ _ _ _=KK;go_simp;subst hKK;refine wpAnyH_take (i:=13) rfl (by kernel_rfl) (by kernel_rfl) (by kernel_rfl) (fun _ _ _ h=>by cases h.1) (.inl ⟨rfl,fun _ _=>rfl⟩) HD.out ?_;generalize hKK:wpAnyH _ _ _ _ _ _ _=KK;go_simp;subst hKK;clear HD;refine wpAnyH_all (rs:=[14]) (by kernel_rfl) (by simp) (fun ii hii=> ?_);obtain rfl:ii=14:=by simpa using hii
    clear hii;refine wpOp_storeX rfl rfl _ _ rfl rfl rfl HJ3.out.bk.past (HJ3.out.bk.fr 14) ?_;have HE:=Hd HJ3.out.stored;clear HJ3;refine⟨HE.out.now,?_⟩;generalize hKK:wpAnyH _ _ _ _ _ _ _=KK;go_simp;subst hKK;refine wpAnyH_done (by kernel_rfl) ⟨rfl,hK _ _ ?_⟩ _;go_meet
    case rel=>exact HE
 case rest=>
  obtain⟨vp,e',h1,h2,h3,h4,h5⟩:=hcut.out;have c15:wc.cell? ⟨wb,15,none⟩=some v.vn:=h1.now;have f15:=h1.fr 15;have c16:wc.cell? ⟨wb,16,none⟩=some v.va:=h1.again;have f16:=h1.fr 16;have k1:=h1.put 15 (.slice none 0 0) (v':={v with vp:=vp,vn:=.slice none 0 0}) rfl;have c16':(wc.setCell ⟨wb,15,none⟩ (.slice none 0 0)).cell? ⟨wb,16,none⟩=some v.va:=k1.again;have f16':=k1.fr 16;have k2:=k1.put 16 (.slice none 0 0) (v':={v with vp:=vp,vn:=.slice none 0 0,va:=.slice none 0 0}) rfl
  have HQ:Hid (∃vp e',WB ((wc.setCell ⟨wb,15,none⟩ (.slice none 0 0)).setCell ⟨wb,16,none⟩ (.slice none 0 0)) wb s cb n gb {v with vp:=vp,vn:=.slice none 0 0,va:=.slice none 0 0}∧XR ((wc.setCell ⟨wb,15,none⟩ (.slice none 0 0)).setCell ⟨wb,16,none⟩ (.slice none 0 0)) Bp vp (es++[e'])∧(v.vp.ownBlock=vp.ownBlock∨∀g,vp.ownBlock=some g→W.heap.size≤g)∧FF.OW ((wc.setCell ⟨wb,15,none⟩ (.slice none 0 0)).setCell ⟨wb,16,none⟩ (.slice none 0 0)) W.heap.size e' N∧Kp (fun k=>k=wb∨v.vp.ownBlock=some k) W ((wc.setCell ⟨wb,15,none⟩ (.slice none 0 0)).setCell ⟨wb,16,none⟩ (.slice none 0 0))):=by
   have hwl:=HH.out.lt;have hwl:wb<W.heap.size:=hwl;have hot:∀g,g≠wb→((wc.setCell ⟨wb,15,none⟩ (.slice none 0 0)).setCell ⟨wb,16,none⟩ (.slice none 0 0)).heap[g]?=wc.heap[g]?:=fun g hg=>(Below.heap_setCell _ _ _ _ hg).trans (Below.heap_setCell _ _ _ _ hg);refine⟨vp,e',k2,h2.keep fun g hg=>hot g ?_,h3,h4.keep fun g hg=>hot g (by have:=(h4.lt g hg).1;omega),(h5.set wb 15 _ fun _=>.inl rfl).set wb 16 _ fun _=>.inl rfl⟩;rintro rfl;rcases h3 with h3|h3
   ·exact hw (h3.trans hg)
   ·have:=h3 _ hg;omega
  clear h1 h2 h3 h4 h5 k1 k2;go_wp2
  go_end0
  exact⟨rfl,HQ.out⟩
end
section
variable {W W' W2:World} {wb cb n gb i k Ba Bp:Nat} {s:St} {v:Wv} {A:List Int} {es:List Value} {N:List Nat}
def Se(W:World)(wb:Nat)(s:St)(cb n gb Bp:Nat)(v:Wv)(es:List Value)(N:List Nat)(w':World):Prop:=∃vp e',WB w' wb s cb n gb {v with vp:=vp,vn:=.slice none 0 0,va:=.slice none 0 0}∧XR w' Bp vp (es++[e'])∧(v.vp.ownBlock=vp.ownBlock∨∀g,vp.ownBlock=some g→W.heap.size≤g)∧FF.OW w' W.heap.size e' N∧Kp (fun k=>k=wb∨v.vp.ownBlock=some k) W w'
theorem wsettle_any(h:WB W wb s cb n gb v)(hm:MR W cb n)(hp:XR W Bp v.vp es)(hB:Bp≤W.heap.size)(hw:v.vp.ownBlock≠some wb)(hN:FF.RD W v.vn N)(hl:N.length≤1000)(he:es.length≤1000)(hn:n≤8)(u:FrameMode):
  CallsD Tryz.prog 39 #[.pointer (some ⟨wb,0,none⟩)] u W fun e u' w'=>u'=u∧(e=.returned (.tuple #[])∧Se W wb s cb n gb Bp v es N w'):=by
 have HS:=Hd (bsettle_any h hp hB hw hN hl he);have c13:=h.cars;have HM:=Hd hm;clear h hm hp hN hw
 go_enter_d Tryz.func39,Tryz.ntmps39
 go_wp2
 go_loopw [8] (fun iv wr=>wr=W∧∃i:Nat,i≤n∧iv=.int .i64 (i:Int)) (fun iv _=>n-(intOf iv).toNat)
 case atStart=>exact⟨rfl,0,Nat.zero_le _,rfl⟩
 case round=>
  obtain⟨rfl,i,hi,rfl⟩:=hrel;by_cases hlt:i<n
  ·have hz:(i:Int)<(n:Int):=by omega
   have hix:∀W:World,(Instr.indexAt 60 (.slice (some ⟨cb,0,none⟩) n n) (.int .i64 (i:Int))).run Tryz.prog W=.ok (.pointer (some ⟨cb,i*11,none⟩)) W:=fun W=>ixWm W hlt;have HT:=Hd (msettle_any HM.out hlt)
   go_wp2_with fail
   refine HT.out.mono ?_;rintro e W2 ⟨rfl,rfl⟩;go_wp2;go_roundw
   case rel=>exact⟨trivial,i+1,hlt,by go_num⟩
   case measure=>simp[intOf];omega
  ·have hz:¬((i:Int)<(n:Int)):=by omega
   go_wp2_with fail
   refine HS.out.mono ?_;rintro e W2 ⟨rfl,hq⟩;have HQ:=Hd hq;clear hq HS;go_wp2
   go_end0
   exact⟨rfl,HQ.out⟩
end
theorem setCells_id{W:World}{b:Nat}:∀{l:List Value} {o:Nat},W.rangeAt b o l→W.setCells b o l=W
 |[],_,_=>rfl
 |x::l,o,h=>by
  have h0:=h 0 x rfl;rw[Nat.add_zero]at h0;show(W.setCell ⟨b,o,none⟩ x).setCells b (o+1) l=W;rw[setCell_id h0]
  exact setCells_id fun j u hu=>by
   have:=h (j+1) u hu;rwa[show o+(j+1)=o+1+j by omega]at this
def zkw:List Value:=[.int .i64 0,.int .i64 0,.int .i64 0,.int .i64 0,.int .i64 0,.int .i64 0,.bool false,.bool false]
def kz(n:Nat):List Value:=rcs (fun _:Unit=>zkw) (List.replicate n ())
theorem kz_get{n i j:Nat}(hi:i<n)(hj:j<8):(kz n)[i*8+j]?=zkw[j]?:=by
 obtain⟨u,hu⟩:∃u,zkw[j]?=some u:=⟨_,List.getElem?_eq_getElem (by simpa[zkw]using hj)⟩;rw[hu];exact rcs_get (k:=8) (cf:=fun _:Unit=>zkw) (y:=()) (fun _=>rfl) hu (by simp[hi])
def ZK(W:World)(g n:Nat):Prop:=W.heap[g]?=some (.cells (kz n).toArray 48 (0,0))
section
variable {W W':World} {wb cb n gb g i:Nat} {s:St} {v:Wv}
theorem ZK.lt(h:ZK W g n):g<W.heap.size:=(Array.getElem?_eq_some_iff.1 h).1
theorem ZK.below'(h:ZK W g n)(hb:Below W.heap.size W W'):ZK W' g n:=(hb.block g h.lt).trans h
theorem ZK.cell(h:ZK W g n){j:Nat}(hi:i<n)(hj:j<8):W.cell? ⟨g,i*8+j,none⟩=zkw[j]?:=by
 rw[←kz_get hi hj];simp[World.cell?,show W.heap[g]?=_ from h]
theorem ZK.range(h:ZK W g n)(hi:i<n):W.rangeAt g (i*8) zkw:=fun j u hu=>by
 rw[h.cell hi (by simpa[zkw]using (List.getElem?_eq_some_iff.1 hu).1)];exact hu
theorem ZK.there(h:ZK W g n)(hi:i<n):W.there g (i*8) 8:=fun j hj=>by
 refine⟨?_,by simp[World.frozen?,show W.heap[g]?=_ from h]⟩;rw[h.cell hi hj];simpa[zkw]using hj
theorem MR.range(h:MR W cb n)(hi:i<n):W.rangeAt cb (i*11) zkw:=fun j u hu=>by
 have hj:j<8:=by simpa[zkw]using (List.getElem?_eq_some_iff.1 hu).1
 rw[h.cell hi (by omega)];have:j=0∨j=1∨j=2∨j=3∨j=4∨j=5∨j=6∨j=7:=by omega
 rcases this with rfl|rfl|rfl|rfl|rfl|rfl|rfl|rfl<;>exact hu
theorem MR.there(h:MR W cb n)(hi:i<n):W.there cb (i*11) 8:=fun j hj=>by
 refine⟨?_,h.fr _⟩;rw[h.cell hi (by omega)];simp[zmv];omega
theorem infoKw:(Tryz.prog.info? 48).map (fun i=>(i.zero,i.size,i.bytes))=some (some (.agg zkw.toArray),8,64):=by kernel_rfl
theorem mkKz(n:Nat)(hn:n≤8)(W:World):(Instr.makeSlice 43 (.int .i64 (n:Int)) (.int .i64 (n:Int))).run Tryz.prog W=.ok (.slice (some ⟨W.heap.size,0,none⟩) n n) (W.alloc (.cells (kz n).toArray 48)):=by
 obtain⟨i,hi,h1,h2,h3⟩:=info_parts infoKw
 have:=run_make (P:=Tryz.prog) W 43 48 i _ Tryz.underlying43 hi h1 .i64 .i64 (n:Int) (n:Int) (by omega) (by omega) (by
  have:(i.bytes:Int)*(n:Int)≤64*8:=Int.mul_le_mul (by omega) (by omega) (by omega) (by omega)
  omega) (by omega)
 have e:madeCells (Value.agg zkw.toArray).cells (n*8)=(kz n).toArray:=by
  have:n=0∨n=1∨n=2∨n=3∨n=4∨n=5∨n=6∨n=7∨n=8:=by omega
  apply Array.toList_inj.1;rcases this with rfl|rfl|rfl|rfl|rfl|rfl|rfl|rfl|rfl<;>simp[madeCells,Value.cells,kz,rcs,zkw,List.replicate,List.range,List.range.loop]
 rw[this,h2,Int.toNat_natCast,e]
theorem ixKz(W:World){g m cap j:Nat}(hj:j<m):(Instr.indexAt 43 (.slice (some ⟨g,0,none⟩) m cap) (.int .i64 (j:Int))).run Tryz.prog W=.ok (.pointer (some ⟨g,j*8,none⟩)) W:=by
 rw[run_indexAt_slice W 43 _ m cap .i64 j (by kernel_rfl),if_pos ⟨by omega,by omega⟩,show Tryz.prog.elem 43=48 by kernel_rfl,Tryz.sizeOf48];simp only[Result.andThen_ok,Int.toNat_natCast,Addr.add_mid,Nat.zero_add]
theorem wcars_any(h:WB W wb s cb n gb v)(hm:MR W cb n)(hn:n≤8):Calls Tryz.prog 14 #[.pointer (some ⟨wb,0,none⟩)] W fun e w'=>∃g,e=.returned (.slice (some ⟨g,0,none⟩) n n)∧ZK w' g n∧W.heap.size≤g∧Below W.heap.size W w':=by
 have hb:=(Below.refl W.heap.size W).alloc (Nat.le_refl _) (.cells (kz n).toArray 48);have HB:=Hd hb;have h1:=h.below' hb;have HM:=Hd (hm.below' hb);have HK:Hid (ZK (W.alloc (.cells (kz n).toArray 48)) W.heap.size n):=World.alloc_heap_new W _;have c13:=h.cars;have c13':=h1.cars;have hmk:∀W:World,(Instr.makeSlice 43 (.int .i64 (n:Int)) (.int .i64 (n:Int))).run Tryz.prog W=.ok (.slice (some ⟨W.heap.size,0,none⟩) n n) (W.alloc (.cells (kz n).toArray 48)):=fun W=>mkKz n hn W;clear h hm hb h1
 go_enter Tryz.func14,Tryz.ntmps14
 go_wp2;clear c13 hmk;generalize W.alloc (.cells (kz n).toArray 48)=V at HB HM HK c13'⊢
 go_loopw [16] (fun iv wr=>wr=V∧∃i:Nat,i≤n∧iv=.int .i64 (i:Int)) (fun iv _=>n-(intOf iv).toNat)
 case atStart=>exact⟨rfl,0,Nat.zero_le _,rfl⟩
 case round=>
  obtain⟨rfl,i,hi,rfl⟩:=hrel;by_cases hlt:i<n
  ·have hz:(i:Int)<(n:Int):=by omega
   have hixM:∀W:World,(Instr.indexAt 60 (.slice (some ⟨cb,0,none⟩) n n) (.int .i64 (i:Int))).run Tryz.prog W=.ok (.pointer (some ⟨cb,i*11,none⟩)) W:=fun W=>ixWm W hlt;have hixK:∀(W:World) (g:Nat),(Instr.indexAt 43 (.slice (some ⟨g,0,none⟩) n n) (.int .i64 (i:Int))).run Tryz.prog W=.ok (.pointer (some ⟨g,i*8,none⟩)) W:=fun W g=>ixKz W hlt
   go_wp2_with (first|(refine wpList_load_mid rfl 48 _ rfl cb (i*11) rfl zkw _ (HM.out.range hlt) Tryz.underlying48 rfl infoZk ?_)|(refine wpList_store_mid rfl 48 _ _ rfl W.heap.size (i*8) zkw.toArray rfl rfl (HK.out.there hlt) infoZk (by simp[zkw,Value.oneCell']) ?_;rw[setCells_id (HK.out.range hlt)]))
   go_roundw
   case rel=>exact⟨trivial,i+1,hlt,by go_num⟩
   case measure=>simp[intOf];omega
  ·have hz:¬((i:Int)<(n:Int)):=by omega
   go_wp2;go_ret;exact⟨_,rfl,HK.out,Nat.le_refl _,HB.out⟩
end
section
variable {w:World} {s:St}
theorem zdshut_any(w:World):Calls Tryz.prog 119 #[.agg #[.int .i64 0,.int .i64 0,.int .i64 0,.bool false]] w fun e w'=>e=.returned (.bool true)∧Below w.heap.size w w':=by
 go_enter Tryz.func119,Tryz.ntmps119
 go_wp2;go_ret;exact⟨rfl,(Below.refl _ w).alloc (Nat.le_refl _) _⟩
theorem zdright_any(hs:rightB s=true)(w:World):Calls Tryz.prog 164 #[.agg (sv s).toArray,.agg #[.int .i64 0,.int .i64 0,.int .i64 0,.bool false]] w fun e w'=>e=.returned (.bool true)∧Below w.heap.size w w':=by
 have hb:Below w.heap.size w ((w.alloc (.cells (sv s).toArray 23)).alloc (.cells #[.int .i64 0,.int .i64 0,.int .i64 0,.bool false] 46)):=((Below.refl _ w).alloc (Nat.le_refl _) _).alloc (by simp) _;have HB:=Hd hb;have HS:=Hd ((SB.new w s).alloc (.cells #[.int .i64 0,.int .i64 0,.int .i64 0,.bool false] 46))
 have HD:Hid (((w.alloc (.cells (sv s).toArray 23)).alloc (.cells #[.int .i64 0,.int .i64 0,.int .i64 0,.bool false] 46)).heap[w.heap.size+1]?=some (.cells #[.int .i64 0,.int .i64 0,.int .i64 0,.bool false] 46 (0,0))):=by
  have:=World.alloc_heap_new (w.alloc (.cells (sv s).toArray 23)) (.cells #[.int .i64 0,.int .i64 0,.int .i64 0,.bool false] 46);refine Hd ?_;simpa using this
 have hr:=right_any s ((w.alloc (.cells (sv s).toArray 23)).alloc (.cells #[.int .i64 0,.int .i64 0,.int .i64 0,.bool false] 46));rw[hs]at hr;have HR:=Hd hr;clear hb hr hs
 go_enter Tryz.func164,Tryz.ntmps164
 go_wp2_with (refine wpList_load23 rfl _ rfl w.heap.size s rfl HS.out ?_)
 refine HR.out.mono ?_;rintro e W1 ⟨rfl,hb⟩;have HB1:=Hd (below_class HB.out hb);have hd:=(hb.block _ (Array.getElem?_eq_some_iff.1 HD.out).1).trans HD.out;have HD1:=Hd hd;have d0:W1.cell? ⟨w.heap.size+1,0,none⟩=some (.int .i64 0):=by simp[World.cell?,hd]
 clear hd hb HB HS HD HR
 go_wp2_with (refine wpList_load_row rfl 46 _ rfl (w.heap.size+1) rfl _ _ _ _ HD1.out Tryz.underlying46 rfl infoZd ?_)
 refine (zdshut_any W1).mono ?_;rintro e W2 ⟨rfl,hb⟩;have HB2:=Hd (below_class HB1.out hb);clear hb HB1 HD1 d0;go_wp2;go_ret;exact⟨rfl,HB2.out⟩
theorem zright_any(hs:rightB s=true)(w:World):Calls Tryz.prog 125 #[.agg (sv s).toArray,.agg #[.int .i64 0,.int .i64 0,.int .i64 0,.int .i64 0,.int .i64 0,.int .i64 0,.bool false,.bool false]] w fun e w'=>e=.returned (.bool true)∧Below w.heap.size w w':=by
 have hf:0<s.fl:=by obtain⟨⟩:=(rightB_iff s).1 hs;omega
 have hb:Below w.heap.size w ((w.alloc (.cells (sv s).toArray 23)).alloc (.cells #[.int .i64 0,.int .i64 0,.int .i64 0,.int .i64 0,.int .i64 0,.int .i64 0,.bool false,.bool false] 48)):=((Below.refl _ w).alloc (Nat.le_refl _) _).alloc (by simp) _;have H0:Hid (Below w.heap.size w ((w.alloc (.cells (sv s).toArray 23)).alloc (.cells #[.int .i64 0,.int .i64 0,.int .i64 0,.int .i64 0,.int .i64 0,.int .i64 0,.bool false,.bool false] 48))∧SB ((w.alloc (.cells (sv s).toArray 23)).alloc (.cells #[.int .i64 0,.int .i64 0,.int .i64 0,.int .i64 0,.int .i64 0,.int .i64 0,.bool false,.bool false] 48)) w.heap.size s∧ZB ((w.alloc (.cells (sv s).toArray 23)).alloc (.cells #[.int .i64 0,.int .i64 0,.int .i64 0,.int .i64 0,.int .i64 0,.int .i64 0,.bool false,.bool false] 48)) (w.heap.size+1)):=⟨hb,(SB.new w s).alloc _,ZB.new _ (by simp)⟩;have HK:Hid (∀W W',(Below w.heap.size w W∧SB W w.heap.size s∧ZB W (w.heap.size+1))→Below W.heap.size W W'→Below w.heap.size w W'∧SB W' w.heap.size s∧ZB W' (w.heap.size+1)):=fun W W' h hb=>⟨below_class h.1 hb,h.2.1.below' hb,h.2.2.below' hb⟩;have HD:=Hd (zdright_any hs);have HF:=Hd (zhas_yes s hf);clear hb hs hf
 go_enter Tryz.func125,Tryz.ntmps125
 go_wp2_with (first|(refine wpList_load23 rfl _ rfl w.heap.size s rfl H0.out.2.1 ?_)|(refine wpList_loadZd rfl _ rfl (w.heap.size+1) rfl H0.out.2.2 ?_))
 refine (HD.out _).mono ?_;rintro e W1 ⟨rfl,hb⟩;have H1:=Hd (HK.out _ _ H0.out hb);have c0:W1.cell? ⟨w.heap.size+1,0,none⟩=some (.int .i64 0):=H1.out.2.2.cell 0;clear hb H0
 go_wp2_with (refine wpList_load23g rfl _ rfl w.heap.size s rfl H1.out.2.1 ?_)
 refine (HF.out _).mono ?_;rintro e W2 ⟨rfl,hb⟩;have H2:=Hd (HK.out _ _ H1.out hb);have c1:W2.cell? ⟨w.heap.size+1,1,none⟩=some (.int .i64 0):=H2.out.2.2.cell 1;clear hb H1 c0
 go_wp2_with (refine wpList_load23g rfl _ rfl w.heap.size s rfl H2.out.2.1 ?_)
 refine (HF.out _).mono ?_;rintro e W3 ⟨rfl,hb⟩;have H3:=Hd (HK.out _ _ H2.out hb);clear hb H2 c1
 go_wp2_with (refine wpList_loadZ rfl _ rfl (w.heap.size+1) rfl H3.out.2.2 ?_)
 refine (zmoves_any _).mono ?_;rintro e W4 ⟨rfl,hb⟩;have H4:=Hd (HK.out _ _ H3.out hb);have c0:W4.cell? ⟨w.heap.size+1,0,none⟩=some (.int .i64 0):=H4.out.2.2.cell 0;have c1:W4.cell? ⟨w.heap.size+1,1,none⟩=some (.int .i64 0):=H4.out.2.2.cell 1;clear hb H3;go_wp2;go_ret;exact⟨rfl,H4.out.1⟩
theorem zsafe_any(hs:rightB s=true)(w:World):Calls Tryz.prog 91 #[.agg (sv s).toArray,.agg #[.int .i64 0,.int .i64 0,.int .i64 0,.int .i64 0,.int .i64 0,.int .i64 0,.bool false,.bool false],.agg #[.int .i64 0,.int .i64 0,.int .i64 0,.int .i64 0,.int .i64 0,.int .i64 0,.bool false,.bool false]] w fun e w'=>e=.returned (.bool true)∧Below w.heap.size w w':=by
 have H0:Hid (Below w.heap.size w (((w.alloc (.cells (sv s).toArray 23)).alloc (.cells #[.int .i64 0,.int .i64 0,.int .i64 0,.int .i64 0,.int .i64 0,.int .i64 0,.bool false,.bool false] 48)).alloc (.cells #[.int .i64 0,.int .i64 0,.int .i64 0,.int .i64 0,.int .i64 0,.int .i64 0,.bool false,.bool false] 48))∧SB (((w.alloc (.cells (sv s).toArray 23)).alloc (.cells #[.int .i64 0,.int .i64 0,.int .i64 0,.int .i64 0,.int .i64 0,.int .i64 0,.bool false,.bool false] 48)).alloc (.cells #[.int .i64 0,.int .i64 0,.int .i64 0,.int .i64 0,.int .i64 0,.int .i64 0,.bool false,.bool false] 48)) w.heap.size s∧ZB (((w.alloc (.cells (sv s).toArray 23)).alloc (.cells #[.int .i64 0,.int .i64 0,.int .i64 0,.int .i64 0,.int .i64 0,.int .i64 0,.bool false,.bool false] 48)).alloc (.cells #[.int .i64 0,.int .i64 0,.int .i64 0,.int .i64 0,.int .i64 0,.int .i64 0,.bool false,.bool false] 48)) (w.heap.size+1)∧ZB (((w.alloc (.cells (sv s).toArray 23)).alloc (.cells #[.int .i64 0,.int .i64 0,.int .i64 0,.int .i64 0,.int .i64 0,.int .i64 0,.bool false,.bool false] 48)).alloc (.cells #[.int .i64 0,.int .i64 0,.int .i64 0,.int .i64 0,.int .i64 0,.int .i64 0,.bool false,.bool false] 48)) (w.heap.size+1+1)):=
  ⟨(((Below.refl _ w).alloc (Nat.le_refl _) _).alloc (by simp) _).alloc (by simp;omega) _,((SB.new w s).alloc _).alloc _,(ZB.new _ (by simp)).alloc _,ZB.new _ (by simp)⟩
 have HK:Hid (∀W W',(Below w.heap.size w W∧SB W w.heap.size s∧ZB W (w.heap.size+1)∧ZB W (w.heap.size+1+1))→Below W.heap.size W W'→Below w.heap.size w W'∧SB W' w.heap.size s∧ZB W' (w.heap.size+1)∧ZB W' (w.heap.size+1+1)):=fun W W' h hb=>⟨below_class h.1 hb,h.2.1.below' hb,h.2.2.1.below' hb,h.2.2.2.below' hb⟩;have HR:=Hd (zright_any hs);clear hs
 go_enter Tryz.func91,Tryz.ntmps91
 go_wp2_with (first|(refine wpList_load23 rfl _ rfl w.heap.size s rfl H0.out.2.1 ?_)|(refine wpList_loadZ rfl _ rfl (w.heap.size+1) rfl H0.out.2.2.1 ?_))
 refine (HR.out _).mono ?_;rintro e W1 ⟨rfl,hb⟩;have H1:=Hd (HK.out _ _ H0.out hb);clear hb H0
 go_wp2_with (first|(refine wpList_load23g rfl _ rfl w.heap.size s rfl H1.out.2.1 ?_)|(refine wpList_loadZg rfl _ rfl (w.heap.size+1+1) rfl H1.out.2.2.2 ?_))
 refine (HR.out _).mono ?_;rintro e W2 ⟨rfl,hb⟩;have H2:=Hd (HK.out _ _ H1.out hb);clear hb H1
 go_wp2_with (refine wpList_loadZ rfl _ rfl (w.heap.size+1) rfl H2.out.2.2.1 ?_)
 refine (zmoves_any _).mono ?_;rintro e W3 ⟨rfl,hb⟩;have H3:=Hd (HK.out _ _ H2.out hb);clear hb H2
 go_wp2_with (refine wpList_loadZ rfl _ rfl (w.heap.size+1+1) rfl H3.out.2.2.2 ?_)
 refine (zmoves_any _).mono ?_;rintro e W4 ⟨rfl,hb⟩;have H4:=Hd (HK.out _ _ H3.out hb);clear hb H3
 go_wp2_with (refine wpList_loadZ rfl _ rfl (w.heap.size+1) rfl H4.out.2.2.1 ?_)
 refine (zmoves_any _).mono ?_;rintro e W5 ⟨rfl,hb⟩;have H5:=Hd (HK.out _ _ H4.out hb);have c0:W5.cell? ⟨w.heap.size+1,0,none⟩=some (.int .i64 0):=H5.out.2.2.1.cell 0;have c1:W5.cell? ⟨w.heap.size+1+1,0,none⟩=some (.int .i64 0):=H5.out.2.2.2.cell 0;clear hb H4;go_wp2;go_ret;exact⟨rfl,H5.out.1⟩
end
end Go.Proofs.YtlajleogofmkcaaGreat
