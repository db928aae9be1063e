import Derived.Test.YtnkelgdnglaafaaGreatQ4
import Derived.Test.YtnkelgdnglaafaaGreatQ5
import Derived.RangeFuncBound
import Derived.Shelf.RegionOpen
import Derived.TacticsInMore
import Derived.LoopNIn
import Derived.LoopIn
import Derived.OwnWalkIn
set_option maxHeartbeats 8000000
set_option maxRecDepth 100000
namespace Go.Proofs.YtnkelgdnglaafaaGreat
open Go.RowKit
def lfm(s:Sn)(st:List Bool)(j:Int):Option (Int×Int):=if 0≤j∧st[j.toNat]?=some false then s.ws[j.toNat]? else none
def lsk(s:Sn)(k:Nat)(p:List (List Int))(st:List Bool)(j:Nat):Int:=
 if((lfk st j).all fun x=> !(optw s k p x.toNat).isEmpty)=true then RM.cst s.st s.ws s.cs p+((lfk st j).map fun x=>RM.low (optw s k p x.toNat)).sum else 1099511627776
section
variable {s:Sn} {k:Nat} {p:List (List Int)} {st:List Bool}
theorem lsk_zero:lsk s k p st 0=RM.cst s.st s.ws s.cs p:=by unfold lsk lfk;simp
theorem lsk_end:lsk s k p st s.ws.length=lsv s k p st:=rfl
theorem lsk_same{j:Nat}(h:st[j]?≠some false):lsk s k p st (j+1)=lsk s k p st j:=by unfold lsk;rw[lfk_succ,if_neg h,List.append_nil]
theorem optw_bd(h:Bs s k p st)(hll:∀l∈p,l.length≤1000)(w:Nat):∀t∈optw s k p w,0≤t∧t≤80000000:=by
 have e:optw s k p w=RM.opk s.st s.ws s.cs p (RM.wf s.ws (w:Int)) ((msk s)[w]?.getD 0) k s.cs.length:=by
  unfold optw RM.opt;rw[RM.opk_end (Nat.le_refl _) (by have:=h.pc;omega)]
 rw[e];exact RM.ops_bd h.rz h.fr h.af hll
theorem cst_bd(h:Bs s k p st)(hll:∀l∈p,l.length≤1000):0≤RM.cst s.st s.ws s.cs p∧RM.cst s.st s.ws s.cs p≤800000000000:=by
 obtain⟨l,hl⟩:∃l,p[k]?=some l:=⟨_,List.getElem?_eq_getElem h.kl⟩;obtain⟨r,hr⟩:∃r,s.cs[k]?=some r:=⟨_,List.getElem?_eq_getElem (by have:=h.pc;have:=h.kl;omega)⟩;have:=sm2_bd h hll (j:=l.length) hr hl;rw[sm2_end hr hl,sm1_end h]at this;exact this
theorem lsk_bd(h:Bs s k p st)(hll:∀l∈p,l.length≤1000)(j:Nat)(hj:j≤128):0≤lsk s k p st j∧lsk s k p st j≤1099511627776∧(((lfk st j).all fun x=> !(optw s k p x.toNat).isEmpty)=true→lsk s k p st j≤900000000000):=by
 have h1:=cst_bd h hll;unfold lsk;split
 ·rename_i ha
  have h2:=RM.sum_bd (B:=80000000) (l:=(lfk st j).map fun x=>RM.low (optw s k p x.toNat)) fun t ht=>by
   obtain⟨x,hx,rfl⟩:=List.mem_map.1 ht
   have hne:optw s k p x.toNat≠[]:=by
    have:=List.all_eq_true.1 ha x hx;intro e;rw[e]at this;simp at this
   exact optw_bd h hll _ _ (RM.low_mem hne).1
  rw[List.length_map]at h2;have h3:=lfk_length st j;omega
 ·rename_i ha;exact⟨by decide,by decide,fun g=>absurd g ha⟩
theorem lsk_more(h:Bs s k p st)(hll:∀l∈p,l.length≤1000){j:Nat}(hj:j<128)(hs:st[j]?=some false):NumM.cl (NumM.cl (lsk s k p st j)+NumM.cl (eml (optw s k p j)))=lsk s k p st (j+1):=by
 have hb:=lsk_bd h hll j (by omega);have ho:=optw_bd h hll j;have he:=eml_bd fun t ht=>(ho t ht).1;rw[NumM.cl_in (a:=lsk s k p st j) (by omega) (by omega),NumM.cl_in (a:=eml _) (by omega) (by omega)];have e1:lfk st (j+1)=lfk st j++[(j:Int)]:=by rw[lfk_succ,if_pos hs]
 by_cases ha:((lfk st j).all fun x=> !(optw s k p x.toNat).isEmpty)=true
 ·by_cases hn:optw s k p j=[]
  ·rw[hn,eml_nil,NumM.cl_ge (by omega)];unfold lsk;rw[e1,if_neg];rw[List.all_append];simp[hn]
  ·have hl:=eml_low (fun t ht=>by have:=(ho t ht).2;omega) hn;have hlb:=ho _ (RM.low_mem hn).1;rw[hl,NumM.cl_in (by have:=hb.2.2 ha;omega) (by have:=hb.2.2 ha;omega)];unfold lsk
   have ha2:((lfk st (j+1)).all fun x=> !(optw s k p x.toNat).isEmpty)=true:=by
    rw[e1,List.all_append,ha];simp[hn]
   rw[if_pos ha,if_pos ha2,e1,List.map_append,List.sum_append];simp;omega
 ·have h1:lsk s k p st j=1099511627776:=by unfold lsk;rw[if_neg ha]
  have h2:lsk s k p st (j+1)=1099511627776:=by
   unfold lsk;rw[e1,if_neg];rw[List.all_append];simp[ha]
  rw[h1,h2,NumM.cl_ge (by omega)]
end
section
variable {W:World} {b eb mb:Nat} {s:Sn} {vc vw:Value} {p:List (List Int)} {st:List Bool}
theorem leastm_any(k:Nat)(hB:Bs s k p st)(aw:Option Addr)(kw:Nat)(h:Bg W b eb mb s.st vc (.slice aw s.ws.length kw) (asp s s.cs p) (lfm s st) (RM.cst s.st s.ws s.cs p))(hll:∀l∈p,l.length≤1000):
  Calls Tryz.prog 162 #[.pointer (some ⟨b,0,none⟩),.int .i64 (k:Int)] W fun e w'=>e=.returned (.int .i64 (lsv s k p st))∧Below W.heap.size W w':=by
 have c17:=h.c17;have c14:=h.c14;have HG0:Hid (Bg W b eb mb s.st vc (.slice aw s.ws.length kw) (asp s s.cs p) (lfm s st) (RM.cst s.st s.ws s.cs p)∧Below W.heap.size W W):=⟨h,Below.refl _ _⟩;have HB:=Hd hB;have HLL:=Hd hll;have hwl:s.ws.length≤128:=hB.wl;generalize hT:lsv s k p st=T;have HTT:=Hd hT;obtain⟨ct,HCT⟩:∃ct,Hid (RM.cst s.st s.ws s.cs p=ct):=⟨_,Hd rfl⟩;rw[HCT.out]at c17 HG0;clear h hB hll hT
 go_enter Tryz.func162,Tryz.ntmps162
 go_wp2_with fail
 clear c17 c14
 go_loopw [5,19] (fun tv jv wr=>∃(j:Nat) (t:Int),j≤s.ws.length∧tv=.int .i64 t∧jv=.int .i64 (j:Int)∧Hid (t=lsk s k p st j)∧Hid (Bg wr b eb mb s.st vc (.slice aw s.ws.length kw) (asp s s.cs p) (lfm s st) ct∧Below W.heap.size W wr)) (fun _ jv _=>s.ws.length-(intOf jv).toNat)
 case atStart=>exact⟨0,ct,Nat.zero_le _,rfl,rfl,by show _=_;rw[lsk_zero,HCT.out],HG0⟩
 case round=>
  clear HG0;obtain⟨j,t,hj,rfl,rfl,HT,HG⟩:=hrel;by_cases hlt:j<s.ws.length
  ·have hjz:(j:Int)<(s.ws.length:Int):=by omega
   have c16:=HG.out.1.c16;obtain⟨y,hy⟩:∃y,s.ws[j]?=some y:=⟨_,List.getElem?_eq_getElem hlt⟩;obtain⟨q,hq⟩:∃q,st[j]?=some q:=⟨_,List.getElem?_eq_getElem (by have:=HB.out.sl;omega)⟩;have hlk:=HG.out.1.hm.look (j:Int);cases q with
   |true=>
    rw[show lfm s st (j:Int)=none by unfold lfm;rw[if_neg];rw[Int.toNat_natCast,hq];simp]at hlk;have hlk2:(Instr.lookup 257 (.map (some mb)) (.int .i64 (j:Int)) true).run Tryz.prog wr=.ok (.tuple #[.agg #[.int .i64 0,.int .i64 0],.bool false]) wr:=hlk
    have HT2:Hid (t=lsk s k p st (j+1)):=by
     show _=_;rw[lsk_same (by rw[hq];simp),HT.out]
    have hba:=(Below.refl wr.heap.size wr).alloc (Nat.le_refl _) (.cells #[.int .i64 0,.int .i64 0] 131);have HG2:=Hd (And.intro (HG.out.1.below' hba) (below_class HG.out.2 hba));clear hlk hq hy hba HG;go_wp2;go_roundw
    case rel=>exact⟨j+1,t,by omega,rfl,by go_num,HT2,HG2⟩
    case measure=>simp[intOf];omega
   |false=>
    rw[show lfm s st (j:Int)=some y by unfold lfm;rw[if_pos ⟨by omega,by rw[Int.toNat_natCast];exact hq⟩,Int.toNat_natCast,hy]]at hlk;obtain⟨n8,hrs⟩:=rgt_rs HB.out.rg;obtain⟨m,hm,hym⟩:=hrs.mm.eq j y hy;obtain⟨g,y2⟩:=y;simp only at hym;subst hym;have hlk2:(Instr.lookup 257 (.map (some mb)) (.int .i64 (j:Int)) true).run Tryz.prog wr=.ok (.tuple #[.agg #[.int .i64 g,.int .i64 (m:Int)],.bool true]) wr:=hlk;have hba:=(Below.refl wr.heap.size wr).alloc (Nat.le_refl _) (.cells #[.int .i64 g,.int .i64 (m:Int)] 131);have HG2:=Hd (And.intro (HG.out.1.below' hba) (below_class HG.out.2 hba));have HEA:=Hd (earliest_any HG2.out.1 HB.out.rz HB.out.pc (by have:=HB.out.pc;have:=HB.out.p8;omega) HB.out.af HB.out.fr HLL.out k m (by have:=HB.out.pc;have:=HB.out.kl;omega) g (HB.out.rz.wr _ (List.mem_of_getElem? hy)).1 (HB.out.rz.wr _ (List.mem_of_getElem? hy)).2)
    have HOP:Hid (RM.opk s.st s.ws s.cs p g m k s.cs.length=optw s k p j):=by
     show _=_;unfold optw RM.opt;rw[RM.opk_end (Nat.le_refl _) (by have:=HB.out.pc;omega),RM.wf_get hy,hm];rfl
    rw[HOP.out]at HEA;have HMO:=Hd (lsk_more HB.out HLL.out (by omega) hq);rw[←HT.out]at HMO;obtain⟨u,HU⟩:∃u,Hid (u=lsk s k p st (j+1)):=⟨_,Hd rfl⟩;rw[←HU.out]at HMO;clear hlk hq hy hba HG hrs hm HOP;generalize eml (optw s k p j)=e1 at HEA HMO;have HAD:Hid (∀w',Calls Tryz.prog 58 #[.int .i64 t,.int .i64 e1] w' fun e w''=>e=.returned (.int .i64 u)∧w''=w'):=fun w'=>by have:=add_any t e1 w';rw[HMO.out]at this;exact this
    go_wp2_with fail
    refine HEA.out.mono ?_;rintro e W2 ⟨rfl,hb2⟩;have HG3:=Hd (And.intro (HG2.out.1.below' hb2) (below_class HG2.out.2 hb2));clear hb2 HG2 HEA c16 hlk2 HMO
    go_wp2_with (go_at_call 58;refine (HAD.out _).mono ?_;rintro e w' ⟨rfl,rfl⟩)
    go_roundw
    case rel=>exact⟨j+1,u,by omega,rfl,by go_num,HU,HG3⟩
    case measure=>simp[intOf];omega
  ·have hjz:¬(j:Int)<(s.ws.length:Int):=by omega
   have HE:Hid (t=T):=by
    show _=_;rw[←HTT.out,←lsk_end,HT.out,show j=s.ws.length by omega]
   go_wp2;go_ret;exact⟨ret_int HE.out,HG.out.2⟩
end
theorem infoHT:(Tryz.prog.info? 160).map (fun i=>(i.zero,i.size,i.bytes))=some (some (.agg #[.int .i64 0,.int .i64 0,.int .i64 0]),3,24):=by kernel_rfl
theorem tcs_rep(n:Nat)(i:Nat)(h:i<3*n):(tcs (List.replicate n ⟨0,0,0⟩))[i]?=some (.int .i64 0):=by
 induction n generalizing i with
 |zero=>omega
 |succ n ih=>
  rw[List.replicate_succ,tcs]
  match i,h with
  |0,_=>rfl
  |1,_=>rfl
  |2,_=>rfl
  |i+3,h=>exact ih i (by omega)
theorem made_stops(n:Nat):madeCells (Value.agg #[.int .i64 0,.int .i64 0,.int .i64 0]).cells (n*3)=(tcs (List.replicate n ⟨0,0,0⟩)).toArray:=by
 apply Array.ext
 ·rw[size_madeCells,List.size_toArray,tcs_length,List.length_replicate];omega
 ·intro i h1 h2;rw[size_madeCells]at h1;have hg:=tcs_rep n i (by omega);obtain⟨hi,e⟩:=List.getElem?_eq_some_iff.1 hg;rw[show(tcs (List.replicate n ⟨0,0,0⟩)).toArray[i]=Value.int .i64 0 from e];simp only[madeCells,Value.cells];have:i%3=0∨i%3=1∨i%3=2:=by omega
  rcases this with e|e|e<;>simp[e]
theorem mkE(n:Nat)(hn:n≤1000)(W:World):(Instr.makeSlice 158 (.int .i64 (n:Int)) (.int .i64 (n:Int))).run Tryz.prog W=.ok (.slice (some ⟨W.heap.size,0,none⟩) n n) (W.alloc (.cells (tcs (List.replicate n ⟨0,0,0⟩)).toArray 160)):=by
 obtain⟨i,hi,h1,h2,h3⟩:=info_h infoHT
 have:=run_make (P:=Tryz.prog) W 158 160 i _ Tryz.underlying158 hi h1 .i64 .i64 (n:Int) (n:Int) (by omega) (by omega) (by
  have:(i.bytes:Int)*(n:Int)≤24*1000:=Int.mul_le_mul (by omega) (by omega) (by omega) (by omega)
  omega) (by omega)
 rw[this,h2,Int.toNat_natCast,made_stops]
theorem mkM(n:Int)(W:World):(Instr.makeMap 257 (some (.int .i64 n))).run Tryz.prog W=.ok (.map (some W.heap.size)) (W.alloc (.map #[] 0)):=by
 simp[Instr.makeMap,run_underlying Tryz.underlying257,Result.andThen]
 rfl
structure Bu(w W:World)(b eb mb:Nat)(s:Sn)(vc vw:Value)(D:Nat→Prop)(es:List RM.Sp)(f:Int→Option (Int×Int)):Prop where
 bg:Bg W b eb mb s.st vc vw es f 0
 nb:NB W w.heap.size s.st vc vw
 rc:R2 (fun g=>D g∧g<w.heap.size) W vc s.cs
 rw:R2 (fun g=>D g∧g<w.heap.size) W vw s.ws
 bel:Below w.heap.size w W
 nw:∀k,bp b eb mb k→w.heap.size<k
theorem Bu.next{w W W':World}{b eb mb:Nat}{s:Sn}{vc vw:Value}{D:Nat→Prop}{es:List RM.Sp}{f:Int→Option (Int×Int)}(h:Bu w W b eb mb s vc vw D es f)(hb:Below W.heap.size W W'):Bu w W' b eb mb s vc vw D es f:=
 ⟨h.bg.below' hb,h.nb.below' hb,h.rc.below' hb,h.rw.below' hb,below_class h.bel hb,h.nw⟩
theorem Bu.put{w W W':World}{b eb mb:Nat}{s:Sn}{vc vw:Value}{D:Nat→Prop}{es es':List RM.Sp}{f f':Int→Option (Int×Int)}(h:Bu w W b eb mb s vc vw D es f)(hk:Kp (bp b eb mb) W W')(hg:Bg W' b eb mb s.st vc vw es' f' 0):Bu w W' b eb mb s vc vw D es' f':=
 ⟨hg,h.nb.kp hk (fun e=>by have:=h.nw _ e;omega),h.rc.keep hk.size (fun g hg hlt=>hk.block g hlt (fun e=>by have:=h.nw _ e;have:=hg.2;omega)),h.rw.keep hk.size (fun g hg hlt=>hk.block g hlt (fun e=>by have:=h.nw _ e;have:=hg.2;omega)),hk.below h.bel h.bel.size (fun i hi e=>by have:=h.nw _ e;omega),h.nw⟩
theorem Bu.new(w:World)(s:Sn)(vc vw:Value)(D:Nat→Prop){W:World}{b eb mb:Nat}(hc:R2 D (w.alloc (.cells (nv s.st vc vw).toArray 100)) vc s.cs)(hw:R2 D (w.alloc (.cells (nv s.st vc vw).toArray 100)) vw s.ws)
  (hb:Below (w.alloc (.cells (nv s.st vc vw).toArray 100)).heap.size (w.alloc (.cells (nv s.st vc vw).toArray 100)) W) (h1:W.heap[b]?=some (.cells (bc s.st vc vw eb s.cs.length mb 0).toArray 259 (0,0)))
  (h2:W.heap[eb]?=some (.cells (tcs (List.replicate s.cs.length ⟨0,0,0⟩)).toArray 160 (0,0))) (h3:W.heap[mb]?=some (.map #[] 0)) (n1:b≠eb) (n2:b≠mb) (n3:eb≠mb) (nw:∀k,bp b eb mb k→w.heap.size<k)
  (hdc:∀g,D g→g<w.heap.size):Bu w W b eb mb s vc vw D (List.replicate s.cs.length (⟨0,0,0⟩:RM.Sp)) (fun _=>none):=by
 refine⟨⟨?_,h2,⟨#[],0,h3,by simp,by simp,by simp⟩,n1,n2,n3⟩,(NB.new w s.st vc vw).below' hb,(hc.below' hb).mono fun g hg _ _=>⟨hg,hdc g hg⟩,(hw.below' hb).mono fun g hg _ _=>⟨hg,hdc g hg⟩,((Below.refl _ w).alloc (Nat.le_refl _) _).trans (hb.mono (by simp)),nw⟩;rw[List.length_replicate];exact h1
theorem loadRV(w:World)(b:Nat)(y:Int×Int)(h:w.heap[b]?=some (.cells #[.int .i64 y.1,.int .i64 y.2] 127 (0,0))):(Instr.loadAt 127 (.pointer (some ⟨b,0,none⟩))).run Tryz.prog w=.ok (.agg #[.int .i64 y.1,.int .i64 y.2]) w:=by
 have h0:w.cell? ⟨b,0,none⟩=some (.int .i64 y.1):=by rw[cell_of_row _ _ 0 _ _ _ h];rfl
 have h1:w.cell? ⟨b,1,none⟩=some (.int .i64 y.2):=by rw[cell_of_row _ _ 1 _ _ _ h];rfl
 simp[go_sem,h0,h1]
theorem calm_loadRV{W0:World}{K:Act→Prop}{o:Oper}{a:Act}(x:Operand)(b:Nat)(y:Int×Int)(ho:o.op=.load 127 x)(hx:a.eval x=.pointer (some ⟨b,0,none⟩))(hr:∀w,Below W0.heap.size W0 w→w.heap[b]?=some (.cells #[.int .i64 y.1,.int .i64 y.2] 127 (0,0)))
  (h:K (a.put o.dst (.agg #[.int .i64 y.1,.int .i64 y.2]))):Oper.calm Tryz.prog W0 o a K:=
 calm_val _ (fun w hw=>by unfold execOp;simp only[ho,hx,Sem.run_bind,Sem.run_pure,Result.andThen_ok,loadRV w b y (hr w hw)]) h
section
variable (s:Sn) (D:Nat→Prop) (vc vw:Value) (w:World)
theorem newBeginning_any(hc:R2 D w vc s.cs)(hw:R2 D w vw s.ws)(hcl:s.cs.length≤8)(hwl:s.ws.length≤128):
  Calls Tryz.prog 159 #[.agg (nv s.st vc vw).toArray] w fun e w'=>∃b eb mb,e=.returned (.pointer (some ⟨b,0,none⟩))∧
   Bg w' b eb mb s.st vc vw (s.cs.map RM.bg) (lfm s (List.replicate s.ws.length false)) 0∧Below w.heap.size w w'∧∀k,bp b eb mb k→w.heap.size≤k:=by
 have hbx:=(Below.refl w.heap.size w).alloc (Nat.le_refl _) (.cells (nv s.st vc vw).toArray 100);have HN:=Hd (NB.new w s.st vc vw);have HB:=Hd hbx;have HC:=Hd ((hc.mono (D':=fun g=>g<w.heap.size) fun g _ h _=>h).below' hbx);have HW:=Hd ((hw.mono (D':=fun g=>g<w.heap.size) fun g _ h _=>h).below' hbx);obtain⟨ac,kc,rfl,_,_⟩:=hc.form;obtain⟨aw,kw,rfl,_,_⟩:=hw.form;have k1:=mkE s.cs.length (by omega);have k2:=mkM (s.ws.length:Int);have c13:(w.alloc (.cells (nv s.st (.slice ac s.cs.length kc) (.slice aw s.ws.length kw)).toArray 100)).cell? ⟨w.heap.size,13,none⟩=some (.slice ac s.cs.length kc):=HN.out.cell 13;have c14:(w.alloc (.cells (nv s.st (.slice ac s.cs.length kc) (.slice aw s.ws.length kw)).toArray 100)).cell? ⟨w.heap.size,14,none⟩=some (.slice aw s.ws.length kw):=HN.out.cell 14;have e0:(w.alloc (.cells (nv s.st (.slice ac s.cs.length kc) (.slice aw s.ws.length kw)).toArray 100)).cell? ⟨w.heap.size,0,none⟩=some (.int .i64 s.st.fl):=HN.out.cell 0;have e1:(w.alloc (.cells (nv s.st (.slice ac s.cs.length kc) (.slice aw s.ws.length kw)).toArray 100)).cell? ⟨w.heap.size,1,none⟩=some (.int .i64 s.st.ca):=HN.out.cell 1;have e2:(w.alloc (.cells (nv s.st (.slice ac s.cs.length kc) (.slice aw s.ws.length kw)).toArray 100)).cell? ⟨w.heap.size,2,none⟩=some (.int .i64 s.st.sta):=HN.out.cell 2;have e3:(w.alloc (.cells (nv s.st (.slice ac s.cs.length kc) (.slice aw s.ws.length kw)).toArray 100)).cell? ⟨w.heap.size,3,none⟩=some (.int .i64 s.st.ste):=HN.out.cell 3;have e4:(w.alloc (.cells (nv s.st (.slice ac s.cs.length kc) (.slice aw s.ws.length kw)).toArray 100)).cell? ⟨w.heap.size,4,none⟩=some (.int .i64 s.st.sto):=HN.out.cell 4;have e5:(w.alloc (.cells (nv s.st (.slice ac s.cs.length kc) (.slice aw s.ws.length kw)).toArray 100)).cell? ⟨w.heap.size,5,none⟩=some (.int .i64 s.st.opn):=HN.out.cell 5;have e6:(w.alloc (.cells (nv s.st (.slice ac s.cs.length kc) (.slice aw s.ws.length kw)).toArray 100)).cell? ⟨w.heap.size,6,none⟩=some (.int .i64 s.st.wai):=HN.out.cell 6;have e7:(w.alloc (.cells (nv s.st (.slice ac s.cs.length kc) (.slice aw s.ws.length kw)).toArray 100)).cell? ⟨w.heap.size,7,none⟩=some (.int .i64 s.st.clo):=HN.out.cell 7;have e8:(w.alloc (.cells (nv s.st (.slice ac s.cs.length kc) (.slice aw s.ws.length kw)).toArray 100)).cell? ⟨w.heap.size,8,none⟩=some (.int .i64 s.st.nud):=HN.out.cell 8;have e9:(w.alloc (.cells (nv s.st (.slice ac s.cs.length kc) (.slice aw s.ws.length kw)).toArray 100)).cell? ⟨w.heap.size,9,none⟩=some (.int .i64 s.st.age):=HN.out.cell 9;have e10:(w.alloc (.cells (nv s.st (.slice ac s.cs.length kc) (.slice aw s.ws.length kw)).toArray 100)).cell? ⟨w.heap.size,10,none⟩=some (.int .i64 s.st.sil):=HN.out.cell 10;have e11:(w.alloc (.cells (nv s.st (.slice ac s.cs.length kc) (.slice aw s.ws.length kw)).toArray 100)).cell? ⟨w.heap.size,11,none⟩=some (.int .i64 s.st.bud):=HN.out.cell 11;have e12:(w.alloc (.cells (nv s.st (.slice ac s.cs.length kc) (.slice aw s.ws.length kw)).toArray 100)).cell? ⟨w.heap.size,12,none⟩=some (.int .i64 s.st.per):=HN.out.cell 12;have g0:(nv s.st (.slice ac s.cs.length kc) (.slice aw s.ws.length kw))[0]?=some (.int .i64 s.st.fl):=rfl;have g1:(nv s.st (.slice ac s.cs.length kc) (.slice aw s.ws.length kw))[1]?=some (.int .i64 s.st.ca):=rfl;have g2:(nv s.st (.slice ac s.cs.length kc) (.slice aw s.ws.length kw))[2]?=some (.int .i64 s.st.sta):=rfl;have g3:(nv s.st (.slice ac s.cs.length kc) (.slice aw s.ws.length kw))[3]?=some (.int .i64 s.st.ste):=rfl;have g4:(nv s.st (.slice ac s.cs.length kc) (.slice aw s.ws.length kw))[4]?=some (.int .i64 s.st.sto):=rfl;have g5:(nv s.st (.slice ac s.cs.length kc) (.slice aw s.ws.length kw))[5]?=some (.int .i64 s.st.opn):=rfl;have g6:(nv s.st (.slice ac s.cs.length kc) (.slice aw s.ws.length kw))[6]?=some (.int .i64 s.st.wai):=rfl;have g7:(nv s.st (.slice ac s.cs.length kc) (.slice aw s.ws.length kw))[7]?=some (.int .i64 s.st.clo):=rfl;have g8:(nv s.st (.slice ac s.cs.length kc) (.slice aw s.ws.length kw))[8]?=some (.int .i64 s.st.nud):=rfl;have g9:(nv s.st (.slice ac s.cs.length kc) (.slice aw s.ws.length kw))[9]?=some (.int .i64 s.st.age):=rfl;have g10:(nv s.st (.slice ac s.cs.length kc) (.slice aw s.ws.length kw))[10]?=some (.int .i64 s.st.sil):=rfl;have g11:(nv s.st (.slice ac s.cs.length kc) (.slice aw s.ws.length kw))[11]?=some (.int .i64 s.st.bud):=rfl;have g12:(nv s.st (.slice ac s.cs.length kc) (.slice aw s.ws.length kw))[12]?=some (.int .i64 s.st.per):=rfl;have g13:(nv s.st (.slice ac s.cs.length kc) (.slice aw s.ws.length kw))[13]?=some (.slice ac s.cs.length kc):=rfl;have g14:(nv s.st (.slice ac s.cs.length kc) (.slice aw s.ws.length kw))[14]?=some (.slice aw s.ws.length kw):=rfl;clear hc hw hbx
 go_enter Tryz.func159,Tryz.ntmps159
 go_wp2_with fail
 refine wp_mono (Q:=fun e a W'=>match e with|.normal=>∃b eb mb j8 j17,a=({tmps:= #[.agg (nv s.st (.slice ac s.cs.length kc) (.slice aw s.ws.length kw)).toArray,.pointer (some ⟨w.heap.size,0,none⟩),.pointer none,.pointer (some ⟨b,0,none⟩),undef,undef,undef,undef,j8,.pointer (some ⟨w.heap.size,13,none⟩),.slice ac s.cs.length kc,.int .i64 (s.cs.length:Int),.slice (some ⟨eb,0,none⟩) s.cs.length s.cs.length,.pointer (some ⟨w.heap.size,14,none⟩),.slice aw s.ws.length kw,.int .i64 (s.ws.length:Int),.map (some mb),j17,.pointer (some ⟨b,0,none⟩),undef,undef,undef,undef,undef,undef,undef,undef,undef,undef,undef,undef,undef,undef,undef,undef,undef,undef,undef,undef,undef,undef,undef,undef,undef,undef,undef,undef,undef,undef,undef,undef,undef],defers:=[]}:Act)∧Hid (Bu w W' b eb mb s (.slice ac s.cs.length kc) (.slice aw s.ws.length kw) (fun g=>g<w.heap.size) (List.replicate s.cs.length (⟨0,0,0⟩:RM.Sp)) (fun _=>none))|_=>False) ?reg ?rest
 case reg=>
  go_region
  ·have hb:Below (w.alloc (.cells (nv s.st (.slice ac s.cs.length kc) (.slice aw s.ws.length kw)).toArray 100)).heap.size (w.alloc (.cells (nv s.st (.slice ac s.cs.length kc) (.slice aw s.ws.length kw)).toArray 100)) ((((w.alloc (.cells (nv s.st (.slice ac s.cs.length kc) (.slice aw s.ws.length kw)).toArray 100)).alloc (.cells (tcs (List.replicate s.cs.length ⟨0,0,0⟩)).toArray 160)).alloc (.map #[] 0)).alloc (.cells (bc s.st (.slice ac s.cs.length kc) (.slice aw s.ws.length kw) (w.heap.size+1) s.cs.length (w.heap.size+1+1) 0).toArray 259)):=
    (((Below.refl _ _).alloc (Nat.le_refl _) _).alloc (by simp) _).alloc (by simp) _
   obtain⟨p1,p2,p3⟩:=heap3 (w.alloc (.cells (nv s.st (.slice ac s.cs.length kc) (.slice aw s.ws.length kw)).toArray 100)) (.cells (tcs (List.replicate s.cs.length ⟨0,0,0⟩)).toArray 160) (.map #[] 0) (.cells (bc s.st (.slice ac s.cs.length kc) (.slice aw s.ws.length kw) (w.heap.size+1) s.cs.length (w.heap.size+1+1) 0).toArray 259);rw[World.size_alloc]at p1 p2 p3;have HQ:=Hd (Bu.new w s _ _ (fun g=>g<w.heap.size) HC.out HW.out hb p3 p1 p2 (by omega) (by omega) (by omega) (fun k hk=>by rcases hk with e|e|e<;>omega) (fun _ h=>h));exact⟨_,_,_,_,_,rfl,HQ.out.next (Below.refl _ _).drew⟩
  ·have hb:Below (w.alloc (.cells (nv s.st (.slice ac s.cs.length kc) (.slice aw s.ws.length kw)).toArray 100)).heap.size (w.alloc (.cells (nv s.st (.slice ac s.cs.length kc) (.slice aw s.ws.length kw)).toArray 100)) ((((w.alloc (.cells (nv s.st (.slice ac s.cs.length kc) (.slice aw s.ws.length kw)).toArray 100)).alloc (.map #[] 0)).alloc (.cells (tcs (List.replicate s.cs.length ⟨0,0,0⟩)).toArray 160)).alloc (.cells (bc s.st (.slice ac s.cs.length kc) (.slice aw s.ws.length kw) (w.heap.size+1+1) s.cs.length (w.heap.size+1) 0).toArray 259)):=
    (((Below.refl _ _).alloc (Nat.le_refl _) _).alloc (by simp) _).alloc (by simp) _
   obtain⟨p1,p2,p3⟩:=heap3 (w.alloc (.cells (nv s.st (.slice ac s.cs.length kc) (.slice aw s.ws.length kw)).toArray 100)) (.map #[] 0) (.cells (tcs (List.replicate s.cs.length ⟨0,0,0⟩)).toArray 160) (.cells (bc s.st (.slice ac s.cs.length kc) (.slice aw s.ws.length kw) (w.heap.size+1+1) s.cs.length (w.heap.size+1) 0).toArray 259);rw[World.size_alloc]at p1 p2 p3;have HQ:=Hd (Bu.new w s _ _ (fun g=>g<w.heap.size) HC.out HW.out hb p3 p2 p1 (by omega) (by omega) (by omega) (fun k hk=>by rcases hk with e|e|e<;>omega) (fun _ h=>h));exact⟨_,_,_,_,_,rfl,HQ.out.next (Below.refl _ _).drew⟩
 case rest=>
  rintro e a W1 hq;cases e with
  |normal=>
   obtain⟨b,eb,mb,j8,j17,rfl,HU0⟩:=hq;clear HN HB HC HW k1 k2 c13 c14 e0 e1 e2 e3 e4 e5 e6 e7 e8 e9 e10 e11 e12 g0 g1 g2 g3 g4 g5 g6 g7 g8 g9 g10 g11 g12 g13 g14;have c13:W1.cell? ⟨w.heap.size,13,none⟩=some (.slice ac s.cs.length kc):=HU0.out.nb.cell 13
   go_wp2_with fail
   clear c13
   go_loopw [22] (fun jv wr=>∃(j:Nat) (es:List RM.Sp),j≤s.cs.length∧jv=.int .i64 (j:Int)∧Hid (es.length=s.cs.length∧∀i,i<j→es[i]?=(s.cs[i]?).map RM.bg)∧Hid (Bu w wr b eb mb s (.slice ac s.cs.length kc) (.slice aw s.ws.length kw) (fun g=>g<w.heap.size) es (fun _=>none))) (fun jv _=>s.cs.length-(intOf jv).toNat)
   case atStart=>exact⟨0,_,Nat.zero_le _,rfl,⟨by simp,fun i hi=>by omega⟩,HU0⟩
   case round=>
    clear HU0;obtain⟨j,es,hj,rfl,HE,HU⟩:=hrel;by_cases hlt:j<s.cs.length
    ·have hjz:(j:Int)<(s.cs.length:Int):=by omega
     obtain⟨r,hr⟩:∃r,s.cs[j]?=some r:=⟨_,List.getElem?_eq_getElem hlt⟩;obtain⟨gc,oc,rfl,hc0,hc1⟩:=HU.out.rc.at hr;obtain⟨a0,ha0⟩:∃a0,es[j]?=some a0:=⟨_,List.getElem?_eq_getElem (by have:=HE.out.1;omega)⟩;have HA0:=Hd ha0
     have HE2:Hid ((es.set j (RM.bg r)).length=s.cs.length∧∀i,i<j+1→(es.set j (RM.bg r))[i]?=(s.cs[i]?).map RM.bg):=by
      refine⟨by rw[List.length_set];exact HE.out.1,fun i hi=> ?_⟩;by_cases e:j=i
      ·subst e;rw[List.getElem?_set_self (by have:=HE.out.1;omega),hr];rfl
      ·rw[List.getElem?_set_ne e];exact HE.out.2 i (by omega)
     have hba:=(Below.refl wr.heap.size wr).alloc (Nat.le_refl _) (.cells #[.int .i64 r.1,.int .i64 r.2] 127);have HU2:=Hd (HU.out.next hba);have HRB:Hid ((wr.alloc (.cells #[.int .i64 r.1,.int .i64 r.2] 127)).heap[wr.heap.size]?=some (.cells #[.int .i64 r.1,.int .i64 r.2] 127 (0,0))):=World.alloc_heap_new wr _;clear hba ha0 hr HU
     go_wp2_with fail
     clear hc0 hc1;generalize wr.heap.size=rb at HRB⊢;generalize (wr.alloc (.cells #[.int .i64 r.1,.int .i64 r.2] 127))=W2 at HU2 HRB⊢;have H15:Hid (∀w',Below W2.drew.heap.size W2.drew w'→w'.cell? ⟨b,15,none⟩=some (.slice (some ⟨eb,0,none⟩) s.cs.length s.cs.length)):=fun w' hw=>by have:=(HU2.out.bg.drew.below' hw).c15;rwa[HE.out.1]at this
     have HRV:Hid (∀w',Below W2.drew.heap.size W2.drew w'→w'.heap[rb]?=some (.cells #[.int .i64 r.1,.int .i64 r.2] 127 (0,0))):=fun w' hw=>(hw.block rb (Array.getElem?_eq_some_iff.1 HRB.out).1).trans HRB.out;refine wp_region_tail 8 (by kernel_rfl) (by kernel_rfl) ?_;simp only[List.take_succ_cons,List.take_zero,List.drop_succ_cons,List.drop_zero]
     iterate 3 (unfold wpCalm;generalize hK:wpCalm _ _ _ _ _=K;unfold Oper.calm;go_simp;refine⟨_,fun _ _=>rfl,?_⟩;subst hK)
     unfold wpCalm;generalize hK:wpCalm _ _ _ _ _=K;rw[if_pos (by go_simp)];refine calm_loadSE _ _ _ rfl rfl H15.out ?_;go_simp;subst hK;unfold wpCalm;generalize hK:wpCalm _ _ _ _ _=K;unfold Oper.calm;go_simp;refine⟨_,fun _ _=>rfl,?_⟩;subst hK;unfold wpCalm;generalize hK:wpCalm _ _ _ _ _=K;rw[if_pos (by go_simp)];refine calm_loadRV _ rb r rfl rfl HRV.out ?_;go_simp;subst hK;unfold wpCalm;generalize hK:wpCalm _ _ _ _ _=K;unfold Oper.calm;go_simp;refine⟨_,fun w' hw=>begin_any r.1 r.2 w',?_⟩;subst hK;unfold wpCalm;generalize hK:wpCalm _ _ _ _ _=K;rw[if_pos (by go_simp)];refine calm_ixE _ _ rfl rfl rfl hlt ?_;go_simp;subst hK;refine wpCalm_nil ?_;intro W3 hb3;have HU3:=Hd (HU2.out.next ((Below.refl _ W2).drew.trans hb3));clear hb3 H15 HRV HU2 HRB
     go_wp2_with (refine wpList_storeE rfl _ _ rfl HU3.out.bg HA0.out (RM.bg r) rfl rfl ?_)
     intro W4 hk4 hg4;have HU4:=Hd (HU3.out.put (hk4.mono fun _ _ e=>.inr (.inl e)) hg4);clear hk4 hg4 HU3;go_wp2;go_roundw
     case rel=>exact⟨j+1,_,by omega,by go_num,HE2,HU4⟩
     case measure=>simp[intOf];omega
    ·have hjz:¬(j:Int)<(s.cs.length:Int):=by omega
     have hes:es=s.cs.map RM.bg:=by
      apply List.ext_getElem?;intro i;by_cases hi:i<j
      ·rw[HE.out.2 i hi,List.getElem?_map]
      ·rw[List.getElem?_eq_none (by have:=HE.out.1;omega),List.getElem?_eq_none (by rw[List.length_map];omega)]
     have c14:wr.cell? ⟨w.heap.size,14,none⟩=some (.slice aw s.ws.length kw):=HU.out.nb.cell 14;subst hes
     have HU5:Hid (Bu w wr b eb mb s (.slice ac s.cs.length kc) (.slice aw s.ws.length kw) (fun g=>g<w.heap.size) (s.cs.map RM.bg) (fun i=>if 0≤i∧i<((0:Nat):Int)then s.ws[i.toNat]? else none)):=by
      have e:(fun i:Int=>if 0≤i∧i<((0:Nat):Int)then s.ws[i.toNat]? else none)=fun _=>none:=by funext i;rw[if_neg (by omega)]
      show Bu _ _ _ _ _ _ _ _ _ _ _;rw[e];exact HU.out
     clear HU HE
     go_wp2_with fail
     clear c14
     rename World=>Wr
     go_loopw [39] (fun jv wr=>∃(j:Nat),j≤s.ws.length∧jv=.int .i64 (j:Int)∧Hid (Bu w wr b eb mb s (.slice ac s.cs.length kc) (.slice aw s.ws.length kw) (fun g=>g<w.heap.size) (s.cs.map RM.bg) (fun i=>if 0≤i∧i<(j:Int)then s.ws[i.toNat]? else none))) (fun jv _=>s.ws.length-(intOf jv).toNat)
     case atStart=>exact⟨0,Nat.zero_le _,rfl,HU5⟩
     case round=>
      clear HU5;obtain⟨j,hj,rfl,HU⟩:=hrel;by_cases hlt:j<s.ws.length
      ·have hjz:(j:Int)<(s.ws.length:Int):=by omega
       obtain⟨y,hy⟩:∃y,s.ws[j]?=some y:=⟨_,List.getElem?_eq_getElem hlt⟩;obtain⟨gw,ow,rfl,hc0,hc1⟩:=HU.out.rw.at hy;have HY:=Hd hy;have hba:=(Below.refl wr.heap.size wr).alloc (Nat.le_refl _) (.cells #[.int .i64 y.1,.int .i64 y.2] 131);have HU2:=Hd (HU.out.next hba);have HRB:Hid ((wr.alloc (.cells #[.int .i64 y.1,.int .i64 y.2] 131)).heap[wr.heap.size]?=some (.cells #[.int .i64 y.1,.int .i64 y.2] 131 (0,0))):=World.alloc_heap_new wr _;clear hba hy HU
       go_wp2_with fail
       clear hc0 hc1;generalize wr.heap.size=rb at HRB⊢;generalize (wr.alloc (.cells #[.int .i64 y.1,.int .i64 y.2] 131))=W2 at HU2 HRB⊢;have H16:Hid (∀w',Below W2.drew.heap.size W2.drew w'→w'.cell? ⟨b,16,none⟩=some (.map (some mb))):=fun w' hw=>(HU2.out.bg.drew.below' hw).c16;have HRV:Hid (∀w',Below W2.drew.heap.size W2.drew w'→w'.heap[rb]?=some (.cells #[.int .i64 y.1,.int .i64 y.2] 131 (0,0))):=fun w' hw=>(hw.block rb (Array.getElem?_eq_some_iff.1 HRB.out).1).trans HRB.out;refine wp_region_tail 6 (by kernel_rfl) (by kernel_rfl) ?_;simp only[List.take_succ_cons,List.take_zero,List.drop_succ_cons,List.drop_zero]
       iterate 3 (unfold wpCalm;generalize hK:wpCalm _ _ _ _ _=K;unfold Oper.calm;go_simp;refine⟨_,fun _ _=>rfl,?_⟩;subst hK)
       unfold wpCalm;generalize hK:wpCalm _ _ _ _ _=K;rw[if_pos (by go_simp)];refine calm_loadMB _ _ _ rfl rfl H16.out ?_;go_simp;subst hK;unfold wpCalm;generalize hK:wpCalm _ _ _ _ _=K;unfold Oper.calm;go_simp;refine⟨_,fun _ _=>rfl,?_⟩;subst hK;unfold wpCalm;generalize hK:wpCalm _ _ _ _ _=K;rw[if_pos (by go_simp)];refine calm_loadWV _ rb y rfl rfl HRV.out ?_;go_simp;subst hK;refine wpCalm_nil ?_;intro W3 hb3;have HU3:=Hd (HU2.out.next ((Below.refl _ W2).drew.trans hb3));obtain⟨W4,hup,hm4,hk4⟩:=HU3.out.bg.hm.lay (k:=(j:Int)) (by show(if 0≤(j:Int)∧(j:Int)<(j:Int)then _ else _)=_;rw[if_neg (by omega)]) y
       have hf:(fun i:Int=>if i=(j:Int)then some y else if 0≤i∧i<(j:Int)then s.ws[i.toNat]? else none)=fun i=>if 0≤i∧i<((j+1:Nat):Int)then s.ws[i.toNat]? else none:=by
        funext i
        by_cases e:i=(j:Int)
        ·rw[if_pos e,if_pos (by omega),e,Int.toNat_natCast,HY.out]
        ·rw[if_neg e];by_cases h:0≤i∧i<(j:Int)
         ·rw[if_pos h,if_pos (by omega)]
         ·rw[if_neg h,if_neg (by omega)]
       rw[hf]at hm4;have HU4:=Hd (HU3.out.put (es':=s.cs.map RM.bg) (hk4.mono fun _ _ e=>.inr (.inr e)) ⟨(hk4.block b HU3.out.bg.lb HU3.out.bg.n2).trans HU3.out.bg.hb,(hk4.block eb HU3.out.bg.le HU3.out.bg.n3).trans HU3.out.bg.he,hm4,HU3.out.bg.n1,HU3.out.bg.n2,HU3.out.bg.n3⟩);clear hb3 H16 HRV HU2 HRB hf hm4 hk4 HU3;go_wp2;go_roundw
       case rel=>exact⟨j+1,by omega,by go_num,HU4⟩
       case measure=>simp[intOf];omega
      ·have hjz:¬(j:Int)<(s.ws.length:Int):=by omega
       have HE:Hid (Bg wr b eb mb s.st (.slice ac s.cs.length kc) (.slice aw s.ws.length kw) (s.cs.map RM.bg) (lfm s (List.replicate s.ws.length false)) 0∧Below w.heap.size w wr∧∀k,bp b eb mb k→w.heap.size≤k):=by
        have e:(fun i:Int=>if 0≤i∧i<(j:Int)then s.ws[i.toNat]? else none)=lfm s (List.replicate s.ws.length false):=by
         funext i
         unfold lfm;by_cases h:0≤i∧i<(j:Int)
         ·rw[if_pos h,if_pos ⟨h.1,by rw[List.getElem?_replicate,if_pos (by omega)]⟩]
         ·rw[if_neg h,if_neg];rintro⟨h1,h2⟩;rw[List.getElem?_replicate]at h2;split at h2
          ·omega
          ·cases h2
        have hbg:=HU.out.bg;rw[e]at hbg;exact⟨hbg,HU.out.bel,fun k hk=>Nat.le_of_lt (HU.out.nw k hk)⟩
       clear HU;go_wp2;go_ret;exact⟨b,rfl,eb,mb,HE.out⟩
  |_=>exact hq.elim
end
open Go.Shelf
attribute [local go_sem] Oper.semAt_some
theorem prp_append:∀(p q:List (List Int)) (c:Nat),prp c (p++q)=prp c p++prp (c+p.length) q
 |[],q,c=>by simp[prp]
 |l::p,q,c=>by
  rw[List.cons_append,prp,prp,prp_append p q,List.append_assoc,List.length_cons,show c+1+p.length=c+(p.length+1) by omega]
def prk(p:List (List Int))(k:Nat):List (Int×Int):=prp 0 (p.take k)
theorem prk_succ{p:List (List Int)}{k:Nat}{l:List Int}(h:p[k]?=some l):prk p (k+1)=prk p k++l.map fun x=>((k:Int),x):=by
 unfold prk;have hk:=(List.getElem?_eq_some_iff.1 h).1;rw[List.take_add_one,h,Option.toList_some,prp_append,List.length_take,show 0+min k p.length=k by omega];simp[prp]
theorem prk_all{p:List (List Int)}{k:Nat}(h:p.length≤k):prk p k=prp 0 p:=by unfold prk;rw[List.take_of_length_le h]
theorem prk_pre(p:List (List Int))(k:Nat):prk p k<+:prp 0 p:=by
 have e:prp 0 p=prp 0 (p.take k++p.drop k):=by rw[List.take_append_drop]
 rw[e,prp_append];exact List.prefix_append _ _
def EP(n:Nat)(x:Int×Int)(_:Nat→Prop)(_:World)(args:Array Value):Prop:=args= #[.int .i64 x.1,.int .i64 x.2]∧0≤x.1∧x.1<(n:Int)
structure Pj(w W:World)(c1:Nat)(vp:Value)(p:List (List Int))(G:Nat→Prop)(J:List (Int×Int)→(Nat→Prop)→World→Prop)(pre:List (Int×Int)):Prop where
 pc:W.heap[c1]?=some (.cells #[vp] 104 (0,0))
 rp:RL G W vp p
 jj:J pre (fun _=>False) W
 sz:w.heap.size≤W.heap.size
theorem Pj.round{w W W':World}{c1:Nat}{vp:Value}{p:List (List Int)}{G:Nat→Prop}{J:List (Int×Int)→(Nat→Prop)→World→Prop}{pre:List (Int×Int)}{x:Int×Int}(h:Pj w W c1 vp p G J pre)(h1:G c1)(hk:Kept (fun k=>False∨G k) W W')(hj:J (pre++[x]) (fun _=>False) W'):Pj w W' c1 vp p G J (pre++[x]):=
 ⟨(hk.same c1 (Array.getElem?_eq_some_iff.1 h.pc).1 (.inr h1)).trans h.pc,h.rp.keep hk.size (fun k hg hlt=>hk.same k hlt (.inr hg)),hj,Nat.le_trans h.sz hk.size⟩
theorem placed_seq(c1:Nat)(vp:Value)(p:List (List Int))(G:Nat→Prop)(w:World)(hpc:w.heap[c1]?=some (.cells #[vp] 104 (0,0)))(hrp:RL G w vp p)(h1:G c1)(hG:∀k,G k→k<w.heap.size)(hp8:p.length≤8)(hll:∀l∈p,l.length≤1000):
  SeqF Tryz.prog 171 #[.pointer (some ⟨c1,0,none⟩)] (EP p.length) (fun _=>False) G (fun xs=>xs=prp 0 p) (fun pre=>pre<+:prp 0 p) w:=by
 intro nn lo J Jx W hW hJ hJx hY h0;show CallsIn Fence.wide nn Tryz.prog 171 #[.func (.yield lo) #[] #[],.pointer (some ⟨c1,0,none⟩)] W _;obtain⟨ap,kp,rfl,_,_⟩:=hrp.form;have HQ0:Hid (Pj w W c1 (.slice ap p.length kp) p G J []):=⟨(hW.block c1 (hG c1 h1)).trans hpc,hrp.keep hW.size (fun k hg hlt=>hW.block k hlt),h0,hW.size⟩;have HY:=Hd hY;have HG:=Hd h1;have HLL:=Hd hll;have cp:W.cell? ⟨c1,0,none⟩=some (.slice ap p.length kp):=by rw[cell_of_row _ _ 0 _ _ _ HQ0.out.pc];rfl
 refine callsIn_of_wp Tryz.func171 rfl trivial ?_ rfl;simp only[Tryz.ntmps171,List.size_toArray,List.length_cons,List.length_nil,Nat.reduceAdd,Nat.reduceSub,Array.replicate_succ,Array.replicate_zero,List.push_toArray,List.append_toArray,List.nil_append,List.cons_append];have hwf:∀k,Fence.wide.fn k:=fun _=>trivial;have hdd:∀k:Nat,(Fence.wide.depth.isSome=true→1≤k):=fun k h=>by cases h
 clear hpc hrp h1 hG hll hW hJ hJx hY h0
 gi_wp2_with fail
 refine wpIn_wide.2 ?_;apply wp_scope_straight;refine (wpIn_wide (n:=nn)).1 ?_
 gi_wp2_with fail
 refine wpIn_label ?_
 gi_wp2_with fail
 gi_loopw [9] (fun i wr=>∃(k:Nat),k≤p.length∧i=.int .i64 (k:Int)∧Hid (Pj w wr c1 (.slice ap p.length kp) p G J (prk p k))) (fun i _=>p.length-(intOf i).toNat)
 case atStart=>exact⟨0,Nat.zero_le _,rfl,HQ0⟩
 case round=>
  clear HQ0 cp
  rename World=>Wr
  obtain⟨k,hk,rfl,HQ⟩:=hrel;by_cases hlt:k<p.length
  ·obtain⟨l,hl⟩:∃l,p[k]?=some l:=⟨_,List.getElem?_eq_getElem hlt⟩;obtain⟨gp,op,rfl,u,hcu,hru⟩:=HQ.out.rp.at hl;obtain⟨al,kl,rfl,_,_⟩:=hru.form;have HKL:=Hd hl;have hlll:l.length≤1000:=HLL.out l (List.mem_of_getElem? hl);have hkz:(k:Int)<(p.length:Int):=by omega
   have HI1:Hid (Pj w Wr c1 (.slice (some ⟨gp,op,none⟩) p.length kp) p G J (prk p k++(l.take 0).map fun x=>((k:Int),x))∧RI G Wr (.slice al l.length kl) l):=by
    refine⟨?_,hru⟩;rw[List.take_zero,List.map_nil,List.append_nil];exact HQ.out
   clear hl hru HQ
   gi_wp2_with fail
   clear hcu
   gi_loopw [16] (fun i wr=>∃(j:Nat),j≤l.length∧i=.int .i64 (j:Int)∧Hid (Pj w wr c1 (.slice (some ⟨gp,op,none⟩) p.length kp) p G J (prk p k++(l.take j).map fun x=>((k:Int),x))∧RI G wr (.slice al l.length kl) l)) (fun i _=>l.length-(intOf i).toNat)
   case atStart=>exact⟨0,Nat.zero_le _,rfl,HI1⟩
   case round=>
    clear HI1;obtain⟨j,hj,rfl,HI⟩:=hrel;by_cases hjl:j<l.length
    ·obtain⟨x,hx⟩:∃x,l[j]?=some x:=⟨_,List.getElem?_eq_getElem hjl⟩;obtain⟨gl,ol,rfl,hcx⟩:=HI.out.2.at hx;have hjz:(j:Int)<(l.length:Int):=by omega
     have HTK:Hid ((l.take (j+1)).map (fun x=>((k:Int),x))=(l.take j).map (fun x=>((k:Int),x))++[((k:Int),x)]):=by
      show _=_;rw[take_snoc hx,List.map_append];rfl
     have HPR:Hid (prk p k++(l.take j).map (fun x=>((k:Int),x))++[((k:Int),x)]<+:prp 0 p):=by
      show _<+:_;rw[List.append_assoc,←HTK.out]
      have h1:prk p k++(l.take (j+1)).map (fun x=>((k:Int),x))<+:prk p (k+1):=by
       rw[prk_succ HKL.out];exact(List.prefix_append_right_inj _).2 ((List.take_prefix (j+1) l).map _)
      exact h1.trans (prk_pre p (k+1))
     obtain⟨fn,tmps,assign,body,hy5,hR5⟩:=HY.out (nn-1) _ ((k:Int),x) (fun _=>False) wr #[.int .i64 (k:Int),.int .i64 x] HI.out.1.jj ⟨rfl,Int.natCast_nonneg _,hkz⟩;have HR5:=Hd hR5;clear hR5 hx
     gi_wp2_with fail
     refine⟨hdd _,HR5.out.mono ?_⟩;rintro e W6 (⟨rfl,hj6,hk6⟩|⟨rfl,hx6,_⟩)
     ·have HI6:Hid (Pj w W6 c1 (.slice (some ⟨gp,op,none⟩) p.length kp) p G J (prk p k++(l.take (j+1)).map fun x=>((k:Int),x))∧RI G W6 (.slice (some ⟨gl,ol,none⟩) l.length kl) l):=by
       refine⟨?_,HI.out.2.keep hk6.size (fun k hg hlt=>hk6.same k hlt (.inr hg))⟩;rw[HTK.out,←List.append_assoc];exact HI.out.1.round HG.out hk6 hj6
      clear hj6 hk6 HI hcx hy5 HR5 HPR
      gi_wp2
      go_roundw
      case rel=>exact⟨j+1,by omega,by go_num,HI6⟩
      case measure=>simp[intOf];omega
     ·have HX6:=Hd (And.intro HPR.out hx6);clear hx6 HI hcx hy5 HR5 HPR
      gi_wp2
      rw[Exit.noGoto_normal]
      go_end0
      exact⟨⟨_,rfl⟩,.inr ⟨_,_,HX6.out.1,HX6.out.2⟩⟩
    ·have hjz:¬(j:Int)<(l.length:Int):=by omega
     have HS:=Hd HI.out.1;rw[show l.take j=l from List.take_of_length_le (by omega),←prk_succ HKL.out]at HS;clear HI
     gi_wp2
     go_roundw
     case rel=>exact⟨k+1,by omega,by go_num,HS⟩
     case measure=>simp[intOf];omega
  ·have hkz:¬(k:Int)<(p.length:Int):=by omega
   have HE:=Hd HQ.out.jj;rw[prk_all (by omega)]at HE;clear HQ
   gi_wp2
   go_end0
   exact⟨⟨_,rfl⟩,.inl ⟨_,_,rfl,HE.out⟩⟩
theorem placed_any(ap:Option Addr)(n k:Nat)(w:World):
  Calls Tryz.prog 160 #[.slice ap n k] w fun e w'=>e=.returned (.func (.func 171) #[] #[.pointer (some ⟨w.heap.size,0,none⟩)])∧w'=w.alloc (.cells #[.slice ap n k] 104):=by
 have hmf:∀(fn:Fn) (first cap:Array Value) (w:World),(Instr.makeFunc fn first cap).run Tryz.prog w=.ok (.func fn first cap) w:=fun _ _ _ _=>rfl
 go_enter Tryz.func160,Tryz.ntmps160
 go_wp2;go_ret;exact⟨rfl,rfl⟩
theorem hasList_any(ap:Option Addr)(n k:Nat)(c:Int)(w:World):
  Calls Tryz.prog 158 #[.slice ap n k,.int .i64 c] w fun e w'=>e=.returned (.bool (decide (0≤c)&&decide (c<(n:Int))))∧w'=w:=by
 go_enter Tryz.func158,Tryz.ntmps158
 go_wp2
 all_goals
  go_ret;refine⟨ret_bool ?_,rfl⟩
  first|(simp_all;done)|(simp_all;omega)
end Go.Proofs.YtnkelgdnglaafaaGreat
namespace Go.Proofs.YtnkelgdnglaafaaGreat
open Go.RowKit
structure Bok(s:Sn)(z:Bz):Prop where
 el:z.es.length=s.cs.length
 sl:z.st.length=s.ws.length
 ok:∀a∈z.es,RM.Ok s.st a∧a.le≤1000000+68002*((s.ws.length:Int)-PM.lf z.st)
 c0:0≤z.co
 c1:z.co≤10000000*((s.ws.length:Int)-PM.lf z.st)
theorem lf_le(st:List Bool):PM.lf st≤st.length:=List.count_le_length
theorem Bok.zero{s:Sn}(hr:rgt s=true):Bok s (bz0 s):=by
 have hml:(msk s).length=s.ws.length:=by unfold msk;rw[List.length_map]
 have hz:=rgt_rz hr;have ha:=rgt_after hr;have hl:PM.lf (List.replicate (msk s).length false)=s.ws.length:=by unfold PM.lf;rw[List.count_replicate,hml];simp
 refine⟨by unfold bz0;rw[List.length_map],by unfold bz0;rw[List.length_replicate,hml],fun a h=> ?_,Int.le_refl _,?_⟩
 ·obtain⟨r,hr1,rfl⟩:=List.mem_map.1 h;refine⟨hz.cr r hr1,?_⟩;have:=ha r hr1;show r.2≤1000000+68002*((s.ws.length:Int)-PM.lf (List.replicate (msk s).length false));rw[hl];omega
 ·show 0≤10000000*((s.ws.length:Int)-PM.lf (List.replicate (msk s).length false));rw[hl];omega
section
variable {s:Sn} {k c:Nat} {z:Bz} {x:Int}
theorem lfm_some{y:Int×Int}(h:lfm s z.st x=some y):0≤x∧z.st[x.toNat]?=some false∧s.ws[x.toNat]?=some y:=by
 unfold lfm at h;split at h
 ·rename_i g;exact⟨g.1,g.2,h⟩
 ·cases h
theorem bstep_no(ok:Bok s z)(hn:∀y,lfm s z.st x=some y→PM.bt y.2.toNat c=false):bstep s k z ((c:Int),x)=none:=by
 unfold bstep;split
 ·rfl
 ·rw[if_neg];rintro⟨_,h2,h3⟩;rw[Int.toNat_natCast]at h2;obtain⟨g1,g2,g3⟩:=PM.okx_iff.1 h2;have hml:(msk s).length=s.ws.length:=by unfold msk;rw[List.length_map]
  obtain⟨y,hy⟩:∃y,s.ws[x.toNat]?=some y:=⟨_,List.getElem?_eq_getElem (by have h3:z.st[x.toNat]?=some false:=h3;have:=(List.getElem?_eq_some_iff.1 h3).1;have:=ok.sl;omega)⟩;have h4:=hn y (by unfold lfm;rw[if_pos ⟨g1,h3⟩,hy]);have e:(msk s)[x.toNat]?=some y.2.toNat:=by unfold msk;rw[List.getElem?_map,hy];rfl
  rw[e,Option.getD_some,h4]at g3;cases g3
theorem bstep_yes{a:RM.Sp}{y:Int×Int}(hc:c≤k)(ha:z.es[c]?=some a)(hy:lfm s z.st x=some y)(hb:PM.bt y.2.toNat c=true):
  bstep s k z ((c:Int),x)=some ⟨z.es.set c (RM.nx s.st a y.1),z.st.set x.toNat true,z.co+RM.ar s.st a y.1⟩:=by
 obtain⟨h1,h2,h3⟩:=lfm_some hy;obtain⟨i,rfl⟩:∃i:Nat,x=(i:Int):=⟨x.toNat,by omega⟩;rw[Int.toNat_natCast]at h2 h3;have hml:(msk s).length=s.ws.length:=by unfold msk;rw[List.length_map]
 have e:(msk s)[i]?=some y.2.toNat:=by unfold msk;rw[List.getElem?_map,h3];rfl
 have ew:RM.wf s.ws (i:Int)=y.1:=RM.wf_get h3;unfold bstep;simp only[Int.toNat_natCast,ha];rw[if_pos ⟨by omega,PM.okx_iff.2 ⟨h1,by have:=(List.getElem?_eq_some_iff.1 h3).1;omega,by rw[Int.toNat_natCast,e,Option.getD_some];exact hb⟩,h2⟩,ew]
theorem lfm_set(hx:0≤x)(sl:z.st.length=s.ws.length):(fun j=>if j=x then none else lfm s z.st j)=lfm s (z.st.set x.toNat true):=by
 funext j
 unfold lfm;by_cases e:j=x
 ·rw[if_pos e,if_neg];rintro⟨_,h⟩;rw[e]at h;by_cases hl:x.toNat<z.st.length
  ·rw[List.getElem?_set_self hl]at h;cases h
  ·rw[List.getElem?_eq_none (by rw[List.length_set];omega)]at h;cases h
 ·rw[if_neg e];by_cases h0:0≤j
  ·rw[List.getElem?_set_ne (by omega)]
  ·rw[if_neg (fun g=>h0 g.1),if_neg (fun g=>h0 g.1)]
theorem Bok.step{a:RM.Sp}{y:Int×Int}(ok:Bok s z)(hz:RM.Rz s.st s.ws s.cs)(hw:s.ws.length≤128)(ha:z.es[c]?=some a)(hy:lfm s z.st x=some y):Bok s ⟨z.es.set c (RM.nx s.st a y.1),z.st.set x.toNat true,z.co+RM.ar s.st a y.1⟩:=by
 obtain⟨h1,h2,h3⟩:=lfm_some hy;have hlf:=PM.lf_set h2;have hle:=lf_le z.st;have hsl:=ok.sl;have oka:=ok.ok a (List.mem_of_getElem? ha);have hyr:=hz.wr y (List.mem_of_getElem? h3);have g1:=RM.ar_nn hz.rt oka.1 y.1;have g2:=RM.ar_le hz.rt oka.1 y.1;have g3:=RM.dw_bd hz.rt;have g4:=ok.c0;have g5:=ok.c1;refine⟨by rw[List.length_set];exact ok.el,by rw[List.length_set];exact ok.sl,fun b hb=> ?_,by show 0≤z.co+_;omega,?_⟩
 ·rcases List.mem_or_eq_of_mem_set hb with h|h
  ·have:=ok.ok b h;refine⟨this.1,?_⟩;show b.le≤1000000+68002*((s.ws.length:Int)-PM.lf (z.st.set x.toNat true));omega
  ·rw[h];refine⟨RM.nx_ok hz.rt oka.1 hyr.1 hyr.2,?_⟩;rw[RM.nx_eq oka.1];show RM.ar s.st a y.1+RM.dw s.st≤1000000+68002*((s.ws.length:Int)-PM.lf (z.st.set x.toNat true));omega
 ·show z.co+RM.ar s.st a y.1≤10000000*((s.ws.length:Int)-PM.lf (z.st.set x.toNat true));have:=oka.2;omega
end
open Go.Shelf
attribute [local go_sem] Oper.semAt_some
structure Lz(w W:World)(s:Sn)(vc vw:Value)(car:Int):Prop where
 nb:NB W w.heap.size s.st vc vw
 cb:W.heap[w.heap.size+1]?=some (.cells #[.int .i64 car] 3 (0,0))
 nb2:W.heap[w.heap.size+1+1]?=some (.cells #[.int .i64 0] 3 (0,0))
 eb2:W.heap[w.heap.size+1+1+1]?=some (.cells #[.int .i64 0] 27 (0,0))
 bel:Below w.heap.size w W
section
variable {w W W':World} {s:Sn} {vc vw:Value} {car:Int}
theorem Lz.next(h:Lz w W s vc vw car)(hb:Below W.heap.size W W'):Lz w W' s vc vw car:=
 ⟨h.nb.below' hb,(hb.block _ (Array.getElem?_eq_some_iff.1 h.cb).1).trans h.cb,(hb.block _ (Array.getElem?_eq_some_iff.1 h.nb2).1).trans h.nb2,(hb.block _ (Array.getElem?_eq_some_iff.1 h.eb2).1).trans h.eb2,below_class h.bel hb⟩
theorem Lz.size(h:Lz w W s vc vw car):w.heap.size+1+1+1<W.heap.size:=(Array.getElem?_eq_some_iff.1 h.eb2).1
theorem Lz.kp{G:Nat→Prop}(h:Lz w W s vc vw car)(hk:Kp G W W')(hG:∀k,G k→w.heap.size+1+1+1<k):Lz w W' s vc vw car:=by
 have hz:=h.size;have f:∀k,k≤w.heap.size+1+1+1→W'.heap[k]?=W.heap[k]?:=fun k hk'=>hk.block k (by omega) (fun e=>by have:=hG k e;omega);exact⟨(f _ (by omega)).trans h.nb,(f _ (by omega)).trans h.cb,(f _ (by omega)).trans h.nb2,(f _ (by omega)).trans h.eb2,hk.below h.bel h.bel.size (fun i hi e=>by have:=hG i e;omega)⟩
theorem Lz.new(w:World)(s:Sn)(vc vw:Value)(car:Int):Lz w ((((w.alloc (.cells (nv s.st vc vw).toArray 100)).alloc (.cells #[.int .i64 car] 3)).alloc (.cells #[.int .i64 0] 3)).alloc (.cells #[.int .i64 0] 27)) s vc vw car:=by
 obtain⟨p1,p2,p3⟩:=heap3 (w.alloc (.cells (nv s.st vc vw).toArray 100)) (.cells #[.int .i64 car] 3) (.cells #[.int .i64 0] 3) (.cells #[.int .i64 0] 27);rw[World.size_alloc]at p1 p2 p3
 have hb:Below (w.alloc (.cells (nv s.st vc vw).toArray 100)).heap.size (w.alloc (.cells (nv s.st vc vw).toArray 100)) ((((w.alloc (.cells (nv s.st vc vw).toArray 100)).alloc (.cells #[.int .i64 car] 3)).alloc (.cells #[.int .i64 0] 3)).alloc (.cells #[.int .i64 0] 27)):=
  (((Below.refl _ _).alloc (Nat.le_refl _) _).alloc (by simp) _).alloc (by simp) _
 exact⟨(NB.new w s.st vc vw).below' hb,p1,p2,p3,((Below.refl _ w).alloc (Nat.le_refl _) _).trans (hb.mono (by simp))⟩
end
theorem Lz.put{w W:World}{s:Sn}{vc vw:Value}{car:Int}(h:Lz w W s vc vw car)(x y:Int):
  ((W.setCell ⟨w.heap.size+1+1,0,none⟩ (.int .i64 x)).setCell ⟨w.heap.size+1+1+1,0,none⟩ (.int .i64 y)).heap[w.heap.size+1+1]?=some (.cells #[.int .i64 x] 3 (0,0))∧
  ((W.setCell ⟨w.heap.size+1+1,0,none⟩ (.int .i64 x)).setCell ⟨w.heap.size+1+1+1,0,none⟩ (.int .i64 y)).heap[w.heap.size+1+1+1]?=some (.cells #[.int .i64 y] 27 (0,0))∧
  Kp (fun k=>k=w.heap.size+1+1∨k=w.heap.size+1+1+1) W ((W.setCell ⟨w.heap.size+1+1,0,none⟩ (.int .i64 x)).setCell ⟨w.heap.size+1+1+1,0,none⟩ (.int .i64 y)):=by
 have hk:Kp (fun k=>k=w.heap.size+1+1∨k=w.heap.size+1+1+1) W ((W.setCell ⟨w.heap.size+1+1,0,none⟩ (.int .i64 x)).setCell ⟨w.heap.size+1+1+1,0,none⟩ (.int .i64 y)):=((Kp.refl _ W).set _ _ _ (fun _=>.inl rfl)).set _ _ _ (fun _=>.inr rfl);have h1:=blk_set (C:=[.int .i64 0]) h.nb2 0 (.int .i64 x);have hz:=h.size;have hk1:Kp (fun k=>k=w.heap.size+1+1) W (W.setCell ⟨w.heap.size+1+1,0,none⟩ (.int .i64 x)):=(Kp.refl _ W).set _ _ _ (fun _=>rfl);have hk2:Kp (fun k=>k=w.heap.size+1+1+1) (W.setCell ⟨w.heap.size+1+1,0,none⟩ (.int .i64 x)) ((W.setCell ⟨w.heap.size+1+1,0,none⟩ (.int .i64 x)).setCell ⟨w.heap.size+1+1+1,0,none⟩ (.int .i64 y)):=(Kp.refl _ _).set _ _ _ (fun _=>rfl);refine⟨(hk2.block _ (by have:=hk1.size;omega) (by omega)).trans h1,?_,hk⟩;exact blk_set (C:=[.int .i64 0]) ((hk1.block (w.heap.size+1+1+1) hz (by omega)).trans h.eb2) 0 (.int .i64 y)
theorem one_cell{W:World}{b:Nat}{v:Value}{t:TypeId}(h:W.heap[b]?=some (.cells #[v] t (0,0))):W.cell? ⟨b,0,none⟩=some v:=by rw[cell_of_row _ _ 0 _ _ _ h];rfl
theorem one_fr{W:World}{b:Nat}{v:Value}{t:TypeId}(h:W.heap[b]?=some (.cells #[v] t (0,0))):W.frozen? ⟨b,0,none⟩=false:=by simp[World.frozen?,h]
theorem ret_least{fn:Func}{t u:Tmp}(hf:fn.results= #[.cell t 3,.cell u 27]){tmps:Array Value}{w:World}{b c:Nat}{x y:Int}(hp:tmps.getD t undef=.pointer (some ⟨b,0,none⟩))(hq:tmps.getD u undef=.pointer (some ⟨c,0,none⟩))
  (h1:w.cell? ⟨b,0,none⟩=some (.int .i64 x)) (h2:w.cell? ⟨c,0,none⟩=some (.int .i64 y)):(results fn tmps).run Tryz.prog w=.ok (.tuple #[.int .i64 x,.int .i64 y]) w:=by
 rw[Array.getD_eq_getD_getElem?]at hp hq;simp[results,hf,hp,hq,go_sem,h1,h2]
theorem least_out(s:Sn)(D:Nat→Prop)(vc vw vp:Value)(car:Int)(p:List (List Int))(w:World)(hc:R2 D w vc s.cs)(hw:R2 D w vw s.ws)(hp:RL D w vp p)(hn:¬(rgt s=true∧p.length=s.cs.length∧0≤car∧car<(p.length:Int))):
  Calls Tryz.prog 134 #[.agg (nv s.st vc vw).toArray,.int .i64 car,vp] w fun e w'=>e=.returned (.tuple #[.int .i64 0,.int .i64 9])∧Below w.heap.size w w':=by
 have HZ:=Hd (Lz.new w s vc vw car);have HR:=Hd (snapRight_any s D vc vw _ (hc.below' HZ.out.bel) (hw.below' HZ.out.bel));obtain⟨ac,kc,rfl,_,_⟩:=hc.form;obtain⟨ap,kp,rfl,_,_⟩:=hp.form;clear hc hw hp
 go_enter Tryz.func134,Tryz.ntmps134
 go_wp2_with (refine wpList_load27g rfl _ rfl w.heap.size s.st _ _ rfl HZ.out.nb ?_)
 refine HR.out.mono ?_;rintro e W1 ⟨rfl,hb1⟩;have HZ1:=Hd (HZ.out.next hb1);have d2:=one_cell HZ1.out.nb2;have f2:=one_fr HZ1.out.nb2;have d3:=one_cell HZ1.out.eb2;have f3:=one_fr HZ1.out.eb2;have dc:=one_cell HZ1.out.cb;have c13:W1.cell? ⟨w.heap.size,13,none⟩=some (.slice ac s.cs.length kc):=HZ1.out.nb.cell 13
 have HE:Hid (True∧((W1.setCell ⟨w.heap.size+1+1,0,none⟩ (.int .i64 0)).setCell ⟨w.heap.size+1+1+1,0,none⟩ (.int .i64 9)).cell? ⟨w.heap.size+1+1,0,none⟩=some (.int .i64 0)∧((W1.setCell ⟨w.heap.size+1+1,0,none⟩ (.int .i64 0)).setCell ⟨w.heap.size+1+1+1,0,none⟩ (.int .i64 9)).cell? ⟨w.heap.size+1+1+1,0,none⟩=some (.int .i64 9)∧Below w.heap.size w ((W1.setCell ⟨w.heap.size+1+1,0,none⟩ (.int .i64 0)).setCell ⟨w.heap.size+1+1+1,0,none⟩ (.int .i64 9))):=by
  obtain⟨p1,p2,p3⟩:=HZ1.out.put 0 9;exact⟨trivial,one_cell p1,one_cell p2,p3.below HZ1.out.bel HZ1.out.bel.size (fun i hi e=>by omega)⟩
 clear hb1 HR HZ;cases hr:rgt s with
 |false=>
  clear hn;go_wp2;exact bodyPost_ret (ret_least Tryz.results134 rfl rfl HE.out.2.1 HE.out.2.2.1) rfl ⟨rfl,HE.out.2.2.2⟩
 |true=>
  by_cases hl:p.length=s.cs.length
  ·have q1:((p.length:Int) !=(s.cs.length:Int))=false:=by simp;omega
   have hq:(decide (0≤car)&&decide (car<(p.length:Int)))=false:=by
    have hh:¬(0≤car∧car<(p.length:Int)):=fun g=>hn ⟨hr,hl,g.1,g.2⟩;rw[Bool.and_eq_false_iff];by_cases g:0≤car
    ·right;exact decide_eq_false fun g2=>hh ⟨g,g2⟩
    ·left;exact decide_eq_false g
   have HH:=Hd (hasList_any ap p.length kp car W1);rw[hq]at HH;clear hn hl hq hr
   go_wp2_with fail
   refine HH.out.mono ?_;rintro e w' ⟨rfl,rfl⟩;go_wp2;exact bodyPost_ret (ret_least Tryz.results134 rfl rfl HE.out.2.1 HE.out.2.2.1) rfl ⟨rfl,HE.out.2.2.2⟩
  ·have q1:((p.length:Int) !=(s.cs.length:Int))=true:=by simp;omega
   have q2:¬(p.length:Int)=(s.cs.length:Int):=by omega
   clear hn hl hr;go_wp2;exact bodyPost_ret (ret_least Tryz.results134 rfl rfl HE.out.2.1 HE.out.2.2.1) rfl ⟨rfl,HE.out.2.2.2⟩
end Go.Proofs.YtnkelgdnglaafaaGreat
namespace Go.Proofs.YtnkelgdnglaafaaGreat
open Go.RowKit Go.Shelf
attribute [local go_sem] Oper.semAt_some
section
variable (s:Sn) (k B b eb mb:Nat) (vc vw:Value) (Wz:World)
def LI(pre:List (Int×Int))(F:Nat→Prop)(A:World):Prop:=KB Wz (bp b eb mb) F A∧(∀i,bp b eb mb i→i<Wz.heap.size)∧∃z,bfold s k (some (bz0 s)) pre=some z∧Bg A b eb mb s.st vc vw z.es (lfm s z.st) z.co∧Bok s z
def LX(c:Code)(pre:List (Int×Int))(F:Nat→Prop)(A:World):Prop:=c=.ret∧bfold s k (some (bz0 s)) pre=none∧B+1+1+1<Wz.heap.size∧KB Wz (fun i=>bp b eb mb i∨i=B+1+1∨i=B+1+1+1) F A∧
 A.heap[B+1+1]?=some (.cells #[.int .i64 0] 3 (0,0))∧A.heap[B+1+1+1]?=some (.cells #[.int .i64 9] 27 (0,0))
theorem li_stb:Stb (LI s k b eb mb vc vw Wz):=by
 rintro pre F F' A A' ⟨h1,h2,z,h3,h4,h5⟩ hk hF;exact⟨h1.stb hk hF,h2,z,h3,h4.keep fun i hi=>hk.block i (h4.lt i hi) (h1.2 i (h2 i hi)),h5⟩
theorem lx_stb(c:Code):Stb (LX s k B b eb mb Wz c):=by
 rintro pre F F' A A' ⟨h1,h2,h3,h4,h5,h6⟩ hk hF;exact⟨h1,h2,h3,h4.stb hk hF,(hk.block _ (Array.getElem?_eq_some_iff.1 h5).1 (h4.2 _ (by omega))).trans h5,(hk.block _ (Array.getElem?_eq_some_iff.1 h6).1 (h4.2 _ (by omega))).trans h6⟩
end
theorem ends_least{w A:World}{Dd b c:Nat}{x y:Int}{t u:TypeId}(hb:Below w.heap.size w A)(h1:A.heap[b]?=some (.cells #[.int .i64 x] t (0,0)))(h2:A.heap[c]?=some (.cells #[.int .i64 y] u (0,0)))(n1:Dd≠b)(n2:Dd≠c)(hD:w.heap.size≤Dd):
  (A.putObj Dd (.deferred none)).cell? ⟨b,0,none⟩=some (.int .i64 x)∧(A.putObj Dd (.deferred none)).cell? ⟨c,0,none⟩=some (.int .i64 y)∧Below w.heap.size w (A.putObj Dd (.deferred none)):=by
 have hk:Kp (fun k=>k=Dd) A (A.putObj Dd (.deferred none)):=(Kp.refl _ A).put Dd _ (fun _=>rfl);exact⟨one_cell ((hk.block b (Array.getElem?_eq_some_iff.1 h1).1 (fun e=>n1 e.symm)).trans h1),one_cell ((hk.block c (Array.getElem?_eq_some_iff.1 h2).1 (fun e=>n2 e.symm)).trans h2),hk.below hb hb.size (fun i hi e=>by omega)⟩
theorem least_in(s:Sn)(D:Nat→Prop)(vc vw vp:Value)(k:Nat)(p:List (List Int))(w:World)(hc:R2 D w vc s.cs)(hw:R2 D w vw s.ws)(hp:RL D w vp p)(hr:rgt s=true)(hl:p.length=s.cs.length)(hk:k<p.length)(hll:∀l∈p,l.length≤1000)
  (r1 r2:Int) (HR1:Hid (∀st,bgn s (k:Int) p=some st→r1=lsv s k p st∧r2=0)) (HR2:Hid (bgn s (k:Int) p=none→r1=0∧r2=9)):
  Calls Tryz.prog 134 #[.agg (nv s.st vc vw).toArray,.int .i64 (k:Int),vp] w fun e w'=>e=.returned (.tuple #[.int .i64 r1,.int .i64 r2])∧Below w.heap.size w w':=by
 have HZ:=Hd (Lz.new w s vc vw (k:Int));have hri:=snapRight_any s D vc vw _ (hc.below' HZ.out.bel) (hw.below' HZ.out.bel);rw[hr]at hri;have HR:=Hd hri;have HC:Hid (R2 (fun g=>g<w.heap.size) w vc s.cs):=hc.mono fun g _ h _=>h;have HW:Hid (R2 (fun g=>g<w.heap.size) w vw s.ws):=hw.mono fun g _ h _=>h;have HP:Hid (RL (fun g=>g<w.heap.size) w vp p):=hp.mono fun g _ h _=>h;obtain⟨n8,hrs⟩:=rgt_rs hr;have HRZ:=Hd (rgt_rz hr);have hwl:s.ws.length≤128:=hrs.wl;have hcl:s.cs.length≤8:=by have:=hrs.cl;have:=hrs.n8;omega
 have HBF:=Hd (bfold_bgn (k:=k) hr hl hk);have HB0:=Hd (Bok.zero hr);have HLL:=Hd hll;have HRG:=Hd hr;have HLE:=Hd hl;have HMK:Hid (∀(i:Nat) y,s.ws[i]?=some y→∃m:Nat,y.2=(m:Int)):=fun i y hy=>by obtain⟨m,_,h⟩:=hrs.mm.eq i y hy;exact⟨m,h⟩
 obtain⟨ac,kc,rfl,_,_⟩:=hc.form;obtain⟨aw,kw,rfl,_,_⟩:=hw.form;obtain⟨ap,kp,rfl,_,_⟩:=hp.form;rw[hl]at HP⊢;clear hc hw hp hri hrs hll;refine (callsIn_wide (n:=0)).1 ?_;refine callsIn_of_wp_marks Tryz.func134 rfl trivial ?_ rfl;simp only[Tryz.ntmps134,List.size_toArray,List.length_cons,List.length_nil,Nat.reduceAdd,Nat.reduceSub,Array.replicate_succ,Array.replicate_zero,List.push_toArray,List.append_toArray,List.nil_append,List.cons_append];have hwf:∀k,Fence.wide.fn k:=fun _=>trivial
 gi_wp2_with (refine wpListIn_load27g rfl _ rfl w.heap.size s.st _ _ rfl HZ.out.nb ?_)
 refine⟨rfl,(callsIn_wide.2 HR.out).mono ?_⟩;rintro e W1 ⟨rfl,hb1⟩;have HZ1:=Hd (HZ.out.next hb1);have dc:=one_cell HZ1.out.cb;have c13:W1.cell? ⟨w.heap.size,13,none⟩=some (.slice ac s.cs.length kc):=HZ1.out.nb.cell 13;have HH:=Hd (hasList_any ap s.cs.length kp (k:Int) W1);rw[show(decide (0≤(k:Int))&&decide ((k:Int)<(s.cs.length:Int)))=true by simp;omega]at HH;clear hb1 HR HZ hr hl
 gi_wp2_with fail
 refine⟨rfl,(callsIn_wide.2 HH.out).mono ?_⟩;rintro e w' ⟨rfl,hw'⟩;rw[hw'];clear hw';have HNB:=Hd (newBeginning_any s (fun g=>g<w.heap.size) _ _ W1 (HC.out.below' HZ1.out.bel) (HW.out.below' HZ1.out.bel) hcl hwl);clear HH c13 dc
 gi_wp2_with (refine wpListIn_load27g rfl _ rfl w.heap.size s.st _ _ rfl HZ1.out.nb ?_)
 refine⟨rfl,(callsIn_wide.2 HNB.out).mono ?_⟩;rintro e W2 ⟨b,eb,mb,rfl,hg2,hb2,hn2⟩;have hba:=(Below.refl W2.heap.size W2).alloc (Nat.le_refl _) (.cells #[.pointer (some ⟨b,0,none⟩)] 242);have HZ2:=Hd ((HZ1.out.next hb2).next hba);have HG2:=Hd (hg2.below' hba);have HN2:Hid (∀i,bp b eb mb i→w.heap.size+1+1+1<i∧i<W2.heap.size):=fun i hi=>⟨Nat.lt_of_lt_of_le HZ1.out.size (hn2 i hi),hg2.lt i hi⟩;have HB2:Hid ((W2.alloc (.cells #[.pointer (some ⟨b,0,none⟩)] 242)).heap[W2.heap.size]?=some (.cells #[.pointer (some ⟨b,0,none⟩)] 242 (0,0))):=World.alloc_heap_new W2 _;have HS2:Hid ((W2.alloc (.cells #[.pointer (some ⟨b,0,none⟩)] 242)).heap.size=W2.heap.size+1):=by show _=_;simp
 clear hg2 hb2 hn2 hba HNB HZ1
 gi_wp2_with fail
 generalize (W2.alloc (.cells #[.pointer (some ⟨b,0,none⟩)] 242))=Y at HZ2 HG2 HB2 HS2⊢;generalize W2.heap.size=bb at HN2 HB2 HS2⊢;refine⟨rfl,(callsIn_wide.2 (placed_any ap s.cs.length kp Y)).mono ?_⟩;rintro e W3 ⟨rfl,rfl⟩
 gi_wp2_with fail
 have hbz:=(Below.refl Y.heap.size Y).alloc (Nat.le_refl _) (.cells #[.slice ap s.cs.length kp] 104);have HZ3:=Hd (HZ2.out.next hbz);have HG3:=Hd (HG2.out.below' hbz);have HB3:Hid ((Y.alloc (.cells #[.slice ap s.cs.length kp] 104)).heap[bb]?=some (.cells #[.pointer (some ⟨b,0,none⟩)] 242 (0,0))):=(hbz.block bb (Array.getElem?_eq_some_iff.1 HB2.out).1).trans HB2.out;have HC3:Hid ((Y.alloc (.cells #[.slice ap s.cs.length kp] 104)).heap[Y.heap.size]?=some (.cells #[.slice ap s.cs.length kp] 104 (0,0))):=World.alloc_heap_new Y _;have HS3:Hid ((Y.alloc (.cells #[.slice ap s.cs.length kp] 104)).heap.size=bb+1+1):=by show _=_;rw[World.size_alloc,HS2.out]
 have HY:Hid (Y.heap.size=bb+1):=HS2.out;clear hbz HZ2 HG2 HB2 HS2;generalize (Y.alloc (.cells #[.slice ap s.cs.length kp] 104))=Z at HZ3 HG3 HB3 HC3 HS3⊢;generalize Y.heap.size=c1 at HC3 HY⊢
 have hG:∀i,(i<w.heap.size∨i=c1)→i<Z.heap.size∧¬bp b eb mb i:=fun i hi=>by
  have e1:=HS3.out;have e2:=HY.out;have e3:=HZ3.out.size;refine⟨by rcases hi with h|h<;>omega,fun hb=> ?_⟩;have:=HN2.out i hb;rcases hi with h|h<;>omega
 have hseq:=placed_seq c1 (.slice ap s.cs.length kp) p (fun i=>i<w.heap.size∨i=c1) Z HC3.out ((HP.out.below' HZ3.out.bel).mono fun g hg _ _=>.inl hg) (.inr rfl) (fun i hi=>(hG i hi).1) (by have:=HLE.out;omega) HLL.out;have HG:=Hd hG
 have HI0:Hid (LI s k b eb mb (.slice ac s.cs.length kc) (.slice aw s.ws.length kw) Z [] (fun _=>False) Z):=by
  refine⟨⟨Kp.refl _ _,fun _ _ h=>h⟩,fun i hi=>HG3.out.lt i hi,bz0 s,rfl,?_,HB0.out⟩;have e:(msk s).length=s.ws.length:=by unfold msk;rw[List.length_map]
  have:=HG3.out;unfold bz0;rw[e];exact this
 have eg:∀args w,(callFunc 171 args).run Tryz.prog w=.ok (.enter 171 args) w:=by intro args w;simp[go_sem]
 generalize Value.agg (nv s.st (.slice ac s.cs.length kc) (.slice aw s.ws.length kw)).toArray=jn;clear hG;obtain⟨vc,hvc⟩:∃vc,Value.slice ac s.cs.length kc=vc:=⟨_,rfl⟩;obtain⟨jp,hjp⟩:∃jp,Value.slice ap s.cs.length kp=jp:=⟨_,rfl⟩;have HVC:=Hd hvc;rw[hvc]at HI0 HZ3 HG3;rw[hvc,hjp];clear hvc hjp HC HP HC3 HG3;generalize hjc:vc=jc;clear hjc
 refine wpIn_rangeFunc_B (gf:=171) (lb:= #[.pointer (some ⟨c1,0,none⟩)]) rfl eg hseq (Below.refl _ _) (fun x F A args h=>by rw[h.1];rfl) (fun i hi=>(HG.out i hi).1) (fun i h=>h.elim)
  (LI s k b eb mb vc (.slice aw s.ws.length kw) Z) (LX s k w.heap.size b eb mb Z) (li_stb s k b eb mb _ _ Z) (fun c=>lx_stb s k w.heap.size b eb mb Z c) HI0.out
  (fun x a' _=>0≤x.1∧x.1<(p.length:Int)∧a'={tmps:= #[jn,.int .i64 (k:Int),jp,.pointer (some ⟨w.heap.size,0,none⟩),.pointer (some ⟨w.heap.size+1,0,none⟩),undef,.pointer (some ⟨w.heap.size+1+1,0,none⟩),.pointer (some ⟨w.heap.size+1+1+1,0,none⟩),.pointer (some ⟨bb,0,none⟩),.int .i64 x.1,.int .i64 x.2,jn,.bool true,.bool false,.bool false,jp,.int .i64 (s.cs.length:Int),.pointer (some ⟨w.heap.size,13,none⟩),jc,.int .i64 (s.cs.length:Int),.bool false,.bool false,.bool false,jp,.int .i64 (k:Int),.bool true,.bool false,.bool false,jn,.pointer (some ⟨b,0,none⟩),jp,.func (.func 171) #[] #[.pointer (some ⟨c1,0,none⟩)],.int .i64 x.1,.int .i64 x.2,undef,undef,undef,undef,undef,undef,undef,undef,undef,undef,undef,undef,undef],defers:=[]}) (fun x a' A A' h _ _=>h) ?assign ?body ?done ?stop
 case assign=>
  rintro l' x F A args K ⟨rfl,h1,h2⟩ hK;obtain⟨x,y⟩:=x;have HK:=Hd hK;clear hK hseq
  gi_wp2
  exact HK.out _ _ (Below.refl _ A) ⟨h1,h2,rfl⟩
 case body=>
  rintro l' pre x F A a' ⟨hkb,hbl,z,hz,hg,hok⟩ ⟨h1,h2,rfl⟩;obtain⟨x,y⟩:=x;obtain⟨c,rfl⟩:∃c:Nat,x=(c:Int):=⟨x.toNat,by have:0≤x:=h1;omega⟩;have hcl2:c<s.cs.length:=by have:(c:Int)<(p.length:Int):=h2;have:=HLE.out;omega
  have hwf':∀k,(Fence.wide.inRound l').fn k:=fun _=>trivial;have far:∀i,bp b eb mb i→w.heap.size+1+1+1<i∧i≠bb:=fun i hi=>by have:=HN2.out i hi;omega
  have HZA:=Hd (HZ3.out.kp hkb.1 (fun i hi=>(far i hi).1));have hbb:A.heap[bb]?=some (.cells #[.pointer (some ⟨b,0,none⟩)] 242 (0,0)):=(hkb.1.block bb (Array.getElem?_eq_some_iff.1 HB3.out).1 (fun e=>(far bb e).2 rfl)).trans HB3.out;have dc:=one_cell HZA.out.cb;have db:=one_cell hbb
  -- where it ends early
  have HXX:Hid (∀A':World,Below A.heap.size A A'→bstep s k z ((c:Int),y)=none→
    Lz w A' s vc (.slice aw s.ws.length kw) (k:Int)∧postF (fun i=>i<w.heap.size∨i=c1) (LI s k b eb mb vc (.slice aw s.ws.length kw) Z) (LX s k w.heap.size b eb mb Z) (pre++[((c:Int),y)]) F A .ret {tmps:= #[],defers:=[]} ((A'.setCell ⟨w.heap.size+1+1,0,none⟩ (.int .i64 0)).setCell ⟨w.heap.size+1+1+1,0,none⟩ (.int .i64 9))):=by
   intro A' hbA hno;have hlz:=HZA.out.next hbA;obtain⟨p1,p2,p3⟩:=hlz.put 0 9;have hzs:=HZ3.out.size;refine⟨hlz,(Kept.ofBelow hbA).trans (Kept.ofKp p3 (fun i _ hf e=> ?_)),rfl,by rw[bfold_snoc,hz,Option.bind_some,hno],hzs,⟨?_,hkb.2⟩,p1,p2⟩
   ·exact hkb.2 i (by omega) hf
   ·exact(hkb.1.mono fun i _ hi=>.inl hi).trans ((Kp.ofBelow (fun i=>bp b eb mb i∨i=w.heap.size+1+1∨i=w.heap.size+1+1+1) hbA).trans (p3.mono fun i _ hi=>.inr hi) (fun _ _ h=>h)) (fun _ _ h=>h)
  by_cases hck:(k:Int)<(c:Int)
  ·have HE:=Hd (HXX.out A (Below.refl _ _) (bstep_far hck));have d2:=one_cell HZA.out.nb2;have f2:=one_fr HZA.out.nb2;have d3:=one_cell HZA.out.eb2;have f3:=one_fr HZA.out.eb2;clear hkb hbl hz hg hok h1 h2 hseq HI0 hbb far HXX
   gi_wp2
   exact HE.out.2
  ·have hck2:c≤k:=by omega
   have hck3:¬(k:Int)<(c:Int):=hck;obtain⟨a,ha⟩:∃a,z.es[c]?=some a:=⟨_,List.getElem?_eq_getElem (by rw[hok.el];exact hcl2)⟩;cases hf:lfm s z.st y with
   |none=>
    have HT:=Hd (take_none hg c y hf);have HNO:=Hd (bstep_no (k:=k) (c:=c) (x:=y) hok (fun u hu=>by rw[hf]at hu;cases hu));clear hkb hbl hz hg hok h1 h2 hseq HI0 hbb far ha hf
    gi_wp2_with fail
    refine⟨rfl,(CallsIn.inRound l' (callsIn_wide.2 HT.out)).mono ?_⟩;rintro e A2 ⟨rfl,hbA⟩;have HE:=Hd (HXX.out A2 hbA HNO.out);have d2:=one_cell HE.out.1.nb2;have f2:=one_fr HE.out.1.nb2;have d3:=one_cell HE.out.1.eb2;have f3:=one_fr HE.out.1.eb2;clear hbA HT HXX dc db
    gi_wp2
    exact HE.out.2
   |some u=>
    obtain⟨g,u2⟩:=u;obtain⟨q1,q2,q3⟩:=lfm_some hf;obtain⟨m,hm⟩:=HMK.out _ _ q3;simp only at hm;subst hm;cases hbt:PM.bt m c with
    |false=>
     have HT:=Hd (take_not hg c (by omega) y g m hf hbt);have HNO:=Hd (bstep_no (k:=k) (c:=c) (x:=y) hok (fun u hu=>by rw[hf]at hu;cases hu;exact hbt));clear hkb hbl hz hg hok h1 h2 hseq HI0 hbb far ha hf q1 q2 q3 hbt
     gi_wp2_with fail
     refine⟨rfl,(CallsIn.inRound l' (callsIn_wide.2 HT.out)).mono ?_⟩;rintro e A2 ⟨rfl,hbA⟩;have HE:=Hd (HXX.out A2 hbA HNO.out);have d2:=one_cell HE.out.1.nb2;have f2:=one_fr HE.out.1.nb2;have d3:=one_cell HE.out.1.eb2;have f3:=one_fr HE.out.1.eb2;clear hbA HT HXX dc db
     gi_wp2
     exact HE.out.2
    |true=>
     have oka:=hok.ok a (List.mem_of_getElem? ha);have hlf:=lf_le z.st;have hco:=hok.c1;have hsl:=hok.sl;have hyr:=HRZ.out.wr _ (List.mem_of_getElem? q3);have HT:=Hd (take_yes hg c (by omega) a ha y g m hf hbt HRZ.out.rt oka.1 (by have:=oka.2;omega) hyr.1 hyr.2 hok.c0 (by omega));have HST:=Hd (bstep_yes (k:=k) (z:=z) hck2 ha hf hbt);have HOK:=Hd (hok.step HRZ.out hwl ha hf);have HLF:=Hd (lfm_set (s:=s) (z:=z) q1 hok.sl);have HKB:=Hd (And.intro hkb (And.intro hbl hz));clear hkb hbl hz hg hok h1 h2 hseq HI0 hbb far ha hf q1 q2 q3 hbt oka hlf hco hsl hyr HXX
     gi_wp2_with fail
     refine⟨rfl,(CallsIn.inRound l' (callsIn_wide.2 HT.out)).mono ?_⟩;rintro e A2 ⟨rfl,hg2,hk2⟩;rw[HLF.out]at hg2
     have HE:Hid (Kept (fun i=>F i∨(i<w.heap.size∨i=c1)) A A2∧LI s k b eb mb vc (.slice aw s.ws.length kw) Z (pre++[((c:Int),y)]) F A2):=by
      refine⟨Kept.ofKp hk2 (fun i _ hf e=> ?_),⟨HKB.out.1.1.trans hk2 (fun _ _ h=>h),HKB.out.1.2⟩,HKB.out.2.1,_,by rw[bfold_snoc,HKB.out.2.2,Option.bind_some,HST.out],hg2,HOK.out⟩;rcases hf with hf|hf
      ·exact HKB.out.1.2 i (HKB.out.2.1 i e) hf
      ·exact(HG.out i hf).2 e
     clear hg2 hk2 HT HKB dc db
     gi_wp2
     exact HE.out
 case done=>
  rintro Dd xs F A hD hFD rfl ⟨hkb,hbl,z,hz,hg,hok⟩ hK;have far:∀i,bp b eb mb i→w.heap.size+1+1+1<i∧i≠bb:=fun i hi=>by have:=HN2.out i hi;omega
  have hDz:∀i,i<Z.heap.size→Dd≠i:=fun i hi e=>hkb.2 i hi (e▸hFD);have HZA:=Hd (HZ3.out.kp hkb.1 (fun i hi=>(far i hi).1));have hbb:A.heap[bb]?=some (.cells #[.pointer (some ⟨b,0,none⟩)] 242 (0,0)):=(hkb.1.block bb (Array.getElem?_eq_some_iff.1 HB3.out).1 (fun e=>(far bb e).2 rfl)).trans HB3.out;have dc:=one_cell HZA.out.cb;have db:=one_cell hbb;rw[HBF.out]at hz;obtain⟨st,hst,rfl⟩:=Option.map_eq_some_iff.1 hz;have HLM:=Hd (leastm_any k (bgn_bs hst) aw kw hg HLL.out);obtain⟨e1,e2⟩:=HR1.out st hst;rw[←e1]at HLM;have HRR:Hid (r2=0):=e2;have HDZ:=Hd hDz;clear hkb hbl hz hg hok hseq HI0 hbb far hst e1 e2 hDz
  gi_wp2_with fail
  refine⟨rfl,(callsIn_wide.2 HLM.out).mono ?_⟩;rintro e A2 ⟨rfl,hbA⟩;have HZB:=Hd (HZA.out.next hbA);have hKA:A2.heap[Dd]?=some (.deferred (some [])):=(hbA.block Dd (Array.getElem?_eq_some_iff.1 hK).1).trans hK;have d2:=one_cell HZB.out.nb2;have f2:=one_fr HZB.out.nb2;have d3:=one_cell HZB.out.eb2;have f3:=one_fr HZB.out.eb2;have HE:=Hd (HZB.out.put r1 0);clear hbA HLM dc db hK
  have HK2:Hid (((A2.setCell ⟨w.heap.size+1+1,0,none⟩ (.int .i64 r1)).setCell ⟨w.heap.size+1+1+1,0,none⟩ (.int .i64 0)).heap[Dd]?=some (.deferred (some []))):=(HE.out.2.2.block Dd (Array.getElem?_eq_some_iff.1 hKA).1 (fun e=>by
   have hzs:=HZ3.out.size;rcases e with e|e
   ·exact HDZ.out _ (by omega) e
   ·exact HDZ.out _ hzs e)).trans hKA
  have HF:=Hd (ends_least (HE.out.2.2.below HZB.out.bel HZB.out.bel.size (fun i hi e=>by omega)) HE.out.1 HE.out.2.1 (HDZ.out _ (by have:=HZ3.out.size;omega)) (HDZ.out _ HZ3.out.size) (by have:=hD;have:=HZ3.out.size;omega));clear HE HZB hKA
  gi_wp2
  refine⟨by simp,.inl ⟨_,_,rfl,run_takeDeferred HK2.out,?_⟩⟩;exact⟨_,ret_least Tryz.results134 rfl rfl HF.out.1 HF.out.2.1,by rw[HRR.out],HF.out.2.2⟩
 case stop=>
  rintro Dd c pre F A hD hFD hSp ⟨rfl,hno,hsz,hkb,hr1,hr2⟩ hK
  have hbn:bgn s (k:Int) p=none:=by
   have:=bfold_pre hSp hno;rw[HBF.out]at this;cases e:bgn s (k:Int) p with
   |none=>rfl
   |some st=>rw[e]at this;cases this
  obtain⟨e1,e2⟩:=HR2.out hbn;have HRR:=Hd (And.intro e1 e2);have hDz:∀i,i<Z.heap.size→Dd≠i:=fun i hi e=>hkb.2 i hi (e▸hFD)
  have hbA:Below w.heap.size w A:=hkb.1.below HZ3.out.bel HZ3.out.bel.size (fun i hi e=>by
   rcases e with e|e
   ·have:=HN2.out i e;omega
   ·omega)
  have HF:=Hd (ends_least hbA hr1 hr2 (hDz _ (by omega)) (hDz _ hsz) (by have:=HZ3.out.size;omega));clear hkb hseq HI0 hno hSp hr1 hr2 hbn e1 e2 hDz hbA
  gi_wp2
  refine⟨by simp,.inl ⟨_,_,rfl,run_takeDeferred hK,?_⟩⟩;exact⟨_,ret_least Tryz.results134 rfl rfl HF.out.1 HF.out.2.1,by rw[HRR.out.1,HRR.out.2],HF.out.2.2⟩
theorem least_yes(s:Sn)(D:Nat→Prop)(vc vw vp:Value)(k:Nat)(p:List (List Int))(st:List Bool)(w:World)(hc:R2 D w vc s.cs)(hw:R2 D w vw s.ws)(hp:RL D w vp p)(hb:bgn s (k:Int) p=some st)(_hpl:p.length≤1000)(hll:∀l∈p,l.length≤1000):
  Calls Tryz.prog 134 #[.agg (nv s.st vc vw).toArray,.int .i64 (k:Int),vp] w fun e w'=>e=.returned (.tuple #[.int .i64 (lsv s k p st),.int .i64 0])∧Below w.heap.size w w':=by
 have h:=bgn_bs hb;exact least_in s D vc vw vp k p w hc hw hp h.rg h.pc.symm h.kl hll _ _ (fun st' h'=>by rw[hb]at h';cases h';exact⟨rfl,rfl⟩) (fun h'=>by rw[hb]at h';cases h')
theorem least_no(s:Sn)(D:Nat→Prop)(vc vw vp:Value)(car:Int)(p:List (List Int))(w:World)(hc:R2 D w vc s.cs)(hw:R2 D w vw s.ws)(hp:RL D w vp p)(hb:bgn s car p=none)(_hpl:p.length≤1000)(hll:∀l∈p,l.length≤1000):
  Calls Tryz.prog 134 #[.agg (nv s.st vc vw).toArray,.int .i64 car,vp] w fun e w'=>e=.returned (.tuple #[.int .i64 0,.int .i64 9])∧Below w.heap.size w w':=by
 by_cases hn:rgt s=true∧p.length=s.cs.length∧0≤car∧car<(p.length:Int)
 ·obtain⟨h1,h2,h3,h4⟩:=hn;obtain⟨k,rfl⟩:∃k:Nat,car=(k:Int):=⟨car.toNat,by omega⟩;exact least_in s D vc vw vp k p w hc hw hp h1 h2 (by omega) hll _ _ (fun st' h'=>by rw[hb]at h';cases h') (fun _=>⟨rfl,rfl⟩)
 ·exact least_out s D vc vw vp car p w hc hw hp hn
end Go.Proofs.YtnkelgdnglaafaaGreat
