import Derived.Test.YtlajleogofmkcaaGreatQ15
import Derived.Deep.DeepCutAuto
import Derived.Maps.Keyed
import Derived.Maps.RangeRun
import Derived.Deep.CutBlock
import Derived.Shelf.Abstract
set_option maxHeartbeats 8000000
set_option maxRecDepth 100000
namespace Go.Proofs.YtlajleogofmkcaaGreat
open Go.RowKit Go.Shelf Go.ChangeMaps Go.MapKept
def M0(W:World)(m:Nat):Prop:=W.heap[m]?=some (.map #[] 0)
section
variable {W W':World} {m n g1 g2:Nat} {s:St}
theorem M0.lt(h:M0 W m):m<W.heap.size:=(Array.getElem?_eq_some_iff.1 h).1
theorem M0.below'(h:M0 W m)(hb:Below W.heap.size W W'):M0 W' m:=(hb.block m h.lt).trans h
theorem M0.range(h:M0 W m):(Instr.range 125 (.map (some m))).run Tryz.prog W=.ok (.pointer (some ⟨W.heap.size,0,none⟩)) (W.alloc (.mapIter (some m) 0 #[] 0)):=run_range_map W _ _ _ m _ _ Tryz.underlying125 h
theorem M0.next(h:M0 W m)(ty:TypeId):(Instr.next (.pointer (some ⟨W.heap.size,0,none⟩)) false ty).run Tryz.prog (W.alloc (.mapIter (some m) 0 #[] 0))=.ok (.tuple #[.bool false]) (W.alloc (.mapIter (some m) 0 #[] 0)):=by
 have h1:(W.alloc (.mapIter (some m) 0 #[] 0)).heap[W.heap.size]?=some (.mapIter (some m) 0 #[] 0):=heap_alloc_new W _;have h2:(W.alloc (.mapIter (some m) 0 #[] 0)).heap[m]?=some (.map #[] 0):=(heap_alloc_old W _ h.lt).trans h;rcases run_next_at (P:=Tryz.prog) _ ty W.heap.size m 0 0 #[] #[] 0 h1 h2 (by simp) (Nat.le_refl _)with⟨_,hr⟩|⟨e,he,_⟩
 ·exact hr
 ·simp[leftOf]at he
theorem M0.len(h:M0 W m)(ty:TypeId):(Builtin.len_ #[125] ty #[.map (some m)]).run Tryz.prog W=.ok (.int .i64 0) W:=by
 simp[Builtin.len_,run_underlying Tryz.underlying125,MapKept.run_getObj_map h,goInt,Result.andThen]
theorem mkMap0(W:World):(Instr.makeMap 125 (some (.int .i64 0))).run Tryz.prog W=.ok (.map (some W.heap.size)) (W.alloc (.map #[] 0)):=by
 have u:=Tryz.underlying125;simp[Instr.makeMap,run_underlying u,go_sem]
theorem zages_any(a:Option Addr)(c:Nat)(W:World):Calls Tryz.prog 63 #[.slice a 0 c] W fun e w'=>∃m,e=.returned (.map (some m))∧M0 w' m∧Below W.heap.size W w':=by
 have HM:Hid (M0 (W.alloc (.map #[] 0)) W.heap.size):=World.alloc_heap_new W _;have HB0:Hid (Below W.heap.size W (W.alloc (.map #[] 0))):=(Below.refl _ W).alloc (Nat.le_refl _) _;have hmk:=mkMap0
 go_enter Tryz.func63,Tryz.ntmps63
 go_wp2;clear hmk
 go_loopw [11] (fun iv wr=>wr=W.alloc (.map #[] 0)∧iv=.int .i64 0) (fun _ _=>0)
 case atStart=>exact⟨rfl,rfl⟩
 case round=>
  obtain⟨rfl,rfl⟩:=hrel;go_wp2;go_ret;exact⟨_,rfl,HM.out,HB0.out⟩
theorem zvanishes_any(h:M0 W m)(v x:Value):Calls Tryz.prog 65 #[v,.map (some m),x] W fun e w'=>e=.returned (.bool false)∧Below W.heap.size W w':=by
 have hrg:=h.range;have hnx:=fun ty=>h.next ty;have HB0:Hid (Below W.heap.size W (W.alloc (.mapIter (some m) 0 #[] 0))):=(Below.refl _ W).alloc (Nat.le_refl _) _;clear h
 go_enter Tryz.func65,Tryz.ntmps65
 go_wp2;clear hrg
 go_loopw [12] (fun _ wr=>wr=W.alloc (.mapIter (some m) 0 #[] 0)) (fun _ _=>0)
 case atStart=>exact rfl
 case round=>
  subst hrel;go_wp2;go_ret;exact⟨rfl,HB0.out⟩
theorem zisYoung_any(h:M0 W m)(x:Value):Calls Tryz.prog 67 #[x,.map (some m)] W fun e w'=>e=.returned (.bool false)∧Below W.heap.size W w':=by
 have hrg:=h.range;have hnx:=fun ty=>h.next ty;have HB0:Hid (Below W.heap.size W (W.alloc (.mapIter (some m) 0 #[] 0))):=(Below.refl _ W).alloc (Nat.le_refl _) _;clear h
 go_enter Tryz.func67,Tryz.ntmps67
 go_wp2;clear hrg
 go_loopw [12] (fun _ wr=>wr=W.alloc (.mapIter (some m) 0 #[] 0)) (fun _ _=>0)
 case atStart=>exact rfl
 case round=>
  subst hrel;go_wp2;go_ret;exact⟨rfl,HB0.out⟩
theorem quiet_mid{C:World→Prop}{K:Act→Prop}{o:Oper}{a:Act}(ty:TypeId)(x:Operand)(g f:Nat)(cs:List Value){d:TypeDesc}(hu:Tryz.prog.underlying ty=some d)(hd:d.isRow=true)(hi:(Tryz.prog.info? ty).map (·.size)=some cs.length)(ho:o.op=.load ty x)(hx:a.eval x=.pointer (some ⟨g,f,none⟩))(hr:∀w,C w→w.rangeAt g f cs)
  (h:K (a.put o.dst (.agg cs.toArray))):o.quiet Tryz.prog a C K:=
 quiet_val _ (fun w hw=>by unfold execOp;simp only[ho,hx,Sem.run_bind,Sem.run_pure,Result.andThen_ok,Instr.loadAt,Instr.sureAddr,run_loadVar_mid (P:=Tryz.prog) w g f ty cs _ (hr w hw) hu hd hi]) h
theorem zleaps_any(hs:rightB s=true)(hn:(n:Int)=s.ca)(h1:ZK W g1 n)(h2:ZK W g2 n):
  Calls Tryz.prog 64 #[.agg (sv s).toArray,.slice (some ⟨g1,0,none⟩) n n,.slice (some ⟨g2,0,none⟩) n n] W fun e w'=>e=.returned (.bool false)∧Below W.heap.size W w':=by
 have hb0:=(Below.refl W.heap.size W).alloc (Nat.le_refl _) (.cells (sv s).toArray 23);have HA:=Hd (h1.below' hb0);have HBB:=Hd (h2.below' hb0);have HS:=Hd (SB.new W s);have HB:=Hd hb0;have hr:=right_any s (W.alloc (.cells (sv s).toArray 23));rw[hs]at hr;have HR:=Hd hr;have HSF:=Hd (zsafe_any hs);have hn8:n≤8:=by obtain⟨⟩:=(rightB_iff s).1 hs;omega
 have d2:((n:Int) !=s.ca)=false:=by simpa using hn
 clear hs hr hb0 h1 h2 hn
 go_enter Tryz.func64,Tryz.ntmps64
 go_wp2_with (refine wpList_load23 rfl _ rfl W.heap.size s rfl HS.out ?_)
 refine HR.out.mono ?_;rintro e W1 ⟨rfl,hb⟩;have HB1:=Hd (below_class HB.out hb);have HA1:=Hd (HA.out.below' hb);have HBB1:=Hd (HBB.out.below' hb);have HS1:=Hd (HS.out.below' hb);have m1:W1.cell? ⟨W.heap.size,1,none⟩=some (.int .i64 s.ca):=HS1.out.cell 1;clear hb HA HBB HS HB HR
 go_wp2_with fail
 clear d2 m1
 go_loopw [27] (fun iv wr=>∃i:Nat,i≤n∧iv=.int .i64 (i:Int)∧Hid (Below W1.heap.size W1 wr)) (fun iv _=>n-(intOf iv).toNat)
 case atStart=>exact⟨0,Nat.zero_le _,rfl,Below.refl _ _⟩
 case round=>
  obtain⟨i,hi,rfl,HL⟩:=hrel;by_cases hlt:i<n
  ·have hz:(i:Int)<(n:Int):=by omega
   have hix:∀(W:World) (g:Nat),(Instr.indexAt 43 (.slice (some ⟨g,0,none⟩) n n) (.int .i64 (i:Int))).run Tryz.prog W=.ok (.pointer (some ⟨g,i*8,none⟩)) W:=fun W g=>ixKz W hlt;have HRA:Hid (∀w',Below wr.heap.size wr w'→w'.rangeAt g1 (i*8) zkw):=fun w' hw=>((HA1.out.below' HL.out).below' hw).range hlt;have HRB:Hid (∀w',Below wr.heap.size wr w'→w'.rangeAt g2 (i*8) zkw):=fun w' hw=>((HBB1.out.below' HL.out).below' hw).range hlt;have HSB:Hid (∀w',Below wr.heap.size wr w'→SB w' W.heap.size s):=fun w' hw=>(HS1.out.below' HL.out).below' hw
   go_upto_region 6 with fail
   refine wp_region_quiet (C:=fun w'=>Below wr.heap.size wr w') (by kernel_rfl) (by kernel_rfl) ((Below.refl _ _).drew) ?_;simp only[];unfold wpQuiet;generalize hK:wpQuiet _ _ _ _ _=K;rw[if_pos (by go_simp)];refine quiet_load23r _ _ s rfl rfl HSB.out ?_;go_simp;subst hK
   iterate 3 (unfold wpQuiet;generalize hK:wpQuiet _ _ _ _ _=K;go_simp;refine⟨_,fun _ _=>rfl,?_⟩;subst hK)
   unfold wpQuiet;generalize hK:wpQuiet _ _ _ _ _=K;rw[if_pos (by go_simp)];refine quiet_mid 48 _ _ _ zkw Tryz.underlying48 rfl infoZk rfl rfl HRA.out ?_;go_simp;subst hK
   iterate 3 (unfold wpQuiet;generalize hK:wpQuiet _ _ _ _ _=K;go_simp;refine⟨_,fun _ _=>rfl,?_⟩;subst hK)
   unfold wpQuiet;generalize hK:wpQuiet _ _ _ _ _=K;rw[if_pos (by go_simp)];refine quiet_mid 48 _ _ _ zkw Tryz.underlying48 rfl infoZk rfl rfl HRB.out ?_;go_simp;subst hK;unfold wpQuiet;generalize hK:wpQuiet _ _ _ _ _=K;go_simp;refine⟨_,fun w' hw=>(HSF.out w').mono fun e w'' hh=>⟨hh.1,below_class hw hh.2⟩,?_⟩;subst hK;unfold wpQuiet;generalize hK:wpQuiet _ _ _ _ _=K;go_simp;refine⟨_,fun _ _=>rfl,?_⟩;subst hK;refine wpQuiet_nil ?_;intro W7 hb7;have HL7:=Hd (below_class HL.out hb7);clear hb7 HSB HRA HRB HL;go_wp2;go_roundw
   case rel=>exact⟨i+1,by omega,by go_num,HL7⟩
   case measure=>simp[intOf];omega
  ·have hz:¬(i:Int)<(n:Int):=by omega
   go_wp2;go_ret;exact⟨rfl,below_class HB1.out HL.out⟩
end
end Go.Proofs.YtlajleogofmkcaaGreat
namespace Go.Proofs.YtlajleogofmkcaaGreat
open Go.RowKit Go.Shelf Go.ChangeMaps Go.MapKept
section
variable {W W':World} {n g1 g2:Nat} {s:St}
theorem zstick_any(hs:rightB s=true)(hn:(n:Int)=s.ca)(h1:ZK W g1 n)(h2:ZK W g2 n)(a1 a2:Option Addr)(c1 c2:Nat):
  Calls Tryz.prog 44 #[.agg (sv s).toArray,.slice (some ⟨g1,0,none⟩) n n,.slice (some ⟨g2,0,none⟩) n n,.slice a1 0 c1,.slice a2 0 c2,.bool false] W fun e w'=>e=.returned (.slice none 0 0)∧Below W.heap.size W w':=by
 have hb0:=(Below.refl W.heap.size W).alloc (Nat.le_refl _) (.cells (sv s).toArray 23);have HA:=Hd (h1.below' hb0);have HBB:=Hd (h2.below' hb0);have HS:=Hd (SB.new W s);have HB:=Hd hb0;have HN:=Hd hn;have HR:=Hd hs;clear hs hn h1 h2 hb0
 go_enter Tryz.func44,Tryz.ntmps44
 go_wp2_with fail
 refine (zages_any a1 c1 _).mono ?_;rintro e W1 ⟨m1,rfl,hm1,hb1⟩;have HM1:=Hd hm1;have HA1:=Hd (HA.out.below' hb1);have HBB1:=Hd (HBB.out.below' hb1);have HS1:=Hd (HS.out.below' hb1);have HB1:=Hd (below_class HB.out hb1);clear hm1 hb1 HA HBB HS HB
 go_wp2_with fail
 refine (zages_any a2 c2 _).mono ?_;rintro e W2 ⟨m2,rfl,hm2,hb2⟩;have HM2:=Hd hm2;have HM12:=Hd (HM1.out.below' hb2);have HA2:=Hd (HA1.out.below' hb2);have HBB2:=Hd (HBB1.out.below' hb2);have HS2:=Hd (HS1.out.below' hb2);have HB2:=Hd (below_class HB1.out hb2);clear hm2 hb2 HA1 HBB1 HS1 HB1 HM1
 go_upto_region 2 with (fail)
 go_cut [15] (fun s15 W3=>∃bk:Nat,s15=.pointer (some ⟨bk,0,none⟩)∧Hid (W3.heap[bk]?=some (.cells #[.bool false,.bool false,.bool false,.bool false,.bool false] 131 (0,0)))∧Hid (Below W.heap.size W W3))
 case first=>
  go_wp2_with (refine wpList_load23 rfl _ rfl W.heap.size s rfl HS2.out ?_)
  refine (zleaps_any HR.out HN.out HA2.out HBB2.out).mono ?_;rintro e W3 ⟨rfl,hb⟩;have HM13:=Hd (HM12.out.below' hb);have HM23:=Hd (HM2.out.below' hb);have HB3:=Hd (below_class HB2.out hb);clear hb HM12 HM2 HA2 HBB2 HS2 HB2
  go_wp2_with fail
  refine (zvanishes_any HM13.out _ _).mono ?_;rintro e W4 ⟨rfl,hb⟩;have HM24:=Hd (HM23.out.below' hb);have HB4:=Hd (below_class HB3.out hb);have hln:=(HM23.out.below' hb).len 3;clear hb HM13 HM23 HB3
  go_wp2_with fail
  refine (zisYoung_any HM24.out _).mono ?_;rintro e W5 ⟨rfl,hb⟩;have HB5:=Hd (below_class HB4.out hb);clear hb hln HB4 HM24;go_wp2;go_meet
  case rel=>exact⟨_,rfl,(show Hid _ from World.alloc_heap_new W5 _),HB5.out.alloc (HB5.out.size) _⟩
 case rest=>
  obtain⟨bk,rfl,H5,HB3⟩:=hcut;clear HM12 HM2 HA2 HBB2 HS2 HB2;have c0:wc.cell? ⟨bk,0,none⟩=some (.bool false):=by simp[World.cell?,show wc.heap[bk]?=_ from H5.out]
  have c1:wc.cell? ⟨bk,1,none⟩=some (.bool false):=by simp[World.cell?,show wc.heap[bk]?=_ from H5.out]
  have c2:wc.cell? ⟨bk,2,none⟩=some (.bool false):=by simp[World.cell?,show wc.heap[bk]?=_ from H5.out]
  have c3:wc.cell? ⟨bk,3,none⟩=some (.bool false):=by simp[World.cell?,show wc.heap[bk]?=_ from H5.out]
  have c4:wc.cell? ⟨bk,4,none⟩=some (.bool false):=by simp[World.cell?,show wc.heap[bk]?=_ from H5.out]
  go_wp2_with fail
  clear c0 c1 c2 c3 c4 H5
  go_loopw [16,49] (fun ov iv wr=>wr=wc∧ov=.slice none 0 0∧∃k:Nat,k≤5∧iv=.int .i64 (k:Int)) (fun _ iv _=>5-(intOf iv).toNat)
  case atStart=>exact⟨rfl,rfl,0,by omega,rfl⟩
  case round=>
   obtain⟨rfl,rfl,k,hk,rfl⟩:=hrel;have hk6:k=0∨k=1∨k=2∨k=3∨k=4∨k=5:=by omega
   have hx0:∀W:World,(Instr.index 131 (.agg #[.bool false,.bool false,.bool false,.bool false,.bool false]) (.int .i64 0)).run Tryz.prog W=.ok (.bool false) W:=fun W=>by kernel_rfl
   have hx1:∀W:World,(Instr.index 131 (.agg #[.bool false,.bool false,.bool false,.bool false,.bool false]) (.int .i64 1)).run Tryz.prog W=.ok (.bool false) W:=fun W=>by kernel_rfl
   have hx2:∀W:World,(Instr.index 131 (.agg #[.bool false,.bool false,.bool false,.bool false,.bool false]) (.int .i64 2)).run Tryz.prog W=.ok (.bool false) W:=fun W=>by kernel_rfl
   have hx3:∀W:World,(Instr.index 131 (.agg #[.bool false,.bool false,.bool false,.bool false,.bool false]) (.int .i64 3)).run Tryz.prog W=.ok (.bool false) W:=fun W=>by kernel_rfl
   have hx4:∀W:World,(Instr.index 131 (.agg #[.bool false,.bool false,.bool false,.bool false,.bool false]) (.int .i64 4)).run Tryz.prog W=.ok (.bool false) W:=fun W=>by kernel_rfl
   rcases hk6 with rfl|rfl|rfl|rfl|rfl|rfl
   ·go_wp2;go_roundw
    case rel=>exact⟨trivial,rfl,1,by omega,rfl⟩
    case measure=>simp[intOf]
   ·go_wp2;go_roundw
    case rel=>exact⟨trivial,rfl,2,by omega,rfl⟩
    case measure=>simp[intOf]
   ·go_wp2;go_roundw
    case rel=>exact⟨trivial,rfl,3,by omega,rfl⟩
    case measure=>simp[intOf]
   ·go_wp2;go_roundw
    case rel=>exact⟨trivial,rfl,4,by omega,rfl⟩
    case measure=>simp[intOf]
   ·go_wp2;go_roundw
    case rel=>exact⟨trivial,rfl,5,by omega,rfl⟩
    case measure=>simp[intOf]
   ·go_wp2;go_ret;exact⟨rfl,HB3.out⟩
end
end Go.Proofs.YtlajleogofmkcaaGreat
namespace Go.Proofs.YtlajleogofmkcaaGreat
open Go.RowKit
section
variable {W0:World} {K:Act→Prop} {o:Oper} {a:Act}
theorem calm_mid(ty:TypeId)(x:Operand)(g f:Nat)(cs:List Value){d:TypeDesc}(hu:Tryz.prog.underlying ty=some d)(hd:d.isRow=true)(hi:(Tryz.prog.info? ty).map (·.size)=some cs.length)(ho:o.op=.load ty x)(hx:a.eval x=.pointer (some ⟨g,f,none⟩))(hr:∀w,Below W0.heap.size W0 w→w.rangeAt g f cs)
  (h:K (a.put o.dst (.agg cs.toArray))):Oper.calm Tryz.prog W0 o a K:=
 calm_val _ (fun w hw=>by unfold execOp;simp only[ho,hx,Sem.run_bind,Sem.run_pure,Result.andThen_ok,Instr.loadAt,Instr.sureAddr,run_loadVar_mid (P:=Tryz.prog) w g f ty cs _ (hr w hw) hu hd hi]) h
end
section
variable {W0:World} {K:Act→Prop} {o:Oper} {a:Act}
theorem calm_loadBw(x:Operand)(b k:Nat){v:Value}(ho:o.op=.load 4 x)(hx:a.eval x=.pointer (some ⟨b,k,none⟩))(hr:∀w,Below W0.heap.size W0 w→w.cell? ⟨b,k,none⟩=some v)
  (h:K (a.put o.dst v)):Oper.calm Tryz.prog W0 o a K:=
 calm_val _ (fun w hw=>by have hc:=hr w hw;unfold execOp;simp only[ho,hx,Sem.run_bind,Sem.run_pure];simp[go_sem,hc]) h
end
theorem infoCmd:(Tryz.prog.info? 103).map (·.size)=some 2:=by kernel_rfl
section
variable {W W':World} {cb n i:Nat} {s:St}
theorem mstep_any(h:MR W cb n)(hi:i<n)(s:St):Calls Tryz.prog 43 #[.pointer (some ⟨cb,i*11,none⟩),.agg (sv s).toArray,.agg #[.bool false,.int .i64 (-1)]] W fun e w'=>e=.returned (.tuple #[])∧MR w' cb n∧Below W.heap.size W w':=by
 have hb:Below W.heap.size W ((W.alloc (.cells (sv s).toArray 23)).alloc (.cells #[.bool false,.int .i64 (-1)] 103)):=((Below.refl _ W).alloc (Nat.le_refl _) _).alloc (by simp) _;have HB:=Hd hb;have HM:=Hd (h.below' hb);have HS:=Hd ((SB.new W s).alloc (.cells #[.bool false,.int .i64 (-1)] 103));have HC:=Hd (CBm.new (W.alloc (.cells (sv s).toArray 23)) (n:=W.heap.size+1) (by simp));clear h hb
 go_enter Tryz.func43,Tryz.ntmps43
 go_upto_region 1 with fail
 generalize (W.alloc (.cells (sv s).toArray 23)).alloc (.cells #[.bool false,.int .i64 (-1)] 103)=V at HB HM HS HC⊢;have HS1:Hid (∀w,Below V.drew.heap.size V.drew w→w.rangeAt W.heap.size 0 (sv s)):=fun w hw=>(HS.out.below' ((Below.refl _ V).drew.trans hw)).range;have HM1:Hid (∀w,Below V.drew.heap.size V.drew w→MR w cb n):=fun w hw=>HM.out.below' ((Below.refl _ V).drew.trans hw)
 have HC1:Hid (∀w,Below V.drew.heap.size V.drew w→w.rangeAt (W.heap.size+1) 0 [.bool false,.int .i64 (-1)]):=fun w hw=>by
  have hc:=((Below.refl V.heap.size V).drew.trans hw).block _ (Array.getElem?_eq_some_iff.1 HC.out).1;intro j u hu;have hc:=hc.trans HC.out;simp[World.cell?,hc];simpa using hu
 refine wp_region_tail 12 (by kernel_rfl) (by kernel_rfl) ?_;simp only[List.take_succ_cons,List.take_zero,List.drop_succ_cons,List.drop_zero];unfold wpCalm;generalize hK:wpCalm _ _ _ _ _=K;unfold Oper.calm;go_simp;refine⟨_,fun _ _=>rfl,?_⟩;subst hK;unfold wpCalm;generalize hK:wpCalm _ _ _ _ _=K;rw[if_pos (by go_simp)];refine calm_load23b _ _ s rfl rfl HS1.out ?_;go_simp;subst hK
 iterate 3 (unfold wpCalm;generalize hK:wpCalm _ _ _ _ _=K;unfold Oper.calm;go_simp;refine⟨_,fun _ _=>rfl,?_⟩;subst hK)
 unfold wpCalm;generalize hK:wpCalm _ _ _ _ _=K;rw[if_pos (by go_simp)];refine calm_mid 48 _ _ _ zkw Tryz.underlying48 rfl infoZk rfl rfl (fun w hw=>(HM1.out w hw).range hi) ?_;go_simp;subst hK;unfold wpCalm;generalize hK:wpCalm _ _ _ _ _=K;rw[if_pos (by go_simp)];refine calm_mid 103 _ _ _ [.bool false,.int .i64 (-1)] Tryz.underlying103 rfl infoCmd rfl rfl HC1.out ?_;go_simp;subst hK
 iterate 3 (unfold wpCalm;generalize hK:wpCalm _ _ _ _ _=K;unfold Oper.calm;go_simp;refine⟨_,fun _ _=>rfl,?_⟩;subst hK)
 unfold wpCalm;generalize hK:wpCalm _ _ _ _ _=K;rw[if_pos (by go_simp)];refine calm_loadBw _ _ _ rfl rfl (fun w hw=>(HM1.out w hw).cell hi (j:=10) (by decide)) ?_;go_simp;subst hK;unfold wpCalm;generalize hK:wpCalm _ _ _ _ _=K;unfold Oper.calm;go_simp;refine⟨_,fun w' hw=>zstep_any s w',?_⟩;subst hK;refine wpCalm_nil ?_;intro V2 hb2;have HB2:=Hd ((HB.out.drew).trans (hb2.mono (by have:=HB.out.size;exact this)));have HM2:=Hd (HM1.out V2 hb2);clear hb2 HB HM HS HC HS1 HM1 HC1
 go_wp2_with (refine wpList_store_mid rfl 48 _ _ rfl cb (i*11) zkw.toArray rfl rfl (HM2.out.there hi) infoZk (by simp[zkw,Value.oneCell']) ?_;rw[setCells_id (HM2.out.range hi)])
 go_end0
 exact⟨rfl,HM2.out,HB2.out⟩
end
open Go.Shelf
structure Ca where
 fl:Int
 ca:Int
 ag:Int
 up:Bool
def cav(y:Ca):List Value:=[.int .i64 y.fl,.int .i64 y.ca,.int .i64 y.ag,.bool y.up]
def ca0:Ca:=⟨0,0,0,false⟩
def RC(D:Nat→Prop)(W:World)(v:Value)(L:List Ca):Prop:=
 ∃a cap,v=.slice a L.length cap∧L.length≤cap∧(L=[]∨∃g o,a=some ⟨g,o,none⟩∧D g∧g<W.heap.size∧∀(i:Nat) y,L[i]?=some y→W.rangeAt g (o+i*4) (cav y))
section
variable {D D':Nat→Prop} {W W':World} {v:Value} {L:List Ca}
theorem RC.keep(h:RC D W v L)(hs:W.heap.size≤W'.heap.size)(hk:∀g,D g→g<W.heap.size→W'.heap[g]?=W.heap[g]?):RC D W' v L:=by
 obtain⟨a,cap,rfl,hc,h⟩:=h;refine⟨a,cap,rfl,hc,?_⟩;rcases h with h|⟨g,o,rfl,hd,hlt,h⟩
 ·exact .inl h
 ·exact .inr ⟨g,o,rfl,hd,Nat.lt_of_lt_of_le hlt hs,fun i y hy j u hu=>(World.cell?_of_block (a:=⟨g,o+i*4+j,none⟩) (hk g hd hlt)).trans (h i y hy j u hu)⟩
theorem RC.below'(h:RC D W v L)(hb:Below W.heap.size W W'):RC D W' v L:=h.keep hb.size fun g _ hlt=>hb.block g hlt
theorem RC.form(h:RC D W v L):∃a cap,v=.slice a L.length cap∧L.length≤cap:=by
 obtain⟨a,cap,h1,h2,_⟩:=h;exact⟨a,cap,h1,h2⟩
theorem RC.at{a:Option Addr}{n cap:Nat}(h:RC D W (.slice a n cap) L){i:Nat}{y:Ca}(hy:L[i]?=some y):∃g o,a=some ⟨g,o,none⟩∧g<W.heap.size∧W.cell? ⟨g,o+i*4,none⟩=some (.int .i64 y.fl)∧W.cell? ⟨g,o+i*4+1,none⟩=some (.int .i64 y.ca)∧W.cell? ⟨g,o+i*4+2,none⟩=some (.int .i64 y.ag)∧W.cell? ⟨g,o+i*4+3,none⟩=some (.bool y.up):=by
 obtain⟨a',cap',e,_,h⟩:=h;cases e;rcases h with h|⟨g,o,rfl,_,hlt,h⟩
 ·rw[h]at hy;simp at hy
 ·have hr:=h i y hy;exact⟨g,o,rfl,hlt,hr 0 _ rfl,hr 1 _ rfl,hr 2 _ rfl,hr 3 _ rfl⟩
end
theorem ixCa(W:World){g o n cap j:Nat}(hj:j<n):(Instr.indexAt 38 (.slice (some ⟨g,o,none⟩) n cap) (.int .i64 (j:Int))).run Tryz.prog W=.ok (.pointer (some ⟨g,o+j*4,none⟩)) W:=by
 rw[run_indexAt_slice W 38 _ n cap .i64 j (by kernel_rfl),if_pos ⟨by omega,by omega⟩,show Tryz.prog.elem 38=33 by kernel_rfl,Tryz.sizeOf33];simp only[Result.andThen_ok,Int.toNat_natCast,Addr.add_mid]
def oldk(p:Ca→Bool)(L:List Ca):Nat→Option (Nat×Ca)
 |0=>none
 |k+1=>match L[k]? with
  |none=>oldk p L k
  |some y=>if p y=true∧(∀x,oldk p L k=some x→x.2.ag<y.ag)then some (k,y)else oldk p L k
section
variable {p:Ca→Bool} {L:List Ca} {k:Nat} {y:Ca}
theorem oldk_not(hy:L[k]?=some y)(h:p y=false):oldk p L (k+1)=oldk p L k:=by
 rw[oldk,hy];simp only;rw[if_neg (fun g=>by rw[h]at g;cases g.1)]
theorem oldk_first(hy:L[k]?=some y)(h:p y=true)(hn:oldk p L k=none):oldk p L (k+1)=some (k,y):=by
 rw[oldk,hy];simp only;rw[if_pos ⟨h,fun x hx=>by rw[hn]at hx;cases hx⟩]
theorem oldk_more{x:Nat×Ca}(hy:L[k]?=some y)(h:p y=true)(hx:oldk p L k=some x)(hl:x.2.ag<y.ag):oldk p L (k+1)=some (k,y):=by
 rw[oldk,hy];simp only;rw[if_pos ⟨h,fun z hz=>by rw[hx]at hz;cases hz;exact hl⟩]
theorem oldk_less{x:Nat×Ca}(hy:L[k]?=some y)(hx:oldk p L k=some x)(hl:¬x.2.ag<y.ag):oldk p L (k+1)=oldk p L k:=by
 rw[oldk,hy];simp only;rw[if_neg (fun g=>hl (g.2 x hx))]
end
def CaB(W:World)(b:Nat)(y:Ca):Prop:=W.heap[b]?=some (.cells (cav y).toArray 33 (0,0))
section
variable {W W':World} {b:Nat} {y:Ca}
theorem CaB.lt(H:CaB W b y):b<W.heap.size:=(Array.getElem?_eq_some_iff.1 H).1
theorem CaB.below'(H:CaB W b y)(hb:Below W.heap.size W W'):CaB W' b y:=(hb.block b H.lt).trans H
theorem CaB.kp{G:Nat→Prop}(H:CaB W b y)(k:Kp G W W')(hG:¬G b):CaB W' b y:=(k.block b H.lt hG).trans H
theorem CaB.new(W:World)(y:Ca):CaB (W.alloc (.cells (cav y).toArray 33)) W.heap.size y:=World.alloc_heap_new W _
theorem CaB.cell(H:CaB W b y)(i:Nat):W.cell? ⟨b,i,none⟩=(cav y)[i]?:=by
 have h:W.heap[b]?=some (.cells (cav y).toArray 33 (0,0)):=H;simp[World.cell?,h]
end
theorem infoCa:(Tryz.prog.info? 33).map (·.size)=some 4:=by kernel_rfl
theorem kp_rowC(w:World)(b:Nat)(cs:Array Value):Kp (fun k=>k=b) w (w.setRow b cs):=⟨rfl,rfl,rfl,by simp[World.setRow],fun k _ hk=>setRow_other w b k cs hk⟩
theorem wpList_storeCa{ops:Array Oper}{rest:List Oper}{op:Oper}{a:Act}{w:World}{Q:Exit→Act→World→Prop}(hgd:op.guard=none)(x y:Operand)(ho:op.op=.store 33 x y)
  (b:Nat) {old:Ca} (z:Ca) (hx:a.eval x=.pointer (some ⟨b,0,none⟩)) (hy:a.eval y=.agg (cav z).toArray) (hL:CaB w b old)
  (hn:∀W',Kp (fun k=>k=b) w W'→CaB W' b z→wpList Tryz.prog ops Q rest (a.put op.dst undef) W'):wpList Tryz.prog ops Q (op::rest) a w:=
 wpList_store_row hgd 33 x y ho b _ hx hy _ _ hL infoCa rfl (by simp[cav,Value.oneCell']) (hn _ (kp_rowC w b _) (setRow_heap w b _ _ _ _ hL))
theorem retCa2{fn:Func}{p t:Tmp}(hf:fn.results= #[.cell p 33,.tmp t]){tmps:Array Value}{w:World}{b:Nat}{y:Ca}{u:Value}(hp:tmps.getD p undef=.pointer (some ⟨b,0,none⟩))(ht:tmps.getD t undef=u)(H:CaB w b y):
  (results fn tmps).run Tryz.prog w=.ok (.tuple #[.agg #[.int .i64 y.fl,.int .i64 y.ca,.int .i64 y.ag,.bool y.up],u]) w:=by
 have hp':tmps[p]?.getD undef=.pointer (some ⟨b,0,none⟩):=by simpa using hp
 have ht':tmps[t]?.getD undef=u:=by simpa using ht
 have H':w.heap[b]?=some (.cells #[.int .i64 y.fl,.int .i64 y.ca,.int .i64 y.ag,.bool y.up] 33 (0,0)):=H;simp[results,hf,hp',ht',asAddr,run_loadVar_row w b 33 33 _ _ _ H' Tryz.underlying33 rfl infoCa]
def PrC(g:Nat)(lb:Array Value)(p:Ca→Bool)(w:World):Prop:=∀(W:World) (x:Ca),Below w.heap.size w W→Calls Tryz.prog g (#[.agg #[.int .i64 x.fl,.int .i64 x.ca,.int .i64 x.ag,.bool x.up]]++lb) W fun e w'=>e=.returned (.bool (p x))∧Below W.heap.size W w'
def ocl(o:Option (Nat×Ca)):Ca:=match o with
 |none=>ca0
 |some x=>x.2
structure Oz(W wr:World)(o:Option (Nat×Ca)):Prop where
 z:CaB wr W.heap.size ca0
 c:CaB wr (W.heap.size+1) (ocl o)
 bel:Below W.heap.size W wr
theorem Oz.next{W wr w':World}{o:Option (Nat×Ca)}(h:Oz W wr o)(hb:Below wr.heap.size wr w'):Oz W w' o:=⟨h.z.below' hb,h.c.below' hb,below_class h.bel hb⟩
theorem oldest_any(D:Nat→Prop)(v:Value)(L:List Ca)(g:Nat)(lb:Array Value)(p:Ca→Bool)(age:Int)(W:World)(eg:∀args w,(callFunc g args).run Tryz.prog w=.ok (.enter g args) w)(h:RC D W v L)(hl:L.length≤200)(hp:PrC g lb p W):
  Calls Tryz.prog 159 #[v,.func (.func g) #[] lb,.int .i64 age] W fun e w'=>e=.returned (.tuple #[.agg #[.int .i64 (ocl (oldk (fun y=>decide (age≤y.ag)&&p y) L L.length)).fl,.int .i64 (ocl (oldk (fun y=>decide (age≤y.ag)&&p y) L L.length)).ca,.int .i64 (ocl (oldk (fun y=>decide (age≤y.ag)&&p y) L L.length)).ag,.bool (ocl (oldk (fun y=>decide (age≤y.ag)&&p y) L L.length)).up],.bool (oldk (fun y=>decide (age≤y.ag)&&p y) L L.length).isSome])∧Below W.heap.size W w':=by
 obtain⟨av,kv,rfl,_⟩:=h.form;have hb0:=((Below.refl W.heap.size W).alloc (Nat.le_refl _) (.cells (cav ca0).toArray 33)).alloc (by simp) (.cells (cav ca0).toArray 33);have h2:=CaB.new (W.alloc (.cells (cav ca0).toArray 33)) ca0;rw[World.size_alloc]at h2;have HO0:Hid (Oz W ((W.alloc (.cells (cav ca0).toArray 33)).alloc (.cells (cav ca0).toArray 33)) none):=⟨(CaB.new W ca0).below' ((Below.refl _ _).alloc (Nat.le_refl _) _),h2,hb0⟩;have HC:=Hd h;have HP:=Hd hp;obtain⟨P,hP⟩:∃P:Ca→Bool,(fun y:Ca=>decide (age≤y.ag)&&p y)=P:=⟨_,rfl⟩;rw[hP];have HPP:Hid (∀y,P y=(decide (age≤y.ag)&&p y)):=fun y=>by rw[←hP]
 obtain⟨r,HR⟩:∃r,Hid (oldk P L L.length=r):=⟨_,Hd rfl⟩;rw[HR.out];clear h hp hb0 h2 hP;change Hid (Oz W ((W.alloc (.cells #[.int .i64 0,.int .i64 0,.int .i64 0,.bool false] 33)).alloc (.cells #[.int .i64 0,.int .i64 0,.int .i64 0,.bool false] 33)) none)at HO0;have hnil:∀W,(binOp .eql 173 (.func (.func g) #[] lb) .nilFunc).run Tryz.prog W=.ok (.bool false) W:=fun W=>by rfl
 go_enter Tryz.func159,Tryz.ntmps159
 go_wp2_with fail
 generalize (W.alloc (.cells #[.int .i64 0,.int .i64 0,.int .i64 0,.bool false] 33)).alloc (.cells #[.int .i64 0,.int .i64 0,.int .i64 0,.bool false] 33)=W1 at HO0⊢
 go_loopw [9,18] (fun fv iv wr=>∃(i:Nat) (o:Option (Nat×Ca)),i≤L.length∧fv=.bool o.isSome∧iv=.int .i64 (i:Int)∧Hid (oldk P L i=o)∧Hid (Oz W wr o)) (fun _ iv _=>L.length-(intOf iv).toNat)
 case atStart=>exact⟨0,none,Nat.zero_le _,rfl,rfl,rfl,HO0⟩
 case round=>
  clear HO0;obtain⟨i,o,hi,rfl,rfl,HK,HO⟩:=hrel;by_cases hlt:i<L.length
  ·have hiz:(i:Int)<(L.length:Int):=by omega
   obtain⟨y,hy⟩:∃y,L[i]?=some y:=⟨_,List.getElem?_eq_getElem hlt⟩;obtain⟨ga,oa,ha,hga,c0,c1,c2,c3⟩:=(HC.out.below' HO.out.bel).at hy;subst ha;have HY:=Hd hy;have hbv:=(Below.refl wr.heap.size wr).alloc (Nat.le_refl _) (.cells #[.int .i64 y.fl,.int .i64 y.ca,.int .i64 y.ag,.bool y.up] 33);have HO1:=Hd (HO.out.next hbv);have HCY:Hid (CaB (wr.alloc (.cells #[.int .i64 y.fl,.int .i64 y.ca,.int .i64 y.ag,.bool y.up] 33)) wr.heap.size y):=CaB.new wr y;have HW1:=Hd (HP.out _ y HO1.out.bel);have HPY:=Hd (HPP.out y);clear hy hga hbv HO;generalize hq:p y=q at HW1 HPY;clear hq;have g0:(wr.alloc (.cells #[.int .i64 y.fl,.int .i64 y.ca,.int .i64 y.ag,.bool y.up] 33)).cell? ⟨wr.heap.size,0,none⟩=some (.int .i64 y.fl):=HCY.out.cell 0;have g1:(wr.alloc (.cells #[.int .i64 y.fl,.int .i64 y.ca,.int .i64 y.ag,.bool y.up] 33)).cell? ⟨wr.heap.size,1,none⟩=some (.int .i64 y.ca):=HCY.out.cell 1;have g2:(wr.alloc (.cells #[.int .i64 y.fl,.int .i64 y.ca,.int .i64 y.ag,.bool y.up] 33)).cell? ⟨wr.heap.size,2,none⟩=some (.int .i64 y.ag):=HCY.out.cell 2;have g3:(wr.alloc (.cells #[.int .i64 y.fl,.int .i64 y.ca,.int .i64 y.ag,.bool y.up] 33)).cell? ⟨wr.heap.size,3,none⟩=some (.bool y.up):=HCY.out.cell 3
   go_wp2_with (go_at_fn g;refine HW1.out.mono ?_)
   rintro e V2 ⟨rfl,hb2⟩;have HO3:=Hd (HO1.out.next hb2);have HCY2:=Hd (HCY.out.below' hb2);have HC3:=Hd HO3.out.c;clear hb2 HW1 HO1 HCY c0 c1 c2 c3 g0 g1 g2 g3;generalize wr.heap.size=yb at HCY2⊢;have f0:V2.cell? ⟨yb,0,none⟩=some (.int .i64 y.fl):=HCY2.out.cell 0;have f1:V2.cell? ⟨yb,1,none⟩=some (.int .i64 y.ca):=HCY2.out.cell 1;have f2:V2.cell? ⟨yb,2,none⟩=some (.int .i64 y.ag):=HCY2.out.cell 2;have f3:V2.cell? ⟨yb,3,none⟩=some (.bool y.up):=HCY2.out.cell 3;have e2:V2.cell? ⟨W.heap.size+1,2,none⟩=some (.int .i64 (ocl o).ag):=HO3.out.c.cell 2;cases q with
   |false=>
    have HK2:Hid (oldk P L (i+1)=o):=by
     show _=_;rw[oldk_not HY.out (by rw[HPY.out,Bool.and_false]),HK.out]
    clear HK HPY HC3 HCY2 f0 f1 f3;go_wp2;go_roundw
    case rel=>exact⟨i+1,o,by omega,rfl,by go_num,HK2,HO3⟩
    case measure=>simp[intOf];omega
   |true=>
    by_cases q1:age≤y.ag
    ·have HAG:Hid (P y=true):=by show _=_;rw[HPY.out,decide_eq_true q1];rfl
     have d1:decide (age≤y.ag)=true:=decide_eq_true q1;clear HPY;cases o with
     |none=>
      have HK2:Hid (oldk P L (i+1)=some (i,y)):=oldk_first HY.out HAG.out HK.out;clear HK HAG
      go_wp2_with (refine wpList_storeCa rfl _ _ rfl (W.heap.size+1) y rfl rfl HC3.out ?_)
      intro V3 hk3 hc3;have HO2:Hid (Oz W V3 (some (i,y))):=⟨HO3.out.z.kp hk3 (by omega),hc3,hk3.below HO3.out.bel HO3.out.bel.size (fun k hk e=>by omega)⟩;clear hk3 hc3 HO3 HC3 HCY2 f0 f1 f2 f3 e2;go_wp2;go_roundw
      case rel=>exact⟨i+1,some (i,y),by omega,rfl,by go_num,HK2,HO2⟩
      case measure=>simp[intOf];omega
     |some x=>
      have e3:V2.cell? ⟨W.heap.size+1,2,none⟩=some (.int .i64 x.2.ag):=e2;clear e2;by_cases q2:x.2.ag<y.ag
      ·have HK2:Hid (oldk P L (i+1)=some (i,y)):=oldk_more HY.out HAG.out HK.out q2;have d2:decide (x.2.ag<y.ag)=true:=decide_eq_true q2;clear HK HAG
       go_wp2_with (refine wpList_storeCa rfl _ _ rfl (W.heap.size+1) y rfl rfl HC3.out ?_)
       intro V3 hk3 hc3;have HO2:Hid (Oz W V3 (some (i,y))):=⟨HO3.out.z.kp hk3 (by omega),hc3,hk3.below HO3.out.bel HO3.out.bel.size (fun k hk e=>by omega)⟩;clear hk3 hc3 HO3 HC3 HCY2 f0 f1 f2 f3 e3;go_wp2;go_roundw
       case rel=>exact⟨i+1,some (i,y),by omega,rfl,by go_num,HK2,HO2⟩
       case measure=>simp[intOf];omega
      ·have HK2:Hid (oldk P L (i+1)=some x):=by
        show _=_;rw[oldk_less HY.out HK.out q2,HK.out]
       have d2:decide (x.2.ag<y.ag)=false:=decide_eq_false q2;clear HK HAG HC3 HCY2;go_wp2;go_roundw
       case rel=>exact⟨i+1,some x,by omega,rfl,by go_num,HK2,HO3⟩
       case measure=>simp[intOf];omega
    ·have d1:decide (age≤y.ag)=false:=decide_eq_false q1
     have HK2:Hid (oldk P L (i+1)=o):=by
      show _=_;rw[oldk_not HY.out (by rw[HPY.out,d1];rfl),HK.out]
     clear HK HPY HC3 HCY2;go_wp2;go_roundw
     case rel=>exact⟨i+1,o,by omega,rfl,by go_num,HK2,HO3⟩
     case measure=>simp[intOf];omega
  ·have hiz:¬(i:Int)<(L.length:Int):=by omega
   have hie:oldk P L L.length=o:=by rw[←HK.out,show i=L.length by omega]
   have hor:o=r:=by rw[←hie,HR.out]
   subst hor;have HZ:=Hd HO.out.z;have f0:wr.cell? ⟨W.heap.size+1,0,none⟩=some (.int .i64 (ocl o).fl):=HO.out.c.cell 0;have f1:wr.cell? ⟨W.heap.size+1,1,none⟩=some (.int .i64 (ocl o).ca):=HO.out.c.cell 1;have f2:wr.cell? ⟨W.heap.size+1,2,none⟩=some (.int .i64 (ocl o).ag):=HO.out.c.cell 2;have f3:wr.cell? ⟨W.heap.size+1,3,none⟩=some (.bool (ocl o).up):=HO.out.c.cell 3;clear hie
   go_wp2_with (refine wpList_storeCa rfl _ _ rfl W.heap.size (ocl o) rfl rfl HZ.out ?_)
   intro W9 hk9 hc9;have HK9:=Hd (And.intro hk9 hc9);clear hk9 hc9 f0 f1 f2 f3;go_wp2;exact bodyPost_ret (retCa2 Tryz.results159 rfl rfl HK9.out.2) rfl ⟨rfl,HK9.out.1.below HO.out.bel HO.out.bel.size (fun k hk e=>by omega)⟩
end Go.Proofs.YtlajleogofmkcaaGreat
