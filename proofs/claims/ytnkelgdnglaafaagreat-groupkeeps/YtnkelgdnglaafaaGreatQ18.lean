import Derived.Test.YtnkelgdnglaafaaGreatQ17
import Derived.Deep.Quiet
import Derived.Deep.QuietTactic
import Derived.BigQuiet
import Derived.Laws.Tables
import Derived.Laws.CopyOwn
import Derived.Lib.AppendZeros
import Derived.Lib.SliceRun
import Derived.WalkMore
import Derived.WalkKit
import Derived.ProofKit
import Derived.OpenShut
import Derived.ShutString
import Derived.ChangeArms
import Derived.LaidMore
import Derived.Lib.SmallJoins
set_option maxHeartbeats 8000000
set_option maxRecDepth 100000
namespace Go.Proofs.YtnkelgdnglaafaaGreat.FF
open Go.RowKit
theorem infoF:(Tryz.prog.info? 56).map (·.size)=some 6:=by kernel_rfl
theorem setRow_kp(w:World)(b:Nat)(cs:Array Value):Kp (fun k=>k=b) w (w.setRow b cs):=⟨rfl,rfl,rfl,by simp[World.setRow],fun k _ hk=>setRow_other w b k cs hk⟩
theorem wpList_storeF{ops:Array Oper}{rest:List Oper}{op:Oper}{a:Act}{w:World}{Q:Exit→Act→World→Prop}(hgd:op.guard=none)(x y:Operand)(ho:op.op=.store 56 x y)
  (b:Nat) {f f':Fr} (hx:a.eval x=.pointer (some ⟨b,0,none⟩)) (hy:a.eval y=.agg #[.int .i64 f'.ki,.int .i64 f'.ca,.int .i64 f'.sq,.int .i64 f'.a,.int .i64 f'.b,.int .i64 f'.c]) (H:FB w b f)
  (hn:∀W',FB W' b f'→Kp (fun k=>k=b) w W'→wpList Tryz.prog ops Q rest (a.put op.dst undef) W'):wpList Tryz.prog ops Q (op::rest) a w:=
 wpList_store_row hgd 56 x y ho b _ hx hy _ _ H infoF rfl (by simp[Value.oneCell']) (hn _ (setRow_heap w b _ _ _ _ H) (setRow_kp w b _))
theorem wpList_loadF{ops:Array Oper}{rest:List Oper}{op:Oper}{a:Act}{w:World}{Q:Exit→Act→World→Prop}(hgd:op.guard=none)(x:Operand)(ho:op.op=.load 56 x)
  (b:Nat) {f:Fr} (hx:a.eval x=.pointer (some ⟨b,0,none⟩)) (H:FB w b f)
  (hn:wpList Tryz.prog ops Q rest (a.put op.dst (.agg #[.int .i64 f.ki,.int .i64 f.ca,.int .i64 f.sq,.int .i64 f.a,.int .i64 f.b,.int .i64 f.c])) w):wpList Tryz.prog ops Q (op::rest) a w:=
 wpList_load_row hgd 56 x ho b hx _ _ _ _ H Tryz.underlying56 rfl infoF hn
theorem retF2{fn:Func}{p t:Tmp}(hf:fn.results= #[.cell p 56,.tmp t]){tmps:Array Value}{w:World}{b:Nat}{f:Fr}{u:Value}(hp:tmps.getD p undef=.pointer (some ⟨b,0,none⟩))(ht:tmps.getD t undef=u)(H:FB w b f):
  (results fn tmps).run Tryz.prog w=.ok (.tuple #[.agg #[.int .i64 f.ki,.int .i64 f.ca,.int .i64 f.sq,.int .i64 f.a,.int .i64 f.b,.int .i64 f.c],u]) w:=by
 have hp':tmps[p]?.getD undef=.pointer (some ⟨b,0,none⟩):=by simpa using hp
 have ht':tmps[t]?.getD undef=u:=by simpa using ht
 simp[results,hf,hp',ht',asAddr,run_loadVar_row w b 56 56 _ _ _ H Tryz.underlying56 rfl infoF]
theorem i64_byte{x:Nat}(h:x<256):IntKind.i64.wrap (x:Int)=(x:Int):=by rw[IntKind.wrap_i64];omega
def noF:Fr:=⟨0,0,0,0,0,0⟩
section
variable {x0 x1 x2 x3 x4 x5 x6 x7 x8 x9:Nat}
theorem de_ten:FC.de [x0,x1,x2,x3,x4,x5,x6,x7,x8,x9]=if x0=165 then(if FC.crc [x0,x1,x2,x3,x4,x5,x6,x7]=x8*256+x9 then(if 1≤x1∧x1≤3 then 0 else 3)else 6)else 3:=by
 have e0:FC.g [x0,x1,x2,x3,x4,x5,x6,x7,x8,x9] 0=x0:=rfl;have e1:FC.g [x0,x1,x2,x3,x4,x5,x6,x7,x8,x9] 1=x1:=rfl;have e8:FC.g [x0,x1,x2,x3,x4,x5,x6,x7,x8,x9] 8=x8:=rfl;have e9:FC.g [x0,x1,x2,x3,x4,x5,x6,x7,x8,x9] 9=x9:=rfl;have et:[x0,x1,x2,x3,x4,x5,x6,x7,x8,x9].take 8=[x0,x1,x2,x3,x4,x5,x6,x7]:=rfl;unfold FC.de;rw[e0,e1,e8,e9,et];simp only[show([x0,x1,x2,x3,x4,x5,x6,x7,x8,x9].length=10∧x0=165)↔x0=165 from⟨fun h=>h.2,fun h=>⟨rfl,h⟩⟩]
theorem df_no(h:FC.de [x0,x1,x2,x3,x4,x5,x6,x7,x8,x9]≠0):FC.df [x0,x1,x2,x3,x4,x5,x6,x7,x8,x9]=noF:=by unfold FC.df;rw[if_neg h];rfl
theorem df_yes(h:FC.de [x0,x1,x2,x3,x4,x5,x6,x7,x8,x9]=0):FC.df [x0,x1,x2,x3,x4,x5,x6,x7,x8,x9]=⟨x1,x2,(x3*256+x4:Nat),x5,x6,x7⟩:=by
 unfold FC.df;rw[if_pos h];unfold FC.dr FC.g;simp only[List.getElem?_cons_zero,List.getElem?_cons_succ,Option.getD_some]
end
theorem decode_few(v:Value)(l:List Nat)(w:World)(h:RD w v l)(hl:l.length≠10):
  Calls Tryz.prog 53 #[v] w fun e w'=>e=.returned (.tuple #[.agg #[.int .i64 noF.ki,.int .i64 noF.ca,.int .i64 noF.sq,.int .i64 noF.a,.int .i64 noF.b,.int .i64 noF.c],.int .i64 3])∧Below w.heap.size w w':=by
 obtain⟨a,cap,rfl,hc,hm,_⟩:=h.form;clear h;unfold maxLen at hm;have hz:((l.length:Int) !=10)=true:=by simp;omega
 go_enter Tryz.func53,Tryz.ntmps53
 go_wp2;exact bodyPost_ret (v:=.tuple #[.agg #[.int .i64 noF.ki,.int .i64 noF.ca,.int .i64 noF.sq,.int .i64 noF.a,.int .i64 noF.b,.int .i64 noF.c],.int .i64 3]) (by simp[results,Tryz.results53,go_sem,noF]) rfl ⟨rfl,(Below.refl _ _).alloc (Nat.le_refl _) _⟩
theorem decode_ten(g o cap x0 x1 x2 x3 x4 x5 x6 x7 x8 x9:Nat)(w:World)(h:RD w (.slice (some ⟨g,o,none⟩) 10 cap) [x0,x1,x2,x3,x4,x5,x6,x7,x8,x9]):
  Calls Tryz.prog 53 #[.slice (some ⟨g,o,none⟩) 10 cap] w fun e w'=>e=.returned (.tuple #[.agg #[.int .i64 (FC.df [x0,x1,x2,x3,x4,x5,x6,x7,x8,x9]).ki,.int .i64 (FC.df [x0,x1,x2,x3,x4,x5,x6,x7,x8,x9]).ca,.int .i64 (FC.df [x0,x1,x2,x3,x4,x5,x6,x7,x8,x9]).sq,.int .i64 (FC.df [x0,x1,x2,x3,x4,x5,x6,x7,x8,x9]).a,.int .i64 (FC.df [x0,x1,x2,x3,x4,x5,x6,x7,x8,x9]).b,.int .i64 (FC.df [x0,x1,x2,x3,x4,x5,x6,x7,x8,x9]).c],.int .i64 (FC.de [x0,x1,x2,x3,x4,x5,x6,x7,x8,x9]:Nat)])∧Below w.heap.size w w':=by
 have hcap:=h.len.2.1;have c0:=h.cell (i:=0) rfl;have c1:=h.cell (i:=1) rfl;have c2:=h.cell (i:=2) rfl;have c3:=h.cell (i:=3) rfl;have c4:=h.cell (i:=4) rfl;have c5:=h.cell (i:=5) rfl;have c6:=h.cell (i:=6) rfl;have c7:=h.cell (i:=7) rfl;have c8:=h.cell (i:=8) rfl;have c9:=h.cell (i:=9) rfl;rw[Nat.add_zero]at c0;have HR:=Hd (h.alloc (.cells #[.int .i64 0,.int .i64 0,.int .i64 0,.int .i64 0,.int .i64 0,.int .i64 0] 56));have hg:g<w.heap.size:=h.lt (by simp);have HB:=Hd h.bs;clear h;by_cases h0:x0=165
 ·subst h0
  go_enter Tryz.func53,Tryz.ntmps53
  go_wp2_with fail
  have HN1:Hid (FB (w.alloc (.cells #[.int .i64 0,.int .i64 0,.int .i64 0,.int .i64 0,.int .i64 0,.int .i64 0] 56)) w.heap.size noF):=FB.new w noF;have HB1:=Hd ((Below.refl w.heap.size w).alloc (Nat.le_refl _) (.cells #[.int .i64 0,.int .i64 0,.int .i64 0,.int .i64 0,.int .i64 0,.int .i64 0] 56));have hgb:g≠w.heap.size:=by omega
  generalize w.alloc (.cells #[.int .i64 0,.int .i64 0,.int .i64 0,.int .i64 0,.int .i64 0,.int .i64 0] 56)=W1 at HR HN1 HB1⊢;clear c0 c1 c2 c3 c4 c5 c6 c7 c8 c9;have hc8:(8:Int)≤(cap:Int):=by omega
  have c8:=HR.out.cell (i:=8) rfl;have c9:=HR.out.cell (i:=9) rfl;have b1:x1<256:=HB.out x1 (by simp);have b2:x2<256:=HB.out x2 (by simp);have b3:x3<256:=HB.out x3 (by simp);have b4:x4<256:=HB.out x4 (by simp);have b5:x5<256:=HB.out x5 (by simp);have b6:x6<256:=HB.out x6 (by simp);have b7:x7<256:=HB.out x7 (by simp);have b8:x8<256:=HB.out x8 (by simp);have b9:x9<256:=HB.out x9 (by simp);have HR8:=Hd (HR.out.take 8 (by simp));refine wp_region_still_tail 11 (by kernel_rfl) (by kernel_rfl) ?_;simp only[List.take_succ_cons,List.take_zero,List.drop_succ_cons,List.drop_zero]
  iterate 6 (unfold wpStill;generalize hK:wpStill _ _ _ _ _=K;go_simp;subst hK)
  unfold wpStill;generalize hK:wpStill _ _ _ _ _=K;go_simp;refine⟨_,joined_any x8 x9 b8 b9 _,?_⟩;subst hK
  iterate 2 (unfold wpStill;generalize hK:wpStill _ _ _ _ _=K;go_simp;subst hK)
  unfold wpStill;generalize hK:wpStill _ _ _ _ _=K;go_simp;refine⟨_,sum_any _ _ _ HR8.out.drew,?_⟩;subst hK;unfold wpStill;generalize hK:wpStill _ _ _ _ _=K;go_simp;subst hK;refine wpStill_nil ?_;change wpList Tryz.prog _ _ _ _ W1.drew;have HN2:=Hd HN1.out.drew;have HR2:=Hd HR.out.drew;have HB2:=Hd HB1.out.drew;clear HR HN1 HB1 c8 c9 HR8;generalize W1.drew=W2 at HR2 HN2 HB2⊢;generalize hcr:FC.crc [165,x1,x2,x3,x4,x5,x6,x7]=n;have HC:=Hd hcr;clear hcr;by_cases hs:n=x8*256+x9
  ·have hs1:((x8:Int)*256+(x9:Int) !=(n:Int))=false:=by simp;omega
   have HS:=Hd hs;clear hs;have c1:=HR2.out.cell (i:=1) rfl
   go_wp2_with fail
   refine (isKind_any _ _).mono ?_;rintro e W3 ⟨rfl,hb3⟩;have HN3:=Hd (HN2.out.below' hb3);have HR3:=Hd (HR2.out.below' hb3);have HB3:=Hd (below_class HB2.out hb3);clear hb3 HN2 HR2 HB2 c1;cases hk:inB 1 3 [(x1:Int)]with
   |false=>
    go_wp2_with (refine wpList_storeF rfl _ _ rfl w.heap.size rfl rfl (f':=noF) HN3.out ?_)
    intro W4 hF4 hk4;have HN4:=Hd hF4;have HB4:=Hd (hk4.below HB3.out HB3.out.size (fun i hi e=>by omega));clear hF4 hk4 HN3 HB3;go_wp2
    have e1:FC.de [165,x1,x2,x3,x4,x5,x6,x7,x8,x9]=3:=by
     rw[de_ten,if_pos rfl,if_pos (HC.out.trans HS.out),if_neg];intro h;rw[Bool.eq_false_iff]at hk;exact hk (inB_iff.2 (by simp;omega))
    refine bodyPost_ret (retF2 Tryz.results53 rfl rfl HN4.out) rfl ⟨?_,HB4.out⟩;rw[df_no (by omega),e1];rfl
   |true=>
    have v1:=i64_byte b1;have v2:=i64_byte b2;have v5:=i64_byte b5;have v6:=i64_byte b6;have v7:=i64_byte b7;have c1:=HR3.out.cell (i:=1) rfl;have c2:=HR3.out.cell (i:=2) rfl;have c3:=HR3.out.cell (i:=3) rfl;have c4:=HR3.out.cell (i:=4) rfl;have c5:=HR3.out.cell (i:=5) rfl;have c6:=HR3.out.cell (i:=6) rfl;have c7:=HR3.out.cell (i:=7) rfl
    go_wp2_with fail
    refine wp_region_still_tail 28 (by kernel_rfl) (by kernel_rfl) ?_;simp only[List.take_succ_cons,List.take_zero,List.drop_succ_cons,List.drop_zero]
    iterate 14 (unfold wpStill;generalize hK:wpStill _ _ _ _ _=K;go_simp;subst hK)
    unfold wpStill;generalize hK:wpStill _ _ _ _ _=K;go_simp;refine⟨_,joined_any x3 x4 b3 b4 _,?_⟩;subst hK
    iterate 13 (unfold wpStill;generalize hK:wpStill _ _ _ _ _=K;go_simp;subst hK)
    refine wpStill_nil ?_;change wpList Tryz.prog _ _ _ _ W3.drew;have HN4:=Hd HN3.out.drew;have HB4:=Hd HB3.out.drew;clear HR3 HN3 HB3;generalize W3.drew=W4 at HN4 HB4⊢;refine wpList_storeF rfl _ _ rfl w.heap.size rfl rfl (f':=⟨x1,x2,x3*256+x4,x5,x6,x7⟩) HN4.out ?_;intro W5 hF5 hk5;have HN5:=Hd hF5;have HB5:=Hd (hk5.below HB4.out HB4.out.size (fun i hi e=>by omega));clear hF5 hk5 HN4 HB4;go_wp2
    have e1:FC.de [165,x1,x2,x3,x4,x5,x6,x7,x8,x9]=0:=by
     rw[de_ten,if_pos rfl,if_pos (HC.out.trans HS.out),if_pos];have:=inB_iff.1 hk;simp at this;omega
    refine bodyPost_ret (retF2 Tryz.results53 rfl rfl HN5.out) rfl ⟨?_,HB5.out⟩;rw[df_yes e1,e1];rfl
  ·have hs1:((x8:Int)*256+(x9:Int) !=(n:Int))=true:=by simp;omega
   have HS:=Hd hs;clear hs
   go_wp2_with (refine wpList_storeF rfl _ _ rfl w.heap.size rfl rfl (f':=noF) HN2.out ?_)
   intro W3 hF3 hk3;have HN3:=Hd hF3;have HB3:=Hd (hk3.below HB2.out HB2.out.size (fun i hi e=>by omega));clear hF3 hk3 HN2 HB2;go_wp2
   have e1:FC.de [165,x1,x2,x3,x4,x5,x6,x7,x8,x9]=6:=by
    rw[de_ten,if_pos rfl,if_neg (fun e=>HS.out (HC.out.symm.trans e))]
   refine bodyPost_ret (retF2 Tryz.results53 rfl rfl HN3.out) rfl ⟨?_,HB3.out⟩;rw[df_no (by omega),e1];rfl
 ·have hz:((x0:Int) !=165)=true:=by simp;omega
  go_enter Tryz.func53,Tryz.ntmps53
  go_wp2;have e1:FC.de [x0,x1,x2,x3,x4,x5,x6,x7,x8,x9]=3:=by unfold FC.de;rw[if_neg (fun e=>h0 e.2)]
  have e2:FC.df [x0,x1,x2,x3,x4,x5,x6,x7,x8,x9]=noF:=by unfold FC.df;rw[e1];rfl
  rw[e1,e2];exact bodyPost_ret (v:=.tuple #[.agg #[.int .i64 noF.ki,.int .i64 noF.ca,.int .i64 noF.sq,.int .i64 noF.a,.int .i64 noF.b,.int .i64 noF.c],.int .i64 3]) (by simp[results,Tryz.results53,go_sem,noF]) rfl ⟨rfl,(Below.refl _ _).alloc (Nat.le_refl _) _⟩
theorem list10{l:List Nat}(h:l.length=10):∃x0 x1 x2 x3 x4 x5 x6 x7 x8 x9,l=[x0,x1,x2,x3,x4,x5,x6,x7,x8,x9]:=by
 match l,h with
 |[x0,x1,x2,x3,x4,x5,x6,x7,x8,x9],_=>exact⟨x0,x1,x2,x3,x4,x5,x6,x7,x8,x9,rfl⟩
theorem de_few{l:List Nat}(h:l.length≠10):FC.de l=3:=by unfold FC.de;rw[if_neg (fun e=>h e.1)]
theorem df_few{l:List Nat}(h:l.length≠10):FC.df l=noF:=by unfold FC.df;rw[de_few h];rfl
theorem decode_any(v:Value)(l:List Nat)(w:World)(h:RD w v l):
  Calls Tryz.prog 53 #[v] w fun e w'=>e=.returned (.tuple #[.agg #[.int .i64 (FC.df l).ki,.int .i64 (FC.df l).ca,.int .i64 (FC.df l).sq,.int .i64 (FC.df l).a,.int .i64 (FC.df l).b,.int .i64 (FC.df l).c],.int .i64 (FC.de l:Nat)])∧Below w.heap.size w w':=by
 by_cases hl:l.length=10
 ·obtain⟨a,cap,rfl,hc,hm,ha⟩:=h.form;obtain⟨x0,x1,x2,x3,x4,x5,x6,x7,x8,x9,rfl⟩:=list10 hl;rcases ha with ha|⟨g,o,rfl,_⟩
  ·cases ha
  ·exact decode_ten g o cap x0 x1 x2 x3 x4 x5 x6 x7 x8 x9 w h
 ·rw[de_few hl,df_few hl];exact decode_few v l w h hl
theorem loadF(w:World)(b o:Nat)(f:Fr)(h:w.rangeAt b o (fv f)):(Instr.loadAt 56 (.pointer (some ⟨b,o,none⟩))).run Tryz.prog w=.ok (.agg #[.int .i64 f.ki,.int .i64 f.ca,.int .i64 f.sq,.int .i64 f.a,.int .i64 f.b,.int .i64 f.c]) w:=
 run_loadAt_mid (P:=Tryz.prog) w b o 56 (fv f) _ h Tryz.underlying56 rfl infoF
theorem made_grown{W W':World}{o:Obj}{v:Value}(hg:(W.alloc o).grownBy W' v.ownBlock)(hv:v.ownBlock=some W.heap.size):Below W.heap.size W W':=
 ((Below.refl _ W).alloc (Nat.le_refl _) o).grown hg (by simp) (by intro k hk;rw[hv]at hk;cases hk;exact Nat.le_refl _)
theorem Below.heap_grow{w:World}(cs:Array Value)(t:TypeId):Below w.heap.size w (w.drew.alloc (.cells cs t)):=((Below.refl w.heap.size w).drew).alloc (Nat.le_refl _) _
structure GR(w:World)(n c:Nat)(W1:World):Prop where
 run:(Builtin.append_ #[32,3] 32 #[.slice none 0 0,.int .i64 (n:Int)]).run Tryz.prog w=.ok (.slice (some ⟨w.heap.size,0,none⟩) n c) W1
theorem grow_any(n:Nat)(hn:n≤1000000)(w:World):
  Calls Tryz.prog 77 #[.slice none 0 0,.int .i64 (n:Int)] w fun e w'=>∃v,e=.returned v∧OW w' w.heap.size v []∧Below w.heap.size w w':=by
 obtain⟨i0,hi,hz0,hz1,hz2⟩:=info_parts infoB;rcases Nat.eq_zero_or_pos n with rfl|hp
 ·go_enter Tryz.func77,Tryz.ntmps77
  go_wp2;go_ret;exact⟨_,rfl,OW.nil _ _,Below.refl _ _⟩
 ·have hnz:(0:Int)<(n:Int):=by omega
  have happ:=Lib.run_append_nil_zeros (P:=Tryz.prog) w 32 3 32 5 i0 (.int .u8 0) .i64 .i64 Tryz.underlying32 Tryz.underlying3 hi hz0 n hp (by omega) (by omega) (by rw[hz2];omega);have hge:=grownCap_ge w n 0 5;have hle:=grownCap_le_maxLen w n 0 5 (by unfold maxLen;omega);generalize grownCap w n 0 5=c at happ hge hle
  obtain⟨W1,HA,hO,hB⟩:∃W1,GR w n c W1∧OW W1 w.heap.size (.slice (some ⟨w.heap.size,0,none⟩) 0 c) []∧Below w.heap.size w W1:=by
   refine⟨_,⟨happ⟩,?_,Below.heap_grow _ _⟩;refine World.ownsRow_made w.drew _ c (Nat.le_refl _) hle ?_;rw[Array.size_append,size_zeroCells,size_zeroCells];show n*1+(c-n)*1=c*1;omega
  have HO:=Hd hO;have HB:=Hd hB;have hn2:(n:Int)≤1000000:=by omega
  clear hle hge hn hi hz0 hz1 hz2 happ hO hB hp
  go_enter Tryz.func77,Tryz.ntmps77
  go_wp2_with (at_builtin;refine Lib.wpList_append_run _ rfl _ _ _ _ rfl _ _ rfl rfl _ _ HA.run ?_)
  go_ret;exact⟨_,rfl,HO.out,HB.out⟩
theorem clone_any(v:Value)(l:List Nat)(w:World)(h:RD w v l)(hl:l.length≤1000):
  Calls Tryz.prog 54 #[v] w fun e w'=>∃v',e=.returned v'∧OW w' w.heap.size v' l∧Below w.heap.size w w':=by
 have q30:∀(w:World) (a:Option Addr) (n c n' c':Nat),(binOp .eql 32 (.slice a n c) (.slice none n' c')).run Tryz.prog w=.ok (.bool a.isNone) w:=fun w a n c n' c'=>Lib.run_eql_slice_nil w _ _ a n c n' c' Tryz.underlying32;have HR:=Hd h;obtain⟨a,cap,rfl,hc,hm,_⟩:=h.form;cases a with
 |none=>
  obtain⟨_,rfl,rfl⟩:=h.nilv;clear h
  go_enter Tryz.func54,Tryz.ntmps54
  go_wp2;go_ret;exact⟨_,rfl,OW.nil _ _,Below.refl _ _⟩
 |some ad=>
  clear h
  go_enter Tryz.func54,Tryz.ntmps54
  go_wp2_with (at_builtin;refine wpList_appendR rfl _ _ rfl w.heap.size _ _ [] l rfl ?qc1 rfl ?qc2 ?qc3 ?qc4 ?_)
  case qc1=>exact OW.lit (B:=w.heap.size) w [] (Nat.le_refl _) (Nat.zero_le _)
  case qc2=>exact HR.out.alloc _
  case qc3=>simp;omega
  case qc4=>simp
  intro v2 W2 ho2 hg2;have hb2:=made_grown hg2 rfl;have HO:=Hd ho2;have HB:=Hd hb2;clear ho2 hg2 hb2;go_wp2;go_ret;exact⟨v2,rfl,HO.out,HB.out⟩
theorem concat_any(g:Nat)(u v:Value)(l m:List Nat)(w:World)(h0:w.cell? ⟨g,0,none⟩=some u)(h1:w.cell? ⟨g,1,none⟩=some v)(hg:g<w.heap.size)(hu:RD w u l)(hv:RD w v m)(hl:l.length≤1000)(hm:m.length≤1000):
  Calls Tryz.prog 52 #[.slice (some ⟨g,0,none⟩) 2 2] w fun e w'=>∃v',e=.returned v'∧OW w' w.heap.size v' (l++m)∧Below w.heap.size w w':=by
 have HU:=Hd hu;have HV:=Hd hv;obtain⟨a,c,rfl,_,_,_⟩:=hu.form;obtain⟨b,d,rfl,_,_,_⟩:=hv.form;clear hu hv
 go_enter Tryz.func52,Tryz.ntmps52
 go_wp2;refine wp_loop_rounds 3 ?_;rw[rounds_succ];go_wp2;rw[rounds_succ];go_wp2;rw[rounds_succ]
 go_wp2_with fail
 have hgr:=grow_any (l.length+m.length) (by omega) w;rw[Int.natCast_add]at hgr;refine hgr.mono ?_;rintro e W1 ⟨v1,rfl,ho1,hb1⟩;have HO1:=Hd ho1;have HB1:=Hd hb1;have k0:W1.cell? ⟨g,0,none⟩=some (.slice a l.length c):=(hb1.cell (p:=⟨g,0,none⟩) hg).trans h0;clear hgr ho1 hb1;go_wp2;refine wp_loop_rounds 3 ?_;rw[rounds_succ]
 go_wp2_with (at_builtin;refine wpList_appendR rfl _ _ rfl w.heap.size _ _ [] l rfl HO1.out rfl (HU.out.below' HB1.out) (by simp;omega) HB1.out.size ?_)
 intro v2 W2 ho2 hg2;have hb2:=HB1.out.grown hg2 HB1.out.size (fun k hk=>(HO1.out.lt k hk).1);have HO2:=Hd ho2;have HB2:=Hd hb2;have k1:W2.cell? ⟨g,1,none⟩=some (.slice b m.length d):=(hb2.cell (p:=⟨g,1,none⟩) hg).trans h1;clear ho2 hg2 hb2 HO1 HB1 k0;go_wp2;rw[rounds_succ]
 go_wp2_with (at_builtin;refine wpList_appendR rfl _ _ rfl w.heap.size _ _ l m rfl HO2.out rfl (HV.out.below' HB2.out) (by omega) HB2.out.size ?_)
 intro v3 W3 ho3 hg3;have hb3:=HB2.out.grown hg3 HB2.out.size (fun k hk=>(HO2.out.lt k hk).1);have HO3:=Hd ho3;have HB3:=Hd hb3;clear ho3 hg3 hb3 HO2 HB2 k1;go_wp2;rw[rounds_succ];go_wp2;go_ret;exact⟨v3,rfl,HO3.out,HB3.out⟩
theorem infoFz:(Tryz.prog.info? 56).map (fun i=>(i.zero,i.size,i.bytes))=some (some (.agg #[.int .i64 0,.int .i64 0,.int .i64 0,.int .i64 0,.int .i64 0,.int .i64 0]),6,48):=by kernel_rfl
theorem one_cells{W:World}{b:Nat}{f:Fr}(H:FB W b f):∀j u,(rv [f])[j]?=some u→W.cell? ((⟨b,0,none⟩:Addr).add j)=some u:=fun j u hu=>by
 rw[rv_one1]at hu;rw[Addr.add_mid];exact H.range j u hu
theorem wpList_appendF1{ops:Array Oper}{rest:List Oper}{o:Oper}{a:Act}{w:World}{Q:Exit→Act→World→Prop}(hgd:o.guard=none)(s x:Operand)
  (ho:o.op=.call {callee:=.builtin .append,args:= #[s,x],argTypes:= #[31,31]})
  (B:Nat) (v:Value) (F:List Fr) (hs:a.eval s=v) (hown:FO w B v F) (b c:Nat) (f:Fr) (hx:a.eval x=.slice (some ⟨b,0,none⟩) 1 c) (H:FB w b f)
  (h63:F.length+1≤1000000) (hB:B≤w.heap.size)
  (h:∀v' w',FO w' B v' (F++[f])→w.grownBy w' v.ownBlock→(∀g,v'.ownBlock=some g→v.ownBlock=some g∨g=w.heap.size)→wpList Tryz.prog ops Q rest (a.put o.dst v') w'):wpList Tryz.prog ops Q (o::rest) a w:=by
 obtain⟨i0,hi,hz0,hz1,hz2⟩:=info_parts infoFz;refine wpList_append_lies w hgd s x 31 ho B 56 i0 _ 6 48 Tryz.underlying31 hi hz0 hz1 hz2 rfl (by decide) v F.length (rv F) hs hown ⟨b,0,none⟩ 1 c (rv [f]) hx (by rw[rv_length];rfl) (one_cells H) (rv_one [f]) (by omega) (by unfold maxLen;omega) (by omega) hB w.heap.size rfl ?_;intro g cap w' h1 h2 h3 _;refine h _ w' ?_ h2 (fun k hk=> ?_)
 ·unfold FO;rw[List.length_append,rv_append];exact h1
 ·simp[Value.ownBlock]at hk;subst hk;exact h3
theorem RD.keep'{W W':World}{v:Value}{l:List Nat}(h:RD W v l)(hs:W.heap.size≤W'.heap.size)(hk:l≠[]→∀g,v.ownBlock=some g→g<W.heap.size→W'.heap[g]?=W.heap[g]?):RD W' v l:=by
 obtain⟨hB,a,cap,rfl,hc,hm,h⟩:=h;refine⟨hB,a,cap,rfl,hc,hm,?_⟩;rcases h with h|⟨g,o,rfl,hlt,h⟩
 ·exact .inl h
 ·by_cases hl:l=[]
  ·exact .inl hl
  ·exact .inr ⟨g,o,rfl,Nat.lt_of_lt_of_le hlt hs,fun i y hy=>(World.cell?_of_block (a:=⟨g,o+i,none⟩) (hk hl g rfl hlt)).trans (h i y hy)⟩
theorem RD.take'{W:World}{a:Option Addr}{n cap:Nat}{l:List Nat}(h:RD W (.slice a n cap) l)(k j:Nat)(hk:k≤l.length)(hj:j=k):RD W (.slice a j cap) (l.take k):=by
 subst hj;exact h.take j hk
theorem OW.slice{W:World}{B:Nat}{v:Value}{l:List Nat}(h:OW W B v l):∃a c,v=.slice a l.length c:=by
 rcases h.form with⟨rfl,rfl⟩|⟨g,cap,rfl,_⟩
 ·exact⟨none,0,rfl⟩
 ·exact⟨_,cap,rfl⟩
structure Dc(rest:List Nat)(d:Fr)(q:Nat):Prop where
 df:FC.df (rest.take 10)=d
 de:FC.de (rest.take 10)=q
theorem dec10{W:World}{a:Option Addr}{n cap j:Nat}{rest:List Nat}{d:Fr}{q:Nat}(h:RD W (.slice a n cap) rest)(D:Dc rest d q)(hk:10≤rest.length)(hj:j=10):
  Calls Tryz.prog 53 #[.slice a j cap] W fun e w'=>e=.returned (.tuple #[.agg #[.int .i64 d.ki,.int .i64 d.ca,.int .i64 d.sq,.int .i64 d.a,.int .i64 d.b,.int .i64 d.c],.int .i64 (q:Nat)])∧Below W.heap.size W w':=by
 have:=decode_any _ (rest.take 10) W (h.take' 10 j hk hj);rwa[D.df,D.de]at this
def lenV:Value→Nat
 |.slice _ n _=>n
 |_=>0
structure Fx(w wr:World)(sb:Nat)(u:Obj)(x rest:List Nat)(F:List Fr)(n:Nat)(lv fo:Value):Prop where
 rd:RD wr lv rest
 own:FO wr w.heap.size fo F
 ne:rest≠[]→∀g,lv.ownBlock=some g→fo.ownBlock≠some g
 sb:wr.heap[sb]?=some u
 bel:Below w.heap.size w wr
 eq:FC.fd x=(F++(FC.fd rest).1,n+(FC.fd rest).2.1,(FC.fd rest).2.2)
 cnt:F.length*10+n+rest.length=x.length
theorem Fx.next{w wr W:World}{sb:Nat}{u:Obj}{x rest:List Nat}{F:List Fr}{n:Nat}{lv fo:Value}(h:Fx w wr sb u x rest F n lv fo)(hb:Below wr.heap.size wr W):Fx w W sb u x rest F n lv fo:=
 ⟨h.rd.below' hb,h.own.below' hb,h.ne,(hb.block sb (Array.getElem?_eq_some_iff.1 h.sb).1).trans h.sb,below_class h.bel hb,h.eq,h.cnt⟩
section
variable {w wr W:World} {sb:Nat} {u:Obj} {x rest:List Nat} {F:List Fr} {n:Nat} {fo:Value}
theorem Fx.alloc{lv:Value}(h:Fx w wr sb u x rest F n lv fo)(o:Obj):Fx w (wr.alloc o) sb u x rest F n lv fo:=h.next ((Below.refl _ _).alloc (Nat.le_refl _) o)
theorem Fx.yes{g o cap:Nat}{a':Option Addr}(h:Fx w wr sb u x rest F n (.slice (some ⟨g,o,none⟩) rest.length cap) fo)(h10:¬rest.length<10){d:Fr}(D:Dc rest d 0)(ha:10<rest.length→a'=some ⟨g,o+10,none⟩)(hn:a'≠none)(hsl:sb<w.heap.size)
  {fo':Value} (hf:FO W w.heap.size fo' (F++[d])) (hg:wr.grownBy W fo.ownBlock) (hl:∀g,fo'.ownBlock=some g→fo.ownBlock=some g∨g=wr.heap.size):Fx w W sb u x (rest.drop 10) (F++[d]) n (.slice a' (rest.length-10) (cap-10)) fo':=by
 have hb:Below w.heap.size w W:=h.bel.grown hg h.bel.size (fun k hk=>(h.own.lt k hk).1);have hne:rest≠[]:=fun e=>by rw[e]at h10;simp at h10
 have hr1:=h.rd.keep' hg.size (fun _ k hk hlt=>hg.block k hlt (fun e=>h.ne hne k hk e.symm));have hr2:=hr1.drop (a':=a') 10 (by omega) (fun g' o' e hlt=>by cases e;exact ha hlt) (fun e=>absurd e hn);refine⟨hr2,hf,?_,?_,hb,?_,?_⟩
 ·intro hne' k hk hfk
  have h10':10<rest.length:=by
   apply Classical.byContradiction;intro hc;apply hne';apply List.length_eq_zero_iff.1;rw[List.length_drop];omega
  rw[ha h10']at hk;simp[Value.ownBlock]at hk;subst hk;rcases hl g hfk with e|e
  ·exact h.ne hne g rfl e
  ·have:=h.rd.lt hne;omega
 ·rw[hg.block sb (Nat.lt_of_lt_of_le hsl h.bel.size) (fun e=>by have:=(h.own.lt sb e.symm).1;omega)];exact h.sb
 ·rw[h.eq,FC.fd_yes h10 D.de,D.df];simp
 ·have:=h.cnt;simp only[List.length_append,List.length_cons,List.length_nil,List.length_drop];omega
theorem Fx.no{g o cap:Nat}{a':Option Addr}(h:Fx w wr sb u x rest F n (.slice (some ⟨g,o,none⟩) rest.length cap) fo)(h10:¬rest.length<10)(hd:FC.de (rest.take 10)≠0)(ha:a'=some ⟨g,o+1,none⟩):Fx w wr sb u x (rest.drop 1) F (n+1) (.slice a' (rest.length-1) (cap-1)) fo:=by
 have hr2:=h.rd.drop (a':=a') 1 (by omega) (fun g' o' e hlt=>by cases e;exact ha) (fun e=>by rw[ha]at e;cases e);refine⟨hr2,h.own,?_,h.sb,h.bel,?_,?_⟩
 ·intro _ k hk;rw[ha]at hk;simp[Value.ownBlock]at hk;subst hk;exact h.ne (fun e=>by rw[e]at h10;simp at h10) g rfl
 ·rw[h.eq,FC.fd_no h10 hd];simp only[Prod.mk.injEq,true_and,and_true];omega
 ·have:=h.cnt;rw[List.length_drop];omega
end
theorem feed_at(sb o:Nat)(cs:Array Value)(tt:TypeId)(u v:Value)(l m:List Nat)(w:World)(hsb:w.heap[sb]?=some (.cells cs tt (0,0)))(hso:cs[o]?=some u)(hu:RD w u l)(hv:RD w v m)(hl:l.length≤1000)(hm:m.length≤1000):
  Calls Tryz.prog 37 #[.pointer (some ⟨sb,o,none⟩),v] w fun e w'=>∃fo u',e=.returned (.tuple #[fo,.int .i64 ((FC.fd (l++m)).2.1:Nat)])∧FO w' w.heap.size fo (FC.fd (l++m)).1∧w'.heap[sb]?=some (.cells (cs.setIfInBounds o u') tt (0,0))∧OW w' w.heap.size u' (FC.fd (l++m)).2.2∧Kp (fun k=>k=sb) w w':=by
 have hc0:w.cell? ⟨sb,o,none⟩=some u:=by rw[cell_of_row w sb o _ _ _ hsb];exact hso
 have hslt:sb<w.heap.size:=(Array.getElem?_eq_some_iff.1 hsb).1;have HSB:=Hd hsb;have HU:=Hd hu;have HV:=Hd hv;have hBs:=Hd (hu.bs.append hv.bs);obtain⟨ua,uc,rfl,_,_,_⟩:=hu.form;obtain⟨va,vc,rfl,_,_,_⟩:=hv.form;have HSO:=Hd hso;clear hsb hu hv hso
 go_enter Tryz.func37,Tryz.ntmps37
 go_wp2_with fail
 go_step3
 go_wp2_with fail
 have hb0:Below w.heap.size w (w.alloc (.cells #[.slice ua l.length uc,.slice va m.length vc] 32)):=(Below.refl _ w).alloc (Nat.le_refl _) _;have hc1:(w.alloc (.cells #[.slice ua l.length uc,.slice va m.length vc] 32)).cell? ⟨w.heap.size,0,none⟩=some (.slice ua l.length uc):=by rw[cell_of_row _ _ 0 _ _ _ (heap_alloc_new w (.cells #[.slice ua l.length uc,.slice va m.length vc] 32))];rfl
 have hc2:(w.alloc (.cells #[.slice ua l.length uc,.slice va m.length vc] 32)).cell? ⟨w.heap.size,1,none⟩=some (.slice va m.length vc):=by rw[cell_of_row _ _ 1 _ _ _ (heap_alloc_new w (.cells #[.slice ua l.length uc,.slice va m.length vc] 32))];rfl
 refine (concat_any w.heap.size _ _ l m _ hc1 hc2 (by simp) (HU.out.alloc _) (HV.out.alloc _) hl hm).mono ?_;rintro e W1 ⟨v1,rfl,ho1,hb1⟩
 have HF1:Hid (Fx w W1 sb (.cells cs tt (0,0)) (l++m) (l++m) [] 0 v1 (.slice none 0 0)):=by
  have hb:Below w.heap.size w W1:=below_class hb0 hb1;exact⟨ho1.rd hBs.out,FO.nil _ _,fun _ g hg=>by simp[Value.ownBlock],(hb.block sb hslt).trans HSB.out,hb,by simp,by simp⟩
 have hx:(l++m).length≤2000:=by rw[List.length_append];omega
 clear ho1 hb1 hb0 HU HV hl hm hc0 hc1 hc2;obtain⟨x,hxe⟩:∃x,x=l++m:=⟨_,rfl⟩;rw[←hxe]at HF1 hx hBs;have HXE:=Hd hxe.symm;clear hxe;generalize l.length=ul at*;have HX:=Hd hx;clear hx;go_wp2
 go_step3
 go_wp2
 go_loopw [6,7,8,9,10,27,31] (fun lv fo p _ _ _ _ wr=>∃(rest:List Nat) (F:List Fr) (n:Nat),p=.int .i64 (n:Int)∧Hid (Fx w wr sb (.cells cs tt (0,0)) x rest F n lv fo)) (fun lv _ _ _ _ _ _ _=>lenV lv)
 case atStart=>exact⟨x,[],0,rfl,HF1⟩
 case round=>
  obtain⟨rest,F,n,rfl,HF⟩:=hrel;have hslr:sb<wr.heap.size:=(Array.getElem?_eq_some_iff.1 HF.out.sb).1;obtain⟨a,cap,rfl,hc,hm,ha⟩:=HF.out.rd.form;have HM:=Hd hm;have HHA:=Hd ha;clear hm ha;have hlen:rest.length≤2000:=by have:=HF.out.cnt;have:=HX.out;omega
  by_cases h10:rest.length<10
  ·have hz:(rest.length:Int)<10:=by omega
   have hz2:(rest.length:Int)≤(cap:Int):=by omega
   go_wp2_with fail
   refine (decode_any _ rest _ HF.out.rd).mono ?_;rintro e W2 ⟨rfl,hb2⟩;have HF2:=Hd ((HF.out.next hb2).alloc (.cells #[.int .i64 (FC.df rest).ki,.int .i64 (FC.df rest).ca,.int .i64 (FC.df rest).sq,.int .i64 (FC.df rest).a,.int .i64 (FC.df rest).b,.int .i64 (FC.df rest).c] 56));clear hb2 HF;generalize FC.df rest=d at HF2;generalize FC.de rest=q
   go_wp2_with fail
   refine (clone_any _ rest _ HF2.out.rd (by omega)).mono ?_;rintro e W3 ⟨v3,rfl,ho3,hb3⟩;have HF3:=Hd (HF2.out.next hb3);have HO3:=Hd (ho3.mono HF2.out.bel.size);obtain⟨a3,n3,rfl⟩:=ho3.slice;have c3:W3.cell? ⟨sb,o,none⟩=some (.slice ua ul uc):=by rw[cell_of_row W3 sb o _ _ _ HF3.out.sb];exact HSO.out
   have r3:W3.frozen? ⟨sb,o,none⟩=false:=by simp[World.frozen?,HF3.out.sb]
   clear ho3 hb3 HF2;go_wp2;rw[Exit.noGoto_ret]
   go_ret2
   have hfd:=HF3.out.eq;rw[FC.fd_few h10]at hfd;rw[HXE.out,hfd];refine⟨u7,.slice a3 rest.length n3,?_,?_,?_,?_,?_⟩
   ·simp only[Nat.add_zero];rfl
   ·show FO _ _ _ (F++[]);rw[List.append_nil];exact HF3.out.own.keep fun k hk=>Below.heap_setCell W3 ⟨sb,o,none⟩ _ k (fun e=>by have:=(HF3.out.own.lt k hk).1;have e':k=sb:=e;omega)
   ·exact heap_setCell_same W3 sb o _ _ _ HF3.out.sb
   ·exact HO3.out.keep fun k hk=>Below.heap_setCell W3 ⟨sb,o,none⟩ _ k (fun e=>by have:=(HO3.out.lt k hk).1;have e':k=sb:=e;omega)
   ·exact(Kp.ofBelow _ HF3.out.bel).set sb o _ (fun _=>rfl)
  ·have hz:¬(rest.length:Int)<10:=by omega
   have hz2:(10:Int)≤(cap:Int):=by omega
   rcases HHA.out with hn|⟨g,o,rfl,hg⟩
   ·exfalso;rw[hn]at h10;simp at h10
   clear HHA
   go_wp2_with fail
   all_goals
    obtain⟨d,q,HD⟩:∃d q,Dc rest d q:=⟨_,_,rfl,rfl⟩;refine (dec10 HF.out.rd HD (by omega) (by omega)).mono ?_;rintro e W2 ⟨rfl,hb2⟩;have HF2:=Hd ((HF.out.next hb2).alloc (.cells #[.int .i64 d.ki,.int .i64 d.ca,.int .i64 d.sq,.int .i64 d.a,.int .i64 d.b,.int .i64 d.c] 56));have HV2:=Hd (FB.new W2 d);clear hb2 HF;rcases Nat.eq_zero_or_pos q with hq|hq
    ·subst hq
     have HN2:Hid (FB ((W2.alloc (.cells #[.int .i64 d.ki,.int .i64 d.ca,.int .i64 d.sq,.int .i64 d.a,.int .i64 d.b,.int .i64 d.c] 56)).alloc (.cells #[.int .i64 d.ki,.int .i64 d.ca,.int .i64 d.sq,.int .i64 d.a,.int .i64 d.b,.int .i64 d.c] 56)) (W2.heap.size+1) d):=by
      have:=FB.new (W2.alloc (.cells #[.int .i64 d.ki,.int .i64 d.ca,.int .i64 d.sq,.int .i64 d.a,.int .i64 d.b,.int .i64 d.c] 56)) d;rw[World.size_alloc]at this;exact this
     go_wp2_with (first|(refine wpList_loadF rfl _ rfl W2.heap.size rfl HV2.out ?_)|(at_builtin;refine wpList_appendF1 rfl _ _ rfl w.heap.size _ F rfl (HF2.out.alloc _).own _ _ d rfl HN2.out ?qc1 ?qc2 ?_))
     case qc1=>have:=HF2.out.cnt;have:=HX.out;omega
     case qc2=>exact(HF2.out.alloc _).bel.size
     intro fo' W4 hf4 hg4 hl4;have HF4:=Hd hf4;have HG4:=Hd hg4;have HL4:=Hd hl4;clear hf4 hg4 hl4;go_wp2;refine⟨⟨rest.drop 10,F++[d],n,rfl,(HF2.out.alloc _).yes h10 HD (fun hlt=>by first|rfl|exact if_neg (by omega)) (by first|(intro e;cases e;done)|(split<;>(intro e;cases e;done))) hslt HF4.out HG4.out (by rw[World.size_alloc,World.size_alloc];exact HL4.out)⟩,?_⟩;show rest.length-10<rest.length;omega
    ·have hqz:((q:Int)==0)=false:=by simp;omega
     have hnn:(n:Int)≤2000:=by have:=HF2.out.cnt;have:=HX.out;omega
     go_wp2;refine⟨⟨rest.drop 1,F,n+1,by go_num,HF2.out.no h10 (by rw[HD.de];omega) rfl⟩,?_⟩;show rest.length-1<rest.length;omega
end Go.Proofs.YtnkelgdnglaafaaGreat.FF
namespace Go.Proofs.YtnkelgdnglaafaaGreat.FF
open Go.ChangeShapes Go.WideShapes Go.ChangeAt Go.RowKit
section
variable {H:Type} {enc:TypeId×Value→H} {P:Program} {W:World} {base:Nat} {spare:Nat→Bool} {held:Bool}
end
section
variable {H:Type} {enc:TypeId×Value→H} {W:World} {base:Nat} {spare:Nat→Bool} {held:Bool}
end
theorem cells_all{base:Nat}{w:World}{A:Addr}{n:Nat}{cs:List Value}(h:w.cells? base A n=some cs):∀(j:Nat) (v:Value),cs[j]?=some v→w.cell? (A.add j)=some v:=by
 unfold World.cells? at h;split at h
 ·intro j v hj
  have key:∀(l:List Nat) (cs:List Value),l.mapM (fun i=>w.cell? (A.add i))=some cs→∀(j:Nat) (v:Value),cs[j]?=some v→∃i,l[j]?=some i∧w.cell? (A.add i)=some v:=by
   intro l
   induction l with
   |nil=>intro cs h;simp at h;subst h;intro j v hj;simp at hj
   |cons x r ih=>
    intro cs h;simp only[List.mapM_cons]at h;cases hx:w.cell? (A.add x)with
    |none=>simp[hx]at h
    |some u=>
     simp only[hx,Option.bind_eq_bind,Option.bind_some]at h;cases hr:r.mapM (fun i=>w.cell? (A.add i))with
     |none=>simp[hr]at h
     |some us=>
      simp[hr]at h;subst h;intro j v hj;cases j with
      |zero=>simp at hj;subst hj;exact⟨x,rfl,hx⟩
      |succ j=>
       obtain⟨i,h1,h2⟩:=ih us hr j v (by simpa using hj);exact⟨i,by simpa using h1,h2⟩
  obtain⟨i,h1,h2⟩:=key _ _ h j v hj;rw[List.getElem?_range]at h1
  ·cases h1;exact h2
  ·have:=(List.getElem?_eq_some_iff.1 h1).1;simpa using this
 ·cases h
theorem block_lt{w:World}{b o:Nat}{v:Value}(h:w.cell? ⟨b,o,none⟩=some v):b<w.heap.size:=by
 apply Classical.byContradiction;intro hn;have:w.heap[b]?=none:=Array.getElem?_eq_none (by omega);simp[World.cell?,this]at h
end Go.Proofs.YtnkelgdnglaafaaGreat.FF
