import Derived.Test.YtlajleogofmkcaaGreatQ17
import Derived.Deep.RegionHeld3
import Derived.Deep.RegionLaw
set_option maxHeartbeats 8000000
set_option maxRecDepth 100000
namespace Go.Proofs.YtlajleogofmkcaaGreat.CC
open Go.RowKit
theorem alike_pr(c:Cl)(b:Nat)(w:World)(H:KB w b c):Pr 203 #[] #[.pointer (some ⟨b,0,none⟩)] (KM.like c) w:=fun W x hb=>alike1_any c x b W (H.below' hb)
theorem alike_eg:∀args w,(callFunc 203 args).run Tryz.prog w=.ok (.enter 203 args) w:=enters_of Tryz.func203 (by kernel_rfl) rfl
theorem contains_is(c:Cl)(z:Bool)(kb B:Nat)(v:Value)(L:List Cl)(w:World)(hz:L.any (KM.like c)=z)(hR:RW w B v L)(hL:L.length≤128)(hk:KB w kb c):
  Calls Tryz.prog 170 #[v,.func (.func 203) #[] #[.pointer (some ⟨kb,0,none⟩)]] w fun e w'=>e=.returned (.bool z)∧Below w.heap.size w w':=by
 rw[←hz];exact containsFunc_any _ _ _ _ alike_eg B v L w hR hL (alike_pr c kb w hk)
theorem step_appendK{ops:Array Oper}{o:Oper}{a:Act}{W:World}{K:Act→World→Prop}{Q:Exit→Act→World→Prop}{E:Prop}(hgd:o.guard=none)(s x:Operand)
  (ho:o.op=.call {callee:=.builtin .append,args:= #[s,x],argTypes:= #[38,38]}) (B:Nat) {v:Value} {M:List Cl} {y:Cl} {b c:Nat} (hs:a.eval s=v) (hR:RW W B v M) (hM:M.length≤1000)
  (hx:a.eval x=.slice (some ⟨b,0,none⟩) 1 c) (hy:CB W b y) (hB:B≤W.heap.size)
  (h:∀g cap W',RW W' B (.slice (some ⟨g,0,none⟩) (M.length+1) cap) (M++[y])→W.grownBy W' v.ownBlock→(v.ownBlock=some g∨g=W.heap.size)→K (a.put o.dst (.slice (some ⟨g,0,none⟩) (M.length+1) cap)) W'):
  if Region.wanted o (yielded ops a.tmps)=true then Oper.wp Tryz.prog o a W K Q else E:=by
 obtain⟨i0,hi,hz0,hz1,hz2⟩:=info_parts infoKz;refine step_append_lies W hgd s x 38 ho B 33 i0 _ 4 32 Tryz.underlying38 hi hz0 hz1 hz2 rfl (by decide) v M.length (rv M) hs hR ⟨b,0,none⟩ 1 c (cv y) hx rfl ?_ ?_ (by omega) (by unfold maxLen;omega) (by omega) hB W.heap.size rfl ?_
 ·intro j u hj;rw[Addr.add_mid];exact hy.range j u hj
 ·intro u hu;exact rv_one [y] u (by simpa[rv]using hu)
 ·intro g cap W' hown hg hat _;refine h g cap W' ?_ hg hat;unfold RW;rw[List.length_append,rv_append];simpa[rv]using hown
structure Mp(w0 W:World)(B b:Nat)(F C:Int)(v:Value)(s:Nat)(L:List Cl)(c:Cl):Prop where
 bk:BK W B b F C v s L
 cb:CB W w0.heap.size c
 bel:Below w0.heap.size w0 W
 old:∀i,Fp b v i→i<w0.heap.size
section
variable {w0 W W':World} {B b:Nat} {F C:Int} {v:Value} {s:Nat} {L:List Cl} {c:Cl}
theorem Mp.next(h:Mp w0 W B b F C v s L c)(hb:Below W.heap.size W W'):Mp w0 W' B b F C v s L c:=⟨h.bk.below' hb,h.cb.below' hb,below_class h.bel hb,h.old⟩
theorem Mp.drew(h:Mp w0 W B b F C v s L c):Mp w0 W.drew B b F C v s L c:=h.next (Below.refl _ _).drew
theorem Mp.all(h:Mp w0 W B b F C v s L c):W.cell? ⟨b,2,none⟩=some v∧W.cell? ⟨w0.heap.size,0,none⟩=some (.int .i64 c.fl)∧W.cell? ⟨w0.heap.size,1,none⟩=some (.int .i64 c.ca)∧W.cell? ⟨w0.heap.size,2,none⟩=some (.int .i64 c.ag)∧W.cell? ⟨w0.heap.size,3,none⟩=some (.bool c.up):=
 ⟨h.bk.pb.c2,h.cb.c0,h.cb.c1,h.cb.c2,h.cb.c3⟩
theorem Mp.age0(h:Mp w0 W B b F C v s L c):Mp w0 (W.setCell ⟨w0.heap.size,2,none⟩ (.int .i64 0)) B b F C v s L ⟨c.fl,c.ca,0,c.up⟩:=by
 have h1:=h.old b (.inl rfl);refine⟨⟨h.bk.pb.keep (Below.heap_setCell W ⟨w0.heap.size,2,none⟩ _ b (by show b≠w0.heap.size;omega)),h.bk.rw.keep (fun g hg=>Below.heap_setCell W ⟨w0.heap.size,2,none⟩ _ g (by have:=h.old g (.inr hg);show g≠w0.heap.size;omega)),h.bk.ne,h.bk.bb,h.bk.sl⟩,heap_setCell_same W w0.heap.size 2 _ _ _ h.cb,h.bel.setCell (Nat.le_refl _) _,h.old⟩
theorem Mp.drewN(h:Mp w0 W B b F C v s L c)(n:Nat):Mp w0 (W.drewN n) B b F C v s L c:=h.next (below_drewN (Below.refl _ _) n)
end
theorem press_x(B b:Nat)(F C:Int)(v:Value)(s:Nat)(L:List Cl)(c:Cl)(w:World)(H:BK w B b F C v s L)(hL:L.length≤128)(f1:2≤F)(f2:F≤64)
  (hr:KM.inR F C c=true) (hc:KM.can F c=true) (hbar:FM.hasN s c.fl=false) (hno:L.any (KM.like c)=false) (hlen:L.length<128):
  Calls Tryz.prog 134 #[.pointer (some ⟨b,0,none⟩),.agg #[.int .i64 c.fl,.int .i64 c.ca,.int .i64 c.ag,.bool c.up]] w fun e w'=>e=.returned (.int .i64 0)∧∃v',BK w' B b F C v' s (L++[⟨c.fl,c.ca,0,c.up⟩])∧Nx w v v'∧Kp (Fp b v) w w':=by
 obtain⟨r1,r2,r3,r4⟩:=KM.inR_iff.1 hr;obtain⟨ao,n,cap,rfl⟩:=H.rw.slice;have hn:=H.rw.len;have hn2:n<128:=by omega
 have HN:=Hd hn;clear hn;have HM:Hid (Mp w (w.alloc (.cells #[.int .i64 c.fl,.int .i64 c.ca,.int .i64 c.ag,.bool c.up] 33)) B b F C (.slice ao n cap) s L c):=⟨H.below' ((Below.refl _ _).alloc (Nat.le_refl _) _),CB.new w c,(Below.refl _ _).alloc (Nat.le_refl _) _,fun i hi=>(H.lo i hi).2⟩
 have HF:Hid (∀W,PB W b F C (.slice ao n cap) s→Calls Tryz.prog 167 #[.pointer (some ⟨b,0,none⟩),.int .i64 c.fl] W fun e w'=>e=.returned (.bool true)∧w'=W):=fun W hW=>by
  have:=hasFloor_any b F C _ s c.fl W hW;rwa[show(decide (0≤c.fl)&&decide (c.fl<F))=true by simp[r1,r2]]at this
 have g1:decide (c.ca< -1)=false:=by simp;omega
 have g2:decide (C≤c.ca)=false:=by simp;omega
 have m1:=HM.out.bk.pb.c1;have m2:=HM.out.bk.pb.c2;have m3:=HM.out.bk.pb.c3;have hblt:=H.pb.lt;clear H
 go_enter Tryz.func134,Tryz.ntmps134
 go_wp2_with fail
 generalize w.alloc (.cells #[.int .i64 c.fl,.int .i64 c.ca,.int .i64 c.ag,.bool c.up] 33)=W1 at HM m1 m2 m3⊢;have k0:=HM.out.cb.c0;have k1:=HM.out.cb.c1;have k2:=HM.out.cb.c2;have k3:=HM.out.cb.c3
 go_quiet ((go_at_call 167;exact Calls.quiet_of_same (HF.out _ (HM.out.drewN _).bk.pb)))
 have HM2:=Hd (HM.out.drewN nq);generalize W1.drewN nq=W2 at HM2⊢;clear m1 m2 m3 k0 k1 k2 k3 HM HF g1 g2;have k0:=HM2.out.cb.c0;have k1:=HM2.out.cb.c1;have k2:=HM2.out.cb.c2;have k3:=HM2.out.cb.c3
 go_wp2_with fail
 have hcb:=canBe_any b F C _ s c W2 HM2.out.bk.pb f1 f2;rw[hc]at hcb;refine hcb.mono ?_;clear hcb;rintro e W3 ⟨rfl,hb3⟩;have HM3:=Hd (HM2.out.next hb3);clear hb3 HM2 k0 k1 k2 k3;have k0:=HM3.out.cb.c0;have m3:=HM3.out.bk.pb.c3;have hs:=HM3.out.bk.sl
 have HH:Hid (∀W,Calls Tryz.prog 169 #[.int .u64 (s:Int),.int .i64 c.fl] W fun e w'=>e=.returned (.bool false)∧w'=W):=fun W=>by
  have:=has_any s c.fl W hs;rwa[hbar]at this
 go_wp2_with fail
 go_quiet ((go_at_call 169;exact Calls.quiet_of_same (HH.out _)))
 have HM4:=Hd (HM3.out.drewN nq);generalize W3.drewN nq=W4 at HM4⊢;clear HM3 k0 m3 HH;have k0:=HM4.out.cb.c0;have k1:=HM4.out.cb.c1;have k2:=HM4.out.cb.c2;have k3:=HM4.out.cb.c3;have m2:=HM4.out.bk.pb.c2;have hB4:=HM4.out.bel.size
 go_wp2_with fail
 have hm:=HM4.out.drew
 go_region_held3 (fun w'=>w'.cell? ⟨b,2,none⟩=some (.slice ao n cap)∧w'.cell? ⟨w.heap.size,0,none⟩=some (.int .i64 c.fl)∧w'.cell? ⟨w.heap.size,1,none⟩=some (.int .i64 c.ca)∧w'.cell? ⟨w.heap.size,2,none⟩=some (.int .i64 c.ag)∧w'.cell? ⟨w.heap.size,3,none⟩=some (.bool c.up)) (first|exact Mp.all hm|exact Mp.all (Mp.next hm hb5)|exact Mp.all (Mp.next (Mp.next hm hb5) hb6)) (first|(go_at_call 171;refine (alike_any c _).mono ?_;rintro e W5 ⟨kb,rfl,hkb,hb5,hKB⟩)|(go_at_call 170;refine (contains_is c false kb B _ L _ hno (Mp.next hm hb5).bk.rw hL hKB).mono ?_;rintro e W6 ⟨rfl,hb6⟩))
 have HM6:=Hd (Mp.next (Mp.next hm hb5) hb6);clear hm hb5 hb6 hkb hKB HM4 k0 k1 k2 k3 m2 hB4;have k2:=HM6.out.cb.c2;have k2f:=HM6.out.cb.fr 2;have m2:=HM6.out.bk.pb.c2;have hn3:decide ((128:Int)≤(n:Int))=false:=by simp;omega
 go_wp2_with fail
 have HM7:=Hd HM6.out.age0;generalize W6.setCell ⟨w.heap.size,2,none⟩ (.int .i64 0)=W7 at HM7⊢;clear HM6 k2 k2f m2;have k0:=HM7.out.cb.c0;have k1:=HM7.out.cb.c1;have k2:=HM7.out.cb.c2;have k3:=HM7.out.cb.c3;have m2:=HM7.out.bk.pb.c2;have hm:=HM7.out.drew;have hBW:B≤W7.heap.size:=by have:=HM7.out.bk.bb;have:=HM7.out.bk.pb.lt;omega
 have HZ:=Hd (hm.bk.rw.alloc (.cells #[.int .i64 c.fl,.int .i64 c.ca,.int .i64 0,.bool c.up] 33));have HZC:=Hd (CB.new W7.drew ⟨c.fl,c.ca,0,c.up⟩);have HPA:=Hd (hm.bk.pb.alloc (.cells #[.int .i64 c.fl,.int .i64 c.ca,.int .i64 0,.bool c.up] 33));have m2a:=(HM7.out.bk.pb.alloc (.cells #[.int .i64 c.fl,.int .i64 c.ca,.int .i64 0,.bool c.up] 33)).c2;have hne:some b≠(Value.slice ao n cap).ownBlock:=fun e=>hm.bk.ne e.symm;have HMZ:=Hd hm;clear hm
 go_region_law ((refine step_appendK (by rfl) (.tmp 58) (.tmp 60) (by rfl) B (y:=⟨c.fl,c.ca,0,c.up⟩) (by rfl) HZ.out (by omega) (by rfl) HZC.out (by simp;omega) ?_;intro g' cap' W8 hr8 hg8 hat8;have p8:=HPA.out.keep (hg8.block b HPA.out.lt hne);have q2:=p8.c2;have q2f:=p8.fr 2))
 all_goals
  have hz7:w.heap.size≤W7.heap.size:=HMZ.out.bel.size
  have hat:(Value.slice ao n cap).ownBlock=some g'∨w.heap.size≤g':=by
   rcases hat8 with h|h
   ·exact .inl h
   ·right;rw[h];show w.heap.size≤(W7.drew.alloc _).heap.size;simp;omega
  have hgb:g'≠b:=by
   rintro rfl;rcases hat with h|h
   ·exact hne h.symm
   ·have:=HMZ.out.old g' (.inl rfl);omega
  have HR8:=Hd (hr8.set (b:=b) (i:=2) (fun e=>hgb (by simpa[Value.ownBlock]using e)) (.slice (some ⟨g',0,none⟩) (L.length+1) cap'));have HP8:=Hd (p8.set2 (.slice (some ⟨g',0,none⟩) (L.length+1) cap'));have HK8:=Hd ((((Kp.ofBelow (Fp b (.slice ao n cap)) HMZ.out.bel).alloc (.cells #[.int .i64 c.fl,.int .i64 c.ca,.int .i64 0,.bool c.up] 33)).grown hg8 (fun k _ hk=>.inr hk)).set b 2 (.slice (some ⟨g',0,none⟩) (L.length+1) cap') (fun _=>.inl rfl));have HBB:=Hd HMZ.out.bk.bb;clear hat8 p8 q2 q2f hr8 hg8 HMZ HPA HZ HZC k0 k1 k2 k3 m2 m2a HM7;go_wp2;go_ret;refine⟨rfl,_,⟨HP8.out,HR8.out,fun e=>hgb (by simpa[Value.ownBlock]using e),HBB.out,hs⟩,?_,HK8.out⟩;intro k hk;have:g'=k:=by simpa[Value.ownBlock]using hk
  subst this;exact hat
theorem press_2a(B b:Nat)(F C:Int)(v:Value)(s:Nat)(L:List Cl)(c:Cl)(w:World)(H:BK w B b F C v s L)(hfl:(decide (0≤c.fl)&&decide (c.fl<F))=false):
  Calls Tryz.prog 134 #[.pointer (some ⟨b,0,none⟩),.agg #[.int .i64 c.fl,.int .i64 c.ca,.int .i64 c.ag,.bool c.up]] w fun e w'=>e=.returned (.int .i64 2)∧Below w.heap.size w w':=by
 obtain⟨ao,n,cap,rfl⟩:=H.rw.slice;have hn:=H.rw.len;have HN:=Hd hn;clear hn;have HM:Hid (Mp w (w.alloc (.cells #[.int .i64 c.fl,.int .i64 c.ca,.int .i64 c.ag,.bool c.up] 33)) B b F C (.slice ao n cap) s L c):=⟨H.below' ((Below.refl _ _).alloc (Nat.le_refl _) _),CB.new w c,(Below.refl _ _).alloc (Nat.le_refl _) _,fun i hi=>(H.lo i hi).2⟩
 have HF:Hid (∀W,PB W b F C (.slice ao n cap) s→Calls Tryz.prog 167 #[.pointer (some ⟨b,0,none⟩),.int .i64 c.fl] W fun e w'=>e=.returned (.bool false)∧w'=W):=fun W hW=>by
  have:=hasFloor_any b F C _ s c.fl W hW;rwa[hfl]at this
 have m1:=HM.out.bk.pb.c1;have m2:=HM.out.bk.pb.c2;have m3:=HM.out.bk.pb.c3;clear H
 go_enter Tryz.func134,Tryz.ntmps134
 go_wp2_with fail
 generalize w.alloc (.cells #[.int .i64 c.fl,.int .i64 c.ca,.int .i64 c.ag,.bool c.up] 33)=W1 at HM m1 m2 m3⊢;have k0:=HM.out.cb.c0;have k1:=HM.out.cb.c1;have k2:=HM.out.cb.c2;have k3:=HM.out.cb.c3
 go_quiet ((go_at_call 167;exact Calls.quiet_of_same (HF.out _ (HM.out.drewN _).bk.pb)))
 have HM2:=Hd (HM.out.drewN nq);generalize W1.drewN nq=W2 at HM2⊢;clear m1 m2 m3 k0 k1 k2 k3 HM HF;go_wp2;go_ret;exact⟨rfl,HM2.out.bel⟩
theorem press_2b(B b:Nat)(F C:Int)(v:Value)(s:Nat)(L:List Cl)(c:Cl)(w:World)(H:BK w B b F C v s L)(hfl:(decide (0≤c.fl)&&decide (c.fl<F))=true)(h:c.ca< -1):
  Calls Tryz.prog 134 #[.pointer (some ⟨b,0,none⟩),.agg #[.int .i64 c.fl,.int .i64 c.ca,.int .i64 c.ag,.bool c.up]] w fun e w'=>e=.returned (.int .i64 2)∧Below w.heap.size w w':=by
 obtain⟨ao,n,cap,rfl⟩:=H.rw.slice;have hn:=H.rw.len;have HN:=Hd hn;clear hn;have HM:Hid (Mp w (w.alloc (.cells #[.int .i64 c.fl,.int .i64 c.ca,.int .i64 c.ag,.bool c.up] 33)) B b F C (.slice ao n cap) s L c):=⟨H.below' ((Below.refl _ _).alloc (Nat.le_refl _) _),CB.new w c,(Below.refl _ _).alloc (Nat.le_refl _) _,fun i hi=>(H.lo i hi).2⟩
 have HF:Hid (∀W,PB W b F C (.slice ao n cap) s→Calls Tryz.prog 167 #[.pointer (some ⟨b,0,none⟩),.int .i64 c.fl] W fun e w'=>e=.returned (.bool true)∧w'=W):=fun W hW=>by
  have:=hasFloor_any b F C _ s c.fl W hW;rwa[hfl]at this
 have g1:decide (c.ca< -1)=true:=by simp;omega
 have m1:=HM.out.bk.pb.c1;have m2:=HM.out.bk.pb.c2;have m3:=HM.out.bk.pb.c3;clear H
 go_enter Tryz.func134,Tryz.ntmps134
 go_wp2_with fail
 generalize w.alloc (.cells #[.int .i64 c.fl,.int .i64 c.ca,.int .i64 c.ag,.bool c.up] 33)=W1 at HM m1 m2 m3⊢;have k0:=HM.out.cb.c0;have k1:=HM.out.cb.c1;have k2:=HM.out.cb.c2;have k3:=HM.out.cb.c3
 go_quiet ((go_at_call 167;exact Calls.quiet_of_same (HF.out _ (HM.out.drewN _).bk.pb)))
 have HM2:=Hd (HM.out.drewN nq);generalize W1.drewN nq=W2 at HM2⊢;clear m1 m2 m3 k0 k1 k2 k3 HM HF;go_wp2;go_ret;exact⟨rfl,HM2.out.bel⟩
theorem press_2c(B b:Nat)(F C:Int)(v:Value)(s:Nat)(L:List Cl)(c:Cl)(w:World)(H:BK w B b F C v s L)(hfl:(decide (0≤c.fl)&&decide (c.fl<F))=true)(h: -1≤c.ca)(h2:C≤c.ca):
  Calls Tryz.prog 134 #[.pointer (some ⟨b,0,none⟩),.agg #[.int .i64 c.fl,.int .i64 c.ca,.int .i64 c.ag,.bool c.up]] w fun e w'=>e=.returned (.int .i64 2)∧Below w.heap.size w w':=by
 obtain⟨ao,n,cap,rfl⟩:=H.rw.slice;have hn:=H.rw.len;have HN:=Hd hn;clear hn;have HM:Hid (Mp w (w.alloc (.cells #[.int .i64 c.fl,.int .i64 c.ca,.int .i64 c.ag,.bool c.up] 33)) B b F C (.slice ao n cap) s L c):=⟨H.below' ((Below.refl _ _).alloc (Nat.le_refl _) _),CB.new w c,(Below.refl _ _).alloc (Nat.le_refl _) _,fun i hi=>(H.lo i hi).2⟩
 have HF:Hid (∀W,PB W b F C (.slice ao n cap) s→Calls Tryz.prog 167 #[.pointer (some ⟨b,0,none⟩),.int .i64 c.fl] W fun e w'=>e=.returned (.bool true)∧w'=W):=fun W hW=>by
  have:=hasFloor_any b F C _ s c.fl W hW;rwa[hfl]at this
 have g1:decide (c.ca< -1)=false:=by simp;omega
 have g2:decide (C≤c.ca)=true:=by simp;omega
 have m1:=HM.out.bk.pb.c1;have m2:=HM.out.bk.pb.c2;have m3:=HM.out.bk.pb.c3;clear H
 go_enter Tryz.func134,Tryz.ntmps134
 go_wp2_with fail
 generalize w.alloc (.cells #[.int .i64 c.fl,.int .i64 c.ca,.int .i64 c.ag,.bool c.up] 33)=W1 at HM m1 m2 m3⊢;have k0:=HM.out.cb.c0;have k1:=HM.out.cb.c1;have k2:=HM.out.cb.c2;have k3:=HM.out.cb.c3
 go_quiet ((go_at_call 167;exact Calls.quiet_of_same (HF.out _ (HM.out.drewN _).bk.pb)))
 have HM2:=Hd (HM.out.drewN nq);generalize W1.drewN nq=W2 at HM2⊢;clear m1 m2 m3 k0 k1 k2 k3 HM HF;go_wp2;go_ret;exact⟨rfl,HM2.out.bel⟩
theorem press_1(B b:Nat)(F C:Int)(v:Value)(s:Nat)(L:List Cl)(c:Cl)(w:World)(H:BK w B b F C v s L)(f1:2≤F)(f2:F≤64)(hr:KM.inR F C c=true)(hc:KM.can F c=false):
  Calls Tryz.prog 134 #[.pointer (some ⟨b,0,none⟩),.agg #[.int .i64 c.fl,.int .i64 c.ca,.int .i64 c.ag,.bool c.up]] w fun e w'=>e=.returned (.int .i64 1)∧Below w.heap.size w w':=by
 obtain⟨r1,r2,r3,r4⟩:=KM.inR_iff.1 hr;have hfl:(decide (0≤c.fl)&&decide (c.fl<F))=true:=by simp[r1,r2]
 obtain⟨ao,n,cap,rfl⟩:=H.rw.slice;have hn:=H.rw.len;have HN:=Hd hn;clear hn;have HM:Hid (Mp w (w.alloc (.cells #[.int .i64 c.fl,.int .i64 c.ca,.int .i64 c.ag,.bool c.up] 33)) B b F C (.slice ao n cap) s L c):=⟨H.below' ((Below.refl _ _).alloc (Nat.le_refl _) _),CB.new w c,(Below.refl _ _).alloc (Nat.le_refl _) _,fun i hi=>(H.lo i hi).2⟩
 have HF:Hid (∀W,PB W b F C (.slice ao n cap) s→Calls Tryz.prog 167 #[.pointer (some ⟨b,0,none⟩),.int .i64 c.fl] W fun e w'=>e=.returned (.bool true)∧w'=W):=fun W hW=>by
  have:=hasFloor_any b F C _ s c.fl W hW;rwa[hfl]at this
 have g1:decide (c.ca< -1)=false:=by simp;omega
 have g2:decide (C≤c.ca)=false:=by simp;omega
 have m1:=HM.out.bk.pb.c1;have m2:=HM.out.bk.pb.c2;have m3:=HM.out.bk.pb.c3;clear H
 go_enter Tryz.func134,Tryz.ntmps134
 go_wp2_with fail
 generalize w.alloc (.cells #[.int .i64 c.fl,.int .i64 c.ca,.int .i64 c.ag,.bool c.up] 33)=W1 at HM m1 m2 m3⊢;have k0:=HM.out.cb.c0;have k1:=HM.out.cb.c1;have k2:=HM.out.cb.c2;have k3:=HM.out.cb.c3
 go_quiet ((go_at_call 167;exact Calls.quiet_of_same (HF.out _ (HM.out.drewN _).bk.pb)))
 have HM2:=Hd (HM.out.drewN nq);generalize W1.drewN nq=W2 at HM2⊢;clear m1 m2 m3 k0 k1 k2 k3 HM HF;have k0:=HM2.out.cb.c0;have k1:=HM2.out.cb.c1;have k2:=HM2.out.cb.c2;have k3:=HM2.out.cb.c3
 go_wp2_with fail
 have hcb:=canBe_any b F C _ s c W2 HM2.out.bk.pb f1 f2;rw[hc]at hcb;refine hcb.mono ?_;clear hcb;rintro e W3 ⟨rfl,hb3⟩;have HM3:=Hd (HM2.out.next hb3);clear hb3 HM2 k0 k1 k2 k3;go_wp2;go_ret;exact⟨rfl,HM3.out.bel⟩
theorem press_8(B b:Nat)(F C:Int)(v:Value)(s:Nat)(L:List Cl)(c:Cl)(w:World)(H:BK w B b F C v s L)(f1:2≤F)(f2:F≤64)(hr:KM.inR F C c=true)(hc:KM.can F c=true)(hbar:FM.hasN s c.fl=true):
  Calls Tryz.prog 134 #[.pointer (some ⟨b,0,none⟩),.agg #[.int .i64 c.fl,.int .i64 c.ca,.int .i64 c.ag,.bool c.up]] w fun e w'=>e=.returned (.int .i64 8)∧Below w.heap.size w w':=by
 obtain⟨r1,r2,r3,r4⟩:=KM.inR_iff.1 hr;have hfl:(decide (0≤c.fl)&&decide (c.fl<F))=true:=by simp[r1,r2]
 obtain⟨ao,n,cap,rfl⟩:=H.rw.slice;have hn:=H.rw.len;have HN:=Hd hn;clear hn;have HM:Hid (Mp w (w.alloc (.cells #[.int .i64 c.fl,.int .i64 c.ca,.int .i64 c.ag,.bool c.up] 33)) B b F C (.slice ao n cap) s L c):=⟨H.below' ((Below.refl _ _).alloc (Nat.le_refl _) _),CB.new w c,(Below.refl _ _).alloc (Nat.le_refl _) _,fun i hi=>(H.lo i hi).2⟩
 have HF:Hid (∀W,PB W b F C (.slice ao n cap) s→Calls Tryz.prog 167 #[.pointer (some ⟨b,0,none⟩),.int .i64 c.fl] W fun e w'=>e=.returned (.bool true)∧w'=W):=fun W hW=>by
  have:=hasFloor_any b F C _ s c.fl W hW;rwa[hfl]at this
 have g1:decide (c.ca< -1)=false:=by simp;omega
 have g2:decide (C≤c.ca)=false:=by simp;omega
 have m1:=HM.out.bk.pb.c1;have m2:=HM.out.bk.pb.c2;have m3:=HM.out.bk.pb.c3;clear H
 go_enter Tryz.func134,Tryz.ntmps134
 go_wp2_with fail
 generalize w.alloc (.cells #[.int .i64 c.fl,.int .i64 c.ca,.int .i64 c.ag,.bool c.up] 33)=W1 at HM m1 m2 m3⊢;have k0:=HM.out.cb.c0;have k1:=HM.out.cb.c1;have k2:=HM.out.cb.c2;have k3:=HM.out.cb.c3
 go_quiet ((go_at_call 167;exact Calls.quiet_of_same (HF.out _ (HM.out.drewN _).bk.pb)))
 have HM2:=Hd (HM.out.drewN nq);generalize W1.drewN nq=W2 at HM2⊢;clear m1 m2 m3 k0 k1 k2 k3 HM HF;have k0:=HM2.out.cb.c0;have k1:=HM2.out.cb.c1;have k2:=HM2.out.cb.c2;have k3:=HM2.out.cb.c3
 go_wp2_with fail
 have hcb:=canBe_any b F C _ s c W2 HM2.out.bk.pb f1 f2;rw[hc]at hcb;refine hcb.mono ?_;clear hcb;rintro e W3 ⟨rfl,hb3⟩;have HM3:=Hd (HM2.out.next hb3);clear hb3 HM2 k0 k1 k2 k3;have k0:=HM3.out.cb.c0;have m3:=HM3.out.bk.pb.c3;have hs:=HM3.out.bk.sl
 have HH:Hid (∀W,Calls Tryz.prog 169 #[.int .u64 (s:Int),.int .i64 c.fl] W fun e w'=>e=.returned (.bool true)∧w'=W):=fun W=>by
  have:=has_any s c.fl W hs;rwa[hbar]at this
 go_wp2_with fail
 go_quiet ((go_at_call 169;exact Calls.quiet_of_same (HH.out _)))
 have HM4:=Hd (HM3.out.drewN nq);generalize W3.drewN nq=W4 at HM4⊢;clear HM3 k0 m3 HH;go_wp2;go_ret;exact⟨rfl,HM4.out.bel⟩
theorem press_0(B b:Nat)(F C:Int)(v:Value)(s:Nat)(L:List Cl)(c:Cl)(w:World)(H:BK w B b F C v s L)(f1:2≤F)(f2:F≤64)(hr:KM.inR F C c=true)(hL:L.length≤128)(hc:KM.can F c=true)(hbar:FM.hasN s c.fl=false)(hno:L.any (KM.like c)=true):
  Calls Tryz.prog 134 #[.pointer (some ⟨b,0,none⟩),.agg #[.int .i64 c.fl,.int .i64 c.ca,.int .i64 c.ag,.bool c.up]] w fun e w'=>e=.returned (.int .i64 0)∧Below w.heap.size w w':=by
 obtain⟨r1,r2,r3,r4⟩:=KM.inR_iff.1 hr;have hfl:(decide (0≤c.fl)&&decide (c.fl<F))=true:=by simp[r1,r2]
 obtain⟨ao,n,cap,rfl⟩:=H.rw.slice;have hn:=H.rw.len;have HN:=Hd hn;clear hn;have HM:Hid (Mp w (w.alloc (.cells #[.int .i64 c.fl,.int .i64 c.ca,.int .i64 c.ag,.bool c.up] 33)) B b F C (.slice ao n cap) s L c):=⟨H.below' ((Below.refl _ _).alloc (Nat.le_refl _) _),CB.new w c,(Below.refl _ _).alloc (Nat.le_refl _) _,fun i hi=>(H.lo i hi).2⟩
 have HF:Hid (∀W,PB W b F C (.slice ao n cap) s→Calls Tryz.prog 167 #[.pointer (some ⟨b,0,none⟩),.int .i64 c.fl] W fun e w'=>e=.returned (.bool true)∧w'=W):=fun W hW=>by
  have:=hasFloor_any b F C _ s c.fl W hW;rwa[hfl]at this
 have g1:decide (c.ca< -1)=false:=by simp;omega
 have g2:decide (C≤c.ca)=false:=by simp;omega
 have m1:=HM.out.bk.pb.c1;have m2:=HM.out.bk.pb.c2;have m3:=HM.out.bk.pb.c3;clear H
 go_enter Tryz.func134,Tryz.ntmps134
 go_wp2_with fail
 generalize w.alloc (.cells #[.int .i64 c.fl,.int .i64 c.ca,.int .i64 c.ag,.bool c.up] 33)=W1 at HM m1 m2 m3⊢;have k0:=HM.out.cb.c0;have k1:=HM.out.cb.c1;have k2:=HM.out.cb.c2;have k3:=HM.out.cb.c3
 go_quiet ((go_at_call 167;exact Calls.quiet_of_same (HF.out _ (HM.out.drewN _).bk.pb)))
 have HM2:=Hd (HM.out.drewN nq);generalize W1.drewN nq=W2 at HM2⊢;clear m1 m2 m3 k0 k1 k2 k3 HM HF;have k0:=HM2.out.cb.c0;have k1:=HM2.out.cb.c1;have k2:=HM2.out.cb.c2;have k3:=HM2.out.cb.c3
 go_wp2_with fail
 have hcb:=canBe_any b F C _ s c W2 HM2.out.bk.pb f1 f2;rw[hc]at hcb;refine hcb.mono ?_;clear hcb;rintro e W3 ⟨rfl,hb3⟩;have HM3:=Hd (HM2.out.next hb3);clear hb3 HM2 k0 k1 k2 k3;have k0:=HM3.out.cb.c0;have m3:=HM3.out.bk.pb.c3;have hs:=HM3.out.bk.sl
 have HH:Hid (∀W,Calls Tryz.prog 169 #[.int .u64 (s:Int),.int .i64 c.fl] W fun e w'=>e=.returned (.bool false)∧w'=W):=fun W=>by
  have:=has_any s c.fl W hs;rwa[hbar]at this
 go_wp2_with fail
 go_quiet ((go_at_call 169;exact Calls.quiet_of_same (HH.out _)))
 have HM4:=Hd (HM3.out.drewN nq);generalize W3.drewN nq=W4 at HM4⊢;clear HM3 k0 m3 HH;have k0:=HM4.out.cb.c0;have k1:=HM4.out.cb.c1;have k2:=HM4.out.cb.c2;have k3:=HM4.out.cb.c3;have m2:=HM4.out.bk.pb.c2
 go_wp2_with fail
 have hm:=HM4.out.drew
 go_region_held3 (fun w'=>w'.cell? ⟨b,2,none⟩=some (.slice ao n cap)∧w'.cell? ⟨w.heap.size,0,none⟩=some (.int .i64 c.fl)∧w'.cell? ⟨w.heap.size,1,none⟩=some (.int .i64 c.ca)∧w'.cell? ⟨w.heap.size,2,none⟩=some (.int .i64 c.ag)∧w'.cell? ⟨w.heap.size,3,none⟩=some (.bool c.up)) (first|exact Mp.all hm|exact Mp.all (Mp.next hm hb5)|exact Mp.all (Mp.next (Mp.next hm hb5) hb6)) (first|(go_at_call 171;refine (alike_any c _).mono ?_;rintro e W5 ⟨kb,rfl,hkb,hb5,hKB⟩)|(go_at_call 170;refine (contains_is c true kb B _ L _ hno (Mp.next hm hb5).bk.rw hL hKB).mono ?_;rintro e W6 ⟨rfl,hb6⟩))
 have HM6:=Hd (Mp.next (Mp.next hm hb5) hb6);clear hm hb5 hb6 hkb hKB HM4 k0 k1 k2 k3 m2;go_wp2;go_ret;exact⟨rfl,HM6.out.bel⟩
theorem press_4(B b:Nat)(F C:Int)(v:Value)(s:Nat)(L:List Cl)(c:Cl)(w:World)(H:BK w B b F C v s L)(f1:2≤F)(f2:F≤64)(hr:KM.inR F C c=true)(hL:L.length≤128)(hc:KM.can F c=true)(hbar:FM.hasN s c.fl=false)(hno:L.any (KM.like c)=false)(hlen:128≤L.length):
  Calls Tryz.prog 134 #[.pointer (some ⟨b,0,none⟩),.agg #[.int .i64 c.fl,.int .i64 c.ca,.int .i64 c.ag,.bool c.up]] w fun e w'=>e=.returned (.int .i64 4)∧Below w.heap.size w w':=by
 obtain⟨r1,r2,r3,r4⟩:=KM.inR_iff.1 hr;have hfl:(decide (0≤c.fl)&&decide (c.fl<F))=true:=by simp[r1,r2]
 obtain⟨ao,n,cap,rfl⟩:=H.rw.slice;have hn:=H.rw.len;have HN:=Hd hn;clear hn;have HM:Hid (Mp w (w.alloc (.cells #[.int .i64 c.fl,.int .i64 c.ca,.int .i64 c.ag,.bool c.up] 33)) B b F C (.slice ao n cap) s L c):=⟨H.below' ((Below.refl _ _).alloc (Nat.le_refl _) _),CB.new w c,(Below.refl _ _).alloc (Nat.le_refl _) _,fun i hi=>(H.lo i hi).2⟩
 have HF:Hid (∀W,PB W b F C (.slice ao n cap) s→Calls Tryz.prog 167 #[.pointer (some ⟨b,0,none⟩),.int .i64 c.fl] W fun e w'=>e=.returned (.bool true)∧w'=W):=fun W hW=>by
  have:=hasFloor_any b F C _ s c.fl W hW;rwa[hfl]at this
 have g1:decide (c.ca< -1)=false:=by simp;omega
 have g2:decide (C≤c.ca)=false:=by simp;omega
 have m1:=HM.out.bk.pb.c1;have m2:=HM.out.bk.pb.c2;have m3:=HM.out.bk.pb.c3;clear H
 go_enter Tryz.func134,Tryz.ntmps134
 go_wp2_with fail
 generalize w.alloc (.cells #[.int .i64 c.fl,.int .i64 c.ca,.int .i64 c.ag,.bool c.up] 33)=W1 at HM m1 m2 m3⊢;have k0:=HM.out.cb.c0;have k1:=HM.out.cb.c1;have k2:=HM.out.cb.c2;have k3:=HM.out.cb.c3
 go_quiet ((go_at_call 167;exact Calls.quiet_of_same (HF.out _ (HM.out.drewN _).bk.pb)))
 have HM2:=Hd (HM.out.drewN nq);generalize W1.drewN nq=W2 at HM2⊢;clear m1 m2 m3 k0 k1 k2 k3 HM HF;have k0:=HM2.out.cb.c0;have k1:=HM2.out.cb.c1;have k2:=HM2.out.cb.c2;have k3:=HM2.out.cb.c3
 go_wp2_with fail
 have hcb:=canBe_any b F C _ s c W2 HM2.out.bk.pb f1 f2;rw[hc]at hcb;refine hcb.mono ?_;clear hcb;rintro e W3 ⟨rfl,hb3⟩;have HM3:=Hd (HM2.out.next hb3);clear hb3 HM2 k0 k1 k2 k3;have k0:=HM3.out.cb.c0;have m3:=HM3.out.bk.pb.c3;have hs:=HM3.out.bk.sl
 have HH:Hid (∀W,Calls Tryz.prog 169 #[.int .u64 (s:Int),.int .i64 c.fl] W fun e w'=>e=.returned (.bool false)∧w'=W):=fun W=>by
  have:=has_any s c.fl W hs;rwa[hbar]at this
 go_wp2_with fail
 go_quiet ((go_at_call 169;exact Calls.quiet_of_same (HH.out _)))
 have HM4:=Hd (HM3.out.drewN nq);generalize W3.drewN nq=W4 at HM4⊢;clear HM3 k0 m3 HH;have k0:=HM4.out.cb.c0;have k1:=HM4.out.cb.c1;have k2:=HM4.out.cb.c2;have k3:=HM4.out.cb.c3;have m2:=HM4.out.bk.pb.c2
 go_wp2_with fail
 have hm:=HM4.out.drew
 go_region_held3 (fun w'=>w'.cell? ⟨b,2,none⟩=some (.slice ao n cap)∧w'.cell? ⟨w.heap.size,0,none⟩=some (.int .i64 c.fl)∧w'.cell? ⟨w.heap.size,1,none⟩=some (.int .i64 c.ca)∧w'.cell? ⟨w.heap.size,2,none⟩=some (.int .i64 c.ag)∧w'.cell? ⟨w.heap.size,3,none⟩=some (.bool c.up)) (first|exact Mp.all hm|exact Mp.all (Mp.next hm hb5)|exact Mp.all (Mp.next (Mp.next hm hb5) hb6)) (first|(go_at_call 171;refine (alike_any c _).mono ?_;rintro e W5 ⟨kb,rfl,hkb,hb5,hKB⟩)|(go_at_call 170;refine (contains_is c false kb B _ L _ hno (Mp.next hm hb5).bk.rw hL hKB).mono ?_;rintro e W6 ⟨rfl,hb6⟩))
 have HM6:=Hd (Mp.next (Mp.next hm hb5) hb6);clear hm hb5 hb6 hkb hKB HM4 k0 k1 k2 k3 m2;have m2:=HM6.out.bk.pb.c2;have hn3:decide ((128:Int)≤(n:Int))=true:=by have:=HN.out;simp;omega
 go_wp2;go_ret;exact⟨rfl,HM6.out.bel⟩
theorem press_any(B b:Nat)(F C:Int)(v:Value)(s:Nat)(L:List Cl)(c:Cl)(w:World)(H:BK w B b F C v s L)(hL:L.length≤128)(f1:2≤F)(f2:F≤64):
  Calls Tryz.prog 134 #[.pointer (some ⟨b,0,none⟩),.agg #[.int .i64 c.fl,.int .i64 c.ca,.int .i64 c.ag,.bool c.up]] w fun e w'=>e=.returned (.int .i64 (KM.err F C (FM.hasN s c.fl) L c))∧∃v',BK w' B b F C v' s (KM.put F C (FM.hasN s c.fl) L c)∧Nx w v v'∧Kp (Fp b v) w w':=by
 have same:∀z:Int,KM.err F C (FM.hasN s c.fl) L c=z→KM.put F C (FM.hasN s c.fl) L c=L→(Calls Tryz.prog 134 #[.pointer (some ⟨b,0,none⟩),.agg #[.int .i64 c.fl,.int .i64 c.ca,.int .i64 c.ag,.bool c.up]] w fun e w'=>e=.returned (.int .i64 z)∧Below w.heap.size w w')→
   Calls Tryz.prog 134 #[.pointer (some ⟨b,0,none⟩),.agg #[.int .i64 c.fl,.int .i64 c.ca,.int .i64 c.ag,.bool c.up]] w fun e w'=>e=.returned (.int .i64 (KM.err F C (FM.hasN s c.fl) L c))∧∃v',BK w' B b F C v' s (KM.put F C (FM.hasN s c.fl) L c)∧Nx w v v'∧Kp (Fp b v) w w':=by
  intro z h1 h2 h3;rw[h1,h2];exact h3.mono fun e w' hh=>⟨hh.1,v,H.below' hh.2,fun k hk=>.inl hk,Kp.ofBelow _ hh.2⟩
 rcases KM.press_ways F C (FM.hasN s c.fl) L c with⟨h1,e1,e2⟩|⟨h1,h2,e1,e2⟩|⟨h1,h2,h3,e1,e2⟩|⟨h1,h2,h3,h4,e1,e2⟩|⟨h1,h2,h3,h4,h5,e1,e2⟩|⟨h1,h2,h3,h4,h5,e1,e2⟩
 ·refine same 2 e1 e2 ?_;cases hfl:(decide (0≤c.fl)&&decide (c.fl<F))
  ·exact press_2a B b F C v s L c w H hfl
  ·by_cases ha:c.ca< -1
   ·exact press_2b B b F C v s L c w H hfl ha
   ·by_cases hb:C≤c.ca
    ·exact press_2c B b F C v s L c w H hfl (by omega) hb
    ·exfalso;simp only[Bool.and_eq_true,decide_eq_true_eq]at hfl;have:KM.inR F C c=true:=KM.inR_iff.2 ⟨hfl.1,hfl.2,by omega,by omega⟩;rw[h1]at this;cases this
 ·exact same 1 e1 e2 (press_1 B b F C v s L c w H f1 f2 h1 h2)
 ·exact same 8 e1 e2 (press_8 B b F C v s L c w H f1 f2 h1 h2 h3)
 ·exact same 0 e1 e2 (press_0 B b F C v s L c w H f1 f2 h1 hL h2 h3 h4)
 ·exact same 4 e1 e2 (press_4 B b F C v s L c w H f1 f2 h1 hL h2 h3 h4 h5)
 ·rw[e1,e2];exact press_x B b F C v s L c w H hL f1 f2 h1 h2 h3 h4 h5
end Go.Proofs.YtlajleogofmkcaaGreat.CC
