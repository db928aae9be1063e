import Derived.Test.YtlajleogofmkcaaGreatQ10
import Derived.Deep.RegionHeld3
set_option maxHeartbeats 8000000
set_option maxRecDepth 100000
namespace Go.Proofs.YtlajleogofmkcaaGreat
open Go.RowKit Go.Shelf
theorem rdn_short{n:Nat}{b:List Nat}(h:b.length<9∨1<b[0]?.getD 0∨1099511627776<be ((b.drop 1).take 8)):rdc n b=none:=by
 unfold rdc;rw[if_pos h]
theorem rdn_lists{n:Nat}{b:List Nat}(h:rdk b n=none):rdc n b=none:=by
 unfold rdc;rw[h];split<;>rfl
structure PQ(W:World)(B g n:Nat)(us:List Value)(p:List (List Int)):Prop where
 hl:W.heap[g]?=some (.cells us.toArray 52 (0,0))
 len:us.length=n
 bg:B≤g
 li:∀(i:Nat) u l,us[i]?=some u→p[i]?=some l→RI (fun k=>B≤k∧k≠g) W u l
section
variable {W W':World} {B g n:Nat} {us:List Value} {p:List (List Int)}
theorem PQ.lt(h:PQ W B g n us p):g<W.heap.size:=(Array.getElem?_eq_some_iff.1 h.hl).1
theorem PQ.keep(h:PQ W B g n us p)(hs:W.heap.size≤W'.heap.size)(hk:∀k,B≤k→k<W.heap.size→W'.heap[k]?=W.heap[k]?):PQ W' B g n us p:=
 ⟨(hk g h.bg h.lt).trans h.hl,h.len,h.bg,fun i u l hu hl=>(h.li i u l hu hl).keep hs fun k hk' hlt=>hk k hk'.1 hlt⟩
theorem PQ.below'(h:PQ W B g n us p)(hb:Below W.heap.size W W'):PQ W' B g n us p:=h.keep hb.size fun k _ hlt=>hb.block k hlt
theorem PQ.kp{G:Nat→Prop}(h:PQ W B g n us p)(k:Kp G W W')(hG:∀i,G i→i<B):PQ W' B g n us p:=h.keep k.size fun i hi hlt=>k.block i hlt (fun e=>by have:=hG i e;omega)
theorem PQ.put(h:PQ W B g n us p){c:Nat}(hc:c=p.length)(hcn:c<n){u:Value}{l:List Int}(hu:RI (fun k=>B≤k∧k≠g) W u l):PQ (W.setCell ⟨g,c,none⟩ u) B g n (us.set c u) (p++[l]):=by
 have keep:∀j,j≠g→(W.setCell ⟨g,c,none⟩ u).heap[j]?=W.heap[j]?:=fun j hj=>Below.heap_setCell W ⟨g,c,none⟩ u j hj;refine⟨blk_set h.hl c u,by rw[List.length_set];exact h.len,h.bg,fun i v m hv hm=> ?_⟩;by_cases e:c=i
 ·subst e;rw[List.getElem?_set_self (by rw[h.len];exact hcn)]at hv;rw[List.getElem?_append_right (by omega),show c-p.length=0 by omega]at hm;cases hv;cases hm;exact hu.keep (by simp[World.setCell]) fun k hk _=>keep k hk.2
 ·rw[List.getElem?_set_ne e]at hv
  have hi:i<p.length:=by
   have:=(List.getElem?_eq_some_iff.1 hm).1;rw[List.length_append]at this;simp at this;omega
  rw[List.getElem?_append_left hi]at hm;exact(h.li i v m hv hm).keep (by simp[World.setCell]) fun k hk _=>keep k hk.2
theorem PQ.rl(h:PQ W B g n us p)(hn:p.length=n):RL (fun k=>B≤k) W (.slice (some ⟨g,0,none⟩) n n) p:=by
 subst hn;refine⟨_,_,rfl,Nat.le_refl _,(fun e=>by cases e),.inr ⟨g,0,rfl,h.bg,h.lt,fun i l hl=> ?_⟩⟩;have hi:i<p.length:=(List.getElem?_eq_some_iff.1 hl).1;obtain⟨u,hu⟩:∃u,us[i]?=some u:=⟨_,List.getElem?_eq_getElem (by rw[h.len];exact hi)⟩;exact⟨u,by rw[Nat.zero_add];exact(blk_cell h.hl i).trans hu,(h.li i u l hu hl).mono fun k hk _ _=>hk.1⟩
end
theorem klist_all{W:World}{b:Nat}{r:List Nat}(h:RR W b r):Calls Tryz.prog 188 #[.pointer (some ⟨b,0,none⟩)] W fun e w'=>∃a k c ok,e=.returned (.tuple #[.slice a k c,.bool ok])∧Kp (fun i=>i=b) W w'∧
  ((ok=false∧(r=[]∨∃n r1,r=n::r1∧r1.length<n))∨(ok=true∧∃n r1,r=n::r1∧n≤r1.length∧RI (fun k=>W.heap.size≤k) w' (.slice a k c) ((r1.take n).map fun (x:Nat)=>(x:Int))∧RR w' b (r1.drop n))):=by
 cases r with
 |nil=>
  refine (klist_nil h).mono fun e w' hh=> ?_;obtain⟨⟨a,k,c,rfl⟩,hk⟩:=hh;exact⟨a,k,c,false,rfl,hk,.inl ⟨rfl,.inl rfl⟩⟩
 |cons n r1=>
  by_cases hn:n≤r1.length
  ·refine (klist_yes h hn).mono fun e w' hh=> ?_;obtain⟨g,rfl,h1,h2,h3,h4⟩:=hh;exact⟨_,_,_,true,rfl,h4,.inr ⟨rfl,n,r1,rfl,hn,h2.mono (fun k hk _ _=>by omega),h3⟩⟩
  ·refine (klist_short h (by omega)).mono fun e w' hh=> ?_;obtain⟨⟨a,k,c,rfl⟩,hk⟩:=hh;exact⟨a,k,c,false,rfl,hk,.inl ⟨rfl,.inr ⟨n,r1,rfl,by omega⟩⟩⟩
theorem built_jb(ok:Bool)(co:Int)(a:Option Addr)(n c:Nat):Tryz.prog.built 192 [(0,.bool ok),(1,.int .i64 co),(2,.slice a n c)]=some #[.bool ok,.int .i64 co,.slice a n c]:=by kernel_rfl
section
variable {ops:Array Oper} {Q:Exit→Act→World→Prop} {i:Nat} {o:Oper} {K:Act→World→Prop} {a:Act} {w:World}
theorem wpOp_mkL(hi:ops[i]?=some o)(hw:Region.wanted o (yielded ops a.tmps)=true)(x y:Operand)(ho:o.op=.makeSlice 150 x y)(n:Nat)(hn:n≤1000)(hx:a.eval x=.int .i64 (n:Int))(hy:a.eval y=.int .i64 (n:Int))
  (h:K (a.put o.dst (.slice (some ⟨w.heap.size,0,none⟩) n n)) (w.alloc (.cells (List.replicate n (Value.slice none 0 0)).toArray 52))):wpOp Tryz.prog ops Q i K a w:=
 wpOp_val hi hw (by unfold execOp;simp only[ho,hx,hy,Sem.run_bind,Sem.run_pure,Result.andThen_ok,mkL n hn]) h
theorem wpOp_storeJ(hi:ops[i]?=some o)(hw:Region.wanted o (yielded ops a.tmps)=true)(x y:Operand)(ho:o.op=.store 192 x y)(b:Nat){vp:Value}{co:Int}{ok:Bool}{a1:Option Addr}{n1 c1:Nat}{co':Int}{ok':Bool}(hx:a.eval x=.pointer (some ⟨b,0,none⟩))(hy:a.eval y=.agg #[.bool ok',.int .i64 co',.slice a1 n1 c1])(hL:JB w b ok co vp)
  (h:∀W',Kp (fun k=>k=b) w W'→JB W' b ok' co' (.slice a1 n1 c1)→K (a.put o.dst undef) W'):wpOp Tryz.prog ops Q i K a w:=by
 unfold wpOp;rw[hi];simp only;rw[if_pos hw];refine .inl ?_;unfold Oper.wp execOp;simp only[ho,hx,hy,Instr.storeAt,Instr.sureAddr,Sem.run_bind,Sem.run_pure,Result.andThen_ok,run_storeVar_row (P:=Tryz.prog) w b 192 192 _ #[.bool ok',.int .i64 co',.slice a1 n1 c1] hL infoJ rfl (by simp[Value.oneCell'])];exact h _ (kp_rowJ w b _) (setRow_heap w b _ _ _ _ hL)
theorem wpOp_storeL(hi:ops[i]?=some o)(hw:Region.wanted o (yielded ops a.tmps)=true)(x y:Operand)(ho:o.op=.store 52 x y)(b j:Nat){u:Value}{a1:Option Addr}{n1 c1:Nat}(hx:a.eval x=.pointer (some ⟨b,j,none⟩))(hy:a.eval y=.slice a1 n1 c1)(hc:w.cell? ⟨b,j,none⟩=some u)(hf:w.frozen? ⟨b,j,none⟩=false)
  (h:K (a.put o.dst undef) (w.setCell ⟨b,j,none⟩ (.slice a1 n1 c1))):wpOp Tryz.prog ops Q i K a w:=by
 unfold wpOp;rw[hi];simp only;rw[if_pos hw];refine .inl ?_;unfold Oper.wp execOp;simp only[ho,hx,hy];simp[go_sem,hc,hf];exact h
end
theorem wpAnyH_tk{P:Program}{md:Region.Mode}{ops:Array Oper}{Q:Exit→Act→World→Prop}{S:World→Prop}{i:Nat}{oi:Oper}{v:Value}{fuel:Nat}{listed:Array Bool}{a:Act}{w:World}(hi:ops[i]?=some oi)(hB:(Region.noSelect ops&&Region.free md ops listed i&&(Region.ready md ops listed).contains i)=true)(hy:YieldsIf P ops S oi v a)(hS:S w)
  (h:wpAnyH P md ops (fun ex a w=>ex=Exit.normal∧Q ex a w) S fuel (listed.setIfInBounds i true) (a.put oi.dst v) w):wpAnyH P md ops (fun ex a w=>ex=Exit.normal∧Q ex a w) S (fuel+1) listed a w:=by
 simp only[Bool.and_eq_true]at hB;exact wpAnyH_take hi hB.1.1 hB.1.2 hB.2 (fun _ _ _ h=>by cases h.1) hy hS h
theorem yif_loadJ{S:World→Prop}{ops:Array Oper}{o:Oper}{a:Act}(hw:Region.wanted o (yielded ops a.tmps)=true)(x:Operand)(ho:o.op=.load 192 x)(b:Nat){vp:Value}{co:Int}{ok:Bool}(hx:a.eval x=.pointer (some ⟨b,0,none⟩))(hr:∀w,S w→JB w b ok co vp):YieldsIf Tryz.prog ops S o (.agg #[.bool ok,.int .i64 co,vp]) a:=
 .inl ⟨hw,fun w hS=>by
  have H':w.heap[b]?=some (.cells #[.bool ok,.int .i64 co,vp] 192 (0,0)):=hr w hS;unfold execOp
  simp only[ho,hx,Instr.loadAt,Instr.sureAddr,Sem.run_bind,Sem.run_pure,Result.andThen_ok,run_loadVar_row (P:=Tryz.prog) w b 192 192 _ _ _ H' Tryz.underlying192 rfl infoJ]⟩
structure RcP(n:Nat)(b:List Nat)(mb:Nat)(W:World)(e:Ending)(w':World):Prop where
 kp:Kp (fun i=>i=mb) W w'
 out:(rdc n b=none∧∃ok co a1 n1 c1,e=.returned (.tuple #[.agg #[.bool ok,.int .i64 co,.slice a1 n1 c1],.bool false]))∨∃c a vp,rdc n b=some (c,a)∧e=.returned (.tuple #[.agg #[.bool c.best,.int .i64 c.cost,vp],.bool true])∧RL (fun g=>W.heap.size≤g) w' vp c.plan∧RR w' mb (b.drop a)
structure Pz(W wr:World)(mb q g n:Nat)(ok:Bool)(co:Int)(us:List Value)(p:List (List Int))(r:List Nat):Prop where
 z:JB wr W.heap.size false 0 (.slice none 0 0)
 jb:JB wr q ok co (.slice (some ⟨g,0,none⟩) n n)
 pq:PQ wr (W.heap.size+1) g n us p
 rr:RR wr mb r
 kp:Kp (fun i=>i=mb) W wr
 q1:W.heap.size<q
 g1:W.heap.size<g
 qg:q≠g
 mb1:mb<W.heap.size
theorem Pz.next{W wr w':World}{mb q g n:Nat}{ok:Bool}{co:Int}{us:List Value}{p:List (List Int)}{r:List Nat}(h:Pz W wr mb q g n ok co us p r)(hb:Below wr.heap.size wr w'):Pz W w' mb q g n ok co us p r:=⟨h.z.below' hb,h.jb.below' hb,h.pq.below' hb,h.rr.below' hb,h.kp.thenBelow hb,h.q1,h.g1,h.qg,h.mb1⟩
theorem rdc_last{n a:Nat}{b:List Nat}{p:List (List Int)}(hx:b[0]?.getD 0≤1)(h9:9≤b.length)(hb:be ((b.drop 1).take 8)≤1099511627776)(hk:rdk b n=some (p,a)):rdc n b=if b[0]?.getD 0=1∨a=b.length then some (⟨decide (b[0]?.getD 0=1),be ((b.drop 1).take 8),p⟩,a)else none:=by
 unfold rdc;rw[if_neg (by omega),hk]
section
variable {W:World} {mb n:Nat} {b:List Nat}
theorem kclaim_any(h:RR W mb b)(hn:n≤8):Calls Tryz.prog 148 #[.pointer (some ⟨mb,0,none⟩),.int .i64 (n:Int)] W fun e w'=>RcP n b mb W e w':=by
 have hml:=h.lt;have HZ0:=Hd (JB.new W false 0 (.slice none 0 0));have HK0:Hid (Kp (fun i=>i=mb) W (W.alloc (.cells #[.bool false,.int .i64 0,.slice none 0 0] 192))):=(Kp.refl _ W).alloc _;have HR0:=Hd (h.below' ((Below.refl W.heap.size W).alloc (Nat.le_refl _) (.cells #[.bool false,.int .i64 0,.slice none 0 0] 192)));have HBY:=Hd h.byt;clear h;cases b with
 |nil=>
  have HTK:=Hd (ktake_no HR0.out (n:=1) (by simp));have HNO:Hid (rdc n []=none):=rdn_short (.inl (by simp))
  go_enter Tryz.func148,Tryz.ntmps148
  go_wp2_with fail
  refine HTK.out.mono ?_;rintro e W2 ⟨rfl,rfl⟩
  go_wp2_with (refine wpList_storeJ rfl _ _ rfl W.heap.size rfl rfl HZ0.out ?_)
  intro W9 hk9 hg9;have HG9:=Hd hg9;have HK9:=Hd (HK0.out.trans hk9 (fun i hi e=>by omega));clear hk9 hg9 HZ0 HK0;go_wp2;exact bodyPost_ret (retJ2 Tryz.results148 rfl rfl HG9.out) rfl ⟨HK9.out,.inl ⟨HNO.out,_,_,_,_,_,rfl⟩⟩
 |cons x r1=>
  have HTK:=Hd (ktake_yes HR0.out (n:=1) (by simp))
  go_enter Tryz.func148,Tryz.ntmps148
  go_wp2_with fail
  refine HTK.out.mono ?_;rintro e W2 ⟨a,rfl,hy,hr,hk⟩;obtain⟨gk,ok,rfl,hcx⟩:=hy.at (i:=0) (x:=x) rfl;have cx:W2.cell? ⟨gk,ok,none⟩=some (.int .u8 (x:Int)):=hcx;have HYY:=Hd hy;have HR2:Hid (RR W2 mb r1):=hr;have HK2:=Hd (HK0.out.trans hk (fun _ _ h=>h));have HZ2:Hid (JB W2 W.heap.size false 0 (.slice none 0 0)):=HZ0.out.kp hk (by omega);clear hy hr hk hcx HTK HR0 HZ0 HK0;by_cases hx:1<x
  ·have q1:(1:Int)<(x:Int):=by omega
   have HNO:Hid (rdc n (x::r1)=none):=rdn_short (.inr (.inl (by simpa using hx)))
   go_wp2_with (refine wpList_storeJ rfl _ _ rfl W.heap.size rfl rfl HZ2.out ?_)
   intro W9 hk9 hg9;have HG9:=Hd hg9;have HK9:=Hd (HK2.out.trans hk9 (fun i hi e=>by omega));clear hk9 hg9 HZ2 HK2;go_wp2;exact bodyPost_ret (retJ2 Tryz.results148 rfl rfl HG9.out) rfl ⟨HK9.out,.inl ⟨HNO.out,_,_,_,_,_,rfl⟩⟩
  have q1:¬(1:Int)<(x:Int):=by omega
  have hx1:x≤1:=by omega
  clear hx;by_cases h8:r1.length<8
  ·have HCO:=Hd (kcostr_short HR2.out h8);have HNO:Hid (rdc n (x::r1)=none):=rdn_short (.inl (by simp;omega))
   go_wp2_with fail
   refine HCO.out.mono ?_;rintro e W3 ⟨rfl,hk3⟩;have HK3:=Hd (HK2.out.trans hk3 (fun _ _ h=>h));have HZ3:=Hd (HZ2.out.kp hk3 (by omega));clear hk3 HCO HK2 HZ2 cx HR2
   go_wp2_with (refine wpList_storeJ rfl _ _ rfl W.heap.size rfl rfl HZ3.out ?_)
   intro W9 hk9 hg9;have HG9:=Hd hg9;have HK9:=Hd (HK3.out.trans hk9 (fun i hi e=>by omega));clear hk9 hg9 HZ3 HK3;go_wp2;exact bodyPost_ret (retJ2 Tryz.results148 rfl rfl HG9.out) rfl ⟨HK9.out,.inl ⟨HNO.out,_,_,_,_,_,rfl⟩⟩
  have HCO:=Hd (kcostr_any HR2.out (by omega))
  go_wp2_with fail
  refine HCO.out.mono ?_;rintro e W3 ⟨hk3,ho⟩;have HK3:=Hd (HK2.out.trans hk3 (fun _ _ h=>h));have HZ3:=Hd (HZ2.out.kp hk3 (by omega));have HY3:Hid (RY (fun g=>g<mb) W3 (.slice (some ⟨gk,ok,none⟩) 1 1) [x]):=HYY.out.keep hk3.size fun g hg hlt=>hk3.block g hlt (by omega);clear hk3 HCO HK2 HZ2 cx HR2 HYY;rcases ho with⟨hbig,rfl⟩|⟨hsm,rfl,hr3⟩
  ·have HNO:Hid (rdc n (x::r1)=none):=rdn_short (.inr (.inr (by exact hbig)));clear hbig
   go_wp2_with (refine wpList_storeJ rfl _ _ rfl W.heap.size rfl rfl HZ3.out ?_)
   intro W9 hk9 hg9;have HG9:=Hd hg9;have HK9:=Hd (HK3.out.trans hk9 (fun i hi e=>by omega));clear hk9 hg9 HZ3 HK3;go_wp2;exact bodyPost_ret (retJ2 Tryz.results148 rfl rfl HG9.out) rfl ⟨HK9.out,.inl ⟨HNO.out,_,_,_,_,_,rfl⟩⟩
  have HR3:=Hd hr3;have HSM:=Hd hsm;have H9:Hid (9≤(x::r1).length):=by show _≤_;simp;omega
  have HX1:Hid ((x::r1)[0]?.getD 0=x):=rfl;obtain⟨co,HCO⟩:∃co,Hid (be (r1.take 8)=co):=⟨_,Hd rfl⟩;rw[HCO.out]at HSM⊢;have HRK:Hid (rdk (x::r1) 0=some ([],9)):=rfl;have HRD:Hid (RR W3 mb ((x::r1).drop 9)):=hr3;have HBC:Hid (be (((x::r1).drop 1).take 8)=co):=HCO.out;generalize hbb:x::r1=bb at H9 HX1 HRK HRD HBY HBC;have HBB:=Hd hbb;clear hr3 hsm HR3 hbb
  go_upto_region 7 with (fail)
  refine wp_nrm ?_;refine wp_region_held (S:=fun w'=>Below W3.heap.size W3 w') (by kernel_rfl) ?_;change wpAnyH _ _ _ _ _ _ _ _ (World.drew _);have HD:Hid (Below W3.heap.size W3 W3.drew):=(Below.refl _ _).drew;generalize hXd:W3.drew=X0 at HD⊢;clear hXd
  have HCX:Hid (∀w',Below W3.heap.size W3 w'→w'.cell? ⟨gk,ok,none⟩=some (.int .u8 (x:Int))):=fun w' hw=>by
   obtain⟨g2,o2,e2,hc2⟩:=(HY3.out.below' hw).at (i:=0) (x:=x) rfl;cases e2;exact hc2
  obtain⟨bst,HBS,hq3,hq4⟩:∃bst,Hid (decide (x=1)=bst)∧((x:Int)==1)=bst∧decide ((x:Int)=1)=bst:=by
   rcases (show x=0∨x=1 by omega)with rfl|rfl
   ·exact⟨false,rfl,rfl,rfl⟩
   ·exact⟨true,rfl,rfl,rfl⟩
  refine wpAnyH_tk (i:=0) rfl (by kernel_rfl) (.inl ⟨rfl,fun _ _=>rfl⟩) HD.out ?_;generalize hKK:wpAnyH _ _ _ _ _ _ _=KK;go_simp;subst hKK;refine wpAnyH_tk (i:=1) (v:=.pointer (some ⟨gk,ok,none⟩)) rfl (by kernel_rfl) (.inl ⟨rfl,fun w _=>by go_simp⟩) HD.out ?_;generalize hKK:wpAnyH _ _ _ _ _ _ _=KK;go_simp;subst hKK;refine wpAnyH_tk (i:=2) (v:=.int .u8 (x:Int)) rfl (by kernel_rfl) (.inl ⟨rfl,fun w hw=>by have hc:=HCX.out w hw;go_simp⟩) HD.out ?_;generalize hKK:wpAnyH _ _ _ _ _ _ _=KK;go_simp;subst hKK;refine wpAnyH_tk (i:=3) (v:=.bool bst) rfl (by kernel_rfl) (.inl ⟨rfl,fun w _=>by go_simp⟩) HD.out ?_;generalize hKK:wpAnyH _ _ _ _ _ _ _=KK;go_simp;subst hKK;refine wpAnyH_tk (i:=4) rfl (by kernel_rfl) (.inl ⟨rfl,fun _ _=>rfl⟩) HD.out ?_;generalize hKK:wpAnyH _ _ _ _ _ _ _=KK;go_simp;subst hKK;refine wpAnyH_tk (i:=5) rfl (by kernel_rfl) (.inl ⟨rfl,fun _ _=>rfl⟩) HD.out ?_;generalize hKK:wpAnyH _ _ _ _ _ _ _=KK;go_simp;subst hKK;refine wpAnyH_all (rs:=[6,8]) (by kernel_rfl) (by simp) (fun ii hii=> ?_);have h7:ii=6∨ii=8:=by simpa using hii
  clear hii;have hw3:=HK3.out.size;have hz3:=HZ3.out.lt;rcases h7 with rfl|rfl;refine wpOp_mkL rfl rfl _ _ rfl n (by omega) rfl rfl ?_;have hb1:=HD.out.alloc HD.out.size (.cells (List.replicate n (Value.slice none 0 0)).toArray 52);refine⟨hb1,?_⟩;generalize hKK:wpAnyH _ _ _ _ _ _ _=KK;go_simp;subst hKK;have HG1:=Hd (World.alloc_heap_new X0 (.cells (List.replicate n (Value.slice none 0 0)).toArray 52));have HB1:=Hd hb1;have hg1:=HD.out.size;rw[List.toArray_replicate]at HG1 HB1;clear hb1;generalize X0.alloc (.cells (Array.replicate n (Value.slice none 0 0)) 52)=X1 at HG1 HB1⊢;generalize X0.heap.size=g at HG1 hg1⊢;have hg2:=(Array.getElem?_eq_some_iff.1 HG1.out).1;refine wpAnyH_tk (i:=7) (v:=.agg #[.bool bst,.int .i64 co,.slice (some ⟨g,0,none⟩) n n]) rfl (by kernel_rfl) (yif_build rfl _ _ rfl [(0,.bool bst),(1,.int .i64 co),(2,.slice (some ⟨g,0,none⟩) n n)] (by simp[Act.eval]) _ (built_jb _ _ _ _ _)) HB1.out ?_;generalize hKK:wpAnyH _ _ _ _ _ _ _=KK;go_simp;subst hKK;refine wpAnyH_all (rs:=[8]) (by kernel_rfl) (by simp) (fun ii hii=> ?_);obtain rfl:ii=8:=by simpa using hii
  clear hii;refine wpOp_val (v:=.pointer (some ⟨X1.heap.size,0,none⟩)) (w':=X1.alloc (.cells #[.bool false,.int .i64 0,.slice none 0 0] 192)) rfl rfl (by go_simp) ?_;have hb2:=HB1.out.alloc HB1.out.size (.cells #[.bool false,.int .i64 0,.slice none 0 0] 192);refine⟨hb2,?_⟩;generalize hKK:wpAnyH _ _ _ _ _ _ _=KK;go_simp;subst hKK;have HJ2:=Hd (JB.new X1 false 0 (.slice none 0 0));have HB2:=Hd hb2;have HG2:Hid ((X1.alloc (.cells #[.bool false,.int .i64 0,.slice none 0 0] 192)).heap[g]?=some (.cells (List.replicate n (Value.slice none 0 0)).toArray 52 (0,0))):=by rw[List.toArray_replicate];exact(Below.heap_alloc X1 _ g hg2).trans HG1.out
  have hqg:X1.heap.size≠g:=by omega
  have hq1:W3.heap.size≤X1.heap.size:=HB1.out.size;clear hb2 HG1 HB1;have hg2:g<(X1.alloc (.cells #[.bool false,.int .i64 0,.slice none 0 0] 192)).heap.size:=by simp;omega
  have hq2:X1.heap.size<(X1.alloc (.cells #[.bool false,.int .i64 0,.slice none 0 0] 192)).heap.size:=by simp
  generalize X1.alloc (.cells #[.bool false,.int .i64 0,.slice none 0 0] 192)=X2 at HJ2 HB2 HG2 hg2 hq2⊢;generalize X1.heap.size=q at HJ2 hqg hq1 hq2⊢;refine wpAnyH_all (rs:=[9]) (by kernel_rfl) (by simp) (fun ii hii=> ?_);obtain rfl:ii=9:=by simpa using hii
  clear hii;refine wpOp_storeJ rfl rfl _ _ rfl q rfl rfl HJ2.out ?_;intro W4 hk4 hn4;have hb4:=hk4.below HB2.out (by omega) (fun i hi e=>by omega);refine⟨hb4,?_⟩;have HP:Hid (Pz W W4 mb q g n bst co (List.replicate n (Value.slice none 0 0)) [] (bb.drop 9)):=⟨(HZ3.out.below' hb4),hn4,⟨(hk4.block g hg2 (fun e=>hqg e.symm)).trans HG2.out,by simp,by omega,fun i u l _ hl=>by simp at hl⟩,(HRD.out.below' hb4),HK3.out.thenBelow hb4,by omega,by omega,hqg,hml⟩;clear hk4 hn4 hb4 HJ2 HG2 HB2;refine wpAnyH_done (by kernel_rfl) ⟨rfl,?_⟩ _;rotate_left;refine wpOp_val (v:=.pointer (some ⟨X0.heap.size,0,none⟩)) (w':=X0.alloc (.cells #[.bool false,.int .i64 0,.slice none 0 0] 192)) rfl rfl (by go_simp) ?_;have hb1:=HD.out.alloc HD.out.size (.cells #[.bool false,.int .i64 0,.slice none 0 0] 192);refine⟨hb1,?_⟩;generalize hKK:wpAnyH _ _ _ _ _ _ _=KK;go_simp;subst hKK;have HJ1:=Hd (JB.new X0 false 0 (.slice none 0 0));have HB1:=Hd hb1;have hq1:=HD.out.size;clear hb1;generalize X0.alloc (.cells #[.bool false,.int .i64 0,.slice none 0 0] 192)=X1 at HJ1 HB1⊢;generalize X0.heap.size=q at HJ1 hq1⊢;have hqx:=HJ1.out.lt;refine wpAnyH_all (rs:=[6]) (by kernel_rfl) (by simp) (fun ii hii=> ?_);obtain rfl:ii=6:=by simpa using hii
  clear hii;refine wpOp_mkL rfl rfl _ _ rfl n (by omega) rfl rfl ?_;have hb2:=HB1.out.alloc HB1.out.size (.cells (List.replicate n (Value.slice none 0 0)).toArray 52);refine⟨hb2,?_⟩;generalize hKK:wpAnyH _ _ _ _ _ _ _=KK;go_simp;subst hKK;have HJ2:=Hd (HJ1.out.below' ((Below.refl _ _).alloc (Nat.le_refl _) (.cells (List.replicate n (Value.slice none 0 0)).toArray 52)));have HG2:=Hd (World.alloc_heap_new X1 (.cells (List.replicate n (Value.slice none 0 0)).toArray 52));have HB2:=Hd hb2;have hqg:q≠X1.heap.size:=by omega
  have hg1:W3.heap.size≤X1.heap.size:=HB1.out.size;have hg2:X1.heap.size<(X1.alloc (.cells (List.replicate n (Value.slice none 0 0)).toArray 52)).heap.size:=by simp
  have hq2:q<(X1.alloc (.cells (List.replicate n (Value.slice none 0 0)).toArray 52)).heap.size:=by simp;omega
  clear hb2 HJ1 HB1;rw[List.toArray_replicate]at HJ2 HB2 HG2 hg2 hq2;generalize X1.alloc (.cells (Array.replicate n (Value.slice none 0 0)) 52)=X2 at HJ2 HB2 HG2 hg2 hq2⊢;generalize X1.heap.size=g at HG2 hqg hg1 hg2⊢;rw[←List.toArray_replicate]at HG2;refine wpAnyH_tk (i:=7) (v:=.agg #[.bool bst,.int .i64 co,.slice (some ⟨g,0,none⟩) n n]) rfl (by kernel_rfl) (yif_build rfl _ _ rfl [(0,.bool bst),(1,.int .i64 co),(2,.slice (some ⟨g,0,none⟩) n n)] (by simp[Act.eval]) _ (built_jb _ _ _ _ _)) HB2.out ?_;generalize hKK:wpAnyH _ _ _ _ _ _ _=KK;go_simp;subst hKK;refine wpAnyH_all (rs:=[9]) (by kernel_rfl) (by simp) (fun ii hii=> ?_);obtain rfl:ii=9:=by simpa using hii
  clear hii;refine wpOp_storeJ rfl rfl _ _ rfl q rfl rfl HJ2.out ?_;intro W4 hk4 hn4;have hb4:=hk4.below HB2.out (by omega) (fun i hi e=>by omega);refine⟨hb4,?_⟩;have HP:Hid (Pz W W4 mb q g n bst co (List.replicate n (Value.slice none 0 0)) [] (bb.drop 9)):=⟨(HZ3.out.below' hb4),hn4,⟨(hk4.block g hg2 (fun e=>hqg e.symm)).trans HG2.out,by simp,by omega,fun i u l _ hl=>by simp at hl⟩,(HRD.out.below' hb4),HK3.out.thenBelow hb4,by omega,by omega,hqg,hml⟩;clear hk4 hn4 hb4 HJ2 HG2 HB2;refine wpAnyH_done (by kernel_rfl) ⟨rfl,?_⟩ _
  all_goals
   clear HZ3 HK3 HCX HD hg1 hg2 hq1 hq2 hqg hw3 hz3 HRD hq3 hq4 HY3
   go_wp2_with fail
   go_loopw [42] (fun cv wr=>∃(c a:Nat) (us:List Value) (p:List (List Int)),c≤n∧cv=.int .i64 (c:Int)∧Hid (rdk bb c=some (p,a))∧Hid (Pz W wr mb q g n bst co us p (bb.drop a))) (fun cv _=>n-(intOf cv).toNat)
   case atStart=>exact⟨0,9,_,[],Nat.zero_le _,rfl,HRK,HP⟩
   case round=>
    clear HP HRK;obtain⟨c,a,us,p,hc,rfl,HRK,HP⟩:=hrel;obtain⟨hpl,ha9,hal⟩:=rdk_form H9.out HRK.out;by_cases hlt:c<n
    ·have hcz:(c:Int)<(n:Int):=by omega
     go_upto_region 11 with (fail)
     refine wp_nrm ?_;refine wp_region_held (S:=fun w'=>w'.cell? ⟨q,2,none⟩=some (.slice (some ⟨g,0,none⟩) n n)) (by kernel_rfl) ?_;change wpAnyH _ _ _ _ _ _ _ _ (World.drew _);have HP0:=Hd (HP.out.next (Below.refl wr.heap.size wr).drew);generalize hXd:wr.drew=X0 at HP0⊢;clear hXd HP;have HD:Hid (X0.cell? ⟨q,2,none⟩=some (.slice (some ⟨g,0,none⟩) n n)):=HP0.out.jb.cell 2;refine wpAnyH_tk (i:=0) rfl (by kernel_rfl) (.inl ⟨rfl,fun _ _=>rfl⟩) HD.out ?_;generalize hKK:wpAnyH _ _ _ _ _ _ _=KK;go_simp;subst hKK;refine wpAnyH_tk (i:=1) (v:=.slice (some ⟨g,0,none⟩) n n) rfl (by kernel_rfl) (.inl ⟨rfl,fun w hw=>by go_simp⟩) HD.out ?_;generalize hKK:wpAnyH _ _ _ _ _ _ _=KK;go_simp;subst hKK;refine wpAnyH_tk (i:=2) rfl (by kernel_rfl) (.inl ⟨rfl,fun _ _=>rfl⟩) HD.out ?_;generalize hKK:wpAnyH _ _ _ _ _ _ _=KK;go_simp;subst hKK;refine wpAnyH_tk (i:=3) rfl (by kernel_rfl) (.inl ⟨rfl,fun _ _=>rfl⟩) HD.out ?_;generalize hKK:wpAnyH _ _ _ _ _ _ _=KK;go_simp;subst hKK;refine wpAnyH_all (rs:=[4]) (by kernel_rfl) (by simp) (fun ii hii=> ?_);obtain rfl:ii=4:=by simpa using hii
     clear hii;refine wpOp_call rfl rfl ?hrun (klist_all HP0.out.rr) ?_
     case hrun=>unfold execOp;simp[resolve,invoke,go_sem]
     rintro e X1 ⟨al,kl,cl,okl,rfl,hk1,hor⟩;have hm1:=HP0.out.mb1;have hj1:=HP0.out.q1;have hg1:=HP0.out.g1;have HJ1:=Hd (HP0.out.jb.kp hk1 (by omega));have HZ1:=Hd (HP0.out.z.kp hk1 (by omega));have HK1:=Hd (HP0.out.kp.trans hk1 (fun _ _ h=>h));have HQ1:=Hd (HP0.out.pq.kp hk1 (fun i e=>by omega));have hqg:=HP0.out.qg;have HX0:=Hd HP0.out.z.lt;have hgx:=HP0.out.pq.lt;refine⟨_,rfl,HJ1.out.cell 2,?_⟩;have HD1:Hid (X1.cell? ⟨q,2,none⟩=some (.slice (some ⟨g,0,none⟩) n n)):=HJ1.out.cell 2;clear HD hk1;generalize hKK:wpAnyH _ _ _ _ _ _ _=KK;go_simp;subst hKK;refine wpAnyH_tk (i:=5) (v:=.tuple #[.slice al kl cl,.bool okl]) rfl (by kernel_rfl) (.inl ⟨rfl,fun w _=>by go_simp⟩) HD1.out ?_;generalize hKK:wpAnyH _ _ _ _ _ _ _=KK;go_simp;subst hKK;refine wpAnyH_tk (i:=6) (v:=.slice al kl cl) rfl (by kernel_rfl) (.inl ⟨rfl,fun w _=>by go_simp⟩) HD1.out ?_;generalize hKK:wpAnyH _ _ _ _ _ _ _=KK;go_simp;subst hKK;refine wpAnyH_tk (i:=7) (v:=.bool okl) rfl (by kernel_rfl) (.inl ⟨rfl,fun w _=>by go_simp⟩) HD1.out ?_;generalize hKK:wpAnyH _ _ _ _ _ _ _=KK;go_simp;subst hKK;refine wpAnyH_tk (i:=8) (v:=.pointer (some ⟨g,c,none⟩)) rfl (by kernel_rfl) (.inl ⟨rfl,fun w _=>by go_simp⟩) HD1.out ?_;generalize hKK:wpAnyH _ _ _ _ _ _ _=KK;go_simp;subst hKK;obtain⟨ug,hug⟩:∃u,us[c]?=some u:=⟨_,List.getElem?_eq_getElem (by rw[HQ1.out.len];exact hlt)⟩;have cg:X1.cell? ⟨g,c,none⟩=some ug:=(blk_cell HQ1.out.hl c).trans hug;have fg:X1.frozen? ⟨g,c,none⟩=false:=blk_fr HQ1.out.hl c;have kg:Kp (fun i=>i=g) X1 (X1.setCell ⟨g,c,none⟩ (.slice al kl cl)):=(Kp.refl (fun i=>i=g) X1).set _ _ _ (fun _=>rfl);refine wpAnyH_all (rs:=[9]) (by kernel_rfl) (by simp) (fun ii hii=> ?_);obtain rfl:ii=9:=by simpa using hii
     clear hii;refine wpOp_storeL rfl rfl _ _ rfl g c rfl rfl cg fg ?_;have HJ2:=Hd (HJ1.out.kp kg hqg);have HZ2:=Hd (HZ1.out.kp kg (by omega));have HK2:=Hd (HK1.out.trans kg (fun i hi e=>by omega));have HKG:=Hd kg;refine⟨HJ2.out.cell 2,?_⟩;clear cg fg kg HJ1 HZ1 HK1;have HD2:Hid ((X1.setCell ⟨g,c,none⟩ (.slice al kl cl)).cell? ⟨q,2,none⟩=some (.slice (some ⟨g,0,none⟩) n n)):=HJ2.out.cell 2;generalize hX2:X1.setCell ⟨g,c,none⟩ (.slice al kl cl)=X2 at HJ2 HZ2 HK2 HKG HD2⊢;have HX2:=Hd hX2;clear hX2 HD1;generalize hKK:wpAnyH _ _ _ _ _ _ _=KK;go_simp;subst hKK;refine wpAnyH_all (rs:=[10]) (by kernel_rfl) (by simp) (fun ii hii=> ?_);obtain rfl:ii=10:=by simpa using hii
     clear hii;refine wpOp_val (v:=.bool okl) (w':=X2) rfl rfl (by go_simp) ?_;refine⟨HD2.out,wpAnyH_done (by kernel_rfl) ⟨rfl,?_⟩ _⟩;clear HD2 HP0;rcases hor with⟨rfl,hbad⟩|⟨rfl,m,r2,hr2,hm2,hri,hrr⟩
     ·have HNO:Hid (rdc n (x::r1)=none):=by
       show _=_;rw[HBB.out];refine rdn_lists ?_
       have hnone:rdk bb (c+1)=none:=by
        rcases hbad with hbad|⟨m,r2,hr2,hm2⟩
        ·exact rdk_out HRK.out (by rw[List.drop_eq_nil_iff]at hbad;exact hbad)
        ·have hat:bb[a]?=some m:=by
          have:(bb.drop a)[0]?=some m:=by rw[hr2];rfl
          rwa[List.getElem?_drop,Nat.add_zero]at this
         refine rdk_long HRK.out hat ?_;have hl:=congrArg List.length hr2;rw[List.length_drop,List.length_cons]at hl;omega
       have:=rdk_none hnone (n-(c+1));rwa[show c+1+(n-(c+1))=n by omega]at this
      clear hbad HQ1 HRK HJ2 HKG HX2 hug
      go_wp2_with (refine wpList_storeJ rfl _ _ rfl W.heap.size rfl rfl HZ2.out ?_)
      intro W9 hk9 hg9;have HG9:=Hd hg9;have HK9:=Hd (HK2.out.trans hk9 (fun i hi e=>by omega));clear hk9 hg9 HZ2 HK2;go_wp2;exact bodyPost_ret (retJ2 Tryz.results148 rfl rfl HG9.out) rfl ⟨HK9.out,.inl ⟨HNO.out,_,_,_,_,_,rfl⟩⟩
     ·have hat:bb[a]?=some m:=by
       have:(bb.drop a)[0]?=some m:=by rw[hr2];rfl
       rwa[List.getElem?_drop,Nat.add_zero]at this
      have hr1:r2=bb.drop (a+1):=by
       have:=congrArg (List.drop 1) hr2;rw[List.drop_drop]at this;exact this.symm
      have hl:=congrArg List.length hr2;rw[List.length_drop,List.length_cons]at hl;have HRK2:Hid (rdk bb (c+1)=some (p++[((bb.drop (a+1)).take m).map fun (x:Nat)=>(x:Int)],a+m+1)):=rdk_next HRK.out hat (by omega)
      have HPZ:Hid (Pz W X2 mb q g n bst co (us.set c (.slice al kl cl)) (p++[((bb.drop (a+1)).take m).map fun (x:Nat)=>(x:Int)]) (bb.drop (a+m+1))):=by
       refine⟨HZ2.out,HJ2.out,?_,?_,HK2.out,hj1,hg1,hqg,hm1⟩
       ·rw[←HX2.out];refine HQ1.out.put hpl.symm hlt ?_;rw[←hr1];exact hri.mono fun k hk hlt2 _=>⟨by have:=HX0.out;omega,fun e=>by omega⟩
       ·rw[show bb.drop (a+m+1)=r2.drop m by rw[hr1,List.drop_drop];congr 1;omega];exact hrr.far HKG.out (fun i e=>by omega)
      clear hr2 hm2 hri hrr hat hr1 hl HQ1 HRK HJ2 HKG HX2 HZ2 HK2 hug;go_wp2;go_roundw
      case rel=>exact⟨c+1,a+m+1,_,_,by omega,by go_num,HRK2,HPZ⟩
      case measure=>simp[intOf];omega
    ·have hcz:¬(c:Int)<(n:Int):=by omega
     have hce:c=n:=by omega
     rw[hce]at HRK hpl;obtain⟨vr,hrb,hry⟩:=HP.out.rr.bl;obtain⟨ar,kr,rfl,_,_,_⟩:=hry.form;have HRB:=Hd hrb;have hdl:(bb.drop a).length=bb.length-a:=List.length_drop;have HLA:=Hd (rdc_last (n:=n) (a:=a) (b:=bb) (p:=p) (by rw[HX1.out];exact hx1) H9.out (by rw[HBC.out];exact HSM.out) HRK.out);rw[HX1.out,HBC.out,HBS.out]at HLA;have HPL:=Hd (HP.out.pq.rl hpl);clear hrb hry hce;generalize hln:(bb.drop a).length=ln at HRB hdl;have HD9:Hid (ln=bb.length-a):=hdl;clear hln hdl
     obtain⟨okr,HOK,hqr⟩:∃okr,Hid ((bst=true∨ln=0)↔okr=true)∧(bst=false→((ln:Int)==0)=okr):=by
      cases bst with
      |true=>exact⟨true,⟨fun _=>rfl,fun _=>.inl rfl⟩,fun h=>by cases h⟩
      |false=>
       by_cases hz:ln=0
       ·exact⟨true,⟨fun _=>rfl,fun _=>.inr hz⟩,fun _=>by simp[hz]⟩
       ·exact⟨false,⟨fun h=>by rcases h with h|h;cases h;exact absurd h hz,fun h=>by cases h⟩,fun _=>by simp[hz]⟩
     have HFIN:Hid (∀W5,Below wr.heap.size wr W5→∀W9,Kp (fun k=>k=W.heap.size) W5 W9→RcP n (x::r1) mb W (.returned (.tuple #[.agg #[.bool bst,.int .i64 co,.slice (some ⟨g,0,none⟩) n n],.bool okr])) W9):=fun W5 hb5 W9 hk9=>by
      have hP5:=HP.out.next hb5;have hm1:=hP5.mb1;refine⟨hP5.kp.trans hk9 (fun i hi e=>by omega),?_⟩;rw[HBB.out];cases okr with
      |true=>
       have hcond:x=1∨a=bb.length:=by
        rcases HOK.out.2 rfl with h|h
        ·left;have:=HBS.out;rw[h]at this;simpa using this
        ·right;have:=HD9.out;omega
       refine .inr ⟨⟨bst,co,p⟩,a,_,by rw[HLA.out,if_pos hcond],rfl,?_,hP5.rr.far hk9 (fun i e=>by omega)⟩;exact((hP5.pq.rl hpl).keep hk9.size fun k hk hlt2=>hk9.block k hlt2 (by omega)).mono fun k hk _ _=>by omega
      |false=>
       refine .inl ⟨?_,_,_,_,_,_,rfl⟩;rw[HLA.out,if_neg];rintro (h|h)
       ·have:=HOK.out.1 (.inl (by rw[←HBS.out];simpa using h));cases this
       ·have:=HOK.out.1 (.inr (by have:=HD9.out;omega));cases this
     clear HPL HLA HD9 HRK hpl ha9 hal
     go_upto_region 15 with (fail)
     cases bst with
     |true=>
      obtain rfl:okr=true:=HOK.out.1 (.inl rfl);clear hqr HOK;refine wp_nrm ?_;refine wp_region_held (S:=fun w'=>JB w' q true co (.slice (some ⟨g,0,none⟩) n n)∧w'.cell? ⟨mb,0,none⟩=some (.slice ar ln kr)) (by kernel_rfl) ?_;change wpAnyH _ _ _ _ _ _ _ _ (World.drew _);have HP0:=Hd (HP.out.next (Below.refl wr.heap.size wr).drew);have HB0:Hid (Below wr.heap.size wr wr.drew):=(Below.refl _ _).drew;have HRB0:=Hd (HRB.out.below' HB0.out);generalize hXd:wr.drew=X0 at HP0 HB0 HRB0⊢;clear hXd HP HRB;have HD:Hid (JB X0 q true co (.slice (some ⟨g,0,none⟩) n n)∧X0.cell? ⟨mb,0,none⟩=some (.slice ar ln kr)):=⟨HP0.out.jb,HRB0.out.cell⟩;refine wpAnyH_tk (i:=0) rfl (by kernel_rfl) (yif_loadJ rfl _ rfl q rfl fun w hw=>hw.1) HD.out ?_;generalize hKK:wpAnyH _ _ _ _ _ _ _=KK;go_simp;subst hKK;refine wpAnyH_tk (i:=1) rfl (by kernel_rfl) (.inl ⟨rfl,fun _ _=>rfl⟩) HD.out ?_;generalize hKK:wpAnyH _ _ _ _ _ _ _=KK;go_simp;subst hKK;refine wpAnyH_tk (i:=2) (v:=.bool true) rfl (by kernel_rfl) (.inl ⟨rfl,fun w hw=>by have hc:w.cell? ⟨q,0,none⟩=some (.bool true):=hw.1.cell 0;go_simp⟩) HD.out ?_;generalize hKK:wpAnyH _ _ _ _ _ _ _=KK;go_simp;subst hKK;refine wpAnyH_tk (i:=3) rfl (by kernel_rfl) (.inl ⟨rfl,fun _ _=>rfl⟩) HD.out ?_;generalize hKK:wpAnyH _ _ _ _ _ _ _=KK;go_simp;subst hKK;refine wpAnyH_tk (i:=4) (v:=undef) rfl (by kernel_rfl) (.inr ⟨rfl,rfl⟩) HD.out ?_;generalize hKK:wpAnyH _ _ _ _ _ _ _=KK;go_simp;subst hKK;refine wpAnyH_tk (i:=5) (v:=undef) rfl (by kernel_rfl) (.inr ⟨rfl,rfl⟩) HD.out ?_;generalize hKK:wpAnyH _ _ _ _ _ _ _=KK;go_simp;subst hKK;refine wpAnyH_tk (i:=6) (v:=undef) rfl (by kernel_rfl) (.inr ⟨rfl,rfl⟩) HD.out ?_;generalize hKK:wpAnyH _ _ _ _ _ _ _=KK;go_simp;subst hKK;refine wpAnyH_tk (i:=7) (v:=undef) rfl (by kernel_rfl) (.inr ⟨rfl,rfl⟩) HD.out ?_;generalize hKK:wpAnyH _ _ _ _ _ _ _=KK;go_simp;subst hKK;refine wpAnyH_tk (i:=8) (v:=undef) rfl (by kernel_rfl) (.inr ⟨rfl,rfl⟩) HD.out ?_;generalize hKK:wpAnyH _ _ _ _ _ _ _=KK;go_simp;subst hKK;refine wpAnyH_tk (i:=9) (v:=undef) rfl (by kernel_rfl) (.inr ⟨rfl,rfl⟩) HD.out ?_;generalize hKK:wpAnyH _ _ _ _ _ _ _=KK;go_simp;subst hKK;refine wpAnyH_tk (i:=10) (v:=.bool true) rfl (by kernel_rfl) (.inl ⟨rfl,fun w _=>by go_simp⟩) HD.out ?_;generalize hKK:wpAnyH _ _ _ _ _ _ _=KK;go_simp;subst hKK;refine wpAnyH_all (rs:=[11]) (by kernel_rfl) (by simp) (fun ii hii=> ?_);obtain rfl:ii=11:=by simpa using hii
      clear hii;refine wpOp_storeJ rfl rfl _ _ rfl W.heap.size rfl rfl HP0.out.z ?_;intro W9 hk9 hg9;have hm1:=HP0.out.mb1;have hq1:=HP0.out.q1;have hS9:JB W9 q true co (.slice (some ⟨g,0,none⟩) n n)∧W9.cell? ⟨mb,0,none⟩=some (.slice ar ln kr):=⟨HP0.out.jb.kp hk9 (by omega),RB.cell ((hk9.block mb HRB0.out.lt (by omega)).trans HRB0.out)⟩;refine⟨hS9,?_⟩;generalize hKK:wpAnyH _ _ _ _ _ _ _=KK;go_simp;subst hKK;refine wpAnyH_all (rs:=[12]) (by kernel_rfl) (by simp) (fun ii hii=> ?_);obtain rfl:ii=12:=by simpa using hii
      clear hii;refine wpOp_val (v:=.bool true) (w':=W9) rfl rfl (by go_simp) ?_;refine⟨hS9,wpAnyH_done (by kernel_rfl) ⟨rfl,?_⟩ _⟩;have HG9:=Hd hg9;have HK9:=Hd hk9;clear hk9 hg9 hS9 HD HP0;go_wp2;exact bodyPost_ret (retJ2 Tryz.results148 rfl rfl HG9.out) rfl (HFIN.out X0 HB0.out W9 HK9.out)
     |false=>
      have hqz:=hqr rfl;clear hqr HOK;refine wp_nrm ?_;refine wp_region_held (S:=fun w'=>JB w' q false co (.slice (some ⟨g,0,none⟩) n n)∧w'.cell? ⟨mb,0,none⟩=some (.slice ar ln kr)) (by kernel_rfl) ?_;change wpAnyH _ _ _ _ _ _ _ _ (World.drew _);have HP0:=Hd (HP.out.next (Below.refl wr.heap.size wr).drew);have HB0:Hid (Below wr.heap.size wr wr.drew):=(Below.refl _ _).drew;have HRB0:=Hd (HRB.out.below' HB0.out);generalize hXd:wr.drew=X0 at HP0 HB0 HRB0⊢;clear hXd HP HRB;have HD:Hid (JB X0 q false co (.slice (some ⟨g,0,none⟩) n n)∧X0.cell? ⟨mb,0,none⟩=some (.slice ar ln kr)):=⟨HP0.out.jb,HRB0.out.cell⟩;refine wpAnyH_tk (i:=0) rfl (by kernel_rfl) (yif_loadJ rfl _ rfl q rfl fun w hw=>hw.1) HD.out ?_;generalize hKK:wpAnyH _ _ _ _ _ _ _=KK;go_simp;subst hKK;refine wpAnyH_tk (i:=1) rfl (by kernel_rfl) (.inl ⟨rfl,fun _ _=>rfl⟩) HD.out ?_;generalize hKK:wpAnyH _ _ _ _ _ _ _=KK;go_simp;subst hKK;refine wpAnyH_tk (i:=2) (v:=.bool false) rfl (by kernel_rfl) (.inl ⟨rfl,fun w hw=>by have hc:w.cell? ⟨q,0,none⟩=some (.bool false):=hw.1.cell 0;go_simp⟩) HD.out ?_;generalize hKK:wpAnyH _ _ _ _ _ _ _=KK;go_simp;subst hKK;refine wpAnyH_tk (i:=3) rfl (by kernel_rfl) (.inl ⟨rfl,fun _ _=>rfl⟩) HD.out ?_;generalize hKK:wpAnyH _ _ _ _ _ _ _=KK;go_simp;subst hKK;refine wpAnyH_tk (i:=4) rfl (by kernel_rfl) (.inl ⟨rfl,fun _ _=>rfl⟩) HD.out ?_;generalize hKK:wpAnyH _ _ _ _ _ _ _=KK;go_simp;subst hKK;refine wpAnyH_tk (i:=5) rfl (by kernel_rfl) (.inl ⟨rfl,fun _ _=>rfl⟩) HD.out ?_;generalize hKK:wpAnyH _ _ _ _ _ _ _=KK;go_simp;subst hKK;refine wpAnyH_tk (i:=6) rfl (by kernel_rfl) (.inl ⟨rfl,fun _ _=>rfl⟩) HD.out ?_;generalize hKK:wpAnyH _ _ _ _ _ _ _=KK;go_simp;subst hKK;refine wpAnyH_tk (i:=7) (v:=.slice ar ln kr) rfl (by kernel_rfl) (.inl ⟨rfl,fun w hw=>by have hc:=hw.2;go_simp⟩) HD.out ?_;generalize hKK:wpAnyH _ _ _ _ _ _ _=KK;go_simp;subst hKK;refine wpAnyH_tk (i:=8) (v:=.int .i64 (ln:Int)) rfl (by kernel_rfl) (.inl ⟨rfl,fun w _=>by go_simp⟩) HD.out ?_;generalize hKK:wpAnyH _ _ _ _ _ _ _=KK;go_simp;subst hKK;refine wpAnyH_tk (i:=9) (v:=.bool okr) rfl (by kernel_rfl) (.inl ⟨rfl,fun w _=>by go_simp⟩) HD.out ?_;generalize hKK:wpAnyH _ _ _ _ _ _ _=KK;go_simp;subst hKK;refine wpAnyH_tk (i:=10) (v:=.bool okr) rfl (by kernel_rfl) (.inl ⟨rfl,fun w _=>by go_simp⟩) HD.out ?_;generalize hKK:wpAnyH _ _ _ _ _ _ _=KK;go_simp;subst hKK;refine wpAnyH_all (rs:=[11]) (by kernel_rfl) (by simp) (fun ii hii=> ?_);obtain rfl:ii=11:=by simpa using hii
      clear hii;refine wpOp_storeJ rfl rfl _ _ rfl W.heap.size rfl rfl HP0.out.z ?_;intro W9 hk9 hg9;have hm1:=HP0.out.mb1;have hq1:=HP0.out.q1;have hS9:JB W9 q false co (.slice (some ⟨g,0,none⟩) n n)∧W9.cell? ⟨mb,0,none⟩=some (.slice ar ln kr):=⟨HP0.out.jb.kp hk9 (by omega),RB.cell ((hk9.block mb HRB0.out.lt (by omega)).trans HRB0.out)⟩;refine⟨hS9,?_⟩;generalize hKK:wpAnyH _ _ _ _ _ _ _=KK;go_simp;subst hKK;refine wpAnyH_all (rs:=[12]) (by kernel_rfl) (by simp) (fun ii hii=> ?_);obtain rfl:ii=12:=by simpa using hii
      clear hii;refine wpOp_val (v:=.bool okr) (w':=W9) rfl rfl (by go_simp) ?_;refine⟨hS9,wpAnyH_done (by kernel_rfl) ⟨rfl,?_⟩ _⟩;have HG9:=Hd hg9;have HK9:=Hd hk9;clear hk9 hg9 hS9 HD HP0;go_wp2;exact bodyPost_ret (retJ2 Tryz.results148 rfl rfl HG9.out) rfl (HFIN.out X0 HB0.out W9 HK9.out)
end
theorem right_t(s:St)(r:SM.Rt s)(w:World):Calls Tryz.prog 34 #[.agg (sv s).toArray] w fun e w'=>e=.returned (.bool true)∧Below w.heap.size w w':=by
 have:=right_any s w;rwa[rightB_true r]at this
def Blk(W:World)(b:Nat)(C:Array Value)(t:TypeId):Prop:=W.heap[b]?=some (.cells C t (0,0))
theorem Blk.lt{W:World}{b:Nat}{C:Array Value}{t:TypeId}(h:Blk W b C t):b<W.heap.size:=(Array.getElem?_eq_some_iff.1 h).1
theorem Blk.cell{W:World}{b:Nat}{C:Array Value}{t:TypeId}(h:Blk W b C t)(i:Nat):W.cell? ⟨b,i,none⟩=C[i]?:=by
 simp[World.cell?,show W.heap[b]?=_ from h]
theorem Blk.frozen{W:World}{b:Nat}{C:Array Value}{t:TypeId}(h:Blk W b C t)(i:Nat):W.frozen? ⟨b,i,none⟩=false:=by
 simp[World.frozen?,show W.heap[b]?=_ from h]
theorem Blk.below{W W':World}{b:Nat}{C:Array Value}{t:TypeId}(h:Blk W b C t)(hb:Below W.heap.size W W'):Blk W' b C t:=(hb.block b h.lt).trans h
theorem Blk.set{W:World}{b:Nat}{C:Array Value}{t:TypeId}(h:Blk W b C t)(i:Nat)(v:Value):Blk (W.setCell ⟨b,i,none⟩ v) b (C.setIfInBounds i v) t:=by
 unfold Blk at*;simp only[World.setCell,Array.getElem?_modify,if_true,h];rfl
theorem Blk.other{W:World}{b b':Nat}{C:Array Value}{t:TypeId}(h:Blk W b C t)(hne:b≠b')(i:Nat)(v:Value):Blk (W.setCell ⟨b',i,none⟩ v) b C t:=
 (Below.heap_setCell W ⟨b',i,none⟩ v b hne).trans h
theorem Blk.new(W:World)(C:Array Value)(t:TypeId):Blk (W.alloc (.cells C t)) W.heap.size C t:=World.alloc_heap_new W _
theorem Blk.alloc{W:World}{b:Nat}{C:Array Value}{t:TypeId}(h:Blk W b C t)(o:Obj):Blk (W.alloc o) b C t:=(Below.heap_alloc W o b h.lt).trans h
def zrows(n:Nat):Array Value:=(List.replicate n (Value.slice none 0 0)).toArray
def zints(n:Nat):Array Value:=(List.replicate n (Value.int .i64 0)).toArray
theorem zrows_size(n:Nat):(zrows n).size=n:=by simp[zrows]
theorem zints_size(n:Nat):(zints n).size=n:=by simp[zints]
theorem zints_get(n i:Nat)(h:i<n):(zints n)[i]?=some (.int .i64 0):=by simp[zints,h]
theorem mkBH(n:Nat)(hn:n≤64)(W:World):(Instr.makeSlice 149 (.int .i64 (n:Int)) (.int .i64 (n:Int))).run Tryz.prog W=.ok (.slice (some ⟨W.heap.size,0,none⟩) n n) (W.alloc (.cells (zrows n) 52)):=by
 obtain⟨i,hi,h1,h2,h3⟩:=info_h infoHL
 have:=run_make (P:=Tryz.prog) W 149 52 i _ Tryz.underlying149 hi h1 .i64 .i64 (n:Int) (n:Int) (by omega) (by omega) (by
  have:(i.bytes:Int)*(n:Int)≤24*64:=Int.mul_le_mul (by omega) (by omega) (by omega) (by omega)
  omega) (by omega)
 rw[this,h2,Int.toNat_natCast,made_one _ rfl,Nat.mul_one];rfl
theorem mkIn(n:Nat)(hn:n≤64)(W:World):(Instr.makeSlice 52 (.int .i64 (n:Int)) (.int .i64 (n:Int))).run Tryz.prog W=.ok (.slice (some ⟨W.heap.size,0,none⟩) n n) (W.alloc (.cells (zints n) 3)):=mkI n (by omega) W
def Tab(s:St)(n G k R0:Nat)(C:Array Value)(W:World):Prop:=∀i,i<k→∃(R:Nat) (D:Array Value),G<R∧R<R0∧C[i]?=some (.slice (some ⟨R,0,none⟩) n n)∧Blk W R D 3∧∀j:Nat,j<n→D[j]?=some (.int .i64 (SM.trav s i j))
theorem Tab.below{s:St}{n G k R0:Nat}{C:Array Value}{W W':World}(h:Tab s n G k R0 C W)(hb:Below W.heap.size W W'):Tab s n G k R0 C W':=fun i hi=>by
 obtain⟨R,D,h1,h2,h3,h4,h5⟩:=h i hi;exact⟨R,D,h1,h2,h3,h4.below hb,h5⟩
theorem Tab.le{s:St}{n G k R0 R1:Nat}{C:Array Value}{W:World}(h:Tab s n G k R0 C W)(hR:R0≤R1):Tab s n G k R1 C W:=fun i hi=>by
 obtain⟨R,D,h1,h2,h3,h4,h5⟩:=h i hi;exact⟨R,D,h1,by omega,h3,h4,h5⟩
theorem Tab.other{s:St}{n G k R0 b':Nat}{C:Array Value}{W:World}(h:Tab s n G k R0 C W)(hR:R0≤b')(i:Nat)(v:Value):Tab s n G k R0 C (W.setCell ⟨b',i,none⟩ v):=fun i hi=>by
 obtain⟨R,D,h1,h2,h3,h4,h5⟩:=h i hi;exact⟨R,D,h1,h2,h3,h4.other (by omega) _ _,h5⟩
theorem Tab.set{s:St}{n G k R0:Nat}{C:Array Value}{W:World}(h:Tab s n G k R0 C W)(v:Value):Tab s n G k R0 (C.setIfInBounds k v) (W.setCell ⟨G,k,none⟩ v):=fun i hi=>by
 obtain⟨R,D,h1,h2,h3,h4,h5⟩:=h i hi;exact⟨R,D,h1,h2,by rw[Array.getElem?_setIfInBounds_ne (by omega)];exact h3,h4.other (by omega) _ _,h5⟩
theorem held11{W:World}{B G R k n:Nat}{s:St}{C:Array Value}(h:SB W B s)(hG:Blk W G C 52)(hk:C[k]?=some (.slice (some ⟨R,0,none⟩) n n)):
  SB W B s∧W.cell? ⟨B,0,none⟩=some (.int .i64 s.fl)∧W.cell? ⟨B,1,none⟩=some (.int .i64 s.ca)∧W.cell? ⟨B,2,none⟩=some (.int .i64 s.sta)∧W.cell? ⟨B,3,none⟩=some (.int .i64 s.ste)∧W.cell? ⟨B,4,none⟩=some (.int .i64 s.sto)∧W.cell? ⟨B,5,none⟩=some (.int .i64 s.opn)∧W.cell? ⟨B,6,none⟩=some (.int .i64 s.wai)∧W.cell? ⟨B,7,none⟩=some (.int .i64 s.clo)∧W.cell? ⟨B,8,none⟩=some (.int .i64 s.nud)∧W.cell? ⟨B,9,none⟩=some (.int .i64 s.age)∧W.cell? ⟨B,10,none⟩=some (.int .i64 s.sil)∧W.cell? ⟨B,11,none⟩=some (.int .i64 s.bud)∧W.cell? ⟨B,12,none⟩=some (.int .i64 s.per)∧W.cell? ⟨G,k,none⟩=some (.slice (some ⟨R,0,none⟩) n n):=
 ⟨h,h.cell 0,h.cell 1,h.cell 2,h.cell 3,h.cell 4,h.cell 5,h.cell 6,h.cell 7,h.cell 8,h.cell 9,h.cell 10,h.cell 11,h.cell 12,(hG.cell k).trans hk⟩
theorem table_any(s:St)(r:SM.Rt s)(n:Nat)(hn:s.fl=(n:Int))(w:World):
  Calls Tryz.prog 193 #[.agg (sv s).toArray] w fun e w'=>(∃(G:Nat) (C:Array Value),e=.returned (.slice (some ⟨G,0,none⟩) n n)∧w.heap.size≤G∧Blk w' G C 52∧Tab s n G n w'.heap.size C w')∧Below w.heap.size w w':=by
 have HB:Hid (Below w.heap.size w (w.alloc (.cells (sv s).toArray 23))):=Hd ((Below.refl _ w).alloc (Nat.le_refl _) _);have HN:=Hd (SB.new w s);have n1:2≤n:=by have:=r.fl1;omega
 have n2:n≤64:=by have:=r.fl2;omega
 have HFL:=Hd hn;clear hn
 go_enter Tryz.func193,Tryz.ntmps193
 go_wp2_with (refine wpList_load23 rfl _ rfl w.heap.size s rfl HN.out ?_)
 refine (right_t s r _).mono ?_;rintro e W1 ⟨rfl,hb⟩;obtain⟨B,hB⟩:∃B,w.heap.size=B:=⟨_,rfl⟩;rw[show Value.pointer (some ⟨w.heap.size,0,none⟩)=Value.pointer (some ⟨B,0,none⟩) by rw[hB]];rw[hB]at HN;have HS1:=Hd (SB.below' HN.out hb);have HB1:=Hd (below_class HB.out hb);clear hb HN HB;have hc0:W1.cell? ⟨B,0,none⟩=some (.int .i64 (n:Int)):=by rw[←HFL.out];exact HS1.out.c0
 have hmB:=mkBH n n2;go_wp2;have hS2:=Hd (HS1.out.alloc (.cells (zrows n) 52));have hB2:=Hd (HB1.out.alloc HB1.out.size (.cells (zrows n) 52));have hG2:=Hd (Blk.new W1 (zrows n) 52);have hBG:B<W1.heap.size:=HS1.out.lt;have hwG:w.heap.size≤W1.heap.size:=HB1.out.size;clear HS1 HB1 hc0 hmB;generalize W1.alloc (.cells (zrows n) 52)=W2 at hS2 hB2 hG2⊢;generalize W1.heap.size=G at hG2 hBG hwG⊢
 go_loopw [14] (fun i wr=>∃(k:Nat) (C:Array Value),k≤n∧i=.int .i64 k∧C.size=n∧Blk wr G C 52∧Tab s n G k wr.heap.size C wr∧SB wr B s∧Below w.heap.size w wr) (fun i _=>n-(intOf i).toNat)
 case atStart=>exact⟨0,zrows n,by omega,rfl,zrows_size n,hG2.out,fun i hi=>by omega,hS2.out,hB2.out⟩
 case round=>
  obtain⟨k,C,hk,rfl,hC,hG,hT,hS,hBw⟩:=hrel;clear hS2 hB2 hG2;by_cases hlt:k<n
  ·have hkI:(k:Int)<(n:Int):=by omega
   have hc0:wr.cell? ⟨B,0,none⟩=some (.int .i64 (n:Int)):=by rw[←HFL.out];exact hS.c0
   have hmI:=mkIn n n2;obtain⟨v,hv⟩:∃v,C[k]?=some v:=⟨_,Array.getElem?_eq_getElem (by omega)⟩;have hcG:wr.cell? ⟨G,k,none⟩=some v:=(hG.cell k).trans hv;have hfG:=hG.frozen k;have hGlt:=hG.lt;have g1:=hG.set k (.slice (some ⟨wr.heap.size,0,none⟩) n n)
   have hcG2:(wr.setCell ⟨G,k,none⟩ (.slice (some ⟨wr.heap.size,0,none⟩) n n)).cell? ⟨G,k,none⟩=some (.slice (some ⟨wr.heap.size,0,none⟩) n n):=
    (g1.cell k).trans (by rw[Array.getElem?_setIfInBounds_self_of_lt (by omega)])
   have hsz:(wr.setCell ⟨G,k,none⟩ (.slice (some ⟨wr.heap.size,0,none⟩) n n)).heap.size=wr.heap.size:=by simp[World.setCell]
   have G3:=Hd (g1.alloc (.cells (zints n) 3));have CK:=Hd (show(C.setIfInBounds k (.slice (some ⟨wr.heap.size,0,none⟩) n n))[k]?=some (.slice (some ⟨wr.heap.size,0,none⟩) n n) by rw[Array.getElem?_setIfInBounds_self_of_lt (by omega)]);have CS:=Hd (show(C.setIfInBounds k (.slice (some ⟨wr.heap.size,0,none⟩) n n)).size=n by simp[hC]);have T3:=Hd ((hT.set (.slice (some ⟨wr.heap.size,0,none⟩) n n)).below (((Below.refl _ _).alloc (Nat.le_refl _) (.cells (zints n) 3))));have S3:=Hd ((hS.other (b':=G) (by omega) k (.slice (some ⟨wr.heap.size,0,none⟩) n n)).alloc (.cells (zints n) 3));have B3:=Hd ((hBw.setCell (p:=⟨G,k,none⟩) hwG (.slice (some ⟨wr.heap.size,0,none⟩) n n)).alloc (by rw[hsz];exact hBw.size) (.cells (zints n) 3));have R3:=Blk.new (wr.setCell ⟨G,k,none⟩ (.slice (some ⟨wr.heap.size,0,none⟩) n n)) (zints n) 3;rw[hsz]at R3;have R3:=Hd R3;have hwR:w.heap.size≤wr.heap.size:=hBw.size;clear g1 hT hS hBw hG hv hC;go_wp2;clear hcG hfG hcG2 hc0 hmI hsz;generalize (wr.setCell ⟨G,k,none⟩ (.slice (some ⟨wr.heap.size,0,none⟩) n n)).alloc (.cells (zints n) 3)=W3 at G3 T3 S3 B3 R3⊢;generalize C.setIfInBounds k (.slice (some ⟨wr.heap.size,0,none⟩) n n)=C' at G3 CK CS T3;generalize wr.heap.size=R at G3 CK T3 R3 hwR hGlt⊢
   go_loopw [28] (fun i wr=>∃(j:Nat) (D:Array Value),j≤n∧i=.int .i64 j∧D.size=n∧Blk wr R D 3∧(∀q:Nat,q<n→q<j→D[q]?=some (.int .i64 (SM.trav s k q)))∧(∀q:Nat,q<n→∃z:Int,D[q]?=some (.int .i64 z))∧Blk wr G C' 52∧Tab s n G k R C' wr∧SB wr B s∧Below w.heap.size w wr) (fun i _=>n-(intOf i).toNat)
   case atStart=>exact⟨0,zints n,by omega,rfl,zints_size n,R3.out,fun q _ hq=>by omega,fun q hq=>⟨0,zints_get n q hq⟩,G3.out,T3.out,S3.out,B3.out⟩
   case round=>
    obtain⟨j,D,hj,rfl,hD,hR,hrow,hint,hG,hT,hS,hBw⟩:=hrel;clear G3 T3 S3 B3 R3;by_cases hjn:j<n
    ·have hjI:(j:Int)<(n:Int):=by omega
     obtain⟨z,hz⟩:=hint j hjn;go_wp2;have hk0:(0:Int)≤(k:Int):=by omega
     have hj0:(0:Int)≤(j:Int):=by omega
     go_region_held3 (fun w'=>SB w' B s∧w'.cell? ⟨B,0,none⟩=some (.int .i64 s.fl)∧w'.cell? ⟨B,1,none⟩=some (.int .i64 s.ca)∧w'.cell? ⟨B,2,none⟩=some (.int .i64 s.sta)∧w'.cell? ⟨B,3,none⟩=some (.int .i64 s.ste)∧w'.cell? ⟨B,4,none⟩=some (.int .i64 s.sto)∧w'.cell? ⟨B,5,none⟩=some (.int .i64 s.opn)∧w'.cell? ⟨B,6,none⟩=some (.int .i64 s.wai)∧w'.cell? ⟨B,7,none⟩=some (.int .i64 s.clo)∧w'.cell? ⟨B,8,none⟩=some (.int .i64 s.nud)∧w'.cell? ⟨B,9,none⟩=some (.int .i64 s.age)∧w'.cell? ⟨B,10,none⟩=some (.int .i64 s.sil)∧w'.cell? ⟨B,11,none⟩=some (.int .i64 s.bud)∧w'.cell? ⟨B,12,none⟩=some (.int .i64 s.per)∧w'.cell? ⟨G,k,none⟩=some (.slice (some ⟨R,0,none⟩) n n)) (first|exact held11 (SB.drew hS) hG CK.out|exact held11 (SB.below' (SB.drew hS) hb2) (Blk.below (W:=wr.drew) hG hb2) CK.out|exact held11 (SB.other (SB.below' (SB.drew hS) hb2) (by omega) _ _) (Blk.other (Blk.below (W:=wr.drew) hG hb2) (by omega) _ _) CK.out) ((go_at_call 90;refine (travel_any s r _ _ _).mono ?_;rintro e W4 ⟨rfl,hb2⟩;have hR4:=Blk.below (W:=wr.drew) hR hb2;have hcR:W4.cell? ⟨R,j,none⟩=some (.int .i64 z):=(hR4.cell j).trans hz;have hfR:=hR4.frozen j))
     rename_i hheld;have hb3:Below wr.heap.size wr W4:=below_class (Below.refl _ wr).drew hb2;have hG4:=hG.below hb3;have T5:=Hd ((hT.below hb3).other (Nat.le_refl R) j (.int .i64 (SM.trav s k j)));have G5:=Hd (hG4.other (b':=R) (by omega) j (.int .i64 (SM.trav s k j)));have R5:=Hd (hR4.set j (.int .i64 (SM.trav s k j)));have S5:=Hd ((hS.below' hb3).other (b':=R) (by omega) j (.int .i64 (SM.trav s k j)));have B5:=Hd ((below_class hBw hb3).setCell (p:=⟨R,j,none⟩) hwR (.int .i64 (SM.trav s k j)));have D5:=Hd (show(D.setIfInBounds j (.int .i64 (SM.trav s k j))).size=n by simp[hD])
     have Row5:Hid (∀q:Nat,q<n→q<j+1→(D.setIfInBounds j (.int .i64 (SM.trav s k j)))[q]?=some (.int .i64 (SM.trav s k q))):=Hd (fun q hq1 hq2=>by
      by_cases e:j=q
      ·subst e;rw[Array.getElem?_setIfInBounds_self_of_lt (by omega)]
      ·rw[Array.getElem?_setIfInBounds_ne e];exact hrow q hq1 (by omega))
     have Int5:Hid (∀q:Nat,q<n→∃z:Int,(D.setIfInBounds j (.int .i64 (SM.trav s k j)))[q]?=some (.int .i64 z)):=Hd (fun q hq1=>by
      by_cases e:j=q
      ·subst e;exact⟨_,Array.getElem?_setIfInBounds_self_of_lt (by omega)⟩
      ·rw[Array.getElem?_setIfInBounds_ne e];exact hint q hq1)
     clear hheld hcR hfR hb2 hb3 hR4 hG4 hR hG hT hS hBw hrow hint hz;go_wp2;go_roundw
     case rel=>exact⟨j+1,_,by omega,by go_num,D5.out,R5.out,Row5.out,Int5.out,G5.out,T5.out,S5.out,B5.out⟩
     case measure=>simp[intOf];omega
    ·obtain rfl:j=n:=by omega
     have T6:Hid (Tab s j G (k+1) wr.heap.size C' wr):=Hd (fun i hi=>by
      by_cases e:i<k
      ·exact(hT.le (Nat.le_of_lt hR.lt)) i e
      ·obtain rfl:i=k:=by omega
       exact⟨R,D,hGlt,hR.lt,CK.out,hR,fun q hq=>hrow q hq hq⟩)
     have G6:=Hd hG;have S6:=Hd hS;have B6:=Hd hBw;clear hR hG hT hS hBw hrow hint;go_wp2;go_roundw
     case rel=>exact⟨k+1,C',by omega,by go_num,CS.out,G6.out,T6.out,S6.out,B6.out⟩
     case measure=>simp[intOf];omega
  ·obtain rfl:k=n:=by omega
   have T6:=Hd hT;have G6:=Hd hG;have B6:=Hd hBw;clear hG hT hS hBw;go_wp2;go_ret;exact⟨⟨G,C,rfl,hwG,G6.out,T6.out⟩,B6.out⟩
theorem table_rl(s:St)(r:SM.Rt s)(w:World):
  Calls Tryz.prog 193 #[.agg (sv s).toArray] w fun e w'=>∃v,e=.returned v∧RL (fun g=>w.heap.size≤g) w' v (tbl s)∧Below w.heap.size w w':=by
 have f1:=r.fl1;refine (table_any s r s.fl.toNat (by omega) w).mono fun e w' h=> ?_;obtain⟨⟨G,C,rfl,hG,hC,hT⟩,hb⟩:=h;have hlen:(tbl s).length=s.fl.toNat:=by unfold tbl;simp
 refine⟨_,rfl,⟨some ⟨G,0,none⟩,s.fl.toNat,by rw[hlen],by rw[hlen];exact Nat.le_refl _,(fun e=>by cases e),.inr ⟨G,0,rfl,hG,hC.lt,fun i l hi=> ?_⟩⟩,hb⟩;have hi2:i<s.fl.toNat:=by rw[←hlen];exact(List.getElem?_eq_some_iff.1 hi).1
 rw[tbl_get hi2]at hi;cases hi;obtain⟨R,D,h1,h2,h3,h4,h5⟩:=hT i hi2;refine⟨_,(by rw[Nat.zero_add];exact(hC.cell i).trans h3),some ⟨R,0,none⟩,s.fl.toNat,by simp,by simp,(fun e=>by cases e),.inr ⟨R,0,rfl,by omega,h4.lt,fun j x hx=> ?_⟩⟩
 have hj:j<s.fl.toNat:=by
  have:=(List.getElem?_eq_some_iff.1 hx).1;simpa using this
 rw[tbl_at i hj]at hx;cases hx;rw[Nat.zero_add];exact(h4.cell j).trans (h5 j hj)
theorem built_kt(s:St)(vc vw:Value)(a:Option Addr)(n c:Nat)(d:Int):Tryz.prog.built 283 [(0,.agg (nv s vc vw).toArray),(1,.slice a n c),(2,.int .i64 d)]=some (nv s vc vw++[Value.slice a n c,Value.int .i64 d]).toArray:=by kernel_rfl
section
variable {S:World→Prop} {ops:Array Oper} {Q:Exit→Act→World→Prop} {i:Nat} {o:Oper} {K:Act→World→Prop} {a:Act} {w:World}
theorem yif_load27(hw:Region.wanted o (yielded ops a.tmps)=true)(x:Operand)(ho:o.op=.load 146 x)(b:Nat)(s:St)(vc vw:Value)(hx:a.eval x=.pointer (some ⟨b,0,none⟩))(hr:∀w,S w→NB w b s vc vw):YieldsIf Tryz.prog ops S o (.agg (nv s vc vw).toArray) a:=
 .inl ⟨hw,fun w hS=>by unfold execOp;simp only[ho,hx,Sem.run_bind,Sem.run_pure,Result.andThen_ok,load27 w b s vc vw (hr w hS).range]⟩
theorem NB.siteR{w:World}{b:Nat}{s:St}{vc vw:Value}(h:NB w b s vc vw):w.rangeAt b 0 (sv s):=fun j v hv=>h.range j v (by
 have hj:j<(sv s).length:=(List.getElem?_eq_some_iff.1 hv).1;show(sv s++[vc,vw])[j]?=some v
 rw[List.getElem?_append_left hj];exact hv)
theorem yif_load23(hw:Region.wanted o (yielded ops a.tmps)=true)(x:Operand)(ho:o.op=.load 23 x)(b:Nat)(s:St)(vc vw:Value)(hx:a.eval x=.pointer (some ⟨b,0,none⟩))(hr:∀w,S w→NB w b s vc vw):YieldsIf Tryz.prog ops S o (.agg (sv s).toArray) a:=
 .inl ⟨hw,fun w hS=>by unfold execOp;simp only[ho,hx,Sem.run_bind,Sem.run_pure,Result.andThen_ok,load23 w b s (hr w hS).siteR]⟩
theorem wpOp_box(hi:ops[i]?=some o)(hw:Region.wanted o (yielded ops a.tmps)=true)(t:TypeId)(x:Operand)(ho:o.op=.box t x)(cs:Array Value)(hx:a.eval x=.agg cs)(h:K (a.put o.dst (.pointer (some ⟨w.heap.size,0,none⟩))) (w.alloc (.cells cs t))):wpOp Tryz.prog ops Q i K a w:=
 wpOp_val hi hw (by
  have e:execOp a.eval o=execOp (fun _=>Value.agg cs) o:=by unfold execOp;simp only[ho,hx]
  rw[e];unfold execOp
  simp[ho,go_sem]) h
end
section
variable {D:Nat→Prop} {W:World} {s:Sn} {vc vw:Value}
theorem knewTree_any(hc:R2 D W vc s.cs)(hw:R2 D W vw s.ws)(hr:rgt s=true):
  Calls Tryz.prog 150 #[.agg (nv s.st vc vw).toArray] W fun e w'=>Below W.heap.size W w'∧∃tb vt,e=.returned (.pointer (some ⟨tb,0,none⟩))∧TC (fun _=>True) w' tb s vc vw vt:=by
 have rt:=(rgt_rz hr).rt;have HN:=Hd (NB.new W s.st vc vw);have HB:=Hd ((Below.refl W.heap.size W).alloc (Nat.le_refl _) (.cells (nv s.st vc vw).toArray 146));have HC:=Hd (hc.mono (D':=fun _=>True) fun _ _ _ _=>trivial);have HW:=Hd (hw.mono (D':=fun _=>True) fun _ _ _ _=>trivial);have HR:=Hd hr;have HTA:=Hd (table_rl s.st rt);have hw1:IntKind.i64.wrap (s.st.opn+s.st.wai)=s.st.opn+s.st.wai:=IntWalk.i64_in _ (by have:=rt.opn1;have:=rt.opn2;have:=rt.wai1;have:=rt.wai2;omega);have hw2:IntKind.i64.wrap (s.st.opn+s.st.wai+s.st.clo)=s.st.opn+s.st.wai+s.st.clo:=IntWalk.i64_in _ (by have:=rt.opn1;have:=rt.opn2;have:=rt.wai1;have:=rt.wai2;have:=rt.clo1;have:=rt.clo2;omega);have hw3:IntKind.i64.wrap (s.st.opn+s.st.wai+s.st.clo+2)=s.st.opn+s.st.wai+s.st.clo+2:=IntWalk.i64_in _ (by have:=rt.opn1;have:=rt.opn2;have:=rt.wai1;have:=rt.wai2;have:=rt.clo1;have:=rt.clo2;omega);clear hc hw hr rt
 go_enter Tryz.func150,Tryz.ntmps150
 go_upto_region 1 with (fail)
 generalize W.alloc (.cells (nv s.st vc vw).toArray 146)=X at HN HB⊢;refine wp_nrm ?_;have HS0:Hid (∀w',Below X.heap.size X w'→NB w' W.heap.size s.st vc vw):=fun w' hw=>HN.out.below' hw;refine wp_region_held (S:=fun w'=>Below X.heap.size X w') (by kernel_rfl) ?_;change wpAnyH _ _ _ _ _ _ _ _ (World.drew _);have HD:Hid (Below X.heap.size X X.drew):=(Below.refl _ _).drew;generalize hXd:X.drew=X0 at HD⊢;clear hXd;refine wpAnyH_take (i:=0) rfl (by kernel_rfl) (by kernel_rfl) (by kernel_rfl) (fun _ _ _ h=>by cases h.1) (yif_load27 rfl _ rfl W.heap.size s.st vc vw rfl HS0.out) HD.out ?_;generalize hKK:wpAnyH _ _ _ _ _ _ _=KK;go_simp;subst hKK;refine wpAnyH_take (i:=1) rfl (by kernel_rfl) (by kernel_rfl) (by kernel_rfl) (fun _ _ _ h=>by cases h.1) (.inl ⟨rfl,fun _ _=>rfl⟩) HD.out ?_;generalize hKK:wpAnyH _ _ _ _ _ _ _=KK;go_simp;subst hKK;refine wpAnyH_take (i:=2) rfl (by kernel_rfl) (by kernel_rfl) (by kernel_rfl) (fun _ _ _ h=>by cases h.1) (yif_load23 rfl _ rfl W.heap.size s.st vc vw rfl HS0.out) HD.out ?_;generalize hKK:wpAnyH _ _ _ _ _ _ _=KK;go_simp;subst hKK;refine wpAnyH_take (i:=4) rfl (by kernel_rfl) (by kernel_rfl) (by kernel_rfl) (fun _ _ _ h=>by cases h.1) (.inl ⟨rfl,fun _ _=>rfl⟩) HD.out ?_;generalize hKK:wpAnyH _ _ _ _ _ _ _=KK;go_simp;subst hKK;refine wpAnyH_take (i:=5) rfl (by kernel_rfl) (by kernel_rfl) (by kernel_rfl) (fun _ _ _ h=>by cases h.1) (.inl ⟨rfl,fun _ _=>rfl⟩) HD.out ?_;generalize hKK:wpAnyH _ _ _ _ _ _ _=KK;go_simp;subst hKK;refine wpAnyH_take (i:=6) (v:=.int .i64 s.st.opn) rfl (by kernel_rfl) (by kernel_rfl) (by kernel_rfl) (fun _ _ _ h=>by cases h.1) (.inl ⟨rfl,fun w hw=>by have hc:w.cell? ⟨W.heap.size,5,none⟩=some (.int .i64 s.st.opn):=(HS0.out w hw).cell 5;go_simp⟩) HD.out ?_;generalize hKK:wpAnyH _ _ _ _ _ _ _=KK;go_simp;subst hKK;refine wpAnyH_take (i:=7) rfl (by kernel_rfl) (by kernel_rfl) (by kernel_rfl) (fun _ _ _ h=>by cases h.1) (.inl ⟨rfl,fun _ _=>rfl⟩) HD.out ?_;generalize hKK:wpAnyH _ _ _ _ _ _ _=KK;go_simp;subst hKK;refine wpAnyH_take (i:=8) rfl (by kernel_rfl) (by kernel_rfl) (by kernel_rfl) (fun _ _ _ h=>by cases h.1) (.inl ⟨rfl,fun _ _=>rfl⟩) HD.out ?_;generalize hKK:wpAnyH _ _ _ _ _ _ _=KK;go_simp;subst hKK;refine wpAnyH_take (i:=9) (v:=.int .i64 s.st.wai) rfl (by kernel_rfl) (by kernel_rfl) (by kernel_rfl) (fun _ _ _ h=>by cases h.1) (.inl ⟨rfl,fun w hw=>by have hc:w.cell? ⟨W.heap.size,6,none⟩=some (.int .i64 s.st.wai):=(HS0.out w hw).cell 6;go_simp⟩) HD.out ?_;generalize hKK:wpAnyH _ _ _ _ _ _ _=KK;go_simp;subst hKK;refine wpAnyH_take (i:=10) (v:=.int .i64 (s.st.opn+s.st.wai)) rfl (by kernel_rfl) (by kernel_rfl) (by kernel_rfl) (fun _ _ _ h=>by cases h.1) (.inl ⟨rfl,fun w _=>by go_simp⟩) HD.out ?_;generalize hKK:wpAnyH _ _ _ _ _ _ _=KK;go_simp;subst hKK;refine wpAnyH_take (i:=11) rfl (by kernel_rfl) (by kernel_rfl) (by kernel_rfl) (fun _ _ _ h=>by cases h.1) (.inl ⟨rfl,fun _ _=>rfl⟩) HD.out ?_;generalize hKK:wpAnyH _ _ _ _ _ _ _=KK;go_simp;subst hKK;refine wpAnyH_take (i:=12) rfl (by kernel_rfl) (by kernel_rfl) (by kernel_rfl) (fun _ _ _ h=>by cases h.1) (.inl ⟨rfl,fun _ _=>rfl⟩) HD.out ?_;generalize hKK:wpAnyH _ _ _ _ _ _ _=KK;go_simp;subst hKK;refine wpAnyH_take (i:=13) (v:=.int .i64 s.st.clo) rfl (by kernel_rfl) (by kernel_rfl) (by kernel_rfl) (fun _ _ _ h=>by cases h.1) (.inl ⟨rfl,fun w hw=>by have hc:w.cell? ⟨W.heap.size,7,none⟩=some (.int .i64 s.st.clo):=(HS0.out w hw).cell 7;go_simp⟩) HD.out ?_;generalize hKK:wpAnyH _ _ _ _ _ _ _=KK;go_simp;subst hKK;refine wpAnyH_take (i:=14) (v:=.int .i64 (s.st.opn+s.st.wai+s.st.clo)) rfl (by kernel_rfl) (by kernel_rfl) (by kernel_rfl) (fun _ _ _ h=>by cases h.1) (.inl ⟨rfl,fun w _=>by go_simp⟩) HD.out ?_;generalize hKK:wpAnyH _ _ _ _ _ _ _=KK;go_simp;subst hKK;refine wpAnyH_take (i:=15) (v:=.int .i64 (s.st.opn+s.st.wai+s.st.clo+2)) rfl (by kernel_rfl) (by kernel_rfl) (by kernel_rfl) (fun _ _ _ h=>by cases h.1) (.inl ⟨rfl,fun w _=>by go_simp⟩) HD.out ?_;generalize hKK:wpAnyH _ _ _ _ _ _ _=KK;go_simp;subst hKK;refine wpAnyH_all (rs:=[3]) (by kernel_rfl) (by simp) (fun ii hii=> ?_);obtain rfl:ii=3:=by simpa using hii
 clear hii;refine wpOp_call rfl rfl ?hrun (HTA.out X0) ?_
 case hrun=>unfold execOp;simp[resolve,invoke,go_sem]
 rintro e X1 ⟨v,rfl,hv,hb1⟩;have hbx:=below_class HD.out hb1;refine⟨_,rfl,hbx,?_⟩;obtain⟨av,kv,rfl,_,_⟩:=hv.form;have HV:=Hd hv;have HD1:=Hd hbx;generalize (tbl s.st).length=nt at HV⊢;clear hv hb1 hbx HD;generalize hKK:wpAnyH _ _ _ _ _ _ _=KK;go_simp;subst hKK;refine wpAnyH_take (i:=16) (v:=.agg (tcl2 s.st vc vw (.slice av nt kv)).toArray) rfl (by kernel_rfl) (by kernel_rfl) (by kernel_rfl) (fun _ _ _ h=>by cases h.1) (yif_build rfl _ _ rfl [(0,.agg (nv s.st vc vw).toArray),(1,.slice av nt kv),(2,.int .i64 (s.st.opn+s.st.wai+s.st.clo+2))] (by simp[Act.eval]) _ (built_kt _ _ _ _ _ _ _)) HD1.out ?_;generalize hKK:wpAnyH _ _ _ _ _ _ _=KK;go_simp;subst hKK;refine wpAnyH_all (rs:=[17]) (by kernel_rfl) (by simp) (fun ii hii=> ?_);obtain rfl:ii=17:=by simpa using hii
 clear hii;refine wpOp_box rfl rfl _ _ rfl (tcl2 s.st vc vw (.slice av nt kv)).toArray rfl ?_;have hb2:=HD1.out.alloc HD1.out.size (.cells (tcl2 s.st vc vw (.slice av nt kv)).toArray 283);refine⟨hb2,?_⟩;have HBB:=Hd (below_class HB.out hb2);have HB2:=Hd hb2
 have HTC:Hid (TC (fun _=>True) (X1.alloc (.cells (tcl2 s.st vc vw (.slice av nt kv)).toArray 283)) X1.heap.size s vc vw (.slice av nt kv)):=
  ⟨World.alloc_heap_new X1 _,trivial,HC.out.below' HBB.out,HW.out.below' HBB.out,(HV.out.alloc _).mono fun _ _ _ _=>trivial,HR.out⟩
 clear hb2 HV HC HW HB HD1 HN HS0 HTA;generalize X1.alloc (.cells (tcl2 s.st vc vw (.slice av nt kv)).toArray 283)=X2 at HBB HB2 HTC⊢;generalize X1.heap.size=tb at HTC⊢;generalize hKK:wpAnyH _ _ _ _ _ _ _=KK;go_simp;subst hKK;refine wpAnyH_all (rs:=[18]) (by kernel_rfl) (by simp) (fun ii hii=> ?_);obtain rfl:ii=18:=by simpa using hii
 clear hii;refine wpOp_val (v:=.pointer (some ⟨tb,0,none⟩)) (w':=X2) rfl rfl (by go_simp) ?_;refine⟨HB2.out,wpAnyH_done (by kernel_rfl) ⟨rfl,?_⟩ _⟩;go_wp2;go_ret;exact⟨HBB.out,tb,_,rfl,HTC.out⟩
end
section
variable {s:Sn} {B:Nat}
theorem Byt.append{l m:List Nat}(h:Byt l)(g:Byt m):Byt (l++m):=fun x hx=>(List.mem_append.1 hx).elim (h x) (g x)
end
end Go.Proofs.YtlajleogofmkcaaGreat
