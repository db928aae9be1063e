import Derived.Test.YtlajleogofmkcaaGreatQ12
import Derived.Test.YtlajleogofmkcaaGreatQ20
import Derived.OrdersHeld
set_option maxHeartbeats 8000000
set_option maxRecDepth 100000
namespace Go.Proofs.YtlajleogofmkcaaGreat
open Go.RowKit
def st0:St:=⟨0,0,0,0,0,0,0,0,0,0,0,0,0⟩
structure SP(W wr:World)(st:St)(vc vw vl:Value)(cs ws:List (Int×Int))(ls:List CC.Cl):Prop where
 bel:Below W.heap.size W wr
 rb:NB wr W.heap.size st0 (.slice none 0 0) (.slice none 0 0)
 sb:NB wr (W.heap.size+1) st vc vw
 oc:O2 178 wr (W.heap.size+2) vc cs
 ow:O2 182 wr (W.heap.size+2) vw ws
 ol:CC.RW wr (W.heap.size+2) vl ls
 sz:W.heap.size+2≤wr.heap.size
section
variable {W wr w2:World} {st:St} {vc vw vl v':Value} {cs ws:List (Int×Int)} {ls:List CC.Cl} {x:Int×Int} {y:CC.Cl}
theorem SP.next(h:SP W wr st vc vw vl cs ws ls)(hb:Below wr.heap.size wr w2):SP W w2 st vc vw vl cs ws ls:=
 ⟨below_class h.bel hb,h.rb.below' hb,h.sb.below' hb,h.oc.below' hb,h.ow.below' hb,h.ol.below' hb,Nat.le_trans h.sz hb.size⟩
theorem SP.bel2(h:SP W wr st vc vw vl cs ws ls){r:Option Nat}(hr:∀g,r=some g→W.heap.size+2≤g)(hg:wr.grownBy w2 r):Below W.heap.size W w2:=h.bel.grown hg h.bel.size fun k hk=>by have:=hr k hk;omega
theorem SP.addC(h:SP W wr st vc vw vl cs ws ls)(ho:O2 178 w2 (W.heap.size+2) v' (cs++[x]))(hg:wr.grownBy w2 vc.ownBlock):SP W (w2.setCell ⟨W.heap.size+1,13,none⟩ v') st v' vw vl (cs++[x]) ws ls where
 bel:=(h.bel2 (fun g e=>(h.oc.lt g e).1) hg).setCell (by simp) _
 rb:=(show NB w2 _ _ _ _ from(hg.block _ h.rb.lt fun e=>by have:=(h.oc.lt _ e.symm).1;omega).trans h.rb)|>fun (k:NB w2 _ _ _ _)=>(show NB (w2.setCell _ _) _ _ _ _ from(Below.heap_setCell _ _ _ _ (by simp)).trans k)
 sb:=NB.putc ((hg.block _ h.sb.lt fun e=>by have:=(h.oc.lt _ e.symm).1;omega).trans h.sb) v'
 oc:=ho.keep fun g e=>Below.heap_setCell _ _ _ _ (by have:=(ho.lt g e).1;simp;omega)
 ow:=h.ow.keep fun g e=>(Below.heap_setCell _ _ _ _ (by have:=(h.ow.lt g e).1;simp;omega)).trans (hg.block _ (h.ow.lt g e).2 fun e2=>rows_apart h.ow h.oc (by decide) g e e2.symm)
 ol:=h.ol.keep fun g e=>(Below.heap_setCell _ _ _ _ (by have:=(h.ol.lt g e).1;simp;omega)).trans (hg.block _ (h.ol.lt g e).2 fun e2=>rows_apart h.ol h.oc (by decide) g e e2.symm)
 sz:=by have:=hg.size;have:=h.sz;simp[World.setCell];omega
theorem SP.addW(h:SP W wr st vc vw vl cs ws ls)(ho:O2 182 w2 (W.heap.size+2) v' (ws++[x]))(hg:wr.grownBy w2 vw.ownBlock):SP W (w2.setCell ⟨W.heap.size+1,14,none⟩ v') st vc v' vl cs (ws++[x]) ls where
 bel:=(h.bel2 (fun g e=>(h.ow.lt g e).1) hg).setCell (by simp) _
 rb:=(show NB w2 _ _ _ _ from(hg.block _ h.rb.lt fun e=>by have:=(h.ow.lt _ e.symm).1;omega).trans h.rb)|>fun (k:NB w2 _ _ _ _)=>(show NB (w2.setCell _ _) _ _ _ _ from(Below.heap_setCell _ _ _ _ (by simp)).trans k)
 sb:=NB.putw ((hg.block _ h.sb.lt fun e=>by have:=(h.ow.lt _ e.symm).1;omega).trans h.sb) v'
 ow:=ho.keep fun g e=>Below.heap_setCell _ _ _ _ (by have:=(ho.lt g e).1;simp;omega)
 oc:=h.oc.keep fun g e=>(Below.heap_setCell _ _ _ _ (by have:=(h.oc.lt g e).1;simp;omega)).trans (hg.block _ (h.oc.lt g e).2 fun e2=>rows_apart h.oc h.ow (by decide) g e e2.symm)
 ol:=h.ol.keep fun g e=>(Below.heap_setCell _ _ _ _ (by have:=(h.ol.lt g e).1;simp;omega)).trans (hg.block _ (h.ol.lt g e).2 fun e2=>rows_apart h.ol h.ow (by decide) g e e2.symm)
 sz:=by have:=hg.size;have:=h.sz;simp[World.setCell];omega
theorem SP.addL(h:SP W wr st vc vw vl cs ws ls)(ho:CC.RW w2 (W.heap.size+2) v' (ls++[y]))(hg:wr.grownBy w2 vl.ownBlock):SP W w2 st vc vw v' cs ws (ls++[y]) where
 bel:=h.bel2 (fun g e=>(h.ol.lt g e).1) hg
 rb:=(hg.block _ h.rb.lt fun e=>by have:=(h.ol.lt _ e.symm).1;omega).trans h.rb
 sb:=(hg.block _ h.sb.lt fun e=>by have:=(h.ol.lt _ e.symm).1;omega).trans h.sb
 oc:=h.oc.keep fun g e=>hg.block _ (h.oc.lt g e).2 fun e2=>rows_apart h.oc h.ol (by decide) g e e2.symm
 ow:=h.ow.keep fun g e=>hg.block _ (h.ow.lt g e).2 fun e2=>rows_apart h.ow h.ol (by decide) g e e2.symm
 ol:=ho
 sz:=Nat.le_trans h.sz hg.size
end
theorem o2_lit1{t:TypeId}{B:Nat}(w:World)(x:Int×Int)(hB:B≤w.heap.size):O2 t (w.alloc (.cells #[.int .i64 x.1,.int .i64 x.2] t)) B (.slice (some ⟨w.heap.size,0,none⟩) 1 1) [x]:=
 World.ownsRow_lit (e:=t) (size:=2) w #[.int .i64 x.1,.int .i64 x.2] 1 hB (by unfold maxLen;omega) (by simp)
theorem wpOp_app2{ops:Array Oper}{Q:Exit→Act→World→Prop}{i:Nat}{o:Oper}{K:Act→World→Prop}{a:Act}{w:World}(e t:TypeId)(ht:Tryz.prog.underlying t=some (.slice e))(hinf:(Tryz.prog.info? e).map (fun i=>(i.zero,i.size,i.bytes))=some (some (.agg #[.int .i64 0,.int .i64 0]),2,16))(hi:ops[i]?=some o)(hw:Region.wanted o (yielded ops a.tmps)=true)(s x:Operand)(ho:o.op=.call {callee:=.builtin .append,args:= #[s,x],argTypes:= #[t,t]})
  (B:Nat) (v:Value) (l:List (Int×Int)) (hs:a.eval s=v) (hown:O2 e w B v l) (g c:Nat) (y:Int×Int) (hx:a.eval x=.slice (some ⟨g,0,none⟩) 1 c) (hc:w.heap[g]?=some (.cells #[.int .i64 y.1,.int .i64 y.2] e (0,0))) (h63:l.length≤1000) (hB:B≤w.heap.size)
  (h:∀v' w',O2 e w' B v' (l++[y])→w.grownBy w' v.ownBlock→K (a.put o.dst v') w'):wpOp Tryz.prog ops Q i K a w:=by
 obtain⟨i0,h1,hz⟩:=Option.map_eq_some_iff.1 hinf;simp only[Prod.mk.injEq]at hz
 obtain⟨v',w',hrun,k1,k2,_⟩:=run_append_own (P:=Tryz.prog) w B t o.type e i0 _ 2 16 ht h1 hz.1 hz.2.1 hz.2.2 rfl (by decide) v l.length (pc l) hown ⟨g,0,none⟩ 1 c (pc [y]) rfl (fun j u hj=>by
  rw[Addr.add_mid,Nat.zero_add];simp only[World.cell?,hc]
  rw[←hj];simp[pc]) (pc_one [y]) (by unfold maxLen;omega) (by omega) hB
 refine wpOp_val hi hw (v:=v') (w':=w') ?_ (h v' w' ?_ k2)
 ·unfold execOp;simp only[ho,resolve,invoke,builtin,Sem.run_bind,Sem.run_pure,Result.andThen_ok,List.map_toArray,List.map_cons,List.map_nil,hs,hx,hrun]
 ·unfold O2;rw[List.length_append,pc_append];exact k1
theorem wpOp_lit{P:Program}{ops:Array Oper}{Q:Exit→Act→World→Prop}{i:Nat}{o:Oper}{K:Act→World→Prop}{a:Act}{w:World}(hi:ops[i]?=some o)(hw:Region.wanted o (yielded ops a.tmps)=true)(z:Obj)(hl:(execOp a.eval o).run P w=.ok (.value (.slice (some ⟨w.heap.size,0,none⟩) 1 1)) (w.alloc z))
  (h:∀g w',Below w.heap.size w w'→w'.heap[g]?=some z→K (a.put o.dst (.slice (some ⟨g,0,none⟩) 1 1)) w'):wpOp P ops Q i K a w:=
 wpOp_val hi hw hl (h _ _ ((Below.refl _ w).alloc (Nat.le_refl _) _) (World.alloc_heap_new w z))
theorem wpOp_sto{P:Program}{ops:Array Oper}{Q:Exit→Act→World→Prop}{i:Nat}{o:Oper}{K:Act→World→Prop}{a:Act}{w w':World}(hi:ops[i]?=some o)(hw:Region.wanted o (yielded ops a.tmps)=true)(x y:Operand)(t:TypeId)(ho:o.op=.store t x y)
  (hl:(Instr.storeAt t (a.eval x) (a.eval y)).run P w=.ok () w') (h:K (a.put o.dst undef) w'):wpOp P ops Q i K a w:=by
 unfold wpOp;rw[hi];simp only;rw[if_pos hw];refine .inl ?_;unfold Oper.wp execOp;simp only[ho,Sem.run_bind,Sem.run_pure,Result.andThen_ok,hl];exact h
theorem built_sn(s:St):Tryz.prog.built 146 [(0,.agg (sv s).toArray)]=some (nv s (.slice none 0 0) (.slice none 0 0)).toArray:=by kernel_rfl
section
variable {W0:World} {K:Act→Prop} {o:Oper} {a:Act}
end
section
variable {W W' W2:World} {ow ow':Nat→Nat} {B:Nat} {C:Gc} {V V':Gv} {G G' G2:Gs} {m m':Mb} {i:Nat} {n:Int}
theorem wpList_load23q{ops:Array Oper}{rest:List Oper}{op:Oper}{a:Act}{w:World}{Q:Exit→Act→World→Prop}(hgd:op.guard=none)(x:Operand)(ho:op.op=.load 23 x)
  (b:Nat) (s:St) (hx:a.eval x=.pointer (some ⟨b,0,none⟩)) (hr:w.rangeAt b 0 (sv s))
  (h:wpList Tryz.prog ops Q rest (a.put op.dst (.agg (sv s).toArray)) w):wpList Tryz.prog ops Q (op::rest) a w:=
 wpList_plain hgd fun _ hK=>by
  unfold Oper.wp execOp;simp only[ho,Sem.run_bind,Sem.run_pure,Result.andThen_ok,hx,load23 w b s hr];exact hK _ _ h
theorem retSn{fn:Func}{p t:Tmp}(hf:fn.results= #[.cell p 146,.tmp t]){tmps:Array Value}{w:World}{b:Nat}{s:St}{vc vw u:Value}(hp:tmps.getD p undef=.pointer (some ⟨b,0,none⟩))(ht:tmps.getD t undef=u)(H:NB w b s vc vw):
  (results fn tmps).run Tryz.prog w=.ok (.tuple #[.agg (nv s vc vw).toArray,u]) w:=by
 have hp':tmps[p]?.getD undef=.pointer (some ⟨b,0,none⟩):=by simpa using hp
 have ht':tmps[t]?.getD undef=u:=by simpa using ht
 have H':w.heap[b]?=some (.cells (nv s vc vw).toArray 146 (0,0)):=H;simp[results,hf,hp',ht',asAddr,run_loadVar_row w b 146 146 _ _ _ H' Tryz.underlying146 rfl info27]
theorem take_snocM{α β:Type}{f:α→β}{M:List α}{k:Nat}{m:α}(h:M[k]?=some m):(M.take (k+1)).map f=(M.take k).map f++[f m]:=by
 rw[List.take_add_one,h];simp
theorem gsnap_any(h:GX al W ow B C V G)(ho:GO n G):
  Calls Tryz.prog 80 #[.pointer (some ⟨C.gb,0,none⟩)] W fun e w'=>∃vc vw vl,e=.returned (.tuple #[.agg (nv G.st vc vw).toArray,vl])∧O2 178 w' (W.heap.size+2) vc (GM.snp G).cs∧O2 182 w' (W.heap.size+2) vw (GM.snp G).ws∧CC.RW w' (W.heap.size+2) vl (GM.wnt G.M G.L)∧Below W.heap.size W w':=by
 have hb:=(Below.refl W.heap.size W).alloc (Nat.le_refl _) (.cells (nv st0 (.slice none 0 0) (.slice none 0 0)).toArray 146);have HB:=Hd hb;have HR:=Hd (NB.new W st0 (.slice none 0 0) (.slice none 0 0));have HH:=Hd h;have HO:=Hd ho;have hml:=h.ml;have HX1:=Hd (h.below' hb);have c15:=HX1.out.c15;obtain⟨SC,hsc⟩:∃x,(GM.snp G).cs=x:=⟨_,rfl⟩;have HSC:Hid (G.M.map (GM.rdy G.st)=SC):=hsc;obtain⟨SW,hsw⟩:∃x,(GM.snp G).ws=x:=⟨_,rfl⟩;have HSW:Hid ((GM.wnt G.M G.L).map (fun x=>(x.fl,GM.ms G.M x))=SW):=hsw;obtain⟨SL,hsl⟩:∃x,GM.wnt G.M G.L=x:=⟨_,rfl⟩;have HSL:=Hd hsl;rw[hsc,hsw,hsl];clear h ho hb hsc hsw hsl
 go_enter Tryz.func80,Tryz.ntmps80
 go_upto_region 1 with (fail)
 change Code.wp _ _ _ _ (W.alloc (.cells (nv st0 (.slice none 0 0) (.slice none 0 0)).toArray 146));have hsz:(W.alloc (.cells (nv st0 (.slice none 0 0) (.slice none 0 0)).toArray 146)).heap.size=W.heap.size+1:=by simp
 have HSZ:=Hd hsz;clear hsz;generalize W.alloc (.cells (nv st0 (.slice none 0 0) (.slice none 0 0)).toArray 146)=W1 at*
 go_upto_region 2 with (first|(refine wpList_load23q rfl _ rfl C.gb G.st rfl HX1.out.rng ?_)|(refine wpList_buildS rfl _ _ rfl [(0,.agg (sv G.st).toArray)] (by first|rfl|(simp[Act.eval];done)|(simp[Act.eval];rfl)) _ (built_sn G.st) ?_)|(refine wpList_store27 rfl _ _ rfl W1.heap.size _ rfl rfl rfl rfl (World.alloc_heap_new W1 _) rfl ?_))
 intro W2 hk2 hn2;have hb2:Below W1.heap.size W1 W2:=hk2.below ((Below.refl W1.heap.size W1).alloc (Nat.le_refl _) _) (by simp) fun i hi e=>by omega
 have HS2:Hid (SP W W2 G.st (.slice none 0 0) (.slice none 0 0) (.slice none 0 0) [] [] []):=
  ⟨below_class HB.out hb2,HR.out.below' hb2,by rw[←HSZ.out];exact hn2,World.ownsRow_nil _ _ _ _,World.ownsRow_nil _ _ _ _,CC.RW.nil _ _,by have:=hb2.size;have:=hn2.lt;have:=HSZ.out;omega⟩
 have HSZ1:Hid (W1.heap.size=W.heap.size+1):=HSZ.out;have c15:W2.cell? ⟨C.gb,15,none⟩=some (.slice (some ⟨C.cb,0,none⟩) G.M.length G.M.length):=(HX1.out.below' hb2).c15;rw[HSZ1.out];clear hk2 hn2 hb2 HX1 HB HR HSZ
 go_wp2_with fail
 go_loopw [20] (fun iv wr=>∃(i:Nat) (vc:Value),i≤G.M.length∧iv=.int .i64 (i:Int)∧Hid (SP W wr G.st vc (.slice none 0 0) (.slice none 0 0) ((G.M.take i).map (GM.rdy G.st)) [] [])) (fun iv _=>G.M.length-(intOf iv).toNat)
 case atStart=>exact⟨0,_,Nat.zero_le _,rfl,HS2⟩
 case round=>
  clear HS2 c15;obtain⟨i,vc,hi,rfl,HS⟩:=hrel;by_cases hlt:i<G.M.length
  ·have hz:(i:Int)<(G.M.length:Int):=by omega
   obtain⟨m,hm⟩:∃m,G.M[i]?=some m:=⟨_,List.getElem?_eq_getElem hlt⟩;have HTS:Hid ((G.M.take (i+1)).map (GM.rdy G.st)=(G.M.take i).map (GM.rdy G.st)++[GM.rdy G.st m]):=take_snocM hm;obtain⟨cs,hcs⟩:∃x,(G.M.take i).map (GM.rdy G.st)=x:=⟨_,rfl⟩;have hcl:cs.length≤8:=by rw[←hcs];simp;omega
   rw[hcs]at HS HTS;have HSS:Hid (∀w,Below wr.heap.size wr w→GX al w ow B C V G∧w.cell? ⟨W.heap.size+1,13,none⟩=some vc):=fun w hw=>⟨HH.out.below' (HS.out.next hw).bel,(HS.out.next hw).sb.cell 13⟩;have HM:=Hd hm;have hix:∀W:World,_:=fun W=>ixM (ab:=C.cb) W hlt;have hi1:i+1≤G.M.length:=hlt;clear hm hlt hcs
   go_wp2_with fail
   refine wp_nrm ?_;refine wp_region_held (S:=fun w=>GX al w ow B C V G) (by kernel_rfl) ?_;change wpAnyH _ _ _ _ _ _ _ _ (World.drew _);have HBD:=Hd (Below.refl wr.heap.size wr).drew;have HD:=Hd (HSS.out _ HBD.out).1;generalize wr.drew=w0 at HBD HD⊢;refine wpAnyH_take (i:=0) rfl (by kernel_rfl) (by kernel_rfl) (by kernel_rfl) (fun _ _ _ h=>by cases h.1) (.inl ⟨rfl,fun _ _=>rfl⟩) HD.out ?_;generalize hKK:wpAnyH _ _ _ _ _ _ _=KK;go_simp;subst hKK;refine wpAnyH_take (i:=2) rfl (by kernel_rfl) (by kernel_rfl) (by kernel_rfl) (fun _ _ _ h=>by cases h.1) (.inl ⟨rfl,fun _ _=>rfl⟩) HD.out ?_;generalize hKK:wpAnyH _ _ _ _ _ _ _=KK;go_simp;subst hKK;refine wpAnyH_take (i:=3) rfl (by kernel_rfl) (by kernel_rfl) (by kernel_rfl) (fun _ _ _ h=>by cases h.1) (.inl ⟨rfl,fun _ _=>rfl⟩) HD.out ?_;generalize hKK:wpAnyH _ _ _ _ _ _ _=KK;go_simp;subst hKK;refine wpAnyH_take (i:=4) rfl (by kernel_rfl) (by kernel_rfl) (by kernel_rfl) (fun _ _ _ h=>by cases h.1) (.inl ⟨rfl,fun _ _=>rfl⟩) HD.out ?_;generalize hKK:wpAnyH _ _ _ _ _ _ _=KK;go_simp;subst hKK;refine wpAnyH_take (i:=5) rfl (by kernel_rfl) (by kernel_rfl) (by kernel_rfl) (fun _ _ _ h=>by cases h.1) (.inl ⟨rfl,fun _ _=>rfl⟩) HD.out ?_;generalize hKK:wpAnyH _ _ _ _ _ _ _=KK;go_simp;subst hKK;refine wpAnyH_take (i:=6) (v:=.slice (some ⟨C.cb,0,none⟩) G.M.length G.M.length) rfl (by kernel_rfl) (by kernel_rfl) (by kernel_rfl) (fun _ _ _ h=>by cases h.1) (.inl ⟨rfl,(fun w hw=>by have hc:=hw.c15;go_simp)⟩) HD.out ?_;generalize hKK:wpAnyH _ _ _ _ _ _ _=KK;go_simp;subst hKK;refine wpAnyH_take (i:=7) rfl (by kernel_rfl) (by kernel_rfl) (by kernel_rfl) (fun _ _ _ h=>by cases h.1) (.inl ⟨rfl,fun _ _=>rfl⟩) HD.out ?_;generalize hKK:wpAnyH _ _ _ _ _ _ _=KK;go_simp;subst hKK;refine wpAnyH_take (i:=8) (v:=.pointer (some ⟨C.cb,i*12,none⟩)) rfl (by kernel_rfl) (by kernel_rfl) (by kernel_rfl) (fun _ _ _ h=>by cases h.1) (.inl ⟨rfl,(fun w _=>by have:=hix w;go_simp)⟩) HD.out ?_;generalize hKK:wpAnyH _ _ _ _ _ _ _=KK;go_simp;subst hKK;clear HD;refine wpAnyH_all (rs:=[1,9]) (by kernel_rfl) (by simp) (fun ii hii=> ?_);have h7:ii=1∨ii=9:=by simpa using hii
   clear hii;rcases h7 with rfl|rfl;refine wpOp_val (v:=vc) (w':=w0) rfl rfl (by have hc:=(HSS.out _ HBD.out).2;go_simp) ⟨(HSS.out _ HBD.out).1,?_⟩;generalize hKK:wpAnyH _ _ _ _ _ _ _=KK;go_simp;subst hKK;refine wpAnyH_all (rs:=[9]) (by kernel_rfl) (by simp) (fun ii hii=> ?_);obtain rfl:ii=9:=by simpa using hii
   clear hii;refine wpOp_call (f:=103) (args:= #[.pointer (some ⟨C.gb,0,none⟩),.pointer (some ⟨C.cb,i*12,none⟩)]) rfl rfl (by go_simp) (gready_any (HSS.out _ HBD.out).1 HM.out HO.out.rt) ?_;rintro e w1 ⟨rfl,hb1⟩;have HB1:=Hd (below_class HBD.out hb1);refine⟨_,rfl,(HSS.out _ HB1.out).1,?_⟩;clear hb1;generalize hKK:wpAnyH _ _ _ _ _ _ _=KK;go_simp;subst hKK;refine wpAnyH_all (rs:=[10]) (by kernel_rfl) (by simp) (fun ii hii=> ?_);obtain rfl:ii=10:=by simpa using hii
   clear hii;refine wpOp_lit rfl rfl (.cells #[.int .i64 (GM.rdy G.st m).1,.int .i64 (GM.rdy G.st m).2] 178) (by go_simp) fun rg w2 hb2 hr2=> ?_;have HB2:=Hd (below_class HB1.out hb2);have HR2:=Hd hr2;refine⟨(HSS.out _ HB2.out).1,?_⟩;clear hb2 hr2;generalize hKK:wpAnyH _ _ _ _ _ _ _=KK;go_simp;subst hKK;rotate_left;refine wpOp_call (f:=103) (args:= #[.pointer (some ⟨C.gb,0,none⟩),.pointer (some ⟨C.cb,i*12,none⟩)]) rfl rfl (by go_simp) (gready_any (HSS.out _ HBD.out).1 HM.out HO.out.rt) ?_;rintro e w1 ⟨rfl,hb1⟩;have HB1:=Hd (below_class HBD.out hb1);refine⟨_,rfl,(HSS.out _ HB1.out).1,?_⟩;clear hb1;generalize hKK:wpAnyH _ _ _ _ _ _ _=KK;go_simp;subst hKK;refine wpAnyH_all (rs:=[1,10]) (by kernel_rfl) (by simp) (fun ii hii=> ?_);have h7:ii=1∨ii=10:=by simpa using hii
   clear hii;rcases h7 with rfl|rfl;refine wpOp_val (v:=vc) (w':=w1) rfl rfl (by have hc:=(HSS.out _ HB1.out).2;go_simp) ⟨(HSS.out _ HB1.out).1,?_⟩;generalize hKK:wpAnyH _ _ _ _ _ _ _=KK;go_simp;subst hKK;refine wpAnyH_all (rs:=[10]) (by kernel_rfl) (by simp) (fun ii hii=> ?_);obtain rfl:ii=10:=by simpa using hii
   clear hii;refine wpOp_lit rfl rfl (.cells #[.int .i64 (GM.rdy G.st m).1,.int .i64 (GM.rdy G.st m).2] 178) (by go_simp) fun rg w2 hb2 hr2=> ?_;have HB2:=Hd (below_class HB1.out hb2);have HR2:=Hd hr2;refine⟨(HSS.out _ HB2.out).1,?_⟩;clear hb2 hr2;generalize hKK:wpAnyH _ _ _ _ _ _ _=KK;go_simp;subst hKK;rotate_left;refine wpOp_lit rfl rfl (.cells #[.int .i64 (GM.rdy G.st m).1,.int .i64 (GM.rdy G.st m).2] 178) (by go_simp) fun rg w2 hb2 hr2=> ?_;have HB2:=Hd (below_class HB1.out hb2);have HR2:=Hd hr2;refine⟨(HSS.out _ HB2.out).1,?_⟩;clear hb2 hr2;generalize hKK:wpAnyH _ _ _ _ _ _ _=KK;go_simp;subst hKK;refine wpAnyH_all (rs:=[1]) (by kernel_rfl) (by simp) (fun ii hii=> ?_);obtain rfl:ii=1:=by simpa using hii
   clear hii;refine wpOp_val (v:=vc) (w':=w2) rfl rfl (by have hc:=(HSS.out _ HB2.out).2;go_simp) ⟨(HSS.out _ HB2.out).1,?_⟩;generalize hKK:wpAnyH _ _ _ _ _ _ _=KK;go_simp;subst hKK
   all_goals
    refine wpAnyH_all (rs:=[11]) (by kernel_rfl) (by simp) (fun ii hii=> ?_);obtain rfl:ii=11:=by simpa using hii
    clear hii;have HS2:=Hd (HS.out.next HB2.out);refine wpOp_app2 178 143 rfl infoR rfl rfl _ _ rfl (W.heap.size+2) vc cs rfl HS2.out.oc rg 1 (GM.rdy G.st m) rfl HR2.out (by omega) HS2.out.sz ?_;intro v2 w3 ho3 hg3;have h3:∀j,W.heap.size≤j→j<W.heap.size+2→w3.heap[j]?=w2.heap[j]?:=fun j h1 h2=>hg3.block j (by have:=HS2.out.sz;omega) fun e=>by have:=(HS2.out.oc.lt _ e.symm).1;omega
    have hn3:=(h3 _ (Nat.le_succ _) (Nat.lt_succ_self _)).trans HS2.out.sb;have c13:w3.cell? ⟨W.heap.size+1,13,none⟩=some vc:=NB.cell (h:=hn3) 13;have r13:w3.frozen? ⟨W.heap.size+1,13,none⟩=false:=NB.fr (h:=hn3) 13;have HX3:=Hd (HH.out.below' (HS2.out.bel2 (fun g e=>(HS2.out.oc.lt g e).1) hg3));have HS4:=Hd (HS2.out.addC ho3 hg3);rw[←HTS.out]at HS4
    obtain⟨a2,n2,k2,rfl⟩:∃a n k,v2=.slice a n k:=by
     rcases ho3.form with⟨rfl,_⟩|⟨g,cap,rfl,_⟩
     ·exact⟨none,0,0,rfl⟩
     ·exact⟨_,_,cap,rfl⟩
    refine⟨HX3.out,?_⟩;have HD:=HX3;clear ho3 hg3 h3 hn3;generalize hKK:wpAnyH _ _ _ _ _ _ _=KK;go_simp;subst hKK;refine wpAnyH_take (i:=12) rfl (by kernel_rfl) (by kernel_rfl) (by kernel_rfl) (fun _ _ _ h=>by cases h.1) (.inl ⟨rfl,fun _ _=>rfl⟩) HD.out ?_;generalize hKK:wpAnyH _ _ _ _ _ _ _=KK;go_simp;subst hKK;refine wpAnyH_all (rs:=[13]) (by kernel_rfl) (by simp) (fun ii hii=> ?_);obtain rfl:ii=13:=by simpa using hii
    clear hii;refine wpOp_sto rfl rfl _ _ _ rfl (w':=w3.setCell ⟨W.heap.size+1,13,none⟩ (.slice a2 n2 k2)) (by simp[Act.eval,go_sem,c13,r13]) ?_;refine⟨HH.out.below' HS4.out.bel,?_⟩;clear c13 r13;generalize w3.setCell ⟨W.heap.size+1,13,none⟩ (.slice a2 n2 k2)=w4 at HS4⊢;generalize hKK:wpAnyH _ _ _ _ _ _ _=KK;go_simp;subst hKK;refine wpAnyH_done (by kernel_rfl) ⟨rfl,?_⟩ _;clear HD HX3 HS2 HB2 HR2 HB1 HSS;go_wp2;go_roundw
    case rel=>exact⟨i+1,_,hi1,by go_num,HS4⟩
    case measure=>simp[intOf];omega
  ·have hz:¬(i:Int)<(G.M.length:Int):=by omega
   have e1:i=G.M.length:=by omega
   rw[e1,List.take_length]at HS;rw[HSC.out]at HS;have hx:=HH.out.below' HS.out.bel;have c14:wr.cell? ⟨C.gb,14,none⟩=some (.pointer (some ⟨C.bb,0,none⟩)):=hx.cell 14;have HAL:=Hd (CC.all_any B C.bb G.st.fl G.st.ca V.vb G.s G.L wr (hx.pt 2 trivial).1 HO.out.gd.len);clear e1 hx
   go_wp2_with fail
   refine HAL.out.mono ?_;rintro e w3 ⟨va,rfl,hra,hba⟩;have HS0:Hid (SP W w3 G.st vc (.slice none 0 0) (.slice none 0 0) SC ((GM.wnt G.M (G.L.take 0)).map fun x=>(x.fl,GM.ms G.M x)) (GM.wnt G.M (G.L.take 0))):=HS.out.next hba;have HA0:=Hd hra;have HLL:=Hd HO.out.gd.len
   obtain⟨aa,ka',rfl⟩:∃a c,va=.slice a G.L.length c:=by
    rcases hra.form with⟨rfl,e⟩|⟨g,cap,rfl,_⟩
    ·exact⟨none,0,by rw[e];rfl⟩
    ·exact⟨_,cap,rfl⟩
   have HWS:Hid (W.heap.size+2≤wr.heap.size):=HS.out.sz;generalize wr.heap.size=ws0 at*;clear HS hra hba HAL c14 hi hlt hz
   go_wp2_with fail
   go_loopw [6,43] (fun lv iv wr=>∃(k:Nat) (vw:Value),k≤G.L.length∧iv=.int .i64 (k:Int)∧Hid (SP W wr G.st vc vw lv SC ((GM.wnt G.M (G.L.take k)).map fun x=>(x.fl,GM.ms G.M x)) (GM.wnt G.M (G.L.take k)))∧Hid (CC.RW wr ws0 (.slice aa G.L.length ka') G.L)∧Hid (∀g,(Value.slice aa G.L.length ka').ownBlock=some g→lv.ownBlock≠some g)) (fun _ iv _=>G.L.length-(intOf iv).toNat)
   case atStart=>exact⟨0,_,Nat.zero_le _,rfl,HS0,HA0,fun g _ e=>by cases e⟩
   case round=>
    clear HS0 HA0;obtain⟨k,vw,hk,rfl,HS,HA,HNE⟩:=hrel;by_cases hlk:k<G.L.length
    ·have hzk:(k:Int)<(G.L.length:Int):=by omega
     obtain⟨c,hc⟩:∃c,G.L[k]?=some c:=⟨_,List.getElem?_eq_getElem hlk⟩;rcases HA.out.form with⟨e1,e2⟩|⟨g,cap,e1,_⟩
     ·rw[e2]at hlk;simp at hlk
     cases e1;have hrg:=HA.out.range hlk;rw[(List.getElem?_eq_some_iff.1 hc).2]at hrg;have HRG:=Hd hrg
     have hixk:∀W:World,(Instr.indexAt 38 (.slice (some ⟨g,0,none⟩) G.L.length ka') (.int .i64 (k:Int))).run Tryz.prog W=.ok (.pointer (some ⟨g,k*4,none⟩)) W:=fun W=>by
      have:=ixCa W (g:=g) (o:=0) (cap:=ka') hlk;rwa[Nat.zero_add]at this
     have hal:=(Below.refl wr.heap.size wr).alloc (Nat.le_refl _) (.cells #[.int .i64 c.fl,.int .i64 c.ca,.int .i64 c.ag,.bool c.up] 33);have HCB:=Hd (CC.CB.new wr c);have HSV:=Hd (serving_any (HH.out.below' (HS.out.next hal).bel) c)
     have HWT:Hid (GM.wnt G.M (G.L.take (k+1))=if GM.ms G.M c=0 then GM.wnt G.M (G.L.take k)else GM.wnt G.M (G.L.take k)++[c]):=by
      show _=_;unfold GM.wnt;rw[List.take_add_one,hc,Option.toList_some,List.filter_append];split
      ·rename_i q;simp[q]
      ·rename_i q;simp[q]
     have HWL:Hid ((GM.wnt G.M (G.L.take k)).length≤128):=by
      show _≤_;have h1:=List.length_filter_le (fun x=>decide (GM.ms G.M x≠0)) (G.L.take k);have h2:=HLL.out;rw[List.length_take]at h1;unfold GM.wnt;omega
     obtain⟨lk,hlk2⟩:∃x,GM.wnt G.M (G.L.take k)=x:=⟨_,rfl⟩;rw[hlk2]at HS HWT HWL;have HVW:Hid (∀g,vw.ownBlock=some g→g<wr.heap.size):=fun g e=>(HS.out.ow.lt g e).2;have HZZ:Hid (W.heap.size+2≤wr.heap.size):=HS.out.sz;have HGL:Hid (ws0≤g∧g<wr.heap.size):=HA.out.lt g rfl;have HS1:=Hd (HS.out.next hal);have HA1:=Hd (HA.out.below' hal);have hk1:k+1≤G.L.length:=hlk;have hkl:G.L.length≤128:=HLL.out;clear hlk hc hrg hal hlk2 HS HA;obtain⟨z,hz1⟩:∃z,GM.ms G.M c=z:=⟨_,rfl⟩;have HZ:=Hd hz1;rw[hz1]at HSV HWT;clear hz1;by_cases q:z=0
     ·rw[if_pos q]at HWT;have d:(z !=0)=false:=by simpa using q
      clear q
      go_wp2_with (first|(refine wpList_loadKo rfl _ rfl g (k*4) rfl HRG.out ?_)|(refine wpList_loadKo rfl _ rfl wr.heap.size 0 rfl HCB.out.range ?_))
      refine HSV.out.mono ?_;rintro e w4 ⟨rfl,hb4⟩;have HS4:=Hd (HS1.out.next hb4);have HA4:=Hd (HA1.out.below' hb4);rw[←HWT.out]at HS4;clear hb4 HSV HS1 HA1 HCB HRG hixk;go_wp2;go_roundw
      case rel=>exact⟨k+1,_,hk1,by go_num,HS4,HA4,HNE⟩
      case measure=>simp[intOf];omega
     ·rw[if_neg q]at HWT;have d:(z !=0)=true:=by simpa using q
      clear q
      go_wp2_with (first|(refine wpList_loadKo rfl _ rfl g (k*4) rfl HRG.out ?_)|(refine wpList_loadKo rfl _ rfl wr.heap.size 0 rfl HCB.out.range ?_))
      refine HSV.out.mono ?_;rintro e w4 ⟨rfl,hb4⟩;have HS4:=Hd (HS1.out.next hb4);have HA4:=Hd (HA1.out.below' hb4);have hcb4:=HCB.out.below' hb4;have HCB4:=Hd hcb4;have f0:=hcb4.c0;have c14:w4.cell? ⟨W.heap.size+1,14,none⟩=some vw:=HS4.out.sb.cell 14;have hal5:=(Below.refl w4.heap.size w4).alloc (Nat.le_refl _) (.cells #[.int .i64 c.fl,.int .i64 z] 182);have HS5:=Hd (HS4.out.next hal5);have HA5:=Hd (HA4.out.below' hal5);have HCB5:=Hd (hcb4.below' hal5);have HOV:=Hd ((o2_lit1 (t:=182) w4 (c.fl,z) (Nat.le_refl _)).r2 (D:=fun _=>True) fun _ _=>trivial);have hl5:lk.length≤128:=HWL.out;clear hb4 HSV HS1 HA1 HCB HRG hixk hcb4 hal5 HS4 HA4 HCB4
      go_wp2_with (at_builtin;refine wpList_append2 182 144 rfl infoW rfl _ _ rfl (W.heap.size+2) vw _ (lk.map fun x=>(x.fl,GM.ms G.M x)) [(c.fl,z)] (fun _=>True) rfl HS5.out.ow rfl HOV.out (by rw[List.length_map];simp only[List.length_cons,List.length_nil];omega) HS5.out.sz ?_)
      intro v2 w5 ho5 hg5;have hsb5:NB w5 (W.heap.size+1) G.st vc vw:=(hg5.block _ HS5.out.sb.lt fun e=>by have:=(HS5.out.ow.lt _ e.symm).1;omega).trans HS5.out.sb;have c14:w5.cell? ⟨W.heap.size+1,14,none⟩=some vw:=hsb5.cell 14;have r14:w5.frozen? ⟨W.heap.size+1,14,none⟩=false:=hsb5.fr 14
      obtain⟨a2,n2,k2,rfl⟩:∃a n k,v2=.slice a n k:=by
       rcases ho5.form with⟨rfl,_⟩|⟨g,cap,rfl,_⟩
       ·exact⟨none,0,0,rfl⟩
       ·exact⟨_,_,cap,rfl⟩
      have HS6:=Hd (HS5.out.addW ho5 hg5);have HCB6:Hid (CC.CB (w5.setCell ⟨W.heap.size+1,14,none⟩ (.slice a2 n2 k2)) wr.heap.size c):=(Below.heap_setCell _ _ _ _ (by have:=HZZ.out;simp;omega)).trans ((hg5.block _ HCB5.out.lt fun e=>by have:=HVW.out _ e.symm;omega).trans HCB5.out);have HA6:Hid (CC.RW (w5.setCell ⟨W.heap.size+1,14,none⟩ (.slice a2 n2 k2)) ws0 (.slice (some ⟨g,0,none⟩) G.L.length ka') G.L):=HA5.out.keep fun g' e=>(Below.heap_setCell _ _ _ _ (by have:=(HA5.out.lt g' e).1;have:=HWS.out;simp;omega)).trans (hg5.block _ (HA5.out.lt g' e).2 fun e2=>rows_apart HA5.out HS5.out.ow (by decide) g' e e2.symm);clear ho5 hg5 hsb5 HS5 HA5 HCB5 HOV f0
      go_upto_region 14 with (fail)
      generalize w5.setCell ⟨W.heap.size+1,14,none⟩ (.slice a2 n2 k2)=W6 at*;clear c14 r14;have hal7:=(Below.refl W6.heap.size W6).alloc (Nat.le_refl _) (.cells #[.int .i64 c.fl,.int .i64 c.ca,.int .i64 c.ag,.bool c.up] 33);have HS7:=Hd (HS6.out.next hal7);have HA7:=Hd (HA6.out.below' hal7);have HN7:=Hd (CC.CB.new W6 c);clear hal7 HS6 HA6
      go_wp2_with (first|(refine wpList_loadKo rfl _ rfl wr.heap.size 0 rfl HCB6.out.range ?_)|(at_builtin;refine CC.wpList_appendK rfl _ _ rfl (W.heap.size+2) (y:=c) rfl HS7.out.ol (by omega) rfl HN7.out HS7.out.sz ?_))
      intro g8 cap8 W8 hr8 hg8 hl8;have hs8:=HS7.out.addL hr8 hg8
      have HS8:Hid (SP W W8 G.st vc (.slice a2 n2 k2) (.slice (some ⟨g8,0,none⟩) (lk.length+1) cap8) SC ((GM.wnt G.M (G.L.take (k+1))).map fun x=>(x.fl,GM.ms G.M x)) (GM.wnt G.M (G.L.take (k+1)))):=by
       show SP _ _ _ _ _ _ _ _ _;rw[HWT.out,List.map_append];simp only[List.map_cons,List.map_nil,HZ.out];exact hs8
      have HA8:Hid (CC.RW W8 ws0 (.slice (some ⟨g,0,none⟩) G.L.length ka') G.L):=HA7.out.keep fun g' e=>hg8.block _ (HA7.out.lt g' e).2 fun e2=>HNE.out g' e e2.symm
      have HNE8:Hid (∀g_1,(Value.slice (some ⟨g,0,none⟩) G.L.length ka').ownBlock=some g_1→(Value.slice (some ⟨g8,0,none⟩) (lk.length+1) cap8).ownBlock≠some g_1):=fun g1 e1 e2=>by
       have h1:=(HA7.out.lt g1 e1).2;rw[World.size_alloc]at h1;have h2:g8=g1:=by simpa[Value.ownBlock]using e2
       rcases hl8 with e|e
       ·exact HNE.out g1 e1 (h2▸e)
       ·omega
      clear hr8 hg8 hl8 hs8 HS7 HA7 HN7 HCB6;go_wp2;go_roundw
      case rel=>exact⟨k+1,_,hk1,by go_num,HS8,HA8,HNE8⟩
      case measure=>simp[intOf];omega
    ·have hzk:¬(k:Int)<(G.L.length:Int):=by omega
     have e1:k=G.L.length:=by omega
     rw[e1,List.take_length,HSW.out,HSL.out]at HS
     obtain⟨ac,nc,kc,rfl⟩:∃a n k,vc=.slice a n k:=by
      rcases HS.out.oc.form with⟨rfl,_⟩|⟨g,cap,rfl,_⟩
      ·exact⟨none,0,0,rfl⟩
      ·exact⟨_,_,cap,rfl⟩
     obtain⟨aw,nw',kw,rfl⟩:∃a n k,vw=.slice a n k:=by
      rcases HS.out.ow.form with⟨rfl,_⟩|⟨g,cap,rfl,_⟩
      ·exact⟨none,0,0,rfl⟩
      ·exact⟨_,_,cap,rfl⟩
     clear e1 HA HNE
     go_wp2_with (first|(refine wpList_load27g rfl _ rfl (W.heap.size+1) G.st _ _ rfl HS.out.sb ?_)|(refine wpList_store27 rfl _ _ rfl W.heap.size _ rfl rfl rfl rfl HS.out.rb rfl ?_))
     intro W9 hk9 hn9;have hr:∀g,W.heap.size+2≤g→g<wr.heap.size→W9.heap[g]?=wr.heap[g]?:=fun g h1 h2=>hk9.block g h2 (by omega);have HC9:=Hd (HS.out.oc.keep fun g e=>hr g (HS.out.oc.lt g e).1 (HS.out.oc.lt g e).2);have HW9:=Hd (HS.out.ow.keep fun g e=>hr g (HS.out.ow.lt g e).1 (HS.out.ow.lt g e).2);have HL9:=Hd (HS.out.ol.keep fun g e=>hr g (HS.out.ol.lt g e).1 (HS.out.ol.lt g e).2);have HB9:=Hd (hk9.below HS.out.bel HS.out.bel.size fun i hi e=>by omega);have HN9:=Hd hn9;clear hk9 hn9 hr HS;go_wp2;refine bodyPost_ret (retSn Tryz.results80 rfl rfl HN9.out) rfl ?_;exact⟨_,_,_,rfl,HC9.out,HW9.out,HL9.out,HB9.out⟩
end
namespace GM
theorem adn_length(W:List CC.Cl)(M:List Mb)(P:List (List Int)):∀n,(adn W M P n).length=M.length
 |0=>rfl
 |n+1=>by
  unfold adn;split
  ·rw[List.length_set];exact adn_length W M P n
  ·exact adn_length W M P n
theorem adn_get(W:List CC.Cl)(M:List Mb)(P:List (List Int)):∀n j,n≤j→(adn W M P n)[j]?=M[j]?
 |0,_,_=>rfl
 |n+1,j,h=>by
  unfold adn;split
  ·rw[List.getElem?_set_ne (by omega)];exact adn_get W M P n j (by omega)
  ·exact adn_get W M P n j (by omega)
theorem adn_succ{W:List CC.Cl}{M:List Mb}{P:List (List Int)}{n:Nat}{m:Mb}{l:List Int}(hm:M[n]?=some m)(hl:P[n]?=some l):adn W M P (n+1)=(adn W M P n).set n {m with ls:=lst W l}:=by
 conv=>lhs;unfold adn
 rw[hm,hl]
theorem lst_snoc{W:List CC.Cl}{l:List Int}{k:Nat}{z:Int}{x:CC.Cl}(h:l[k]?=some z)(hx:W[z.toNat]?=some x):lst W (l.take (k+1))=lst W (l.take k)++[agl x]:=by
 unfold lst;rw[List.take_add_one,h];simp[hx]
end GM
section
variable {W W' W2:World} {ow ow':Nat→Nat} {B:Nat} {C:Gc} {V V':Gv} {G G' G2:Gs} {m m':Mb} {i:Nat} {n:Int}
theorem GX.setV{lv:Value}{ls:List CC.Cl}(h:GX al W ow B C V G)(hm:G.M[i]?=some m)(hb:Below W.heap.size W W2)(hr:CC.RW W2 W.heap.size lv ls):GX al (W2.setCell ⟨C.cb,i*12+11,none⟩ lv) (nr ow W lv (11+2*i)) B C {V with vl:=fun j=>if j=i then lv else V.vl j} {G with M:=G.M.set i {m with ls:=ls}}:=by
 have hi:=(List.getElem?_eq_some_iff.1 hm).1;have h1:=(h.tag (ow':=nr ow W lv (11+2*i)) (fun b hl=>nr_old hl) h.hB).below' hb;have hc:W2.heap[C.cb]?=some (.cells (mrow C.lb V.vl 0 G.M).toArray 91 (0,0)):=h1.pt 1 trivial;have h2:=(h1.set C.cb (i:=1) h1.t1 (i*12+11) lv).mono (T':=fun t=>nx 1 t∧nx (11+2*i) t) fun t x=>x.1;refine ((h2.chg (G':={G with M:=G.M.set i {m with ls:=ls}}) (V':={V with vl:=fun j=>if j=i then lv else V.vl j}) (by simp) fun t x hp=> ?_).fill (T':=nx 1) (11+2*i) ?_ fun t x=>by unfold nx at*;omega).fills ?_
 ·match t,x,hp with
  |0,_,hp=>exact(show(W2.setCell _ _).heap[C.gb]?=some (.cells (gcv C V G).toArray 85 (0,0))from hp).trans (by unfold gcv;simp)
  |1,x,_=>exact absurd rfl x.1
  |2,_,hp=>exact hp
  |3,_,hp=>exact hp
  |4,_,hp=>exact hp
  |5,_,hp=>exact hp
  |t+6,x,hp=>
   intro k y hy;have hy':(G.M.set i {m with ls:=ls})[k]?=some y:=hy;rw[List.getElem?_set]at hy';split at hy'
   ·rename_i e;subst e;cases hy';exact⟨(hp i m hm).1,fun e=>absurd (show t+6=11+2*i by omega) x.2⟩
   ·rename_i e;have:=hp k y hy';refine⟨this.1,fun e2=> ?_⟩;simp only[if_neg (show¬k=i from fun x=>e x.symm)];exact this.2 e2
 ·rw[show 11+2*i=5+2*i+6 by omega];intro k y hy;refine⟨fun e=>by omega,fun e=> ?_⟩;have e2:i=k:=by omega
  subst e2;have hy':(G.M.set i {m with ls:=ls})[i]?=some y:=hy;rw[List.getElem?_set,if_pos rfl,if_pos hi]at hy';cases hy';simp only[if_pos];refine⟨(hr.keep fun g hg=>Below.heap_setCell _ _ _ _ ?_).mono h.hB,fun g hg=> ?_⟩
  ·have:=(hr.lt g hg).1;have:=h.sz.2.1;simp;omega
  ·have:=(hr.lt g hg).1;unfold nr;rw[if_neg (by omega),if_pos hg];omega
 ·refine (heap_setCell_same W2 C.cb _ _ _ _ hc).trans ?_;have:=mrow_set (lb:=C.lb) (vl:=V.vl) (vl':=fun j=>if j=i then lv else V.vl j) (u:=lv) (k:=0) (m':={m with ls:=ls}) hm (show 11<12 by omega) (by simp[mc]) (fun x hx=>by simp at hx;simp[hx]);rw[←this];simp
theorem ageless_any(c:CC.Cl)(W:World):
  Calls Tryz.prog 110 #[.agg #[.int .i64 c.fl,.int .i64 c.ca,.int .i64 c.ag,.bool c.up]] W fun e w'=>e=.returned (.agg #[.int .i64 (GM.agl c).fl,.int .i64 (GM.agl c).ca,.int .i64 (GM.agl c).ag,.bool (GM.agl c).up])∧Below W.heap.size W w':=by
 go_enter Tryz.func110,Tryz.ntmps110
 go_wp2;have hx:=World.alloc_heap_new (W.alloc (.cells #[.int .i64 c.fl,.int .i64 c.ca,.int .i64 0,.bool c.up] 33)) (.cells #[.int .i64 c.fl,.int .i64 c.ca,.int .i64 0,.bool c.up] 33);rw[World.size_alloc]at hx;exact bodyPost_ret (results_cell_row Tryz.results110 _ _ (W.heap.size+1) _ _ _ _ rfl hx Tryz.underlying33 rfl (by kernel_rfl)) rfl ⟨rfl,((Below.refl W.heap.size W).alloc (Nat.le_refl _) _).alloc (by simp) _⟩
theorem CC.RW.calls{D:Nat→Prop}{v:Value}{L:List CC.Cl}(h:CC.RW W B v L)(hD:∀g,v.ownBlock=some g→D g):∃a c,v=.slice a L.length c∧∀k x,L[k]?=some x→∃g,a=some ⟨g,0,none⟩∧D g∧g<W.heap.size∧W.rangeAt g (k*4) (CC.cv x):=by
 rcases h.form with⟨rfl,rfl⟩|⟨g,cap,rfl,_,hlt,_⟩
 ·exact⟨none,0,rfl,fun k x h=>by simp at h⟩
 ·refine⟨_,cap,rfl,fun k x hx=>⟨g,rfl,hD g rfl,hlt,?_⟩⟩;obtain⟨hk,rfl⟩:=List.getElem?_eq_some_iff.1 hx;exact h.range hk
theorem ixP2{a n k j:Nat}{o:Nat}(W:World)(h:j<n):(Instr.indexAt 150 (.slice (some ⟨a,o,none⟩) n k) (.int .i64 (j:Int))).run Tryz.prog W=.ok (.pointer (some ⟨a,o+j,none⟩)) W:=ixP W rfl h
theorem adopt_any(h:GX al W ow B C V G)(P:List (List Int))(wd:List CC.Cl)(vp vl:Value)(D:Nat→Prop)(hD:∀g,D g→¬ow g<1000)(hp:RL D W vp P)(hl:CC.RW W B vl wd)(hlD:∀g,vl.ownBlock=some g→D g)(hP:P.length=G.M.length)(hz:∀l∈P,l.length≤128∧∀z∈l,0≤z∧z<wd.length):
  Calls Tryz.prog 82 #[.pointer (some ⟨C.gb,0,none⟩),vp,vl] W fun e w'=>e=.returned (.tuple #[])∧Ga W ow B C {G with M:=GM.adp wd G.M P} w':=by
 obtain⟨al',cl',rfl,hcl⟩:=hl.calls hlD;obtain⟨ap,kp,rfl,-⟩:=hp.form;have hml:=h.ml;have HP:=Hd hp;have HCL:=Hd hcl;have HZ:=Hd hz;have HDD:=Hd hD;have HLL:=Hd hP;have HG0:Hid (Ga W ow B C {G with M:=GM.adn wd G.M P 0} W):=Ga.below h (Below.refl _ _);obtain⟨np,hnp⟩:∃x,P.length=x:=⟨_,rfl⟩;have HNP:=Hd hnp;have hnp8:np≤8:=by omega
 rw[hnp]at HP⊢;clear h hp hl hlD hcl hz hD hP hnp
 go_enter Tryz.func82,Tryz.ntmps82
 go_wp2_with fail
 go_loopw [13] (fun iv wr=>∃i:Nat,i≤np∧iv=.int .i64 (i:Int)∧Hid (Ga W ow B C {G with M:=GM.adn wd G.M P i} wr)) (fun iv _=>np-(intOf iv).toNat)
 case atStart=>exact⟨0,Nat.zero_le _,rfl,HG0⟩
 case round=>
  clear HG0;obtain⟨i,hi,rfl,HG⟩:=hrel;by_cases hlt:i<np
  ·have hz:(i:Int)<(np:Int):=by omega
   obtain⟨l,hl⟩:∃l,P[i]?=some l:=⟨_,List.getElem?_eq_getElem (by have:=HNP.out;omega)⟩;obtain⟨m,hm⟩:∃m,G.M[i]?=some m:=⟨_,List.getElem?_eq_getElem (by have:=HNP.out;have:=HLL.out;omega)⟩;have hRL:=HP.out.keep (W':=wr) HG.out.kp.size fun g hd hlt=>HG.out.kp.block g hlt (HDD.out g hd);obtain⟨gp,op,e,u,hu,hri⟩:=hRL.at hl;subst e;obtain⟨au,ku,rfl,-⟩:=hri.form;have hixp:∀W:World,_:=fun W=>ixP2 (a:=gp) (o:=op) (k:=kp) W hlt;obtain⟨hll,hlz⟩:=HZ.out l (List.mem_of_getElem? hl);have HLZ:=Hd hlz;have HRI:=Hd hri;obtain⟨i0,hi0,hz0,hz1,hz2⟩:=info_parts CC.infoKz;obtain⟨w1,hmk,hown,hgr⟩:=run_make_own (P:=Tryz.prog) wr wr.heap.size 38 33 i0 _ 4 Tryz.underlying38 hi0 hz0 hz1 .i64 .i64 l.length (by rw[hz2];omega) (by unfold maxLen;omega) (Nat.le_refl _);have HB1:Hid (Below wr.heap.size wr w1):=⟨hgr.os,hgr.tape,hgr.output,hgr.size,fun k hk=>hgr.block k hk (fun e=>by cases e)⟩;have HR1:Hid (CC.RW w1 wr.heap.size (.slice (some ⟨wr.heap.size,0,none⟩) 0 l.length) (GM.lst wd (l.take 0))):=hown;have HM:=Hd hm;have HL:=Hd hl;have HLT:=Hd hlt
   have HWD:Hid (∀w2,Below wr.heap.size wr w2→∀k x,wd[k]?=some x→∃g,al'=some ⟨g,0,none⟩∧w2.rangeAt g (k*4) (CC.cv x)):=fun w2 hb k x hx=>by
    obtain⟨g,h1,h2,h3,h4⟩:=HCL.out k x hx;have hk:=HG.out.kp;refine⟨g,h1,fun j y hy=>(World.cell?_of_block (a:=⟨g,k*4+j,none⟩) ((hb.block g (Nat.lt_of_lt_of_le h3 hk.size)).trans (hk.block g h3 (HDD.out g h2)))).trans (h4 j y hy)⟩
   have hi1:i+1≤np:=hlt;clear hl hm hlt hRL hlz hri hown hgr hi0 hz0 hz1 hz2 i0
   go_wp2_with fail
   clear hmk hu hixp;obtain⟨X0,hX⟩:∃X,X=wr:=⟨wr,rfl⟩;subst hX;generalize hb0:X0.heap.size=b0 at*
   go_loopw [8,23] (fun lv kv w2=>∃k:Nat,k≤l.length∧kv=.int .i64 (k:Int)∧Hid (CC.RW w2 b0 lv (GM.lst wd (l.take k)))∧Hid (Below b0 X0 w2)) (fun _ kv _=>l.length-(intOf kv).toNat)
   case atStart=>exact⟨0,Nat.zero_le _,rfl,HR1,HB1⟩
   case round=>
    clear HR1 HB1;obtain⟨k,hk,rfl,HR,HB⟩:=hrel;by_cases hlk:k<l.length
    ·have hzk:(k:Int)<(l.length:Int):=by omega
     obtain⟨z,hzz⟩:∃z,l[k]?=some z:=⟨_,List.getElem?_eq_getElem hlk⟩;obtain⟨hz1,hz2⟩:=HLZ.out z (List.mem_of_getElem? hzz);obtain⟨x,hx⟩:∃x,wd[z.toNat]?=some x:=⟨_,List.getElem?_eq_getElem (by omega)⟩;have hri2:=HRI.out.below' (hb0▸HB.out);obtain⟨gu,ou,e,hcu⟩:=hri2.at hzz;subst e;obtain⟨gw,e,hrg⟩:=HWD.out wr HB.out z.toNat x hx;subst e;have hixu:∀W:World,(Instr.indexAt 52 (.slice (some ⟨gu,ou,none⟩) l.length ku) (.int .i64 (k:Int))).run Tryz.prog W=.ok (.pointer (some ⟨gu,ou+k,none⟩)) W:=fun W=>ixI W rfl hlk
     have hixw:∀W:World,(Instr.indexAt 38 (.slice (some ⟨gw,0,none⟩) wd.length cl') (.int .i64 z)).run Tryz.prog W=.ok (.pointer (some ⟨gw,z.toNat*4,none⟩)) W:=fun W=>by
      have:=ixCa W (g:=gw) (o:=0) (cap:=cl') (show z.toNat<wd.length by omega);rw[Nat.zero_add,show((z.toNat:Nat):Int)=z by omega]at this;exact this
     have HRG:=Hd hrg;have HTS:=Hd (GM.lst_snoc hzz hx);have HAG:=Hd (ageless_any x wr);have hk1:k+1≤l.length:=hlk;have HLK:Hid ((GM.lst wd (l.take k)).length≤128):=by show _≤_;unfold GM.lst;rw[List.length_map,List.length_take];omega
     clear hzz hx hri2 hrg hlk hz1 hz2;generalize GM.agl x=y at HTS HAG
     go_wp2_with (refine wpList_loadKo rfl _ rfl gw (z.toNat*4) rfl HRG.out ?_)
     refine HAG.out.mono ?_;rintro e w3 ⟨rfl,hb3⟩;have hal:=(Below.refl w3.heap.size w3).alloc (Nat.le_refl _) (.cells #[.int .i64 y.fl,.int .i64 y.ca,.int .i64 y.ag,.bool y.up] 33);have HN4:=Hd (CC.CB.new w3 y);have HR4:=Hd ((HR.out.below' hb3).below' hal);have HB3:Hid (Below b0 X0 w3):=HB.out.trans (hb3.mono (hb0▸HB.out.size));have HB4:=Hd (HB3.out.trans (hal.mono (hb0▸HB3.out.size)));have HSZ:Hid (b0≤(w3.alloc (.cells #[.int .i64 y.fl,.int .i64 y.ca,.int .i64 y.ag,.bool y.up] 33)).heap.size):=hb0▸HB4.out.size;have hl4:(GM.lst wd (l.take k)).length≤1000:=by have:=HLK.out;omega
     clear hb3 hal HAG HRG hixw hixu hcu HR HB HB3
     go_wp2_with (at_builtin;refine CC.wpList_appendK rfl _ _ rfl b0 (y:=y) rfl HR4.out hl4 rfl HN4.out HSZ.out ?_)
     intro g5 cap5 W5 hr5 hg5 hl5;have HR5:Hid (CC.RW W5 b0 (.slice (some ⟨g5,0,none⟩) ((GM.lst wd (l.take k)).length+1) cap5) (GM.lst wd (l.take (k+1)))):=by rw[HTS.out];exact hr5
     have HB5:=Hd (HB4.out.grown hg5 HSZ.out fun q hq=>(HR4.out.lt q hq).1);clear hr5 hg5 hl5 HR4 HB4 HN4 HSZ;go_wp2;go_roundw
     case rel=>exact⟨k+1,hk1,by go_num,HR5,HB5⟩
     case measure=>simp[intOf];omega
    ·have hzk:¬(k:Int)<(l.length:Int):=by omega
     have e1:k=l.length:=by omega
     rw[e1,List.take_length]at HR
     obtain⟨al8,nl8,kl8,rfl⟩:∃a n k,u8=.slice a n k:=by
      rcases HR.out.form with⟨rfl,_⟩|⟨g,cap,rfl,_⟩
      ·exact⟨none,0,0,rfl⟩
      ·exact⟨_,_,cap,rfl⟩
     obtain⟨o,V1,h1,h2,h3⟩:=HG.out;have hB:Below X0.heap.size X0 wr:=hb0▸HB.out;have hm2:(GM.adn wd G.M P i)[i]?=some m:=(GM.adn_get wd G.M P i i (Nat.le_refl _)).trans HM.out;have hx:=h1.below' hB
     have c15:wr.cell? ⟨C.gb,15,none⟩=some (.slice (some ⟨C.cb,0,none⟩) G.M.length G.M.length):=by
      have:=hx.c15;rwa[show(GM.adn wd G.M P i).length=G.M.length from GM.adn_length ..]at this
     have m11:wr.cell? ⟨C.cb,i*12+11,none⟩=some (V1.vl i):=hx.mcell hm2 11 (by decide);have r11:=hx.mfr (i*12+11);have hix:∀W:World,_:=fun W=>ixM (ab:=C.cb) W (show i<G.M.length by have:=HNP.out;have:=HLL.out;have:=HLT.out;omega)
     have HG2:Hid (Ga W ow B C {G with M:=GM.adn wd G.M P (i+1)} (wr.setCell ⟨C.cb,i*12+11,none⟩ (.slice al8 nl8 kl8))):=by
      show Ga _ _ _ _ _ _;rw[GM.adn_succ HM.out HL.out];refine⟨_,_,GX.setV h1 hm2 hB (show CC.RW wr X0.heap.size _ _ by rw[hb0];exact HR.out),fun b hb=>(nr_old (Nat.lt_of_lt_of_le hb h3.size)).trans (h2 b hb),(h3.thenBelow hB).set _ _ _ fun hlt=>by show ow _<1000;rw[←h2 _ hlt,h1.t1];omega⟩
     clear e1 h1 h2 h3 hB hm2 hx HR HB HG;go_wp2;go_roundw
     case rel=>exact⟨i+1,hi1,by go_num,HG2⟩
     case measure=>simp[intOf];omega
  ·have hz:¬(i:Int)<(np:Int):=by omega
   have e1:i=P.length:=by have:=HNP.out;omega
   have HE:Hid (Ga W ow B C {G with M:=GM.adp wd G.M P} wr):=by rw[e1]at HG;exact HG
   clear e1 HG;go_wp2
   go_end0
   exact⟨rfl,HE.out⟩
end
section
variable {W W' W2:World} {ow ow':Nat→Nat} {B:Nat} {C:Gc} {V V':Gv} {G G' G2:Gs} {m m':Mb} {i:Nat} {n:Int}
theorem snp_rgt(h:GO n G):rgt (GM.snp G)=true:=by
 have hr:=h.rt;have hl:=h.gd.len
 have h1:((GM.snp G).cs.length:Int)=G.st.ca:=by
  have:=h.ml;simpa[GM.snp]using this
 have h2:(GM.snp G).ws.length≤128:=by
  have:=List.length_filter_le (fun x=>decide (GM.ms G.M x≠0)) G.L;simp only[GM.snp,List.length_map,GM.wnt];omega
 have h3:(GM.snp G).cs.all (cok G.st.fl)=true:=by
  rw[List.all_eq_true];intro x hx;obtain⟨m,hm,rfl⟩:=List.mem_map.1 hx;have h:=h.mo m hm;have ht:=SM.trav_bd hr m.fl m.tg;have:=h.f0;have:=h.f1;have:=h.g0;have:=h.g1;obtain⟨⟩:=hr;unfold cok GM.rdy;split
  ·simp;omega
  ·split
   ·simp;omega
   ·simp;omega
 have h4:(GM.snp G).ws.all (wok G.st.fl G.st.ca.toNat)=true:=by
  rw[List.all_eq_true];intro x hx;obtain⟨c,hc,rfl⟩:=List.mem_map.1 hx;obtain⟨hc1,hc2⟩:=List.mem_filter.1 hc;have hrg:=h.gd.rng c hc1;have hlt:=msn_lt G.M c G.M.length;have hml:=h.ml;rw[show G.M.length=G.st.ca.toNat by omega]at hlt;have hms:GM.ms G.M c=(GM.msn G.M c G.st.ca.toNat:Nat):=by unfold GM.ms;rw[show G.M.length=G.st.ca.toNat by omega]
  have hn0:GM.ms G.M c≠0:=by simpa using hc2
  unfold wok;simp only[Bool.and_eq_true,decide_eq_true_eq];rw[hms]at hn0⊢;refine⟨⟨⟨hrg.1,hrg.2.1⟩,by omega⟩,?_⟩;rw[show((2:Int)^G.st.ca.toNat)=((2^G.st.ca.toNat:Nat):Int) by rw[Int.natCast_pow];rfl];omega
 unfold rgt;simp only[Bool.and_eq_true,decide_eq_true_eq];exact⟨⟨⟨⟨(rightB_iff _).2 hr,h1⟩,h2⟩,h3⟩,h4⟩
def Cp(W:World)(ow:Nat→Nat)(B:Nat)(C:Gc)(G':Gs)(vp:Value)(P:List (List Int))(w':World):Prop:=∃o V',GX al w' o B C V' G'∧(∀b,b<W.heap.size→o b=ow b)∧Kp (fun b=>ow b<1000) W w'∧RL (fun g=>o g=1000) w' vp P
theorem gchoose0_any(h:GX al W ow B C V G)(hN:G.N.length≤10000)(s:Sn)(D:Nat→Prop)(vc vw v:Value)(h0:s.ws=[])(hr:rgt s=true)(hcs:R2 D W vc s.cs)(hws:R2 D W vw s.ws)(hv:RY D W v (nby s.cs.length)):
  Calls Tryz.prog 83 #[.pointer (some ⟨C.gb,0,none⟩),.agg (nv s.st vc vw).toArray,v] W fun e w'=>∃vp,e=.returned vp∧Cp W ow B C (GM.nte G 5 0) vp (List.replicate s.cs.length []) w':=by
 have hb:=(Below.refl W.heap.size W).alloc (Nat.le_refl _) (.cells (nv s.st vc vw).toArray 146);have HSB:=Hd (NB.new W s.st vc vw);have hcy:=check0 (s:=s) (v:=v) h0 (hcs.below' hb) (hws.below' hb) hr (hv.below' hb);obtain⟨plan,hpl⟩:∃p,List.replicate s.cs.length ([]:List Int)=p:=⟨_,rfl⟩;rw[hpl]at hcy⊢;clear hpl;have HCY:=Hd hcy;have HB:=Hd hb;have HH:=Hd h;clear h hb hcs hws hv hcy hr h0
 go_enter Tryz.func83,Tryz.ntmps83
 go_wp2_with (refine wpList_load27g rfl _ rfl W.heap.size s.st _ _ rfl HSB.out ?_)
 refine HCY.out.mono ?_;rintro e W2 ⟨hb2,vp,rfl,hrl⟩;obtain⟨ap,kp,rfl,-⟩:=hrl.form;have hal:=(Below.refl W2.heap.size W2).alloc (Nat.le_refl _) (.cells #[.bool true,.int .i64 0,.slice ap plan.length kp] 192);have hj:=JB.new W2 true 0 (.slice ap plan.length kp);have HJ:=Hd hj;have c0:(W2.alloc (.cells #[.bool true,.int .i64 0,.slice ap plan.length kp] 192)).cell? ⟨W2.heap.size,0,none⟩=some (.bool true):=hj.cell 0;have c1:(W2.alloc (.cells #[.bool true,.int .i64 0,.slice ap plan.length kp] 192)).cell? ⟨W2.heap.size,1,none⟩=some (.int .i64 0):=hj.cell 1;have HB2:Hid (Below W.heap.size W W2):=HB.out.trans (hb2.mono HB.out.size);have HB3:Hid (Below W.heap.size W (W2.alloc (.cells #[.bool true,.int .i64 0,.slice ap plan.length kp] 192))):=HB2.out.trans (hal.mono HB2.out.size);have HRL:Hid (RL (fun g=>W.heap.size≤g∧g<W2.heap.size) (W2.alloc (.cells #[.bool true,.int .i64 0,.slice ap plan.length kp] 192)) (.slice ap plan.length kp) plan):=(hrl.mono fun g h1 h2 _=>⟨Nat.le_trans HB.out.size h1,h2⟩).below' hal;have HN:=Hd (fun k=>note_any ((HH.out.retag 1000).below' HB3.out) k 0 hN)
 have HEND:Hid (∀k w4,Ga (W2.alloc (.cells #[.bool true,.int .i64 0,.slice ap plan.length kp] 192)) (nw ow W 1000) B C (GM.nte G k 0) w4→(w4.cell? ⟨W2.heap.size,2,none⟩=some (.slice ap plan.length kp))∧Cp W ow B C (GM.nte G k 0) (.slice ap plan.length kp) plan w4):=by
  intro k w4 hg;obtain⟨o,V',g1,g2,g3⟩:=hg;have hs3:W2.heap.size≤(W2.alloc (.cells #[.bool true,.int .i64 0,.slice ap plan.length kp] 192)).heap.size:=by simp
  have hnew:∀g,W.heap.size≤g→g<(W2.alloc (.cells #[.bool true,.int .i64 0,.slice ap plan.length kp] 192)).heap.size→w4.heap[g]?=(W2.alloc (.cells #[.bool true,.int .i64 0,.slice ap plan.length kp] 192)).heap[g]?:=fun g h1 h2=>g3.block g h2 (by rw[nw_new h1];omega);refine⟨(World.cell?_of_block (a:=⟨W2.heap.size,2,none⟩) (hnew _ HB2.out.size (by simp))).trans (HJ.out.cell 2),o,V',g1,fun b hb=>(g2 b (Nat.lt_of_lt_of_le hb HB3.out.size)).trans (nw_old hb),(Kp.ofBelow _ HB3.out).trans g3 fun b hb x=>by rw[nw_old hb]at x;exact x,?_⟩;refine (HRL.out.keep g3.size fun g hd hl=>hnew g hd.1 hl).mono fun g hd _ _=> ?_;rw[g2 g (Nat.lt_of_lt_of_le hd.2 hs3)];exact nw_new hd.1
 clear hb2 hrl hal hj HCY HSB HJ HB2 HB3 HRL HH HB
 go_wp2_with fail
 refine (HN.out 5).mono ?_;rintro e w4 ⟨rfl,hg⟩;obtain⟨c2,hx⟩:=HEND.out 5 w4 hg;have HX:=Hd hx;clear HN HEND hg hx;go_wp2;go_ret;exact⟨_,rfl,HX.out⟩
theorem infoGz:(Tryz.prog.info? 152).map (fun i=>(i.zero,i.size))=some (some (.agg #[.slice none 0 0,.int .i64 0,.bool false,.int .i64 0,.slice none 0 0]),5):=by kernel_rfl
theorem run_allocG(w:World):(Instr.alloc 152 true (.tuple #[])).run Tryz.prog w=.ok (.pointer (some ⟨w.heap.size,0,none⟩)) (w.alloc (.cells #[.slice none 0 0,.int .i64 0,.bool false,.int .i64 0,.slice none 0 0] 152)):=by
 obtain⟨i0,hi,hz⟩:=Option.map_eq_some_iff.1 infoGz;simp only[Prod.mk.injEq]at hz;simp[Instr.alloc,zeroValue,typeInfo,hi,hz.1,newVar,newRow,Value.cells]
theorem wpOp_allocG{ops:Array Oper}{Q:Exit→Act→World→Prop}{i:Nat}{o:Oper}{K:Act→World→Prop}{a:Act}{w:World}(hi:ops[i]?=some o)(hw:Region.wanted o (yielded ops a.tmps)=true)(ho:o.op=.alloc 152)(h:K (a.put o.dst (.pointer (some ⟨w.heap.size,0,none⟩))) (w.alloc (.cells #[.slice none 0 0,.int .i64 0,.bool false,.int .i64 0,.slice none 0 0] 152))):wpOp Tryz.prog ops Q i K a w:=by
 refine wpOp_val hi hw ?_ h;unfold execOp;simp only[ho,Sem.run_bind,Sem.run_pure,Result.andThen_ok,run_allocG]
theorem run_load27'{a:Act}{o:Oper}{w:World}{s:St}{vc vw:Value}(x:Operand)(b:Nat)(ho:o.op=.load 146 x)(hx:a.eval x=.pointer (some ⟨b,0,none⟩))(hr:NB w b s vc vw):(execOp a.eval o).run Tryz.prog w=.ok (.value (.agg (nv s vc vw).toArray)) w:=by
 unfold execOp;simp only[ho,hx,Sem.run_bind,Sem.run_pure,Result.andThen_ok,load27 w b s vc vw hr.range]
theorem run_load3'{a:Act}{o:Oper}{w:World}{v:Value}(x:Operand)(b k:Nat)(ho:o.op=.load 3 x)(hx:a.eval x=.pointer (some ⟨b,k,none⟩))(hr:w.cell? ⟨b,k,none⟩=some v):(execOp a.eval o).run Tryz.prog w=.ok (.value v) w:=by
 unfold execOp;simp only[ho,hx,Sem.run_bind,Sem.run_pure,Result.andThen_ok,load3 w b k v hr]
theorem wpOp_storeG{ops:Array Oper}{Q:Exit→Act→World→Prop}{i:Nat}{o:Oper}{K:Act→World→Prop}{a:Act}{w:World}(hi:ops[i]?=some o)(hw:Region.wanted o (yielded ops a.tmps)=true)(x y:Operand)(ho:o.op=.store 152 x y)(b:Nat){vp vf:Value}{co n:Int}{ok:Bool}{a1 a2:Option Addr}{n1 c1 n2 c2:Nat}{co' n':Int}{ok':Bool}(hx:a.eval x=.pointer (some ⟨b,0,none⟩))(hy:a.eval y=.agg #[.slice a1 n1 c1,.int .i64 co',.bool ok',.int .i64 n',.slice a2 n2 c2])(hL:GB w b vp co ok n vf)
  (h:∀W',Kp (fun k=>k=b) w W'→GB W' b (.slice a1 n1 c1) co' ok' n' (.slice a2 n2 c2)→K (a.put o.dst undef) W'):wpOp Tryz.prog ops Q i K a w:=by
 unfold wpOp;rw[hi];simp only;rw[if_pos hw];refine .inl ?_;unfold Oper.wp execOp;simp only[ho,hx,hy,Instr.storeAt,Instr.sureAddr,Sem.run_bind,Sem.run_pure,Result.andThen_ok,run_storeVar_row (P:=Tryz.prog) w b 152 152 _ #[.slice a1 n1 c1,.int .i64 co',.bool ok',.int .i64 n',.slice a2 n2 c2] hL infoG rfl (by simp[Value.oneCell'])];exact h _ (kp_rowJ w b _) (setRow_heap w b _ _ _ _ hL)
theorem row_slice{t:TypeId}{B' k n':Nat}{v:Value}{xs:List Value}(h:W.ownsRow B' t k v n' xs):∃a n c,v=.slice a n c:=by
 rcases h.2 with⟨rfl,_⟩|⟨g,c,cur,rfl,_⟩
 ·exact⟨none,0,0,rfl⟩
 ·exact⟨_,_,c,rfl⟩
theorem rows_apart2{t t':TypeId}{B' k n' g:Nat}{v:Value}{xs:List Value}{cs:Array Value}(h:W.ownsRow B' t k v n' xs)(hg:W.heap[g]?=some (.cells cs t' (0,0)))(ht:t≠t')(e:v.ownBlock=some g):False:=by
 rcases h.2 with⟨rfl,_⟩|⟨a,c,cur,rfl,_,h1,_⟩
 ·cases e
 ·cases e;rw[h1]at hg;cases hg;exact ht rfl
structure PF(s:Sn)(B:Nat)(W2 X:World)(b:Nat)(vp vf:Value):Prop where
 bel:Below W2.heap.size W2 X
 gb:GB X b vp (fnd s B).cost (!(fnd s B).ended) ((fnd s B).marks.length:Nat) vf
 bl:W2.heap.size≤b
 oy:OY X W2.heap.size vf (prf (fnd s B))
def plh(G:Gs)(x:Sx):Gs:=GM.nte {G with M:=GM.adp (GM.wnt G.M G.L) G.M x.plan,nd:=(x.marks.length:Nat)} (if x.ended=true then 6 else 5) x.cost
theorem pln_eq:GM.pln G=if(GM.wnt G.M G.L).length<G.L.length then GM.nte (plh G (fnd (GM.snp G) G.st.bud.toNat)) 9 ((G.L.length:Int)-(GM.wnt G.M G.L).length)else plh G (fnd (GM.snp G) G.st.bud.toNat):=rfl
theorem gplan_any(h:GX al W ow B C V G)(ho:GO n G)(hN:G.N.length≤9000)(h0:G.L=[]):
  Calls Tryz.prog 60 #[.pointer (some ⟨C.gb,0,none⟩)] W fun e w'=>e=.returned (.tuple #[])∧Ga W ow B C (GM.pln G) w':=by
 have HSN:=Hd (gsnap_any h ho);have HH:=Hd h;have HO:=Hd ho;have HRG:=Hd (snp_rgt ho);have HWS:Hid ((GM.snp G).ws=[]):=by show _=_;simp[GM.snp,GM.wnt,h0]
 obtain⟨bd,hbd,hb1,hb2⟩:∃b:Nat,G.st.bud=b∧1≤b∧b≤1000000:=⟨G.st.bud.toNat,by obtain⟨⟩:=ho.rt;omega,by obtain⟨⟩:=ho.rt;omega,by obtain⟨⟩:=ho.rt;omega⟩;have HBD:=Hd hbd;clear h ho hbd h0
 go_enter Tryz.func60,Tryz.ntmps60
 go_wp2_with fail
 refine HSN.out.mono ?_;rintro e W1 ⟨vc,vw,vl,rfl,hc,hw,hl,hb⟩
 obtain⟨ac,nc,kc,rfl⟩:∃a n k,vc=.slice a n k:=by
  rcases hc.form with⟨rfl,_⟩|⟨g,cap,rfl,_⟩
  ·exact⟨none,0,0,rfl⟩
  ·exact⟨_,_,cap,rfl⟩
 obtain⟨aw,nw',kw,rfl⟩:∃a n k,vw=.slice a n k:=by
  rcases hw.form with⟨rfl,_⟩|⟨g,cap,rfl,_⟩
  ·exact⟨none,0,0,rfl⟩
  ·exact⟨_,_,cap,rfl⟩
 go_wp2_with (refine wpList_store27 rfl _ _ rfl W1.heap.size _ rfl rfl rfl rfl (World.alloc_heap_new W1 _) rfl ?_)
 intro W2 hk2 hn2;have hb12:Below W1.heap.size W1 W2:=hk2.below ((Below.refl W1.heap.size W1).alloc (Nat.le_refl _) _) (by simp) fun i hi e=>by omega
 have HB2:=Hd (below_class hb hb12);have HC2:=Hd (hc.below' hb12);have HW2:=Hd (hw.below' hb12);have HL2:=Hd (hl.below' hb12);have HN2:=Hd hn2;have HLT:Hid (W.heap.size≤W1.heap.size):=hb.size;clear hc hw hl hb hk2 hn2 hb12 HSN
 have HFI:Hid (∀X,Below W2.heap.size W2 X→Calls Tryz.prog 81 #[.agg (nv G.st (.slice ac nc kc) (.slice aw nw' kw)).toArray,.int .i64 (bd:Int)] X fun e w'=>∃vp vf,e=.returned (.tuple #[.agg #[vp,.int .i64 (fnd (GM.snp G) bd).cost,.bool (!(fnd (GM.snp G) bd).ended),.int .i64 ((fnd (GM.snp G) bd).marks.length:Int),vf],.int .i64 0])∧RL (fun _=>True) w' vp (fnd (GM.snp G) bd).plan∧OY w' X.heap.size vf (prf (fnd (GM.snp G) bd))∧Below X.heap.size X w'):=fun X hX=>
  find_nil (s:=GM.snp G) (B:=bd) (D:=fun _=>True) HWS.out ((HC2.out.r2 fun _ _=>trivial).below' hX) ((HW2.out.r2 fun _ _=>trivial).below' hX) HRG.out hb1 hb2
 obtain⟨fs,hfs⟩:∃x,GM.snp G=x:=⟨_,rfl⟩;rw[hfs]at HFI;have HFS:=Hd hfs;clear hfs
 go_upto_region 1 with (fail)
 go_cut [4] (fun v4 X=>∃b vp vf,v4=.pointer (some ⟨b,0,none⟩)∧Hid (PF fs bd W2 X b vp vf))
 case first=>
  rename_i hJ hK;refine wp_nrm ?_;refine wp_region_held (S:=fun w'=>NB w' W1.heap.size G.st (.slice ac nc kc) (.slice aw nw' kw)∧w'.cell? ⟨C.gb,11,none⟩=some (.int .i64 (bd:Int))) (by kernel_rfl) ?_;change wpAnyH _ _ _ _ _ _ _ _ (World.drew _)
  have HSS:Hid (∀X,Below W2.heap.size W2 X→NB X W1.heap.size G.st (.slice ac nc kc) (.slice aw nw' kw)∧X.cell? ⟨C.gb,11,none⟩=some (.int .i64 (bd:Int))):=fun X hX=>⟨HN2.out.below' hX,by
   have:=(HH.out.below' (below_class HB2.out hX)).cell 11
   rw[this,←HBD.out];rfl⟩
  have HD:=Hd (HSS.out _ (Below.refl _ _).drew);have HX0:=Hd (Below.refl W2.heap.size W2).drew;generalize W2.drew=X0 at HD HX0⊢;refine wpAnyH_take (i:=0) (v:=.agg (nv G.st (.slice ac nc kc) (.slice aw nw' kw)).toArray) rfl (by kernel_rfl) (by kernel_rfl) (by kernel_rfl) (fun _ _ _ h=>by cases h.1) (.inl ⟨rfl,fun w hw=>run_load27' _ _ rfl rfl hw.1⟩) HD.out ?_;generalize hKK:wpAnyH _ _ _ _ _ _ _=KK;go_simp;subst hKK;refine wpAnyH_take (i:=1) rfl (by kernel_rfl) (by kernel_rfl) (by kernel_rfl) (fun _ _ _ h=>by cases h.1) (.inl ⟨rfl,fun _ _=>rfl⟩) HD.out ?_;generalize hKK:wpAnyH _ _ _ _ _ _ _=KK;go_simp;subst hKK;refine wpAnyH_take (i:=2) rfl (by kernel_rfl) (by kernel_rfl) (by kernel_rfl) (fun _ _ _ h=>by cases h.1) (.inl ⟨rfl,fun _ _=>rfl⟩) HD.out ?_;generalize hKK:wpAnyH _ _ _ _ _ _ _=KK;go_simp;subst hKK;refine wpAnyH_take (i:=3) rfl (by kernel_rfl) (by kernel_rfl) (by kernel_rfl) (fun _ _ _ h=>by cases h.1) (.inl ⟨rfl,fun _ _=>rfl⟩) HD.out ?_;generalize hKK:wpAnyH _ _ _ _ _ _ _=KK;go_simp;subst hKK;refine wpAnyH_take (i:=4) rfl (by kernel_rfl) (by kernel_rfl) (by kernel_rfl) (fun _ _ _ h=>by cases h.1) (.inl ⟨rfl,fun _ _=>rfl⟩) HD.out ?_;generalize hKK:wpAnyH _ _ _ _ _ _ _=KK;go_simp;subst hKK;refine wpAnyH_take (i:=5) (v:=.int .i64 (bd:Int)) rfl (by kernel_rfl) (by kernel_rfl) (by kernel_rfl) (fun _ _ _ h=>by cases h.1) (.inl ⟨rfl,fun w hw=>run_load3' _ _ _ rfl rfl hw.2⟩) HD.out ?_;generalize hKK:wpAnyH _ _ _ _ _ _ _=KK;go_simp;subst hKK;refine wpAnyH_all (rs:=[6,10]) (by kernel_rfl) (by simp) (fun ii hii=> ?_);have h7:ii=6∨ii=10:=by simpa using hii
  clear hii;rcases h7 with rfl|rfl
  ·refine wpOp_call (f:=81) (args:= #[.agg (nv G.st (.slice ac nc kc) (.slice aw nw' kw)).toArray,.int .i64 (bd:Int)]) rfl rfl (by go_simp) (HFI.out X0 HX0.out) ?_;rintro e X1 ⟨vp,vf,rfl,hrl,hoy,hbx⟩;obtain⟨ap,kp,rfl,-⟩:=hrl.form;obtain⟨af,nf,kf,rfl⟩:=row_slice hoy;have HX1:=Hd (below_class HX0.out hbx);have HOY:=Hd (hoy.less HX0.out.size);refine⟨_,rfl,HSS.out _ HX1.out,?_⟩;have HD:=Hd (HSS.out _ HX1.out);clear hrl hoy hbx HX0;generalize hKK:wpAnyH _ _ _ _ _ _ _=KK;go_simp;subst hKK;refine wpAnyH_take (i:=7) rfl (by kernel_rfl) (by kernel_rfl) (by kernel_rfl) (fun _ _ _ h=>by cases h.1) (.inl ⟨rfl,fun _ _=>rfl⟩) HD.out ?_;generalize hKK:wpAnyH _ _ _ _ _ _ _=KK;go_simp;subst hKK;refine wpAnyH_take (i:=8) rfl (by kernel_rfl) (by kernel_rfl) (by kernel_rfl) (fun _ _ _ h=>by cases h.1) (.inl ⟨rfl,fun _ _=>rfl⟩) HD.out ?_;generalize hKK:wpAnyH _ _ _ _ _ _ _=KK;go_simp;subst hKK;refine wpAnyH_take (i:=9) rfl (by kernel_rfl) (by kernel_rfl) (by kernel_rfl) (fun _ _ _ h=>by cases h.1) (.inl ⟨rfl,fun _ _=>rfl⟩) HD.out ?_;generalize hKK:wpAnyH _ _ _ _ _ _ _=KK;go_simp;subst hKK;refine wpAnyH_all (rs:=[10]) (by kernel_rfl) (by simp) (fun ii hii=> ?_);obtain rfl:ii=10:=by simpa using hii
   clear hii;have hal:=(Below.refl X1.heap.size X1).alloc (Nat.le_refl _) (.cells #[.slice none 0 0,.int .i64 0,.bool false,.int .i64 0,.slice none 0 0] 152);have HX2:=Hd (below_class HX1.out hal);have HG2:=Hd (GB.new X1 (.slice none 0 0) 0 false 0 (.slice none 0 0));have HOY2:=Hd (HOY.out.below' hal);have HBL:Hid (W2.heap.size≤X1.heap.size):=HX1.out.size;clear hal HOY HX1;refine wpOp_allocG rfl rfl rfl ⟨HSS.out _ HX2.out,?_⟩;generalize X1.alloc (.cells #[.slice none 0 0,.int .i64 0,.bool false,.int .i64 0,.slice none 0 0] 152)=X2 at HX2 HG2 HOY2⊢;generalize X1.heap.size=gb at HG2 HBL⊢;generalize hKK:wpAnyH _ _ _ _ _ _ _=KK;go_simp;subst hKK;refine wpAnyH_all (rs:=[11]) (by kernel_rfl) (by simp) (fun ii hii=> ?_);obtain rfl:ii=11:=by simpa using hii
   clear hii;refine wpOp_storeG rfl rfl _ _ rfl gb rfl rfl HG2.out ?_;intro X3 hk3 hg3;have HPF:Hid (PF fs bd W2 X3 gb (.slice ap (fnd fs bd).plan.length kp) (.slice af nf kf)):=⟨hk3.below HX2.out HX2.out.size fun i hi e=>by have:=HBL.out;omega,hg3,HBL.out,HOY2.out.keep fun g hg=>hk3.block g (HOY2.out.lt g hg).2 fun e=>rows_apart2 HOY2.out (show X2.heap[gb]?=_ from HG2.out) (by decide) (e▸hg)⟩;have HS3:=Hd (HSS.out _ HPF.out.bel);refine⟨HS3.out,?_⟩;clear hk3 hg3 HX2 HG2 HOY2 HBL;generalize hKK:wpAnyH _ _ _ _ _ _ _=KK;go_simp;subst hKK;refine wpAnyH_take (i:=12) rfl (by kernel_rfl) (by kernel_rfl) (by kernel_rfl) (fun _ _ _ h=>by cases h.1) (.inl ⟨rfl,fun _ _=>rfl⟩) HS3.out ?_;generalize hKK:wpAnyH _ _ _ _ _ _ _=KK;go_simp;subst hKK;refine wpAnyH_done (by kernel_rfl) ⟨rfl,hK _ _ ?_⟩ _;go_meet
   case rel=>exact⟨gb,_,_,rfl,HPF⟩
  ·have hal:=(Below.refl X0.heap.size X0).alloc (Nat.le_refl _) (.cells #[.slice none 0 0,.int .i64 0,.bool false,.int .i64 0,.slice none 0 0] 152);have HX1:=Hd (below_class HX0.out hal);have HG1:=Hd (GB.new X0 (.slice none 0 0) 0 false 0 (.slice none 0 0));have HBL:Hid (W2.heap.size≤X0.heap.size):=HX0.out.size;clear hal HX0;refine wpOp_allocG rfl rfl rfl ⟨HSS.out _ HX1.out,?_⟩;clear HD;generalize X0.alloc (.cells #[.slice none 0 0,.int .i64 0,.bool false,.int .i64 0,.slice none 0 0] 152)=X1 at HX1 HG1⊢;generalize X0.heap.size=gb at HG1 HBL⊢;generalize hKK:wpAnyH _ _ _ _ _ _ _=KK;go_simp;subst hKK;refine wpAnyH_all (rs:=[6]) (by kernel_rfl) (by simp) (fun ii hii=> ?_);obtain rfl:ii=6:=by simpa using hii
   clear hii;refine wpOp_call (f:=81) (args:= #[.agg (nv G.st (.slice ac nc kc) (.slice aw nw' kw)).toArray,.int .i64 (bd:Int)]) rfl rfl (by go_simp) (HFI.out X1 HX1.out) ?_;rintro e X2 ⟨vp,vf,rfl,hrl,hoy,hbx⟩;obtain⟨ap,kp,rfl,-⟩:=hrl.form;obtain⟨af,nf,kf,rfl⟩:=row_slice hoy;have HX2:=Hd (below_class HX1.out hbx);have HOY2:=Hd (hoy.less HX1.out.size);have HG2:=Hd (HG1.out.below' hbx);refine⟨_,rfl,HSS.out _ HX2.out,?_⟩;have HD:=Hd (HSS.out _ HX2.out);clear hrl hoy hbx HX1 HG1;generalize hKK:wpAnyH _ _ _ _ _ _ _=KK;go_simp;subst hKK;refine wpAnyH_take (i:=7) rfl (by kernel_rfl) (by kernel_rfl) (by kernel_rfl) (fun _ _ _ h=>by cases h.1) (.inl ⟨rfl,fun _ _=>rfl⟩) HD.out ?_;generalize hKK:wpAnyH _ _ _ _ _ _ _=KK;go_simp;subst hKK;refine wpAnyH_take (i:=8) rfl (by kernel_rfl) (by kernel_rfl) (by kernel_rfl) (fun _ _ _ h=>by cases h.1) (.inl ⟨rfl,fun _ _=>rfl⟩) HD.out ?_;generalize hKK:wpAnyH _ _ _ _ _ _ _=KK;go_simp;subst hKK;refine wpAnyH_take (i:=9) rfl (by kernel_rfl) (by kernel_rfl) (by kernel_rfl) (fun _ _ _ h=>by cases h.1) (.inl ⟨rfl,fun _ _=>rfl⟩) HD.out ?_;generalize hKK:wpAnyH _ _ _ _ _ _ _=KK;go_simp;subst hKK;refine wpAnyH_all (rs:=[11]) (by kernel_rfl) (by simp) (fun ii hii=> ?_);obtain rfl:ii=11:=by simpa using hii
   clear hii;refine wpOp_storeG rfl rfl _ _ rfl gb rfl rfl HG2.out ?_;intro X3 hk3 hg3;have HPF:Hid (PF fs bd W2 X3 gb (.slice ap (fnd fs bd).plan.length kp) (.slice af nf kf)):=⟨hk3.below HX2.out HX2.out.size fun i hi e=>by have:=HBL.out;omega,hg3,HBL.out,HOY2.out.keep fun g hg=>hk3.block g (HOY2.out.lt g hg).2 fun e=>rows_apart2 HOY2.out (show X2.heap[gb]?=_ from HG2.out) (by decide) (e▸hg)⟩;have HS3:=Hd (HSS.out _ HPF.out.bel);refine⟨HS3.out,?_⟩;clear hk3 hg3 HX2 HG2 HOY2 HBL;generalize hKK:wpAnyH _ _ _ _ _ _ _=KK;go_simp;subst hKK;refine wpAnyH_take (i:=12) rfl (by kernel_rfl) (by kernel_rfl) (by kernel_rfl) (fun _ _ _ h=>by cases h.1) (.inl ⟨rfl,fun _ _=>rfl⟩) HS3.out ?_;generalize hKK:wpAnyH _ _ _ _ _ _ _=KK;go_simp;subst hKK;refine wpAnyH_done (by kernel_rfl) ⟨rfl,hK _ _ ?_⟩ _;go_meet
   case rel=>exact⟨gb,_,_,rfl,HPF⟩
 case rest=>
  obtain⟨gb,vp,vf,rfl,HP⟩:=hcut;clear HFI;obtain⟨af,nf,kf,rfl⟩:=row_slice HP.out.oy;obtain⟨al',nl,kl,rfl⟩:=HL2.out.slice;have HNL:=Hd HL2.out.len;have hst:fs.st=G.st:=by rw[←HFS.out];rfl
  have HR:Hid (rgt fs=true):=by rw[←HFS.out];exact HRG
  have hw0:fs.ws=[]:=by rw[←HFS.out];exact HWS.out
  have hfx:fnd fs bd=fxn fs:=fnd_nil HR.out hw0 hb1;have hfp:(fnd fs bd).plan=List.replicate fs.cs.length []:=by rw[hfx];rfl
  have hcl:fs.cs.length=G.M.length:=by rw[←HFS.out];exact List.length_map _
  have hwl:fs.ws.length=(GM.wnt G.M G.L).length:=by rw[←HFS.out];exact List.length_map _
  have HPL:Hid ((fnd fs bd).plan.length=G.M.length):=by show _=_;rw[hfp,List.length_replicate];exact hcl
  have HPZ:Hid (∀l∈(fnd fs bd).plan,l.length≤128∧∀z∈l,0≤z∧z<(GM.wnt G.M G.L).length):=fun l hl=>by
   rw[hfp]at hl;obtain rfl:=List.eq_of_mem_replicate hl;exact⟨Nat.zero_le _,fun z hz=>absurd hz List.not_mem_nil⟩
  have HBW:Hid (Below W.heap.size W wc):=below_class HB2.out HP.out.bel;have HX:=Hd ((HH.out.retag 1000).below' HBW.out);have HKN:Hid (∀u g,W.heap.size≤g→(wc.setCell ⟨C.gb,19,none⟩ u).heap[g]?=wc.heap[g]?):=fun u g hg=>Below.heap_setCell _ _ _ _ fun e=>by have:=HH.out.sz.1;have e:g=C.gb:=e;omega
  have HX3:=Hd (HX.out.put 19 (.int .i64 ((fnd fs bd).marks.length:Int)) G.rc G.pi ((fnd fs bd).marks.length:Int) rfl);have HN3:Hid (NB (wc.setCell ⟨C.gb,19,none⟩ (.int .i64 ((fnd fs bd).marks.length:Int))) W1.heap.size G.st (.slice ac nc kc) (.slice aw nw' kw)):=(HKN.out _ _ HLT.out).trans (HN2.out.below' HP.out.bel);have HC3:Hid (R2 (fun _=>True) (wc.setCell ⟨C.gb,19,none⟩ (.int .i64 ((fnd fs bd).marks.length:Int))) (.slice ac nc kc) fs.cs):=by rw[←HFS.out];exact((HC2.out.below' HP.out.bel).keep fun g hg=>HKN.out _ g (by have:=(HC2.out.lt g hg).1;omega)).r2 fun _ _=>trivial
  have HW3:Hid (R2 (fun _=>True) (wc.setCell ⟨C.gb,19,none⟩ (.int .i64 ((fnd fs bd).marks.length:Int))) (.slice aw nw' kw) fs.ws):=by rw[←HFS.out];exact((HW2.out.below' HP.out.bel).keep fun g hg=>HKN.out _ g (by have:=(HW2.out.lt g hg).1;omega)).r2 fun _ _=>trivial
  have HY3:Hid (RY (fun _=>True) (wc.setCell ⟨C.gb,19,none⟩ (.int .i64 ((fnd fs bd).marks.length:Int))) (.slice af nf kf) (nby fs.cs.length)):=by
   have h1:=(HP.out.oy.keep (W':=wc.setCell ⟨C.gb,19,none⟩ (.int .i64 ((fnd fs bd).marks.length:Int))) fun g hg=>HKN.out _ g (by have:=(HP.out.oy.lt g hg).1;have:=HB2.out.size;omega));have h2:prf (fnd fs bd)=nby fs.cs.length:=by rw[hfx,prf_nil]
   rw[h2]at h1;exact h1.ry (nby_byt _) fun _ _=>trivial
  have HL3:Hid (CC.RW (wc.setCell ⟨C.gb,19,none⟩ (.int .i64 ((fnd fs bd).marks.length:Int))) (W.heap.size+2) (.slice al' nl kl) (GM.wnt G.M G.L)):=(HL2.out.below' HP.out.bel).keep fun g hg=>HKN.out _ g (by have:=(HL2.out.lt g hg).1;omega);have hgW:W.heap.size≤gb:=Nat.le_trans HB2.out.size HP.out.bl;have c3:wc.cell? ⟨gb,3,none⟩=some (.int .i64 ((fnd fs bd).marks.length:Int)):=HP.out.gb.cell 3;have c4:(wc.setCell ⟨C.gb,19,none⟩ (.int .i64 ((fnd fs bd).marks.length:Int))).cell? ⟨gb,4,none⟩=some (.slice af nf kf):=(World.cell?_of_block (a:=⟨gb,4,none⟩) (HKN.out _ gb hgW)).trans (HP.out.gb.cell 4);have HK3:Hid (Kp (fun b=>ow b<1000) W (wc.setCell ⟨C.gb,19,none⟩ (.int .i64 ((fnd fs bd).marks.length:Int)))):=(Kp.ofBelow _ HBW.out).set C.gb 19 _ fun _=>by show ow C.gb<1000;rw[HH.out.t0];omega
  have c19:wc.cell? ⟨C.gb,19,none⟩=some (.int .i64 G.nd):=HX.out.cell 19;have r19:=HX.out.fr 19;have hgch:=gchoose0_any HX3.out (by show G.N.length≤10000;omega) fs (fun _=>True) _ _ _ hw0 HR.out HC3.out HW3.out HY3.out;rw[←hfp]at hgch;have hpe:∀H:Gs,GM.nte H 5 0=GM.nte H (if(fnd fs bd).ended=true then 6 else 5) (fnd fs bd).cost:=fun H=>by rw[hfx];rfl
  rw[hst,hpe]at hgch;have HCH:=Hd hgch;clear hfp hfx hw0 hpe hgch hcl hwl HX HC2 HW2 HL2 HN2 HP HKN
  go_upto_region 3 with (fail)
  clear c19 r19 c3;generalize wc.setCell ⟨C.gb,19,none⟩ (.int .i64 ((fnd fs bd).marks.length:Int))=W3 at HX3 HN3 HC3 HW3 HY3 HL3 HK3 HCH c4⊢
  go_wp2_with (refine wpList_load27g rfl _ rfl W1.heap.size G.st _ _ rfl HN3.out ?_)
  refine HCH.out.mono ?_;rintro e W4 ⟨vq,rfl,o,V1,hx4,ho4,hk4,hp4⟩;have hl4:=HL3.out.keep fun g hg=>hk4.block g (HL3.out.lt g hg).2 (by rw[nw_new (by have:=(HL3.out.lt g hg).1;omega)];omega);have HB:=HH.out.hB;have HAD:Hid (Calls Tryz.prog 82 #[.pointer (some ⟨C.gb,0,none⟩),vq,.slice al' nl kl] W4 fun e w'=>e=.returned (.tuple #[])∧Ga W4 o B C (plh G (fnd fs bd)) w'):=adopt_any hx4 _ (GM.wnt G.M G.L) vq _ (fun g=>o g=1000) (fun g hg=>by omega) hp4 (show CC.RW W4 B _ _ from⟨hl4.1,hl4.2.imp id fun⟨g,c,u,h1,h2,h3⟩=>⟨g,c,u,h1,by omega,h3⟩⟩) (fun g hg=>(ho4 g (HL3.out.lt g hg).2).trans (nw_new (by have:=(HL3.out.lt g hg).1;omega))) HPL.out HPZ.out;have HO4:Hid (∀b,b<W.heap.size→o b=ow b):=fun b hb=>(ho4 b (Nat.lt_of_lt_of_le hb HK3.out.size)).trans (nw_old hb);have HK4:Hid (Kp (fun b=>ow b<1000) W W4):=HK3.out.trans hk4 fun b hb x=>by rw[nw_old hb]at x;exact x
  clear hx4 ho4 hk4 hp4 hl4 HB HCH HX3 HN3 HC3 HW3 HY3 HL3 HK3 c4
  go_wp2_with fail
  refine HAD.out.mono ?_;rintro e W5 ⟨rfl,hg5⟩;obtain⟨o5,V5,hx5,h25,h35⟩:=Ga.cons (ow':=o) HO4.out HK4.out hg5;have HX5:=Hd hx5;have H25:=Hd h25;have H35:=Hd h35;have c14:W5.cell? ⟨C.gb,14,none⟩=some (.pointer (some ⟨C.bb,0,none⟩)):=hx5.cell 14;have hLL:=HO.out.gd.len;have HA:=Hd (CC.all_any B C.bb _ _ _ _ _ W5 (hx5.pt 2 trivial).1 hLL);clear hg5 hx5 h25 h35 HAD HO4 HK4
  go_wp2_with fail
  refine HA.out.mono ?_;rintro e W6 ⟨v6,rfl,h6,hb6⟩;obtain⟨a6,n6,k6,rfl⟩:=h6.slice;have HN6:Hid (n6=G.L.length):=h6.len;have hn6:n6≤128:=by have:=HN6.out;omega
  have hnl:nl≤128:=by have:=HNL.out;have:(GM.wnt G.M G.L).length≤G.L.length:=List.length_filter_le ..;omega
  have HEQ:Hid (GM.pln G=if nl<n6 then GM.nte (plh G (fnd fs bd)) 9 ((n6:Int)-nl)else plh G (fnd fs bd)):=by show _=_;rw[pln_eq,HFS.out,HBD.out,Int.toNat_natCast,←HNL.out,←HN6.out]
  have HG6:=Hd (show Ga W ow B C (plh G (fnd fs bd)) W6 from⟨o5,V5,HX5.out.below' hb6,H25.out,H35.out.thenBelow hb6⟩);clear h6 hb6 HX5 H25 H35 HA c14 HNL HN6 hLL;by_cases q:nl<n6
  ·have qz:(0:Int)<(n6:Int)-(nl:Int):=by omega
   rw[if_pos q]at HEQ;have HY:=Hd (HG6.out.nte (Below.refl _ _) 9 ((n6:Int)-nl) (by show(G.N++_).length≤10000;simp only[List.length_append,List.length_singleton];omega));clear q HG6
   go_wp2_with fail
   refine HY.out.mono ?_;rintro e W7 ⟨rfl,hg,-⟩;have HZ:Hid (Ga W ow B C (GM.pln G) W7):=by rw[HEQ.out];exact hg
   clear hg HY HEQ;go_wp2
   go_end0
   exact⟨rfl,HZ.out⟩
  ·have qz:¬(0:Int)<(n6:Int)-(nl:Int):=by omega
   rw[if_neg q]at HEQ;rw[←HEQ.out]at HG6;clear q HEQ;go_wp2
   go_end0
   exact⟨rfl,HG6.out⟩
end
end Go.Proofs.YtlajleogofmkcaaGreat
