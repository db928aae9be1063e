import Derived.Test.YtlajleogofmkcaaGreatQ24
set_option maxHeartbeats 8000000
set_option maxRecDepth 100000
namespace Go.Proofs.YtlajleogofmkcaaGreat
open Go.RowKit
section
variable {F:Nat→Prop} {cb gb B wb n k:Nat} {v:Wv} {es:List Value} {W X X3:World} {s:St} {kg:Int} {A:List Int} {N:List Nat} {G:Gs} {E:List (Nat×Array Value×TypeId)}
theorem WP.ap0(h:WP F cb gb v es B X wb s n k kg A N G)(hg:X.grownBy X3 v.va.ownBlock):WB X3 wb s cb n gb v:=h.w.keep (hg.block wb h.w.lt fun e=>by
  obtain⟨_,_,e2⟩:=own_ty h.z e.symm
  exact ty_ne h.w e2 (by decide) rfl)
theorem WP.app(h:WP F cb gb v es B X wb s n k kg A N G){g3 l3 cap3:Nat}{z:Int}(hz:ZR X3 B (.slice (some ⟨g3,0,none⟩) l3 cap3) (A++[z]))(hg:X.grownBy X3 v.va.ownBlock)(hp:v.va.ownBlock=some g3∨g3=X.heap.size):
  WP (fun b=>F b∨X.heap.size≤b) cb gb {v with va:=.slice (some ⟨g3,0,none⟩) l3 cap3} es B (X3.setCell ⟨wb,16,none⟩ (.slice (some ⟨g3,0,none⟩) l3 cap3)) wb s n k kg (A++[z]) N G∧Below B X (X3.setCell ⟨wb,16,none⟩ (.slice (some ⟨g3,0,none⟩) l3 cap3)):=by
 have k0:Kp (fun b=>b=wb∨v.va.ownBlock=some b) X X3:=(Kp.refl _ X).grown hg fun _ _ e=>.inr e;have kp:Kp (fun b=>b=wb∨v.va.ownBlock=some b) X (X3.setCell ⟨wb,16,none⟩ (.slice (some ⟨g3,0,none⟩) l3 cap3)):=k0.set wb 16 _ fun _=>.inl rfl
 have nz:∀{g:Nat} {c:Array Value} {t:TypeId} {f:Nat×Nat},X.heap[g]?=some (.cells c t f)→t≠3→¬v.va.ownBlock=some g:=fun h1 ht e=>by
  obtain⟨_,_,e2⟩:=own_ty h.z e;exact ty_ne h1 e2 ht rfl
 have hw3:=h.ap0 hg;refine⟨⟨h.g.kp kp fun b _ x=>x.elim (fun e=>e▸h.fw) (h.fz b),hw3.put 16 _ rfl,?_,?_,h.l,?_,?_,?_,.inl h.fw,.inl h.fc,fun g hg=>.inl (h.fx g hg),fun i y g hy hg=>.inl (h.fe i y g hy hg),?_,fun g hg=>.inl (h.fo g hg),h.lw,h.lc⟩,kp.toBelow h.lb fun i hi x=> ?_⟩
 ·refine (kp.block cb h.m.lt ?_).trans h.m;rintro (x|x)
  ·exact ty_ne h.m h.w (by decide) x
  ·exact nz h.m (by decide) x
 ·refine h.x.keep fun g hg=>kp.block g (h.x.lt g hg).2 ?_;rintro (x|x)
  ·exact h.nx hg x
  ·exact nz (own_ty h.x hg).choose_spec.choose_spec (by decide) x
 ·intro i y hy;refine (h.e i y hy).keep fun g hg=>kp.block g ((h.e i y hy).lt g hg).2 ?_;rintro (x|x)
  ·exact h.ne hy hg x
  ·exact nz (own_ty (h.e i y hy) hg).choose_spec.choose_spec (by decide) x
 ·refine hz.keep fun g hg=>Below.heap_setCell _ _ _ _ ?_;obtain⟨_,_,e⟩:=own_ty hz hg;exact ty_ne e hw3 (by decide)
 ·refine h.o.keep fun g hg=>kp.block g (h.o.lt g hg).2 ?_;obtain⟨_,_,e⟩:=own_ty h.o hg;rintro (x|x)
  ·exact ty_ne e h.w (by decide) x
  ·exact nz e (by decide) x
 ·intro g hg;have e:g3=g:=Option.some.inj hg;subst e;rcases hp with hp|hp
  ·exact .inl (h.fz _ hp)
  ·exact .inr (by omega)
 ·rcases x with x|x
  ·have:=h.lw;omega
  ·have:=(h.z.lt i x).1;omega
theorem WP.apE(h:WP F cb gb v es B X wb s n k kg A N G)(hE:EK X F E)(hg:X.grownBy X3 v.va.ownBlock){u:Value}:EK (X3.setCell ⟨wb,16,none⟩ u) (fun b=>F b∨X.heap.size≤b) E:=fun x hx=>by
 obtain⟨e1,e2,e3⟩:=hE x hx;have hlt:=(Array.getElem?_eq_some_iff.1 e1).1;have ne:x.1≠wb:=ty_ne e1 h.w (ek_ne e2 (by decide) (by decide));refine⟨(Below.heap_setCell X3 ⟨wb,16,none⟩ u x.1 ne).trans ((hg.block _ hlt fun e=> ?_).trans e1),e2,.inl e3⟩;obtain⟨_,_,e4⟩:=own_ty h.z e.symm;exact ty_ne e1 e4 (ek_ne e2 (by decide) (by decide)) rfl
theorem fill_z(z:Int):Instr.fill (fun i=>some (i,1)) (Array.map (fun x=>(Value.int .i64 0).cells[x%(Value.int .i64 0).cells.size]!) (Array.range 1)) [(0,.int .i64 z)]=some #[.int .i64 z]:=by kernel_rfl
section
variable {ops:Array Oper} {Q:Exit→Act→World→Prop} {o:Oper} {K:Act→World→Prop} {a:Act} {w:World} {i:Nat}
theorem wpOp_buildZ(hi:ops[i]?=some o)(hw:Region.wanted o (yielded ops a.tmps)=true)(x:Operand)(ho:o.op=.buildSlice 52 1 #[(0,x)]){z:Int}(hx:a.eval x=.int .i64 z)
  (h:K (a.put o.dst (.slice (some ⟨w.heap.size,0,none⟩) 1 1)) (w.alloc (.cells #[.int .i64 z] 3))):wpOp Tryz.prog ops Q i K a w:=
 wpOp_val hi hw (by
  obtain⟨i0,hi0,hz0,hz1,hz2⟩:=info_parts infoZ;unfold execOp;simp only[ho]
  simp[hx,Instr.buildSlice,run_underlying Tryz.underlying52,sizeOf,typeInfo,zeroValue,hi0,hz0,hz1,newRow,fill_z]) h
theorem wpOp_appZ(hi:ops[i]?=some o)(hw:Region.wanted o (yielded ops a.tmps)=true)(sx x:Operand)(ho:o.op=.call {callee:=.builtin .append,args:= #[sx,x],argTypes:= #[52,52]})
  (B:Nat) (u:Value) (l:List Int) (hs:a.eval sx=u) (hown:ZR w B u l) (g c:Nat) (y:Int) (hx:a.eval x=.slice (some ⟨g,0,none⟩) 1 c) (hc:w.cell? ⟨g,0,none⟩=some (.int .i64 y)) (h63:l.length≤1000000) (hB:B≤w.heap.size)
  (h:∀g' cap w',ZR w' B (.slice (some ⟨g',0,none⟩) (l.length+1) cap) (l++[y])→w.grownBy w' u.ownBlock→(u.ownBlock=some g'∨g'=w.heap.size)→K (a.put o.dst (.slice (some ⟨g',0,none⟩) (l.length+1) cap)) w'):wpOp Tryz.prog ops Q i K a w:=by
 obtain⟨i0,h1,h2,h3,h4⟩:=info_parts infoZ
 obtain⟨g',cap,w',hrun,k1,k2,k3,k4⟩:=run_append_lies (P:=Tryz.prog) w 52 o.type B 3 i0 _ 1 8 Tryz.underlying52 h1 h2 h3 h4 rfl (by decide) u l.length (rcs zc l) hown ⟨g,0,none⟩ 1 c [.int .i64 y] rfl (fun j z hj=>by
  have:j=0:=by
   have:=(List.getElem?_eq_some_iff.1 hj).1;simpa using this
  subst this;simp at hj;subst hj
  rw[Addr.add_mid];exact hc) (by simp[Value.oneCell']) (by omega) (by unfold maxLen;omega) (by omega) hB w.heap.size rfl
 refine wpOp_val hi hw (v:=.slice (some ⟨g',0,none⟩) (l.length+1) cap) (w':=w') ?_ (h g' cap w' ?_ k2 k3)
 ·unfold execOp;simp only[ho,resolve,invoke,builtin,Sem.run_bind,Sem.run_pure,Result.andThen_ok,List.map_toArray,List.map_cons,List.map_nil,hs,hx,hrun]
 ·show World.ownsRow _ _ _ _ _ _ _;rw[List.length_append,rcs_append,show rcs zc [y]=[.int .i64 y] by simp[rcs,zc]];exact k1
end
theorem run_loadZZ{a:Act}{o:Oper}{w:World}{u:Value}(x:Operand){b j:Nat}(ho:o.op=.load 52 x)(hx:a.eval x=.pointer (some ⟨b,j,none⟩))(hr:w.cell? ⟨b,j,none⟩=some u):(execOp a.eval o).run Tryz.prog w=.ok (.value u) w:=by
 unfold execOp;simp only[ho,hx];simp[go_sem,hr]
theorem rep_no(h:WP F cb gb v es B W wb s n k kg A N G)(a:Int)(ha:¬(1≤a∧a≤(k:Int))):Calls Tryz.prog 25 #[.pointer (some ⟨wb,14,none⟩),.int .i64 a] W fun e w'=>e=.returned (.int .i64 2)∧w'=W:=by
 obtain⟨p,c,hp⟩:=h.x.slice;rw[h.l]at hp;have HT:=Hd (ticks_any h.w hp);clear h hp;by_cases q:a<1
 ·clear ha
  go_enter Tryz.func25,Tryz.ntmps25
  go_wp2;go_ret;exact⟨rfl,rfl⟩
 ·have q2:(k:Int)<a:=by omega
  clear ha
  go_enter Tryz.func25,Tryz.ntmps25
  go_wp2_with fail
  refine HT.out.mono ?_;rintro e W2 ⟨rfl,rfl⟩;go_wp2;go_ret;exact⟨rfl,rfl⟩
def RP(E:List (Nat×Array Value×TypeId))(cb gb:Nat)(v:Wv)(es:List Value)(B:Nat)(W:World)(wb:Nat)(s:St)(n k:Nat)(kg:Int)(A:List Int)(N:List Nat)(G:Gs)(X:World):Prop:=(∃F,WP F cb gb v es B X wb s n k kg A N G∧EK X F E)∧Below B W X
theorem rep_drew(h:RP E cb gb v es B W wb s n k kg A N G X):RP E cb gb v es B W wb s n k kg A N G X.drew:=let⟨⟨_,h1,h3⟩,h2⟩:=h;⟨⟨_,h1.below (Below.refl _ _).drew,h3.below (Below.refl _ _).drew⟩,h2.drew⟩
theorem rep_new(h:RP E cb gb v es B W wb s n k kg A N G X)(z:Int):RP E cb gb v es B W wb s n k kg A N G (X.alloc (.cells #[.int .i64 z] 3)):=let⟨⟨_,h1,h3⟩,h2⟩:=h;⟨⟨_,h1.below ((Below.refl _ _).alloc (Nat.le_refl _) _),h3.below ((Below.refl _ _).alloc (Nat.le_refl _) _)⟩,h2.alloc h1.lb _⟩
def RE(E:List (Nat×Array Value×TypeId))(cb gb:Nat)(v:Wv)(es:List Value)(B:Nat)(W:World)(wb:Nat)(s:St)(n k:Nat)(kg:Int)(A:List Int)(N:List Nat)(G:Gs)(X:World):Prop:=(∃(F:Nat→Prop) (va:Value),WP F cb gb {v with va:=va} es B X wb s n k kg A N G∧EK X F E)∧Below B W X
theorem rep_app(h:RP E cb gb v es B W wb s n k kg A N G X){g3 l3 cap3:Nat}{z:Int}(hz:ZR X3 B (.slice (some ⟨g3,0,none⟩) l3 cap3) (A++[z]))(hg:X.grownBy X3 v.va.ownBlock)(hp:v.va.ownBlock=some g3∨g3=X.heap.size):
  WB X3 wb s cb n gb v∧Hid (RE E cb gb v es B W wb s n k kg (A++[z]) N G (X3.setCell ⟨wb,16,none⟩ (.slice (some ⟨g3,0,none⟩) l3 cap3))):=
 let⟨⟨_,h1,h3⟩,h2⟩:=h
 ⟨h1.ap0 hg,⟨_,_,(h1.app hz hg hp).1,h1.apE h3 hg⟩,h2.trans (h1.app hz hg hp).2⟩
theorem rep_yes(h:WP F cb gb v es B W wb s n k kg A N G)(hE:EK W F E)(a:Int)(h1:1≤a)(h2:a≤(k:Int))(hk:k≤1000)(hl:A.length≤1000):Calls Tryz.prog 25 #[.pointer (some ⟨wb,14,none⟩),.int .i64 a] W fun e w'=>e=.returned (.int .i64 0)∧RE E cb gb v es B W wb s n k kg (A++[(k:Int)-a]) N G w':=by
 have hbk:Below B W W:=Below.refl _ _;have HJ:Hid (RP E cb gb v es B W wb s n k kg A N G W):=⟨⟨F,h,hE⟩,hbk⟩;obtain⟨p,c,hp⟩:=h.x.slice;rw[h.l]at hp;have HP:=Hd hp;have HT:=Hd (ticks_any h.w hp);have q:¬a<1:=by omega
 have hwr:IntKind.i64.wrap ((k:Int)-a)=(k:Int)-a:=by
  rw[IntKind.wrap_i64]
  go_num
 have q2:¬(k:Int)<a:=by omega
 clear h hp hbk hE
 go_enter Tryz.func25,Tryz.ntmps25
 go_wp2_with fail
 refine HT.out.mono ?_;rintro e W2 ⟨rfl,rfl⟩
 go_upto_region 3 with fail
 go_cut []from 13 to 25 (fun X=>Hid (RE E cb gb v es B W2 wb s n k kg (A++[(k:Int)-a]) N G X))
 case first=>
  rename_i hJ hK;refine wp_nrm ?_;refine wp_region_held (S:=fun _=>True) (by kernel_rfl) ?_;change wpAnyH _ _ _ _ _ _ _ _ (World.drew _);have HJ0:=Hd (rep_drew HJ.out);obtain⟨va,hva⟩:∃x,v.va=x:=⟨_,rfl⟩;have HVA:=Hd hva;clear hva HJ HT;have HD:Hid True:=trivial;generalize W2.drew=X1 at HJ0⊢;refine wpAnyH_take (i:=0) rfl (by kernel_rfl) (by kernel_rfl) (by kernel_rfl) (fun _ _ _ h=>by cases h.1) (.inl ⟨rfl,fun _ _=>rfl⟩) HD.out ?_;generalize hKK:wpAnyH _ _ _ _ _ _ _=KK;go_simp;subst hKK;refine wpAnyH_take (i:=1) rfl (by kernel_rfl) (by kernel_rfl) (by kernel_rfl) (fun _ _ _ h=>by cases h.1) (.inl ⟨rfl,fun _ _=>rfl⟩) HD.out ?_;generalize hKK:wpAnyH _ _ _ _ _ _ _=KK;go_simp;subst hKK;refine wpAnyH_take (i:=2) rfl (by kernel_rfl) (by kernel_rfl) (by kernel_rfl) (fun _ _ _ h=>by cases h.1) (.inl ⟨rfl,fun _ _=>rfl⟩) HD.out ?_;generalize hKK:wpAnyH _ _ _ _ _ _ _=KK;go_simp;subst hKK;refine wpAnyH_take (i:=3) rfl (by kernel_rfl) (by kernel_rfl) (by kernel_rfl) (fun _ _ _ h=>by cases h.1) (.inl ⟨rfl,fun _ _=>rfl⟩) HD.out ?_;generalize hKK:wpAnyH _ _ _ _ _ _ _=KK;go_simp;subst hKK;refine wpAnyH_take (i:=5) rfl (by kernel_rfl) (by kernel_rfl) (by kernel_rfl) (fun _ _ _ h=>by cases h.1) (.inl ⟨rfl,fun _ _=>rfl⟩) HD.out ?_;generalize hKK:wpAnyH _ _ _ _ _ _ _=KK;go_simp;subst hKK;refine wpAnyH_take (i:=7) rfl (by kernel_rfl) (by kernel_rfl) (by kernel_rfl) (fun _ _ _ h=>by cases h.1) (.inl ⟨rfl,fun _ _=>rfl⟩) HD.out ?_;generalize hKK:wpAnyH _ _ _ _ _ _ _=KK;go_simp;subst hKK;refine wpAnyH_all (rs:=[4,6]) (by kernel_rfl) (by simp) (fun ii hii=> ?_);have h2:ii=4∨ii=6:=by simpa using hii
  clear hii;rcases h2 with rfl|rfl
  ·refine wpOp_val rfl rfl (run_loadZZ _ rfl rfl (let⟨_,h1,_⟩:=HJ0.out.1;HVA.out▸h1.w.again)) ⟨trivial,?_⟩;generalize hKK:wpAnyH _ _ _ _ _ _ _=KK;go_simp;subst hKK;refine wpAnyH_all (rs:=[6]) (by kernel_rfl) (by simp) (fun ii hii=> ?_);obtain rfl:ii=6:=by simpa using hii
   clear hii;refine wpOp_call (f:=32) (args:= #[.pointer (some ⟨wb,14,none⟩)]) rfl rfl (by go_simp) (let⟨_,h1,_⟩:=HJ0.out.1;ticks_any h1.w HP.out) ?_;rintro e X1 ⟨rfl,rfl⟩;refine⟨_,rfl,trivial,?_⟩;generalize hKK:wpAnyH _ _ _ _ _ _ _=KK;go_simp;subst hKK;refine wpAnyH_take (i:=8) (v:=(.int .i64 ((k:Int)-a))) rfl (by kernel_rfl) (by kernel_rfl) (by kernel_rfl) (fun _ _ _ h=>by cases h.1) (.inl ⟨rfl,fun w _=>by go_simp⟩) HD.out ?_;generalize hKK:wpAnyH _ _ _ _ _ _ _=KK;go_simp;subst hKK;refine wpAnyH_all (rs:=[9]) (by kernel_rfl) (by simp) (fun ii hii=> ?_);obtain rfl:ii=9:=by simpa using hii
   clear hii;have HJ1:=Hd (rep_new HJ0.out ((k:Int)-a));have hnew:=World.cell?_alloc_new X1 #[.int .i64 ((k:Int)-a)] 3 0;clear HJ0;refine wpOp_buildZ rfl rfl _ rfl rfl ⟨trivial,?_⟩;generalize hKK:wpAnyH _ _ _ _ _ _ _=KK;go_simp;subst hKK;obtain⟨X2,hX2⟩:∃x,X1.alloc (.cells #[.int .i64 ((k:Int)-a)] 3)=x:=⟨_,rfl⟩;rw[hX2]at HJ1 hnew⊢;clear hX2;refine wpAnyH_all (rs:=[10]) (by kernel_rfl) (by simp) (fun ii hii=> ?_);obtain rfl:ii=10:=by simpa using hii
   clear hii;refine wpOp_appZ rfl rfl _ _ rfl B va A rfl (let⟨_,h1,_⟩:=HJ1.out.1;HVA.out▸h1.z) X1.heap.size 1 ((k:Int)-a) rfl hnew (by omega) (let⟨_,h1,_⟩:=HJ1.out.1;h1.lb) ?_;intro g3 cap3 X3 hz hg hp;have HJ3:=Hd (rep_app HJ1.out hz (HVA.out▸hg) (HVA.out▸hp));clear HJ1 hz hg hp hnew;refine⟨trivial,?_⟩;generalize hKK:wpAnyH _ _ _ _ _ _ _=KK;go_simp;subst hKK;refine wpAnyH_take (i:=11) rfl (by kernel_rfl) (by kernel_rfl) (by kernel_rfl) (fun _ _ _ h=>by cases h.1) (.inl ⟨rfl,fun _ _=>rfl⟩) HD.out ?_;generalize hKK:wpAnyH _ _ _ _ _ _ _=KK;go_simp;subst hKK;refine wpAnyH_take (i:=12) rfl (by kernel_rfl) (by kernel_rfl) (by kernel_rfl) (fun _ _ _ h=>by cases h.1) (.inl ⟨rfl,fun _ _=>rfl⟩) HD.out ?_;generalize hKK:wpAnyH _ _ _ _ _ _ _=KK;go_simp;subst hKK;refine wpAnyH_all (rs:=[13]) (by kernel_rfl) (by simp) (fun ii hii=> ?_);obtain rfl:ii=13:=by simpa using hii
   clear hii;refine wpOp_storeFI rfl rfl _ _ rfl rfl rfl HJ3.out.1.again (HJ3.out.1.fr 16) ?_;refine⟨trivial,?_⟩;generalize hKK:wpAnyH _ _ _ _ _ _ _=KK;go_simp;subst hKK;refine wpAnyH_done (by kernel_rfl) ⟨rfl,hK _ _ ?_⟩ _;go_meet
   case rel=>exact HJ3.out.2
  ·refine wpOp_call (f:=32) (args:= #[.pointer (some ⟨wb,14,none⟩)]) rfl rfl (by go_simp) (let⟨_,h1,_⟩:=HJ0.out.1;ticks_any h1.w HP.out) ?_;rintro e X1 ⟨rfl,rfl⟩;refine⟨_,rfl,trivial,?_⟩;generalize hKK:wpAnyH _ _ _ _ _ _ _=KK;go_simp;subst hKK;refine wpAnyH_take (i:=8) (v:=(.int .i64 ((k:Int)-a))) rfl (by kernel_rfl) (by kernel_rfl) (by kernel_rfl) (fun _ _ _ h=>by cases h.1) (.inl ⟨rfl,fun w _=>by go_simp⟩) HD.out ?_;generalize hKK:wpAnyH _ _ _ _ _ _ _=KK;go_simp;subst hKK;refine wpAnyH_all (rs:=[4,9]) (by kernel_rfl) (by simp) (fun ii hii=> ?_);have h2:ii=4∨ii=9:=by simpa using hii
   clear hii;rcases h2 with rfl|rfl
   ·refine wpOp_val rfl rfl (run_loadZZ _ rfl rfl (let⟨_,h1,_⟩:=HJ0.out.1;HVA.out▸h1.w.again)) ⟨trivial,?_⟩;generalize hKK:wpAnyH _ _ _ _ _ _ _=KK;go_simp;subst hKK;refine wpAnyH_all (rs:=[9]) (by kernel_rfl) (by simp) (fun ii hii=> ?_);obtain rfl:ii=9:=by simpa using hii
    clear hii;have HJ1:=Hd (rep_new HJ0.out ((k:Int)-a));have hnew:=World.cell?_alloc_new X1 #[.int .i64 ((k:Int)-a)] 3 0;clear HJ0;refine wpOp_buildZ rfl rfl _ rfl rfl ⟨trivial,?_⟩;generalize hKK:wpAnyH _ _ _ _ _ _ _=KK;go_simp;subst hKK;obtain⟨X2,hX2⟩:∃x,X1.alloc (.cells #[.int .i64 ((k:Int)-a)] 3)=x:=⟨_,rfl⟩;rw[hX2]at HJ1 hnew⊢;clear hX2;refine wpAnyH_all (rs:=[10]) (by kernel_rfl) (by simp) (fun ii hii=> ?_);obtain rfl:ii=10:=by simpa using hii
    clear hii;refine wpOp_appZ rfl rfl _ _ rfl B va A rfl (let⟨_,h1,_⟩:=HJ1.out.1;HVA.out▸h1.z) X1.heap.size 1 ((k:Int)-a) rfl hnew (by omega) (let⟨_,h1,_⟩:=HJ1.out.1;h1.lb) ?_;intro g3 cap3 X3 hz hg hp;have HJ3:=Hd (rep_app HJ1.out hz (HVA.out▸hg) (HVA.out▸hp));clear HJ1 hz hg hp hnew;refine⟨trivial,?_⟩;generalize hKK:wpAnyH _ _ _ _ _ _ _=KK;go_simp;subst hKK;refine wpAnyH_take (i:=11) rfl (by kernel_rfl) (by kernel_rfl) (by kernel_rfl) (fun _ _ _ h=>by cases h.1) (.inl ⟨rfl,fun _ _=>rfl⟩) HD.out ?_;generalize hKK:wpAnyH _ _ _ _ _ _ _=KK;go_simp;subst hKK;refine wpAnyH_take (i:=12) rfl (by kernel_rfl) (by kernel_rfl) (by kernel_rfl) (fun _ _ _ h=>by cases h.1) (.inl ⟨rfl,fun _ _=>rfl⟩) HD.out ?_;generalize hKK:wpAnyH _ _ _ _ _ _ _=KK;go_simp;subst hKK;refine wpAnyH_all (rs:=[13]) (by kernel_rfl) (by simp) (fun ii hii=> ?_);obtain rfl:ii=13:=by simpa using hii
    clear hii;refine wpOp_storeFI rfl rfl _ _ rfl rfl rfl HJ3.out.1.again (HJ3.out.1.fr 16) ?_;refine⟨trivial,?_⟩;generalize hKK:wpAnyH _ _ _ _ _ _ _=KK;go_simp;subst hKK;refine wpAnyH_done (by kernel_rfl) ⟨rfl,hK _ _ ?_⟩ _;go_meet
    case rel=>exact HJ3.out.2
   ·have HJ1:=Hd (rep_new HJ0.out ((k:Int)-a));have hnew:=World.cell?_alloc_new X1 #[.int .i64 ((k:Int)-a)] 3 0;clear HJ0;refine wpOp_buildZ rfl rfl _ rfl rfl ⟨trivial,?_⟩;generalize hKK:wpAnyH _ _ _ _ _ _ _=KK;go_simp;subst hKK;obtain⟨X2,hX2⟩:∃x,X1.alloc (.cells #[.int .i64 ((k:Int)-a)] 3)=x:=⟨_,rfl⟩;rw[hX2]at HJ1 hnew⊢;clear hX2;refine wpAnyH_all (rs:=[4]) (by kernel_rfl) (by simp) (fun ii hii=> ?_);obtain rfl:ii=4:=by simpa using hii
    clear hii;refine wpOp_val rfl rfl (run_loadZZ _ rfl rfl (let⟨_,h1,_⟩:=HJ1.out.1;HVA.out▸h1.w.again)) ⟨trivial,?_⟩;generalize hKK:wpAnyH _ _ _ _ _ _ _=KK;go_simp;subst hKK;refine wpAnyH_all (rs:=[10]) (by kernel_rfl) (by simp) (fun ii hii=> ?_);obtain rfl:ii=10:=by simpa using hii
    clear hii;refine wpOp_appZ rfl rfl _ _ rfl B va A rfl (let⟨_,h1,_⟩:=HJ1.out.1;HVA.out▸h1.z) X1.heap.size 1 ((k:Int)-a) rfl hnew (by omega) (let⟨_,h1,_⟩:=HJ1.out.1;h1.lb) ?_;intro g3 cap3 X3 hz hg hp;have HJ3:=Hd (rep_app HJ1.out hz (HVA.out▸hg) (HVA.out▸hp));clear HJ1 hz hg hp hnew;refine⟨trivial,?_⟩;generalize hKK:wpAnyH _ _ _ _ _ _ _=KK;go_simp;subst hKK;refine wpAnyH_take (i:=11) rfl (by kernel_rfl) (by kernel_rfl) (by kernel_rfl) (fun _ _ _ h=>by cases h.1) (.inl ⟨rfl,fun _ _=>rfl⟩) HD.out ?_;generalize hKK:wpAnyH _ _ _ _ _ _ _=KK;go_simp;subst hKK;refine wpAnyH_take (i:=12) rfl (by kernel_rfl) (by kernel_rfl) (by kernel_rfl) (fun _ _ _ h=>by cases h.1) (.inl ⟨rfl,fun _ _=>rfl⟩) HD.out ?_;generalize hKK:wpAnyH _ _ _ _ _ _ _=KK;go_simp;subst hKK;refine wpAnyH_all (rs:=[13]) (by kernel_rfl) (by simp) (fun ii hii=> ?_);obtain rfl:ii=13:=by simpa using hii
    clear hii;refine wpOp_storeFI rfl rfl _ _ rfl rfl rfl HJ3.out.1.again (HJ3.out.1.fr 16) ?_;refine⟨trivial,?_⟩;generalize hKK:wpAnyH _ _ _ _ _ _ _=KK;go_simp;subst hKK;refine wpAnyH_done (by kernel_rfl) ⟨rfl,hK _ _ ?_⟩ _;go_meet
    case rel=>exact HJ3.out.2
 case rest=>
  clear HJ HT q q2;go_wp2;go_ret;exact⟨rfl,hcut.out⟩
end
section
variable {cb gb B wb n k:Nat} {W W':World} {s:St} {kg:Int} {A:List Int} {G:Gs} {E:List (Nat×Array Value×TypeId)}
def rgA(k:Nat)(A:List Int)(a:Int):List Int:=if 1≤a∧a≤(k:Int)then A++[(k:Int)-a]else A
def rgR(k:Nat)(a:Int):Int:=if 1≤a∧a≤(k:Int)then 0 else 2
theorem WE.below(h:WE E cb gb B W wb s n k kg A G)(hb:Below W.heap.size W W'):WE E cb gb B W' wb s n k kg A G:=let⟨_,v,es,h1,h2,h3⟩:=h;⟨_,v,es,h1.below hb,h2,h3.below hb⟩
theorem WE.lb(h:WE E cb gb B W wb s n k kg A G):B≤W.heap.size:=let⟨_,_,_,h1,_⟩:=h;h1.lb
theorem wrep_any(h:WE E cb gb B W wb s n k kg A G)(a:Int)(hk:k≤1000)(hl:A.length≤1000):Calls Tryz.prog 25 #[.pointer (some ⟨wb,14,none⟩),.int .i64 a] W fun e w'=>e=.returned (.int .i64 (rgR k a))∧WE E cb gb B w' wb s n k kg (rgA k A a) G∧Below B W w':=by
 obtain⟨F,v,es,h1,h2,h3⟩:=h;by_cases q:1≤a∧a≤(k:Int)
 ·unfold rgR rgA;rw[if_pos q,if_pos q];exact(rep_yes h1 h3 a q.1 q.2 hk hl).mono fun e w' ⟨he,⟨F',va,h4,h5⟩,h6⟩=>⟨he,⟨F',_,es,h4,h2,h5⟩,h6⟩
 ·unfold rgR rgA;rw[if_neg q,if_neg q];exact(rep_no h1 a q).mono fun e w' ⟨he,hw⟩=>⟨he,hw▸⟨F,v,es,h1,h2,h3⟩,hw▸Below.refl _ _⟩
theorem wgroup_any(h:WE E cb gb B W wb s n k kg A G):Calls Tryz.prog 11 #[.pointer (some ⟨wb,0,none⟩)] W fun e w'=>e=.returned (.pointer (some ⟨gb,0,none⟩))∧w'=W:=by
 have c17:W.cell? ⟨wb,17,none⟩=some (.pointer (some ⟨gb,0,none⟩)):=let⟨_,_,_,h1,_⟩:=h;h1.w.group;clear h
 go_enter Tryz.func11,Tryz.ntmps11
 go_wp2;go_ret;exact⟨rfl,rfl⟩
theorem wnow_any(h:WE E cb gb B W wb s n k kg A G):Calls Tryz.prog 16 #[.pointer (some ⟨wb,0,none⟩)] W fun e w'=>e=.returned (.int .i64 (k:Int))∧w'=W:=by
 obtain⟨_,_,_,h1,_⟩:=h;obtain⟨p,c,hp⟩:=h1.x.slice;rw[h1.l]at hp;exact now_any h1.w hp
theorem run_loadI{o:Oper}{a:Act}{w:World}(x:Operand){b f:Nat}{u:Value}(ho:o.op=.load 3 x)(hx:a.eval x=.pointer (some ⟨b,f,none⟩))(hc:w.cell? ⟨b,f,none⟩=some u):(execOp a.eval o).run Tryz.prog w=.ok (.value u) w:=by
 unfold execOp;simp only[ho,hx,Sem.run_bind,Sem.run_pure];simp[go_sem,hc]
theorem wdo_again(h:WE E cb gb B W wb s n k kg A G)(a:Int)(hk:k≤1000)(hl:A.length≤1000):Calls Tryz.prog 9 #[.pointer (some ⟨wb,0,none⟩),.agg #[.int .i64 4,.int .i64 a,.int .i64 0,.bool false,.int .i64 0,.int .i64 0,.int .i64 0,.bool false]] W fun e w'=>e=.returned (.int .i64 (rgR k a))∧WE E cb gb B w' wb s n k kg (rgA k A a) G∧Below B W w':=by
 have hb:Below W.heap.size W (W.alloc (.cells #[.int .i64 4,.int .i64 a,.int .i64 0,.bool false,.int .i64 0,.int .i64 0,.int .i64 0,.bool false] 35)):=(Below.refl _ _).alloc (Nat.le_refl _) _;have HE:=Hd (h.below hb);have HB:=Hd (hb.mono h.lb);have c0:(W.alloc (.cells #[.int .i64 4,.int .i64 a,.int .i64 0,.bool false,.int .i64 0,.int .i64 0,.int .i64 0,.bool false] 35)).cell? ⟨W.heap.size,0,none⟩=some (.int .i64 4):=World.cell?_alloc_new W _ 35 0;have hc1:(W.alloc (.cells #[.int .i64 4,.int .i64 a,.int .i64 0,.bool false,.int .i64 0,.int .i64 0,.int .i64 0,.bool false] 35)).cell? ⟨W.heap.size,1,none⟩=some (.int .i64 a):=World.cell?_alloc_new W _ 35 1;have HC1:=Hd hc1;clear h hb hc1;obtain⟨r,hr⟩:∃x,rgR k a=x:=⟨_,rfl⟩;obtain⟨A',hA⟩:∃x,rgA k A a=x:=⟨_,rfl⟩;have HRA:=Hd (And.intro hr hA);rw[hr,hA];clear hr hA
 go_enter Tryz.func9,Tryz.ntmps9
 go_upto_region 9 with fail
 clear c0;generalize W.alloc (.cells #[.int .i64 4,.int .i64 a,.int .i64 0,.bool false,.int .i64 0,.int .i64 0,.int .i64 0,.bool false] 35)=X at HE HB HC1⊢
 go_cut [4]from 32 to 37 (fun c4 Y=>c4=.int .i64 r∧Hid (WE E cb gb B Y wb s n k kg A' G∧Below B W Y))
 case first=>
  rename_i hJ hK;refine wp_nrm ?_;refine wp_region_held (S:=fun _=>True) (by kernel_rfl) ?_;change wpAnyH _ _ _ _ _ _ _ _ (World.drew _);have HJ0:=Hd (And.intro (HE.out.below (Below.refl _ _).drew) HB.out.drew);have HC2:Hid (X.drew.cell? ⟨W.heap.size,1,none⟩=some (.int .i64 a)):=HC1.out;have HD:Hid True:=trivial;clear HE HB HC1;generalize X.drew=X1 at HJ0 HC2⊢;refine wpAnyH_take (i:=0) rfl (by kernel_rfl) (by kernel_rfl) (by kernel_rfl) (fun _ _ _ h=>by cases h.1) (.inl ⟨rfl,fun _ _=>rfl⟩) HD.out ?_;generalize hKK:wpAnyH _ _ _ _ _ _ _=KK;go_simp;subst hKK;refine wpAnyH_take (i:=1) rfl (by kernel_rfl) (by kernel_rfl) (by kernel_rfl) (fun _ _ _ h=>by cases h.1) (.inl ⟨rfl,fun _ _=>rfl⟩) HD.out ?_;generalize hKK:wpAnyH _ _ _ _ _ _ _=KK;go_simp;subst hKK;refine wpAnyH_take (i:=2) rfl (by kernel_rfl) (by kernel_rfl) (by kernel_rfl) (fun _ _ _ h=>by cases h.1) (.inl ⟨rfl,fun _ _=>rfl⟩) HD.out ?_;generalize hKK:wpAnyH _ _ _ _ _ _ _=KK;go_simp;subst hKK;refine wpAnyH_take (i:=3) rfl (by kernel_rfl) (by kernel_rfl) (by kernel_rfl) (fun _ _ _ h=>by cases h.1) (.inl ⟨rfl,fun _ _=>rfl⟩) HD.out ?_;generalize hKK:wpAnyH _ _ _ _ _ _ _=KK;go_simp;subst hKK;refine wpAnyH_all (rs:=[4]) (by kernel_rfl) (by simp) (fun ii hii=> ?_);obtain rfl:ii=4:=by simpa using hii
  clear hii;refine wpOp_val rfl rfl (run_loadI _ rfl rfl HC2.out) ⟨trivial,?_⟩;generalize hKK:wpAnyH _ _ _ _ _ _ _=KK;go_simp;subst hKK;refine wpAnyH_all (rs:=[5]) (by kernel_rfl) (by simp) (fun ii hii=> ?_);obtain rfl:ii=5:=by simpa using hii
  clear hii;have hrp:=wrep_any HJ0.out.1 a hk hl;rw[HRA.out.1,HRA.out.2]at hrp;refine wpOp_call (f:=25) (args:= #[.pointer (some ⟨wb,14,none⟩),.int .i64 a]) rfl rfl (by go_simp) hrp ?_;rintro e X2 ⟨rfl,h1,h2⟩;have HJ2:=Hd (And.intro h1 (HJ0.out.2.trans h2));clear h1 h2 HJ0 HC2 hrp;refine⟨_,rfl,trivial,?_⟩;generalize hKK:wpAnyH _ _ _ _ _ _ _=KK;go_simp;subst hKK;refine wpAnyH_take (i:=6) rfl (by kernel_rfl) (by kernel_rfl) (by kernel_rfl) (fun _ _ _ h=>by cases h.1) (.inl ⟨rfl,fun _ _=>rfl⟩) HD.out ?_;generalize hKK:wpAnyH _ _ _ _ _ _ _=KK;go_simp;subst hKK;refine wpAnyH_done (by kernel_rfl) ⟨rfl,hK _ _ ?_⟩ _;go_meet
  case rel=>exact⟨rfl,HJ2.out⟩
 case rest=>
  obtain⟨rfl,H4⟩:=hcut;clear HE HB HC1;go_wp2;go_ret;exact⟨rfl,H4.out⟩
theorem wdo_tick(h:WQ E cb gb B W wb s n k A G)(hk:k≤99)(hA:∀z∈A,0≤z∧z.toNat<k)(hl:A.length≤30):Calls Tryz.prog 9 #[.pointer (some ⟨wb,0,none⟩),.agg #[.int .i64 8,.int .i64 0,.int .i64 0,.bool false,.int .i64 0,.int .i64 0,.int .i64 0,.bool false]] W fun e w'=>e=.returned (.int .i64 0)∧WQ E cb gb B w' wb s n (k+1) [] (wtg n k A G)∧Below B W w'∧WN n A (wtg n k A G)∧(G.pi=0→(wtg n k A G).N=GM.nts n (A.map fun z=>z.toNat+1)++[(5,0)]):=by
 have hb:Below W.heap.size W (W.alloc (.cells #[.int .i64 8,.int .i64 0,.int .i64 0,.bool false,.int .i64 0,.int .i64 0,.int .i64 0,.bool false] 35)):=(Below.refl _ _).alloc (Nat.le_refl _) _;have c0:(W.alloc (.cells #[.int .i64 8,.int .i64 0,.int .i64 0,.bool false,.int .i64 0,.int .i64 0,.int .i64 0,.bool false] 35)).cell? ⟨W.heap.size,0,none⟩=some (.int .i64 8):=World.cell?_alloc_new W _ 35 0;have HT:=Hd (wtick_q (W:=W.alloc (.cells #[.int .i64 8,.int .i64 0,.int .i64 0,.bool false,.int .i64 0,.int .i64 0,.int .i64 0,.bool false] 35)) {h with e:=h.e.below hb} hk hA hl);have HB:=Hd (hb.mono h.e.lb);obtain⟨G',hG⟩:∃x,wtg n k A G=x:=⟨_,rfl⟩;rw[hG]at HT⊢;clear h hb hG
 go_enter Tryz.func9,Tryz.ntmps9
 go_wp2_with fail
 refine HT.out.mono ?_;rintro e X2 ⟨rfl,h1,h2,h3,h4⟩;have HQ:=Hd (And.intro h1 (And.intro (HB.out.trans h2) (And.intro h3 h4)));clear h1 h2 h3 h4 c0 HT HB;go_wp2;go_ret;exact⟨rfl,HQ.out⟩
end
theorem infoWm:(Tryz.prog.info? 70).map (fun i=>(i.zero,i.size,i.bytes))=some (some (.agg zmv.toArray),11,72):=by kernel_rfl
theorem mkWm(n:Nat)(hn:n≤8)(W:World):(Instr.makeSlice 60 (.int .i64 (n:Int)) (.int .i64 (n:Int))).run Tryz.prog W=.ok (.slice (some ⟨W.heap.size,0,none⟩) n n) (W.alloc (.cells (zr n).toArray 70)):=by
 obtain⟨i,hi,h1,h2,h3⟩:=info_parts infoWm
 have:=run_make (P:=Tryz.prog) W 60 70 i _ Tryz.underlying60 hi h1 .i64 .i64 (n:Int) (n:Int) (by omega) (by omega) (by
  have:(i.bytes:Int)*(n:Int)≤72*8:=Int.mul_le_mul (by omega) (by omega) (by omega) (by omega)
  omega) (by omega)
 have e:madeCells (Value.agg zmv.toArray).cells (n*11)=(zr n).toArray:=by
  have:n=0∨n=1∨n=2∨n=3∨n=4∨n=5∨n=6∨n=7∨n=8:=by omega
  apply Array.toList_inj.1;rcases this with rfl|rfl|rfl|rfl|rfl|rfl|rfl|rfl|rfl<;>simp[madeCells,Value.cells,zr,rcs,zmv,List.replicate,List.range,List.range.loop]
 rw[this,h2,Int.toNat_natCast,e]
def wv0:Wv:=⟨.slice none 0 0,.slice none 0 0,.slice none 0 0,.slice none 0 0,.slice none 0 0⟩
theorem built_wo(s:St)(b g n:Nat):Tryz.prog.built 67 [(0,.agg (sv s).toArray),(1,.slice (some ⟨b,0,none⟩) n n),(3,.pointer (some ⟨g,0,none⟩))]=some (wcv s b n g wv0).toArray:=by kernel_rfl
section
variable {S:World→Prop} {ops:Array Oper} {Q:Exit→Act→World→Prop} {i:Nat} {o:Oper} {K:Act→World→Prop} {a:Act} {w:World}
theorem wpOp_mkWm(hi:ops[i]?=some o)(hw:Region.wanted o (yielded ops a.tmps)=true)(x y:Operand)(ho:o.op=.makeSlice 60 x y)(n:Nat)(hn:n≤8)(hx:a.eval x=.int .i64 (n:Int))(hy:a.eval y=.int .i64 (n:Int))
  (h:K (a.put o.dst (.slice (some ⟨w.heap.size,0,none⟩) n n)) (w.alloc (.cells (zr n).toArray 70))):wpOp Tryz.prog ops Q i K a w:=
 wpOp_val hi hw (by unfold execOp;simp only[ho,hx,hy,Sem.run_bind,Sem.run_pure,Result.andThen_ok,mkWm n hn]) h
theorem calm_loadMs{W0:World}{K:Act→Prop}(x:Operand)(b k:Nat){v:Value}(ho:o.op=.load 60 x)(hx:a.eval x=.pointer (some ⟨b,k,none⟩))(hr:∀w,Below W0.heap.size W0 w→w.cell? ⟨b,k,none⟩=some v)
  (h:K (a.put o.dst v)):Oper.calm Tryz.prog W0 o a K:=
 calm_val _ (fun w hw=>by have hc:=hr w hw;unfold execOp;simp only[ho,hx,Sem.run_bind,Sem.run_pure];simp[go_sem,hc]) h
theorem wpOp_boxW(hi:ops[i]?=some o)(hw:Region.wanted o (yielded ops a.tmps)=true)(x:Operand)(ho:o.op=.box 67 x)(c:Array Value)(hx:a.eval x=.agg c)
  (h:K (a.put o.dst (.pointer (some ⟨w.heap.size,0,none⟩))) (w.alloc (.cells c 67))):wpOp Tryz.prog ops Q i K a w:=
 wpOp_val hi hw (by
  unfold execOp;simp only[ho,hx]
  simp[go_sem]) h
end
section
variable {cb gb B wb n:Nat} {W W':World} {s:St}
theorem Qg0(hn:(n:Int)=s.ca):GM.Qg n 0 (G0 s):=by
 refine⟨rfl,rfl,rfl,by show(List.replicate s.ca.toNat GM.z).length=n;rw[List.length_replicate];omega,fun m hm=> ?_⟩;obtain rfl:=List.eq_of_mem_replicate hm;exact⟨rfl,rfl,rfl,rfl,rfl,rfl,fun h=>by omega⟩
def Nzw(W:World)(s:St)(gb:Nat)(X:World):Prop:=SB X W.heap.size s∧GW (W.heap.size+1) X gb 0 (G0 s) (fun _=>False)∧Below W.heap.size W X∧W.heap.size+1≤X.heap.size
theorem Nzw.below{X:World}(h:Nzw W s gb X)(hb:Below X.heap.size X W'):Nzw W s gb W':=
 ⟨h.1.below' hb,(h.2.1.below hb).mono fun b hb=>hb.elim,below_class h.2.2.1 hb,by have:=hb.size;have:=h.2.2.2;omega⟩
theorem Nzw.we{X:World}(h:Nzw W s gb X):WE [] X.heap.size gb (W.heap.size+1) ((X.alloc (.cells (zr n).toArray 70)).alloc (.cells (wcv s X.heap.size n gb wv0).toArray 67)) (X.heap.size+1) s n 0 0 [] (G0 s):=by
 have hb:Below X.heap.size X ((X.alloc (.cells (zr n).toArray 70)).alloc (.cells (wcv s X.heap.size n gb wv0).toArray 67)):=((Below.refl _ X).alloc (Nat.le_refl _) _).alloc (by simp) _;have h4:=h.2.2.2;refine⟨fun b=>False∨X.heap.size≤b,wv0,[],⟨h.2.1.below hb,?_,?_,OG.nil' _ _,rfl,fun i y hy=>by simp at hy,OG.nil' _ _,FF.OW.nil _ _,.inr (by omega),.inr (Nat.le_refl _),fun g hg=>(by cases hg),fun i y g hy=>by simp at hy,fun g hg=>(by cases hg),fun g hg=>(by cases hg),by omega,h4⟩,rfl,fun x hx=>by simp at hx⟩
 ·have:=World.alloc_heap_new (X.alloc (.cells (zr n).toArray 70)) (.cells (wcv s X.heap.size n gb wv0).toArray 67);unfold WB;simpa using this
 ·exact(Below.heap_alloc _ _ _ (by simp)).trans (World.alloc_heap_new X _)
def WNew(W:World)(s:St)(n:Nat)(e:Ending)(w':World):Prop:=∃cb gb wb,e=.returned (.tuple #[.pointer (some ⟨wb,0,none⟩),.int .i64 0])∧WE [] cb gb (W.heap.size+1) w' wb s n 0 0 [] (G0 s)∧Below W.heap.size W w'
theorem wnew_any(hr:rightB s=true)(hn:(n:Int)=s.ca)(W:World):Calls Tryz.prog 8 #[.agg (sv s).toArray] W fun e w'=>WNew W s n e w':=by
 have hn8:n≤8:=by obtain⟨⟩:=(rightB_iff s).1 hr;omega
 have hb0:=(Below.refl W.heap.size W).alloc (Nat.le_refl _) (.cells (sv s).toArray 23);have HS:=Hd (SB.new W s);have HB:=Hd hb0;have hg:=gw_new ((rightB_iff s).1 hr) (W.alloc (.cells (sv s).toArray 23));rw[show(W.alloc (.cells (sv s).toArray 23)).heap.size=W.heap.size+1 by simp]at hg;have HG:=Hd hg;have HN:=Hd hn;clear hr hg hb0 hn
 go_enter Tryz.func8,Tryz.ntmps8
 go_wp2_with (refine wpList_load23 rfl _ rfl W.heap.size s rfl HS.out ?_)
 refine HG.out.mono ?_;rintro e X1 ⟨gb,rfl,hq,hb⟩
 have HZ:Hid (Nzw W s gb X1):=by
  have hsz:(W.alloc (.cells (sv s).toArray 23)).heap.size=W.heap.size+1:=by simp
  rw[←hsz]at hb;exact⟨HS.out.below' hb,hq,below_class HB.out hb,by rw[←hsz];exact hb.size⟩
 clear hq hb HS HB HG
 go_upto_region 4 with fail
 go_cut [6]from 16 to 22 (fun c6 X=>∃cb wb,c6=.pointer (some ⟨wb,0,none⟩)∧Hid (WE [] cb gb (W.heap.size+1) X wb s n 0 0 [] (G0 s)∧Below W.heap.size W X))
 case first=>
  rename_i hJ hK;refine wp_nrm ?_;refine wp_region_held (S:=fun w'=>SB w' W.heap.size s) (by kernel_rfl) ?_;change wpAnyH _ _ _ _ _ _ _ _ (World.drew _);have HJ0:=Hd (HZ.out.below (Below.refl _ _).drew);have HD:=Hd HJ0.out.1;clear HZ;generalize X1.drew=X0 at HJ0 HD⊢;refine wpAnyH_take (i:=0) (v:=(.agg (sv s).toArray)) rfl (by kernel_rfl) (by kernel_rfl) (by kernel_rfl) (fun _ _ _ h=>by cases h.1) (.inl ⟨rfl,fun w hw=>run_load23w _ rfl rfl (SB.range hw)⟩) HD.out ?_;generalize hKK:wpAnyH _ _ _ _ _ _ _=KK;go_simp;subst hKK;refine wpAnyH_take (i:=1) rfl (by kernel_rfl) (by kernel_rfl) (by kernel_rfl) (fun _ _ _ h=>by cases h.1) (.inl ⟨rfl,fun _ _=>rfl⟩) HD.out ?_;generalize hKK:wpAnyH _ _ _ _ _ _ _=KK;go_simp;subst hKK;refine wpAnyH_take (i:=2) (v:=(.int .i64 (n:Int))) rfl (by kernel_rfl) (by kernel_rfl) (by kernel_rfl) (fun _ _ _ h=>by cases h.1) (.inl ⟨rfl,fun w hw=>run_loadI _ rfl rfl (by rw[HN.out];exact SB.cell hw 1)⟩) HD.out ?_;generalize hKK:wpAnyH _ _ _ _ _ _ _=KK;go_simp;subst hKK;refine wpAnyH_take (i:=4) rfl (by kernel_rfl) (by kernel_rfl) (by kernel_rfl) (fun _ _ _ h=>by cases h.1) (.inl ⟨rfl,fun _ _=>rfl⟩) HD.out ?_;generalize hKK:wpAnyH _ _ _ _ _ _ _=KK;go_simp;subst hKK;refine wpAnyH_all (rs:=[3]) (by kernel_rfl) (by simp) (fun ii hii=> ?_);obtain rfl:ii=3:=by simpa using hii
  clear hii;refine wpOp_mkWm rfl rfl _ _ rfl n hn8 rfl rfl ⟨HJ0.out.1.alloc _,?_⟩;generalize hKK:wpAnyH _ _ _ _ _ _ _=KK;go_simp;subst hKK;have HD:=Hd (HJ0.out.1.alloc (.cells (zr n).toArray 70));refine wpAnyH_take (i:=5) rfl (by kernel_rfl) (by kernel_rfl) (by kernel_rfl) (fun _ _ _ h=>by cases h.1) (yif_build rfl _ _ rfl [(0,.agg (sv s).toArray),(1,.slice (some ⟨X0.heap.size,0,none⟩) n n),(3,.pointer (some ⟨gb,0,none⟩))] (by simp[Act.eval]) _ (built_wo s X0.heap.size gb n)) HD.out ?_;generalize hKK:wpAnyH _ _ _ _ _ _ _=KK;go_simp;subst hKK;refine wpAnyH_all (rs:=[6]) (by kernel_rfl) (by simp) (fun ii hii=> ?_);obtain rfl:ii=6:=by simpa using hii
  clear hii;have HW:=Hd (HJ0.out.we (n:=n));have HB2:Hid (Below W.heap.size W ((X0.alloc (.cells (zr n).toArray 70)).alloc (.cells (wcv s X0.heap.size n gb wv0).toArray 67))):=below_class HJ0.out.2.2.1 (((Below.refl _ X0).alloc (Nat.le_refl _) _).alloc (by simp) _);refine wpOp_boxW rfl rfl _ rfl (wcv s X0.heap.size n gb wv0).toArray rfl ⟨HD.out.alloc _,?_⟩;generalize hKK:wpAnyH _ _ _ _ _ _ _=KK;go_simp;subst hKK;have HD:=Hd (HD.out.alloc (.cells (wcv s X0.heap.size n gb wv0).toArray 67));refine wpAnyH_take (i:=7) rfl (by kernel_rfl) (by kernel_rfl) (by kernel_rfl) (fun _ _ _ h=>by cases h.1) (.inl ⟨rfl,fun _ _=>rfl⟩) HD.out ?_;generalize hKK:wpAnyH _ _ _ _ _ _ _=KK;go_simp;subst hKK;refine wpAnyH_done (by kernel_rfl) ⟨rfl,hK _ _ ?_⟩ _;go_meet
  case rel=>exact⟨_,_,rfl,HW.out,HB2.out⟩
 case rest=>
  obtain⟨cb,wb,rfl,HW⟩:=hcut;clear HZ HN;have c13:wc.cell? ⟨wb,13,none⟩=some (.slice (some ⟨cb,0,none⟩) n n):=let⟨_,_,_,h1,_⟩:=HW.out.1;h1.w.cars
  go_wp2_with fail
  clear c13
  go_loopw [28] (fun iv wr=>∃i:Nat,i≤n∧iv=.int .i64 (i:Int)∧Hid (WE [] cb gb (W.heap.size+1) wr wb s n 0 0 [] (G0 s)∧Below W.heap.size W wr)) (fun iv _=>n-(intOf iv).toNat)
  case atStart=>exact⟨0,Nat.zero_le _,rfl,HW⟩
  case round=>
   clear HW;obtain⟨i,hi,rfl,HL⟩:=hrel;by_cases hlt:i<n
   ·have hz:(i:Int)<(n:Int):=by omega
    have hix:∀W:World,(Instr.indexAt 60 (.slice (some ⟨cb,0,none⟩) n n) (.int .i64 (i:Int))).run Tryz.prog W=.ok (.pointer (some ⟨cb,i*11,none⟩)) W:=fun W=>ixWm W hlt
    have HC:Hid (∀w',Below wr.drew.heap.size wr.drew w'→WE [] cb gb (W.heap.size+1) w' wb s n 0 0 [] (G0 s)∧Below W.heap.size W w'):=fun w' hw=>by
     have hb:=(Below.refl wr.heap.size wr).drew.trans hw;exact⟨HL.out.1.below hb,below_class HL.out.2 hb⟩
    have HC1:Hid (∀w',Below wr.drew.heap.size wr.drew w'→w'.cell? ⟨wb,13,none⟩=some (.slice (some ⟨cb,0,none⟩) n n)):=fun w' hw=>let⟨_,_,_,h1,_⟩:=(HC.out w' hw).1;h1.w.cars
    go_upto_region 8 with fail
    refine wp_region_tail 6 (by kernel_rfl) (by kernel_rfl) ?_;simp only[List.take_succ_cons,List.take_zero,List.drop_succ_cons,List.drop_zero]
    iterate 3 (unfold wpCalm;generalize hK:wpCalm _ _ _ _ _=K;unfold Oper.calm;go_simp;refine⟨_,fun _ _=>rfl,?_⟩;subst hK)
    unfold wpCalm;generalize hK:wpCalm _ _ _ _ _=K;rw[if_pos (by go_simp)];refine calm_loadMs _ _ _ rfl rfl HC1.out ?_;go_simp;subst hK;unfold wpCalm;generalize hK:wpCalm _ _ _ _ _=K;unfold Oper.calm;go_simp;refine⟨_,fun _ _=>rfl,?_⟩;subst hK;unfold wpCalm;generalize hK:wpCalm _ _ _ _ _=K;unfold Oper.calm;go_simp;refine⟨_,fun w' hw=>zat_any w',?_⟩;subst hK;refine wpCalm_nil ?_;intro V2 hb2;have HL2:=Hd (HC.out V2 hb2);have HM2:Hid (MR V2 cb n):=let⟨_,_,_,h1,_⟩:=HL2.out.1;h1.m;clear hb2 HC HC1 HL
    go_wp2_with (refine wpList_store_mid rfl 48 _ _ rfl cb (i*11) zkw.toArray rfl rfl (HM2.out.there hlt) infoZk (by simp[zkw,Value.oneCell']) ?_;rw[setCells_id (HM2.out.range hlt)])
    go_roundw
    case rel=>exact⟨i+1,hlt,by go_num,HL2⟩
    case measure=>simp[intOf];omega
   ·have hz:¬(i:Int)<(n:Int):=by omega
    go_wp2;refine bodyPost_ret (by simp[results,Tryz.results8,go_sem];rfl) rfl ?_;exact⟨_,_,_,rfl,HL.out.1,HL.out.2⟩
end
end Go.Proofs.YtlajleogofmkcaaGreat
