import Derived.Test.YtlajleogofmkcaaGreatQ8
import Derived.WalkMore
set_option maxHeartbeats 8000000
set_option maxRecDepth 100000
namespace Go.Proofs.YtlajleogofmkcaaGreat
open Go.RowKit Go.Shelf
section
variable (s:Sn) (D:Nat→Prop) (vc vw:Value) (W:World)
theorem newTree_nil(hws:s.ws=[])(hc:R2 D W vc s.cs)(hw:R2 D W vw s.ws)(hr:rgt s=true):
  Calls Tryz.prog 108 #[.agg (nv s.st vc vw).toArray] W fun e w'=>Below W.heap.size W w'∧∃tb vb,e=.returned (.pointer (some ⟨tb,0,none⟩))∧W.heap.size≤tb∧TR (fun g=>(D g∧g<W.heap.size)∨W.heap.size≤g) w' tb s vc vw vb:=by
 have hbx:=(Below.refl W.heap.size W).alloc (Nat.le_refl _) (.cells (nv s.st vc vw).toArray 146);have HN:=Hd (NB.new W s.st vc vw);have HB:=Hd hbx;have HC:Hid (R2 (fun g=>D g∧g<W.heap.size) W vc s.cs):=hc.mono fun g h1 h _=>⟨h1,h⟩;have HW:Hid (R2 (fun g=>D g∧g<W.heap.size) W vw s.ws):=hw.mono fun g h1 h _=>⟨h1,h⟩;obtain⟨ac,kc,rfl,_,_⟩:=hc.form;obtain⟨aw,kw,rfl,_,_⟩:=hw.form;have HR:=Hd hr;have HWS:=Hd hws;obtain⟨n8,hrs⟩:=rgt_rs hr;have HRS:=Hd hrs;have hwl:s.ws.length≤128:=hrs.wl;have hcl:s.cs.length≤8:=by have:=hrs.cl;have:=hrs.n8;omega
 have HS1:Hid ((W.alloc (.cells (nv s.st (.slice ac s.cs.length kc) (.slice aw s.ws.length kw)).toArray 146)).heap.size=W.heap.size+1):=by show _=_;simp
 clear hc hw hr hbx hrs hws
 go_enter Tryz.func108,Tryz.ntmps108
 go_wp2_with fail
 generalize hX:W.alloc (.cells (nv s.st (.slice ac s.cs.length kc) (.slice aw s.ws.length kw)).toArray 146)=X at HN HB HS1⊢;clear hX;refine wp_mono (Q:=fun e a W'=>e=Exit.normal∧W'=(X.drew.alloc (.cells (Array.replicate s.cs.length (Value.slice none 0 0)) 52)).alloc (.cells (tcl s.st (.slice ac s.cs.length kc) (.slice aw s.ws.length kw) (.slice (some ⟨X.heap.size,0,none⟩) s.cs.length s.cs.length)).toArray 237)∧a={tmps:= #[.agg (nv s.st (.slice ac s.cs.length kc) (.slice aw s.ws.length kw)).toArray,.pointer (some ⟨W.heap.size,0,none⟩),.pointer none,.pointer (some ⟨X.heap.size+1,0,none⟩),undef,undef,undef,.agg (nv s.st (.slice ac s.cs.length kc) (.slice aw s.ws.length kw)).toArray,.pointer (some ⟨W.heap.size,13,none⟩),.slice ac s.cs.length kc,.int .i64 (s.cs.length:Int),(.slice (some ⟨X.heap.size,0,none⟩) s.cs.length s.cs.length),.agg (tcl s.st (.slice ac s.cs.length kc) (.slice aw s.ws.length kw) (.slice (some ⟨X.heap.size,0,none⟩) s.cs.length s.cs.length)).toArray,.pointer (some ⟨X.heap.size+1,0,none⟩),undef,undef,undef,undef,undef,undef,undef,undef,undef,undef,undef,undef,undef,undef,undef,undef,undef,undef,undef,undef,undef,undef,undef,undef,undef,undef,undef,undef,undef,undef,undef,undef,undef,undef,undef,undef,undef,undef,undef,undef,undef,undef,undef],defers:=[]}) ?reg ?rest
 case reg=>
  have hdr:=(Below.refl X.heap.size X).drew;have hal:=hdr.alloc (Nat.le_refl _) (.cells (Array.replicate s.cs.length (Value.slice none 0 0)) 52);have HNX:=Hd (HN.out.below' hdr);have HNA:=Hd (HN.out.below' hal);have k2:X.drew.cell? ⟨W.heap.size,13,none⟩=some (.slice ac s.cs.length kc):=HNX.out.cell 13;have k3:X.cell? ⟨W.heap.size,13,none⟩=some (.slice ac s.cs.length kc):=HN.out.cell 13;have kk:=mkBh s.cs.length (by omega);clear hdr hal;refine wp_region_any (by kernel_rfl) ?_;change wpAny _ _ _ _ _ _ _ (World.drew _);refine wpAny_take (i:=1) (v:=.pointer (some ⟨W.heap.size,13,none⟩)) rfl (by kernel_rfl) (by kernel_rfl) (by kernel_rfl) (fun _ _ _ h=>by cases h.1) ?hy ?_
  case hy=>exact yields_val rfl (fun w=>by go_simp)
  generalize hKK:wpAny Tryz.prog _ _ _ _ _=KK;go_simp;subst hKK;refine wpAny_all (rs:=[0,2]) (by kernel_rfl) (by simp) (fun ii hii=> ?_);have h7:ii=0∨ii=2:=by simpa using hii
  clear hii;rcases h7 with rfl|rfl
  ·refine wpOp_load27 rfl rfl _ rfl W.heap.size s.st _ _ rfl HNX.out ?_;generalize hKK:wpAny Tryz.prog _ _ _ _ _=KK;go_simp;subst hKK;refine wpAny_seq 2 (by kernel_rfl) (by kernel_rfl) ?_;simp only[List.drop_succ_cons,List.drop_zero]
   go_wp2_with (first|(refine wpList_load27g rfl _ rfl W.heap.size s.st _ _ rfl HNX.out ?_)|(refine wpList_buildS rfl _ _ rfl [(0,.agg (nv s.st (.slice ac s.cs.length kc) (.slice aw s.ws.length kw)).toArray),(1,(.slice (some ⟨X.heap.size,0,none⟩) s.cs.length s.cs.length))] (by simp only[List.map_toArray,List.map_cons,List.map_nil];rfl) _ (built_tree s.st _ _ _ _ _) ?_))
  ·refine wpOp_loadRs rfl rfl _ rfl W.heap.size 13 _ rfl k2 ?_;generalize hKK:wpAny Tryz.prog _ _ _ _ _=KK;go_simp;subst hKK;refine wpAny_take (i:=3) (v:=.int .i64 (s.cs.length:Int)) rfl (by kernel_rfl) (by kernel_rfl) (by kernel_rfl) (fun _ _ _ h=>by cases h.1) ?hy ?_
   case hy=>exact yields_val rfl (fun w=>by go_simp)
   generalize hKK:wpAny Tryz.prog _ _ _ _ _=KK;go_simp;subst hKK;refine wpAny_all (rs:=[0,4]) (by kernel_rfl) (by simp) (fun ii hii=> ?_);have h7:ii=0∨ii=4:=by simpa using hii
   clear hii;rcases h7 with rfl|rfl
   ·refine wpOp_load27 rfl rfl _ rfl W.heap.size s.st _ _ rfl HNX.out ?_;generalize hKK:wpAny Tryz.prog _ _ _ _ _=KK;go_simp;subst hKK;refine wpAny_seq 4 (by kernel_rfl) (by kernel_rfl) ?_;simp only[List.drop_succ_cons,List.drop_zero]
    go_wp2_with (first|(refine wpList_load27g rfl _ rfl W.heap.size s.st _ _ rfl HNX.out ?_)|(refine wpList_buildS rfl _ _ rfl [(0,.agg (nv s.st (.slice ac s.cs.length kc) (.slice aw s.ws.length kw)).toArray),(1,(.slice (some ⟨X.heap.size,0,none⟩) s.cs.length s.cs.length))] (by simp only[List.map_toArray,List.map_cons,List.map_nil];rfl) _ (built_tree s.st _ _ _ _ _) ?_))
   ·refine wpOp_mkB rfl rfl _ _ rfl s.cs.length (by omega) rfl rfl ?_;generalize hKK:wpAny Tryz.prog _ _ _ _ _=KK;go_simp;subst hKK;refine wpAny_all (rs:=[0]) (by kernel_rfl) (by simp) (fun ii hii=> ?_);have h7:ii=0:=by simpa using hii
    clear hii;subst h7;refine wpOp_load27 rfl rfl _ rfl W.heap.size s.st _ _ rfl HNA.out ?_;generalize hKK:wpAny Tryz.prog _ _ _ _ _=KK;go_simp;subst hKK;refine wpAny_seq 5 (by kernel_rfl) (by kernel_rfl) ?_;simp only[List.drop_succ_cons,List.drop_zero]
    go_wp2_with (first|(refine wpList_load27g rfl _ rfl W.heap.size s.st _ _ rfl HNX.out ?_)|(refine wpList_buildS rfl _ _ rfl [(0,.agg (nv s.st (.slice ac s.cs.length kc) (.slice aw s.ws.length kw)).toArray),(1,(.slice (some ⟨X.heap.size,0,none⟩) s.cs.length s.cs.length))] (by simp only[List.map_toArray,List.map_cons,List.map_nil];rfl) _ (built_tree s.st _ _ _ _ _) ?_))
 case rest=>
  rintro e a W1 ⟨rfl,rfl,rfl⟩
  have HT0:Hid (Tn W ((X.drew.alloc (.cells (Array.replicate s.cs.length (Value.slice none 0 0)) 52)).alloc (.cells (tcl s.st (.slice ac s.cs.length kc) (.slice aw s.ws.length kw) (.slice (some ⟨X.heap.size,0,none⟩) s.cs.length s.cs.length)).toArray 237)) s (.slice ac s.cs.length kc) (.slice aw s.ws.length kw) (List.replicate s.cs.length (Value.slice none 0 0)) (bhk s 0)):=by
   have hdr:=(Below.refl X.heap.size X).drew;have hal:=hdr.alloc (Nat.le_refl _) (.cells (Array.replicate s.cs.length (Value.slice none 0 0)) 52);have hb2:=(Below.refl _ (X.drew.alloc (.cells (Array.replicate s.cs.length (Value.slice none 0 0)) 52))).alloc (Nat.le_refl _) (.cells (tcl s.st (.slice ac s.cs.length kc) (.slice aw s.ws.length kw) (.slice (some ⟨X.heap.size,0,none⟩) s.cs.length s.cs.length)).toArray 237);have hmk:=OW.make (B:=W.heap.size+1) X.drew s.cs.length (by show _≤X.heap.size;rw[HS1.out];exact Nat.le_refl _);rw[List.toArray_replicate]at hmk;have hgs:X.drew.heap.size=W.heap.size+1:=HS1.out;rw[hgs]at hmk;refine⟨(HN.out.below' hal).below' hb2,?_,by rw[bhk_zero];exact hmk.next hb2,fun c u hu=> ?_,below_class (below_class HB.out hal) hb2⟩
   ·have:=World.alloc_heap_new (X.drew.alloc (.cells (Array.replicate s.cs.length (Value.slice none 0 0)) 52)) (.cells (tcl s.st (.slice ac s.cs.length kc) (.slice aw s.ws.length kw) (.slice (some ⟨X.heap.size,0,none⟩) s.cs.length s.cs.length)).toArray 237);rw[World.size_alloc,hgs,HS1.out]at this;rw[HS1.out];exact this
   ·rw[List.getElem?_replicate]at hu;split at hu
    ·cases hu;simp[Value.ownBlock]
    ·cases hu
  have hvb:(.slice (some ⟨X.heap.size,0,none⟩) s.cs.length s.cs.length)=Value.slice (some ⟨W.heap.size+1,0,none⟩) s.cs.length s.cs.length:=by rw[HS1.out]
  rw[HS1.out]at HT0⊢;clear hvb HN HB HS1;generalize (X.drew.alloc (.cells (Array.replicate s.cs.length (Value.slice none 0 0)) 52)).alloc (.cells (tcl s.st (.slice ac s.cs.length kc) (.slice aw s.ws.length kw) (.slice (some ⟨W.heap.size+1,0,none⟩) s.cs.length s.cs.length)).toArray 237)=Y at HT0⊢;have c15:=HT0.out.c15
  go_wp2_with fail
  clear c15
  go_loopw [19] (fun iv wr=>∃(c:Nat) (us:List Value),c≤s.cs.length∧iv=.int .i64 (c:Int)∧Hid (Tn W wr s (.slice ac s.cs.length kc) (.slice aw s.ws.length kw) us (bhk s c))) (fun iv _=>s.cs.length-(intOf iv).toNat)
  case atStart=>exact⟨0,_,Nat.zero_le _,rfl,HT0⟩
  case round=>
   clear HT0;obtain⟨c,us,hc,rfl,HT⟩:=hrel;by_cases hlt:c<s.cs.length
   ·have hcz:(c:Int)<(s.cs.length:Int):=by omega
    have hal:=(Below.refl wr.heap.size wr).alloc (Nat.le_refl _) (.cells (Array.replicate s.ws.length (Value.int .i64 0)) 3);have HTA:=Hd (HT.out.next hal);have c15:=HT.out.c15;have c15a:=HTA.out.c15;have c14:wr.cell? ⟨W.heap.size,14,none⟩=some (.slice aw s.ws.length kw):=HT.out.nb.cell 14;have c14a:(wr.alloc (.cells (Array.replicate s.ws.length (Value.int .i64 0)) 3)).cell? ⟨W.heap.size,14,none⟩=some (.slice aw s.ws.length kw):=HTA.out.nb.cell 14;have hrl:(bhk s c).length=s.cs.length:=bhk_length hc;have HRL:=Hd hrl;obtain⟨u,hu⟩:∃u,us[c]?=some u:=⟨_,List.getElem?_eq_getElem (by rw[HT.out.ow.len,hrl];exact hlt)⟩;have cu:(wr.alloc (.cells (Array.replicate s.ws.length (Value.int .i64 0)) 3)).cell? ⟨W.heap.size+1,c,none⟩=some u:=(blk_cell HTA.out.ow.hl c).trans hu;have fu:(wr.alloc (.cells (Array.replicate s.ws.length (Value.int .i64 0)) 3)).frozen? ⟨W.heap.size+1,c,none⟩=false:=blk_fr HTA.out.ow.hl c;have hmk:=mkI s.ws.length (by omega);have HUC:Hid (c<us.length):=(List.getElem?_eq_some_iff.1 hu).1;clear hal hrl hu
    go_wp2_with fail
    go_region
    have HT1:Hid (Tn W ((wr.alloc (.cells (Array.replicate s.ws.length (Value.int .i64 0)) 3)).setCell ⟨W.heap.size+1,c,none⟩ (.slice (some ⟨wr.heap.size,0,none⟩) s.ws.length s.ws.length)).drew s (.slice ac s.cs.length kc) (.slice aw s.ws.length kw) (us.set c (.slice (some ⟨wr.heap.size,0,none⟩) s.ws.length s.ws.length)) ((bhk s c).set c (bhj s c 0))):=by
     have hoi:OI (wr.alloc (.cells (Array.replicate s.ws.length (Value.int .i64 0)) 3)) (W.heap.size+1) (.slice (some ⟨wr.heap.size,0,none⟩) s.ws.length s.ws.length) (bhj s c 0):=by
      have:=OI.lit (B:=W.heap.size+1) wr (List.replicate s.ws.length 0) (by have:=HT.out.ow.lt;omega) (by rw[List.length_replicate];unfold maxLen;omega);rw[ic_rep,List.length_replicate,List.toArray_replicate]at this;rw[bhj_zero];exact this
     exact(HT.out.lay (by rw[HRL.out];exact hlt) ((Below.refl _ _).alloc (Nat.le_refl _) _) (fun q hq=>Nat.le_of_eq (by simpa[Value.ownBlock]using hq)) hoi).next (Below.refl _ _).drew
    clear c15 c15a c14 c14a cu fu hmk HTA HT;generalize ((wr.alloc (.cells (Array.replicate s.ws.length (Value.int .i64 0)) 3)).setCell ⟨W.heap.size+1,c,none⟩ (.slice (some ⟨wr.heap.size,0,none⟩) s.ws.length s.ws.length)).drew=V at HT1⊢;generalize wr.heap.size=gl at HT1⊢;have c14:V.cell? ⟨W.heap.size,14,none⟩=some (.slice aw s.ws.length kw):=HT1.out.nb.cell 14
    go_wp2_with fail
    clear c14
    go_loopw [35] (fun jv wr=>∃(j:Nat),j≤s.ws.length∧jv=.int .i64 (j:Int)∧Hid (Tn W wr s (.slice ac s.cs.length kc) (.slice aw s.ws.length kw) (us.set c (.slice (some ⟨gl,0,none⟩) s.ws.length s.ws.length)) ((bhk s c).set c (bhj s c j)))) (fun jv _=>s.ws.length-(intOf jv).toNat)
    case atStart=>exact⟨0,Nat.zero_le _,rfl,HT1⟩
    case round=>
     clear HT1;obtain⟨j,hj,rfl,HT⟩:=hrel;by_cases hjl:j<s.ws.length
     ·exact absurd hjl (by rw[HWS.out];simp)
     ·have hjz:¬(j:Int)<(s.ws.length:Int):=by omega
      have hje:j=s.ws.length:=by omega
      have hT:=HT.out;rw[hje,bhj_end,bhk_succ hlt]at hT;have HT2:=Hd hT;clear hT HT hje;go_wp2;go_roundw
      case rel=>exact⟨c+1,_,by omega,by go_num,HT2⟩
      case measure=>simp[intOf];omega
   ·have hcz:¬(c:Int)<(s.cs.length:Int):=by omega
    have hce:c=s.cs.length:=by omega
    rw[hce,bhk_end]at HT
    have HE:Hid (Below W.heap.size W wr∧TR (fun g=>(D g∧g<W.heap.size)∨W.heap.size≤g) wr (W.heap.size+1+1) s (.slice ac s.cs.length kc) (.slice aw s.ws.length kw) (.slice (some ⟨W.heap.size+1,0,none⟩) s.cs.length s.cs.length)):=by
     refine⟨HT.out.bel,HT.out.tb,.inr (by omega),(HC.out.below' HT.out.bel).mono fun g hg _ _=>.inl hg,(HW.out.below' HT.out.bel).mono fun g hg _ _=>.inl hg,?_,HR.out⟩;have:=HT.out.ow.rl (D:=fun g=>(D g∧g<W.heap.size)∨W.heap.size≤g) fun q hq=>.inr (by omega);rwa[bhd_length]at this
    clear HT hce;go_wp2;go_ret;refine⟨HE.out.1,W.heap.size+1+1,?_⟩
    first
     |exact⟨rfl,by omega,_,HE.out.2⟩
     |exact⟨_,rfl,by omega,HE.out.2⟩
end
theorem prs_nil{s:St}{ws:List (Int×Int)}:∀(cs:List (Int×Int)) (p:List (List Int)),(∀l∈p,l=[])→RM.prs s ws cs p=[]
 |r::cs,l::p,h=>by
  show RM.pr1 s ws r l++RM.prs s ws cs p=[];rw[prs_nil cs p (fun l hl=>h l (List.mem_cons_of_mem _ hl)),h l (List.mem_cons_self ..)]
  rfl
 |[],p,_=>by cases p<;>rfl
 |_::_,[],_=>rfl
theorem cst_nil{s:Sn}{p:List (List Int)}(h:∀l∈p,l=[]):RM.cst s.st s.ws s.cs p=0:=by
 unfold RM.cst;rw[prs_nil _ _ h]
 rfl
theorem emp_nil{s:Sn}(h:s.ws=[]){p:List (List Int)}(hf:∀x∈p.flatten,0≤x∧x<s.ws.length):∀l∈p,l=[]:=fun l hl=>by
 cases l with
 |nil=>rfl
 |cons x l=>
  have h1:=hf x (List.mem_flatten.2 ⟨_,hl,List.mem_cons_self ..⟩);rw[h]at h1;simp at h1;omega
theorem ffp_nil{s:Sn}(h:s.ws=[]):∀l∈ffp s s.ws.length,l=[]:=fun l hl=>by
 rw[h]at hl;exact List.eq_of_mem_replicate (show l∈List.replicate s.cs.length []from hl)
def fxn(s:Sn):Sx:=⟨1,false,List.replicate s.cs.length [],0,[2]⟩
section
variable {s:Sn} {B:Nat}
theorem cars_nil(hr:rgt s=true):1≤s.cs.length∧s.cs.length≤8:=by
 obtain⟨n8,hrs⟩:=rgt_rs hr;have h1:=hrs.cl;have h2:=hrs.n8;have h3:=hrs.n1;omega
theorem rep_nil(n:Nat):∀l∈List.replicate n ([]:List Int),l=[]:=fun _ hl=>List.eq_of_mem_replicate hl
theorem fnd_nil(hr:rgt s=true)(hws:s.ws=[])(hB:1≤B):fnd s B=fxn s:=by
 obtain⟨h1,_⟩:=cars_nil hr;obtain⟨f,hf⟩:∃f,s.cs.length+s.ws.length=f+1:=⟨s.cs.length+s.ws.length-1,by omega⟩;have hl:lfs s (List.replicate s.ws.length false)=[]:=by unfold lfs;rw[hws];rfl
 have h0:(root s).cost=0:=cst_nil (ffp_nil hws)
 have hp:(root s).plan=List.replicate s.cs.length []:=by
  show ffp s s.ws.length=_;rw[hws];rfl
 unfold fnd;rw[hf];show vst s B (vis s B f) 0 _ _ (root s)=_;unfold vst;rw[if_neg (by simp[root]),if_neg (by show¬(0=B);omega),if_pos hl,cst_nil (rep_nil _),h0,if_neg (by decide),hp]
 rfl
end
theorem lf_nil{s:Sn}(h:s.ws=[]){st:List Bool}(hl:st.length=s.ws.length):PM.lf st=0:=by
 rw[h]at hl;rw[List.length_eq_zero_iff.1 hl]
 rfl
def lenS:Value→Nat
 |.slice _ n _=>n
 |_=>0
structure Vend(s:Sn)(B r0 rb:Nat)(W:World)(e:Ending)(w':World):Prop where
 ex:∃v vp,e=.returned v∧OY w' W.heap.size v (fnd s B).marks∧w'.heap[rb]?=some (.cells (rcl vp (fnd s B).cost (!(fnd s B).ended) 0 (.slice none 0 0)).toArray 152 (0,0))∧RL (fun g=>(g≠rb∧g≠r0)∧v.ownBlock≠some g) w' vp (fnd s B).plan∧Kp (fun k=>k=rb) W w'
section
variable {W:World} {r0 rb tb B:Nat} {s:Sn} {vc vw vb vp:Value}
theorem svisit_nil(hws:s.ws=[])(hrs:W.heap[rb]?=some (.cells (rcl vp (RM.cst s.st s.ws s.cs (ffp s s.ws.length)) true 0 (.slice none 0 0)).toArray 152 (0,0)))(hr0:r0<W.heap.size)(hrl:RL (fun g=>g≠rb∧g≠r0) W vp (ffp s s.ws.length))(htr:TR (fun g=>g≠rb∧g≠r0) W tb s vc vw vb)(hB1:1≤B)(hB:B≤1000000):
  Calls Tryz.prog 107 #[.pointer (some ⟨rb,0,none⟩),.pointer (some ⟨tb,0,none⟩),.int .i64 (B:Int)] W fun e w'=>Vend s B r0 rb W e w':=by
 have hrb:rb<W.heap.size:=(Array.getElem?_eq_some_iff.1 hrs).1;have HF:=Hd (tfirst_any htr)
 have HI:Hid (∀W1,Below W.heap.size W W1→Vi r0 W (W1.alloc (.cells ((En.z s).c s).toArray 230)) rb tb s vc vw vb vp (.slice none 0 0) (.slice (some ⟨W1.heap.size,0,none⟩) 1 1) (root s) [En.z s]):=fun W1 hb=>by
  have hal:=(Below.refl W1.heap.size W1).alloc (Nat.le_refl _) (.cells ((En.z s).c s).toArray 230);have hb2:=below_class hb hal
  have hdn:∀g,(g≠rb∧g≠r0)→g<W.heap.size→Dw r0 rb (.slice none 0 0) (.slice (some ⟨W1.heap.size,0,none⟩) 1 1) g:=fun g h1 h2=>⟨h1,by simp[Value.ownBlock],fun e=>by
   have e2:W1.heap.size=g:=by simpa[Value.ownBlock]using e
   have:=hb.size;omega⟩
  refine⟨(hb2.block rb hrb).trans hrs,(hrl.mono (D':=fun g=>Dw r0 rb (.slice none 0 0) (.slice (some ⟨W1.heap.size,0,none⟩) 1 1) g) fun g h1 h2 _=>hdn g h1 h2).below' hb2,(htr.mono fun g h1 h2=>hdn g h1 h2).below' hb2,OY.nil _ _,?_,fun g e=>by simp[Value.ownBlock]at e,fun e he=> ?_,Kp.ofBelow _ hb2,hrb,hr0⟩
  ·have:=World.ownsRow_lit (base:=W.heap.size) (e:=230) (size:=136) W1 ((En.z s).c s).toArray 1 hb.size (by unfold maxLen;omega) (by rw[List.size_toArray,En.len]);unfold ON;rw[nrow_one];exact this
  ·rw[List.mem_singleton]at he;subst he;exact⟨nd0_ok htr.rg,0,.root⟩
 have HTG:Hid (Tgt s B (root s) [En.z s]):=⟨by rw[fnd_vm];rfl,rfl,rfl,Nat.zero_le _⟩;have HZ8:=Hd (En.len s (En.z s));have HWS:=Hd hws;have HX0:Hid ((root s).cost=0):=cst_nil (ffp_nil hws);have HWL:Hid (s.ws.length≤128):=(nd0_ok htr.rg).nb.bs.wl;clear hrs hrl htr hws
 go_enter Tryz.func107,Tryz.ntmps107
 go_wp2_with fail
 go_step3
 go_wp2_with fail
 refine HF.out.mono ?_;rintro e W1 ⟨rfl,hb1⟩;have HV0:=Hd (HI.out W1 hb1);clear hb1 HF HI
 go_wp2_with (refine wpList_build1N rfl _ rfl _ HZ8.out rfl ?_)
 go_step3
 go_wp2_with fail
 generalize W1.alloc (.cells ((En.z s).c s).toArray 230)=V at HV0⊢
 go_loopw [7,8] (fun mv ov wr=>∃(vp:Value) (x:Sx) (st:List En),Hid (Tgt s B x st)∧Hid (x.cost=0)∧Hid (st.length≤1+129*x.marks.length)∧Hid (Vi r0 W wr rb tb s vc vw vb vp mv ov x st)) (fun mv _ _=>B-lenS mv)
 case atStart=>exact⟨_,_,_,HTG,HX0,Nat.le_refl 1,HV0⟩
 case round=>
  clear HTG HV0 HX0;obtain⟨vp1,x,st0,HT,HX,HLB,HV⟩:=hrel;obtain⟨am,cm,hmv⟩:=HV.out.ms.slice;obtain⟨ao,co,hov⟩:=HV.out.op.slice;subst hmv hov;by_cases hst:st0=[]
  ·subst hst
   have HE:Hid (Vend s B r0 rb W (.returned (.slice am x.marks.length cm)) wr):=by
    have h1:x=fnd s B:=HT.out.1;have h2:=HV.out;have h3:=HT.out.2.1;rw[h1]at h2 h3;rw[h1];refine⟨_,vp1,rfl,?_,?_,h2.rl.mono fun g hg _ _=>⟨hg.1,hg.2.1⟩,h2.kp⟩
    ·have:=h2.ms;rw[←h1]at this⊢;exact this
    ·rw[h3];exact h2.rs
   clear HT HLB HV;go_wp2;simp only[Exit.noGoto];go_ret;exact HE.out
  ·obtain⟨st,e,rfl⟩:∃st e,st0=st++[e]:=⟨st0.dropLast,st0.getLast hst,(List.dropLast_concat_getLast hst).symm⟩;clear hst;have hform:=HV.out.op.form
   obtain⟨g,hao⟩:∃g,ao=some ⟨g,0,none⟩:=by
    rcases hform with⟨_,e2⟩|⟨g,c,e2,_⟩
    ·simp at e2
    ·cases e2;exact⟨g,rfl⟩
   have hco:st.length+1≤co:=by
    rcases hform with⟨_,e2⟩|⟨g,c,e2,_,_,h5,_⟩
    ·simp at e2
    ·cases e2;simpa using h5
   subst hao;clear hform;obtain⟨mn,hmn⟩:∃n,x.marks.length=n:=⟨_,rfl⟩;have HMN:=Hd hmn;have hmB:mn≤B:=by have:=HT.out.2.2;omega
   have hlen:(st++[e]).length=st.length+1:=by simp
   rw[hmn,hlen]at HV⊢;obtain⟨n,hn⟩:∃n,st.length=n:=⟨_,rfl⟩;have HNN:=Hd hn;rw[hn]at HV hco⊢;have hok:=(HV.out.pt e (by simp)).1;obtain⟨d,hpt⟩:=(HV.out.pt e (by simp)).2;have HOK:=Hd hok;have HRG:Hid (wr.rangeAt g (0+n*136) (e.c s)):=by rw[Nat.zero_add];exact HV.out.op.range (j:=n) (by rw[←hn];simp)
   have HE8:=Hd (En.len s e);have HE1:Hid (∀u∈e.c s,u.oneCell'=true):=ncl_one _ _ _ _;have HZ:=Hd (NK.new wr zn_length);have hnz:(0:Int)<((n:Int)+1):=by omega
   have hn9:n≤200000000:=by
    have:=HLB.out;have:=HMN.out;have h9:(st++[e]).length=n+1:=by rw[hlen,hn]
    omega
   have hw1:IntKind.i64.wrap ((n:Int)+1-1)=(n:Int):=by rw[IntWalk.i64_in _ (by omega)];omega
   have hcast:((n+1:Nat):Int)=(n:Int)+1:=by omega
   have hsl:∀w,(Instr.sliceAt 232 (.slice (some ⟨g,0,none⟩) (n+1) co) none (some (.int .i64 (n:Int))) none).run Tryz.prog w=.ok (.slice (some ⟨g,0,none⟩) n co) w:=fun w=>by
    have h1:(n:Int)≤(co:Int):=by omega
    simp[go_sem,h1]
   have hnl:n<n+1:=by omega
   have HVP:Hid (Vi r0 W wr rb tb s vc vw vb vp1 (.slice am mn cm) (.slice (some ⟨g,0,none⟩) n co) x st):=by have:=HV.out.pop;rwa[hn]at this
   have HPT:Hid (Pth s (Dw r0 rb (.slice am mn cm) (.slice (some ⟨g,0,none⟩) n co)) wr e.pa e.wt e.nd d):=hpt;clear hok hpt HV hmn hn hlen
   go_wp2_with (first|(refine wpList_ixN rfl _ _ rfl rfl rfl hnl ?_)|(refine wpList_loadN rfl _ rfl g (0+n*136) _ HE8.out rfl HRG.out ?_)|(refine wpList_allocN rfl rfl ?_)|(refine wpList_storeN rfl _ _ rfl wr.heap.size rfl rfl HZ.out HE8.out HE1.out ?_))
   intro W2 hk2 hz2 hn2;have hb2:Below wr.heap.size wr W2:=hk2.below ((Below.refl wr.heap.size wr).alloc (Nat.le_refl _) _) (by simp) (fun i hi e=>by omega);have HV2:=Hd (HVP.out.next hb2);have HP2:=Hd (HPT.out.below' hb2);have HN2:=Hd hn2;have HNB:Hid (W.heap.size≤wr.heap.size):=HVP.out.kp.size;have HNM:Hid (∀k,(Value.slice am mn cm).ownBlock=some k→k=wr.heap.size→False):=fun k hk e=>by have:=(HVP.out.ms.lt k hk).2;omega
   clear hk2 hz2 hn2 hb2 HVP HPT HZ HRG HE1;generalize wr.heap.size=nb at HN2 HNB HNM⊢;have hBz:(B:Int)≤1000000:=by omega
   by_cases hfull:mn=B
   ·subst hfull
    have HEND:Hid (∀w',Below W2.heap.size W2 w'→Vend s mn r0 rb W (.returned (.slice am mn cm)) (w'.setCell ⟨rb,2,none⟩ (.bool false))):=fun w' hb=>by
     have hV:=HV2.out.next hb;have he:=HT.out.full HOK.out HMN.out;have hk:Kp (fun k=>k=rb) w' (w'.setCell ⟨rb,2,none⟩ (.bool false)):=(Kp.refl (fun k=>k=rb) w').set rb 2 _ (fun _=>rfl);refine⟨.slice am mn cm,vp1,rfl,?_,?_,?_,hV.kp.trans hk (fun _ _ e=>e)⟩
     ·rw[he];exact hV.ms.keep fun g hg=>hk.block g (hV.ms.lt g hg).2 (fun e=>by have:=(hV.ms.lt g hg).1;have:=hV.lt;omega)
     ·rw[he];exact blk_set hV.rs 2 (.bool false)
     ·rw[he];exact(hV.rl.keep hk.size fun g hg hlt=>hk.block g hlt (fun e=>hg.1.1 e)).mono fun g hg _ _=>⟨hg.1,hg.2.1⟩
    have d2:W2.cell? ⟨rb,2,none⟩=some (.bool true):=HV2.out.cell 2;have f2:=HV2.out.fr 2;have HE:=Hd (HEND.out W2 (Below.refl _ _));clear HEND HV2 HP2 HN2 HT HLB;go_wp2;simp only[Exit.noGoto];go_ret;exact HE.out
   ·have hfz:¬((mn:Int)=(B:Int)):=by omega
    obtain⟨L,HLF⟩:∃l:Nat,Hid (PM.lf e.nd.st=l):=⟨_,Hd rfl⟩;obtain⟨c0,HC0⟩:∃c:Int,Hid (RM.cst s.st s.ws s.cs e.nd.b=c):=⟨_,Hd rfl⟩;obtain⟨xc,HXC⟩:∃c:Int,Hid (x.cost=c):=⟨_,Hd rfl⟩;have hL8:L≤128:=by have h1:PM.lf e.nd.st≤e.nd.st.length:=List.count_le_length;have:=HOK.out.sl;have:=HWL.out;have:=HLF.out;omega
    have hmnB:mn<B:=by omega
    go_wp2_with fail
    have hcell:∀{w':World} {p:Addr} {v:Value},Below W2.drew.heap.size W2.drew w'→W2.cell? p=some v→w'.cell? p=some v:=fun hw h=>(Below.cell ((Below.refl W2.heap.size W2).drew.trans hw) (World.block_lt_of_cell? W2 _ h)).trans h;have HL7:Hid (∀w',Below W2.drew.heap.size W2.drew w'→w'.cell? ⟨nb,7,none⟩=some (.int .i64 (L:Int))):=fun w' hw=>hcell hw (by rw[←HLF.out];exact HN2.out.cell 7);have HL6:Hid (∀w',Below W2.drew.heap.size W2.drew w'→w'.cell? ⟨nb,6,none⟩=some (.int .i64 c0)):=fun w' hw=>hcell hw (by rw[←HC0.out];exact HN2.out.cell 6);have HR1:Hid (∀w',Below W2.drew.heap.size W2.drew w'→w'.cell? ⟨rb,1,none⟩=some (.int .i64 xc)):=fun w' hw=>hcell hw (by rw[←HXC.out];exact HV2.out.cell 1);clear hcell;by_cases hL0:L=0
    ·subst hL0;refine wp_region_tail 12 (by kernel_rfl) (by kernel_rfl) ?_;simp only[List.take_succ_cons,List.take_zero,List.drop_succ_cons,List.drop_zero];unfold wpCalm;generalize hK:wpCalm _ _ _ _ _=K;unfold Oper.calm;go_simp;refine⟨_,fun _ _=>rfl,?_⟩;subst hK;unfold wpCalm;generalize hK:wpCalm _ _ _ _ _=K;rw[if_pos (by go_simp)];refine calm_load3 _ _ _ rfl rfl HL7.out ?_;go_simp;subst hK
     iterate 3 (unfold wpCalm;generalize hK:wpCalm _ _ _ _ _=K;unfold Oper.calm;go_simp;refine⟨_,fun _ _=>rfl,?_⟩;subst hK)
     unfold wpCalm;generalize hK:wpCalm _ _ _ _ _=K;rw[if_pos (by go_simp)];refine calm_load3 _ _ _ rfl rfl HL6.out ?_;go_simp;subst hK
     iterate 3 (unfold wpCalm;generalize hK:wpCalm _ _ _ _ _=K;unfold Oper.calm;go_simp;refine⟨_,fun _ _=>rfl,?_⟩;subst hK)
     unfold wpCalm;generalize hK:wpCalm _ _ _ _ _=K;rw[if_pos (by go_simp)];refine calm_load3 _ _ _ rfl rfl HR1.out ?_;go_simp;subst hK
     iterate 2 (unfold wpCalm;generalize hK:wpCalm _ _ _ _ _=K;unfold Oper.calm;go_simp;refine⟨_,fun _ _=>rfl,?_⟩;subst hK)
     refine wpCalm_nil ?_;intro W3 hb3;have hbd:=(Below.refl W2.heap.size W2).drew.trans hb3;have HV3:=Hd (HV2.out.next hbd);have HP3:=Hd (HP2.out.below' hbd);have HN3:=Hd (HN2.out.below' hbd);clear hbd hb3 HL7 HL6 HR1 HV2 HP2 HN2;by_cases hcc:c0<xc
     ·exact absurd hcc (by rw[←HC0.out,←HXC.out,HX.out,cst_nil (emp_nil HWS.out HOK.out.nb.bs.fr)];omega)
     ·have HT2:Hid (Tgt s B ⟨x.nodes+1,false,x.plan,x.cost,x.marks++[2]⟩ st):=HT.out.leaf HOK.out (by rw[HMN.out];exact hfull) HLF.out (by rw[HC0.out,HXC.out];exact hcc);have d7:W3.cell? ⟨nb,7,none⟩=some (.int .i64 0):=by have h0:=HN3.out.cell 7;rw[h0];show some (Value.int .i64 ((PM.lf e.nd.st:Nat):Int))=_;rw[HLF.out];rfl
      have HA:=Hd (HV3.out.next ((Below.refl W3.heap.size W3).alloc (Nat.le_refl _) (.cells #[.int .u8 2] 5)));have HAM:=Hd HA.out.ms;have HCX:Hid ((W3.alloc (.cells #[.int .u8 2] 5)).cell? ⟨W3.heap.size,0,none⟩=some (.int .u8 ((2:Nat):Int))):=(OY.lit (B:=0) W3 [2] (Nat.zero_le _) (by unfold maxLen;simp)).cell (i:=0) rfl;have HSZ:Hid (W.heap.size≤(W3.alloc (.cells #[.int .u8 2] 5)).heap.size):=HA.out.kp.size;have hm2:x.marks.length≤2000000:=by have:=HMN.out;omega
      go_wp2_with (at_builtin;refine wpList_appY rfl _ _ rfl W.heap.size _ x.marks rfl HAM.out W3.heap.size 1 2 rfl HCX.out hm2 HSZ.out ?_)
      intro g7 c7 W7 ho7 hg7 hat7 hlt7;have hV7:=HA.out.mark (n:=x.nodes+1) (m:=2) hg7 (vm':=.slice (some ⟨g7,0,none⟩) (x.marks.length+1) c7) (q:=g7) rfl (by simpa using hat7) ho7;rw[HMN.out]at hV7⊢;rw[HT.out.2.1]at hV7;have HV7:=Hd hV7
      have HLB2:Hid (st.length≤1+129*(x.marks++[2]).length):=by
       have h1:=HLB.out;rw[List.length_append]at h1;show _≤_;rw[List.length_append];simp at h1⊢;omega
      clear ho7 hg7 hat7 hlt7 hV7 HA HAM HCX HSZ;go_wp2;go_roundw
      case rel=>exact⟨vp1,_,st,HT2,HX,HLB2,HV7⟩
      case measure=>simp[lenS];omega
    ·exact absurd (HLF.out.symm.trans (lf_nil HWS.out HOK.out.sl)) hL0
end
section
variable {D:Nat→Prop} {w:World} {s:Sn} {vc vw:Value}
theorem find_nil{B:Nat}(hws:s.ws=[])(hc:R2 D w vc s.cs)(hw:R2 D w vw s.ws)(hr:rgt s=true)(h1:1≤B)(h2:B≤1000000):
  Calls Tryz.prog 81 #[.agg (nv s.st vc vw).toArray,.int .i64 (B:Int)] w fun e w'=>∃vp vf,e=.returned (.tuple #[.agg #[vp,.int .i64 (fnd s B).cost,.bool (!(fnd s B).ended),.int .i64 ((fnd s B).marks.length:Int),vf],.int .i64 0])∧RL (fun _=>True) w' vp (fnd s B).plan∧OY w' w.heap.size vf (prf (fnd s B))∧Below w.heap.size w w':=by
 have hbx:=(Below.refl w.heap.size w).alloc (Nat.le_refl _) (.cells (nv s.st vc vw).toArray 146);have hb2:=hbx.alloc (by simp) (.cells #[.slice none 0 0,.int .i64 0,.bool false,.int .i64 0,.slice none 0 0] 152);have HG:=Hd (GB.new (w.alloc (.cells (nv s.st vc vw).toArray 146)) (.slice none 0 0) 0 false 0 (.slice none 0 0));have hn:=(NB.new w s.st vc vw).below' ((Below.refl _ (w.alloc (.cells (nv s.st vc vw).toArray 146))).alloc (Nat.le_refl _) (.cells #[.slice none 0 0,.int .i64 0,.bool false,.int .i64 0,.slice none 0 0] 152));have HN:=Hd hn;have HB:=Hd hb2;have HWS:=Hd hws;clear hws;have HF:=Hd (first_yes s D vc vw _ (hc.below' hb2) (hw.below' hb2) hr);have HC:=Hd hc;have HW:=Hd hw;have hsz:(w.alloc (.cells (nv s.st vc vw).toArray 146)).heap.size=w.heap.size+1:=by simp
 rw[hsz]at HG;clear hbx hb2 hsz hn hc hw;have hbd:=fnd_bd (B:=B) hr;obtain⟨x,HX⟩:∃x,Hid (fnd s B=x):=⟨_,Hd rfl⟩;rw[HX.out]at hbd⊢;have HBD:=Hd hbd;clear hbd;have h1z:¬((B:Int)<1):=by omega
 have h2z:¬((1000000:Int)<(B:Int)):=by omega
 go_enter Tryz.func81,Tryz.ntmps81
 go_wp2_with (refine wpList_load27g rfl _ rfl w.heap.size s.st _ _ rfl HN.out ?_)
 refine HF.out.mono ?_;rintro e W2 ⟨hb2,v1,rfl,hrl⟩;obtain⟨a1,k1,rfl,_,_⟩:=hrl.form;have hfl:(ffp s s.ws.length).length=s.cs.length:=(ffp_pw hr _ (Nat.le_refl _)).len;have HFL:=Hd hfl;rw[hfl]at hrl⊢;have HG2:=Hd (HG.out.below' hb2);have HB2:=Hd (below_class HB.out hb2);have HN2:=Hd (HN.out.below' hb2);have HRL:=Hd hrl;have hwl:s.ws.length≤128:=(nd0_ok hr).nb.bs.wl;have hcl:s.cs.length≤8:=by have:=(nd0_ok hr).nb.bs.p8;have:=(nd0_ok hr).nb.bs.pc;omega
 have HCO:=Hd (cost_yes s (fun _=>True) vc vw (.slice a1 s.cs.length k1) (ffp s s.ws.length) W2 ((HC.out.mono fun _ _ _ _=>trivial).below' HB2.out) ((HW.out.mono fun _ _ _ _=>trivial).below' HB2.out) (hrl.mono fun _ _ _ _=>trivial) (ffp_fsb hr) (by omega) (fun l hl=>by have:=ffp_max s.ws.length l hl;omega));clear hb2 hrl hfl HF HN HG HB
 go_wp2_with (refine wpList_load27g rfl _ rfl w.heap.size s.st _ _ rfl HN2.out ?_)
 refine HCO.out.mono ?_;rintro e W3 ⟨rfl,hb3⟩;have HG3:=Hd (HG2.out.below' hb3);have HB3:=Hd (below_class HB2.out hb3);have HN3:=Hd (HN2.out.below' hb3);have HRL3:=Hd (HRL.out.below' hb3);have HG0:Hid (w.heap.size+2≤W3.heap.size):=HG3.out.lt;clear hb3 HG2 HB2 HN2 HRL HCO;obtain⟨ct,HCT⟩:∃c,Hid (RM.cst s.st s.ws s.cs (ffp s s.ws.length)=c):=⟨_,Hd rfl⟩;rw[HCT.out];have HZ:=Hd (GB.new W3 (.slice none 0 0) 0 false 0 (.slice none 0 0))
 go_wp2_with (refine wpList_storeG rfl _ _ rfl W3.heap.size rfl rfl HZ.out ?_)
 intro W4 hk4 hg4;have hb4:Below W3.heap.size W3 W4:=hk4.below ((Below.refl W3.heap.size W3).alloc (Nat.le_refl _) _) (by simp) (fun i hi e=>by omega);have HG4:=Hd (HG3.out.below' hb4);have HB4:=Hd (below_class HB3.out hb4);have HN4:=Hd (HN3.out.below' hb4);have HRL4:=Hd ((HRL3.out.mono (D':=fun g=>w.heap.size+2≤g∧g<W3.heap.size) fun g h hlt _=>⟨by simpa using h,hlt⟩).below' hb4);have HR4:=Hd hg4;clear hb4 hk4 hg4 HG3 HB3 HN3 HRL3 HZ;have HT:=Hd (newTree_nil s (fun g=>g<w.heap.size) vc vw W4 HWS.out ((HC.out.mono (D':=fun g=>g<w.heap.size) fun _ _ h _=>h).below' HB4.out) ((HW.out.mono (D':=fun g=>g<w.heap.size) fun _ _ h _=>h).below' HB4.out) hr)
 go_wp2_with (refine wpList_load27g rfl _ rfl w.heap.size s.st _ _ rfl HN4.out ?_)
 refine HT.out.mono ?_;rintro e W5 ⟨hb5,tb,vb,rfl,htb,htr⟩;have hrb:=HR4.out.lt;have hw3:w.heap.size+2≤W3.heap.size:=by have:=HG0.out;omega
 have hgr:=HR4.out.below' hb5;unfold GB at hgr;rw[←HCT.out]at hgr;have hsz5:=hb5.size;have HV:=Hd (svisit_nil HWS.out (r0:=w.heap.size+1) (B:=B) hgr (by omega) ((HRL4.out.mono (D':=fun g=>g≠W3.heap.size∧g≠w.heap.size+1) fun g h _ _=>by omega).below' hb5) (htr.mono (D':=fun g=>g≠W3.heap.size∧g≠w.heap.size+1) fun g h _=>by omega) h1 h2);have HG5:=Hd (HG4.out.below' hb5);have HB5:=Hd (below_class HB4.out hb5);have HR5:Hid (W3.heap.size<W5.heap.size):=Nat.lt_of_lt_of_le hrb hsz5;clear hb5 htr hgr HT HG4 HB4 HN4 HRL4 HR4 hsz5 hrb htb;generalize W3.heap.size=rb at HV HR5 HG0 hw3⊢
 go_wp2_with fail
 refine HV.out.mono ?_;rintro e W6 ⟨⟨v,vp,rfl,hms,hgr,hrl,hkp⟩⟩;rw[HX.out]at hms hgr hrl;obtain⟨av,kv,rfl⟩:=hms.slice;obtain⟨ap,kp,rfl,_,_⟩:=hrl.form;have hg6:GB W6 rb (.slice ap x.plan.length kp) x.cost (!x.ended) 0 (.slice none 0 0):=hgr;have HG6:=Hd (HG5.out.kp hkp (fun e=>by omega));have HB6:=Hd (hkp.below HB5.out HB5.out.size (fun i hi e=>by omega));have z3:W6.cell? ⟨rb,3,none⟩=some (.int .i64 0):=hg6.cell 3;have y3:=hg6.fr 3;have hk7:Kp (fun k=>k=rb) W6 (W6.setCell ⟨rb,3,none⟩ (.int .i64 (x.marks.length:Int))):=(Kp.refl (fun k=>k=rb) W6).set rb 3 _ (fun _=>rfl);have hg7:GB (W6.setCell ⟨rb,3,none⟩ (.int .i64 (x.marks.length:Int))) rb (.slice ap x.plan.length kp) x.cost (!x.ended) (x.marks.length:Int) (.slice none 0 0):=blk_set hg6 3 _;have hrl7:RL (fun g=>g≠rb∧g≠w.heap.size+1) (W6.setCell ⟨rb,3,none⟩ (.int .i64 (x.marks.length:Int))) (.slice ap x.plan.length kp) x.plan:=(hrl.keep hk7.size fun g hg hlt=>hk7.block g hlt (fun e=>hg.1.1 e)).mono fun g hg _ _=>hg.1;have hms7:OY (W6.setCell ⟨rb,3,none⟩ (.int .i64 (x.marks.length:Int))) 0 (.slice av x.marks.length kv) x.marks:=(hms.keep fun g hg=>hk7.block g (hms.lt g hg).2 (fun e=>by have:=(hms.lt g hg).1;have:=HR5.out;omega)).low;have HPR:=Hd (prove_any (M:=x.marks.length) (w:=W6.setCell ⟨rb,3,none⟩ (.int .i64 (x.marks.length:Int))) ⟨hg7,hrl7.mono fun _ _ _ _=>trivial,hms7⟩ HBD.out.1.1 (by have:=HBD.out.1.2;omega) HBD.out.2.1 HBD.out.2.2.1 (by have:=HBD.out.2.2.2;omega));have HG7:=Hd (HG6.out.kp hk7 (fun e=>by omega));have HB7:=Hd (hk7.below HB6.out HB6.out.size (fun i hi e=>by omega));have HR7:=Hd hg7;have HL7:=Hd hrl7;clear hkp hgr hg6 hms hrl hk7 hg7 hrl7 hms7 HV HG5 HB5 HG6 HB6
 go_wp2_with fail
 clear z3 y3;generalize W6.setCell ⟨rb,3,none⟩ (.int .i64 (x.marks.length:Int))=W7 at HPR HG7 HB7 HR7 HL7⊢;refine HPR.out.mono ?_;rintro e W8 ⟨v8,rfl,ho8,hb8⟩;obtain⟨a8,k8,rfl⟩:=ho8.slice;have hg8:=HR7.out.below' hb8;have z4:W8.cell? ⟨rb,4,none⟩=some (.slice none 0 0):=hg8.cell 4;have y4:=hg8.fr 4;have HS7:Hid (rb<W7.heap.size):=HR7.out.lt;have hk9:Kp (fun k=>k=rb) W8 (W8.setCell ⟨rb,4,none⟩ (.slice a8 (prf x).length k8)):=(Kp.refl (fun k=>k=rb) W8).set rb 4 _ (fun _=>rfl);have HR9:Hid (GB (W8.setCell ⟨rb,4,none⟩ (.slice a8 (prf x).length k8)) rb (.slice ap x.plan.length kp) x.cost (!x.ended) (x.marks.length:Int) (.slice a8 (prf x).length k8)):=blk_set hg8 4 _;have HG9:=Hd ((HG7.out.below' hb8).kp hk9 (fun e=>by omega));have HB9:=Hd (hk9.below (below_class HB7.out hb8) (below_class HB7.out hb8).size (fun i hi e=>by omega));have HL9:Hid (RL (fun g=>g≠rb∧g≠w.heap.size+1) (W8.setCell ⟨rb,4,none⟩ (.slice a8 (prf x).length k8)) (.slice ap x.plan.length kp) x.plan):=(HL7.out.below' hb8).keep hk9.size fun g hg hlt=>hk9.block g hlt (fun e=>hg.1 e);have HO9:Hid (OY (W8.setCell ⟨rb,4,none⟩ (.slice a8 (prf x).length k8)) W7.heap.size (.slice a8 (prf x).length k8) (prf x)):=ho8.keep fun g hg=>hk9.block g (ho8.lt g hg).2 (fun e=>by have:=(ho8.lt g hg).1;have:=HS7.out;omega);have HW7:Hid (w.heap.size+2≤W7.heap.size):=HG7.out.lt;clear ho8 hb8 hg8 hk9 HPR HR7 HG7 HB7 HL7
 go_wp2_with (first|(refine wpList_loadG rfl _ rfl rb rfl HR9.out ?_)|(refine wpList_storeG rfl _ _ rfl (w.heap.size+1) rfl rfl HG9.out ?_))
 intro W10 hk10 hg10;have HB10:=Hd (hk10.below HB9.out HB9.out.size (fun i hi e=>by omega));have HG10:=Hd hg10;have HL10:Hid (RL (fun _=>True) W10 (.slice ap x.plan.length kp) x.plan):=(HL9.out.keep hk10.size fun g hg hlt=>hk10.block g hlt (fun e=>hg.2 e)).mono fun _ _ _ _=>trivial;have HO10:Hid (OY W10 w.heap.size (.slice a8 (prf x).length k8) (prf x)):=(HO9.out.keep fun g hg=>hk10.block g (HO9.out.lt g hg).2 (fun e=>by have:=(HO9.out.lt g hg).1;have:=HW7.out;omega)).less (by have:=HW7.out;omega);clear hk10 hg10 HB9 HG9 HL9 HO9 HR9 z4 y4;go_wp2;exact bodyPost_ret (retG2 Tryz.results81 rfl rfl HG10.out) rfl ⟨_,_,rfl,HL10.out,HO10.out,HB10.out⟩
end
end Go.Proofs.YtlajleogofmkcaaGreat
