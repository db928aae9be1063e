import Derived.Test.YtlajleogofmkcaaGreatQ5
import Derived.Deep.RegionLaw
import Derived.Great.BuildSlice
import Derived.Great.Walk
import Derived.Great.FillDense
import Derived.OrdersIn
import Derived.TacticsIn
set_option maxHeartbeats 8000000
set_option maxRecDepth 100000
namespace Go.Proofs.YtlajleogofmkcaaGreat
structure Sx where
 nodes:Nat
 ended : Bool
 plan:List (List Int)
 cost:Int
 marks:List Nat
def mayk(s:Sn)(k:Nat)(w:Int):Bool:=PM.bt ((msk s)[w.toNat]?.getD 0) k
def lfs(s:Sn)(st:List Bool):List Int:=lfk st s.ws.length
def kids(s:Sn)(go:Nat→List (List Int)→List Bool→Sx→Sx)(k:Nat)(b:List (List Int))(st:List Bool)(l:List Int)(x:Sx):Sx:=
 l.foldl (fun y w=>if mayk s k w=true then go k (PM.add b k w) (st.set w.toNat true) y else y) x
def nxt(go:Nat→List (List Int)→List Bool→Sx→Sx)(k:Nat)(b:List (List Int))(st:List Bool)(x:Sx):Sx:=if k+1<b.length then go (k+1) b st x else x
def vst(s:Sn)(B:Nat)(go:Nat→List (List Int)→List Bool→Sx→Sx)(k:Nat)(b:List (List Int))(st:List Bool)(x:Sx):Sx:=
 if x.ended=true then x
 else if x.nodes=B then⟨x.nodes,true,x.plan,x.cost,x.marks⟩
 else if lfs s st=[]then
  (if RM.cst s.st s.ws s.cs b<x.cost then⟨x.nodes+1,false,b,RM.cst s.st s.ws s.cs b,x.marks++[2]⟩else⟨x.nodes+1,false,x.plan,x.cost,x.marks++[2]⟩)
 else if x.cost≤lsv s k b st then⟨x.nodes+1,false,x.plan,x.cost,x.marks++[0]⟩
 else nxt go k b st (kids s go k b st (lfs s st) ⟨x.nodes+1,false,x.plan,x.cost,x.marks++[1]⟩)
def vis(s:Sn)(B:Nat):Nat→Nat→List (List Int)→List Bool→Sx→Sx
 |0,_,_,_,x=>x
 |f+1,k,b,st,x=>vst s B (vis s B f) k b st x
section
variable {s:Sn} {B:Nat}
theorem kids_rel{R:Sx→Sx→Prop}(h0:∀x,R x x)(ht:∀x y z,R x y→R y z→R x z){go:Nat→List (List Int)→List Bool→Sx→Sx}{k:Nat}{b:List (List Int)}{st:List Bool}:
  ∀(l:List Int),(∀w∈l,mayk s k w=true→∀x,R x (go k (PM.add b k w) (st.set w.toNat true) x))→∀x,R x (kids s go k b st l x)
 |[],_,x=>h0 x
 |w::l,hg,x=>by
  have ih:=kids_rel h0 ht (go:=go) (k:=k) (b:=b) (st:=st) l (fun v hv=>hg v (by simp[hv]));show R x (kids s go k b st l (if mayk s k w=true then go k (PM.add b k w) (st.set w.toNat true) x else x));by_cases hm:mayk s k w=true
  ·rw[if_pos hm];exact ht _ _ _ (hg w (by simp) hm x) (ih _)
  ·rw[if_neg hm];exact ih x
theorem vis_ended(f k:Nat)(b:List (List Int))(st:List Bool)(x:Sx)(h:x.ended=true):vis s B f k b st x=x:=by
 cases f with
 |zero=>rfl
 |succ f=>show vst s B _ k b st x=x;unfold vst;rw[if_pos h]
def Dn(x y:Sx):Prop:=y.cost≤x.cost∧x.nodes≤y.nodes∧(x.ended=true→y=x)
theorem Dn.refl(x:Sx):Dn x x:=⟨Int.le_refl _,Nat.le_refl _,fun _=>rfl⟩
theorem Dn.trans{x y z:Sx}(h:Dn x y)(g:Dn y z):Dn x z:=⟨Int.le_trans g.1 h.1,Nat.le_trans h.2.1 g.2.1,fun e=>by
 have e1:=h.2.2 e;rw[e1]at g
 exact g.2.2 e⟩
structure Sxo(s:Sn)(B:Nat)(x:Sx):Prop where
 fe:fsb s x.plan=true
 co:x.cost=RM.cst s.st s.ws s.cs x.plan
 nb:x.nodes≤B
 en:x.ended=true→x.nodes=B
end
section
variable {s:Sn} {B k:Nat} {b:List (List Int)} {st:List Bool}
theorem bgn_all(hb:bgn s (k:Int) b=some st):rgt s=true∧b.length=s.cs.length∧k<b.length∧(∀(c:Nat) l,b[c]?=some l→k<c→l=[])∧(∀(c:Nat) l,b[c]?=some l→∀x∈l,PM.okx (msk s) c x=true)∧st.length=(msk s).length∧∀w,w<(msk s).length→PM.nb st w=b.flatten.count (w:Int):=by
 have h:=bgn_bs hb;have e:=bgn_runs h.rg h.pc.symm h.kl h.bh;rw[hb]at e;have hr:=PM.runs_some (by simp) e.symm;refine⟨h.rg,h.pc.symm,h.kl,h.bh,fun c l hl x hx=> ?_,hr.2.1,fun w hw=> ?_⟩
 ·have:=hr.1 c l hl x hx;rwa[Nat.zero_add]at this
 ·rw[hr.2.2 w hw,PM.nb_rep,Nat.zero_add]
theorem nb_ext{st st':List Bool}(hl:st.length=st'.length)(h:∀w,w<st.length→PM.nb st w=PM.nb st' w):st=st':=by
 refine List.ext_getElem? fun w=> ?_;by_cases hw:w<st.length
 ·have h1:=h w hw;obtain⟨x,hx⟩:∃x,st[w]?=some x:=⟨_,List.getElem?_eq_getElem hw⟩;obtain⟨y,hy⟩:∃y,st'[w]?=some y:=⟨_,List.getElem?_eq_getElem (by omega)⟩;cases x<;>cases y
  ·rw[hx,hy]
  ·rw[PM.nb_false hx,PM.nb_true hy]at h1;omega
  ·rw[PM.nb_true hx,PM.nb_false hy]at h1;omega
  ·rw[hx,hy]
 ·rw[List.getElem?_eq_none (by omega),List.getElem?_eq_none (by omega)]
theorem bgn_mk(h1:rgt s=true)(h2:b.length=s.cs.length)(h3:k<b.length)(h4:∀(c:Nat) l,b[c]?=some l→k<c→l=[])(h5:∀(c:Nat) l,b[c]?=some l→∀x∈l,PM.okx (msk s) c x=true)(h6:st.length=(msk s).length)(h7:∀w,w<(msk s).length→PM.nb st w=b.flatten.count (w:Int)):bgn s (k:Int) b=some st:=by
 rw[bgn_runs h1 h2 h3 h4];have hnb:∀w,PM.nb st w≤1:=fun w=>by unfold PM.nb;split<;>omega
 obtain⟨st',hst⟩:=PM.runs_ok (ms:=msk s) (p:=b) (c:=0) (st:=List.replicate (msk s).length false) (by simp) (fun d l hd x hx=>by rw[Nat.zero_add];exact h5 d l hd x hx) (fun w hw=>by rw[PM.nb_rep,Nat.zero_add,←h7 w hw];exact hnb w);have hr:=PM.runs_some (by simp) hst
 have e:st'=st:=nb_ext (by rw[hr.2.1,h6]) fun w hw=>by
  have hw2:w<(msk s).length:=by have:=hr.2.1;omega
  rw[hr.2.2 w hw2,PM.nb_rep,Nat.zero_add,h7 w hw2]
 rw[hst,e]
theorem msk_len(s:Sn):(msk s).length=s.ws.length:=by unfold msk;rw[List.length_map]
theorem bgn_add(hb:bgn s (k:Int) b=some st){w:Nat}(hw:w<s.ws.length)(hs:st[w]?=some false)(hm:mayk s k (w:Int)=true):bgn s (k:Int) (PM.add b k (w:Int))=some (st.set w true):=by
 obtain⟨h1,h2,h3,h4,h5,h6,h7⟩:=bgn_all hb;have hml:=msk_len s;have hlen:(PM.add b k (w:Int)).length=b.length:=by unfold PM.add;rw[List.length_set]
 have hget:∀(c:Nat) l,(PM.add b k (w:Int))[c]?=some l→(c≠k∧b[c]?=some l)∨(c=k∧l=b[k]?.getD []++[(w:Int)]):=fun c l hl=>by
  unfold PM.add at hl;by_cases e:k=c
  ·subst e;rw[List.getElem?_set_self h3]at hl;cases hl;exact .inr ⟨rfl,rfl⟩
  ·rw[List.getElem?_set_ne e]at hl;exact .inl ⟨fun h=>e h.symm,hl⟩
 refine bgn_mk h1 (by rw[hlen,h2]) (by rw[hlen];exact h3) (fun c l hl hc=> ?_) (fun c l hl x hx=> ?_) (by rw[List.length_set];exact h6) (fun v hv=> ?_)
 ·rcases hget c l hl with⟨_,h⟩|⟨e,_⟩
  ·exact h4 c l h hc
  ·omega
 ·rcases hget c l hl with⟨_,h⟩|⟨e,e2⟩
  ·exact h5 c l h x hx
  ·subst e;rw[e2,List.mem_append,List.mem_singleton]at hx;rcases hx with hx|hx
   ·exact h5 c _ (List.getElem?_eq_getElem h3) x (by rw[List.getElem?_eq_getElem h3]at hx;exact hx)
   ·rw[hx];exact PM.okx_iff.2 ⟨by omega,by omega,hm⟩
 ·rw[PM.nb_set (by omega) hs,h7 v hv,PM.count_add h3]
  congr 1
  by_cases e:v=w
  ·subst e;simp
  ·rw[if_neg e,if_neg (by omega)]
theorem bgn_next(hb:bgn s (k:Int) b=some st)(hk:k+1<b.length):bgn s ((k+1:Nat):Int) b=some st:=by
 obtain⟨h1,h2,_,h4,h5,h6,h7⟩:=bgn_all hb;exact bgn_mk h1 h2 hk (fun c l hl hc=>h4 c l hl (by omega)) h5 h6 h7
theorem lfs_mem{x:Int}:x∈lfs s st↔∃w:Nat,x=(w:Int)∧w<s.ws.length∧st[w]?=some false:=lfk_mem
theorem bgn_leaf(hb:bgn s (k:Int) b=some st)(hl:lfs s st=[]):fsb s b=true:=by
 obtain⟨h1,h2,h3,h4,h5,h6,h7⟩:=bgn_all hb;have hr:=bgn_runs h1 h2 h3 h4;rw[hb]at hr
 have hall:st.all id=true:=by
  rw[List.all_eq_true];intro x hx;obtain⟨w,hw⟩:=List.getElem?_of_mem hx;cases x with
  |true=>rfl
  |false=>
   have:(w:Int)∈lfs s st:=lfs_mem.2 ⟨w,rfl,by have:=(List.getElem?_eq_some_iff.1 hw).1;have:=msk_len s;omega,hw⟩;rw[hl]at this;simp at this
 unfold fsb PM.feas;rw[←hr,h1,h2];simp[hall]
theorem vis_ok:∀(f:Nat) {k:Nat} {b:List (List Int)} {st:List Bool} (x:Sx),bgn s (k:Int) b=some st→Sxo s B x→Sxo s B (vis s B f k b st x)
 |0,_,_,_,_,_,h=>h
 |f+1,k,b,st,x,hb,h=>by
  show Sxo s B (vst s B (vis s B f) k b st x);unfold vst;by_cases h1:x.ended=true
  ·rw[if_pos h1];exact h
  ·rw[if_neg h1];by_cases h2:x.nodes=B
   ·rw[if_pos h2];exact⟨h.fe,h.co,h.nb,fun _=>h2⟩
   ·rw[if_neg h2];have hnb:x.nodes+1≤B:=by have:=h.nb;omega
    have hno:∀{n:Nat},(false=true→n=B):=fun e=>by cases e
    by_cases h3:lfs s st=[]
    ·rw[if_pos h3];by_cases h4:RM.cst s.st s.ws s.cs b<x.cost
     ·rw[if_pos h4];exact⟨bgn_leaf hb h3,rfl,hnb,hno⟩
     ·rw[if_neg h4];exact⟨h.fe,h.co,hnb,hno⟩
    ·rw[if_neg h3];by_cases h5:x.cost≤lsv s k b st
     ·rw[if_pos h5];exact⟨h.fe,h.co,hnb,hno⟩
     ·rw[if_neg h5]
      have hk:=kids_rel (s:=s) (R:=fun x y=>Sxo s B x→Sxo s B y) (fun _ h=>h) (fun _ _ _ h g e=>g (h e)) (go:=vis s B f) (k:=k) (b:=b) (st:=st) (lfs s st) (fun w hw hm y hy=>by
       obtain⟨v,rfl,hv,hs⟩:=lfs_mem.1 hw
       exact vis_ok f y (by rw[Int.toNat_natCast];exact bgn_add hb hv hs hm) hy) ⟨x.nodes+1,false,x.plan,x.cost,x.marks++[1]⟩ ⟨h.fe,h.co,hnb,hno⟩
      unfold nxt;split
      ·rename_i hlt;exact vis_ok f _ (bgn_next hb hlt) hk
      ·exact hk
end
section
variable {s:Sn} {B k:Nat} {b p:List (List Int)} {st:List Bool}
theorem lsv_leaf(hl:lfs s st=[]):lsv s k b st=RM.cst s.st s.ws s.cs b:=by
 unfold lsv;rw[show lfk st s.ws.length=[]from hl];simp
theorem lfk_count(st:List Bool):∀(k:Nat),k≤st.length→(lfk st k).length=(st.take k).count false
 |0,_=>by simp[lfk]
 |k+1,h=>by
  obtain⟨x,hx⟩:∃x,st[k]?=some x:=⟨_,List.getElem?_eq_getElem (by omega)⟩;rw[lfk_succ,List.length_append,lfk_count st k (by omega),List.take_add_one,hx,Option.toList_some,List.count_append];cases x<;>simp
theorem lfs_length(h:st.length=s.ws.length):(lfs s st).length=PM.lf st:=by
 unfold lfs PM.lf;rw[lfk_count st _ (by omega),List.take_of_length_le (by omega)]
end
def tend(s:Sn)(p:List (List Int))(w:Int)(c:Nat):Int:=RM.ar s.st (RM.go s.st (RM.bg (s.cs[c]?.getD (0,0))) ((p[c]?.getD []).map (RM.wf s.ws))) (RM.wf s.ws w)
def fcar(s:Sn)(p:List (List Int))(w:Int):Nat→Int×Int
 |0=>(-1,0)
 |c+1=>if mayk s c w=true∧((fcar s p w c).1<0∨tend s p w c<(fcar s p w c).2)then((c:Int),tend s p w c)else fcar s p w c
def ffp(s:Sn):Nat→List (List Int)
 |0=>List.replicate s.cs.length []
 |w+1=>PM.add (ffp s w) (fcar s (ffp s w) (w:Int) s.cs.length).1.toNat (w:Int)
section
variable {s:Sn} {p:List (List Int)} {w:Int}
theorem fcar_some:∀(n:Nat),((fcar s p w n).1<0∧∀c,c<n→mayk s c w=false)∨∃c:Nat,(fcar s p w n).1=(c:Int)∧c<n∧mayk s c w=true
 |0=>.inl ⟨by show(-1:Int)<0;decide,fun c h=>by omega⟩
 |n+1=>by
  unfold fcar;by_cases h:mayk s n w=true∧((fcar s p w n).1<0∨tend s p w n<(fcar s p w n).2)
  ·rw[if_pos h];exact .inr ⟨n,rfl,by omega,h.1⟩
  ·rw[if_neg h];rcases fcar_some n with⟨h1,h2⟩|⟨c,h1,h2,h3⟩
   ·left;refine⟨h1,fun c hc=> ?_⟩;by_cases e:c=n
    ·subst e;cases hm:mayk s c w with
     |false=>rfl
     |true=>exact absurd ⟨hm,.inl h1⟩ h
    ·exact h2 c (by omega)
   ·exact .inr ⟨c,h1,by omega,h3⟩
theorem bt_some:∀(n m:Nat),0<m→m<2^n→∃c,c<n∧PM.bt m c=true
 |0,m,h0,h1=>by simp at h1;omega
 |n+1,m,h0,h1=>by
  by_cases h:m%2=1
  ·exact⟨0,by omega,by unfold PM.bt;simp[h]⟩
  ·have h2:2^(n+1)=2*2^n:=by rw[Nat.pow_succ,Nat.mul_comm]
   obtain⟨c,hc,hb⟩:=bt_some n (m/2) (by omega) (by omega);refine⟨c+1,by omega,?_⟩;unfold PM.bt at hb⊢;rw[Nat.pow_succ,Nat.mul_comm,←Nat.div_div_eq_div_mul];exact hb
theorem has_car(hr:rgt s=true){w:Nat}(hw:w<s.ws.length):∃c,c<s.cs.length∧mayk s c (w:Int)=true:=by
 obtain⟨n,hrs⟩:=rgt_rs hr;obtain⟨y,hy⟩:∃y,s.ws[w]?=some y:=⟨_,List.getElem?_eq_getElem hw⟩;obtain⟨m,hm,hym⟩:=hrs.mm.eq w y hy
 have h0:0<m:=by
  have h1:=hr;unfold rgt at h1;simp only[Bool.and_eq_true,List.all_eq_true]at h1;have:=(wok_iff'.1 (h1.2 y (List.mem_of_getElem? hy))).2.2.1;omega
 obtain⟨c,hc,hb⟩:=bt_some n m h0 (hrs.lt m (List.mem_of_getElem? hm));refine⟨c,by have:=hrs.cl;omega,?_⟩;unfold mayk;rw[Int.toNat_natCast,hm];exact hb
structure Pw(s:Sn)(w:Nat)(p:List (List Int)):Prop where
 len:p.length=s.cs.length
 ok:∀(c:Nat) l,p[c]?=some l→∀x∈l,PM.okx (msk s) c x=true
 cnt:∀v:Nat,p.flatten.count (v:Int)=if v<w then 1 else 0
theorem flat_rep(n:Nat):(List.replicate n ([]:List Int)).flatten=[]:=by
 induction n with
 |zero=>rfl
 |succ n ih=>rw[List.replicate_succ,List.flatten_cons,ih];rfl
theorem Pw.zero(s:Sn):Pw s 0 (List.replicate s.cs.length []):=by
 refine⟨by simp,fun c l hl x hx=> ?_,fun v=>by rw[flat_rep];simp⟩;rw[List.getElem?_replicate]at hl;split at hl
 ·cases hl;simp at hx
 ·cases hl
theorem Pw.add{w c:Nat}(h:Pw s w p)(hc:c<s.cs.length)(hw:w<s.ws.length)(hm:mayk s c (w:Int)=true):Pw s (w+1) (PM.add p c (w:Int)):=by
 have hcp:c<p.length:=by rw[h.len];exact hc
 have hml:=msk_len s;refine⟨by unfold PM.add;rw[List.length_set];exact h.len,fun d l hl x hx=> ?_,fun v=> ?_⟩
 ·unfold PM.add at hl;by_cases e:c=d
  ·subst e;rw[List.getElem?_set_self hcp]at hl;cases hl;rw[List.mem_append,List.mem_singleton,List.getElem?_eq_getElem hcp,Option.getD_some]at hx;rcases hx with hx|hx
   ·exact h.ok c _ (List.getElem?_eq_getElem hcp) x hx
   ·rw[hx];exact PM.okx_iff.2 ⟨by omega,by omega,hm⟩
  ·rw[List.getElem?_set_ne e]at hl;exact h.ok d l hl x hx
 ·rw[PM.count_add hcp,h.cnt v];by_cases e:w=v
  ·subst e;simp
  ·rw[if_neg (c:=(w:Int)=(v:Int)) (by omega)];by_cases h2:v<w
   ·rw[if_pos h2,if_pos (by omega)]
   ·rw[if_neg h2,if_neg (by omega)]
theorem Pw.fsb(hr:rgt s=true)(h:Pw s s.ws.length p):fsb s p=true:=by
 have hml:=msk_len s;have hf:PM.feas (msk s) p=true:=PM.feas_iff.2 ⟨h.ok,fun w hw=>by rw[h.cnt w,if_pos (by omega)]⟩;unfold Go.Proofs.YtlajleogofmkcaaGreat.fsb;rw[hr,hf,h.len];simp
theorem ffp_pw(hr:rgt s=true):∀w,w≤s.ws.length→Pw s w (ffp s w)
 |0,_=>Pw.zero s
 |w+1,h=>by
  have ih:=ffp_pw hr w (by omega);rcases fcar_some (s:=s) (p:=ffp s w) (w:=(w:Int)) s.cs.length with⟨_,h2⟩|⟨c,h1,h2,h3⟩
  ·obtain⟨c,hc,hm⟩:=has_car hr (w:=w) (by omega);rw[h2 c hc]at hm;cases hm
  ·show Pw s (w+1) (PM.add (ffp s w) (fcar s (ffp s w) (w:Int) s.cs.length).1.toNat (w:Int));rw[h1,Int.toNat_natCast];exact ih.add h2 (by omega) h3
theorem ffp_fsb(hr:rgt s=true):fsb s (ffp s s.ws.length)=true:=(ffp_pw hr _ (Nat.le_refl _)).fsb hr
structure Best(s:Sn)(n:Int):Prop where
 some:∃p,fsb s p=true∧RM.cst s.st s.ws s.cs p=n
 least:∀p,fsb s p=true→n≤RM.cst s.st s.ws s.cs p
theorem Best.one{m n:Int}(h:Best s m)(g:Best s n):m=n:=by
 obtain⟨p,hp,e⟩:=h.some;obtain⟨q,hq,e'⟩:=g.some;have h1:=h.least q hq;have h2:=g.least p hp;omega
def root(s:Sn):Sx:=⟨0,false,ffp s s.ws.length,RM.cst s.st s.ws s.cs (ffp s s.ws.length),[]⟩
def fnd(s:Sn)(B:Nat):Sx:=vis s B (s.cs.length+s.ws.length) 0 (List.replicate s.cs.length []) (List.replicate s.ws.length false) (root s)
theorem root_bgn(hr:rgt s=true):bgn s ((0:Nat):Int) (List.replicate s.cs.length [])=some (List.replicate s.ws.length false):=by
 obtain⟨n,hrs⟩:=rgt_rs hr;have hml:=msk_len s;have hn1:=hrs.n1;have hcl:=hrs.cl;refine bgn_mk hr (by simp) (by rw[List.length_replicate];omega) (fun c l hl _=> ?_) (Pw.zero s).ok (by rw[List.length_replicate,hml]) (fun w hw=>by rw[PM.nb_rep,flat_rep];simp);rw[List.getElem?_replicate]at hl;split at hl
 ·cases hl;rfl
 ·cases hl
theorem root_ok(hr:rgt s=true)(B:Nat):Sxo s B (root s):=⟨ffp_fsb hr,rfl,Nat.zero_le _,fun h=>by cases h⟩
theorem fnd_ok(hr:rgt s=true)(B:Nat):Sxo s B (fnd s B):=vis_ok _ _ (root_bgn hr) (root_ok hr B)
end
structure Nn where
 k:Nat
 b:List (List Int)
 st:List Bool
def Nn.m(n:Nn):Nat:=n.b.length-n.k+PM.lf n.st
def vm(s:Sn)(B:Nat)(x:Sx)(n:Nn):Sx:=vis s B n.m n.k n.b n.st x
def grw(n:Nn)(w:Nat):Nn:=⟨n.k,PM.add n.b n.k (w:Int),n.st.set w true⟩
def nxc(n:Nn):Nn:=⟨n.k+1,n.b,n.st⟩
def Nn.ok(s:Sn)(n:Nn):Prop:=bgn s (n.k:Int) n.b=some n.st
section
variable {s:Sn} {B:Nat} {n:Nn} {x:Sx}
theorem Nn.ok.grw(h:n.ok s){w:Nat}(hw:w<s.ws.length)(h1:n.st[w]?=some false)(h2:mayk s n.k (w:Int)=true):(grw n w).ok s:=bgn_add h hw h1 h2
theorem Nn.ok.nxc(h:n.ok s)(hk:n.k+1<n.b.length):(nxc n).ok s:=bgn_next h hk
theorem Nn.ok.kl(h:n.ok s):n.k<n.b.length:=(bgn_all h).2.2.1
theorem Nn.ok.bl(h:n.ok s):n.b.length=s.cs.length:=(bgn_all h).2.1
theorem Nn.ok.sl(h:n.ok s):n.st.length=s.ws.length:=by rw[(bgn_all h).2.2.2.2.2.1,msk_len]
theorem vm_ended(h:x.ended=true)(n:Nn):vm s B x n=x:=vis_ended _ _ _ _ _ h
theorem vms_ended(h:x.ended=true):∀(l:List Nn),l.foldl (vm s B) x=x
 |[]=>rfl
 |n::l=>by rw[List.foldl_cons,vm_ended h,vms_ended h l]
theorem vm_vst(h:n.ok s):∃f,f+1=n.m∧vm s B x n=vst s B (vis s B f) n.k n.b n.st x:=by
 have:=h.kl;obtain⟨f,hf⟩:∃f,f+1=n.m:=⟨n.m-1,by unfold Nn.m;omega⟩;refine⟨f,hf,?_⟩;unfold vm;rw[←hf];rfl
theorem vm_full(h:n.ok s)(h1:x.ended=false)(h2:x.nodes=B):vm s B x n=⟨x.nodes,true,x.plan,x.cost,x.marks⟩:=by
 obtain⟨f,_,e⟩:=vm_vst (B:=B) (x:=x) h;rw[e];unfold vst;rw[if_neg (by rw[h1];simp),if_pos h2]
theorem vm_leaf(h:n.ok s)(h1:x.ended=false)(h2:x.nodes≠B)(h3:lfs s n.st=[])(h4:¬RM.cst s.st s.ws s.cs n.b<x.cost):vm s B x n=⟨x.nodes+1,false,x.plan,x.cost,x.marks++[2]⟩:=by
 obtain⟨f,_,e⟩:=vm_vst (B:=B) (x:=x) h;rw[e];unfold vst;rw[if_neg (by rw[h1];simp),if_neg h2,if_pos h3,if_neg h4]
theorem vm_cut(h:n.ok s)(h1:x.ended=false)(h2:x.nodes≠B)(h3:lfs s n.st≠[])(h4:x.cost≤lsv s n.k n.b n.st):vm s B x n=⟨x.nodes+1,false,x.plan,x.cost,x.marks++[0]⟩:=by
 obtain⟨f,_,e⟩:=vm_vst (B:=B) (x:=x) h;rw[e];unfold vst;rw[if_neg (by rw[h1];simp),if_neg h2,if_neg h3,if_pos h4]
def nd0(s:Sn):Nn:=⟨0,List.replicate s.cs.length [],List.replicate s.ws.length false⟩
theorem nd0_ok(hr:rgt s=true):(nd0 s).ok s:=root_bgn hr
theorem fnd_vm:fnd s B=vm s B (root s) (nd0 s):=by
 unfold fnd vm
 have e:(nd0 s).m=s.cs.length+s.ws.length:=by
  unfold Nn.m nd0 PM.lf;simp
 rw[e];rfl
theorem left_nil(h:n.ok s):lfs s n.st=[]↔PM.lf n.st=0:=by
 rw[←lfs_length h.sl];exact List.length_eq_zero_iff.symm
def sat(s:Sn)(n:Nn):RM.Sp:=RM.go s.st (RM.bg (s.cs[n.k]?.getD (0,0))) ((n.b[n.k]?.getD []).map (RM.wf s.ws))
theorem sat_eq{r:Int×Int}{l:List Int}(h1:s.cs[n.k]?=some r)(h2:n.b[n.k]?=some l):sat s n=RM.go s.st (RM.bg r) (l.map (RM.wf s.ws)):=by unfold sat;rw[h1,h2];rfl
theorem sat_nd0{r:Int×Int}(hr:s.cs[0]?=some r):sat s (nd0 s)=RM.bg r:=by
 have hk:0<s.cs.length:=(List.getElem?_eq_some_iff.1 hr).1;unfold sat nd0;simp only;rw[hr,List.getElem?_replicate,if_pos hk];rfl
end
structure Nb(s:Sn)(n:Nn):Prop where
 bs:Bs s n.k n.b n.st
 ll:∀l∈n.b,l.length≤128
 sk:RM.Ok s.st (sat s n)
 sl:(sat s n).le≤100000000
 c0:0≤RM.cst s.st s.ws s.cs n.b
 c1:RM.cst s.st s.ws s.cs n.b≤800000000000
section
variable {s:Sn} {n:Nn}
theorem Nn.ok.ll(h:n.ok s):∀l∈n.b,l.length≤128:=fun l hl=>by
 have ha:=bgn_all h;have hb:=bgn_bs h;obtain⟨c,hc⟩:=List.getElem?_of_mem hl
 have hnd:l.Nodup:=by
  rw[List.nodup_iff_count];intro a;by_cases hm:a∈l
  ·have hx:=PM.okx_iff.1 (ha.2.2.2.2.1 c l hc a hm);have:=ha.2.2.2.2.2.2 a.toNat (by omega);rw[Int.toNat_of_nonneg (by omega)]at this;have h1:PM.nb n.st a.toNat≤1:=by unfold PM.nb;split<;>omega
   have h2:l.count a≤n.b.flatten.count a:=(List.sublist_flatten_of_mem hl).count_le a;omega
  ·rw[List.count_eq_zero_of_not_mem hm];omega
 have hsum:=RM.sum_sr (n:=s.ws.length) (fun _=>1) hnd (fun x hx=>hb.fr x (List.mem_flatten.2 ⟨l,hl,hx⟩));have hle:=RM.sr_le (n:=s.ws.length) (f:=fun w=>if(w:Int)∈l then 1 else 0) (g:=fun _=>1) (fun i _=>by split<;>omega)
 have hone:∀m:Nat,RM.sr m (fun _=>1)=(m:Int):=fun m=>by
  induction m with
  |zero=>rfl
  |succ m ih=>rw[RM.sr,ih];omega
 have hlen:∀m:List Int,(m.map fun _=>(1:Int)).sum=(m.length:Int):=fun m=>by
  induction m with
  |nil=>rfl
  |cons a m ih=>rw[List.map_cons,List.sum_cons,ih,List.length_cons];omega
 rw[hlen]at hsum;rw[hone]at hle;have:=hb.wl;omega
theorem Nn.ok.nb(h:n.ok s):Nb s n:=by
 have hb:=bgn_bs h;have ll:=h.ll;have hll:∀l∈n.b,l.length≤1000:=fun l hl=>by have:=ll l hl;omega
 have hc:=cst_bd hb hll;obtain⟨l,hl⟩:∃l,n.b[n.k]?=some l:=⟨_,List.getElem?_eq_getElem h.kl⟩;obtain⟨r,hr⟩:∃r,s.cs[n.k]?=some r:=⟨_,List.getElem?_eq_getElem (by have:=h.kl;have:=h.bl;omega)⟩;have hall:∀x∈l,0≤x∧x<s.ws.length:=fun x hx=>hb.fr x (List.mem_flatten.2 ⟨l,List.mem_of_getElem? hl,hx⟩);have hin:=hb.rz.inn (l:=l) hall;have ok0:=hb.rz.cr r (List.mem_of_getElem? hr);refine⟨hb,ll,?_,?_,hc.1,hc.2⟩
 ·rw[sat_eq hr hl];exact RM.go_ok hb.rz.rt ok0 hin
 ·rw[sat_eq hr hl];have g3:=RM.go_le hb.rz.rt ok0 hin;rw[List.length_map]at g3;have g7:(RM.bg r).le=r.2:=rfl;have:=hb.af r (List.mem_of_getElem? hr);have:=ll l (List.mem_of_getElem? hl);omega
theorem cst_nil0(s:Sn):∀(n:Nat) (cs:List (Int×Int)),RM.cst s.st s.ws cs (List.replicate n [])=0
 |0,cs=>by rw[List.replicate_zero,RM.cst_nil]
 |n+1,[]=>rfl
 |n+1,r::cs=>by rw[List.replicate_succ,RM.cst_cons,cst_nil0 s n cs];rfl
end
def one1(s:Sn)(y:Int×Int):Sn:=⟨s.st,s.cs,[y]⟩
def alo(s:Sn)(k:Nat)(y:Int×Int):Int:=if k<s.cs.length then lsv (one1 s y) k (List.replicate s.cs.length []) [false]else 1099511627776
section
variable {s:Sn} {n:Nn}
end
def bhd(s:Sn):List (List Int):=(List.range s.cs.length).map fun k=>s.ws.map fun y=>alo s (k+1) y
theorem bhd_get(s:Sn){k:Nat}(hk:k<s.cs.length):(bhd s)[k]?=some (s.ws.map fun y=>alo s (k+1) y):=by
 unfold bhd;rw[List.getElem?_map,List.getElem?_range hk];rfl
theorem bhd_length(s:Sn):(bhd s).length=s.cs.length:=by unfold bhd;simp
open Go.RowKit Go.Shelf
structure OW(W:World)(B g:Nat)(us:List Value)(p:List (List Int)):Prop where
 hl:W.heap[g]?=some (.cells us.toArray 52 (0,0))
 len:us.length=p.length
 li:∀(c:Nat) u l,us[c]?=some u→p[c]?=some l→OI W B u l
 bg:B≤g
 ne:∀(c:Nat) u,us[c]?=some u→u.ownBlock≠some g
 dj:∀(c d:Nat) u v k,us[c]?=some u→us[d]?=some v→u.ownBlock=some k→v.ownBlock=some k→c=d
section
variable {W W':World} {B g:Nat} {us:List Value} {p:List (List Int)}
theorem OW.lt(h:OW W B g us p):g<W.heap.size:=(Array.getElem?_eq_some_iff.1 h.hl).1
theorem OW.next(h:OW W B g us p)(hb:Below W.heap.size W W'):OW W' B g us p:=
 ⟨(hb.block g h.lt).trans h.hl,h.len,fun c u l hu hl=>(h.li c u l hu hl).below' hb,h.bg,h.ne,h.dj⟩
theorem OW.mono{B':Nat}(h:OW W B g us p)(hB:B'≤B):OW W B' g us p:=
 ⟨h.hl,h.len,fun c u l hu hl=>(h.li c u l hu hl).mono hB,by have:=h.bg;omega,h.ne,h.dj⟩
theorem OW.make(W:World)(n:Nat)(hB:B≤W.heap.size):OW (W.alloc (.cells (List.replicate n (Value.slice none 0 0)).toArray 52)) B W.heap.size (List.replicate n (Value.slice none 0 0)) (List.replicate n []):=by
 have hn:∀(c:Nat) u,(List.replicate n (Value.slice none 0 0))[c]?=some u→u=Value.slice none 0 0:=fun c u hu=>by
  rw[List.getElem?_replicate]at hu;split at hu
  ·cases hu;rfl
  ·cases hu
 refine⟨World.alloc_heap_new W _,by simp,fun c u l hu hl=> ?_,hB,fun c u hu=> ?_,fun c d u v k hu hv hk _=> ?_⟩
 ·rw[hn c u hu];rw[List.getElem?_replicate]at hl;split at hl
  ·cases hl;exact OI.nil _ _
  ·cases hl
 ·rw[hn c u hu];simp[Value.ownBlock]
 ·rw[hn c u hu]at hk;simp[Value.ownBlock]at hk
theorem OW.rl{D:Nat→Prop}(h:OW W B g us p)(hD:∀k,B≤k→D k):RL D W (.slice (some ⟨g,0,none⟩) p.length p.length) p:=by
 refine⟨_,_,rfl,Nat.le_refl _,(fun e=>by cases e),.inr ⟨g,0,rfl,hD g h.bg,h.lt,fun i l hl=> ?_⟩⟩;have hi:i<p.length:=(List.getElem?_eq_some_iff.1 hl).1;obtain⟨u,hu⟩:∃u,us[i]?=some u:=⟨_,List.getElem?_eq_getElem (by rw[h.len];exact hi)⟩;have ho:=h.li i u l hu hl;exact⟨u,by rw[Nat.zero_add];exact(blk_cell h.hl i).trans hu,ho.ri fun k hk=>hD k (ho.lt k hk).1⟩
theorem OW.add(h:OW W B g us p){c:Nat}{u u':Value}{l:List Int}{x:Int}(hu:us[c]?=some u)(hl:p[c]?=some l)(hg:W.grownBy W' u.ownBlock){q:Nat}(hq:u'.ownBlock=some q)(hor:u.ownBlock=some q∨q=W.heap.size)(ho:OI W' B u' (l++[x])):OW (W'.setCell ⟨g,c,none⟩ u') B g (us.set c u') (PM.add p c x):=by
 have hlt:=h.lt;have hcl:c<us.length:=(List.getElem?_eq_some_iff.1 hu).1;have hcp:c<p.length:=(List.getElem?_eq_some_iff.1 hl).1;have hgb:W'.heap[g]?=W.heap[g]?:=hg.block g hlt (fun e=>h.ne c u hu e.symm);have keep:∀j,j≠g→(W'.setCell ⟨g,c,none⟩ u').heap[j]?=W'.heap[j]?:=fun j hj=>Below.heap_setCell W' ⟨g,c,none⟩ _ j hj
 have hqg:q≠g:=fun e=>by
  subst e;rcases hor with e|e
  ·exact h.ne c u hu e
  ·omega
 have hold:∀(d:Nat) v l',d≠c→us[d]?=some v→p[d]?=some l'→OI (W'.setCell ⟨g,c,none⟩ u') B v l':=fun d v l' hdc hv hl'=>by
  have ho':=h.li d v l' hv hl';refine ho'.keep fun k hk=> ?_;rw[keep k (fun e=>by subst e;exact h.ne d v hv hk)];exact hg.block k (ho'.lt k hk).2 (fun e=>hdc (h.dj d c v u k hv hu hk e.symm))
 have hdis:∀(d:Nat) v,d≠c→us[d]?=some v→v.ownBlock≠some q:=fun d v hdc hv e=>by
  rcases hor with e'|e'
  ·exact hdc (h.dj d c v u q hv hu e e')
  ·obtain⟨l',hl'⟩:∃l',p[d]?=some l':=⟨_,List.getElem?_eq_getElem (by rw[←h.len];exact(List.getElem?_eq_some_iff.1 hv).1)⟩;have:=((h.li d v l' hv hl').lt q e).2;omega
 have hpl:p[c]?.getD []=l:=by rw[hl];rfl
 refine⟨blk_set (hgb.trans h.hl) c u',by unfold PM.add;rw[List.length_set,List.length_set];exact h.len,fun d v l' hv hl'=> ?_,h.bg,fun d v hv=> ?_,fun d e v v' k hv hv' hk hk'=> ?_⟩
 ·unfold PM.add at hl';by_cases e:c=d
  ·subst e;rw[List.getElem?_set_self hcl]at hv;rw[List.getElem?_set_self hcp,hpl]at hl';cases hv;cases hl'
   exact ho.keep fun k hk=>keep k (fun e=>by
    subst e;rw[hq]at hk;cases hk
    exact hqg rfl)
  ·rw[List.getElem?_set_ne e]at hv hl';exact hold d v l' (fun h=>e h.symm) hv hl'
 ·by_cases e:c=d
  ·subst e;rw[List.getElem?_set_self hcl]at hv;cases hv;rw[hq];exact fun e=>hqg (by cases e;rfl)
  ·rw[List.getElem?_set_ne e]at hv;exact h.ne d v hv
 ·by_cases e1:c=d
  ·by_cases e2:c=e
   ·omega
   ·subst e1;rw[List.getElem?_set_self hcl]at hv;rw[List.getElem?_set_ne e2]at hv';cases hv;rw[hq]at hk;cases hk;exact absurd hk' (hdis e v' (fun h=>e2 h.symm) hv')
  ·by_cases e2:c=e
   ·subst e2;rw[List.getElem?_set_self hcl]at hv';rw[List.getElem?_set_ne e1]at hv;cases hv';rw[hq]at hk';cases hk';exact absurd hk (hdis d v (fun h=>e1 h.symm) hv)
   ·rw[List.getElem?_set_ne e1]at hv;rw[List.getElem?_set_ne e2]at hv';exact h.dj d e v v' k hv hv' hk hk'
end
section
variable {s:Sn}
theorem add_max{p:List (List Int)}{c n:Nat}{x:Int}(h:∀l∈p,l.length≤n):∀l∈PM.add p c x,l.length≤n+1:=fun l hl=>by
 unfold PM.add at hl;rcases List.mem_or_eq_of_mem_set hl with hl|hl
 ·exact Nat.le_succ_of_le (h l hl)
 ·subst hl;rw[List.length_append,List.length_singleton];cases hc:p[c]? with
  |none=>simp
  |some m=>
   have:=h m (List.mem_of_getElem? hc);simp only[Option.getD_some];omega
theorem ffp_max:∀(w:Nat),∀l∈ffp s w,l.length≤w
 |0,l,hl=>by
  have:=List.eq_of_mem_replicate (show l∈List.replicate s.cs.length []from hl);subst this;exact Nat.le_refl _
 |w+1,l,hl=>add_max (ffp_max w) l hl
theorem tend_at{p:List (List Int)}{w:Int}{c:Nat}{r:Int×Int}{l:List Int}(hr:s.cs[c]?=some r)(hl:p[c]?=some l):tend s p w c=RM.ar s.st (RM.go s.st (RM.bg r) (l.map (RM.wf s.ws))) (RM.wf s.ws w):=by
 unfold tend;rw[hr,hl];rfl
theorem fcar_no{p:List (List Int)}{w:Int}{c:Nat}(h:mayk s c w=false):fcar s p w (c+1)=fcar s p w c:=by
 show(if _ then _ else _)=_;rw[if_neg (fun h'=>by rw[h]at h';cases h'.1)]
theorem fcar_yes{p:List (List Int)}{w:Int}{c:Nat}(h:mayk s c w=true)(h2:(fcar s p w c).1<0∨tend s p w c<(fcar s p w c).2):fcar s p w (c+1)=((c:Int),tend s p w c):=by
 show(if _ then _ else _)=_;rw[if_pos ⟨h,h2⟩]
theorem fcar_stay{p:List (List Int)}{w:Int}{c:Nat}(h2:¬((fcar s p w c).1<0∨tend s p w c<(fcar s p w c).2)):fcar s p w (c+1)=fcar s p w c:=by
 show(if _ then _ else _)=_;rw[if_neg (fun h'=>h2 h'.2)]
theorem Pw.fr{w:Nat}{p:List (List Int)}(h:Pw s w p){c:Nat}{l:List Int}(hl:p[c]?=some l):∀x∈l,0≤x∧x<s.ws.length:=fun x hx=>by
 have h1:=PM.okx_iff.1 (h.ok c l hl x hx);have h2:=msk_len s;omega
end
def yc(l:List Nat):List Value:=l.map fun (n:Nat)=>Value.int .u8 (n:Int)
theorem yc_length(l:List Nat):(yc l).length=l.length:=by unfold yc;rw[List.length_map]
theorem yc_append(l m:List Nat):yc (l++m)=yc l++yc m:=by unfold yc;rw[List.map_append]
theorem yc_some{l:List Nat}{i x:Nat}(h:l[i]?=some x):(yc l)[i]?=some (.int .u8 (x:Int)):=by unfold yc;rw[List.getElem?_map,h];rfl
theorem yc_get{l:List Nat}{i:Nat}{u:Value}(h:(yc l)[i]?=some u):∃x,l[i]?=some x∧u=.int .u8 (x:Int):=by
 unfold yc at h;rw[List.getElem?_map]at h;cases e:l[i]? with
 |none=>rw[e]at h;simp at h
 |some x=>rw[e]at h;simp at h;exact⟨x,rfl,h.symm⟩
theorem yc_one(l:List Nat):∀u∈yc l,u.oneCell'=true:=by
 intro u hu;obtain⟨n,_,rfl⟩:=List.mem_map.1 hu
 rfl
def OY(W:World)(B:Nat)(v:Value)(l:List Nat):Prop:=W.ownsRow B 5 1 v l.length (yc l)
section
variable {W W':World} {B:Nat} {v:Value} {l:List Nat}
theorem OY.nil(W:World)(B:Nat):OY W B (.slice none 0 0) []:=World.ownsRow_nil W B _ 1
theorem OY.form(h:OY W B v l):(v=.slice none 0 0∧l=[])∨∃g cap,v=.slice (some ⟨g,0,none⟩) l.length cap∧B≤g∧g<W.heap.size∧l.length≤cap∧cap≤maxLen:=by
 rcases h.2 with⟨h1,h2⟩|⟨g,cap,cur,hv,hb,hg,hc,hm,_⟩
 ·exact .inl ⟨h1,List.length_eq_zero_iff.1 h2⟩
 ·exact .inr ⟨g,cap,hv,hb,(Array.getElem?_eq_some_iff.1 hg).1,hc,hm⟩
theorem OY.slice(h:OY W B v l):∃a c,v=.slice a l.length c:=by
 rcases h.form with⟨rfl,rfl⟩|⟨g,cap,rfl,_⟩
 ·exact⟨none,0,rfl⟩
 ·exact⟨_,cap,rfl⟩
theorem OY.lt(h:OY W B v l):∀g,v.ownBlock=some g→B≤g∧g<W.heap.size:=World.ownsRow.lt h
theorem OY.keep(h:OY W B v l)(hk:∀g,v.ownBlock=some g→W'.heap[g]?=W.heap[g]?):OY W' B v l:=by
 refine⟨h.1,?_⟩;rcases h.2 with h2|⟨g,cap,cur,hv,hb,hg,r⟩
 ·exact .inl h2
 ·exact .inr ⟨g,cap,cur,hv,hb,(hk g (by rw[hv];rfl)).trans hg,r⟩
theorem OY.below'(h:OY W B v l)(hb:Below W.heap.size W W'):OY W' B v l:=h.keep fun g hg=>hb.block g (h.lt g hg).2
theorem OY.alloc(h:OY W B v l)(o:Obj):OY (W.alloc o) B v l:=h.below' ((Below.refl _ _).alloc (Nat.le_refl _) o)
theorem OY.cell{g cap n:Nat}(h:OY W B (.slice (some ⟨g,0,none⟩) n cap) l){i x:Nat}(hi:l[i]?=some x):W.cell? ⟨g,i,none⟩=some (.int .u8 (x:Int)):=by
 have:=World.ownsRow.cells h (g:=g) rfl i _ (yc_some hi);rwa[Addr.add_mid,Nat.zero_add]at this
theorem OY.lit(W:World)(l:List Nat)(hB:B≤W.heap.size)(hm:l.length≤maxLen):OY (W.alloc (.cells (yc l).toArray 5)) B (.slice (some ⟨W.heap.size,0,none⟩) l.length l.length) l:=by
 have:=World.ownsRow_lit (e:=5) (size:=1) W (yc l).toArray l.length hB hm (by simp[yc_length]);simpa[OY]using this
end
theorem infoY:(Tryz.prog.info? 5).map (fun i=>(i.zero,i.size,i.bytes))=some (some (.int .u8 0),1,1):=by kernel_rfl
theorem wpList_appY{ops:Array Oper}{rest:List Oper}{o:Oper}{a:Act}{w:World}{Q:Exit→Act→World→Prop}(hgd:o.guard=none)(s x:Operand)
  (ho:o.op=.call {callee:=.builtin .append,args:= #[s,x],argTypes:= #[62,62]})
  (B:Nat) (v:Value) (l:List Nat) (hs:a.eval s=v) (hown:OY w B v l) (g c:Nat) (y:Nat) (hx:a.eval x=.slice (some ⟨g,0,none⟩) 1 c) (hc:w.cell? ⟨g,0,none⟩=some (.int .u8 (y:Int)))
  (h63:l.length≤2000000) (hB:B≤w.heap.size)
  (h:∀g' cap w',OY w' B (.slice (some ⟨g',0,none⟩) (l.length+1) cap) (l++[y])→w.grownBy w' v.ownBlock→(v.ownBlock=some g'∨g'=w.heap.size)→g'<w'.heap.size→wpList Tryz.prog ops Q rest (a.put o.dst (.slice (some ⟨g',0,none⟩) (l.length+1) cap)) w'):wpList Tryz.prog ops Q (o::rest) a w:=by
 obtain⟨i0,hi,hz0,hz1,hz2⟩:=info_parts infoY;refine wpList_append_lies w hgd s x 62 ho B 5 i0 _ 1 1 Tryz.underlying62 hi hz0 hz1 hz2 rfl (by decide) v l.length (yc l) hs hown ⟨g,0,none⟩ 1 c (yc [y]) hx rfl ?_ (yc_one [y]) (by omega) (by unfold maxLen;omega) (by omega) hB w.heap.size rfl ?_
 ·intro j u hj;cases j with
  |zero=>
   simp[yc]at hj;subst hj;rw[Addr.add_mid];exact hc
  |succ j=>simp[yc]at hj
 ·intro g' cap w' h1 h2 h3 h4;refine h g' cap w' ?_ h2 h3 h4;unfold OY;rw[List.length_append,yc_append];exact h1
def xc(s:St)(vc vw:Value)(B:Nat)(vp:Value)(x:Sx)(vm:Value):List Value:=nv s vc vw++[.int .i64 (B:Int),vp,.int .i64 x.cost,.int .i64 (x.nodes:Int),.bool x.ended,vm]
def Dv(xb:Nat)(vm:Value)(g:Nat):Prop:=g≠xb∧vm.ownBlock≠some g
structure Mv(xb:Nat)(vm vm':Value)(w w':World):Prop where
 kp:Kp (fun i=>i=xb∨vm.ownBlock=some i) w w'
 own:vm'.ownBlock=vm.ownBlock∨∀g,vm'.ownBlock=some g→w.heap.size≤g
section
variable {xb:Nat} {vm vm' vm'':Value} {w w' w'':World}
theorem Mv.below(xb:Nat)(vm:Value)(h:Below w.heap.size w w'):Mv xb vm vm w w':=⟨Kp.ofBelow _ h,.inl rfl⟩
theorem Mv.refl(xb:Nat)(vm:Value)(w:World):Mv xb vm vm w w:=Mv.below xb vm (Below.refl _ _)
theorem Mv.trans(h:Mv xb vm vm' w w')(k:Mv xb vm' vm'' w' w''):Mv xb vm vm'' w w'':=by
 refine⟨h.kp.trans k.kp (fun i hi e=> ?_),?_⟩
 ·rcases e with e|e
  ·exact .inl e
  ·rcases h.own with o|o
   ·exact .inr (o.symm.trans e)
   ·have:=o i e;omega
 ·rcases k.own with o|o
  ·rcases h.own with o'|o'
   ·exact .inl (o.trans o')
   ·exact .inr fun g hg=>o' g (o.symm.trans hg)
  ·exact .inr fun g hg=>Nat.le_trans h.kp.size (o g hg)
theorem Mv.set{xb i:Nat}{vm:Value}{v:Value}(w:World):Mv xb vm vm w (w.setCell ⟨xb,i,none⟩ v):=⟨(Kp.refl _ w).set xb i v (fun _=>.inl rfl),.inl rfl⟩
theorem Mv.dv(h:Mv xb vm vm' w w'){g:Nat}(hg:Dv xb vm g)(hlt:g<w.heap.size):Dv xb vm' g:=⟨hg.1,fun e=>by
 rcases h.own with o|o
 ·exact hg.2 (o.symm.trans e)
 ·have:=o g e;omega⟩
theorem Mv.block(h:Mv xb vm vm' w w'){g:Nat}(hg:Dv xb vm g)(hlt:g<w.heap.size):w'.heap[g]?=w.heap[g]?:=h.kp.block g hlt (fun e=>e.elim hg.1 hg.2)
theorem Mv.rl(h:Mv xb vm vm' w w'){v:Value}{p:List (List Int)}(hp:RL (Dv xb vm) w v p):RL (Dv xb vm') w' v p:=
 RL.keep (hp.mono (D':=fun g=>Dv xb vm' g∧Dv xb vm g) (fun _ hg hlt _=>⟨h.dv hg hlt,hg⟩)) h.kp.size (fun _ hg hlt=>h.block hg.2 hlt)|>.mono fun _ hg _ _=>hg.1
theorem Mv.ri(h:Mv xb vm vm' w w'){v:Value}{p:List Int}(hp:RI (Dv xb vm) w v p):RI (Dv xb vm') w' v p:=
 RI.keep (hp.mono (D':=fun g=>Dv xb vm' g∧Dv xb vm g) (fun _ hg hlt _=>⟨h.dv hg hlt,hg⟩)) h.kp.size (fun _ hg hlt=>h.block hg.2 hlt)|>.mono fun _ hg _ _=>hg.1
theorem Mv.r2(h:Mv xb vm vm' w w'){v:Value}{p:List (Int×Int)}(hp:R2 (Dv xb vm) w v p):R2 (Dv xb vm') w' v p:=
 R2.keep (hp.mono (D':=fun g=>Dv xb vm' g∧Dv xb vm g) (fun _ hg hlt _=>⟨h.dv hg hlt,hg⟩)) h.kp.size (fun _ hg hlt=>h.block hg.2 hlt)|>.mono fun _ hg _ _=>hg.1
end
section
variable {W W':World} {xb:Nat} {s:Sn} {vc vw:Value} {B:Nat} {x:Sx} {vp vm:Value}
end
section
variable {W W':World} {B g:Nat} {us:List Value} {p:List (List Int)}
theorem OW.put(h:OW W B g us p){c:Nat}{u':Value}{l:List Int}(hcp:c<p.length)(hb:Below W.heap.size W W')(hf:∀q,u'.ownBlock=some q→W.heap.size≤q)(ho:OI W' B u' l):OW (W'.setCell ⟨g,c,none⟩ u') B g (us.set c u') (p.set c l):=by
 have hlt:=h.lt;have hcl:c<us.length:=by rw[h.len];exact hcp
 have keep:∀j,j≠g→(W'.setCell ⟨g,c,none⟩ u').heap[j]?=W'.heap[j]?:=fun j hj=>Below.heap_setCell W' ⟨g,c,none⟩ _ j hj
 have hlts:∀(d:Nat) v k,us[d]?=some v→v.ownBlock=some k→k<W.heap.size:=fun d v k hv hk=>by
  obtain⟨l',hl'⟩:∃l',p[d]?=some l':=⟨_,List.getElem?_eq_getElem (by rw[←h.len];exact(List.getElem?_eq_some_iff.1 hv).1)⟩;exact((h.li d v l' hv hl').lt k hk).2
 refine⟨blk_set ((hb.block g hlt).trans h.hl) c u',by rw[List.length_set,List.length_set];exact h.len,fun d v l' hv hl'=> ?_,h.bg,fun d v hv=> ?_,fun d e v v' k hv hv' hk hk'=> ?_⟩
 ·by_cases e:c=d
  ·subst e;rw[List.getElem?_set_self hcl]at hv;rw[List.getElem?_set_self hcp]at hl';cases hv;cases hl';exact ho.keep fun k hk=>keep k (by have:=hf k hk;omega)
  ·rw[List.getElem?_set_ne e]at hv hl';have ho':=(h.li d v l' hv hl').below' hb;exact ho'.keep fun k hk=>keep k (fun e'=>by subst e';exact h.ne d v hv hk)
 ·by_cases e:c=d
  ·subst e;rw[List.getElem?_set_self hcl]at hv;cases hv;exact fun e=>by have:=hf g e;omega
  ·rw[List.getElem?_set_ne e]at hv;exact h.ne d v hv
 ·by_cases e1:c=d
  ·by_cases e2:c=e
   ·omega
   ·subst e1;rw[List.getElem?_set_self hcl]at hv;rw[List.getElem?_set_ne e2]at hv';cases hv;have h1:=hf k hk;have h2:=hlts e v' k hv' hk';omega
  ·by_cases e2:c=e
   ·subst e2;rw[List.getElem?_set_self hcl]at hv';rw[List.getElem?_set_ne e1]at hv;cases hv';have h1:=hf k hk';have h2:=hlts d v k hv hk;omega
   ·rw[List.getElem?_set_ne e1]at hv;rw[List.getElem?_set_ne e2]at hv';exact h.dj d e v v' k hv hv' hk hk'
end
section
variable {s:Sn} {B:Nat}
theorem vis_ml:∀(f k:Nat) (b:List (List Int)) (st:List Bool) (x:Sx),x.marks.length=x.nodes→(vis s B f k b st x).marks.length=(vis s B f k b st x).nodes
 |0,_,_,_,_,h=>h
 |f+1,k,b,st,x,h=>by
  show(vst s B (vis s B f) k b st x).marks.length=(vst s B (vis s B f) k b st x).nodes;have hs:∀(m:Nat),(x.marks++[m]).length=x.nodes+1:=fun m=>by rw[List.length_append,h];rfl
  unfold vst;by_cases h1:x.ended=true
  ·rw[if_pos h1];exact h
  ·rw[if_neg h1];by_cases h2:x.nodes=B
   ·rw[if_pos h2];exact h
   ·rw[if_neg h2];by_cases h3:lfs s st=[]
    ·rw[if_pos h3];by_cases h4:RM.cst s.st s.ws s.cs b<x.cost
     ·rw[if_pos h4];exact hs 2
     ·rw[if_neg h4];exact hs 2
    ·rw[if_neg h3];by_cases h5:x.cost≤lsv s k b st
     ·rw[if_pos h5];exact hs 0
     ·rw[if_neg h5];have hk:=kids_rel (s:=s) (R:=fun x y=>x.marks.length=x.nodes→y.marks.length=y.nodes) (fun _ h=>h) (fun _ _ _ h g e=>g (h e)) (go:=vis s B f) (k:=k) (b:=b) (st:=st) (lfs s st) (fun w _ _ y=>vis_ml f k _ _ y) ⟨x.nodes+1,false,x.plan,x.cost,x.marks++[1]⟩ (hs 1);unfold nxt;split
      ·exact vis_ml f (k+1) b st _ hk
      ·exact hk
end
def pad(st:List Bool):List Bool:=(st++List.replicate 128 false).take 128
theorem pad_length(st:List Bool):(pad st).length=128:=by unfold pad;rw[List.length_take,List.length_append,List.length_replicate];omega
theorem pad_rep(n:Nat)(hn:n≤128):pad (List.replicate n false)=List.replicate 128 false:=by
 unfold pad;rw[List.replicate_append_replicate,List.take_replicate,show min 128 (n+128)=128 by omega]
def ncl(s:Sn)(pa:Option Addr)(wt:Int)(n:Nn):List Value:=[.pointer pa,.int .i64 (n.k:Int),.int .i64 wt,.int .i64 (sat s n).fl,.int .i64 (sat s n).he,.int .i64 (sat s n).le,.int .i64 (RM.cst s.st s.ws s.cs n.b),.int .i64 ((PM.lf n.st:Nat):Int)]++(pad n.st).map Value.bool
theorem ncl_length(s:Sn)(pa:Option Addr)(wt:Int)(n:Nn):(ncl s pa wt n).length=136:=by unfold ncl;rw[List.length_append,List.length_map,pad_length];rfl
theorem ncl_one(s:Sn)(pa:Option Addr)(wt:Int)(n:Nn):∀u∈ncl s pa wt n,u.oneCell'=true:=fun u hu=>by
 unfold ncl at hu;rcases List.mem_append.1 hu with hu|hu
 ·simp only[List.mem_cons,List.not_mem_nil,or_false]at hu;rcases hu with rfl|rfl|rfl|rfl|rfl|rfl|rfl|rfl<;>rfl
 ·obtain⟨b,_,rfl⟩:=List.mem_map.1 hu
  rfl
theorem infoN:(Tryz.prog.info? 230).map (·.size)=some 136:=by kernel_rfl
def zn:List Value:=[.pointer none,.int .i64 0,.int .i64 0,.int .i64 0,.int .i64 0,.int .i64 0,.int .i64 0,.int .i64 0]++List.replicate 128 (.bool false)
theorem zn_length:zn.length=136:=by unfold zn;rw[List.length_append,List.length_replicate];rfl
theorem infoNz:(Tryz.prog.info? 230).map (fun i=>(i.zero,i.size,i.bytes))=some (some (.agg zn.toArray),136,192):=by kernel_rfl
def NK(W:World)(q:Nat)(cs:List Value):Prop:=cs.length=136∧W.heap[q]?=some (.cells cs.toArray 230 (0,0))
section
variable {W W':World} {q:Nat} {cs:List Value}
theorem NK.lt(h:NK W q cs):q<W.heap.size:=(Array.getElem?_eq_some_iff.1 h.2).1
theorem NK.keep(h:NK W q cs)(hk:W'.heap[q]?=W.heap[q]?):NK W' q cs:=⟨h.1,hk.trans h.2⟩
theorem NK.below'(h:NK W q cs)(hb:Below W.heap.size W W'):NK W' q cs:=h.keep (hb.block q h.lt)
theorem NK.cell(h:NK W q cs)(i:Nat):W.cell? ⟨q,i,none⟩=cs[i]?:=blk_cell h.2 i
theorem NK.fr(h:NK W q cs)(i:Nat):W.frozen? ⟨q,i,none⟩=false:=blk_fr h.2 i
theorem NK.range(h:NK W q cs):W.rangeAt q 0 cs:=fun j v hv=>by rw[Nat.zero_add,h.cell,hv]
theorem NK.put(h:NK W q cs)(i:Nat)(v:Value):NK (W.setCell ⟨q,i,none⟩ v) q (cs.set i v):=⟨by rw[List.length_set];exact h.1,blk_set h.2 i v⟩
theorem NK.new(W:World)(hl:cs.length=136):NK (W.alloc (.cells cs.toArray 230)) W.heap.size cs:=⟨hl,World.alloc_heap_new W _⟩
theorem NK.kp{G:Nat→Prop}(h:NK W q cs)(k:Kp G W W')(hG:¬G q):NK W' q cs:=h.keep (k.block q h.lt hG)
end
theorem loadN(w:World)(b o:Nat)(cs:List Value)(hl:cs.length=136)(h:w.rangeAt b o cs):
  (Instr.loadAt 230 (.pointer (some ⟨b,o,none⟩))).run Tryz.prog w=.ok (.agg cs.toArray) w:=
 run_loadAt_mid (P:=Tryz.prog) w b o 230 cs _ h Tryz.underlying230 rfl (by rw[hl];exact infoN)
theorem wpList_loadN{ops:Array Oper}{rest:List Oper}{op:Oper}{a:Act}{w:World}{Q:Exit→Act→World→Prop}(hgd:Region.wanted op (yielded ops a.tmps)=true)(x:Operand)(ho:op.op=.load 230 x)
  (b o:Nat) (cs:List Value) (hl:cs.length=136) (hx:a.eval x=.pointer (some ⟨b,o,none⟩)) (hr:w.rangeAt b o cs)
  (h:wpList Tryz.prog ops Q rest (a.put op.dst (.agg cs.toArray)) w):wpList Tryz.prog ops Q (op::rest) a w:=
 wpList_step fun _ hK=>by
  rw[if_pos hgd];unfold Oper.wp execOp;simp only[ho,Sem.run_bind,Sem.run_pure,Result.andThen_ok,hx,loadN w b o cs hl hr];exact hK _ _ h
theorem wpList_storeN{ops:Array Oper}{rest:List Oper}{op:Oper}{a:Act}{w:World}{Q:Exit→Act→World→Prop}(hgd:op.guard=none)(x y:Operand)(ho:op.op=.store 230 x y)
  (b:Nat) {old cs:List Value} (hx:a.eval x=.pointer (some ⟨b,0,none⟩)) (hy:a.eval y=.agg cs.toArray) (hL:NK w b old) (hl:cs.length=136) (h1:∀u∈cs,u.oneCell'=true)
  (hn:∀W',Kp (fun k=>k=b) w W'→W'.heap.size=w.heap.size→NK W' b cs→wpList Tryz.prog ops Q rest (a.put op.dst undef) W'):wpList Tryz.prog ops Q (op::rest) a w:=
 wpList_store_row hgd 230 x y ho b _ hx hy _ _ hL.2 (by rw[List.size_toArray,hl];exact infoN) (by rw[List.size_toArray,List.size_toArray,hl,hL.1]) (all_oneCell_toArray h1) (hn _ (kp_row b w _) (by simp) ⟨hl,setRow_heap w b _ _ _ _ hL.2⟩)
theorem run_allocN(w:World):(Instr.alloc 230 true (.tuple #[])).run Tryz.prog w=.ok (.pointer (some ⟨w.heap.size,0,none⟩)) (w.alloc (.cells zn.toArray 230)):=by
 obtain⟨i0,hi,hz0,hz1,hz2⟩:=info_parts infoNz;simp[Instr.alloc,zeroValue,typeInfo,hi,hz0,newVar,newRow,Value.cells]
theorem wpList_allocN{ops:Array Oper}{rest:List Oper}{op:Oper}{a:Act}{w:World}{Q:Exit→Act→World→Prop}(hgd:op.guard=none)(ho:op.op=.alloc 230)
  (hn:wpList Tryz.prog ops Q rest (a.put op.dst (.pointer (some ⟨w.heap.size,0,none⟩))) (w.alloc (.cells zn.toArray 230))):wpList Tryz.prog ops Q (op::rest) a w:=
 wpList_plain hgd fun _ hK=>by
  unfold Oper.wp execOp;simp only[ho,Sem.run_bind,Sem.run_pure,Result.andThen_ok,run_allocN];exact hK _ _ hn
theorem retN{fn:Func}{t:Tmp}(hf:fn.results= #[.cell t 230]){tmps:Array Value}{w:World}{b:Nat}{cs:List Value}(hp:tmps.getD t undef=.pointer (some ⟨b,0,none⟩))(hC:NK w b cs):
  (results fn tmps).run Tryz.prog w=.ok (.agg cs.toArray) w:=
 results_cell_row hf tmps w b _ _ _ _ hp hC.2 Tryz.underlying230 rfl (by rw[List.size_toArray,hC.1];exact infoN)
structure En where
 pa:Option Addr
 wt:Int
 nd:Nn
def En.c(s:Sn)(e:En):List Value:=ncl s e.pa e.wt e.nd
theorem En.len(s:Sn)(e:En):(e.c s).length=136:=ncl_length _ _ _ _
def nrow(s:Sn):List En→List Value
 |[]=>[]
 |e::L=>e.c s++nrow s L
section
variable {s:Sn}
theorem nrow_length:∀(L:List En),(nrow s L).length=L.length*136
 |[]=>rfl
 |e::L=>by rw[nrow,List.length_append,En.len,nrow_length L,List.length_cons];omega
theorem nrow_append:∀(L M:List En),nrow s (L++M)=nrow s L++nrow s M
 |[],M=>rfl
 |e::L,M=>by rw[List.cons_append,nrow,nrow_append L M,nrow,List.append_assoc]
theorem nrow_one(e:En):nrow s [e]=e.c s:=by rw[nrow,nrow,List.append_nil]
theorem nrow_get:∀{L:List En} {j:Nat} {e:En},L[j]?=some e→∀i,i<136→(nrow s L)[j*136+i]?=(e.c s)[i]?
 |[],_,_,h,_,_=>by simp at h
 |a::L,0,e,h,i,hi=>by
  simp at h;subst h;rw[nrow,Nat.zero_mul,Nat.zero_add,List.getElem?_append_left (by rw[En.len];exact hi)]
 |a::L,j+1,e,h,i,hi=>by
  rw[nrow,List.getElem?_append_right (by rw[En.len];omega),En.len,show(j+1)*136+i-136=j*136+i by omega];exact nrow_get (by simpa using h) i hi
end
def ON(s:Sn)(W:World)(B:Nat)(v:Value)(L:List En):Prop:=W.ownsRow B 230 136 v L.length (nrow s L)
section
variable {s:Sn} {W W':World} {B:Nat} {v:Value} {L:List En}
theorem ON.form(h:ON s W B v L):(v=.slice none 0 0∧L=[])∨∃g cap,v=.slice (some ⟨g,0,none⟩) L.length cap∧B≤g∧g<W.heap.size∧L.length≤cap∧cap≤maxLen:=by
 rcases h.2 with⟨h1,h2⟩|⟨g,cap,cur,hv,hb,hg,hc,hm,_⟩
 ·exact .inl ⟨h1,List.length_eq_zero_iff.1 h2⟩
 ·exact .inr ⟨g,cap,hv,hb,(Array.getElem?_eq_some_iff.1 hg).1,hc,hm⟩
theorem ON.slice(h:ON s W B v L):∃a c,v=.slice a L.length c:=by
 rcases h.form with⟨rfl,rfl⟩|⟨g,cap,rfl,_⟩
 ·exact⟨none,0,rfl⟩
 ·exact⟨_,cap,rfl⟩
theorem ON.lt(h:ON s W B v L):∀g,v.ownBlock=some g→B≤g∧g<W.heap.size:=World.ownsRow.lt h
theorem ON.keep(h:ON s W B v L)(hk:∀g,v.ownBlock=some g→W'.heap[g]?=W.heap[g]?):ON s W' B v L:=by
 refine⟨h.1,?_⟩;rcases h.2 with h2|⟨g,cap,cur,hv,hb,hg,r⟩
 ·exact .inl h2
 ·exact .inr ⟨g,cap,cur,hv,hb,(hk g (by rw[hv];rfl)).trans hg,r⟩
theorem ON.below'(h:ON s W B v L)(hb:Below W.heap.size W W'):ON s W' B v L:=h.keep fun g hg=>hb.block g (h.lt g hg).2
theorem ON.range{g cap n:Nat}(h:ON s W B (.slice (some ⟨g,0,none⟩) n cap) L){j:Nat}{e:En}(hj:L[j]?=some e):W.rangeAt g (j*136) (e.c s):=fun i v hv=>by
 have hi:i<136:=by have:=(List.getElem?_eq_some_iff.1 hv).1;rwa[En.len]at this
 have:=World.ownsRow.cells h (g:=g) rfl (j*136+i) v (by rw[nrow_get hj i hi];exact hv);rwa[Addr.add_mid,Nat.zero_add]at this
theorem ON.fr{g cap n:Nat}(h:ON s W B (.slice (some ⟨g,0,none⟩) n cap) L)(j:Nat):W.frozen? ⟨g,j,none⟩=false:=by
 rcases h.form with⟨e,_⟩|⟨g',c',e,_⟩
 ·cases e
 ·cases e;exact World.ownsRow.frozenAt h j
theorem ON.pop{g cap n:Nat}{e:En}(h:ON s W B (.slice (some ⟨g,0,none⟩) n cap) (L++[e])):ON s W B (.slice (some ⟨g,0,none⟩) L.length cap) L:=by
 rcases h.2 with⟨e,_⟩|⟨g',cap',cur,hv,hb,hg,hc,hm,hs,ht⟩
 ·cases e
 ·cases hv;rw[List.length_append]at hc ht;refine⟨nrow_length L,.inr ⟨g,cap,cur,rfl,hb,hg,by omega,hm,hs,?_⟩⟩;have:=congrArg (List.take (L.length*136)) ht;rw[List.take_take,show min (L.length*136) ((L.length+[e].length)*136)=L.length*136 by rw[Nat.add_mul];omega]at this;rw[this,nrow_append,List.take_left' (nrow_length L)]
end
theorem built1N(cs:List Value)(hl:cs.length=136):Tryz.prog.builtSlice 230 1 [(0,.agg cs.toArray)]=some cs.toArray:=by
 obtain⟨i0,hi,hz0,hz1,hz2⟩:=info_parts infoNz;unfold Program.builtSlice;rw[hi];simp only[hz0,hz1];rw[if_neg (by omega)];have:=Great.fill_whole (s:=136) (by omega) [Value.agg cs.toArray] ((Array.range (1*136)).map ((Value.agg zn.toArray).cells[· %(Value.agg zn.toArray).cells.size]!)) (fun v hv=>by simp at hv;subst hv;simp[Value.cells,hl]) (by simp);simpa[Value.cells]using this
theorem wpList_build1N{ops:Array Oper}{rest:List Oper}{o:Oper}{a:Act}{w:World}{Q:Exit→Act→World→Prop}(hg:o.guard=none)(x:Operand)(ho:o.op=.buildSlice 232 1 #[(0,x)])(cs:List Value)(hl:cs.length=136)(hx:a.eval x=.agg cs.toArray)
  (h:wpList Tryz.prog ops Q rest (a.put o.dst (.slice (some ⟨w.heap.size,0,none⟩) 1 1)) (w.alloc (.cells cs.toArray 230))):wpList Tryz.prog ops Q (o::rest) a w:=
 Great.wpList_buildSliceTo hg 232 230 1 _ ho w.heap.size rfl o.dst rfl Tryz.underlying232 cs.toArray (by simp only[List.map_toArray,List.map_cons,List.map_nil,hx];exact built1N cs hl) h
theorem OY.len{W:World}{B:Nat}{l:List Nat}{a:Option Addr}{n cap:Nat}(h:OY W B (.slice a n cap) l):n=l.length:=by
 rcases h.form with⟨h1,h2⟩|⟨g,c,h1,_⟩
 ·cases h1;rw[h2];rfl
 ·cases h1;rfl
theorem wpList_appYs{ops:Array Oper}{rest:List Oper}{o:Oper}{a:Act}{w:World}{Q:Exit→Act→World→Prop}(hgd:o.guard=none)(s x:Operand)
  (ho:o.op=.call {callee:=.builtin .append,args:= #[s,x],argTypes:= #[62,62]})
  (B:Nat) (v:Value) (l:List Nat) (hs:a.eval s=v) (hown:OY w B v l) (g c:Nat) (m:List Nat) (hx:a.eval x=.slice (some ⟨g,0,none⟩) m.length c) (hc:∀(j:Nat) y,m[j]?=some y→w.cell? ⟨g,j,none⟩=some (.int .u8 (y:Int)))
  (h63:l.length+m.length≤4000000) (hB:B≤w.heap.size)
  (h:∀v' w',OY w' B v' (l++m)→w.grownBy w' v.ownBlock→wpList Tryz.prog ops Q rest (a.put o.dst v') w'):wpList Tryz.prog ops Q (o::rest) a w:=by
 obtain⟨i0,hi,hz0,hz1,hz2⟩:=info_parts infoY;refine wpList_append_own w hgd s x 62 ho B 5 i0 _ 1 1 Tryz.underlying62 hi hz0 hz1 hz2 rfl (by decide) v l.length (yc l) hs hown ⟨g,0,none⟩ m.length c (yc m) hx (by rw[yc_length,Nat.mul_one]) ?_ (yc_one m) (by unfold maxLen;omega) (by omega) hB ?_
 ·intro j u hj;obtain⟨y,hy,rfl⟩:=yc_get hj;rw[Addr.add_mid,Nat.zero_add];exact hc j y hy
 ·intro v' w' h1 h2 _;refine h v' w' ?_ h2;unfold OY;rw[List.length_append,yc_append];exact h1
theorem wpList_appYo{ops:Array Oper}{rest:List Oper}{o:Oper}{a:Act}{w:World}{Q:Exit→Act→World→Prop}(hgd:o.guard=none)(s x:Operand)
  (ho:o.op=.call {callee:=.builtin .append,args:= #[s,x],argTypes:= #[62,62]})
  (B B':Nat) (v u:Value) (l m:List Nat) (hs:a.eval s=v) (hown:OY w B v l) (hx:a.eval x=u) (hr:OY w B' u m)
  (h63:l.length+m.length≤4000000) (hB:B≤w.heap.size)
  (h:∀v' w',OY w' B v' (l++m)→w.grownBy w' v.ownBlock→wpList Tryz.prog ops Q rest (a.put o.dst v') w'):wpList Tryz.prog ops Q (o::rest) a w:=by
 rcases hr.form with⟨rfl,rfl⟩|⟨g,cap,rfl,_⟩
 ·obtain⟨i0,hi,hz0,hz1,hz2⟩:=info_parts infoY;refine wpList_append_own_none hgd s x 62 ho B 5 i0 1 Tryz.underlying62 hi v l.length (yc l) hs hown hx ?_;refine h v w ?_ (World.grownBy.refl w _);rw[List.append_nil];exact hown
 ·exact wpList_appYs hgd s x ho B v l hs hown g cap m hx (fun j y hy=>hr.cell hy) h63 hB h
theorem OY.fr{W:World}{B:Nat}{l:List Nat}{g cap n:Nat}(h:OY W B (.slice (some ⟨g,0,none⟩) n cap) l)(j:Nat):W.frozen? ⟨g,j,none⟩=false:=by
 have hn:=h.len;subst hn;exact World.ownsRow.frozenAt h j
theorem OY.put{W:World}{B:Nat}{l:List Nat}{g cap n:Nat}(h:OY W B (.slice (some ⟨g,0,none⟩) n cap) l)(i x:Nat):OY (W.setCell ⟨g,i,none⟩ (.int .u8 (x:Int))) B (.slice (some ⟨g,0,none⟩) n cap) (l.set i x):=by
 have hn:=h.len;subst hn;have:=(World.ownsRow.stored h i (.int .u8 (x:Int))).1;unfold OY;unfold yc at this⊢;rw[List.length_set,List.map_set];exact this
theorem wpList_buildS{ops:Array Oper}{rest:List Oper}{o:Oper}{a:Act}{w:World}{Q:Exit→Act→World→Prop}(hg:o.guard=none)(t:TypeId)(parts:Array (Nat×Operand))(ho:o.op=.build t parts)(ps:List (Nat×Value))(hp:(parts.map fun (i,x)=>(i,a.eval x)).toList=ps)(cells:Array Value)(hb:Tryz.prog.built t ps=some cells)
  (h:wpList Tryz.prog ops Q rest (a.put o.dst (.agg cells)) w):wpList Tryz.prog ops Q (o::rest) a w:=by
 refine wpList_build hg t parts ho (by rw[hp,hb];rfl) ?_;rw[hp,hb];exact h
theorem nv_one(s:St){vc vw:Value}(h1:vc.oneCell'=true)(h2:vw.oneCell'=true):∀u∈nv s vc vw,u.oneCell'=true:=by
 intro u hu;simp only[nv,List.mem_cons,List.not_mem_nil,or_false]at hu;rcases hu with h|h|h|h|h|h|h|h|h|h|h|h|h|h|h
 all_goals rw[h]
 all_goals first|rfl|assumption
theorem wpList_store27{ops:Array Oper}{rest:List Oper}{op:Oper}{a:Act}{w:World}{Q:Exit→Act→World→Prop}(hgd:op.guard=none)(x y:Operand)(ho:op.op=.store 146 x y)
  (b:Nat) {s:St} {vc vw:Value} (old:Array Value) (hx:a.eval x=.pointer (some ⟨b,0,none⟩)) (hy:a.eval y=.agg (nv s vc vw).toArray) (h1:vc.oneCell'=true) (h2:vw.oneCell'=true) (hL:w.heap[b]?=some (.cells old 146 (0,0))) (hs:old.size=15)
  (hn:∀W',Kp (fun k=>k=b) w W'→NB W' b s vc vw→wpList Tryz.prog ops Q rest (a.put op.dst undef) W'):wpList Tryz.prog ops Q (op::rest) a w:=
 wpList_store_row hgd 146 x y ho b _ hx hy _ _ hL info27 (by rw[hs];rfl) (by simpa using nv_one s h1 h2) (hn _ (kp_row b w _) (setRow_heap w b _ _ _ _ hL))
theorem NB.putc{W:World}{b:Nat}{s:St}{vc vw:Value}(h:NB W b s vc vw)(v:Value):NB (W.setCell ⟨b,13,none⟩ v) b s v vw:=by
 have:=heap_setCell_same W b 13 _ 146 v h;exact this
theorem NB.putw{W:World}{b:Nat}{s:St}{vc vw:Value}(h:NB W b s vc vw)(v:Value):NB (W.setCell ⟨b,14,none⟩ v) b s vc v:=by
 have:=heap_setCell_same W b 14 _ 146 v h;exact this
theorem NB.fr{W:World}{b:Nat}{s:St}{vc vw:Value}(h:NB W b s vc vw)(i:Nat):W.frozen? ⟨b,i,none⟩=false:=by simp[World.frozen?,show W.heap[b]?=_ from h]
theorem infoR:(Tryz.prog.info? 178).map (fun i=>(i.zero,i.size,i.bytes))=some (some (.agg #[.int .i64 0,.int .i64 0]),2,16):=by kernel_rfl
theorem infoW:(Tryz.prog.info? 182).map (fun i=>(i.zero,i.size,i.bytes))=some (some (.agg #[.int .i64 0,.int .i64 0]),2,16):=by kernel_rfl
def bek(n:Int):Nat→List Nat
 |0=>[]
 |k+1=>((n/256^k)%256).toNat::bek n k
def prl(p:List (List Int)):List Nat:=p.flatMap fun l=>l.length::l.map Int.toNat
def prf(x:Sx):List Nat:=(if x.ended=true then 0 else 1)::(bek x.cost 8++prl x.plan++if x.ended=true then[]else x.marks)
theorem bek_length(n:Int):∀k,(bek n k).length=k
 |0=>rfl
 |k+1=>by
  show(bek n k).length+1=k+1;rw[bek_length n k]
theorem prl_snoc(p:List (List Int))(l:List Int):prl (p++[l])=prl p++l.length::l.map Int.toNat:=by
 unfold prl;rw[List.flatMap_append,List.flatMap_singleton]
theorem prl_len:∀(q:List (List Int)),(∀l∈q,l.length≤128)→(prl q).length≤129*q.length
 |[],_=>Nat.le_refl _
 |a::q,hq=>by
  have h1:=prl_len q fun l hl=>hq l (by simp[hl]);have h2:=hq a (by simp);show(a.length::a.map Int.toNat++prl q).length≤_;rw[List.length_append,List.length_cons,List.length_map,List.length_cons];omega
theorem fs_ll{s:Sn}{p:List (List Int)}(h:Fs s p):∀l∈p,l.length≤128∧∀z∈l,0≤z∧z<128:=fun l hl=>by
 have hin:∀x∈l,0≤x∧x<s.ws.length:=fun x hx=>h.fr x (List.mem_flatten.2 ⟨l,hl,hx⟩);have hwl:=h.wl;refine⟨?_,fun z hz=>by have:=hin z hz;omega⟩;have hnd:l.Nodup:=(RM.fz_nodup h.fz).sublist (List.sublist_flatten_of_mem hl);have hsum:=RM.sum_sr (n:=s.ws.length) (fun _=>1) hnd hin;have hle:=RM.sr_le (n:=s.ws.length) (f:=fun w=>if(w:Int)∈l then 1 else 0) (g:=fun _=>1) (fun i _=>by split<;>omega)
 have hone:∀m:Nat,RM.sr m (fun _=>1)=(m:Int):=fun m=>by
  induction m with
  |zero=>rfl
  |succ m ih=>rw[RM.sr,ih];omega
 have hlen:∀m:List Int,(m.map fun _=>(1:Int)).sum=(m.length:Int):=fun m=>by
  induction m with
  |nil=>rfl
  |cons a m ih=>rw[List.map_cons,List.sum_cons,ih,List.length_cons];omega
 rw[hlen]at hsum;rw[hone]at hle;omega
theorem fnd_bd{s:Sn}{B:Nat}(hr:rgt s=true):(0≤(fnd s B).cost∧(fnd s B).cost≤10240000000)∧(fnd s B).plan.length≤8∧(∀l∈(fnd s B).plan,l.length≤128∧∀z∈l,0≤z∧z<128)∧(fnd s B).marks.length=(fnd s B).nodes∧(fnd s B).nodes≤B:=by
 have hok:=fnd_ok hr B;have hf:=fsb_fs hok.fe;have hl:=fs_ll hf;refine⟨?_,hf.p8,hl,vis_ml _ _ _ _ _ rfl,hok.nb⟩;rw[hok.co];exact hf.cost fun l h=>by have:=(hl l h).1;omega
theorem wpOp_load27{ops:Array Oper}{Q:Exit→Act→World→Prop}{i:Nat}{o:Oper}{K:Act→World→Prop}{a:Act}{w:World}(hi:ops[i]?=some o)(hw:Region.wanted o (yielded ops a.tmps)=true)(x:Operand)(ho:o.op=.load 146 x)
  (b:Nat) (s:St) (vc vw:Value) (hx:a.eval x=.pointer (some ⟨b,0,none⟩)) (hr:NB w b s vc vw) (h:K (a.put o.dst (.agg (nv s vc vw).toArray)) w):wpOp Tryz.prog ops Q i K a w:=
 wpOp_val hi hw (by unfold execOp;simp only[ho,Sem.run_bind,Sem.run_pure,Result.andThen_ok,hx,load27 w b s vc vw hr.range]) h
section
variable {C:World→Prop} {K:Act→Prop} {o:Oper} {a:Act}
end
def gnc(pa:Option Addr)(k wt:Int)(a:RM.Sp)(co le:Int)(st:List Bool):List Value:=[.pointer pa,.int .i64 k,.int .i64 wt,.int .i64 a.fl,.int .i64 a.he,.int .i64 a.le,.int .i64 co,.int .i64 le]++st.map Value.bool
theorem ncl_gnc(s:Sn)(pa:Option Addr)(wt:Int)(n:Nn):ncl s pa wt n=gnc pa (n.k:Int) wt (sat s n) (RM.cst s.st s.ws s.cs n.b) ((PM.lf n.st:Nat):Int) (pad n.st):=rfl
theorem gnc_one(pa:Option Addr)(k wt:Int)(a:RM.Sp)(co le:Int)(st:List Bool):∀u∈gnc pa k wt a co le st,u.oneCell'=true:=fun u hu=>by
 unfold gnc at hu;rcases List.mem_append.1 hu with hu|hu
 ·simp only[List.mem_cons,List.not_mem_nil,or_false]at hu;rcases hu with rfl|rfl|rfl|rfl|rfl|rfl|rfl|rfl<;>rfl
 ·obtain⟨b,_,rfl⟩:=List.mem_map.1 hu
  rfl
def tcl(s:St)(vc vw vb:Value):List Value:=nv s vc vw++[vb]
structure TR(D:Nat→Prop)(W:World)(tb:Nat)(s:Sn)(vc vw vb:Value):Prop where
 hl:W.heap[tb]?=some (.cells (tcl s.st vc vw vb).toArray 237 (0,0))
 td:D tb
 cs:R2 D W vc s.cs
 ws:R2 D W vw s.ws
 bh:RL D W vb (bhd s)
 rg:rgt s=true
section
variable {D D':Nat→Prop} {W W':World} {tb:Nat} {s:Sn} {vc vw vb:Value}
theorem TR.lt(h:TR D W tb s vc vw vb):tb<W.heap.size:=(Array.getElem?_eq_some_iff.1 h.hl).1
theorem TR.keep(h:TR D W tb s vc vw vb)(hs:W.heap.size≤W'.heap.size)(hk:∀g,D g→g<W.heap.size→W'.heap[g]?=W.heap[g]?):TR D W' tb s vc vw vb:=
 ⟨(hk tb h.td h.lt).trans h.hl,h.td,h.cs.keep hs hk,h.ws.keep hs hk,h.bh.keep hs hk,h.rg⟩
theorem TR.mono(h:TR D W tb s vc vw vb)(hD:∀g,D g→g<W.heap.size→D' g):TR D' W tb s vc vw vb:=
 ⟨h.hl,hD tb h.td h.lt,h.cs.mono fun g hg hl _=>hD g hg hl,h.ws.mono fun g hg hl _=>hD g hg hl,h.bh.mono fun g hg hl _=>hD g hg hl,h.rg⟩
theorem TR.below'(h:TR D W tb s vc vw vb)(hb:Below W.heap.size W W'):TR D W' tb s vc vw vb:=h.keep hb.size fun g _ hl=>hb.block g hl
theorem TR.drew(h:TR D W tb s vc vw vb):TR D W.drew tb s vc vw vb:=h.below' (Below.refl _ _).drew
theorem TR.cell(h:TR D W tb s vc vw vb)(i:Nat):W.cell? ⟨tb,i,none⟩=(tcl s.st vc vw vb)[i]?:=blk_cell h.hl i
theorem TR.c13(h:TR D W tb s vc vw vb):W.cell? ⟨tb,13,none⟩=some vc:=h.cell 13
theorem TR.c14(h:TR D W tb s vc vw vb):W.cell? ⟨tb,14,none⟩=some vw:=h.cell 14
theorem TR.c15(h:TR D W tb s vc vw vb):W.cell? ⟨tb,15,none⟩=some vb:=h.cell 15
theorem TR.site(h:TR D W tb s vc vw vb):W.rangeAt tb 0 (sv s.st):=fun j v hv=>by
 rw[Nat.zero_add,h.cell,←hv];have hj:j<13:=by have:=(List.getElem?_eq_some_iff.1 hv).1;rwa[sv_length]at this
 show(sv s.st++[vc,vw,vb])[j]?=_;rw[List.getElem?_append_left (by rw[sv_length];exact hj)]
end
section
variable {W0:World} {K:Act→Prop} {o:Oper} {a:Act}
theorem loadRs(w:World)(b k:Nat)(v:Value)(h:w.cell? ⟨b,k,none⟩=some v):(Instr.loadAt 143 (.pointer (some ⟨b,k,none⟩))).run Tryz.prog w=.ok v w:=by simp[go_sem,h]
theorem calm_loadRs(x:Operand)(b k:Nat){v:Value}(ho:o.op=.load 143 x)(hx:a.eval x=.pointer (some ⟨b,k,none⟩))(hr:∀w,Below W0.heap.size W0 w→w.cell? ⟨b,k,none⟩=some v)
  (h:K (a.put o.dst v)):Oper.calm Tryz.prog W0 o a K:=
 calm_val _ (fun w hw=>by unfold execOp;simp only[ho,hx,Sem.run_bind,Sem.run_pure,Result.andThen_ok,loadRs w b k v (hr w hw)]) h
theorem calm_ixRs(x y:Operand){g f n cap j:Nat}(ho:o.op=.indexAddr 143 x y)(hx:a.eval x=.slice (some ⟨g,f,none⟩) n cap)(hy:a.eval y=.int .i64 (j:Int))(hj:j<n)
  (h:K (a.put o.dst (.pointer (some ⟨g,f+j*2,none⟩)))):Oper.calm Tryz.prog W0 o a K:=
 calm_val _ (fun w hw=>by unfold execOp;simp only[ho,hx,hy,Sem.run_bind,Sem.run_pure,Result.andThen_ok,ixR w rfl hj]) h
theorem loadR2(w:World)(b k:Nat)(y:Int×Int)(h0:w.cell? ⟨b,k,none⟩=some (.int .i64 y.1))(h1:w.cell? ⟨b,k+1,none⟩=some (.int .i64 y.2)):(Instr.loadAt 178 (.pointer (some ⟨b,k,none⟩))).run Tryz.prog w=.ok (.agg #[.int .i64 y.1,.int .i64 y.2]) w:=by
 simp[go_sem,h0,h1]
theorem calm_loadR2(x:Operand)(b k:Nat)(y:Int×Int)(ho:o.op=.load 178 x)(hx:a.eval x=.pointer (some ⟨b,k,none⟩))(hr:∀w,Below W0.heap.size W0 w→w.cell? ⟨b,k,none⟩=some (.int .i64 y.1)∧w.cell? ⟨b,k+1,none⟩=some (.int .i64 y.2))
  (h:K (a.put o.dst (.agg #[.int .i64 y.1,.int .i64 y.2]))):Oper.calm Tryz.prog W0 o a K:=
 calm_val _ (fun w hw=>by unfold execOp;simp only[ho,hx,Sem.run_bind,Sem.run_pure,Result.andThen_ok,loadR2 w b k y (hr w hw).1 (hr w hw).2]) h
end
theorem shas_any(f:Int)(m c:Nat)(hc:c≤64)(w:World):Calls Tryz.prog 179 #[.agg #[.int .i64 f,.int .i64 (m:Int)],.int .i64 (c:Int)] w fun e w'=>e=.returned (.bool (PM.bt m c))∧Below w.heap.size w w':=by
 have hb:=(Below.refl w.heap.size w).alloc (Nat.le_refl _) (.cells #[.int .i64 f,.int .i64 (m:Int)] 182);have hsh:=shr_any m c hc;have HE:=Hd (bt_bits m c)
 go_enter Tryz.func179,Tryz.ntmps179
 go_wp2;go_ret;exact⟨ret_bool HE.out,hb⟩
def En.grw(e:En)(q w:Nat):En:=⟨some ⟨q,0,none⟩,(w:Int),Go.Proofs.YtlajleogofmkcaaGreat.grw e.nd w⟩
def En.nxc(e:En)(q:Nat):En:=⟨some ⟨q,0,none⟩,-1,Go.Proofs.YtlajleogofmkcaaGreat.nxc e.nd⟩
section
variable {D:Nat→Prop} {W:World} {tb q:Nat} {s:Sn} {vc vw vb:Value} {e:En}
end
section
variable {D:Nat→Prop} {W:World} {tb q:Nat} {s:Sn} {vc vw vb:Value} {e:En}
theorem built_first(a:RM.Sp)(n:Int):Tryz.prog.built 230 [(2,.int .i64 (-1)),(3,.agg #[.int .i64 a.fl,.int .i64 a.he,.int .i64 a.le]),(5,.int .i64 n)]=some (gnc none 0 (-1) a 0 n (List.replicate 128 false)).toArray:=by kernel_rfl
theorem calm_build{W0:World}{K:Act→Prop}{o:Oper}{a:Act}(t:TypeId)(parts:Array (Nat×Operand))(ho:o.op=.build t parts)(ps:List (Nat×Value))(hp:(parts.map fun (i,x)=>(i,a.eval x)).toList=ps)(cells:Array Value)(hb:Tryz.prog.built t ps=some cells)
  (h:K (a.put o.dst (.agg cells))):Oper.calm Tryz.prog W0 o a K:=
 calm_val _ (fun w hw=>by
  subst hp;unfold execOp
  simp only[ho,Sem.run_bind,Sem.run_pure,run_build w t _ cells hb,Result.andThen_ok]) h
def En.z(s:Sn):En:=⟨none,-1,nd0 s⟩
theorem tfirst_any(ht:TR D W tb s vc vw vb):
  Calls Tryz.prog 143 #[.pointer (some ⟨tb,0,none⟩)] W fun r w'=>r=.returned (.agg ((En.z s).c s).toArray)∧Below W.heap.size W w':=by
 obtain⟨n8,hrs⟩:=rgt_rs ht.rg
 have hc0:0<s.cs.length:=by
  have h1:=hrs.cl;have h2:=hrs.n1;omega
 obtain⟨y,hy⟩:∃y,s.cs[0]?=some y:=⟨_,List.getElem?_eq_getElem hc0⟩;have HBG:Hid (∀w',Calls Tryz.prog 140 #[.agg #[.int .i64 y.1,.int .i64 y.2]] w' fun r w''=>r=.returned (.agg #[.int .i64 y.1,.int .i64 (-1),.int .i64 y.2])∧Below w'.heap.size w' w''):=fun w'=>begin_any y.1 y.2 w'
 have HEQ:Hid ((En.z s).c s=gnc none 0 (-1) ⟨y.1,-1,y.2⟩ 0 (s.ws.length:Int) (List.replicate 128 false)):=by
  show ncl s _ _ _=_;rw[ncl_gnc];show gnc _ _ _ (sat s (nd0 s)) (RM.cst s.st s.ws s.cs (List.replicate s.cs.length [])) ((PM.lf (List.replicate s.ws.length false):Nat):Int) (pad (List.replicate s.ws.length false))=_;rw[sat_nd0 hy,cst_nil0,pad_rep _ hrs.wl];unfold PM.lf;rw[List.count_replicate];simp;rfl
 rw[HEQ.out];obtain⟨ac,kc,rfl,_,_⟩:=ht.cs.form;obtain⟨aw,kw,rfl,_,_⟩:=ht.ws.form;obtain⟨gc,oc,rfl,w0,w1⟩:=ht.cs.at hy;have HT:=Hd ht;have HWC:Hid (∀w',Below W.heap.size W w'→w'.cell? ⟨gc,oc+0*2,none⟩=some (.int .i64 y.1)∧w'.cell? ⟨gc,oc+0*2+1,none⟩=some (.int .i64 y.2)):=fun w' hw=>⟨(Below.cell hw (p:=⟨gc,oc+0*2,none⟩) (World.block_lt_of_cell? W _ w0)).trans w0,(Below.cell hw (p:=⟨gc,oc+0*2+1,none⟩) (World.block_lt_of_cell? W _ w1)).trans w1⟩;have hwl:s.ws.length≤128:=hrs.wl;have hx1:=(Below.refl W.heap.size W).alloc (Nat.le_refl _) (.cells zn.toArray 230);have HZ1:=Hd (NK.new W zn_length);have HB1:=Hd hx1;clear ht HEQ w0 w1 hx1 hy hrs
 go_enter Tryz.func143,Tryz.ntmps143
 go_wp2_with (refine wpList_allocN rfl rfl ?_)
 generalize W.alloc (.cells zn.toArray 230)=W3 at HZ1 HB1⊢;have HT3:=Hd (HT.out.below' HB1.out);have HWS:Hid (∀w',Below W3.drew.heap.size W3.drew w'→w'.cell? ⟨tb,13,none⟩=some (.slice (some ⟨gc,oc,none⟩) s.cs.length kc)):=fun w' hw=>(HT3.out.drew.below' hw).c13;have HWV:Hid (∀w',Below W3.drew.heap.size W3.drew w'→w'.cell? ⟨tb,14,none⟩=some (.slice aw s.ws.length kw)):=fun w' hw=>(HT3.out.drew.below' hw).c14;have HXG:Hid (∀w',Below W3.drew.heap.size W3.drew w'→w'.cell? ⟨gc,oc+0*2,none⟩=some (.int .i64 y.1)∧w'.cell? ⟨gc,oc+0*2+1,none⟩=some (.int .i64 y.2)):=fun w' hw=>HWC.out w' (below_class HB1.out ((Below.refl W3.heap.size W3).drew.trans hw));refine wp_region_tail 15 (by kernel_rfl) (by kernel_rfl) ?_;simp only[List.take_succ_cons,List.take_zero,List.drop_succ_cons,List.drop_zero]
 iterate 4 (unfold wpCalm;generalize hK:wpCalm _ _ _ _ _=K;unfold Oper.calm;go_simp;refine⟨_,fun _ _=>rfl,?_⟩;subst hK)
 unfold wpCalm;generalize hK:wpCalm _ _ _ _ _=K;rw[if_pos (by go_simp)];refine calm_loadRs _ _ _ rfl rfl HWS.out ?_;go_simp;subst hK;unfold wpCalm;generalize hK:wpCalm _ _ _ _ _=K;rw[if_pos (by go_simp)];refine calm_ixRs _ _ (j:=0) rfl rfl rfl hc0 ?_;go_simp;subst hK;unfold wpCalm;generalize hK:wpCalm _ _ _ _ _=K;rw[if_pos (by go_simp)];refine calm_loadR2 _ _ _ y rfl rfl HXG.out ?_;go_simp;subst hK;unfold wpCalm;generalize hK:wpCalm _ _ _ _ _=K;unfold Oper.calm;go_simp;refine⟨_,fun w' hw=>HBG.out w',?_⟩;subst hK
 iterate 4 (unfold wpCalm;generalize hK:wpCalm _ _ _ _ _=K;unfold Oper.calm;go_simp;refine⟨_,fun _ _=>rfl,?_⟩;subst hK)
 unfold wpCalm;generalize hK:wpCalm _ _ _ _ _=K;rw[if_pos (by go_simp)];refine calm_loadWs _ _ _ rfl rfl HWV.out ?_;go_simp;subst hK;unfold wpCalm;generalize hK:wpCalm _ _ _ _ _=K;unfold Oper.calm;go_simp;refine⟨_,fun _ _=>rfl,?_⟩;subst hK;unfold wpCalm;generalize hK:wpCalm _ _ _ _ _=K;rw[if_pos (by go_simp)];refine calm_build _ _ rfl [(2,.int .i64 (-1)),(3,.agg #[.int .i64 y.1,.int .i64 (-1),.int .i64 y.2]),(5,.int .i64 (s.ws.length:Int))] (by simp only[List.map_toArray,List.map_cons,List.map_nil];rfl) _ (built_first ⟨y.1,-1,y.2⟩ (s.ws.length:Int)) ?_;go_simp;subst hK;refine wpCalm_nil ?_;intro W4 hb4;have hbd:=(Below.refl W3.heap.size W3).drew.trans hb4;have HB4:=Hd (below_class HB1.out hbd);have HZ4:=Hd (HZ1.out.below' hbd);have HG1:=Hd (gnc_one none 0 (-1) ⟨y.1,-1,y.2⟩ 0 (s.ws.length:Int) (List.replicate 128 false));clear hbd hb4 HWS HXG HWV HB1 HZ1 HT3 HBG HWC
 go_wp2_with (refine wpList_storeN rfl _ _ rfl W.heap.size rfl rfl HZ4.out (by unfold gnc;simp) HG1.out ?_)
 intro W6 hk6 _ hn6;go_wp2;refine bodyPost_ret (retN Tryz.results143 rfl hn6) rfl ⟨rfl,?_⟩;exact hk6.below HB4.out (by have:=HZ4.out.lt;omega) (fun i hi e=>by omega)
end
attribute [local go_sem] Oper.semAt_some
def cke(s:Sn)(e:En)(q:Nat):Nat→List En
 |0=>[]
 |j+1=>cke s e q j++if e.nd.st[j]?=some false∧mayk s e.nd.k (j:Int)=true then[e.grw q j]else[]
def che(s:Sn)(e:En)(q:Nat):List En:=cke s e q s.ws.length++if e.nd.k+1<s.cs.length then[e.nxc q]else[]
section
variable {s:Sn} {e:En} {q:Nat}
end
structure Cq(W:World)(c1 c2 tb q:Nat)(s:Sn)(vc vw vb:Value)(e:En)(G:Nat→Prop):Prop where
 t1:W.heap[c1]?=some (.cells #[.pointer (some ⟨tb,0,none⟩)] 188 (0,0))
 t2:W.heap[c2]?=some (.cells #[.pointer (some ⟨q,0,none⟩)] 227 (0,0))
 tr:TR G W tb s vc vw vb
 nk:NK W q (e.c s)
 g1:G c1
 g2:G c2
 gq:G q
section
variable {w W W':World} {c1 c2 tb q:Nat} {s:Sn} {vc vw vb:Value} {e:En} {G:Nat→Prop}
theorem Cq.keep(h:Cq W c1 c2 tb q s vc vw vb e G)(hz:W.heap.size≤W'.heap.size)(hk:∀k,G k→k<W.heap.size→W'.heap[k]?=W.heap[k]?):Cq W' c1 c2 tb q s vc vw vb e G:=
 ⟨(hk c1 h.g1 (Array.getElem?_eq_some_iff.1 h.t1).1).trans h.t1,(hk c2 h.g2 (Array.getElem?_eq_some_iff.1 h.t2).1).trans h.t2,h.tr.keep hz hk,h.nk.keep (hk q h.gq h.nk.lt),h.g1,h.g2,h.gq⟩
theorem Cq.below'(h:Cq W c1 c2 tb q s vc vw vb e G)(hb:Below W.heap.size W W'):Cq W' c1 c2 tb q s vc vw vb e G:=h.keep hb.size fun k _ hl=>hb.block k hl
end
structure Cj(W:World)(c1 c2 tb q:Nat)(s:Sn)(vc vw vb:Value)(e:En)(G:Nat→Prop)(J:List En→(Nat→Prop)→World→Prop)(pre:List En):Prop where
 sq:Cq W c1 c2 tb q s vc vw vb e G
 jj:J pre (fun _=>False) W
section
variable {W W':World} {c1 c2 tb q:Nat} {s:Sn} {vc vw vb:Value} {e:En} {G:Nat→Prop} {J:List En→(Nat→Prop)→World→Prop} {pre:List En}
theorem Cj.next(h:Cj W c1 c2 tb q s vc vw vb e G J pre)(hJ:Stb J)(hb:Below W.heap.size W W'):Cj W' c1 c2 tb q s vc vw vb e G J pre:=
 ⟨h.sq.below' hb,hJ pre _ _ W W' h.jj (Kp.ofBelow _ hb) (fun _ h=>.inl h)⟩
theorem Cj.round(h:Cj W c1 c2 tb q s vc vw vb e G J pre){x:En}(hk:Kept (fun k=>False∨G k) W W')(hj:J (pre++[x]) (fun _=>False) W'):Cj W' c1 c2 tb q s vc vw vb e G J (pre++[x]):=
 ⟨h.sq.keep hk.size (fun k hg hlt=>hk.same k hlt (.inr hg)),hj⟩
end
section
variable {W0:World} {K:Act→Prop} {o:Oper} {a:Act}
end
end Go.Proofs.YtlajleogofmkcaaGreat
