import Derived.Test.YtnkelgdnglaafaaGreatQ7
import Derived.OrdersHeld
import Derived.Deep.Cut
set_option maxHeartbeats 8000000
set_option maxRecDepth 100000
namespace Go.Proofs.YtnkelgdnglaafaaGreat
def ckd(s:Sn)(go:Nat→List (List Int)→List Bool→List Nat→Option (List Nat))(k:Nat)(b:List (List Int))(st:List Bool)(l:List Int)(x:Option (List Nat)):Option (List Nat):=
 l.foldl (fun y w=>if mayk s k w=true then y.bind (go k (PM.add b k w) (st.set w.toNat true))else y) x
def cnx(go:Nat→List (List Int)→List Bool→List Nat→Option (List Nat))(k:Nat)(b:List (List Int))(st:List Bool)(x:Option (List Nat)):Option (List Nat):=if k+1<b.length then x.bind (go (k+1) b st)else x
def cvs(s:Sn)(c:Int)(go:Nat→List (List Int)→List Bool→List Nat→Option (List Nat))(k:Nat)(b:List (List Int))(st:List Bool):List Nat→Option (List Nat)
 |[]=>none
 |m::r=>
  if 2<m∨(m=1∧lfs s st=[])∨(m=2∧lfs s st≠[])then none
  else if m≠1 then(if c≤lsv s k b st then some r else none)
  else cnx go k b st (ckd s go k b st (lfs s st) (some r))
def cvi(s:Sn)(c:Int):Nat→Nat→List (List Int)→List Bool→List Nat→Option (List Nat)
 |0,_,_,_,_=>none
 |f+1,k,b,st,r=>cvs s c (cvi s c f) k b st r
section
variable {s:Sn} {c:Int} {k:Nat} {b:List (List Int)} {st:List Bool}
theorem ckd_append{go:Nat→List (List Int)→List Bool→List Nat→Option (List Nat)}(l m:List Int)(x:Option (List Nat)):ckd s go k b st (l++m) x=ckd s go k b st m (ckd s go k b st l x):=by
 unfold ckd;rw[List.foldl_append]
theorem ckd_cons{go:Nat→List (List Int)→List Bool→List Nat→Option (List Nat)}(w:Int)(l:List Int)(x:Option (List Nat)):ckd s go k b st (w::l) x=ckd s go k b st l (if mayk s k w=true then x.bind (go k (PM.add b k w) (st.set w.toNat true))else x):=rfl
theorem cnx_none{go:Nat→List (List Int)→List Bool→List Nat→Option (List Nat)}:cnx go k b st none=none:=by
 unfold cnx;split<;>rfl
theorem cvs_cons(go:Nat→List (List Int)→List Bool→List Nat→Option (List Nat))(m:Nat)(r:List Nat):cvs s c go k b st (m::r)=if 2<m∨(m=1∧lfs s st=[])∨(m=2∧lfs s st≠[])then none
  else if m≠1 then(if c≤lsv s k b st then some r else none)
  else cnx go k b st (ckd s go k b st (lfs s st) (some r)):=rfl
theorem cvs_one{go:Nat→List (List Int)→List Bool→List Nat→Option (List Nat)}(hl:lfs s st≠[])(r:List Nat):cvs s c go k b st (1::r)=cnx go k b st (ckd s go k b st (lfs s st) (some r)):=by
 rw[cvs_cons,if_neg (by simp[hl]),if_neg (by simp)]
def Lft(x y:List Nat):Prop:=∃m,x=m++y
theorem Lft.refl(x:List Nat):Lft x x:=⟨[],rfl⟩
theorem Lft.trans{x y z:List Nat}(h:Lft x y)(g:Lft y z):Lft x z:=by
 obtain⟨m,rfl⟩:=h;obtain⟨n,rfl⟩:=g;exact⟨m++n,by rw[List.append_assoc]⟩
def Mrk(c:Int)(g:List Nat→Option (List Nat))(x y:Sx):Prop:=y.ended=false→x.ended=false∧∃M:List Nat,y.marks=x.marks++M∧y.nodes=x.nodes+M.length∧(c≤y.cost→∀t,g (M++t)=some t)
theorem kids_mk{B f:Nat}:∀(l:List Int),(∀w∈l,mayk s k w=true→∀x,Mrk c (cvi s c f k (PM.add b k w) (st.set w.toNat true)) x (vis s B f k (PM.add b k w) (st.set w.toNat true) x))→∀(x:Sx),Mrk c (fun r=>ckd s (cvi s c f) k b st l (some r)) x (kids s (vis s B f) k b st l x)
 |[],_,x=>fun h=>⟨h,[],by simp[kids],by simp[kids],fun _ t=>rfl⟩
 |w::l,ih,x=>fun h=>by
  have ihl:=kids_mk l (fun v hv=>ih v (by simp[hv]));have hkc:kids s (vis s B f) k b st (w::l) x=kids s (vis s B f) k b st l (if mayk s k w=true then vis s B f k (PM.add b k w) (st.set w.toNat true) x else x):=rfl;rw[hkc]at h⊢;by_cases hm:mayk s k w=true
  ·rw[if_pos hm]at h⊢;obtain⟨h1,M1,e1,n1,g1⟩:=ihl _ h;obtain⟨h2,M2,e2,n2,g2⟩:=ih w (by simp) hm x h1;have hd:Dn (vis s B f k (PM.add b k w) (st.set w.toNat true) x) (kids s (vis s B f) k b st l (vis s B f k (PM.add b k w) (st.set w.toNat true) x)):=kids_rel (s:=s) (R:=Dn) Dn.refl (fun _ _ _ h g=>h.trans g) l (fun w _ _ y=>vis_dn f k _ _ y) _;refine⟨h2,M2++M1,by rw[e1,e2,List.append_assoc],by rw[n1,n2,List.length_append,Nat.add_assoc],fun hc t=> ?_⟩;show ckd s (cvi s c f) k b st (w::l) (some (M2++M1++t))=some t;rw[ckd_cons,if_pos hm,Option.bind_some,List.append_assoc,g2 (Int.le_trans hc hd.1)];exact g1 hc t
  ·rw[if_neg hm]at h⊢;obtain⟨h1,M1,e1,n1,g1⟩:=ihl _ h;refine⟨h1,M1,e1,n1,fun hc t=> ?_⟩;show ckd s (cvi s c f) k b st (w::l) (some (M1++t))=some t;rw[ckd_cons,if_neg hm];exact g1 hc t
theorem vis_mk{B:Nat}:∀(f k:Nat) (b:List (List Int)) (st:List Bool) (x:Sx),b.length-k+PM.lf st≤f→k<b.length→Mrk c (cvi s c f k b st) x (vis s B f k b st x)
 |0,k,b,st,x,hf,hk=>by omega
 |f+1,k,b,st,x,hf,hk=>fun h=>by
  have h:(vst s B (vis s B f) k b st x).ended=false:=h;show x.ended=false∧∃M:List Nat,(vst s B (vis s B f) k b st x).marks=x.marks++M∧(vst s B (vis s B f) k b st x).nodes=x.nodes+M.length∧(c≤(vst s B (vis s B f) k b st x).cost→∀t,cvs s c (cvi s c f) k b st (M++t)=some t);unfold vst at h⊢;by_cases h1:x.ended=true
  ·rw[if_pos h1,h1]at h;cases h
  ·have h1':x.ended=false:=by cases e:x.ended with|false=>rfl|true=>exact absurd e h1
   refine⟨h1',?_⟩;rw[if_neg h1]at h⊢;by_cases h2:x.nodes=B
   ·rw[if_pos h2]at h;cases h
   ·rw[if_neg h2]at h⊢;by_cases h3:lfs s st=[]
    ·rw[if_pos h3]at h⊢;have hls:=lsv_leaf (k:=k) (b:=b) h3
     have step:∀t,c≤RM.cst s.st s.ws s.cs b→cvs s c (cvi s c f) k b st ([2]++t)=some t:=fun t hc=>by
      show cvs s c (cvi s c f) k b st (2::t)=some t;rw[cvs_cons,if_neg (by simp[h3]),if_pos (by simp),if_pos (by rw[hls];exact hc)]
     by_cases h4:RM.cst s.st s.ws s.cs b<x.cost
     ·rw[if_pos h4]at h⊢;exact⟨[2],rfl,rfl,fun hc t=>step t hc⟩
     ·rw[if_neg h4]at h⊢;exact⟨[2],rfl,rfl,fun hc t=>step t (by have hc:c≤x.cost:=hc;omega)⟩
    ·rw[if_neg h3]at h⊢;by_cases h5:x.cost≤lsv s k b st
     ·rw[if_pos h5]at h⊢;refine⟨[0],rfl,rfl,fun hc t=> ?_⟩;have hc:c≤x.cost:=hc;show cvs s c (cvi s c f) k b st (0::t)=some t;rw[cvs_cons,if_neg (by simp),if_pos (by simp),if_pos (by omega)]
     ·rw[if_neg h5]at h⊢
      have hk1:=kids_mk (s:=s) (c:=c) (k:=k) (b:=b) (st:=st) (B:=B) (f:=f) (lfs s st) (fun w hw hm y=>by
       obtain⟨v,rfl,hv,hs⟩:=lfs_mem.1 hw;have hlf:=PM.lf_set hs;have hlen:(PM.add b k (v:Int)).length=b.length:=by unfold PM.add;rw[List.length_set]
       rw[Int.toNat_natCast]
       exact vis_mk f k _ _ y (by rw[hlen];omega) (by rw[hlen];exact hk)) ⟨x.nodes+1,false,x.plan,x.cost,x.marks++[1]⟩
      generalize hz:kids s (vis s B f) k b st (lfs s st) ⟨x.nodes+1,false,x.plan,x.cost,x.marks++[1]⟩=z at h hk1⊢;unfold nxt at h⊢;by_cases hk2:k+1<b.length
      ·rw[if_pos hk2]at h⊢;obtain⟨g1,M1,e1,n1,c1⟩:=vis_mk f (k+1) b st z (by omega) hk2 h;obtain⟨g2,M2,e2,n2,c2⟩:=hk1 g1;have hd:=vis_dn (s:=s) (B:=B) f (k+1) b st z;refine⟨1::(M2++M1),?_,?_,fun hc t=> ?_⟩
       ·rw[e1,e2];simp
       ·rw[n1,n2];simp;omega
       ·show cvs s c (cvi s c f) k b st (1::(M2++M1++t))=some t;have c2:=c2 (Int.le_trans hc hd.1) (M1++t);have c2:ckd s (cvi s c f) k b st (lfs s st) (some (M2++(M1++t)))=some (M1++t):=c2;rw[cvs_one h3,List.append_assoc,c2];unfold cnx;rw[if_pos hk2,Option.bind_some];exact c1 hc t
      ·rw[if_neg hk2]at h⊢;obtain⟨g2,M2,e2,n2,c2⟩:=hk1 h;refine⟨1::M2,?_,?_,fun hc t=> ?_⟩
       ·rw[e2];simp
       ·rw[n2];simp;omega
       ·show cvs s c (cvi s c f) k b st (1::(M2++t))=some t;have c2:ckd s (cvi s c f) k b st (lfs s st) (some (M2++t))=some t:=c2 hc t;rw[cvs_one h3,c2];unfold cnx;rw[if_neg hk2]
end
section
variable {s:Sn} {n:Nn}
theorem asp_set:∀{cs:List (Int×Int)} {b:List (List Int)} {k:Nat} {r:Int×Int} (l':List Int),cs[k]?=some r→k<b.length→asp s cs (b.set k l')=(asp s cs b).set k (RM.go s.st (RM.bg r) (l'.map (RM.wf s.ws)))
 |[],_,_,_,_,h,_=>by simp at h
 |_::_,[],_,_,_,_,h=>by simp at h
 |_::_,_::_,0,_,_,h,_=>by cases h;rfl
 |_::cs,l::b,k+1,r,l',h,hk=>by
  rw[List.set_cons_succ,asp,asp,List.set_cons_succ,asp_set l' (by simpa using h) (by simpa using hk)]
def wys(s:Sn)(n:Nn):List RM.Sp:=asp s s.cs n.b
theorem wys_length(h:n.ok s):(wys s n).length=s.cs.length:=asp_length h.bl.symm
theorem wys_k(h:n.ok s):(wys s n)[n.k]?=some (sat s n):=by
 obtain⟨l,hl⟩:∃l,n.b[n.k]?=some l:=⟨_,List.getElem?_eq_getElem h.kl⟩;obtain⟨r,hr⟩:∃r,s.cs[n.k]?=some r:=⟨_,List.getElem?_eq_getElem (by have:=h.kl;have:=h.bl;omega)⟩;rw[sat_eq hr hl];exact asp_get hr hl
theorem wys_grw(h:n.ok s)(w:Nat):wys s (grw n w)=(wys s n).set n.k (RM.nx s.st (sat s n) (RM.wf s.ws (w:Int))):=by
 obtain⟨l,hl⟩:∃l,n.b[n.k]?=some l:=⟨_,List.getElem?_eq_getElem h.kl⟩;obtain⟨r,hr⟩:∃r,s.cs[n.k]?=some r:=⟨_,List.getElem?_eq_getElem (by have:=h.kl;have:=h.bl;omega)⟩;have e:(grw n w).b=n.b.set n.k (l++[(w:Int)]):=by unfold grw PM.add;simp only;rw[hl];rfl
 unfold wys;rw[e,asp_set _ hr h.kl,sat_eq hr hl,List.map_append,List.map_cons,List.map_nil,RM.go_snoc]
theorem wys_nd0(s:Sn):wys s (nd0 s)=s.cs.map RM.bg:=asp_empty (by simp[nd0]) fun l hl=>List.eq_of_mem_replicate hl
theorem wys_ok(h:n.ok s){c:Nat}{a:RM.Sp}(ha:(wys s n)[c]?=some a):RM.Ok s.st a∧a.le≤100000000:=by
 have hb:=bgn_bs h;have hc:c<s.cs.length:=by rw[←wys_length h];exact(List.getElem?_eq_some_iff.1 ha).1
 obtain⟨l,hl⟩:∃l,n.b[c]?=some l:=⟨_,List.getElem?_eq_getElem (by rw[h.bl];exact hc)⟩;obtain⟨r,hr⟩:∃r,s.cs[c]?=some r:=⟨_,List.getElem?_eq_getElem hc⟩;unfold wys at ha;rw[asp_get hr hl]at ha;cases ha;have hall:∀x∈l,0≤x∧x<s.ws.length:=fun x hx=>hb.fr x (List.mem_flatten.2 ⟨l,List.mem_of_getElem? hl,hx⟩);have hin:=hb.rz.inn (l:=l) hall;have ok0:=hb.rz.cr r (List.mem_of_getElem? hr);refine⟨RM.go_ok hb.rz.rt ok0 hin,?_⟩;have g3:=RM.go_le hb.rz.rt ok0 hin;rw[List.length_map]at g3;have g7:(RM.bg r).le=r.2:=rfl;have:=hb.af r (List.mem_of_getElem? hr);have:=h.ll l (List.mem_of_getElem? hl);omega
theorem opk_wys(h:n.ok s){f:Int}{m c:Nat}{a:RM.Sp}(hk:n.k≤c)(ha:(wys s n)[c]?=some a):RM.opk s.st s.ws s.cs n.b f m n.k (c+1)=RM.opk s.st s.ws s.cs n.b f m n.k c++if PM.bt m c=true then[RM.ar s.st a f]else[]:=by
 have hc:c<s.cs.length:=by rw[←wys_length h];exact(List.getElem?_eq_some_iff.1 ha).1
 obtain⟨l,hl⟩:∃l,n.b[c]?=some l:=⟨_,List.getElem?_eq_getElem (by rw[h.bl];exact hc)⟩;obtain⟨r,hr⟩:∃r,s.cs[c]?=some r:=⟨_,List.getElem?_eq_getElem hc⟩;unfold wys at ha;rw[asp_get hr hl]at ha;cases ha;exact RM.opk_succ h.bl.symm hk hr hl
def ert(s:Sn)(n:Nn)(j c:Nat):Int:=eml (RM.opk s.st s.ws s.cs n.b (RM.wf s.ws (j:Int)) ((msk s)[j]?.getD 0) n.k c)
theorem ert_zero(j:Nat):ert s n j n.k=1099511627776:=by unfold ert;rw[RM.opk_start];rfl
theorem ert_yes(h:n.ok s){j c:Nat}{a:RM.Sp}(hk:n.k≤c)(ha:(wys s n)[c]?=some a)(hm:mayk s c (j:Int)=true):ert s n j (c+1)=min (ert s n j c) (RM.ar s.st a (RM.wf s.ws (j:Int))):=by
 unfold ert;rw[opk_wys h hk ha,if_pos (by unfold mayk at hm;rw[Int.toNat_natCast]at hm;exact hm),eml_snoc]
theorem ert_no(h:n.ok s){j c:Nat}{a:RM.Sp}(hk:n.k≤c)(ha:(wys s n)[c]?=some a)(hm:mayk s c (j:Int)=false):ert s n j (c+1)=ert s n j c:=by
 unfold ert;rw[opk_wys h hk ha,if_neg (by unfold mayk at hm;rw[Int.toNat_natCast]at hm;rw[hm];simp),List.append_nil]
theorem ert_end(h:n.ok s)(j:Nat):ert s n j s.cs.length=eml (optw s n.k n.b j):=by
 unfold ert optw RM.opt;rw[RM.opk_end (Nat.le_refl _) (by rw[h.bl];exact Nat.le_refl _)]
theorem lsk_limit(h:n.ok s){j:Nat}(hs:n.st[j]?=some false)(hj:j<s.ws.length)(he:eml (optw s n.k n.b j)=1099511627776):lsv s n.k n.b n.st=1099511627776:=by
 have ho:=optw_bd h.nb.bs (fun l hl=>by have:=h.ll l hl;omega) j
 have hn:optw s n.k n.b j=[]:=by
  by_cases hn:optw s n.k n.b j=[]
  ·exact hn
  ·rw[eml_low (fun t ht=>by have:=(ho t ht).2;omega) hn]at he;have:=ho _ (RM.low_mem hn).1;omega
 unfold lsv;rw[if_neg];intro ha;have:=List.all_eq_true.1 ha (j:Int) (lfk_mem.2 ⟨j,rfl,hj,hs⟩);rw[Int.toNat_natCast,hn]at this;simp at this
def Lall(s:Sn)(n:Nn)(j:Nat):Prop:=((lfk n.st j).all fun x=> !(optw s n.k n.b x.toNat).isEmpty)=true
theorem lall_zero:Lall s n 0:=rfl
theorem lall_same{j:Nat}(h:Lall s n j)(hs:n.st[j]?≠some false):Lall s n (j+1):=by
 unfold Lall at*;rw[lfk_succ,if_neg hs,List.append_nil];exact h
theorem lall_more(h:n.ok s){j:Nat}(ha:Lall s n j)(hj:j<128)(hs:n.st[j]?=some false)(he:eml (optw s n.k n.b j)≠1099511627776):Lall s n (j+1)∧lsk s n.k n.b n.st (j+1)=lsk s n.k n.b n.st j+eml (optw s n.k n.b j)∧0≤lsk s n.k n.b n.st j∧lsk s n.k n.b n.st j≤900000000000∧0≤eml (optw s n.k n.b j)∧eml (optw s n.k n.b j)≤80000000:=by
 have hll:∀l∈n.b,l.length≤1000:=fun l hl=>by have:=h.ll l hl;omega
 have ho:=optw_bd h.nb.bs hll j;have hb:=lsk_bd h.nb.bs hll j (by omega);have hn:optw s n.k n.b j≠[]:=fun e=>he (by rw[e];rfl);have hl:=eml_low (fun t ht=>by have:=(ho t ht).2;omega) hn;have hlb:=ho _ (RM.low_mem hn).1;have e1:lfk n.st (j+1)=lfk n.st j++[(j:Int)]:=by rw[lfk_succ,if_pos hs]
 have ha2:Lall s n (j+1):=by
  unfold Lall at*;rw[e1,List.all_append,ha];simp[hn]
 refine⟨ha2,?_,hb.1,hb.2.2 ha,by omega,by omega⟩;unfold Lall at ha ha2;rw[hl];unfold lsk;rw[if_pos ha,if_pos ha2,e1,List.map_append,List.sum_append];simp;omega
end
section
variable {s:Sn} {p:List (List Int)}
theorem cut_add{k j:Nat}{l:List Int}{x:Int}(hk:k<p.length)(hl:p[k]?=some l)(hj:l[j]?=some x):cutp p k (j+1)=PM.add (cutp p k j) k x:=by
 unfold PM.add;rw[cutp_at hk];unfold cutp;rw[List.set_append_right _ _ (by rw[List.length_take];omega),List.length_take,show k-min k p.length=0 by omega,List.set_cons_zero,hl,Option.getD_some,Option.getD_some,List.take_add_one,hj]
 rfl
theorem cut_next{k:Nat}{l:List Int}(hk:k+1<p.length)(hl:p[k]?=some l):cutp p k l.length=cutp p (k+1) 0:=by
 have hlt:k<p.length:=by omega
 refine List.ext_getElem? fun c=> ?_;rcases Nat.lt_trichotomy c k with h|h|h
 ·rw[cutp_lo hlt h,cutp_lo hk (by omega)]
 ·subst h;rw[cutp_at hlt,cutp_lo hk (by omega),hl,Option.getD_some,List.take_length]
 ·by_cases hc:c<p.length
  ·rw[cutp_hi hlt h hc];by_cases e:c=k+1
   ·subst e;rw[cutp_at hk,List.take_zero]
   ·rw[cutp_hi hk (by omega) hc]
  ·rw[List.getElem?_eq_none (by rw[cutp_length _ hlt];omega),List.getElem?_eq_none (by rw[cutp_length _ hk];omega)]
theorem cut_zero(hp:0<p.length):cutp p 0 0=List.replicate p.length []:=by
 unfold cutp;rw[List.take_zero,List.take_zero,List.nil_append,←List.replicate_succ,show p.length-(0+1)+1=p.length by omega]
theorem cut_step(hp:Fs s p){k j:Nat}{l:List Int}{w:Nat}{st:List Bool}(hk:k<p.length)(hl:p[k]?=some l)(hj:l[j]?=some (w:Int))(h:Nn.ok s ⟨k,cutp p k j,st⟩):w<s.ws.length∧st[w]?=some false∧Nn.ok s (grw ⟨k,cutp p k j,st⟩ w)∧(grw ⟨k,cutp p k j,st⟩ w).b=cutp p k (j+1):=by
 have hadd:=cut_add hk hl hj;have hbA:RM.Beg k (PM.add (cutp p k j) k (w:Int)) p:=hadd▸cutp_beg (j+1) hk;have hok:=hp.fz.ok k _ hl (w:Int) (List.mem_of_getElem? hj);obtain⟨g1,g2,g3⟩:=PM.okx_iff.1 hok;have hv:w<s.ws.length:=by have:=hp.ml;omega
 have hnot:(w:Int)∉(cutp p k j).flatten:=fun hm=>by
  have h6:=hbA.sub.count_le (w:Int);rw[PM.count_add (by rw[cutp_length j hk];exact hk),if_pos rfl,hp.fz.once w (by rw[hp.ml];exact hv)]at h6;have:=List.count_pos_iff.2 hm;omega
 have hs:st[w]?=some false:=((bgn_bs h).lf w hv).2 hnot;exact⟨hv,hs,Nn.ok.grw h hv hs g3,hadd.symm⟩
end
open Go.RowKit Go.Shelf
def wcs:List RM.Sp→List Value
 |[]=>[]
 |a::l=>.int .i64 a.fl::.int .i64 a.he::.int .i64 a.le::wcs l
theorem wcs_length:∀(l:List RM.Sp),(wcs l).length=l.length*3
 |[]=>rfl
 |a::l=>by rw[wcs,List.length_cons,List.length_cons,List.length_cons,wcs_length l,List.length_cons];omega
theorem wcs_get:∀{l:List RM.Sp} {i:Nat} {a:RM.Sp},l[i]?=some a→(wcs l)[i*3]?=some (.int .i64 a.fl)∧(wcs l)[i*3+1]?=some (.int .i64 a.he)∧(wcs l)[i*3+2]?=some (.int .i64 a.le)
 |[],_,_,h=>by simp at h
 |x::l,0,a,h=>by simp at h;subst h;exact⟨rfl,rfl,rfl⟩
 |x::l,i+1,a,h=>by
  have:=wcs_get (l:=l) (i:=i) (a:=a) (by simpa using h);rw[show(i+1)*3=i*3+1+1+1 by omega];exact this
theorem wcs_set:∀(l:List RM.Sp) (i:Nat) (a:RM.Sp),(((wcs l).set (i*3) (.int .i64 a.fl)).set (i*3+1) (.int .i64 a.he)).set (i*3+2) (.int .i64 a.le)=wcs (l.set i a)
 |[],_,_=>by simp[wcs]
 |x::l,0,a=>rfl
 |x::l,i+1,a=>by
  rw[List.set_cons_succ,wcs,wcs,←wcs_set l i a,show(i+1)*3=i*3+1+1+1 by omega]
  rfl
theorem wcs_one(l:List RM.Sp):∀u∈wcs l,u.oneCell'=true:=by
 induction l with
 |nil=>intro u hu;simp[wcs]at hu
 |cons a l ih=>
  intro u hu;simp only[wcs,List.mem_cons]at hu;rcases hu with rfl|rfl|rfl|hu
  ·rfl
  ·rfl
  ·rfl
  ·exact ih u hu
def w0:RM.Sp:=⟨0,0,0⟩
theorem wcs_rep:∀(n:Nat),wcs (List.replicate n w0)=List.replicate (n*3) (.int .i64 0)
 |0=>rfl
 |n+1=>by rw[List.replicate_succ,wcs,wcs_rep n,show(n+1)*3=n*3+1+1+1 by omega];rfl
theorem infoV:(Tryz.prog.info? 252).map (·.size)=some 3:=by kernel_rfl
theorem infoVz:(Tryz.prog.info? 252).map (fun i=>(i.zero,i.size,i.bytes))=some (some (.agg #[.int .i64 0,.int .i64 0,.int .i64 0]),3,24):=by kernel_rfl
theorem mkV(n:Nat)(hn:n≤1000)(W:World):(Instr.makeSlice 225 (.int .i64 (n:Int)) (.int .i64 (n:Int))).run Tryz.prog W=.ok (.slice (some ⟨W.heap.size,0,none⟩) n n) (W.alloc (.cells (wcs (List.replicate n w0)).toArray 252)):=by
 obtain⟨i,hi,h1,h2,h3⟩:=info_parts infoVz
 have:=run_make (P:=Tryz.prog) W 225 252 i _ Tryz.underlying225 hi h1 .i64 .i64 (n:Int) (n:Int) (by omega) (by omega) (by
  have:(i.bytes:Int)*(n:Int)≤24*1000:=Int.mul_le_mul (by omega) (by omega) (by omega) (by omega)
  omega) (by omega)
 have e:madeCells (Value.agg #[.int .i64 0,.int .i64 0,.int .i64 0]).cells (n*3)=(wcs (List.replicate n w0)).toArray:=by
  rw[wcs_rep];apply Array.ext
  ·rw[size_madeCells];simp
  ·intro j h4 h5;have:j%3=0∨j%3=1∨j%3=2:=by omega
   simp only[madeCells,List.getElem_toArray,List.getElem_replicate,Array.getElem_map,Array.getElem_range,Value.cells];rcases this with e|e|e<;>simp[e]
 rw[this,h2,Int.toNat_natCast,e]
def WR(W:World)(g:Nat)(l:List RM.Sp):Prop:=W.heap[g]?=some (.cells (wcs l).toArray 252 (0,0))
section
variable {W W':World} {g:Nat} {l:List RM.Sp}
theorem WR.lt(h:WR W g l):g<W.heap.size:=(Array.getElem?_eq_some_iff.1 h).1
theorem WR.keep(h:WR W g l)(hk:W'.heap[g]?=W.heap[g]?):WR W' g l:=hk.trans h
theorem WR.below'(h:WR W g l)(hb:Below W.heap.size W W'):WR W' g l:=h.keep (hb.block g h.lt)
theorem WR.kp{G:Nat→Prop}(h:WR W g l)(k:Kp G W W')(hG:¬G g):WR W' g l:=h.keep (k.block g h.lt hG)
theorem WR.new(W:World)(l:List RM.Sp):WR (W.alloc (.cells (wcs l).toArray 252)) W.heap.size l:=World.alloc_heap_new W _
theorem WR.cells(h:WR W g l){i:Nat}{a:RM.Sp}(hi:l[i]?=some a):W.cell? ⟨g,i*3,none⟩=some (.int .i64 a.fl)∧W.cell? ⟨g,i*3+1,none⟩=some (.int .i64 a.he)∧W.cell? ⟨g,i*3+2,none⟩=some (.int .i64 a.le):=by
 obtain⟨h1,h2,h3⟩:=wcs_get hi;exact⟨(blk_cell h _).trans h1,(blk_cell h _).trans h2,(blk_cell h _).trans h3⟩
theorem WR.range(h:WR W g l){i:Nat}{a:RM.Sp}(hi:l[i]?=some a):W.rangeAt g (i*3) [.int .i64 a.fl,.int .i64 a.he,.int .i64 a.le]:=fun j v hv=>by
 obtain⟨h1,h2,h3⟩:=h.cells hi
 match j,hv with
 |0,hv=>cases hv;exact h1
 |1,hv=>cases hv;exact h2
 |2,hv=>cases hv;exact h3
 |j+3,hv=>simp at hv
theorem WR.put(h:WR W g l)(i:Nat)(a:RM.Sp):WR (((W.setCell ⟨g,i*3,none⟩ (.int .i64 a.fl)).setCell ⟨g,i*3+1,none⟩ (.int .i64 a.he)).setCell ⟨g,i*3+2,none⟩ (.int .i64 a.le)) g (l.set i a):=by
 have h1:W.heap[g]?=some (.cells (wcs l).toArray 252 (0,0)):=h;have:=blk_set (blk_set (blk_set h1 (i*3) (.int .i64 a.fl)) (i*3+1) (.int .i64 a.he)) (i*3+2) (.int .i64 a.le);rw[wcs_set]at this;exact this
end
theorem loadV(w:World)(b f:Nat)(a:RM.Sp)(h:w.rangeAt b f [.int .i64 a.fl,.int .i64 a.he,.int .i64 a.le]):
  (Instr.loadAt 252 (.pointer (some ⟨b,f,none⟩))).run Tryz.prog w=.ok (.agg #[.int .i64 a.fl,.int .i64 a.he,.int .i64 a.le]) w:=
 run_loadAt_mid (P:=Tryz.prog) w b f 252 _ _ h Tryz.underlying252 rfl infoV
theorem ixV(W:World){g n cap j:Nat}(hj:j<n):(Instr.indexAt 225 (.slice (some ⟨g,0,none⟩) n cap) (.int .i64 (j:Int))).run Tryz.prog W=.ok (.pointer (some ⟨g,j*3,none⟩)) W:=by
 rw[run_indexAt_slice W 225 _ n cap .i64 j (by kernel_rfl),if_pos ⟨by omega,by omega⟩,show Tryz.prog.elem 225=252 by kernel_rfl,Tryz.sizeOf252];simp only[Result.andThen_ok,Int.toNat_natCast,Addr.add_mid,Nat.zero_add]
theorem loadVs(w:World)(b k:Nat)(v:Value)(h:w.cell? ⟨b,k,none⟩=some v):(Instr.loadAt 225 (.pointer (some ⟨b,k,none⟩))).run Tryz.prog w=.ok v w:=by simp[go_sem,h]
theorem loadWv(w:World)(b k:Nat)(v:Value)(h:w.cell? ⟨b,k,none⟩=some v):(Instr.loadAt 98 (.pointer (some ⟨b,k,none⟩))).run Tryz.prog w=.ok v w:=by simp[go_sem,h]
section
variable {W0:World} {K:Act→Prop} {o:Oper} {a:Act}
theorem calm_loadV(x:Operand)(b f:Nat)(z:RM.Sp)(ho:o.op=.load 252 x)(hx:a.eval x=.pointer (some ⟨b,f,none⟩))(hr:∀w,Below W0.heap.size W0 w→w.rangeAt b f [.int .i64 z.fl,.int .i64 z.he,.int .i64 z.le])
  (h:K (a.put o.dst (.agg #[.int .i64 z.fl,.int .i64 z.he,.int .i64 z.le]))):Oper.calm Tryz.prog W0 o a K:=
 calm_val _ (fun w hw=>by unfold execOp;simp only[ho,hx,Sem.run_bind,Sem.run_pure,Result.andThen_ok,loadV w b f z (hr w hw)]) h
theorem calm_ixV(x y:Operand){g n cap j:Nat}(ho:o.op=.indexAddr 225 x y)(hx:a.eval x=.slice (some ⟨g,0,none⟩) n cap)(hy:a.eval y=.int .i64 (j:Int))(hj:j<n)
  (h:K (a.put o.dst (.pointer (some ⟨g,j*3,none⟩)))):Oper.calm Tryz.prog W0 o a K:=
 calm_val _ (fun w hw=>by unfold execOp;simp only[ho,hx,hy,Sem.run_bind,Sem.run_pure,Result.andThen_ok,ixV w hj]) h
theorem calm_loadVs(x:Operand)(b k:Nat){v:Value}(ho:o.op=.load 225 x)(hx:a.eval x=.pointer (some ⟨b,k,none⟩))(hr:∀w,Below W0.heap.size W0 w→w.cell? ⟨b,k,none⟩=some v)
  (h:K (a.put o.dst v)):Oper.calm Tryz.prog W0 o a K:=
 calm_val _ (fun w hw=>by unfold execOp;simp only[ho,hx,Sem.run_bind,Sem.run_pure,Result.andThen_ok,loadVs w b k v (hr w hw)]) h
theorem calm_loadWv(x:Operand)(b k:Nat){v:Value}(ho:o.op=.load 98 x)(hx:a.eval x=.pointer (some ⟨b,k,none⟩))(hr:∀w,Below W0.heap.size W0 w→w.cell? ⟨b,k,none⟩=some v)
  (h:K (a.put o.dst v)):Oper.calm Tryz.prog W0 o a K:=
 calm_val _ (fun w hw=>by unfold execOp;simp only[ho,hx,Sem.run_bind,Sem.run_pure,Result.andThen_ok,loadWv w b k v (hr w hw)]) h
theorem calm_ixWv(x y:Operand){g f n cap j:Nat}(ho:o.op=.indexAddr 98 x y)(hx:a.eval x=.slice (some ⟨g,f,none⟩) n cap)(hy:a.eval y=.int .i64 (j:Int))(hj:j<n)
  (h:K (a.put o.dst (.pointer (some ⟨g,f+j*2,none⟩)))):Oper.calm Tryz.prog W0 o a K:=
 calm_val _ (fun w hw=>by unfold execOp;simp only[ho,hx,hy,Sem.run_bind,Sem.run_pure,Result.andThen_ok,ixW w rfl hj]) h
theorem calm_fieldV(x:Operand){f h l:Int}(ho:o.op=.field 252 x 1)(hx:a.eval x=.agg #[.int .i64 f,.int .i64 h,.int .i64 l])
  (hK:K (a.put o.dst (.int .i64 h))):Oper.calm Tryz.prog W0 o a K:=
 calm_val _ (fun w hw=>by
  have hf:(Instr.field 252 (.agg #[.int .i64 f,.int .i64 h,.int .i64 l]) 1).run Tryz.prog w=.ok (.int .i64 h) w:=by kernel_rfl
  unfold execOp
  simp only[ho,hx,Sem.run_bind,Sem.run_pure,Result.andThen_ok,hf]) hK
end
theorem wpList_storeV{ops:Array Oper}{rest:List Oper}{op:Oper}{a:Act}{w:World}{Q:Exit→Act→World→Prop}(hgd:op.guard=none)(x y:Operand)(ho:op.op=.store 252 x y)
  (g i:Nat) (l:List RM.Sp) (hi:i<l.length) (z:RM.Sp) (hL:WR w g l) (hx:a.eval x=.pointer (some ⟨g,i*3,none⟩)) (hy:a.eval y=.agg #[.int .i64 z.fl,.int .i64 z.he,.int .i64 z.le])
  (hn:∀W',Kp (fun k=>k=g) w W'→WR W' g (l.set i z)→wpList Tryz.prog ops Q rest (a.put op.dst undef) W'):wpList Tryz.prog ops Q (op::rest) a w:=by
 obtain⟨b,hb⟩:∃b,l[i]?=some b:=⟨_,List.getElem?_eq_getElem hi⟩;obtain⟨h1,h2,h3⟩:=hL.cells hb;refine wpList_store_mid hgd 252 x y ho g (i*3) #[.int .i64 z.fl,.int .i64 z.he,.int .i64 z.le] hx hy (fun j hj=> ?_) infoV (by simp[Value.oneCell']) ?_
 ·refine⟨?_,blk_fr hL _⟩;have:j=0∨j=1∨j=2:=by simp at hj;omega
  rcases this with rfl|rfl|rfl
  ·rw[Nat.add_zero,h1];rfl
  ·rw[h2];rfl
  ·rw[h3];rfl
 ·exact hn _ ((((Kp.refl (fun k=>k=g) w).set g _ _ (fun _=>rfl)).set g _ _ (fun _=>rfl)).set g _ _ (fun _=>rfl)) (hL.put i z)
def VB(W:World)(b:Nat)(a:RM.Sp):Prop:=W.heap[b]?=some (.cells #[.int .i64 a.fl,.int .i64 a.he,.int .i64 a.le] 252 (0,0))
section
variable {W W':World} {b:Nat} {a:RM.Sp}
theorem VB.lt(H:VB W b a):b<W.heap.size:=(Array.getElem?_eq_some_iff.1 H).1
theorem VB.cell(H:VB W b a)(i:Nat):W.cell? ⟨b,i,none⟩=[Value.int .i64 a.fl,.int .i64 a.he,.int .i64 a.le][i]?:=blk_cell H i
theorem VB.below'(H:VB W b a)(hb:Below W.heap.size W W'):VB W' b a:=(hb.block b H.lt).trans H
theorem VB.new(W:World)(a:RM.Sp):VB (W.alloc (.cells #[.int .i64 a.fl,.int .i64 a.he,.int .i64 a.le] 252)) W.heap.size a:=World.alloc_heap_new W _
end
theorem wpList_storeVb{ops:Array Oper}{rest:List Oper}{op:Oper}{a:Act}{w:World}{Q:Exit→Act→World→Prop}(hgd:op.guard=none)(x y:Operand)(ho:op.op=.store 252 x y)
  (b:Nat) {s:RM.Sp} {f h l:Int} (hx:a.eval x=.pointer (some ⟨b,0,none⟩)) (hy:a.eval y=.agg #[.int .i64 f,.int .i64 h,.int .i64 l]) (hL:VB w b s)
  (hn:∀W',Kp (fun k=>k=b) w W'→VB W' b ⟨f,h,l⟩→wpList Tryz.prog ops Q rest (a.put op.dst undef) W'):wpList Tryz.prog ops Q (op::rest) a w:=
 wpList_store_row hgd 252 x y ho b _ hx hy _ _ hL infoV rfl (by simp[Value.oneCell']) (hn _ (kp_row b w _) (setRow_heap w b _ _ _ _ hL))
theorem retV{fn:Func}{t:Tmp}(hf:fn.results= #[.cell t 252]){tmps:Array Value}{w:World}{b:Nat}{a:RM.Sp}(hp:tmps.getD t undef=.pointer (some ⟨b,0,none⟩))(hC:VB w b a):
  (results fn tmps).run Tryz.prog w=.ok (.agg #[.int .i64 a.fl,.int .i64 a.he,.int .i64 a.le]) w:=
 results_cell_row hf tmps w b _ _ _ _ hp hC Tryz.underlying252 rfl infoV
theorem run_copyV(w:World)(ty:TypeId)(g g' n:Nat)(A B:List RM.Sp)(hA:A.length=n)(hB:B.length=n)(h:WR w g B)(h':WR w g' A):
  (Builtin.copy_ #[225,225] ty #[.slice (some ⟨g,0,none⟩) n n,.slice (some ⟨g',0,none⟩) n n]).run Tryz.prog w=.ok (goInt n) (w.setRow g (wcs A).toArray):=by
 obtain⟨i,hi,hz0,hz1,hz2⟩:=info_parts infoVz;have hl:=run_loadCells_list (P:=Tryz.prog) w ⟨g',0,none⟩ (wcs A) (fun j v hv=>by rw[Addr.add_mid,Nat.zero_add];exact(blk_cell h' j).trans hv);have hst:=run_storeCells_at Tryz.prog g 0 252 (wcs A) 0 (wcs B).toArray w h (by simp[wcs_length,hA,hB]) (wcs_one A);have e2:(wcs B).drop (wcs A).length=[]:=List.drop_eq_nil_of_le (by rw[wcs_length,wcs_length,hA,hB];exact Nat.le_refl _);simp only[Nat.zero_add,List.take_zero,List.nil_append,e2,List.append_nil]at hst;have hn:n*3=(wcs A).length:=by rw[wcs_length,hA]
 simp[Builtin.copy_,run_underlying Tryz.underlying225,Builtin.lenOf,Builtin.firstCells,sizeOf,typeInfo,hi,hz1,hn,hl,hst]
theorem wpList_copyV{ops:Array Oper}{rest:List Oper}{o:Oper}{a:Act}{w:World}{Q:Exit→Act→World→Prop}(hgd:o.guard=none)(d s:Operand)
  (ho:o.op=.call {callee:=.builtin .copy,args:= #[d,s],argTypes:= #[225,225]}) (g g' n:Nat) (A B:List RM.Sp) (hA:A.length=n) (hB:B.length=n) (h:WR w g B) (h':WR w g' A)
  (hd:a.eval d=.slice (some ⟨g,0,none⟩) n n) (hs:a.eval s=.slice (some ⟨g',0,none⟩) n n)
  (hn:∀W',Kp (fun k=>k=g) w W'→WR W' g A→wpList Tryz.prog ops Q rest (a.put o.dst (goInt n)) W'):wpList Tryz.prog ops Q (o::rest) a w:=by
 refine wpList_plain hgd fun K hK=> ?_;have hrun:=run_copyV w o.type g g' n A B hA hB h h';unfold Oper.wp;simp[execOp,ho,resolve,invoke,builtin,hd,hs,hrun,Result.andThen];exact hK _ _ (hn _ (kp_row g w _) (setRow_heap w g _ _ _ _ h))
def knc(k:Int)(g n:Nat)(co lf:Int)(st:List Bool):List Value:=[.int .i64 k,.slice (some ⟨g,0,none⟩) n n,.int .i64 co,.int .i64 lf]++st.map Value.bool
theorem knc_length{st:List Bool}(h:st.length=128)(k:Int)(g n:Nat)(co lf:Int):(knc k g n co lf st).length=132:=by unfold knc;rw[List.length_append,List.length_map,h];rfl
theorem knc_one(k:Int)(g n:Nat)(co lf:Int)(st:List Bool):∀u∈knc k g n co lf st,u.oneCell'=true:=fun u hu=>by
 unfold knc at hu;rcases List.mem_append.1 hu with hu|hu
 ·simp only[List.mem_cons,List.not_mem_nil,or_false]at hu;rcases hu with rfl|rfl|rfl|rfl<;>rfl
 ·obtain⟨b,_,rfl⟩:=List.mem_map.1 hu
  rfl
theorem knc_at{k:Int}{g n:Nat}{co lf:Int}{st:List Bool}{w:Nat}{q:Bool}(h:st[w]?=some q):(knc k g n co lf st)[4+w]?=some (.bool q):=by
 unfold knc;rw[List.getElem?_append_right (by simp)];simp[h]
theorem knc_set(k:Int)(g n:Nat)(co lf:Int)(st:List Bool)(w:Nat):(knc k g n co lf st).set (4+w) (.bool true)=knc k g n co lf (st.set w true):=by
 unfold knc;rw[List.set_append_right _ _ (by simp),List.map_set];simp
def kc(s:Sn)(n:Nn)(g:Nat):List Value:=knc (n.k:Int) g s.cs.length (RM.cst s.st s.ws s.cs n.b) ((PM.lf n.st:Nat):Int) (pad n.st)
theorem kc_length(s:Sn)(n:Nn)(g:Nat):(kc s n g).length=132:=knc_length (pad_length _) _ _ _ _ _
theorem infoK:(Tryz.prog.info? 227).map (·.size)=some 132:=by kernel_rfl
def zk:List Value:=[.int .i64 0,.slice none 0 0,.int .i64 0,.int .i64 0]++List.replicate 128 (.bool false)
theorem zk_length:zk.length=132:=by unfold zk;rw[List.length_append,List.length_replicate];rfl
theorem infoKz:(Tryz.prog.info? 227).map (fun i=>(i.zero,i.size,i.bytes))=some (some (.agg zk.toArray),132,176):=by kernel_rfl
def KN(W:World)(q:Nat)(cs:List Value):Prop:=cs.length=132∧W.heap[q]?=some (.cells cs.toArray 227 (0,0))
section
variable {W W':World} {q:Nat} {cs:List Value}
theorem KN.lt(h:KN W q cs):q<W.heap.size:=(Array.getElem?_eq_some_iff.1 h.2).1
theorem KN.keep(h:KN W q cs)(hk:W'.heap[q]?=W.heap[q]?):KN W' q cs:=⟨h.1,hk.trans h.2⟩
theorem KN.below'(h:KN W q cs)(hb:Below W.heap.size W W'):KN W' q cs:=h.keep (hb.block q h.lt)
theorem KN.kp{G:Nat→Prop}(h:KN W q cs)(k:Kp G W W')(hG:¬G q):KN W' q cs:=h.keep (k.block q h.lt hG)
theorem KN.cell(h:KN W q cs)(i:Nat):W.cell? ⟨q,i,none⟩=cs[i]?:=blk_cell h.2 i
theorem KN.fr(h:KN W q cs)(i:Nat):W.frozen? ⟨q,i,none⟩=false:=blk_fr h.2 i
theorem KN.range(h:KN W q cs):W.rangeAt q 0 cs:=fun j v hv=>by rw[Nat.zero_add,h.cell,hv]
theorem KN.put(h:KN W q cs)(i:Nat)(v:Value):KN (W.setCell ⟨q,i,none⟩ v) q (cs.set i v):=⟨by rw[List.length_set];exact h.1,blk_set h.2 i v⟩
theorem KN.new(W:World)(hl:cs.length=132):KN (W.alloc (.cells cs.toArray 227)) W.heap.size cs:=⟨hl,World.alloc_heap_new W _⟩
end
theorem loadK(w:World)(b:Nat)(cs:List Value)(h:KN w b cs):(Instr.loadAt 227 (.pointer (some ⟨b,0,none⟩))).run Tryz.prog w=.ok (.agg cs.toArray) w:=
 run_loadAt_mid (P:=Tryz.prog) w b 0 227 cs _ h.range Tryz.underlying227 rfl (by rw[h.1];exact infoK)
theorem wpList_loadK{ops:Array Oper}{rest:List Oper}{op:Oper}{a:Act}{w:World}{Q:Exit→Act→World→Prop}(hgd:Region.wanted op (yielded ops a.tmps)=true)(x:Operand)(ho:op.op=.load 227 x)
  (b:Nat) (cs:List Value) (hx:a.eval x=.pointer (some ⟨b,0,none⟩)) (hr:KN w b cs)
  (h:wpList Tryz.prog ops Q rest (a.put op.dst (.agg cs.toArray)) w):wpList Tryz.prog ops Q (op::rest) a w:=
 wpList_step fun _ hK=>by
  rw[if_pos hgd];unfold Oper.wp execOp;simp only[ho,Sem.run_bind,Sem.run_pure,Result.andThen_ok,hx,loadK w b cs hr];exact hK _ _ h
theorem wpList_storeK{ops:Array Oper}{rest:List Oper}{op:Oper}{a:Act}{w:World}{Q:Exit→Act→World→Prop}(hgd:op.guard=none)(x y:Operand)(ho:op.op=.store 227 x y)
  (b:Nat) {old cs:List Value} (hx:a.eval x=.pointer (some ⟨b,0,none⟩)) (hy:a.eval y=.agg cs.toArray) (hL:KN w b old) (hl:cs.length=132) (h1:∀u∈cs,u.oneCell'=true)
  (hn:∀W',Kp (fun k=>k=b) w W'→KN W' b cs→wpList Tryz.prog ops Q rest (a.put op.dst undef) W'):wpList Tryz.prog ops Q (op::rest) a w:=
 wpList_store_row hgd 227 x y ho b _ hx hy _ _ hL.2 (by rw[List.size_toArray,hl];exact infoK) (by rw[List.size_toArray,List.size_toArray,hl,hL.1]) (all_oneCell_toArray h1) (hn _ (kp_row b w _) ⟨hl,setRow_heap w b _ _ _ _ hL.2⟩)
theorem run_allocK(w:World):(Instr.alloc 227 true (.tuple #[])).run Tryz.prog w=.ok (.pointer (some ⟨w.heap.size,0,none⟩)) (w.alloc (.cells zk.toArray 227)):=by
 obtain⟨i0,hi,hz0,hz1,hz2⟩:=info_parts infoKz;simp[Instr.alloc,zeroValue,typeInfo,hi,hz0,newVar,newRow,Value.cells]
theorem wpList_allocK{ops:Array Oper}{rest:List Oper}{op:Oper}{a:Act}{w:World}{Q:Exit→Act→World→Prop}(hgd:op.guard=none)(ho:op.op=.alloc 227)
  (hn:wpList Tryz.prog ops Q rest (a.put op.dst (.pointer (some ⟨w.heap.size,0,none⟩))) (w.alloc (.cells zk.toArray 227))):wpList Tryz.prog ops Q (op::rest) a w:=
 wpList_plain hgd fun _ hK=>by
  unfold Oper.wp execOp;simp only[ho,Sem.run_bind,Sem.run_pure,Result.andThen_ok,run_allocK];exact hK _ _ hn
theorem retK{fn:Func}{t:Tmp}(hf:fn.results= #[.cell t 227]){tmps:Array Value}{w:World}{b:Nat}{cs:List Value}(hp:tmps.getD t undef=.pointer (some ⟨b,0,none⟩))(hC:KN w b cs):
  (results fn tmps).run Tryz.prog w=.ok (.agg cs.toArray) w:=
 results_cell_row hf tmps w b _ _ _ _ hp hC.2 Tryz.underlying227 rfl (by rw[List.size_toArray,hC.1];exact infoK)
def tbl(s:St):List (List Int):=(List.range s.fl.toNat).map fun (i:Nat)=>(List.range s.fl.toNat).map fun (j:Nat)=>SM.trav s (i:Int) (j:Int)
theorem tbl_get{s:St}{i:Nat}(h:i<s.fl.toNat):(tbl s)[i]?=some ((List.range s.fl.toNat).map fun (j:Nat)=>SM.trav s (i:Int) (j:Int)):=by
 unfold tbl;rw[List.getElem?_map,List.getElem?_range h];rfl
theorem tbl_at{s:St}(i:Nat){j:Nat}(h:j<s.fl.toNat):((List.range s.fl.toNat).map fun (j:Nat)=>SM.trav s (i:Int) (j:Int))[j]?=some (SM.trav s (i:Int) (j:Int)):=by
 rw[List.getElem?_map,List.getElem?_range h];rfl
def tcl2(s:St)(vc vw vt:Value):List Value:=nv s vc vw++[vt,.int .i64 (RM.dw s)]
structure TC(D:Nat→Prop)(W:World)(tb:Nat)(s:Sn)(vc vw vt:Value):Prop where
 hl:W.heap[tb]?=some (.cells (tcl2 s.st vc vw vt).toArray 224 (0,0))
 td:D tb
 cs:R2 D W vc s.cs
 ws:R2 D W vw s.ws
 tt:RL D W vt (tbl s.st)
 rg:rgt s=true
section
variable {D D':Nat→Prop} {W W':World} {tb:Nat} {s:Sn} {vc vw vt:Value}
theorem TC.lt(h:TC D W tb s vc vw vt):tb<W.heap.size:=(Array.getElem?_eq_some_iff.1 h.hl).1
theorem TC.keep(h:TC D W tb s vc vw vt)(hs:W.heap.size≤W'.heap.size)(hk:∀g,D g→g<W.heap.size→W'.heap[g]?=W.heap[g]?):TC D W' tb s vc vw vt:=
 ⟨(hk tb h.td h.lt).trans h.hl,h.td,h.cs.keep hs hk,h.ws.keep hs hk,h.tt.keep hs hk,h.rg⟩
theorem TC.mono(h:TC D W tb s vc vw vt)(hD:∀g,D g→g<W.heap.size→D' g):TC D' W tb s vc vw vt:=
 ⟨h.hl,hD tb h.td h.lt,h.cs.mono fun g hg hl _=>hD g hg hl,h.ws.mono fun g hg hl _=>hD g hg hl,h.tt.mono fun g hg hl _=>hD g hg hl,h.rg⟩
theorem TC.below'(h:TC D W tb s vc vw vt)(hb:Below W.heap.size W W'):TC D W' tb s vc vw vt:=h.keep hb.size fun g _ hl=>hb.block g hl
theorem TC.kp{G:Nat→Prop}(h:TC D W tb s vc vw vt)(k:Kp G W W')(hG:∀g,D g→¬G g):TC D W' tb s vc vw vt:=h.keep k.size fun g hg hl=>k.block g hl (hG g hg)
theorem TC.cell(h:TC D W tb s vc vw vt)(i:Nat):W.cell? ⟨tb,i,none⟩=(tcl2 s.st vc vw vt)[i]?:=blk_cell h.hl i
theorem TC.c13(h:TC D W tb s vc vw vt):W.cell? ⟨tb,13,none⟩=some vc:=h.cell 13
theorem TC.c14(h:TC D W tb s vc vw vt):W.cell? ⟨tb,14,none⟩=some vw:=h.cell 14
theorem TC.c15(h:TC D W tb s vc vw vt):W.cell? ⟨tb,15,none⟩=some vt:=h.cell 15
theorem TC.c16(h:TC D W tb s vc vw vt):W.cell? ⟨tb,16,none⟩=some (.int .i64 (RM.dw s.st)):=h.cell 16
theorem TC.trav(h:TC D W tb s vc vw vt){i j:Nat}(hi:(i:Int)<s.st.fl)(hj:(j:Int)<s.st.fl):
  ∃g o cap,vt=.slice (some ⟨g,o,none⟩) s.st.fl.toNat cap∧∃g' o' cap',W.cell? ⟨g,o+i,none⟩=some (.slice (some ⟨g',o',none⟩) s.st.fl.toNat cap')∧W.cell? ⟨g',o'+j,none⟩=some (.int .i64 (SM.trav s.st (i:Int) (j:Int))):=by
 obtain⟨a,cap,rfl,_,_⟩:=h.tt.form;obtain⟨g,o,rfl,u,hu,hri⟩:=h.tt.at (tbl_get (s:=s.st) (i:=i) (by omega));rw[show(tbl s.st).length=s.st.fl.toNat by unfold tbl;simp];obtain⟨a',cap',rfl,_,_⟩:=hri.form;obtain⟨g',o',rfl,hc⟩:=hri.at (tbl_at i (j:=j) (by omega));rw[List.length_map,List.length_range]at hu;exact⟨g,o,cap,rfl,g',o',cap',hu,hc⟩
end
theorem khas_any(f:Int)(m c:Nat)(hc:c≤64)(w:World):Calls Tryz.prog 175 #[.agg #[.int .i64 f,.int .i64 (m:Int)],.int .i64 (c:Int)] w fun e w'=>e=.returned (.bool (PM.bt m c))∧Below w.heap.size w w':=by
 have hb:=(Below.refl w.heap.size w).alloc (Nat.le_refl _) (.cells #[.int .i64 f,.int .i64 (m:Int)] 131);have hsh:=shr_any m c hc;have HE:=Hd (bt_bits m c)
 go_enter Tryz.func175,Tryz.ntmps175
 go_wp2;go_ret;exact⟨ret_bool HE.out,hb⟩
theorem vb_two(W:World)(a:RM.Sp):VB ((W.alloc (.cells #[.int .i64 a.fl,.int .i64 a.he,.int .i64 a.le] 252)).alloc (.cells #[.int .i64 0,.int .i64 0,.int .i64 0] 252)) W.heap.size a∧VB ((W.alloc (.cells #[.int .i64 a.fl,.int .i64 a.he,.int .i64 a.le] 252)).alloc (.cells #[.int .i64 0,.int .i64 0,.int .i64 0] 252)) (W.heap.size+1) w0∧Below W.heap.size W ((W.alloc (.cells #[.int .i64 a.fl,.int .i64 a.he,.int .i64 a.le] 252)).alloc (.cells #[.int .i64 0,.int .i64 0,.int .i64 0] 252)):=by
 have h2:=VB.new (W.alloc (.cells #[.int .i64 a.fl,.int .i64 a.he,.int .i64 a.le] 252)) w0;rw[World.size_alloc]at h2;exact⟨(VB.new W a).below' ((Below.refl _ _).alloc (Nat.le_refl _) _),h2,((Below.refl W.heap.size W).alloc (Nat.le_refl _) _).alloc (by simp) _⟩
section
variable {D:Nat→Prop} {W:World} {tb:Nat} {s:Sn} {vc vw vt:Value}
theorem knext_same(fl he le:Int)(hh:he≠ -1)(w:World):Calls Tryz.prog 165 #[.pointer (some ⟨tb,0,none⟩),.agg #[.int .i64 fl,.int .i64 he,.int .i64 le],.int .i64 fl] w fun e w'=>e=.returned (.agg #[.int .i64 fl,.int .i64 he,.int .i64 le])∧Below w.heap.size w w':=by
 obtain⟨h1,h2,h3⟩:=vb_two w ⟨fl,he,le⟩;have H2:=Hd h2;have H3:=Hd h3;have c0:=h1.cell 0;have c1:=h1.cell 1;have c2:=h1.cell 2;have q1:(he != -1)=true:=by simpa using hh
 clear hh h1 h2 h3
 go_enter Tryz.func165,Tryz.ntmps165
 go_wp2_with (refine wpList_storeVb rfl _ _ rfl (w.heap.size+1) rfl rfl H2.out ?_)
 intro W1 hk1 ht1;have HK:=Hd (And.intro hk1 ht1);clear hk1 ht1 c0 c1 c2;go_wp2;exact bodyPost_ret (retV Tryz.results165 rfl HK.out.2) rfl ⟨rfl,HK.out.1.below H3.out H3.out.size (fun i hi e=>by omega)⟩
theorem knext_far(ht:TC D W tb s vc vw vt)(i j:Nat)(he le:Int)(hq:he= -1∨(he≠ -1∧i≠j))(hi:(i:Int)<s.st.fl)(hj:(j:Int)<s.st.fl)(l0:0≤le)(l1:le≤100000000):
  Calls Tryz.prog 165 #[.pointer (some ⟨tb,0,none⟩),.agg #[.int .i64 (i:Int),.int .i64 he,.int .i64 le],.int .i64 (j:Int)] W fun e w'=>e=.returned (.agg #[.int .i64 (j:Int),.int .i64 (le+SM.trav s.st (i:Int) (j:Int)),.int .i64 (le+SM.trav s.st (i:Int) (j:Int)+RM.dw s.st)])∧Below W.heap.size W w':=by
 have rt:=(rgt_rz ht.rg).rt;have tbd:=SM.trav_bd rt (i:Int) (j:Int);have dbd:=RM.dw_bd rt;obtain⟨gt,ot,ct,rfl,gr,or,cr,hr1,hr2⟩:=ht.trav hi hj;have hi':i<s.st.fl.toNat:=by omega
 have hj':j<s.st.fl.toNat:=by omega
 generalize SM.trav s.st (i:Int) (j:Int)=tr at tbd hr2⊢;have hw1:IntKind.i64.wrap (le+tr)=le+tr:=IntWalk.i64_in _ (by omega);have hw2:IntKind.i64.wrap (le+tr+RM.dw s.st)=le+tr+RM.dw s.st:=IntWalk.i64_in _ (by omega);obtain⟨h1,h2,h3⟩:=vb_two W ⟨(i:Int),he,le⟩;have HA:=Hd h1;have HZ:=Hd h2;have HB:=Hd h3;have HT:=Hd ht;have HR:=Hd (And.intro hr1 hr2);have c0:=h1.cell 0;have c1:=h1.cell 1;clear hr1 hr2 h1 h2 h3 ht tbd dbd rt hi hj l0 l1
 have hq2:he= -1∨((he != -1)=true∧((i:Int)==(j:Int))=false):=by
  rcases hq with h|⟨h,h'⟩
  ·exact .inl h
  ·exact .inr ⟨by simpa using h,by simp;omega⟩
 clear hq
 have HGO:Hid (∀W2,Below W.heap.size W W2→(VB W2 W.heap.size ⟨(i:Int),he,le⟩∧VB W2 (W.heap.size+1) w0)→∀w',Below W2.drew.heap.size W2.drew w'→w'.cell? ⟨W.heap.size,0,none⟩=some (.int .i64 (i:Int))∧w'.cell? ⟨W.heap.size,2,none⟩=some (.int .i64 le)∧w'.cell? ⟨tb,15,none⟩=some (.slice (some ⟨gt,ot,none⟩) s.st.fl.toNat ct)∧w'.cell? ⟨gt,ot+i,none⟩=some (.slice (some ⟨gr,or,none⟩) s.st.fl.toNat cr)∧w'.cell? ⟨gr,or+j,none⟩=some (.int .i64 tr)):=fun W2 hb hv w' hw=>by
  have hb':Below W2.heap.size W2 w':=(Below.refl _ _).drew.trans hw;have hb2:=below_class hb hb';exact⟨(hv.1.below' hb').cell 0,(hv.1.below' hb').cell 2,(HT.out.below' hb2).c15,(Below.cell hb2 (World.block_lt_of_cell? W _ HR.out.1)).trans HR.out.1,(Below.cell hb2 (World.block_lt_of_cell? W _ HR.out.2)).trans HR.out.2⟩
 rcases hq2 with rfl|⟨q1,q2⟩
 all_goals
  go_enter Tryz.func165,Tryz.ntmps165
  go_wp2_with fail
  clear c0 c1;generalize (W.alloc (.cells #[.int .i64 (i:Int),_,.int .i64 le] 252)).alloc (.cells #[.int .i64 0,.int .i64 0,.int .i64 0] 252)=W2 at HA HZ HB⊢;have HG:=Hd (HGO.out W2 HB.out ⟨HA.out,HZ.out⟩);have G0:Hid (∀w',Below W2.drew.heap.size W2.drew w'→w'.cell? ⟨W.heap.size,0,none⟩=some (.int .i64 (i:Int))):=fun w' hw=>(HG.out w' hw).1;have G2:Hid (∀w',Below W2.drew.heap.size W2.drew w'→w'.cell? ⟨W.heap.size,2,none⟩=some (.int .i64 le)):=fun w' hw=>(HG.out w' hw).2.1;have G15:Hid (∀w',Below W2.drew.heap.size W2.drew w'→w'.cell? ⟨tb,15,none⟩=some (.slice (some ⟨gt,ot,none⟩) s.st.fl.toNat ct)):=fun w' hw=>(HG.out w' hw).2.2.1;have GR:Hid (∀w',Below W2.drew.heap.size W2.drew w'→w'.cell? ⟨gt,ot+i,none⟩=some (.slice (some ⟨gr,or,none⟩) s.st.fl.toNat cr)):=fun w' hw=>(HG.out w' hw).2.2.2.1;have GT:Hid (∀w',Below W2.drew.heap.size W2.drew w'→w'.cell? ⟨gr,or+j,none⟩=some (.int .i64 tr)):=fun w' hw=>(HG.out w' hw).2.2.2.2;clear HG;refine wp_region_tail 14 (by kernel_rfl) (by kernel_rfl) ?_;simp only[List.take_succ_cons,List.take_zero,List.drop_succ_cons,List.drop_zero];unfold wpCalm;generalize hK:wpCalm _ _ _ _ _=K;unfold Oper.calm;go_simp;refine⟨_,fun _ _=>rfl,?_⟩;subst hK;unfold wpCalm;generalize hK:wpCalm _ _ _ _ _=K;rw[if_pos (by go_simp)];refine calm_load3 _ _ _ rfl rfl G2.out ?_;go_simp;subst hK
  iterate 3 (unfold wpCalm;generalize hK:wpCalm _ _ _ _ _=K;unfold Oper.calm;go_simp;refine⟨_,fun _ _=>rfl,?_⟩;subst hK)
  unfold wpCalm;generalize hK:wpCalm _ _ _ _ _=K;rw[if_pos (by go_simp)];refine calm_loadBH _ _ _ rfl rfl G15.out ?_;go_simp;subst hK;unfold wpCalm;generalize hK:wpCalm _ _ _ _ _=K;unfold Oper.calm;go_simp;refine⟨_,fun _ _=>rfl,?_⟩;subst hK;unfold wpCalm;generalize hK:wpCalm _ _ _ _ _=K;rw[if_pos (by go_simp)];refine calm_load3 _ _ _ rfl rfl G0.out ?_;go_simp;subst hK;unfold wpCalm;generalize hK:wpCalm _ _ _ _ _=K;rw[if_pos (by go_simp)];refine calm_ixB _ _ rfl rfl rfl hi' ?_;go_simp;subst hK;unfold wpCalm;generalize hK:wpCalm _ _ _ _ _=K;rw[if_pos (by go_simp)];refine calm_loadLI _ _ _ rfl rfl GR.out ?_;go_simp;subst hK;unfold wpCalm;generalize hK:wpCalm _ _ _ _ _=K;unfold Oper.calm;go_simp;refine⟨_,fun _ _=>rfl,?_⟩;subst hK;unfold wpCalm;generalize hK:wpCalm _ _ _ _ _=K;rw[if_pos (by go_simp)];refine calm_ixI _ _ rfl rfl rfl hj' ?_;go_simp;subst hK;unfold wpCalm;generalize hK:wpCalm _ _ _ _ _=K;rw[if_pos (by go_simp)];refine calm_load3 _ _ _ rfl rfl GT.out ?_;go_simp;subst hK;unfold wpCalm;generalize hK:wpCalm _ _ _ _ _=K;unfold Oper.calm;go_simp;refine⟨_,fun _ _=>rfl,?_⟩;subst hK;refine wpCalm_nil ?_;intro W3 hb3;have hbd:=(Below.refl W2.heap.size W2).drew.trans hb3;have HB3:=Hd (below_class HB.out hbd);have HZ3:=Hd (HZ.out.below' hbd);have c16:W3.cell? ⟨tb,16,none⟩=some (.int .i64 (RM.dw s.st)):=(HT.out.below' HB3.out).c16;clear hbd hb3 G0 G2 G15 GR GT HA HZ HB
  go_wp2_with (refine wpList_storeVb rfl _ _ rfl (W.heap.size+1) rfl rfl HZ3.out ?_)
  intro W4 hk4 hv4;have HK:=Hd (And.intro hk4 hv4);clear hk4 hv4 c16;go_wp2;exact bodyPost_ret (retV Tryz.results165 rfl HK.out.2) rfl ⟨rfl,HK.out.1.below HB3.out HB3.out.size (fun i hi e=>by omega)⟩
theorem knext_any(ht:TC D W tb s vc vw vt)(a:RM.Sp)(ok:RM.Ok s.st a)(hl:a.le≤100000000)(f:Int)(h0:0≤f)(h1:f<s.st.fl):
  Calls Tryz.prog 165 #[.pointer (some ⟨tb,0,none⟩),.agg #[.int .i64 a.fl,.int .i64 a.he,.int .i64 a.le],.int .i64 f] W fun e w'=>e=.returned (.agg #[.int .i64 (RM.nx s.st a f).fl,.int .i64 (RM.nx s.st a f).he,.int .i64 (RM.nx s.st a f).le])∧Below W.heap.size W w':=by
 by_cases hc:a.he≠ -1∧a.fl=f
 ·have e:RM.nx s.st a f=a:=by unfold RM.nx;rw[if_pos hc]
  rw[e,←hc.2];exact knext_same a.fl a.he a.le hc.1 W
 ·have e:RM.nx s.st a f=⟨f,a.le+SM.trav s.st a.fl f,a.le+SM.trav s.st a.fl f+RM.dw s.st⟩:=by unfold RM.nx;rw[if_neg hc]
  rw[e];obtain⟨fl,he,le⟩:=a;have f0:=ok.f0;have f1:=ok.f1;have l0:=ok.l0;simp only at hc hl f0 f1 l0⊢;obtain⟨i,rfl⟩:∃i:Nat,fl=(i:Int):=⟨fl.toNat,by omega⟩;obtain⟨j,rfl⟩:∃j:Nat,f=(j:Int):=⟨f.toNat,by omega⟩;exact knext_far ht i j he le (by omega) f1 h1 l0 hl
end
theorem kn_two(W:World)(cs:List Value)(hl:cs.length=132):KN ((W.alloc (.cells cs.toArray 227)).alloc (.cells zk.toArray 227)) W.heap.size cs∧KN ((W.alloc (.cells cs.toArray 227)).alloc (.cells zk.toArray 227)) (W.heap.size+1) zk∧Below W.heap.size W ((W.alloc (.cells cs.toArray 227)).alloc (.cells zk.toArray 227)):=by
 have h2:=KN.new (W.alloc (.cells cs.toArray 227)) zk_length;rw[World.size_alloc]at h2;exact⟨(KN.new W hl).below' ((Below.refl _ _).alloc (Nat.le_refl _) _),h2,((Below.refl W.heap.size W).alloc (Nat.le_refl _) _).alloc (by simp) _⟩
theorem knextCar_any(k g n:Nat)(co lf:Int)(st:List Bool)(hst:st.length=128)(hk:k≤1000)(W:World):
  Calls Tryz.prog 176 #[.agg (knc (k:Int) g n co lf st).toArray] W fun e w'=>e=.returned (.agg (knc ((k+1:Nat):Int) g n co lf st).toArray)∧Below W.heap.size W w':=by
 obtain⟨h1,_,_⟩:=kn_two W _ (knc_length hst (k:Int) g n co lf);obtain⟨g1,g2,g3⟩:=kn_two W ((knc (k:Int) g n co lf st).set 0 (.int .i64 ((k:Int)+1))) (by rw[List.length_set];exact knc_length hst (k:Int) g n co lf);have c0:((W.alloc (.cells (knc (k:Int) g n co lf st).toArray 227)).alloc (.cells zk.toArray 227)).cell? ⟨W.heap.size,0,none⟩=some (.int .i64 (k:Int)):=h1.cell 0;have f0:=h1.fr 0;have hw1:IntKind.i64.wrap ((k:Int)+1)=(k:Int)+1:=IntWalk.i64_in _ (by omega);have HS:Hid (KN ((W.alloc (.cells ((knc (k:Int) g n co lf st).set 0 (.int .i64 ((k:Int)+1))).toArray 227)).alloc (.cells zk.toArray 227)) W.heap.size (knc ((k:Int)+1) g n co lf st)):=g1;have HZ2:=Hd g2;have HB2:=Hd g3;have H1:=Hd (knc_one ((k:Int)+1) g n co lf st);have HE:Hid (((k+1:Nat):Int)=(k:Int)+1):=by show _=_;omega
 rw[HE.out];clear h1 g1 g2 g3
 go_enter Tryz.func176,Tryz.ntmps176
 go_wp2_with (first|(refine wpList_allocK rfl rfl ?_)|(refine wpList_loadK rfl _ rfl W.heap.size _ rfl HS.out ?_)|(refine wpList_storeK rfl _ _ rfl (W.heap.size+1) rfl rfl HZ2.out HS.out.1 H1.out ?_))
 intro W2 hk2 hn2;have HK:=Hd (And.intro hk2 hn2);clear hk2 hn2 c0 f0;go_wp2;exact bodyPost_ret (retK Tryz.results176 rfl HK.out.2) rfl ⟨rfl,HK.out.1.below HB2.out HB2.out.size (fun i hi e=>by omega)⟩
theorem wp_nrm{P:Program}{Q:Exit→Act→World→Prop}{c:Code}{a:Act}{w:World}(h:c.wp P (fun ex a w=>ex=Exit.normal∧Q ex a w) a w):c.wp P Q a w:=wp_mono h (fun _ _ _ h=>h.2)
theorem built_kn(g n:Nat)(m:Int):Tryz.prog.built 227 [(1,.slice (some ⟨g,0,none⟩) n n),(3,.int .i64 m)]=some (knc 0 g n 0 m (List.replicate 128 false)).toArray:=by kernel_rfl
section
variable {S:World→Prop} {ops:Array Oper} {Q:Exit→Act→World→Prop} {i:Nat} {o:Oper} {K:Act→World→Prop} {a:Act} {w:World}
theorem yif_build(hw:Region.wanted o (yielded ops a.tmps)=true)(t:TypeId)(parts:Array (Nat×Operand))(ho:o.op=.build t parts)(ps:List (Nat×Value))(hp:(parts.map fun (i,x)=>(i,a.eval x)).toList=ps)(cells:Array Value)(hb:Tryz.prog.built t ps=some cells):YieldsIf Tryz.prog ops S o (.agg cells) a:=
 .inl ⟨hw,fun w _=>by
  subst hp;unfold execOp
  simp only[ho,Sem.run_bind,Sem.run_pure,run_build w t _ cells hb,Result.andThen_ok]⟩
theorem wpOp_mkV(hi:ops[i]?=some o)(hw:Region.wanted o (yielded ops a.tmps)=true)(x y:Operand)(ho:o.op=.makeSlice 225 x y)(n:Nat)(hn:n≤1000)(hx:a.eval x=.int .i64 (n:Int))(hy:a.eval y=.int .i64 (n:Int))
  (h:K (a.put o.dst (.slice (some ⟨w.heap.size,0,none⟩) n n)) (w.alloc (.cells (wcs (List.replicate n w0)).toArray 252))):wpOp Tryz.prog ops Q i K a w:=
 wpOp_val hi hw (by unfold execOp;simp only[ho,hx,hy,Sem.run_bind,Sem.run_pure,Result.andThen_ok,mkV n hn]) h
theorem wpOp_allocK(hi:ops[i]?=some o)(hw:Region.wanted o (yielded ops a.tmps)=true)(ho:o.op=.alloc 227)
  (h:K (a.put o.dst (.pointer (some ⟨w.heap.size,0,none⟩))) (w.alloc (.cells zk.toArray 227))):wpOp Tryz.prog ops Q i K a w:=
 wpOp_val hi hw (by unfold execOp;simp only[ho,Sem.run_bind,Sem.run_pure,Result.andThen_ok,run_allocK]) h
theorem wpOp_storeK(hi:ops[i]?=some o)(hw:Region.wanted o (yielded ops a.tmps)=true)(x y:Operand)(ho:o.op=.store 227 x y)(b:Nat){old cs:List Value}(hx:a.eval x=.pointer (some ⟨b,0,none⟩))(hy:a.eval y=.agg cs.toArray)(hL:KN w b old)(hl:cs.length=132)(h1:∀u∈cs,u.oneCell'=true)
  (h:∀W',Kp (fun k=>k=b) w W'→KN W' b cs→K (a.put o.dst undef) W'):wpOp Tryz.prog ops Q i K a w:=by
 unfold wpOp;rw[hi];simp only;rw[if_pos hw];refine .inl ?_;unfold Oper.wp execOp;simp only[ho,hx,hy,Instr.storeAt,Instr.sureAddr,Sem.run_bind,Sem.run_pure,Result.andThen_ok,run_storeVar_row (P:=Tryz.prog) w b 227 227 _ _ hL.2 (by rw[List.size_toArray,hl];exact infoK) (by rw[List.size_toArray,List.size_toArray,hl,hL.1]) (all_oneCell_toArray h1)];exact h _ (kp_row b w _) ⟨hl,setRow_heap w b _ _ _ _ hL.2⟩
end
def wfst(cs:List (Int×Int))(c:Nat):List RM.Sp:=(cs.take c).map RM.bg++List.replicate (cs.length-c) w0
theorem wfst_zero(cs:List (Int×Int)):wfst cs 0=List.replicate cs.length w0:=by unfold wfst;simp
theorem wfst_end(cs:List (Int×Int)):wfst cs cs.length=cs.map RM.bg:=by unfold wfst;simp
theorem wfst_length{cs:List (Int×Int)}{c:Nat}(h:c≤cs.length):(wfst cs c).length=cs.length:=by unfold wfst;simp;omega
theorem wfst_succ{cs:List (Int×Int)}{c:Nat}{r:Int×Int}(h:cs[c]?=some r):(wfst cs c).set c (RM.bg r)=wfst cs (c+1):=by
 have hc:c<cs.length:=(List.getElem?_eq_some_iff.1 h).1;unfold wfst;rw[List.set_append_right _ _ (by simp;omega),List.take_add_one,h,Option.toList_some,List.map_append,List.append_assoc];have e:c-((cs.take c).map RM.bg).length=0:=by simp;omega
 rw[e,show cs.length-c=(cs.length-(c+1))+1 by omega,List.replicate_succ,List.set_cons_zero]
 rfl
structure Fz(W wr:World)(s:Sn)(q g c:Nat):Prop where
 nd:KN wr q (knc 0 g s.cs.length 0 (s.ws.length:Int) (List.replicate 128 false))
 rw:WR wr g (wfst s.cs c)
 z:KN wr W.heap.size zk
 bel:Below W.heap.size W wr
 q1:W.heap.size<q
 g1:W.heap.size<g
 qg:q≠g
section
variable {D:Nat→Prop} {W:World} {tb:Nat} {s:Sn} {vc vw vt:Value}
theorem Fz.next{wr w':World}{q g c:Nat}(h:Fz W wr s q g c)(hb:Below wr.heap.size wr w'):Fz W w' s q g c:=⟨h.nd.below' hb,h.rw.below' hb,h.z.below' hb,below_class h.bel hb,h.q1,h.g1,h.qg⟩
theorem Fz.kp{wr w':World}{q g c c':Nat}(h:Fz W wr s q g c)(k:Kp (fun i=>i=g) wr w')(hr:WR w' g (wfst s.cs c')):Fz W w' s q g c':=⟨h.nd.kp k h.qg,hr,h.z.kp k (by have:=h.g1;omega),k.below h.bel (by have:=h.z.lt;omega) (fun i hi e=>by have:=h.g1;omega),h.q1,h.g1,h.qg⟩
theorem kfirst_any(ht:TC D W tb s vc vw vt):
  Calls Tryz.prog 143 #[.pointer (some ⟨tb,0,none⟩)] W fun r w'=>∃g,r=.returned (.agg (kc s (nd0 s) g).toArray)∧W.heap.size≤g∧WR w' g (wys s (nd0 s))∧Below W.heap.size W w':=by
 obtain⟨n8,hrs⟩:=rgt_rs ht.rg;have hN:s.cs.length≤1000:=by have:=hrs.cl;have:=hrs.n8;omega
 have hw8:=hrs.wl
 have HEQ:Hid (∀g,kc s (nd0 s) g=knc 0 g s.cs.length 0 (s.ws.length:Int) (List.replicate 128 false)):=fun g=>by
  unfold kc nd0;simp only[cst_nil0,pad_rep _ hw8];unfold PM.lf;simp
 rw[wys_nd0];obtain⟨ac,kc',rfl,_,_⟩:=ht.cs.form;obtain⟨aw,kw,rfl,_,_⟩:=ht.ws.form;have HT:=Hd ht;have HZ:=Hd (KN.new W zk_length);have HB:=Hd ((Below.refl W.heap.size W).alloc (Nat.le_refl _) (.cells zk.toArray 227));have HSZ:Hid ((W.alloc (.cells zk.toArray 227)).heap.size=W.heap.size+1):=by show _=_;simp
 clear ht hrs
 go_enter Tryz.func143,Tryz.ntmps143
 go_upto_region 1 with (refine wpList_allocK rfl rfl ?_)
 generalize W.alloc (.cells zk.toArray 227)=X at HZ HB HSZ⊢;refine wp_nrm ?_;have HS0:Hid (∀w',Below X.heap.size X w'→w'.cell? ⟨tb,13,none⟩=some (.slice ac s.cs.length kc')∧w'.cell? ⟨tb,14,none⟩=some (.slice aw s.ws.length kw)):=fun w' hw=>⟨(HT.out.below' (below_class HB.out hw)).c13,(HT.out.below' (below_class HB.out hw)).c14⟩;refine wp_region_held (S:=fun w'=>Below X.heap.size X w') (by kernel_rfl) ?_;change wpAnyH _ _ _ _ _ _ _ _ (World.drew _);have HD:Hid (Below X.heap.size X X.drew):=(Below.refl _ _).drew;generalize hXd:X.drew=X0 at HD⊢;clear hXd;refine wpAnyH_take (i:=0) rfl (by kernel_rfl) (by kernel_rfl) (by kernel_rfl) (fun _ _ _ h=>by cases h.1) (.inl ⟨rfl,fun _ _=>rfl⟩) HD.out ?_;generalize hKK:wpAnyH _ _ _ _ _ _ _=KK;go_simp;subst hKK;refine wpAnyH_take (i:=1) rfl (by kernel_rfl) (by kernel_rfl) (by kernel_rfl) (fun _ _ _ h=>by cases h.1) (.inl ⟨rfl,fun _ _=>rfl⟩) HD.out ?_;generalize hKK:wpAnyH _ _ _ _ _ _ _=KK;go_simp;subst hKK;refine wpAnyH_take (i:=2) rfl (by kernel_rfl) (by kernel_rfl) (by kernel_rfl) (fun _ _ _ h=>by cases h.1) (.inl ⟨rfl,fun _ _=>rfl⟩) HD.out ?_;generalize hKK:wpAnyH _ _ _ _ _ _ _=KK;go_simp;subst hKK;refine wpAnyH_take (i:=3) rfl (by kernel_rfl) (by kernel_rfl) (by kernel_rfl) (fun _ _ _ h=>by cases h.1) (.inl ⟨rfl,fun _ _=>rfl⟩) HD.out ?_;generalize hKK:wpAnyH _ _ _ _ _ _ _=KK;go_simp;subst hKK;refine wpAnyH_take (i:=4) (v:=.slice ac s.cs.length kc') rfl (by kernel_rfl) (by kernel_rfl) (by kernel_rfl) (fun _ _ _ h=>by cases h.1) (.inl ⟨rfl,fun w hw=>by have hc:=(HS0.out w hw).1;go_simp⟩) HD.out ?_;generalize hKK:wpAnyH _ _ _ _ _ _ _=KK;go_simp;subst hKK;refine wpAnyH_take (i:=5) (v:=.int .i64 (s.cs.length:Int)) rfl (by kernel_rfl) (by kernel_rfl) (by kernel_rfl) (fun _ _ _ h=>by cases h.1) (.inl ⟨rfl,fun w _=>by go_simp⟩) HD.out ?_;generalize hKK:wpAnyH _ _ _ _ _ _ _=KK;go_simp;subst hKK;refine wpAnyH_take (i:=7) rfl (by kernel_rfl) (by kernel_rfl) (by kernel_rfl) (fun _ _ _ h=>by cases h.1) (.inl ⟨rfl,fun _ _=>rfl⟩) HD.out ?_;generalize hKK:wpAnyH _ _ _ _ _ _ _=KK;go_simp;subst hKK;refine wpAnyH_take (i:=8) rfl (by kernel_rfl) (by kernel_rfl) (by kernel_rfl) (fun _ _ _ h=>by cases h.1) (.inl ⟨rfl,fun _ _=>rfl⟩) HD.out ?_;generalize hKK:wpAnyH _ _ _ _ _ _ _=KK;go_simp;subst hKK;refine wpAnyH_take (i:=9) rfl (by kernel_rfl) (by kernel_rfl) (by kernel_rfl) (fun _ _ _ h=>by cases h.1) (.inl ⟨rfl,fun _ _=>rfl⟩) HD.out ?_;generalize hKK:wpAnyH _ _ _ _ _ _ _=KK;go_simp;subst hKK;refine wpAnyH_take (i:=10) rfl (by kernel_rfl) (by kernel_rfl) (by kernel_rfl) (fun _ _ _ h=>by cases h.1) (.inl ⟨rfl,fun _ _=>rfl⟩) HD.out ?_;generalize hKK:wpAnyH _ _ _ _ _ _ _=KK;go_simp;subst hKK;refine wpAnyH_take (i:=11) (v:=.slice aw s.ws.length kw) rfl (by kernel_rfl) (by kernel_rfl) (by kernel_rfl) (fun _ _ _ h=>by cases h.1) (.inl ⟨rfl,fun w hw=>by have hc:=(HS0.out w hw).2;go_simp⟩) HD.out ?_;generalize hKK:wpAnyH _ _ _ _ _ _ _=KK;go_simp;subst hKK;refine wpAnyH_take (i:=12) (v:=.int .i64 (s.ws.length:Int)) rfl (by kernel_rfl) (by kernel_rfl) (by kernel_rfl) (fun _ _ _ h=>by cases h.1) (.inl ⟨rfl,fun w _=>by go_simp⟩) HD.out ?_;generalize hKK:wpAnyH _ _ _ _ _ _ _=KK;go_simp;subst hKK;have HXS:=HSZ.out;have HLN:Hid (∀g,(knc 0 g s.cs.length 0 (s.ws.length:Int) (List.replicate 128 false)).length=132):=fun g=>knc_length (by simp) _ _ _ _ _;have HON:Hid (∀g,∀u∈knc 0 g s.cs.length 0 (s.ws.length:Int) (List.replicate 128 false),u.oneCell'=true):=fun g=>knc_one _ _ _ _ _ _;refine wpAnyH_all (rs:=[6,14]) (by kernel_rfl) (by simp) (fun ii hii=> ?_);have h7:ii=6∨ii=14:=by simpa using hii
 clear hii;rcases h7 with rfl|rfl;refine wpOp_mkV rfl rfl _ _ rfl s.cs.length hN rfl rfl ?_;have hb1:=HD.out.alloc HD.out.size (.cells (wcs (List.replicate s.cs.length w0)).toArray 252);refine⟨hb1,?_⟩;generalize hKK:wpAnyH _ _ _ _ _ _ _=KK;go_simp;subst hKK;have HW1:=Hd (WR.new X0 (List.replicate s.cs.length w0));have HB1:=Hd hb1;have hg1:=HD.out.size;have hg2:X0.heap.size<(X0.alloc (.cells (wcs (List.replicate s.cs.length w0)).toArray 252)).heap.size:=by simp
 clear hb1;generalize X0.alloc (.cells (wcs (List.replicate s.cs.length w0)).toArray 252)=X1 at HW1 HB1 hg2⊢;generalize X0.heap.size=g at HW1 hg1 hg2⊢;refine wpAnyH_take (i:=13) (v:=.agg (knc 0 g s.cs.length 0 (s.ws.length:Int) (List.replicate 128 false)).toArray) rfl (by kernel_rfl) (by kernel_rfl) (by kernel_rfl) (fun _ _ _ h=>by cases h.1) (yif_build rfl _ _ rfl [(1,.slice (some ⟨g,0,none⟩) s.cs.length s.cs.length),(3,.int .i64 (s.ws.length:Int))] (by simp[Act.eval]) _ (built_kn _ _ _)) HB1.out ?_;generalize hKK:wpAnyH _ _ _ _ _ _ _=KK;go_simp;subst hKK;refine wpAnyH_all (rs:=[14]) (by kernel_rfl) (by simp) (fun ii hii=> ?_);obtain rfl:ii=14:=by simpa using hii
 clear hii;refine wpOp_allocK rfl rfl rfl ?_;have hb2:=HB1.out.alloc HB1.out.size (.cells zk.toArray 227);refine⟨hb2,?_⟩;generalize hKK:wpAnyH _ _ _ _ _ _ _=KK;go_simp;subst hKK;have HW2:=Hd (HW1.out.below' ((Below.refl _ _).alloc (Nat.le_refl _) (.cells zk.toArray 227)));have HK2:=Hd (KN.new X1 zk_length);have HB2:=Hd hb2;have HZ2:=Hd (HZ.out.below' hb2);have hq2:X1.heap.size<(X1.alloc (.cells zk.toArray 227)).heap.size:=by simp
 have hqg:X1.heap.size≠g:=by omega
 have hq1:X.heap.size≤X1.heap.size:=HB1.out.size;clear hb2 HW1 HB1 hg2;generalize X1.alloc (.cells zk.toArray 227)=X2 at HW2 HK2 HB2 HZ2 hq2⊢;generalize X1.heap.size=q at HK2 hq1 hq2 hqg⊢;refine wpAnyH_all (rs:=[15]) (by kernel_rfl) (by simp) (fun ii hii=> ?_);obtain rfl:ii=15:=by simpa using hii
 clear hii;refine wpOp_storeK rfl rfl _ _ rfl q rfl rfl HK2.out (HLN.out g) (HON.out g) ?_;intro W3 hk3 hn3;have HB3:=Hd (hk3.below HB2.out (by omega) (fun i hi e=>by omega));refine⟨HB3.out,?_⟩;have HF:Hid (Fz W W3 s q g 0):=⟨hn3,by rw[wfst_zero];exact HW2.out.kp hk3 (by omega),(HZ2.out).kp hk3 (by omega),hk3.below (below_class HB.out HB2.out) (by omega) (fun i hi e=>by omega),by omega,by omega,by omega⟩;clear hk3 hn3 HB3 HK2 HW2 HZ2 HB2;refine wpAnyH_done (by kernel_rfl) ⟨rfl,?_⟩ _;rotate_left;refine wpOp_allocK rfl rfl rfl ?_;have hb1:=HD.out.alloc HD.out.size (.cells zk.toArray 227);refine⟨hb1,?_⟩;generalize hKK:wpAnyH _ _ _ _ _ _ _=KK;go_simp;subst hKK;have HK1:=Hd (KN.new X0 zk_length);have HB1:=Hd hb1;have hq1:=HD.out.size;have hg2:X0.heap.size<(X0.alloc (.cells zk.toArray 227)).heap.size:=by simp
 clear hb1;generalize X0.alloc (.cells zk.toArray 227)=X1 at HK1 HB1 hg2⊢;generalize X0.heap.size=q at HK1 hq1 hg2⊢;refine wpAnyH_all (rs:=[6]) (by kernel_rfl) (by simp) (fun ii hii=> ?_);obtain rfl:ii=6:=by simpa using hii
 clear hii;refine wpOp_mkV rfl rfl _ _ rfl s.cs.length hN rfl rfl ?_;have hb2:=HB1.out.alloc HB1.out.size (.cells (wcs (List.replicate s.cs.length w0)).toArray 252);refine⟨hb2,?_⟩;generalize hKK:wpAnyH _ _ _ _ _ _ _=KK;go_simp;subst hKK;have HK2:=Hd (HK1.out.below' ((Below.refl _ _).alloc (Nat.le_refl _) (.cells (wcs (List.replicate s.cs.length w0)).toArray 252)));have HW2:=Hd (WR.new X1 (List.replicate s.cs.length w0));have HB2:=Hd hb2;have HZ2:=Hd (HZ.out.below' hb2);have hq2:q<(X1.alloc (.cells (wcs (List.replicate s.cs.length w0)).toArray 252)).heap.size:=by simp;omega
 have hqg:q≠X1.heap.size:=by omega
 have hg1:X.heap.size≤X1.heap.size:=HB1.out.size;clear hb2 HK1 HB1 hg2;generalize X1.alloc (.cells (wcs (List.replicate s.cs.length w0)).toArray 252)=X2 at HW2 HK2 HB2 HZ2 hq2⊢;generalize X1.heap.size=g at HW2 hg1 hqg⊢;refine wpAnyH_take (i:=13) (v:=.agg (knc 0 g s.cs.length 0 (s.ws.length:Int) (List.replicate 128 false)).toArray) rfl (by kernel_rfl) (by kernel_rfl) (by kernel_rfl) (fun _ _ _ h=>by cases h.1) (yif_build rfl _ _ rfl [(1,.slice (some ⟨g,0,none⟩) s.cs.length s.cs.length),(3,.int .i64 (s.ws.length:Int))] (by simp[Act.eval]) _ (built_kn _ _ _)) HB2.out ?_;generalize hKK:wpAnyH _ _ _ _ _ _ _=KK;go_simp;subst hKK;refine wpAnyH_all (rs:=[15]) (by kernel_rfl) (by simp) (fun ii hii=> ?_);obtain rfl:ii=15:=by simpa using hii
 clear hii;refine wpOp_storeK rfl rfl _ _ rfl q rfl rfl HK2.out (HLN.out g) (HON.out g) ?_;intro W3 hk3 hn3;have HB3:=Hd (hk3.below HB2.out (by omega) (fun i hi e=>by omega));refine⟨HB3.out,?_⟩;have HF:Hid (Fz W W3 s q g 0):=⟨hn3,by rw[wfst_zero];exact HW2.out.kp hk3 (by omega),(HZ2.out).kp hk3 (by omega),hk3.below (below_class HB.out HB2.out) (by omega) (fun i hi e=>by omega),by omega,by omega,by omega⟩;clear hk3 hn3 HB3 HK2 HW2 HZ2 HB2;refine wpAnyH_done (by kernel_rfl) ⟨rfl,?_⟩ _
 all_goals
  clear hq1 hq2 hg1 HS0 HD HZ HB HSZ HXS hqg;have c13:W3.cell? ⟨tb,13,none⟩=some (.slice ac s.cs.length kc'):=(HT.out.below' HF.out.bel).c13
  go_wp2_with fail
  clear c13
  go_loopw [26] (fun cv wr=>∃c:Nat,c≤s.cs.length∧cv=.int .i64 (c:Int)∧Hid (Fz W wr s q g c)) (fun cv _=>s.cs.length-(intOf cv).toNat)
  case atStart=>exact⟨0,Nat.zero_le _,rfl,HF⟩
  case round=>
   clear HF;obtain⟨c,hc,rfl,HF⟩:=hrel;by_cases hlt:c<s.cs.length
   ·have hcz:(c:Int)<(s.cs.length:Int):=by omega
    obtain⟨r,hr⟩:∃r,s.cs[c]?=some r:=⟨_,List.getElem?_eq_getElem hlt⟩;obtain⟨gc,oc,hac,x0,x1⟩:=(HT.out.below' HF.out.bel).cs.at hr;subst hac;have HF1:=Hd (HF.out.next ((Below.refl wr.heap.size wr).alloc (Nat.le_refl _) (.cells #[.int .i64 r.1,.int .i64 r.2] 127)));have c1:(wr.alloc (.cells #[.int .i64 r.1,.int .i64 r.2] 127)).cell? ⟨q,1,none⟩=some (.slice (some ⟨g,0,none⟩) s.cs.length s.cs.length):=HF1.out.nd.cell 1;have hix:∀W:World,(Instr.indexAt 225 (.slice (some ⟨g,0,none⟩) s.cs.length s.cs.length) (.int .i64 (c:Int))).run Tryz.prog W=.ok (.pointer (some ⟨g,c*3,none⟩)) W:=fun W=>ixV W hlt;have HSC:=Hd (wfst_succ hr);have HCL:Hid (c<(wfst s.cs c).length):=by show _<_;rw[wfst_length hc];exact hlt
    clear hr HF
    go_wp2_with (refine wpList_storeV rfl _ _ rfl g c (wfst s.cs c) HCL.out (RM.bg r) HF1.out.rw rfl rfl ?_)
    intro W4 hk4 hr4;rw[HSC.out]at hr4;have HF2:=Hd (HF1.out.kp hk4 hr4);clear hk4 hr4 HF1 c1 hix x0 x1 HSC HCL;go_wp2;go_roundw
    case rel=>exact⟨c+1,by omega,by go_num,HF2⟩
    case measure=>simp[intOf];omega
   ·have hcz:¬(c:Int)<(s.cs.length:Int):=by omega
    have hce:c=s.cs.length:=by omega
    rw[hce]at HF;have HN:=Hd HF.out.nd;have HZ:=Hd HF.out.z;clear hce
    go_wp2_with (first|(refine wpList_loadK rfl _ rfl q _ rfl HN.out ?_)|(refine wpList_storeK rfl _ _ rfl W.heap.size rfl rfl HZ.out (HLN.out g) (HON.out g) ?_))
    intro W5 hk5 hn5;have HK:=Hd (And.intro hk5 hn5);clear hk5 hn5 HN HZ;go_wp2;refine bodyPost_ret (retK Tryz.results143 rfl HK.out.2) rfl ⟨g,by rw[HEQ.out];rfl,by have:=HF.out.g1;omega,?_,HK.out.1.below HF.out.bel (by have:=HF.out.z.lt;omega) (fun i hi e=>by omega)⟩;have:=HF.out.rw.kp HK.out.1 (by have:=HF.out.g1;omega);rwa[wfst_end]at this
end
end Go.Proofs.YtnkelgdnglaafaaGreat
