import Derived.Test.YtlajleogofmkcaaGreatQ23
import Derived.Deep.RegionHeld3
import Derived.Deep.CutRange
import Derived.Deep.DeepCutAuto
set_option maxHeartbeats 8000000
set_option maxRecDepth 100000
namespace Go.Proofs.YtlajleogofmkcaaGreat
namespace GM
structure Qm(k:Nat)(m:Mb):Prop where
 fl:m.fl=0
 tg:m.tg=0
 ph:m.ph=0
 mo:m.mo=false
 ls:m.ls=[]
 t:m.lk.t=decide (1≤k)
 l:1≤k→m.lk.l=k
structure Qg(n k:Nat)(G:Gs):Prop where
 L:G.L=[]
 rc:G.rc=false
 sc:G.sc=[]
 ml:G.M.length=n
 q:∀m∈G.M,Qm k m
def rpt(c:Nat)(q:Int):FF.Fr:=⟨1,c,q,0,0,0⟩
def rps(n:Nat)(q:Int):List FF.Fr:=(List.range n).map fun c:Nat=>rpt c q
def nwm(q:Int)(m:Mb):Mb:={m with lk:=⟨true,q,0⟩,fl:=0,tg:=0,ph:=0,mo:=false,fa:=false,ov:=false}
theorem rpm_new{m:Mb}{c:Nat}{q:Int}(h:LL.LM.err m.lk q=0):rpm m (rpt c q)=nwm q m:=by
 unfold rpm;rw[if_pos (show LL.LM.err m.lk (rpt c q).sq=0 from h)];show({m with lk:=LL.LM.tk m.lk q,fl:=_,tg:=_,ph:=_,mo:=_,fa:=_,ov:=_}:Mb)=_;rw[LL.LM.tk_new h]
 rfl
theorem rpm_old{m:Mb}{c:Nat}{q:Int}(h:LL.LM.err m.lk q=7):rpm m (rpt c q)=m:=by
 unfold rpm;rw[if_neg (show¬LL.LM.err m.lk (rpt c q).sq=0 by show¬LL.LM.err m.lk q=0;rw[h];decide)]
section
variable {G:Gs} {m:Mb} {c n k:Nat} {q:Int}
theorem tke_rpt(hm:G.M[c]?=some m)(hf:0<G.st.fl):tke G (rpt c q)=(LL.LM.err m.lk q,{G with M:=G.M.set c (rpm m (rpt c q))}):=by
 unfold tke;rw[if_pos (show(rpt c q).ki=1 from rfl)];unfold rep;rw[show(rpt c q).ca.toNat=c from Int.toNat_natCast c,hm];simp only;rw[if_neg (show¬(G.st.fl≤(rpt c q).a∨G.st.fl≤(rpt c q).b) by show¬(G.st.fl≤0∨G.st.fl≤0);omega)]
 rfl
theorem fra_old(hm:G.M[c]?=some m)(hf:0<G.st.fl)(he:LL.LM.err m.lk q=7):fra G (rpt c q)=nte G 2 c:=by
 unfold fra;simp only;rw[tke_rpt hm hf,rpm_old he,set_some hm,he]
 rfl
theorem fra_new(hm:G.M[c]?=some m)(hf:0<G.st.fl)(he:LL.LM.err m.lk q=0):fra G (rpt c q)={G with M:=G.M.set c (nwm q m)}:=by
 unfold fra;simp only;rw[tke_rpt hm hf,rpm_new he,he]
 rfl
theorem frs_old:∀{F:List Nat} {G:Gs},0<G.st.fl→(∀c∈F,∃m,G.M[c]?=some m∧LL.LM.err m.lk q=7)→frs G (F.map fun c:Nat=>rpt c q)={G with N:=G.N++F.map fun c:Nat=>((2:Int),(c:Int))}
 |[],G,_,_=>by simp[frs]
 |c::F,G,hf,h=>by
  obtain⟨m,hm,he⟩:=h c (List.mem_cons_self ..);show frs (fra G (rpt c q)) (F.map fun c:Nat=>rpt c q)=_;rw[fra_old hm hf he,frs_old (F:=F) (G:=nte G 2 c) hf fun x hx=>h x (List.mem_cons_of_mem _ hx)];simp[nte]
theorem frs_new(hf:0<G.st.fl)(h:∀m∈G.M,LL.LM.err m.lk q=0):∀j,j≤G.M.length→frs G (rps j q)={G with M:=(G.M.take j).map (nwm q)++G.M.drop j}
 |0,_=>by simp[frs,rps]
 |j+1,hj=>by
  have ih:=frs_new hf h j (by omega);have hlt:j<G.M.length:=by omega
  unfold rps at ih⊢;unfold frs at ih⊢;rw[List.range_succ,List.map_append,List.foldl_append,ih];show fra {G with M:=(G.M.take j).map (nwm q)++G.M.drop j} (rpt j q)=_;have hl:((G.M.take j).map (nwm q)).length=j:=by rw[List.length_map,List.length_take];omega
  have hm:((G.M.take j).map (nwm q)++G.M.drop j)[j]?=some G.M[j]:=by
   rw[List.getElem?_append_right (by omega),hl,Nat.sub_self,List.getElem?_drop,Nat.add_zero,List.getElem?_eq_getElem hlt]
  rw[fra_new (G:={G with M:=(G.M.take j).map (nwm q)++G.M.drop j}) hm hf (h _ (List.getElem_mem hlt))]
  congr 1
  show((G.M.take j).map (nwm q)++G.M.drop j).set j (nwm q G.M[j])=_;rw[List.set_append,if_neg (by omega),hl,Nat.sub_self,List.drop_eq_getElem_cons hlt,List.set_cons_zero,List.take_succ_eq_append_getElem hlt,List.map_append,List.append_assoc]
  rfl
theorem frs_app(A B:List FF.Fr):frs G (A++B)=frs (frs G A) B:=by unfold frs;rw[List.foldl_append]
theorem Qm.old{m:Mb}(h:Qm k m)(hk:k≤100){q:Nat}(h1:1≤q)(h2:q≤k):LL.LM.err m.lk q=7:=by
 have ht:=h.t;have hl:=h.l (by omega);have ht1:m.lk.t=true:=by rw[ht];simp;omega
 refine LL.LM.err_old (by omega) (by omega) (LL.LM.nw_not ht1 ?_);unfold LL.LM.ah;rw[hl];omega
theorem Qm.new{m:Mb}(h:Qm k m)(hk:k≤100):LL.LM.err m.lk ((k+1:Nat):Int)=0:=by
 have ht:=h.t;refine LL.LM.err_new (by omega) (by omega) ?_;by_cases h0:1≤k
 ·have hl:=h.l h0;refine LL.LM.nw_ahead ?_ ?_
  ·unfold LL.LM.ah;rw[hl];omega
  ·unfold LL.LM.ah;rw[hl];omega
 ·refine LL.LM.nw_first _ ?_;rw[ht];simp;omega
def ags(n:Nat)(A:List Nat):List FF.Fr:=A.flatMap fun q:Nat=>rps n (q:Int)
def nts(n:Nat)(A:List Nat):List (Int×Int):=A.flatMap fun _=>(List.range n).map fun c:Nat=>((2:Int),(c:Int))
theorem frs_ags(hf:0<G.st.fl)(hk:k≤100)(hq:∀m∈G.M,Qm k m):∀{A:List Nat} {N:List (Int×Int)},(∀q∈A,1≤q∧q≤k)→frs {G with N:=N} (ags G.M.length A)={G with N:=N++nts G.M.length A}
 |[],N,_=>by simp[frs,ags,nts]
 |q::A,N,h=>by
  have h1:=h q (List.mem_cons_self ..);have e:ags G.M.length (q::A)=rps G.M.length q++ags G.M.length A:=by simp[ags]
  have e2:nts G.M.length (q::A)=((List.range G.M.length).map fun c:Nat=>((2:Int),(c:Int)))++nts G.M.length A:=by simp[nts]
  rw[e,e2,frs_app,←List.append_assoc];unfold rps;rw[frs_old (G:={G with N:=N}) hf fun c hc=>⟨G.M[c]'(List.mem_range.1 hc),List.getElem?_eq_getElem (List.mem_range.1 hc),(hq _ (List.getElem_mem _)).old hk h1.1 h1.2⟩];exact frs_ags hf hk hq (A:=A) fun x hx=>h x (List.mem_cons_of_mem _ hx)
theorem rpt_may{c:Nat}{q:Int}(hc:c≤255)(h0:0≤q)(h1:q≤65535):FF.FC.May (rpt c q):=by
 constructor<;>(simp only[rpt];omega)
theorem rps_may(hn:n≤8)(h0:0≤q)(h1:q≤65535):∀f∈rps n q,FF.FC.May f:=fun f hf=>by
 unfold rps at hf;obtain⟨c,hc,rfl⟩:=List.mem_map.1 hf;have:=List.mem_range.1 hc;exact rpt_may (by omega) h0 h1
theorem ags_may(hn:n≤8){A:List Nat}(h:∀q∈A,1≤q∧q≤1000):∀f∈ags n A,FF.FC.May f:=fun f hf=>by
 unfold ags at hf;obtain⟨q,hq,hf⟩:=List.mem_flatMap.1 hf;have:=h q hq;exact rps_may hn (by omega) (by omega) f hf
def cmb(n:Nat)(A:List Nat)(q:Nat):List Nat:=FF.FC.ens (ags n A++rps n q)
theorem rdb_q(h:Qg n k G)(hn:n≤8)(hf:0<G.st.fl)(hk:k≤100){A:List Nat}(hA:∀q∈A,1≤q∧q≤k):rdb {G with N:=[],nd:=0} (cmb n A (k+1))={G with N:=nts n A,nd:=0,M:=G.M.map (nwm ((k+1:Nat):Int))}:=by
 have hmay:∀f∈ags n A++rps n ((k+1:Nat):Int),FF.FC.May f:=fun f hf=>by
  rcases List.mem_append.1 hf with hf|hf
  ·exact ags_may hn (fun q hq=>by have:=hA q hq;omega) f hf
  ·exact rps_may hn (by omega) (by omega) f hf
 obtain⟨st,sc,L,s,M,rc,pi,N,nd⟩:=G;obtain⟨rfl,rfl,rfl,hml,hq⟩:=h;simp only at hml hq hf;subst hml;unfold rdb cmb;simp only[List.nil_append];rw[FF.FC.fd_ens hmay];simp only[Nat.lt_irrefl,if_false];rw[frs_app];have h1:=frs_ags (G:=⟨st,[],[],s,M,false,pi,[],0⟩) hf hk hq (A:=A) (N:=[]) hA;simp only[List.nil_append]at h1;rw[h1,frs_new (G:=⟨st,[],[],s,M,false,pi,nts M.length A,0⟩) hf (fun m hm=>(hq m hm).new hk) M.length (Nat.le_refl _)];simp
theorem srvs_q(h:∀m∈G.M,m.ph=0):∀j,srvs G j=G
 |0=>rfl
 |j+1=>by
  show srv1 (srvs G j) j=G;rw[srvs_q h j];unfold srv1;cases hm:G.M[j]? with
  |none=>rfl
  |some m=>
   simp only;rw[if_neg];unfold opn;rw[h m (List.mem_of_getElem? hm)];simp
def psq(s q:Int)(m:Mb):Mb:=psm s (nwm q m)
theorem psq_q{s:Int}{m:Mb}(h:Qm k m):Qm (k+1) (psq s ((k+1:Nat):Int) m):=⟨rfl,rfl,rfl,rfl,h.ls,by simp[psq,psm,nwm,LL.LM.ti],fun _=>by simp[psq,psm,nwm,LL.LM.ti]⟩
theorem tk3_q(h:Qg n k G)(hn:n≤8)(hf:0<G.st.fl)(hk:k≤100){A:List Nat}(hA:∀q∈A,1≤q∧q≤k):tk3 G (cmb n A (k+1))={G with N:=nts n A,nd:=0,M:=G.M.map (psq G.st.sil ((k+1:Nat):Int))}:=by
 unfold tk3;rw[rdb_q h hn hf hk hA]
 have e:pss {G with N:=nts n A,nd:=0,M:=G.M.map (nwm ((k+1:Nat):Int))}={G with N:=nts n A,nd:=0,M:=G.M.map (psq G.st.sil ((k+1:Nat):Int))}:=by
  unfold pss;simp only[h.L,List.map_map,List.map_nil]
  rfl
 rw[e];unfold srv;simp only[h.rc];rw[if_neg (by decide),srvs_q];intro m hm;obtain⟨x,hx,rfl⟩:=List.mem_map.1 hm
 rfl
theorem tk3_Q(h:Qg n k G)(hn:n≤8)(hf:0<G.st.fl)(hk:k≤100){A:List Nat}(hA:∀q∈A,1≤q∧q≤k):Qg n (k+1) (tk3 G (cmb n A (k+1))):=by
 rw[tk3_q h hn hf hk hA];refine⟨h.L,h.rc,h.sc,by show(G.M.map _).length=n;rw[List.length_map];exact h.ml,fun m hm=> ?_⟩;obtain⟨x,hx,rfl⟩:=List.mem_map.1 hm;exact psq_q (h.q x hx)
theorem adn_q{W:List CC.Cl}{M:List Mb}(h:∀m∈M,m.ls=[]){P:List (List Int)}(hP:∀l∈P,l=[]):∀j,adn W M P j=M
 |0=>rfl
 |j+1=>by
  unfold adn;split
  ·rename_i m l hm hl;rw[adn_q h hP j,hP l (List.mem_of_getElem? hl)]
   have:({m with ls:=lst W []}:Mb)=m:=by
    have:=h m (List.mem_of_getElem? hm);obtain⟨⟩:=m;simp only at this;subst this
    rfl
   rw[this];exact set_some hm
  ·exact adn_q h hP j
theorem pln_q(h:Qg n k G)(hr:rgt (snp G)=true)(hb:1≤G.st.bud.toNat):pln G={G with N:=G.N++[(5,0)],nd:=1}:=by
 have hw:wnt G.M G.L=[]:=by rw[h.L];rfl
 have hs:(snp G).ws=[]:=by show(wnt G.M G.L).map _=[];rw[hw];rfl
 rw[pln_eq,fnd_nil hr hs hb,hw,h.L,if_neg (by simp)];unfold plh fxn nte adp;simp only;rw[adn_q (fun m hm=>(h.q m hm).ls) fun l hl=>List.eq_of_mem_replicate hl];simp only[h.L]
 rfl
theorem cmd_q(h:Qg n k G){m:Mb}(hm:m.ls=[])(j:Nat):cmd G j m=((false,-1),m):=by
 unfold cmd;split
 ·rw[h.rc,if_neg (by decide)]
  have:gol G j m=none:=by
   unfold gol;rw[h.L,hm]
   rfl
  rw[this]
 ·rfl
theorem tll_q(h:Qg n k G):∀j,j≤G.M.length→tll G j=(List.replicate j (false,-1),G)
 |0,_=>rfl
 |j+1,hj=>by
  obtain⟨m,hm⟩:∃m,G.M[j]?=some m:=⟨_,List.getElem?_eq_getElem (by omega)⟩;rw[tll_more hm,tll_q h j (by omega),cmd_q h (h.q m (List.mem_of_getElem? hm)).ls j];simp only;rw[set_some hm,List.replicate_succ']
theorem tck_q{A:List Nat}(h:Qg n k G)(hr:rgt (snp (tk3 G (cmb n A (k+1))))=true)(hb:1≤G.st.bud.toNat)(hn:n≤8)(hf:0<G.st.fl)(hk:k≤100)(hA:∀q∈A,1≤q∧q≤k):
  (tck G (cmb n A (k+1))).1=List.replicate n (false,-1)∧Qg n (k+1) (tck G (cmb n A (k+1))).2∧((tck G (cmb n A (k+1))).2.N=nts n A∨(tck G (cmb n A (k+1))).2.N=nts n A++[(5,0)])∧(G.pi=0→(tck G (cmb n A (k+1))).2.N=nts n A++[(5,0)])∧(tck G (cmb n A (k+1))).2.st=G.st:=by
 have h3:=tk3_Q h hn hf hk hA;have e3:=tk3_q h hn hf hk hA
 have h5:∃N nd pi,tk5 G (cmb n A (k+1))={tk3 G (cmb n A (k+1))with N:=N,nd:=nd,pi:=pi}∧(N=nts n A∨N=nts n A++[(5,0)])∧(G.pi=0→N=nts n A++[(5,0)]):=by
  unfold tk5;simp only;unfold tk4;split
  ·rw[pln_q h3 hr (by rw[e3];exact hb)];exact⟨_,_,_,rfl,.inr (by rw[e3]),fun _=>by rw[e3]⟩
  ·rename_i hp;exact⟨(tk3 G (cmb n A (k+1))).N,_,_,rfl,.inl (by rw[e3]),fun e=>absurd (by rw[e3];exact e) hp⟩
 obtain⟨N,nd,pi,e5,hN,hN2⟩:=h5;have hq5:Qg n (k+1) (tk5 G (cmb n A (k+1))):=by rw[e5];exact⟨h3.L,h3.rc,h3.sc,h3.ml,h3.q⟩
 unfold tck;rw[tll_q hq5 _ (Nat.le_refl _)];refine⟨by simp only;rw[hq5.ml],hq5,?_,?_,?_⟩
 ·rw[e5];exact hN
 ·rw[e5];exact hN2
 ·simp only;rw[e5];simp only;rw[e3]
end
end GM
open Go.RowKit
section
variable {B gb i:Nat} {W W' W2:World} {n:Int} {G:Gs} {C:Gc} {V:Gv} {ow:Nat→Nat} {v:Value} {b:List Nat} {F F':Nat→Prop}
theorem GX.str(h:GX al W ow B C V G)(k:Kp (fun b=>1000≤ow b) W W'):GX al W' ow B C V G:=by
 have h1:GX (fun t=>t<1000) W' ow B C V G:=(h.mono (T':=fun t=>t<1000) fun _ _=>trivial).keep k.size fun b hb hT=>k.block b hb (by omega);refine {h1 with pt:=fun t _=> ?_};by_cases ht:t<1000
 ·exact h1.pt t ht
 ·obtain⟨u,rfl⟩:∃u,t=u+6:=⟨t-6,by omega⟩;show∀i m,_;intro i m hm;have h2:=(List.getElem?_eq_some_iff.1 hm).1;have h3:=h.ml;exact⟨fun e=>by omega,fun e=>by omega⟩
structure GW(B:Nat)(W:World)(gb:Nat)(n:Int)(G:Gs)(F:Nat→Prop):Prop where
 ex:∃ow C V,C.gb=gb∧GX al W ow B C V G∧∀k,(F k∨W.heap.size≤k)→1000≤ow k
 q:GQ n G
theorem GW.new(h:GX al W ow B C V G)(hq:GQ n G):GW B W C.gb n G fun _=>False:=
 ⟨⟨_,C,V,rfl,h.retag 1000,fun k hk=>by
  rcases hk with hk|hk
  ·exact hk.elim
  ·rw[nw_new hk];exact Nat.le_refl _⟩,hq⟩
theorem GW.lo(h:GW B W gb n G F):B≤gb∧gb<W.heap.size:=let⟨_,_,_,e,h1,_⟩:=h.ex;e▸⟨h1.lo _ (by rw[h1.t0];omega),h1.sz.1⟩
theorem GW.mono(h:GW B W gb n G F)(k:∀b,F' b→F b∨W.heap.size≤b):GW B W gb n G F':=
 let⟨ow,C,V,e,h1,h2⟩:=h.ex
 ⟨⟨ow,C,V,e,h1,fun b hb=>h2 b (hb.elim (k b) .inr)⟩,h.q⟩
theorem GW.kp(h:GW B W gb n G F)(k:Kp F' W W')(hF:∀b,b<W.heap.size→F' b→F b):GW B W' gb n G fun b=>F b∨W.heap.size≤b:=
 let⟨ow,C,V,e,h1,h2⟩:=h.ex
 ⟨⟨ow,C,V,e,h1.str (k.mono fun b hb x=>h2 b (.inl (hF b hb x))),fun b hb=>h2 b (by
  rcases hb with hb|hb
  ·exact hb
  ·exact .inr (by have:=k.size;omega))⟩,h.q⟩
theorem GW.below(h:GW B W gb n G F)(hb:Below W.heap.size W W'):GW B W' gb n G fun b=>F b∨W.heap.size≤b:=h.kp (Kp.ofBelow F hb) fun _ _ x=>x
theorem gw_new{s:St}(r:SM.Rt s)(W:World):Calls Tryz.prog 18 #[.agg (sv s).toArray] W fun e w'=>∃gb,e=.returned (.tuple #[.pointer (some ⟨gb,0,none⟩),.int .i64 0])∧GW W.heap.size w' gb 0 (G0 s) (fun _=>False)∧Below W.heap.size W w':=
 (gnew_yes s r W).mono fun _ _ ⟨_,C,_,he,h1,h2⟩=>⟨C.gb,he,GW.new h1 (GQ.new r),h2⟩
def GwT(B:Nat)(W:World)(gb:Nat)(n:Int)(G:Gs)(F:Nat→Prop)(b:List Nat)(e:Ending)(w':World):Prop:=∃g k:Nat,e=.returned (.slice (some ⟨g,0,none⟩) k k)∧(k:Int)=G.st.ca∧GW B w' gb (n+1) (GM.tck G b).2 (fun j=>(F j∧j<W.heap.size)∨j=g)∧CR w' g (GM.tck G b).1∧W.heap.size≤g∧Kp (fun j=>¬F j∧B≤j) W w'
theorem gw_tick(h:GW B W gb n G F)(hn:n<1000)(hr:FF.RD W v b)(hl:b.length≤2900)(hv:∀g,v.ownBlock=some g→F g)(hE:(GM.tk3 G b).L=[]):
  Calls Tryz.prog 41 #[.pointer (some ⟨gb,0,none⟩),v] W fun e w'=>GwT B W gb n G F b e w':=by
 obtain⟨ow,C,V,rfl,h1,h2⟩:=h.ex;refine (gtick_any h1 h.q hn v hr.bs hl (fun X hk=>hr.keep hk.size fun g hg hlt2=>hk.block g hlt2 fun e=>by have:=h2 g (.inl (hv g hg));rw[e,h1.t0]at this;omega) hE).mono fun e w' ⟨g,he,h3⟩=> ?_;obtain⟨k1,k2,o,V',k3,k4,k5,k6⟩:=h3;have h5:=h.q.tk5 hn hr.bs hl;refine⟨g,_,he,by rw[←h5.2];exact h5.1.go.ml,⟨⟨_,C,V',rfl,k3.retag 1000,fun j hj=> ?_⟩,h.q.tck hn hr.bs hl⟩,k1,k2,k5.mono fun j hj x=>⟨fun hF=>by have:=h2 j (.inl hF);omega,h1.lo j x⟩⟩;rcases hj with (⟨hF,hj⟩|rfl)|hj
 ·rw[nw_old (by have:=k5.size;omega),k4 j hj];exact h2 j (.inl hF)
 ·rw[nw_old k1.lt,k6];exact Nat.le_refl _
 ·rw[nw_new hj];exact Nat.le_refl _
theorem gw_seen(h:GW B W gb n G F)(c:Int):Calls Tryz.prog 15 #[.pointer (some ⟨gb,0,none⟩),.int .i64 c] W fun e w'=>e=.returned (.agg (sev (GM.see G.M c)).toArray)∧Below W.heap.size W w':=let⟨_,_,_,e,h1,_⟩:=h.ex;e▸gseen_any h1 c
theorem gw_recall(h:GW B W gb n G F):Calls Tryz.prog 45 #[.pointer (some ⟨gb,0,none⟩)] W fun e w'=>e=.returned (.bool G.rc)∧w'=W:=let⟨_,_,_,e,h1,_⟩:=h.ex;e▸grecall_any h1
theorem gw_calls(h:GW B W gb n G F)(hL:G.L=[]):Calls Tryz.prog 12 #[.pointer (some ⟨gb,0,none⟩)] W fun e w'=>∃a c,e=.returned (.slice a 0 c)∧Below W.heap.size W w':=by
 obtain⟨_,_,_,rfl,h1,_⟩:=h.ex;refine (gcalls_any h1 h.q.go.gd.len).mono fun e w' ⟨v',he,h2,hb⟩=> ?_;rw[hL]at h2;rcases h2.form with⟨rfl,_⟩|⟨g,cap,rfl,_⟩
 ·exact⟨_,_,he,hb⟩
 ·exact⟨_,_,he,hb⟩
theorem gw_notes(h:GW B W gb n G F)(hN:G.N.length≤10000):Calls Tryz.prog 17 #[.pointer (some ⟨gb,0,none⟩)] W fun e w'=>∃v',e=.returned v'∧O2 56 w' W.heap.size v' G.N∧Below W.heap.size W w':=let⟨_,_,_,e,h1,_⟩:=h.ex;e▸gnotes_any h1 hN
end
theorem own_ty{W:World}{B:Nat}{t:TypeId}{k n:Nat}{v:Value}{cs:List Value}(h:W.ownsRow B t k v n cs){g:Nat}(hg:v.ownBlock=some g):∃c f,W.heap[g]?=some (.cells c t f):=by
 rcases h.2 with⟨h1,_⟩|⟨g',cap,cur,hv,hb,hh,_⟩
 ·rw[h1]at hg;cases hg
 ·rw[hv]at hg;have e:g'=g:=Option.some.inj hg;subst e;exact⟨_,_,hh⟩
theorem ty_ne{W:World}{g h:Nat}{c c':Array Value}{t t':TypeId}{f f':Nat×Nat}(h1:W.heap[g]?=some (.cells c t f))(h2:W.heap[h]?=some (.cells c' t' f'))(ht:t≠t'):g≠h:=by
 rintro rfl;rw[h1]at h2;cases h2;exact ht rfl
theorem OG.nil'{α:Type}{cf:α→List Value}{k:Nat}{t:TypeId}(W:World)(B:Nat):OG cf k t W B (.slice none 0 0) []:=World.ownsRow_nil W B _ _
def pbn(n i:Nat):List Nat:=FF.FC.ens (rpl n ((i+1:Nat):Int))
structure WP(F:Nat→Prop)(cb gb:Nat)(v:Wv)(es:List Value)(B:Nat)(W:World)(wb:Nat)(s:St)(n k:Nat)(kg:Int)(A:List Int)(N:List Nat)(G:Gs):Prop where
 g:GW B W gb kg G F
 w:WB W wb s cb n gb v
 m:MR W cb n
 x:XR W B v.vp es
 l:es.length=k
 e:∀(i:Nat) (y:Value),es[i]?=some y→FF.OW W B y (pbn n i)
 z:ZR W B v.va A
 o:FF.OW W B v.vn N
 fw:F wb
 fc:F cb
 fx:∀g,v.vp.ownBlock=some g→F g
 fe:∀(i:Nat) (y:Value) (g:Nat),es[i]?=some y→y.ownBlock=some g→F g
 fz:∀g,v.va.ownBlock=some g→F g
 fo:∀g,v.vn.ownBlock=some g→F g
 lw:B≤wb
 lc:B≤cb
def EK(W:World)(F:Nat→Prop)(E:List (Nat×Array Value×TypeId)):Prop:=∀x∈E,W.heap[x.1]?=some (.cells x.2.1 x.2.2 (0,0))∧(x.2.2=48∨x.2.2=103)∧F x.1
theorem ek_ne{t u v w:TypeId}(h:t=u∨t=v)(h1:u≠w)(h2:v≠w):t≠w:=by rcases h with rfl|rfl<;>assumption
def WE(E:List (Nat×Array Value×TypeId))(cb gb B:Nat)(W:World)(wb:Nat)(s:St)(n k:Nat)(kg:Int)(A:List Int)(G:Gs):Prop:=∃(F:Nat→Prop) (v:Wv) (es:List Value),WP F cb gb v es B W wb s n k kg A [] G∧v.vn=.slice none 0 0∧EK W F E
section
variable {F:Nat→Prop} {cb gb B wb n k:Nat} {v v':Wv} {es:List Value} {W W':World} {s:St} {kg:Int} {A:List Int} {N N':List Nat} {G:Gs} {E:List (Nat×Array Value×TypeId)}
theorem WP.nx(h:WP F cb gb v es B W wb s n k kg A N G){g:Nat}(hg:v.vp.ownBlock=some g):g≠wb:=let⟨_,_,e⟩:=own_ty h.x hg;ty_ne e h.w (by decide)
theorem WP.ne(h:WP F cb gb v es B W wb s n k kg A N G){i g:Nat}{y:Value}(hy:es[i]?=some y)(hg:y.ownBlock=some g):g≠wb:=let⟨_,_,e⟩:=own_ty (h.e i y hy) hg;ty_ne e h.w (by decide)
theorem WP.nz(h:WP F cb gb v es B W wb s n k kg A N G){g:Nat}(hg:v.va.ownBlock=some g):g≠wb:=let⟨_,_,e⟩:=own_ty h.z hg;ty_ne e h.w (by decide)
theorem WP.put(h:WP F cb gb v es B W wb s n k kg A N G)(kp:Kp (fun b=>b=wb) W W')(h1:WB W' wb s cb n gb v')(ep:v'.vp=v.vp)(ea:v'.va=v.va)(hn:FF.OW W' B v'.vn N')(fn:∀g,v'.vn.ownBlock=some g→F g∨W.heap.size≤g):WP (fun b=>F b∨W.heap.size≤b) cb gb v' es B W' wb s n k kg A N' G where
 g:=h.g.kp kp fun b _ e=>e▸h.fw
 w:=h1
 m:=(kp.block cb h.m.lt (ty_ne h.m h.w (by decide))).trans h.m
 x:=by rw[ep];exact h.x.keep fun g hg=>kp.block g (h.x.lt g hg).2 (h.nx hg)
 l:=h.l
 e:=fun i y hy=>(h.e i y hy).keep fun g hg=>kp.block g ((h.e i y hy).lt g hg).2 (h.ne hy hg)
 z:=by rw[ea];exact h.z.keep fun g hg=>kp.block g (h.z.lt g hg).2 (h.nz hg)
 o:=hn
 fw:=.inl h.fw
 fc:=.inl h.fc
 fx:=by rw[ep];exact fun g hg=>.inl (h.fx g hg)
 fe:=fun i y g hy hg=>.inl (h.fe i y g hy hg)
 fz:=by rw[ea];exact fun g hg=>.inl (h.fz g hg)
 fo:=fn
 lw:=h.lw
 lc:=h.lc
theorem WP.below(h:WP F cb gb v es B W wb s n k kg A N G)(hb:Below W.heap.size W W'):WP (fun b=>F b∨W.heap.size≤b) cb gb v es B W' wb s n k kg A N G:=
 h.put (Kp.ofBelow _ hb) (h.w.below' hb) rfl rfl (h.o.below' hb) fun g hg=>.inl (h.fo g hg)
theorem EK.below{F:Nat→Prop}(h:EK W F E)(hb:Below W.heap.size W W'):EK W' (fun b=>F b∨W.heap.size≤b) E:=fun x hx=>let⟨e1,e2,e3⟩:=h x hx;⟨(hb.block _ (Array.getElem?_eq_some_iff.1 e1).1).trans e1,e2,.inl e3⟩
theorem WP.lb(h:WP F cb gb v es B W wb s n k kg A N G):B≤W.heap.size:=by have:=h.lw;have:=h.w.lt;omega
theorem WP.below0(h:WP F cb gb v es B W wb s n k kg A N G)(kp:Kp (fun b=>b=wb) W W'):Below B W W':=kp.toBelow h.lb fun i hi e=>by have:=h.lw;omega
theorem WP.tick(h:WP F cb gb v es B W wb s n k kg A N G){kg':Int}{G':Gs}{gt:Nat}(hg:GW B W' gb kg' G' fun j=>(F j∧j<W.heap.size)∨j=gt)(kp:Kp (fun j=>¬F j∧B≤j) W W'):WP (fun j=>(F j∧j<W.heap.size)∨j=gt) cb gb v es B W' wb s n k kg' A N G' where
 g:=hg
 w:=(kp.block wb h.w.lt fun x=>x.1 h.fw).trans h.w
 m:=(kp.block cb h.m.lt fun x=>x.1 h.fc).trans h.m
 x:=h.x.keep fun g hg=>kp.block g (h.x.lt g hg).2 fun x=>x.1 (h.fx g hg)
 l:=h.l
 e:=fun i y hy=>(h.e i y hy).keep fun g hg=>kp.block g ((h.e i y hy).lt g hg).2 fun x=>x.1 (h.fe i y g hy hg)
 z:=h.z.keep fun g hg=>kp.block g (h.z.lt g hg).2 fun x=>x.1 (h.fz g hg)
 o:=h.o.keep fun g hg=>kp.block g (h.o.lt g hg).2 fun x=>x.1 (h.fo g hg)
 fw:=.inl ⟨h.fw,h.w.lt⟩
 fc:=.inl ⟨h.fc,h.m.lt⟩
 fx:=fun g hg=>.inl ⟨h.fx g hg,(h.x.lt g hg).2⟩
 fe:=fun i y g hy hg=>.inl ⟨h.fe i y g hy hg,((h.e i y hy).lt g hg).2⟩
 fz:=fun g hg=>.inl ⟨h.fz g hg,(h.z.lt g hg).2⟩
 fo:=fun g hg=>.inl ⟨h.fo g hg,(h.o.lt g hg).2⟩
 lw:=h.lw
 lc:=h.lc
theorem WE.sub{E':List (Nat×Array Value×TypeId)}(h:WE E cb gb B W wb s n k kg A G)(hs:∀x∈E',x∈E):WE E' cb gb B W wb s n k kg A G:=let⟨F,v,es,h1,h2,h3⟩:=h;⟨F,v,es,h1,h2,fun x hx=>h3 x (hs x hx)⟩
theorem WP.settle(h:WP F cb gb v es B W wb s n k kg A (pbn n k) G)(hE:EK W F E)(hs:Se W wb s cb n gb B v es (pbn n k) W'):WE E cb gb B W' wb s n (k+1) kg [] G∧Below B W W':=by
 obtain⟨vp,e',h1,h2,h3,h4,h5⟩:=hs;have hF:∀b,b<W.heap.size→(b=wb∨v.vp.ownBlock=some b)→F b:=fun b _ x=>x.elim (fun e=>e▸h.fw) (h.fx b)
 have hne:∀(i:Nat) (y:Value) (g:Nat),es[i]?=some y→y.ownBlock=some g→¬(g=wb∨v.vp.ownBlock=some g):=fun i y g hy hg x=>by
  rcases x with x|x
  ·exact h.ne hy hg x
  ·obtain⟨_,_,e1⟩:=own_ty h.x x;obtain⟨_,_,e2⟩:=own_ty (h.e i y hy) hg;exact ty_ne e1 e2 (by decide) rfl
 refine⟨⟨fun b=>F b∨W.heap.size≤b,_,es++[e'],⟨h.g.kp h5 hF,h1,?_,h2,?_,?_,OG.nil' _ _,FF.OW.nil _ _,.inl h.fw,.inl h.fc,?_,?_,fun g hg=> ?_,fun g hg=> ?_,h.lw,h.lc⟩,rfl,fun x hx=> ?_⟩,?_⟩
 ·refine (h5.block cb h.m.lt ?_).trans h.m;rintro (x|x)
  ·exact ty_ne h.m h.w (by decide) x
  ·obtain⟨_,_,e1⟩:=own_ty h.x x;exact ty_ne e1 h.m (by decide) rfl
 ·rw[List.length_append,h.l];rfl
 ·intro i y hy;by_cases hi:i<es.length
  ·rw[List.getElem?_append_left hi]at hy;exact(h.e i y hy).keep fun g hg=>h5.block g ((h.e i y hy).lt g hg).2 (hne i y g hy hg)
  ·rw[List.getElem?_append_right (by omega)]at hy
   have hj:i-es.length=0:=by
    rcases hx:i-es.length with _|j
    ·rfl
    ·rw[hx]at hy;simp at hy
   rw[hj]at hy;have e1:e'=y:=by simpa using hy
   have e2:i=k:=by have:=h.l;omega
   subst e1 e2;exact h4.mono h.lb
 ·intro g hg;rcases h3 with h3|h3
  ·exact .inl (h.fx g (h3.trans hg))
  ·exact .inr (h3 g hg)
 ·intro i y g hy hg;by_cases hi:i<es.length
  ·rw[List.getElem?_append_left hi]at hy;exact .inl (h.fe i y g hy hg)
  ·rw[List.getElem?_append_right (by omega)]at hy
   have e1:e'=y:=by
    rcases hx:i-es.length with _|j
    ·rw[hx]at hy;simpa using hy
    ·rw[hx]at hy;simp at hy
   subst e1;exact .inr (h4.lt g hg).1
 ·cases hg
 ·cases hg
 ·obtain⟨e1,e2,e3⟩:=hE x hx;refine⟨(h5.block _ (Array.getElem?_eq_some_iff.1 e1).1 ?_).trans e1,e2,.inl e3⟩;rintro (y|y)
  ·exact ty_ne e1 h.w (ek_ne e2 (by decide) (by decide)) y
  ·obtain⟨_,_,e4⟩:=own_ty h.x y;exact ty_ne e1 e4 (ek_ne e2 (by decide) (by decide)) rfl
 ·refine h5.toBelow h.lb fun i hi x=> ?_;rcases x with x|x
  ·have:=h.lw;omega
  ·have:=(h.x.lt i x).1;omega
end
section
variable {cb gb B wb n k:Nat} {v:Wv} {es:List Value} {W W' X:World} {s:St} {kg:Int} {A:List Int} {N b:List Nat} {G:Gs} {E:List (Nat×Array Value×TypeId)}
def T1(E:List (Nat×Array Value×TypeId))(cb gb:Nat)(v:Wv)(es:List Value)(B:Nat)(W:World)(wb:Nat)(s:St)(n k:Nat)(kg:Int)(A:List Int)(N:List Nat)(G:Gs)(X:World):Prop:=(∃F,WP F cb gb v es B X wb s n k kg A N G∧EK X F E)∧Below B W X
theorem T1.put(h:T1 E cb gb v es B W wb s n k kg A N G X){v':Wv}{N':List Nat}(kp:Kp (fun b=>b=wb) X W')(h1:WB W' wb s cb n gb v')(ep:v'.vp=v.vp)(ea:v'.va=v.va)(hn:FF.OW W' B v'.vn N')(fn:∀g,v'.vn.ownBlock=some g→v.vn.ownBlock=some g∨X.heap.size≤g):T1 E cb gb v' es B W wb s n k kg A N' G W':=by
 obtain⟨⟨F,h2,h3⟩,h4⟩:=h;refine⟨⟨_,h2.put kp h1 ep ea hn fun g hg=>(fn g hg).imp (h2.fo g) id,fun x hx=> ?_⟩,h4.trans (h2.below0 kp)⟩;obtain⟨e1,e2,e3⟩:=h3 x hx;exact⟨(kp.block _ (Array.getElem?_eq_some_iff.1 e1).1 (ty_ne e1 h2.w (ek_ne e2 (by decide) (by decide)))).trans e1,e2,.inl e3⟩
theorem T1.below(h:T1 E cb gb v es B W wb s n k kg A N G X)(hb:Below X.heap.size X W'):T1 E cb gb v es B W wb s n k kg A N G W':=
 h.put (Kp.ofBelow _ hb) (let⟨⟨_,h1,_⟩,_⟩:=h;h1.w.below' hb) rfl rfl (let⟨⟨_,h1,_⟩,_⟩:=h;h1.o.below' hb) fun _ hg=>.inl hg
theorem T1.get(h:T1 E cb gb v es B W wb s n k kg A N G X){x:Nat×Array Value×TypeId}(hx:x∈E):X.heap[x.1]?=some (.cells x.2.1 x.2.2 (0,0)):=let⟨⟨_,_,h3⟩,_⟩:=h;(h3 x hx).1
theorem T1.wc(h:T1 E cb gb v es B W wb s n k kg A N G X)(hn:n≤8):Calls Tryz.prog 14 #[.pointer (some ⟨wb,0,none⟩)] X fun e w'=>∃g,e=.returned (.slice (some ⟨g,0,none⟩) n n)∧T1 ((g,(kz n).toArray,48)::E) cb gb v es B W wb s n k kg A N G w':=by
 obtain⟨⟨F,h1,h2⟩,h3⟩:=h;refine (wcars_any h1.w h1.m hn).mono fun e w' ⟨g,he,hz,hg,hb⟩=>⟨g,he,⟨⟨_,h1.below hb,fun x hx=> ?_⟩,h3.trans (hb.mono h1.lb)⟩⟩;rcases List.mem_cons.1 hx with rfl|hx
 ·exact⟨hz,.inl rfl,.inr hg⟩
 ·obtain⟨e1,e2,e3⟩:=h2 x hx;exact⟨(hb.block _ (Array.getElem?_eq_some_iff.1 e1).1).trans e1,e2,.inl e3⟩
theorem T1.cc(h:T1 E cb gb v es B W wb s n k kg A N G X)(hL:G.L=[]):Calls Tryz.prog 12 #[.pointer (some ⟨gb,0,none⟩)] X fun e w'=>∃a c,e=.returned (.slice a 0 c)∧T1 E cb gb v es B W wb s n k kg A N G w':=
 let⟨⟨_,h1,_⟩,_⟩:=h
 (gw_calls h1.g hL).mono fun _ _ ⟨a,c,he,hb⟩=>⟨a,c,he,h.below hb⟩
theorem T1.rc(h:T1 E cb gb v es B W wb s n k kg A N G X)(hL:G.rc=false):Calls Tryz.prog 45 #[.pointer (some ⟨gb,0,none⟩)] X fun e w'=>e=.returned (.bool false)∧T1 E cb gb v es B W wb s n k kg A N G w':=
 let⟨⟨_,h1,_⟩,_⟩:=h
 (gw_recall h1.g).mono fun _ _ ⟨he,e⟩=>⟨hL▸he,e▸h⟩
theorem T1.gp(h:T1 E cb gb v es B W wb s n k kg A N G X):X.cell? ⟨wb,17,none⟩=some (.pointer (some ⟨gb,0,none⟩)):=let⟨⟨_,h1,_⟩,_⟩:=h;h1.w.group
theorem T1.wo(h:T1 E cb gb v es B W wb s n k kg A N G X):WB X wb s cb n gb v:=let⟨⟨_,h1,_⟩,_⟩:=h;h1.w
theorem T1.mr(h:T1 E cb gb v es B W wb s n k kg A N G X):MR X cb n:=let⟨⟨_,h1,_⟩,_⟩:=h;h1.m
theorem T1.rp(h:T1 E cb gb v es B W wb s n k kg A N G X)(hv:v.vn=.slice none 0 0)(hn:n≤8)(hk:k≤1000):Calls Tryz.prog 40 #[.pointer (some ⟨wb,0,none⟩)] X fun e w'=>e=.returned (.tuple #[])∧∃vn,T1 E cb gb {v with vn:=vn} es B W wb s n k kg A (pbn n k) G w':=by
 obtain⟨⟨F,h1,h2⟩,h3⟩:=h;obtain⟨a,c,hp⟩:=h1.x.slice;rw[h1.l]at hp;refine (wreport_any h1.w h1.m hn hp hk hv).mono fun e w' ⟨he,vn,k1,k2,k3⟩=>⟨he,vn,T1.put ⟨⟨F,h1,h2⟩,h3⟩ (k3.mono fun i hi x=> ?_) k1 rfl rfl (k2.mono h1.lb) fun g hg=>.inr (k2.lt g hg).1⟩;rcases x with x|x
 ·exact x
 ·omega
def T2(E:List (Nat×Array Value×TypeId))(cb gb:Nat)(v:Wv)(es:List Value)(B:Nat)(W:World)(wb:Nat)(s:St)(n k:Nat)(kg:Int)(A:List Int)(N:List Nat)(G:Gs)(u:Value)(X:World):Prop:=FF.RD X u (A.flatMap (fun z=>pbn n z.toNat)++N)∧(∃F,WP F cb gb v es B X wb s n k kg A N G∧EK X F E∧∀g,u.ownBlock=some g→F g)∧Below B W X
theorem pbn_len(n i:Nat):(pbn n i).length=10*n:=by unfold pbn;rw[FF.FC.ens_length,rpl_len]
theorem pbn_bs{n i:Nat}(hn:n≤8)(hi:i≤1000):FF.FC.Bs (pbn n i):=FF.FC.ens_Bs (rpl_may hn (by omega) (by omega))
theorem T1.cm(h:T1 E cb gb v es B W wb s n k kg A (pbn n k) G X)(hA:∀z∈A,0≤z∧z.toNat<k)(hn:n≤8)(hk:k≤1000)(hl:A.length≤1000):Calls Tryz.prog 42 #[.pointer (some ⟨wb,14,none⟩)] X fun e w'=>∃u,e=.returned u∧T2 E cb gb v es B W wb s n k kg A (pbn n k) G u w':=by
 obtain⟨⟨F,h1,h2⟩,h3⟩:=h
 have hbs:FF.FC.Bs (A.flatMap (fun z=>pbn n z.toNat)++pbn n k):=FF.FC.Bs.append (fun x hx=>by
  obtain⟨z,hz,hx⟩:=List.mem_flatMap.1 hx
  exact pbn_bs hn (by have:=hA z hz;omega) x hx) (pbn_bs hn hk)
 refine (coming_any h1.w h1.z h1.x (pbn n) (fun z hz=> ?_) (h1.o.rd (pbn_bs hn hk)) (by rw[pbn_len];omega) hl).mono fun e w' ⟨u,he,ho,hb⟩=>⟨u,he,ho.rd hbs,⟨_,h1.below hb,fun x hx=> ?_,fun g hg=>.inr (ho.lt g hg).1⟩,h3.trans (hb.mono h1.lb)⟩
 ·obtain⟨z0,z1⟩:=hA z hz;have hlt:z.toNat<es.length:=by rw[h1.l];exact z1
  exact⟨z0,_,List.getElem?_eq_getElem hlt,(h1.e _ _ (List.getElem?_eq_getElem hlt)).rd (pbn_bs hn (by omega)),by rw[pbn_len];omega⟩
 ·obtain⟨e1,e2,e3⟩:=h2 x hx;exact⟨(hb.block _ (Array.getElem?_eq_some_iff.1 e1).1).trans e1,e2,.inl e3⟩
theorem T2.tk{u:Value}(h:T2 E cb gb v es B W wb s n k kg A N G u X)(hb:A.flatMap (fun z=>pbn n z.toNat)++N=b)(hk:kg<1000)(hl:b.length≤2900)(hE:(GM.tk3 G b).L=[])(hn:(n:Int)=G.st.ca):Calls Tryz.prog 41 #[.pointer (some ⟨gb,0,none⟩),u] X fun e w'=>∃g,e=.returned (.slice (some ⟨g,0,none⟩) n n)∧T1 ((g,(cms (GM.tck G b).1).toArray,103)::E) cb gb v es B W wb s n k (kg+1) A N (GM.tck G b).2 w':=by
 subst hb;obtain⟨hr,⟨F,h1,h2,h3⟩,h4⟩:=h;refine (gw_tick h1.g hk hr hl h3 hE).mono fun e w' ⟨g,m,he,hm,k1,k2,k3,k4⟩=> ?_;obtain rfl:m=n:=by omega
 refine⟨g,he,⟨_,h1.tick k1 k4,fun x hx=> ?_⟩,h4.trans (k4.toBelow h1.lb fun i hi x=>by omega)⟩;rcases List.mem_cons.1 hx with rfl|hx
 ·exact⟨k2,.inr rfl,.inr rfl⟩
 ·obtain⟨e1,e2,e3⟩:=h2 x hx;have hlt:=(Array.getElem?_eq_some_iff.1 e1).1;exact⟨(k4.block _ hlt fun x=>x.1 e3).trans e1,e2,.inl ⟨e3,hlt⟩⟩
theorem run_loadGG{o:Oper}{a:Act}{w:World}(x:Operand){b f:Nat}{u:Value}(ho:o.op=.load 39 x)(hx:a.eval x=.pointer (some ⟨b,f,none⟩))(hc:w.cell? ⟨b,f,none⟩=some u):(execOp a.eval o).run Tryz.prog w=.ok (.value u) w:=by
 unfold execOp;simp only[ho,hx,Sem.run_bind,Sem.run_pure];simp[go_sem,hc]
theorem run_load23w{o:Oper}{a:Act}{w:World}(x:Operand){b:Nat}{s:St}(ho:o.op=.load 23 x)(hx:a.eval x=.pointer (some ⟨b,0,none⟩))(hc:w.rangeAt b 0 (sv s)):(execOp a.eval o).run Tryz.prog w=.ok (.value (.agg (sv s).toArray)) w:=by
 unfold execOp;simp only[ho,hx,Sem.run_bind,Sem.run_pure,Result.andThen_ok,load23 w b s hc]
theorem T2.gp{u:Value}(h:T2 E cb gb v es B W wb s n k kg A N G u X):X.cell? ⟨wb,17,none⟩=some (.pointer (some ⟨gb,0,none⟩)):=let⟨_,⟨_,h1,_⟩,_⟩:=h;h1.w.group
theorem T1.st(h:T1 E cb gb v es B W wb s n k kg A (pbn n k) G X)(hn:n≤8)(hk:k≤1000)(u:FrameMode):CallsD Tryz.prog 39 #[.pointer (some ⟨wb,0,none⟩)] u X fun e u' w'=>u'=u∧(e=.returned (.tuple #[])∧WE E cb gb B w' wb s n (k+1) kg [] G∧Below B W w'):=by
 obtain⟨⟨F,h1,h2⟩,h3⟩:=h;refine (wsettle_any h1.w h1.m h1.x h1.lb (fun e=>h1.nx e rfl) (h1.o.rd (pbn_bs hn hk)) (by rw[pbn_len];omega) (by rw[h1.l];exact hk) hn u).mono fun e u' w' ⟨hu,he,hs⟩=>⟨hu,he,?_⟩;obtain⟨k1,k3⟩:=h1.settle h2 hs;exact⟨k1,h3.trans k3⟩
theorem wpOp_storeTT{ops:Array Oper}{Q:Exit→Act→World→Prop}{o:Oper}{K:Act→World→Prop}{a:Act}{w:World}{i:Nat}(hi:ops[i]?=some o)(hw:Region.wanted o (yielded ops a.tmps)=true)(x y:Operand)(ho:o.op=.store 65 x y){b j m c:Nat}{p:Option Addr}{old:Value}(hx:a.eval x=.pointer (some ⟨b,j,none⟩))(hy:a.eval y=.slice p m c)(hc:w.cell? ⟨b,j,none⟩=some old)(hf:w.frozen? ⟨b,j,none⟩=false)
  (h:K (a.put o.dst undef) (w.setCell ⟨b,j,none⟩ (.slice p m c))):wpOp Tryz.prog ops Q i K a w:=by
 unfold wpOp;rw[hi];simp only;rw[if_pos hw];refine .inl ?_;unfold Oper.wp execOp;simp only[ho,hx,hy];simp[go_sem,hc,hf];exact h
theorem wpOp_storeFI{ops:Array Oper}{Q:Exit→Act→World→Prop}{o:Oper}{K:Act→World→Prop}{a:Act}{w:World}{i:Nat}(hi:ops[i]?=some o)(hw:Region.wanted o (yielded ops a.tmps)=true)(x y:Operand)(ho:o.op=.store 52 x y){b j m c:Nat}{p:Option Addr}{old:Value}(hx:a.eval x=.pointer (some ⟨b,j,none⟩))(hy:a.eval y=.slice p m c)(hc:w.cell? ⟨b,j,none⟩=some old)(hf:w.frozen? ⟨b,j,none⟩=false)
  (h:K (a.put o.dst undef) (w.setCell ⟨b,j,none⟩ (.slice p m c))):wpOp Tryz.prog ops Q i K a w:=by
 unfold wpOp;rw[hi];simp only;rw[if_pos hw];refine .inl ?_;unfold Oper.wp execOp;simp only[ho,hx,hy];simp[go_sem,hc,hf];exact h
theorem T1.set(h:T1 E cb gb v es B W wb s n k kg A N G X)(i:Nat)(u:Value){v':Wv}(e:(wcv s cb n gb v).set i u=wcv s cb n gb v')(ep:v'.vp=v.vp)(ea:v'.va=v.va)(en:v'.vn=v.vn):T1 E cb gb v' es B W wb s n k kg A N G (X.setCell ⟨wb,i,none⟩ u):=
 h.put ((Kp.refl _ _).set wb i u fun _=>rfl) (h.wo.put i u e) ep ea (by
  obtain⟨⟨F,h1,_⟩,_⟩:=h;rw[en]
  exact h1.o.keep fun g hg=>Below.heap_setCell _ _ _ _ (let⟨_,_,e⟩:=own_ty h1.o hg;ty_ne e h1.w (by decide))) fun g hg=>.inl (by rwa[en]at hg)
end
theorem infoSw:(Tryz.prog.info? 23).map (·.size)=some 13:=by kernel_rfl
section
variable {C:World→Prop} {K:Act→Prop} {o:Oper} {a:Act}
theorem quiet_loadMs(x:Operand)(b k:Nat){v:Value}(ho:o.op=.load 60 x)(hx:a.eval x=.pointer (some ⟨b,k,none⟩))(hr:∀w,C w→w.cell? ⟨b,k,none⟩=some v)
  (h:K (a.put o.dst v)):o.quiet Tryz.prog a C K:=
 quiet_val _ (fun w hw=>by have hc:=hr w hw;unfold execOp;simp only[ho,hx,Sem.run_bind,Sem.run_pure];simp[go_sem,hc]) h
theorem quiet_loadTT(x:Operand)(b k:Nat){v:Value}(ho:o.op=.load 65 x)(hx:a.eval x=.pointer (some ⟨b,k,none⟩))(hr:∀w,C w→w.cell? ⟨b,k,none⟩=some v)
  (h:K (a.put o.dst v)):o.quiet Tryz.prog a C K:=
 quiet_val _ (fun w hw=>by have hc:=hr w hw;unfold execOp;simp only[ho,hx,Sem.run_bind,Sem.run_pure];simp[go_sem,hc]) h
end
theorem ixCw(W:World){g m cap j:Nat}(hj:j<m):(Instr.indexAt 65 (.slice (some ⟨g,0,none⟩) m cap) (.int .i64 (j:Int))).run Tryz.prog W=.ok (.pointer (some ⟨g,j*2,none⟩)) W:=by
 rw[run_indexAt_slice W 65 _ m cap .i64 j (by kernel_rfl),if_pos ⟨by omega,by omega⟩,show Tryz.prog.elem 65=103 by kernel_rfl,Tryz.sizeOf103];simp only[Result.andThen_ok,Int.toNat_natCast,Addr.add_mid,Nat.zero_add]
section
variable {cb gb B wb n k:Nat} {W:World} {s:St} {A:List Int} {b:List Nat} {G G':Gs} {E0:List (Nat×Array Value×TypeId)}
theorem wtick_any(h0:WE E0 cb gb B W wb s n k (k:Int) A G)(hL:G.L=[])(hn8:n≤8)(hk:k<200)(hs:rightB s=true)(hn:(n:Int)=s.ca)(hst:G.st=s)(hA:∀z∈A,0≤z∧z.toNat<k)(hAl:A.length≤30)(hbe:A.flatMap (fun z=>pbn n z.toNat)++pbn n k=b)(hbl:b.length≤2900)(hE:(GM.tk3 G b).L=[])(hT:(GM.tck G b).1=List.replicate n (false,-1))(hG:(GM.tck G b).2=G')(hL2:G'.L=[])(hR2:G'.rc=false):
  Calls Tryz.prog 29 #[.pointer (some ⟨wb,0,none⟩)] W fun e w'=>e=.returned (.tuple #[])∧WE E0 cb gb B w' wb s n (k+1) ((k:Int)+1) [] G'∧Below B W w':=by
 obtain⟨F,v,es,h,hv,hE0⟩:=h0;have H0:Hid (T1 E0 cb gb v es B W wb s n k (k:Int) A [] G W):=⟨⟨F,h,hE0⟩,Below.refl _ _⟩;have HL:=Hd hL;have HV:=Hd hv;have HA:=Hd hA;have HBE:=Hd hbe;have HBL:=Hd hbl;have HE:=Hd hE;have HT:=Hd hT;have HGG:=Hd hG;have HL2:=Hd hL2;have HR2:=Hd hR2;have HS:=Hd hs;have HNS:=Hd hn;have HN:Hid ((n:Int)=G.st.ca):=by show _=_;rw[hst];exact hn
 clear h hE0 hL hv hA hbe hbl hE hT hG hL2 hR2 hs hn hst
 go_enter_defers Tryz.func29,Tryz.ntmps29
 go_upto_region 1 with fail
 go_cut [2,3]from 6 to 12 (fun c2 c3 X=>∃(g:Nat) (a:Option Addr) (c:Nat),c2=.slice (some ⟨g,0,none⟩) n n∧c3=.slice a 0 c∧Hid (T1 ((g,(kz n).toArray,48)::E0) cb gb v es B W wb s n k (k:Int) A [] G X))
 case first=>
  rename_i hJ hK;refine wp_nrm ?_;refine wp_region_held (S:=fun w'=>w'.cell? ⟨wb,17,none⟩=some (.pointer (some ⟨gb,0,none⟩))) (by kernel_rfl) ?_;change wpAnyH _ _ _ _ _ _ _ _ (World.drew _);have HJ0:=Hd (H0.out.below (Below.refl _ _).drew);have HD:=Hd HJ0.out.gp;clear H0;generalize W.drew=X0 at HJ0 HD⊢;refine wpAnyH_take (i:=0) rfl (by kernel_rfl) (by kernel_rfl) (by kernel_rfl) (fun _ _ _ h=>by cases h.1) (.inl ⟨rfl,fun _ _=>rfl⟩) HD.out ?_;generalize hKK:wpAnyH _ _ _ _ _ _ _=KK;go_simp;subst hKK;refine wpAnyH_take (i:=2) rfl (by kernel_rfl) (by kernel_rfl) (by kernel_rfl) (fun _ _ _ h=>by cases h.1) (.inl ⟨rfl,fun _ _=>rfl⟩) HD.out ?_;generalize hKK:wpAnyH _ _ _ _ _ _ _=KK;go_simp;subst hKK;refine wpAnyH_take (i:=3) rfl (by kernel_rfl) (by kernel_rfl) (by kernel_rfl) (fun _ _ _ h=>by cases h.1) (.inl ⟨rfl,fun _ _=>rfl⟩) HD.out ?_;generalize hKK:wpAnyH _ _ _ _ _ _ _=KK;go_simp;subst hKK;refine wpAnyH_take (i:=4) rfl (by kernel_rfl) (by kernel_rfl) (by kernel_rfl) (fun _ _ _ h=>by cases h.1) (.inl ⟨rfl,fun _ _=>rfl⟩) HD.out ?_;generalize hKK:wpAnyH _ _ _ _ _ _ _=KK;go_simp;subst hKK;refine wpAnyH_take (i:=5) (v:=(.pointer (some ⟨gb,0,none⟩))) rfl (by kernel_rfl) (by kernel_rfl) (by kernel_rfl) (fun _ _ _ h=>by cases h.1) (.inl ⟨rfl,fun w hw=>run_loadGG _ rfl rfl hw⟩) HD.out ?_;generalize hKK:wpAnyH _ _ _ _ _ _ _=KK;go_simp;subst hKK;clear HD;refine wpAnyH_all (rs:=[1]) (by kernel_rfl) (by simp) (fun ii hii=> ?_);obtain rfl:ii=1:=by simpa using hii
  clear hii;refine wpOp_call (f:=14) (args:= #[.pointer (some ⟨wb,0,none⟩)]) rfl rfl (by go_simp) (HJ0.out.wc hn8) ?_;rintro e X1 ⟨g,rfl,ht⟩;have HJ1:=Hd ht;clear ht HJ0;refine⟨_,rfl,HJ1.out.gp,?_⟩;generalize hKK:wpAnyH _ _ _ _ _ _ _=KK;go_simp;subst hKK;refine wpAnyH_all (rs:=[6]) (by kernel_rfl) (by simp) (fun ii hii=> ?_);obtain rfl:ii=6:=by simpa using hii
  clear hii;refine wpOp_call (f:=12) (args:= #[.pointer (some ⟨gb,0,none⟩)]) rfl rfl (by go_simp) (HJ1.out.cc HL.out) ?_;rintro e X2 ⟨a,c,rfl,ht⟩;have HJ2:=Hd ht;clear ht HJ1;refine⟨_,rfl,HJ2.out.gp,?_⟩;generalize hKK:wpAnyH _ _ _ _ _ _ _=KK;go_simp;subst hKK;have HD:=Hd HJ2.out.gp;refine wpAnyH_take (i:=7) rfl (by kernel_rfl) (by kernel_rfl) (by kernel_rfl) (fun _ _ _ h=>by cases h.1) (.inl ⟨rfl,fun _ _=>rfl⟩) HD.out ?_;generalize hKK:wpAnyH _ _ _ _ _ _ _=KK;go_simp;subst hKK;refine wpAnyH_take (i:=8) rfl (by kernel_rfl) (by kernel_rfl) (by kernel_rfl) (fun _ _ _ h=>by cases h.1) (.inl ⟨rfl,fun _ _=>rfl⟩) HD.out ?_;generalize hKK:wpAnyH _ _ _ _ _ _ _=KK;go_simp;subst hKK;clear HD;refine wpAnyH_done (by kernel_rfl) ⟨rfl,hK _ _ ?_⟩ _;go_meet
  case rel=>exact⟨_,_,_,rfl,rfl,HJ2.out⟩
 case rest=>
  obtain⟨g,a,c,rfl,rfl,H1⟩:=hcut;clear H0
  go_wp2_with fail
  refine (H1.out.rp HV.out hn8 (by omega)).mono ?_;rintro e X1 ⟨rfl,vn,ht⟩;have H2:=Hd ht;clear ht H1
  go_upto_region 3 with fail
  go_cut []from 15 to 26 (fun X=>∃(v2:Wv) (g2:Nat),Hid (T1 ((g2,(cms (List.replicate n (false,-1))).toArray,103)::(g,(kz n).toArray,48)::E0) cb gb v2 es B W wb s n k ((k:Int)+1) A (pbn n k) G' X)∧Hid (v2.vt=.slice (some ⟨g2,0,none⟩) n n))
  case first=>
   rename_i hJ hK;refine wp_nrm ?_;refine wp_region_held (S:=fun w'=>w'.cell? ⟨wb,17,none⟩=some (.pointer (some ⟨gb,0,none⟩))) (by kernel_rfl) ?_;change wpAnyH _ _ _ _ _ _ _ _ (World.drew _);have HJ0:=Hd (H2.out.below (Below.refl _ _).drew);have HD:=Hd HJ0.out.gp;clear H2;generalize X1.drew=X0 at HJ0 HD⊢;refine wpAnyH_take (i:=0) rfl (by kernel_rfl) (by kernel_rfl) (by kernel_rfl) (fun _ _ _ h=>by cases h.1) (.inl ⟨rfl,fun _ _=>rfl⟩) HD.out ?_;generalize hKK:wpAnyH _ _ _ _ _ _ _=KK;go_simp;subst hKK;refine wpAnyH_take (i:=1) rfl (by kernel_rfl) (by kernel_rfl) (by kernel_rfl) (fun _ _ _ h=>by cases h.1) (.inl ⟨rfl,fun _ _=>rfl⟩) HD.out ?_;generalize hKK:wpAnyH _ _ _ _ _ _ _=KK;go_simp;subst hKK;refine wpAnyH_take (i:=2) rfl (by kernel_rfl) (by kernel_rfl) (by kernel_rfl) (fun _ _ _ h=>by cases h.1) (.inl ⟨rfl,fun _ _=>rfl⟩) HD.out ?_;generalize hKK:wpAnyH _ _ _ _ _ _ _=KK;go_simp;subst hKK;refine wpAnyH_take (i:=3) rfl (by kernel_rfl) (by kernel_rfl) (by kernel_rfl) (fun _ _ _ h=>by cases h.1) (.inl ⟨rfl,fun _ _=>rfl⟩) HD.out ?_;generalize hKK:wpAnyH _ _ _ _ _ _ _=KK;go_simp;subst hKK;refine wpAnyH_take (i:=4) (v:=(.pointer (some ⟨gb,0,none⟩))) rfl (by kernel_rfl) (by kernel_rfl) (by kernel_rfl) (fun _ _ _ h=>by cases h.1) (.inl ⟨rfl,fun w hw=>run_loadGG _ rfl rfl hw⟩) HD.out ?_;generalize hKK:wpAnyH _ _ _ _ _ _ _=KK;go_simp;subst hKK;refine wpAnyH_take (i:=5) rfl (by kernel_rfl) (by kernel_rfl) (by kernel_rfl) (fun _ _ _ h=>by cases h.1) (.inl ⟨rfl,fun _ _=>rfl⟩) HD.out ?_;generalize hKK:wpAnyH _ _ _ _ _ _ _=KK;go_simp;subst hKK;refine wpAnyH_take (i:=6) rfl (by kernel_rfl) (by kernel_rfl) (by kernel_rfl) (fun _ _ _ h=>by cases h.1) (.inl ⟨rfl,fun _ _=>rfl⟩) HD.out ?_;generalize hKK:wpAnyH _ _ _ _ _ _ _=KK;go_simp;subst hKK;refine wpAnyH_take (i:=7) rfl (by kernel_rfl) (by kernel_rfl) (by kernel_rfl) (fun _ _ _ h=>by cases h.1) (.inl ⟨rfl,fun _ _=>rfl⟩) HD.out ?_;generalize hKK:wpAnyH _ _ _ _ _ _ _=KK;go_simp;subst hKK;clear HD;refine wpAnyH_all (rs:=[8]) (by kernel_rfl) (by simp) (fun ii hii=> ?_);obtain rfl:ii=8:=by simpa using hii
   clear hii;refine wpOp_call (f:=42) (args:= #[.pointer (some ⟨wb,14,none⟩)]) rfl rfl (by go_simp) (HJ0.out.cm HA.out hn8 (by omega) (by omega)) ?_;rintro e X2 ⟨u,rfl,ht⟩;have HJ1:=Hd ht;clear ht HJ0;refine⟨_,rfl,HJ1.out.gp,?_⟩;generalize hKK:wpAnyH _ _ _ _ _ _ _=KK;go_simp;subst hKK;refine wpAnyH_all (rs:=[9]) (by kernel_rfl) (by simp) (fun ii hii=> ?_);obtain rfl:ii=9:=by simpa using hii
   clear hii;refine wpOp_call (f:=41) (args:= #[.pointer (some ⟨gb,0,none⟩),u]) rfl rfl (by go_simp) (HJ1.out.tk HBE.out (by omega) HBL.out HE.out HN.out) ?_;rintro e X3 ⟨g2,rfl,ht⟩;rw[HT.out,HGG.out]at ht;have HJ2:=Hd ht;clear ht HJ1;refine⟨_,rfl,HJ2.out.gp,?_⟩;generalize hKK:wpAnyH _ _ _ _ _ _ _=KK;go_simp;subst hKK;have HD:=Hd HJ2.out.gp;refine wpAnyH_take (i:=10) rfl (by kernel_rfl) (by kernel_rfl) (by kernel_rfl) (fun _ _ _ h=>by cases h.1) (.inl ⟨rfl,fun _ _=>rfl⟩) HD.out ?_;generalize hKK:wpAnyH _ _ _ _ _ _ _=KK;go_simp;subst hKK;refine wpAnyH_take (i:=11) rfl (by kernel_rfl) (by kernel_rfl) (by kernel_rfl) (fun _ _ _ h=>by cases h.1) (.inl ⟨rfl,fun _ _=>rfl⟩) HD.out ?_;generalize hKK:wpAnyH _ _ _ _ _ _ _=KK;go_simp;subst hKK;clear HD;refine wpAnyH_all (rs:=[12]) (by kernel_rfl) (by simp) (fun ii hii=> ?_);obtain rfl:ii=12:=by simpa using hii
   clear hii;refine wpOp_storeTT rfl rfl _ _ rfl rfl rfl (HJ2.out.wo.cell 18) (HJ2.out.wo.fr 18) ?_;have HJ3:=Hd (HJ2.out.set 18 (.slice (some ⟨g2,0,none⟩) n n) (v':={{v with vn:=vn}with vt:=.slice (some ⟨g2,0,none⟩) n n}) rfl rfl rfl rfl);clear HJ2;refine⟨HJ3.out.gp,?_⟩;generalize hKK:wpAnyH _ _ _ _ _ _ _=KK;go_simp;subst hKK;refine wpAnyH_done (by kernel_rfl) ⟨rfl,hK _ _ ?_⟩ _;go_meet
   case rel=>exact⟨_,g2,HJ3.out,rfl⟩
  case rest=>
   obtain⟨v2,g2,H3,HVT⟩:=hcut;clear H2 HA HBE HBL HE HT HGG HV HN HL;have c13:=H3.out.wo.cars
   go_wp2_with fail
   clear c13
   go_loopw [32] (fun iv wr=>∃i:Nat,i≤n∧iv=.int .i64 (i:Int)∧Hid (T1 ((g2,(cms (List.replicate n (false,-1))).toArray,103)::(g,(kz n).toArray,48)::E0) cb gb v2 es B W wb s n k ((k:Int)+1) A (pbn n k) G' wr)) (fun iv _=>n-(intOf iv).toNat)
   case atStart=>exact⟨0,Nat.zero_le _,rfl,H3⟩
   case round=>
    clear H3;obtain⟨i,hi,rfl,HL1⟩:=hrel;by_cases hlt:i<n
    ·have hz:(i:Int)<(n:Int):=by omega
     have hixM:∀W:World,(Instr.indexAt 60 (.slice (some ⟨cb,0,none⟩) n n) (.int .i64 (i:Int))).run Tryz.prog W=.ok (.pointer (some ⟨cb,i*11,none⟩)) W:=fun W=>ixWm W hlt;have hixC:∀W:World,(Instr.indexAt 65 (.slice (some ⟨g2,0,none⟩) n n) (.int .i64 (i:Int))).run Tryz.prog W=.ok (.pointer (some ⟨g2,i*2,none⟩)) W:=fun W=>ixCw W hlt;have HC1:Hid (∀w',Below wr.heap.size wr w'→w'.cell? ⟨wb,13,none⟩=some (.slice (some ⟨cb,0,none⟩) n n)):=fun w' hw=>(HL1.out.below hw).wo.cars;have HC2:Hid (∀w',Below wr.heap.size wr w'→w'.rangeAt wb 0 (sv s)):=fun w' hw=>(HL1.out.below hw).wo.site;have HC3:Hid (∀w',Below wr.heap.size wr w'→w'.cell? ⟨wb,18,none⟩=some (.slice (some ⟨g2,0,none⟩) n n)):=fun w' hw=>by rw[←HVT.out];exact(HL1.out.below hw).wo.cell 18
     have HC4:Hid (∀w',Below wr.heap.size wr w'→w'.rangeAt g2 (i*2) [.bool false,.int .i64 (-1)]):=fun w' hw j u hu=>by
      have h1:=(HL1.out.below hw).get (x:=(g2,(cms (List.replicate n (false,-1))).toArray,103)) (by simp);have h2:=cms_get (l:=List.replicate n (false,(-1:Int))) (i:=i) (a:=(false,-1)) (by simp[hlt]);have h3:w'.cell? ⟨g2,i*2+j,none⟩=(cms (List.replicate n (false,(-1:Int))))[i*2+j]?:=by simp[World.cell?,h1]
      rw[h3];rcases j with _|_|j
      ·rw[Nat.add_zero,h2.1];exact hu
      ·rw[h2.2];exact hu
      ·simp at hu
     have HC5:Hid (∀w',Below wr.heap.size wr w'→MR w' cb n):=fun w' hw=>(HL1.out.below hw).mr
     go_upto_region 7 with fail
     refine wp_region_quiet (C:=fun w'=>Below wr.heap.size wr w') (by kernel_rfl) (by kernel_rfl) ((Below.refl _ _).drew) ?_;simp only[]
     iterate 3 (unfold wpQuiet;generalize hK:wpQuiet _ _ _ _ _=K;go_simp;refine⟨_,fun _ _=>rfl,?_⟩;subst hK)
     unfold wpQuiet;generalize hK:wpQuiet _ _ _ _ _=K;rw[if_pos (by go_simp)];refine quiet_loadMs _ _ _ rfl rfl HC1.out ?_;go_simp;subst hK
     iterate 5 (unfold wpQuiet;generalize hK:wpQuiet _ _ _ _ _=K;go_simp;refine⟨_,fun _ _=>rfl,?_⟩;subst hK)
     unfold wpQuiet;generalize hK:wpQuiet _ _ _ _ _=K;rw[if_pos (by go_simp)];refine quiet_mid 23 _ _ _ (sv s) Tryz.underlying23 rfl infoSw rfl rfl HC2.out ?_;go_simp;subst hK
     iterate 3 (unfold wpQuiet;generalize hK:wpQuiet _ _ _ _ _=K;go_simp;refine⟨_,fun _ _=>rfl,?_⟩;subst hK)
     unfold wpQuiet;generalize hK:wpQuiet _ _ _ _ _=K;rw[if_pos (by go_simp)];refine quiet_loadTT _ _ _ rfl rfl HC3.out ?_;go_simp;subst hK
     iterate 2 (unfold wpQuiet;generalize hK:wpQuiet _ _ _ _ _=K;go_simp;refine⟨_,fun _ _=>rfl,?_⟩;subst hK)
     unfold wpQuiet;generalize hK:wpQuiet _ _ _ _ _=K;rw[if_pos (by go_simp)];refine quiet_mid 103 _ _ _ [.bool false,.int .i64 (-1)] Tryz.underlying103 rfl infoCmd rfl rfl HC4.out ?_;go_simp;subst hK;unfold wpQuiet;generalize hK:wpQuiet _ _ _ _ _=K;go_simp;refine⟨_,fun w' hw=>((mstep_any (HC5.out w' hw) hlt s).mono fun _ _ hh=>And.intro hh.1 hh.2.2).mono fun e w'' hh=>⟨hh.1,below_class hw hh.2⟩,?_⟩;subst hK;refine wpQuiet_nil ?_;intro W7 hb7;have HL7:=Hd (HL1.out.below hb7);clear hb7 HC1 HC2 HC3 HC4 HC5 HL1;go_wp2;go_roundw
     case rel=>exact⟨i+1,hlt,by go_num,HL7⟩
     case measure=>simp[intOf];omega
    ·have hz:¬(i:Int)<(n:Int):=by omega
     go_upto_region 9 with fail
     refine wp_nrm ?_;refine wp_region_held (S:=fun w'=>w'.cell? ⟨wb,17,none⟩=some (.pointer (some ⟨gb,0,none⟩))∧w'.rangeAt wb 0 (sv s)) (by kernel_rfl) ?_;change wpAnyH _ _ _ _ _ _ _ _ (World.drew _);have HJ0:=Hd (HL1.out.below (Below.refl _ _).drew);have HD:=Hd (And.intro HJ0.out.gp HJ0.out.wo.site);clear HL1;generalize wr.drew=X0 at HJ0 HD⊢;refine wpAnyH_take (i:=0) rfl (by kernel_rfl) (by kernel_rfl) (by kernel_rfl) (fun _ _ _ h=>by cases h.1) (.inl ⟨rfl,fun _ _=>rfl⟩) HD.out ?_;generalize hKK:wpAnyH _ _ _ _ _ _ _=KK;go_simp;subst hKK;refine wpAnyH_take (i:=1) rfl (by kernel_rfl) (by kernel_rfl) (by kernel_rfl) (fun _ _ _ h=>by cases h.1) (.inl ⟨rfl,fun _ _=>rfl⟩) HD.out ?_;generalize hKK:wpAnyH _ _ _ _ _ _ _=KK;go_simp;subst hKK;refine wpAnyH_take (i:=2) rfl (by kernel_rfl) (by kernel_rfl) (by kernel_rfl) (fun _ _ _ h=>by cases h.1) (.inl ⟨rfl,fun _ _=>rfl⟩) HD.out ?_;generalize hKK:wpAnyH _ _ _ _ _ _ _=KK;go_simp;subst hKK;refine wpAnyH_take (i:=3) rfl (by kernel_rfl) (by kernel_rfl) (by kernel_rfl) (fun _ _ _ h=>by cases h.1) (.inl ⟨rfl,fun _ _=>rfl⟩) HD.out ?_;generalize hKK:wpAnyH _ _ _ _ _ _ _=KK;go_simp;subst hKK;refine wpAnyH_take (i:=4) (v:=(.agg (sv s).toArray)) rfl (by kernel_rfl) (by kernel_rfl) (by kernel_rfl) (fun _ _ _ h=>by cases h.1) (.inl ⟨rfl,fun w hw=>run_load23w _ rfl rfl hw.2⟩) HD.out ?_;generalize hKK:wpAnyH _ _ _ _ _ _ _=KK;go_simp;subst hKK;refine wpAnyH_take (i:=5) rfl (by kernel_rfl) (by kernel_rfl) (by kernel_rfl) (fun _ _ _ h=>by cases h.1) (.inl ⟨rfl,fun _ _=>rfl⟩) HD.out ?_;generalize hKK:wpAnyH _ _ _ _ _ _ _=KK;go_simp;subst hKK;refine wpAnyH_take (i:=6) rfl (by kernel_rfl) (by kernel_rfl) (by kernel_rfl) (fun _ _ _ h=>by cases h.1) (.inl ⟨rfl,fun _ _=>rfl⟩) HD.out ?_;generalize hKK:wpAnyH _ _ _ _ _ _ _=KK;go_simp;subst hKK;refine wpAnyH_take (i:=8) rfl (by kernel_rfl) (by kernel_rfl) (by kernel_rfl) (fun _ _ _ h=>by cases h.1) (.inl ⟨rfl,fun _ _=>rfl⟩) HD.out ?_;generalize hKK:wpAnyH _ _ _ _ _ _ _=KK;go_simp;subst hKK;refine wpAnyH_take (i:=9) rfl (by kernel_rfl) (by kernel_rfl) (by kernel_rfl) (fun _ _ _ h=>by cases h.1) (.inl ⟨rfl,fun _ _=>rfl⟩) HD.out ?_;generalize hKK:wpAnyH _ _ _ _ _ _ _=KK;go_simp;subst hKK;refine wpAnyH_take (i:=10) rfl (by kernel_rfl) (by kernel_rfl) (by kernel_rfl) (fun _ _ _ h=>by cases h.1) (.inl ⟨rfl,fun _ _=>rfl⟩) HD.out ?_;generalize hKK:wpAnyH _ _ _ _ _ _ _=KK;go_simp;subst hKK;refine wpAnyH_take (i:=11) rfl (by kernel_rfl) (by kernel_rfl) (by kernel_rfl) (fun _ _ _ h=>by cases h.1) (.inl ⟨rfl,fun _ _=>rfl⟩) HD.out ?_;generalize hKK:wpAnyH _ _ _ _ _ _ _=KK;go_simp;subst hKK;refine wpAnyH_take (i:=12) (v:=(.pointer (some ⟨gb,0,none⟩))) rfl (by kernel_rfl) (by kernel_rfl) (by kernel_rfl) (fun _ _ _ h=>by cases h.1) (.inl ⟨rfl,fun w hw=>run_loadGG _ rfl rfl hw.1⟩) HD.out ?_;generalize hKK:wpAnyH _ _ _ _ _ _ _=KK;go_simp;subst hKK;refine wpAnyH_take (i:=14) rfl (by kernel_rfl) (by kernel_rfl) (by kernel_rfl) (fun _ _ _ h=>by cases h.1) (.inl ⟨rfl,fun _ _=>rfl⟩) HD.out ?_;generalize hKK:wpAnyH _ _ _ _ _ _ _=KK;go_simp;subst hKK;refine wpAnyH_take (i:=15) rfl (by kernel_rfl) (by kernel_rfl) (by kernel_rfl) (fun _ _ _ h=>by cases h.1) (.inl ⟨rfl,fun _ _=>rfl⟩) HD.out ?_;generalize hKK:wpAnyH _ _ _ _ _ _ _=KK;go_simp;subst hKK;refine wpAnyH_take (i:=16) rfl (by kernel_rfl) (by kernel_rfl) (by kernel_rfl) (fun _ _ _ h=>by cases h.1) (.inl ⟨rfl,fun _ _=>rfl⟩) HD.out ?_;generalize hKK:wpAnyH _ _ _ _ _ _ _=KK;go_simp;subst hKK;refine wpAnyH_take (i:=17) (v:=(.pointer (some ⟨gb,0,none⟩))) rfl (by kernel_rfl) (by kernel_rfl) (by kernel_rfl) (fun _ _ _ h=>by cases h.1) (.inl ⟨rfl,fun w hw=>run_loadGG _ rfl rfl hw.1⟩) HD.out ?_;generalize hKK:wpAnyH _ _ _ _ _ _ _=KK;go_simp;subst hKK;clear HD;refine wpAnyH_all (rs:=[7]) (by kernel_rfl) (by simp) (fun ii hii=> ?_);obtain rfl:ii=7:=by simpa using hii
     clear hii;refine wpOp_call (f:=14) (args:= #[.pointer (some ⟨wb,0,none⟩)]) rfl rfl (by go_simp) (HJ0.out.wc hn8) ?_;rintro e X1 ⟨g3,rfl,ht⟩;have HJ1:=Hd ht;clear ht HJ0;refine⟨_,rfl,⟨HJ1.out.gp,HJ1.out.wo.site⟩,?_⟩;generalize hKK:wpAnyH _ _ _ _ _ _ _=KK;go_simp;subst hKK;refine wpAnyH_all (rs:=[13]) (by kernel_rfl) (by simp) (fun ii hii=> ?_);obtain rfl:ii=13:=by simpa using hii
     clear hii;refine wpOp_call (f:=12) (args:= #[.pointer (some ⟨gb,0,none⟩)]) rfl rfl (by go_simp) (HJ1.out.cc HL2.out) ?_;rintro e X2 ⟨a4,c4,rfl,ht⟩;have HJ2:=Hd ht;clear ht HJ1;refine⟨_,rfl,⟨HJ2.out.gp,HJ2.out.wo.site⟩,?_⟩;generalize hKK:wpAnyH _ _ _ _ _ _ _=KK;go_simp;subst hKK;refine wpAnyH_all (rs:=[18]) (by kernel_rfl) (by simp) (fun ii hii=> ?_);obtain rfl:ii=18:=by simpa using hii
     clear hii;refine wpOp_call (f:=45) (args:= #[.pointer (some ⟨gb,0,none⟩)]) rfl rfl (by go_simp) (HJ2.out.rc HR2.out) ?_;rintro e X3 ⟨rfl,ht⟩;have HJ3:=Hd ht;clear ht HJ2;refine⟨_,rfl,⟨HJ3.out.gp,HJ3.out.wo.site⟩,?_⟩;generalize hKK:wpAnyH _ _ _ _ _ _ _=KK;go_simp;subst hKK;refine wpAnyH_all (rs:=[19]) (by kernel_rfl) (by simp) (fun ii hii=> ?_);obtain rfl:ii=19:=by simpa using hii
     clear hii;refine wpOp_call (f:=44) (args:= #[.agg (sv s).toArray,.slice (some ⟨g,0,none⟩) n n,.slice (some ⟨g3,0,none⟩) n n,.slice a 0 c,.slice a4 0 c4,.bool false]) rfl rfl (by go_simp) (zstick_any HS.out HNS.out (HJ3.out.get (x:=(g,(kz n).toArray,48)) (by simp)) (HJ3.out.get (x:=(g3,(kz n).toArray,48)) (by simp)) a a4 c c4) ?_;rintro e X4 ⟨rfl,hb⟩;have HJ4:=Hd (HJ3.out.below hb);clear hb HJ3;refine⟨_,rfl,⟨HJ4.out.gp,HJ4.out.wo.site⟩,?_⟩;generalize hKK:wpAnyH _ _ _ _ _ _ _=KK;go_simp;subst hKK;have HD:Hid (_∧_):=⟨HJ4.out.gp,HJ4.out.wo.site⟩;refine wpAnyH_take (i:=20) rfl (by kernel_rfl) (by kernel_rfl) (by kernel_rfl) (fun _ _ _ h=>by cases h.1) (.inl ⟨rfl,fun _ _=>rfl⟩) HD.out ?_;generalize hKK:wpAnyH _ _ _ _ _ _ _=KK;go_simp;subst hKK;refine wpAnyH_take (i:=21) rfl (by kernel_rfl) (by kernel_rfl) (by kernel_rfl) (fun _ _ _ h=>by cases h.1) (.inl ⟨rfl,fun _ _=>rfl⟩) HD.out ?_;generalize hKK:wpAnyH _ _ _ _ _ _ _=KK;go_simp;subst hKK;clear HD;refine wpAnyH_all (rs:=[22]) (by kernel_rfl) (by simp) (fun ii hii=> ?_);obtain rfl:ii=22:=by simpa using hii
     clear hii;refine wpOp_storeFI rfl rfl _ _ rfl rfl rfl (HJ4.out.wo.cell 19) (HJ4.out.wo.fr 19) ?_;have HJ5:=Hd (HJ4.out.set 19 (.slice none 0 0) (v':={v2 with vf:=.slice none 0 0}) rfl rfl rfl rfl);clear HJ4;refine⟨⟨HJ5.out.gp,HJ5.out.wo.site⟩,?_⟩;generalize hKK:wpAnyH _ _ _ _ _ _ _=KK;go_simp;subst hKK;refine wpAnyH_done (by kernel_rfl) ⟨rfl,?_⟩ _;go_wp2;refine leaves_cons (f:=39) (args:= #[.pointer (some ⟨wb,0,none⟩)]) (by simp) (by simp[go_sem]) ?_;refine (HJ5.out.st hn8 (by omega) .returning).mono ?_;rintro e u' w'' ⟨rfl,rfl,h5⟩;exact⟨_,results_none rfl _ _ _,rfl,WE.sub h5.1 (fun x hx=>by simp[hx]),h5.2⟩
end
section
variable {cb gb B wb n k:Nat} {W:World} {s:St} {A:List Int} {G:Gs} {E:List (Nat×Array Value×TypeId)}
theorem ens_app(L M:List FF.Fr):FF.FC.ens (L++M)=FF.FC.ens L++FF.FC.ens M:=by unfold FF.FC.ens;rw[List.flatMap_append]
theorem ens_ags(n:Nat):∀A:List Int,FF.FC.ens (GM.ags n (A.map fun z=>z.toNat+1))=A.flatMap fun z=>pbn n z.toNat
 |[]=>rfl
 |z::A=>by
  have e:GM.ags n ((z::A).map fun z=>z.toNat+1)=GM.rps n ((z.toNat+1:Nat):Int)++GM.ags n (A.map fun z=>z.toNat+1):=by simp[GM.ags]
  rw[e,ens_app,ens_ags n A,List.flatMap_cons]
  rfl
theorem cmb_eq(n k:Nat)(A:List Int):A.flatMap (fun z=>pbn n z.toNat)++pbn n k=GM.cmb n (A.map fun z=>z.toNat+1) (k+1):=by
 unfold GM.cmb;rw[ens_app,ens_ags]
 rfl
theorem cmb_len(n:Nat)(A:List Nat)(q:Nat):(GM.cmb n A q).length=10*n*(A.length+1):=by
 unfold GM.cmb;rw[FF.FC.ens_length,List.length_append];have h1:∀q:Int,(GM.rps n q).length=n:=fun q=>by unfold GM.rps;rw[List.length_map,List.length_range]
 have h2:(GM.ags n A).length=n*A.length:=by
  unfold GM.ags
  induction A with
  |nil=>rfl
  |cons a A ih=>rw[List.flatMap_cons,List.length_append,ih,h1,List.length_cons,Nat.mul_add];omega
 rw[h1,h2,Nat.mul_assoc,Nat.mul_add_one,Nat.mul_add]
structure WQ(E:List (Nat×Array Value×TypeId))(cb gb B:Nat)(W:World)(wb:Nat)(s:St)(n k:Nat)(A:List Int)(G:Gs):Prop where
 e:WE E cb gb B W wb s n k (k:Int) A G
 q:GM.Qg n k G
 st:G.st=s
 r:rightB s=true
 n:(n:Int)=s.ca
def wtg(n k:Nat)(A:List Int)(G:Gs):Gs:=(GM.tck G (GM.cmb n (A.map fun z=>z.toNat+1) (k+1))).2
def WN(n:Nat)(A:List Int)(G:Gs):Prop:=G.N=GM.nts n (A.map fun z=>z.toNat+1)∨G.N=GM.nts n (A.map fun z=>z.toNat+1)++[(5,0)]
theorem wtick_q(h:WQ E cb gb B W wb s n k A G)(hk:k≤99)(hA:∀z∈A,0≤z∧z.toNat<k)(hl:A.length≤30):
  Calls Tryz.prog 29 #[.pointer (some ⟨wb,0,none⟩)] W fun e w'=>e=.returned (.tuple #[])∧WQ E cb gb B w' wb s n (k+1) [] (wtg n k A G)∧Below B W w'∧WN n A (wtg n k A G)∧(G.pi=0→(wtg n k A G).N=GM.nts n (A.map fun z=>z.toNat+1)++[(5,0)]):=by
 obtain⟨⟩:=(rightB_iff s).1 h.r;have hn:=h.n;have h8:n≤8:=by omega
 have hq:GQ (k:Int) G:=let⟨_,_,_,h1,_⟩:=h.e;h1.g.q
 have hlen:(GM.cmb n (A.map fun z=>z.toNat+1) (k+1)).length≤2900:=by
  rw[cmb_len,List.length_map];have:10*n*(A.length+1)≤80*31:=Nat.mul_le_mul (by omega) (by omega);omega
 have hA':∀q∈A.map (fun z=>z.toNat+1),1≤q∧q≤k:=fun q hq=>by
  obtain⟨z,hz,rfl⟩:=List.mem_map.1 hq;have:=hA z hz;omega
 have hbs:FF.FC.Bs (GM.cmb n (A.map fun z=>z.toNat+1) (k+1)):=by
  unfold GM.cmb;refine FF.FC.ens_Bs fun f hf=> ?_;rcases List.mem_append.1 hf with hf|hf
  ·exact GM.ags_may h8 (fun q hq=>by have:=hA' q hq;omega) f hf
  ·exact GM.rps_may h8 (by omega) (by omega) f hf
 have hr:=snp_rgt (hq.tk3 (by omega) hbs hlen).1.go;have hf:0<G.st.fl:=by rw[h.st];omega
 have h3:=GM.tk3_Q h.q h8 hf (by omega) hA';obtain⟨t1,t2,t3,t4,t5⟩:=GM.tck_q h.q hr (by rw[h.st];omega) h8 hf (by omega) hA';refine (wtick_any h.e h.q.L h8 (by omega) h.r hn h.st hA hl (cmb_eq n k A) hlen h3.L t1 rfl t2.L t2.rc).mono fun e w' ⟨he,hw,hb⟩=>⟨he,⟨hw,t2,t5.trans h.st,h.r,hn⟩,hb,t3,t4⟩
end
end Go.Proofs.YtlajleogofmkcaaGreat
