import Derived.Test.YtlajleogofmkcaaGreatQ19
import Derived.Deep.DeepCutAuto
import Derived.Deep.CutBlock
set_option maxHeartbeats 8000000
set_option maxRecDepth 100000
namespace Go.Proofs.YtlajleogofmkcaaGreat
open Go.RowKit
structure MO(F n:Int)(m:Mb):Prop where
 lk:LL.LM.Ok m.lk n
 f0:0≤m.fl
 f1:m.fl<F
 g0:0≤m.tg
 g1:m.tg<F
 ll:m.ls.length≤128
structure GO(n:Int)(G:Gs):Prop where
 rt:SM.Rt G.st
 ml:(G.M.length:Int)=G.st.ca
 gd:CC.KM.Gd G.st.fl G.st.ca n G.L
 mo:∀m∈G.M,MO G.st.fl n m
 n0:0≤n
 n1:n≤1000
section
variable {n:Int} {G:Gs} {f:FF.Fr} {i:Nat} {m:Mb}
theorem GO.setM(h:GO n G)(hm:MO G.st.fl n m):GO n {G with M:=G.M.set i m}:=⟨h.rt,by simpa using h.ml,h.gd,fun x hx=>(List.mem_or_eq_of_mem_set hx).elim (h.mo x) (fun e=>e▸hm),h.n0,h.n1⟩
theorem GO.tke(h:GO n G)(hf:FF.FC.May f):GO n (GM.tke G f).2:=by
 unfold GM.tke;split
 ·unfold GM.rep;split
  ·exact h
  ·rename_i m hm;split
   ·exact h
   ·rename_i q;have h1:=h.mo m (List.mem_of_getElem? hm);refine h.setM ?_;unfold GM.rpm;split
    ·exact⟨h1.lk.tk _ h.n0,hf.a1,by show f.a<_;omega,hf.b1,by show f.b<_;omega,h1.ll⟩
    ·exact h1
 ·split
  ·exact⟨h.rt,h.ml,h.gd.put h.n0 _ _,h.mo,h.n0,h.n1⟩
  ·split
   ·unfold GM.trn;split
    ·exact⟨h.rt,h.ml,h.gd,h.mo,h.n0,h.n1⟩
    ·split
     ·split
      ·exact h
      ·rename_i m hm;have h1:=h.mo m (List.mem_of_getElem? hm);exact h.setM ⟨h1.lk,h1.f0,h1.f1,h1.g0,h1.g1,h1.ll⟩
     ·split
      ·exact⟨h.rt,h.ml,h.gd,h.mo,h.n0,h.n1⟩
      ·exact h
   ·exact h
theorem GO.nte(h:GO n G)(a b:Int):GO n (GM.nte G a b):=⟨h.rt,h.ml,h.gd,h.mo,h.n0,h.n1⟩
theorem GO.fra(h:GO n G)(hf:FF.FC.May f):GO n (GM.fra G f):=by
 unfold GM.fra;have h1:=h.tke hf;simp only;split
 ·exact h1
 ·split
  ·exact h1.nte _ _
  ·split
   ·exact h1.nte _ _
   ·exact h1.nte _ _
theorem tke_N:(GM.tke G f).2.N=G.N:=by
 unfold GM.tke GM.rep GM.prs GM.trn
 (repeat' split)<;>rfl
theorem fra_N:(GM.fra G f).N.length≤G.N.length+1:=by
 unfold GM.fra;simp only
 (repeat' split)<;>simp[GM.nte,tke_N]
end
section
variable {W W' W2:World} {ow ow':Nat→Nat} {B:Nat} {C:Gc} {V V':Gv} {G G' G2:Gs} {m m':Mb} {i:Nat} {n:Int}
theorem Ga.up{A:World}(hb:Below A.heap.size A W)(h:Ga W ow B C G' W'):Ga A ow B C G' W':=by
 obtain⟨o,V,h1,h2,h3⟩:=h;exact⟨o,V,h1,fun b hl=>h2 b (Nat.lt_of_lt_of_le hl hb.size),(Kp.ofBelow _ hb).trans h3 fun _ _ h=>h⟩
theorem gtake_any(h:GX al W ow B C V G)(f:FF.Fr)(hf0:FF.FC.May f)(ho:GO n G):
  Calls Tryz.prog 74 #[.pointer (some ⟨C.gb,0,none⟩),.agg #[.int .i64 f.ki,.int .i64 f.ca,.int .i64 f.sq,.int .i64 f.a,.int .i64 f.b,.int .i64 f.c]] W fun e w'=>e=.returned (.int .i64 (GM.tke G f).1)∧Ga W ow B C (GM.tke G f).2 w':=by
 have hb:=(Below.refl W.heap.size W).alloc (Nat.le_refl _) (.cells #[.int .i64 f.ki,.int .i64 f.ca,.int .i64 f.sq,.int .i64 f.a,.int .i64 f.b,.int .i64 f.c] 73);have h1:=h.below' hb;have hf:=FB.new' W f;have f0:(W.alloc (.cells #[.int .i64 f.ki,.int .i64 f.ca,.int .i64 f.sq,.int .i64 f.a,.int .i64 f.b,.int .i64 f.c] 73)).cell? ⟨W.heap.size,0,none⟩=some (.int .i64 f.ki):=hf.range 0 _ rfl;have f1:(W.alloc (.cells #[.int .i64 f.ki,.int .i64 f.ca,.int .i64 f.sq,.int .i64 f.a,.int .i64 f.b,.int .i64 f.c] 73)).cell? ⟨W.heap.size,1,none⟩=some (.int .i64 f.ca):=hf.range 1 _ rfl;have f2:(W.alloc (.cells #[.int .i64 f.ki,.int .i64 f.ca,.int .i64 f.sq,.int .i64 f.a,.int .i64 f.b,.int .i64 f.c] 73)).cell? ⟨W.heap.size,2,none⟩=some (.int .i64 f.sq):=hf.range 2 _ rfl;have f3:(W.alloc (.cells #[.int .i64 f.ki,.int .i64 f.ca,.int .i64 f.sq,.int .i64 f.a,.int .i64 f.b,.int .i64 f.c] 73)).cell? ⟨W.heap.size,3,none⟩=some (.int .i64 f.a):=hf.range 3 _ rfl;have f4:(W.alloc (.cells #[.int .i64 f.ki,.int .i64 f.ca,.int .i64 f.sq,.int .i64 f.a,.int .i64 f.b,.int .i64 f.c] 73)).cell? ⟨W.heap.size,4,none⟩=some (.int .i64 f.b):=hf.range 4 _ rfl;have f5:(W.alloc (.cells #[.int .i64 f.ki,.int .i64 f.ca,.int .i64 f.sq,.int .i64 f.a,.int .i64 f.b,.int .i64 f.c] 73)).cell? ⟨W.heap.size,5,none⟩=some (.int .i64 f.c):=hf.range 5 _ rfl;have HB:=Hd hb;have HH:=Hd h;have HR:=Hd (report_any h1 f hf0);have HP:=Hd (press_any h1 f ho.rt ho.gd.len);have HT:=Hd (turn_any h1 f hf0.ca1);obtain⟨r,HE⟩:∃r,Hid (GM.tke G f=r):=⟨_,Hd rfl⟩;rw[HE.out];clear h h1 hb hf
 go_enter Tryz.func74,Tryz.ntmps74
 by_cases q1:f.ki=1
 ·have d1:(f.ki==1)=true:=by simpa using q1
  have HX:Hid (GM.rep G f=r):=by show _=_;rw[←HE.out];unfold GM.tke;rw[if_pos q1]
  clear q1
  go_wp2_with fail
  refine HR.out.mono ?_;rintro e W1 ⟨rfl,hg⟩;have HG:=Hd (Ga.up HB.out hg);clear hg HR HP HT;rw[HX.out]at HG⊢;go_wp2;go_ret;exact⟨rfl,HG.out⟩
 ·have d1:(f.ki==1)=false:=by simpa using q1
  by_cases q2:f.ki=2
  ·have d2:(f.ki==2)=true:=by simpa using q2
   have HX:Hid (GM.prs G f=r):=by show _=_;rw[←HE.out];unfold GM.tke;rw[if_neg q1,if_pos q2]
   clear q1 q2
   go_wp2_with fail
   refine HP.out.mono ?_;rintro e W1 ⟨rfl,hg⟩;have HG:=Hd (Ga.up HB.out hg);clear hg HR HP HT;rw[HX.out]at HG⊢;go_wp2;go_ret;exact⟨rfl,HG.out⟩
  ·have d2:(f.ki==2)=false:=by simpa using q2
   have q3:f.ki=3:=by have:=hf0.ki1;have:=hf0.ki2;omega
   have d3:(f.ki==3)=true:=by simpa using q3
   have HX:Hid (GM.trn G f=r):=by show _=_;rw[←HE.out];unfold GM.tke;rw[if_neg q1,if_neg q2,if_pos q3]
   clear q1 q2 q3
   go_wp2_with fail
   refine HT.out.mono ?_;rintro e W1 ⟨rfl,hg⟩;have HG:=Hd (Ga.up HB.out hg);clear hg HR HP HT;rw[HX.out]at HG⊢;go_wp2;go_ret;exact⟨rfl,HG.out⟩
end
theorem df_may{l:List Nat}(h:FF.FC.Bs l)(k:FF.FC.de l=0):FF.FC.May (FF.FC.df l):=by
 have g2:=FF.FC.g_lt h 2;have g3:=FF.FC.g_lt h 3;have g4:=FF.FC.g_lt h 4;have g5:=FF.FC.g_lt h 5;have g6:=FF.FC.g_lt h 6;have g7:=FF.FC.g_lt h 7;unfold FF.FC.df;rw[if_pos k];unfold FF.FC.de at k;split at k
 ·split at k
  ·split at k
   ·rename_i h1;unfold FF.FC.dr;constructor<;>simp only<;>omega
   ·omega
  ·omega
 ·omega
theorem fd_may:∀(n:Nat) {l:List Nat},l.length=n→FF.FC.Bs l→∀f∈(FF.FC.fd l).1,FF.FC.May f:=by
 intro n
 induction n using Nat.strongRecOn with
 |_ n ih=>
 intro l hn hb;by_cases h:l.length<10
 ·rw[FF.FC.fd_few h];intro f hf;cases hf
 ·by_cases k:FF.FC.de (l.take 10)=0
  ·rw[FF.FC.fd_yes h k];intro f hf;rcases List.mem_cons.1 hf with rfl|hf
   ·exact df_may (hb.take 10) k
   ·exact ih (l.drop 10).length (by simp only[List.length_drop];omega) rfl (hb.drop 10) f hf
  ·rw[FF.FC.fd_no h k];exact ih (l.drop 1).length (by simp only[List.length_drop];omega) rfl (hb.drop 1)
theorem ixF(W:World){g n cap j:Nat}(hj:j<n):(Instr.indexAt 119 (.slice (some ⟨g,0,none⟩) n cap) (.int .i64 (j:Int))).run Tryz.prog W=.ok (.pointer (some ⟨g,j*6,none⟩)) W:=by
 rw[run_indexAt_slice W 119 _ n cap .i64 j (by kernel_rfl),if_pos ⟨by omega,by omega⟩,show Tryz.prog.elem 119=73 by kernel_rfl,Tryz.sizeOf73];simp only[Result.andThen_ok,Int.toNat_natCast,Addr.add_mid,Nat.zero_add]
theorem wpList_loadFo{ops:Array Oper}{rest:List Oper}{op:Oper}{a:Act}{w:World}{Q:Exit→Act→World→Prop}(hgd:op.guard=none)(x:Operand)(ho:op.op=.load 73 x)
  (b o:Nat) {f:FF.Fr} (hx:a.eval x=.pointer (some ⟨b,o,none⟩)) (H:w.rangeAt b o (FF.fv f))
  (h:wpList Tryz.prog ops Q rest (a.put op.dst (.agg #[.int .i64 f.ki,.int .i64 f.ca,.int .i64 f.sq,.int .i64 f.a,.int .i64 f.b,.int .i64 f.c])) w):wpList Tryz.prog ops Q (op::rest) a w:=
 wpList_plain hgd fun _ hK=>by
  unfold Oper.wp execOp;simp only[ho,Sem.run_bind,Sem.run_pure,Result.andThen_ok,hx,FF.loadF w b o f H];exact hK _ _ h
section
variable {W W' W2:World} {ow ow':Nat→Nat} {B:Nat} {C:Gc} {V V':Gv} {G G' G2:Gs} {m m':Mb} {i:Nat} {n:Int}
def nr(ow:Nat→Nat)(A:World)(v:Value)(t b:Nat):Nat:=if b<A.heap.size then ow b else if v.ownBlock=some b then t else 1000
theorem nr_old{A:World}{v:Value}{t b:Nat}(hb:b<A.heap.size):nr ow A v t b=ow b:=if_pos hb
theorem GX.fed{u':Value}{rest:List Nat}{cs:Array Value}(h:GX al W ow B C V G)(hk:Kp (fun k=>k=C.gb) W W')(hcs:cs=(gcv C V G).toArray)(hg:W'.heap[C.gb]?=some (.cells (cs.setIfInBounds 13 u') 85 (0,0)))(hu:FF.OW W' W.heap.size u' rest):GX al W' (nr ow W u' 4) B C {V with vs:=u'} {G with sc:=rest}:=by
 have hB:=h.hB;have h1:=(h.tag (ow':=nr ow W u' 4) (fun b hb=>nr_old hb) hB).kp (i:=0) hk fun b hb e=>by rw[e,nr_old h.sz.1];exact h.t0
 refine (((h1.mono (T':=fun t=>nx 0 t∧nx 4 t) fun _ x=>x.1).chg (G':={G with sc:=rest}) (V':={V with vs:=u'}) rfl fun t x hp=> ?_).fill (T':=nx 0) 4 ⟨hu.mono hB,fun g hg=> ?_⟩ fun t x=> ?_).fills ?_
 ·match t,x,hp with
  |0,x,_=>exact absurd rfl x.1
  |1,_,hp=>exact hp
  |2,_,hp=>exact hp
  |3,_,hp=>exact hp
  |4,x,_=>exact absurd rfl x.2
  |5,_,hp=>exact hp
  |t+6,_,hp=>exact hp
 ·have:=(hu.lt g hg).1;unfold nr;rw[if_neg (by omega),if_pos hg]
 ·unfold nx at*;omega
 ·exact hg.trans (by rw[hcs];rfl)
theorem rows_apart{t t':TypeId}{B' k k' n n':Nat}{v v':Value}{xs xs':List Value}(h:W.ownsRow B t k v n xs)(h':W.ownsRow B' t' k' v' n' xs')(ht:t≠t'):∀g,v.ownBlock=some g→v'.ownBlock≠some g:=by
 intro g hg hg';rcases h.2 with⟨rfl,_⟩|⟨a,c,cur,rfl,_,h1,_⟩
 ·cases hg
 ·rcases h'.2 with⟨rfl,_⟩|⟨a',c',cur',rfl,_,h1',_⟩
  ·cases hg'
  ·cases hg;cases hg';rw[h1]at h1';cases h1';exact ht rfl
theorem frs_succ{F:List FF.Fr}{j:Nat}{f:FF.Fr}(h:F[j]?=some f):GM.frs G (F.take (j+1))=GM.fra (GM.frs G (F.take j)) f:=by
 unfold GM.frs;rw[List.take_add_one,h,Option.toList_some,List.foldl_append]
 rfl
theorem GO.frs(h:GO n G){F:List FF.Fr}(hF:∀f∈F,FF.FC.May f):GO n (GM.frs G F):=by
 unfold GM.frs
 induction F generalizing G with
 |nil=>exact h
 |cons f F ih=>exact ih (h.fra (hF f (List.mem_cons_self ..))) fun x hx=>hF x (List.mem_cons_of_mem _ hx)
theorem frs_N{F:List FF.Fr}:(GM.frs G F).N.length≤G.N.length+F.length:=by
 unfold GM.frs
 induction F generalizing G with
 |nil=>simp
 |cons f F ih=>have:=@ih (GM.fra G f);have:=@fra_N G f;simp only[List.foldl_cons,List.length_cons];omega
theorem Ga.cons{A:World}(h2:∀b,b<A.heap.size→ow' b=ow b)(h3:Kp (fun b=>ow b<1000) A W)(hg:Ga W ow' B C G2 W2):Ga A ow B C G2 W2:=by
 obtain⟨o2,V2,k1,k2,k3⟩:=hg;exact⟨o2,V2,k1,fun b hb=>(k2 b (Nat.lt_of_lt_of_le hb h3.size)).trans (h2 b hb),h3.trans k3 fun b hb h=>by rw[h2 b hb]at h;exact h⟩
theorem Ga.kp{A:World}(h:Ga A ow B C G W):Kp (fun b=>ow b<1000) A W:=let⟨_,_,_,_,h3⟩:=h;h3
theorem Ga.call{A:World}{fn:Nat}{args:Array Value}{P:Ending→Prop}(h:Ga A ow B C G W)(hb:Below W.heap.size W W2)(k:∀o V,GX al W2 o B C V G→Calls Tryz.prog fn args W2 fun e w'=>P e∧Ga W2 o B C G2 w'):
  Calls Tryz.prog fn args W2 fun e w'=>P e∧Ga A ow B C G2 w'∧∀b,W.heap.size≤b→b<W2.heap.size→w'.heap[b]?=W2.heap[b]?:=by
 obtain⟨o,V,h1,h2,h3⟩:=h;refine (k (nw o W 1000) V ((h1.retag 1000).below' hb)).mono fun _ w' ⟨he,hg⟩=>⟨he,Ga.cons (ow':=nw o W 1000) (fun b hl=>(nw_old (Nat.lt_of_lt_of_le hl h3.size)).trans (h2 b hl)) (h3.thenBelow hb) hg,fun b l1 l2=>hg.kp.block b l2 (by rw[nw_new l1];omega)⟩
theorem Ga.nte{A:World}(h:Ga A ow B C G W)(hb:Below W.heap.size W W2)(k n:Int)(hN:G.N.length≤10000):
  Calls Tryz.prog 73 #[.pointer (some ⟨C.gb,0,none⟩),.int .i64 k,.int .i64 n] W2 fun e w'=>e=.returned (.tuple #[])∧Ga A ow B C (GM.nte G k n) w'∧∀b,W.heap.size≤b→b<W2.heap.size→w'.heap[b]?=W2.heap[b]?:=
 h.call hb fun _ _ h1=>note_any h1 k n hN
theorem Ga.take{A:World}(h:Ga A ow B C G W)(hb:Below W.heap.size W W2)(f:FF.Fr)(hf:FF.FC.May f)(ho:GO n G):
  Calls Tryz.prog 74 #[.pointer (some ⟨C.gb,0,none⟩),.agg #[.int .i64 f.ki,.int .i64 f.ca,.int .i64 f.sq,.int .i64 f.a,.int .i64 f.b,.int .i64 f.c]] W2 fun e w'=>e=.returned (.int .i64 (GM.tke G f).1)∧Ga A ow B C (GM.tke G f).2 w'∧∀b,W.heap.size≤b→b<W2.heap.size→w'.heap[b]?=W2.heap[b]?:=
 h.call hb fun _ _ h1=>gtake_any h1 f hf ho
theorem gread_any(h:GX al W ow B C V G)(v:Value)(b:List Nat)(ho:GO n G)(hv:FF.RD W v b)(hb:b.length≤2900)(hs:FF.FC.Bs G.sc)(hs2:G.sc.length<10)(hN:G.N.length≤1000):
  Calls Tryz.prog 57 #[.pointer (some ⟨C.gb,0,none⟩),v] W fun e w'=>e=.returned (.tuple #[])∧Ga W ow B C (GM.rdb G b) w':=by
 have hg:W.heap[C.gb]?=some (.cells (gcv C V G).toArray 85 (0,0)):=h.pt 0 trivial;have HF:=Hd (FF.feed_at C.gb 13 (gcv C V G).toArray 85 V.vs v G.sc b W hg rfl ((h.pt 4 trivial).1.rd hs) hv (by omega) (by omega));have HM:=Hd (fd_may _ rfl (hs.append hv.bs));have HC:=Hd (FF.FC.fd_count (G.sc++b));have HH:=Hd h;obtain⟨r,HR⟩:∃r,Hid (GM.rdb G b=r):=⟨_,Hd rfl⟩;rw[HR.out];obtain⟨F,hF⟩:∃x,(FF.FC.fd (G.sc++b)).1=x:=⟨_,rfl⟩;obtain⟨j,hj⟩:∃x,(FF.FC.fd (G.sc++b)).2.1=x:=⟨_,rfl⟩;obtain⟨rest,hr⟩:∃x,(FF.FC.fd (G.sc++b)).2.2=x:=⟨_,rfl⟩
 have HE:Hid (GM.frs (if 0<j then GM.nte {G with sc:=rest} 1 j else {G with sc:=rest}) F=r):=by
  show _=_;rw[←HR.out];unfold GM.rdb;simp only[hF,hj,hr]
 rw[hF,hj,hr]at HF;rw[hF]at HM;rw[hF,hj,hr,List.length_append]at HC;clear h hg HR hF hj hr hv
 go_enter Tryz.func57,Tryz.ntmps57
 go_wp2_with fail
 refine HF.out.mono ?_;rintro e W1 ⟨fo,u',rfl,hfo,hgb,hou,hkp⟩;have hG1:=HH.out.fed (kp_ff hkp) rfl hgb hou;have HK1:=Hd ((kp_ff hkp).mono (G:=fun b=>ow b<1000) fun b _ e=>by show ow b<1000;rw[e,HH.out.t0];omega);have HFO:=Hd hfo;obtain⟨ow1,how⟩:∃o,nr ow W u' 4=o:=⟨_,rfl⟩;have HO1:Hid (∀b,b<W.heap.size→ow1 b=ow b):=fun b hb=>by rw[←how];exact nr_old hb
 have HO2:Hid (∀g,fo.ownBlock=some g→¬ow1 g<1000):=fun g hg=>by
  have h1:=(hfo.lt g hg).1;have h2:=rows_apart hfo hou (by decide) g hg;rw[←how];unfold nr;rw[if_neg (by omega),if_neg h2];omega
 rw[how]at hG1;obtain⟨G1,hG1e⟩:∃X,(if 0<j then GM.nte {G with sc:=rest} 1 j else {G with sc:=rest})=X:=⟨_,rfl⟩;rw[hG1e]at HE;have HGE:=Hd hG1e;have HG0:=Hd (Ga.below hG1 (Below.refl _ _))
 have HON:Hid (GO n G1∧G1.N.length≤1001):=by
  show _∧_;rw[←hG1e];have h0:GO n {G with sc:=rest}:=⟨ho.rt,ho.ml,ho.gd,ho.mo,ho.n0,ho.n1⟩;split
  ·exact⟨h0.nte _ _,by simp[GM.nte];exact hN⟩
  ·exact⟨h0,by simp only;omega⟩
 clear hfo hgb hou hkp hG1 how HF hG1e
 obtain⟨af,kf,rfl⟩:∃a c,fo=.slice a F.length c:=by
  rcases HFO.out.form with⟨rfl,rfl⟩|⟨g,cap,rfl,_⟩
  ·exact⟨none,0,rfl⟩
  ·exact⟨_,cap,rfl⟩
 go_upto_if 17 with (fail)
 go_cut [] (fun W2=>Hid (Ga W1 ow1 B C G1 W2))
 case first=>
  by_cases q:0<j
  ·have qz:(0:Int)<(j:Int):=by omega
   rw[if_pos q]at HGE;have HX:=Hd (HG0.out.nte (Below.refl _ _) 1 j (by simp only;omega));clear q
   go_wp2_with fail
   refine HX.out.mono ?_;rintro e W2 ⟨rfl,hg,-⟩;rw[HGE.out]at hg;have HG:=Hd hg;clear HX hg;go_wp2;go_meet
   case rel=>exact HG
  ·have qz:¬(0:Int)<(j:Int):=by omega
   rw[if_neg q]at HGE;rw[HGE.out]at HG0;clear q;go_wp2;go_meet
   case rel=>exact HG0
 case rest=>
  have HG:=hcut;clear hcut HGE HG0
  go_wp2_with fail
  go_loopw [23] (fun iv wr=>∃i:Nat,i≤F.length∧iv=.int .i64 (i:Int)∧Hid (Ga W1 ow1 B C (GM.frs G1 (F.take i)) wr)) (fun iv _=>F.length-(intOf iv).toNat)
  case atStart=>exact⟨0,Nat.zero_le _,rfl,HG⟩
  case round=>
   clear HG;obtain⟨i,hi,rfl,HG⟩:=hrel;by_cases hlt:i<F.length
   ·have hz:(i:Int)<(F.length:Int):=by omega
    obtain⟨f,hf⟩:∃f,F[i]?=some f:=⟨_,List.getElem?_eq_getElem hlt⟩;have HMF:=Hd (HM.out f (List.mem_of_getElem? hf));have HGS:Hid (GM.frs G1 (F.take (i+1))=GM.fra (GM.frs G1 (F.take i)) f):=frs_succ hf
    have HGO:Hid (GO n (GM.frs G1 (F.take i))∧(GM.frs G1 (F.take i)).N.length≤3000):=by
     refine⟨HON.out.1.frs fun x hx=>HM.out x (List.mem_of_mem_take hx),?_⟩;have h1:=@frs_N G1 (F.take i);have h2:=HON.out.2;have h3:=HC.out;rw[List.length_take]at h1;omega
    obtain⟨Gi,hGi⟩:∃X,GM.frs G1 (F.take i)=X:=⟨_,rfl⟩;rw[hGi]at HG HGS HGO;have hfo:=HFO.out.keep (W':=wr) fun g hg=>HG.out.kp.block g (HFO.out.lt g hg).2 (HO2.out g hg);rcases hfo.form with⟨e1,e2⟩|⟨g,cap,e1,_⟩
    ·rw[e2]at hlt;simp at hlt
    cases e1;have hrg:=hfo.range hlt;rw[(List.getElem?_eq_some_iff.1 hf).2]at hrg;have hix:∀W:World,(Instr.indexAt 119 (.slice (some ⟨g,0,none⟩) F.length kf) (.int .i64 (i:Int))).run Tryz.prog W=.ok (.pointer (some ⟨g,i*6,none⟩)) W:=fun W=>ixF W hlt;have HRG:=Hd hrg;have hal:=(Below.refl wr.heap.size wr).alloc (Nat.le_refl _) (.cells #[.int .i64 f.ki,.int .i64 f.ca,.int .i64 f.sq,.int .i64 f.a,.int .i64 f.b,.int .i64 f.c] 73);have HFB:=Hd (FB.new' wr f);have HSZ:Hid (wr.heap.size<(wr.alloc (.cells #[.int .i64 f.ki,.int .i64 f.ca,.int .i64 f.sq,.int .i64 f.a,.int .i64 f.b,.int .i64 f.c] 73)).heap.size):=by show _<_;simp
    have HT:=Hd (HG.out.take hal f HMF.out HGO.out.1);obtain⟨z,hz1⟩:∃z,(GM.tke Gi f).1=z:=⟨_,rfl⟩;obtain⟨Gt,hz2⟩:∃z,(GM.tke Gi f).2=z:=⟨_,rfl⟩;have HTN:Hid (Gt.N.length≤3000):=by show _≤_;rw[←hz2,tke_N];exact HGO.out.2
    have HGF:Hid (GM.fra Gi f=if z=0 then Gt else if z=7 then GM.nte Gt 2 f.ca else if z=4 then GM.nte Gt 4 f.a else GM.nte Gt 3 f.ki):=by
     show _=_;unfold GM.fra;simp only[hz1,hz2]
    rw[hz1,hz2]at HT;have hiF:i+1≤F.length:=hlt;have hFl:F.length≤1000:=by have:=HC.out;omega
    clear hz1 hz2 hf hlt hGi hfo hrg hal HG HGO HMF
    go_wp2_with (first|(refine wpList_loadFo rfl _ rfl g (i*6) rfl HRG.out ?_)|(refine wpList_loadFo rfl _ rfl wr.heap.size 0 rfl HFB.out.range ?_))
    refine HT.out.mono ?_;rintro e W3 ⟨rfl,hg3,hk3⟩;have HG3:=Hd hg3;have hfb:=(hk3 _ (Nat.le_refl _) HSZ.out).trans HFB.out;have c0:W3.cell? ⟨wr.heap.size,0,none⟩=some (.int .i64 f.ki):=FF.FB.range (f:=f) hfb 0 _ rfl;have c1:W3.cell? ⟨wr.heap.size,1,none⟩=some (.int .i64 f.ca):=FF.FB.range (f:=f) hfb 1 _ rfl;have c3:W3.cell? ⟨wr.heap.size,3,none⟩=some (.int .i64 f.a):=FF.FB.range (f:=f) hfb 3 _ rfl;clear HT hg3 hk3 hfb HFB HSZ HRG hix;by_cases q0:z=0
    ·rw[if_pos q0]at HGF;rw[←HGF.out,←HGS.out]at HG3;have d0:(z==0)=true:=by simpa using q0
     clear q0 c0 c1 c3;go_wp2;go_roundw
     case rel=>exact⟨i+1,hiF,by go_num,HG3⟩
     case measure=>simp[intOf];omega
    ·rw[if_neg q0]at HGF;have d0:(z==0)=false:=by simpa using q0
     by_cases q1:z=7
     ·rw[if_pos q1]at HGF;have d1:(z==7)=true:=by simpa using q1
      have HX:=Hd (HG3.out.nte (Below.refl _ _) 2 f.ca (by have:=HTN.out;omega));rw[←HGF.out,←HGS.out]at HX;clear q0 q1 HG3 c0 c3
      go_wp2_with fail
      refine HX.out.mono ?_;rintro e W4 ⟨rfl,hg,-⟩;have HG4:=Hd hg;clear HX hg c1;go_wp2;go_roundw
      case rel=>exact⟨i+1,hiF,by go_num,HG4⟩
      case measure=>simp[intOf];omega
     ·rw[if_neg q1]at HGF;have d1:(z==7)=false:=by simpa using q1
      by_cases q2:z=4
      ·rw[if_pos q2]at HGF;have d2:(z==4)=true:=by simpa using q2
       have HX:=Hd (HG3.out.nte (Below.refl _ _) 4 f.a (by have:=HTN.out;omega));rw[←HGF.out,←HGS.out]at HX;clear q0 q1 q2 HG3 c0 c1
       go_wp2_with fail
       refine HX.out.mono ?_;rintro e W4 ⟨rfl,hg,-⟩;have HG4:=Hd hg;clear HX hg c3;go_wp2;go_roundw
       case rel=>exact⟨i+1,hiF,by go_num,HG4⟩
       case measure=>simp[intOf];omega
      ·rw[if_neg q2]at HGF;have d2:(z==4)=false:=by simpa using q2
       have HX:=Hd (HG3.out.nte (Below.refl _ _) 3 f.ki (by have:=HTN.out;omega));rw[←HGF.out,←HGS.out]at HX;clear q0 q1 q2 HG3 c3 c1
       go_wp2_with fail
       refine HX.out.mono ?_;rintro e W4 ⟨rfl,hg,-⟩;have HG4:=Hd hg;clear HX hg c0;go_wp2;go_roundw
       case rel=>exact⟨i+1,hiF,by go_num,HG4⟩
       case measure=>simp[intOf];omega
   ·have hz:¬(i:Int)<(F.length:Int):=by omega
    have e1:i=F.length:=by omega
    rw[e1,List.take_length,HE.out]at HG;have HX:=Hd (Ga.cons HO1.out HK1.out HG.out);clear e1;go_wp2
    go_end0
    exact⟨rfl,HX.out⟩
end
namespace GM
def psl(k:Int)(M:List Mb):Nat→List Mb
 |0=>M
 |n+1=>match M[n]? with
  |none=>psl k M n
  |some m=>(psl k M n).set n (psm k m)
theorem psl_length(k:Int)(M:List Mb):∀n,(psl k M n).length=M.length
 |0=>rfl
 |n+1=>by
  unfold psl;split
  ·exact psl_length k M n
  ·rw[List.length_set];exact psl_length k M n
theorem psl_get(k:Int)(M:List Mb):∀n j,(psl k M n)[j]?=if j<n then M[j]?.map (psm k)else M[j]?
 |0,j=>by simp[psl]
 |n+1,j=>by
  unfold psl;split
  ·rename_i h;rw[psl_get k M n j];by_cases e:j=n
   ·subst e;simp[h]
   ·by_cases h2:j<n
    ·rw[if_pos h2,if_pos (by omega)]
    ·rw[if_neg h2,if_neg (by omega)]
  ·rename_i m h;rw[List.getElem?_set,psl_length,psl_get k M n j];by_cases e:n=j
   ·subst e;rw[if_pos rfl,if_pos (List.getElem?_eq_some_iff.1 h).1,if_pos (by omega),h];rfl
   ·rw[if_neg e];by_cases h2:j<n
    ·rw[if_pos h2,if_pos (by omega)]
    ·rw[if_neg h2,if_neg (by omega)]
theorem psl_all(k:Int)(M:List Mb):psl k M M.length=M.map (psm k):=by
 apply List.ext_getElem?;intro j;rw[psl_get,List.getElem?_map];split
 ·rfl
 ·rw[List.getElem?_eq_none (by omega)];rfl
theorem psl_succ{k:Int}{M:List Mb}{n:Nat}{m:Mb}(h:M[n]?=some m):psl k M (n+1)=(psl k M n).set n (psm k m):=by
 conv=>lhs;unfold psl
 rw[h]
end GM
section
variable {W W' W2:World} {ow ow':Nat→Nat} {B:Nat} {C:Gc} {V V':Gv} {G G' G2:Gs} {m m':Mb} {i:Nat} {n:Int}
theorem GX.s0(h:GX al W ow B C V {G with M:=G.M.set i m})(hi:i<G.M.length)(x:Bool):GX al (W.setCell ⟨C.cb,i*12,none⟩ (.bool x)) ow B C V {G with M:=G.M.set i {m with lv:=x}}:=h.setN hi 0 (by decide) _ _ rfl rfl rfl
theorem GO.pss(h:GO n G)(hn:n<1000):GO (n+1) (GM.pss G):=by
 refine⟨h.rt,by simpa[GM.pss]using h.ml,?_,fun m hm=> ?_,by have:=h.n0;omega,by omega⟩
 ·exact h.gd.tick h.n1
 ·obtain⟨x,hx,rfl⟩:=List.mem_map.1 hm;have h1:=h.mo x hx;exact⟨h1.lk.ti,h1.f0,h1.f1,h1.g0,h1.g1,h1.ll⟩
theorem gpass_any(h:GX al W ow B C V G)(ho:GO n G):
  Calls Tryz.prog 58 #[.pointer (some ⟨C.gb,0,none⟩)] W fun e w'=>e=.returned (.tuple #[])∧Ga W ow B C (GM.pss G) w':=by
 have c15:=h.c15;have hml:=h.ml;have HH:=Hd h;have HO:=Hd ho;clear h ho
 go_enter Tryz.func58,Tryz.ntmps58
 go_wp2_with fail
 have HG0:Hid (GX al W ow B C V {G with M:=GM.psl G.st.sil G.M 0}):=HH.out;have HK0:=Hd (Kp.refl (fun b=>ow b<1000) W)
 go_loopw [9] (fun iv wr=>∃i:Nat,i≤G.M.length∧iv=.int .i64 (i:Int)∧Hid (GX al wr ow B C V {G with M:=GM.psl G.st.sil G.M i})∧Hid (Kp (fun b=>ow b<1000) W wr)) (fun iv _=>G.M.length-(intOf iv).toNat)
 case atStart=>exact⟨0,Nat.zero_le _,rfl,HG0,HK0⟩
 case round=>
  clear HG0 HK0 c15;obtain⟨i,hi,rfl,HG,HK⟩:=hrel;have hlen:=GM.psl_length G.st.sil G.M i;by_cases hlt:i<G.M.length
  ·have hz:(i:Int)<(G.M.length:Int):=by omega
   obtain⟨m,hm⟩:∃m,G.M[i]?=some m:=⟨_,List.getElem?_eq_getElem hlt⟩;have hm2:(GM.psl G.st.sil G.M i)[i]?=some m:=by rw[GM.psl_get,if_neg (by omega)];exact hm
   have c15:wr.cell? ⟨C.gb,15,none⟩=some (.slice (some ⟨C.cb,0,none⟩) G.M.length G.M.length):=by
    have:=HG.out.c15;rwa[hlen]at this
   have m8:wr.cell? ⟨C.cb,i*12+8,none⟩=some (.pointer (some ⟨C.lb i,0,none⟩)):=HG.out.mcell hm2 8 (by decide);have hix:∀W:World,_:=fun W=>ixM (ab:=C.cb) W hlt;have HL:=Hd (LL.tick_any m.lk n (C.lb i) wr (HG.out.link hm2) (HO.out.mo m (List.mem_of_getElem? hm)).lk (by have:=HO.out.n1;omega));have HM:=Hd hm;have HM2:=Hd hm2;have HLT:=Hd hlt;have HLE:=Hd hlen;have hi1:i+1≤G.M.length:=hlt;clear hm hm2 hlt hlen
   go_wp2_with fail
   refine HL.out.mono ?_;rintro e W1 ⟨rfl,hl1,hk1⟩;have hG1:=HG.out.setL HM2.out (kp_ll hk1) _ hl1;have HK1:=Hd (HK.out.trans (kp_ll hk1) fun b _ e=>by show ow b<1000;rw[e,HG.out.tl i (by rw[HLE.out];exact HLT.out)];omega);have HG1:=Hd hG1;have hm3:((GM.psl G.st.sil G.M i).set i {m with lk:=LL.LM.ti m.lk})[i]?=some {m with lk:=LL.LM.ti m.lk}:=by simp[HLE.out,HLT.out]
   have m0:W1.cell? ⟨C.cb,i*12,none⟩=some (.bool m.lv):=hG1.mcell hm3 0 (by decide);have r0:=hG1.mfr (i*12);have m8:W1.cell? ⟨C.cb,i*12+8,none⟩=some (.pointer (some ⟨C.lb i,0,none⟩)):=hG1.mcell hm3 8 (by decide);have c10:W1.cell? ⟨C.gb,10,none⟩=some (.int .i64 G.st.sil):=hG1.cell 10;have HV:=Hd (LL.live_any (LL.LM.ti m.lk) G.st.sil (C.lb i) W1.drew (hG1.link hm3));clear hG1 hm3 hk1 hl1 HL HG HK c15 hix
   go_wp2_with fail
   refine wp_region_still_tail 14 (by kernel_rfl) (by kernel_rfl) ?_;simp only[List.take_succ_cons,List.take_zero,List.drop_succ_cons,List.drop_zero]
   iterate 10 (unfold wpStill;generalize hK:wpStill _ _ _ _ _=K;go_simp;subst hK)
   unfold wpStill;generalize hK:wpStill _ _ _ _ _=K;go_simp;refine⟨_,HV.out,?_⟩;subst hK
   iterate 3 (unfold wpStill;generalize hK:wpStill _ _ _ _ _=K;go_simp;subst hK)
   refine wpStill_nil ?_;change wpList Tryz.prog _ _ _ _ W1.drew
   have HG2:Hid (GX al (W1.drew.setCell ⟨C.cb,i*12,none⟩ (.bool (LL.LM.li (LL.LM.ti m.lk) G.st.sil))) ow B C V {G with M:=GM.psl G.st.sil G.M (i+1)}):=by
    show GX _ _ _ _ _ _ _;rw[GM.psl_succ HM.out];exact GX.s0 (G:={G with M:=GM.psl G.st.sil G.M i}) (m:={m with lk:=LL.LM.ti m.lk}) (HG1.out.below' (Below.refl _ _).drew) (by show i<(GM.psl G.st.sil G.M i).length;rw[HLE.out];exact HLT.out) _
   have HK2:=Hd (HK1.out.drew.set C.cb (i*12) (.bool (LL.LM.li (LL.LM.ti m.lk) G.st.sil)) fun _=>by show ow _<1000;rw[HH.out.t1];omega);clear HG1 HK1 m8 c10 HV;go_wp2;go_roundw
   case rel=>exact⟨i+1,hi1,by go_num,HG2,HK2⟩
   case measure=>simp[intOf];omega
  ·have hz:¬(i:Int)<(G.M.length:Int):=by omega
   have e1:i=G.M.length:=by omega
   rw[e1,GM.psl_all]at HG;have c14:wr.cell? ⟨C.gb,14,none⟩=some (.pointer (some ⟨C.bb,0,none⟩)):=HG.out.cell 14;have HX:=Hd (CC.tick_any B C.bb G.st.fl G.st.ca n V.vb G.s G.L wr (HG.out.pt 2 trivial).1 HO.out.gd HO.out.n1);clear e1 hlen
   go_wp2_with fail
   refine HX.out.mono ?_;rintro e W1 ⟨rfl,hbk,hkp⟩;have HG2:=Hd (HG.out.booked (Below.refl _ _) hkp hbk fun k hk=>.inl hk);clear hbk hkp HX c14;go_wp2
   go_end0
   exact⟨rfl,Ga.cons (fun _ _=>rfl) HK.out HG2.out⟩
end
theorem wpAny_still{P:Program}{Q:Exit→Act→World→Prop}{a:Act}{w:World}{l:List Oper}(n:Nat)(hB:Region.lexTailB .any l.toArray n=true)
  (h:wpStill P l.toArray w (fun a'=>wpList P l.toArray Q (l.drop n) a' w) (l.take n) a):wpAny P .any l.toArray Q l.length (Array.replicate l.length false) a w:=by
 simp only[Region.lexTailB,Bool.and_eq_true,decide_eq_true_eq]at hB;obtain⟨⟨⟨⟨hsel,hn⟩,hs⟩,hc⟩,hlex⟩:=hB;have hn':n<l.length:=by simpa using hn
 have htl:(l.take n).length=n:=by simp;omega
 have hdl:(l.drop n).length=l.toArray.size-n:=by simp
 have hz:l.toArray.size=l.length:=by simp
 have inv0:HeadInv .any l.toArray n (Array.replicate l.toArray.size false):=
  ⟨by simp,fun j oj _ hl=>(by rw[getD_replicate_false]at hl;cases hl),fun t _ ht=>getD_in (by simpa using ht) (getD_replicate_false _ _)⟩
 have H:=wpAnyL_lex (md:=.any) (g:=l.toArray.size-n) hsel hs hc hn (l.take n) 0 _ a (fun j hj=>by
  have hj':j<n:=by rw[htl]at hj;exact hj
  simp[hj']) (by simpa using htl) inv0 (by rw[htl];exact hlex) h
 have:=wpAny_of_head (Q':=Q) (g:=l.toArray.size-n) (fun listed a' hL=>by
  have:=wpAny_of_seq (md:=.any) (Q':=Q) (l.drop n) n listed a' w (fun j=>by simp[List.getElem?_drop]) (by rw[hdl];exact hL.1) hL.2
  rwa[hdl]at this) _ _ _ H
 rw[htl,show n+(l.toArray.size-n)=l.toArray.size by omega]at this;rwa[hz]at this
namespace GM
section
variable {G:Gs} {n:Int}
theorem srv1_M(G:Gs)(i:Nat):(srv1 G i).M=G.M∧(srv1 G i).st=G.st:=by unfold srv1;split;exact⟨rfl,rfl⟩;split<;>exact⟨rfl,rfl⟩
theorem srvs_M(G:Gs):∀i,(srvs G i).M=G.M∧(srvs G i).st=G.st
 |0=>⟨rfl,rfl⟩
 |i+1=>⟨(srv1_M _ i).1.trans (srvs_M G i).1,(srv1_M _ i).2.trans (srvs_M G i).2⟩
theorem filter_two{α:Type}(p:α→Bool):∀L:List α,(L.filter p).length+(L.filter fun x=> !p x).length=L.length
 |[]=>rfl
 |x::L=>by
  have:=filter_two p L;cases h:p x<;>simp[h]<;>omega
theorem srv1_N(G:Gs)(i:Nat):(srv1 G i).N.length+(srv1 G i).L.length=G.N.length+G.L.length:=by
 unfold srv1;split
 ·rfl
 ·rename_i m _;split
  ·have:=filter_two (CC.KM.srv i m.fl m.su m.sd) G.L;simp;omega
  ·rfl
theorem srvs_N(G:Gs):∀i,(srvs G i).N.length+(srvs G i).L.length=G.N.length+G.L.length
 |0=>rfl
 |i+1=>(srv1_N _ i).trans (srvs_N G i)
end
def gn(G:Gs)(S:List CC.Cl)(k:Nat):Gs:={G with N:=G.N++(S.take k).map fun c=>(8,c.fl)}
theorem gn_succ{G:Gs}{S:List CC.Cl}{k:Nat}{c:CC.Cl}(h:S[k]?=some c):nte (gn G S k) 8 c.fl=gn G S (k+1):=by
 unfold gn nte;rw[List.take_add_one,h];simp
end GM
section
variable {W W' W2:World} {ow ow':Nat→Nat} {B:Nat} {C:Gc} {V V':Gv} {G G' G2:Gs} {m m':Mb} {i:Nat} {n:Int}
theorem GO.srvs(h:GO n G):∀i,GO n (GM.srvs G i)
 |0=>h
 |i+1=>by
  have h1:=h.srvs i;show GO n (GM.srv1 _ i);unfold GM.srv1;split
  ·exact h1
  ·split
   ·exact⟨h1.rt,h1.ml,h1.gd.filter _,h1.mo,h1.n0,h1.n1⟩
   ·exact h1
theorem GX.served{s:Nat}{L:List CC.Cl}{v:Value}{A:World}(h:GX al A ow B C V G)(hb:Below A.heap.size A W)(hk:CC.Kp (CC.Fp C.bb V.vb) W W')(hbk:CC.BK W' B C.bb G.st.fl G.st.ca v s L)(hn:v.ownBlock=V.vb.ownBlock):GX al W' (nw ow A 1000) B C {V with vb:=v} {G with s:=s,L:=L}∧Kp (fun b=>ow b<1000) A W':=by
 have h2:=h.pt 2 trivial;have hf:∀b,CC.Fp C.bb V.vb b→ow b=2:=fun b hb=>hb.elim (fun e=>by rw[e];exact h.t2) (h2.2 b);have hl:∀b,CC.Fp C.bb V.vb b→b<A.heap.size:=fun b hb=>(h2.1.lo b hb).2;refine⟨?_,(Kp.ofBelow _ hb).trans (kp_cc hk) fun b _ e=>by show ow b<1000;rw[hf b e];omega⟩;have h1:=((h.retag 1000).below' hb).kp (i:=2) (kp_cc hk) fun b _ e=>by rw[nw_old (hl b e)];exact hf b e
 refine (h1.chg (G':={G with s:=s,L:=L}) (V':={V with vb:=v}) rfl fun t x hp=> ?_).fills ⟨hbk,fun g hg=> ?_⟩
 ·match t,x,hp with
  |0,_,hp=>exact hp
  |1,_,hp=>exact hp
  |2,x,_=>exact absurd rfl x
  |3,_,hp=>exact hp
  |4,_,hp=>exact hp
  |5,_,hp=>exact hp
  |t+6,_,hp=>exact hp
 ·have hg':V.vb.ownBlock=some g:=hn▸hg;rw[nw_old (hl g (.inr hg'))];exact h2.2 g hg'
theorem wpList_loadKo{ops:Array Oper}{rest:List Oper}{op:Oper}{a:Act}{w:World}{Q:Exit→Act→World→Prop}(hgd:op.guard=none)(x:Operand)(ho:op.op=.load 33 x)
  (b o:Nat) {c:CC.Cl} (hx:a.eval x=.pointer (some ⟨b,o,none⟩)) (H:w.rangeAt b o (CC.cv c))
  (h:wpList Tryz.prog ops Q rest (a.put op.dst (.agg #[.int .i64 c.fl,.int .i64 c.ca,.int .i64 c.ag,.bool c.up])) w):wpList Tryz.prog ops Q (op::rest) a w:=
 wpList_plain hgd fun _ hK=>by
  unfold Oper.wp execOp;simp only[ho,Sem.run_bind,Sem.run_pure,Result.andThen_ok,hx,CC.loadK w b o c H];exact hK _ _ h
theorem gserve_any(h:GX al W ow B C V G)(ho:GO n G)(hN:G.N.length≤3000):
  Calls Tryz.prog 59 #[.pointer (some ⟨C.gb,0,none⟩)] W fun e w'=>e=.returned (.tuple #[])∧Ga W ow B C (GM.srv G) w':=by
 have c15:=h.c15;have c16:W.cell? ⟨C.gb,16,none⟩=some (.bool G.rc):=h.cell 16;have hml:=h.ml;have HG0:=Hd (Ga.below h (Below.refl _ _));have HO:=Hd ho;have HN:=Hd hN;obtain⟨r,HR⟩:∃r,Hid (GM.srv G=r):=⟨_,Hd rfl⟩;rw[HR.out];clear h ho hN;obtain⟨rc,hrc⟩:∃x,G.rc=x:=⟨_,rfl⟩;rw[hrc]at c16;have HRC:=Hd hrc;clear hrc
 go_enter Tryz.func59,Tryz.ntmps59
 cases rc
 ·have HE:Hid (GM.srvs G G.M.length=r):=by show _=_;rw[←HR.out];unfold GM.srv;rw[if_neg (by rw[HRC.out];simp)]
  clear HR
  go_wp2_with fail
  clear c16 c15
  go_loopw [15] (fun iv wr=>∃i:Nat,i≤G.M.length∧iv=.int .i64 (i:Int)∧Hid (Ga W ow B C (GM.srvs G i) wr)) (fun iv _=>G.M.length-(intOf iv).toNat)
  case atStart=>exact⟨0,Nat.zero_le _,rfl,HG0⟩
  case round=>
   clear HG0;obtain⟨i,hi,rfl,HG⟩:=hrel;by_cases hlt:i<G.M.length
   ·have hz:(i:Int)<(G.M.length:Int):=by omega
    obtain⟨m,hm⟩:∃m,G.M[i]?=some m:=⟨_,List.getElem?_eq_getElem hlt⟩;obtain⟨Gi,hGi⟩:∃X,GM.srvs G i=X:=⟨_,rfl⟩;have HS1:Hid (GM.srvs G (i+1)=GM.srv1 Gi i):=by show _=_;rw[←hGi];rfl
    have hM:Gi.M=G.M∧Gi.st=G.st:=hGi▸GM.srvs_M G i
    have HGO:Hid (GO n Gi∧Gi.N.length+Gi.L.length≤3128):=⟨hGi▸HO.out.srvs i,by
     have:=GM.srvs_N G i;have:=HO.out.gd.len;have:=HN.out
     rw[hGi]at*;omega⟩
    rw[hGi]at HG;obtain⟨o,V1,h1,h2,h3⟩:=HG.out;have hm2:Gi.M[i]?=some m:=by rw[hM.1];exact hm
    have c15:wr.cell? ⟨C.gb,15,none⟩=some (.slice (some ⟨C.cb,0,none⟩) G.M.length G.M.length):=by
     have:=h1.c15;rwa[hM.1]at this
    have hix:∀W:World,_:=fun W=>ixM (ab:=C.cb) W hlt;have HO1:=Hd (opened_any h1 hm2);have HX1:=Hd h1;have HX2:=Hd h2;have HX3:=Hd h3;have HM2:=Hd hm2;have hi1:i+1≤G.M.length:=hlt;clear h1 h2 h3 hm hm2 hGi hlt hM;cases hq:GM.opn m
    ·have HE1:Hid (GM.srvs G (i+1)=Gi):=by show _=_;rw[HS1.out];unfold GM.srv1;rw[HM2.out];simp[hq]
     rw[hq]at HO1;rw[←HE1.out]at HG;clear hq
     go_wp2_with fail
     refine HO1.out.mono ?_;rintro e W1 ⟨rfl,e1⟩;subst e1;clear HO1;go_wp2;go_roundw
     case rel=>exact⟨i+1,hi1,by go_num,HG⟩
     case measure=>simp[intOf];omega
    ·have HE1:Hid (GM.srvs G (i+1)={Gi with L:=Gi.L.filter (fun c=> !CC.KM.srv i m.fl m.su m.sd c),N:=Gi.N++(Gi.L.filter (CC.KM.srv i m.fl m.su m.sd)).map (fun c=>(8,c.fl))}):=by
      show _=_;rw[HS1.out];unfold GM.srv1;rw[HM2.out];simp only[if_pos hq]
     rw[hq]at HO1;have c14:wr.cell? ⟨C.gb,14,none⟩=some (.pointer (some ⟨C.bb,0,none⟩)):=HX1.out.cell 14;have m5:wr.cell? ⟨C.cb,i*12+5,none⟩=some (.int .i64 m.fl):=HX1.out.mcell HM2.out 5 (by decide);have m9:wr.cell? ⟨C.cb,i*12+9,none⟩=some (.bool m.su):=HX1.out.mcell HM2.out 9 (by decide);have m10:wr.cell? ⟨C.cb,i*12+10,none⟩=some (.bool m.sd):=HX1.out.mcell HM2.out 10 (by decide);have HSV:=Hd (CC.serve_any B C.bb Gi.st.fl Gi.st.ca V1.vb Gi.s Gi.L i m.fl m.su m.sd wr.drew ((HX1.out.below' (Below.refl _ _).drew).pt 2 trivial).1 HGO.out.1.gd.len);clear hq HG HS1
     go_wp2_with fail
     refine HO1.out.mono ?_;rintro e W1 ⟨rfl,e1⟩;subst e1;clear HO1
     go_wp2_with fail
     refine wp_normal ?_;refine wp_region_last2 22 (.int .i64 0) rfl rfl (by kernel_rfl) (by kernel_rfl) (by kernel_rfl) (by kernel_rfl) (by kernel_rfl) (fun _ _ _ h=>by cases h.1) (yields_val rfl (fun w=>by go_simp)) ?_;simp only[List.take_succ_cons,List.take_zero];refine wpAny_still 20 (by kernel_rfl) ?_;simp only[List.take_succ_cons,List.take_zero,List.drop_succ_cons,List.drop_zero]
     iterate 20 (unfold wpStill;generalize hK:wpStill _ _ _ _ _=K;go_simp;subst hK)
     refine wpStill_nil ?_;clear c14 c15 m5 m9 m10 hix
     go_wp2_with fail
     refine HSV.out.mono ?_;rintro e W2 ⟨vo,v',rfl,hrw,hbk,hvb,hkp⟩;obtain⟨S,hS⟩:∃X,Gi.L.filter (CC.KM.srv i m.fl m.su m.sd)=X:=⟨_,rfl⟩;obtain⟨R,hR⟩:∃X,Gi.L.filter (fun c=> !CC.KM.srv i m.fl m.su m.sd c)=X:=⟨_,rfl⟩;have hS1:S.length+R.length=Gi.L.length:=by rw[←hS,←hR];exact GM.filter_two _ _
     have hS2:S.length≤128:=by have:=HGO.out.1.gd.len;omega
     rw[hS,hR]at HE1;rw[hS]at hrw;rw[hR]at hbk;obtain⟨k1,k2⟩:=HX1.out.served (Below.refl _ _).drew hkp hbk hvb
     have HG2:Hid (Ga W2 (nw o W1 1000) B C (GM.gn {Gi with L:=R} S 0) W2):=by
      show Ga _ _ _ _ _ _;have:=Ga.below k1 (Below.refl _ _);unfold GM.gn;simpa using this
     have HGN:Hid (Gi.N.length+S.length≤3128):=by show _≤_;have:=HGO.out.2;omega
     have HK2:Hid (∀G3 w3,Ga W2 (nw o W1 1000) B C G3 w3→Ga W ow B C G3 w3):=fun G3 w3 h=>Ga.cons (fun b hb=>(nw_old (Nat.lt_of_lt_of_le hb HX3.out.size)).trans (HX2.out b hb)) (HX3.out.trans k2 fun b hb h=>by show ow b<1000;rw[←HX2.out b hb];exact h) h;have HRW:=Hd hrw;have HGL:Hid (GM.gn {Gi with L:=R} S S.length=GM.srvs G (i+1)):=by show _=_;rw[HE1.out];unfold GM.gn;rw[List.take_length]
     have HNW:Hid (∀b,W1.heap.size≤b→¬nw o W1 1000 b<1000):=fun b hb=>by rw[nw_new hb];omega
     obtain⟨G0,hG0⟩:∃X,({Gi with L:=R}:Gs)=X:=⟨_,rfl⟩;have HG0N:Hid (G0.N.length+S.length≤3128):=by rw[←hG0];exact HGN
     rw[hG0]at HG2 HGL;obtain⟨o2,ho2⟩:∃X,nw o W1 1000=X:=⟨_,rfl⟩;rw[ho2]at HG2 HK2 HNW
     obtain⟨av,kv,rfl⟩:∃a c,vo=.slice a S.length c:=by
      rcases hrw.form with⟨rfl,e⟩|⟨g,cap,rfl,_⟩
      ·exact⟨none,0,by rw[e];rfl⟩
      ·exact⟨_,cap,rfl⟩
     clear k1 k2 hS hR hS1 hrw hbk hvb hkp HSV HX1 HX2 HX3 HE1 HGN HGO HM2 hG0 ho2 o V1
     go_wp2_with fail
     go_loopw [49] (fun jv w2=>∃k:Nat,k≤S.length∧jv=.int .i64 (k:Int)∧Hid (Ga W2 o2 B C (GM.gn G0 S k) w2)) (fun jv _=>S.length-(intOf jv).toNat)
     case atStart=>exact⟨0,Nat.zero_le _,rfl,HG2⟩
     case round=>
      clear HG2;obtain⟨k,hk,rfl,HG⟩:=hrel;by_cases hlk:k<S.length
      ·have hzk:(k:Int)<(S.length:Int):=by omega
       obtain⟨c,hc⟩:∃c,S[k]?=some c:=⟨_,List.getElem?_eq_getElem hlk⟩;have hrw:=HRW.out.keep (W':=wr) fun g hg=>HG.out.kp.block g (HRW.out.lt g hg).2 (HNW.out g (HRW.out.lt g hg).1);rcases hrw.form with⟨e1,e2⟩|⟨g,cap,e1,_⟩
       ·rw[e2]at hlk;simp at hlk
       cases e1;have hrg:=hrw.range hlk;rw[(List.getElem?_eq_some_iff.1 hc).2]at hrg;have HRG:=Hd hrg
       have hixk:∀W:World,(Instr.indexAt 38 (.slice (some ⟨g,0,none⟩) S.length kv) (.int .i64 (k:Int))).run Tryz.prog W=.ok (.pointer (some ⟨g,k*4,none⟩)) W:=fun W=>by
        have:=ixCa W (g:=g) (o:=0) (cap:=kv) hlk;rwa[Nat.zero_add]at this
       have hal:=(Below.refl wr.heap.size wr).alloc (Nat.le_refl _) (.cells #[.int .i64 c.fl,.int .i64 c.ca,.int .i64 c.ag,.bool c.up] 33);have HCB:=Hd (CC.CB.new wr c);have c0:(wr.alloc (.cells #[.int .i64 c.fl,.int .i64 c.ca,.int .i64 c.ag,.bool c.up] 33)).cell? ⟨wr.heap.size,0,none⟩=some (.int .i64 c.fl):=HCB.out.c0;have HX:=Hd (HG.out.nte hal 8 c.fl (by have:=HG0N.out;unfold GM.gn;simp;omega));rw[GM.gn_succ hc]at HX;have hk1:k+1≤S.length:=hlk;clear hlk hc hrw hrg hal HG
       go_wp2_with (refine wpList_loadKo rfl _ rfl g (k*4) rfl HRG.out ?_)
       refine HX.out.mono ?_;rintro e W4 ⟨rfl,hg,-⟩;have HG4:=Hd hg;clear HX hg HCB c0 HRG hixk;go_wp2;go_roundw
       case rel=>exact⟨k+1,hk1,by go_num,HG4⟩
       case measure=>simp[intOf];omega
      ·have hzk:¬(k:Int)<(S.length:Int):=by omega
       have e1:k=S.length:=by omega
       rw[e1,HGL.out]at HG;have HX:=Hd (HK2.out _ _ HG.out);clear e1 HG;go_wp2;go_roundw
       case rel=>exact⟨i+1,hi1,by go_num,HX⟩
       case measure=>simp[intOf];omega
   ·have hz:¬(i:Int)<(G.M.length:Int):=by omega
    have e1:i=G.M.length:=by omega
    rw[e1,HE.out]at HG;clear e1;go_wp2
    go_end0
    exact⟨rfl,HG.out⟩
 ·have HE:Hid (r=G):=by show _=_;rw[←HR.out];unfold GM.srv;rw[if_pos HRC.out]
  clear HR;go_wp2;refine bodyPost_ret (results_none rfl _ _ _) rfl ?_;rw[HE.out];exact⟨rfl,HG0.out⟩
end
theorem infoRd:(Tryz.prog.info? 178).map (·.size)=some 2:=by kernel_rfl
theorem built_r2(a b:Int):Tryz.prog.built 178 [(0,.int .i64 a),(1,.int .i64 b)]=some #[.int .i64 a,.int .i64 b]:=by kernel_rfl
theorem built_r1(a:Int):Tryz.prog.built 178 [(0,.int .i64 a)]=some #[.int .i64 a,.int .i64 0]:=by kernel_rfl
section
variable {W W' W2:World} {ow ow':Nat→Nat} {B:Nat} {C:Gc} {V V':Gv} {G G' G2:Gs} {m m':Mb} {i:Nat} {n:Int}
theorem GX.rng(h:GX al W ow B C V G):W.rangeAt C.gb 0 (sv G.st):=fun j u hu=>by
 have hj:=(List.getElem?_eq_some_iff.1 hu).1;rw[Nat.zero_add,h.cell];unfold gcv;rw[List.getElem?_append_left hj];exact hu
theorem retRd{fn:Func}{t:Tmp}(hf:fn.results= #[.cell t 178]){tmps:Array Value}{w:World}{b:Nat}{x y:Int}(hp:tmps.getD t undef=.pointer (some ⟨b,0,none⟩))(hD:w.heap[b]?=some (.cells #[.int .i64 x,.int .i64 y] 178 (0,0))):
  (results fn tmps).run Tryz.prog w=.ok (.agg #[.int .i64 x,.int .i64 y]) w:=
 results_cell_row hf tmps w b _ _ _ _ hp hD Tryz.underlying178 rfl infoRd
theorem gready_any(h:GX al W ow B C V G)(hm:G.M[i]?=some m)(hr:SM.Rt G.st):
  Calls Tryz.prog 103 #[.pointer (some ⟨C.gb,0,none⟩),.pointer (some ⟨C.cb,i*12,none⟩)] W fun e w'=>e=.returned (.agg #[.int .i64 (GM.rdy G.st m).1,.int .i64 (GM.rdy G.st m).2])∧Below W.heap.size W w':=by
 have hb:=(Below.refl W.heap.size W).alloc (Nat.le_refl _) (.cells #[.int .i64 0,.int .i64 0] 178);have h1:=h.below' hb;have HR0:=Hd (World.alloc_heap_new W (.cells #[.int .i64 0,.int .i64 0] 178));have HB:=Hd hb;have H1:=Hd h1;have HRT:=Hd hr;have m2:(W.alloc (.cells #[.int .i64 0,.int .i64 0] 178)).cell? ⟨C.cb,i*12+2,none⟩=some (.bool m.mo):=h1.mcell hm 2 (by decide);have m5:(W.alloc (.cells #[.int .i64 0,.int .i64 0] 178)).cell? ⟨C.cb,i*12+5,none⟩=some (.int .i64 m.fl):=h1.mcell hm 5 (by decide);have m6:(W.alloc (.cells #[.int .i64 0,.int .i64 0] 178)).cell? ⟨C.cb,i*12+6,none⟩=some (.int .i64 m.tg):=h1.mcell hm 6 (by decide);have m7:(W.alloc (.cells #[.int .i64 0,.int .i64 0] 178)).cell? ⟨C.cb,i*12+7,none⟩=some (.int .i64 m.ph):=h1.mcell hm 7 (by decide);have HM:=Hd hm;obtain⟨r,HE⟩:∃r,Hid (GM.rdy G.st m=r):=⟨_,Hd rfl⟩;rw[HE.out];clear h h1 hm hb hr;obtain⟨mo,hmo⟩:∃x,m.mo=x:=⟨_,rfl⟩;rw[hmo]at m2;have HMO:=Hd hmo;clear hmo
 go_enter Tryz.func103,Tryz.ntmps103
 cases mo
 ·by_cases q:m.ph=0
  ·have HX:Hid (r=(m.fl,0)):=by show _=_;rw[←HE.out];unfold GM.rdy;rw[if_neg (by rw[HMO.out];simp),if_pos q]
   have d:(m.ph !=0)=false:=by simpa using q
   clear q m6
   go_wp2_with (first|(refine wpList_buildS rfl _ _ rfl [(0,.int .i64 m.fl)] (by simp[Act.eval]) _ (built_r1 _) ?_)|(refine wpList_store_row rfl _ _ _ rfl W.heap.size #[.int .i64 m.fl,.int .i64 0] rfl rfl _ _ HR0.out infoRd rfl (by simp[Value.oneCell']) ?_))
   refine bodyPost_ret (retRd Tryz.results103 rfl (setRow_heap _ _ _ _ _ _ HR0.out)) rfl ?_;rw[HX.out];exact⟨rfl,below_setRow HB.out (Nat.le_refl _) _⟩
  ·have HX:Hid (r=(m.fl,IntKind.i64.wrap (IntKind.i64.wrap (G.st.opn+G.st.wai)+G.st.clo))):=by
    show _=_;rw[←HE.out];unfold GM.rdy;rw[if_neg (by rw[HMO.out];simp),if_neg q];obtain⟨⟩:=HRT.out;rw[IntWalk.i64_in (G.st.opn+G.st.wai) (by omega),IntWalk.i64_in _ (by omega)]
   have d:(m.ph !=0)=true:=by simpa using q
   have c5:(W.alloc (.cells #[.int .i64 0,.int .i64 0] 178)).cell? ⟨C.gb,5,none⟩=some (.int .i64 G.st.opn):=H1.out.cell 5;have c6:(W.alloc (.cells #[.int .i64 0,.int .i64 0] 178)).cell? ⟨C.gb,6,none⟩=some (.int .i64 G.st.wai):=H1.out.cell 6;have c7:(W.alloc (.cells #[.int .i64 0,.int .i64 0] 178)).cell? ⟨C.gb,7,none⟩=some (.int .i64 G.st.clo):=H1.out.cell 7;clear q m6
   go_wp2_with fail
   generalize W.alloc (.cells #[.int .i64 0,.int .i64 0] 178)=W1 at*;refine wp_region_still_tail 23 (by kernel_rfl) (by kernel_rfl) ?_;simp only[List.take_succ_cons,List.take_zero,List.drop_succ_cons,List.drop_zero]
   iterate 22 (unfold wpStill;generalize hK:wpStill _ _ _ _ _=K;go_simp;subst hK)
   refine still_build _ _ rfl rfl [(0,.int .i64 m.fl),(1,.int .i64 (IntKind.i64.wrap (IntKind.i64.wrap (G.st.opn+G.st.wai)+G.st.clo)))] (by simp[Act.eval]) _ (built_r2 _ _) (fun K hK=> ?_);go_simp
   with_reducible apply hK
   clear hK K;refine wpStill_nil ?_;change wpList Tryz.prog _ _ _ _ W1.drew;refine wpList_store_row rfl _ _ _ rfl W.heap.size #[.int .i64 m.fl,.int .i64 (IntKind.i64.wrap (IntKind.i64.wrap (G.st.opn+G.st.wai)+G.st.clo))] rfl rfl _ _ (show W1.drew.heap[W.heap.size]?=_ from HR0.out) infoRd rfl (by simp[Value.oneCell']) ?_;go_wp2;refine bodyPost_ret (retRd Tryz.results103 rfl (setRow_heap _ _ _ _ _ _ (show W1.drew.heap[W.heap.size]?=_ from HR0.out))) rfl ?_;rw[HX.out];exact⟨rfl,below_setRow HB.out.drew (Nat.le_refl _) _⟩
 ·have HX:Hid (r=(m.tg,SM.trav G.st m.fl m.tg)):=by show _=_;rw[←HE.out];unfold GM.rdy;rw[if_pos HMO.out]
  go_wp2_with fail
  generalize W.alloc (.cells #[.int .i64 0,.int .i64 0] 178)=W1 at*;have HD:Hid (∀w,Below W1.drew.heap.size W1.drew w→GX al w ow B C V G):=fun w hw=>H1.out.below' ((Below.refl _ W1).drew.trans hw);refine wp_region_tail 20 (by kernel_rfl) (by kernel_rfl) ?_;simp only[List.take_succ_cons,List.take_zero,List.drop_succ_cons,List.drop_zero]
  iterate 4 (unfold wpCalm;generalize hK:wpCalm _ _ _ _ _=K;unfold Oper.calm;go_simp;refine⟨_,fun _ _=>rfl,?_⟩;subst hK)
  unfold wpCalm;generalize hK:wpCalm _ _ _ _ _=K;rw[if_pos (by go_simp)];refine calm_load3 _ _ _ rfl rfl (fun w hw=>(HD.out w hw).mcell HM.out 6 (by decide)) ?_;go_simp;subst hK
  iterate 3 (unfold wpCalm;generalize hK:wpCalm _ _ _ _ _=K;unfold Oper.calm;go_simp;refine⟨_,fun _ _=>rfl,?_⟩;subst hK)
  unfold wpCalm;generalize hK:wpCalm _ _ _ _ _=K;rw[if_pos (by go_simp)];refine calm_load23b _ _ G.st rfl rfl (fun w hw=>(HD.out w hw).rng) ?_;go_simp;subst hK
  iterate 4 (unfold wpCalm;generalize hK:wpCalm _ _ _ _ _=K;unfold Oper.calm;go_simp;refine⟨_,fun _ _=>rfl,?_⟩;subst hK)
  unfold wpCalm;generalize hK:wpCalm _ _ _ _ _=K;rw[if_pos (by go_simp)];refine calm_load3 _ _ _ rfl rfl (fun w hw=>(HD.out w hw).mcell HM.out 5 (by decide)) ?_;go_simp;subst hK
  iterate 4 (unfold wpCalm;generalize hK:wpCalm _ _ _ _ _=K;unfold Oper.calm;go_simp;refine⟨_,fun _ _=>rfl,?_⟩;subst hK)
  unfold wpCalm;generalize hK:wpCalm _ _ _ _ _=K;rw[if_pos (by go_simp)];refine calm_load3 _ _ _ rfl rfl (fun w hw=>(HD.out w hw).mcell HM.out 6 (by decide)) ?_;go_simp;subst hK;unfold wpCalm;generalize hK:wpCalm _ _ _ _ _=K;unfold Oper.calm;go_simp;refine⟨_,fun w' hw=>travel_any G.st HRT.out m.fl m.tg w',?_⟩;subst hK;refine wpCalm_nil ?_;intro W2 hb2;have HB2:=Hd ((HB.out.drew).trans (hb2.mono (by have:=HB.out.size;exact this)));have HR2:=Hd ((hb2.block _ (Array.getElem?_eq_some_iff.1 HR0.out).1).trans HR0.out);clear hb2 HD m5 m6 m7 m2 HR0 HB H1
  go_wp2_with (first|(refine wpList_buildS rfl _ _ rfl [(0,.int .i64 m.tg),(1,.int .i64 (SM.trav G.st m.fl m.tg))] (by simp[Act.eval]) _ (built_r2 _ _) ?_)|(refine wpList_store_row rfl _ _ _ rfl W.heap.size #[.int .i64 m.tg,.int .i64 (SM.trav G.st m.fl m.tg)] rfl rfl _ _ HR2.out infoRd rfl (by simp[Value.oneCell']) ?_))
  refine bodyPost_ret (retRd Tryz.results103 rfl (setRow_heap _ _ _ _ _ _ HR2.out)) rfl ?_;rw[HX.out];exact⟨rfl,below_setRow HB2.out (Nat.le_refl _) _⟩
theorem msn_lt(M:List Mb)(x:CC.Cl):∀n,GM.msn M x n<2^n
 |0=>by simp[GM.msn]
 |n+1=>by
  have:=msn_lt M x n;unfold GM.msn;rw[Nat.pow_succ];split<;>omega
theorem or_pow{a i:Nat}(h:a<2^i)(hi:i≤8):bits .or .i64 (a:Int) ((2^i:Nat):Int)=((a+2^i:Nat):Int):=by
 have hp:2^i≤2^8:=Nat.pow_le_pow_right (by decide) hi;rw[FF.i64_or_nat a (2^i) (by omega) (by omega)];have:=Nat.two_pow_add_eq_or_of_lt h 1;rw[Nat.mul_one]at this;rw[Nat.or_comm,←this,Nat.add_comm]
theorem serving_any(h:GX al W ow B C V G)(x:CC.Cl):
  Calls Tryz.prog 104 #[.pointer (some ⟨C.gb,0,none⟩),.agg #[.int .i64 x.fl,.int .i64 x.ca,.int .i64 x.ag,.bool x.up]] W fun e w'=>e=.returned (.int .i64 (GM.ms G.M x))∧Below W.heap.size W w':=by
 have hb:=(Below.refl W.heap.size W).alloc (Nat.le_refl _) (.cells #[.int .i64 x.fl,.int .i64 x.ca,.int .i64 x.ag,.bool x.up] 33);have h1:=h.below' hb;have c15:=h1.c15;have HCB:=Hd (CC.CB.new W x);have hml:=h.ml;have HH:=Hd h;have HB:=Hd hb;clear h h1 hb
 go_enter Tryz.func104,Tryz.ntmps104
 go_wp2_with fail
 generalize W.alloc (.cells #[.int .i64 x.fl,.int .i64 x.ca,.int .i64 x.ag,.bool x.up] 33)=W1 at*;have HB0:=Hd (Below.refl W1.heap.size W1)
 go_loopw [5,12] (fun cv iv wr=>∃i:Nat,i≤G.M.length∧cv=.int .i64 (GM.msn G.M x i:Nat)∧iv=.int .i64 (i:Int)∧Hid (Below W1.heap.size W1 wr)) (fun _ iv _=>G.M.length-(intOf iv).toNat)
 case atStart=>exact⟨0,Nat.zero_le _,rfl,rfl,HB0⟩
 case round=>
  clear HB0 c15;obtain⟨i,hi,rfl,rfl,HB1⟩:=hrel;by_cases hlt:i<G.M.length
  ·have hz:(i:Int)<(G.M.length:Int):=by omega
   have hcb:=HCB.out.below' HB1.out;have HRG:=Hd hcb.range;have HMY:=Hd (gmay_any (HH.out.below' (HB.out.trans (HB1.out.mono HB.out.size))) i x);have hi1:i+1≤G.M.length:=hlt;have hlm:=msn_lt G.M x i;have hor:=or_pow hlm (by omega)
   have hsh:IntKind.i64.wrap ((2:Int)^i)=((2^i:Nat):Int):=by
    have hp:2^i≤2^8:=Nat.pow_le_pow_right (by decide) (by omega);rw[Int.natCast_pow];exact IntWalk.i64_in _ (by rw[show((2:Int)^i)=((2^i:Nat):Int) by rw[Int.natCast_pow];rfl];omega)
   clear hcb hlt;obtain⟨y,hy⟩:∃y,GM.may G.M i x=y:=⟨_,rfl⟩;have HMS:Hid (GM.msn G.M x (i+1)=if y=true then GM.msn G.M x i+2^i else GM.msn G.M x i):=by show _=_;rw[←hy];rfl
   rw[hy]at HMY;clear hy;generalize GM.msn G.M x i=a at hlm hor HMS⊢;generalize 2^i=p at hlm hor hsh HMS;cases y
   ·go_wp2_with (refine wpList_loadKo rfl _ rfl W.heap.size 0 rfl HRG.out ?_)
    refine HMY.out.mono ?_;rintro e W2 ⟨rfl,hb2⟩;have HB2:=Hd (below_class HB1.out hb2);have HA:Hid (a=GM.msn G.M x (i+1)):=by show _=_;rw[HMS.out];rfl
    clear HMY hb2 HRG;go_wp2;go_roundw
    case rel=>exact⟨i+1,hi1,by rw[HA.out],by go_num,HB2⟩
    case measure=>simp[intOf];omega
   ·go_wp2_with (refine wpList_loadKo rfl _ rfl W.heap.size 0 rfl HRG.out ?_)
    refine HMY.out.mono ?_;rintro e W2 ⟨rfl,hb2⟩;have HB2:=Hd (below_class HB1.out hb2);have HA:Hid (a+p=GM.msn G.M x (i+1)):=by show _=_;rw[HMS.out];rfl
    clear HMY hb2 HRG;go_wp2;go_roundw
    case rel=>exact⟨i+1,hi1,by rw[←HA.out];rfl,by go_num,HB2⟩
    case measure=>simp[intOf];omega
  ·have hz:¬(i:Int)<(G.M.length:Int):=by omega
   have e1:i=G.M.length:=by omega
   have HE:Hid (GM.msn G.M x i=GM.msn G.M x G.M.length):=by rw[e1];exact rfl
   clear e1;go_wp2;go_ret;exact⟨by first|rfl|(unfold GM.ms;rw[←HE.out];rfl),HB.out.trans (HB1.out.mono HB.out.size)⟩
end
end Go.Proofs.YtlajleogofmkcaaGreat
