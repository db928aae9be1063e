import Derived.Test.YtnkelgdnglaafaaGreatQ24
import Derived.Deep.MidRow
set_option maxHeartbeats 8000000
set_option maxRecDepth 100000
namespace Go.Proofs.YtnkelgdnglaafaaGreat
open Go.RowKit
section
variable {W W' W2:World} {ow ow':Nat→Nat} {B:Nat} {C:Gc} {V V':Gv} {G G':Gs} {n:Int} {f:FF.Fr} {g:Nat} {l:List (Bool×Int)} {b:List Nat}
structure GQ(n:Int)(G:Gs):Prop where
 go:GO n G
 bs:FF.FC.Bs G.sc
 sl:G.sc.length<10
 p0:0≤G.pi
 p1:G.pi≤G.st.per
theorem tke_c:(GM.tke G f).2.sc=G.sc∧(GM.tke G f).2.pi=G.pi∧(GM.tke G f).2.st=G.st:=by
 unfold GM.tke GM.rep GM.prs GM.trn
 (repeat' split)<;>exact⟨rfl,rfl,rfl⟩
theorem fra_c:(GM.fra G f).sc=G.sc∧(GM.fra G f).pi=G.pi∧(GM.fra G f).st=G.st:=by
 have h:=@tke_c G f;unfold GM.fra;simp only
 (repeat' split)<;>exact h
theorem frs_c:∀{F:List FF.Fr} {G:Gs},(GM.frs G F).sc=G.sc∧(GM.frs G F).pi=G.pi∧(GM.frs G F).st=G.st
 |[],_=>⟨rfl,rfl,rfl⟩
 |f::F,G=>⟨(@frs_c F (GM.fra G f)).1.trans fra_c.1,(@frs_c F (GM.fra G f)).2.1.trans fra_c.2.1,(@frs_c F (GM.fra G f)).2.2.trans fra_c.2.2⟩
theorem rdb_c:(GM.rdb G b).sc=(FF.FC.fd (G.sc++b)).2.2∧(GM.rdb G b).pi=G.pi∧(GM.rdb G b).st=G.st:=by
 unfold GM.rdb;simp only;split<;>exact frs_c
theorem rdb_N(h:(G.sc++b).length≤1000):(GM.rdb G b).N.length≤G.N.length+101:=by
 have h1:=FF.FC.fd_count (G.sc++b);unfold GM.rdb;simp only;split
 ·refine Nat.le_trans frs_N ?_;simp only[GM.nte,List.length_append,List.length_singleton];omega
 ·exact Nat.le_trans frs_N (by show G.N.length+_≤_;omega)
theorem srvs_c:∀{i:Nat},(GM.srvs G i).sc=G.sc∧(GM.srvs G i).pi=G.pi
 |0=>⟨rfl,rfl⟩
 |i+1=>by
  have h:=@srvs_c i;show(GM.srv1 _ i).sc=_∧(GM.srv1 _ i).pi=_;unfold GM.srv1;split
  ·exact h
  ·split<;>exact h
theorem GO.rdb(h:GO n G)(hs:FF.FC.Bs (G.sc++b)):GO n (GM.rdb G b):=by
 have h0:GO n {G with sc:=(FF.FC.fd (G.sc++b)).2.2}:=⟨h.rt,h.ml,h.gd,h.mo,h.n0,h.n1⟩;unfold GM.rdb;simp only;split
 ·exact(h0.nte _ _).frs (fd_may _ rfl hs)
 ·exact h0.frs (fd_may _ rfl hs)
theorem srv_c:(GM.srv G).sc=G.sc∧(GM.srv G).pi=G.pi∧(GM.srv G).st=G.st∧(GM.srv G).N.length≤G.N.length+G.L.length:=by
 unfold GM.srv;split
 ·exact⟨rfl,rfl,rfl,by omega⟩
 ·exact⟨srvs_c.1,srvs_c.2,(GM.srvs_M G _).2,by have:=GM.srvs_N G G.M.length;omega⟩
theorem GO.srv(h:GO n G):GO n (GM.srv G):=by
 unfold GM.srv;split
 ·exact h
 ·exact h.srvs _
theorem GQ.tk3(h:GQ n G)(hn:n<1000)(hb:FF.FC.Bs b)(hl:b.length≤900):GQ (n+1) (GM.tk3 G b)∧(GM.tk3 G b).N.length≤300∧(GM.tk3 G b).st=G.st∧(GM.tk3 G b).pi=G.pi:=by
 have h0:GO n {G with N:=[],nd:=0}:=⟨h.go.rt,h.go.ml,h.go.gd,h.go.mo,h.go.n0,h.go.n1⟩;have hbs:FF.FC.Bs (G.sc++b):=h.bs.append hb;have hll:(G.sc++b).length≤1000:=by have:=h.sl;rw[List.length_append];omega
 have h1:=h0.rdb (b:=b) hbs;have h2:=h1.pss hn;have c:=@rdb_c {G with N:=[],nd:=0} b;have cN:=@rdb_N {G with N:=[],nd:=0} b hll;have s:=@srv_c (GM.pss (GM.rdb {G with N:=[],nd:=0} b));have hL:=h2.gd.len;have e1:(GM.tk3 G b).st=G.st:=s.2.2.1.trans c.2.2;have e2:(GM.tk3 G b).pi=G.pi:=s.2.1.trans c.2.1;have e3:(GM.tk3 G b).sc=(FF.FC.fd (G.sc++b)).2.2:=s.1.trans c.1;refine⟨⟨h2.srv,by rw[e3];exact FF.FC.fd_Bs hbs,by rw[e3];exact(FF.FC.fd_left _).1,by rw[e2];exact h.p0,by rw[e1,e2];exact h.p1⟩,Nat.le_trans s.2.2.2 ?_,e1,e2⟩;have:(GM.rdb {G with N:=[],nd:=0} b).N.length≤0+101:=cN;show(GM.rdb {G with N:=[],nd:=0} b).N.length+_≤300;omega
theorem pln_c:(GM.pln G).sc=G.sc∧(GM.pln G).pi=G.pi∧(GM.pln G).st=G.st:=by
 rw[pln_eq];split<;>exact⟨rfl,rfl,rfl⟩
theorem GQ.tk4(h:GQ n G):GQ n (GM.tk4 G)∧(GM.tk4 G).st=G.st∧1≤(GM.tk4 G).pi:=by
 unfold GM.tk4;split
 ·obtain⟨c1,c2,c3⟩:=@pln_c G;have h1:=h.go.pln;have h2:=h.go.rt.per1;exact⟨⟨⟨h1.rt,h1.ml,h1.gd,h1.mo,h1.n0,h1.n1⟩,by show FF.FC.Bs (GM.pln G).sc;rw[c1];exact h.bs,by show(GM.pln G).sc.length<10;rw[c1];exact h.sl,by show 0≤G.st.per;omega,by show G.st.per≤(GM.pln G).st.per;rw[c3];exact Int.le_refl _⟩,c3,h2⟩
 ·exact⟨h,rfl,by have:=h.p0;omega⟩
theorem GQ.pi1(h:GQ n G)(h1:1≤G.pi):GQ n {G with pi:=G.pi-1}:=⟨⟨h.go.rt,h.go.ml,h.go.gd,h.go.mo,h.go.n0,h.go.n1⟩,h.bs,h.sl,by show 0≤G.pi-1;omega,by have:=h.p1;show G.pi-1≤G.st.per;omega⟩
theorem GQ.tll(h:GQ n G)(k:Nat):GQ n (GM.tll G k).2:=by
 obtain⟨M,e,-⟩:=GM.tll_eq (G:=G) k;have h1:=h.go.tll k;rw[e]at h1⊢;exact⟨h1,h.bs,h.sl,h.p0,h.p1⟩
theorem GQ.tk5(h:GQ n G)(hn:n<1000)(hb:FF.FC.Bs b)(hl:b.length≤900):GQ (n+1) (GM.tk5 G b)∧(GM.tk5 G b).st=G.st:=by
 obtain⟨h1,-,h3,-⟩:=h.tk3 hn hb hl;obtain⟨h4,h5,h6⟩:=h1.tk4;exact⟨h4.pi1 h6,h5.trans h3⟩
theorem GQ.tck(h:GQ n G)(hn:n<1000)(hb:FF.FC.Bs b)(hl:b.length≤900):GQ (n+1) (GM.tck G b).2:=(h.tk5 hn hb hl).1.tll _
theorem Told.cons{A:World}(h2:∀b,b<A.heap.size→ow' b=ow b)(h3:Kp (fun b=>ow b<1000) A W)(h:Told W ow' B C G l g W2):Told A ow B C G l g W2:=by
 obtain⟨h1,hg,o2,V2,k1,k2,k3,k4⟩:=h;exact⟨h1,Nat.le_trans h3.size hg,o2,V2,k1,fun b hb=>(k2 b (Nat.lt_of_lt_of_le hb h3.size)).trans (h2 b hb),h3.trans k3 fun b hb h=>by rw[h2 b hb]at h;exact h,k4⟩
theorem GX.mute(h:GX al W ow B C V G):GX al (W.setCell ⟨C.gb,18,none⟩ (.slice none 0 0)) ow B C {V with vn:=.slice none 0 0} {G with N:=[]}:=by
 have h1:W.heap[C.gb]?=some (.cells (gcv C V G).toArray 67 (0,0)):=h.pt 0 trivial;refine (((h.set C.gb h.t0 18 (.slice none 0 0)).mono (T':=fun t=>nx 0 t∧nx 5 t) fun _ x=>x.1).chg (G':={G with N:=[]}) (V':={V with vn:=.slice none 0 0}) rfl fun t x hp=> ?_).fill (T':=nx 0) 5 ⟨⟨rfl,.inl ⟨rfl,rfl⟩⟩,fun g hg=>by cases hg⟩ (fun t x=> ?_)|>.fills ?_
 ·match t,x,hp with
  |0,x,_=>exact absurd rfl x.1
  |1,_,hp=>exact hp
  |2,_,hp=>exact hp
  |3,_,hp=>exact hp
  |4,_,hp=>exact hp
  |5,x,_=>exact absurd rfl x.2
  |t+6,_,hp=>exact hp
 ·unfold nx at*;omega
 ·exact(heap_setCell_same W C.gb 18 _ _ _ h1).trans (by unfold gcv;simp[sv])
theorem gtick_any(h:GX al W ow B C V G)(hq:GQ n G)(hn:n<1000)(v:Value)(hb:FF.FC.Bs b)(hl:b.length≤900)(hv:∀X,Kp (fun k=>k=C.gb) W X→FF.RD X v b):
  Calls Tryz.prog 11 #[.pointer (some ⟨C.gb,0,none⟩),v] W fun e w'=>∃g,e=.returned (.slice (some ⟨g,0,none⟩) (GM.tk5 G b).M.length (GM.tk5 G b).M.length)∧Told W ow B C (GM.tck G b).2 (GM.tck G b).1 g w':=by
 have h1:=h.mute;have h2:=h1.put 19 (.int .i64 0) G.rc G.pi 0 rfl;have HH:=Hd h;have c18:W.cell? ⟨C.gb,18,none⟩=some V.vn:=h.cell 18;have r18:=h.fr 18;have c19:(W.setCell ⟨C.gb,18,none⟩ (.slice none 0 0)).cell? ⟨C.gb,19,none⟩=some (.int .i64 G.nd):=h1.cell 19;have r19:=h1.fr 19;have hk:Kp (fun k=>k=C.gb) W ((W.setCell ⟨C.gb,18,none⟩ (.slice none 0 0)).setCell ⟨C.gb,19,none⟩ (.int .i64 0)):=((Kp.refl (fun k=>k=C.gb) W).set _ _ _ fun _=>rfl).set _ _ _ fun _=>rfl;have h0:GO n {G with N:=[],nd:=0}:=⟨hq.go.rt,hq.go.ml,hq.go.gd,hq.go.mo,hq.go.n0,hq.go.n1⟩;have hll:(G.sc++b).length≤1000:=by have:=hq.sl;rw[List.length_append];omega
 have HR:=Hd (gread_any h2 v b h0 (hv _ hk) hl hq.bs hq.sl (Nat.zero_le _));have HK:=Hd (hk.mono (G:=fun b=>ow b<1000) fun b _ e=>by show ow b<1000;rw[e,h.t0];omega);have h1r:=h0.rdb (b:=b) (hq.bs.append hb);have HO1:=Hd h1r;have HO2:=Hd (h1r.pss hn);have HN2:Hid ((GM.pss (GM.rdb {G with N:=[],nd:=0} b)).N.length≤3000):=Nat.le_trans (@rdb_N {G with N:=[],nd:=0} b hll) (by show 0+101≤3000;omega);obtain⟨q3,n3,s3,-⟩:=hq.tk3 hn hb hl;have HQ3:=Hd q3;have HN3:=Hd n3;have HE3:Hid (GM.srv (GM.pss (GM.rdb {G with N:=[],nd:=0} b))=GM.tk3 G b):=rfl;have HE5:Hid (GM.tk5 G b={GM.tk4 (GM.tk3 G b)with pi:=(GM.tk4 (GM.tk3 G b)).pi-1}):=rfl;have HET:Hid (GM.tck G b=GM.tll (GM.tk5 G b) (GM.tk5 G b).M.length):=rfl;rw[HET.out];obtain⟨G3,hG3⟩:∃x,GM.tk3 G b=x:=⟨_,rfl⟩;obtain⟨G5,hG5⟩:∃x,GM.tk5 G b=x:=⟨_,rfl⟩;obtain⟨G1,hG1⟩:∃x,GM.rdb {G with N:=[],nd:=0} b=x:=⟨_,rfl⟩;rw[hG1]at HR HO1 HO2 HN2 HE3;rw[hG3]at HQ3 HN3 HE3 HE5;rw[hG5]at HE5⊢;clear h h1 h2 hk h0 hll h1r hq q3 n3 s3 HET hG1 hG3 hG5 hv
 go_enter Tryz.func11,Tryz.ntmps11
 go_wp2_with fail
 refine HR.out.mono ?_;rintro e W2 ⟨rfl,hg⟩;have hg2:=Ga.cons (fun _ _=>rfl) HK.out hg;have HP:=Hd (hg2.call (Below.refl _ _) fun _ _ hx=>gpass_any hx HO1.out);clear hg hg2 HR HK c18 r18 c19 r19 HO1
 go_wp2_with fail
 refine HP.out.mono ?_;rintro e W3 ⟨rfl,hg,-⟩;have HS:=Hd (hg.call (Below.refl _ _) fun _ _ hx=>gserve_any hx HO2.out HN2.out);clear hg HP HO2 HN2
 go_wp2_with fail
 refine HS.out.mono ?_;rintro e W4 ⟨rfl,hg,-⟩;rw[HE3.out]at hg;have HG:=Hd hg;obtain⟨o4,V4,hx4,-,-⟩:=hg;obtain⟨p3,hp3⟩:∃x,G3.pi=x:=⟨_,rfl⟩;have c17:W4.cell? ⟨C.gb,17,none⟩=some (.int .i64 p3):=hp3▸hx4.cell 17;have HP3:=Hd hp3;clear hx4 hp3 HS HE3
 go_upto_if 22 with (fail)
 go_cut [] (fun X=>Hid (Ga W ow B C (GM.tk4 G3) X))
 case first=>
  by_cases q:p3=0
  ·have qz:(p3==0)=true:=by simpa using q
   have HE4:Hid (GM.tk4 G3={GM.pln G3 with pi:=G3.st.per}):=by show _=_;unfold GM.tk4;rw[if_pos (HP3.out.trans q)]
   have HX:=Hd (HG.out.call (Below.refl _ _) fun _ _ hx=>gplan_any hx HQ3.out.go (by have:=HN3.out;omega));clear q HG
   go_wp2_with fail
   refine HX.out.mono ?_;rintro e W5 ⟨rfl,hg,-⟩;obtain⟨o5,V5,hx5,h25,h35⟩:=hg;have c12:W5.cell? ⟨C.gb,12,none⟩=some (.int .i64 G3.st.per):=by rw[←(@pln_c G3).2.2];exact hx5.cell 12
   have c17:W5.cell? ⟨C.gb,17,none⟩=some (.int .i64 (GM.pln G3).pi):=hx5.cell 17;have r17:=hx5.fr 17
   have HG5:Hid (Ga W ow B C (GM.tk4 G3) (W5.setCell ⟨C.gb,17,none⟩ (.int .i64 G3.st.per))):=by
    rw[HE4.out];exact⟨o5,V5,hx5.put 17 (.int .i64 G3.st.per) (GM.pln G3).rc G3.st.per (GM.pln G3).nd rfl,h25,h35.set _ _ _ fun hb=>by rw[←h25 _ hb,hx5.t0];omega⟩
   clear hx5 h25 h35 HX HE4;go_wp2;go_meet
   case rel=>exact HG5
  ·have qz:(p3==0)=false:=by simpa using q
   have HE4:Hid (GM.tk4 G3=G3):=by show _=_;unfold GM.tk4;rw[if_neg (fun e=>q (HP3.out.symm.trans e))]
   rw[←HE4.out]at HG;clear q;go_wp2;go_meet
   case rel=>rw[HE4.out]at HG⊢;exact HG
 case rest=>
  obtain⟨q4,-,i4⟩:=HQ3.out.tk4;obtain⟨G4,hG4⟩:∃x,GM.tk4 G3=x:=⟨_,rfl⟩;rw[hG4]at hcut q4 i4 HE5;obtain⟨o5,V5,hx5,h25,h35⟩:=hcut.out;obtain⟨p4,hp4⟩:∃x,G4.pi=x:=⟨_,rfl⟩;have c17:wc.cell? ⟨C.gb,17,none⟩=some (.int .i64 p4):=hp4▸hx5.cell 17;have r17:=hx5.fr 17;have hx6:=hx5.put 17 (.int .i64 (p4-1)) G4.rc (p4-1) G4.nd rfl;have hg5:{G4 with rc:=G4.rc,pi:=p4-1,nd:=G4.nd}=G5:=by rw[HE5.out,hp4]
  rw[hg5]at hx6;have i5:=q4.p1;have i6:=q4.go.rt.per2;rw[hp4]at i4 i5;have HT:=Hd (tell_any hx6 (by rw[HE5.out];exact(q4.pi1 (by omega)).go));have HK6:=Hd (h35.set C.gb 17 (.int .i64 (p4-1)) fun hb=>by show ow C.gb<1000;rw[←h25 _ hb,hx5.t0];omega);have H25:=Hd h25;have hp2:1≤p4:=i4;have hp3:p4≤1000:=by omega
  clear hG4 q4 i4 hcut hx5 h25 h35 hp4 hx6 hg5 i5 i6 HE5 HG
  go_wp2_with fail
  refine HT.out.mono ?_;rintro e W6 ⟨g,rfl,ht⟩;have HTT:=Hd (ht.cons H25.out HK6.out);clear ht HT HK6 H25;go_wp2;go_ret;exact⟨g,rfl,HTT.out⟩
end
open Go.Shelf
def nl:Value:=.slice none 0 0
def zm:List Value:=[.bool false,.bool false,.bool false,.bool false,.bool false,.int .i64 0,.int .i64 0,.int .i64 0,.pointer none,.bool false,.bool false,.slice none 0 0]
def zms(n:Nat):List Value:=(List.replicate n zm).flatten
def zrow(lo i n:Nat):List Value:=mrow (fun k=>lo+k) (fun _=>nl) 0 (List.replicate i GM.z)++zms (n-i)
theorem mrow_snoc{lb:Nat→Nat}{vl:Nat→Value}{m:Mb}:∀(M:List Mb) (k:Nat),mrow lb vl k (M++[m])=mrow lb vl k M++mc (lb (k+M.length)) (vl (k+M.length)) m
 |[],k=>by simp[mrow]
 |x::M,k=>by
  show mc _ _ x++mrow lb vl (k+1) (M++[m])=(mc _ _ x++mrow lb vl (k+1) M)++_;rw[mrow_snoc M,List.append_assoc,List.length_cons,show k+1+M.length=k+(M.length+1) by omega]
theorem zrow_all(lo n:Nat):zrow lo n n=mrow (fun k=>lo+k) (fun _=>nl) 0 (List.replicate n GM.z):=by unfold zrow;rw[Nat.sub_self];exact List.append_nil _
theorem zrow_set{lo i n:Nat}(h:i<n):(zrow lo i n).set (i*12+8) (.pointer (some ⟨lo+i,0,none⟩))=zrow lo (i+1) n:=by
 unfold zrow;have hl:=mrow_length (lb:=fun k=>lo+k) (vl:=fun _=>nl) (List.replicate i GM.z) 0;rw[List.length_replicate]at hl;rw[List.set_append_right _ _ (by omega),hl,Nat.add_sub_cancel_left,List.replicate_succ',mrow_snoc,List.append_assoc,List.length_replicate,Nat.zero_add,show n-i=(n-(i+1))+1 by omega]
 rfl
theorem zrow_get{lo i n:Nat}(h:i<n):(zrow lo i n)[i*12+8]?=some (.pointer none):=by
 unfold zrow;have hl:=mrow_length (lb:=fun k=>lo+k) (vl:=fun _=>nl) (List.replicate i GM.z) 0;rw[List.length_replicate]at hl;rw[List.getElem?_append_right (by omega),hl,Nat.add_sub_cancel_left,show n-i=(n-(i+1))+1 by omega]
 rfl
theorem infoMz:(Tryz.prog.info? 73).map (fun i=>(i.zero,i.size,i.bytes))=some (some (.agg zm.toArray),12,72):=by kernel_rfl
theorem mkGm(n:Nat)(hn:n≤8)(W:World):(Instr.makeSlice 63 (.int .i64 (n:Int)) (.int .i64 (n:Int))).run Tryz.prog W=.ok (.slice (some ⟨W.heap.size,0,none⟩) n n) (W.alloc (.cells (zms n).toArray 73)):=by
 obtain⟨i,hi,h1,h2,h3⟩:=info_parts infoMz
 have:=run_make (P:=Tryz.prog) W 63 73 i _ Tryz.underlying63 hi h1 .i64 .i64 (n:Int) (n:Int) (by omega) (by omega) (by
  have:(i.bytes:Int)*(n:Int)≤72*8:=Int.mul_le_mul (by omega) (by omega) (by omega) (by omega)
  omega) (by omega)
 have e:madeCells (Value.agg zm.toArray).cells (n*12)=(zms n).toArray:=by
  have:n=0∨n=1∨n=2∨n=3∨n=4∨n=5∨n=6∨n=7∨n=8:=by omega
  apply Array.toList_inj.1;rcases this with rfl|rfl|rfl|rfl|rfl|rfl|rfl|rfl|rfl<;>simp[madeCells,Value.cells,zms,zm,List.replicate,List.range,List.range.loop]
 rw[this,h2,Int.toNat_natCast,e]
theorem built_gr(s:St)(b g n:Nat):Tryz.prog.built 67 [(0,.agg (sv s).toArray),(2,.pointer (some ⟨b,0,none⟩)),(3,.slice (some ⟨g,0,none⟩) n n)]=some (sv s++[nl,.pointer (some ⟨b,0,none⟩),.slice (some ⟨g,0,none⟩) n n,.bool false,.int .i64 0,nl,.int .i64 0]).toArray:=by kernel_rfl
theorem wpOp_stP{ops:Array Oper}{Q:Exit→Act→World→Prop}{i:Nat}{o:Oper}{K:Act→World→Prop}{a:Act}{w:World}(hi:ops[i]?=some o)(hw:Region.wanted o (yielded ops a.tmps)=true)(x y:Operand)(ho:o.op=.store 68 x y)
  (b f l:Nat) (hx:a.eval x=.pointer (some ⟨b,f,none⟩)) (hy:a.eval y=.pointer (some ⟨l,0,none⟩)) (hr:w.cell? ⟨b,f,none⟩=some (.pointer none)) (hf:w.frozen? ⟨b,f,none⟩=false) (h:K (a.put o.dst undef) (w.setCell ⟨b,f,none⟩ (.pointer (some ⟨l,0,none⟩)))):wpOp Tryz.prog ops Q i K a w:=by
 unfold wpOp;rw[hi];simp only;rw[if_pos hw];refine .inl ?_;have hl:(Instr.storeAt 68 (.pointer (some ⟨b,f,none⟩)) (.pointer (some ⟨l,0,none⟩))).run Tryz.prog w=.ok () (w.setCell ⟨b,f,none⟩ (.pointer (some ⟨l,0,none⟩))):=by simp[go_sem,hr,hf]
 unfold Oper.wp execOp;simp only[ho,Sem.run_bind,Sem.run_pure,Result.andThen_ok,hx,hy,hl];exact h
theorem gl23{o:Oper}{a:Act}{w:World}(x:Operand)(b:Nat)(s:St)(ho:o.op=.load 23 x)(hx:a.eval x=.pointer (some ⟨b,0,none⟩))(h:SB w b s):(execOp a.eval o).run Tryz.prog w=.ok (.value (.agg (sv s).toArray)) w:=by
 unfold execOp;simp only[ho,hx,Sem.run_bind,Sem.run_pure,Result.andThen_ok,load23 w b s h.range]
section
variable {S:World→Prop} {ops:Array Oper} {Q:Exit→Act→World→Prop} {i:Nat} {o:Oper} {K:Act→World→Prop} {a:Act} {w:World}
theorem wpOp_mkGm(hi:ops[i]?=some o)(hw:Region.wanted o (yielded ops a.tmps)=true)(x y:Operand)(ho:o.op=.makeSlice 63 x y)(n:Nat)(hn:n≤8)(hx:a.eval x=.int .i64 (n:Int))(hy:a.eval y=.int .i64 (n:Int))
  (h:K (a.put o.dst (.slice (some ⟨w.heap.size,0,none⟩) n n)) (w.alloc (.cells (zms n).toArray 73))):wpOp Tryz.prog ops Q i K a w:=
 wpOp_val hi hw (by unfold execOp;simp only[ho,hx,hy,Sem.run_bind,Sem.run_pure,Result.andThen_ok,mkGm n hn]) h
end
def G0(s:St):Gs:=⟨s,[],[],0,List.replicate s.ca.toNat GM.z,false,0,[],0⟩
structure Nw(W wr:World)(s:St)(gb cb bb lo i n:Nat):Prop where
 bel:Below W.heap.size W wr
 g:wr.heap[gb]?=some (.cells (sv s++[nl,.pointer (some ⟨bb,0,none⟩),.slice (some ⟨cb,0,none⟩) n n,.bool false,.int .i64 0,nl,.int .i64 0]).toArray 67 (0,0))
 c:wr.heap[cb]?=some (.cells (zrow lo i n).toArray 73 (0,0))
 b:CC.PB wr bb s.fl s.ca nl 0
 l:∀j,j<i→LL.LB wr (lo+j) LL.LM.z
 sz:wr.heap.size=lo+i
 gl:W.heap.size≤gb∧gb<lo∧W.heap.size≤cb∧cb<lo∧W.heap.size≤bb∧bb<lo∧gb≠cb∧gb≠bb∧cb≠bb
section
variable {W wr W':World} {s:St} {gb cb bb lo i n:Nat}
theorem Nw.c15(h:Nw W wr s gb cb bb lo i n):wr.cell? ⟨gb,15,none⟩=some (.slice (some ⟨cb,0,none⟩) n n):=by simp[World.cell?,h.g,sv]
theorem Nw.drew(h:Nw W wr s gb cb bb lo i n):Nw W wr.drew s gb cb bb lo i n:=⟨h.bel.drew,h.g,h.c,h.b,h.l,h.sz,h.gl⟩
theorem Nw.lnk{o:Obj}(h:Nw W wr s gb cb bb lo i n):(wr.alloc o).cell? ⟨gb,15,none⟩=some (.slice (some ⟨cb,0,none⟩) n n)∧∀k,k=i→k<n→(wr.alloc o).cell? ⟨cb,k*12+8,none⟩=some (.pointer none)∧(wr.alloc o).frozen? ⟨cb,k*12+8,none⟩=false:=by
 have hs:=h.sz;have hl:=h.gl;have hg:=(Below.heap_alloc wr o gb (by omega)).trans h.g;have hc:=(Below.heap_alloc wr o cb (by omega)).trans h.c;refine⟨by simp[World.cell?,hg,sv],fun k hk hn=>⟨?_,by simp[World.frozen?,hc]⟩⟩;subst hk;simp[World.cell?,hc,zrow_get hn]
theorem Nw.step(h:Nw W wr s gb cb bb lo i n)(hi:i<n):Nw W ((wr.alloc (.cells #[.bool false,.int .u16 0,.int .i64 0] 89)).setCell ⟨cb,i*12+8,none⟩ (.pointer (some ⟨lo+i,0,none⟩))) s gb cb bb lo (i+1) n:=by
 obtain⟨l1,l2,l3,l4,l5,l6,l7,l8,l9⟩:=h.gl;have hs:=h.sz;have k:∀b,b<wr.heap.size→b≠cb→((wr.alloc (.cells #[.bool false,.int .u16 0,.int .i64 0] 89)).setCell ⟨cb,i*12+8,none⟩ (.pointer (some ⟨lo+i,0,none⟩))).heap[b]?=wr.heap[b]?:=fun b hb hne=>(Below.heap_setCell _ _ _ _ hne).trans (Below.heap_alloc _ _ _ hb);refine⟨(h.bel.alloc h.bel.size _).setCell (p:=⟨cb,i*12+8,none⟩) l3 _,(k _ (by omega) l7).trans h.g,?_,(k _ (by omega) (Ne.symm l9)).trans h.b,fun j hj=> ?_,by simp[World.setCell];omega,h.gl⟩
 ·have h1:=heap_setCell_same (wr.alloc (.cells #[.bool false,.int .u16 0,.int .i64 0] 89)) cb (i*12+8) _ _ (.pointer (some ⟨lo+i,0,none⟩)) ((Below.heap_alloc wr _ cb (by omega)).trans h.c);refine h1.trans ?_;rw[←zrow_set hi];simp
 ·by_cases e:j=i
  ·subst e;refine (Below.heap_setCell _ _ _ _ (by show lo+j≠cb;omega)).trans ?_;rw[←hs];exact World.alloc_heap_new wr _
  ·exact(k _ (by omega) (by omega)).trans (h.l j (by omega))
structure Nv(W wr:World)(s:St)(bb cb n:Nat):Prop where
 bel:Below W.heap.size W wr
 b:CC.PB wr bb s.fl s.ca nl 0
 c:wr.heap[cb]?=some (.cells (zms n).toArray 73 (0,0))
 bl:W.heap.size≤bb
 cl:W.heap.size≤cb
 ne:cb≠bb
 sb:SB wr W.heap.size s
theorem Nv.nw(h:Nv W wr s bb cb n):Nw W (wr.alloc (.cells (sv s++[nl,.pointer (some ⟨bb,0,none⟩),.slice (some ⟨cb,0,none⟩) n n,.bool false,.int .i64 0,nl,.int .i64 0]).toArray 67)) s wr.heap.size cb bb (wr.heap.size+1) 0 n:=by
 have h1:=h.b.lt;have h2:=(Array.getElem?_eq_some_iff.1 h.c).1;have h3:=h.bel.size;exact⟨h.bel.alloc h3 _,World.alloc_heap_new wr _,(Below.heap_alloc wr _ cb h2).trans h.c,h.b.alloc _,fun j hj=>by omega,by simp,by have:=h.bl;have:=h.cl;have:=h.ne;omega⟩
def ow0(gb cb bb lo n b:Nat):Nat:=if b=gb then 0 else if b=cb then 1 else if b=bb then 2 else if lo≤b∧b<lo+n then 10+2*(b-lo)else 1000
theorem Nw.gx(h:Nw W wr s gb cb bb lo n n)(hn:s.ca=n)(h8:n≤8):GX al wr (ow0 gb cb bb lo n) W.heap.size ⟨gb,cb,bb,fun k=>lo+k⟩ ⟨nl,nl,nl,fun _=>nl⟩ (G0 s):=by
 obtain⟨l1,l2,l3,l4,l5,l6,l7,l8,l9⟩:=h.gl;have hs:=h.sz;have hM:(G0 s).M=List.replicate n GM.z:=by unfold G0;rw[hn];rfl
 have hL:(G0 s).M.length=n:=by rw[hM,List.length_replicate]
 refine⟨fun t _=> ?_,by unfold ow0;rw[if_pos rfl],by unfold ow0;rw[if_neg (Ne.symm l7),if_pos rfl],by unfold ow0;rw[if_neg (Ne.symm l8),if_neg (Ne.symm l9),if_pos rfl],fun i hi=> ?_,fun k hk=> ?_,by omega,⟨by show gb<_;omega,by show cb<_;omega,by show bb<_;omega,fun i hi=> ?_⟩⟩
 ·match t with
  |0=>exact h.g.trans (by unfold gcv;rw[hL];rfl)
  |1=>exact h.c.trans (by rw[zrow_all,hM])
  |2=>exact⟨⟨h.b,CC.RW.nil _ _,(fun e=>by cases e),l5,(by decide:(0:Nat)<_)⟩,fun g hg=>by cases hg⟩
  |3=>exact trivial
  |4=>exact⟨⟨rfl,.inl ⟨rfl,rfl⟩⟩,fun g hg=>by cases hg⟩
  |5=>exact⟨⟨rfl,.inl ⟨rfl,rfl⟩⟩,fun g hg=>by cases hg⟩
  |t+6=>
   intro i m hm;rw[hM]at hm;have hi:i<n:=by have:=(List.getElem?_eq_some_iff.1 hm).1;rwa[List.length_replicate]at this
   obtain rfl:GM.z=m:=by
    rw[List.getElem?_replicate,if_pos hi]at hm;exact Option.some.inj hm
   exact⟨fun _=>h.l i hi,fun _=>⟨CC.RW.nil _ _,fun g hg=>by cases hg⟩⟩
 ·have hi:i<n:=by omega
  unfold ow0;rw[if_neg (by show lo+i≠gb;omega),if_neg (by show lo+i≠cb;omega),if_neg (by show lo+i≠bb;omega),if_pos (by show lo≤lo+i∧lo+i<lo+n;omega)];show 10+2*(lo+i-lo)=_;omega
 ·have hk:ow0 gb cb bb lo n k<1000:=hk;unfold ow0 at hk;have:=h.bel.size;split at hk
  ·omega
  ·split at hk
   ·omega
   ·split at hk
    ·omega
    ·split at hk
     ·omega
     ·omega
 ·show lo+i<_;omega
end
def GNew(s:St)(W:World)(e:Ending)(w':World):Prop:=∃ow C V,e=.returned (.tuple #[.pointer (some ⟨C.gb,0,none⟩),.int .i64 0])∧GX al w' ow W.heap.size C V (G0 s)∧Below W.heap.size W w'
section
theorem gnew_no(s:St)(r:¬SM.Rt s)(W:World):Calls Tryz.prog 8 #[.agg (sv s).toArray] W fun e w'=>e=.returned (.tuple #[.pointer none,.int .i64 1])∧Below W.heap.size W w':=by
 have HR:=Hd (right_any s (W.alloc (.cells (sv s).toArray 23)));have HS:=Hd (SB.new W s);have HB:=Hd ((Below.refl W.heap.size W).alloc (Nat.le_refl _) (.cells (sv s).toArray 23));rw[rightB_false r]at HR
 go_enter Tryz.func8,Tryz.ntmps8
 go_wp2_with (refine wpList_load23 rfl _ rfl W.heap.size s rfl HS.out ?_)
 refine HR.out.mono ?_;rintro e W2 ⟨rfl,hb2⟩;have HB2:=Hd (below_class HB.out hb2);clear hb2 HR HS HB;go_wp2
 go_ret2
 exact⟨rfl,HB2.out⟩
theorem gnew_yes(s:St)(r:SM.Rt s)(W:World):Calls Tryz.prog 8 #[.agg (sv s).toArray] W fun e w'=>GNew s W e w':=by
 have HR:=Hd (right_t s r (W.alloc (.cells (sv s).toArray 23)));have HS:=Hd (SB.new W s);have HB:=Hd ((Below.refl W.heap.size W).alloc (Nat.le_refl _) (.cells (sv s).toArray 23));obtain⟨n,hn,hn8⟩:∃n:Nat,s.ca=n∧n≤8:=⟨s.ca.toNat,by obtain⟨⟩:=r;omega,by obtain⟨⟩:=r;omega⟩;have HN:=Hd hn;clear hn
 go_enter Tryz.func8,Tryz.ntmps8
 go_wp2_with (refine wpList_load23 rfl _ rfl W.heap.size s rfl HS.out ?_)
 refine HR.out.mono ?_;rintro e W2 ⟨rfl,hb2⟩;have HB2:=Hd (below_class HB.out hb2);have HS2:=Hd (HS.out.below' hb2);have HL2:Hid (W.heap.size<W2.heap.size):=HS2.out.lt;clear hb2 HR HS HB
 go_upto_region 3 with (fail)
 refine wp_nrm ?_;refine wp_region_held (S:=fun w'=>SB w' W.heap.size s∧w'.cell? ⟨W.heap.size,1,none⟩=some (.int .i64 (n:Int))) (by kernel_rfl) ?_;change wpAnyH _ _ _ _ _ _ _ _ (World.drew _);have HSS:Hid (∀w',SB w' W.heap.size s→SB w' W.heap.size s∧w'.cell? ⟨W.heap.size,1,none⟩=some (.int .i64 (n:Int))):=fun w' h=>⟨h,by have:=h.cell 1;rw[this,←HN.out];rfl⟩;have HD:=Hd (HSS.out _ HS2.out.drew);have HX0:=Hd (HB2.out.drew);have HZ0:Hid (W.heap.size<W2.drew.heap.size):=HL2.out;generalize W2.drew=X0 at HD HX0 HZ0⊢;clear HB2 HS2 HL2;refine wpAnyH_take (i:=0) (v:=.agg (sv s).toArray) rfl (by kernel_rfl) (by kernel_rfl) (by kernel_rfl) (fun _ _ _ h=>by cases h.1) (.inl ⟨rfl,(fun w hw=>gl23 _ _ s rfl rfl hw.1)⟩) HD.out ?_;generalize hKK:wpAnyH _ _ _ _ _ _ _=KK;go_simp;subst hKK;refine wpAnyH_take (i:=1) (v:=.agg (sv s).toArray) rfl (by kernel_rfl) (by kernel_rfl) (by kernel_rfl) (fun _ _ _ h=>by cases h.1) (.inl ⟨rfl,(fun w hw=>gl23 _ _ s rfl rfl hw.1)⟩) HD.out ?_;generalize hKK:wpAnyH _ _ _ _ _ _ _=KK;go_simp;subst hKK;refine wpAnyH_take (i:=3) rfl (by kernel_rfl) (by kernel_rfl) (by kernel_rfl) (fun _ _ _ h=>by cases h.1) (.inl ⟨rfl,fun _ _=>rfl⟩) HD.out ?_;generalize hKK:wpAnyH _ _ _ _ _ _ _=KK;go_simp;subst hKK;refine wpAnyH_take (i:=4) (v:=.int .i64 (n:Int)) rfl (by kernel_rfl) (by kernel_rfl) (by kernel_rfl) (fun _ _ _ h=>by cases h.1) (.inl ⟨rfl,(fun w hw=>by have hc:=hw.2;go_simp)⟩) HD.out ?_;generalize hKK:wpAnyH _ _ _ _ _ _ _=KK;go_simp;subst hKK;refine wpAnyH_all (rs:=[2,5]) (by kernel_rfl) (by simp) (fun ii hii=> ?_);have h7:ii=2∨ii=5:=by simpa using hii
 clear hii;rcases h7 with rfl|rfl;refine wpOp_call (f:=23) (args:= #[.agg (sv s).toArray]) rfl rfl (by go_simp) (CC.new_any _ s.fl s.ca rfl rfl X0) ?_;rintro e X1 ⟨b,rfl,hlb,hb1,hpb⟩;have HS1:=Hd (HSS.out _ (HD.out.1.below' hb1));have HV:Hid (Nv W (X1.alloc (.cells (zms n).toArray 73)) s b X1.heap.size n):=⟨(below_class HX0.out hb1).alloc (below_class HX0.out hb1).size _,hpb.alloc _,World.alloc_heap_new X1 _,by have:=HX0.out.size;omega,(below_class HX0.out hb1).size,by have:=hpb.lt;omega,HS1.out.1.alloc _⟩;refine⟨_,rfl,HS1.out,?_⟩;have hpl:=hpb.lt;clear hlb hb1 hpb HD HX0;generalize hKK:wpAnyH _ _ _ _ _ _ _=KK;go_simp;subst hKK;refine wpAnyH_all (rs:=[5]) (by kernel_rfl) (by simp) (fun ii hii=> ?_);obtain rfl:ii=5:=by simpa using hii
 clear hii;refine wpOp_mkGm rfl rfl _ _ rfl n hn8 rfl rfl ⟨HSS.out _ HV.out.sb,?_⟩;generalize X1.alloc (.cells (zms n).toArray 73)=X2 at HV⊢;generalize X1.heap.size=g at HV⊢;clear HS1 hpl;rotate_left;have HV0:=Hd (World.alloc_heap_new X0 (.cells (zms n).toArray 73));have HS1:=Hd (HSS.out _ (HD.out.1.alloc (.cells (zms n).toArray 73)));have hbx:=HX0.out.alloc HX0.out.size (.cells (zms n).toArray 73);have HBX:=Hd hbx;refine wpOp_mkGm rfl rfl _ _ rfl n hn8 rfl rfl ⟨HS1.out,?_⟩;have HG:=Hd HX0.out.size;have HG2:Hid (X0.heap.size<(X0.alloc (.cells (zms n).toArray 73)).heap.size):=by show _<_;simp
 generalize X0.alloc (.cells (zms n).toArray 73)=X1 at HV0 HS1 HBX HG2⊢;generalize X0.heap.size=g at HV0 HG HG2⊢;clear hbx HD HX0;generalize hKK:wpAnyH _ _ _ _ _ _ _=KK;go_simp;subst hKK;refine wpAnyH_all (rs:=[2]) (by kernel_rfl) (by simp) (fun ii hii=> ?_);obtain rfl:ii=2:=by simpa using hii
 clear hii;refine wpOp_call (f:=23) (args:= #[.agg (sv s).toArray]) rfl rfl (by go_simp) (CC.new_any _ s.fl s.ca rfl rfl X1) ?_;rintro e X2 ⟨b,rfl,hlb,hb1,hpb⟩;have HV:Hid (Nv W X2 s b g n):=⟨below_class HBX.out hb1,hpb,(hb1.block g HG2.out).trans HV0.out,Nat.le_trans HG.out (by have:=HG2.out;omega),HG.out,by have:=HG2.out;omega,HS1.out.1.below' hb1⟩;refine⟨_,rfl,HSS.out _ HV.out.sb,?_⟩;clear hlb hb1 hpb HV0 HS1 HBX HG HG2
 all_goals
  have HD:=Hd (HSS.out _ HV.out.sb);generalize hKK:wpAnyH _ _ _ _ _ _ _=KK;go_simp;subst hKK;refine wpAnyH_take (i:=6) rfl (by kernel_rfl) (by kernel_rfl) (by kernel_rfl) (fun _ _ _ h=>by cases h.1) (yif_build rfl _ _ rfl [(0,.agg (sv s).toArray),(2,.pointer (some ⟨b,0,none⟩)),(3,.slice (some ⟨g,0,none⟩) n n)] (by simp[Act.eval]) _ (built_gr s b g n)) HD.out ?_;generalize hKK:wpAnyH _ _ _ _ _ _ _=KK;go_simp;subst hKK;refine wpAnyH_all (rs:=[7]) (by kernel_rfl) (by simp) (fun ii hii=> ?_);obtain rfl:ii=7:=by simpa using hii
  clear hii;have HW:=Hd HV.out.nw;refine wpOp_box rfl rfl _ _ rfl _ rfl ⟨HSS.out _ (HV.out.sb.alloc _),?_⟩;clear HD;have HD:=Hd (HSS.out _ (HV.out.sb.alloc (.cells (sv s++[nl,.pointer (some ⟨b,0,none⟩),.slice (some ⟨g,0,none⟩) n n,.bool false,.int .i64 0,nl,.int .i64 0]).toArray 67)));generalize X2.alloc (.cells (sv s++[nl,.pointer (some ⟨b,0,none⟩),.slice (some ⟨g,0,none⟩) n n,.bool false,.int .i64 0,nl,.int .i64 0]).toArray 67)=X3 at HW HD⊢;generalize X2.heap.size+1=lo at HW;generalize X2.heap.size=gb at HW⊢;clear HV;generalize hKK:wpAnyH _ _ _ _ _ _ _=KK;go_simp;subst hKK;refine wpAnyH_take (i:=8) rfl (by kernel_rfl) (by kernel_rfl) (by kernel_rfl) (fun _ _ _ h=>by cases h.1) (.inl ⟨rfl,fun _ _=>rfl⟩) HD.out ?_;generalize hKK:wpAnyH _ _ _ _ _ _ _=KK;go_simp;subst hKK;refine wpAnyH_done (by kernel_rfl) ⟨rfl,?_⟩ _;have c15:=HW.out.c15;clear HSS HD
  go_wp2_with fail
  clear c15
  go_loopw [22] (fun iv wr=>∃i:Nat,i≤n∧iv=.int .i64 (i:Int)∧Hid (Nw W wr s gb g b lo i n)) (fun iv _=>n-(intOf iv).toNat)
  case atStart=>exact⟨0,Nat.zero_le _,rfl,HW⟩
  case round=>
   clear HW;obtain⟨i,hi,rfl,HW⟩:=hrel;by_cases hlt:i<n
   ·have hz:(i:Int)<(n:Int):=by omega
    have c15:=HW.out.c15;have hix:∀W:World,_:=fun W=>ixM (ab:=g) W hlt
    go_wp2_with fail
    refine wp_nrm ?_;refine wp_region_held (S:=fun w'=>w'.cell? ⟨gb,15,none⟩=some (.slice (some ⟨g,0,none⟩) n n)) (by kernel_rfl) ?_;change wpAnyH _ _ _ _ _ _ _ _ (World.drew _);have HWD:=Hd HW.out.drew;have HD:Hid (wr.drew.cell? ⟨gb,15,none⟩=some (.slice (some ⟨g,0,none⟩) n n)):=c15;generalize wr.drew=wd at HWD HD⊢;refine wpAnyH_take (i:=0) rfl (by kernel_rfl) (by kernel_rfl) (by kernel_rfl) (fun _ _ _ h=>by cases h.1) (.inl ⟨rfl,fun _ _=>rfl⟩) HD.out ?_;generalize hKK:wpAnyH _ _ _ _ _ _ _=KK;go_simp;subst hKK;refine wpAnyH_take (i:=1) rfl (by kernel_rfl) (by kernel_rfl) (by kernel_rfl) (fun _ _ _ h=>by cases h.1) (.inl ⟨rfl,fun _ _=>rfl⟩) HD.out ?_;generalize hKK:wpAnyH _ _ _ _ _ _ _=KK;go_simp;subst hKK;refine wpAnyH_take (i:=2) rfl (by kernel_rfl) (by kernel_rfl) (by kernel_rfl) (fun _ _ _ h=>by cases h.1) (.inl ⟨rfl,fun _ _=>rfl⟩) HD.out ?_;generalize hKK:wpAnyH _ _ _ _ _ _ _=KK;go_simp;subst hKK;refine wpAnyH_take (i:=3) (v:=.slice (some ⟨g,0,none⟩) n n) rfl (by kernel_rfl) (by kernel_rfl) (by kernel_rfl) (fun _ _ _ h=>by cases h.1) (.inl ⟨rfl,(fun w hw=>by have hc:=hw;go_simp)⟩) HD.out ?_;generalize hKK:wpAnyH _ _ _ _ _ _ _=KK;go_simp;subst hKK;refine wpAnyH_take (i:=4) rfl (by kernel_rfl) (by kernel_rfl) (by kernel_rfl) (fun _ _ _ h=>by cases h.1) (.inl ⟨rfl,fun _ _=>rfl⟩) HD.out ?_;generalize hKK:wpAnyH _ _ _ _ _ _ _=KK;go_simp;subst hKK;refine wpAnyH_all (rs:=[5]) (by kernel_rfl) (by simp) (fun ii hii=> ?_);obtain rfl:ii=5:=by simpa using hii
    clear hii;refine wpOp_call (f:=24) (args:= #[]) rfl rfl (by go_simp) (LL.new_any _) ?_;rintro e X1 ⟨rfl,rfl⟩;have HS:=Hd (HWD.out.step hlt);have HC:=Hd (HWD.out.lnk (o:=.cells #[.bool false,.int .u16 0,.int .i64 0] 89));have hbl:wd.heap.size=lo+i:=HWD.out.sz;rw[hbl];refine⟨_,rfl,HC.out.1,?_⟩;have HD:=Hd HC.out.1;generalize wd.alloc (.cells #[.bool false,.int .u16 0,.int .i64 0] 89)=X1 at HS HD HC⊢;clear hbl HWD HW;generalize hKK:wpAnyH _ _ _ _ _ _ _=KK;go_simp;subst hKK;refine wpAnyH_take (i:=6) (v:=.pointer (some ⟨g,i*12,none⟩)) rfl (by kernel_rfl) (by kernel_rfl) (by kernel_rfl) (fun _ _ _ h=>by cases h.1) (.inl ⟨rfl,(fun w _=>by have:=hix w;go_simp)⟩) HD.out ?_;generalize hKK:wpAnyH _ _ _ _ _ _ _=KK;go_simp;subst hKK;refine wpAnyH_take (i:=7) rfl (by kernel_rfl) (by kernel_rfl) (by kernel_rfl) (fun _ _ _ h=>by cases h.1) (.inl ⟨rfl,fun _ _=>rfl⟩) HD.out ?_;generalize hKK:wpAnyH _ _ _ _ _ _ _=KK;go_simp;subst hKK;refine wpAnyH_all (rs:=[8]) (by kernel_rfl) (by simp) (fun ii hii=> ?_);obtain rfl:ii=8:=by simpa using hii
    clear hii;refine wpOp_stP rfl rfl _ _ rfl g (i*12+8) (lo+i) rfl rfl (HC.out.2 i rfl hlt).1 (HC.out.2 i rfl hlt).2 ⟨HS.out.c15,?_⟩;generalize X1.setCell ⟨g,i*12+8,none⟩ (.pointer (some ⟨lo+i,0,none⟩))=X2 at HS⊢;generalize hKK:wpAnyH _ _ _ _ _ _ _=KK;go_simp;subst hKK;refine wpAnyH_done (by kernel_rfl) ⟨rfl,?_⟩ _;have hi1:i+1≤n:=hlt;clear HC HD;go_wp2;go_roundw
    case rel=>exact⟨i+1,hi1,by go_num,HS⟩
    case measure=>simp[intOf];omega
   ·have hz:¬(i:Int)<(n:Int):=by omega
    obtain rfl:i=n:=by omega
    have HG:=Hd (HW.out.gx HN.out hn8);have HB:=Hd HW.out.bel;clear HW;go_wp2
    go_ret2
    exact⟨_,⟨gb,g,b,fun k=>lo+k⟩,⟨nl,nl,nl,fun _=>nl⟩,rfl,HG.out,HB.out⟩
end
theorem set_some{α:Type}:∀{l:List α} {i:Nat} {x:α},l[i]?=some x→l.set i x=l
 |[],_,_,_=>rfl
 |y::l,0,x,h=>by simp at h;rw[h];rfl
 |y::l,i+1,x,h=>by rw[List.set_cons_succ,set_some (by simpa using h)]
namespace GM
def cor(m:Mb):Mb:={m with su:=false,sd:=false,ls:=[]}
section
variable {G:Gs} {b:List Nat} {n:Nat}
theorem adn_cor(wd:List CC.Cl)(M:List Mb)(P:List (List Int)):∀k,(adn wd M P k).map cor=M.map cor
 |0=>rfl
 |k+1=>by
  unfold adn;split
  ·rename_i m l hm hl;rw[List.map_set,adn_cor wd M P k];exact set_some (by rw[List.getElem?_map,hm];rfl)
  ·exact adn_cor wd M P k
theorem tk4_c:(tk4 G).L=G.L∧(tk4 G).rc=G.rc∧(tk4 G).s=G.s∧(tk4 G).M.map cor=G.M.map cor:=by
 unfold tk4;split
 ·show(pln G).L=_∧(pln G).rc=_∧(pln G).s=_∧(pln G).M.map cor=_;rw[pln_eq];split<;>exact⟨rfl,rfl,rfl,adn_cor _ _ _ _⟩
 ·exact⟨rfl,rfl,rfl,rfl⟩
theorem cmd_cor(m:Mb):cor (cmd G n m).2=cor m:=by
 unfold cmd snd
 (repeat' split)<;>rfl
theorem tll_c:∀n,(tll G n).2={G with M:=(tll G n).2.M}∧(tll G n).2.M.map cor=G.M.map cor
 |0=>⟨rfl,rfl⟩
 |n+1=>by
  obtain⟨h1,h2⟩:=tll_c n;cases hm:G.M[n]? with
  |none=>
   have e:tll G (n+1)=tll G n:=by
    show(match G.M[n]? with|none=>tll G n|some m=>_)=_;rw[hm]
   rw[e];exact⟨h1,h2⟩
  |some m=>
   rw[tll_more hm];refine⟨by simp only;rw[h1],?_⟩;show((tll G n).2.M.set n (cmd G n m).2).map cor=_;rw[List.map_set,h2,cmd_cor];exact set_some (by rw[List.getElem?_map,hm];rfl)
theorem tck_c:(tck G b).2.L=(tk3 G b).L∧(tck G b).2.rc=(tk3 G b).rc∧(tck G b).2.M.map cor=(tk3 G b).M.map cor∧(tck G b).2.N=(tk4 (tk3 G b)).N∧(tck G b).2.nd=(tk4 (tk3 G b)).nd∧(tck G b).2.s=(tk3 G b).s:=by
 obtain⟨h1,h2⟩:=tll_c (G:=tk5 G b) (tk5 G b).M.length;have k:=@tk4_c (tk3 G b);have e:(tck G b).2={tk5 G b with M:=(tck G b).2.M}:=h1;rw[e];exact⟨k.1,k.2.1,h2.trans k.2.2.2,rfl,rfl,k.2.2.1⟩
theorem tll_at:∀{k i:Nat} {m:Mb},i<k→G.M[i]?=some m→k≤G.M.length→(tll G k).1[i]?=some (cmd G i m).1
 |0,_,_,h,_,_=>by omega
 |k+1,i,m,h,hm,hk=>by
  obtain⟨x,hx⟩:∃x,G.M[k]?=some x:=⟨_,List.getElem?_eq_getElem (by omega)⟩;rw[tll_more hx];have hl:=tll_len (G:=G) (n:=k) (by omega);by_cases e:i=k
  ·subst e;rw[hm]at hx;cases hx;rw[List.getElem?_append_right (by omega),hl,Nat.sub_self];rfl
  ·rw[List.getElem?_append_left (by omega)];exact tll_at (by omega) hm (by omega)
end
end GM
def gs:St:=⟨5,1,0,2,0,3,1,1,0,9,9,9,1⟩
def gf1:FF.Fr:=⟨1,0,1,2,2,0⟩
def gf2:FF.Fr:=⟨2,255,0,2,1,0⟩
theorem spk1:(GM.tck (G0 gs) (FF.FC.en gf1++FF.FC.en gf2)).1=[(true,-1)]:=by decide+kernel
theorem spk2:(GM.tck (G0 gs) (FF.FC.en gf1++FF.FC.en gf2)).2.L.length=1:=by decide+kernel
theorem gs_rt:SM.Rt gs:=by constructor<;>decide
theorem gf_may:FF.FC.May gf1∧FF.FC.May gf2:=⟨by constructor<;>decide,by constructor<;>decide⟩
theorem GQ.new{s:St}(h:SM.Rt s):GQ 0 (G0 s):=by
 have hc:((List.replicate s.ca.toNat GM.z).length:Int)=s.ca:=by rw[List.length_replicate];have:=h.ca1;omega
 refine⟨⟨h,hc,?_,fun m hm=> ?_,Int.le_refl _,by decide⟩,FF.FC.Bs.nil,(by decide:0<10),Int.le_refl _,by show 0≤s.per;have:=h.per1;omega⟩
 ·exact CC.KM.Gd.nil _ _ _
 ·obtain rfl:=List.eq_of_mem_replicate hm;exact⟨LL.LM.ok_z,Int.le_refl _,by show 0<s.fl;have:=h.fl1;omega,Int.le_refl _,by show 0<s.fl;have:=h.fl1;omega,by decide⟩
def sev(m:Mb):List Value:=[.bool m.lv,.bool m.ou,.bool m.mo,.bool m.fa,.bool m.ov,.int .i64 m.fl,.int .i64 m.tg,.int .i64 m.ph]
def GM.see(M:List Mb)(c:Int):Mb:=if 0≤c∧c<M.length then(M[c.toNat]?).getD z else z
theorem infoSe:(Tryz.prog.info? 43).map (·.size)=some 8:=by kernel_rfl
theorem built_se:Tryz.prog.built 43 []=some (sev GM.z).toArray:=by kernel_rfl
section
variable {W W' W2:World} {ow:Nat→Nat} {B:Nat} {C:Gc} {V:Gv} {G:Gs} {m:Mb} {i:Nat} {N:List (Int×Int)} {v:Value}
theorem wpList_loadSe{ops:Array Oper}{rest:List Oper}{op:Oper}{a:Act}{w:World}{Q:Exit→Act→World→Prop}(hgd:op.guard=none)(x:Operand)(ho:op.op=.load 43 x)
  (b o:Nat) (hx:a.eval x=.pointer (some ⟨b,o,none⟩)) (H:w.rangeAt b o (sev m))
  (h:wpList Tryz.prog ops Q rest (a.put op.dst (.agg (sev m).toArray)) w):wpList Tryz.prog ops Q (op::rest) a w:=
 wpList_plain hgd fun _ hK=>by
  unfold Oper.wp execOp;simp only[ho,Sem.run_bind,Sem.run_pure,Result.andThen_ok,hx,run_loadAt_mid (P:=Tryz.prog) w b o 43 (sev m) _ H Tryz.underlying43 rfl infoSe];exact hK _ _ h
theorem retSe{fn:Func}{t:Tmp}{b:Nat}(hf:fn.results= #[.cell t 43]){tmps:Array Value}{w:World}(hp:tmps.getD t undef=.pointer (some ⟨b,0,none⟩))(hD:w.heap[b]?=some (.cells (sev m).toArray 43 (0,0))):
  (results fn tmps).run Tryz.prog w=.ok (.agg (sev m).toArray) w:=
 results_cell_row hf tmps w b _ _ _ _ hp hD Tryz.underlying43 rfl infoSe
theorem gseen_any(h:GX al W ow B C V G)(c:Int):
  Calls Tryz.prog 14 #[.pointer (some ⟨C.gb,0,none⟩),.int .i64 c] W fun e w'=>e=.returned (.agg (sev (GM.see G.M c)).toArray)∧Below W.heap.size W w':=by
 have hb:=(Below.refl W.heap.size W).alloc (Nat.le_refl _) (.cells (sev GM.z).toArray 43);have HR:Hid ((W.alloc (.cells (sev GM.z).toArray 43)).heap[W.heap.size]?=some (.cells (sev GM.z).toArray 43 (0,0))):=World.alloc_heap_new W _;have HB:=Hd hb;have h1:=h.below' hb;have HC:=Hd (hasCar_any h1 c);have c15:=h1.c15;have hml:=h.ml;clear hb;by_cases q:0≤c∧c<G.M.length
 ·obtain⟨i,rfl⟩:∃n:Nat,c=n:=⟨c.toNat,by omega⟩;have hi:i<G.M.length:=by omega
  obtain⟨m,hm⟩:∃m,G.M[i]?=some m:=⟨_,List.getElem?_eq_getElem hi⟩;have HS:Hid (GM.see G.M (i:Int)=m):=by show _=_;unfold GM.see;rw[if_pos q,Int.toNat_natCast,hm];rfl
  have HG:Hid ((W.alloc (.cells (sev GM.z).toArray 43)).rangeAt C.cb (i*12) (sev m)):=fun j u hu=>by
   have hj:j<8:=(List.getElem?_eq_some_iff.1 hu).1;rw[h1.mcell hm j (by omega),show mc (C.lb i) (V.vl i) m=sev m++[.pointer (some ⟨C.lb i,0,none⟩),.bool m.su,.bool m.sd,V.vl i]from rfl,List.getElem?_append_left hj,hu]
  have hix:∀W:World,_:=fun W=>ixM (ab:=C.cb) W hi;rw[show(decide (0≤(i:Int))&&decide ((i:Int)<(G.M.length:Int)))=true by simp;omega]at HC;rw[HS.out];clear h h1 hm q hi HS;have e0:(sev GM.z).toArray= #[.bool false,.bool false,.bool false,.bool false,.bool false,.int .i64 0,.int .i64 0,.int .i64 0]:=rfl;rw[e0]at HC c15 HG HR HB;clear e0
  go_enter Tryz.func14,Tryz.ntmps14
  go_wp2_with fail
  refine HC.out.mono ?_;rintro e w' ⟨rfl,rfl⟩;clear HC
  go_wp2_with (first|(refine wpList_loadSe rfl _ rfl C.cb (i*12) rfl HG.out ?_)|(refine wpList_store_row rfl _ _ _ rfl W.heap.size (sev m).toArray rfl rfl _ _ HR.out infoSe rfl (by simp[Value.oneCell',sev]) ?_))
  exact bodyPost_ret (retSe Tryz.results14 rfl (setRow_heap _ _ _ _ _ _ HR.out)) rfl ⟨rfl,below_setRow HB.out (Nat.le_refl _) _⟩
 ·have HS:Hid (GM.see G.M c=GM.z):=by show _=_;unfold GM.see;rw[if_neg q]
  rw[show(decide (0≤c)&&decide (c<(G.M.length:Int)))=false by simp;omega]at HC;rw[HS.out];clear h h1 q HS;have e0:(sev GM.z).toArray= #[.bool false,.bool false,.bool false,.bool false,.bool false,.int .i64 0,.int .i64 0,.int .i64 0]:=rfl;rw[e0]at HC c15 HR HB;clear e0
  go_enter Tryz.func14,Tryz.ntmps14
  go_wp2_with fail
  refine HC.out.mono ?_;rintro e w' ⟨rfl,rfl⟩;clear HC
  go_wp2_with (first|(refine wpList_buildS rfl _ _ rfl [] (by simp[Act.eval]) _ built_se ?_)|(refine wpList_store_row rfl _ _ _ rfl W.heap.size (sev GM.z).toArray rfl rfl _ _ HR.out infoSe rfl (by simp[Value.oneCell',sev]) ?_))
  exact bodyPost_ret (retSe Tryz.results14 rfl (setRow_heap _ _ _ _ _ _ HR.out)) rfl ⟨rfl,below_setRow HB.out (Nat.le_refl _) _⟩
end
structure Gg(B:Nat)(W:World)(gb:Nat)(n:Int)(G:Gs):Prop where
 ex:∃ow C V,C.gb=gb∧GX al W ow B C V G
 q:GQ n G
def GgN(s:St)(W:World)(e:Ending)(w':World):Prop:=∃gb,e=.returned (.tuple #[.pointer (some ⟨gb,0,none⟩),.int .i64 0])∧Gg W.heap.size w' gb 0 (G0 s)∧Below W.heap.size W w'
def GgT(B:Nat)(W W2:World)(gb:Nat)(n:Int)(G:Gs)(b:List Nat)(e:Ending)(w':World):Prop:=∃g k,e=.returned (.slice (some ⟨g,0,none⟩) k k)∧(k:Int)=G.st.ca∧Gg B w' gb (n+1) (GM.tck G b).2∧CR w' g (GM.tck G b).1∧W2.heap.size≤g∧Below B W2 w'∧∀j,W.heap.size≤j→j<W2.heap.size→w'.heap[j]?=W2.heap[j]?
section
variable {B gb:Nat} {W W' W2:World} {n:Int} {G:Gs} {v:Value} {b:List Nat}
theorem Gg.below(h:Gg B W gb n G)(hb:Below W.heap.size W W'):Gg B W' gb n G:=let⟨ow,C,V,e,h1⟩:=h.ex;⟨⟨ow,C,V,e,h1.below' hb⟩,h.q⟩
theorem gg_new{s:St}(r:SM.Rt s)(W:World):Calls Tryz.prog 8 #[.agg (sv s).toArray] W fun e w'=>GgN s W e w':=
 (gnew_yes s r W).mono fun _ _ ⟨ow,C,V,he,h1,h2⟩=>⟨C.gb,he,⟨⟨ow,C,V,rfl,h1⟩,GQ.new r⟩,h2⟩
theorem gg_tick(h:Gg B W gb n G)(hn:n<1000)(hb:Below W.heap.size W W2)(hr:FF.RD W2 v b)(hl:b.length≤900)(hv:∀g,v.ownBlock=some g→W.heap.size≤g):
  Calls Tryz.prog 11 #[.pointer (some ⟨gb,0,none⟩),v] W2 fun e w'=>GgT B W W2 gb n G b e w':=by
 obtain⟨ow,C,V,rfl,h1⟩:=h.ex;have hlt:=h1.sz.1;refine (gtick_any ((h1.retag 1000).below' hb) h.q hn v hr.bs hl fun X hk=>hr.keep hk.size fun g hg hlt2=>hk.block g hlt2 (by have:=hv g hg;omega)).mono fun e w' ⟨g,he,h2⟩=> ?_;obtain⟨k1,k2,o,V',k3,k4,k5,k6⟩:=h2;have h5:=h.q.tk5 hn hr.bs hl;refine⟨g,_,he,by rw[←h5.2];exact h5.1.go.ml,⟨⟨o,C,V',rfl,k3⟩,h.q.tck hn hr.bs hl⟩,k1,k2,⟨k5.os,k5.tape,k5.output,k5.size,fun i hi=> ?_⟩,fun j h1 h2=>k5.block j h2 (by rw[nw_new h1];omega)⟩;by_cases hW:i<W2.heap.size
 ·refine k5.block i hW fun x=> ?_;unfold nw at x;split at x
  ·have:=h1.lo i x;omega
  ·omega
 ·have:=h1.hB;have:=hb.size;omega
theorem gg_seen(h:Gg B W gb n G)(c:Int):Calls Tryz.prog 14 #[.pointer (some ⟨gb,0,none⟩),.int .i64 c] W fun e w'=>e=.returned (.agg (sev (GM.see G.M c)).toArray)∧Below W.heap.size W w':=let⟨_,_,_,e,h1⟩:=h.ex;e▸gseen_any h1 c
theorem gg_recall(h:Gg B W gb n G):Calls Tryz.prog 15 #[.pointer (some ⟨gb,0,none⟩)] W fun e w'=>e=.returned (.bool G.rc)∧w'=W:=let⟨_,_,_,e,h1⟩:=h.ex;e▸grecall_any h1
theorem gg_nodes(h:Gg B W gb n G):Calls Tryz.prog 12 #[.pointer (some ⟨gb,0,none⟩)] W fun e w'=>e=.returned (.int .i64 G.nd)∧w'=W:=let⟨_,_,_,e,h1⟩:=h.ex;e▸gnodes_any h1
theorem gg_calls(h:Gg B W gb n G):Calls Tryz.prog 13 #[.pointer (some ⟨gb,0,none⟩)] W fun e w'=>∃v',e=.returned v'∧CC.RW w' W.heap.size v' G.L∧Below W.heap.size W w':=let⟨_,_,_,e,h1⟩:=h.ex;e▸gcalls_any h1 h.q.go.gd.len
end
end Go.Proofs.YtnkelgdnglaafaaGreat
namespace Go.Proofs.YtnkelgdnglaafaaGreat
open Go.ChangeShapes Go.WideShapes Go.ChangeAt Go.RowKit
def RPg{α:Type}(R:World→Value→List α→Prop)(W:World)(v:Value)(ps:List (List α)):Prop:=
 ∃a cap,v=.slice a ps.length cap∧ps.length≤cap∧(ps=[]∨∃g o,a=some ⟨g,o,none⟩∧g<W.heap.size∧∀(i:Nat) l,ps[i]?=some l→∃u,W.cell? ⟨g,o+i,none⟩=some u∧R W u l)
theorem RPg.form{α:Type}{R:World→Value→List α→Prop}{W:World}{v:Value}{ps:List (List α)}(h:RPg R W v ps):∃a cap,v=.slice a ps.length cap∧ps.length≤cap:=let⟨a,cap,h1,h2,_⟩:=h;⟨a,cap,h1,h2⟩
theorem RPg.at{α:Type}{R:World→Value→List α→Prop}{W W':World}{a:Option Addr}{n cap:Nat}{ps:List (List α)}(h:RPg R W (.slice a n cap) ps)(hb:Below W.heap.size W W'){i:Nat}{l:List α}(hi:ps[i]?=some l):∃g o,a=some ⟨g,o,none⟩∧∃u,W'.cell? ⟨g,o+i,none⟩=some u∧R W u l:=by
 obtain⟨a',cap',e,_,h⟩:=h;cases e;rcases h with h|⟨g,o,rfl,hlt,h⟩
 ·rw[h]at hi;simp at hi
 ·obtain⟨u,h1,h2⟩:=h i l hi;exact⟨g,o,rfl,u,(hb.cell (p:=⟨g,o+i,none⟩) hlt).trans h1,h2⟩
theorem pick_list{α:Type}{P:Nat→α→Prop}:∀n,(∀i,i<n→∃l,P i l)→∃ps:List α,ps.length=n∧∀(i:Nat) l,ps[i]?=some l→P i l
 |0,_=>⟨[],rfl,by simp⟩
 |n+1,h=>by
  obtain⟨ps,h1,h2⟩:=pick_list n fun i hi=>h i (by omega);obtain⟨l,hl⟩:=h n (by omega);refine⟨ps++[l],by simp[h1],fun i x hx=> ?_⟩;by_cases hi:i<ps.length
  ·rw[List.getElem?_append_left hi]at hx;exact h2 i x hx
  ·rw[List.getElem?_append_right (by omega)]at hx;have:=(List.getElem?_eq_some_iff.1 hx).1;simp at this;have e:i=n:=by omega
   rw[e,h1,Nat.sub_self]at hx;simp at hx;rw[e,←hx];exact hl
section
variable {H:Type} {enc:TypeId×Value→H} {w:World} {base:Nat} {spare:Nat→Bool} {held:Bool}
theorem slice_open{α:Type}{t e:TypeId}{k:Nat}{P:Addr→DataW H→α→Prop}(ht:Tryz.prog.underlying t=some (.slice e))(hc:Tryz.prog.cellsOf e=k)
  (hp:∀n A cs y,w.cells? base A k=some cs→DataW.trod enc Tryz.prog w base spare held n e cs=some y→∃l,P A y.1 l) {fuel:Nat} {cs:List Value} {x:DataW H×List MemPlace} (h:DataW.trod enc Tryz.prog w base spare held fuel t cs=some x):
  cs=[.slice none 0 0]∨∃A len cap es sp,∃ps:List α,cs=[.slice (some A) len cap]∧ps.length=len∧len≤cap∧x.1=.slice es sp∧es.length=len∧∀(i:Nat) l,ps[i]?=some l→∃y∈es,P (A.add (i*k)) y l:=by
 rcases DataW.trod_slice ht h with⟨h0,_⟩|⟨A,len,cap,elems,rest,n,_,hcs,hx,_,hlc,_,hlen,hel,_⟩
 ·exact .inl h0
 ·have key:∀i,i<len→∃l,∃y∈elems.map (·.1),P (A.add (i*k)) y l:=fun i hi=>by
   have hE:=hel i hi;rw[hc]at hE;obtain⟨y,hy⟩:∃y,elems[i]?=some y:=⟨_,List.getElem?_eq_getElem (by omega)⟩;rw[hy]at hE;simp only[Option.bind_eq_some_iff]at hE;obtain⟨cs,hc1,hy1⟩:=hE;obtain⟨l,hl⟩:=hp _ _ _ _ hc1 hy1;exact⟨l,y.1,List.mem_map.2 ⟨y,List.mem_of_getElem? hy,rfl⟩,hl⟩
  obtain⟨ps,h1,h2⟩:=pick_list len key;exact .inr ⟨A,len,cap,_,_,ps,hcs,h1,hlc,by rw[hx],by rw[List.length_map];exact hlen,h2⟩
theorem blk_one(d:DataW H):1≤Rows.uptoBulk d:=by
 cases d with
 |lit l=>cases l<;>simp[Rows.uptoBulk]
 |_=>simp[Rows.uptoBulk]
theorem blk_part{d:DataW H}{l:List (DataW H)}(h:d∈l):Rows.uptoBulk d≤Rows.uptoBulkAll l:=by
 induction l with
 |nil=>cases h
 |cons x r ih=>
  simp only[Rows.uptoBulkAll];rcases List.mem_cons.1 h with e|e
  ·subst e;omega
  ·have:=ih e;omega
theorem blk_len(l:List (DataW H)):l.length≤Rows.uptoBulkAll l:=by
 induction l with
 |nil=>simp[Rows.uptoBulkAll]
 |cons x r ih=>have:=blk_one x;simp only[Rows.uptoBulkAll,List.length_cons];omega
theorem plainA{A:Addr}{u:Value}(h:w.cell? A=some u):∃b o,A=⟨b,o,none⟩∧b<w.heap.size:=by
 obtain⟨b,off,spot⟩:=A;have hs:spot=none:=World.cell?_spot h;subst hs;exact⟨b,off,rfl,FF.block_lt h⟩
theorem frame_read{n:Nat}{A:Addr}{cs:List Value}{y:DataW H×List MemPlace}(hc:w.cells? base A 6=some cs)(h:DataW.trod enc Tryz.prog w base spare held n 56 cs=some y):∃f:FF.Fr,∀(j:Nat) (u:Value),(FF.fv f)[j]?=some u→w.cell? (A.add j)=some u:=by
 obtain⟨hl,k⟩:=flat_at Tryz.underlying56 h;obtain⟨z0,e0⟩:=(k 0 _ rfl (by kernel_rfl)).1 Tryz.underlying3;obtain⟨z1,e1⟩:=(k 1 _ rfl (by kernel_rfl)).1 Tryz.underlying3;obtain⟨z2,e2⟩:=(k 2 _ rfl (by kernel_rfl)).1 Tryz.underlying3;obtain⟨z3,e3⟩:=(k 3 _ rfl (by kernel_rfl)).1 Tryz.underlying3;obtain⟨z4,e4⟩:=(k 4 _ rfl (by kernel_rfl)).1 Tryz.underlying3;obtain⟨z5,e5⟩:=(k 5 _ rfl (by kernel_rfl)).1 Tryz.underlying3;obtain rfl:cs=FF.fv ⟨z0,z1,z2,z3,z4,z5⟩:=list_of (hl.trans (by kernel_rfl)) (fac e0 (fac e1 (fac e2 (fac e3 (fac e4 (fac e5 (fun _ h=>nomatch h)))))));exact⟨_,FF.cells_all hc⟩
theorem frames_read{n:Nat}{cs:List Value}{y:DataW H×List MemPlace}(h:DataW.trod enc Tryz.prog w base spare held n 31 cs=some y):∃v L,cs=[v]∧FF.RF w v L∧L.length≤Rows.uptoBulk y.1:=by
 rcases slice_open (e:=56) (P:=fun A _ (f:FF.Fr)=>∀(j:Nat) (u:Value),(FF.fv f)[j]?=some u→w.cell? (A.add j)=some u) Tryz.underlying31 (by kernel_rfl) (fun _ _ _ _=>frame_read) h with rfl|⟨A,len,cap,es,sp,L,rfl,rfl,hlc,hy,hes,hL⟩
 ·exact⟨_,[],rfl,⟨none,0,rfl,Nat.le_refl _,.inl rfl⟩,Nat.zero_le _⟩
 ·refine⟨_,L,rfl,⟨some A,cap,rfl,hlc,?_⟩,by rw[hy,←hes];have:=blk_len es;simp only[Rows.uptoBulk];omega⟩;cases L with
  |nil=>exact .inl rfl
  |cons f L=>
   obtain⟨_,_,h0⟩:=hL 0 f rfl;obtain⟨b,o,rfl,hb⟩:=plainA (by simpa[Addr.add]using h0 0 _ rfl);refine .inr ⟨b,o,rfl,hb,fun i f hi j u hu=> ?_⟩;obtain⟨_,_,this⟩:=hL i f hi;have:=this j u hu;rw[Go.WideShapes.add_plain,Go.WideShapes.add_plain]at this;exact this
theorem rows_open{α:Type}{R:World→Value→List α→Prop}{M:DataW H→List α→Prop}{t e:TypeId}(ht:Tryz.prog.underlying t=some (.slice e))(hc:Tryz.prog.cellsOf e=1)(hR:∀n cs y,DataW.trod enc Tryz.prog w base spare held n e cs=some y→∃v L,cs=[v]∧R w v L∧M y.1 L){a:Option Addr}{m c:Nat}{d:DataW H}{p:List MemPlace}(h:DataW.Trod enc Tryz.prog w base spare held t (.slice a m c) d p):∃ps,RPg R w (.slice a m c) ps∧∀l∈ps,∃es sp,∃y∈es,d=.slice es sp∧M y l:=by
 obtain⟨fuel,hf⟩:=h
 rcases slice_open (P:=fun A y l=>(∃u,w.cell? A=some u∧R w u l)∧M y l) ht hc (fun n A cs y h1 h2=>by
  obtain⟨u,l,rfl,hr,hm⟩:=hR n cs y h2;have:=FF.cells_all h1 0 u rfl
  exact⟨l,⟨u,by simpa[Addr.add]using this,hr⟩,hm⟩) hf with h0|⟨A,len,cap,es,sp,L,h0,rfl,hlc,hd,-,hL⟩
 ·exact⟨[],⟨none,0,by simpa[Value.cells]using h0,Nat.le_refl _,.inl rfl⟩,fun l hl=>by cases hl⟩
 ·refine⟨L,⟨some A,cap,by simpa[Value.cells]using h0,hlc,?_⟩,fun l hl=> ?_⟩
  ·cases L with
   |nil=>exact .inl rfl
   |cons l L=>
    obtain⟨_,_,⟨u,h1,_⟩,_⟩:=hL 0 l rfl;obtain⟨b,o,rfl,hb⟩:=plainA (by simpa[Addr.add]using h1);refine .inr ⟨b,o,rfl,hb,fun i l hi=> ?_⟩;obtain⟨_,_,this,_⟩:=hL i l hi;rwa[Nat.mul_one,Go.WideShapes.add_plain]at this
  ·obtain⟨i,hi⟩:=List.getElem?_of_mem hl;obtain⟨y,hy,_,hm⟩:=hL i l hi;exact⟨es,sp,y,hy,hd,hm⟩
theorem ticks_open{a:Option Addr}{m c:Nat}{d:DataW H}{p:List MemPlace}(h:DataW.Trod enc Tryz.prog w base spare held 24 (.slice a m c) d p)(hd:Rows.uptoBulk d≤2000000):∃ps,RPg FF.RF w (.slice a m c) ps∧∀l∈ps,l.length≤2000000:=by
 obtain⟨ps,h1,h2⟩:=rows_open (M:=fun y (l:List FF.Fr)=>l.length≤Rows.uptoBulk y) Tryz.underlying24 (by kernel_rfl) (fun _ _ _=>frames_read) h;refine⟨ps,h1,fun l hl=> ?_⟩;obtain⟨es,sp,y,hy,rfl,hm⟩:=h2 l hl;have:=blk_part hy;simp only[Rows.uptoBulk]at hd;omega
end
end Go.Proofs.YtnkelgdnglaafaaGreat
namespace Go.Proofs.YtnkelgdnglaafaaGreat
open Go.RowKit
def GbR(W:World)(L:List FF.Fr)(e:Ending)(w':World):Prop:=Below W.heap.size W w'∧((e=.returned (.tuple #[.slice none 0 0,.bool false])∧¬∀f∈L,FF.FC.May f)∨∃u,e=.returned (.tuple #[u,.bool true])∧(∀f∈L,FF.FC.May f)∧FF.OW w' W.heap.size u (FF.FC.ens L))
theorem ixFo{g o n cap j:Nat}(W:World)(hj:j<n):(Instr.indexAt 31 (.slice (some ⟨g,o,none⟩) n cap) (.int .i64 (j:Int))).run Tryz.prog W=.ok (.pointer (some ⟨g,o+j*6,none⟩)) W:=by
 rw[run_indexAt_slice W 31 _ n cap .i64 j (by kernel_rfl),if_pos ⟨by omega,by omega⟩,show Tryz.prog.elem 31=56 by kernel_rfl,Tryz.sizeOf56];simp only[Result.andThen_ok,Int.toNat_natCast,Addr.add_mid]
theorem gbytes_any{W:World}{v:Value}{L:List FF.Fr}(h:FF.RF W v L)(hL:L.length≤2000000):Calls Tryz.prog 10 #[v] W fun e w'=>GbR W L e w':=by
 obtain⟨a,cap,rfl,hc,hr⟩:=h;have HR:=Hd hr;have HO0:Hid (FF.OW (W.alloc (.cells #[] 5)) W.heap.size (.slice (some ⟨W.heap.size,0,none⟩) 0 0) (FF.FC.ens (L.take 0))):=World.ownsRow_made W #[] 0 (Nat.le_refl _) (Nat.zero_le _) (by simp);have HB0:=Hd ((Below.refl W.heap.size W).alloc (Nat.le_refl _) (.cells #[] 5));have HM0:Hid (∀f∈L.take 0,FF.FC.May f):=fun f hf=>by simp at hf
 clear hr
 go_enter Tryz.func10,Tryz.ntmps10
 go_wp2_with fail
 generalize W.alloc (.cells #[] 5)=X at HO0 HB0⊢
 go_loopw [4,10] (fun ov iv wr=>∃i:Nat,i≤L.length∧iv=.int .i64 (i:Int)∧Hid (FF.OW wr W.heap.size ov (FF.FC.ens (L.take i)))∧Hid (Below W.heap.size W wr)∧Hid (∀f∈L.take i,FF.FC.May f)) (fun _ iv _=>L.length-(intOf iv).toNat)
 case atStart=>exact⟨0,Nat.zero_le _,rfl,HO0,HB0,HM0⟩
 case round=>
  clear HO0 HB0 HM0;obtain⟨i,hi,rfl,HO,HB,HM⟩:=hrel;by_cases hlt:i<L.length
  ·have hz:(i:Int)<(L.length:Int):=by omega
   obtain⟨f,hf⟩:∃f,L[i]?=some f:=⟨_,List.getElem?_eq_getElem hlt⟩
   obtain⟨g,o,rfl,hg,hrg⟩:∃g o,a=some ⟨g,o,none⟩∧g<W.heap.size∧W.rangeAt g (o+i*6) (FF.fv f):=by
    rcases HR.out with rfl|⟨g,o,e,h1,h2⟩
    ·simp at hlt
    ·exact⟨g,o,e,h1,h2 i f hf⟩
   have HRG:=Hd (FF.rangeAt_block hrg (HB.out.block g hg));have hix:∀W:World,_:=fun W=>ixFo (g:=g) (o:=o) (cap:=cap) W hlt;have HFB:=Hd (FB.new' wr f);have hal:=(Below.refl wr.heap.size wr).alloc (Nat.le_refl _) (.cells #[.int .i64 f.ki,.int .i64 f.ca,.int .i64 f.sq,.int .i64 f.a,.int .i64 f.b,.int .i64 f.c] 56);have HX1:=Hd hal;have HMY:=Hd (FF.may_any f (wr.alloc (.cells #[.int .i64 f.ki,.int .i64 f.ca,.int .i64 f.sq,.int .i64 f.a,.int .i64 f.b,.int .i64 f.c] 56)));have HEN:Hid (FF.FC.ens (L.take (i+1))=FF.FC.ens (L.take i)++FF.FC.en f):=by show _=_;rw[List.take_add_one,hf];exact FF.FC.ens_snoc _ _
   have HF:=Hd hf;have hi1:i+1≤L.length:=hlt;clear hrg hg hal hf
   go_wp2_with (first|(refine wpList_loadFo rfl _ rfl g (o+i*6) rfl HRG.out ?_)|(refine wpList_loadFo rfl _ rfl wr.heap.size 0 rfl HFB.out.range ?_))
   generalize wr.alloc (.cells #[.int .i64 f.ki,.int .i64 f.ca,.int .i64 f.sq,.int .i64 f.a,.int .i64 f.b,.int .i64 f.c] 56)=W1 at HX1 HFB HMY⊢;refine HMY.out.mono ?_;rintro e W2 ⟨rfl,hb2⟩;have HX2:=Hd (below_class HX1.out hb2);have HFB2:Hid (FF.FB W2 wr.heap.size f):=(hb2.block _ (Array.getElem?_eq_some_iff.1 (show W1.heap[_]?=_ from HFB.out)).1).trans HFB.out;clear hb2 HMY HX1 HFB HRG hix;cases hm:FF.mayB f
   ·have HNO:Hid (¬∀f∈L,FF.FC.May f):=fun h=>by have:=(FF.mayB_iff f).2 (h f (List.mem_of_getElem? HF.out));rw[hm]at this;cases this
    have HBB:=Hd (below_class HB.out HX2.out);clear hm;go_wp2
    go_ret2
    exact⟨HBB.out,.inl ⟨rfl,HNO.out⟩⟩
   ·have HMF:=Hd ((FF.mayB_iff f).1 hm);have HBY:=Hd (FF.bytes_yes f W2 HMF.out);clear hm
    go_wp2_with (refine wpList_loadFo rfl _ rfl wr.heap.size 0 rfl HFB2.out.range ?_)
    refine HBY.out.mono ?_;rintro e W3 ⟨u3,rfl,ho3,hb3⟩;have HO3:=Hd (ho3.rd (FF.FC.en_Bs HMF.out));have hx3:=below_class HX2.out hb3;have HOO:=Hd (HO.out.below' hx3);have HB3:=Hd (below_class HB.out hx3);clear ho3 hb3 hx3 HBY HO HB HX2 HFB2
    go_wp2_with (at_builtin;refine FF.wpList_appendR rfl _ _ rfl W.heap.size _ u3 (FF.FC.ens (L.take i)) (FF.FC.en f) rfl HOO.out rfl HO3.out (by rw[FF.FC.ens_length,FF.FC.en_length,List.length_take];omega) HB3.out.size ?_)
    intro v4 W4 ho4 hg4;have HO4:Hid (FF.OW W4 W.heap.size v4 (FF.FC.ens (L.take (i+1)))):=by rw[HEN.out];exact ho4
    have HB4:=Hd (HB3.out.grown hg4 HB3.out.size fun k hk=>(HOO.out.lt k hk).1)
    have HM4:Hid (∀f∈L.take (i+1),FF.FC.May f):=fun x hx=>by
     rw[List.take_add_one,HF.out]at hx;rcases List.mem_append.1 hx with h|h
     ·exact HM.out x h
     ·simp at h;rw[h];exact HMF.out
    clear ho4 hg4 HOO HB3 HO3 HM;go_wp2;go_roundw
    case rel=>exact⟨i+1,hi1,by go_num,HO4,HB4,HM4⟩
    case measure=>simp[intOf];omega
  ·have hz:¬(i:Int)<(L.length:Int):=by omega
   have e1:i=L.length:=by omega
   rw[e1,List.take_length]at HO HM;clear e1;go_wp2
   go_ret2
   exact⟨HB.out,.inr ⟨_,rfl,HM.out,HO.out⟩⟩
theorem small_any(W:World):Calls Tryz.prog 21 #[] W fun e w'=>e=.returned (.agg (sv gs).toArray)∧Below W.heap.size W w':=by
 have HR:=Hd (World.alloc_heap_new W (.cells (sv ⟨0,0,0,0,0,0,0,0,0,0,0,0,0⟩).toArray 23));have HB:=Hd ((Below.refl W.heap.size W).alloc (Nat.le_refl _) (.cells (sv ⟨0,0,0,0,0,0,0,0,0,0,0,0,0⟩).toArray 23))
 go_enter Tryz.func21,Tryz.ntmps21
 go_wp2_with (first|(refine wpList_buildS rfl _ _ rfl _ (by simp[Act.eval];rfl) _ built_gs ?_)|(refine wpList_store_row rfl _ _ _ rfl W.heap.size (sv gs).toArray rfl rfl _ _ HR.out info23 rfl (by simp[Value.oneCell',sv]) ?_))
 exact bodyPost_ret (results_cell_row Tryz.results21 _ _ W.heap.size _ _ _ _ rfl (setRow_heap _ _ _ _ _ _ HR.out) Tryz.underlying23 rfl info23) rfl ⟨rfl,below_setRow HB.out (Nat.le_refl _) _⟩
theorem speaks15_any(W:World):Calls Tryz.prog 7 #[] W fun e w'=>e=.returned (.bool true)∧Below W.heap.size W w':=by
 go_enter Tryz.func7,Tryz.ntmps7
 go_wp2_with fail
 refine (small_any W).mono ?_;rintro e W1 ⟨rfl,hb1⟩;have HB1:=Hd hb1;have HL1:=Hd hb1.size;clear hb1
 go_wp2_with fail
 refine (gg_new gs_rt W1).mono ?_;rintro e W2 ⟨gb,rfl,hg2,hb2⟩;have HG2:=Hd hg2;have HB2:=Hd (below_class HB1.out hb2);clear hg2 hb2 HB1
 go_wp2_with (refine wpList_buildS rfl _ _ rfl _ (by simp[Act.eval];rfl) _ built_f1 ?_)
 refine (FF.bytes_yes gf1 W2 gf_may.1).mono ?_;rintro e W3 ⟨v3,rfl,ho3,hb3⟩;have HO3:=Hd ho3;have HB3:=Hd hb3;clear ho3 hb3
 go_wp2_with (refine wpList_buildS rfl _ _ rfl _ (by simp[Act.eval];rfl) _ built_f2 ?_)
 refine (FF.bytes_yes gf2 W3 gf_may.2).mono ?_;rintro e W4 ⟨v4,rfl,ho4,hb4⟩;have HO4:=Hd (ho4.rd (FF.FC.en_Bs gf_may.2));have HO34:=Hd (HO3.out.below' hb4);have HB4:=Hd (below_class HB3.out hb4);clear ho4 hb4
 go_wp2_with (at_builtin;refine FF.wpList_appendR rfl _ _ rfl W2.heap.size v3 v4 (FF.FC.en gf1) (FF.FC.en gf2) rfl HO34.out rfl HO4.out (by rw[FF.FC.en_length,FF.FC.en_length];decide) HB4.out.size ?_)
 intro v5 W5 ho5 hg5;have hb5:Below W2.heap.size W2 W5:=HB4.out.grown hg5 HB4.out.size fun k hk=>(HO34.out.lt k hk).1;have HT:=Hd (gg_tick HG2.out (by decide) hb5 (ho5.rd ((FF.FC.en_Bs gf_may.1).append (FF.FC.en_Bs gf_may.2))) (by rw[List.length_append,FF.FC.en_length,FF.FC.en_length];decide) fun g hg=>(ho5.lt g hg).1);have HB5:=Hd (below_class HB2.out hb5);clear ho5 hg5 hb5 HO34 HO4 HO3 HB3 HB4 HG2 HB2
 go_wp2_with fail
 refine HT.out.mono ?_;rintro e W6 ⟨g,k,rfl,hk,hg6,hcr,hlg,hb6,-⟩;obtain rfl:k=1:=by have:(k:Int)=1:=hk;omega
 rw[spk1]at hcr;have HC:=Hd (gg_calls hg6);have HLL:=Hd spk2;have HB6:=Hd (HB5.out.trans (hb6.mono HL1.out));have e1:W6.cell? ⟨g,0,none⟩=some (.bool true):=by simp[World.cell?,show W6.heap[g]?=_ from hcr,cms]
 have e2:W6.cell? ⟨g,1,none⟩=some (.int .i64 (-1)):=by simp[World.cell?,show W6.heap[g]?=_ from hcr,cms]
 clear hk hg6 hcr hlg hb6 HT HB5
 go_wp2_with fail
 refine HC.out.mono ?_;rintro e W7 ⟨v7,rfl,hr7,hb7⟩;obtain⟨a7,n7,k7,rfl⟩:=hr7.slice;have HN:=hr7.len;rw[HLL.out]at HN;subst HN;have HB7:=Hd (below_class HB6.out hb7);clear hr7 hb7 HC HB6 e1 e2;go_wp2;go_ret;exact⟨rfl,HB7.out⟩
theorem ixT{g o n cap j:Nat}(W:World)(hj:j<n):(Instr.indexAt 24 (.slice (some ⟨g,o,none⟩) n cap) (.int .i64 (j:Int))).run Tryz.prog W=.ok (.pointer (some ⟨g,o+j,none⟩)) W:=by
 rw[run_indexAt_slice W 24 _ n cap .i64 j (by kernel_rfl),if_pos ⟨by omega,by omega⟩,show Tryz.prog.elem 24=31 by kernel_rfl,Tryz.sizeOf31];simp only[Result.andThen_ok,Int.toNat_natCast,Addr.add_mid,Nat.mul_one]
structure Sg(W wr:World)(s:St)(B sb gb:Nat)(j:Nat):Prop where
 ex:∃G,Gg B wr gb j G∧G.st=s
 ss:SB wr sb s
 bel:Below W.heap.size W wr
section
variable {W wr w2:World} {s:St} {B sb gb j:Nat}
theorem Sg.next(h:Sg W wr s B sb gb j)(hb:Below wr.heap.size wr w2):Sg W w2 s B sb gb j:=let⟨G,h1,h2⟩:=h.ex;⟨⟨G,h1.below hb,h2⟩,h.ss.below' hb,below_class h.bel hb⟩
end
theorem see_at{M:List Mb}{i:Nat}{m:Mb}(h:M[i]?=some m):GM.see M (i:Int)=m:=by
 unfold GM.see;have:=(List.getElem?_eq_some_iff.1 h).1;rw[if_pos (by omega),Int.toNat_natCast,h];rfl
end Go.Proofs.YtnkelgdnglaafaaGreat
