import Derived.Test.YtnkelgdnglaafaaGreatQ24
import Derived.Deep.MidRow
set_option maxHeartbeats 8000000
set_option maxRecDepth 100000
namespace Go.Proofs.YtnkelgdnglaafaaGreat
open Go.RowKit
section
variable {W W' W2:World} {ow ow':Nat→Nat} {B:Nat} {C:Gc} {V V':Gv} {G G':Gs} {n:Int} {f:FF.Fr} {g:Nat} {l:List (Bool×Int)} {b:List Nat}
structure GQ(n:Int)(G:Gs):Prop where
 go:GO n G
 bs:FF.FC.Bs G.sc
 sl:G.sc.length<10
 p0:0≤G.pi
 p1:G.pi≤G.st.per
theorem tke_c:(GM.tke G f).2.sc=G.sc∧(GM.tke G f).2.pi=G.pi∧(GM.tke G f).2.st=G.st:=by
 unfold GM.tke GM.rep GM.prs GM.trn
 (repeat' split)<;>exact⟨rfl,rfl,rfl⟩
theorem fra_c:(GM.fra G f).sc=G.sc∧(GM.fra G f).pi=G.pi∧(GM.fra G f).st=G.st:=by
 have h:=@tke_c G f;unfold GM.fra;simp only
 (repeat' split)<;>exact h
theorem frs_c:∀{F:List FF.Fr} {G:Gs},(GM.frs G F).sc=G.sc∧(GM.frs G F).pi=G.pi∧(GM.frs G F).st=G.st
 |[],_=>⟨rfl,rfl,rfl⟩
 |f::F,G=>⟨(@frs_c F (GM.fra G f)).1.trans fra_c.1,(@frs_c F (GM.fra G f)).2.1.trans fra_c.2.1,(@frs_c F (GM.fra G f)).2.2.trans fra_c.2.2⟩
theorem rdb_c:(GM.rdb G b).sc=(FF.FC.fd (G.sc++b)).2.2∧(GM.rdb G b).pi=G.pi∧(GM.rdb G b).st=G.st:=by
 unfold GM.rdb;simp only;split<;>exact frs_c
theorem rdb_N(h:(G.sc++b).length≤1000):(GM.rdb G b).N.length≤G.N.length+101:=by
 have h1:=FF.FC.fd_count (G.sc++b);unfold GM.rdb;simp only;split
 ·refine Nat.le_trans frs_N ?_;simp only[GM.nte,List.length_append,List.length_singleton];omega
 ·exact Nat.le_trans frs_N (by show G.N.length+_≤_;omega)
theorem srvs_c:∀{i:Nat},(GM.srvs G i).sc=G.sc∧(GM.srvs G i).pi=G.pi
 |0=>⟨rfl,rfl⟩
 |i+1=>by
  have h:=@srvs_c i;show(GM.srv1 _ i).sc=_∧(GM.srv1 _ i).pi=_;unfold GM.srv1;split
  ·exact h
  ·split<;>exact h
theorem GO.rdb(h:GO n G)(hs:FF.FC.Bs (G.sc++b)):GO n (GM.rdb G b):=by
 have h0:GO n {G with sc:=(FF.FC.fd (G.sc++b)).2.2}:=⟨h.rt,h.ml,h.gd,h.mo,h.n0,h.n1⟩;unfold GM.rdb;simp only;split
 ·exact(h0.nte _ _).frs (fd_may _ rfl hs)
 ·exact h0.frs (fd_may _ rfl hs)
theorem srv_c:(GM.srv G).sc=G.sc∧(GM.srv G).pi=G.pi∧(GM.srv G).st=G.st∧(GM.srv G).N.length≤G.N.length+G.L.length:=by
 unfold GM.srv;split
 ·exact⟨rfl,rfl,rfl,by omega⟩
 ·exact⟨srvs_c.1,srvs_c.2,(GM.srvs_M G _).2,by have:=GM.srvs_N G G.M.length;omega⟩
theorem GO.srv(h:GO n G):GO n (GM.srv G):=by
 unfold GM.srv;split
 ·exact h
 ·exact h.srvs _
theorem GQ.tk3(h:GQ n G)(hn:n<1000)(hb:FF.FC.Bs b)(hl:b.length≤900):GQ (n+1) (GM.tk3 G b)∧(GM.tk3 G b).N.length≤300∧(GM.tk3 G b).st=G.st∧(GM.tk3 G b).pi=G.pi:=by
 have h0:GO n {G with N:=[],nd:=0}:=⟨h.go.rt,h.go.ml,h.go.gd,h.go.mo,h.go.n0,h.go.n1⟩;have hbs:FF.FC.Bs (G.sc++b):=h.bs.append hb;have hll:(G.sc++b).length≤1000:=by have:=h.sl;rw[List.length_append];omega
 have h1:=h0.rdb (b:=b) hbs;have h2:=h1.pss hn;have c:=@rdb_c {G with N:=[],nd:=0} b;have cN:=@rdb_N {G with N:=[],nd:=0} b hll;have s:=@srv_c (GM.pss (GM.rdb {G with N:=[],nd:=0} b));have hL:=h2.gd.len;have e1:(GM.tk3 G b).st=G.st:=s.2.2.1.trans c.2.2;have e2:(GM.tk3 G b).pi=G.pi:=s.2.1.trans c.2.1;have e3:(GM.tk3 G b).sc=(FF.FC.fd (G.sc++b)).2.2:=s.1.trans c.1;refine⟨⟨h2.srv,by rw[e3];exact FF.FC.fd_Bs hbs,by rw[e3];exact(FF.FC.fd_left _).1,by rw[e2];exact h.p0,by rw[e1,e2];exact h.p1⟩,Nat.le_trans s.2.2.2 ?_,e1,e2⟩;have:(GM.rdb {G with N:=[],nd:=0} b).N.length≤0+101:=cN;show(GM.rdb {G with N:=[],nd:=0} b).N.length+_≤300;omega
theorem pln_c:(GM.pln G).sc=G.sc∧(GM.pln G).pi=G.pi∧(GM.pln G).st=G.st:=by
 rw[pln_eq];split<;>exact⟨rfl,rfl,rfl⟩
theorem GQ.tk4(h:GQ n G):GQ n (GM.tk4 G)∧(GM.tk4 G).st=G.st∧1≤(GM.tk4 G).pi:=by
 unfold GM.tk4;split
 ·obtain⟨c1,c2,c3⟩:=@pln_c G;have h1:=h.go.pln;have h2:=h.go.rt.per1;exact⟨⟨⟨h1.rt,h1.ml,h1.gd,h1.mo,h1.n0,h1.n1⟩,by show FF.FC.Bs (GM.pln G).sc;rw[c1];exact h.bs,by show(GM.pln G).sc.length<10;rw[c1];exact h.sl,by show 0≤G.st.per;omega,by show G.st.per≤(GM.pln G).st.per;rw[c3];exact Int.le_refl _⟩,c3,h2⟩
 ·exact⟨h,rfl,by have:=h.p0;omega⟩
theorem GQ.pi1(h:GQ n G)(h1:1≤G.pi):GQ n {G with pi:=G.pi-1}:=⟨⟨h.go.rt,h.go.ml,h.go.gd,h.go.mo,h.go.n0,h.go.n1⟩,h.bs,h.sl,by show 0≤G.pi-1;omega,by have:=h.p1;show G.pi-1≤G.st.per;omega⟩
theorem GQ.tll(h:GQ n G)(k:Nat):GQ n (GM.tll G k).2:=by
 obtain⟨M,e,-⟩:=GM.tll_eq (G:=G) k;have h1:=h.go.tll k;rw[e]at h1⊢;exact⟨h1,h.bs,h.sl,h.p0,h.p1⟩
theorem GQ.tk5(h:GQ n G)(hn:n<1000)(hb:FF.FC.Bs b)(hl:b.length≤900):GQ (n+1) (GM.tk5 G b)∧(GM.tk5 G b).st=G.st:=by
 obtain⟨h1,-,h3,-⟩:=h.tk3 hn hb hl;obtain⟨h4,h5,h6⟩:=h1.tk4;exact⟨h4.pi1 h6,h5.trans h3⟩
theorem GQ.tck(h:GQ n G)(hn:n<1000)(hb:FF.FC.Bs b)(hl:b.length≤900):GQ (n+1) (GM.tck G b).2:=(h.tk5 hn hb hl).1.tll _
theorem Told.cons{A:World}(h2:∀b,b<A.heap.size→ow' b=ow b)(h3:Kp (fun b=>ow b<1000) A W)(h:Told W ow' B C G l g W2):Told A ow B C G l g W2:=by
 obtain⟨h1,hg,o2,V2,k1,k2,k3,k4⟩:=h;exact⟨h1,Nat.le_trans h3.size hg,o2,V2,k1,fun b hb=>(k2 b (Nat.lt_of_lt_of_le hb h3.size)).trans (h2 b hb),h3.trans k3 fun b hb h=>by rw[h2 b hb]at h;exact h,k4⟩
theorem GX.mute(h:GX al W ow B C V G):GX al (W.setCell ⟨C.gb,18,none⟩ (.slice none 0 0)) ow B C {V with vn:=.slice none 0 0} {G with N:=[]}:=by
 have h1:W.heap[C.gb]?=some (.cells (gcv C V G).toArray 67 (0,0)):=h.pt 0 trivial;refine (((h.set C.gb h.t0 18 (.slice none 0 0)).mono (T':=fun t=>nx 0 t∧nx 5 t) fun _ x=>x.1).chg (G':={G with N:=[]}) (V':={V with vn:=.slice none 0 0}) rfl fun t x hp=> ?_).fill (T':=nx 0) 5 ⟨⟨rfl,.inl ⟨rfl,rfl⟩⟩,fun g hg=>by cases hg⟩ (fun t x=> ?_)|>.fills ?_
 ·match t,x,hp with
  |0,x,_=>exact absurd rfl x.1
  |1,_,hp=>exact hp
  |2,_,hp=>exact hp
  |3,_,hp=>exact hp
  |4,_,hp=>exact hp
  |5,x,_=>exact absurd rfl x.2
  |t+6,_,hp=>exact hp
 ·unfold nx at*;omega
 ·exact(heap_setCell_same W C.gb 18 _ _ _ h1).trans (by unfold gcv;simp[sv])
theorem gtick_any(h:GX al W ow B C V G)(hq:GQ n G)(hn:n<1000)(v:Value)(hb:FF.FC.Bs b)(hl:b.length≤900)(hv:∀X,Kp (fun k=>k=C.gb) W X→FF.RD X v b):
  Calls Tryz.prog 11 #[.pointer (some ⟨C.gb,0,none⟩),v] W fun e w'=>∃g,e=.returned (.slice (some ⟨g,0,none⟩) (GM.tk5 G b).M.length (GM.tk5 G b).M.length)∧Told W ow B C (GM.tck G b).2 (GM.tck G b).1 g w':=by
 have h1:=h.mute;have h2:=h1.put 19 (.int .i64 0) G.rc G.pi 0 rfl;have HH:=Hd h;have c18:W.cell? ⟨C.gb,18,none⟩=some V.vn:=h.cell 18;have r18:=h.fr 18;have c19:(W.setCell ⟨C.gb,18,none⟩ (.slice none 0 0)).cell? ⟨C.gb,19,none⟩=some (.int .i64 G.nd):=h1.cell 19;have r19:=h1.fr 19;have hk:Kp (fun k=>k=C.gb) W ((W.setCell ⟨C.gb,18,none⟩ (.slice none 0 0)).setCell ⟨C.gb,19,none⟩ (.int .i64 0)):=((Kp.refl (fun k=>k=C.gb) W).set _ _ _ fun _=>rfl).set _ _ _ fun _=>rfl;have h0:GO n {G with N:=[],nd:=0}:=⟨hq.go.rt,hq.go.ml,hq.go.gd,hq.go.mo,hq.go.n0,hq.go.n1⟩;have hll:(G.sc++b).length≤1000:=by have:=hq.sl;rw[List.length_append];omega
 have HR:=Hd (gread_any h2 v b h0 (hv _ hk) hl hq.bs hq.sl (Nat.zero_le _));have HK:=Hd (hk.mono (G:=fun b=>ow b<1000) fun b _ e=>by show ow b<1000;rw[e,h.t0];omega);have h1r:=h0.rdb (b:=b) (hq.bs.append hb);have HO1:=Hd h1r;have HO2:=Hd (h1r.pss hn);have HN2:Hid ((GM.pss (GM.rdb {G with N:=[],nd:=0} b)).N.length≤3000):=Nat.le_trans (@rdb_N {G with N:=[],nd:=0} b hll) (by show 0+101≤3000;omega);obtain⟨q3,n3,s3,-⟩:=hq.tk3 hn hb hl;have HQ3:=Hd q3;have HN3:=Hd n3;have HE3:Hid (GM.srv (GM.pss (GM.rdb {G with N:=[],nd:=0} b))=GM.tk3 G b):=rfl;have HE5:Hid (GM.tk5 G b={GM.tk4 (GM.tk3 G b)with pi:=(GM.tk4 (GM.tk3 G b)).pi-1}):=rfl;have HET:Hid (GM.tck G b=GM.tll (GM.tk5 G b) (GM.tk5 G b).M.length):=rfl;rw[HET.out];obtain⟨G3,hG3⟩:∃x,GM.tk3 G b=x:=⟨_,rfl⟩;obtain⟨G5,hG5⟩:∃x,GM.tk5 G b=x:=⟨_,rfl⟩;obtain⟨G1,hG1⟩:∃x,GM.rdb {G with N:=[],nd:=0} b=x:=⟨_,rfl⟩;rw[hG1]at HR HO1 HO2 HN2 HE3;rw[hG3]at HQ3 HN3 HE3 HE5;rw[hG5]at HE5⊢;clear h h1 h2 hk h0 hll h1r hq q3 n3 s3 HET hG1 hG3 hG5 hv
 go_enter Tryz.func11,Tryz.ntmps11
 go_wp2_with fail
 refine HR.out.mono ?_;rintro e W2 ⟨rfl,hg⟩;have hg2:=Ga.cons (fun _ _=>rfl) HK.out hg;have HP:=Hd (hg2.call (Below.refl _ _) fun _ _ hx=>gpass_any hx HO1.out);clear hg hg2 HR HK c18 r18 c19 r19 HO1
 go_wp2_with fail
 refine HP.out.mono ?_;rintro e W3 ⟨rfl,hg,-⟩;have HS:=Hd (hg.call (Below.refl _ _) fun _ _ hx=>gserve_any hx HO2.out HN2.out);clear hg HP HO2 HN2
 go_wp2_with fail
 refine HS.out.mono ?_;rintro e W4 ⟨rfl,hg,-⟩;rw[HE3.out]at hg;have HG:=Hd hg;obtain⟨o4,V4,hx4,-,-⟩:=hg;obtain⟨p3,hp3⟩:∃x,G3.pi=x:=⟨_,rfl⟩;have c17:W4.cell? ⟨C.gb,17,none⟩=some (.int .i64 p3):=hp3▸hx4.cell 17;have HP3:=Hd hp3;clear hx4 hp3 HS HE3
 go_upto_if 22 with (fail)
 go_cut [] (fun X=>Hid (Ga W ow B C (GM.tk4 G3) X))
 case first=>
  by_cases q:p3=0
  ·have qz:(p3==0)=true:=by simpa using q
   have HE4:Hid (GM.tk4 G3={GM.pln G3 with pi:=G3.st.per}):=by show _=_;unfold GM.tk4;rw[if_pos (HP3.out.trans q)]
   have HX:=Hd (HG.out.call (Below.refl _ _) fun _ _ hx=>gplan_any hx HQ3.out.go (by have:=HN3.out;omega));clear q HG
   go_wp2_with fail
   refine HX.out.mono ?_;rintro e W5 ⟨rfl,hg,-⟩;obtain⟨o5,V5,hx5,h25,h35⟩:=hg;have c12:W5.cell? ⟨C.gb,12,none⟩=some (.int .i64 G3.st.per):=by rw[←(@pln_c G3).2.2];exact hx5.cell 12
   have c17:W5.cell? ⟨C.gb,17,none⟩=some (.int .i64 (GM.pln G3).pi):=hx5.cell 17;have r17:=hx5.fr 17
   have HG5:Hid (Ga W ow B C (GM.tk4 G3) (W5.setCell ⟨C.gb,17,none⟩ (.int .i64 G3.st.per))):=by
    rw[HE4.out];exact⟨o5,V5,hx5.put 17 (.int .i64 G3.st.per) (GM.pln G3).rc G3.st.per (GM.pln G3).nd rfl,h25,h35.set _ _ _ fun hb=>by rw[←h25 _ hb,hx5.t0];omega⟩
   clear hx5 h25 h35 HX HE4;go_wp2;go_meet
   case rel=>exact HG5
  ·have qz:(p3==0)=false:=by simpa using q
   have HE4:Hid (GM.tk4 G3=G3):=by show _=_;unfold GM.tk4;rw[if_neg (fun e=>q (HP3.out.symm.trans e))]
   rw[←HE4.out]at HG;clear q;go_wp2;go_meet
   case rel=>rw[HE4.out]at HG⊢;exact HG
 case rest=>
  obtain⟨q4,-,i4⟩:=HQ3.out.tk4;obtain⟨G4,hG4⟩:∃x,GM.tk4 G3=x:=⟨_,rfl⟩;rw[hG4]at hcut q4 i4 HE5;obtain⟨o5,V5,hx5,h25,h35⟩:=hcut.out;obtain⟨p4,hp4⟩:∃x,G4.pi=x:=⟨_,rfl⟩;have c17:wc.cell? ⟨C.gb,17,none⟩=some (.int .i64 p4):=hp4▸hx5.cell 17;have r17:=hx5.fr 17;have hx6:=hx5.put 17 (.int .i64 (p4-1)) G4.rc (p4-1) G4.nd rfl;have hg5:{G4 with rc:=G4.rc,pi:=p4-1,nd:=G4.nd}=G5:=by rw[HE5.out,hp4]
  rw[hg5]at hx6;have i5:=q4.p1;have i6:=q4.go.rt.per2;rw[hp4]at i4 i5;have HT:=Hd (tell_any hx6 (by rw[HE5.out];exact(q4.pi1 (by omega)).go));have HK6:=Hd (h35.set C.gb 17 (.int .i64 (p4-1)) fun hb=>by show ow C.gb<1000;rw[←h25 _ hb,hx5.t0];omega);have H25:=Hd h25;have hp2:1≤p4:=i4;have hp3:p4≤1000:=by omega
  clear hG4 q4 i4 hcut hx5 h25 h35 hp4 hx6 hg5 i5 i6 HE5 HG
  go_wp2_with fail
  refine HT.out.mono ?_;rintro e W6 ⟨g,rfl,ht⟩;have HTT:=Hd (ht.cons H25.out HK6.out);clear ht HT HK6 H25;go_wp2;go_ret;exact⟨g,rfl,HTT.out⟩
end
open Go.Shelf
def nl:Value:=.slice none 0 0
def zm:List Value:=[.bool false,.bool false,.bool false,.bool false,.bool false,.int .i64 0,.int .i64 0,.int .i64 0,.pointer none,.bool false,.bool false,.slice none 0 0]
def zms(n:Nat):List Value:=(List.replicate n zm).flatten
def zrow(lo i n:Nat):List Value:=mrow (fun k=>lo+k) (fun _=>nl) 0 (List.replicate i GM.z)++zms (n-i)
theorem mrow_snoc{lb:Nat→Nat}{vl:Nat→Value}{m:Mb}:∀(M:List Mb) (k:Nat),mrow lb vl k (M++[m])=mrow lb vl k M++mc (lb (k+M.length)) (vl (k+M.length)) m
 |[],k=>by simp[mrow]
 |x::M,k=>by
  show mc _ _ x++mrow lb vl (k+1) (M++[m])=(mc _ _ x++mrow lb vl (k+1) M)++_;rw[mrow_snoc M,List.append_assoc,List.length_cons,show k+1+M.length=k+(M.length+1) by omega]
theorem zrow_all(lo n:Nat):zrow lo n n=mrow (fun k=>lo+k) (fun _=>nl) 0 (List.replicate n GM.z):=by unfold zrow;rw[Nat.sub_self];exact List.append_nil _
theorem zrow_set{lo i n:Nat}(h:i<n):(zrow lo i n).set (i*12+8) (.pointer (some ⟨lo+i,0,none⟩))=zrow lo (i+1) n:=by
 unfold zrow;have hl:=mrow_length (lb:=fun k=>lo+k) (vl:=fun _=>nl) (List.replicate i GM.z) 0;rw[List.length_replicate]at hl;rw[List.set_append_right _ _ (by omega),hl,Nat.add_sub_cancel_left,List.replicate_succ',mrow_snoc,List.append_assoc,List.length_replicate,Nat.zero_add,show n-i=(n-(i+1))+1 by omega]
 rfl
theorem zrow_get{lo i n:Nat}(h:i<n):(zrow lo i n)[i*12+8]?=some (.pointer none):=by
 unfold zrow;have hl:=mrow_length (lb:=fun k=>lo+k) (vl:=fun _=>nl) (List.replicate i GM.z) 0;rw[List.length_replicate]at hl;rw[List.getElem?_append_right (by omega),hl,Nat.add_sub_cancel_left,show n-i=(n-(i+1))+1 by omega]
 rfl
theorem infoMz:(Tryz.prog.info? 73).map (fun i=>(i.zero,i.size,i.bytes))=some (some (.agg zm.toArray),12,72):=by kernel_rfl
theorem mkGm(n:Nat)(hn:n≤8)(W:World):(Instr.makeSlice 63 (.int .i64 (n:Int)) (.int .i64 (n:Int))).run Tryz.prog W=.ok (.slice (some ⟨W.heap.size,0,none⟩) n n) (W.alloc (.cells (zms n).toArray 73)):=by
 obtain⟨i,hi,h1,h2,h3⟩:=info_parts infoMz
 have:=run_make (P:=Tryz.prog) W 63 73 i _ Tryz.underlying63 hi h1 .i64 .i64 (n:Int) (n:Int) (by omega) (by omega) (by
  have:(i.bytes:Int)*(n:Int)≤72*8:=Int.mul_le_mul (by omega) (by omega) (by omega) (by omega)
  omega) (by omega)
 have e:madeCells (Value.agg zm.toArray).cells (n*12)=(zms n).toArray:=by
  have:n=0∨n=1∨n=2∨n=3∨n=4∨n=5∨n=6∨n=7∨n=8:=by omega
  apply Array.toList_inj.1;rcases this with rfl|rfl|rfl|rfl|rfl|rfl|rfl|rfl|rfl<;>simp[madeCells,Value.cells,zms,zm,List.replicate,List.range,List.range.loop]
 rw[this,h2,Int.toNat_natCast,e]
theorem built_gr(s:St)(b g n:Nat):Tryz.prog.built 67 [(0,.agg (sv s).toArray),(2,.pointer (some ⟨b,0,none⟩)),(3,.slice (some ⟨g,0,none⟩) n n)]=some (sv s++[nl,.pointer (some ⟨b,0,none⟩),.slice (some ⟨g,0,none⟩) n n,.bool false,.int .i64 0,nl,.int .i64 0]).toArray:=by kernel_rfl
theorem wpOp_stP{ops:Array Oper}{Q:Exit→Act→World→Prop}{i:Nat}{o:Oper}{K:Act→World→Prop}{a:Act}{w:World}(hi:ops[i]?=some o)(hw:Region.wanted o (yielded ops a.tmps)=true)(x y:Operand)(ho:o.op=.store 68 x y)
  (b f l:Nat) (hx:a.eval x=.pointer (some ⟨b,f,none⟩)) (hy:a.eval y=.pointer (some ⟨l,0,none⟩)) (hr:w.cell? ⟨b,f,none⟩=some (.pointer none)) (hf:w.frozen? ⟨b,f,none⟩=false) (h:K (a.put o.dst undef) (w.setCell ⟨b,f,none⟩ (.pointer (some ⟨l,0,none⟩)))):wpOp Tryz.prog ops Q i K a w:=by
 unfold wpOp;rw[hi];simp only;rw[if_pos hw];refine .inl ?_;have hl:(Instr.storeAt 68 (.pointer (some ⟨b,f,none⟩)) (.pointer (some ⟨l,0,none⟩))).run Tryz.prog w=.ok () (w.setCell ⟨b,f,none⟩ (.pointer (some ⟨l,0,none⟩))):=by simp[go_sem,hr,hf]
 unfold Oper.wp execOp;simp only[ho,Sem.run_bind,Sem.run_pure,Result.andThen_ok,hx,hy,hl];exact h
theorem gl23{o:Oper}{a:Act}{w:World}(x:Operand)(b:Nat)(s:St)(ho:o.op=.load 23 x)(hx:a.eval x=.pointer (some ⟨b,0,none⟩))(h:SB w b s):(execOp a.eval o).run Tryz.prog w=.ok (.value (.agg (sv s).toArray)) w:=by
 unfold execOp;simp only[ho,hx,Sem.run_bind,Sem.run_pure,Result.andThen_ok,load23 w b s h.range]
section
variable {S:World→Prop} {ops:Array Oper} {Q:Exit→Act→World→Prop} {i:Nat} {o:Oper} {K:Act→World→Prop} {a:Act} {w:World}
theorem wpOp_mkGm(hi:ops[i]?=some o)(hw:Region.wanted o (yielded ops a.tmps)=true)(x y:Operand)(ho:o.op=.makeSlice 63 x y)(n:Nat)(hn:n≤8)(hx:a.eval x=.int .i64 (n:Int))(hy:a.eval y=.int .i64 (n:Int))
  (h:K (a.put o.dst (.slice (some ⟨w.heap.size,0,none⟩) n n)) (w.alloc (.cells (zms n).toArray 73))):wpOp Tryz.prog ops Q i K a w:=
 wpOp_val hi hw (by unfold execOp;simp only[ho,hx,hy,Sem.run_bind,Sem.run_pure,Result.andThen_ok,mkGm n hn]) h
end
def G0(s:St):Gs:=⟨s,[],[],0,List.replicate s.ca.toNat GM.z,false,0,[],0⟩
structure Nw(W wr:World)(s:St)(gb cb bb lo i n:Nat):Prop where
 bel:Below W.heap.size W wr
 g:wr.heap[gb]?=some (.cells (sv s++[nl,.pointer (some ⟨bb,0,none⟩),.slice (some ⟨cb,0,none⟩) n n,.bool false,.int .i64 0,nl,.int .i64 0]).toArray 67 (0,0))
 c:wr.heap[cb]?=some (.cells (zrow lo i n).toArray 73 (0,0))
 b:CC.PB wr bb s.fl s.ca nl 0
 l:∀j,j<i→LL.LB wr (lo+j) LL.LM.z
 sz:wr.heap.size=lo+i
 gl:W.heap.size≤gb∧gb<lo∧W.heap.size≤cb∧cb<lo∧W.heap.size≤bb∧bb<lo∧gb≠cb∧gb≠bb∧cb≠bb
section
variable {W wr W':World} {s:St} {gb cb bb lo i n:Nat}
theorem Nw.c15(h:Nw W wr s gb cb bb lo i n):wr.cell? ⟨gb,15,none⟩=some (.slice (some ⟨cb,0,none⟩) n n):=by simp[World.cell?,h.g,sv]
theorem Nw.drew(h:Nw W wr s gb cb bb lo i n):Nw W wr.drew s gb cb bb lo i n:=⟨h.bel.drew,h.g,h.c,h.b,h.l,h.sz,h.gl⟩
theorem Nw.lnk{o:Obj}(h:Nw W wr s gb cb bb lo i n):(wr.alloc o).cell? ⟨gb,15,none⟩=some (.slice (some ⟨cb,0,none⟩) n n)∧∀k,k=i→k<n→(wr.alloc o).cell? ⟨cb,k*12+8,none⟩=some (.pointer none)∧(wr.alloc o).frozen? ⟨cb,k*12+8,none⟩=false:=by
 have hs:=h.sz;have hl:=h.gl;have hg:=(Below.heap_alloc wr o gb (by omega)).trans h.g;have hc:=(Below.heap_alloc wr o cb (by omega)).trans h.c;refine⟨by simp[World.cell?,hg,sv],fun k hk hn=>⟨?_,by simp[World.frozen?,hc]⟩⟩;subst hk;simp[World.cell?,hc,zrow_get hn]
theorem Nw.step(h:Nw W wr s gb cb bb lo i n)(hi:i<n):Nw W ((wr.alloc (.cells #[.bool false,.int .u16 0,.int .i64 0] 89)).setCell ⟨cb,i*12+8,none⟩ (.pointer (some ⟨lo+i,0,none⟩))) s gb cb bb lo (i+1) n:=by
 obtain⟨l1,l2,l3,l4,l5,l6,l7,l8,l9⟩:=h.gl;have hs:=h.sz;have k:∀b,b<wr.heap.size→b≠cb→((wr.alloc (.cells #[.bool false,.int .u16 0,.int .i64 0] 89)).setCell ⟨cb,i*12+8,none⟩ (.pointer (some ⟨lo+i,0,none⟩))).heap[b]?=wr.heap[b]?:=fun b hb hne=>(Below.heap_setCell _ _ _ _ hne).trans (Below.heap_alloc _ _ _ hb);refine⟨(h.bel.alloc h.bel.size _).setCell (p:=⟨cb,i*12+8,none⟩) l3 _,(k _ (by omega) l7).trans h.g,?_,(k _ (by omega) (Ne.symm l9)).trans h.b,fun j hj=> ?_,by simp[World.setCell];omega,h.gl⟩
 ·have h1:=heap_setCell_same (wr.alloc (.cells #[.bool false,.int .u16 0,.int .i64 0] 89)) cb (i*12+8) _ _ (.pointer (some ⟨lo+i,0,none⟩)) ((Below.heap_alloc wr _ cb (by omega)).trans h.c);refine h1.trans ?_;rw[←zrow_set hi];simp
 ·by_cases e:j=i
  ·subst e;refine (Below.heap_setCell _ _ _ _ (by show lo+j≠cb;omega)).trans ?_;rw[←hs];exact World.alloc_heap_new wr _
  ·exact(k _ (by omega) (by omega)).trans (h.l j (by omega))
structure Nv(W wr:World)(s:St)(bb cb n:Nat):Prop where
 bel:Below W.heap.size W wr
 b:CC.PB wr bb s.fl s.ca nl 0
 c:wr.heap[cb]?=some (.cells (zms n).toArray 73 (0,0))
 bl:W.heap.size≤bb
 cl:W.heap.size≤cb
 ne:cb≠bb
 sb:SB wr W.heap.size s
theorem Nv.nw(h:Nv W wr s bb cb n):Nw W (wr.alloc (.cells (sv s++[nl,.pointer (some ⟨bb,0,none⟩),.slice (some ⟨cb,0,none⟩) n n,.bool false,.int .i64 0,nl,.int .i64 0]).toArray 67)) s wr.heap.size cb bb (wr.heap.size+1) 0 n:=by
 have h1:=h.b.lt;have h2:=(Array.getElem?_eq_some_iff.1 h.c).1;have h3:=h.bel.size;exact⟨h.bel.alloc h3 _,World.alloc_heap_new wr _,(Below.heap_alloc wr _ cb h2).trans h.c,h.b.alloc _,fun j hj=>by omega,by simp,by have:=h.bl;have:=h.cl;have:=h.ne;omega⟩
def ow0(gb cb bb lo n b:Nat):Nat:=if b=gb then 0 else if b=cb then 1 else if b=bb then 2 else if lo≤b∧b<lo+n then 10+2*(b-lo)else 1000
theorem Nw.gx(h:Nw W wr s gb cb bb lo n n)(hn:s.ca=n)(h8:n≤8):GX al wr (ow0 gb cb bb lo n) W.heap.size ⟨gb,cb,bb,fun k=>lo+k⟩ ⟨nl,nl,nl,fun _=>nl⟩ (G0 s):=by
 obtain⟨l1,l2,l3,l4,l5,l6,l7,l8,l9⟩:=h.gl;have hs:=h.sz;have hM:(G0 s).M=List.replicate n GM.z:=by unfold G0;rw[hn];rfl
 have hL:(G0 s).M.length=n:=by rw[hM,List.length_replicate]
 refine⟨fun t _=> ?_,by unfold ow0;rw[if_pos rfl],by unfold ow0;rw[if_neg (Ne.symm l7),if_pos rfl],by unfold ow0;rw[if_neg (Ne.symm l8),if_neg (Ne.symm l9),if_pos rfl],fun i hi=> ?_,fun k hk=> ?_,by omega,⟨by show gb<_;omega,by show cb<_;omega,by show bb<_;omega,fun i hi=> ?_⟩⟩
 ·match t with
  |0=>exact h.g.trans (by unfold gcv;rw[hL];rfl)
  |1=>exact h.c.trans (by rw[zrow_all,hM])
  |2=>exact⟨⟨h.b,CC.RW.nil _ _,(fun e=>by cases e),l5,(by decide:(0:Nat)<_)⟩,fun g hg=>by cases hg⟩
  |3=>exact trivial
  |4=>exact⟨⟨rfl,.inl ⟨rfl,rfl⟩⟩,fun g hg=>by cases hg⟩
  |5=>exact⟨⟨rfl,.inl ⟨rfl,rfl⟩⟩,fun g hg=>by cases hg⟩
  |t+6=>
   intro i m hm;rw[hM]at hm;have hi:i<n:=by have:=(List.getElem?_eq_some_iff.1 hm).1;rwa[List.length_replicate]at this
   obtain rfl:GM.z=m:=by
    rw[List.getElem?_replicate,if_pos hi]at hm;exact Option.some.inj hm
   exact⟨fun _=>h.l i hi,fun _=>⟨CC.RW.nil _ _,fun g hg=>by cases hg⟩⟩
 ·have hi:i<n:=by omega
  unfold ow0;rw[if_neg (by show lo+i≠gb;omega),if_neg (by show lo+i≠cb;omega),if_neg (by show lo+i≠bb;omega),if_pos (by show lo≤lo+i∧lo+i<lo+n;omega)];show 10+2*(lo+i-lo)=_;omega
 ·have hk:ow0 gb cb bb lo n k<1000:=hk;unfold ow0 at hk;have:=h.bel.size;split at hk
  ·omega
  ·split at hk
   ·omega
   ·split at hk
    ·omega
    ·split at hk
     ·omega
     ·omega
 ·show lo+i<_;omega
end
def GNew(s:St)(W:World)(e:Ending)(w':World):Prop:=∃ow C V,e=.returned (.tuple #[.pointer (some ⟨C.gb,0,none⟩),.int .i64 0])∧GX al w' ow W.heap.size C V (G0 s)∧Below W.heap.size W w'
section
theorem gnew_yes(s:St)(r:SM.Rt s)(W:World):Calls Tryz.prog 8 #[.agg (sv s).toArray] W fun e w'=>GNew s W e w':=by
 have HR:=Hd (right_t s r (W.alloc (.cells (sv s).toArray 23)));have HS:=Hd (SB.new W s);have HB:=Hd ((Below.refl W.heap.size W).alloc (Nat.le_refl _) (.cells (sv s).toArray 23));obtain⟨n,hn,hn8⟩:∃n:Nat,s.ca=n∧n≤8:=⟨s.ca.toNat,by obtain⟨⟩:=r;omega,by obtain⟨⟩:=r;omega⟩;have HN:=Hd hn;clear hn
 go_enter Tryz.func8,Tryz.ntmps8
 go_wp2_with (refine wpList_load23 rfl _ rfl W.heap.size s rfl HS.out ?_)
 refine HR.out.mono ?_;rintro e W2 ⟨rfl,hb2⟩;have HB2:=Hd (below_class HB.out hb2);have HS2:=Hd (HS.out.below' hb2);have HL2:Hid (W.heap.size<W2.heap.size):=HS2.out.lt;clear hb2 HR HS HB
 go_upto_region 3 with (fail)
 refine wp_nrm ?_;refine wp_region_held (S:=fun w'=>SB w' W.heap.size s∧w'.cell? ⟨W.heap.size,1,none⟩=some (.int .i64 (n:Int))) (by kernel_rfl) ?_;change wpAnyH _ _ _ _ _ _ _ _ (World.drew _);have HSS:Hid (∀w',SB w' W.heap.size s→SB w' W.heap.size s∧w'.cell? ⟨W.heap.size,1,none⟩=some (.int .i64 (n:Int))):=fun w' h=>⟨h,by have:=h.cell 1;rw[this,←HN.out];rfl⟩;have HD:=Hd (HSS.out _ HS2.out.drew);have HX0:=Hd (HB2.out.drew);have HZ0:Hid (W.heap.size<W2.drew.heap.size):=HL2.out;generalize W2.drew=X0 at HD HX0 HZ0⊢;clear HB2 HS2 HL2;refine wpAnyH_take (i:=0) (v:=.agg (sv s).toArray) rfl (by kernel_rfl) (by kernel_rfl) (by kernel_rfl) (fun _ _ _ h=>by cases h.1) (.inl ⟨rfl,(fun w hw=>gl23 _ _ s rfl rfl hw.1)⟩) HD.out ?_;generalize hKK:wpAnyH _ _ _ _ _ _ _=KK;go_simp;subst hKK;refine wpAnyH_take (i:=1) (v:=.agg (sv s).toArray) rfl (by kernel_rfl) (by kernel_rfl) (by kernel_rfl) (fun _ _ _ h=>by cases h.1) (.inl ⟨rfl,(fun w hw=>gl23 _ _ s rfl rfl hw.1)⟩) HD.out ?_;generalize hKK:wpAnyH _ _ _ _ _ _ _=KK;go_simp;subst hKK;refine wpAnyH_take (i:=3) rfl (by kernel_rfl) (by kernel_rfl) (by kernel_rfl) (fun _ _ _ h=>by cases h.1) (.inl ⟨rfl,fun _ _=>rfl⟩) HD.out ?_;generalize hKK:wpAnyH _ _ _ _ _ _ _=KK;go_simp;subst hKK;refine wpAnyH_take (i:=4) (v:=.int .i64 (n:Int)) rfl (by kernel_rfl) (by kernel_rfl) (by kernel_rfl) (fun _ _ _ h=>by cases h.1) (.inl ⟨rfl,(fun w hw=>by have hc:=hw.2;go_simp)⟩) HD.out ?_;generalize hKK:wpAnyH _ _ _ _ _ _ _=KK;go_simp;subst hKK;refine wpAnyH_all (rs:=[2,5]) (by kernel_rfl) (by simp) (fun ii hii=> ?_);have h7:ii=2∨ii=5:=by simpa using hii
 clear hii;rcases h7 with rfl|rfl;refine wpOp_call (f:=23) (args:= #[.agg (sv s).toArray]) rfl rfl (by go_simp) (CC.new_any _ s.fl s.ca rfl rfl X0) ?_;rintro e X1 ⟨b,rfl,hlb,hb1,hpb⟩;have HS1:=Hd (HSS.out _ (HD.out.1.below' hb1));have HV:Hid (Nv W (X1.alloc (.cells (zms n).toArray 73)) s b X1.heap.size n):=⟨(below_class HX0.out hb1).alloc (below_class HX0.out hb1).size _,hpb.alloc _,World.alloc_heap_new X1 _,by have:=HX0.out.size;omega,(below_class HX0.out hb1).size,by have:=hpb.lt;omega,HS1.out.1.alloc _⟩;refine⟨_,rfl,HS1.out,?_⟩;have hpl:=hpb.lt;clear hlb hb1 hpb HD HX0;generalize hKK:wpAnyH _ _ _ _ _ _ _=KK;go_simp;subst hKK;refine wpAnyH_all (rs:=[5]) (by kernel_rfl) (by simp) (fun ii hii=> ?_);obtain rfl:ii=5:=by simpa using hii
 clear hii;refine wpOp_mkGm rfl rfl _ _ rfl n hn8 rfl rfl ⟨HSS.out _ HV.out.sb,?_⟩;generalize X1.alloc (.cells (zms n).toArray 73)=X2 at HV⊢;generalize X1.heap.size=g at HV⊢;clear HS1 hpl;rotate_left;have HV0:=Hd (World.alloc_heap_new X0 (.cells (zms n).toArray 73));have HS1:=Hd (HSS.out _ (HD.out.1.alloc (.cells (zms n).toArray 73)));have hbx:=HX0.out.alloc HX0.out.size (.cells (zms n).toArray 73);have HBX:=Hd hbx;refine wpOp_mkGm rfl rfl _ _ rfl n hn8 rfl rfl ⟨HS1.out,?_⟩;have HG:=Hd HX0.out.size;have HG2:Hid (X0.heap.size<(X0.alloc (.cells (zms n).toArray 73)).heap.size):=by show _<_;simp
 generalize X0.alloc (.cells (zms n).toArray 73)=X1 at HV0 HS1 HBX HG2⊢;generalize X0.heap.size=g at HV0 HG HG2⊢;clear hbx HD HX0;generalize hKK:wpAnyH _ _ _ _ _ _ _=KK;go_simp;subst hKK;refine wpAnyH_all (rs:=[2]) (by kernel_rfl) (by simp) (fun ii hii=> ?_);obtain rfl:ii=2:=by simpa using hii
 clear hii;refine wpOp_call (f:=23) (args:= #[.agg (sv s).toArray]) rfl rfl (by go_simp) (CC.new_any _ s.fl s.ca rfl rfl X1) ?_;rintro e X2 ⟨b,rfl,hlb,hb1,hpb⟩;have HV:Hid (Nv W X2 s b g n):=⟨below_class HBX.out hb1,hpb,(hb1.block g HG2.out).trans HV0.out,Nat.le_trans HG.out (by have:=HG2.out;omega),HG.out,by have:=HG2.out;omega,HS1.out.1.below' hb1⟩;refine⟨_,rfl,HSS.out _ HV.out.sb,?_⟩;clear hlb hb1 hpb HV0 HS1 HBX HG HG2
 all_goals
  have HD:=Hd (HSS.out _ HV.out.sb);generalize hKK:wpAnyH _ _ _ _ _ _ _=KK;go_simp;subst hKK;refine wpAnyH_take (i:=6) rfl (by kernel_rfl) (by kernel_rfl) (by kernel_rfl) (fun _ _ _ h=>by cases h.1) (yif_build rfl _ _ rfl [(0,.agg (sv s).toArray),(2,.pointer (some ⟨b,0,none⟩)),(3,.slice (some ⟨g,0,none⟩) n n)] (by simp[Act.eval]) _ (built_gr s b g n)) HD.out ?_;generalize hKK:wpAnyH _ _ _ _ _ _ _=KK;go_simp;subst hKK;refine wpAnyH_all (rs:=[7]) (by kernel_rfl) (by simp) (fun ii hii=> ?_);obtain rfl:ii=7:=by simpa using hii
  clear hii;have HW:=Hd HV.out.nw;refine wpOp_box rfl rfl _ _ rfl _ rfl ⟨HSS.out _ (HV.out.sb.alloc _),?_⟩;clear HD;have HD:=Hd (HSS.out _ (HV.out.sb.alloc (.cells (sv s++[nl,.pointer (some ⟨b,0,none⟩),.slice (some ⟨g,0,none⟩) n n,.bool false,.int .i64 0,nl,.int .i64 0]).toArray 67)));generalize X2.alloc (.cells (sv s++[nl,.pointer (some ⟨b,0,none⟩),.slice (some ⟨g,0,none⟩) n n,.bool false,.int .i64 0,nl,.int .i64 0]).toArray 67)=X3 at HW HD⊢;generalize X2.heap.size+1=lo at HW;generalize X2.heap.size=gb at HW⊢;clear HV;generalize hKK:wpAnyH _ _ _ _ _ _ _=KK;go_simp;subst hKK;refine wpAnyH_take (i:=8) rfl (by kernel_rfl) (by kernel_rfl) (by kernel_rfl) (fun _ _ _ h=>by cases h.1) (.inl ⟨rfl,fun _ _=>rfl⟩) HD.out ?_;generalize hKK:wpAnyH _ _ _ _ _ _ _=KK;go_simp;subst hKK;refine wpAnyH_done (by kernel_rfl) ⟨rfl,?_⟩ _;have c15:=HW.out.c15;clear HSS HD
  go_wp2_with fail
  clear c15
  go_loopw [22] (fun iv wr=>∃i:Nat,i≤n∧iv=.int .i64 (i:Int)∧Hid (Nw W wr s gb g b lo i n)) (fun iv _=>n-(intOf iv).toNat)
  case atStart=>exact⟨0,Nat.zero_le _,rfl,HW⟩
  case round=>
   clear HW;obtain⟨i,hi,rfl,HW⟩:=hrel;by_cases hlt:i<n
   ·have hz:(i:Int)<(n:Int):=by omega
    have c15:=HW.out.c15;have hix:∀W:World,_:=fun W=>ixM (ab:=g) W hlt
    go_wp2_with fail
    refine wp_nrm ?_;refine wp_region_held (S:=fun w'=>w'.cell? ⟨gb,15,none⟩=some (.slice (some ⟨g,0,none⟩) n n)) (by kernel_rfl) ?_;change wpAnyH _ _ _ _ _ _ _ _ (World.drew _);have HWD:=Hd HW.out.drew;have HD:Hid (wr.drew.cell? ⟨gb,15,none⟩=some (.slice (some ⟨g,0,none⟩) n n)):=c15;generalize wr.drew=wd at HWD HD⊢;refine wpAnyH_take (i:=0) rfl (by kernel_rfl) (by kernel_rfl) (by kernel_rfl) (fun _ _ _ h=>by cases h.1) (.inl ⟨rfl,fun _ _=>rfl⟩) HD.out ?_;generalize hKK:wpAnyH _ _ _ _ _ _ _=KK;go_simp;subst hKK;refine wpAnyH_take (i:=1) rfl (by kernel_rfl) (by kernel_rfl) (by kernel_rfl) (fun _ _ _ h=>by cases h.1) (.inl ⟨rfl,fun _ _=>rfl⟩) HD.out ?_;generalize hKK:wpAnyH _ _ _ _ _ _ _=KK;go_simp;subst hKK;refine wpAnyH_take (i:=2) rfl (by kernel_rfl) (by kernel_rfl) (by kernel_rfl) (fun _ _ _ h=>by cases h.1) (.inl ⟨rfl,fun _ _=>rfl⟩) HD.out ?_;generalize hKK:wpAnyH _ _ _ _ _ _ _=KK;go_simp;subst hKK;refine wpAnyH_take (i:=3) (v:=.slice (some ⟨g,0,none⟩) n n) rfl (by kernel_rfl) (by kernel_rfl) (by kernel_rfl) (fun _ _ _ h=>by cases h.1) (.inl ⟨rfl,(fun w hw=>by have hc:=hw;go_simp)⟩) HD.out ?_;generalize hKK:wpAnyH _ _ _ _ _ _ _=KK;go_simp;subst hKK;refine wpAnyH_take (i:=4) rfl (by kernel_rfl) (by kernel_rfl) (by kernel_rfl) (fun _ _ _ h=>by cases h.1) (.inl ⟨rfl,fun _ _=>rfl⟩) HD.out ?_;generalize hKK:wpAnyH _ _ _ _ _ _ _=KK;go_simp;subst hKK;refine wpAnyH_all (rs:=[5]) (by kernel_rfl) (by simp) (fun ii hii=> ?_);obtain rfl:ii=5:=by simpa using hii
    clear hii;refine wpOp_call (f:=24) (args:= #[]) rfl rfl (by go_simp) (LL.new_any _) ?_;rintro e X1 ⟨rfl,rfl⟩;have HS:=Hd (HWD.out.step hlt);have HC:=Hd (HWD.out.lnk (o:=.cells #[.bool false,.int .u16 0,.int .i64 0] 89));have hbl:wd.heap.size=lo+i:=HWD.out.sz;rw[hbl];refine⟨_,rfl,HC.out.1,?_⟩;have HD:=Hd HC.out.1;generalize wd.alloc (.cells #[.bool false,.int .u16 0,.int .i64 0] 89)=X1 at HS HD HC⊢;clear hbl HWD HW;generalize hKK:wpAnyH _ _ _ _ _ _ _=KK;go_simp;subst hKK;refine wpAnyH_take (i:=6) (v:=.pointer (some ⟨g,i*12,none⟩)) rfl (by kernel_rfl) (by kernel_rfl) (by kernel_rfl) (fun _ _ _ h=>by cases h.1) (.inl ⟨rfl,(fun w _=>by have:=hix w;go_simp)⟩) HD.out ?_;generalize hKK:wpAnyH _ _ _ _ _ _ _=KK;go_simp;subst hKK;refine wpAnyH_take (i:=7) rfl (by kernel_rfl) (by kernel_rfl) (by kernel_rfl) (fun _ _ _ h=>by cases h.1) (.inl ⟨rfl,fun _ _=>rfl⟩) HD.out ?_;generalize hKK:wpAnyH _ _ _ _ _ _ _=KK;go_simp;subst hKK;refine wpAnyH_all (rs:=[8]) (by kernel_rfl) (by simp) (fun ii hii=> ?_);obtain rfl:ii=8:=by simpa using hii
    clear hii;refine wpOp_stP rfl rfl _ _ rfl g (i*12+8) (lo+i) rfl rfl (HC.out.2 i rfl hlt).1 (HC.out.2 i rfl hlt).2 ⟨HS.out.c15,?_⟩;generalize X1.setCell ⟨g,i*12+8,none⟩ (.pointer (some ⟨lo+i,0,none⟩))=X2 at HS⊢;generalize hKK:wpAnyH _ _ _ _ _ _ _=KK;go_simp;subst hKK;refine wpAnyH_done (by kernel_rfl) ⟨rfl,?_⟩ _;have hi1:i+1≤n:=hlt;clear HC HD;go_wp2;go_roundw
    case rel=>exact⟨i+1,hi1,by go_num,HS⟩
    case measure=>simp[intOf];omega
   ·have hz:¬(i:Int)<(n:Int):=by omega
    obtain rfl:i=n:=by omega
    have HG:=Hd (HW.out.gx HN.out hn8);have HB:=Hd HW.out.bel;clear HW;go_wp2
    go_ret2
    exact⟨_,⟨gb,g,b,fun k=>lo+k⟩,⟨nl,nl,nl,fun _=>nl⟩,rfl,HG.out,HB.out⟩
end
theorem set_some{α:Type}:∀{l:List α} {i:Nat} {x:α},l[i]?=some x→l.set i x=l
 |[],_,_,_=>rfl
 |y::l,0,x,h=>by simp at h;rw[h];rfl
 |y::l,i+1,x,h=>by rw[List.set_cons_succ,set_some (by simpa using h)]
namespace GM
def cor(m:Mb):Mb:={m with su:=false,sd:=false,ls:=[]}
section
variable {G:Gs} {b:List Nat} {n:Nat}
theorem adn_cor(wd:List CC.Cl)(M:List Mb)(P:List (List Int)):∀k,(adn wd M P k).map cor=M.map cor
 |0=>rfl
 |k+1=>by
  unfold adn;split
  ·rename_i m l hm hl;rw[List.map_set,adn_cor wd M P k];exact set_some (by rw[List.getElem?_map,hm];rfl)
  ·exact adn_cor wd M P k
theorem tk4_c:(tk4 G).L=G.L∧(tk4 G).rc=G.rc∧(tk4 G).s=G.s∧(tk4 G).M.map cor=G.M.map cor:=by
 unfold tk4;split
 ·show(pln G).L=_∧(pln G).rc=_∧(pln G).s=_∧(pln G).M.map cor=_;rw[pln_eq];split<;>exact⟨rfl,rfl,rfl,adn_cor _ _ _ _⟩
 ·exact⟨rfl,rfl,rfl,rfl⟩
theorem cmd_cor(m:Mb):cor (cmd G n m).2=cor m:=by
 unfold cmd snd
 (repeat' split)<;>rfl
theorem tll_c:∀n,(tll G n).2={G with M:=(tll G n).2.M}∧(tll G n).2.M.map cor=G.M.map cor
 |0=>⟨rfl,rfl⟩
 |n+1=>by
  obtain⟨h1,h2⟩:=tll_c n;cases hm:G.M[n]? with
  |none=>
   have e:tll G (n+1)=tll G n:=by
    show(match G.M[n]? with|none=>tll G n|some m=>_)=_;rw[hm]
   rw[e];exact⟨h1,h2⟩
  |some m=>
   rw[tll_more hm];refine⟨by simp only;rw[h1],?_⟩;show((tll G n).2.M.set n (cmd G n m).2).map cor=_;rw[List.map_set,h2,cmd_cor];exact set_some (by rw[List.getElem?_map,hm];rfl)
theorem tck_c:(tck G b).2.L=(tk3 G b).L∧(tck G b).2.rc=(tk3 G b).rc∧(tck G b).2.M.map cor=(tk3 G b).M.map cor∧(tck G b).2.N=(tk4 (tk3 G b)).N∧(tck G b).2.nd=(tk4 (tk3 G b)).nd∧(tck G b).2.s=(tk3 G b).s:=by
 obtain⟨h1,h2⟩:=tll_c (G:=tk5 G b) (tk5 G b).M.length;have k:=@tk4_c (tk3 G b);have e:(tck G b).2={tk5 G b with M:=(tck G b).2.M}:=h1;rw[e];exact⟨k.1,k.2.1,h2.trans k.2.2.2,rfl,rfl,k.2.2.1⟩
theorem tk3_M:(tk3 G b).M=(rdb {G with N:=[],nd:=0} b).M.map (psm (rdb {G with N:=[],nd:=0} b).st.sil):=by
 unfold tk3 srv;split
 ·rfl
 ·rw[(srvs_M _ _).1];rfl
theorem tll_at:∀{k i:Nat} {m:Mb},i<k→G.M[i]?=some m→k≤G.M.length→(tll G k).1[i]?=some (cmd G i m).1
 |0,_,_,h,_,_=>by omega
 |k+1,i,m,h,hm,hk=>by
  obtain⟨x,hx⟩:∃x,G.M[k]?=some x:=⟨_,List.getElem?_eq_getElem (by omega)⟩;rw[tll_more hx];have hl:=tll_len (G:=G) (n:=k) (by omega);by_cases e:i=k
  ·subst e;rw[hm]at hx;cases hx;rw[List.getElem?_append_right (by omega),hl,Nat.sub_self];rfl
  ·rw[List.getElem?_append_left (by omega)];exact tll_at (by omega) hm (by omega)
end
end GM
def gs:St:=⟨5,1,0,2,0,3,1,1,0,9,9,9,1⟩
def gf1:FF.Fr:=⟨1,0,1,2,2,0⟩
def gf2:FF.Fr:=⟨2,255,0,2,1,0⟩
theorem spk1:(GM.tck (G0 gs) (FF.FC.en gf1++FF.FC.en gf2)).1=[(true,-1)]:=by decide+kernel
theorem spk2:(GM.tck (G0 gs) (FF.FC.en gf1++FF.FC.en gf2)).2.L.length=1:=by decide+kernel
theorem gs_rt:SM.Rt gs:=by constructor<;>decide
theorem gf_may:FF.FC.May gf1∧FF.FC.May gf2:=⟨by constructor<;>decide,by constructor<;>decide⟩
theorem GQ.new{s:St}(h:SM.Rt s):GQ 0 (G0 s):=by
 have hc:((List.replicate s.ca.toNat GM.z).length:Int)=s.ca:=by rw[List.length_replicate];have:=h.ca1;omega
 refine⟨⟨h,hc,?_,fun m hm=> ?_,Int.le_refl _,by decide⟩,FF.FC.Bs.nil,(by decide:0<10),Int.le_refl _,by show 0≤s.per;have:=h.per1;omega⟩
 ·exact CC.KM.Gd.nil _ _ _
 ·obtain rfl:=List.eq_of_mem_replicate hm;exact⟨LL.LM.ok_z,Int.le_refl _,by show 0<s.fl;have:=h.fl1;omega,Int.le_refl _,by show 0<s.fl;have:=h.fl1;omega,by decide⟩
def sev(m:Mb):List Value:=[.bool m.lv,.bool m.ou,.bool m.mo,.bool m.fa,.bool m.ov,.int .i64 m.fl,.int .i64 m.tg,.int .i64 m.ph]
def GM.see(M:List Mb)(c:Int):Mb:=if 0≤c∧c<M.length then(M[c.toNat]?).getD z else z
theorem infoSe:(Tryz.prog.info? 43).map (·.size)=some 8:=by kernel_rfl
theorem built_se:Tryz.prog.built 43 []=some (sev GM.z).toArray:=by kernel_rfl
section
variable {W W' W2:World} {ow:Nat→Nat} {B:Nat} {C:Gc} {V:Gv} {G:Gs} {m:Mb} {i:Nat} {N:List (Int×Int)} {v:Value}
theorem wpList_loadSe{ops:Array Oper}{rest:List Oper}{op:Oper}{a:Act}{w:World}{Q:Exit→Act→World→Prop}(hgd:op.guard=none)(x:Operand)(ho:op.op=.load 43 x)
  (b o:Nat) (hx:a.eval x=.pointer (some ⟨b,o,none⟩)) (H:w.rangeAt b o (sev m))
  (h:wpList Tryz.prog ops Q rest (a.put op.dst (.agg (sev m).toArray)) w):wpList Tryz.prog ops Q (op::rest) a w:=
 wpList_plain hgd fun _ hK=>by
  unfold Oper.wp execOp;simp only[ho,Sem.run_bind,Sem.run_pure,Result.andThen_ok,hx,run_loadAt_mid (P:=Tryz.prog) w b o 43 (sev m) _ H Tryz.underlying43 rfl infoSe];exact hK _ _ h
theorem retSe{fn:Func}{t:Tmp}{b:Nat}(hf:fn.results= #[.cell t 43]){tmps:Array Value}{w:World}(hp:tmps.getD t undef=.pointer (some ⟨b,0,none⟩))(hD:w.heap[b]?=some (.cells (sev m).toArray 43 (0,0))):
  (results fn tmps).run Tryz.prog w=.ok (.agg (sev m).toArray) w:=
 results_cell_row hf tmps w b _ _ _ _ hp hD Tryz.underlying43 rfl infoSe
theorem gseen_any(h:GX al W ow B C V G)(c:Int):
  Calls Tryz.prog 14 #[.pointer (some ⟨C.gb,0,none⟩),.int .i64 c] W fun e w'=>e=.returned (.agg (sev (GM.see G.M c)).toArray)∧Below W.heap.size W w':=by
 have hb:=(Below.refl W.heap.size W).alloc (Nat.le_refl _) (.cells (sev GM.z).toArray 43);have HR:Hid ((W.alloc (.cells (sev GM.z).toArray 43)).heap[W.heap.size]?=some (.cells (sev GM.z).toArray 43 (0,0))):=World.alloc_heap_new W _;have HB:=Hd hb;have h1:=h.below' hb;have HC:=Hd (hasCar_any h1 c);have c15:=h1.c15;have hml:=h.ml;clear hb;by_cases q:0≤c∧c<G.M.length
 ·obtain⟨i,rfl⟩:∃n:Nat,c=n:=⟨c.toNat,by omega⟩;have hi:i<G.M.length:=by omega
  obtain⟨m,hm⟩:∃m,G.M[i]?=some m:=⟨_,List.getElem?_eq_getElem hi⟩;have HS:Hid (GM.see G.M (i:Int)=m):=by show _=_;unfold GM.see;rw[if_pos q,Int.toNat_natCast,hm];rfl
  have HG:Hid ((W.alloc (.cells (sev GM.z).toArray 43)).rangeAt C.cb (i*12) (sev m)):=fun j u hu=>by
   have hj:j<8:=(List.getElem?_eq_some_iff.1 hu).1;rw[h1.mcell hm j (by omega),show mc (C.lb i) (V.vl i) m=sev m++[.pointer (some ⟨C.lb i,0,none⟩),.bool m.su,.bool m.sd,V.vl i]from rfl,List.getElem?_append_left hj,hu]
  have hix:∀W:World,_:=fun W=>ixM (ab:=C.cb) W hi;rw[show(decide (0≤(i:Int))&&decide ((i:Int)<(G.M.length:Int)))=true by simp;omega]at HC;rw[HS.out];clear h h1 hm q hi HS;have e0:(sev GM.z).toArray= #[.bool false,.bool false,.bool false,.bool false,.bool false,.int .i64 0,.int .i64 0,.int .i64 0]:=rfl;rw[e0]at HC c15 HG HR HB;clear e0
  go_enter Tryz.func14,Tryz.ntmps14
  go_wp2_with fail
  refine HC.out.mono ?_;rintro e w' ⟨rfl,rfl⟩;clear HC
  go_wp2_with (first|(refine wpList_loadSe rfl _ rfl C.cb (i*12) rfl HG.out ?_)|(refine wpList_store_row rfl _ _ _ rfl W.heap.size (sev m).toArray rfl rfl _ _ HR.out infoSe rfl (by simp[Value.oneCell',sev]) ?_))
  exact bodyPost_ret (retSe Tryz.results14 rfl (setRow_heap _ _ _ _ _ _ HR.out)) rfl ⟨rfl,below_setRow HB.out (Nat.le_refl _) _⟩
 ·have HS:Hid (GM.see G.M c=GM.z):=by show _=_;unfold GM.see;rw[if_neg q]
  rw[show(decide (0≤c)&&decide (c<(G.M.length:Int)))=false by simp;omega]at HC;rw[HS.out];clear h h1 q HS;have e0:(sev GM.z).toArray= #[.bool false,.bool false,.bool false,.bool false,.bool false,.int .i64 0,.int .i64 0,.int .i64 0]:=rfl;rw[e0]at HC c15 HR HB;clear e0
  go_enter Tryz.func14,Tryz.ntmps14
  go_wp2_with fail
  refine HC.out.mono ?_;rintro e w' ⟨rfl,rfl⟩;clear HC
  go_wp2_with (first|(refine wpList_buildS rfl _ _ rfl [] (by simp[Act.eval]) _ built_se ?_)|(refine wpList_store_row rfl _ _ _ rfl W.heap.size (sev GM.z).toArray rfl rfl _ _ HR.out infoSe rfl (by simp[Value.oneCell',sev]) ?_))
  exact bodyPost_ret (retSe Tryz.results14 rfl (setRow_heap _ _ _ _ _ _ HR.out)) rfl ⟨rfl,below_setRow HB.out (Nat.le_refl _) _⟩
end
structure Gg(B:Nat)(W:World)(gb:Nat)(n:Int)(G:Gs):Prop where
 ex:∃ow C V,C.gb=gb∧GX al W ow B C V G
 q:GQ n G
def GgN(s:St)(W:World)(e:Ending)(w':World):Prop:=∃gb,e=.returned (.tuple #[.pointer (some ⟨gb,0,none⟩),.int .i64 0])∧Gg W.heap.size w' gb 0 (G0 s)∧Below W.heap.size W w'
def GgT(B:Nat)(W W2:World)(gb:Nat)(n:Int)(G:Gs)(b:List Nat)(e:Ending)(w':World):Prop:=∃g k,e=.returned (.slice (some ⟨g,0,none⟩) k k)∧(k:Int)=G.st.ca∧Gg B w' gb (n+1) (GM.tck G b).2∧CR w' g (GM.tck G b).1∧W2.heap.size≤g∧Below B W2 w'∧∀j,W.heap.size≤j→j<W2.heap.size→w'.heap[j]?=W2.heap[j]?
section
variable {B gb:Nat} {W W' W2:World} {n:Int} {G:Gs} {v:Value} {b:List Nat}
theorem Gg.below(h:Gg B W gb n G)(hb:Below W.heap.size W W'):Gg B W' gb n G:=let⟨ow,C,V,e,h1⟩:=h.ex;⟨⟨ow,C,V,e,h1.below' hb⟩,h.q⟩
theorem Gg.lo(h:Gg B W gb n G):B≤gb∧gb<W.heap.size:=let⟨_,_,_,e,h1⟩:=h.ex;e▸⟨h1.lo _ (by rw[h1.t0];omega),h1.sz.1⟩
theorem gg_new{s:St}(r:SM.Rt s)(W:World):Calls Tryz.prog 8 #[.agg (sv s).toArray] W fun e w'=>GgN s W e w':=
 (gnew_yes s r W).mono fun _ _ ⟨ow,C,V,he,h1,h2⟩=>⟨C.gb,he,⟨⟨ow,C,V,rfl,h1⟩,GQ.new r⟩,h2⟩
theorem gg_tick(h:Gg B W gb n G)(hn:n<1000)(hb:Below W.heap.size W W2)(hr:FF.RD W2 v b)(hl:b.length≤900)(hv:∀g,v.ownBlock=some g→W.heap.size≤g):
  Calls Tryz.prog 11 #[.pointer (some ⟨gb,0,none⟩),v] W2 fun e w'=>GgT B W W2 gb n G b e w':=by
 obtain⟨ow,C,V,rfl,h1⟩:=h.ex;have hlt:=h1.sz.1;refine (gtick_any ((h1.retag 1000).below' hb) h.q hn v hr.bs hl fun X hk=>hr.keep hk.size fun g hg hlt2=>hk.block g hlt2 (by have:=hv g hg;omega)).mono fun e w' ⟨g,he,h2⟩=> ?_;obtain⟨k1,k2,o,V',k3,k4,k5,k6⟩:=h2;have h5:=h.q.tk5 hn hr.bs hl;refine⟨g,_,he,by rw[←h5.2];exact h5.1.go.ml,⟨⟨o,C,V',rfl,k3⟩,h.q.tck hn hr.bs hl⟩,k1,k2,⟨k5.os,k5.tape,k5.output,k5.size,fun i hi=> ?_⟩,fun j h1 h2=>k5.block j h2 (by rw[nw_new h1];omega)⟩;by_cases hW:i<W2.heap.size
 ·refine k5.block i hW fun x=> ?_;unfold nw at x;split at x
  ·have:=h1.lo i x;omega
  ·omega
 ·have:=h1.hB;have:=hb.size;omega
theorem gg_seen(h:Gg B W gb n G)(c:Int):Calls Tryz.prog 14 #[.pointer (some ⟨gb,0,none⟩),.int .i64 c] W fun e w'=>e=.returned (.agg (sev (GM.see G.M c)).toArray)∧Below W.heap.size W w':=let⟨_,_,_,e,h1⟩:=h.ex;e▸gseen_any h1 c
theorem gg_calls(h:Gg B W gb n G):Calls Tryz.prog 13 #[.pointer (some ⟨gb,0,none⟩)] W fun e w'=>∃v',e=.returned v'∧CC.RW w' W.heap.size v' G.L∧Below W.heap.size W w':=let⟨_,_,_,e,h1⟩:=h.ex;e▸gcalls_any h1 h.q.go.gd.len
theorem gg_may(h:Gg B W gb n G)(c:Int)(x:CC.Cl):Calls Tryz.prog 20 #[.pointer (some ⟨gb,0,none⟩),.int .i64 c,.agg #[.int .i64 x.fl,.int .i64 x.ca,.int .i64 x.ag,.bool x.up]] W fun e w'=>e=.returned (.bool (GM.may G.M c x))∧Below W.heap.size W w':=let⟨_,_,_,e,h1⟩:=h.ex;e▸gmay_any h1 c x
end
structure Gsr(k i:Int)(G:Gs):Prop where
 L:G.L=[]
 sc:G.sc=[]
 m:∃m,G.M[0]?=some m∧m.lk=⟨true,k,i⟩∧m.ou=false∧m.fa=false∧m.ov=false
structure Gsi(k i:Int)(G:Gs):Prop where
 sr:Gsr k i G
 lv:∃m,G.M[0]?=some m∧m.ov=false∧m.lv=decide (i<G.st.sil)∧GM.wk m=decide (i<G.st.sil)
section
variable {k i:Int} {G:Gs} {b:List Nat} {f:FF.Fr}
theorem rdb_en(hs:G.sc=[])(hf:FF.FC.May f):GM.rdb G (FF.FC.en f)=GM.fra {G with sc:=[]} f:=by
 have h:=FF.FC.fd_ens (L:=[f]) fun x hx=>by rw[List.mem_singleton.1 hx];exact hf
 rw[show FF.FC.ens [f]=FF.FC.en f by simp[FF.FC.ens]]at h;unfold GM.rdb;rw[hs,List.nil_append,h]
 rfl
theorem srvs_nil(h:G.L=[]):∀n,(GM.srvs G n).L=[]
 |0=>h
 |n+1=>by
  have h1:=srvs_nil h n;show(GM.srv1 _ n).L=[];unfold GM.srv1;split
  ·exact h1
  ·split
   ·show List.filter _ _=[];rw[h1];rfl
   ·exact h1
theorem srv_nil(h:G.L=[]):(GM.srv G).L=[]:=by
 unfold GM.srv;split
 ·exact h
 ·exact srvs_nil h _
theorem Gsr.tick(h:Gsr k i (GM.rdb {G with N:=[],nd:=0} b))(hb:(GM.tck G b).2.st=G.st)(hc:(GM.tck G b).2.sc=(GM.tk3 G b).sc)(hm:0<G.M.length)(hM:(GM.tk5 G b).M.length=G.M.length):
  Gsi k (i+1) (GM.tck G b).2∧(¬i+1<G.st.sil→(GM.tck G b).1[0]?=some (false,-1)):=by
 obtain⟨m,hm0,hlk,hou,hfa,hov⟩:=h.m;have hst:(GM.rdb {G with N:=[],nd:=0} b).st=G.st:=rdb_c.2.2;have c:=GM.tck_c (G:=G) (b:=b);have h3:(GM.tk3 G b).M[0]?=some (GM.psm G.st.sil m):=by rw[GM.tk3_M,List.getElem?_map,hm0,hst];rfl
 have hL3:(GM.tk3 G b).L=[]:=by
  show(GM.srv (GM.pss _)).L=[];exact srv_nil (by show List.map _ _=[];rw[h.L];rfl)
 have hs3:(GM.tk3 G b).sc=[]:=srv_c.1.trans h.sc
 have key:∀M:List Mb,M.map GM.cor=(GM.tk3 G b).M.map GM.cor→∃m',M[0]?=some m'∧m'.lk=⟨true,k,i+1⟩∧m'.ou=false∧m'.fa=false∧m'.ov=false∧m'.lv=decide (i+1<G.st.sil):=fun M e=>by
  have e0:=congrArg (fun l=>l[0]?) e;simp only[List.getElem?_map,h3,Option.map_some]at e0;obtain⟨m',h1,h2⟩:=Option.map_eq_some_iff.1 e0;have a1:m'.lk=LL.LM.ti m.lk:=congrArg Mb.lk h2;have a2:m'.ou=m.ou:=(congrArg Mb.ou h2:(GM.cor m').ou=(GM.cor (GM.psm G.st.sil m)).ou);have a3:m'.fa=m.fa:=(congrArg Mb.fa h2:(GM.cor m').fa=(GM.cor (GM.psm G.st.sil m)).fa);have a4:m'.ov=m.ov:=(congrArg Mb.ov h2:(GM.cor m').ov=(GM.cor (GM.psm G.st.sil m)).ov);have a5:m'.lv=LL.LM.li (LL.LM.ti m.lk) G.st.sil:=congrArg Mb.lv h2;rw[hlk]at a1 a5;exact⟨m',h1,a1,a2.trans hou,a3.trans hfa,a4.trans hov,a5.trans (Bool.true_and _)⟩
 obtain⟨m',k1,k2,k3,k4,k5,k6⟩:=key _ c.2.2.1;have hwk:∀x:Mb,x.ou=false→x.fa=false→x.lv=decide (i+1<G.st.sil)→GM.wk x=decide (i+1<G.st.sil):=fun x x1 x2 x3=>by unfold GM.wk;rw[x1,x2,x3];simp
 refine⟨⟨⟨c.1.trans hL3,hc.trans hs3,m',k1,k2,k3,k4,k5⟩,m',k1,k5,by rw[hb];exact k6,by rw[hb];exact hwk _ k3 k4 k6⟩,fun hn=> ?_⟩;obtain⟨m5,q1,q2,q3,q4,q5,q6⟩:=key (GM.tk5 G b).M (GM.tk4_c (G:=GM.tk3 G b)).2.2.2;show(GM.tll (GM.tk5 G b) (GM.tk5 G b).M.length).1[0]?=_;rw[GM.tll_at (by omega) q1 (Nat.le_refl _)];unfold GM.cmd;rw[if_neg (by rw[hwk m5 q3 q4 q6,decide_eq_false hn];simp)]
theorem Gsr.rep{fl:Int}{m:Mb}(hL:G.L=[])(hs:G.sc=[])(hm0:G.M[0]?=some m)(hou:m.ou=false)(he:LL.LM.err m.lk k=0)(f1:fl<G.st.fl)(hM:FF.FC.May ⟨1,0,k,fl,fl,0⟩):Gsr k 0 (GM.rdb {G with N:=[],nd:=0} (FF.FC.en ⟨1,0,k,fl,fl,0⟩)):=by
 rw[rdb_en (G:={G with N:=[],nd:=0}) hs hM]
 have ht:GM.tke {G with N:=[],nd:=0,sc:=[]} ⟨1,0,k,fl,fl,0⟩=(0,{G with N:=[],nd:=0,sc:=[],M:=G.M.set 0 (GM.rpm m ⟨1,0,k,fl,fl,0⟩)}):=by
  unfold GM.tke;rw[if_pos rfl];unfold GM.rep;simp only[Int.toNat_zero,hm0];rw[if_neg (show¬(G.st.fl≤fl∨G.st.fl≤fl) by omega),he]
 unfold GM.fra;simp only[ht,if_true];refine⟨hL,rfl,GM.rpm m ⟨1,0,k,fl,fl,0⟩,?_,?_⟩
 ·rw[List.getElem?_set,if_pos rfl,if_pos (List.getElem?_eq_some_iff.1 hm0).1]
 ·unfold GM.rpm;rw[if_pos he];exact⟨LL.LM.tk_new he,hou,rfl,rfl⟩
theorem Gsr.first{s:St}{fl:Int}(r:SM.Rt s)(k0:0≤k)(k1:k≤65535)(f1:fl<s.fl)(hM:FF.FC.May ⟨1,0,k,fl,fl,0⟩):Gsr k 0 (GM.rdb {G0 s with N:=[],nd:=0} (FF.FC.en ⟨1,0,k,fl,fl,0⟩)):=
 Gsr.rep (m:=GM.z) rfl rfl (by show(List.replicate s.ca.toNat GM.z)[0]?=_;rw[List.getElem?_replicate,if_pos (by have:=r.ca1;omega)]) rfl (LL.LM.err_new k0 k1 rfl) f1 hM
theorem Gsr.none(h:Gsr k i G):Gsr k i (GM.rdb {G with N:=[],nd:=0} []):=by
 unfold GM.rdb;rw[show({G with N:=[],nd:=0}:Gs).sc++[]=[] by rw[List.append_nil];exact h.sc,FF.FC.fd_few (by decide)];exact⟨h.L,rfl,h.m⟩
theorem Gsr.old{fl:Int}(h:Gsr k i G)(k0:0≤k)(k1:k≤65535)(f1:fl<G.st.fl)(hM:FF.FC.May ⟨1,0,k,fl,fl,0⟩):Gsr k i (GM.rdb {G with N:=[],nd:=0} (FF.FC.en ⟨1,0,k,fl,fl,0⟩)):=by
 rw[rdb_en (G:={G with N:=[],nd:=0}) h.sc hM];obtain⟨m,hm0,hlk,hou,hfa,hov⟩:=h.m
 have he:LL.LM.err m.lk k=7:=by
  rw[hlk];exact LL.LM.err_old k0 k1 (LL.LM.nw_not rfl (.inl (by unfold LL.LM.ah;simp)))
 have ht:GM.tke {G with N:=[],nd:=0,sc:=[]} ⟨1,0,k,fl,fl,0⟩=(7,{G with N:=[],nd:=0,sc:=[]}):=by
  unfold GM.tke;rw[if_pos rfl];unfold GM.rep;simp only[Int.toNat_zero,hm0];rw[if_neg (show¬(G.st.fl≤fl∨G.st.fl≤fl) by omega),he,show GM.rpm m ⟨1,0,k,fl,fl,0⟩=m by unfold GM.rpm;rw[if_neg (by rw[he];decide)],set_some hm0]
 unfold GM.fra;simp only[ht];exact⟨h.L,rfl,m,hm0,hlk,hou,hfa,hov⟩
theorem Gsr.next{fl:Int}(h:Gsr k i G)(k0:0≤k)(k1:k<65535)(f1:fl<G.st.fl)(hM:FF.FC.May ⟨1,0,k+1,fl,fl,0⟩):Gsr (k+1) 0 (GM.rdb {G with N:=[],nd:=0} (FF.FC.en ⟨1,0,k+1,fl,fl,0⟩)):=by
 obtain⟨m,hm0,hlk,hou,-,-⟩:=h.m;refine Gsr.rep h.L h.sc hm0 hou ?_ f1 hM;rw[hlk];exact LL.LM.err_new (by omega) (by omega) (LL.LM.nw_ahead (by unfold LL.LM.ah;show 1≤(k+1-k)%65536;omega) (by unfold LL.LM.ah;show(k+1-k)%65536≤_;omega))
end
theorem built_gs:Tryz.prog.built 23 [(0,.int .i64 5),(1,.int .i64 1),(3,.int .i64 2),(5,.int .i64 3),(6,.int .i64 1),(7,.int .i64 1),(9,.int .i64 9),(10,.int .i64 9),(11,.int .i64 9),(12,.int .i64 1)]=some (sv gs).toArray:=by kernel_rfl
theorem built_f1:Tryz.prog.built 56 [(0,.int .i64 1),(2,.int .i64 1),(3,.int .i64 2),(4,.int .i64 2)]=some #[.int .i64 gf1.ki,.int .i64 gf1.ca,.int .i64 gf1.sq,.int .i64 gf1.a,.int .i64 gf1.b,.int .i64 gf1.c]:=by kernel_rfl
theorem built_f2:Tryz.prog.built 56 [(0,.int .i64 2),(1,.int .i64 255),(3,.int .i64 2),(4,.int .i64 1)]=some #[.int .i64 gf2.ki,.int .i64 gf2.ca,.int .i64 gf2.sq,.int .i64 gf2.a,.int .i64 gf2.b,.int .i64 gf2.c]:=by kernel_rfl
theorem small_any(W:World):Calls Tryz.prog 21 #[] W fun e w'=>e=.returned (.agg (sv gs).toArray)∧Below W.heap.size W w':=by
 have HR:=Hd (World.alloc_heap_new W (.cells (sv ⟨0,0,0,0,0,0,0,0,0,0,0,0,0⟩).toArray 23));have HB:=Hd ((Below.refl W.heap.size W).alloc (Nat.le_refl _) (.cells (sv ⟨0,0,0,0,0,0,0,0,0,0,0,0,0⟩).toArray 23))
 go_enter Tryz.func21,Tryz.ntmps21
 go_wp2_with (first|(refine wpList_buildS rfl _ _ rfl _ (by simp[Act.eval];rfl) _ built_gs ?_)|(refine wpList_store_row rfl _ _ _ rfl W.heap.size (sv gs).toArray rfl rfl _ _ HR.out info23 rfl (by simp[Value.oneCell',sv]) ?_))
 exact bodyPost_ret (results_cell_row Tryz.results21 _ _ W.heap.size _ _ _ _ rfl (setRow_heap _ _ _ _ _ _ HR.out) Tryz.underlying23 rfl info23) rfl ⟨rfl,below_setRow HB.out (Nat.le_refl _) _⟩
theorem speaks15_any(W:World):Calls Tryz.prog 7 #[] W fun e w'=>e=.returned (.bool true)∧Below W.heap.size W w':=by
 go_enter Tryz.func7,Tryz.ntmps7
 go_wp2_with fail
 refine (small_any W).mono ?_;rintro e W1 ⟨rfl,hb1⟩;have HB1:=Hd hb1;have HL1:=Hd hb1.size;clear hb1
 go_wp2_with fail
 refine (gg_new gs_rt W1).mono ?_;rintro e W2 ⟨gb,rfl,hg2,hb2⟩;have HG2:=Hd hg2;have HB2:=Hd (below_class HB1.out hb2);clear hg2 hb2 HB1
 go_wp2_with (refine wpList_buildS rfl _ _ rfl _ (by simp[Act.eval];rfl) _ built_f1 ?_)
 refine (FF.bytes_yes gf1 W2 gf_may.1).mono ?_;rintro e W3 ⟨v3,rfl,ho3,hb3⟩;have HO3:=Hd ho3;have HB3:=Hd hb3;clear ho3 hb3
 go_wp2_with (refine wpList_buildS rfl _ _ rfl _ (by simp[Act.eval];rfl) _ built_f2 ?_)
 refine (FF.bytes_yes gf2 W3 gf_may.2).mono ?_;rintro e W4 ⟨v4,rfl,ho4,hb4⟩;have HO4:=Hd (ho4.rd (FF.FC.en_Bs gf_may.2));have HO34:=Hd (HO3.out.below' hb4);have HB4:=Hd (below_class HB3.out hb4);clear ho4 hb4
 go_wp2_with (at_builtin;refine FF.wpList_appendR rfl _ _ rfl W2.heap.size v3 v4 (FF.FC.en gf1) (FF.FC.en gf2) rfl HO34.out rfl HO4.out (by rw[FF.FC.en_length,FF.FC.en_length];decide) HB4.out.size ?_)
 intro v5 W5 ho5 hg5;have hb5:Below W2.heap.size W2 W5:=HB4.out.grown hg5 HB4.out.size fun k hk=>(HO34.out.lt k hk).1;have HT:=Hd (gg_tick HG2.out (by decide) hb5 (ho5.rd ((FF.FC.en_Bs gf_may.1).append (FF.FC.en_Bs gf_may.2))) (by rw[List.length_append,FF.FC.en_length,FF.FC.en_length];decide) fun g hg=>(ho5.lt g hg).1);have HB5:=Hd (below_class HB2.out hb5);clear ho5 hg5 hb5 HO34 HO4 HO3 HB3 HB4 HG2 HB2
 go_wp2_with fail
 refine HT.out.mono ?_;rintro e W6 ⟨g,k,rfl,hk,hg6,hcr,hlg,hb6,-⟩;obtain rfl:k=1:=by have:(k:Int)=1:=hk;omega
 rw[spk1]at hcr;have HC:=Hd (gg_calls hg6);have HLL:=Hd spk2;have HB6:=Hd (HB5.out.trans (hb6.mono HL1.out));have e1:W6.cell? ⟨g,0,none⟩=some (.bool true):=by simp[World.cell?,show W6.heap[g]?=_ from hcr,cms]
 have e2:W6.cell? ⟨g,1,none⟩=some (.int .i64 (-1)):=by simp[World.cell?,show W6.heap[g]?=_ from hcr,cms]
 clear hk hg6 hcr hlg hb6 HT HB5
 go_wp2_with fail
 refine HC.out.mono ?_;rintro e W7 ⟨v7,rfl,hr7,hb7⟩;obtain⟨a7,n7,k7,rfl⟩:=hr7.slice;have HN:=hr7.len;rw[HLL.out]at HN;subst HN;have HB7:=Hd (below_class HB6.out hb7);clear hr7 hb7 HC HB6 e1 e2;go_wp2;go_ret;exact⟨rfl,HB7.out⟩
theorem built_rp(n fl:Int):Tryz.prog.built 56 [(0,.int .i64 1),(2,.int .i64 n),(3,.int .i64 fl),(4,.int .i64 fl)]=some #[.int .i64 (⟨1,0,n,fl,fl,0⟩:FF.Fr).ki,.int .i64 (⟨1,0,n,fl,fl,0⟩:FF.Fr).ca,.int .i64 (⟨1,0,n,fl,fl,0⟩:FF.Fr).sq,.int .i64 (⟨1,0,n,fl,fl,0⟩:FF.Fr).a,.int .i64 (⟨1,0,n,fl,fl,0⟩:FF.Fr).b,.int .i64 (⟨1,0,n,fl,fl,0⟩:FF.Fr).c]:=by kernel_rfl
theorem rpt_any(W:World)(n fl:Int)(fb:Nat)(hf:FF.FC.May ⟨1,0,n,fl,fl,0⟩)(hc:W.cell? ⟨fb,0,none⟩=some (.int .i64 fl)):
  Calls Tryz.prog 18 #[.int .i64 n,.pointer (some ⟨fb,0,none⟩)] W fun e w'=>∃v,e=.returned v∧FF.OW w' W.heap.size v (FF.FC.en ⟨1,0,n,fl,fl,0⟩)∧Below W.heap.size W w':=by
 have HB:=Hd (FF.bytes_yes ⟨1,0,n,fl,fl,0⟩ W hf)
 go_enter Tryz.func18,Tryz.ntmps18
 go_wp2_with (refine wpList_buildS rfl _ _ rfl _ (by simp[Act.eval];rfl) _ (built_rp n fl) ?_)
 refine HB.out.mono ?_;rintro e W2 ⟨v,rfl,h1,h2⟩;have HO:=Hd h1;clear h1 HB hc;go_wp2;go_ret;exact⟨v,rfl,HO.out,h2⟩
structure Sl(B:Nat)(wr:World)(gb:Nat)(s:St)(k i:Int)(j:Nat)(v:Value):Prop where
 ex:∃Wg G b,Gg B Wg gb j G∧Below Wg.heap.size Wg wr∧FF.RD wr v b∧b.length≤900∧(∀g,v.ownBlock=some g→Wg.heap.size≤g)∧Gsr k i (GM.rdb {G with N:=[],nd:=0} b)∧G.st=s
def Slt(B:Nat)(W2:World)(gb:Nat)(s:St)(k i:Int)(j:Nat)(e:Ending)(w':World):Prop:=∃g n G,e=.returned (.slice (some ⟨g,0,none⟩) n n)∧(n:Int)=s.ca∧Gg B w' gb ((j+1:Nat):Int) G∧Gsi k (i+1) G∧G.st=s∧Below B W2 w'∧g<w'.heap.size∧(¬i+1<s.sil→w'.cell? ⟨g,0,none⟩=some (.bool false)∧w'.cell? ⟨g,1,none⟩=some (.int .i64 (-1)))
section
variable {B gb j:Nat} {W wr:World} {s:St} {k i fl:Int} {v:Value} {G:Gs}
theorem GX.poke{ow:Nat→Nat}{C:Gc}{V:Gv}(h:GX al W ow B C V G)(b:Nat)(hb:1000≤ow b)(o:Nat)(u:Value):GX al (W.setCell ⟨b,o,none⟩ u) ow B C V G:=by
 have hml:=h.ml;refine (h.set b rfl o u).fills ?_;obtain⟨t,ht⟩:∃t,ow b=t+6:=⟨ow b-6,by omega⟩;rw[ht];intro i m hm;have:=(List.getElem?_eq_some_iff.1 hm).1;exact⟨fun e=>by omega,fun e=>by omega⟩
theorem Gg.poke{n:Int}(h:Gg B W gb n G){b:Nat}(hb:b<B)(o:Nat)(u:Value):Gg B (W.setCell ⟨b,o,none⟩ u) gb n G:=by
 obtain⟨ow,C,V,e,h1⟩:=h.ex;refine⟨⟨ow,C,V,e,h1.poke b ?_ o u⟩,h.q⟩;rcases Nat.lt_or_ge (ow b) 1000 with x|x
 ·have:=h1.lo b x;omega
 ·exact x
theorem Sl.tick(h:Sl B wr gb s k i j v)(hj:j<900):Calls Tryz.prog 11 #[.pointer (some ⟨gb,0,none⟩),v] wr fun e w'=>Slt B wr gb s k i j e w':=by
 obtain⟨Wg,G,b,h1,h2,h3,h4,h5,h6,rfl⟩:=h.ex;refine (gg_tick h1 (by omega) h2 h3 h4 h5).mono fun e w' ⟨g,n,he,hn,hg,hcr,hlg,hb,_⟩=> ?_;have q5:=h1.q.tk5 (by omega) h3.bs h4
 have hst:(GM.tck G b).2.st=G.st:=by
  have e:(GM.tck G b).2={GM.tk5 G b with M:=(GM.tck G b).2.M}:=(GM.tll_c (G:=GM.tk5 G b) _).1;rw[e];exact q5.2
 have hsc:(GM.tck G b).2.sc=(GM.tk3 G b).sc:=by
  have e:(GM.tck G b).2={GM.tk5 G b with M:=(GM.tck G b).2.M}:=(GM.tll_c (G:=GM.tk5 G b) _).1;rw[e];show(GM.tk4 (GM.tk3 G b)).sc=_;unfold GM.tk4;split
  ·exact pln_c.1
  ·rfl
 have hml:=h1.q.go.ml;have hm5:=q5.1.go.ml;have hc1:=h1.q.go.rt.ca1;rw[q5.2]at hm5;obtain⟨k1,k2⟩:=h6.tick hst hsc (by omega) (by omega);refine⟨g,n,_,he,hn,by rw[Int.natCast_add];exact hg,k1,hst,hb,hcr.lt,fun hx=> ?_⟩;have k3:=cms_get (k2 hx);have hcr':w'.heap[g]?=some (.cells (cms (GM.tck G b).1).toArray 41 (0,0)):=hcr;exact⟨by simp[World.cell?,hcr'];exact k3.1,by simp[World.cell?,hcr'];exact k3.2⟩
theorem fldS(l a b d e:Bool)(x y z:Int)(W:World):(Instr.field 43 (.agg #[.bool l,.bool a,.bool b,.bool d,.bool e,.int .i64 x,.int .i64 y,.int .i64 z]) 0).run Tryz.prog W=.ok (.bool l) W:=by kernel_rfl
theorem Gg.told{w:World}{f:FF.Fr}(h:Gg B W gb j G)(hs:G.st=s)(hb:Below W.heap.size W w)(ho:FF.OW w W.heap.size v (FF.FC.en f))(hf:FF.FC.May f)(hr:Gsr k i (GM.rdb {G with N:=[],nd:=0} (FF.FC.en f))):Sl B w gb s k i j v:=⟨W,G,_,h,hb,ho.rd (FF.FC.en_Bs hf),by rw[FF.FC.en_length];decide,fun g hg=>(ho.lt g hg).1,hr,hs⟩
theorem see_0{M:List Mb}{m:Mb}(h:M[0]?=some m):GM.see M 0=m:=by
 unfold GM.see;have:=(List.getElem?_eq_some_iff.1 h).1;rw[if_pos (by omega),Int.toNat_zero,h];rfl
theorem may_0{M:List Mb}{m:Mb}{c:CC.Cl}(h:M[0]?=some m)(h1:m.ov=false)(h2:c.ca= -1):GM.may M 0 c=GM.wk m:=by
 rw[show(0:Int)=((0:Nat):Int)from rfl,may_at h];unfold GM.mym;rw[h1,h2];simp
theorem Sl.nil(h:Gg B W gb j G)(h2:Gsi k i G)(hs:G.st=s):Sl B W gb s k i j (.slice none 0 0):=⟨W,G,[],h,Below.refl _ _,FF.RD.nil W,by decide,(fun g hg=>by cases hg),h2.sr.none,hs⟩
end
structure Bx(W X:World)(s:St)(a1:Int)(c:CC.Cl)(sb fb cb:Nat):Prop where
 bel:Below W.heap.size W X
 ss:SB X sb s
 ff:X.heap[fb]?=some (.cells #[.int .i64 a1] 3 (0,0))
 cc:CC.CB X cb c
 lo:W.heap.size≤sb∧W.heap.size≤fb∧W.heap.size≤cb∧cb≠sb∧cb≠fb
section
variable {W X Y:World} {s:St} {a1:Int} {c:CC.Cl} {sb fb cb:Nat}
theorem Bx.new(W:World)(s:St)(a1:Int)(c:CC.Cl):Bx W (((W.alloc (.cells (sv s).toArray 23)).alloc (.cells #[.int .i64 a1] 3)).alloc (.cells #[.int .i64 c.fl,.int .i64 c.ca,.int .i64 c.ag,.bool c.up] 47)) s a1 c W.heap.size (W.heap.size+1) (W.heap.size+1+1):=by
 have h1:=World.alloc_heap_new (W.alloc (.cells (sv s).toArray 23)) (.cells #[.int .i64 a1] 3);have h2:=World.alloc_heap_new ((W.alloc (.cells (sv s).toArray 23)).alloc (.cells #[.int .i64 a1] 3)) (.cells #[.int .i64 c.fl,.int .i64 c.ca,.int .i64 c.ag,.bool c.up] 47);rw[World.size_alloc]at h1 h2;rw[World.size_alloc]at h2;exact⟨(((Below.refl W.heap.size W).alloc (Nat.le_refl _) _).alloc (by simp) _).alloc (by simp;omega) _,((SB.new W s).alloc _).alloc _,(Below.heap_alloc _ _ _ (by simp)).trans h1,h2,by omega⟩
theorem Bx.below(h:Bx W X s a1 c sb fb cb)(hb:Below X.heap.size X Y):Bx W Y s a1 c sb fb cb:=⟨below_class h.bel hb,h.ss.below' hb,(hb.block _ (Array.getElem?_eq_some_iff.1 h.ff).1).trans h.ff,h.cc.below' hb,h.lo⟩
theorem Bx.belowB{B:Nat}(h:Bx W X s a1 c sb fb cb)(hB:sb<B∧fb<B∧cb<B)(hb:Below B X Y):Bx W Y s a1 c sb fb cb:=⟨h.bel.trans (hb.mono (by have:=h.lo;omega)),h.ss.below hb hB.1,(hb.block _ hB.2.1).trans h.ff,(hb.block _ hB.2.2).trans h.cc,h.lo⟩
theorem Bx.f0(h:Bx W X s a1 c sb fb cb):X.cell? ⟨fb,0,none⟩=some (.int .i64 a1):=by simp[World.cell?,h.ff]
theorem Bx.poke(h:Bx W X s a1 c sb fb cb):Bx W (X.setCell ⟨cb,1,none⟩ (.int .i64 (-1))) s a1 {c with ca:= -1} sb fb cb:=by
 obtain⟨l1,l2,l3,l4,l5⟩:=h.lo;exact⟨h.bel.setCell (p:=⟨cb,1,none⟩) l3 _,h.ss.other (Ne.symm l4) _ _,(Below.heap_setCell _ _ _ _ (Ne.symm l5)).trans h.ff,(heap_setCell_same X cb 1 _ _ (.int .i64 (-1)) h.cc).trans (by simp),h.lo⟩
end
theorem GroupSilent_any(s:St)(a1 a2:Int)(c:CC.Cl)(W:World):
  Calls Tryz.prog 6 #[.agg (sv s).toArray,.int .i64 a1,.int .i64 a2,.agg #[.int .i64 c.fl,.int .i64 c.ca,.int .i64 c.ag,.bool c.up]] W fun e w'=>e=.returned (.bool true)∧Below W.heap.size W w':=by
 have HX:=Hd (Bx.new W s a1 c)
 go_enter Tryz.func6,Tryz.ntmps6
 go_wp2_with fail
 generalize ((W.alloc (.cells (sv s).toArray 23)).alloc (.cells #[.int .i64 a1] 3)).alloc (.cells #[.int .i64 c.fl,.int .i64 c.ca,.int .i64 c.ag,.bool c.up] 47)=X at HX⊢;generalize W.heap.size+1+1=cb at HX⊢;generalize W.heap.size+1=fb at HX⊢;obtain⟨sb,hsb⟩:∃x,W.heap.size=x:=⟨_,rfl⟩;have HSB:=Hd hsb;rw[hsb]at HX⊢;clear hsb;refine (speaks15_any X).mono ?_;rintro e X1 ⟨rfl,hb1⟩;have HX1:=Hd (HX.out.below hb1);clear hb1 HX;by_cases r:SM.Rt s
 ·have HR:=Hd (rright_any s X1);rw[rightB_true r]at HR
  go_wp2_with (refine wpList_load23 rfl _ rfl sb s rfl HX1.out.ss ?_)
  refine HR.out.mono ?_;rintro e X2 ⟨rfl,hb2⟩;have HX2:=Hd (HX1.out.below hb2);clear hb2 HX1 HR;have c0:X2.cell? ⟨sb,0,none⟩=some (.int .i64 s.fl):=HX2.out.ss.cell 0;have c10:X2.cell? ⟨sb,10,none⟩=some (.int .i64 s.sil):=HX2.out.ss.cell 10;have c11:X2.cell? ⟨sb,11,none⟩=some (.int .i64 s.bud):=HX2.out.ss.cell 11;have f0:=HX2.out.f0;by_cases q:s.bud≤2500∧s.sil≤60∧0≤a1∧a1<s.fl
  ·obtain⟨q1,q2,q3,q4⟩:=q;have p1:¬2500<s.bud:=by omega
   have p2:¬60<s.sil:=by omega
   have p3:¬a1<0:=by omega
   have p4:¬s.fl≤a1:=by omega
   go_wp2_with (refine wpList_load23 rfl _ rfl sb s rfl HX2.out.ss ?_)
   clear c0 c10 c11 f0;refine (gg_new r X2).mono ?_;rintro e X3 ⟨gb,rfl,hg3,hb3⟩;obtain⟨B,hB⟩:∃B,X2.heap.size=B:=⟨_,rfl⟩;rw[hB]at hg3;have HLT:Hid (sb<B∧fb<B∧cb<B):=⟨hB▸HX2.out.ss.lt,hB▸(Array.getElem?_eq_some_iff.1 HX2.out.ff).1,hB▸(Array.getElem?_eq_some_iff.1 HX2.out.cc).1⟩;have HG3:=Hd hg3;have HX3:=Hd (HX2.out.below hb3);have HMK:=Hd (LL.i64_and32767 a2);have t1:X3.cell? ⟨cb,1,none⟩=some (.int .i64 c.ca):=HX3.out.cc.c1;have r1:X3.frozen? ⟨cb,1,none⟩=false:=by have:=HX3.out.cc;simp[World.frozen?,show X3.heap[cb]?=_ from this]
   clear hg3 hb3 HX2 hB
   go_wp2_with fail
   rw[HMK.out];obtain⟨k,hk⟩:∃k,a2%32768=k:=⟨_,rfl⟩;have k0:0≤k:=by omega
   have k1:k≤32767:=by omega
   rw[hk];clear hk HMK;have HF4:Hid (Gg B (X3.setCell ⟨cb,1,none⟩ (.int .i64 (-1))) gb 0 (G0 s)):=HG3.out.poke HLT.out.2.2 _ _;have HX4:=Hd HX3.out.poke;have hfl:=r.fl2;have HM:Hid (FF.FC.May ⟨1,0,k,a1,a1,0⟩∧FF.FC.May ⟨1,0,k+1,a1,a1,0⟩):=⟨by constructor<;>simp only<;>omega,by constructor<;>simp only<;>omega⟩;clear t1 r1 HG3 HX3;generalize X3.setCell ⟨cb,1,none⟩ (.int .i64 (-1))=X4 at HF4 HX4⊢;refine (rpt_any X4 k a1 fb HM.out.1 HX4.out.f0).mono ?_;rintro e X5 ⟨v,rfl,ho5,hb5⟩;have HSL:Hid (Sl B X5 gb s k 0 0 v):=HF4.out.told rfl hb5 ho5 HM.out.1 (Gsr.first r k0 (by omega) q4 HM.out.1);have HX5:=Hd (HX4.out.below hb5);clear ho5 hb5 HX4 HF4;have hs0:=r.sil1
   go_wp2_with fail
   go_loopw [13,14,15,16] (fun v iv _ _ wr=>∃j:Nat,(j:Int)≤s.sil+2∧iv=.int .i64 ((j:Int)+1)∧Hid (Sl B wr gb s k j j v)∧Hid (Bx W wr s a1 {c with ca:= -1} sb fb cb)∧Hid (0<j→∃G,Gg B wr gb j G∧Gsi k j G∧G.st=s)) (fun _ iv _ _ _=>(s.sil+3-intOf iv).toNat)
   case atStart=>exact⟨0,by omega,rfl,HSL,HX5,fun h=>absurd h (by decide)⟩
   case round=>
    clear HSL HX5;obtain⟨j,hj,rfl,HSL,HX,HG⟩:=hrel;have c10:wr.cell? ⟨sb,10,none⟩=some (.int .i64 s.sil):=HX.out.ss.cell 10;by_cases hlt:(j:Int)+1<s.sil+3
    ·have HT:=Hd (HSL.out.tick (by omega));clear HSL HG
     go_wp2_with fail
     refine HT.out.mono ?_;rintro e W6 ⟨g,n,G,rfl,hn,hg6,hsi,hst,hb6,hgl,hcm⟩;rw[show(j:Int)+1=((j+1:Nat):Int) by omega]at hsi hcm;obtain⟨m,hm0,hov,hlv,hwk⟩:=hsi.lv;rw[hst]at hlv hwk;have hx6:=HX.out.belowB HLT.out hb6;have HX6:=Hd hx6;have d10:W6.cell? ⟨sb,10,none⟩=some (.int .i64 s.sil):=hx6.ss.cell 10;have d1:W6.cell? ⟨sb,1,none⟩=some (.int .i64 s.ca):=hx6.ss.cell 1;have hdn:((n:Int) !=s.ca)=false:=by simpa using hn
     have HG6:=Hd hg6;have HSI:=Hd hsi;have HST:=Hd hst;have HS:=Hd (gg_seen hg6 0);rw[see_0 hm0,show(sev m).toArray= #[.bool m.lv,.bool m.ou,.bool m.mo,.bool m.fa,.bool m.ov,.int .i64 m.fl,.int .i64 m.tg,.int .i64 m.ph]from rfl,hlv]at HS
     have HY:Hid (∀X,Below W6.heap.size W6 X→Calls Tryz.prog 20 #[.pointer (some ⟨gb,0,none⟩),.int .i64 0,.agg #[.int .i64 ({c with ca:= -1}:CC.Cl).fl,.int .i64 ({c with ca:= -1}:CC.Cl).ca,.int .i64 ({c with ca:= -1}:CC.Cl).ag,.bool ({c with ca:= -1}:CC.Cl).up]] X fun e w'=>e=.returned (.bool (decide (((j+1:Nat):Int)<s.sil)))∧Below X.heap.size X w'):=fun X hX=>by
      have:=gg_may (hg6.below hX) 0 {c with ca:= -1};rwa[may_0 hm0 hov rfl,hwk]at this
     have HN1:Hid (1≤n):=by show _≤_;have:=r.ca1;omega
     clear hg6 hsi hst hm0 hov hlv hwk hx6 hb6 HT HX c10;by_cases ql:((j+1:Nat):Int)<s.sil
     ·rw[decide_eq_true ql]at HS HY;have ql2:(j:Int)+1<s.sil:=by omega
      clear hcm ql hn hgl
      go_wp2_with fail
      refine HS.out.mono ?_;rintro e W7 ⟨rfl,hb7⟩;have hfs:=fldS true m.ou m.mo m.fa m.ov m.fl m.tg m.ph;have HB7:=Hd hb7;have hx7:=HX6.out.below hb7;have HX7:=Hd hx7;have x0:W7.cell? ⟨cb,0,none⟩=some (.int .i64 c.fl):=hx7.cc.c0;have x1:W7.cell? ⟨cb,1,none⟩=some (.int .i64 (-1)):=hx7.cc.c1;have x2:W7.cell? ⟨cb,2,none⟩=some (.int .i64 c.ag):=hx7.cc.c2;have x3:W7.cell? ⟨cb,3,none⟩=some (.bool c.up):=hx7.cc.c3;clear hb7 hx7 HX6 HS d10 d1
      go_wp2_with fail
      refine (HY.out W7 HB7.out).mono ?_;rintro e W8 ⟨rfl,hb8⟩;clear hfs;have hg8:=HG6.out.below (below_class HB7.out hb8);have HG8:=Hd hg8;have HX8:=Hd (HX7.out.below hb8);have HSL8:=Hd (Sl.nil hg8 HSI.out HST.out);have HGX:Hid (0<j+1→∃G,Gg B W8 gb ((j+1:Nat):Int) G∧Gsi k ((j+1:Nat):Int) G∧G.st=s):=fun _=>⟨G,hg8,HSI.out,HST.out⟩;clear hb8 hg8 HB7 HX7 x0 x1 x2 x3 HY HG6;go_wp2;go_roundw
      case rel=>exact⟨j+1,by omega,by go_num,HSL8,HX8,HGX⟩
      case measure=>simp[intOf];omega
     ·rw[decide_eq_false ql]at HS HY;have ql2:¬(j:Int)+1<s.sil:=by omega
      obtain⟨o0,o1⟩:=hcm ql;have HO:Hid (W6.cell? ⟨g,0,none⟩=some (.bool false)∧W6.cell? ⟨g,1,none⟩=some (.int .i64 (-1))):=⟨o0,o1⟩;have HGL:=Hd hgl;have hn1:=HN1.out;have hix:∀W:World,(Instr.indexAt 35 (.slice (some ⟨g,0,none⟩) n n) (.int .i64 0)).run Tryz.prog W=.ok (.pointer (some ⟨g,0,none⟩)) W:=fun W=>by simpa using ixCm (g:=g) (j:=0) W hn1
      clear hcm ql hn o0 o1 hgl
      go_wp2_with fail
      refine HS.out.mono ?_;rintro e W7 ⟨rfl,hb7⟩;have hfs:=fldS false m.ou m.mo m.fa m.ov m.fl m.tg m.ph;have HB7:=Hd hb7;have hx7:=HX6.out.below hb7;have HX7:=Hd hx7;have x0:W7.cell? ⟨cb,0,none⟩=some (.int .i64 c.fl):=hx7.cc.c0;have x1:W7.cell? ⟨cb,1,none⟩=some (.int .i64 (-1)):=hx7.cc.c1;have x2:W7.cell? ⟨cb,2,none⟩=some (.int .i64 c.ag):=hx7.cc.c2;have x3:W7.cell? ⟨cb,3,none⟩=some (.bool c.up):=hx7.cc.c3;clear hb7 hx7 HX6 HS d10 d1
      go_wp2_with fail
      refine (HY.out W7 HB7.out).mono ?_;rintro e W8 ⟨rfl,hb8⟩;have hb68:=below_class HB7.out hb8;have hg8:=HG6.out.below hb68;have y0:W8.cell? ⟨g,0,none⟩=some (.bool false):=(hb68.cell (p:=⟨g,0,none⟩) HGL.out).trans HO.out.1;have y1:W8.cell? ⟨g,1,none⟩=some (.int .i64 (-1)):=(hb68.cell (p:=⟨g,1,none⟩) HGL.out).trans HO.out.2;have HG8:=Hd hg8;have HX8:=Hd (HX7.out.below hb8);have HSL8:=Hd (Sl.nil hg8 HSI.out HST.out);have HGX:Hid (0<j+1→∃G,Gg B W8 gb ((j+1:Nat):Int) G∧Gsi k ((j+1:Nat):Int) G∧G.st=s):=fun _=>⟨G,hg8,HSI.out,HST.out⟩;clear hfs hb8 hg8 hb68 HB7 HX7 x0 x1 x2 x3 HY HG6;go_wp2;go_roundw
      case rel=>exact⟨j+1,by omega,by go_num,HSL8,HX8,HGX⟩
      case measure=>simp[intOf];omega
    ·obtain⟨G,hg,hsi,hst⟩:=HG.out (by omega);have HGG:=Hd hg;have HSI:=Hd hsi;have HST:=Hd hst;clear HSL HG hg hsi hst
     go_wp2_with fail
     refine (rpt_any wr k a1 fb HM.out.1 HX.out.f0).mono ?_;rintro e W6 ⟨v6,rfl,ho6,hb6⟩;have HT6:=Hd (Sl.tick (HGG.out.told HST.out hb6 ho6 HM.out.1 (HSI.out.sr.old k0 (by omega) (by rw[HST.out];exact q4) HM.out.1)) (by omega));have HX6:=Hd (HX.out.below hb6);clear ho6 hb6 HGG HSI HST HX c10
     go_wp2_with fail
     refine HT6.out.mono ?_;rintro e W7 ⟨g7,n7,G7,rfl,-,hg7,hs7,ht7,hb7,-,-⟩;obtain⟨m,hm0,-,hlv,-⟩:=hs7.lv;rw[ht7,decide_eq_false (by omega)]at hlv;have HX7:=Hd (HX6.out.belowB HLT.out hb7);have HG7:=Hd hg7;have HS7:=Hd hs7;have HE7:=Hd ht7;have HS:=Hd (gg_seen hg7 0);rw[see_0 hm0,show(sev m).toArray= #[.bool m.lv,.bool m.ou,.bool m.mo,.bool m.fa,.bool m.ov,.int .i64 m.fl,.int .i64 m.tg,.int .i64 m.ph]from rfl,hlv]at HS;clear hg7 hs7 ht7 hb7 hm0 hlv HT6 HX6
     go_wp2_with fail
     refine HS.out.mono ?_;rintro e W8 ⟨rfl,hb8⟩;have hfs:=fldS false m.ou m.mo m.fa m.ov m.fl m.tg m.ph;have HX8:=Hd (HX7.out.below hb8);have HG8:=Hd (HG7.out.below hb8);have f8:=HX8.out.f0;clear hb8 HS HX7 HG7
     go_wp2_with fail
     clear hfs;refine (rpt_any W8 (k+1) a1 fb HM.out.2 f8).mono ?_;rintro e W9 ⟨v9,rfl,ho9,hb9⟩;have HT9:=Hd (Sl.tick (HG8.out.told HE7.out hb9 ho9 HM.out.2 (HS7.out.sr.next k0 (by omega) (by rw[HE7.out];exact q4) HM.out.2)) (by omega));have HX9:=Hd (HX8.out.below hb9);clear ho9 hb9 HG8 HS7 HE7 HX8 f8
     go_wp2_with fail
     refine HT9.out.mono ?_;rintro e Wa ⟨ga,na,Ga,rfl,-,hga,hsa,hta,hba,-,-⟩;obtain⟨ma,hma,-,hla,-⟩:=hsa.lv;rw[hta]at hla;have hxa:=HX9.out.belowB HLT.out hba;have HXA:=Hd hxa
     have HSN:Hid (∀w,Below Wa.heap.size Wa w→Calls Tryz.prog 14 #[.pointer (some ⟨gb,0,none⟩),.int .i64 0] w fun e w'=>e=.returned (.agg #[.bool (decide (1<s.sil)),.bool ma.ou,.bool ma.mo,.bool ma.fa,.bool ma.ov,.int .i64 ma.fl,.int .i64 ma.tg,.int .i64 ma.ph])∧Below w.heap.size w w'):=fun w hw=>by
      have:=gg_seen (hga.below hw) 0;rwa[see_0 hma,show(sev ma).toArray= #[.bool ma.lv,.bool ma.ou,.bool ma.mo,.bool ma.fa,.bool ma.ov,.int .i64 ma.fl,.int .i64 ma.tg,.int .i64 ma.ph]from rfl,hla]at this
     have HC10:Hid (∀w,Below Wa.heap.size Wa w→w.cell? ⟨sb,10,none⟩=some (.int .i64 s.sil)):=fun w hw=>(hxa.below hw).ss.cell 10;have hfs:=fldS (decide (1<s.sil)) ma.ou ma.mo ma.fa ma.ov ma.fl ma.tg ma.ph;clear hga hsa hta hba hma hla hxa HT9 HX9
     go_wp2_with fail
     refine wp_region_quiet (C:=fun w'=>Below Wa.heap.size Wa w') (by kernel_rfl) (by kernel_rfl) ((Below.refl _ _).drew) ?_;simp only[];unfold wpQuiet;generalize hK:wpQuiet _ _ _ _ _=K;go_simp;refine⟨_,fun _ _=>rfl,?_⟩;subst hK;unfold wpQuiet;generalize hK:wpQuiet _ _ _ _ _=K;go_simp;refine⟨_,fun w' hw=>(HSN.out w' hw).mono fun e w'' hh=>⟨hh.1,below_class hw hh.2⟩,?_⟩;subst hK
     iterate 2 (unfold wpQuiet;generalize hK:wpQuiet _ _ _ _ _=K;go_simp;refine⟨_,fun _ _=>rfl,?_⟩;subst hK)
     unfold wpQuiet;generalize hK:wpQuiet _ _ _ _ _=K;rw[if_pos (by go_simp)];refine quiet_load3 _ _ _ rfl rfl HC10.out ?_;go_simp;subst hK
     iterate 3 (unfold wpQuiet;generalize hK:wpQuiet _ _ _ _ _=K;go_simp;refine⟨_,fun _ _=>rfl,?_⟩;subst hK)
     refine wpQuiet_nil ?_;intro Wb hbb;have HXB:=Hd (HXA.out.below hbb);clear hbb HXA HSN HC10 hfs;go_wp2;go_ret;exact⟨by simp,HXB.out.bel⟩
  ·go_wp2_with fail
   all_goals first
    |(exfalso;omega)
    |(go_ret;exact⟨rfl,HX2.out.bel⟩)
 ·have HR:=Hd (rright_any s X1);rw[rightB_false r]at HR
  go_wp2_with (refine wpList_load23 rfl _ rfl sb s rfl HX1.out.ss ?_)
  refine HR.out.mono ?_;rintro e X2 ⟨rfl,hb2⟩;have HX2:=Hd (HX1.out.below hb2);clear hb2 HX1 HR;go_wp2;go_ret;exact⟨rfl,HX2.out.bel⟩
end Go.Proofs.YtnkelgdnglaafaaGreat
