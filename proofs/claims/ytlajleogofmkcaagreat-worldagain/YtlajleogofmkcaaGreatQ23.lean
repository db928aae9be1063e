import Derived.Test.YtlajleogofmkcaaGreatQ22
set_option maxHeartbeats 8000000
set_option maxRecDepth 100000
namespace Go.Proofs.YtlajleogofmkcaaGreat
section
variable {G:Gs} {n fl:Int} {m:Mb}
theorem MO.ls(h:MO fl n m){L:List CC.Cl}(hL:L.length≤128):MO fl n {m with ls:=L}:={h with ll:=hL}
theorem MO.sd(h:MO fl n m)(u d:Bool):MO fl n {m with su:=u,sd:=d}:={h with ll:=h.ll}
theorem GO.adn(h:GO n G)(wd:List CC.Cl){P:List (List Int)}(hP:∀l∈P,l.length≤128):∀k,GO n {G with M:=GM.adn wd G.M P k}
 |0=>h
 |k+1=>by
  unfold GM.adn;split
  ·rename_i m l hm hl;exact(GO.adn h wd hP k).setM ((h.mo m (List.mem_of_getElem? hm)).ls (L:=GM.lst wd l) (by unfold GM.lst;rw[List.length_map];exact hP l (List.mem_of_getElem? hl)))
  ·exact GO.adn h wd hP k
theorem GO.pln(h:GO n G):GO n (GM.pln G):=by
 have hr:=snp_rgt h;have hb:=fnd_bd (B:=G.st.bud.toNat) hr;have h1:=h.adn (GM.wnt G.M G.L) (P:=(fnd (GM.snp G) G.st.bud.toNat).plan) (fun l hl=>(hb.2.2.1 l hl).1) (fnd (GM.snp G) G.st.bud.toNat).plan.length;have h2:GO n (plh G (fnd (GM.snp G) G.st.bud.toNat)):=⟨h1.rt,h1.ml,h1.gd,h1.mo,h1.n0,h1.n1⟩;rw[pln_eq];split
 ·exact h2.nte _ _
 ·exact h2
theorem MO.snd(h:MO fl n m)(f:Int)(u d:Bool):MO fl n (GM.snd m f u d).2:=by
 unfold GM.snd;split
 ·exact h
 ·exact h.sd u d
theorem MO.cmd(h:MO fl n m)(i:Nat):MO fl n (GM.cmd G i m).2:=by
 unfold GM.cmd;split
 ·split
  ·exact h.snd ..
  ·split
   ·exact h
   ·split
    ·exact h.snd ..
    ·exact h.snd ..
 ·exact h
theorem GO.tll(h:GO n G):∀k,GO n (GM.tll G k).2
 |0=>h
 |k+1=>by
  cases hm:G.M[k]? with
  |none=>
   have e:GM.tll G (k+1)=GM.tll G k:=by
    show(match G.M[k]? with|none=>GM.tll G k|some m=>_)=_;rw[hm]
   rw[e];exact GO.tll h k
  |some m=>
   rw[GM.tll_more hm];obtain⟨M,e1,-,-⟩:=GM.tll_eq (G:=G) k;exact(GO.tll h k).setM (by rw[e1];exact(h.mo m (List.mem_of_getElem? hm)).cmd k)
end
open Go.RowKit
section
variable {W W' W2:World} {ow ow':Nat→Nat} {B:Nat} {C:Gc} {V V':Gv} {G G':Gs} {n:Int} {f:FF.Fr} {g:Nat} {l:List (Bool×Int)} {b:List Nat}
structure GQ(n:Int)(G:Gs):Prop where
 go:GO n G
 bs:FF.FC.Bs G.sc
 sl:G.sc.length<10
 p0:0≤G.pi
 p1:G.pi≤G.st.per
theorem tke_c:(GM.tke G f).2.sc=G.sc∧(GM.tke G f).2.pi=G.pi∧(GM.tke G f).2.st=G.st:=by
 unfold GM.tke GM.rep GM.prs GM.trn
 (repeat' split)<;>exact⟨rfl,rfl,rfl⟩
theorem fra_c:(GM.fra G f).sc=G.sc∧(GM.fra G f).pi=G.pi∧(GM.fra G f).st=G.st:=by
 have h:=@tke_c G f;unfold GM.fra;simp only
 (repeat' split)<;>exact h
theorem frs_c:∀{F:List FF.Fr} {G:Gs},(GM.frs G F).sc=G.sc∧(GM.frs G F).pi=G.pi∧(GM.frs G F).st=G.st
 |[],_=>⟨rfl,rfl,rfl⟩
 |f::F,G=>⟨(@frs_c F (GM.fra G f)).1.trans fra_c.1,(@frs_c F (GM.fra G f)).2.1.trans fra_c.2.1,(@frs_c F (GM.fra G f)).2.2.trans fra_c.2.2⟩
theorem rdb_c:(GM.rdb G b).sc=(FF.FC.fd (G.sc++b)).2.2∧(GM.rdb G b).pi=G.pi∧(GM.rdb G b).st=G.st:=by
 unfold GM.rdb;simp only;split<;>exact frs_c
theorem rdb_N(h:(G.sc++b).length≤3000):(GM.rdb G b).N.length≤G.N.length+301:=by
 have h1:=FF.FC.fd_count (G.sc++b);unfold GM.rdb;simp only;split
 ·refine Nat.le_trans frs_N ?_;simp only[GM.nte,List.length_append,List.length_singleton];omega
 ·exact Nat.le_trans frs_N (by show G.N.length+_≤_;omega)
theorem srvs_c:∀{i:Nat},(GM.srvs G i).sc=G.sc∧(GM.srvs G i).pi=G.pi
 |0=>⟨rfl,rfl⟩
 |i+1=>by
  have h:=@srvs_c i;show(GM.srv1 _ i).sc=_∧(GM.srv1 _ i).pi=_;unfold GM.srv1;split
  ·exact h
  ·split<;>exact h
theorem GO.rdb(h:GO n G)(hs:FF.FC.Bs (G.sc++b)):GO n (GM.rdb G b):=by
 have h0:GO n {G with sc:=(FF.FC.fd (G.sc++b)).2.2}:=⟨h.rt,h.ml,h.gd,h.mo,h.n0,h.n1⟩;unfold GM.rdb;simp only;split
 ·exact(h0.nte _ _).frs (fd_may _ rfl hs)
 ·exact h0.frs (fd_may _ rfl hs)
theorem srv_c:(GM.srv G).sc=G.sc∧(GM.srv G).pi=G.pi∧(GM.srv G).st=G.st∧(GM.srv G).N.length≤G.N.length+G.L.length:=by
 unfold GM.srv;split
 ·exact⟨rfl,rfl,rfl,by omega⟩
 ·exact⟨srvs_c.1,srvs_c.2,(GM.srvs_M G _).2,by have:=GM.srvs_N G G.M.length;omega⟩
theorem GO.srv(h:GO n G):GO n (GM.srv G):=by
 unfold GM.srv;split
 ·exact h
 ·exact h.srvs _
theorem GQ.tk3(h:GQ n G)(hn:n<1000)(hb:FF.FC.Bs b)(hl:b.length≤2900):GQ (n+1) (GM.tk3 G b)∧(GM.tk3 G b).N.length≤500∧(GM.tk3 G b).st=G.st∧(GM.tk3 G b).pi=G.pi:=by
 have h0:GO n {G with N:=[],nd:=0}:=⟨h.go.rt,h.go.ml,h.go.gd,h.go.mo,h.go.n0,h.go.n1⟩;have hbs:FF.FC.Bs (G.sc++b):=h.bs.append hb;have hll:(G.sc++b).length≤3000:=by have:=h.sl;rw[List.length_append];omega
 have h1:=h0.rdb (b:=b) hbs;have h2:=h1.pss hn;have c:=@rdb_c {G with N:=[],nd:=0} b;have cN:=@rdb_N {G with N:=[],nd:=0} b hll;have s:=@srv_c (GM.pss (GM.rdb {G with N:=[],nd:=0} b));have hL:=h2.gd.len;have e1:(GM.tk3 G b).st=G.st:=s.2.2.1.trans c.2.2;have e2:(GM.tk3 G b).pi=G.pi:=s.2.1.trans c.2.1;have e3:(GM.tk3 G b).sc=(FF.FC.fd (G.sc++b)).2.2:=s.1.trans c.1;refine⟨⟨h2.srv,by rw[e3];exact FF.FC.fd_Bs hbs,by rw[e3];exact(FF.FC.fd_left _).1,by rw[e2];exact h.p0,by rw[e1,e2];exact h.p1⟩,Nat.le_trans s.2.2.2 ?_,e1,e2⟩;have:(GM.rdb {G with N:=[],nd:=0} b).N.length≤0+301:=cN;show(GM.rdb {G with N:=[],nd:=0} b).N.length+_≤500;omega
theorem pln_c:(GM.pln G).sc=G.sc∧(GM.pln G).pi=G.pi∧(GM.pln G).st=G.st:=by
 rw[pln_eq];split<;>exact⟨rfl,rfl,rfl⟩
theorem GQ.tk4(h:GQ n G):GQ n (GM.tk4 G)∧(GM.tk4 G).st=G.st∧1≤(GM.tk4 G).pi:=by
 unfold GM.tk4;split
 ·obtain⟨c1,c2,c3⟩:=@pln_c G;have h1:=h.go.pln;have h2:=h.go.rt.per1;exact⟨⟨⟨h1.rt,h1.ml,h1.gd,h1.mo,h1.n0,h1.n1⟩,by show FF.FC.Bs (GM.pln G).sc;rw[c1];exact h.bs,by show(GM.pln G).sc.length<10;rw[c1];exact h.sl,by show 0≤G.st.per;omega,by show G.st.per≤(GM.pln G).st.per;rw[c3];exact Int.le_refl _⟩,c3,h2⟩
 ·exact⟨h,rfl,by have:=h.p0;omega⟩
theorem GQ.pi1(h:GQ n G)(h1:1≤G.pi):GQ n {G with pi:=G.pi-1}:=⟨⟨h.go.rt,h.go.ml,h.go.gd,h.go.mo,h.go.n0,h.go.n1⟩,h.bs,h.sl,by show 0≤G.pi-1;omega,by have:=h.p1;show G.pi-1≤G.st.per;omega⟩
theorem GQ.tll(h:GQ n G)(k:Nat):GQ n (GM.tll G k).2:=by
 obtain⟨M,e,-⟩:=GM.tll_eq (G:=G) k;have h1:=h.go.tll k;rw[e]at h1⊢;exact⟨h1,h.bs,h.sl,h.p0,h.p1⟩
theorem GQ.tk5(h:GQ n G)(hn:n<1000)(hb:FF.FC.Bs b)(hl:b.length≤2900):GQ (n+1) (GM.tk5 G b)∧(GM.tk5 G b).st=G.st:=by
 obtain⟨h1,-,h3,-⟩:=h.tk3 hn hb hl;obtain⟨h4,h5,h6⟩:=h1.tk4;exact⟨h4.pi1 h6,h5.trans h3⟩
theorem GQ.tck(h:GQ n G)(hn:n<1000)(hb:FF.FC.Bs b)(hl:b.length≤2900):GQ (n+1) (GM.tck G b).2:=(h.tk5 hn hb hl).1.tll _
theorem Told.cons{A:World}(h2:∀b,b<A.heap.size→ow' b=ow b)(h3:Kp (fun b=>ow b<1000) A W)(h:Told W ow' B C G l g W2):Told A ow B C G l g W2:=by
 obtain⟨h1,hg,o2,V2,k1,k2,k3,k4⟩:=h;exact⟨h1,Nat.le_trans h3.size hg,o2,V2,k1,fun b hb=>(k2 b (Nat.lt_of_lt_of_le hb h3.size)).trans (h2 b hb),h3.trans k3 fun b hb h=>by rw[h2 b hb]at h;exact h,k4⟩
theorem GX.mute(h:GX al W ow B C V G):GX al (W.setCell ⟨C.gb,18,none⟩ (.slice none 0 0)) ow B C {V with vn:=.slice none 0 0} {G with N:=[]}:=by
 have h1:W.heap[C.gb]?=some (.cells (gcv C V G).toArray 85 (0,0)):=h.pt 0 trivial;refine (((h.set C.gb h.t0 18 (.slice none 0 0)).mono (T':=fun t=>nx 0 t∧nx 5 t) fun _ x=>x.1).chg (G':={G with N:=[]}) (V':={V with vn:=.slice none 0 0}) rfl fun t x hp=> ?_).fill (T':=nx 0) 5 ⟨⟨rfl,.inl ⟨rfl,rfl⟩⟩,fun g hg=>by cases hg⟩ (fun t x=> ?_)|>.fills ?_
 ·match t,x,hp with
  |0,x,_=>exact absurd rfl x.1
  |1,_,hp=>exact hp
  |2,_,hp=>exact hp
  |3,_,hp=>exact hp
  |4,_,hp=>exact hp
  |5,x,_=>exact absurd rfl x.2
  |t+6,_,hp=>exact hp
 ·unfold nx at*;omega
 ·exact(heap_setCell_same W C.gb 18 _ _ _ h1).trans (by unfold gcv;simp[sv])
theorem gtick_any(h:GX al W ow B C V G)(hq:GQ n G)(hn:n<1000)(v:Value)(hb:FF.FC.Bs b)(hl:b.length≤2900)(hv:∀X,Kp (fun k=>k=C.gb) W X→FF.RD X v b)(hE:(GM.tk3 G b).L=[]):
  Calls Tryz.prog 41 #[.pointer (some ⟨C.gb,0,none⟩),v] W fun e w'=>∃g,e=.returned (.slice (some ⟨g,0,none⟩) (GM.tk5 G b).M.length (GM.tk5 G b).M.length)∧Told W ow B C (GM.tck G b).2 (GM.tck G b).1 g w':=by
 have h1:=h.mute;have h2:=h1.put 19 (.int .i64 0) G.rc G.pi 0 rfl;have HH:=Hd h;have c18:W.cell? ⟨C.gb,18,none⟩=some V.vn:=h.cell 18;have r18:=h.fr 18;have c19:(W.setCell ⟨C.gb,18,none⟩ (.slice none 0 0)).cell? ⟨C.gb,19,none⟩=some (.int .i64 G.nd):=h1.cell 19;have r19:=h1.fr 19;have hk:Kp (fun k=>k=C.gb) W ((W.setCell ⟨C.gb,18,none⟩ (.slice none 0 0)).setCell ⟨C.gb,19,none⟩ (.int .i64 0)):=((Kp.refl (fun k=>k=C.gb) W).set _ _ _ fun _=>rfl).set _ _ _ fun _=>rfl;have h0:GO n {G with N:=[],nd:=0}:=⟨hq.go.rt,hq.go.ml,hq.go.gd,hq.go.mo,hq.go.n0,hq.go.n1⟩;have hll:(G.sc++b).length≤3000:=by have:=hq.sl;rw[List.length_append];omega
 have HR:=Hd (gread_any h2 v b h0 (hv _ hk) hl hq.bs hq.sl (Nat.zero_le _));have HK:=Hd (hk.mono (G:=fun b=>ow b<1000) fun b _ e=>by show ow b<1000;rw[e,h.t0];omega);have h1r:=h0.rdb (b:=b) (hq.bs.append hb);have HO1:=Hd h1r;have HO2:=Hd (h1r.pss hn);have HN2:Hid ((GM.pss (GM.rdb {G with N:=[],nd:=0} b)).N.length≤3000):=Nat.le_trans (@rdb_N {G with N:=[],nd:=0} b hll) (by show 0+301≤3000;omega);obtain⟨q3,n3,s3,-⟩:=hq.tk3 hn hb hl;have HQ3:=Hd q3;have HEL:=Hd hE;have HN3:=Hd n3;have HE3:Hid (GM.srv (GM.pss (GM.rdb {G with N:=[],nd:=0} b))=GM.tk3 G b):=rfl;have HE5:Hid (GM.tk5 G b={GM.tk4 (GM.tk3 G b)with pi:=(GM.tk4 (GM.tk3 G b)).pi-1}):=rfl;have HET:Hid (GM.tck G b=GM.tll (GM.tk5 G b) (GM.tk5 G b).M.length):=rfl;rw[HET.out];obtain⟨G3,hG3⟩:∃x,GM.tk3 G b=x:=⟨_,rfl⟩;obtain⟨G5,hG5⟩:∃x,GM.tk5 G b=x:=⟨_,rfl⟩;obtain⟨G1,hG1⟩:∃x,GM.rdb {G with N:=[],nd:=0} b=x:=⟨_,rfl⟩;rw[hG1]at HR HO1 HO2 HN2 HE3;rw[hG3]at HQ3 HN3 HE3 HE5 HEL;rw[hG5]at HE5⊢;clear h h1 h2 hk h0 hll h1r hq q3 n3 s3 HET hG1 hG3 hG5 hv hE
 go_enter Tryz.func41,Tryz.ntmps41
 go_wp2_with fail
 refine HR.out.mono ?_;rintro e W2 ⟨rfl,hg⟩;have hg2:=Ga.cons (fun _ _=>rfl) HK.out hg;have HP:=Hd (hg2.call (Below.refl _ _) fun _ _ hx=>gpass_any hx HO1.out);clear hg hg2 HR HK c18 r18 c19 r19 HO1
 go_wp2_with fail
 refine HP.out.mono ?_;rintro e W3 ⟨rfl,hg,-⟩;have HS:=Hd (hg.call (Below.refl _ _) fun _ _ hx=>gserve_any hx HO2.out HN2.out);clear hg HP HO2 HN2
 go_wp2_with fail
 refine HS.out.mono ?_;rintro e W4 ⟨rfl,hg,-⟩;rw[HE3.out]at hg;have HG:=Hd hg;obtain⟨o4,V4,hx4,-,-⟩:=hg;obtain⟨p3,hp3⟩:∃x,G3.pi=x:=⟨_,rfl⟩;have c17:W4.cell? ⟨C.gb,17,none⟩=some (.int .i64 p3):=hp3▸hx4.cell 17;have HP3:=Hd hp3;clear hx4 hp3 HS HE3
 go_upto_if 22 with (fail)
 go_cut [] (fun X=>Hid (Ga W ow B C (GM.tk4 G3) X))
 case first=>
  by_cases q:p3=0
  ·have qz:(p3==0)=true:=by simpa using q
   have HE4:Hid (GM.tk4 G3={GM.pln G3 with pi:=G3.st.per}):=by show _=_;unfold GM.tk4;rw[if_pos (HP3.out.trans q)]
   have HX:=Hd (HG.out.call (Below.refl _ _) fun _ _ hx=>gplan_any hx HQ3.out.go (by have:=HN3.out;omega) HEL.out);clear q HG
   go_wp2_with fail
   refine HX.out.mono ?_;rintro e W5 ⟨rfl,hg,-⟩;obtain⟨o5,V5,hx5,h25,h35⟩:=hg;have c12:W5.cell? ⟨C.gb,12,none⟩=some (.int .i64 G3.st.per):=by rw[←(@pln_c G3).2.2];exact hx5.cell 12
   have c17:W5.cell? ⟨C.gb,17,none⟩=some (.int .i64 (GM.pln G3).pi):=hx5.cell 17;have r17:=hx5.fr 17
   have HG5:Hid (Ga W ow B C (GM.tk4 G3) (W5.setCell ⟨C.gb,17,none⟩ (.int .i64 G3.st.per))):=by
    rw[HE4.out];exact⟨o5,V5,hx5.put 17 (.int .i64 G3.st.per) (GM.pln G3).rc G3.st.per (GM.pln G3).nd rfl,h25,h35.set _ _ _ fun hb=>by rw[←h25 _ hb,hx5.t0];omega⟩
   clear hx5 h25 h35 HX HE4;go_wp2;go_meet
   case rel=>exact HG5
  ·have qz:(p3==0)=false:=by simpa using q
   have HE4:Hid (GM.tk4 G3=G3):=by show _=_;unfold GM.tk4;rw[if_neg (fun e=>q (HP3.out.symm.trans e))]
   rw[←HE4.out]at HG;clear q;go_wp2;go_meet
   case rel=>rw[HE4.out]at HG⊢;exact HG
 case rest=>
  obtain⟨q4,-,i4⟩:=HQ3.out.tk4;obtain⟨G4,hG4⟩:∃x,GM.tk4 G3=x:=⟨_,rfl⟩;rw[hG4]at hcut q4 i4 HE5;obtain⟨o5,V5,hx5,h25,h35⟩:=hcut.out;obtain⟨p4,hp4⟩:∃x,G4.pi=x:=⟨_,rfl⟩;have c17:wc.cell? ⟨C.gb,17,none⟩=some (.int .i64 p4):=hp4▸hx5.cell 17;have r17:=hx5.fr 17;have hx6:=hx5.put 17 (.int .i64 (p4-1)) G4.rc (p4-1) G4.nd rfl;have hg5:{G4 with rc:=G4.rc,pi:=p4-1,nd:=G4.nd}=G5:=by rw[HE5.out,hp4]
  rw[hg5]at hx6;have i5:=q4.p1;have i6:=q4.go.rt.per2;rw[hp4]at i4 i5;have HT:=Hd (tell_any hx6 (by rw[HE5.out];exact(q4.pi1 (by omega)).go));have HK6:=Hd (h35.set C.gb 17 (.int .i64 (p4-1)) fun hb=>by show ow C.gb<1000;rw[←h25 _ hb,hx5.t0];omega);have H25:=Hd h25;have hp2:1≤p4:=i4;have hp3:p4≤1000:=by omega
  clear hG4 q4 i4 hcut hx5 h25 h35 hp4 hx6 hg5 i5 i6 HE5 HG
  go_wp2_with fail
  refine HT.out.mono ?_;rintro e W6 ⟨g,rfl,ht⟩;have HTT:=Hd (ht.cons H25.out HK6.out);clear ht HT HK6 H25;go_wp2;go_ret;exact⟨g,rfl,HTT.out⟩
end
open Go.Shelf
def nl:Value:=.slice none 0 0
def zm:List Value:=[.bool false,.bool false,.bool false,.bool false,.bool false,.int .i64 0,.int .i64 0,.int .i64 0,.pointer none,.bool false,.bool false,.slice none 0 0]
def zms(n:Nat):List Value:=(List.replicate n zm).flatten
def zrow(lo i n:Nat):List Value:=mrow (fun k=>lo+k) (fun _=>nl) 0 (List.replicate i GM.z)++zms (n-i)
theorem mrow_snoc{lb:Nat→Nat}{vl:Nat→Value}{m:Mb}:∀(M:List Mb) (k:Nat),mrow lb vl k (M++[m])=mrow lb vl k M++mc (lb (k+M.length)) (vl (k+M.length)) m
 |[],k=>by simp[mrow]
 |x::M,k=>by
  show mc _ _ x++mrow lb vl (k+1) (M++[m])=(mc _ _ x++mrow lb vl (k+1) M)++_;rw[mrow_snoc M,List.append_assoc,List.length_cons,show k+1+M.length=k+(M.length+1) by omega]
theorem zrow_all(lo n:Nat):zrow lo n n=mrow (fun k=>lo+k) (fun _=>nl) 0 (List.replicate n GM.z):=by unfold zrow;rw[Nat.sub_self];exact List.append_nil _
theorem zrow_set{lo i n:Nat}(h:i<n):(zrow lo i n).set (i*12+8) (.pointer (some ⟨lo+i,0,none⟩))=zrow lo (i+1) n:=by
 unfold zrow;have hl:=mrow_length (lb:=fun k=>lo+k) (vl:=fun _=>nl) (List.replicate i GM.z) 0;rw[List.length_replicate]at hl;rw[List.set_append_right _ _ (by omega),hl,Nat.add_sub_cancel_left,List.replicate_succ',mrow_snoc,List.append_assoc,List.length_replicate,Nat.zero_add,show n-i=(n-(i+1))+1 by omega]
 rfl
theorem zrow_get{lo i n:Nat}(h:i<n):(zrow lo i n)[i*12+8]?=some (.pointer none):=by
 unfold zrow;have hl:=mrow_length (lb:=fun k=>lo+k) (vl:=fun _=>nl) (List.replicate i GM.z) 0;rw[List.length_replicate]at hl;rw[List.getElem?_append_right (by omega),hl,Nat.add_sub_cancel_left,show n-i=(n-(i+1))+1 by omega]
 rfl
theorem infoMz:(Tryz.prog.info? 91).map (fun i=>(i.zero,i.size,i.bytes))=some (some (.agg zm.toArray),12,72):=by kernel_rfl
theorem mkGm(n:Nat)(hn:n≤8)(W:World):(Instr.makeSlice 83 (.int .i64 (n:Int)) (.int .i64 (n:Int))).run Tryz.prog W=.ok (.slice (some ⟨W.heap.size,0,none⟩) n n) (W.alloc (.cells (zms n).toArray 91)):=by
 obtain⟨i,hi,h1,h2,h3⟩:=info_parts infoMz
 have:=run_make (P:=Tryz.prog) W 83 91 i _ Tryz.underlying83 hi h1 .i64 .i64 (n:Int) (n:Int) (by omega) (by omega) (by
  have:(i.bytes:Int)*(n:Int)≤72*8:=Int.mul_le_mul (by omega) (by omega) (by omega) (by omega)
  omega) (by omega)
 have e:madeCells (Value.agg zm.toArray).cells (n*12)=(zms n).toArray:=by
  have:n=0∨n=1∨n=2∨n=3∨n=4∨n=5∨n=6∨n=7∨n=8:=by omega
  apply Array.toList_inj.1;rcases this with rfl|rfl|rfl|rfl|rfl|rfl|rfl|rfl|rfl<;>simp[madeCells,Value.cells,zms,zm,List.replicate,List.range,List.range.loop]
 rw[this,h2,Int.toNat_natCast,e]
theorem built_gr(s:St)(b g n:Nat):Tryz.prog.built 85 [(0,.agg (sv s).toArray),(2,.pointer (some ⟨b,0,none⟩)),(3,.slice (some ⟨g,0,none⟩) n n)]=some (sv s++[nl,.pointer (some ⟨b,0,none⟩),.slice (some ⟨g,0,none⟩) n n,.bool false,.int .i64 0,nl,.int .i64 0]).toArray:=by kernel_rfl
theorem wpOp_stP{ops:Array Oper}{Q:Exit→Act→World→Prop}{i:Nat}{o:Oper}{K:Act→World→Prop}{a:Act}{w:World}(hi:ops[i]?=some o)(hw:Region.wanted o (yielded ops a.tmps)=true)(x y:Operand)(ho:o.op=.store 87 x y)
  (b f l:Nat) (hx:a.eval x=.pointer (some ⟨b,f,none⟩)) (hy:a.eval y=.pointer (some ⟨l,0,none⟩)) (hr:w.cell? ⟨b,f,none⟩=some (.pointer none)) (hf:w.frozen? ⟨b,f,none⟩=false) (h:K (a.put o.dst undef) (w.setCell ⟨b,f,none⟩ (.pointer (some ⟨l,0,none⟩)))):wpOp Tryz.prog ops Q i K a w:=by
 unfold wpOp;rw[hi];simp only;rw[if_pos hw];refine .inl ?_;have hl:(Instr.storeAt 87 (.pointer (some ⟨b,f,none⟩)) (.pointer (some ⟨l,0,none⟩))).run Tryz.prog w=.ok () (w.setCell ⟨b,f,none⟩ (.pointer (some ⟨l,0,none⟩))):=by simp[go_sem,hr,hf]
 unfold Oper.wp execOp;simp only[ho,Sem.run_bind,Sem.run_pure,Result.andThen_ok,hx,hy,hl];exact h
theorem gl23{o:Oper}{a:Act}{w:World}(x:Operand)(b:Nat)(s:St)(ho:o.op=.load 23 x)(hx:a.eval x=.pointer (some ⟨b,0,none⟩))(h:SB w b s):(execOp a.eval o).run Tryz.prog w=.ok (.value (.agg (sv s).toArray)) w:=by
 unfold execOp;simp only[ho,hx,Sem.run_bind,Sem.run_pure,Result.andThen_ok,load23 w b s h.range]
section
variable {S:World→Prop} {ops:Array Oper} {Q:Exit→Act→World→Prop} {i:Nat} {o:Oper} {K:Act→World→Prop} {a:Act} {w:World}
theorem wpOp_mkGm(hi:ops[i]?=some o)(hw:Region.wanted o (yielded ops a.tmps)=true)(x y:Operand)(ho:o.op=.makeSlice 83 x y)(n:Nat)(hn:n≤8)(hx:a.eval x=.int .i64 (n:Int))(hy:a.eval y=.int .i64 (n:Int))
  (h:K (a.put o.dst (.slice (some ⟨w.heap.size,0,none⟩) n n)) (w.alloc (.cells (zms n).toArray 91))):wpOp Tryz.prog ops Q i K a w:=
 wpOp_val hi hw (by unfold execOp;simp only[ho,hx,hy,Sem.run_bind,Sem.run_pure,Result.andThen_ok,mkGm n hn]) h
end
def G0(s:St):Gs:=⟨s,[],[],0,List.replicate s.ca.toNat GM.z,false,0,[],0⟩
structure Nw(W wr:World)(s:St)(gb cb bb lo i n:Nat):Prop where
 bel:Below W.heap.size W wr
 g:wr.heap[gb]?=some (.cells (sv s++[nl,.pointer (some ⟨bb,0,none⟩),.slice (some ⟨cb,0,none⟩) n n,.bool false,.int .i64 0,nl,.int .i64 0]).toArray 85 (0,0))
 c:wr.heap[cb]?=some (.cells (zrow lo i n).toArray 91 (0,0))
 b:CC.PB wr bb s.fl s.ca nl 0
 l:∀j,j<i→LL.LB wr (lo+j) LL.LM.z
 sz:wr.heap.size=lo+i
 gl:W.heap.size≤gb∧gb<lo∧W.heap.size≤cb∧cb<lo∧W.heap.size≤bb∧bb<lo∧gb≠cb∧gb≠bb∧cb≠bb
section
variable {W wr W':World} {s:St} {gb cb bb lo i n:Nat}
theorem Nw.c15(h:Nw W wr s gb cb bb lo i n):wr.cell? ⟨gb,15,none⟩=some (.slice (some ⟨cb,0,none⟩) n n):=by simp[World.cell?,h.g,sv]
theorem Nw.drew(h:Nw W wr s gb cb bb lo i n):Nw W wr.drew s gb cb bb lo i n:=⟨h.bel.drew,h.g,h.c,h.b,h.l,h.sz,h.gl⟩
theorem Nw.lnk{o:Obj}(h:Nw W wr s gb cb bb lo i n):(wr.alloc o).cell? ⟨gb,15,none⟩=some (.slice (some ⟨cb,0,none⟩) n n)∧∀k,k=i→k<n→(wr.alloc o).cell? ⟨cb,k*12+8,none⟩=some (.pointer none)∧(wr.alloc o).frozen? ⟨cb,k*12+8,none⟩=false:=by
 have hs:=h.sz;have hl:=h.gl;have hg:=(Below.heap_alloc wr o gb (by omega)).trans h.g;have hc:=(Below.heap_alloc wr o cb (by omega)).trans h.c;refine⟨by simp[World.cell?,hg,sv],fun k hk hn=>⟨?_,by simp[World.frozen?,hc]⟩⟩;subst hk;simp[World.cell?,hc,zrow_get hn]
theorem Nw.step(h:Nw W wr s gb cb bb lo i n)(hi:i<n):Nw W ((wr.alloc (.cells #[.bool false,.int .u16 0,.int .i64 0] 115)).setCell ⟨cb,i*12+8,none⟩ (.pointer (some ⟨lo+i,0,none⟩))) s gb cb bb lo (i+1) n:=by
 obtain⟨l1,l2,l3,l4,l5,l6,l7,l8,l9⟩:=h.gl;have hs:=h.sz;have k:∀b,b<wr.heap.size→b≠cb→((wr.alloc (.cells #[.bool false,.int .u16 0,.int .i64 0] 115)).setCell ⟨cb,i*12+8,none⟩ (.pointer (some ⟨lo+i,0,none⟩))).heap[b]?=wr.heap[b]?:=fun b hb hne=>(Below.heap_setCell _ _ _ _ hne).trans (Below.heap_alloc _ _ _ hb);refine⟨(h.bel.alloc h.bel.size _).setCell (p:=⟨cb,i*12+8,none⟩) l3 _,(k _ (by omega) l7).trans h.g,?_,(k _ (by omega) (Ne.symm l9)).trans h.b,fun j hj=> ?_,by simp[World.setCell];omega,h.gl⟩
 ·have h1:=heap_setCell_same (wr.alloc (.cells #[.bool false,.int .u16 0,.int .i64 0] 115)) cb (i*12+8) _ _ (.pointer (some ⟨lo+i,0,none⟩)) ((Below.heap_alloc wr _ cb (by omega)).trans h.c);refine h1.trans ?_;rw[←zrow_set hi];simp
 ·by_cases e:j=i
  ·subst e;refine (Below.heap_setCell _ _ _ _ (by show lo+j≠cb;omega)).trans ?_;rw[←hs];exact World.alloc_heap_new wr _
  ·exact(k _ (by omega) (by omega)).trans (h.l j (by omega))
structure Nv(W wr:World)(s:St)(bb cb n:Nat):Prop where
 bel:Below W.heap.size W wr
 b:CC.PB wr bb s.fl s.ca nl 0
 c:wr.heap[cb]?=some (.cells (zms n).toArray 91 (0,0))
 bl:W.heap.size≤bb
 cl:W.heap.size≤cb
 ne:cb≠bb
 sb:SB wr W.heap.size s
theorem Nv.nw(h:Nv W wr s bb cb n):Nw W (wr.alloc (.cells (sv s++[nl,.pointer (some ⟨bb,0,none⟩),.slice (some ⟨cb,0,none⟩) n n,.bool false,.int .i64 0,nl,.int .i64 0]).toArray 85)) s wr.heap.size cb bb (wr.heap.size+1) 0 n:=by
 have h1:=h.b.lt;have h2:=(Array.getElem?_eq_some_iff.1 h.c).1;have h3:=h.bel.size;exact⟨h.bel.alloc h3 _,World.alloc_heap_new wr _,(Below.heap_alloc wr _ cb h2).trans h.c,h.b.alloc _,fun j hj=>by omega,by simp,by have:=h.bl;have:=h.cl;have:=h.ne;omega⟩
def ow0(gb cb bb lo n b:Nat):Nat:=if b=gb then 0 else if b=cb then 1 else if b=bb then 2 else if lo≤b∧b<lo+n then 10+2*(b-lo)else 1000
theorem Nw.gx(h:Nw W wr s gb cb bb lo n n)(hn:s.ca=n)(h8:n≤8):GX al wr (ow0 gb cb bb lo n) W.heap.size ⟨gb,cb,bb,fun k=>lo+k⟩ ⟨nl,nl,nl,fun _=>nl⟩ (G0 s):=by
 obtain⟨l1,l2,l3,l4,l5,l6,l7,l8,l9⟩:=h.gl;have hs:=h.sz;have hM:(G0 s).M=List.replicate n GM.z:=by unfold G0;rw[hn];rfl
 have hL:(G0 s).M.length=n:=by rw[hM,List.length_replicate]
 refine⟨fun t _=> ?_,by unfold ow0;rw[if_pos rfl],by unfold ow0;rw[if_neg (Ne.symm l7),if_pos rfl],by unfold ow0;rw[if_neg (Ne.symm l8),if_neg (Ne.symm l9),if_pos rfl],fun i hi=> ?_,fun k hk=> ?_,by omega,⟨by show gb<_;omega,by show cb<_;omega,by show bb<_;omega,fun i hi=> ?_⟩⟩
 ·match t with
  |0=>exact h.g.trans (by unfold gcv;rw[hL];rfl)
  |1=>exact h.c.trans (by rw[zrow_all,hM])
  |2=>exact⟨⟨h.b,CC.RW.nil _ _,(fun e=>by cases e),l5,(by decide:(0:Nat)<_)⟩,fun g hg=>by cases hg⟩
  |3=>exact trivial
  |4=>exact⟨⟨rfl,.inl ⟨rfl,rfl⟩⟩,fun g hg=>by cases hg⟩
  |5=>exact⟨⟨rfl,.inl ⟨rfl,rfl⟩⟩,fun g hg=>by cases hg⟩
  |t+6=>
   intro i m hm;rw[hM]at hm;have hi:i<n:=by have:=(List.getElem?_eq_some_iff.1 hm).1;rwa[List.length_replicate]at this
   obtain rfl:GM.z=m:=by
    rw[List.getElem?_replicate,if_pos hi]at hm;exact Option.some.inj hm
   exact⟨fun _=>h.l i hi,fun _=>⟨CC.RW.nil _ _,fun g hg=>by cases hg⟩⟩
 ·have hi:i<n:=by omega
  unfold ow0;rw[if_neg (by show lo+i≠gb;omega),if_neg (by show lo+i≠cb;omega),if_neg (by show lo+i≠bb;omega),if_pos (by show lo≤lo+i∧lo+i<lo+n;omega)];show 10+2*(lo+i-lo)=_;omega
 ·have hk:ow0 gb cb bb lo n k<1000:=hk;unfold ow0 at hk;have:=h.bel.size;split at hk
  ·omega
  ·split at hk
   ·omega
   ·split at hk
    ·omega
    ·split at hk
     ·omega
     ·omega
 ·show lo+i<_;omega
end
def GNew(s:St)(W:World)(e:Ending)(w':World):Prop:=∃ow C V,e=.returned (.tuple #[.pointer (some ⟨C.gb,0,none⟩),.int .i64 0])∧GX al w' ow W.heap.size C V (G0 s)∧Below W.heap.size W w'
section
theorem gnew_yes(s:St)(r:SM.Rt s)(W:World):Calls Tryz.prog 18 #[.agg (sv s).toArray] W fun e w'=>GNew s W e w':=by
 have HR:=Hd (right_t s r (W.alloc (.cells (sv s).toArray 23)));have HS:=Hd (SB.new W s);have HB:=Hd ((Below.refl W.heap.size W).alloc (Nat.le_refl _) (.cells (sv s).toArray 23));obtain⟨n,hn,hn8⟩:∃n:Nat,s.ca=n∧n≤8:=⟨s.ca.toNat,by obtain⟨⟩:=r;omega,by obtain⟨⟩:=r;omega⟩;have HN:=Hd hn;clear hn
 go_enter Tryz.func18,Tryz.ntmps18
 go_wp2_with (refine wpList_load23 rfl _ rfl W.heap.size s rfl HS.out ?_)
 refine HR.out.mono ?_;rintro e W2 ⟨rfl,hb2⟩;have HB2:=Hd (below_class HB.out hb2);have HS2:=Hd (HS.out.below' hb2);have HL2:Hid (W.heap.size<W2.heap.size):=HS2.out.lt;clear hb2 HR HS HB
 go_upto_region 3 with (fail)
 refine wp_nrm ?_;refine wp_region_held (S:=fun w'=>SB w' W.heap.size s∧w'.cell? ⟨W.heap.size,1,none⟩=some (.int .i64 (n:Int))) (by kernel_rfl) ?_;change wpAnyH _ _ _ _ _ _ _ _ (World.drew _);have HSS:Hid (∀w',SB w' W.heap.size s→SB w' W.heap.size s∧w'.cell? ⟨W.heap.size,1,none⟩=some (.int .i64 (n:Int))):=fun w' h=>⟨h,by have:=h.cell 1;rw[this,←HN.out];rfl⟩;have HD:=Hd (HSS.out _ HS2.out.drew);have HX0:=Hd (HB2.out.drew);have HZ0:Hid (W.heap.size<W2.drew.heap.size):=HL2.out;generalize W2.drew=X0 at HD HX0 HZ0⊢;clear HB2 HS2 HL2;refine wpAnyH_take (i:=0) (v:=.agg (sv s).toArray) rfl (by kernel_rfl) (by kernel_rfl) (by kernel_rfl) (fun _ _ _ h=>by cases h.1) (.inl ⟨rfl,(fun w hw=>gl23 _ _ s rfl rfl hw.1)⟩) HD.out ?_;generalize hKK:wpAnyH _ _ _ _ _ _ _=KK;go_simp;subst hKK;refine wpAnyH_take (i:=1) (v:=.agg (sv s).toArray) rfl (by kernel_rfl) (by kernel_rfl) (by kernel_rfl) (fun _ _ _ h=>by cases h.1) (.inl ⟨rfl,(fun w hw=>gl23 _ _ s rfl rfl hw.1)⟩) HD.out ?_;generalize hKK:wpAnyH _ _ _ _ _ _ _=KK;go_simp;subst hKK;refine wpAnyH_take (i:=3) rfl (by kernel_rfl) (by kernel_rfl) (by kernel_rfl) (fun _ _ _ h=>by cases h.1) (.inl ⟨rfl,fun _ _=>rfl⟩) HD.out ?_;generalize hKK:wpAnyH _ _ _ _ _ _ _=KK;go_simp;subst hKK;refine wpAnyH_take (i:=4) (v:=.int .i64 (n:Int)) rfl (by kernel_rfl) (by kernel_rfl) (by kernel_rfl) (fun _ _ _ h=>by cases h.1) (.inl ⟨rfl,(fun w hw=>by have hc:=hw.2;go_simp)⟩) HD.out ?_;generalize hKK:wpAnyH _ _ _ _ _ _ _=KK;go_simp;subst hKK;refine wpAnyH_all (rs:=[2,5]) (by kernel_rfl) (by simp) (fun ii hii=> ?_);have h7:ii=2∨ii=5:=by simpa using hii
 clear hii;rcases h7 with rfl|rfl;refine wpOp_call (f:=35) (args:= #[.agg (sv s).toArray]) rfl rfl (by go_simp) (CC.new_any _ s.fl s.ca rfl rfl X0) ?_;rintro e X1 ⟨b,rfl,hlb,hb1,hpb⟩;have HS1:=Hd (HSS.out _ (HD.out.1.below' hb1));have HV:Hid (Nv W (X1.alloc (.cells (zms n).toArray 91)) s b X1.heap.size n):=⟨(below_class HX0.out hb1).alloc (below_class HX0.out hb1).size _,hpb.alloc _,World.alloc_heap_new X1 _,by have:=HX0.out.size;omega,(below_class HX0.out hb1).size,by have:=hpb.lt;omega,HS1.out.1.alloc _⟩;refine⟨_,rfl,HS1.out,?_⟩;have hpl:=hpb.lt;clear hlb hb1 hpb HD HX0;generalize hKK:wpAnyH _ _ _ _ _ _ _=KK;go_simp;subst hKK;refine wpAnyH_all (rs:=[5]) (by kernel_rfl) (by simp) (fun ii hii=> ?_);obtain rfl:ii=5:=by simpa using hii
 clear hii;refine wpOp_mkGm rfl rfl _ _ rfl n hn8 rfl rfl ⟨HSS.out _ HV.out.sb,?_⟩;generalize X1.alloc (.cells (zms n).toArray 91)=X2 at HV⊢;generalize X1.heap.size=g at HV⊢;clear HS1 hpl;rotate_left;have HV0:=Hd (World.alloc_heap_new X0 (.cells (zms n).toArray 91));have HS1:=Hd (HSS.out _ (HD.out.1.alloc (.cells (zms n).toArray 91)));have hbx:=HX0.out.alloc HX0.out.size (.cells (zms n).toArray 91);have HBX:=Hd hbx;refine wpOp_mkGm rfl rfl _ _ rfl n hn8 rfl rfl ⟨HS1.out,?_⟩;have HG:=Hd HX0.out.size;have HG2:Hid (X0.heap.size<(X0.alloc (.cells (zms n).toArray 91)).heap.size):=by show _<_;simp
 generalize X0.alloc (.cells (zms n).toArray 91)=X1 at HV0 HS1 HBX HG2⊢;generalize X0.heap.size=g at HV0 HG HG2⊢;clear hbx HD HX0;generalize hKK:wpAnyH _ _ _ _ _ _ _=KK;go_simp;subst hKK;refine wpAnyH_all (rs:=[2]) (by kernel_rfl) (by simp) (fun ii hii=> ?_);obtain rfl:ii=2:=by simpa using hii
 clear hii;refine wpOp_call (f:=35) (args:= #[.agg (sv s).toArray]) rfl rfl (by go_simp) (CC.new_any _ s.fl s.ca rfl rfl X1) ?_;rintro e X2 ⟨b,rfl,hlb,hb1,hpb⟩;have HV:Hid (Nv W X2 s b g n):=⟨below_class HBX.out hb1,hpb,(hb1.block g HG2.out).trans HV0.out,Nat.le_trans HG.out (by have:=HG2.out;omega),HG.out,by have:=HG2.out;omega,HS1.out.1.below' hb1⟩;refine⟨_,rfl,HSS.out _ HV.out.sb,?_⟩;clear hlb hb1 hpb HV0 HS1 HBX HG HG2
 all_goals
  have HD:=Hd (HSS.out _ HV.out.sb);generalize hKK:wpAnyH _ _ _ _ _ _ _=KK;go_simp;subst hKK;refine wpAnyH_take (i:=6) rfl (by kernel_rfl) (by kernel_rfl) (by kernel_rfl) (fun _ _ _ h=>by cases h.1) (yif_build rfl _ _ rfl [(0,.agg (sv s).toArray),(2,.pointer (some ⟨b,0,none⟩)),(3,.slice (some ⟨g,0,none⟩) n n)] (by simp[Act.eval]) _ (built_gr s b g n)) HD.out ?_;generalize hKK:wpAnyH _ _ _ _ _ _ _=KK;go_simp;subst hKK;refine wpAnyH_all (rs:=[7]) (by kernel_rfl) (by simp) (fun ii hii=> ?_);obtain rfl:ii=7:=by simpa using hii
  clear hii;have HW:=Hd HV.out.nw;refine wpOp_box rfl rfl _ _ rfl _ rfl ⟨HSS.out _ (HV.out.sb.alloc _),?_⟩;clear HD;have HD:=Hd (HSS.out _ (HV.out.sb.alloc (.cells (sv s++[nl,.pointer (some ⟨b,0,none⟩),.slice (some ⟨g,0,none⟩) n n,.bool false,.int .i64 0,nl,.int .i64 0]).toArray 85)));generalize X2.alloc (.cells (sv s++[nl,.pointer (some ⟨b,0,none⟩),.slice (some ⟨g,0,none⟩) n n,.bool false,.int .i64 0,nl,.int .i64 0]).toArray 85)=X3 at HW HD⊢;generalize X2.heap.size+1=lo at HW;generalize X2.heap.size=gb at HW⊢;clear HV;generalize hKK:wpAnyH _ _ _ _ _ _ _=KK;go_simp;subst hKK;refine wpAnyH_take (i:=8) rfl (by kernel_rfl) (by kernel_rfl) (by kernel_rfl) (fun _ _ _ h=>by cases h.1) (.inl ⟨rfl,fun _ _=>rfl⟩) HD.out ?_;generalize hKK:wpAnyH _ _ _ _ _ _ _=KK;go_simp;subst hKK;refine wpAnyH_done (by kernel_rfl) ⟨rfl,?_⟩ _;have c15:=HW.out.c15;clear HSS HD
  go_wp2_with fail
  clear c15
  go_loopw [22] (fun iv wr=>∃i:Nat,i≤n∧iv=.int .i64 (i:Int)∧Hid (Nw W wr s gb g b lo i n)) (fun iv _=>n-(intOf iv).toNat)
  case atStart=>exact⟨0,Nat.zero_le _,rfl,HW⟩
  case round=>
   clear HW;obtain⟨i,hi,rfl,HW⟩:=hrel;by_cases hlt:i<n
   ·have hz:(i:Int)<(n:Int):=by omega
    have c15:=HW.out.c15;have hix:∀W:World,_:=fun W=>ixM (ab:=g) W hlt
    go_wp2_with fail
    refine wp_nrm ?_;refine wp_region_held (S:=fun w'=>w'.cell? ⟨gb,15,none⟩=some (.slice (some ⟨g,0,none⟩) n n)) (by kernel_rfl) ?_;change wpAnyH _ _ _ _ _ _ _ _ (World.drew _);have HWD:=Hd HW.out.drew;have HD:Hid (wr.drew.cell? ⟨gb,15,none⟩=some (.slice (some ⟨g,0,none⟩) n n)):=c15;generalize wr.drew=wd at HWD HD⊢;refine wpAnyH_take (i:=0) rfl (by kernel_rfl) (by kernel_rfl) (by kernel_rfl) (fun _ _ _ h=>by cases h.1) (.inl ⟨rfl,fun _ _=>rfl⟩) HD.out ?_;generalize hKK:wpAnyH _ _ _ _ _ _ _=KK;go_simp;subst hKK;refine wpAnyH_take (i:=1) rfl (by kernel_rfl) (by kernel_rfl) (by kernel_rfl) (fun _ _ _ h=>by cases h.1) (.inl ⟨rfl,fun _ _=>rfl⟩) HD.out ?_;generalize hKK:wpAnyH _ _ _ _ _ _ _=KK;go_simp;subst hKK;refine wpAnyH_take (i:=2) rfl (by kernel_rfl) (by kernel_rfl) (by kernel_rfl) (fun _ _ _ h=>by cases h.1) (.inl ⟨rfl,fun _ _=>rfl⟩) HD.out ?_;generalize hKK:wpAnyH _ _ _ _ _ _ _=KK;go_simp;subst hKK;refine wpAnyH_take (i:=3) (v:=.slice (some ⟨g,0,none⟩) n n) rfl (by kernel_rfl) (by kernel_rfl) (by kernel_rfl) (fun _ _ _ h=>by cases h.1) (.inl ⟨rfl,(fun w hw=>by have hc:=hw;go_simp)⟩) HD.out ?_;generalize hKK:wpAnyH _ _ _ _ _ _ _=KK;go_simp;subst hKK;refine wpAnyH_take (i:=4) rfl (by kernel_rfl) (by kernel_rfl) (by kernel_rfl) (fun _ _ _ h=>by cases h.1) (.inl ⟨rfl,fun _ _=>rfl⟩) HD.out ?_;generalize hKK:wpAnyH _ _ _ _ _ _ _=KK;go_simp;subst hKK;refine wpAnyH_all (rs:=[5]) (by kernel_rfl) (by simp) (fun ii hii=> ?_);obtain rfl:ii=5:=by simpa using hii
    clear hii;refine wpOp_call (f:=36) (args:= #[]) rfl rfl (by go_simp) (LL.new_any _) ?_;rintro e X1 ⟨rfl,rfl⟩;have HS:=Hd (HWD.out.step hlt);have HC:=Hd (HWD.out.lnk (o:=.cells #[.bool false,.int .u16 0,.int .i64 0] 115));have hbl:wd.heap.size=lo+i:=HWD.out.sz;rw[hbl];refine⟨_,rfl,HC.out.1,?_⟩;have HD:=Hd HC.out.1;generalize wd.alloc (.cells #[.bool false,.int .u16 0,.int .i64 0] 115)=X1 at HS HD HC⊢;clear hbl HWD HW;generalize hKK:wpAnyH _ _ _ _ _ _ _=KK;go_simp;subst hKK;refine wpAnyH_take (i:=6) (v:=.pointer (some ⟨g,i*12,none⟩)) rfl (by kernel_rfl) (by kernel_rfl) (by kernel_rfl) (fun _ _ _ h=>by cases h.1) (.inl ⟨rfl,(fun w _=>by have:=hix w;go_simp)⟩) HD.out ?_;generalize hKK:wpAnyH _ _ _ _ _ _ _=KK;go_simp;subst hKK;refine wpAnyH_take (i:=7) rfl (by kernel_rfl) (by kernel_rfl) (by kernel_rfl) (fun _ _ _ h=>by cases h.1) (.inl ⟨rfl,fun _ _=>rfl⟩) HD.out ?_;generalize hKK:wpAnyH _ _ _ _ _ _ _=KK;go_simp;subst hKK;refine wpAnyH_all (rs:=[8]) (by kernel_rfl) (by simp) (fun ii hii=> ?_);obtain rfl:ii=8:=by simpa using hii
    clear hii;refine wpOp_stP rfl rfl _ _ rfl g (i*12+8) (lo+i) rfl rfl (HC.out.2 i rfl hlt).1 (HC.out.2 i rfl hlt).2 ⟨HS.out.c15,?_⟩;generalize X1.setCell ⟨g,i*12+8,none⟩ (.pointer (some ⟨lo+i,0,none⟩))=X2 at HS⊢;generalize hKK:wpAnyH _ _ _ _ _ _ _=KK;go_simp;subst hKK;refine wpAnyH_done (by kernel_rfl) ⟨rfl,?_⟩ _;have hi1:i+1≤n:=hlt;clear HC HD;go_wp2;go_roundw
    case rel=>exact⟨i+1,hi1,by go_num,HS⟩
    case measure=>simp[intOf];omega
   ·have hz:¬(i:Int)<(n:Int):=by omega
    obtain rfl:i=n:=by omega
    have HG:=Hd (HW.out.gx HN.out hn8);have HB:=Hd HW.out.bel;clear HW;go_wp2
    go_ret2
    exact⟨_,⟨gb,g,b,fun k=>lo+k⟩,⟨nl,nl,nl,fun _=>nl⟩,rfl,HG.out,HB.out⟩
end
theorem set_some{α:Type}:∀{l:List α} {i:Nat} {x:α},l[i]?=some x→l.set i x=l
 |[],_,_,_=>rfl
 |y::l,0,x,h=>by simp at h;rw[h];rfl
 |y::l,i+1,x,h=>by rw[List.set_cons_succ,set_some (by simpa using h)]
namespace GM
section
variable {G:Gs} {b:List Nat} {n:Nat}
end
end GM
def gs:St:=⟨5,1,0,2,0,3,1,1,0,9,9,9,1⟩
theorem GQ.new{s:St}(h:SM.Rt s):GQ 0 (G0 s):=by
 have hc:((List.replicate s.ca.toNat GM.z).length:Int)=s.ca:=by rw[List.length_replicate];have:=h.ca1;omega
 refine⟨⟨h,hc,?_,fun m hm=> ?_,Int.le_refl _,by decide⟩,FF.FC.Bs.nil,(by decide:0<10),Int.le_refl _,by show 0≤s.per;have:=h.per1;omega⟩
 ·exact CC.KM.Gd.nil _ _ _
 ·obtain rfl:=List.eq_of_mem_replicate hm;exact⟨LL.LM.ok_z,Int.le_refl _,by show 0<s.fl;have:=h.fl1;omega,Int.le_refl _,by show 0<s.fl;have:=h.fl1;omega,by decide⟩
end Go.Proofs.YtlajleogofmkcaaGreat
