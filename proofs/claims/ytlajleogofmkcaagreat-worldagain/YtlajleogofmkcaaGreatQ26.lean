import Derived.Test.YtlajleogofmkcaaGreatQ25
set_option maxHeartbeats 8000000
set_option maxRecDepth 100000
namespace Go.Proofs.YtlajleogofmkcaaGreat
open Go.RowKit
theorem built_ws:Tryz.prog.built 23 [(0,.int .i64 5),(1,.int .i64 1),(3,.int .i64 2),(5,.int .i64 3),(6,.int .i64 1),(7,.int .i64 1),(9,.int .i64 9),(10,.int .i64 9),(11,.int .i64 9),(12,.int .i64 1)]=some (sv gs).toArray:=by kernel_rfl
theorem built_e8:Tryz.prog.built 35 [(0,.int .i64 8)]=some #[.int .i64 8,.int .i64 0,.int .i64 0,.bool false,.int .i64 0,.int .i64 0,.int .i64 0,.bool false]:=by kernel_rfl
theorem built_n5:Tryz.prog.built 56 [(0,.int .i64 5)]=some #[.int .i64 5,.int .i64 0]:=by kernel_rfl
theorem gs_right:rightB gs=true:=by decide
theorem wpList_buildSg{ops:Array Oper}{rest:List Oper}{o:Oper}{a:Act}{w:World}{Q:Exit→Act→World→Prop}(hgd:Region.wanted o (yielded ops a.tmps)=true)(t:TypeId)(parts:Array (Nat×Operand))(ho:o.op=.build t parts)(ps:List (Nat×Value))(hp:(parts.map fun (i,x)=>(i,a.eval x)).toList=ps)(cells:Array Value)(hb:Tryz.prog.built t ps=some cells)
  (h:wpList Tryz.prog ops Q rest (a.put o.dst (.agg cells)) w):wpList Tryz.prog ops Q (o::rest) a w:=
 wpList_step fun _ hK=>by
  rw[if_pos hgd];unfold Oper.wp;rw[(yif_build (S:=fun _=>True) hgd t parts ho ps hp cells hb).resolve_right (fun h=>by rw[hgd]at h;exact Bool.noConfusion h.1)|>.2 w trivial];exact hK _ _ h
theorem WE.notes{E:List (Nat×Array Value×TypeId)}{cb gb B wb n k:Nat}{W:World}{s:St}{kg:Int}{A:List Int}{G:Gs}(h:WE E cb gb B W wb s n k kg A G)(hN:G.N.length≤10000):Calls Tryz.prog 17 #[.pointer (some ⟨gb,0,none⟩)] W fun e w'=>∃v',e=.returned v'∧O2 56 w' W.heap.size v' G.N∧Below W.heap.size W w':=let⟨_,_,_,h1,_⟩:=h;gw_notes h1.g hN
theorem WE.wc{E:List (Nat×Array Value×TypeId)}{cb gb B wb n k:Nat}{W:World}{s:St}{kg:Int}{A:List Int}{G:Gs}(h:WE E cb gb B W wb s n k kg A G)(hn:n≤8):Calls Tryz.prog 14 #[.pointer (some ⟨wb,0,none⟩)] W fun e w'=>∃g,e=.returned (.slice (some ⟨g,0,none⟩) n n)∧WE ((g,(kz n).toArray,48)::E) cb gb B w' wb s n k kg A G∧Below W.heap.size W w':=by
 obtain⟨F,v,es,h1,h2,h3⟩:=h;refine (wcars_any h1.w h1.m hn).mono fun e w' ⟨g,he,hz,hg,hb⟩=>⟨g,he,⟨_,v,es,h1.below hb,h2,fun x hx=> ?_⟩,hb⟩;rcases List.mem_cons.1 hx with rfl|hx
 ·exact⟨hz,.inl rfl,.inr hg⟩
 ·exact h3.below hb x hx
theorem speaks17_any(W:World):Calls Tryz.prog 5 #[] W fun e w'=>e=.returned (.bool true)∧Below W.heap.size W w':=by
 go_enter Tryz.func5,Tryz.ntmps5
 go_wp2_with (refine wpList_buildS rfl _ _ rfl _ (by simp[Act.eval];rfl) _ built_ws ?_)
 refine (wnew_any (n:=1) gs_right rfl W).mono ?_;rintro e W1 ⟨cb,gb,wb,rfl,hw,hb⟩;have HQ:Hid (WQ [] cb gb (W.heap.size+1) W1 wb gs 1 0 [] (G0 gs)):=⟨hw,Qg0 rfl,rfl,gs_right,rfl⟩;have HB:=Hd hb;clear hw hb
 go_wp2_with (refine wpList_buildSg rfl _ _ rfl _ (by simp[Act.eval];rfl) _ built_e8 ?_)
 have ht:=wdo_tick HQ.out (by decide) (by simp) (by decide);obtain⟨G',hG⟩:∃x,wtg 1 0 [] (G0 gs)=x:=⟨_,rfl⟩;rw[hG]at ht;refine ht.mono ?_;rintro e W2 ⟨rfl,h1,h2,-,h3⟩;have HN2:Hid (G'.N=[(5,0)]):=h3 rfl;have HQ2:=Hd h1.e;have HB2:Hid (Below W.heap.size W W2):=HB.out.trans (h2.mono (Nat.le_succ _));clear h1 h2 h3 ht hG HQ HB
 go_wp2_with fail
 refine (wgroup_any HQ2.out).mono ?_;rintro e W3 ⟨rfl,rfl⟩
 go_wp2_with fail
 refine (wgroup_any HQ2.out).mono ?_;rintro e W4 ⟨rfl,rfl⟩
 go_wp2_with fail
 refine (HQ2.out.notes (by rw[HN2.out];decide)).mono ?_;rintro e W5 ⟨v5,rfl,ho,hb⟩;rw[HN2.out]at ho;obtain⟨g5,c5,rfl,-⟩:=ho.some (by decide);have c0:W5.cell? ⟨g5,0,none⟩=some (.int .i64 5):=ho.cell0 (i:=0) rfl;have c1:W5.cell? ⟨g5,1,none⟩=some (.int .i64 0):=ho.cell1 (i:=0) rfl;have HQ5:=Hd (HQ2.out.below hb);have HB5:=Hd (below_class HB2.out hb);clear ho hb HQ2 HB2 HN2
 go_wp2_with (refine wpList_buildSg rfl _ _ rfl _ (by simp[Act.eval];rfl) _ built_n5 ?_)
 refine (wnow_any HQ5.out).mono ?_;rintro e W6 ⟨rfl,rfl⟩;clear c0 c1
 go_wp2_with fail
 refine (HQ5.out.wc (by decide)).mono ?_;rintro e W7 ⟨g7,rfl,-,hb⟩;have HB7:=Hd (below_class HB5.out hb);clear hb HQ5 HB5;go_wp2;go_ret;exact⟨rfl,HB7.out⟩
theorem built_e4(a:Int):Tryz.prog.built 35 [(0,.int .i64 4),(1,.int .i64 a)]=some #[.int .i64 4,.int .i64 a,.int .i64 0,.bool false,.int .i64 0,.int .i64 0,.int .i64 0,.bool false]:=by kernel_rfl
theorem bits15(t:Int):∃m:Nat,m≤15∧bits .and .i64 t 15=(m:Int):=⟨(t%16).toNat,by omega,by
 have:=i64_mask t 15 4 (by omega) (by decide);rw[this]
 omega⟩
def cn:List (Int×Int)→Nat
 |[]=>0
 |y::N=>(if y.1=2 then 1 else 0)+cn N
theorem cn_app:∀(M N:List (Int×Int)),cn (M++N)=cn M+cn N
 |[],N=>by simp[cn]
 |y::M,N=>by rw[List.cons_append,cn,cn,cn_app M N];omega
theorem cn_le:∀(N:List (Int×Int)),cn N≤N.length
 |[]=>Nat.le_refl _
 |y::N=>by
  have:=cn_le N;rw[cn,List.length_cons];split<;>omega
theorem cn_drop{N:List (Int×Int)}{j:Nat}{y:Int×Int}(h:N[j]?=some y):cn (N.drop j)=(if y.1=2 then 1 else 0)+cn (N.drop (j+1)):=by
 obtain⟨hl,e⟩:=List.getElem?_eq_some_iff.1 h;rw[List.drop_eq_getElem_cons hl,e]
 rfl
theorem cn_old:∀(L:List Nat),cn (L.map fun c:Nat=>((2:Int),(c:Int)))=L.length
 |[]=>rfl
 |c::L=>by rw[List.map_cons,cn,cn_old L,if_pos rfl,List.length_cons];omega
theorem cn_nts(n:Nat):∀(A:List Nat),cn (GM.nts n A)=n*A.length
 |[]=>rfl
 |q::A=>by
  have e:GM.nts n (q::A)=((List.range n).map fun c:Nat=>((2:Int),(c:Int)))++GM.nts n A:=by simp[GM.nts]
  rw[e,cn_app,cn_old,cn_nts n A,List.length_range,List.length_cons,Nat.mul_add_one];omega
theorem nts_two{n:Nat}{A:List Nat}{y:Int×Int}(h:y∈GM.nts n A):y.1=2:=by
 unfold GM.nts at h;obtain⟨_,_,h⟩:=List.mem_flatMap.1 h;obtain⟨_,_,rfl⟩:=List.mem_map.1 h
 rfl
theorem nts_len(n:Nat):∀(A:List Nat),(GM.nts n A).length=n*A.length
 |[]=>rfl
 |q::A=>by
  have e:GM.nts n (q::A)=((List.range n).map fun c:Nat=>((2:Int),(c:Int)))++GM.nts n A:=by simp[GM.nts]
  rw[e,List.length_append,List.length_map,List.length_range,nts_len n A,List.length_cons,Nat.mul_add_one];omega
theorem WN.cn{n:Nat}{A:List Int}{G:Gs}(h:WN n A G):cn G.N=n*A.length∧(∀y∈G.N,y.1=2∨y.1=5)∧G.N.length≤n*A.length+1:=by
 rcases h with e|e
 ·rw[e,cn_nts,nts_len,List.length_map];exact⟨rfl,fun y hy=>.inl (nts_two hy),by omega⟩
 ·rw[e,cn_app,cn_nts,List.length_append,nts_len,List.length_map];refine⟨rfl,fun y hy=> ?_,by simp⟩;rcases List.mem_append.1 hy with hy|hy
  ·exact .inl (nts_two hy)
  ·obtain rfl:=List.mem_singleton.1 hy;exact .inr rfl
def LWw(E:List (Nat×Array Value×TypeId))(cb gb B wb:Nat)(s:St)(n k:Nat)(A:List Int)(W0 W:World):Prop:=(∃G,WQ E cb gb B W wb s n k A G)∧Below W0.heap.size W0 W∧W0.heap.size≤B
section
variable {E:List (Nat×Array Value×TypeId)} {cb gb B wb n k:Nat} {s:St} {A:List Int} {W0 W W':World}
theorem LWw.n8(h:LWw E cb gb B wb s n k A W0 W):n≤8:=by
 obtain⟨⟨G,h⟩,_⟩:=h;obtain⟨⟩:=(rightB_iff s).1 h.r;have:=h.n;omega
theorem LWw.below(h:LWw E cb gb B wb s n k A W0 W)(hb:Below W.heap.size W W'):LWw E cb gb B wb s n k A W0 W':=
 let⟨⟨_,h1⟩,h2,h3⟩:=h
 ⟨⟨_,{h1 with e:=h1.e.below hb}⟩,below_class h2 hb,h3⟩
theorem LWw.tick(h:LWw E cb gb B wb s n k [] W0 W)(hk:k≤99):Calls Tryz.prog 9 #[.pointer (some ⟨wb,0,none⟩),.agg #[.int .i64 8,.int .i64 0,.int .i64 0,.bool false,.int .i64 0,.int .i64 0,.int .i64 0,.bool false]] W fun e w'=>e=.returned (.int .i64 0)∧LWw E cb gb B wb s n (k+1) [] W0 w':=
 let⟨⟨_,h1⟩,h2,h3⟩:=h
 (wdo_tick h1 hk (by simp) (by simp)).mono fun _ _ ⟨he,k1,k2,_⟩=>⟨he,⟨_,k1⟩,h2.trans (k2.mono h3),h3⟩
theorem LWw.last(h:LWw E cb gb B wb s n k A W0 W)(hk:k≤99)(hA:∀z∈A,0≤z∧z.toNat<k)(hl:A.length≤30):Calls Tryz.prog 9 #[.pointer (some ⟨wb,0,none⟩),.agg #[.int .i64 8,.int .i64 0,.int .i64 0,.bool false,.int .i64 0,.int .i64 0,.int .i64 0,.bool false]] W fun e w'=>e=.returned (.int .i64 0)∧∃G,WQ E cb gb B w' wb s n (k+1) [] G∧WN n A G∧Below W0.heap.size W0 w':=
 let⟨⟨_,h1⟩,h2,h3⟩:=h
 (wdo_tick h1 hk hA hl).mono fun _ _ ⟨he,k1,k2,k3,_⟩=>⟨he,_,k1,k3,h2.trans (k2.mono h3)⟩
theorem LWw.again(h:LWw E cb gb B wb s n k A W0 W)(a:Int)(hk:k≤1000)(hl:A.length≤1000):Calls Tryz.prog 9 #[.pointer (some ⟨wb,0,none⟩),.agg #[.int .i64 4,.int .i64 a,.int .i64 0,.bool false,.int .i64 0,.int .i64 0,.int .i64 0,.bool false]] W fun e w'=>e=.returned (.int .i64 (rgR k a))∧LWw E cb gb B wb s n k (rgA k A a) W0 w':=
 let⟨⟨_,h1⟩,h2,h3⟩:=h
 (wdo_again h1.e a hk hl).mono fun _ _ ⟨he,k1,k2⟩=>⟨he,⟨_,⟨k1,h1.q,h1.st,h1.r,h1.n⟩⟩,h2.trans (k2.mono h3),h3⟩
theorem LWw.wc(h:LWw E cb gb B wb s n k A W0 W):Calls Tryz.prog 14 #[.pointer (some ⟨wb,0,none⟩)] W fun e w'=>∃g,e=.returned (.slice (some ⟨g,0,none⟩) n n)∧LWw ((g,(kz n).toArray,48)::E) cb gb B wb s n k A W0 w':=
 have h8:=h.n8
 let⟨⟨_,h1⟩,h2,h3⟩:=h
 (h1.e.wc h8).mono fun _ _ ⟨g,he,k1,k2⟩=>⟨g,he,⟨_,⟨k1,h1.q,h1.st,h1.r,h1.n⟩⟩,below_class h2 k2,h3⟩
theorem LWw.now(h:LWw E cb gb B wb s n k A W0 W):Calls Tryz.prog 16 #[.pointer (some ⟨wb,0,none⟩)] W fun e w'=>e=.returned (.int .i64 (k:Int))∧w'=W:=let⟨⟨_,h1⟩,_⟩:=h;wnow_any h1.e
def LXw(E:List (Nat×Array Value×TypeId))(cb gb B wb:Nat)(s:St)(n k:Nat)(W0:World)(G:Gs)(W:World):Prop:=WQ E cb gb B W wb s n k [] G∧Below W0.heap.size W0 W
theorem LXw.below{G:Gs}(h:LXw E cb gb B wb s n k W0 G W)(hb:Below W.heap.size W W'):LXw E cb gb B wb s n k W0 G W':=⟨{h.1 with e:=h.1.e.below hb},below_class h.2 hb⟩
theorem LXw.wc{G:Gs}(h:LXw E cb gb B wb s n k W0 G W)(h8:n≤8):Calls Tryz.prog 14 #[.pointer (some ⟨wb,0,none⟩)] W fun e w'=>∃g,e=.returned (.slice (some ⟨g,0,none⟩) n n)∧LXw ((g,(kz n).toArray,48)::E) cb gb B wb s n k W0 G w':=
 (h.1.e.wc h8).mono fun _ _ ⟨g,he,k1,k2⟩=>⟨g,he,⟨k1,h.1.q,h.1.st,h.1.r,h.1.n⟩,below_class h.2 k2⟩
theorem LXw.notes{G:Gs}(h:LXw E cb gb B wb s n k W0 G W)(hN:G.N.length≤10000):Calls Tryz.prog 17 #[.pointer (some ⟨gb,0,none⟩)] W fun e w'=>∃v',e=.returned v'∧O2 56 w' W.heap.size v' G.N∧LXw E cb gb B wb s n k W0 G w':=
 (h.1.e.notes hN).mono fun _ _ ⟨v,he,ho,hb⟩=>⟨v,he,ho,h.below hb⟩
theorem LXw.calls{G:Gs}(h:LXw E cb gb B wb s n k W0 G W):Calls Tryz.prog 12 #[.pointer (some ⟨gb,0,none⟩)] W fun e w'=>∃a c,e=.returned (.slice a 0 c)∧Below W0.heap.size W0 w':=
 let⟨_,_,_,h1,_⟩:=h.1.e
 (gw_calls h1.g h.1.q.L).mono fun _ _ ⟨a,c,he,hb⟩=>⟨a,c,he,below_class h.2 hb⟩
theorem LXw.seen{G:Gs}(h:LXw E cb gb B wb s n k W0 G W){i:Nat}(hi:i<n):∃b0 b1 b2 b3 b4:Bool,∃x y:Int,∀X,Below W.heap.size W X→Calls Tryz.prog 15 #[.pointer (some ⟨gb,0,none⟩),.int .i64 (i:Int)] X fun e w'=>e=.returned (.agg #[.bool b0,.bool b1,.bool b2,.bool b3,.bool b4,.int .i64 0,.int .i64 x,.int .i64 y])∧Below X.heap.size X w':=by
 have hm:=h.1.q.ml;obtain⟨m,hm⟩:∃m,G.M[i]?=some m:=⟨_,List.getElem?_eq_getElem (by omega)⟩
 have hs:GM.see G.M (i:Int)=m:=by
  unfold GM.see;rw[if_pos ⟨by omega,by omega⟩,Int.toNat_natCast,hm]
  rfl
 have h0:=(h.1.q.q m (List.mem_of_getElem? hm)).fl;refine⟨m.lv,m.ou,m.mo,m.fa,m.ov,m.tg,m.ph,fun X hX=> ?_⟩;obtain⟨_,_,_,h1,_⟩:=(h.below hX).1.e;have:=gw_seen h1.g (i:Int);rw[hs]at this;unfold sev at this;rw[h0]at this;exact this
theorem LXw.group{G:Gs}(h:LXw E cb gb B wb s n k W0 G W):Calls Tryz.prog 11 #[.pointer (some ⟨wb,0,none⟩)] W fun e w'=>e=.returned (.pointer (some ⟨gb,0,none⟩))∧w'=W:=wgroup_any h.1.e
theorem LXw.row{G:Gs}(h:LXw E cb gb B wb s n k W0 G W){x:Nat×Array Value×TypeId}(hx:x∈E):W.heap[x.1]?=some (.cells x.2.1 x.2.2 (0,0)):=let⟨_,_,_,_,_,h3⟩:=h.1.e;(h3 x hx).1
theorem ixNw(W:World){g m cap j:Nat}(hj:j<m):(Instr.indexAt 53 (.slice (some ⟨g,0,none⟩) m cap) (.int .i64 (j:Int))).run Tryz.prog W=.ok (.pointer (some ⟨g,j*2,none⟩)) W:=by
 rw[run_indexAt_slice W 53 _ m cap .i64 j (by kernel_rfl),if_pos ⟨by omega,by omega⟩,show Tryz.prog.elem 53=56 by kernel_rfl,Tryz.sizeOf56];simp only[Result.andThen_ok,Int.toNat_natCast,Addr.add_mid,Nat.zero_add]
theorem WorldAgain_any(s:St)(t:Int)(va:Value)(l:List Int)(W:World)(hl:RI (fun _=>True) W va l):
  Calls Tryz.prog 4 #[.agg (sv s).toArray,.int .i64 t,va] W fun e w'=>e=.returned (.bool true)∧Below W.heap.size W w':=by
 obtain⟨la,lc,rfl,-⟩:=hl.form;have hb0:=(Below.refl W.heap.size W).alloc (Nat.le_refl _) (.cells (sv s).toArray 23);have HB0:=Hd hb0;have HS0:=Hd (SB.new W s);have HL0:=Hd hl;obtain⟨m,hm15,hand⟩:=bits15 t;clear hb0 hl
 go_enter Tryz.func4,Tryz.ntmps4
 go_wp2_with fail
 refine (speaks17_any _).mono ?_;rintro e W1 ⟨rfl,hb⟩;have HS1:=Hd (HS0.out.below' hb);have HB1:=Hd (below_class HB0.out hb);clear hb HS0 HB0
 go_wp2_with (refine wpList_load23 rfl _ rfl W.heap.size s rfl HS1.out ?_)
 have hr:=rright_any s W1;cases q:rightB s
 ·rw[q]at hr;refine hr.mono ?_;rintro e W2 ⟨rfl,hb⟩;have HB2:=Hd (below_class HB1.out hb);clear hb hr HS1 HB1;go_wp2;go_ret;exact⟨rfl,HB2.out⟩
 ·rw[q]at hr;refine hr.mono ?_;rintro e W2 ⟨rfl,hb⟩;have HS2:=Hd (HS1.out.below' hb);have HB2:=Hd (below_class HB1.out hb);have m11:W2.cell? ⟨W.heap.size,11,none⟩=some (.int .i64 s.bud):=HS2.out.cell 11;have HR:=Hd q;clear hb hr HS1 HB1 q;by_cases q2:2500<s.bud
  ·go_wp2;go_ret;exact⟨rfl,HB2.out⟩
  ·by_cases q3:l.length≤30
   ·have hz3:¬(30:Int)<(l.length:Int):=by omega
    go_wp2_with (refine wpList_load23 rfl _ rfl W.heap.size s rfl HS2.out ?_)
    clear m11 q2 hz3;obtain⟨n,hn⟩:∃n:Nat,(n:Int)=s.ca:=⟨s.ca.toNat,by obtain⟨⟩:=(rightB_iff s).1 HR.out;omega⟩;have HN:=Hd hn;refine (wnew_any HR.out hn W2).mono ?_;rintro e W3 ⟨cb,gb,wb,rfl,hw,hb⟩;have HB3:=Hd (below_class HB2.out hb);have HS3:Hid (∀X,Below W2.heap.size W2 X→SB X W.heap.size s):=fun X hX=>HS2.out.below' hX;have HL:Hid (LWw [] cb gb (W2.heap.size+1) wb s n 0 [] W2 W3):=⟨⟨_,⟨hw,Qg0 hn,rfl,HR.out,hn⟩⟩,hb,Nat.le_succ _⟩;clear hw hb HS2 HB3 hn
    go_wp2_with fail
    go_loopw [9] (fun iv wr=>∃i:Nat,iv=.int .i64 (i:Int)∧i≤m+1∧Hid (LWw [] cb gb (W2.heap.size+1) wb s n i [] W2 wr)) (fun iv _=>m+1-(intOf iv).toNat)
    case atStart=>exact⟨0,rfl,Nat.zero_le _,HL⟩
    case round=>
     clear HL;obtain⟨i,rfl,hi,HL⟩:=hrel;by_cases hlt:i<m+1
     ·have hz:(i:Int)<(m:Int)+1:=by omega
      have HT:=Hd (HL.out.tick (by omega))
      go_wp2_with (refine wpList_buildS rfl _ _ rfl _ (by simp[Act.eval];rfl) _ built_e8 ?_)
      refine HT.out.mono ?_;rintro e X1 ⟨rfl,hL⟩;have HL1:=Hd hL;clear hL HL HT;go_wp2;go_roundw
      case rel=>exact⟨i+1,by go_num,hlt,HL1⟩
      case measure=>simp[intOf];omega
     ·have hz:¬(i:Int)<(m:Int)+1:=by omega
      obtain rfl:i=m+1:=by omega
      go_wp2_with fail
      refine HL.out.wc.mono ?_;rintro e W4 ⟨g,rfl,hL⟩;have HL4:=Hd hL;have HLR:Hid (∀X,Below W2.heap.size W2 X→RI (fun _=>True) X (.slice la l.length lc) l):=fun X hX=>HL0.out.below' (below_class HB2.out hX);obtain⟨K,hK⟩:∃K,m+1=K:=⟨_,rfl⟩;have hK16:K≤16:=by omega
      rw[hK]at HL4;have HCA:Hid (1≤s.ca∧s.ca≤8):=by obtain⟨⟩:=(rightB_iff s).1 HR.out;exact Hd (by omega)
      clear hL HL HL0 hK hz hlt hand hm15
      go_wp2_with fail
      go_loopw [11,58] (fun nv jv wr=>∃(j:Nat) (x:Int) (A:List Int),jv=.int .i64 (j:Int)∧j≤l.length∧nv=.int .i64 x∧0≤x∧x≤8*(j:Int)∧A.length≤j∧Hid (x=s.ca*A.length)∧Hid (∀z∈A,0≤z∧z.toNat<K)∧Hid (LWw [(g,(kz n).toArray,48)] cb gb (W2.heap.size+1) wb s n K A W2 wr)) (fun _ jv _=>l.length-(intOf jv).toNat)
      case atStart=>exact⟨0,0,[],rfl,Nat.zero_le _,rfl,Int.le_refl _,by omega,Nat.zero_le _,by show _=_;simp,by show∀z∈[],_;simp,HL4⟩
      case round=>
       clear HL4;obtain⟨j,x,A,rfl,hj,rfl,hx0,hx1,hAj,HX,HA,HL⟩:=hrel;by_cases hlt:j<l.length
       ·have hz:(j:Int)<(l.length:Int):=by omega
        obtain⟨y,hy⟩:∃y,l[j]?=some y:=⟨_,List.getElem?_eq_getElem hlt⟩;obtain⟨ga,oa,e,hc⟩:=(HLR.out wr HL.out.2.1).at hy;subst e;have hix:∀W:World,(Instr.indexAt 52 (.slice (some ⟨ga,oa,none⟩) l.length lc) (.int .i64 (j:Int))).run Tryz.prog W=.ok (.pointer (some ⟨ga,oa+j,none⟩)) W:=fun W=>ixI W rfl hlt;clear hy;have hag:=HL.out.again y (by omega) (by omega);by_cases qy:1≤y∧y≤(K:Int)
        ·unfold rgR rgA at hag;rw[if_pos qy,if_pos qy]at hag;obtain⟨qa,qb⟩:=qy;have HAG:=Hd hag;clear hag
         go_wp2_with (refine wpList_buildS rfl _ _ rfl _ (by simp[Act.eval];rfl) _ (built_e4 y) ?_)
         refine HAG.out.mono ?_;rintro e X1 ⟨rfl,hL⟩;have HL1:=Hd hL;have c1:X1.cell? ⟨W.heap.size,1,none⟩=some (.int .i64 s.ca):=(HS3.out X1 hL.2.1).cell 1;clear hL HL HAG hc hix
         go_wp2_with fail
         refine HL1.out.now.mono ?_;rintro e X2 ⟨rfl,rfl⟩
         go_wp2_with fail
         refine HL1.out.now.mono ?_;rintro e X3 ⟨rfl,rfl⟩;have hc1:=HCA.out.1;have hc8:=HCA.out.2;go_wp2;go_roundw
         case rel=>
          refine⟨j+1,x+s.ca,A++[(K:Int)-y],by go_num,hlt,by go_num,by omega,by omega,by simp;omega,?_,?_,HL1⟩
          ·show _=_;rw[HX.out,List.length_append,List.length_cons,List.length_nil,Int.natCast_add,Int.mul_add];simp
          ·show∀z∈_,_;intro z hz;rcases List.mem_append.1 hz with hz|hz
           ·exact HA.out z hz
           ·obtain rfl:=List.mem_singleton.1 hz;omega
         case measure=>simp[intOf];omega
        ·unfold rgR rgA at hag;rw[if_neg qy,if_neg qy]at hag;have HAG:=Hd hag;clear hag;by_cases qa:1≤y
         ·have qb:¬y≤(K:Int):=fun h=>qy ⟨qa,h⟩;clear qy
          go_wp2_with (refine wpList_buildS rfl _ _ rfl _ (by simp[Act.eval];rfl) _ (built_e4 y) ?_)
          refine HAG.out.mono ?_;rintro e X1 ⟨rfl,hL⟩;have HL1:=Hd hL;clear hL HL HAG hc hix
          go_wp2_with fail
          refine HL1.out.now.mono ?_;rintro e X2 ⟨rfl,rfl⟩
          go_wp2_with fail
          refine HL1.out.now.mono ?_;rintro e X3 ⟨rfl,rfl⟩;go_wp2;go_roundw
          case rel=>exact⟨j+1,x,A,by go_num,hlt,rfl,hx0,by omega,by omega,HX,HA,HL1⟩
          case measure=>simp[intOf];omega
         ·clear qy
          go_wp2_with (refine wpList_buildS rfl _ _ rfl _ (by simp[Act.eval];rfl) _ (built_e4 y) ?_)
          refine HAG.out.mono ?_;rintro e X1 ⟨rfl,hL⟩;have HL1:=Hd hL;clear hL HL HAG hc hix;go_wp2;go_roundw
          case rel=>exact⟨j+1,x,A,by go_num,hlt,rfl,hx0,by omega,by omega,HX,HA,HL1⟩
          case measure=>simp[intOf];omega
       ·have hz:¬(j:Int)<(l.length:Int):=by omega
        have HLS:=Hd (HL.out.last (by omega) HA.out (by omega));clear HL
        go_wp2_with (refine wpList_buildS rfl _ _ rfl _ (by simp[Act.eval];rfl) _ built_e8 ?_)
        refine HLS.out.mono ?_;rintro e X1 ⟨rfl,G,hq,hwn,hb⟩;obtain⟨hc,htwo,hlen⟩:=hwn.cn;have HX1:Hid (LXw [(g,(kz n).toArray,48)] cb gb (W2.heap.size+1) wb s n (K+1) W2 G X1):=⟨hq,hb⟩
        have HCN:Hid (x=(cn G.N:Int)):=by
         show _=_;rw[HX.out,hc,←HN.out];simp
        have h8:n≤8:=by have:=HN.out;have:=HCA.out;omega
        have hN3:G.N.length≤300:=by
         have:n*A.length≤8*30:=Nat.mul_le_mul h8 (by omega);omega
        have HTW:=Hd htwo;clear hq hwn hb hc htwo hlen HLS HX HA hx0 hx1 hAj hj hz hlt
        go_wp2_with fail
        refine HX1.out.group.mono ?_;rintro e X2 ⟨rfl,rfl⟩
        go_wp2_with fail
        refine (HX1.out.notes (by omega)).mono ?_;rintro e X3 ⟨v3,rfl,ho,hx3⟩;obtain⟨N,hN⟩:∃N,G.N=N:=⟨_,rfl⟩;rw[hN]at ho HCN HTW hN3;have HX3:=Hd hx3;have HO3:=Hd ho
        obtain⟨a3,c3,rfl⟩:∃a c,v3=.slice a N.length c:=by
         rcases ho.form with⟨rfl,hn⟩|⟨g,cap,rfl,_⟩
         ·rw[hn];exact⟨_,_,rfl⟩
         ·exact⟨_,_,rfl⟩
        clear ho hx3 hN HX1
        go_wp2_with fail
        have hx0:0≤x∧x≤1000000:=by
         have:=HCN.out;have:=cn_le N;omega
        go_loopw [11,96] (fun nv jv wr=>∃(j:Nat) (x:Int),jv=.int .i64 (j:Int)∧j≤N.length∧nv=.int .i64 x∧(0≤x∧x≤1000000)∧Hid (x=(cn (N.drop j):Int))∧Hid (O2 56 wr X2.heap.size (.slice a3 N.length c3) N)∧Hid (LXw [(g,(kz n).toArray,48)] cb gb (W2.heap.size+1) wb s n (K+1) W2 G wr)) (fun _ jv _=>N.length-(intOf jv).toNat)
        case atStart=>exact⟨0,x,rfl,Nat.zero_le _,rfl,hx0,HCN,HO3,HX3⟩
        case round=>
         clear HCN HO3 HX3 hx0;obtain⟨j,x,rfl,hj,rfl,hx0,HCN,HO3,HX3⟩:=hrel;by_cases hlt:j<N.length
         ·have hz:(j:Int)<(N.length:Int):=by omega
          obtain⟨y,hy⟩:∃y,N[j]?=some y:=⟨_,List.getElem?_eq_getElem hlt⟩;have hcn:=cn_drop hy;have ho:=HO3.out;rcases ho.form with⟨e1,e2⟩|⟨g3,cap3,e1,_⟩
          ·rw[e2]at hlt;simp at hlt
          cases e1;have c0:wr.cell? ⟨g3,j*2,none⟩=some (.int .i64 y.1):=ho.cell0 hy;have c1:wr.cell? ⟨g3,j*2+1,none⟩=some (.int .i64 y.2):=ho.cell1 hy;have hix:∀W:World,(Instr.indexAt 53 (.slice (some ⟨g3,0,none⟩) N.length c3) (.int .i64 (j:Int))).run Tryz.prog W=.ok (.pointer (some ⟨g3,j*2,none⟩)) W:=fun W=>ixNw W hlt;have hty:=HTW.out y (List.mem_of_getElem? hy);have hxe:x=(cn (N.drop j):Int):=HCN.out;obtain⟨yk,yz⟩:=y;simp only at c0 c1 hty hcn;have HN4:Hid (O2 56 (wr.alloc (.cells #[.int .i64 yk,.int .i64 yz] 56)) X2.heap.size (.slice (some ⟨g3,0,none⟩) N.length c3) N∧LXw [(g,(kz n).toArray,48)] cb gb (W2.heap.size+1) wb s n (K+1) W2 G (wr.alloc (.cells #[.int .i64 yk,.int .i64 yz] 56))):=⟨ho.below' ((Below.refl _ _).alloc (Nat.le_refl _) _),HX3.out.below ((Below.refl _ _).alloc (Nat.le_refl _) _)⟩;clear ho hy HO3 HX3 HCN;rcases hty with rfl|rfl
          ·have hc2:x-1=(cn (N.drop (j+1)):Int):=by rw[hxe,hcn,if_pos rfl];omega
           have hx1:1≤x:=by omega
           have HC2:=Hd hc2;clear hcn hc2 hxe;go_wp2;go_roundw
           case rel=>exact⟨j+1,x-1,by go_num,hlt,by go_num,by omega,HC2,HN4.out.1,HN4.out.2⟩
           case measure=>simp[intOf];omega
          ·have hc2:x=(cn (N.drop (j+1)):Int):=by rw[hxe,hcn,if_neg (by decide)];omega
           have HC2:=Hd hc2;clear hcn hc2 hxe;go_wp2;go_roundw
           case rel=>exact⟨j+1,x,by go_num,hlt,rfl,hx0,HC2,HN4.out.1,HN4.out.2⟩
           case measure=>simp[intOf];omega
         ·have hz:¬(j:Int)<(N.length:Int):=by omega
          have hxz:x=0:=by
           have h1:=HCN.out;rw[List.drop_eq_nil_of_le (by omega)]at h1;exact h1
          subst hxz;clear HCN HO3 hx0 HTW hN3
          go_wp2_with fail
          refine (HX3.out.wc h8).mono ?_;rintro e X4 ⟨g4,rfl,h4⟩;have HX4:=Hd h4;clear h4 HX3 hz hlt hj
          go_wp2_with fail
          go_loopw [112] (fun jv wr=>∃j:Nat,jv=.int .i64 (j:Int)∧j≤n∧Hid (LXw [(g4,(kz n).toArray,48),(g,(kz n).toArray,48)] cb gb (W2.heap.size+1) wb s n (K+1) W2 G wr)) (fun jv _=>n-(intOf jv).toNat)
          case atStart=>exact⟨0,rfl,Nat.zero_le _,HX4⟩
          case round=>
           clear HX4;obtain⟨j,rfl,hj,HX⟩:=hrel;by_cases hlt:j<n
           ·have hz:(j:Int)<(n:Int):=by omega
            have hzk:ZK wr g4 n:=HX.out.row (x:=(g4,(kz n).toArray,48)) (by simp);have c0:wr.cell? ⟨g4,j*8,none⟩=some (.int .i64 0):=hzk.cell hlt (j:=0) (by decide);have c1:wr.cell? ⟨g4,j*8+1,none⟩=some (.int .i64 0):=hzk.cell hlt (by decide);have c2:wr.cell? ⟨g4,j*8+2,none⟩=some (.int .i64 0):=hzk.cell hlt (by decide);have c3':wr.cell? ⟨g4,j*8+3,none⟩=some (.int .i64 0):=hzk.cell hlt (by decide);have c4:wr.cell? ⟨g4,j*8+4,none⟩=some (.int .i64 0):=hzk.cell hlt (by decide);have c5:wr.cell? ⟨g4,j*8+5,none⟩=some (.int .i64 0):=hzk.cell hlt (by decide);have c6:wr.cell? ⟨g4,j*8+6,none⟩=some (.bool false):=hzk.cell hlt (by decide);have c7:wr.cell? ⟨g4,j*8+7,none⟩=some (.bool false):=hzk.cell hlt (by decide);have hix:∀(W:World) (g:Nat),(Instr.indexAt 43 (.slice (some ⟨g,0,none⟩) n n) (.int .i64 (j:Int))).run Tryz.prog W=.ok (.pointer (some ⟨g,j*8,none⟩)) W:=fun W g=>ixKz W hlt;have hal:=(Below.refl wr.heap.size wr).alloc (Nat.le_refl _) (.cells #[.int .i64 0,.int .i64 0,.int .i64 0,.int .i64 0,.int .i64 0,.int .i64 0,.bool false,.bool false] 48);have HXA:=Hd (HX.out.below hal);have HZA:Hid (ZB (wr.alloc (.cells #[.int .i64 0,.int .i64 0,.int .i64 0,.int .i64 0,.int .i64 0,.int .i64 0,.bool false,.bool false] 48)) wr.heap.size):=ZB.new wr rfl;clear hal hzk HX
            go_upto_region 34 with fail
            clear c0 c1 c2 c3' c4 c5 c6 c7;obtain⟨b,hbn⟩:∃b,wr.heap.size=b:=⟨_,rfl⟩;rw[hbn]at HZA⊢;clear hbn;generalize wr.alloc (.cells #[.int .i64 0,.int .i64 0,.int .i64 0,.int .i64 0,.int .i64 0,.int .i64 0,.bool false,.bool false] 48)=T at HXA HZA⊢
            have HT1:Hid (∀w',Below T.heap.size T w'→w'.rangeAt b 0 [.int .i64 0,.int .i64 0,.int .i64 0,.int .i64 0,.int .i64 0,.int .i64 0,.bool false,.bool false]):=fun w' hw k u hu=>by
             rw[Nat.zero_add,(HZA.out.below' hw).cell];simpa using hu
            have HT2:Hid (∀w',Below T.heap.size T w'→w'.rangeAt g (j*8) [.int .i64 0,.int .i64 0,.int .i64 0,.int .i64 0,.int .i64 0,.int .i64 0,.bool false,.bool false]):=fun w' hw=>ZK.range (show ZK w' g n from(HXA.out.below hw).row (x:=(g,(kz n).toArray,48)) (by simp)) hlt;have HT3:Hid (∀w',Below T.heap.size T w'→w'.cell? ⟨b,0,none⟩=some (.int .i64 0)):=fun w' hw=>(HZA.out.below' hw).cell 0;have HGR:Hid (∀w',Below T.heap.size T w'→Calls Tryz.prog 11 #[.pointer (some ⟨wb,0,none⟩)] w' fun e w''=>e=.returned (.pointer (some ⟨gb,0,none⟩))∧Below w'.heap.size w' w''):=fun w' hw=>(HXA.out.below hw).group.mono fun _ _ hh=>⟨hh.1,hh.2▸Below.refl _ _⟩;obtain⟨b0,b1,b2,b3,b4,sx,sy,hse⟩:=HXA.out.seen hlt;have HSE:=Hd hse;have hfd:∀w:World,(Instr.field 50 (.agg #[.bool b0,.bool b1,.bool b2,.bool b3,.bool b4,.int .i64 0,.int .i64 sx,.int .i64 sy]) 5).run Tryz.prog w=.ok (.int .i64 0) w:=fun w=>by kernel_rfl
            clear hse HZA;refine wp_region_quiet (C:=fun w'=>Below T.heap.size T w') (by kernel_rfl) (by kernel_rfl) ((Below.refl _ _).drew) ?_;simp only[];unfold wpQuiet;generalize hK:wpQuiet _ _ _ _ _=K;rw[if_pos (by go_simp)];refine quiet_mid 48 _ _ _ [.int .i64 0,.int .i64 0,.int .i64 0,.int .i64 0,.int .i64 0,.int .i64 0,.bool false,.bool false] Tryz.underlying48 rfl infoZk rfl rfl HT1.out ?_;go_simp;subst hK
            iterate 3 (unfold wpQuiet;generalize hK:wpQuiet _ _ _ _ _=K;go_simp;refine⟨_,fun _ _=>rfl,?_⟩;subst hK)
            unfold wpQuiet;generalize hK:wpQuiet _ _ _ _ _=K;rw[if_pos (by go_simp)];refine quiet_mid 48 _ _ _ [.int .i64 0,.int .i64 0,.int .i64 0,.int .i64 0,.int .i64 0,.int .i64 0,.bool false,.bool false] Tryz.underlying48 rfl infoZk rfl rfl HT2.out ?_;go_simp;subst hK
            iterate 3 (unfold wpQuiet;generalize hK:wpQuiet _ _ _ _ _=K;go_simp;refine⟨_,fun _ _=>rfl,?_⟩;subst hK)
            unfold wpQuiet;generalize hK:wpQuiet _ _ _ _ _=K;go_simp;refine⟨_,fun w' hw=>(HGR.out w' hw).mono fun e w'' hh=>⟨hh.1,below_class hw hh.2⟩,?_⟩;subst hK;unfold wpQuiet;generalize hK:wpQuiet _ _ _ _ _=K;go_simp;refine⟨_,fun _ _=>rfl,?_⟩;subst hK;unfold wpQuiet;generalize hK:wpQuiet _ _ _ _ _=K;go_simp;refine⟨_,fun w' hw=>(HSE.out w' hw).mono fun e w'' hh=>⟨hh.1,below_class hw hh.2⟩,?_⟩;subst hK
            iterate 2 (unfold wpQuiet;generalize hK:wpQuiet _ _ _ _ _=K;go_simp;refine⟨_,fun _ _=>rfl,?_⟩;subst hK)
            unfold wpQuiet;generalize hK:wpQuiet _ _ _ _ _=K;rw[if_pos (by go_simp)];refine quiet_load3 _ _ _ rfl rfl HT3.out ?_;go_simp;subst hK
            iterate 2 (unfold wpQuiet;generalize hK:wpQuiet _ _ _ _ _=K;go_simp;refine⟨_,fun _ _=>rfl,?_⟩;subst hK)
            refine wpQuiet_nil ?_;intro W7 hb7;have HX7:=Hd (HXA.out.below hb7);clear hb7 HT1 HT2 HT3 HGR HSE HXA;go_wp2;go_roundw
            case rel=>exact⟨j+1,by go_num,hlt,HX7⟩
            case measure=>simp[intOf];omega
           ·have hz:¬(j:Int)<(n:Int):=by omega
            go_wp2_with fail
            refine HX.out.group.mono ?_;rintro e X5 ⟨rfl,rfl⟩
            go_wp2_with fail
            refine HX.out.calls.mono ?_;rintro e X6 ⟨a6,c6,rfl,hb⟩;have HB6:=Hd (below_class HB2.out hb);clear hb HX;go_wp2;go_ret;exact⟨rfl,HB6.out⟩
   ·have hz3:(30:Int)<(l.length:Int):=by omega
    go_wp2;go_ret;exact⟨rfl,HB2.out⟩
end
end Go.Proofs.YtlajleogofmkcaaGreat
