import Derived.Test.YtnkelgdnglaafaaGreatQ14
set_option maxHeartbeats 8000000
set_option maxRecDepth 100000
namespace Go.Proofs.YtnkelgdnglaafaaGreat
open Go.RowKit Go.Shelf
section
variable {s:Sn} {c:Int}
theorem Lop.of{o:Option (List Nat)}{mb:Nat}{W w':World}{b:Bool}{r:List Nat}(k:Kp (fun i=>i=mb) W w')(h:RR w' mb r)(ho:o=if b=true then some r else none):Lop o mb W (.returned (.bool b)) w':=by
 refine⟨k,?_⟩;cases b with
 |true=>exact .inl ⟨r,ho,rfl,h⟩
 |false=>exact .inr ⟨ho,rfl⟩
theorem klook_step{f:Nat}(hL:Lok s c f):Lok s c (f+1):=by
 intro W mb n tb g vc vw vt r hm h;have HV0:=Hd (Vz.new h);have HOK:=Hd h.ok;cases r with
 |nil=>
  have HTK:=Hd (ktake_no HV0.out.li.rr (n:=1) (by simp));have HN:=Hd (cvm_nil (c:=c) h.ok);clear h hL hm
  go_enter Tryz.func145,Tryz.ntmps145
  go_wp2_with fail
  refine HTK.out.mono ?_;rintro e W2 ⟨rfl,rfl⟩;go_wp2;go_ret;exact⟨HV0.out.kp,.inr ⟨HN.out,rfl⟩⟩
 |cons m r=>
  have HTK:=Hd (ktake_yes HV0.out.li.rr (n:=1) (by simp));have HEQ:=Hd (cvm_eq (c:=c) (r:=r) h.ok m);have HLF:=Hd (left_nil h.ok);have HLB:=Hd hL;have HM:=Hd hm;obtain⟨o,HO⟩:∃o,Hid (cvm s c n (m::r)=o):=⟨_,Hd rfl⟩;rw[HO.out]at HEQ⊢;clear h hL hm
  go_enter Tryz.func145,Tryz.ntmps145
  go_wp2_with fail
  refine HTK.out.mono ?_;rintro e W2 ⟨a,rfl,hy,hr,hk⟩;have HV2:Hid (Vz W W2 mb s n tb g vc vw vt r):=HV0.out.look hk hr;obtain⟨gb,ob,rfl,hcb⟩:=hy.at (i:=0) (x:=m) rfl;have cb:W2.cell? ⟨gb,ob,none⟩=some (.int .u8 (m:Int)):=hcb;clear hy hr hk HTK HV0 hcb;have hm4:m=0∨m=1∨m=2∨3≤m:=by omega
  rcases hm4 with rfl|rfl|rfl|hm3
  ·have HLE:=Hd (kleast_any HV2.out.li.tr HOK.out HV2.out.li.row);have HN2:=Hd HV2.out.nd;obtain⟨L,HLL⟩:∃L,Hid (lsv s n.k n.b n.st=L):=⟨_,Hd rfl⟩;rw[HLL.out]at HLE HEQ
   go_wp2_with (refine wpList_loadK rfl _ rfl W.heap.size _ rfl HN2.out ?_)
   refine HLE.out.mono ?_;rintro e W3 ⟨rfl,hb3⟩;have HV3:=Hd (HV2.out.next hb3);clear hb3 HV2 HN2 HLE cb;by_cases hle:c≤L
   ·have HR:Hid (o=some r):=by show _=_;rw[HEQ.out];simp[hle]
    have hle':decide (c≤L)=true:=decide_eq_true hle;go_wp2;go_ret;exact⟨HV3.out.kp,.inl ⟨r,HR.out,rfl,HV3.out.li.rr⟩⟩
   ·have HR:Hid (o=none):=by show _=_;rw[HEQ.out];simp[hle]
    have hle':decide (c≤L)=false:=decide_eq_false hle;go_wp2;go_ret;exact⟨HV3.out.kp,.inr ⟨HR.out,rfl⟩⟩
  ·have c3:W2.cell? ⟨W.heap.size,3,none⟩=some (.int .i64 ((PM.lf n.st:Nat):Int)):=HV2.out.nd.cell 3;by_cases hz:PM.lf n.st=0
   ·have HR:Hid (o=none):=by show _=_;rw[HEQ.out];simp[HLF.out.2 hz]
    have hz':¬(0:Int)<((PM.lf n.st:Nat):Int):=by omega
    clear hz;go_wp2;go_ret;exact⟨HV2.out.kp,.inr ⟨HR.out,rfl⟩⟩
   ·have HR:Hid (o=cvb s c n r):=by
     show _=_
     rw[HEQ.out,if_neg (by
      rintro (h|h|h)
      ·omega
      ·exact hz (HLF.out.1 h.2)
      ·omega),if_neg (by simp)]
    have hz':(0:Int)<((PM.lf n.st:Nat):Int):=by omega
    have HBH:=Hd (klookBehind_any HLB.out HM.out HV2.out.li);have HN2:=Hd HV2.out.nd;rw[←HR.out]at HBH;clear hz
    go_wp2_with (refine wpList_loadK rfl _ rfl W.heap.size _ rfl HN2.out ?_)
    refine HBH.out.mono ?_;rintro e W3 ⟨hk3,ho⟩;have HKK:=Hd (HV2.out.kp.trans hk3 (fun _ _ h=>h))
    obtain⟨bb,rfl,HE⟩:∃b,e=.returned (.bool b)∧Hid ((∃r,o=some r∧b=true∧RR W3 mb r)∨(o=none∧b=false)):=by
     rcases ho with⟨r2,h1,rfl,h2⟩|⟨h1,rfl⟩
     ·exact⟨true,rfl,.inl ⟨r2,h1,rfl,h2⟩⟩
     ·exact⟨false,rfl,.inr ⟨h1,rfl⟩⟩
    clear hk3 ho HV2 HN2 HBH cb c3;go_wp2;go_ret;refine⟨HKK.out,?_⟩;rcases HE.out with⟨r2,h1,rfl,h2⟩|⟨h1,rfl⟩
    ·exact .inl ⟨r2,h1,rfl,h2⟩
    ·exact .inr ⟨h1,rfl⟩
  ·have c3:W2.cell? ⟨W.heap.size,3,none⟩=some (.int .i64 ((PM.lf n.st:Nat):Int)):=HV2.out.nd.cell 3;have c2:W2.cell? ⟨W.heap.size,2,none⟩=some (.int .i64 (RM.cst s.st s.ws s.cs n.b)):=HV2.out.nd.cell 2;by_cases hz:PM.lf n.st=0
   ·have hls:=lsv_leaf (k:=n.k) (b:=n.b) (HLF.out.2 hz);obtain⟨L,HLL⟩:∃L,Hid (RM.cst s.st s.ws s.cs n.b=L):=⟨_,Hd rfl⟩;rw[HLL.out]at c2 hls;have hlf:=HLF.out.2 hz
    have HR:Hid (o=if c≤L then some r else none):=by
     show _=_;rw[HEQ.out,hls,if_neg (by simp[hlf]),if_pos (by simp)]
    rw[hz]at c3;clear hz hls hlf;by_cases hle:c≤L
    ·have HR2:Hid (o=some r):=by show _=_;rw[HR.out,if_pos hle]
     have hle':decide (c≤L)=true:=decide_eq_true hle;clear HR hle;go_wp2;go_ret;exact⟨HV2.out.kp,.inl ⟨r,HR2.out,rfl,HV2.out.li.rr⟩⟩
    ·have HR2:Hid (o=none):=by show _=_;rw[HR.out,if_neg hle]
     have hle':decide (c≤L)=false:=decide_eq_false hle;clear HR hle;go_wp2;go_ret;exact⟨HV2.out.kp,.inr ⟨HR2.out,rfl⟩⟩
   ·have HR:Hid (o=none):=by
     show _=_;rw[HEQ.out,if_pos (.inr (.inr ⟨rfl,fun h=>hz (HLF.out.1 h)⟩))]
    have hz':(((PM.lf n.st:Nat):Int)==0)=false:=by simp;omega
    clear hz;go_wp2;go_ret;exact⟨HV2.out.kp,.inr ⟨HR.out,rfl⟩⟩
  ·have HR:Hid (o=none):=by show _=_;rw[HEQ.out,if_pos (.inl (by omega))]
   have q0:((m:Int)==0)=false:=by simp;omega
   have q1:((m:Int)==1)=false:=by simp;omega
   have q2:((m:Int)==2)=false:=by simp;omega
   clear hm3;go_wp2;go_ret;exact⟨HV2.out.kp,.inr ⟨HR.out,rfl⟩⟩
theorem klook_all:∀f,Lok s c f
 |0=>fun W mb n tb g vc vw vt r hm h=>by
  have:=ok_m h.ok;omega
 |f+1=>klook_step (klook_all f)
theorem mrk_cvm(s:Sn)(c:Int)(r:List Nat):mrk s c r=(cvm s c (nd0 s) r==some []):=by
 have e:(nd0 s).m=s.cs.length+s.ws.length:=by
  unfold Nn.m nd0 PM.lf;simp
 unfold mrk cvm;rw[e];rfl
theorem kshows_any{D D':Nat→Prop}{W:World}{tb:Nat}{vc vw vt v:Value}{r:List Nat}(ht:TC D W tb s vc vw vt)(hr:RY D' W v r):
  Calls Tryz.prog 102 #[.pointer (some ⟨tb,0,none⟩),.int .i64 c,.agg #[v]] W fun e w'=>e=.returned (.bool (mrk s c r))∧Below W.heap.size W w':=by
 have hb0:=(Below.refl W.heap.size W).alloc (Nat.le_refl _) (.cells #[v] 181);have HT:=Hd ((ht.mono (D':=fun i=>i≠W.heap.size) fun g _ hl=>by omega).below' hb0);have HRR:Hid (RR (W.alloc (.cells #[v] 181)) W.heap.size r):=⟨v,RB.new W v,(hr.mono fun g _ hl _=>by omega).below' hb0⟩;have HFI:=Hd (kfirst_any HT.out);have HB0:=Hd hb0;have HK0:=Hd (nd0_ok ht.rg);have HMK:=Hd (mrk_cvm s c r);obtain⟨bm,HBM⟩:∃b,Hid (mrk s c r=b):=⟨_,Hd rfl⟩;rw[HBM.out]at HMK⊢;clear ht hr hb0
 go_enter Tryz.func102,Tryz.ntmps102
 go_wp2_with fail
 refine HFI.out.mono ?_;rintro e W2 ⟨g,rfl,hg,hrow,hb2⟩;have hmb:=HRR.out.lt;have HLI:Hid (Lin W2 W.heap.size s (nd0 s) tb g vc vw vt r):=⟨HT.out.below' hb2,HK0.out,hrow,by omega,HRR.out.below' hb2⟩;have HLC:=Hd (klook_all (c:=c) (nd0 s).m W2 W.heap.size (nd0 s) tb g vc vw vt r (Nat.le_refl _) HLI.out);have HB2:=Hd (below_class HB0.out hb2);clear hg hrow hb2 hmb HT HRR HFI HLI HB0
 go_wp2_with fail
 refine HLC.out.mono ?_;rintro e W3 ⟨hk3,ho⟩;have HB3:=Hd (hk3.below HB2.out HB2.out.size (fun i hi e=>by omega));clear hk3 HLC HB2;rcases ho with⟨r2,h1,rfl,h2⟩|⟨h1,rfl⟩
 ·obtain⟨v2,h3,h4⟩:=h2.bl;obtain⟨a2,k2,rfl,_,_,_⟩:=h4.form;have c0:=h3.cell;cases r2 with
  |nil=>
   have HR:Hid (true=bm):=by show _=_;rw[HMK.out,h1];rfl
   clear h1 h2 h3 h4;go_wp2;go_ret;exact⟨ret_bool HR.out,HB3.out⟩
  |cons x r3=>
   have HR:Hid (false=bm):=by show _=_;rw[HMK.out,h1];rfl
   have q:(((r3.length:Nat):Int)+1==0)=false:=by simp;omega
   clear h1 h2 h3 h4;go_wp2;go_ret;exact⟨ret_bool HR.out,HB3.out⟩
 ·have HR:Hid (false=bm):=by show _=_;rw[HMK.out,h1];rfl
  clear h1;go_wp2;go_ret;exact⟨ret_bool HR.out,HB3.out⟩
end
def JB(W:World)(b:Nat)(ok:Bool)(co:Int)(vp:Value):Prop:=W.heap[b]?=some (.cells #[.bool ok,.int .i64 co,vp] 141 (0,0))
section
variable {W W':World} {b:Nat} {vp:Value} {co:Int} {ok:Bool}
theorem JB.lt(H:JB W b ok co vp):b<W.heap.size:=(Array.getElem?_eq_some_iff.1 H).1
theorem JB.below'(H:JB W b ok co vp)(hb:Below W.heap.size W W'):JB W' b ok co vp:=(hb.block b H.lt).trans H
theorem JB.kp{G:Nat→Prop}(H:JB W b ok co vp)(k:Kp G W W')(hG:¬G b):JB W' b ok co vp:=(k.block b H.lt hG).trans H
theorem JB.new(W:World)(ok:Bool)(co:Int)(vp:Value):JB (W.alloc (.cells #[.bool ok,.int .i64 co,vp] 141)) W.heap.size ok co vp:=World.alloc_heap_new W _
theorem JB.cell(H:JB W b ok co vp)(i:Nat):W.cell? ⟨b,i,none⟩=[Value.bool ok,.int .i64 co,vp][i]?:=blk_cell H i
theorem JB.fr(H:JB W b ok co vp)(i:Nat):W.frozen? ⟨b,i,none⟩=false:=blk_fr H i
end
theorem infoJ:(Tryz.prog.info? 141).map (·.size)=some 3:=by kernel_rfl
theorem kp_rowJ(w:World)(b:Nat)(cs:Array Value):Kp (fun k=>k=b) w (w.setRow b cs):=⟨rfl,rfl,rfl,by simp[World.setRow],fun k _ hk=>setRow_other w b k cs hk⟩
theorem wpList_storeJ{ops:Array Oper}{rest:List Oper}{op:Oper}{a:Act}{w:World}{Q:Exit→Act→World→Prop}(hgd:op.guard=none)(x y:Operand)(ho:op.op=.store 141 x y)
  (b:Nat) {vp:Value} {co:Int} {ok:Bool} {a1:Option Addr} {n1 c1:Nat} {co':Int} {ok':Bool} (hx:a.eval x=.pointer (some ⟨b,0,none⟩)) (hy:a.eval y=.agg #[.bool ok',.int .i64 co',.slice a1 n1 c1]) (hL:JB w b ok co vp)
  (hn:∀W',Kp (fun k=>k=b) w W'→JB W' b ok' co' (.slice a1 n1 c1)→wpList Tryz.prog ops Q rest (a.put op.dst undef) W'):wpList Tryz.prog ops Q (op::rest) a w:=
 wpList_store_row hgd 141 x y ho b _ hx hy _ _ hL infoJ rfl (by simp[Value.oneCell']) (hn _ (kp_rowJ w b _) (setRow_heap w b _ _ _ _ hL))
theorem wpList_loadJ{ops:Array Oper}{rest:List Oper}{op:Oper}{a:Act}{w:World}{Q:Exit→Act→World→Prop}(hgd:op.guard=none)(x:Operand)(ho:op.op=.load 141 x)(b:Nat){vp:Value}{co:Int}{ok:Bool}(hx:a.eval x=.pointer (some ⟨b,0,none⟩))(H:JB w b ok co vp)
  (hn:wpList Tryz.prog ops Q rest (a.put op.dst (.agg #[.bool ok,.int .i64 co,vp])) w):wpList Tryz.prog ops Q (op::rest) a w:=
 wpList_load_row hgd 141 x ho b hx _ _ _ _ H Tryz.underlying141 rfl infoJ hn
theorem retJ2{fn:Func}{p t:Tmp}(hf:fn.results= #[.cell p 141,.tmp t]){tmps:Array Value}{w:World}{b:Nat}{vp:Value}{co:Int}{ok:Bool}{u:Value}(hp:tmps.getD p undef=.pointer (some ⟨b,0,none⟩))(ht:tmps.getD t undef=u)(H:JB w b ok co vp):
  (results fn tmps).run Tryz.prog w=.ok (.tuple #[.agg #[.bool ok,.int .i64 co,vp],u]) w:=by
 have hp':tmps[p]?.getD undef=.pointer (some ⟨b,0,none⟩):=by simpa using hp
 have ht':tmps[t]?.getD undef=u:=by simpa using ht
 have H':w.heap[b]?=some (.cells #[.bool ok,.int .i64 co,vp] 141 (0,0)):=H;simp[results,hf,hp',ht',asAddr,run_loadVar_row w b 141 141 _ _ _ H' Tryz.underlying141 rfl infoJ]
theorem rdk_len{b:List Nat}(hb:Byt b):∀{k a:Nat} {p:List (List Int)},rdk b k=some (p,a)→∀l∈p,l.length≤255
 |0,a,p,h=>by
  cases h;intro l hl;simp at hl
 |k+1,a,p,h=>by
  cases hk:rdk b k with
  |none=>rw[show rdk b (k+1)=(rdk b k).bind (rds b)from rfl,hk]at h;cases h
  |some x=>
   obtain⟨q,c⟩:=x;have ih:=rdk_len hb hk;cases hc:b[c]? with
   |none=>rw[rdk_out hk (by rw[List.getElem?_eq_none_iff]at hc;exact hc)]at h;cases h
   |some n=>
    by_cases hn:b.length<c+1+n
    ·rw[rdk_long hk hc hn]at h;cases h
    ·rw[rdk_next hk hc (by omega)]at h;cases h;intro l hl;rw[List.mem_append,List.mem_singleton]at hl;rcases hl with hl|hl
     ·exact ih l hl
     ·have:=hb n (List.mem_of_getElem? hc);rw[hl,List.length_map,List.length_take];omega
theorem rdc_some{n:Nat}{b:List Nat}{c:Clm}{a:Nat}(h:rdc n b=some (c,a)):9≤b.length∧rdk b n=some (c.plan,a):=by
 unfold rdc at h;split at h
 ·cases h
 ·rename_i hno;cases hk:rdk b n with
  |none=>rw[hk]at h;cases h
  |some x=>
   obtain⟨p,a'⟩:=x;rw[hk]at h;dsimp only at h;split at h
   ·cases h;exact⟨by omega,rfl⟩
   ·cases h
structure CkP(s:Sn)(b:List Nat)(w:World)(e:Ending)(w':World):Prop where
 bel:Below w.heap.size w w'
 out:∃vp,e=.returned (.tuple #[.agg #[.bool (ckw s b).2.best,.int .i64 (ckw s b).2.cost,vp],.int .i64 ((ckw s b).1:Int)])∧RL (fun g=>w.heap.size≤g) w' vp (ckw s b).2.plan
theorem CkP.no{s:Sn}{b:List Nat}{w w':World}{n:Nat}(h:ckw s b=(n,clm0))(hb:Below w.heap.size w w'):CkP s b w (.returned (.tuple #[.agg #[.bool false,.int .i64 0,.slice none 0 0],.int .i64 (n:Int)])) w':=⟨hb,.slice none 0 0,by rw[h];rfl,by rw[h];exact RL.nil _ _⟩
theorem CkP.yes{s:Sn}{b:List Nat}{w w':World}{vp:Value}{c:Clm}(h:ckw s b=(0,c))(hb:Below w.heap.size w w')(hr:RL (fun g=>w.heap.size≤g) w' vp c.plan):CkP s b w (.returned (.tuple #[.agg #[.bool c.best,.int .i64 c.cost,vp],.int .i64 0])) w':=⟨hb,vp,by rw[h];rfl,by rw[h];exact hr⟩
def ben(l:List Nat):Nat:=l.foldl (fun a x=>a*256+x) 0
theorem ben_snoc(l:List Nat)(x:Nat):ben (l++[x])=ben l*256+x:=by unfold ben;rw[List.foldl_append];rfl
theorem ben_be(l:List Nat):be l=(ben l:Int):=by
 unfold be ben
 have:∀(l:List Nat) (a:Nat),l.foldl (fun a (x:Nat)=>256*a+(x:Int)) (a:Int)=((l.foldl (fun a x=>a*256+x) a:Nat):Int):=by
  intro l
  induction l with
  |nil=>intro a;rfl
  |cons x l ih=>
   intro a;rw[List.foldl_cons,List.foldl_cons,←ih]
   congr 1
   omega
 exact this l 0
theorem ben_lt{l:List Nat}(hl:Byt l):∀k,k≤l.length→ben (l.take k)<256^k
 |0,_=>by simp[ben]
 |k+1,h=>by
  obtain⟨x,hx⟩:∃x,l[k]?=some x:=⟨_,List.getElem?_eq_getElem (by omega)⟩;have ih:=ben_lt hl k (by omega);have:=hl x (List.mem_of_getElem? hx);rw[take_snoc hx,ben_snoc,Nat.pow_succ];omega
theorem or8(x y:Nat)(hy:y<256)(hx:x<72057594037927936):bits .or .u64 ((x:Int)*256) (y:Int)=((x*256+y:Nat):Int):=by
 have h1:(x*256)|||y=x*256+y:=by
  have:=Nat.two_pow_add_eq_or_of_lt (i:=8) hy x;rw[show 2^8*x=x*256 by omega]at this;exact this.symm
 rw[show(x:Int)*256=((x*256:Nat):Int) by omega];show IntKind.u64.wrap ((BitVec.ofInt 64 ((x*256:Nat):Int)|||BitVec.ofInt 64 (y:Int)).toNat:Nat)=_;rw[BitVec.toNat_or,BitVec.ofInt_natCast,BitVec.ofInt_natCast,BitVec.toNat_ofNat,BitVec.toNat_ofNat,Nat.mod_eq_of_lt (by omega),Nat.mod_eq_of_lt (by omega),h1,IntKind.wrap_u64];omega
section
variable {W:World} {b:Nat} {r:List Nat}
theorem kcostr_short(h:RR W b r)(hn:r.length<8):Calls Tryz.prog 136 #[.pointer (some ⟨b,0,none⟩)] W fun e w'=>e=.returned (.tuple #[.int .i64 0,.bool false])∧Kp (fun i=>i=b) W w':=by
 have HTK:=Hd (ktake_no h (n:=8) hn);clear h hn
 go_enter Tryz.func136,Tryz.ntmps136
 go_wp2_with fail
 refine HTK.out.mono ?_;rintro e W2 ⟨rfl,rfl⟩
 go_wp2_with fail
 go_loopw [6,16] (fun cv iv wr=>cv=.int .u64 0∧iv=.int .i64 0∧Hid (wr=W2)) (fun _ _ _=>0)
 case atStart=>exact⟨rfl,rfl,rfl⟩
 case round=>
  obtain⟨rfl,rfl,HW⟩:=hrel;go_wp2
  go_ret2
  exact⟨rfl,by rw[HW.out];exact Kp.refl _ _⟩
structure Rz3(W wr:World)(b:Nat)(a:Option Addr)(r:List Nat):Prop where
 by8:RY (fun g=>g<b) wr (.slice a 8 8) (r.take 8)
 rr:RR wr b (r.drop 8)
 kp:Kp (fun i=>i=b) W wr
theorem kcostr_any(h:RR W b r)(hn:8≤r.length):Calls Tryz.prog 136 #[.pointer (some ⟨b,0,none⟩)] W fun e w'=>Kp (fun i=>i=b) W w'∧((1099511627776<be (r.take 8)∧e=.returned (.tuple #[.int .i64 0,.bool false]))∨(be (r.take 8)≤1099511627776∧e=.returned (.tuple #[.int .i64 (be (r.take 8)),.bool true])∧RR w' b (r.drop 8))):=by
 have HTK:=Hd (ktake_yes h (n:=8) hn);have HBY:=Hd (h.byt.take 8);have HL8:Hid ((r.take 8).length=8):=by show _=_;rw[List.length_take];omega
 rw[ben_be];clear h hn
 go_enter Tryz.func136,Tryz.ntmps136
 go_wp2_with fail
 refine HTK.out.mono ?_;rintro e W2 ⟨a,rfl,h1,h2,h3⟩;have HZ0:Hid (Rz3 W W2 b a r):=⟨h1,h2,h3⟩;clear h1 h2 h3 HTK;generalize hl:r.take 8=l at HBY HL8;have HL:=Hd hl;clear hl
 go_wp2_with fail
 go_loopw [6,16] (fun cv iv wr=>∃i:Nat,i≤8∧cv=.int .u64 (ben (l.take i):Int)∧iv=.int .i64 (i:Int)∧Hid (Rz3 W wr b a r)) (fun _ iv _=>8-(intOf iv).toNat)
 case atStart=>exact⟨0,by omega,rfl,rfl,HZ0⟩
 case round=>
  clear HZ0;obtain⟨i,hi,rfl,rfl,HZ⟩:=hrel;by_cases hlt:i<8
  ·have hiz:(i:Int)<8:=by omega
   obtain⟨x,hx⟩:∃x,l[i]?=some x:=⟨_,List.getElem?_eq_getElem (by rw[HL8.out];exact hlt)⟩;have hb:=HZ.out.by8;rw[HL.out]at hb;obtain⟨g,o,ha,hc⟩:=hb.at hx;subst ha;have hxb:x<256:=HBY.out x (List.mem_of_getElem? hx)
   have hlt56:ben (l.take i)<72057594037927936:=by
    have h1:=ben_lt HBY.out i (by rw[HL8.out];omega);have h2:256^i≤256^7:=Nat.pow_le_pow_right (by omega) (by omega);have h3:(256:Nat)^7=72057594037927936:=by decide
    omega
   have HNX:Hid (ben (l.take (i+1))=ben (l.take i)*256+x):=by show _=_;rw[take_snoc hx,ben_snoc]
   have hsh:IntKind.u64.wrap ((ben (l.take i):Int)*256)=(ben (l.take i):Int)*256:=by rw[IntKind.wrap_u64];omega
   have hor:=or8 (ben (l.take i)) x hxb hlt56;have hwx:IntKind.u64.wrap (x:Int)=(x:Int):=by rw[IntKind.wrap_u64];omega
   rw[←HNX.out]at hor;generalize ben (l.take i)=c at hsh hor;generalize hd:ben (l.take (i+1))=d at hor;have HD:=Hd hd.symm;clear hx hb hlt56 hxb HNX hd;go_wp2;go_roundw
   case rel=>exact⟨i+1,by omega,by rw[HD.out],by go_num,HZ⟩
   case measure=>simp[intOf];omega
  ·have hiz:¬(i:Int)<8:=by omega
   have hie:l.take i=l:=List.take_of_length_le (by rw[HL8.out];omega);rw[hie];by_cases hbig:1099511627776<ben l
   ·have q:(1099511627776:Int)<(ben l:Int):=by omega
    clear hie;go_wp2
    go_ret2
    exact⟨HZ.out.kp,.inl ⟨by rw[HL.out];exact q,rfl⟩⟩
   ·have q:¬(1099511627776:Int)<(ben l:Int):=by omega
    have hw:IntKind.i64.wrap (ben l:Int)=(ben l:Int):=IntWalk.i64_in _ (by omega);have HQ:Hid ((ben l:Int)≤1099511627776):=by show _≤_;omega
    clear hie hbig;go_wp2
    go_ret2
    exact⟨HZ.out.kp,.inr ⟨by rw[HL.out];exact HQ.out,by rw[HL.out];rfl,HZ.out.rr⟩⟩
end
def lrd(r:List Nat)(n i:Nat):List Int:=((r.take i).map fun (x:Nat)=>(x:Int))++List.replicate (n-i) 0
theorem lrd_zero(r:List Nat)(n:Nat):lrd r n 0=List.replicate n 0:=by simp[lrd]
theorem lrd_end(r:List Nat)(n:Nat):lrd r n n=(r.take n).map fun (x:Nat)=>(x:Int):=by simp[lrd]
theorem lrd_at{r:List Nat}{n i:Nat}(hi:i<n)(hr:n≤r.length):(lrd r n i)[i]?=some 0:=by
 unfold lrd;rw[List.getElem?_append_right (by simp;omega),List.getElem?_replicate,if_pos (by simp;omega)]
theorem lrd_succ{r:List Nat}{n i x:Nat}(hi:i<n)(hr:n≤r.length)(hx:r[i]?=some x):(lrd r n i).set i (x:Int)=lrd r n (i+1):=by
 unfold lrd;rw[List.set_append_right _ _ (by simp;omega),take_snoc hx,List.map_append,List.append_assoc];have e:i-((r.take i).map fun (x:Nat)=>(x:Int)).length=0:=by simp;omega
 rw[e,show n-i=(n-(i+1))+1 by omega,List.replicate_succ,List.set_cons_zero]
 rfl
structure Lz4(W wr:World)(b g n:Nat)(a:Option Addr)(r:List Nat)(i:Nat):Prop where
 oi:OI wr W.heap.size (.slice (some ⟨g,0,none⟩) n n) (lrd r n i)
 ry:RY (fun k=>k<g) wr (.slice a n n) (r.take n)
 rr:RR wr b (r.drop n)
 kp:Kp (fun i=>i=b) W wr
 g1:W.heap.size≤g
section
variable {W:World} {b:Nat} {r:List Nat}
theorem Lz4.put{wr:World}{g n i x:Nat}{a:Option Addr}(h:Lz4 W wr b g n a r i)(hi:i<n)(hr:n≤r.length)(hx:r[i]?=some x)(hb:b<W.heap.size):Lz4 W (wr.setCell ⟨g,i,none⟩ (.int .i64 (x:Int))) b g n a r (i+1):=by
 have kp:Kp (fun k=>k=g) wr (wr.setCell ⟨g,i,none⟩ (.int .i64 (x:Int))):=(Kp.refl (fun k=>k=g) wr).set _ _ _ (fun _=>rfl);have h1:=h.oi.put i (x:Int);rw[lrd_succ hi hr hx]at h1;have hg:=h.g1;exact⟨h1,h.ry.keep kp.size fun k hk hlt=>kp.block k hlt (by omega),h.rr.far kp (fun i e=>by omega),h.kp.set _ _ _ (fun h=>by omega),hg⟩
theorem klist_nil(h:RR W b []):Calls Tryz.prog 137 #[.pointer (some ⟨b,0,none⟩)] W fun e w'=>(∃a k c,e=.returned (.tuple #[.slice a k c,.bool false]))∧Kp (fun i=>i=b) W w':=by
 have HTK:=Hd (ktake_no h (n:=1) (by simp));clear h
 go_enter Tryz.func137,Tryz.ntmps137
 go_wp2_with fail
 refine HTK.out.mono ?_;rintro e W2 ⟨rfl,rfl⟩;go_wp2
 go_ret2
 exact⟨⟨_,_,_,rfl⟩,Kp.refl _ _⟩
theorem klist_short{n:Nat}(h:RR W b (n::r))(hn:r.length<n):Calls Tryz.prog 137 #[.pointer (some ⟨b,0,none⟩)] W fun e w'=>(∃a k c,e=.returned (.tuple #[.slice a k c,.bool false]))∧Kp (fun i=>i=b) W w':=by
 have HTK:=Hd (ktake_yes h (n:=1) (by simp));have hw:=i64_byt (h.byt n (by simp));clear h
 go_enter Tryz.func137,Tryz.ntmps137
 go_wp2_with fail
 refine HTK.out.mono ?_;rintro e W2 ⟨a,rfl,h1,h2,h3⟩;obtain⟨g,o,rfl,hc⟩:=h1.at (i:=0) (x:=n) rfl;have c0:W2.cell? ⟨g,o,none⟩=some (.int .u8 (n:Int)):=hc;have HTK2:=Hd (ktake_no h2 hn);have HK:=Hd h3;clear h1 h2 h3 hc HTK
 go_wp2_with fail
 refine HTK2.out.mono ?_;rintro e W3 ⟨rfl,rfl⟩;have hmk:∀W:World,(Instr.makeSlice 90 (.int .i64 0) (.int .i64 0)).run Tryz.prog W=.ok (.slice (some ⟨W.heap.size,0,none⟩) 0 0) (W.alloc (.cells #[] 3)):=fun W=>mkI 0 (by omega) W;have HK2:Hid (Kp (fun i=>i=b) W (W3.alloc (.cells #[] 3))):=HK.out.alloc _
 go_wp2_with fail
 generalize W3.alloc (.cells #[] 3)=W4 at HK2⊢
 go_loopw [31] (fun iv wr=>iv=.int .i64 0∧Hid (wr=W4)) (fun _ _=>0)
 case atStart=>exact⟨rfl,rfl⟩
 case round=>
  obtain⟨rfl,HW⟩:=hrel;go_wp2
  go_ret2
  exact⟨⟨_,_,_,rfl⟩,by rw[HW.out];exact HK2.out⟩
theorem klist_yes{n:Nat}(h:RR W b (n::r))(hn:n≤r.length):Calls Tryz.prog 137 #[.pointer (some ⟨b,0,none⟩)] W fun e w'=>∃g,e=.returned (.tuple #[.slice (some ⟨g,0,none⟩) n n,.bool true])∧W.heap.size≤g∧RI (fun k=>k=g) w' (.slice (some ⟨g,0,none⟩) n n) ((r.take n).map fun (x:Nat)=>(x:Int))∧RR w' b (r.drop n)∧Kp (fun i=>i=b) W w':=by
 have HTK:=Hd (ktake_yes h (n:=1) (by simp));have hn8:=h.byt n (by simp);have hw:=i64_byt hn8;have hbl:=h.lt;have HBY:Hid (Byt r):=fun x hx=>h.byt x (by simp[hx]);clear h
 go_enter Tryz.func137,Tryz.ntmps137
 go_wp2_with fail
 refine HTK.out.mono ?_;rintro e W2 ⟨a,rfl,h1,h2,h3⟩;obtain⟨g,o,rfl,hc⟩:=h1.at (i:=0) (x:=n) rfl;have c0:W2.cell? ⟨g,o,none⟩=some (.int .u8 (n:Int)):=hc;have h2:RR W2 b r:=h2;have HTK2:=Hd (ktake_yes h2 hn);have HK:=Hd h3;clear h1 h2 h3 hc HTK
 go_wp2_with fail
 refine HTK2.out.mono ?_;rintro e W3 ⟨a2,rfl,h1,h2,h3⟩;have HK3:=Hd (HK.out.trans h3 (fun _ _ h=>h));have hmk:=mkI n (by omega);have hbA:=(Below.refl W3.heap.size W3).alloc (Nat.le_refl _) (.cells (List.replicate n (Value.int .i64 0)).toArray 3);have hic:ic (List.replicate n 0)=List.replicate n (Value.int .i64 0):=by unfold ic;rw[List.map_replicate]
 have HZ0:Hid (Lz4 W (W3.alloc (.cells (List.replicate n (Value.int .i64 0)).toArray 3)) b W3.heap.size n a2 r 0):=by
  have h4:=OI.lit (B:=W.heap.size) W3 (List.replicate n 0) HK3.out.size (by simp;unfold maxLen;omega);rw[hic,List.length_replicate]at h4;refine⟨by rw[lrd_zero];exact h4,?_,h2.below' hbA,HK3.out.alloc _,HK3.out.size⟩;exact(h1.mono fun k hk hlt _=>hlt).below' hbA
 clear h1 h2 h3 hbA hic HK HK3 HTK2 c0
 go_wp2_with fail
 clear hmk;rw[List.toArray_replicate]at HZ0;generalize W3.alloc (.cells (Array.replicate n (Value.int .i64 0)) 3)=W4 at HZ0⊢;generalize W3.heap.size=gl at HZ0⊢
 go_loopw [31] (fun iv wr=>∃i:Nat,i≤n∧iv=.int .i64 (i:Int)∧Hid (Lz4 W wr b gl n a2 r i)) (fun iv _=>n-(intOf iv).toNat)
 case atStart=>exact⟨0,by omega,rfl,HZ0⟩
 case round=>
  clear HZ0;obtain⟨i,hi,rfl,HZ⟩:=hrel;by_cases hlt:i<n
  ·have hiz:(i:Int)<(n:Int):=by omega
   obtain⟨x,hx⟩:∃x,r[i]?=some x:=⟨_,List.getElem?_eq_getElem (by omega)⟩;have hxt:(r.take n)[i]?=some x:=by rw[List.getElem?_take,if_pos hlt];exact hx
   obtain⟨gy,oy,ha,hc⟩:=HZ.out.ry.at hxt;subst ha;have hwx:=i64_byt (HBY.out x (List.mem_of_getElem? hx));have d0:wr.cell? ⟨gl,i,none⟩=some (.int .i64 0):=HZ.out.oi.cell (lrd_at hlt hn);have f0:=HZ.out.oi.fr i;have HZ2:=Hd (HZ.out.put hlt hn hx hbl);clear hx hxt HZ;go_wp2;go_roundw
   case rel=>exact⟨i+1,by omega,by go_num,HZ2⟩
   case measure=>simp[intOf];omega
  ·have hiz:¬(i:Int)<(n:Int):=by omega
   have hie:i=n:=by omega
   rw[hie]at HZ;have ho:=HZ.out.oi;rw[lrd_end,List.map_take]at ho;have HO:=Hd ho;clear hie ho;go_wp2
   go_ret2
   exact⟨gl,rfl,HZ.out.g1,HO.out.ri fun k hk=>by simpa[Value.ownBlock]using hk.symm,HZ.out.rr,HZ.out.kp⟩
end
theorem rdn_short{n:Nat}{b:List Nat}(h:b.length<9∨1<b[0]?.getD 0∨1099511627776<be ((b.drop 1).take 8)):rdc n b=none:=by
 unfold rdc;rw[if_pos h]
theorem rdn_lists{n:Nat}{b:List Nat}(h:rdk b n=none):rdc n b=none:=by
 unfold rdc;rw[h];split<;>rfl
structure PQ(W:World)(B g n:Nat)(us:List Value)(p:List (List Int)):Prop where
 hl:W.heap[g]?=some (.cells us.toArray 90 (0,0))
 len:us.length=n
 bg:B≤g
 li:∀(i:Nat) u l,us[i]?=some u→p[i]?=some l→RI (fun k=>B≤k∧k≠g) W u l
section
variable {W W':World} {B g n:Nat} {us:List Value} {p:List (List Int)}
theorem PQ.lt(h:PQ W B g n us p):g<W.heap.size:=(Array.getElem?_eq_some_iff.1 h.hl).1
theorem PQ.keep(h:PQ W B g n us p)(hs:W.heap.size≤W'.heap.size)(hk:∀k,B≤k→k<W.heap.size→W'.heap[k]?=W.heap[k]?):PQ W' B g n us p:=
 ⟨(hk g h.bg h.lt).trans h.hl,h.len,h.bg,fun i u l hu hl=>(h.li i u l hu hl).keep hs fun k hk' hlt=>hk k hk'.1 hlt⟩
theorem PQ.below'(h:PQ W B g n us p)(hb:Below W.heap.size W W'):PQ W' B g n us p:=h.keep hb.size fun k _ hlt=>hb.block k hlt
theorem PQ.kp{G:Nat→Prop}(h:PQ W B g n us p)(k:Kp G W W')(hG:∀i,G i→i<B):PQ W' B g n us p:=h.keep k.size fun i hi hlt=>k.block i hlt (fun e=>by have:=hG i e;omega)
theorem PQ.put(h:PQ W B g n us p){c:Nat}(hc:c=p.length)(hcn:c<n){u:Value}{l:List Int}(hu:RI (fun k=>B≤k∧k≠g) W u l):PQ (W.setCell ⟨g,c,none⟩ u) B g n (us.set c u) (p++[l]):=by
 have keep:∀j,j≠g→(W.setCell ⟨g,c,none⟩ u).heap[j]?=W.heap[j]?:=fun j hj=>Below.heap_setCell W ⟨g,c,none⟩ u j hj;refine⟨blk_set h.hl c u,by rw[List.length_set];exact h.len,h.bg,fun i v m hv hm=> ?_⟩;by_cases e:c=i
 ·subst e;rw[List.getElem?_set_self (by rw[h.len];exact hcn)]at hv;rw[List.getElem?_append_right (by omega),show c-p.length=0 by omega]at hm;cases hv;cases hm;exact hu.keep (by simp[World.setCell]) fun k hk _=>keep k hk.2
 ·rw[List.getElem?_set_ne e]at hv
  have hi:i<p.length:=by
   have:=(List.getElem?_eq_some_iff.1 hm).1;rw[List.length_append]at this;simp at this;omega
  rw[List.getElem?_append_left hi]at hm;exact(h.li i v m hv hm).keep (by simp[World.setCell]) fun k hk _=>keep k hk.2
theorem PQ.rl(h:PQ W B g n us p)(hn:p.length=n):RL (fun k=>B≤k) W (.slice (some ⟨g,0,none⟩) n n) p:=by
 subst hn;refine⟨_,_,rfl,Nat.le_refl _,(fun e=>by cases e),.inr ⟨g,0,rfl,h.bg,h.lt,fun i l hl=> ?_⟩⟩;have hi:i<p.length:=(List.getElem?_eq_some_iff.1 hl).1;obtain⟨u,hu⟩:∃u,us[i]?=some u:=⟨_,List.getElem?_eq_getElem (by rw[h.len];exact hi)⟩;exact⟨u,by rw[Nat.zero_add];exact(blk_cell h.hl i).trans hu,(h.li i u l hu hl).mono fun k hk _ _=>hk.1⟩
end
theorem klist_all{W:World}{b:Nat}{r:List Nat}(h:RR W b r):Calls Tryz.prog 137 #[.pointer (some ⟨b,0,none⟩)] W fun e w'=>∃a k c ok,e=.returned (.tuple #[.slice a k c,.bool ok])∧Kp (fun i=>i=b) W w'∧
  ((ok=false∧(r=[]∨∃n r1,r=n::r1∧r1.length<n))∨(ok=true∧∃n r1,r=n::r1∧n≤r1.length∧RI (fun k=>W.heap.size≤k) w' (.slice a k c) ((r1.take n).map fun (x:Nat)=>(x:Int))∧RR w' b (r1.drop n))):=by
 cases r with
 |nil=>
  refine (klist_nil h).mono fun e w' hh=> ?_;obtain⟨⟨a,k,c,rfl⟩,hk⟩:=hh;exact⟨a,k,c,false,rfl,hk,.inl ⟨rfl,.inl rfl⟩⟩
 |cons n r1=>
  by_cases hn:n≤r1.length
  ·refine (klist_yes h hn).mono fun e w' hh=> ?_;obtain⟨g,rfl,h1,h2,h3,h4⟩:=hh;exact⟨_,_,_,true,rfl,h4,.inr ⟨rfl,n,r1,rfl,hn,h2.mono (fun k hk _ _=>by omega),h3⟩⟩
  ·refine (klist_short h (by omega)).mono fun e w' hh=> ?_;obtain⟨⟨a,k,c,rfl⟩,hk⟩:=hh;exact⟨a,k,c,false,rfl,hk,.inl ⟨rfl,.inr ⟨n,r1,rfl,by omega⟩⟩⟩
theorem built_jb(ok:Bool)(co:Int)(a:Option Addr)(n c:Nat):Tryz.prog.built 141 [(0,.bool ok),(1,.int .i64 co),(2,.slice a n c)]=some #[.bool ok,.int .i64 co,.slice a n c]:=by kernel_rfl
section
variable {ops:Array Oper} {Q:Exit→Act→World→Prop} {i:Nat} {o:Oper} {K:Act→World→Prop} {a:Act} {w:World}
theorem wpOp_mkL(hi:ops[i]?=some o)(hw:Region.wanted o (yielded ops a.tmps)=true)(x y:Operand)(ho:o.op=.makeSlice 104 x y)(n:Nat)(hn:n≤1000)(hx:a.eval x=.int .i64 (n:Int))(hy:a.eval y=.int .i64 (n:Int))
  (h:K (a.put o.dst (.slice (some ⟨w.heap.size,0,none⟩) n n)) (w.alloc (.cells (List.replicate n (Value.slice none 0 0)).toArray 90))):wpOp Tryz.prog ops Q i K a w:=
 wpOp_val hi hw (by unfold execOp;simp only[ho,hx,hy,Sem.run_bind,Sem.run_pure,Result.andThen_ok,mkL n hn]) h
theorem wpOp_storeJ(hi:ops[i]?=some o)(hw:Region.wanted o (yielded ops a.tmps)=true)(x y:Operand)(ho:o.op=.store 141 x y)(b:Nat){vp:Value}{co:Int}{ok:Bool}{a1:Option Addr}{n1 c1:Nat}{co':Int}{ok':Bool}(hx:a.eval x=.pointer (some ⟨b,0,none⟩))(hy:a.eval y=.agg #[.bool ok',.int .i64 co',.slice a1 n1 c1])(hL:JB w b ok co vp)
  (h:∀W',Kp (fun k=>k=b) w W'→JB W' b ok' co' (.slice a1 n1 c1)→K (a.put o.dst undef) W'):wpOp Tryz.prog ops Q i K a w:=by
 unfold wpOp;rw[hi];simp only;rw[if_pos hw];refine .inl ?_;unfold Oper.wp execOp;simp only[ho,hx,hy,Instr.storeAt,Instr.sureAddr,Sem.run_bind,Sem.run_pure,Result.andThen_ok,run_storeVar_row (P:=Tryz.prog) w b 141 141 _ #[.bool ok',.int .i64 co',.slice a1 n1 c1] hL infoJ rfl (by simp[Value.oneCell'])];exact h _ (kp_rowJ w b _) (setRow_heap w b _ _ _ _ hL)
theorem wpOp_storeL(hi:ops[i]?=some o)(hw:Region.wanted o (yielded ops a.tmps)=true)(x y:Operand)(ho:o.op=.store 90 x y)(b j:Nat){u:Value}{a1:Option Addr}{n1 c1:Nat}(hx:a.eval x=.pointer (some ⟨b,j,none⟩))(hy:a.eval y=.slice a1 n1 c1)(hc:w.cell? ⟨b,j,none⟩=some u)(hf:w.frozen? ⟨b,j,none⟩=false)
  (h:K (a.put o.dst undef) (w.setCell ⟨b,j,none⟩ (.slice a1 n1 c1))):wpOp Tryz.prog ops Q i K a w:=by
 unfold wpOp;rw[hi];simp only;rw[if_pos hw];refine .inl ?_;unfold Oper.wp execOp;simp only[ho,hx,hy];simp[go_sem,hc,hf];exact h
end
theorem wpAnyH_tk{P:Program}{md:Region.Mode}{ops:Array Oper}{Q:Exit→Act→World→Prop}{S:World→Prop}{i:Nat}{oi:Oper}{v:Value}{fuel:Nat}{listed:Array Bool}{a:Act}{w:World}(hi:ops[i]?=some oi)(hB:(Region.noSelect ops&&Region.free md ops listed i&&(Region.ready md ops listed).contains i)=true)(hy:YieldsIf P ops S oi v a)(hS:S w)
  (h:wpAnyH P md ops (fun ex a w=>ex=Exit.normal∧Q ex a w) S fuel (listed.setIfInBounds i true) (a.put oi.dst v) w):wpAnyH P md ops (fun ex a w=>ex=Exit.normal∧Q ex a w) S (fuel+1) listed a w:=by
 simp only[Bool.and_eq_true]at hB;exact wpAnyH_take hi hB.1.1 hB.1.2 hB.2 (fun _ _ _ h=>by cases h.1) hy hS h
theorem yif_loadJ{S:World→Prop}{ops:Array Oper}{o:Oper}{a:Act}(hw:Region.wanted o (yielded ops a.tmps)=true)(x:Operand)(ho:o.op=.load 141 x)(b:Nat){vp:Value}{co:Int}{ok:Bool}(hx:a.eval x=.pointer (some ⟨b,0,none⟩))(hr:∀w,S w→JB w b ok co vp):YieldsIf Tryz.prog ops S o (.agg #[.bool ok,.int .i64 co,vp]) a:=
 .inl ⟨hw,fun w hS=>by
  have H':w.heap[b]?=some (.cells #[.bool ok,.int .i64 co,vp] 141 (0,0)):=hr w hS;unfold execOp
  simp only[ho,hx,Instr.loadAt,Instr.sureAddr,Sem.run_bind,Sem.run_pure,Result.andThen_ok,run_loadVar_row (P:=Tryz.prog) w b 141 141 _ _ _ H' Tryz.underlying141 rfl infoJ]⟩
structure RcP(n:Nat)(b:List Nat)(mb:Nat)(W:World)(e:Ending)(w':World):Prop where
 kp:Kp (fun i=>i=mb) W w'
 out:(rdc n b=none∧∃ok co a1 n1 c1,e=.returned (.tuple #[.agg #[.bool ok,.int .i64 co,.slice a1 n1 c1],.bool false]))∨∃c a vp,rdc n b=some (c,a)∧e=.returned (.tuple #[.agg #[.bool c.best,.int .i64 c.cost,vp],.bool true])∧RL (fun g=>W.heap.size≤g) w' vp c.plan∧RR w' mb (b.drop a)
structure Pz(W wr:World)(mb q g n:Nat)(ok:Bool)(co:Int)(us:List Value)(p:List (List Int))(r:List Nat):Prop where
 z:JB wr W.heap.size false 0 (.slice none 0 0)
 jb:JB wr q ok co (.slice (some ⟨g,0,none⟩) n n)
 pq:PQ wr (W.heap.size+1) g n us p
 rr:RR wr mb r
 kp:Kp (fun i=>i=mb) W wr
 q1:W.heap.size<q
 g1:W.heap.size<g
 qg:q≠g
 mb1:mb<W.heap.size
theorem Pz.next{W wr w':World}{mb q g n:Nat}{ok:Bool}{co:Int}{us:List Value}{p:List (List Int)}{r:List Nat}(h:Pz W wr mb q g n ok co us p r)(hb:Below wr.heap.size wr w'):Pz W w' mb q g n ok co us p r:=⟨h.z.below' hb,h.jb.below' hb,h.pq.below' hb,h.rr.below' hb,h.kp.thenBelow hb,h.q1,h.g1,h.qg,h.mb1⟩
theorem rdc_last{n a:Nat}{b:List Nat}{p:List (List Int)}(hx:b[0]?.getD 0≤1)(h9:9≤b.length)(hb:be ((b.drop 1).take 8)≤1099511627776)(hk:rdk b n=some (p,a)):rdc n b=if b[0]?.getD 0=1∨a=b.length then some (⟨decide (b[0]?.getD 0=1),be ((b.drop 1).take 8),p⟩,a)else none:=by
 unfold rdc;rw[if_neg (by omega),hk]
section
variable {W:World} {mb n:Nat} {b:List Nat}
theorem kclaim_any(h:RR W mb b)(hn:n≤8):Calls Tryz.prog 98 #[.pointer (some ⟨mb,0,none⟩),.int .i64 (n:Int)] W fun e w'=>RcP n b mb W e w':=by
 have hml:=h.lt;have HZ0:=Hd (JB.new W false 0 (.slice none 0 0));have HK0:Hid (Kp (fun i=>i=mb) W (W.alloc (.cells #[.bool false,.int .i64 0,.slice none 0 0] 141))):=(Kp.refl _ W).alloc _;have HR0:=Hd (h.below' ((Below.refl W.heap.size W).alloc (Nat.le_refl _) (.cells #[.bool false,.int .i64 0,.slice none 0 0] 141)));have HBY:=Hd h.byt;clear h;cases b with
 |nil=>
  have HTK:=Hd (ktake_no HR0.out (n:=1) (by simp));have HNO:Hid (rdc n []=none):=rdn_short (.inl (by simp))
  go_enter Tryz.func98,Tryz.ntmps98
  go_wp2_with fail
  refine HTK.out.mono ?_;rintro e W2 ⟨rfl,rfl⟩
  go_wp2_with (refine wpList_storeJ rfl _ _ rfl W.heap.size rfl rfl HZ0.out ?_)
  intro W9 hk9 hg9;have HG9:=Hd hg9;have HK9:=Hd (HK0.out.trans hk9 (fun i hi e=>by omega));clear hk9 hg9 HZ0 HK0;go_wp2;exact bodyPost_ret (retJ2 Tryz.results98 rfl rfl HG9.out) rfl ⟨HK9.out,.inl ⟨HNO.out,_,_,_,_,_,rfl⟩⟩
 |cons x r1=>
  have HTK:=Hd (ktake_yes HR0.out (n:=1) (by simp))
  go_enter Tryz.func98,Tryz.ntmps98
  go_wp2_with fail
  refine HTK.out.mono ?_;rintro e W2 ⟨a,rfl,hy,hr,hk⟩;obtain⟨gk,ok,rfl,hcx⟩:=hy.at (i:=0) (x:=x) rfl;have cx:W2.cell? ⟨gk,ok,none⟩=some (.int .u8 (x:Int)):=hcx;have HYY:=Hd hy;have HR2:Hid (RR W2 mb r1):=hr;have HK2:=Hd (HK0.out.trans hk (fun _ _ h=>h));have HZ2:Hid (JB W2 W.heap.size false 0 (.slice none 0 0)):=HZ0.out.kp hk (by omega);clear hy hr hk hcx HTK HR0 HZ0 HK0;by_cases hx:1<x
  ·have q1:(1:Int)<(x:Int):=by omega
   have HNO:Hid (rdc n (x::r1)=none):=rdn_short (.inr (.inl (by simpa using hx)))
   go_wp2_with (refine wpList_storeJ rfl _ _ rfl W.heap.size rfl rfl HZ2.out ?_)
   intro W9 hk9 hg9;have HG9:=Hd hg9;have HK9:=Hd (HK2.out.trans hk9 (fun i hi e=>by omega));clear hk9 hg9 HZ2 HK2;go_wp2;exact bodyPost_ret (retJ2 Tryz.results98 rfl rfl HG9.out) rfl ⟨HK9.out,.inl ⟨HNO.out,_,_,_,_,_,rfl⟩⟩
  have q1:¬(1:Int)<(x:Int):=by omega
  have hx1:x≤1:=by omega
  clear hx;by_cases h8:r1.length<8
  ·have HCO:=Hd (kcostr_short HR2.out h8);have HNO:Hid (rdc n (x::r1)=none):=rdn_short (.inl (by simp;omega))
   go_wp2_with fail
   refine HCO.out.mono ?_;rintro e W3 ⟨rfl,hk3⟩;have HK3:=Hd (HK2.out.trans hk3 (fun _ _ h=>h));have HZ3:=Hd (HZ2.out.kp hk3 (by omega));clear hk3 HCO HK2 HZ2 cx HR2
   go_wp2_with (refine wpList_storeJ rfl _ _ rfl W.heap.size rfl rfl HZ3.out ?_)
   intro W9 hk9 hg9;have HG9:=Hd hg9;have HK9:=Hd (HK3.out.trans hk9 (fun i hi e=>by omega));clear hk9 hg9 HZ3 HK3;go_wp2;exact bodyPost_ret (retJ2 Tryz.results98 rfl rfl HG9.out) rfl ⟨HK9.out,.inl ⟨HNO.out,_,_,_,_,_,rfl⟩⟩
  have HCO:=Hd (kcostr_any HR2.out (by omega))
  go_wp2_with fail
  refine HCO.out.mono ?_;rintro e W3 ⟨hk3,ho⟩;have HK3:=Hd (HK2.out.trans hk3 (fun _ _ h=>h));have HZ3:=Hd (HZ2.out.kp hk3 (by omega));have HY3:Hid (RY (fun g=>g<mb) W3 (.slice (some ⟨gk,ok,none⟩) 1 1) [x]):=HYY.out.keep hk3.size fun g hg hlt=>hk3.block g hlt (by omega);clear hk3 HCO HK2 HZ2 cx HR2 HYY;rcases ho with⟨hbig,rfl⟩|⟨hsm,rfl,hr3⟩
  ·have HNO:Hid (rdc n (x::r1)=none):=rdn_short (.inr (.inr (by exact hbig)));clear hbig
   go_wp2_with (refine wpList_storeJ rfl _ _ rfl W.heap.size rfl rfl HZ3.out ?_)
   intro W9 hk9 hg9;have HG9:=Hd hg9;have HK9:=Hd (HK3.out.trans hk9 (fun i hi e=>by omega));clear hk9 hg9 HZ3 HK3;go_wp2;exact bodyPost_ret (retJ2 Tryz.results98 rfl rfl HG9.out) rfl ⟨HK9.out,.inl ⟨HNO.out,_,_,_,_,_,rfl⟩⟩
  have HR3:=Hd hr3;have HSM:=Hd hsm;have H9:Hid (9≤(x::r1).length):=by show _≤_;simp;omega
  have HX1:Hid ((x::r1)[0]?.getD 0=x):=rfl;obtain⟨co,HCO⟩:∃co,Hid (be (r1.take 8)=co):=⟨_,Hd rfl⟩;rw[HCO.out]at HSM⊢;have HRK:Hid (rdk (x::r1) 0=some ([],9)):=rfl;have HRD:Hid (RR W3 mb ((x::r1).drop 9)):=hr3;have HBC:Hid (be (((x::r1).drop 1).take 8)=co):=HCO.out;generalize hbb:x::r1=bb at H9 HX1 HRK HRD HBY HBC;have HBB:=Hd hbb;clear hr3 hsm HR3 hbb
  go_upto_region 7 with (fail)
  refine wp_nrm ?_;refine wp_region_held (S:=fun w'=>Below W3.heap.size W3 w') (by kernel_rfl) ?_;change wpAnyH _ _ _ _ _ _ _ _ (World.drew _);have HD:Hid (Below W3.heap.size W3 W3.drew):=(Below.refl _ _).drew;generalize hXd:W3.drew=X0 at HD⊢;clear hXd
  have HCX:Hid (∀w',Below W3.heap.size W3 w'→w'.cell? ⟨gk,ok,none⟩=some (.int .u8 (x:Int))):=fun w' hw=>by
   obtain⟨g2,o2,e2,hc2⟩:=(HY3.out.below' hw).at (i:=0) (x:=x) rfl;cases e2;exact hc2
  obtain⟨bst,HBS,hq3,hq4⟩:∃bst,Hid (decide (x=1)=bst)∧((x:Int)==1)=bst∧decide ((x:Int)=1)=bst:=by
   rcases (show x=0∨x=1 by omega)with rfl|rfl
   ·exact⟨false,rfl,rfl,rfl⟩
   ·exact⟨true,rfl,rfl,rfl⟩
  refine wpAnyH_tk (i:=0) rfl (by kernel_rfl) (.inl ⟨rfl,fun _ _=>rfl⟩) HD.out ?_;generalize hKK:wpAnyH _ _ _ _ _ _ _=KK;go_simp;subst hKK;refine wpAnyH_tk (i:=1) (v:=.pointer (some ⟨gk,ok,none⟩)) rfl (by kernel_rfl) (.inl ⟨rfl,fun w _=>by go_simp⟩) HD.out ?_;generalize hKK:wpAnyH _ _ _ _ _ _ _=KK;go_simp;subst hKK;refine wpAnyH_tk (i:=2) (v:=.int .u8 (x:Int)) rfl (by kernel_rfl) (.inl ⟨rfl,fun w hw=>by have hc:=HCX.out w hw;go_simp⟩) HD.out ?_;generalize hKK:wpAnyH _ _ _ _ _ _ _=KK;go_simp;subst hKK;refine wpAnyH_tk (i:=3) (v:=.bool bst) rfl (by kernel_rfl) (.inl ⟨rfl,fun w _=>by go_simp⟩) HD.out ?_;generalize hKK:wpAnyH _ _ _ _ _ _ _=KK;go_simp;subst hKK;refine wpAnyH_tk (i:=4) rfl (by kernel_rfl) (.inl ⟨rfl,fun _ _=>rfl⟩) HD.out ?_;generalize hKK:wpAnyH _ _ _ _ _ _ _=KK;go_simp;subst hKK;refine wpAnyH_tk (i:=5) rfl (by kernel_rfl) (.inl ⟨rfl,fun _ _=>rfl⟩) HD.out ?_;generalize hKK:wpAnyH _ _ _ _ _ _ _=KK;go_simp;subst hKK;refine wpAnyH_all (rs:=[6,8]) (by kernel_rfl) (by simp) (fun ii hii=> ?_);have h7:ii=6∨ii=8:=by simpa using hii
  clear hii;have hw3:=HK3.out.size;have hz3:=HZ3.out.lt;rcases h7 with rfl|rfl;refine wpOp_mkL rfl rfl _ _ rfl n (by omega) rfl rfl ?_;have hb1:=HD.out.alloc HD.out.size (.cells (List.replicate n (Value.slice none 0 0)).toArray 90);refine⟨hb1,?_⟩;generalize hKK:wpAnyH _ _ _ _ _ _ _=KK;go_simp;subst hKK;have HG1:=Hd (World.alloc_heap_new X0 (.cells (List.replicate n (Value.slice none 0 0)).toArray 90));have HB1:=Hd hb1;have hg1:=HD.out.size;rw[List.toArray_replicate]at HG1 HB1;clear hb1;generalize X0.alloc (.cells (Array.replicate n (Value.slice none 0 0)) 90)=X1 at HG1 HB1⊢;generalize X0.heap.size=g at HG1 hg1⊢;have hg2:=(Array.getElem?_eq_some_iff.1 HG1.out).1;refine wpAnyH_tk (i:=7) (v:=.agg #[.bool bst,.int .i64 co,.slice (some ⟨g,0,none⟩) n n]) rfl (by kernel_rfl) (yif_build rfl _ _ rfl [(0,.bool bst),(1,.int .i64 co),(2,.slice (some ⟨g,0,none⟩) n n)] (by simp[Act.eval]) _ (built_jb _ _ _ _ _)) HB1.out ?_;generalize hKK:wpAnyH _ _ _ _ _ _ _=KK;go_simp;subst hKK;refine wpAnyH_all (rs:=[8]) (by kernel_rfl) (by simp) (fun ii hii=> ?_);obtain rfl:ii=8:=by simpa using hii
  clear hii;refine wpOp_val (v:=.pointer (some ⟨X1.heap.size,0,none⟩)) (w':=X1.alloc (.cells #[.bool false,.int .i64 0,.slice none 0 0] 141)) rfl rfl (by go_simp) ?_;have hb2:=HB1.out.alloc HB1.out.size (.cells #[.bool false,.int .i64 0,.slice none 0 0] 141);refine⟨hb2,?_⟩;generalize hKK:wpAnyH _ _ _ _ _ _ _=KK;go_simp;subst hKK;have HJ2:=Hd (JB.new X1 false 0 (.slice none 0 0));have HB2:=Hd hb2;have HG2:Hid ((X1.alloc (.cells #[.bool false,.int .i64 0,.slice none 0 0] 141)).heap[g]?=some (.cells (List.replicate n (Value.slice none 0 0)).toArray 90 (0,0))):=by rw[List.toArray_replicate];exact(Below.heap_alloc X1 _ g hg2).trans HG1.out
  have hqg:X1.heap.size≠g:=by omega
  have hq1:W3.heap.size≤X1.heap.size:=HB1.out.size;clear hb2 HG1 HB1;have hg2:g<(X1.alloc (.cells #[.bool false,.int .i64 0,.slice none 0 0] 141)).heap.size:=by simp;omega
  have hq2:X1.heap.size<(X1.alloc (.cells #[.bool false,.int .i64 0,.slice none 0 0] 141)).heap.size:=by simp
  generalize X1.alloc (.cells #[.bool false,.int .i64 0,.slice none 0 0] 141)=X2 at HJ2 HB2 HG2 hg2 hq2⊢;generalize X1.heap.size=q at HJ2 hqg hq1 hq2⊢;refine wpAnyH_all (rs:=[9]) (by kernel_rfl) (by simp) (fun ii hii=> ?_);obtain rfl:ii=9:=by simpa using hii
  clear hii;refine wpOp_storeJ rfl rfl _ _ rfl q rfl rfl HJ2.out ?_;intro W4 hk4 hn4;have hb4:=hk4.below HB2.out (by omega) (fun i hi e=>by omega);refine⟨hb4,?_⟩;have HP:Hid (Pz W W4 mb q g n bst co (List.replicate n (Value.slice none 0 0)) [] (bb.drop 9)):=⟨(HZ3.out.below' hb4),hn4,⟨(hk4.block g hg2 (fun e=>hqg e.symm)).trans HG2.out,by simp,by omega,fun i u l _ hl=>by simp at hl⟩,(HRD.out.below' hb4),HK3.out.thenBelow hb4,by omega,by omega,hqg,hml⟩;clear hk4 hn4 hb4 HJ2 HG2 HB2;refine wpAnyH_done (by kernel_rfl) ⟨rfl,?_⟩ _;rotate_left;refine wpOp_val (v:=.pointer (some ⟨X0.heap.size,0,none⟩)) (w':=X0.alloc (.cells #[.bool false,.int .i64 0,.slice none 0 0] 141)) rfl rfl (by go_simp) ?_;have hb1:=HD.out.alloc HD.out.size (.cells #[.bool false,.int .i64 0,.slice none 0 0] 141);refine⟨hb1,?_⟩;generalize hKK:wpAnyH _ _ _ _ _ _ _=KK;go_simp;subst hKK;have HJ1:=Hd (JB.new X0 false 0 (.slice none 0 0));have HB1:=Hd hb1;have hq1:=HD.out.size;clear hb1;generalize X0.alloc (.cells #[.bool false,.int .i64 0,.slice none 0 0] 141)=X1 at HJ1 HB1⊢;generalize X0.heap.size=q at HJ1 hq1⊢;have hqx:=HJ1.out.lt;refine wpAnyH_all (rs:=[6]) (by kernel_rfl) (by simp) (fun ii hii=> ?_);obtain rfl:ii=6:=by simpa using hii
  clear hii;refine wpOp_mkL rfl rfl _ _ rfl n (by omega) rfl rfl ?_;have hb2:=HB1.out.alloc HB1.out.size (.cells (List.replicate n (Value.slice none 0 0)).toArray 90);refine⟨hb2,?_⟩;generalize hKK:wpAnyH _ _ _ _ _ _ _=KK;go_simp;subst hKK;have HJ2:=Hd (HJ1.out.below' ((Below.refl _ _).alloc (Nat.le_refl _) (.cells (List.replicate n (Value.slice none 0 0)).toArray 90)));have HG2:=Hd (World.alloc_heap_new X1 (.cells (List.replicate n (Value.slice none 0 0)).toArray 90));have HB2:=Hd hb2;have hqg:q≠X1.heap.size:=by omega
  have hg1:W3.heap.size≤X1.heap.size:=HB1.out.size;have hg2:X1.heap.size<(X1.alloc (.cells (List.replicate n (Value.slice none 0 0)).toArray 90)).heap.size:=by simp
  have hq2:q<(X1.alloc (.cells (List.replicate n (Value.slice none 0 0)).toArray 90)).heap.size:=by simp;omega
  clear hb2 HJ1 HB1;rw[List.toArray_replicate]at HJ2 HB2 HG2 hg2 hq2;generalize X1.alloc (.cells (Array.replicate n (Value.slice none 0 0)) 90)=X2 at HJ2 HB2 HG2 hg2 hq2⊢;generalize X1.heap.size=g at HG2 hqg hg1 hg2⊢;rw[←List.toArray_replicate]at HG2;refine wpAnyH_tk (i:=7) (v:=.agg #[.bool bst,.int .i64 co,.slice (some ⟨g,0,none⟩) n n]) rfl (by kernel_rfl) (yif_build rfl _ _ rfl [(0,.bool bst),(1,.int .i64 co),(2,.slice (some ⟨g,0,none⟩) n n)] (by simp[Act.eval]) _ (built_jb _ _ _ _ _)) HB2.out ?_;generalize hKK:wpAnyH _ _ _ _ _ _ _=KK;go_simp;subst hKK;refine wpAnyH_all (rs:=[9]) (by kernel_rfl) (by simp) (fun ii hii=> ?_);obtain rfl:ii=9:=by simpa using hii
  clear hii;refine wpOp_storeJ rfl rfl _ _ rfl q rfl rfl HJ2.out ?_;intro W4 hk4 hn4;have hb4:=hk4.below HB2.out (by omega) (fun i hi e=>by omega);refine⟨hb4,?_⟩;have HP:Hid (Pz W W4 mb q g n bst co (List.replicate n (Value.slice none 0 0)) [] (bb.drop 9)):=⟨(HZ3.out.below' hb4),hn4,⟨(hk4.block g hg2 (fun e=>hqg e.symm)).trans HG2.out,by simp,by omega,fun i u l _ hl=>by simp at hl⟩,(HRD.out.below' hb4),HK3.out.thenBelow hb4,by omega,by omega,hqg,hml⟩;clear hk4 hn4 hb4 HJ2 HG2 HB2;refine wpAnyH_done (by kernel_rfl) ⟨rfl,?_⟩ _
  all_goals
   clear HZ3 HK3 HCX HD hg1 hg2 hq1 hq2 hqg hw3 hz3 HRD hq3 hq4 HY3
   go_wp2_with fail
   go_loopw [42] (fun cv wr=>∃(c a:Nat) (us:List Value) (p:List (List Int)),c≤n∧cv=.int .i64 (c:Int)∧Hid (rdk bb c=some (p,a))∧Hid (Pz W wr mb q g n bst co us p (bb.drop a))) (fun cv _=>n-(intOf cv).toNat)
   case atStart=>exact⟨0,9,_,[],Nat.zero_le _,rfl,HRK,HP⟩
   case round=>
    clear HP HRK;obtain⟨c,a,us,p,hc,rfl,HRK,HP⟩:=hrel;obtain⟨hpl,ha9,hal⟩:=rdk_form H9.out HRK.out;by_cases hlt:c<n
    ·have hcz:(c:Int)<(n:Int):=by omega
     go_upto_region 11 with (fail)
     refine wp_nrm ?_;refine wp_region_held (S:=fun w'=>w'.cell? ⟨q,2,none⟩=some (.slice (some ⟨g,0,none⟩) n n)) (by kernel_rfl) ?_;change wpAnyH _ _ _ _ _ _ _ _ (World.drew _);have HP0:=Hd (HP.out.next (Below.refl wr.heap.size wr).drew);generalize hXd:wr.drew=X0 at HP0⊢;clear hXd HP;have HD:Hid (X0.cell? ⟨q,2,none⟩=some (.slice (some ⟨g,0,none⟩) n n)):=HP0.out.jb.cell 2;refine wpAnyH_tk (i:=0) rfl (by kernel_rfl) (.inl ⟨rfl,fun _ _=>rfl⟩) HD.out ?_;generalize hKK:wpAnyH _ _ _ _ _ _ _=KK;go_simp;subst hKK;refine wpAnyH_tk (i:=1) (v:=.slice (some ⟨g,0,none⟩) n n) rfl (by kernel_rfl) (.inl ⟨rfl,fun w hw=>by go_simp⟩) HD.out ?_;generalize hKK:wpAnyH _ _ _ _ _ _ _=KK;go_simp;subst hKK;refine wpAnyH_tk (i:=2) rfl (by kernel_rfl) (.inl ⟨rfl,fun _ _=>rfl⟩) HD.out ?_;generalize hKK:wpAnyH _ _ _ _ _ _ _=KK;go_simp;subst hKK;refine wpAnyH_tk (i:=3) rfl (by kernel_rfl) (.inl ⟨rfl,fun _ _=>rfl⟩) HD.out ?_;generalize hKK:wpAnyH _ _ _ _ _ _ _=KK;go_simp;subst hKK;refine wpAnyH_all (rs:=[4]) (by kernel_rfl) (by simp) (fun ii hii=> ?_);obtain rfl:ii=4:=by simpa using hii
     clear hii;refine wpOp_call rfl rfl ?hrun (klist_all HP0.out.rr) ?_
     case hrun=>unfold execOp;simp[resolve,invoke,go_sem]
     rintro e X1 ⟨al,kl,cl,okl,rfl,hk1,hor⟩;have hm1:=HP0.out.mb1;have hj1:=HP0.out.q1;have hg1:=HP0.out.g1;have HJ1:=Hd (HP0.out.jb.kp hk1 (by omega));have HZ1:=Hd (HP0.out.z.kp hk1 (by omega));have HK1:=Hd (HP0.out.kp.trans hk1 (fun _ _ h=>h));have HQ1:=Hd (HP0.out.pq.kp hk1 (fun i e=>by omega));have hqg:=HP0.out.qg;have HX0:=Hd HP0.out.z.lt;have hgx:=HP0.out.pq.lt;refine⟨_,rfl,HJ1.out.cell 2,?_⟩;have HD1:Hid (X1.cell? ⟨q,2,none⟩=some (.slice (some ⟨g,0,none⟩) n n)):=HJ1.out.cell 2;clear HD hk1;generalize hKK:wpAnyH _ _ _ _ _ _ _=KK;go_simp;subst hKK;refine wpAnyH_tk (i:=5) (v:=.tuple #[.slice al kl cl,.bool okl]) rfl (by kernel_rfl) (.inl ⟨rfl,fun w _=>by go_simp⟩) HD1.out ?_;generalize hKK:wpAnyH _ _ _ _ _ _ _=KK;go_simp;subst hKK;refine wpAnyH_tk (i:=6) (v:=.slice al kl cl) rfl (by kernel_rfl) (.inl ⟨rfl,fun w _=>by go_simp⟩) HD1.out ?_;generalize hKK:wpAnyH _ _ _ _ _ _ _=KK;go_simp;subst hKK;refine wpAnyH_tk (i:=7) (v:=.bool okl) rfl (by kernel_rfl) (.inl ⟨rfl,fun w _=>by go_simp⟩) HD1.out ?_;generalize hKK:wpAnyH _ _ _ _ _ _ _=KK;go_simp;subst hKK;refine wpAnyH_tk (i:=8) (v:=.pointer (some ⟨g,c,none⟩)) rfl (by kernel_rfl) (.inl ⟨rfl,fun w _=>by go_simp⟩) HD1.out ?_;generalize hKK:wpAnyH _ _ _ _ _ _ _=KK;go_simp;subst hKK;obtain⟨ug,hug⟩:∃u,us[c]?=some u:=⟨_,List.getElem?_eq_getElem (by rw[HQ1.out.len];exact hlt)⟩;have cg:X1.cell? ⟨g,c,none⟩=some ug:=(blk_cell HQ1.out.hl c).trans hug;have fg:X1.frozen? ⟨g,c,none⟩=false:=blk_fr HQ1.out.hl c;have kg:Kp (fun i=>i=g) X1 (X1.setCell ⟨g,c,none⟩ (.slice al kl cl)):=(Kp.refl (fun i=>i=g) X1).set _ _ _ (fun _=>rfl);refine wpAnyH_all (rs:=[9]) (by kernel_rfl) (by simp) (fun ii hii=> ?_);obtain rfl:ii=9:=by simpa using hii
     clear hii;refine wpOp_storeL rfl rfl _ _ rfl g c rfl rfl cg fg ?_;have HJ2:=Hd (HJ1.out.kp kg hqg);have HZ2:=Hd (HZ1.out.kp kg (by omega));have HK2:=Hd (HK1.out.trans kg (fun i hi e=>by omega));have HKG:=Hd kg;refine⟨HJ2.out.cell 2,?_⟩;clear cg fg kg HJ1 HZ1 HK1;have HD2:Hid ((X1.setCell ⟨g,c,none⟩ (.slice al kl cl)).cell? ⟨q,2,none⟩=some (.slice (some ⟨g,0,none⟩) n n)):=HJ2.out.cell 2;generalize hX2:X1.setCell ⟨g,c,none⟩ (.slice al kl cl)=X2 at HJ2 HZ2 HK2 HKG HD2⊢;have HX2:=Hd hX2;clear hX2 HD1;generalize hKK:wpAnyH _ _ _ _ _ _ _=KK;go_simp;subst hKK;refine wpAnyH_all (rs:=[10]) (by kernel_rfl) (by simp) (fun ii hii=> ?_);obtain rfl:ii=10:=by simpa using hii
     clear hii;refine wpOp_val (v:=.bool okl) (w':=X2) rfl rfl (by go_simp) ?_;refine⟨HD2.out,wpAnyH_done (by kernel_rfl) ⟨rfl,?_⟩ _⟩;clear HD2 HP0;rcases hor with⟨rfl,hbad⟩|⟨rfl,m,r2,hr2,hm2,hri,hrr⟩
     ·have HNO:Hid (rdc n (x::r1)=none):=by
       show _=_;rw[HBB.out];refine rdn_lists ?_
       have hnone:rdk bb (c+1)=none:=by
        rcases hbad with hbad|⟨m,r2,hr2,hm2⟩
        ·exact rdk_out HRK.out (by rw[List.drop_eq_nil_iff]at hbad;exact hbad)
        ·have hat:bb[a]?=some m:=by
          have:(bb.drop a)[0]?=some m:=by rw[hr2];rfl
          rwa[List.getElem?_drop,Nat.add_zero]at this
         refine rdk_long HRK.out hat ?_;have hl:=congrArg List.length hr2;rw[List.length_drop,List.length_cons]at hl;omega
       have:=rdk_none hnone (n-(c+1));rwa[show c+1+(n-(c+1))=n by omega]at this
      clear hbad HQ1 HRK HJ2 HKG HX2 hug
      go_wp2_with (refine wpList_storeJ rfl _ _ rfl W.heap.size rfl rfl HZ2.out ?_)
      intro W9 hk9 hg9;have HG9:=Hd hg9;have HK9:=Hd (HK2.out.trans hk9 (fun i hi e=>by omega));clear hk9 hg9 HZ2 HK2;go_wp2;exact bodyPost_ret (retJ2 Tryz.results98 rfl rfl HG9.out) rfl ⟨HK9.out,.inl ⟨HNO.out,_,_,_,_,_,rfl⟩⟩
     ·have hat:bb[a]?=some m:=by
       have:(bb.drop a)[0]?=some m:=by rw[hr2];rfl
       rwa[List.getElem?_drop,Nat.add_zero]at this
      have hr1:r2=bb.drop (a+1):=by
       have:=congrArg (List.drop 1) hr2;rw[List.drop_drop]at this;exact this.symm
      have hl:=congrArg List.length hr2;rw[List.length_drop,List.length_cons]at hl;have HRK2:Hid (rdk bb (c+1)=some (p++[((bb.drop (a+1)).take m).map fun (x:Nat)=>(x:Int)],a+m+1)):=rdk_next HRK.out hat (by omega)
      have HPZ:Hid (Pz W X2 mb q g n bst co (us.set c (.slice al kl cl)) (p++[((bb.drop (a+1)).take m).map fun (x:Nat)=>(x:Int)]) (bb.drop (a+m+1))):=by
       refine⟨HZ2.out,HJ2.out,?_,?_,HK2.out,hj1,hg1,hqg,hm1⟩
       ·rw[←HX2.out];refine HQ1.out.put hpl.symm hlt ?_;rw[←hr1];exact hri.mono fun k hk hlt2 _=>⟨by have:=HX0.out;omega,fun e=>by omega⟩
       ·rw[show bb.drop (a+m+1)=r2.drop m by rw[hr1,List.drop_drop];congr 1;omega];exact hrr.far HKG.out (fun i e=>by omega)
      clear hr2 hm2 hri hrr hat hr1 hl HQ1 HRK HJ2 HKG HX2 HZ2 HK2 hug;go_wp2;go_roundw
      case rel=>exact⟨c+1,a+m+1,_,_,by omega,by go_num,HRK2,HPZ⟩
      case measure=>simp[intOf];omega
    ·have hcz:¬(c:Int)<(n:Int):=by omega
     have hce:c=n:=by omega
     rw[hce]at HRK hpl;obtain⟨vr,hrb,hry⟩:=HP.out.rr.bl;obtain⟨ar,kr,rfl,_,_,_⟩:=hry.form;have HRB:=Hd hrb;have hdl:(bb.drop a).length=bb.length-a:=List.length_drop;have HLA:=Hd (rdc_last (n:=n) (a:=a) (b:=bb) (p:=p) (by rw[HX1.out];exact hx1) H9.out (by rw[HBC.out];exact HSM.out) HRK.out);rw[HX1.out,HBC.out,HBS.out]at HLA;have HPL:=Hd (HP.out.pq.rl hpl);clear hrb hry hce;generalize hln:(bb.drop a).length=ln at HRB hdl;have HD9:Hid (ln=bb.length-a):=hdl;clear hln hdl
     obtain⟨okr,HOK,hqr⟩:∃okr,Hid ((bst=true∨ln=0)↔okr=true)∧(bst=false→((ln:Int)==0)=okr):=by
      cases bst with
      |true=>exact⟨true,⟨fun _=>rfl,fun _=>.inl rfl⟩,fun h=>by cases h⟩
      |false=>
       by_cases hz:ln=0
       ·exact⟨true,⟨fun _=>rfl,fun _=>.inr hz⟩,fun _=>by simp[hz]⟩
       ·exact⟨false,⟨fun h=>by rcases h with h|h;cases h;exact absurd h hz,fun h=>by cases h⟩,fun _=>by simp[hz]⟩
     have HFIN:Hid (∀W5,Below wr.heap.size wr W5→∀W9,Kp (fun k=>k=W.heap.size) W5 W9→RcP n (x::r1) mb W (.returned (.tuple #[.agg #[.bool bst,.int .i64 co,.slice (some ⟨g,0,none⟩) n n],.bool okr])) W9):=fun W5 hb5 W9 hk9=>by
      have hP5:=HP.out.next hb5;have hm1:=hP5.mb1;refine⟨hP5.kp.trans hk9 (fun i hi e=>by omega),?_⟩;rw[HBB.out];cases okr with
      |true=>
       have hcond:x=1∨a=bb.length:=by
        rcases HOK.out.2 rfl with h|h
        ·left;have:=HBS.out;rw[h]at this;simpa using this
        ·right;have:=HD9.out;omega
       refine .inr ⟨⟨bst,co,p⟩,a,_,by rw[HLA.out,if_pos hcond],rfl,?_,hP5.rr.far hk9 (fun i e=>by omega)⟩;exact((hP5.pq.rl hpl).keep hk9.size fun k hk hlt2=>hk9.block k hlt2 (by omega)).mono fun k hk _ _=>by omega
      |false=>
       refine .inl ⟨?_,_,_,_,_,_,rfl⟩;rw[HLA.out,if_neg];rintro (h|h)
       ·have:=HOK.out.1 (.inl (by rw[←HBS.out];simpa using h));cases this
       ·have:=HOK.out.1 (.inr (by have:=HD9.out;omega));cases this
     clear HPL HLA HD9 HRK hpl ha9 hal
     go_upto_region 15 with (fail)
     cases bst with
     |true=>
      obtain rfl:okr=true:=HOK.out.1 (.inl rfl);clear hqr HOK;refine wp_nrm ?_;refine wp_region_held (S:=fun w'=>JB w' q true co (.slice (some ⟨g,0,none⟩) n n)∧w'.cell? ⟨mb,0,none⟩=some (.slice ar ln kr)) (by kernel_rfl) ?_;change wpAnyH _ _ _ _ _ _ _ _ (World.drew _);have HP0:=Hd (HP.out.next (Below.refl wr.heap.size wr).drew);have HB0:Hid (Below wr.heap.size wr wr.drew):=(Below.refl _ _).drew;have HRB0:=Hd (HRB.out.below' HB0.out);generalize hXd:wr.drew=X0 at HP0 HB0 HRB0⊢;clear hXd HP HRB;have HD:Hid (JB X0 q true co (.slice (some ⟨g,0,none⟩) n n)∧X0.cell? ⟨mb,0,none⟩=some (.slice ar ln kr)):=⟨HP0.out.jb,HRB0.out.cell⟩;refine wpAnyH_tk (i:=0) rfl (by kernel_rfl) (yif_loadJ rfl _ rfl q rfl fun w hw=>hw.1) HD.out ?_;generalize hKK:wpAnyH _ _ _ _ _ _ _=KK;go_simp;subst hKK;refine wpAnyH_tk (i:=1) rfl (by kernel_rfl) (.inl ⟨rfl,fun _ _=>rfl⟩) HD.out ?_;generalize hKK:wpAnyH _ _ _ _ _ _ _=KK;go_simp;subst hKK;refine wpAnyH_tk (i:=2) (v:=.bool true) rfl (by kernel_rfl) (.inl ⟨rfl,fun w hw=>by have hc:w.cell? ⟨q,0,none⟩=some (.bool true):=hw.1.cell 0;go_simp⟩) HD.out ?_;generalize hKK:wpAnyH _ _ _ _ _ _ _=KK;go_simp;subst hKK;refine wpAnyH_tk (i:=3) rfl (by kernel_rfl) (.inl ⟨rfl,fun _ _=>rfl⟩) HD.out ?_;generalize hKK:wpAnyH _ _ _ _ _ _ _=KK;go_simp;subst hKK;refine wpAnyH_tk (i:=4) (v:=undef) rfl (by kernel_rfl) (.inr ⟨rfl,rfl⟩) HD.out ?_;generalize hKK:wpAnyH _ _ _ _ _ _ _=KK;go_simp;subst hKK;refine wpAnyH_tk (i:=5) (v:=undef) rfl (by kernel_rfl) (.inr ⟨rfl,rfl⟩) HD.out ?_;generalize hKK:wpAnyH _ _ _ _ _ _ _=KK;go_simp;subst hKK;refine wpAnyH_tk (i:=6) (v:=undef) rfl (by kernel_rfl) (.inr ⟨rfl,rfl⟩) HD.out ?_;generalize hKK:wpAnyH _ _ _ _ _ _ _=KK;go_simp;subst hKK;refine wpAnyH_tk (i:=7) (v:=undef) rfl (by kernel_rfl) (.inr ⟨rfl,rfl⟩) HD.out ?_;generalize hKK:wpAnyH _ _ _ _ _ _ _=KK;go_simp;subst hKK;refine wpAnyH_tk (i:=8) (v:=undef) rfl (by kernel_rfl) (.inr ⟨rfl,rfl⟩) HD.out ?_;generalize hKK:wpAnyH _ _ _ _ _ _ _=KK;go_simp;subst hKK;refine wpAnyH_tk (i:=9) (v:=undef) rfl (by kernel_rfl) (.inr ⟨rfl,rfl⟩) HD.out ?_;generalize hKK:wpAnyH _ _ _ _ _ _ _=KK;go_simp;subst hKK;refine wpAnyH_tk (i:=10) (v:=.bool true) rfl (by kernel_rfl) (.inl ⟨rfl,fun w _=>by go_simp⟩) HD.out ?_;generalize hKK:wpAnyH _ _ _ _ _ _ _=KK;go_simp;subst hKK;refine wpAnyH_all (rs:=[11]) (by kernel_rfl) (by simp) (fun ii hii=> ?_);obtain rfl:ii=11:=by simpa using hii
      clear hii;refine wpOp_storeJ rfl rfl _ _ rfl W.heap.size rfl rfl HP0.out.z ?_;intro W9 hk9 hg9;have hm1:=HP0.out.mb1;have hq1:=HP0.out.q1;have hS9:JB W9 q true co (.slice (some ⟨g,0,none⟩) n n)∧W9.cell? ⟨mb,0,none⟩=some (.slice ar ln kr):=⟨HP0.out.jb.kp hk9 (by omega),RB.cell ((hk9.block mb HRB0.out.lt (by omega)).trans HRB0.out)⟩;refine⟨hS9,?_⟩;generalize hKK:wpAnyH _ _ _ _ _ _ _=KK;go_simp;subst hKK;refine wpAnyH_all (rs:=[12]) (by kernel_rfl) (by simp) (fun ii hii=> ?_);obtain rfl:ii=12:=by simpa using hii
      clear hii;refine wpOp_val (v:=.bool true) (w':=W9) rfl rfl (by go_simp) ?_;refine⟨hS9,wpAnyH_done (by kernel_rfl) ⟨rfl,?_⟩ _⟩;have HG9:=Hd hg9;have HK9:=Hd hk9;clear hk9 hg9 hS9 HD HP0;go_wp2;exact bodyPost_ret (retJ2 Tryz.results98 rfl rfl HG9.out) rfl (HFIN.out X0 HB0.out W9 HK9.out)
     |false=>
      have hqz:=hqr rfl;clear hqr HOK;refine wp_nrm ?_;refine wp_region_held (S:=fun w'=>JB w' q false co (.slice (some ⟨g,0,none⟩) n n)∧w'.cell? ⟨mb,0,none⟩=some (.slice ar ln kr)) (by kernel_rfl) ?_;change wpAnyH _ _ _ _ _ _ _ _ (World.drew _);have HP0:=Hd (HP.out.next (Below.refl wr.heap.size wr).drew);have HB0:Hid (Below wr.heap.size wr wr.drew):=(Below.refl _ _).drew;have HRB0:=Hd (HRB.out.below' HB0.out);generalize hXd:wr.drew=X0 at HP0 HB0 HRB0⊢;clear hXd HP HRB;have HD:Hid (JB X0 q false co (.slice (some ⟨g,0,none⟩) n n)∧X0.cell? ⟨mb,0,none⟩=some (.slice ar ln kr)):=⟨HP0.out.jb,HRB0.out.cell⟩;refine wpAnyH_tk (i:=0) rfl (by kernel_rfl) (yif_loadJ rfl _ rfl q rfl fun w hw=>hw.1) HD.out ?_;generalize hKK:wpAnyH _ _ _ _ _ _ _=KK;go_simp;subst hKK;refine wpAnyH_tk (i:=1) rfl (by kernel_rfl) (.inl ⟨rfl,fun _ _=>rfl⟩) HD.out ?_;generalize hKK:wpAnyH _ _ _ _ _ _ _=KK;go_simp;subst hKK;refine wpAnyH_tk (i:=2) (v:=.bool false) rfl (by kernel_rfl) (.inl ⟨rfl,fun w hw=>by have hc:w.cell? ⟨q,0,none⟩=some (.bool false):=hw.1.cell 0;go_simp⟩) HD.out ?_;generalize hKK:wpAnyH _ _ _ _ _ _ _=KK;go_simp;subst hKK;refine wpAnyH_tk (i:=3) rfl (by kernel_rfl) (.inl ⟨rfl,fun _ _=>rfl⟩) HD.out ?_;generalize hKK:wpAnyH _ _ _ _ _ _ _=KK;go_simp;subst hKK;refine wpAnyH_tk (i:=4) rfl (by kernel_rfl) (.inl ⟨rfl,fun _ _=>rfl⟩) HD.out ?_;generalize hKK:wpAnyH _ _ _ _ _ _ _=KK;go_simp;subst hKK;refine wpAnyH_tk (i:=5) rfl (by kernel_rfl) (.inl ⟨rfl,fun _ _=>rfl⟩) HD.out ?_;generalize hKK:wpAnyH _ _ _ _ _ _ _=KK;go_simp;subst hKK;refine wpAnyH_tk (i:=6) rfl (by kernel_rfl) (.inl ⟨rfl,fun _ _=>rfl⟩) HD.out ?_;generalize hKK:wpAnyH _ _ _ _ _ _ _=KK;go_simp;subst hKK;refine wpAnyH_tk (i:=7) (v:=.slice ar ln kr) rfl (by kernel_rfl) (.inl ⟨rfl,fun w hw=>by have hc:=hw.2;go_simp⟩) HD.out ?_;generalize hKK:wpAnyH _ _ _ _ _ _ _=KK;go_simp;subst hKK;refine wpAnyH_tk (i:=8) (v:=.int .i64 (ln:Int)) rfl (by kernel_rfl) (.inl ⟨rfl,fun w _=>by go_simp⟩) HD.out ?_;generalize hKK:wpAnyH _ _ _ _ _ _ _=KK;go_simp;subst hKK;refine wpAnyH_tk (i:=9) (v:=.bool okr) rfl (by kernel_rfl) (.inl ⟨rfl,fun w _=>by go_simp⟩) HD.out ?_;generalize hKK:wpAnyH _ _ _ _ _ _ _=KK;go_simp;subst hKK;refine wpAnyH_tk (i:=10) (v:=.bool okr) rfl (by kernel_rfl) (.inl ⟨rfl,fun w _=>by go_simp⟩) HD.out ?_;generalize hKK:wpAnyH _ _ _ _ _ _ _=KK;go_simp;subst hKK;refine wpAnyH_all (rs:=[11]) (by kernel_rfl) (by simp) (fun ii hii=> ?_);obtain rfl:ii=11:=by simpa using hii
      clear hii;refine wpOp_storeJ rfl rfl _ _ rfl W.heap.size rfl rfl HP0.out.z ?_;intro W9 hk9 hg9;have hm1:=HP0.out.mb1;have hq1:=HP0.out.q1;have hS9:JB W9 q false co (.slice (some ⟨g,0,none⟩) n n)∧W9.cell? ⟨mb,0,none⟩=some (.slice ar ln kr):=⟨HP0.out.jb.kp hk9 (by omega),RB.cell ((hk9.block mb HRB0.out.lt (by omega)).trans HRB0.out)⟩;refine⟨hS9,?_⟩;generalize hKK:wpAnyH _ _ _ _ _ _ _=KK;go_simp;subst hKK;refine wpAnyH_all (rs:=[12]) (by kernel_rfl) (by simp) (fun ii hii=> ?_);obtain rfl:ii=12:=by simpa using hii
      clear hii;refine wpOp_val (v:=.bool okr) (w':=W9) rfl rfl (by go_simp) ?_;refine⟨hS9,wpAnyH_done (by kernel_rfl) ⟨rfl,?_⟩ _⟩;have HG9:=Hd hg9;have HK9:=Hd hk9;clear hk9 hg9 hS9 HD HP0;go_wp2;exact bodyPost_ret (retJ2 Tryz.results98 rfl rfl HG9.out) rfl (HFIN.out X0 HB0.out W9 HK9.out)
end
end Go.Proofs.YtnkelgdnglaafaaGreat
