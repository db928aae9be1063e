import Derived.Test.YtnkelgdnglaafaaGreatQ0
import Derived.Deep.Quiet
import Derived.Deep.QuietTactic
import Derived.BigQuiet
import Derived.Shelf.Abstract
import Derived.Laws.BitsLemmas
import Derived.Laws.EntriesVeiled
import Derived.Laws.MakeOwn
import Derived.Deep.RegionLaw
import Derived.StillTail
set_option maxHeartbeats 8000000
set_option maxRecDepth 100000
namespace Go.Proofs.YtnkelgdnglaafaaGreat
open Go.RowKit
structure Sn where
 st:St
 cs:List (Int×Int)
 ws:List (Int×Int)
def nv(s:St)(vc vw:Value):List Value:=[.int .i64 s.fl,.int .i64 s.ca,.int .i64 s.sta,.int .i64 s.ste,.int .i64 s.sto,.int .i64 s.opn,.int .i64 s.wai,.int .i64 s.clo,.int .i64 s.nud,.int .i64 s.age,.int .i64 s.sil,.int .i64 s.bud,.int .i64 s.per,vc,vw]
theorem nv_length(s:St)(vc vw:Value):(nv s vc vw).length=15:=rfl
theorem info27:(Tryz.prog.info? 100).map (·.size)=some 15:=by kernel_rfl
def NB(W:World)(b:Nat)(s:St)(vc vw:Value):Prop:=W.heap[b]?=some (.cells (nv s vc vw).toArray 100 (0,0))
section
variable {W W':World} {b:Nat} {s:St} {vc vw:Value}
theorem NB.lt(h:NB W b s vc vw):b<W.heap.size:=(Array.getElem?_eq_some_iff.1 h).1
theorem NB.cell(h:NB W b s vc vw)(i:Nat):W.cell? ⟨b,i,none⟩=(nv s vc vw)[i]?:=by
 simp[World.cell?,show W.heap[b]?=_ from h]
theorem NB.range(h:NB W b s vc vw):W.rangeAt b 0 (nv s vc vw):=fun j v hv=>by
 rw[Nat.zero_add,h.cell,hv]
theorem NB.site(h:NB W b s vc vw):W.rangeAt b 0 (sv s):=fun j v hv=>by
 rw[Nat.zero_add,h.cell,←hv];have hj:j<13:=by have:=(List.getElem?_eq_some_iff.1 hv).1;rwa[sv_length]at this
 show(sv s++[vc,vw])[j]?=_;rw[List.getElem?_append_left (by rw[sv_length];exact hj)]
theorem NB.below'(h:NB W b s vc vw)(hb:Below W.heap.size W W'):NB W' b s vc vw:=(hb.block b h.lt).trans h
theorem NB.alloc(h:NB W b s vc vw)(o:Obj):NB (W.alloc o) b s vc vw:=h.below' ((Below.refl _ _).alloc (Nat.le_refl _) o)
theorem NB.drew(h:NB W b s vc vw):NB W.drew b s vc vw:=h
theorem NB.drewN(h:NB W b s vc vw)(n:Nat):NB (W.drewN n) b s vc vw:=h
theorem NB.new(W:World)(s:St)(vc vw:Value):NB (W.alloc (.cells (nv s vc vw).toArray 100)) W.heap.size s vc vw:=World.alloc_heap_new W _
theorem NB.kp{G:Nat→Prop}(h:NB W b s vc vw)(k:Kp G W W')(hG:¬G b):NB W' b s vc vw:=(k.block b h.lt hG).trans h
end
theorem load27(w:World)(b:Nat)(s:St)(vc vw:Value)(h:w.rangeAt b 0 (nv s vc vw)):
  (Instr.loadAt 100 (.pointer (some ⟨b,0,none⟩))).run Tryz.prog w=.ok (.agg (nv s vc vw).toArray) w:=
 run_loadAt_mid (P:=Tryz.prog) w b 0 100 (nv s vc vw) _ h Tryz.underlying100 rfl (by rw[nv_length];exact info27)
theorem wpList_load27g{ops:Array Oper}{rest:List Oper}{op:Oper}{a:Act}{w:World}{Q:Exit→Act→World→Prop}(hgd:Region.wanted op (yielded ops a.tmps)=true)(x:Operand)(ho:op.op=.load 100 x)
  (b:Nat) (s:St) (vc vw:Value) (hx:a.eval x=.pointer (some ⟨b,0,none⟩)) (hr:NB w b s vc vw)
  (h:wpList Tryz.prog ops Q rest (a.put op.dst (.agg (nv s vc vw).toArray)) w):wpList Tryz.prog ops Q (op::rest) a w:=
 wpList_step fun _ hK=>by
  rw[if_pos hgd];unfold Oper.wp execOp;simp only[ho,Sem.run_bind,Sem.run_pure,Result.andThen_ok,hx,load27 w b s vc vw hr.range];exact hK _ _ h
theorem wpList_load23n{ops:Array Oper}{rest:List Oper}{op:Oper}{a:Act}{w:World}{Q:Exit→Act→World→Prop}(hgd:Region.wanted op (yielded ops a.tmps)=true)(x:Operand)(ho:op.op=.load 23 x)
  (b:Nat) (s:St) (vc vw:Value) (hx:a.eval x=.pointer (some ⟨b,0,none⟩)) (hr:NB w b s vc vw)
  (h:wpList Tryz.prog ops Q rest (a.put op.dst (.agg (sv s).toArray)) w):wpList Tryz.prog ops Q (op::rest) a w:=
 wpList_step fun _ hK=>by
  rw[if_pos hgd];unfold Oper.wp execOp;simp only[ho,Sem.run_bind,Sem.run_pure,Result.andThen_ok,hx,load23 w b s hr.site];exact hK _ _ h
def cok(fl:Int)(x:Int×Int):Bool:=decide (0≤x.1)&&decide (x.1<fl)&&decide (0≤x.2)&&decide (x.2≤1000000)
def wok(fl:Int)(n:Nat)(x:Int×Int):Bool:=decide (0≤x.1)&&decide (x.1<fl)&&decide (0<x.2)&&decide (x.2<2^n)
def rgt(s:Sn):Bool:=rightB s.st&&decide ((s.cs.length:Int)=s.st.ca)&&decide (s.ws.length≤128)&&s.cs.all (cok s.st.fl)&&s.ws.all (wok s.st.fl s.st.ca.toNat)
theorem i64_mask(n m:Int)(k:Nat)(hk:k≤62)(hm:(BitVec.ofInt 64 m).toNat=2^k-1):bits .and .i64 n m=n%(2^k:Nat):=by
 have key:(BitVec.ofInt 64 n&&&BitVec.ofInt 64 m).toNat=(n%((2^64:Nat):Int)).toNat%2^k:=by
  rw[BitVec.toNat_and,BitVec.toNat_ofInt,hm,Nat.and_two_pow_sub_one_eq_mod]
 show IntKind.i64.wrap ((BitVec.ofInt 64 n&&&BitVec.ofInt 64 m).toNat:Nat)=_;have hd:(2:Nat)^k∣2^64:=Nat.pow_dvd_pow 2 (by omega);have hle:(2:Nat)^k≤2^62:=Nat.pow_le_pow_right (by decide) hk;have hpos:0<(2:Nat)^k:=Nat.pow_pos (by decide);generalize hK:(2:Nat)^k=K at key hd hle hpos;rw[key];obtain⟨c,hc⟩:=hd
 have h1:((n%((2^64:Nat):Int)).toNat%K:Nat)=(n%(K:Int)).toNat:=by
  have h0:(0:Int)≤n%((2^64:Nat):Int):=Int.emod_nonneg _ (by decide);have h2:(0:Int)≤n%(K:Int):=Int.emod_nonneg _ (by omega);apply Int.ofNat.inj;show(((n%((2^64:Nat):Int)).toNat%K:Nat):Int)=((n%(K:Int)).toNat:Int);rw[Int.natCast_emod,Int.toNat_of_nonneg h0,Int.toNat_of_nonneg h2];exact Int.emod_emod_of_dvd n ⟨(c:Int),by rw[hc];exact Int.natCast_mul K c⟩
 rw[h1,IntKind.wrap_i64];have h2:(0:Int)≤n%(K:Int):=Int.emod_nonneg _ (by omega);have h3:n%(K:Int)<(K:Int):=Int.emod_lt_of_pos _ (by omega);omega
theorem i64_and1(n:Int):bits .and .i64 n 1=n%2:=i64_mask n 1 1 (by omega) (by decide)
theorem shr_any(m c:Nat)(hc:c≤64)(W:World):(binOp .shr 3 (.int .i64 (m:Int)) (.int .i64 (c:Int))).run Tryz.prog W=.ok (.int .i64 ((m/2^c:Nat):Int)) W:=by
 rw[binOp_shr,shift_shr_any .i64 .i64 (m:Int) (c:Int) (by omega)];show Result.ok (Value.int .i64 ((m:Int)/2^min (c:Int).toNat 64)) W=_;rw[Int.toNat_natCast,Nat.min_eq_left hc,Int.natCast_ediv,Int.natCast_pow];rfl
theorem pow_wrap{n:Nat}(hn:n≤8):wrap64 (2^n)=2^n:=by
 have h:(2:Int)^n≤256∧0≤(2:Int)^n:=by
  have:n=0∨n=1∨n=2∨n=3∨n=4∨n=5∨n=6∨n=7∨n=8:=by omega
  rcases this with rfl|rfl|rfl|rfl|rfl|rfl|rfl|rfl|rfl
  all_goals decide
 exact IntWalk.wrap64_in _ (by omega)
theorem hasFloor_any(b:Nat)(x:Int)(s:St)(vc vw:Value)(w:World)(h:NB w b s vc vw):
  Calls Tryz.prog 123 #[.int .i64 x,.pointer (some ⟨b,0,none⟩)] w fun e w'=>e=.returned (.bool (decide (0≤x)&&decide (x<s.fl)))∧w'=w:=by
 have c0:w.cell? ⟨b,0,none⟩=some (.int .i64 s.fl):=h.cell 0;clear h;by_cases hx:0≤x
 ·go_enter Tryz.func123,Tryz.ntmps123
  go_wp2;go_ret;exact⟨by simp[hx],rfl⟩
 ·go_enter Tryz.func123,Tryz.ntmps123
  go_wp2;go_ret;refine⟨ret_bool ?_,rfl⟩;rw[decide_eq_false (by omega)];rfl
theorem carOk_any(b bx:Nat)(x:Int×Int)(s:St)(vc vw:Value)(w:World)(h:NB w b s vc vw)(hb:w.cell? ⟨bx,0,none⟩=some (.func (.func 123) #[] #[.pointer (some ⟨b,0,none⟩)]))(hbx:bx<w.heap.size):
  Calls Tryz.prog 125 #[.agg #[.int .i64 x.1,.int .i64 x.2],.pointer (some ⟨bx,0,none⟩)] w fun e w'=>e=.returned (.bool (cok s.fl x))∧Below w.heap.size w w':=by
 have hb1:(w.alloc (.cells #[.int .i64 x.1,.int .i64 x.2] 127)).cell? ⟨bx,0,none⟩=some (.func (.func 123) #[] #[.pointer (some ⟨b,0,none⟩)]):=(Below.cell ((Below.refl _ w).alloc (Nat.le_refl _) _) (p:=⟨bx,0,none⟩) hbx).trans hb;have hc:=hasFloor_any b x.1 s vc vw _ (h.alloc (.cells #[.int .i64 x.1,.int .i64 x.2] 127));have HB:=Hd ((Below.refl w.heap.size w).alloc (Nat.le_refl _) (.cells #[.int .i64 x.1,.int .i64 x.2] 127));clear h hb;cases hq:(decide (0≤x.1)&&decide (x.1<s.fl))with
 |false=>
  rw[hq]at hc
  go_enter Tryz.func125,Tryz.ntmps125
  go_wp2_with fail
  refine hc.mono ?_;rintro e w' ⟨rfl,rfl⟩;clear hc;go_wp2;go_ret;refine⟨ret_bool ?_,HB.out⟩;unfold cok;rw[hq];rfl
 |true=>
  rw[hq]at hc;by_cases h2:0≤x.2
  ·go_enter Tryz.func125,Tryz.ntmps125
   go_wp2_with fail
   refine hc.mono ?_;rintro e w' ⟨rfl,rfl⟩;clear hc;go_wp2;go_ret;refine⟨ret_bool ?_,HB.out⟩;unfold cok;rw[hq];simp[h2]
  ·go_enter Tryz.func125,Tryz.ntmps125
   go_wp2_with fail
   refine hc.mono ?_;rintro e w' ⟨rfl,rfl⟩;clear hc;go_wp2;go_ret;refine⟨ret_bool ?_,HB.out⟩;unfold cok;rw[hq,decide_eq_false (show¬0≤x.2 by omega)];rfl
theorem wantOk_any(b bx n:Nat)(hn:n≤8)(x:Int×Int)(s:St)(hca:s.ca=(n:Int))(vc vw:Value)(w:World)(h:NB w b s vc vw)(hb:w.cell? ⟨bx,0,none⟩=some (.func (.func 123) #[] #[.pointer (some ⟨b,0,none⟩)]))(hbx:bx<w.heap.size):
  Calls Tryz.prog 127 #[.agg #[.int .i64 x.1,.int .i64 x.2],.pointer (some ⟨bx,0,none⟩),.pointer (some ⟨b,0,none⟩)] w fun e w'=>e=.returned (.bool (wok s.fl n x))∧Below w.heap.size w w':=by
 have hb1:(w.alloc (.cells #[.int .i64 x.1,.int .i64 x.2] 131)).cell? ⟨bx,0,none⟩=some (.func (.func 123) #[] #[.pointer (some ⟨b,0,none⟩)]):=(Below.cell ((Below.refl _ w).alloc (Nat.le_refl _) _) (p:=⟨bx,0,none⟩) hbx).trans hb;have HC:Hid (∀W,NB W b s vc vw→Calls Tryz.prog 123 #[.int .i64 x.1,.pointer (some ⟨b,0,none⟩)] W fun e w'=>e=.returned (.bool (decide (0≤x.1)&&decide (x.1<s.fl)))∧w'=W):=fun W hW=>hasFloor_any b x.1 s vc vw W hW;have hN:=h.alloc (.cells #[.int .i64 x.1,.int .i64 x.2] 131);have c1:(w.alloc (.cells #[.int .i64 x.1,.int .i64 x.2] 131)).cell? ⟨b,1,none⟩=some (.int .i64 (n:Int)):=by rw[hN.cell,←hca];rfl
 have HB:=Hd ((Below.refl w.heap.size w).alloc (Nat.le_refl _) (.cells #[.int .i64 x.1,.int .i64 x.2] 131));have HN:=Hd hN;clear h hb hN hca;cases hq:(decide (0≤x.1)&&decide (x.1<s.fl))with
 |false=>
  rw[hq]at HC
  go_enter Tryz.func127,Tryz.ntmps127
  go_wp2_with fail
  go_quiet (exact Calls.quiet_of_same (HC.out _ (HN.out.drewN _)))
  go_wp2;go_ret;refine⟨ret_bool ?_,below_drewN HB.out _⟩;unfold wok;rw[hq];rfl
 |true=>
  rw[hq]at HC;by_cases h2:0<x.2
  ·go_enter Tryz.func127,Tryz.ntmps127
   go_wp2_with fail
   go_quiet (exact Calls.quiet_of_same (HC.out _ (HN.out.drewN _)))
   go_wp2;go_ret;refine⟨ret_bool ?_,below_drewN HB.out _⟩;unfold wok;rw[hq];simp[h2,pow_wrap hn]
  ·have h3:decide (0<x.2)=false:=decide_eq_false h2;clear h2
   go_enter Tryz.func127,Tryz.ntmps127
   go_wp2_with fail
   go_quiet (exact Calls.quiet_of_same (HC.out _ (HN.out.drewN _)))
   go_wp2;go_ret;refine⟨ret_bool ?_,below_drewN HB.out _⟩;unfold wok;rw[hq,h3];rfl
def Pr(g:Nat)(lb:Array Value)(p:Int×Int→Bool)(w:World):Prop:=
 ∀(W:World) (x:Int×Int),Below w.heap.size w W→Calls Tryz.prog g (#[.agg #[.int .i64 x.1,.int .i64 x.2]]++lb) W fun e w'=>e=.returned (.bool (p x))∧Below W.heap.size W w'
theorem all_take{α:Type}{p:α→Bool}{l:List α}{k:Nat}{x:α}(hk:l[k]?=some x):(l.take (k+1)).all p=((l.take k).all p&&p x):=by
 rw[List.take_add_one,hk,List.all_append];simp
theorem all_not{α:Type}{p:α→Bool}{l:List α}{k:Nat}{x:α}(hk:l[k]?=some x)(hx:p x=false):l.all p=false:=by
 cases h:l.all p
 ·rfl
 ·rw[List.all_eq_true.1 h x (List.mem_of_getElem? hk)]at hx;cases hx
theorem everyR(g:Nat)(lb:Array Value)(p:Int×Int→Bool)(eg:∀args w,(callFunc g args).run Tryz.prog w=.ok (.enter g args) w)(D:Nat→Prop)(v:Value)(L:List (Int×Int))(w:World)(hR:R2 D w v L)(hL:L.length≤200)(hp:Pr g lb p w):
  Calls Tryz.prog 124 #[v,.func (.func g) #[] lb] w fun e w'=>e=.returned (.bool (L.all p))∧Below w.heap.size w w':=by
 obtain⟨a,cap,rfl,hcap,_⟩:=hR.form;generalize hn:L.length=n at hcap hL;have HN:Hid (L.length=n):=hn;have HR:Hid (R2 D w (.slice a L.length cap) L):=hR;have HP:Hid (Pr g lb p w):=hp;clear hn hR hp
 go_enter Tryz.func124,Tryz.ntmps124
 go_wp2
 go_loopw [6,9] (fun _ i wr=>∃k:Nat,k≤n∧i=.int .i64 k∧Below w.heap.size w wr∧Hid ((L.take k).all p=true)) (fun _ i _=>n-(intOf i).toNat)
 case atStart=>exact⟨0,Nat.zero_le _,rfl,Below.refl _ _,rfl⟩
 case round=>
  obtain⟨k,hk,rfl,hbel,HNO⟩:=hrel;by_cases hlt2:k<n
  ·have hkz:(k:Int)<(n:Int):=by omega
   obtain⟨y,hy⟩:∃y,L[k]?=some y:=⟨_,List.getElem?_eq_getElem (by have:=HN.out;omega)⟩;obtain⟨gb,o,rfl,c0,c1⟩:=(HR.out.below' hbel).at hy;have HBEL:=Hd hbel;have HY:=Hd hy;have hb1:Below wr.heap.size wr (wr.alloc (.cells #[.int .i64 y.1,.int .i64 y.2] 127)):=(Below.refl _ _).alloc (Nat.le_refl _) _;have hc:=HP.out _ y (below_class hbel hb1);have HB1:=Hd (below_class hbel hb1);clear hbel hy hb1;cases hq:p y with
   |true=>
    rw[hq]at hc
    go_wp2_with (go_at_fn g;refine hc.mono ?_;rintro e w' ⟨rfl,hb'⟩)
    go_roundw
    case rel=>exact⟨k+1,by omega,by go_num,below_class HB1.out hb',by rw[all_take HY.out,HNO.out,hq];rfl⟩
    case measure=>simp[intOf];omega
   |false=>
    rw[hq]at hc
    go_wp2_with (go_at_fn g;refine hc.mono ?_;rintro e w' ⟨rfl,hb'⟩)
    go_ret;exact⟨ret_bool (all_not HY.out hq).symm,below_class HB1.out hb'⟩
  ·have HKN:Hid (k=n):=by show k=n;omega
   have hkz:¬(k:Int)<(n:Int):=by omega
   go_wp2;go_ret;refine⟨ret_bool ?_,hbel⟩;have h1:=HNO.out;rw[HKN.out,←HN.out,List.take_length]at h1;exact h1.symm
theorem everyW(g:Nat)(lb:Array Value)(p:Int×Int→Bool)(eg:∀args w,(callFunc g args).run Tryz.prog w=.ok (.enter g args) w)(D:Nat→Prop)(v:Value)(L:List (Int×Int))(w:World)(hR:R2 D w v L)(hL:L.length≤200)(hp:Pr g lb p w):
  Calls Tryz.prog 126 #[v,.func (.func g) #[] lb] w fun e w'=>e=.returned (.bool (L.all p))∧Below w.heap.size w w':=by
 obtain⟨a,cap,rfl,hcap,_⟩:=hR.form;generalize hn:L.length=n at hcap hL;have HN:Hid (L.length=n):=hn;have HR:Hid (R2 D w (.slice a L.length cap) L):=hR;have HP:Hid (Pr g lb p w):=hp;clear hn hR hp
 go_enter Tryz.func126,Tryz.ntmps126
 go_wp2
 go_loopw [6,9] (fun _ i wr=>∃k:Nat,k≤n∧i=.int .i64 k∧Below w.heap.size w wr∧Hid ((L.take k).all p=true)) (fun _ i _=>n-(intOf i).toNat)
 case atStart=>exact⟨0,Nat.zero_le _,rfl,Below.refl _ _,rfl⟩
 case round=>
  obtain⟨k,hk,rfl,hbel,HNO⟩:=hrel;by_cases hlt2:k<n
  ·have hkz:(k:Int)<(n:Int):=by omega
   obtain⟨y,hy⟩:∃y,L[k]?=some y:=⟨_,List.getElem?_eq_getElem (by have:=HN.out;omega)⟩;obtain⟨gb,o,rfl,c0,c1⟩:=(HR.out.below' hbel).at hy;have HBEL:=Hd hbel;have HY:=Hd hy;have hb1:Below wr.heap.size wr (wr.alloc (.cells #[.int .i64 y.1,.int .i64 y.2] 131)):=(Below.refl _ _).alloc (Nat.le_refl _) _;have hc:=HP.out _ y (below_class hbel hb1);have HB1:=Hd (below_class hbel hb1);clear hbel hy hb1;cases hq:p y with
   |true=>
    rw[hq]at hc
    go_wp2_with (go_at_fn g;refine hc.mono ?_;rintro e w' ⟨rfl,hb'⟩)
    go_roundw
    case rel=>exact⟨k+1,by omega,by go_num,below_class HB1.out hb',by rw[all_take HY.out,HNO.out,hq];rfl⟩
    case measure=>simp[intOf];omega
   |false=>
    rw[hq]at hc
    go_wp2_with (go_at_fn g;refine hc.mono ?_;rintro e w' ⟨rfl,hb'⟩)
    go_ret;exact⟨ret_bool (all_not HY.out hq).symm,below_class HB1.out hb'⟩
  ·have HKN:Hid (k=n):=by show k=n;omega
   have hkz:¬(k:Int)<(n:Int):=by omega
   go_wp2;go_ret;refine⟨ret_bool ?_,hbel⟩;have h1:=HNO.out;rw[HKN.out,←HN.out,List.take_length]at h1;exact h1.symm
structure Rx(w W:World)(b bx:Nat)(s:Sn)(vc vw:Value):Prop where
 nb:NB W b s.st vc vw
 hf:W.cell? ⟨bx,0,none⟩=some (.func (.func 123) #[] #[.pointer (some ⟨b,0,none⟩)])
 lt:bx<W.heap.size
 bel:Below w.heap.size w W
theorem Rx.next{w W W':World}{b bx:Nat}{s:Sn}{vc vw:Value}(h:Rx w W b bx s vc vw)(hb:Below W.heap.size W W'):Rx w W' b bx s vc vw:=
 ⟨h.nb.below' hb,(hb.cell (p:=⟨bx,0,none⟩) h.lt).trans h.hf,Nat.lt_of_lt_of_le h.lt hb.size,below_class h.bel hb⟩
theorem ca_nat{s:St}(r:SM.Rt s):∃n:Nat,n≤8∧1≤n∧s.ca=(n:Int):=⟨s.ca.toNat,by have:=r.ca2;omega,by have:=r.ca1;omega,by have:=r.ca1;omega⟩
theorem snapRight_any(s:Sn)(D:Nat→Prop)(vc vw:Value)(w:World)(hc:R2 D w vc s.cs)(hw:R2 D w vw s.ws):
  Calls Tryz.prog 88 #[.agg (nv s.st vc vw).toArray] w fun e w'=>e=.returned (.bool (rgt s))∧Below w.heap.size w w':=by
 have hmf:∀(fn:Fn) (first cap:Array Value) (w:World),(Instr.makeFunc fn first cap).run Tryz.prog w=.ok (.func fn first cap) w:=fun _ _ _ _=>rfl;have HC:=Hd hc;have HW:=Hd hw;obtain⟨ac,kc,rfl,_,_⟩:=hc.form;obtain⟨aw,kw,rfl,_,_⟩:=hw.form;clear hc hw;have HN:=Hd (NB.new w s.st (.slice ac s.cs.length kc) (.slice aw s.ws.length kw));have HB:=Hd ((Below.refl w.heap.size w).alloc (Nat.le_refl _) (.cells (nv s.st (.slice ac s.cs.length kc) (.slice aw s.ws.length kw)).toArray 100))
 go_enter Tryz.func88,Tryz.ntmps88
 go_wp2_with (refine wpList_load23n rfl _ rfl w.heap.size s.st _ _ rfl HN.out ?_)
 refine (right_any s.st _).mono ?_;rintro e W1 ⟨rfl,hb1⟩;have HN1:=Hd (HN.out.below' hb1);have HB1:=Hd (below_class HB.out hb1);clear hb1;cases hr:rightB s.st with
 |false=>
  go_wp2;go_ret;exact⟨ret_bool (by unfold rgt;rw[hr];rfl),HB1.out⟩
 |true=>
  have c1:W1.cell? ⟨w.heap.size,1,none⟩=some (.int .i64 s.st.ca):=HN1.out.cell 1;have c13:W1.cell? ⟨w.heap.size,13,none⟩=some (.slice ac s.cs.length kc):=HN1.out.cell 13;have c14:W1.cell? ⟨w.heap.size,14,none⟩=some (.slice aw s.ws.length kw):=HN1.out.cell 14;by_cases h1:(s.cs.length:Int)=s.st.ca
  ·by_cases h2:s.ws.length≤128
   ·have hb1:((s.cs.length:Int) !=s.st.ca)=false:=by simp[h1]
    have hb2:decide ((128:Int)<(s.ws.length:Int))=false:=decide_eq_false (by omega);have H1:=Hd h1;have HR:=Hd hr;clear h1 hr
    have HX:Hid (Rx w (W1.alloc (.cells #[.func (.func 123) #[] #[.pointer (some ⟨w.heap.size,0,none⟩)]] 77)) w.heap.size W1.heap.size s (.slice ac s.cs.length kc) (.slice aw s.ws.length kw)):=by
     have hb:=(Below.refl W1.heap.size W1).alloc (Nat.le_refl _) (.cells #[.func (.func 123) #[] #[.pointer (some ⟨w.heap.size,0,none⟩)]] 77);exact⟨HN1.out.below' hb,by rw[cell_of_row _ _ 0 _ _ _ (heap_alloc_new W1 _)];rfl,by simp,below_class HB1.out hb⟩
    have d13:(W1.alloc (.cells #[.func (.func 123) #[] #[.pointer (some ⟨w.heap.size,0,none⟩)]] 77)).cell? ⟨w.heap.size,13,none⟩=some (.slice ac s.cs.length kc):=HX.out.nb.cell 13
    go_wp2_with fail
    have eg2:∀args w,(callFunc 125 args).run Tryz.prog w=.ok (.enter 125 args) w:=by intro args w;simp[go_sem]
    have eg3:∀args w,(callFunc 127 args).run Tryz.prog w=.ok (.enter 127 args) w:=by intro args w;simp[go_sem]
    obtain⟨n,hn8,_,hca⟩:=ca_nat ((rightB_iff _).1 HR.out);have HCA:=Hd hca;clear d13 c1 c13 c14 hca;generalize (W1.alloc (.cells #[.func (.func 123) #[] #[.pointer (some ⟨w.heap.size,0,none⟩)]] 77))=W2 at HX⊢;refine (everyR 125 #[.pointer (some ⟨W1.heap.size,0,none⟩)] (cok s.st.fl) eg2 D _ s.cs W2 (HC.out.below' HX.out.bel) (by have:=H1.out;have:=HCA.out;omega) (fun W x hb=>carOk_any w.heap.size W1.heap.size x s.st _ _ W (HX.out.next hb).nb (HX.out.next hb).hf (HX.out.next hb).lt)).mono ?_;rintro e W3 ⟨rfl,hb3⟩;have HX3:=Hd (HX.out.next hb3);have d14:W3.cell? ⟨w.heap.size,14,none⟩=some (.slice aw s.ws.length kw):=HX3.out.nb.cell 14;clear hb3 HX;cases hq:s.cs.all (cok s.st.fl)with
    |false=>
     go_wp2;go_ret;exact⟨ret_bool (by unfold rgt;rw[HR.out,hq];simp),HX3.out.bel⟩
    |true=>
     go_wp2_with fail
     refine (everyW 127 #[.pointer (some ⟨W1.heap.size,0,none⟩),.pointer (some ⟨w.heap.size,0,none⟩)] (wok s.st.fl n) eg3 D _ s.ws W3 (HW.out.below' HX3.out.bel) (by omega) (fun W x hb=>wantOk_any w.heap.size W1.heap.size n hn8 x s.st HCA.out _ _ W (HX3.out.next hb).nb (HX3.out.next hb).hf (HX3.out.next hb).lt)).mono ?_;rintro e W4 ⟨rfl,hb4⟩;have HB4:=Hd (below_class HX3.out.bel hb4);clear hb4;go_wp2;go_ret;refine⟨ret_bool ?_,HB4.out⟩;unfold rgt;rw[HR.out,hq,H1.out,HCA.out];simp[h2]
   ·have hb1:((s.cs.length:Int) !=s.st.ca)=false:=by simp[h1]
    have hb2:decide ((128:Int)<(s.ws.length:Int))=true:=decide_eq_true (by omega);have HR:=Hd hr;clear h1 hr;go_wp2;go_ret;exact⟨ret_bool (by unfold rgt;rw[decide_eq_false h2];simp),HB1.out⟩
  ·have hb1:((s.cs.length:Int) !=s.st.ca)=true:=by simp[h1]
   have HR:=Hd hr;have H1:=Hd h1;clear h1 hr;go_wp2;go_ret;exact⟨ret_bool (by unfold rgt;rw[decide_eq_false H1.out];simp),HB1.out⟩
def bv(st:List Bool):List Value:=st.map Value.bool
theorem bv_some{st:List Bool}{i:Nat}{x:Bool}(h:st[i]?=some x):(bv st)[i]?=some (.bool x):=by
 unfold bv;rw[List.getElem?_map,h];rfl
theorem bv_set(st:List Bool)(i:Nat)(x:Bool):(bv st).set i (.bool x)=bv (st.set i x):=by unfold bv;rw[List.map_set]
theorem blk_set{W:World}{b:Nat}{C:List Value}{t:TypeId}(h:W.heap[b]?=some (.cells C.toArray t (0,0)))(i:Nat)(v:Value):(W.setCell ⟨b,i,none⟩ v).heap[b]?=some (.cells (C.set i v).toArray t (0,0)):=by
 simp only[World.setCell,Array.getElem?_modify,if_true,h];simp
theorem blk_cell{W:World}{b:Nat}{C:List Value}{t:TypeId}(h:W.heap[b]?=some (.cells C.toArray t (0,0)))(i:Nat):W.cell? ⟨b,i,none⟩=C[i]?:=by
 simp[World.cell?,h]
theorem blk_fr{W:World}{b:Nat}{C:List Value}{t:TypeId}(h:W.heap[b]?=some (.cells C.toArray t (0,0)))(i:Nat):W.frozen? ⟨b,i,none⟩=false:=by
 simp[World.frozen?,h]
structure Dq(W:World)(B b sb lb:Nat)(vw:Value)(vs:List Value)(G:Nat→Prop)(ws:List (Int×Int))(st:List Bool)(ls:List (List Int)):Prop where
 hb:W.heap[b]?=some (.cells [vw,.slice (some ⟨sb,0,none⟩) st.length st.length,.slice (some ⟨lb,0,none⟩) ls.length ls.length].toArray 248 (0,0))
 hs:W.heap[sb]?=some (.cells (bv st).toArray 4 (0,0))
 hl:W.heap[lb]?=some (.cells vs.toArray 90 (0,0))
 vl:vs.length=ls.length
 n1:b≠sb
 n2:b≠lb
 n3:sb≠lb
 own:∀(c:Nat) v l,vs[c]?=some v→ls[c]?=some l→OI W B v l
 far:∀(c:Nat) v g,vs[c]?=some v→v.ownBlock=some g→g≠b∧g≠sb∧g≠lb
 dis:∀(c d:Nat) v u g,vs[c]?=some v→vs[d]?=some u→v.ownBlock=some g→u.ownBlock=some g→c=d
 l1:B≤b
 l2:B≤sb
 l3:B≤lb
 rw:R2 G W vw ws
 gb:∀g,G g→g<B
def fp(b sb lb:Nat)(vs:List Value)(k:Nat):Prop:=k=b∨k=sb∨k=lb∨∃(c:Nat) (v:Value),vs[c]?=some v∧v.ownBlock=some k
section
variable {W W':World} {B b sb lb:Nat} {vw:Value} {vs:List Value} {G:Nat→Prop} {ws:List (Int×Int)} {st:List Bool} {ls:List (List Int)}
theorem Dq.list(h:Dq W B b sb lb vw vs G ws st ls){c:Nat}{v:Value}(hv:vs[c]?=some v):∃l,ls[c]?=some l∧OI W B v l:=by
 have hc:c<ls.length:=by rw[←h.vl];exact(List.getElem?_eq_some_iff.1 hv).1
 exact⟨_,List.getElem?_eq_getElem hc,h.own c v _ hv (List.getElem?_eq_getElem hc)⟩
theorem Dq.val(h:Dq W B b sb lb vw vs G ws st ls){c:Nat}{l:List Int}(hl:ls[c]?=some l):∃v,vs[c]?=some v∧OI W B v l:=by
 have hc:c<vs.length:=by rw[h.vl];exact(List.getElem?_eq_some_iff.1 hl).1
 exact⟨_,List.getElem?_eq_getElem hc,h.own c _ _ (List.getElem?_eq_getElem hc) hl⟩
theorem Dq.fp_lo(h:Dq W B b sb lb vw vs G ws st ls){k:Nat}(hk:fp b sb lb vs k):B≤k∧k<W.heap.size:=by
 rcases hk with rfl|rfl|rfl|⟨c,v,hv,hk⟩
 ·exact⟨h.l1,(Array.getElem?_eq_some_iff.1 h.hb).1⟩
 ·exact⟨h.l2,(Array.getElem?_eq_some_iff.1 h.hs).1⟩
 ·exact⟨h.l3,(Array.getElem?_eq_some_iff.1 h.hl).1⟩
 ·obtain⟨l,_,ho⟩:=h.list hv;exact ho.lt k hk
theorem Dq.keep(h:Dq W B b sb lb vw vs G ws st ls)(hz:W.heap.size≤W'.heap.size)(hk:∀k,k<W.heap.size→fp b sb lb vs k∨G k→W'.heap[k]?=W.heap[k]?):Dq W' B b sb lb vw vs G ws st ls:=
 ⟨(hk b (h.fp_lo (.inl rfl)).2 (.inl (.inl rfl))).trans h.hb,(hk sb (h.fp_lo (.inr (.inl rfl))).2 (.inl (.inr (.inl rfl)))).trans h.hs,(hk lb (h.fp_lo (.inr (.inr (.inl rfl)))).2 (.inl (.inr (.inr (.inl rfl))))).trans h.hl,h.vl,h.n1,h.n2,h.n3,
  fun c v l hv hl=>(h.own c v l hv hl).keep fun g hg=>hk g ((h.own c v l hv hl).lt g hg).2 (.inl (.inr (.inr (.inr ⟨c,v,hv,hg⟩)))),h.far,h.dis,h.l1,h.l2,h.l3,h.rw.keep hz fun g hg hlt=>hk g hlt (.inr hg),h.gb⟩
theorem Dq.below'(h:Dq W B b sb lb vw vs G ws st ls)(hb:Below W.heap.size W W'):Dq W' B b sb lb vw vs G ws st ls:=h.keep hb.size fun k hk _=>hb.block k hk
theorem Dq.alloc(h:Dq W B b sb lb vw vs G ws st ls)(o:Obj):Dq (W.alloc o) B b sb lb vw vs G ws st ls:=h.below' ((Below.refl _ _).alloc (Nat.le_refl _) o)
theorem Dq.drew(h:Dq W B b sb lb vw vs G ws st ls):Dq W.drew B b sb lb vw vs G ws st ls:=h.below' (Below.refl _ _).drew
theorem Dq.drewN(h:Dq W B b sb lb vw vs G ws st ls)(n:Nat):Dq (W.drewN n) B b sb lb vw vs G ws st ls:=h.below' (below_drewN (Below.refl _ _) n)
theorem Dq.c0(h:Dq W B b sb lb vw vs G ws st ls):W.cell? ⟨b,0,none⟩=some vw:=blk_cell h.hb 0
theorem Dq.c1(h:Dq W B b sb lb vw vs G ws st ls):W.cell? ⟨b,1,none⟩=some (.slice (some ⟨sb,0,none⟩) st.length st.length):=blk_cell h.hb 1
theorem Dq.c2(h:Dq W B b sb lb vw vs G ws st ls):W.cell? ⟨b,2,none⟩=some (.slice (some ⟨lb,0,none⟩) ls.length ls.length):=blk_cell h.hb 2
theorem Dq.cs(h:Dq W B b sb lb vw vs G ws st ls){i:Nat}{x:Bool}(hi:st[i]?=some x):W.cell? ⟨sb,i,none⟩=some (.bool x):=(blk_cell h.hs i).trans (bv_some hi)
theorem Dq.cl(h:Dq W B b sb lb vw vs G ws st ls){i:Nat}{v:Value}(hi:vs[i]?=some v):W.cell? ⟨lb,i,none⟩=some v:=(blk_cell h.hl i).trans hi
theorem Dq.fs(h:Dq W B b sb lb vw vs G ws st ls)(i:Nat):W.frozen? ⟨sb,i,none⟩=false:=blk_fr h.hs i
theorem Dq.fl(h:Dq W B b sb lb vw vs G ws st ls)(i:Nat):W.frozen? ⟨lb,i,none⟩=false:=blk_fr h.hl i
theorem Dq.fp_l(h:Dq W B b sb lb vw vs G ws st ls):lb<W.heap.size:=(h.fp_lo (.inr (.inr (.inl rfl)))).2
theorem Dq.mark(h:Dq W B b sb lb vw vs G ws st ls)(i:Nat)(x:Bool):Dq (W.setCell ⟨sb,i,none⟩ (.bool x)) B b sb lb vw vs G ws (st.set i x) ls:=by
 have keep:∀k,k≠sb→(W.setCell ⟨sb,i,none⟩ (.bool x)).heap[k]?=W.heap[k]?:=fun k hk=>Below.heap_setCell W ⟨sb,i,none⟩ _ k hk;refine⟨?_,?_,(keep lb (Ne.symm h.n3)).trans h.hl,h.vl,h.n1,h.n2,h.n3,fun c v l hv hl=>(h.own c v l hv hl).keep fun g hg=>keep g (h.far c v g hv hg).2.1,h.far,h.dis,h.l1,h.l2,h.l3,h.rw.keep (by simp[World.setCell]) fun g hg _=>keep g (fun e=>by have:=h.gb g hg;have:=h.l2;omega),h.gb⟩
 ·rw[List.length_set];exact(keep b h.n1).trans h.hb
 ·rw[←bv_set];exact blk_set h.hs i _
theorem Dq.store(h:Dq W B b sb lb vw vs G ws st ls){W1:World}{c:Nat}{v v':Value}{l':List Int}(hv:vs[c]?=some v)(hz:W.heap.size≤W1.heap.size)(hW:∀k,k<W.heap.size→v.ownBlock≠some k→W1.heap[k]?=W.heap[k]?)
  (ho:OI W1 B v' l') (hn:∀g,v'.ownBlock=some g→v.ownBlock=some g∨W.heap.size≤g):Dq (W1.setCell ⟨lb,c,none⟩ v') B b sb lb vw (vs.set c v') G ws st (ls.set c l'):=by
 have keep:∀k,k≠lb→(W1.setCell ⟨lb,c,none⟩ v').heap[k]?=W1.heap[k]?:=fun k hk=>Below.heap_setCell W1 ⟨lb,c,none⟩ _ k hk;have hbl:=(h.fp_lo (k:=b) (.inl rfl)).2;have hsl:=(h.fp_lo (k:=sb) (.inr (.inl rfl))).2;have hll:=(h.fp_lo (k:=lb) (.inr (.inr (.inl rfl)))).2;have hcv:c<vs.length:=(List.getElem?_eq_some_iff.1 hv).1;have hcl:c<ls.length:=by rw[←h.vl];exact hcv
 have farv':∀g,v'.ownBlock=some g→g≠b∧g≠sb∧g≠lb:=fun g hg=>by
  rcases hn g hg with e|e
  ·exact h.far c v g hv e
  ·exact⟨by omega,by omega,by omega⟩
 refine⟨?_,?_,?_,by rw[List.length_set,List.length_set];exact h.vl,h.n1,h.n2,h.n3,?_,?_,?_,h.l1,h.l2,h.l3,?_,h.gb⟩
 ·rw[List.length_set,keep b h.n2,hW b hbl (fun e=>(h.far c v b hv e).1 rfl)];exact h.hb
 ·rw[keep sb h.n3,hW sb hsl (fun e=>(h.far c v sb hv e).2.1 rfl)];exact h.hs
 ·exact blk_set ((hW lb hll (fun e=>(h.far c v lb hv e).2.2 rfl)).trans h.hl) c v'
 ·intro d u l hu hl;by_cases e:c=d
  ·subst e;rw[List.getElem?_set_self hcv]at hu;rw[List.getElem?_set_self hcl]at hl;cases hu;cases hl;exact ho.keep fun g hg=>keep g (farv' g hg).2.2
  ·rw[List.getElem?_set_ne e]at hu hl;refine (h.own d u l hu hl).keep fun g hg=> ?_;rw[keep g (h.far d u g hu hg).2.2,hW g ((h.own d u l hu hl).lt g hg).2 (fun e2=>e (h.dis c d v u g hv hu e2 hg))]
 ·intro d u g hu hg;by_cases e:c=d
  ·subst e;rw[List.getElem?_set_self hcv]at hu;cases hu;exact farv' g hg
  ·rw[List.getElem?_set_ne e]at hu;exact h.far d u g hu hg
 ·have key:∀(d:Nat) u g,d≠c→vs[d]?=some u→u.ownBlock=some g→v'.ownBlock=some g→False:=fun d u g hd hu hg hg'=>by
   rcases hn g hg' with e|e
   ·exact hd (h.dis d c u v g hu hv hg e)
   ·obtain⟨l,_,hol⟩:=h.list hu;have:=(hol.lt g hg).2;omega
  intro d d' u u' g hu hu' hg hg';by_cases e:c=d
  ·subst e;rw[List.getElem?_set_self hcv]at hu;cases hu;by_cases e':c=d'
   ·exact e'
   ·rw[List.getElem?_set_ne e']at hu';exact(key d' u' g (Ne.symm e') hu' hg' hg).elim
  ·rw[List.getElem?_set_ne e]at hu;by_cases e':c=d'
   ·subst e';rw[List.getElem?_set_self hcv]at hu';cases hu';exact(key d u g (Ne.symm e) hu hg hg').elim
   ·rw[List.getElem?_set_ne e']at hu';exact h.dis d d' u u' g hu hu' hg hg'
 ·refine h.rw.keep (by simp[World.setCell];exact hz) fun g hg hlt=> ?_;have hB:=h.gb g hg;have h3:=h.l3
  rw[keep g (by omega),hW g hlt (fun e=>by
   obtain⟨l,_,hol⟩:=h.list hv;have:=(hol.lt g e).1
   omega)]
theorem fp_set{c:Nat}{v':Value}{k:Nat}(hk:fp b sb lb (vs.set c v') k):fp b sb lb vs k∨v'.ownBlock=some k:=by
 rcases hk with rfl|rfl|rfl|⟨d,u,hu,hk⟩
 ·exact .inl (.inl rfl)
 ·exact .inl (.inr (.inl rfl))
 ·exact .inl (.inr (.inr (.inl rfl)))
 ·by_cases e:c=d
  ·subst e;have hc:c<vs.length:=by have:=(List.getElem?_eq_some_iff.1 hu).1;rwa[List.length_set]at this
   rw[List.getElem?_set_self hc]at hu;cases hu;exact .inr hk
  ·rw[List.getElem?_set_ne e]at hu;exact .inl (.inr (.inr (.inr ⟨d,u,hu,hk⟩)))
theorem Dq.rl(h:Dq W B b sb lb vw vs G ws st ls):RL (fp b sb lb vs) W (.slice (some ⟨lb,0,none⟩) ls.length ls.length) ls:=by
 refine⟨_,_,rfl,Nat.le_refl _,(fun e=>by cases e),.inr ⟨lb,0,rfl,.inr (.inr (.inl rfl)),(h.fp_lo (.inr (.inr (.inl rfl)))).2,fun i l hl=> ?_⟩⟩;obtain⟨v,hv,ho⟩:=h.val hl;exact⟨v,by rw[Nat.zero_add];exact h.cl hv,ho.ri fun g hg=>.inr (.inr (.inr ⟨i,v,hv,hg⟩))⟩
end
structure Mk(ws:List (Int×Int))(ms:List Nat):Prop where
 len:ms.length=ws.length
 eq:∀(i:Nat) y,ws[i]?=some y→∃m,ms[i]?=some m∧y.2=(m:Int)
theorem bt_bits(m c:Nat):(bits .and .i64 ((m:Int)/2^c) 1==1)=PM.bt m c:=by
 have h:(m:Int)/2^c=((m/2^c:Nat):Int):=by rw[Int.natCast_ediv,Int.natCast_pow];rfl
 rw[h,i64_and1];unfold PM.bt;rw[Bool.eq_iff_iff];simp only[beq_iff_eq];omega
theorem step_appendI{ops:Array Oper}{o:Oper}{a:Act}{W:World}{K:Act→World→Prop}{Q:Exit→Act→World→Prop}{E:Prop}(hgd:o.guard=none)(s x:Operand)
  (ho:o.op=.call {callee:=.builtin .append,args:= #[s,x],argTypes:= #[90,90]}) (B:Nat) {v:Value} {M:List Int} {y:Int} {b c:Nat} (hs:a.eval s=v) (hR:OI W B v M) (hM:M.length≤1000000)
  (hx:a.eval x=.slice (some ⟨b,0,none⟩) 1 c) (hy:W.cell? ⟨b,0,none⟩=some (.int .i64 y)) (hB:B≤W.heap.size)
  (h:∀g cap W',OI W' B (.slice (some ⟨g,0,none⟩) (M.length+1) cap) (M++[y])→W.grownBy W' v.ownBlock→(v.ownBlock=some g∨g=W.heap.size)→K (a.put o.dst (.slice (some ⟨g,0,none⟩) (M.length+1) cap)) W'):
  if Region.wanted o (yielded ops a.tmps)=true then Oper.wp Tryz.prog o a W K Q else E:=by
 obtain⟨i0,hi,hz0,hz1,hz2⟩:=info_parts infoI;refine step_append_lies W hgd s x 90 ho B 3 i0 _ 1 8 Tryz.underlying90 hi hz0 hz1 hz2 rfl (by decide) v M.length (ic M) hs hR ⟨b,0,none⟩ 1 c (ic [y]) hx rfl ?_ (ic_one [y]) (by omega) (by unfold maxLen;omega) (by omega) hB W.heap.size rfl ?_
 ·intro j u hj;cases j with
  |zero=>
   simp[ic]at hj;subst hj;rw[Addr.add_mid];exact hy
  |succ j=>simp[ic]at hj
 ·intro g cap W' hown hg hat _;refine h g cap W' ?_ hg hat;unfold OI;rw[List.length_append,ic_append];exact hown
section
variable {W:World} {B b sb lb:Nat} {vw:Value} {vs:List Value} {G:Nat→Prop} {ws:List (Int×Int)} {st:List Bool} {ls:List (List Int)}
theorem mayTake_any(h:Dq W B b sb lb vw vs G ws st ls)(c i m:Nat)(x:Bool)(y:Int×Int)(hc:c≤8)(hx:st[i]?=some x)(hy:ws[i]?=some y)(hm:y.2=(m:Int)):
  Calls Tryz.prog 139 #[.pointer (some ⟨b,0,none⟩),.int .i64 (c:Int),.int .i64 (i:Int)] W fun e w'=>e=.returned (.bool (!x&&PM.bt m c))∧w'=W:=by
 obtain⟨aw,kw,rfl,_,_⟩:=h.rw.form;obtain⟨gw,ow,rfl,_,e1⟩:=h.rw.at hy;rw[hm]at e1;have c0:=h.c0;have c1:=h.c1;have d1:=h.cs hx;have hi:(i:Int)<(st.length:Int):=by have:=(List.getElem?_eq_some_iff.1 hx).1;omega
 have hj:(i:Int)<(ws.length:Int):=by have:=(List.getElem?_eq_some_iff.1 hy).1;omega
 have hsh:=shr_any m c (by omega);clear h hx hy hm;cases x
 ·go_enter Tryz.func139,Tryz.ntmps139
  go_wp2;go_ret;exact⟨ret_bool (bt_bits m c),rfl⟩
 ·go_enter Tryz.func139,Tryz.ntmps139
  go_wp2;go_ret;exact⟨rfl,rfl⟩
theorem take_any(h:Dq W B b sb lb vw vs G ws st ls)(c i:Nat)(x:Bool)(l:List Int)(hx:st[i]?=some x)(hl:ls[c]?=some l)(hll:l.length≤100000)(hBW:B≤W.heap.size):
  Calls Tryz.prog 140 #[.pointer (some ⟨b,0,none⟩),.int .i64 (c:Int),.int .i64 (i:Int)] W fun e w'=>(∃v,e=.returned v)∧∃vs',Dq w' B b sb lb vw vs' G ws (st.set i true) (ls.set c (l++[(i:Int)]))∧
   Kp (fp b sb lb vs) W w'∧∀k,fp b sb lb vs' k→fp b sb lb vs k∨W.heap.size≤k:=by
 obtain⟨v,hv,hov⟩:=h.val hl;have c1:=h.c1;have d1:=h.cs hx;have d2:=h.fs i;have hi:(i:Int)<(st.length:Int):=by have:=(List.getElem?_eq_some_iff.1 hx).1;omega
 have hj:(c:Int)<(ls.length:Int):=by have:=(List.getElem?_eq_some_iff.1 hl).1;omega
 have HM:=Hd (h.mark i true);have HK:=Hd ((Kp.refl (fp b sb lb vs) W).set sb i (.bool true) (fun _=>.inr (.inl rfl)));have c2:=HM.out.c2;have e2:=HM.out.cl hv;have HV:=Hd hv;have HL:=Hd hl;clear h hx hl hv
 go_enter Tryz.func140,Tryz.ntmps140
 go_wp2_with fail
 clear c1 d1 d2 hov;have HBZ:=Hd (show B≤(W.setCell ⟨sb,i,none⟩ (.bool true)).heap.size by simpa[World.setCell]using hBW);have HSZ:=Hd (show(W.setCell ⟨sb,i,none⟩ (.bool true)).heap.size=W.heap.size by simp[World.setCell]);generalize W.setCell ⟨sb,i,none⟩ (.bool true)=W7 at HM HK c2 e2 HBZ HSZ⊢;have HMA:=Hd (HM.out.drew.alloc (.cells #[.int .i64 (i:Int)] 3));have HZ:=Hd (HMA.out.own c v l HV.out HL.out)
 have HZC:Hid ((W7.drew.alloc (.cells #[.int .i64 (i:Int)] 3)).cell? ⟨W7.heap.size,0,none⟩=some (.int .i64 (i:Int))):=by
  show(W7.drew.alloc _).cell? ⟨W7.drew.heap.size,0,none⟩=_;rw[cell_of_row _ _ 0 _ _ _ (heap_alloc_new W7.drew _)];rfl
 have c2a:(W7.alloc (.cells #[.int .i64 (i:Int)] 3)).cell? ⟨b,2,none⟩=some (.slice (some ⟨lb,0,none⟩) ls.length ls.length):=HMA.out.c2;have e2a:(W7.alloc (.cells #[.int .i64 (i:Int)] 3)).cell? ⟨lb,c,none⟩=some v:=HMA.out.cl HV.out;have hne:some b≠v.ownBlock:=fun e=>(HM.out.far c v b HV.out e.symm).1 rfl;have hnl:some lb≠v.ownBlock:=fun e=>(HM.out.far c v lb HV.out e.symm).2.2 rfl
 go_region_law ((refine step_appendI (by rfl) (.tmp 23) (.tmp 25) (by rfl) B (y:=(i:Int)) (by rfl) HZ.out (by omega) (by rfl) HZC.out (by simp;exact Nat.le_succ_of_le HBZ.out) ?_;intro g' cap' W8 hr8 hg8 hat8;have r2:=hg8.cell c2a hne;have s2:=hg8.cell e2a hnl;have t2:=(hg8.frozen_far ⟨lb,c,none⟩ HMA.out.fp_l hnl).trans (HMA.out.fl c)))
 all_goals
  have hW8:Hid (∃vs',Dq (W8.setCell ⟨lb,c,none⟩ (.slice (some ⟨g',0,none⟩) (l.length+1) cap')) B b sb lb vw vs' G ws (st.set i true) (ls.set c (l++[(i:Int)]))∧
    Kp (fp b sb lb vs) W (W8.setCell ⟨lb,c,none⟩ (.slice (some ⟨g',0,none⟩) (l.length+1) cap'))∧∀k,fp b sb lb vs' k→fp b sb lb vs k∨W.heap.size≤k):=by
   have hs7:W7.heap.size=W.heap.size:=HSZ.out
   have hat:v.ownBlock=some g'∨W.heap.size≤g':=by
    rcases hat8 with h|h
    ·exact .inl h
    ·right;rw[h];show W.heap.size≤(W7.drew.alloc _).heap.size;simp;show W.heap.size≤W7.heap.size+1;omega
   refine⟨_,HMA.out.store HV.out hg8.size (fun k hk hne=>hg8.block k hk (fun e=>hne e.symm)) hr8 (fun g hg=> ?_),?_,fun k hk=> ?_⟩
   ·obtain rfl:g'=g:=by simpa[Value.ownBlock]using hg
    rcases hat8 with h|h
    ·exact .inl h
    ·right;rw[h];exact Nat.le_refl _
   ·exact(((HK.out.thenBelow ((Below.refl W7.heap.size W7).alloc (Nat.le_refl _) (.cells #[.int .i64 (i:Int)] 3))).drew).grown hg8 (fun k _ hk=>.inr (.inr (.inr ⟨c,v,HV.out,hk⟩)))).set lb c _ (fun _=>.inr (.inr (.inl rfl)))
   ·rcases fp_set hk with h|h
    ·exact .inl h
    ·obtain rfl:g'=k:=by simpa[Value.ownBlock]using h
     rcases hat with h|h
     ·exact .inl (.inr (.inr (.inr ⟨c,v,HV.out,h⟩)))
     ·exact .inr h
  clear hat8 hr8 hg8 r2 s2 t2 HMA HZ HZC c2a e2a c2 e2 HM HK HBZ HSZ;go_wp2
  go_end0
  exact⟨⟨_,rfl⟩,hW8.out⟩
end
section
variable {W:World} {B b sb lb:Nat} {vw:Value} {vs:List Value} {G:Nat→Prop} {ws:List (Int×Int)} {st:List Bool} {ls:List (List Int)}
theorem everyB(g n:Nat)(st:List Bool)(w:World)(hg:w.heap[g]?=some (.cells (bv st).toArray 4 (0,0)))(hn:st.length=n)(hL:n≤200):
  Calls Tryz.prog 163 #[.slice (some ⟨g,0,none⟩) n n,.func (.func 164) #[] #[]] w fun e w'=>e=.returned (.bool (st.all id))∧w'=w:=by
 have HG:=Hd hg;have HN:=Hd hn;clear hg hn
 go_enter Tryz.func163,Tryz.ntmps163
 go_wp2
 go_loop [6,9] (fun _ i=>∃k:Nat,k≤n∧i=.int .i64 k∧Hid ((st.take k).all id=true)) (fun _ i=>n-(intOf i).toNat)
 case atStart=>exact⟨0,Nat.zero_le _,rfl,rfl⟩
 case round=>
  obtain⟨k,hk,rfl,HNO⟩:=hrel;by_cases hlt2:k<n
  ·have hkz:(k:Int)<(n:Int):=by omega
   obtain⟨y,hy⟩:∃y,st[k]?=some y:=⟨_,List.getElem?_eq_getElem (by have:=HN.out;omega)⟩;have c0:w.cell? ⟨g,k,none⟩=some (.bool y):=(blk_cell HG.out k).trans (bv_some hy);have HY:=Hd hy;clear hy;cases y with
   |true=>
    go_wp2
    go_round
    case rel=>exact⟨k+1,by omega,by go_num,by rw[all_take HY.out,HNO.out];rfl⟩
    case measure=>simp[intOf];omega
   |false=>
    go_wp2;go_ret;exact⟨ret_bool (all_not HY.out rfl).symm,rfl⟩
  ·have HKN:Hid (k=n):=by show k=n;omega
   have hkz:¬(k:Int)<(n:Int):=by omega
   go_wp2;go_ret;refine⟨ret_bool ?_,rfl⟩;have h1:=HNO.out;rw[HKN.out,←HN.out,List.take_length]at h1;exact h1.symm
theorem nothingLeft_any(h:Dq W B b sb lb vw vs G ws st ls)(hwl:st.length≤200):
  Calls Tryz.prog 141 #[.pointer (some ⟨b,0,none⟩)] W fun e w'=>e=.returned (.bool (st.all id))∧w'=W:=by
 have c1:=h.c1;have HC:=Hd (everyB sb st.length st W h.hs rfl hwl);clear h
 go_enter Tryz.func141,Tryz.ntmps141
 go_wp2_with fail
 refine HC.out.mono ?_;rintro e w' ⟨rfl,rfl⟩;clear HC;go_wp2;go_ret;exact⟨rfl,rfl⟩
end
theorem made_one(z:Value)(hz:z.cells= #[z])(n:Nat):madeCells z.cells n=(List.replicate n z).toArray:=by
 apply Array.ext
 ·rw[size_madeCells];simp
 ·intro i h1 h2;simp only[madeCells,hz,List.getElem_toArray,List.getElem_replicate];simp[Nat.mod_one]
theorem info_h{t:TypeId}{v:Value}{a b:Nat}(h:(Tryz.prog.info? t).map (fun i=>(i.zero,i.size,i.bytes))=some (some v,a,b)):∃i,Tryz.prog.info? t=some i∧i.zero=some v∧i.size=a∧i.bytes=b:=by
 obtain⟨i,h1,h2⟩:=Option.map_eq_some_iff.1 h;simp only[Prod.mk.injEq]at h2;exact⟨i,h1,h2.1,h2.2.1,h2.2.2⟩
theorem infoHB:(Tryz.prog.info? 4).map (fun i=>(i.zero,i.size,i.bytes))=some (some (.bool false),1,1):=by kernel_rfl
theorem infoHL:(Tryz.prog.info? 90).map (fun i=>(i.zero,i.size,i.bytes))=some (some (.slice none 0 0),1,24):=by kernel_rfl
theorem infoHI:(Tryz.prog.info? 3).map (fun i=>(i.zero,i.size,i.bytes))=some (some (.int .i64 0),1,8):=by kernel_rfl
theorem mkB(n:Nat)(hn:n≤1000)(W:World):(Instr.makeSlice 246 (.int .i64 (n:Int)) (.int .i64 (n:Int))).run Tryz.prog W=.ok (.slice (some ⟨W.heap.size,0,none⟩) n n) (W.alloc (.cells (List.replicate n (Value.bool false)).toArray 4)):=by
 obtain⟨i,hi,h1,h2,h3⟩:=info_h infoHB
 have:=run_make (P:=Tryz.prog) W 246 4 i _ Tryz.underlying246 hi h1 .i64 .i64 (n:Int) (n:Int) (by omega) (by omega) (by
  have:(i.bytes:Int)*(n:Int)≤24*1000:=Int.mul_le_mul (by omega) (by omega) (by omega) (by omega)
  omega) (by omega)
 rw[this,h2,Int.toNat_natCast,made_one _ rfl,Nat.mul_one]
theorem mkL(n:Nat)(hn:n≤1000)(W:World):(Instr.makeSlice 104 (.int .i64 (n:Int)) (.int .i64 (n:Int))).run Tryz.prog W=.ok (.slice (some ⟨W.heap.size,0,none⟩) n n) (W.alloc (.cells (List.replicate n (Value.slice none 0 0)).toArray 90)):=by
 obtain⟨i,hi,h1,h2,h3⟩:=info_h infoHL
 have:=run_make (P:=Tryz.prog) W 104 90 i _ Tryz.underlying104 hi h1 .i64 .i64 (n:Int) (n:Int) (by omega) (by omega) (by
  have:(i.bytes:Int)*(n:Int)≤24*1000:=Int.mul_le_mul (by omega) (by omega) (by omega) (by omega)
  omega) (by omega)
 rw[this,h2,Int.toNat_natCast,made_one _ rfl,Nat.mul_one]
theorem mkI(n:Nat)(hn:n≤1000)(W:World):(Instr.makeSlice 90 (.int .i64 (n:Int)) (.int .i64 (n:Int))).run Tryz.prog W=.ok (.slice (some ⟨W.heap.size,0,none⟩) n n) (W.alloc (.cells (List.replicate n (Value.int .i64 0)).toArray 3)):=by
 obtain⟨i,hi,h1,h2,h3⟩:=info_h infoHI
 have:=run_make (P:=Tryz.prog) W 90 3 i _ Tryz.underlying90 hi h1 .i64 .i64 (n:Int) (n:Int) (by omega) (by omega) (by
  have:(i.bytes:Int)*(n:Int)≤24*1000:=Int.mul_le_mul (by omega) (by omega) (by omega) (by omega)
  omega) (by omega)
 rw[this,h2,Int.toNat_natCast,made_one _ rfl,Nat.mul_one]
theorem bv_rep(n:Nat):bv (List.replicate n false)=List.replicate n (Value.bool false):=by unfold bv;rw[List.map_replicate]
theorem heap3(w:World)(o1 o2 o3:Obj):(((w.alloc o1).alloc o2).alloc o3).heap[w.heap.size]?=some o1∧(((w.alloc o1).alloc o2).alloc o3).heap[w.heap.size+1]?=some o2∧(((w.alloc o1).alloc o2).alloc o3).heap[w.heap.size+1+1]?=some o3:=by
 have h1:=World.alloc_heap_new w o1;have h2:=World.alloc_heap_new (w.alloc o1) o2;have h3:=World.alloc_heap_new ((w.alloc o1).alloc o2) o3;rw[World.size_alloc]at h2;rw[World.size_alloc,World.size_alloc]at h3;exact⟨(Below.heap_alloc _ _ _ (by simp;omega)).trans ((Below.heap_alloc _ _ _ (by simp)).trans h1),(Below.heap_alloc _ _ _ (by simp)).trans h2,h3⟩
theorem Dq.new{W W':World}{G:Nat→Prop}{vw:Value}{ws:List (Int×Int)}{n m b sb lb:Nat}(hr:R2 G W vw ws)(hG:∀g,G g→g<W.heap.size)(hb:Below W.heap.size W W')
  (h1:W'.heap[b]?=some (.cells [vw,.slice (some ⟨sb,0,none⟩) m m,.slice (some ⟨lb,0,none⟩) n n].toArray 248 (0,0)))
  (h2:W'.heap[sb]?=some (.cells (List.replicate m (Value.bool false)).toArray 4 (0,0))) (h3:W'.heap[lb]?=some (.cells (List.replicate n (Value.slice none 0 0)).toArray 90 (0,0)))
  (n1:b≠sb) (n2:b≠lb) (n3:sb≠lb) (l1:W.heap.size≤b) (l2:W.heap.size≤sb) (l3:W.heap.size≤lb):
  Dq W' W.heap.size b sb lb vw (List.replicate n (Value.slice none 0 0)) G ws (List.replicate m false) (List.replicate n []):=by
 have hnil:∀(c:Nat) v,(List.replicate n (Value.slice none 0 0))[c]?=some v→v=.slice none 0 0:=fun c v hv=>by
  rw[List.getElem?_replicate]at hv;split at hv
  ·cases hv;rfl
  ·cases hv
 refine⟨by simpa using h1,by rw[bv_rep];exact h2,h3,by simp,n1,n2,n3,fun c v l hv hl=> ?_,fun c v g hv hg=> ?_,fun c d v u g hv hu hg=> ?_,l1,l2,l3,hr.below' hb,hG⟩
 ·rw[hnil c v hv];rw[List.getElem?_replicate]at hl;split at hl
  ·cases hl;exact OI.nil _ _
  ·cases hl
 ·rw[hnil c v hv]at hg;cases hg
 ·rw[hnil c v hv]at hg;cases hg
theorem newDraft_any(n:Nat)(hn:n≤1000)(G:Nat→Prop)(vw:Value)(ws:List (Int×Int))(w:World)(hr:R2 G w vw ws)(hG:∀g,G g→g<w.heap.size)(hws:ws.length≤1000):
  Calls Tryz.prog 138 #[.int .i64 (n:Int),vw] w fun e w'=>∃b sb lb,e=.returned (.pointer (some ⟨b,0,none⟩))∧
   Dq w' w.heap.size b sb lb vw (List.replicate n (Value.slice none 0 0)) G ws (List.replicate ws.length false) (List.replicate n [])∧Below w.heap.size w w':=by
 have HR:=Hd hr;have HG:=Hd hG;obtain⟨a,cap,rfl,_,_⟩:=hr.form;clear hr hG;generalize hm:ws.length=m at hws;rw[hm]at HR;have k1:=mkB m hws;have k2:=mkL n hn;clear hm
 go_enter Tryz.func138,Tryz.ntmps138
 go_wp2_with fail
 go_region
 ·have hb:Below w.heap.size w (((w.alloc (.cells (Array.replicate m (Value.bool false)) 4)).alloc (.cells (Array.replicate n (Value.slice none 0 0)) 90)).alloc (.cells #[.slice a m cap,.slice (some ⟨w.heap.size,0,none⟩) m m,.slice (some ⟨w.heap.size+1,0,none⟩) n n] 248)).drew:=
   ((((Below.refl _ w).alloc (Nat.le_refl _) _).alloc (by simp) _).alloc (by simp;omega) _).drew
  obtain⟨p1,p2,p3⟩:=heap3 w (.cells (Array.replicate m (Value.bool false)) 4) (.cells (Array.replicate n (Value.slice none 0 0)) 90) (.cells #[.slice a m cap,.slice (some ⟨w.heap.size,0,none⟩) m m,.slice (some ⟨w.heap.size+1,0,none⟩) n n] 248);have HQ:=Hd (And.intro (Dq.new (n:=n) (m:=m) (b:=w.heap.size+1+1) (sb:=w.heap.size) (lb:=w.heap.size+1) HR.out HG.out hb p3 (by rw[List.toArray_replicate];exact p1) (by rw[List.toArray_replicate];exact p2) (by omega) (by omega) (by omega) (by omega) (by omega) (by omega)) hb);clear hb p1 p2 p3 k1 k2;go_wp2;go_ret;exact⟨_,_,_,rfl,HQ.out.1,HQ.out.2⟩
 ·have hb:Below w.heap.size w (((w.alloc (.cells (Array.replicate n (Value.slice none 0 0)) 90)).alloc (.cells (Array.replicate m (Value.bool false)) 4)).alloc (.cells #[.slice a m cap,.slice (some ⟨w.heap.size+1,0,none⟩) m m,.slice (some ⟨w.heap.size,0,none⟩) n n] 248)).drew:=
   ((((Below.refl _ w).alloc (Nat.le_refl _) _).alloc (by simp) _).alloc (by simp;omega) _).drew
  obtain⟨p1,p2,p3⟩:=heap3 w (.cells (Array.replicate n (Value.slice none 0 0)) 90) (.cells (Array.replicate m (Value.bool false)) 4) (.cells #[.slice a m cap,.slice (some ⟨w.heap.size+1,0,none⟩) m m,.slice (some ⟨w.heap.size,0,none⟩) n n] 248);have HQ:=Hd (And.intro (Dq.new (n:=n) (m:=m) (b:=w.heap.size+1+1) (sb:=w.heap.size+1) (lb:=w.heap.size) HR.out HG.out hb p3 (by rw[List.toArray_replicate];exact p2) (by rw[List.toArray_replicate];exact p1) (by omega) (by omega) (by omega) (by omega) (by omega) (by omega)) hb);clear hb p1 p2 p3 k1 k2;go_wp2;go_ret;exact⟨_,_,_,rfl,HQ.out.1,HQ.out.2⟩
theorem wok_iff'{fl:Int}{n:Nat}{x:Int×Int}:wok fl n x=true↔0≤x.1∧x.1<fl∧0<x.2∧x.2<2^n:=by unfold wok;simp[and_assoc]
def msk(s:Sn):List Nat:=s.ws.map fun y=>y.2.toNat
structure Rs(s:Sn)(n:Nat):Prop where
 ca:s.st.ca=(n:Int)
 n1:1≤n
 n8:n≤8
 cl:s.cs.length=n
 wl:s.ws.length≤128
 mm:Mk s.ws (msk s)
 lt:∀m∈msk s,m<2^n
theorem rgt_rs{s:Sn}(h:rgt s=true):∃n,Rs s n:=by
 unfold rgt at h;simp only[Bool.and_eq_true,decide_eq_true_eq]at h;obtain⟨⟨⟨⟨h1,h2⟩,h3⟩,h4⟩,h5⟩:=h;obtain⟨n,hn8,hn1,hca⟩:=ca_nat ((rightB_iff _).1 h1);rw[hca,Int.toNat_natCast,List.all_eq_true]at h5
 have hlt:∀y∈s.ws,0<y.2∧y.2<2^n:=fun y hy=>by
  have:=wok_iff'.1 (h5 y hy);exact⟨this.2.2.1,this.2.2.2⟩
 refine⟨n,hca,hn1,hn8,by omega,h3,⟨by unfold msk;simp,fun i y hy=> ?_⟩,fun m hm=> ?_⟩
 ·have h6:=hlt y (List.mem_of_getElem? hy);exact⟨y.2.toNat,by unfold msk;rw[List.getElem?_map,hy];rfl,by omega⟩
 ·unfold msk at hm;obtain⟨y,hy,rfl⟩:=List.mem_map.1 hm;have h6:=hlt y hy;have h7:((2^n:Nat):Int)=2^n:=by rw[Int.natCast_pow];rfl
  omega
theorem quiet_val{P:Program}{C:World→Prop}{K:Act→Prop}{o:Oper}{a:Act}(v:Value)(hrun:∀w,C w→(execOp a.eval o).run P w=.ok (.value v) w)(h:K (a.put o.dst v)):o.quiet P a C K:=
 ⟨v,fun w hw=>by unfold Oper.quietAt;rw[hrun w hw];exact⟨rfl,rfl⟩,h⟩
theorem quiet_load3{C:World→Prop}{K:Act→Prop}{o:Oper}{a:Act}(x:Operand)(b k:Nat){v:Value}(ho:o.op=.load 3 x)(hx:a.eval x=.pointer (some ⟨b,k,none⟩))(hr:∀w,C w→w.cell? ⟨b,k,none⟩=some v)
  (h:K (a.put o.dst v)):o.quiet Tryz.prog a C K:=
 quiet_val _ (fun w hw=>by unfold execOp;simp only[ho,hx,Sem.run_bind,Sem.run_pure,Result.andThen_ok,load3 w b k v (hr w hw)]) h
theorem take_snoc{α:Type}{l:List α}{j:Nat}{y:α}(h:l[j]?=some y):l.take (j+1)=l.take j++[y]:=by rw[List.take_add_one,h];rfl
section
variable {P:Program} {ops:Array Oper} {md:Region.Mode} {W0:World}
def Calm(P:Program)(ops:Array Oper)(W0:World)(o:Oper)(v:Value)(a:Act):Prop:=
 (Region.wanted o (yielded ops a.tmps)=true∧∀w,Below W0.heap.size W0 w→o.quietAt P a (fun w2=>Below w.heap.size w w2) w v)∨
 (Region.wanted o (yielded ops a.tmps)=false∧v=undef)
theorem Calm.same{o:Oper}{v:Value}{a a':Act}(h:Calm P ops W0 o v a)(he:execOp a'.eval o=execOp a.eval o)(hw:Region.wanted o (yielded ops a'.tmps)=Region.wanted o (yielded ops a.tmps)):Calm P ops W0 o v a':=by
 unfold Calm Oper.quietAt at*;rw[he,hw];exact h
def Oper.calm(P:Program)(W0:World)(o:Oper)(a:Act)(K:Act→Prop):Prop:=
 ∃v,(∀w,Below W0.heap.size W0 w→o.quietAt P a (fun w2=>Below w.heap.size w w2) w v)∧K (a.put o.dst v)
def wpCalm(P:Program)(ops:Array Oper)(W0:World)(Q:Act→Prop):List Oper→Act→Prop
 |[],a=>Q a
 |o::rest,a=>if Region.wanted o (yielded ops a.tmps)then Oper.calm P W0 o a (wpCalm P ops W0 Q rest)else wpCalm P ops W0 Q rest (a.put o.dst undef)
theorem wpCalm_nil{Q:Act→Prop}{a:Act}(h:Q a):wpCalm P ops W0 Q [] a:=h
theorem wpCalm_mono{Q Q':Act→Prop}(hQ:∀a,Q a→Q' a):∀(l:List Oper) (a:Act),wpCalm P ops W0 Q l a→wpCalm P ops W0 Q' l a
 |[],a,h=>hQ a h
 |o::l,a,h=>by
  unfold wpCalm at*;split
  ·rename_i hw;rw[if_pos hw]at h;obtain⟨v,h1,h2⟩:=h;exact⟨v,h1,wpCalm_mono hQ l _ h2⟩
  ·rename_i hw;rw[if_neg hw]at h;exact wpCalm_mono hQ l _ h
theorem wpCalm_cons{Q:Act→Prop}{a:Act}{o:Oper}{rest:List Oper}(h:wpCalm P ops W0 Q (o::rest) a):∃v,Calm P ops W0 o v a∧wpCalm P ops W0 Q rest (a.put o.dst v):=by
 unfold wpCalm at h;by_cases hw:Region.wanted o (yielded ops a.tmps)=true
 ·rw[if_pos hw]at h;obtain⟨v,h1,h2⟩:=h;exact⟨v,.inl ⟨hw,h1⟩,h2⟩
 ·rw[if_neg hw]at h;exact⟨undef,.inr ⟨by simpa using hw,rfl⟩,h⟩
def rdy(md:Region.Mode)(ops:Array Oper)(n:Nat)(done:Nat→Bool)(i:Nat):Prop:=
 i<n∧done i=false∧∃o,ops[i]?=some o∧∀e∈o.after,Region.binds md e=true→done e.on=true
def more(done:Nat→Bool)(i:Nat):Nat→Bool:=fun j=>if j=i then true else done j
theorem more_ne{done:Nat→Bool}{i j:Nat}(h:j≠i):more done i j=done j:=if_neg h
theorem more_true{done:Nat→Bool}{i j:Nat}(h:done j=true):more done i j=true:=by unfold more;split<;>first|rfl|exact h
theorem more_comm(done:Nat→Bool)(i j:Nat):more (more done i) j=more (more done j) i:=by
 funext k;unfold more;split<;>split<;>rfl
theorem rdy_more{n:Nat}{done:Nat→Bool}{i j:Nat}(h:rdy md ops n done j)(hne:j≠i):rdy md ops n (more done i) j:=by
 obtain⟨h1,h2,o,ho,hall⟩:=h;exact⟨h1,by rw[more_ne hne];exact h2,o,ho,fun e he hb=>more_true (hall e he hb)⟩
def AnyF(P:Program)(md:Region.Mode)(ops:Array Oper)(W0:World)(n:Nat)(Q:Act→Prop):Nat→(Nat→Bool)→Act→Prop
 |0,done,a=>(∀i,i<n→done i=true)∧Q a
 |f+1,done,a=>(∃i,rdy md ops n done i)∧∀i o,ops[i]?=some o→rdy md ops n done i→∃v,Calm P ops W0 o v a∧AnyF P md ops W0 n Q f (more done i) (a.put o.dst v)
theorem anyF_first{n:Nat}{Q:Act→Prop}{i:Nat}{oi:Oper}{v:Value}(hi:ops[i]?=some oi)(hsel:∀(j:Nat) (o:Oper) cs b,ops[j]?=some o→o.op≠.select cs b):
  ∀(f:Nat) (done:Nat→Bool) (a:Act),
   (∀j oj,ops[j]?=some oj→j<n→j≠i→done j=false→(∀e∈oj.after,Region.binds md e=true→e.on≠i)→oi.apart ops oj=true)→
   rdy md ops n done i→Calm P ops W0 oi v a→AnyF P md ops W0 n Q f (more done i) (a.put oi.dst v)→AnyF P md ops W0 n Q (f+1) done a:=by
 intro f
 induction f with
 |zero=>
  intro done a _ hr hy H;refine⟨⟨i,hr⟩,fun j oj hj hrj=> ?_⟩;by_cases hji:j=i
  ·subst hji;obtain rfl:oi=oj:=Option.some.inj (hi.symm.trans hj);exact⟨v,hy,H⟩
  ·have h1:=H.1 j hrj.1;rw[more_ne hji,hrj.2.1]at h1;cases h1
 |succ f ih=>
  intro done a hfree hr hy H;refine⟨⟨i,hr⟩,fun j oj hj hrj=> ?_⟩;by_cases hji:j=i
  ·subst hji;obtain rfl:oi=oj:=Option.some.inj (hi.symm.trans hj);exact⟨v,hy,H⟩
  ·obtain⟨u,hu,hn⟩:=H.2 j oj hj (rdy_more hrj hji)
   have hno:∀e∈oj.after,Region.binds md e=true→e.on≠i:=fun e he hb heq=>by
    obtain⟨_,_,o',ho',hall⟩:=hrj;obtain rfl:o'=oj:=Option.some.inj (ho'.symm.trans hj);have h1:=hall e he hb;rw[heq,hr.2.1]at h1;cases h1
   obtain⟨h1,h2,h3⟩:=Oper.apart_spec (hfree j oj hj hrj.1 hji hrj.2.1 hno);have k1:Calm P ops W0 oj u a:=hu.same (execOp_put oj (fun cs b=>hsel j oj cs b hj) a oi.dst v h1).symm (wanted_put oj a oi.dst v h1).symm;have k2:Calm P ops W0 oi v (a.put oj.dst u):=hy.same (execOp_put oi (fun cs b=>hsel i oi cs b hi) a oj.dst u h3) (wanted_put oi a oj.dst u h3);refine⟨u,k1,ih (more done j) (a.put oj.dst u) (fun k ok hk hkn hki hun hno'=>hfree k ok hk hkn hki ?_ hno') (rdy_more hr (Ne.symm hji)) k2 ?_⟩
   ·by_cases hkj:k=j
    ·subst hkj;exact hrj.2.1
    ·rwa[more_ne hkj]at hun
   ·rw[more_comm,←Act.put_comm a v u h2];exact hn
def headB(md:Region.Mode)(ops:Array Oper)(n:Nat):Bool:=
 (List.range n).all fun i=>match ops[i]? with
  |none=>false
  |some oi=>(oi.after.all fun e=> !Region.binds md e||decide (e.on<i))&&(List.range n).all fun j=>decide (j≤i)||Region.waitsFor md ops j i||match ops[j]? with
   |none=>true
   |some oj=>oi.apart ops oj
theorem headB_on{n i:Nat}{oi:Oper}(h:headB md ops n=true)(hi:i<n)(ho:ops[i]?=some oi):∀e∈oi.after,Region.binds md e=true→e.on<i:=fun e he hb=>by
 have h1:=List.all_eq_true.1 h i (List.mem_range.2 hi);simp only[ho,Bool.and_eq_true]at h1;have h2:=Array.all_eq_true_iff_forall_mem.1 h1.1 e he;simpa[hb]using h2
theorem headB_apart{n i j:Nat}{oi oj:Oper}(h:headB md ops n=true)(hi:i<n)(ho:ops[i]?=some oi)(hj:j<n)(hoj:ops[j]?=some oj)(hij:i<j)
  (hno:∀e∈oj.after,Region.binds md e=true→e.on≠i):oi.apart ops oj=true:=by
 have h1:=List.all_eq_true.1 h i (List.mem_range.2 hi);simp only[ho,Bool.and_eq_true]at h1;have h2:=List.all_eq_true.1 h1.2 j (List.mem_range.2 hj);simp only[hoj,Bool.or_eq_true,decide_eq_true_eq]at h2;rcases h2 with (h2|h2)|h2
 ·omega
 ·obtain⟨o',ho',e,he,hb,hon⟩:=Region.waitsFor_spec h2;obtain rfl:o'=oj:=Option.some.inj (ho'.symm.trans hoj);exact absurd hon (hno e he hb)
 ·exact h2
theorem anyF_lex{n:Nat}{Q:Act→Prop}(hsel:Region.noSelect ops=true)(hB:headB md ops n=true):∀(l:List Oper) (k:Nat) (a:Act),(∀j,j<l.length→l[j]?=ops[k+j]?)→k+l.length=n→
  wpCalm P ops W0 Q l a→AnyF P md ops W0 n Q l.length (fun j=>decide (j<k)) a
 |[],k,a,_,hk,h=>⟨fun i hi=>decide_eq_true (by simp only[List.length_nil]at hk;omega),h⟩
 |o::l,k,a,hl,hk,h=>by
  have h0:ops[k]?=some o:=by simpa using (hl 0 (by simp)).symm
  have hkn:k<n:=by simp only[List.length_cons]at hk;omega
  obtain⟨v,hy,hK⟩:=wpCalm_cons h;have IH:=anyF_lex (Q:=Q) hsel hB l (k+1) (a.put o.dst v) (fun j hj=>by have:=hl (j+1) (by simp;omega);simpa[Nat.add_assoc,Nat.add_comm 1 j]using this) (by simp only[List.length_cons]at hk;omega) hK
  have e:(fun j=>decide (j<k+1))=more (fun j=>decide (j<k)) k:=by
   funext j
   unfold more;split
   ·rename_i hjk;subst hjk;simp
   ·by_cases hjk:j<k
    ·simp[hjk];omega
    ·simp[hjk];omega
  rw[e]at IH;refine anyF_first h0 (Region.noSelect_spec hsel) l.length _ a (fun j oj hj hjn hne hun hno=> ?_) ⟨hkn,by simp,o,h0,fun e he hb=>decide_eq_true (headB_on hB hkn h0 e he hb)⟩ hy IH;have:¬j<k:=of_decide_eq_false hun;exact headB_apart hB hkn h0 hjn hj (by omega) hno
def dstOf(ops:Array Oper)(j:Nat):Option Tmp:=(ops[j]?).bind (·.dst)
def ov(ops:Array Oper):List (Nat×Nat)→Act→Act
 |[],a=>a
 |p::σ,a=>(ov ops σ a).put (dstOf ops p.1) (.pointer (some ⟨p.2,0,none⟩))
structure IsNew(P:Program)(ops:Array Oper)(j:Nat)(o:Oper)(Z:Obj):Prop where
 here:ops[j]?=some o
 after:o.after= #[]
 wants:∀tmps,Region.wanted o (yielded ops tmps)=true
 runs:∀(a:Act) w,(execOp a.eval o).run P w=.ok (.value (.pointer (some ⟨w.heap.size,0,none⟩))) (w.alloc Z)
def newB(ops:Array Oper)(n m:Nat):Bool:=
 (List.range m).all fun j=>decide (j<n)||match ops[j]? with
  |none=>false
  |some oj=>(List.range n).all fun i=>match ops[i]? with
   |none=>false
   |some oi=>oj.apart ops oi
theorem newB_spec{n m j i:Nat}{oi:Oper}(h:newB ops n m=true)(h1:n≤j)(h2:j<m)(hi:i<n)(ho:ops[i]?=some oi):
  (∀d,dstOf ops j=some d→d∉oi.looksAt ops)∧(∀d,dstOf ops j=some d→oi.dst≠some d):=by
 have k1:=List.all_eq_true.1 h j (List.mem_range.2 h2);simp only[Bool.or_eq_true,decide_eq_true_eq]at k1;rcases k1 with k1|k1
 ·omega
 ·cases hj:ops[j]? with
  |none=>simp[hj]at k1
  |some oj=>
   simp only[hj]at k1;have k2:=List.all_eq_true.1 k1 i (List.mem_range.2 hi);simp only[ho]at k2;obtain⟨a1,a2,_⟩:=Oper.apart_spec k2;have e:dstOf ops j=oj.dst:=by unfold dstOf;rw[hj];rfl
   rw[e];exact⟨a1,a2⟩
theorem ov_exec{oi:Oper}(hs:∀cs b,oi.op≠.select cs b)(a:Act):∀σ:List (Nat×Nat),(∀p∈σ,∀d,dstOf ops p.1=some d→d∉oi.looksAt ops)→execOp (ov ops σ a).eval oi=execOp a.eval oi
 |[],_=>rfl
 |p::σ,h=>(execOp_put oi hs _ _ _ (h p (List.mem_cons_self ..))).trans (ov_exec hs a σ fun q hq=>h q (List.mem_cons_of_mem _ hq))
theorem ov_wanted{oi:Oper}(a:Act):∀σ:List (Nat×Nat),(∀p∈σ,∀d,dstOf ops p.1=some d→d∉oi.looksAt ops)→Region.wanted oi (yielded ops (ov ops σ a).tmps)=Region.wanted oi (yielded ops a.tmps)
 |[],_=>rfl
 |p::σ,h=>(wanted_put oi _ _ _ (h p (List.mem_cons_self ..))).trans (ov_wanted a σ fun q hq=>h q (List.mem_cons_of_mem _ hq))
theorem ov_put{x:Option Tmp}(a:Act)(v:Value):∀σ:List (Nat×Nat),(∀p∈σ,∀d,dstOf ops p.1=some d→x≠some d)→(ov ops σ a).put x v=ov ops σ (a.put x v)
 |[],_=>rfl
 |p::σ,h=>by
  show((ov ops σ a).put _ _).put x v=(ov ops σ (a.put x v)).put _ _;rw[Act.put_comm _ _ _ (h p (List.mem_cons_self ..)),ov_put a v σ fun q hq=>h q (List.mem_cons_of_mem _ hq)]
theorem wp_of_calm{o:Oper}{a:Act}{w:World}{v:Value}{K:Act→World→Prop}{Q:Exit→Act→World→Prop}(h:o.quietAt P a (fun w2=>Below w.heap.size w w2) w v)
  (hk:∀w2,Below w.heap.size w w2→K (a.put o.dst v) w2):o.wp P a w K Q:=by
 unfold Oper.quietAt at h;unfold Oper.wp;generalize (execOp a.eval o).run P w=r at*;cases r with
 |ok x w'=>
  cases x<;>simp only[Oper.quietUpon]at h<;>simp only[Oper.upon]
  case value u=>obtain⟨rfl,rfl⟩:=h;exact hk _ (Below.refl _ _)
  case skip=>obtain⟨rfl,rfl⟩:=h;exact hk _ (Below.refl _ _)
  case enter f args=>
   obtain⟨rfl,hc⟩:=h;exact hc.mono fun e w2 hh=>by obtain⟨rfl,hb⟩:=hh;exact hk w2 hb
 |halt x w'=>simp only[Oper.quietUpon]at h
def left(ls:Array Bool):Nat→Nat
 |0=>0
 |m+1=>left ls m+if ls.getD m false=true then 0 else 1
theorem left_none{ls:Array Bool}:∀{m:Nat},left ls m=0→∀i,i<m→ls.getD i false=true
 |m+1,h,i,hi=>by
  unfold left at h;by_cases him:i=m
  ·subst him;by_cases hh:ls.getD i false=true
   ·exact hh
   ·rw[if_neg hh]at h;omega
  ·exact left_none (m:=m) (by omega) i (by omega)
theorem left_some{ls:Array Bool}:∀{m:Nat},left ls m≠0→∃i,i<m∧ls.getD i false=false
 |0,h=>absurd rfl h
 |m+1,h=>by
  by_cases hh:ls.getD m false=true
  ·unfold left at h;rw[if_pos hh]at h;obtain⟨i,h1,h2⟩:=left_some (m:=m) (by omega);exact⟨i,by omega,h2⟩
  ·exact⟨m,by omega,by simpa using hh⟩
theorem left_same{ls:Array Bool}{i:Nat}:∀{m:Nat},m≤i→left (ls.setIfInBounds i true) m=left ls m
 |0,_=>rfl
 |m+1,h=>by unfold left;rw[left_same (m:=m) (by omega),getD_set_ne false (by omega)]
theorem left_set{ls:Array Bool}{i:Nat}(hs:i<ls.size)(hu:ls.getD i false=false):∀{m:Nat},i<m→left (ls.setIfInBounds i true) m+1=left ls m
 |m+1,h=>by
  unfold left;by_cases him:i=m
  ·subst him;rw[left_same (Nat.le_refl _),if_pos (by simp[hs]),if_neg (by rw[hu];simp)]
  ·have:=left_set hs hu (m:=m) (by omega);rw[getD_set_ne false him];omega
def upto(ops:Array Oper)(m:Nat):Array Bool:=((List.range ops.size).map fun i=>decide (i<m)).toArray
theorem getD_set_self{ls:Array Bool}{i:Nat}(h:i<ls.size)(d:Bool):(ls.setIfInBounds i true).getD i d=true:=by simp[h]
theorem upto_of{ls:Array Bool}{m:Nat}(hs:ls.size=ops.size)(h1:∀i,i<m→ls.getD i false=true)(h2:∀i,m≤i→ls.getD i false=false):ls=upto ops m:=by
 apply Array.ext
 ·simp[upto,hs]
 ·intro i hi hi';have e:ls.getD i false=ls[i]:=by simp[hi]
  rw[←e];by_cases hm:i<m
  ·rw[h1 i hm];simp[upto,hm]
  ·rw[h2 i (by omega)];simp[upto,hm]
structure Sok(ops:Array Oper)(W0:World)(Z:Nat→Obj)(n m:Nat)(ls:Array Bool)(σ:List (Nat×Nat))(w:World):Prop where
 size:ls.size=ops.size
 tail:∀t,m≤t→ls.getD t false=false
 some:∀p∈σ,n≤p.1∧p.1<m∧ls.getD p.1 false=true∧W0.heap.size≤p.2∧p.2<w.heap.size∧w.heap[p.2]?=some (Z p.1)
 all:∀j,n≤j→j<m→ls.getD j false=true→∃D,(j,D)∈σ
 keys:(σ.map (·.1)).Nodup
 apart:(σ.map (·.2)).Nodup
 bel:Below W0.heap.size W0 w
theorem Sok.grow{Z:Nat→Obj}{n m:Nat}{ls:Array Bool}{σ:List (Nat×Nat)}{w w2:World}(h:Sok ops W0 Z n m ls σ w)(hb:Below w.heap.size w w2):Sok ops W0 Z n m ls σ w2:=
 ⟨h.size,h.tail,fun p hp=>by
  obtain⟨a1,a2,a3,a4,a5,a6⟩:=h.some p hp
  exact⟨a1,a2,a3,a4,Nat.lt_of_lt_of_le a5 hb.size,(hb.block p.2 a5).trans a6⟩,h.all,h.keys,h.apart,below_class h.bel hb⟩
theorem Sok.head{Z:Nat→Obj}{n m:Nat}{ls:Array Bool}{σ:List (Nat×Nat)}{w:World}(h:Sok ops W0 Z n m ls σ w){i:Nat}(hi:i<n)(hnm:n≤m):Sok ops W0 Z n m (ls.setIfInBounds i true) σ w:=
 ⟨by simp[h.size],fun t ht=>by rw[getD_set_ne false (by omega)];exact h.tail t ht,fun p hp=>by
  obtain⟨a1,a2,a3,a4,a5,a6⟩:=h.some p hp
  exact⟨a1,a2,getD_set_true a3,a4,a5,a6⟩,fun j h1 h2 h3=>h.all j h1 h2 (by rwa[getD_set_ne false (by omega)]at h3),h.keys,h.apart,h.bel⟩
theorem Sok.made{Z:Nat→Obj}{n m:Nat}{ls:Array Bool}{σ:List (Nat×Nat)}{w:World}(h:Sok ops W0 Z n m ls σ w){i:Nat}(h1:n≤i)(h2:i<m)(hs:i<ls.size)(hu:ls.getD i false=false):
  Sok ops W0 Z n m (ls.setIfInBounds i true) ((i,w.heap.size)::σ) (w.alloc (Z i)):=by
 refine⟨by simp[h.size],fun t ht=>by rw[getD_set_ne false (by omega)];exact h.tail t ht,fun p hp=> ?_,fun j j1 j2 j3=> ?_,?_,?_,h.bel.alloc h.bel.size _⟩
 ·rcases List.mem_cons.1 hp with rfl|hp
  ·exact⟨h1,h2,getD_set_self hs false,h.bel.size,by simp,World.alloc_heap_new w _⟩
  ·obtain⟨a1,a2,a3,a4,a5,a6⟩:=h.some p hp;exact⟨a1,a2,getD_set_true a3,a4,by simp;omega,(Below.heap_alloc w _ p.2 a5).trans a6⟩
 ·by_cases hji:i=j
  ·subst hji;exact⟨_,List.mem_cons_self ..⟩
  ·rw[getD_set_ne false hji]at j3;obtain⟨D,hD⟩:=h.all j j1 j2 j3;exact⟨D,List.mem_cons_of_mem _ hD⟩
 ·simp only[List.map_cons,List.nodup_cons];refine⟨fun hm=> ?_,h.keys⟩;obtain⟨p,hp,he⟩:=List.mem_map.1 hm;have:=(h.some p hp).2.2.1;rw[he,hu]at this;cases this
 ·simp only[List.map_cons,List.nodup_cons];refine⟨fun hm=> ?_,h.apart⟩;obtain⟨p,hp,he⟩:=List.mem_map.1 hm;have:=(h.some p hp).2.2.2.2.1;omega
theorem any_new{Q:Act→Prop}{Q':Exit→Act→World→Prop}{Z:Nat→Obj}{n m g:Nat}(hsel:Region.noSelect ops=true)(hB:headB md ops n=true)(hN:newB ops n m=true)(hnm:n≤m)(hmo:m<ops.size)
  (hnew:∀j,n≤j→j<m→∃o,IsNew P ops j o (Z j)) (hsink:Region.sinkB md ops m=true) (hchain:Region.chainB md ops m=true)
  (hend:∀a σ w,Sok ops W0 Z n m (upto ops m) σ w→Q a→wpAny P md ops Q' g (upto ops m) (ov ops σ a) w):
  ∀(c:Nat) (ls:Array Bool) (done:Nat→Bool) (a:Act) (σ:List (Nat×Nat)) (w:World) (f:Nat),left ls m=c→(∀i,i<n→ls.getD i false=done i)→HeadInv md ops m ls→Sok ops W0 Z n m ls σ w→
   AnyF P md ops W0 n Q f done a→wpAny P md ops Q' (c+g) ls (ov ops σ a) w:=by
 intro c
 induction c with
 |zero=>
  intro ls done a σ w f hc hd _ hs hF;have hall:=left_none hc;obtain rfl:=upto_of hs.size hall hs.tail;cases f with
  |zero=>rw[Nat.zero_add];exact hend a σ w hs hF.2
  |succ f=>
   obtain⟨i,hi,hf,_⟩:=hF.1;rw[←hd i hi,hall i (by omega)]at hf;cases hf
 |succ c ih=>
  intro ls done a σ w f hc hd inv hs hF;obtain⟨i0,hi0,hu0⟩:=left_some (ls:=ls) (m:=m) (by omega);have hsz0:i0<ls.size:=by rw[hs.size];omega
  have notail:∀i∈Region.ready md ops ls,i<m:=fun i hi=>by
   rcases Nat.lt_or_ge i m with h|h
   ·exact h
   ·exact absurd hi (tail_waits hsink hchain hmo inv _ i0 rfl hi0 (getD_in hsz0 hu0) i h)
  rw[show c+1+g=(c+g)+1 by omega];refine⟨fun hnil=> ?_,fun i hi=> ?_⟩
  ·exfalso;rcases Nat.lt_or_ge i0 n with h|h
   ·cases f with
    |zero=>
     have:=hF.1 i0 h;rw[←hd i0 h,hu0]at this;cases this
    |succ f=>
     obtain⟨i,hi,hf,o,ho,hall⟩:=hF.1
     have:i∈Region.ready md ops ls:=mem_ready.2 ⟨getD_in (by rw[hs.size];exact(Array.getElem?_eq_some_iff.1 ho).1) (by rw[hd i hi];exact hf),o,ho,fun e he hb=>by
      rw[hd e.on (by have:=headB_on hB hi ho e he hb;omega)];exact hall e he hb⟩
     rw[hnil]at this;cases this
   ·obtain⟨o,ho⟩:=hnew i0 h hi0;have:i0∈Region.ready md ops ls:=mem_ready.2 ⟨getD_in hsz0 hu0,o,ho.here,fun e he=>by rw[ho.after]at he;simp at he⟩;rw[hnil]at this;cases this
  ·have him:=notail i hi;obtain⟨hun,o,ho,hall⟩:=mem_ready.1 hi;have hu:=getD_both hun;have hsz:i<ls.size:=by rw[hs.size];omega
   have hc':left (ls.setIfInBounds i true) m=c:=by have:=left_set hsz hu him;omega
   rcases Nat.lt_or_ge i n with hin|hin
   ·have hr:rdy md ops n done i:=⟨hin,by rw[←hd i hin];exact hu,o,ho,fun e he hb=>by
     rw[←hd e.on (by have:=headB_on hB hin ho e he hb;omega)];exact hall e he hb⟩
    cases f with
    |zero=>
     have:=hF.1 i hin;rw[hr.2.1]at this;cases this
    |succ f=>
     obtain⟨v,hy,hn⟩:=hF.2 i o ho hr;have hap:∀p∈σ,(∀d,dstOf ops p.1=some d→d∉o.looksAt ops)∧(∀d,dstOf ops p.1=some d→o.dst≠some d):=fun p hp=>newB_spec hN (hs.some p hp).1 (hs.some p hp).2.1 hin ho
     have hd':∀k,k<n→(ls.setIfInBounds i true).getD k false=more done i k:=fun k hk=>by
      by_cases hki:k=i
      ·subst hki;rw[getD_set_self hsz];unfold more;rw[if_pos rfl]
      ·rw[getD_set_ne false (Ne.symm hki),more_ne hki];exact hd k hk
     have go:∀w2,Below w.heap.size w w2→wpAny P md ops Q' (c+g) (ls.setIfInBounds i true) ((ov ops σ a).put o.dst v) w2:=fun w2 hb=>by
      rw[ov_put a v σ fun p hp=>(hap p hp).2];exact ih _ _ _ σ w2 f hc' hd' (inv.set hi him) ((hs.head hin hnm).grow hb) hn
     unfold wpOp;rw[ho];simp only[ov_wanted a σ fun p hp=>(hap p hp).1];rcases hy with⟨hw,hq⟩|⟨hw,rfl⟩
     ·rw[if_pos hw];refine .inl (wp_of_calm (v:=v) ?_ go);have:=hq w hs.bel;unfold Oper.quietAt at*;rwa[ov_exec (Region.noSelect_spec hsel i o · · ho) a σ fun p hp=>(hap p hp).1]
     ·rw[if_neg (by rw[hw];simp)];exact go w (Below.refl _ _)
   ·obtain⟨o',ho'⟩:=hnew i hin him;obtain rfl:o'=o:=Option.some.inj (ho'.here.symm.trans ho);unfold wpOp;rw[ho];simp only;rw[if_pos (ho'.wants _)];refine .inl ?_;unfold Oper.wp;rw[ho'.runs];simp only[Oper.upon];have e:dstOf ops i=o'.dst:=by unfold dstOf;rw[ho];rfl
    have:=ih (ls.setIfInBounds i true) done a ((i,w.heap.size)::σ) (w.alloc (Z i)) f hc' (fun k hk=>by rw[getD_set_ne false (by omega)];exact hd k hk) (inv.set hi him) (hs.made hin him hsz hu) hF;unfold ov at this;rw[e]at this;exact this
def shapeB(md:Region.Mode)(ops:Array Oper)(n m:Nat):Bool:=
 Region.noSelect ops&&headB md ops n&&newB ops n m&&decide (n≤m)&&decide (m<ops.size)&&Region.sinkB md ops m&&Region.chainB md ops m&&Region.seqB md ops (ops.size-m) m (upto ops m)
end
theorem wp_region_new{P:Program}{id:Nat}{Q:Exit→Act→World→Prop}{a:Act}{w:World}{l:List Oper}(n m:Nat)(Z:Nat→Obj)(hm:P.follows .mixedOrders=true)(hB:shapeB .any l.toArray n m=true)
  (hnew:∀j,n≤j→j<m→∃o,IsNew P l.toArray j o (Z j))
  (h:wpCalm P l.toArray w.drew (fun a'=>∀σ w',Sok l.toArray w.drew Z n m (upto l.toArray m) σ w'→wpList P l.toArray Q (l.drop m) (ov l.toArray σ a') w') (l.take n) a):
  (Code.region id l.toArray true).wp P Q a w:=by
 simp only[shapeB,Bool.and_eq_true,decide_eq_true_eq]at hB;obtain⟨⟨⟨⟨⟨⟨⟨hsel,hhead⟩,hnewB⟩,hnm⟩,hmo⟩,hsink⟩,hchain⟩,hseq⟩:=hB;have hmo':m<l.length:=by simpa using hmo
 have htl:(l.take n).length=n:=by simp;omega
 have hdl:(l.drop m).length=l.toArray.size-m:=by simp
 have inv0:HeadInv .any l.toArray m (Array.replicate l.toArray.size false):=
  ⟨by simp,fun j oj _ hl=>(by rw[getD_replicate_false]at hl;cases hl),fun t _ ht=>getD_in (by simpa using ht) (getD_replicate_false _ _)⟩
 have H:=anyF_lex (md:=.any) (n:=n) hsel hhead (l.take n) 0 a (fun j hj=>by
  have hj':j<n:=by rw[htl]at hj;exact hj
  simp[hj']) (by simpa using htl) h
 rw[htl]at H
 have hl0:left (Array.replicate l.toArray.size false) m=m:=by
  have:∀k,left (Array.replicate l.toArray.size false) k=k:=fun k=>by
   induction k with
   |zero=>rfl
   |succ k ih=>unfold left;rw[ih,getD_replicate_false];simp
  exact this m
 refine wp_region_any hm ?_
 have:=any_new (md:=.any) (W0:=w.drew) (Q':=Q) (g:=l.toArray.size-m) hsel hhead hnewB hnm hmo hnew hsink hchain (fun a' σ w' hs hQ=>by
  have:=wpAny_of_seq (md:=.any) (Q':=Q) (l.drop m) m (upto l.toArray m) (ov l.toArray σ a') w' (fun j=>by simp[List.getElem?_drop]) (by rw[hdl];exact hseq) (hQ σ w' hs)
  rwa[hdl]at this) m (Array.replicate l.toArray.size false) (fun j=>decide (j<0)) a [] w.drew n hl0 (fun i _=>by rw[getD_replicate_false];simp) inv0
  ⟨by simp,fun t _=>getD_replicate_false _ _,fun p hp=>(by cases hp),fun j _ _ hj=>(by rw[getD_replicate_false]at hj;cases hj),List.nodup_nil,List.nodup_nil,Below.refl _ _⟩ H
 rw[show m+(l.toArray.size-m)=l.toArray.size by omega]at this;exact this
end Go.Proofs.YtnkelgdnglaafaaGreat
