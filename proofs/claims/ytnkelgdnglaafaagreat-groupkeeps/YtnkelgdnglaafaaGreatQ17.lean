import Derived.Test.YtnkelgdnglaafaaGreatQ1
import Derived.Shelf.Abstract
import Derived.Test.YtnkelgdnglaafaaGreatRows
import Derived.WalkKit
import Derived.WalkSpells
import Derived.WalkLawsBesides
import Derived.Deep.MidRow
import Derived.Deep.AppendLies
import Derived.Laws.OwnMore
import Derived.Laws.BitsAllLaws
import Derived.OwnWalk
import Derived.StillTailTactics
import Derived.Laws.AppendOwnNone
import Derived.Laws.BytesArg
set_option maxHeartbeats 8000000
set_option maxRecDepth 100000
namespace Go.Proofs.YtnkelgdnglaafaaGreat
open Go.RowKit Go.Shelf
structure Ca where
 fl:Int
 ca:Int
 ag:Int
 up:Bool
def cav(y:Ca):List Value:=[.int .i64 y.fl,.int .i64 y.ca,.int .i64 y.ag,.bool y.up]
def ca0:Ca:=⟨0,0,0,false⟩
def RC(D:Nat→Prop)(W:World)(v:Value)(L:List Ca):Prop:=
 ∃a cap,v=.slice a L.length cap∧L.length≤cap∧(L=[]∨∃g o,a=some ⟨g,o,none⟩∧D g∧g<W.heap.size∧∀(i:Nat) y,L[i]?=some y→W.rangeAt g (o+i*4) (cav y))
section
variable {D D':Nat→Prop} {W W':World} {v:Value} {L:List Ca}
theorem RC.keep(h:RC D W v L)(hs:W.heap.size≤W'.heap.size)(hk:∀g,D g→g<W.heap.size→W'.heap[g]?=W.heap[g]?):RC D W' v L:=by
 obtain⟨a,cap,rfl,hc,h⟩:=h;refine⟨a,cap,rfl,hc,?_⟩;rcases h with h|⟨g,o,rfl,hd,hlt,h⟩
 ·exact .inl h
 ·exact .inr ⟨g,o,rfl,hd,Nat.lt_of_lt_of_le hlt hs,fun i y hy j u hu=>(World.cell?_of_block (a:=⟨g,o+i*4+j,none⟩) (hk g hd hlt)).trans (h i y hy j u hu)⟩
theorem RC.below'(h:RC D W v L)(hb:Below W.heap.size W W'):RC D W' v L:=h.keep hb.size fun g _ hlt=>hb.block g hlt
theorem RC.form(h:RC D W v L):∃a cap,v=.slice a L.length cap∧L.length≤cap:=by
 obtain⟨a,cap,h1,h2,_⟩:=h;exact⟨a,cap,h1,h2⟩
theorem RC.at{a:Option Addr}{n cap:Nat}(h:RC D W (.slice a n cap) L){i:Nat}{y:Ca}(hy:L[i]?=some y):∃g o,a=some ⟨g,o,none⟩∧g<W.heap.size∧W.cell? ⟨g,o+i*4,none⟩=some (.int .i64 y.fl)∧W.cell? ⟨g,o+i*4+1,none⟩=some (.int .i64 y.ca)∧W.cell? ⟨g,o+i*4+2,none⟩=some (.int .i64 y.ag)∧W.cell? ⟨g,o+i*4+3,none⟩=some (.bool y.up):=by
 obtain⟨a',cap',e,_,h⟩:=h;cases e;rcases h with h|⟨g,o,rfl,_,hlt,h⟩
 ·rw[h]at hy;simp at hy
 ·have hr:=h i y hy;exact⟨g,o,rfl,hlt,hr 0 _ rfl,hr 1 _ rfl,hr 2 _ rfl,hr 3 _ rfl⟩
end
theorem ixCa(W:World){g o n cap j:Nat}(hj:j<n):(Instr.indexAt 38 (.slice (some ⟨g,o,none⟩) n cap) (.int .i64 (j:Int))).run Tryz.prog W=.ok (.pointer (some ⟨g,o+j*4,none⟩)) W:=by
 rw[run_indexAt_slice W 38 _ n cap .i64 j (by kernel_rfl),if_pos ⟨by omega,by omega⟩,show Tryz.prog.elem 38=47 by kernel_rfl,Tryz.sizeOf47];simp only[Result.andThen_ok,Int.toNat_natCast,Addr.add_mid]
def oldk(p:Ca→Bool)(L:List Ca):Nat→Option (Nat×Ca)
 |0=>none
 |k+1=>match L[k]? with
  |none=>oldk p L k
  |some y=>if p y=true∧(∀x,oldk p L k=some x→x.2.ag<y.ag)then some (k,y)else oldk p L k
section
variable {p:Ca→Bool} {L:List Ca} {k:Nat} {y:Ca}
theorem oldk_at:∀{k i:Nat} {z:Ca},oldk p L k=some (i,z)→i<k∧L[i]?=some z∧p z=true
 |0,_,_,h=>by cases h
 |k+1,i,z,h=>by
  unfold oldk at h;cases hy:L[k]? with
  |none=>
   rw[hy]at h;have:=oldk_at (k:=k) h;exact⟨by omega,this.2⟩
  |some y=>
   rw[hy]at h;simp only at h;split at h
   ·rename_i hc;cases h;exact⟨by omega,hy,hc.1⟩
   ·have:=oldk_at (k:=k) h;exact⟨by omega,this.2⟩
theorem oldk_not(hy:L[k]?=some y)(h:p y=false):oldk p L (k+1)=oldk p L k:=by
 rw[oldk,hy];simp only;rw[if_neg (fun g=>by rw[h]at g;cases g.1)]
theorem oldk_first(hy:L[k]?=some y)(h:p y=true)(hn:oldk p L k=none):oldk p L (k+1)=some (k,y):=by
 rw[oldk,hy];simp only;rw[if_pos ⟨h,fun x hx=>by rw[hn]at hx;cases hx⟩]
theorem oldk_more{x:Nat×Ca}(hy:L[k]?=some y)(h:p y=true)(hx:oldk p L k=some x)(hl:x.2.ag<y.ag):oldk p L (k+1)=some (k,y):=by
 rw[oldk,hy];simp only;rw[if_pos ⟨h,fun z hz=>by rw[hx]at hz;cases hz;exact hl⟩]
theorem oldk_less{x:Nat×Ca}(hy:L[k]?=some y)(hx:oldk p L k=some x)(hl:¬x.2.ag<y.ag):oldk p L (k+1)=oldk p L k:=by
 rw[oldk,hy];simp only;rw[if_neg (fun g=>hl (g.2 x hx))]
end
def CaB(W:World)(b:Nat)(y:Ca):Prop:=W.heap[b]?=some (.cells (cav y).toArray 47 (0,0))
section
variable {W W':World} {b:Nat} {y:Ca}
theorem CaB.lt(H:CaB W b y):b<W.heap.size:=(Array.getElem?_eq_some_iff.1 H).1
theorem CaB.below'(H:CaB W b y)(hb:Below W.heap.size W W'):CaB W' b y:=(hb.block b H.lt).trans H
theorem CaB.kp{G:Nat→Prop}(H:CaB W b y)(k:Kp G W W')(hG:¬G b):CaB W' b y:=(k.block b H.lt hG).trans H
theorem CaB.new(W:World)(y:Ca):CaB (W.alloc (.cells (cav y).toArray 47)) W.heap.size y:=World.alloc_heap_new W _
theorem CaB.cell(H:CaB W b y)(i:Nat):W.cell? ⟨b,i,none⟩=(cav y)[i]?:=by
 have h:W.heap[b]?=some (.cells (cav y).toArray 47 (0,0)):=H;simp[World.cell?,h]
end
theorem infoCa:(Tryz.prog.info? 47).map (·.size)=some 4:=by kernel_rfl
theorem kp_rowC(w:World)(b:Nat)(cs:Array Value):Kp (fun k=>k=b) w (w.setRow b cs):=⟨rfl,rfl,rfl,by simp[World.setRow],fun k _ hk=>setRow_other w b k cs hk⟩
theorem wpList_storeCa{ops:Array Oper}{rest:List Oper}{op:Oper}{a:Act}{w:World}{Q:Exit→Act→World→Prop}(hgd:op.guard=none)(x y:Operand)(ho:op.op=.store 47 x y)
  (b:Nat) {old:Ca} (z:Ca) (hx:a.eval x=.pointer (some ⟨b,0,none⟩)) (hy:a.eval y=.agg (cav z).toArray) (hL:CaB w b old)
  (hn:∀W',Kp (fun k=>k=b) w W'→CaB W' b z→wpList Tryz.prog ops Q rest (a.put op.dst undef) W'):wpList Tryz.prog ops Q (op::rest) a w:=
 wpList_store_row hgd 47 x y ho b _ hx hy _ _ hL infoCa rfl (by simp[cav,Value.oneCell']) (hn _ (kp_rowC w b _) (setRow_heap w b _ _ _ _ hL))
theorem retCa2{fn:Func}{p t:Tmp}(hf:fn.results= #[.cell p 47,.tmp t]){tmps:Array Value}{w:World}{b:Nat}{y:Ca}{u:Value}(hp:tmps.getD p undef=.pointer (some ⟨b,0,none⟩))(ht:tmps.getD t undef=u)(H:CaB w b y):
  (results fn tmps).run Tryz.prog w=.ok (.tuple #[.agg #[.int .i64 y.fl,.int .i64 y.ca,.int .i64 y.ag,.bool y.up],u]) w:=by
 have hp':tmps[p]?.getD undef=.pointer (some ⟨b,0,none⟩):=by simpa using hp
 have ht':tmps[t]?.getD undef=u:=by simpa using ht
 have H':w.heap[b]?=some (.cells #[.int .i64 y.fl,.int .i64 y.ca,.int .i64 y.ag,.bool y.up] 47 (0,0)):=H;simp[results,hf,hp',ht',asAddr,run_loadVar_row w b 47 47 _ _ _ H' Tryz.underlying47 rfl infoCa]
def PrC(g:Nat)(lb:Array Value)(p:Ca→Bool)(w:World):Prop:=∀(W:World) (x:Ca),Below w.heap.size w W→Calls Tryz.prog g (#[.agg #[.int .i64 x.fl,.int .i64 x.ca,.int .i64 x.ag,.bool x.up]]++lb) W fun e w'=>e=.returned (.bool (p x))∧Below W.heap.size W w'
def ocl(o:Option (Nat×Ca)):Ca:=match o with
 |none=>ca0
 |some x=>x.2
structure Oz(W wr:World)(o:Option (Nat×Ca)):Prop where
 z:CaB wr W.heap.size ca0
 c:CaB wr (W.heap.size+1) (ocl o)
 bel:Below W.heap.size W wr
theorem Oz.next{W wr w':World}{o:Option (Nat×Ca)}(h:Oz W wr o)(hb:Below wr.heap.size wr w'):Oz W w' o:=⟨h.z.below' hb,h.c.below' hb,below_class h.bel hb⟩
theorem oldest_any(D:Nat→Prop)(v:Value)(L:List Ca)(g:Nat)(lb:Array Value)(p:Ca→Bool)(age:Int)(W:World)(eg:∀args w,(callFunc g args).run Tryz.prog w=.ok (.enter g args) w)(h:RC D W v L)(hl:L.length≤200)(hp:PrC g lb p W):
  Calls Tryz.prog 109 #[v,.func (.func g) #[] lb,.int .i64 age] W fun e w'=>e=.returned (.tuple #[.agg #[.int .i64 (ocl (oldk (fun y=>decide (age≤y.ag)&&p y) L L.length)).fl,.int .i64 (ocl (oldk (fun y=>decide (age≤y.ag)&&p y) L L.length)).ca,.int .i64 (ocl (oldk (fun y=>decide (age≤y.ag)&&p y) L L.length)).ag,.bool (ocl (oldk (fun y=>decide (age≤y.ag)&&p y) L L.length)).up],.bool (oldk (fun y=>decide (age≤y.ag)&&p y) L L.length).isSome])∧Below W.heap.size W w':=by
 obtain⟨av,kv,rfl,_⟩:=h.form;have hb0:=((Below.refl W.heap.size W).alloc (Nat.le_refl _) (.cells (cav ca0).toArray 47)).alloc (by simp) (.cells (cav ca0).toArray 47);have h2:=CaB.new (W.alloc (.cells (cav ca0).toArray 47)) ca0;rw[World.size_alloc]at h2;have HO0:Hid (Oz W ((W.alloc (.cells (cav ca0).toArray 47)).alloc (.cells (cav ca0).toArray 47)) none):=⟨(CaB.new W ca0).below' ((Below.refl _ _).alloc (Nat.le_refl _) _),h2,hb0⟩;have HC:=Hd h;have HP:=Hd hp;obtain⟨P,hP⟩:∃P:Ca→Bool,(fun y:Ca=>decide (age≤y.ag)&&p y)=P:=⟨_,rfl⟩;rw[hP];have HPP:Hid (∀y,P y=(decide (age≤y.ag)&&p y)):=fun y=>by rw[←hP]
 obtain⟨r,HR⟩:∃r,Hid (oldk P L L.length=r):=⟨_,Hd rfl⟩;rw[HR.out];clear h hp hb0 h2 hP;change Hid (Oz W ((W.alloc (.cells #[.int .i64 0,.int .i64 0,.int .i64 0,.bool false] 47)).alloc (.cells #[.int .i64 0,.int .i64 0,.int .i64 0,.bool false] 47)) none)at HO0;have hnil:∀W,(binOp .eql 122 (.func (.func g) #[] lb) .nilFunc).run Tryz.prog W=.ok (.bool false) W:=fun W=>by rfl
 go_enter Tryz.func109,Tryz.ntmps109
 go_wp2_with fail
 generalize (W.alloc (.cells #[.int .i64 0,.int .i64 0,.int .i64 0,.bool false] 47)).alloc (.cells #[.int .i64 0,.int .i64 0,.int .i64 0,.bool false] 47)=W1 at HO0⊢
 go_loopw [9,18] (fun fv iv wr=>∃(i:Nat) (o:Option (Nat×Ca)),i≤L.length∧fv=.bool o.isSome∧iv=.int .i64 (i:Int)∧Hid (oldk P L i=o)∧Hid (Oz W wr o)) (fun _ iv _=>L.length-(intOf iv).toNat)
 case atStart=>exact⟨0,none,Nat.zero_le _,rfl,rfl,rfl,HO0⟩
 case round=>
  clear HO0;obtain⟨i,o,hi,rfl,rfl,HK,HO⟩:=hrel;by_cases hlt:i<L.length
  ·have hiz:(i:Int)<(L.length:Int):=by omega
   obtain⟨y,hy⟩:∃y,L[i]?=some y:=⟨_,List.getElem?_eq_getElem hlt⟩;obtain⟨ga,oa,ha,hga,c0,c1,c2,c3⟩:=(HC.out.below' HO.out.bel).at hy;subst ha;have HY:=Hd hy;have hbv:=(Below.refl wr.heap.size wr).alloc (Nat.le_refl _) (.cells #[.int .i64 y.fl,.int .i64 y.ca,.int .i64 y.ag,.bool y.up] 47);have HO1:=Hd (HO.out.next hbv);have HCY:Hid (CaB (wr.alloc (.cells #[.int .i64 y.fl,.int .i64 y.ca,.int .i64 y.ag,.bool y.up] 47)) wr.heap.size y):=CaB.new wr y;have HW1:=Hd (HP.out _ y HO1.out.bel);have HPY:=Hd (HPP.out y);clear hy hga hbv HO;generalize hq:p y=q at HW1 HPY;clear hq;have g0:(wr.alloc (.cells #[.int .i64 y.fl,.int .i64 y.ca,.int .i64 y.ag,.bool y.up] 47)).cell? ⟨wr.heap.size,0,none⟩=some (.int .i64 y.fl):=HCY.out.cell 0;have g1:(wr.alloc (.cells #[.int .i64 y.fl,.int .i64 y.ca,.int .i64 y.ag,.bool y.up] 47)).cell? ⟨wr.heap.size,1,none⟩=some (.int .i64 y.ca):=HCY.out.cell 1;have g2:(wr.alloc (.cells #[.int .i64 y.fl,.int .i64 y.ca,.int .i64 y.ag,.bool y.up] 47)).cell? ⟨wr.heap.size,2,none⟩=some (.int .i64 y.ag):=HCY.out.cell 2;have g3:(wr.alloc (.cells #[.int .i64 y.fl,.int .i64 y.ca,.int .i64 y.ag,.bool y.up] 47)).cell? ⟨wr.heap.size,3,none⟩=some (.bool y.up):=HCY.out.cell 3
   go_wp2_with (go_at_fn g;refine HW1.out.mono ?_)
   rintro e V2 ⟨rfl,hb2⟩;have HO3:=Hd (HO1.out.next hb2);have HCY2:=Hd (HCY.out.below' hb2);have HC3:=Hd HO3.out.c;clear hb2 HW1 HO1 HCY c0 c1 c2 c3 g0 g1 g2 g3;generalize wr.heap.size=yb at HCY2⊢;have f0:V2.cell? ⟨yb,0,none⟩=some (.int .i64 y.fl):=HCY2.out.cell 0;have f1:V2.cell? ⟨yb,1,none⟩=some (.int .i64 y.ca):=HCY2.out.cell 1;have f2:V2.cell? ⟨yb,2,none⟩=some (.int .i64 y.ag):=HCY2.out.cell 2;have f3:V2.cell? ⟨yb,3,none⟩=some (.bool y.up):=HCY2.out.cell 3;have e2:V2.cell? ⟨W.heap.size+1,2,none⟩=some (.int .i64 (ocl o).ag):=HO3.out.c.cell 2;cases q with
   |false=>
    have HK2:Hid (oldk P L (i+1)=o):=by
     show _=_;rw[oldk_not HY.out (by rw[HPY.out,Bool.and_false]),HK.out]
    clear HK HPY HC3 HCY2 f0 f1 f3;go_wp2;go_roundw
    case rel=>exact⟨i+1,o,by omega,rfl,by go_num,HK2,HO3⟩
    case measure=>simp[intOf];omega
   |true=>
    by_cases q1:age≤y.ag
    ·have HAG:Hid (P y=true):=by show _=_;rw[HPY.out,decide_eq_true q1];rfl
     have d1:decide (age≤y.ag)=true:=decide_eq_true q1;clear HPY;cases o with
     |none=>
      have HK2:Hid (oldk P L (i+1)=some (i,y)):=oldk_first HY.out HAG.out HK.out;clear HK HAG
      go_wp2_with (refine wpList_storeCa rfl _ _ rfl (W.heap.size+1) y rfl rfl HC3.out ?_)
      intro V3 hk3 hc3;have HO2:Hid (Oz W V3 (some (i,y))):=⟨HO3.out.z.kp hk3 (by omega),hc3,hk3.below HO3.out.bel HO3.out.bel.size (fun k hk e=>by omega)⟩;clear hk3 hc3 HO3 HC3 HCY2 f0 f1 f2 f3 e2;go_wp2;go_roundw
      case rel=>exact⟨i+1,some (i,y),by omega,rfl,by go_num,HK2,HO2⟩
      case measure=>simp[intOf];omega
     |some x=>
      have e3:V2.cell? ⟨W.heap.size+1,2,none⟩=some (.int .i64 x.2.ag):=e2;clear e2;by_cases q2:x.2.ag<y.ag
      ·have HK2:Hid (oldk P L (i+1)=some (i,y)):=oldk_more HY.out HAG.out HK.out q2;have d2:decide (x.2.ag<y.ag)=true:=decide_eq_true q2;clear HK HAG
       go_wp2_with (refine wpList_storeCa rfl _ _ rfl (W.heap.size+1) y rfl rfl HC3.out ?_)
       intro V3 hk3 hc3;have HO2:Hid (Oz W V3 (some (i,y))):=⟨HO3.out.z.kp hk3 (by omega),hc3,hk3.below HO3.out.bel HO3.out.bel.size (fun k hk e=>by omega)⟩;clear hk3 hc3 HO3 HC3 HCY2 f0 f1 f2 f3 e3;go_wp2;go_roundw
       case rel=>exact⟨i+1,some (i,y),by omega,rfl,by go_num,HK2,HO2⟩
       case measure=>simp[intOf];omega
      ·have HK2:Hid (oldk P L (i+1)=some x):=by
        show _=_;rw[oldk_less HY.out HK.out q2,HK.out]
       have d2:decide (x.2.ag<y.ag)=false:=decide_eq_false q2;clear HK HAG HC3 HCY2;go_wp2;go_roundw
       case rel=>exact⟨i+1,some x,by omega,rfl,by go_num,HK2,HO3⟩
       case measure=>simp[intOf];omega
    ·have d1:decide (age≤y.ag)=false:=decide_eq_false q1
     have HK2:Hid (oldk P L (i+1)=o):=by
      show _=_;rw[oldk_not HY.out (by rw[HPY.out,d1];rfl),HK.out]
     clear HK HPY HC3 HCY2;go_wp2;go_roundw
     case rel=>exact⟨i+1,o,by omega,rfl,by go_num,HK2,HO3⟩
     case measure=>simp[intOf];omega
  ·have hiz:¬(i:Int)<(L.length:Int):=by omega
   have hie:oldk P L L.length=o:=by rw[←HK.out,show i=L.length by omega]
   have hor:o=r:=by rw[←hie,HR.out]
   subst hor;have HZ:=Hd HO.out.z;have f0:wr.cell? ⟨W.heap.size+1,0,none⟩=some (.int .i64 (ocl o).fl):=HO.out.c.cell 0;have f1:wr.cell? ⟨W.heap.size+1,1,none⟩=some (.int .i64 (ocl o).ca):=HO.out.c.cell 1;have f2:wr.cell? ⟨W.heap.size+1,2,none⟩=some (.int .i64 (ocl o).ag):=HO.out.c.cell 2;have f3:wr.cell? ⟨W.heap.size+1,3,none⟩=some (.bool (ocl o).up):=HO.out.c.cell 3;clear hie
   go_wp2_with (refine wpList_storeCa rfl _ _ rfl W.heap.size (ocl o) rfl rfl HZ.out ?_)
   intro W9 hk9 hc9;have HK9:=Hd (And.intro hk9 hc9);clear hk9 hc9 f0 f1 f2 f3;go_wp2;exact bodyPost_ret (retCa2 Tryz.results109 rfl rfl HK9.out.2) rfl ⟨rfl,HK9.out.1.below HO.out.bel HO.out.bel.size (fun k hk e=>by omega)⟩
end Go.Proofs.YtnkelgdnglaafaaGreat
namespace Go.Proofs.YtnkelgdnglaafaaGreat.FF.FC
def dbl(s:Nat):Nat:=if 32768≤s then(2*s-65536)^^^4129 else 2*s
def D(x:BitVec 16):BitVec 16:=(x<<<1)^^^(if x.msb then 4129#16 else 0#16)
theorem dbl_D(x:BitVec 16):dbl x.toNat=(D x).toNat:=by
 unfold dbl D;have h:=x.isLt;have hm:x.msb=decide (32768≤x.toNat):=by rw[BitVec.msb_eq_decide]
 rw[hm,BitVec.toNat_xor,BitVec.toNat_shiftLeft,Nat.shiftLeft_eq];by_cases h1:32768≤x.toNat
 ·rw[if_pos h1];have e:x.toNat*2^1%2^16=2*x.toNat-65536:=by omega
  rw[e];simp[h1]
 ·rw[if_neg h1];have e:x.toNat*2^1%2^16=2*x.toNat:=by omega
  rw[e];simp[h1]
theorem of_bits{a:Nat}(h:a<65536):∃A:BitVec 16,A.toNat=a:=⟨BitVec.ofNat 16 a,by rw[BitVec.toNat_ofNat];omega⟩
theorem dbl_lt{a:Nat}(h:a<65536):dbl a<65536:=by
 obtain⟨A,rfl⟩:=of_bits h;rw[dbl_D];exact(D A).isLt
theorem xor_lt{a b:Nat}(ha:a<65536)(hb:b<65536):a^^^b<65536:=Nat.xor_lt_two_pow (n:=16) ha hb
def dbls:Nat→Nat→Nat
 |0,s=>s
 |k+1,s=>dbl (dbls k s)
theorem dbls_lt{a:Nat}(k:Nat)(h:a<65536):dbls k a<65536:=by
 induction k with
 |zero=>exact h
 |succ k ih=>exact dbl_lt ih
def tk(s x:Nat):Nat:=dbls 8 (s^^^(x*256))
theorem tk_lt{s x:Nat}(hs:s<65536)(hx:x<256):tk s x<65536:=dbls_lt 8 (xor_lt hs (by omega))
def cs(s:Nat)(l:List Nat):Nat:=l.foldl tk s
theorem cs_nil(s:Nat):cs s []=s:=by unfold cs;rw[List.foldl_nil]
theorem cs_cons(s x:Nat)(l:List Nat):cs s (x::l)=cs (tk s x) l:=by unfold cs;rw[List.foldl_cons]
def Bs(l:List Nat):Prop:=∀x∈l,x<256
theorem Bs.nil:Bs []:=by simp[Bs]
theorem Bs.cons{x:Nat}{l:List Nat}(hx:x<256)(h:Bs l):Bs (x::l):=by simpa[Bs]using And.intro hx h
theorem Bs.head{x:Nat}{l:List Nat}(h:Bs (x::l)):x<256:=h x (by simp)
theorem Bs.tail{x:Nat}{l:List Nat}(h:Bs (x::l)):Bs l:=fun y hy=>h y (by simp[hy])
theorem Bs.append{l m:List Nat}(h:Bs l)(k:Bs m):Bs (l++m):=by
 intro x hx;rcases List.mem_append.1 hx with hx|hx
 ·exact h x hx
 ·exact k x hx
theorem Bs.take{l:List Nat}(k:Nat)(h:Bs l):Bs (l.take k):=fun x hx=>h x (List.mem_of_mem_take hx)
theorem Bs.drop{l:List Nat}(k:Nat)(h:Bs l):Bs (l.drop k):=fun x hx=>h x (List.mem_of_mem_drop hx)
theorem Bs.get{l:List Nat}{i x:Nat}(h:Bs l)(hi:l[i]?=some x):x<256:=h x (List.mem_of_getElem? hi)
theorem cs_lt{s:Nat}{l:List Nat}(hs:s<65536)(hl:Bs l):cs s l<65536:=by
 induction l generalizing s with
 |nil=>rw[cs_nil];exact hs
 |cons x l ih=>rw[cs_cons];exact ih (tk_lt hs hl.head) hl.tail
theorem cs_append(s:Nat)(l m:List Nat):cs s (l++m)=cs (cs s l) m:=by unfold cs;rw[List.foldl_append]
theorem cs_snoc(s:Nat)(l:List Nat)(x:Nat):cs s (l++[x])=tk (cs s l) x:=by rw[cs_append,cs_cons,cs_nil]
def crc(l:List Nat):Nat:=cs 65535 l
theorem crc_lt{l:List Nat}(hl:Bs l):crc l<65536:=cs_lt (by omega) hl
theorem crc_take{l:List Nat}{k x:Nat}(h:l[k]?=some x):crc (l.take (k+1))=tk (crc (l.take k)) x:=by
 rw[List.take_add_one,h];show crc (_++[x])=_;unfold crc;rw[cs_snoc]
end Go.Proofs.YtnkelgdnglaafaaGreat.FF.FC
namespace Go.Proofs.YtnkelgdnglaafaaGreat.FF
structure Fr where
 ki:Int
 ca:Int
 sq:Int
 a:Int
 b:Int
 c:Int
namespace FC
structure May(f:Fr):Prop where
 ki1:1≤f.ki
 ki2:f.ki≤3
 ca1:0≤f.ca
 ca2:f.ca≤255
 sq1:0≤f.sq
 sq2:f.sq≤65535
 a1:0≤f.a
 a2:f.a≤255
 b1:0≤f.b
 b2:f.b≤255
 c1:0≤f.c
 c2:f.c≤255
def g(l:List Nat)(i:Nat):Nat:=l[i]?.getD 0
theorem g_lt{l:List Nat}(h:Bs l)(i:Nat):g l i<256:=by
 unfold g;cases e:l[i]? with
 |none=>simp
 |some x=>exact h.get e
def de(l:List Nat):Nat:=if l.length=10∧g l 0=165 then(if crc (l.take 8)=g l 8*256+g l 9 then(if 1≤g l 1∧g l 1≤3 then 0 else 3)else 6)else 3
def dr(l:List Nat):Fr:=⟨g l 1,g l 2,(g l 3*256+g l 4:Nat),g l 5,g l 6,g l 7⟩
def df(l:List Nat):Fr:=if de l=0 then dr l else⟨0,0,0,0,0,0⟩
def h8(f:Fr):List Nat:=[165,f.ki.toNat,f.ca.toNat,f.sq.toNat/256,f.sq.toNat%256,f.a.toNat,f.b.toNat,f.c.toNat]
def en(f:Fr):List Nat:=h8 f++[crc (h8 f)/256,crc (h8 f)%256]
theorem h8_Bs{f:Fr}(h:May f):Bs (h8 f):=by
 have:=h.ki1;have:=h.ki2;have:=h.ca2;have:=h.sq1;have:=h.sq2;have:=h.a2;have:=h.b2;have:=h.c2;unfold h8;refine Bs.cons ?_ (Bs.cons ?_ (Bs.cons ?_ (Bs.cons ?_ (Bs.cons ?_ (Bs.cons ?_ (Bs.cons ?_ (Bs.cons ?_ Bs.nil)))))))
 all_goals omega
theorem en_Bs{f:Fr}(h:May f):Bs (en f):=by
 have:=crc_lt (h8_Bs h);exact(h8_Bs h).append (Bs.cons (by omega) (Bs.cons (by omega) Bs.nil))
theorem en_length(f:Fr):(en f).length=10:=by unfold en h8;simp
def fds:Nat→List Nat→List Fr×Nat×List Nat
 |0,l=>([],0,l)
 |k+1,l=>if l.length<10 then([],0,l)
  else if de (l.take 10)=0 then(df (l.take 10)::(fds k (l.drop 10)).1,(fds k (l.drop 10)).2.1,(fds k (l.drop 10)).2.2)
  else((fds k (l.drop 1)).1,(fds k (l.drop 1)).2.1+1,(fds k (l.drop 1)).2.2)
theorem fds_succ(k:Nat)(l:List Nat):fds (k+1) l=if l.length<10 then([],0,l)else if de (l.take 10)=0 then(df (l.take 10)::(fds k (l.drop 10)).1,(fds k (l.drop 10)).2.1,(fds k (l.drop 10)).2.2)else((fds k (l.drop 1)).1,(fds k (l.drop 1)).2.1+1,(fds k (l.drop 1)).2.2):=rfl
theorem fds_few(k:Nat){l:List Nat}(h:l.length<10):fds k l=([],0,l):=by
 cases k with
 |zero=>rfl
 |succ k=>rw[fds_succ,if_pos h]
theorem fds_more(k:Nat):∀(m:Nat) (l:List Nat),l.length≤k→l.length≤m→fds k l=fds m l:=by
 induction k with
 |zero=>
  intro m l hk _;rw[fds_few 0 (by omega),fds_few m (by omega)]
 |succ k ih=>
  intro m l hk hm;by_cases h:l.length<10
  ·rw[fds_few _ h,fds_few _ h]
  ·cases m with
   |zero=>omega
   |succ m=>
    rw[fds_succ,fds_succ,if_neg h,if_neg h,ih m (l.drop 10) (by rw[List.length_drop];omega) (by rw[List.length_drop];omega),ih m (l.drop 1) (by rw[List.length_drop];omega) (by rw[List.length_drop];omega)]
def fd(l:List Nat):List Fr×Nat×List Nat:=fds l.length l
theorem fd_few{l:List Nat}(h:l.length<10):fd l=([],0,l):=fds_few _ h
theorem fd_yes{l:List Nat}(h:¬l.length<10)(k:de (l.take 10)=0):fd l=(df (l.take 10)::(fd (l.drop 10)).1,(fd (l.drop 10)).2.1,(fd (l.drop 10)).2.2):=by
 unfold fd;rw[fds_more l.length (l.length+1) l (Nat.le_refl _) (Nat.le_succ _),fds_succ,if_neg h,if_pos k,fds_more l.length (l.drop 10).length (l.drop 10) (by rw[List.length_drop];omega) (Nat.le_refl _)]
theorem fd_no{l:List Nat}(h:¬l.length<10)(k:de (l.take 10)≠0):fd l=((fd (l.drop 1)).1,(fd (l.drop 1)).2.1+1,(fd (l.drop 1)).2.2):=by
 unfold fd;rw[fds_more l.length (l.length+1) l (Nat.le_refl _) (Nat.le_succ _),fds_succ,if_neg h,if_neg k,fds_more l.length (l.drop 1).length (l.drop 1) (by rw[List.length_drop];omega) (Nat.le_refl _)]
theorem fd_left(l:List Nat):(fd l).2.2.length<10∧∃k,(fd l).2.2=l.drop k:=by
 induction hn:l.length using Nat.strongRecOn generalizing l with
 |_ n ih=>
 by_cases h:l.length<10
 ·rw[fd_few h];exact⟨h,0,rfl⟩
 ·by_cases k:de (l.take 10)=0
  ·rw[fd_yes h k];obtain⟨h1,j,h2⟩:=ih (l.drop 10).length (by simp only[List.length_drop];omega) _ rfl;exact⟨h1,10+j,by rw[h2,List.drop_drop]⟩
  ·rw[fd_no h k];obtain⟨h1,j,h2⟩:=ih (l.drop 1).length (by simp only[List.length_drop];omega) _ rfl;exact⟨h1,1+j,by rw[h2,List.drop_drop]⟩
theorem fd_Bs{l:List Nat}(h:Bs l):Bs (fd l).2.2:=by
 obtain⟨_,k,e⟩:=fd_left l;rw[e];exact h.drop k
theorem fd_count(l:List Nat):(fd l).1.length*10+(fd l).2.1+(fd l).2.2.length=l.length:=by
 induction hn:l.length using Nat.strongRecOn generalizing l with
 |_ n ih=>
 by_cases h:l.length<10
 ·rw[fd_few h];simpa using hn
 ·by_cases k:de (l.take 10)=0
  ·rw[fd_yes h k];have:=ih (l.drop 10).length (by simp only[List.length_drop];omega) _ rfl;simp only[List.length_drop,List.length_cons]at this⊢;omega
  ·rw[fd_no h k];have:=ih (l.drop 1).length (by simp only[List.length_drop];omega) _ rfl;simp only[List.length_drop]at this⊢;omega
def ens(L:List Fr):List Nat:=L.flatMap en
theorem ens_cons(f:Fr)(L:List Fr):ens (f::L)=en f++ens L:=by simp[ens]
theorem ens_snoc(f:Fr)(L:List Fr):ens (L++[f])=ens L++en f:=by simp[ens]
theorem ens_Bs{L:List Fr}(h:∀f∈L,May f):Bs (ens L):=by
 induction L with
 |nil=>exact Bs.nil
 |cons f L ih=>rw[ens_cons];exact(en_Bs (h f (by simp))).append (ih fun e he=>h e (by simp[he]))
theorem ens_length(L:List Fr):(ens L).length=10*L.length:=by
 induction L with
 |nil=>rfl
 |cons f L ih=>rw[ens_cons,List.length_append,ih,en_length,List.length_cons];omega
end FC
open Go.RowKit
theorem Hd{p:Prop}(h:p):Hid p:=h
theorem ret_int{k:IntKind}{a b:Int}(h:a=b):Ending.returned (.int k a)=.returned (.int k b):=by rw[h]
theorem below_class{W0 w w':World}(h:Below W0.heap.size W0 w)(h':Below w.heap.size w w'):Below W0.heap.size W0 w':=h.trans (h'.mono h.size)
structure Kp(F:Nat→Prop)(w w':World):Prop where
 os:w'.os=w.os
 tape:w'.tape=w.tape
 output:w'.output=w.output
 size:w.heap.size≤w'.heap.size
 block:∀k,k<w.heap.size→¬F k→w'.heap[k]?=w.heap[k]?
section
variable {F G:Nat→Prop} {w w' w'':World}
theorem Kp.trans(h:Kp F w w')(k:Kp G w' w'')(hg:∀i,i<w.heap.size→G i→F i):Kp F w w'':=
 ⟨k.os.trans h.os,k.tape.trans h.tape,k.output.trans h.output,Nat.le_trans h.size k.size,fun i hi hf=>(k.block i (Nat.lt_of_lt_of_le hi h.size) (fun hG=>hf (hg i hi hG))).trans (h.block i hi hf)⟩
theorem Kp.ofBelow(F:Nat→Prop)(h:Below w.heap.size w w'):Kp F w w':=⟨h.os,h.tape,h.output,h.size,fun i hi _=>h.block i hi⟩
theorem Kp.toBelow{B:Nat}(h:Kp F w w')(hB:B≤w.heap.size)(hF:∀i,i<B→¬F i):Below B w w':=⟨h.os,h.tape,h.output,h.size,fun i hi=>h.block i (by omega) (hF i hi)⟩
theorem Kp.below{B:Nat}{a:World}(h:Kp F w w')(hb:Below B a w)(hB:B≤w.heap.size)(hF:∀i,i<B→¬F i):Below B a w':=hb.trans (h.toBelow hB hF)
theorem Kp.set(h:Kp F w w')(b i:Nat)(u:Value)(hF:b<w.heap.size→F b):Kp F w (w'.setCell ⟨b,i,none⟩ u):=
 h.trans (G:=fun k=>k=b) ⟨rfl,rfl,rfl,by simp[World.setCell],fun k _ hk=>Below.heap_setCell _ _ _ _ hk⟩ (fun k hk e=>by subst e;exact hF hk)
end
def bc(l:List Nat):List Value:=l.map fun (n:Nat)=>Value.int .u8 (n:Int)
theorem bc_length(l:List Nat):(bc l).length=l.length:=by unfold bc;rw[List.length_map]
theorem bc_append(l m:List Nat):bc (l++m)=bc l++bc m:=by unfold bc;rw[List.map_append]
theorem bc_get{l:List Nat}{i:Nat}{u:Value}(h:(bc l)[i]?=some u):∃x,l[i]?=some x∧u=.int .u8 (x:Int):=by
 unfold bc at h;rw[List.getElem?_map]at h;cases e:l[i]? with
 |none=>rw[e]at h;simp at h
 |some x=>rw[e]at h;simp at h;exact⟨x,rfl,h.symm⟩
theorem bc_some{l:List Nat}{i x:Nat}(h:l[i]?=some x):(bc l)[i]?=some (.int .u8 (x:Int)):=by
 unfold bc;rw[List.getElem?_map,h];rfl
theorem bc_one(l:List Nat):∀u∈bc l,u.oneCell'=true:=by
 intro u hu;obtain⟨n,_,rfl⟩:=List.mem_map.1 hu
 rfl
def RD(W:World)(v:Value)(l:List Nat):Prop:=
 FC.Bs l∧∃a cap,v=.slice a l.length cap∧l.length≤cap∧(cap≤maxLen∧(a=none→cap=0))∧(l=[]∨∃g o,a=some ⟨g,o,none⟩∧g<W.heap.size∧∀(i:Nat) x,l[i]?=some x→W.cell? ⟨g,o+i,none⟩=some (.int .u8 (x:Int)))
section
variable {W W':World} {v:Value} {l:List Nat}
theorem RD.bs(h:RD W v l):FC.Bs l:=h.1
theorem RD.keep(h:RD W v l)(hs:W.heap.size≤W'.heap.size)(hk:∀g,v.ownBlock=some g→g<W.heap.size→W'.heap[g]?=W.heap[g]?):RD W' v l:=by
 obtain⟨hB,a,cap,rfl,hc,hm,h⟩:=h;refine⟨hB,a,cap,rfl,hc,hm,?_⟩;rcases h with h|⟨g,o,rfl,hlt,h⟩
 ·exact .inl h
 ·exact .inr ⟨g,o,rfl,Nat.lt_of_lt_of_le hlt hs,fun i y hy=>(World.cell?_of_block (a:=⟨g,o+i,none⟩) (hk g rfl hlt)).trans (h i y hy)⟩
theorem RD.below'(h:RD W v l)(hb:Below W.heap.size W W'):RD W' v l:=h.keep hb.size fun g _ hlt=>hb.block g hlt
theorem RD.alloc(h:RD W v l)(o:Obj):RD (W.alloc o) v l:=h.below' ((Below.refl _ _).alloc (Nat.le_refl _) o)
theorem RD.drew(h:RD W v l):RD W.drew v l:=h.below' (Below.refl _ _).drew
theorem RD.nil(W:World):RD W (.slice none 0 0) []:=⟨FC.Bs.nil,none,0,rfl,Nat.zero_le _,⟨Nat.zero_le _,fun _=>rfl⟩,.inl rfl⟩
theorem RD.form(h:RD W v l):∃a cap,v=.slice a l.length cap∧l.length≤cap∧cap≤maxLen∧(l=[]∨∃g o,a=some ⟨g,o,none⟩∧g<W.heap.size):=by
 obtain⟨_,a,cap,h1,h2,hm,h3⟩:=h;refine⟨a,cap,h1,h2,hm.1,?_⟩;rcases h3 with h3|⟨g,o,h3,h4,_⟩
 ·exact .inl h3
 ·exact .inr ⟨g,o,h3,h4⟩
theorem RD.len{a:Option Addr}{n cap:Nat}(h:RD W (.slice a n cap) l):n=l.length∧n≤cap∧cap≤maxLen:=by
 obtain⟨_,a',cap',e,hc,hm,_⟩:=h;cases e;exact⟨rfl,hc,hm.1⟩
theorem RD.nilv{n cap:Nat}(h:RD W (.slice none n cap) l):n=0∧cap=0∧l=[]:=by
 obtain⟨_,a',cap',e,hc,hm,_⟩:=h;cases e;have:=hm.2 rfl;subst this;exact⟨by omega,rfl,List.length_eq_zero_iff.1 (by omega)⟩
theorem RD.cell{g o n cap:Nat}(h:RD W (.slice (some ⟨g,o,none⟩) n cap) l){i x:Nat}(hi:l[i]?=some x):W.cell? ⟨g,o+i,none⟩=some (.int .u8 (x:Int)):=by
 obtain⟨_,a',cap',e,hc,_,h⟩:=h;cases e;rcases h with h|⟨g',o',e,_,h⟩
 ·rw[h]at hi;simp at hi
 ·cases e;exact h i x hi
theorem RD.lt{g o n cap:Nat}(h:RD W (.slice (some ⟨g,o,none⟩) n cap) l)(hl:l≠[]):g<W.heap.size:=by
 obtain⟨_,a',cap',e,hc,_,h⟩:=h;cases e;rcases h with h|⟨g',o',e,hlt,_⟩
 ·exact absurd h hl
 ·cases e;exact hlt
theorem RD.cells{g o n cap:Nat}(h:RD W (.slice (some ⟨g,o,none⟩) n cap) l):∀j u,(bc l)[j]?=some u→W.cell? ((⟨g,o,none⟩:Addr).add j)=some u:=fun j u hu=>by
 obtain⟨x,hx,rfl⟩:=bc_get hu;rw[Addr.add_mid];exact h.cell hx
theorem RD.take{a:Option Addr}{n cap:Nat}(h:RD W (.slice a n cap) l)(k:Nat)(hk:k≤l.length):RD W (.slice a k cap) (l.take k):=by
 obtain⟨hB,a',cap',e,hc,hm,h⟩:=h;cases e;have hl:(l.take k).length=k:=by rw[List.length_take];omega
 refine⟨hB.take k,a,cap,by rw[hl],by omega,hm,?_⟩;rcases h with h|⟨g,o,rfl,hlt,h⟩
 ·left;rw[h];simp
 ·refine .inr ⟨g,o,rfl,hlt,fun i x hx=>h i x ?_⟩;rw[List.getElem?_take]at hx;split at hx
  ·exact hx
  ·cases hx
theorem RD.drop{a a':Option Addr}{n cap:Nat}(h:RD W (.slice a n cap) l)(k:Nat)(hk:k≤l.length)(ha:∀g o,a=some ⟨g,o,none⟩→k<l.length→a'=some ⟨g,o+k,none⟩)(hn:a'=none→a=none):RD W (.slice a' (l.length-k) (cap-k)) (l.drop k):=by
 obtain⟨hB,a0,cap',e,hc,hm,h⟩:=h;cases e;have hl:(l.drop k).length=l.length-k:=by rw[List.length_drop]
 refine⟨hB.drop k,a',cap-k,by rw[hl],by omega,⟨by have:=hm.1;omega,fun e=>by have:=hm.2 (hn e);omega⟩,?_⟩;by_cases hkl:k<l.length
 ·rcases h with h|⟨g,o,rfl,hlt,h⟩
  ·left;rw[h];simp
  ·refine .inr ⟨g,o+k,ha g o rfl hkl,hlt,fun i x hx=> ?_⟩;rw[List.getElem?_drop]at hx;rw[Nat.add_assoc];exact h (k+i) x hx
 ·left;apply List.length_eq_zero_iff.1;omega
end
def OW(W:World)(B:Nat)(v:Value)(l:List Nat):Prop:=W.ownsRow B 5 1 v l.length (bc l)
section
variable {W W':World} {B:Nat} {v:Value} {l:List Nat}
theorem OW.nil(W:World)(B:Nat):OW W B (.slice none 0 0) []:=World.ownsRow_nil W B _ 1
theorem OW.form(h:OW W B v l):(v=.slice none 0 0∧l=[])∨∃g cap,v=.slice (some ⟨g,0,none⟩) l.length cap∧B≤g∧g<W.heap.size∧l.length≤cap∧cap≤maxLen:=by
 rcases h.2 with⟨h1,h2⟩|⟨g,cap,cur,hv,hb,hg,hc,hm,_⟩
 ·exact .inl ⟨h1,List.length_eq_zero_iff.1 h2⟩
 ·exact .inr ⟨g,cap,hv,hb,(Array.getElem?_eq_some_iff.1 hg).1,hc,hm⟩
theorem OW.lt(h:OW W B v l):∀g,v.ownBlock=some g→B≤g∧g<W.heap.size:=World.ownsRow.lt h
theorem OW.keep(h:OW W B v l)(hk:∀g,v.ownBlock=some g→W'.heap[g]?=W.heap[g]?):OW W' B v l:=by
 refine⟨h.1,?_⟩;rcases h.2 with h2|⟨g,cap,cur,hv,hb,hg,r⟩
 ·exact .inl h2
 ·exact .inr ⟨g,cap,cur,hv,hb,(hk g (by rw[hv];rfl)).trans hg,r⟩
theorem OW.below'(h:OW W B v l)(hb:Below W.heap.size W W'):OW W' B v l:=h.keep fun g hg=>hb.block g (h.lt g hg).2
theorem OW.alloc(h:OW W B v l)(o:Obj):OW (W.alloc o) B v l:=h.below' ((Below.refl _ _).alloc (Nat.le_refl _) o)
theorem OW.mono{B':Nat}(h:OW W B v l)(hB:B'≤B):OW W B' v l:=by
 refine⟨h.1,?_⟩;rcases h.2 with h2|⟨g,cap,cur,hv,hb,r⟩
 ·exact .inl h2
 ·exact .inr ⟨g,cap,cur,hv,Nat.le_trans hB hb,r⟩
theorem OW.cell{g cap n:Nat}(h:OW W B (.slice (some ⟨g,0,none⟩) n cap) l){i x:Nat}(hi:l[i]?=some x):W.cell? ⟨g,i,none⟩=some (.int .u8 (x:Int)):=by
 have:=World.ownsRow.cells h (g:=g) rfl i _ (bc_some hi);rwa[Addr.add_mid,Nat.zero_add]at this
theorem OW.rd(h:OW W B v l)(hB:FC.Bs l):RD W v l:=by
 rcases h.form with⟨rfl,rfl⟩|⟨g,cap,rfl,_,hlt,hc,hm⟩
 ·exact RD.nil _
 ·exact⟨hB,_,cap,rfl,hc,⟨hm,fun e=>by cases e⟩,.inr ⟨g,0,rfl,hlt,fun i x hx=>by rw[Nat.zero_add];exact h.cell hx⟩⟩
theorem OW.lit(W:World)(l:List Nat)(hB:B≤W.heap.size)(hm:l.length≤maxLen):OW (W.alloc (.cells (bc l).toArray 5)) B (.slice (some ⟨W.heap.size,0,none⟩) l.length l.length) l:=by
 have:=World.ownsRow_lit (e:=5) (size:=1) W (bc l).toArray l.length hB hm (by simp[bc_length]);simpa[OW]using this
end
def fv(f:Fr):List Value:=[.int .i64 f.ki,.int .i64 f.ca,.int .i64 f.sq,.int .i64 f.a,.int .i64 f.b,.int .i64 f.c]
def rv(L:List Fr):List Value:=L.flatMap fv
theorem fv_length(f:Fr):(fv f).length=6:=rfl
theorem rv_length(L:List Fr):(rv L).length=L.length*6:=by
 induction L with
 |nil=>rfl
 |cons c r ih=>show(fv c++rv r).length=_;rw[List.length_append,ih,fv_length,List.length_cons];omega
theorem rv_append(L M:List Fr):rv (L++M)=rv L++rv M:=by unfold rv;rw[List.flatMap_append]
theorem rv_one1(f:Fr):rv [f]=fv f:=by simp[rv]
theorem rv_get{L:List Fr}{i j:Nat}(h:i<L.length)(hj:j<6):(rv L)[i*6+j]?=(fv L[i])[j]?:=by
 induction L generalizing i with
 |nil=>simp at h
 |cons c r ih=>
  show(fv c++rv r)[i*6+j]?=_;cases i with
  |zero=>rw[List.getElem?_append_left (by rw[fv_length];omega)];simp
  |succ i=>
   rw[List.getElem?_append_right (by rw[fv_length];omega),fv_length,show(i+1)*6+j-6=i*6+j by omega,ih (by simpa using h)];simp
theorem fv_one(f:Fr):∀u∈fv f,u.oneCell'=true:=by
 intro u hc;simp only[fv,List.mem_cons,List.not_mem_nil,or_false]at hc;rcases hc with rfl|rfl|rfl|rfl|rfl|rfl<;>rfl
theorem rv_one(L:List Fr):∀u∈rv L,u.oneCell'=true:=by
 intro u hu;obtain⟨c,_,hc⟩:=List.mem_flatMap.1 hu;exact fv_one c u hc
def RF(W:World)(v:Value)(L:List Fr):Prop:=
 ∃a cap,v=.slice a L.length cap∧L.length≤cap∧(L=[]∨∃g o,a=some ⟨g,o,none⟩∧g<W.heap.size∧∀(i:Nat) y,L[i]?=some y→W.rangeAt g (o+i*6) (fv y))
def FO(W:World)(B:Nat)(v:Value)(L:List Fr):Prop:=W.ownsRow B 56 6 v L.length (rv L)
section
variable {W W':World} {B:Nat} {v:Value} {L:List Fr}
theorem rangeAt_block{b o:Nat}{cs:List Value}(h:W.rangeAt b o cs)(hb:W'.heap[b]?=W.heap[b]?):W'.rangeAt b o cs:=fun j u hu=>
 (World.cell?_of_block (a:=⟨b,o+j,none⟩) hb).trans (h j u hu)
theorem RF.keep(h:RF W v L)(hs:W.heap.size≤W'.heap.size)(hk:∀g,v.ownBlock=some g→g<W.heap.size→W'.heap[g]?=W.heap[g]?):RF W' v L:=by
 obtain⟨a,cap,rfl,hc,h⟩:=h;refine⟨a,cap,rfl,hc,?_⟩;rcases h with h|⟨g,o,rfl,hlt,h⟩
 ·exact .inl h
 ·exact .inr ⟨g,o,rfl,Nat.lt_of_lt_of_le hlt hs,fun i y hy=>rangeAt_block (h i y hy) (hk g rfl hlt)⟩
theorem FO.nil(W:World)(B:Nat):FO W B (.slice none 0 0) []:=World.ownsRow_nil W B _ 6
theorem FO.form(h:FO W B v L):(v=.slice none 0 0∧L=[])∨∃g cap,v=.slice (some ⟨g,0,none⟩) L.length cap∧B≤g∧g<W.heap.size∧L.length≤cap:=by
 rcases h.2 with⟨h1,h2⟩|⟨g,cap,cur,hv,hb,hg,hc,_⟩
 ·exact .inl ⟨h1,List.length_eq_zero_iff.1 h2⟩
 ·exact .inr ⟨g,cap,hv,hb,(Array.getElem?_eq_some_iff.1 hg).1,hc⟩
theorem FO.lt(h:FO W B v L):∀g,v.ownBlock=some g→B≤g∧g<W.heap.size:=World.ownsRow.lt h
theorem FO.keep(h:FO W B v L)(hk:∀g,v.ownBlock=some g→W'.heap[g]?=W.heap[g]?):FO W' B v L:=by
 refine⟨h.1,?_⟩;rcases h.2 with h2|⟨g,cap,cur,hv,hb,hg,r⟩
 ·exact .inl h2
 ·exact .inr ⟨g,cap,cur,hv,hb,(hk g (by rw[hv];rfl)).trans hg,r⟩
theorem FO.below'(h:FO W B v L)(hb:Below W.heap.size W W'):FO W' B v L:=h.keep fun g hg=>hb.block g (h.lt g hg).2
theorem FO.range{g cap n:Nat}(h:FO W B (.slice (some ⟨g,0,none⟩) n cap) L){i:Nat}(hi:i<L.length):W.rangeAt g (i*6) (fv L[i]):=fun j u hu=>by
 have hj:j<6:=by have:=(List.getElem?_eq_some_iff.1 hu).1;rwa[fv_length]at this
 have:=World.ownsRow.cells h (g:=g) rfl (i*6+j) u (by rw[rv_get hi hj];exact hu);rwa[Addr.add_mid,Nat.zero_add]at this
end
def FB(W:World)(b:Nat)(f:Fr):Prop:=W.heap[b]?=some (.cells #[.int .i64 f.ki,.int .i64 f.ca,.int .i64 f.sq,.int .i64 f.a,.int .i64 f.b,.int .i64 f.c] 56 (0,0))
section
variable {W W':World} {b:Nat} {f:Fr}
theorem FB.lt(H:FB W b f):b<W.heap.size:=(Array.getElem?_eq_some_iff.1 H).1
theorem FB.range(H:FB W b f):W.rangeAt b 0 (fv f):=fun j v hv=>by
 rw[Nat.zero_add,cell_of_row W b j _ _ _ H,←hv];simp[fv]
theorem FB.c0(H:FB W b f):W.cell? ⟨b,0,none⟩=some (.int .i64 f.ki):=H.range 0 _ rfl
theorem FB.c2(H:FB W b f):W.cell? ⟨b,2,none⟩=some (.int .i64 f.sq):=H.range 2 _ rfl
theorem FB.below'(H:FB W b f)(hb:Below W.heap.size W W'):FB W' b f:=(hb.block b H.lt).trans H
theorem FB.alloc(H:FB W b f)(o:Obj):FB (W.alloc o) b f:=H.below' ((Below.refl _ _).alloc (Nat.le_refl _) o)
theorem FB.drew(H:FB W b f):FB W.drew b f:=H.below' (Below.refl _ _).drew
theorem FB.new(W:World)(f:Fr):FB (W.alloc (.cells #[.int .i64 f.ki,.int .i64 f.ca,.int .i64 f.sq,.int .i64 f.a,.int .i64 f.b,.int .i64 f.c] 56)) W.heap.size f:=heap_alloc_new W _
end
theorem i64_xor_nat(a b:Nat)(ha:a<2147483648)(hb:b<2147483648):bits .xor .i64 (a:Int) (b:Int)=((a^^^b:Nat):Int):=by
 have h:=Nat.xor_lt_two_pow (n:=31) ha hb;show IntKind.i64.wrap ((BitVec.ofInt 64 (a:Int)^^^BitVec.ofInt 64 (b:Int)).toNat:Nat)=_;rw[BitVec.toNat_xor,ofInt_u64 a (by omega),ofInt_u64 b (by omega),IntKind.wrap_i64];omega
theorem i64_or_nat(a b:Nat)(ha:a<2147483648)(hb:b<2147483648):bits .or .i64 (a:Int) (b:Int)=((a|||b:Nat):Int):=by
 have h:=Nat.or_lt_two_pow (n:=31) ha hb;show IntKind.i64.wrap ((BitVec.ofInt 64 (a:Int)|||BitVec.ofInt 64 (b:Int)).toNat:Nat)=_;rw[BitVec.toNat_or,ofInt_u64 a (by omega),ofInt_u64 b (by omega),IntKind.wrap_i64];omega
theorem doubled_any(s:Nat)(hs:s<65536)(w:World):
  Calls Tryz.prog 112 #[.int .u16 (s:Int)] w fun e w'=>e=.returned (.int .u16 (FC.dbl s:Nat))∧w'=w:=by
 by_cases h:32768≤s
 ·have hz:(32768:Int)≤(s:Int):=by omega
  go_enter Tryz.func112,Tryz.ntmps112
  go_wp2;go_ret;refine⟨ret_int ?_,rfl⟩;have e:IntKind.u16.wrap ((s:Int)*2)=((2*s-65536:Nat):Int):=by rw[IntKind.wrap_u16];omega
  rw[e,show(4129:Int)=((4129:Nat):Int)from rfl,u16_xor_nat _ _ (by omega) (by omega)];unfold FC.dbl;rw[if_pos h]
 ·have hz:¬(32768:Int)≤(s:Int):=by omega
  go_enter Tryz.func112,Tryz.ntmps112
  go_wp2;go_ret;refine⟨ret_int ?_,rfl⟩;unfold FC.dbl;rw[if_neg h];omega
theorem joined_any(x y:Nat)(hx:x<256)(hy:y<256)(w:World):
  Calls Tryz.prog 78 #[.int .u8 (x:Int),.int .u8 (y:Int)] w fun e w'=>e=.returned (.int .i64 (x*256+y:Nat))∧w'=w:=by
 go_enter Tryz.func78,Tryz.ntmps78
 go_wp2;go_ret;refine⟨ret_int ?_,rfl⟩;rw[show(x:Int)*256=((x*256:Nat):Int) by omega,i64_or_nat _ _ (by omega) (by omega),nat_join 8 (x*256) y (by omega) hy]
theorem tk_step(s x k:Nat):FC.dbl (FC.dbls k (s^^^(x*256)))=FC.dbls (k+1) (s^^^(x*256)):=rfl
theorem sum_any(v:Value)(l:List Nat)(w:World)(h:RD w v l):
  Calls Tryz.prog 79 #[v] w fun e w'=>e=.returned (.int .i64 (FC.crc l:Nat))∧w'=w:=by
 have HR:=Hd h;obtain⟨a,cap,rfl,hc,hm,ha⟩:=h.form;have hB:=Hd h.bs;unfold maxLen at hm;clear h
 go_enter Tryz.func79,Tryz.ntmps79
 go_wp2
 go_loop [3,5,8,17] (fun s _ i _=>∃k:Nat,k≤l.length∧i=.int .i64 k∧s=.int .u16 (FC.crc (l.take k):Nat)) (fun _ _ i _=>l.length-(intOf i).toNat)
 case atStart=>exact⟨0,Nat.zero_le _,rfl,rfl⟩
 case round=>
  obtain⟨k,hk,rfl,rfl⟩:=hrel;have hlt16:=FC.crc_lt (hB.out.take k);generalize hs:FC.crc (l.take k)=s at hlt16;have HS:=Hd hs;clear hs;by_cases hlt:k<l.length
  ·have hkz:(k:Int)<(l.length:Int):=by omega
   obtain⟨x,hx⟩:∃x,l[k]?=some x:=⟨_,List.getElem?_eq_getElem hlt⟩;have hx8:=hB.out.get hx;rcases ha with ha|⟨g,o,rfl,hg⟩
   ·exfalso;rw[ha]at hx;simp at hx
   have hcell:=HR.out.cell hx;have HX:=Hd hx;clear hx;go_wp2
   go_loop [3,17] (fun t i=>∃j:Nat,j≤8∧i=.int .i64 j∧t=.int .u16 (FC.dbls j (s^^^(x*256)):Nat)) (fun _ i=>8-(intOf i).toNat)
   case atStart=>
    refine⟨0,Nat.zero_le _,rfl,?_⟩;rw[show(x:Int)*256=((x*256:Nat):Int) by omega,u16_xor_nat _ _ hlt16 (by omega)]
    rfl
   case round=>
    obtain⟨j,hj,rfl,rfl⟩:=hrel;have hdl:=FC.dbls_lt (a:=s^^^(x*256)) j (FC.xor_lt hlt16 (by omega));by_cases hlt8:j<8
    ·have hjz:(j:Int)<8:=by omega
     go_wp2_with (go_at_call 112;refine (doubled_any _ hdl _).mono ?_;rintro e w' ⟨rfl,rfl⟩)
     go_round
     case rel=>exact⟨j+1,by omega,by go_num,rfl⟩
     case measure=>simp[intOf];omega
    ·have hjz:¬(j:Int)<8:=by omega
     obtain rfl:j=8:=by omega
     have HT:Hid (FC.crc (l.take (k+1))=FC.dbls 8 (s^^^(x*256))):=by
      have:=FC.crc_take HX.out;rw[HS.out]at this;exact this
     go_wp2
     go_round
     case rel=>exact⟨k+1,by omega,by go_num,by rw[HT.out]⟩
     case measure=>simp[intOf];omega
  ·have hkz:¬(k:Int)<(l.length:Int):=by omega
   obtain rfl:k=l.length:=by omega
   go_wp2;go_ret;refine⟨ret_int ?_,rfl⟩;rw[←HS.out,List.take_length]
theorem rsum_any(v:Value)(l:List Nat)(w:World)(h:RD w v l):
  Calls Tryz.prog 34 #[v] w fun e w'=>e=.returned (.int .i64 (FC.crc l:Nat))∧w'=w:=by
 have HR:=Hd h;obtain⟨a,cap,rfl,hc,hm,ha⟩:=h.form;have hB:=Hd h.bs;unfold maxLen at hm;clear h
 go_enter Tryz.func34,Tryz.ntmps34
 go_wp2
 go_loop [3,4,5] (fun s i _=>∃k:Nat,k≤l.length∧i=.int .i64 k∧s=.int .i64 (FC.crc (l.take k):Nat)) (fun _ i _=>l.length-(intOf i).toNat)
 case atStart=>exact⟨0,Nat.zero_le _,rfl,rfl⟩
 case round=>
  obtain⟨k,hk,rfl,rfl⟩:=hrel;have hlt16:=FC.crc_lt (hB.out.take k);generalize hs:FC.crc (l.take k)=s at hlt16;have HS:=Hd hs;clear hs;by_cases hlt:k<l.length
  ·have hkz:(k:Int)<(l.length:Int):=by omega
   obtain⟨x,hx⟩:∃x,l[k]?=some x:=⟨_,List.getElem?_eq_getElem hlt⟩;have hx8:=hB.out.get hx;rcases ha with ha|⟨g,o,rfl,hg⟩
   ·exfalso;rw[ha]at hx;simp at hx
   have hcell:=HR.out.cell hx;have HX:=Hd hx;clear hx;go_wp2
   go_loop [3,5] (fun t i=>∃j:Nat,j≤8∧i=.int .i64 j∧t=.int .i64 (FC.dbls j (s^^^(x*256)):Nat)) (fun _ i=>8-(intOf i).toNat)
   case atStart=>
    refine⟨0,Nat.zero_le _,rfl,?_⟩;rw[show(x:Int)*256=((x*256:Nat):Int) by omega,i64_xor_nat _ _ (by omega) (by omega)]
    rfl
   case round=>
    obtain⟨j,hj,rfl,rfl⟩:=hrel;have hdl:=FC.dbls_lt (a:=s^^^(x*256)) j (FC.xor_lt hlt16 (by omega));by_cases hlt8:j<8
    ·have hjz:(j:Int)<8:=by omega
     have HD:=Hd (tk_step s x j);generalize FC.dbls j (s^^^(x*256))=d at hdl HD;by_cases hd:32768≤d
     ·have hd2:(65536:Int)≤2*(d:Int):=by omega
      have hd3:(d:Int)<65536:=by omega
      have HZ:=Hd hd;clear hd hdl HR;go_wp2
      go_round
      case rel=>
       refine⟨j+1,by omega,by go_num,?_⟩;rw[←HD.out];unfold FC.dbl;rw[if_pos HZ.out];have hz:=HZ.out;rw[show 2*(d:Int)-65536=((2*d-65536:Nat):Int) by omega,show(4129:Int)=((4129:Nat):Int)from rfl,i64_xor_nat _ _ (by omega) (by omega)]
      case measure=>simp[intOf];omega
     ·have hd2:¬(65536:Int)≤2*(d:Int):=by omega
      have hd3:(d:Int)<65536:=by omega
      have HZ:=Hd hd;clear hd hdl HR;go_wp2
      go_round
      case rel=>
       refine⟨j+1,by omega,by go_num,?_⟩;rw[←HD.out];unfold FC.dbl;rw[if_neg HZ.out,show 2*(d:Int)=((2*d:Nat):Int) by omega]
      case measure=>simp[intOf];omega
    ·have hjz:¬(j:Int)<8:=by omega
     obtain rfl:j=8:=by omega
     have HT:Hid (FC.crc (l.take (k+1))=FC.dbls 8 (s^^^(x*256))):=by
      have:=FC.crc_take HX.out;rw[HS.out]at this;exact this
     go_wp2
     go_round
     case rel=>exact⟨k+1,by omega,by go_num,by rw[HT.out]⟩
     case measure=>simp[intOf];omega
  ·have hkz:¬(k:Int)<(l.length:Int):=by omega
   obtain rfl:k=l.length:=by omega
   go_wp2;go_ret;refine⟨ret_int ?_,rfl⟩;rw[←HS.out,List.take_length]
def inB(lo hi:Int)(zs:List Int):Bool:=zs.all fun z=>decide (lo≤z)&&decide (z≤hi)
theorem inB_iff{lo hi:Int}{zs:List Int}:inB lo hi zs=true↔∀z∈zs,lo≤z∧z≤hi:=by simp[inB]
theorem inB_get{lo hi:Int}{zs:List Int}:inB lo hi zs=true↔∀(i:Nat) z,zs[i]?=some z→lo≤z∧z≤hi:=by
 rw[inB_iff];constructor
 ·intro h i z hz;exact h z (List.mem_of_getElem? hz)
 ·intro h z hz;obtain⟨i,hi⟩:=List.getElem?_of_mem hz;exact h i z hi
theorem fresh_ints(W:World)(t:TypeId)(zs:List Int):∀i z,zs[i]?=some z→(W.alloc (.cells (zs.map (Value.int .i64)).toArray t)).cell? ⟨W.heap.size,i,none⟩=some (.int .i64 z):=fun i z h=>by
 rw[cell_of_row _ _ i _ _ _ (heap_alloc_new W _)];simp[h]
theorem within_any(lo hi:Int)(zs:List Int)(b n:Nat)(w:World)(hn:zs.length=n)(hm:n≤1000)(hc:∀i z,zs[i]?=some z→w.cell? ⟨b,i,none⟩=some (.int .i64 z)):
  Calls Tryz.prog 113 #[.int .i64 lo,.int .i64 hi,.slice (some ⟨b,0,none⟩) n n] w fun e w'=>e=.returned (.bool (inB lo hi zs))∧w'=w:=by
 have HC:=Hd hc;have HN:=Hd hn;clear hc hn
 go_enter Tryz.func113,Tryz.ntmps113
 go_wp2
 go_loop [8,11] (fun _ i=>∃k:Nat,k≤n∧i=.int .i64 k∧Hid (∀(j:Nat) z,j<k→zs[j]?=some z→lo≤z∧z≤hi)) (fun _ i=>n-(intOf i).toNat)
 case atStart=>exact⟨0,Nat.zero_le _,rfl,fun j z hj=>absurd hj (by omega)⟩
 case round=>
  obtain⟨k,hk,rfl,HP⟩:=hrel;by_cases hlt:k<n
  ·have hkz:(k:Int)<(n:Int):=by omega
   obtain⟨x,hx⟩:∃x,zs[k]?=some x:=⟨_,List.getElem?_eq_getElem (by have:=HN.out;omega)⟩;have hcell:=HC.out k x hx;have HX:=Hd hx;clear hx;by_cases h1:x<lo
   ·go_wp2;go_ret;refine⟨?_,rfl⟩
    have:inB lo hi zs=false:=by
     rw[Bool.eq_false_iff];intro h;have:=inB_get.1 h k x HX.out;omega
    rw[this];rfl
   ·by_cases h2:hi<x
    ·go_wp2;go_ret;refine⟨?_,rfl⟩
     have:inB lo hi zs=false:=by
      rw[Bool.eq_false_iff];intro h;have:=inB_get.1 h k x HX.out;omega
     rw[this];rfl
    ·go_wp2
     go_round
     case rel=>
      refine⟨k+1,by omega,by go_num,fun j z hj hz=> ?_⟩;by_cases e:j=k
      ·subst e;rw[HX.out]at hz;cases hz;omega
      ·exact HP.out j z (by omega) hz
     case measure=>simp[intOf];omega
  ·have hkz:¬(k:Int)<(n:Int):=by omega
   go_wp2;go_ret;refine⟨?_,rfl⟩;have:inB lo hi zs=true:=inB_get.2 fun i z hz=>HP.out i z (by have:=(List.getElem?_eq_some_iff.1 hz).1;have:=HN.out;omega) hz;rw[this];rfl
theorem isKind_any(k:Int)(w:World):Calls Tryz.prog 80 #[.int .i64 k] w fun e w'=>e=.returned (.bool (inB 1 3 [k]))∧Below w.heap.size w w':=by
 go_enter Tryz.func80,Tryz.ntmps80
 go_wp2_with fail
 refine (within_any 1 3 [k] w.heap.size 1 _ rfl (by omega) (fresh_ints w 3 [k])).mono ?_;rintro e w' ⟨rfl,rfl⟩;go_wp2;go_ret;exact⟨rfl,(Below.refl _ _).alloc (Nat.le_refl _) _⟩
def mayB(f:Fr):Bool:=inB 1 3 [f.ki]&&inB 0 255 [f.ca,f.a,f.b,f.c]&&inB 0 65535 [f.sq]
theorem mayB_iff(f:Fr):mayB f=true↔FC.May f:=by
 unfold mayB;simp only[Bool.and_eq_true,inB_iff,List.mem_cons,List.not_mem_nil,or_false,forall_eq_or_imp,forall_eq];constructor
 ·rintro⟨⟨h1,h2,h3,h4,h5⟩,h6⟩;exact⟨h1.1,h1.2,h2.1,h2.2,h6.1,h6.2,h3.1,h3.2,h4.1,h4.2,h5.1,h5.2⟩
 ·rintro⟨h1,h2,h3,h4,h5,h6,h7,h8,h9,h10,h11,h12⟩;exact⟨⟨⟨h1,h2⟩,⟨h3,h4⟩,⟨h7,h8⟩,⟨h9,h10⟩,h11,h12⟩,h5,h6⟩
theorem infoB:(Tryz.prog.info? 5).map (fun i=>(i.zero,i.size,i.bytes))=some (some (.int .u8 0),1,1):=by kernel_rfl
theorem wpList_appendB{ops:Array Oper}{rest:List Oper}{o:Oper}{a:Act}{w:World}{Q:Exit→Act→World→Prop}(hgd:o.guard=none)(s x:Operand)
  (ho:o.op=.call {callee:=.builtin .append,args:= #[s,x],argTypes:= #[32,32]})
  (B:Nat) (v:Value) (l:List Nat) (hs:a.eval s=v) (hown:OW w B v l) (ad:Addr) (c:Nat) (m:List Nat) (hx:a.eval x=.slice (some ad) m.length c) (hc:∀j u,(bc m)[j]?=some u→w.cell? (ad.add j)=some u)
  (h63:l.length+m.length≤100000000) (hB:B≤w.heap.size)
  (h:∀v' w',OW w' B v' (l++m)→w.grownBy w' v.ownBlock→wpList Tryz.prog ops Q rest (a.put o.dst v') w'):wpList Tryz.prog ops Q (o::rest) a w:=by
 obtain⟨i0,hi,hz0,hz1,hz2⟩:=info_parts infoB;refine wpList_append_own w hgd s x 32 ho B 5 i0 _ 1 1 Tryz.underlying32 hi hz0 hz1 hz2 rfl (by decide) v l.length (bc l) hs hown ad m.length c (bc m) hx (by rw[bc_length];omega) hc (bc_one m) (by unfold maxLen;omega) (by omega) hB ?_;intro v' w' h1 h2 _;refine h v' w' ?_ h2;unfold OW;rw[List.length_append,bc_append];exact h1
theorem wpList_appendR{ops:Array Oper}{rest:List Oper}{o:Oper}{a:Act}{w:World}{Q:Exit→Act→World→Prop}(hgd:o.guard=none)(s x:Operand)
  (ho:o.op=.call {callee:=.builtin .append,args:= #[s,x],argTypes:= #[32,32]})
  (B:Nat) (v u:Value) (l m:List Nat) (hs:a.eval s=v) (hown:OW w B v l) (hx:a.eval x=u) (hr:RD w u m)
  (h63:l.length+m.length≤100000000) (hB:B≤w.heap.size)
  (h:∀v' w',OW w' B v' (l++m)→w.grownBy w' v.ownBlock→wpList Tryz.prog ops Q rest (a.put o.dst v') w'):wpList Tryz.prog ops Q (o::rest) a w:=by
 obtain⟨ao,cap,rfl,hc,hm,_⟩:=hr.form;cases ao with
 |none=>
  obtain⟨h0,rfl,rfl⟩:=hr.nilv;obtain⟨i0,hi,_,_,_⟩:=info_parts infoB;refine wpList_append_own_none hgd s x 32 ho B 5 i0 1 Tryz.underlying32 hi v l.length (bc l) hs hown (by rw[hx];rfl) ?_;refine h v w ?_ (World.grownBy.refl w _);rw[List.append_nil];exact hown
 |some ad=>
  refine wpList_appendB hgd s x ho B v l hs hown ad cap m hx (fun j y hy=> ?_) h63 hB h;obtain⟨a',c',e,_,_,hh⟩:=hr.2;cases e;rcases hh with hh|⟨g,o',e,_,hh⟩
  ·rw[hh]at hy;simp[bc]at hy
  ·cases e;obtain⟨z,hz,rfl⟩:=bc_get hy;rw[Addr.add_mid];exact hh j z hz
theorem may_any(f:Fr)(w:World):Calls Tryz.prog 25 #[.agg #[.int .i64 f.ki,.int .i64 f.ca,.int .i64 f.sq,.int .i64 f.a,.int .i64 f.b,.int .i64 f.c]] w fun e w'=>e=.returned (.bool (mayB f))∧Below w.heap.size w w':=by
 have HM:Hid (mayB f=true↔FC.May f):=mayB_iff f;have HF0:=Hd ((FB.new w f).alloc (.cells #[.int .i64 f.ca,.int .i64 f.a,.int .i64 f.b,.int .i64 f.c] 3));have HI:=Hd (fresh_ints (w.alloc (.cells #[.int .i64 f.ki,.int .i64 f.ca,.int .i64 f.sq,.int .i64 f.a,.int .i64 f.b,.int .i64 f.c] 56)) 3 [f.ca,f.a,f.b,f.c]);have HB0:=Hd (((Below.refl w.heap.size w).alloc (Nat.le_refl _) (.cells #[.int .i64 f.ki,.int .i64 f.ca,.int .i64 f.sq,.int .i64 f.a,.int .i64 f.b,.int .i64 f.c] 56)).alloc (by simp) (.cells #[.int .i64 f.ca,.int .i64 f.a,.int .i64 f.b,.int .i64 f.c] 3))
 have hno:∀z∈[f.ca,f.a,f.b,f.c],¬(0≤z∧z≤255)→mayB f=false:=fun z hz hn=>by
  rw[Bool.eq_false_iff];intro e;unfold mayB at e;simp only[Bool.and_eq_true]at e;exact hn (inB_iff.1 e.1.2 z hz)
 have HNO:=Hd hno;clear hno
 go_enter Tryz.func25,Tryz.ntmps25
 go_wp2
 have HI':Hid (∀i z,[f.ca,f.a,f.b,f.c][i]?=some z→((w.alloc (.cells #[.int .i64 f.ki,.int .i64 f.ca,.int .i64 f.sq,.int .i64 f.a,.int .i64 f.b,.int .i64 f.c] 56)).alloc (.cells #[.int .i64 f.ca,.int .i64 f.a,.int .i64 f.b,.int .i64 f.c] 3)).cell? ⟨w.heap.size+1,i,none⟩=some (.int .i64 z)):=by
  have:=HI.out;rw[World.size_alloc]at this;exact this
 clear HI;generalize (w.alloc (.cells #[.int .i64 f.ki,.int .i64 f.ca,.int .i64 f.sq,.int .i64 f.a,.int .i64 f.b,.int .i64 f.c] 56)).alloc (.cells #[.int .i64 f.ca,.int .i64 f.a,.int .i64 f.b,.int .i64 f.c] 3)=W1 at HF0 HI' HB0⊢
 go_loop [4] (fun i=>∃k:Nat,k≤4∧i=.int .i64 k∧Hid (∀(j:Nat) z,j<k→[f.ca,f.a,f.b,f.c][j]?=some z→0≤z∧z≤255)) (fun i=>4-(intOf i).toNat)
 case atStart=>exact⟨0,Nat.zero_le _,rfl,fun j z hj=>absurd hj (by omega)⟩
 case round=>
  obtain⟨k,hk,rfl,HP⟩:=hrel;by_cases hlt:k<4
  ·have hkz:(k:Int)<4:=by omega
   obtain⟨x,hx⟩:∃x,[f.ca,f.a,f.b,f.c][k]?=some x:=⟨_,List.getElem?_eq_getElem (by simpa using hlt)⟩;have hcell:=HI'.out k x hx;have HX:=Hd hx;clear hx;by_cases h1:x<0
   ·go_wp2;go_ret;have:=HNO.out x (List.mem_of_getElem? HX.out) (by omega);rw[this];exact⟨rfl,HB0.out⟩
   ·by_cases h2:255<x
    ·go_wp2;go_ret;have:=HNO.out x (List.mem_of_getElem? HX.out) (by omega);rw[this];exact⟨rfl,HB0.out⟩
    ·go_wp2
     go_round
     case rel=>
      refine⟨k+1,by omega,by go_num,fun j z hj hz=> ?_⟩;by_cases e:j=k
      ·subst e;rw[HX.out]at hz;cases hz;omega
      ·exact HP.out j z (by omega) hz
     case measure=>simp[intOf];omega
  ·have hkz:¬(k:Int)<4:=by omega
   obtain rfl:k=4:=by omega
   have c0:=HF0.out.c0;have c2:=HF0.out.c2;have h25:inB 0 255 [f.ca,f.a,f.b,f.c]=true:=inB_get.2 fun i z hz=>HP.out i z (by have:=(List.getElem?_eq_some_iff.1 hz).1;simpa using this) hz
   have HE:Hid (mayB f=(decide (1≤f.ki)&&decide (f.ki≤3)&&(decide (0≤f.sq)&&decide (f.sq≤65535)))):=by
    show mayB f=_;unfold mayB;rw[h25];simp[inB]
   clear h25;by_cases a1:1≤f.ki
   ·by_cases a2:f.ki≤3
    ·by_cases a3:0≤f.sq
     ·by_cases a4:f.sq≤65535
      ·go_wp2;go_ret;refine⟨?_,HB0.out⟩;rw[HE.out];simp[a1,a2,a3,a4]
      ·go_wp2;go_ret;refine⟨?_,HB0.out⟩;rw[HE.out];simp[a1,a2,a3];omega
     ·go_wp2;go_ret;refine⟨?_,HB0.out⟩;rw[HE.out];simp[a1,a2];omega
    ·go_wp2;go_ret;refine⟨?_,HB0.out⟩;rw[HE.out];simp[a1];omega
   ·go_wp2;go_ret;refine⟨?_,HB0.out⟩;rw[HE.out];simp;omega
theorem bytes_nat(ki ca sq a b c:Nat)(w:World)(h0:1≤ki)(h1:ki≤3)(h2:ca≤255)(h3:sq≤65535)(h4:a≤255)(h5:b≤255)(h6:c≤255):
  Calls Tryz.prog 19 #[.agg #[.int .i64 (⟨ki,ca,sq,a,b,c⟩:Fr).ki,.int .i64 (⟨ki,ca,sq,a,b,c⟩:Fr).ca,.int .i64 (⟨ki,ca,sq,a,b,c⟩:Fr).sq,.int .i64 (⟨ki,ca,sq,a,b,c⟩:Fr).a,.int .i64 (⟨ki,ca,sq,a,b,c⟩:Fr).b,.int .i64 (⟨ki,ca,sq,a,b,c⟩:Fr).c]] w fun e w'=>∃v,e=.returned v∧OW w' w.heap.size v (FC.en ⟨ki,ca,sq,a,b,c⟩)∧Below w.heap.size w w':=by
 have H8:Hid (FC.Bs [165,ki,ca,sq/256,sq%256,a,b,c]):=FC.Bs.cons (by omega) (FC.Bs.cons (by omega) (FC.Bs.cons (by omega) (FC.Bs.cons (by omega) (FC.Bs.cons (by omega) (FC.Bs.cons (by omega) (FC.Bs.cons (by omega) (FC.Bs.cons (by omega) FC.Bs.nil)))))));have HB3:=Hd ((Below.refl w.heap.size w).alloc (Nat.le_refl _) (.cells #[.int .i64 (⟨ki,ca,sq,a,b,c⟩:Fr).ki,.int .i64 (⟨ki,ca,sq,a,b,c⟩:Fr).ca,.int .i64 (⟨ki,ca,sq,a,b,c⟩:Fr).sq,.int .i64 (⟨ki,ca,sq,a,b,c⟩:Fr).a,.int .i64 (⟨ki,ca,sq,a,b,c⟩:Fr).b,.int .i64 (⟨ki,ca,sq,a,b,c⟩:Fr).c] 56))
 go_enter Tryz.func19,Tryz.ntmps19
 go_wp2_with fail
 have HO:Hid (OW ((w.alloc (.cells #[.int .i64 (⟨ki,ca,sq,a,b,c⟩:Fr).ki,.int .i64 (⟨ki,ca,sq,a,b,c⟩:Fr).ca,.int .i64 (⟨ki,ca,sq,a,b,c⟩:Fr).sq,.int .i64 (⟨ki,ca,sq,a,b,c⟩:Fr).a,.int .i64 (⟨ki,ca,sq,a,b,c⟩:Fr).b,.int .i64 (⟨ki,ca,sq,a,b,c⟩:Fr).c] 56)).alloc (.cells #[.int .u8 165,.int .u8 ki,.int .u8 ca,.int .u8 (sq/256),.int .u8 (sq%256),.int .u8 a,.int .u8 b,.int .u8 c] 5)) w.heap.size (.slice (some ⟨w.heap.size+1,0,none⟩) 8 8) [165,ki,ca,sq/256,sq%256,a,b,c]):=by
  have:=OW.lit (B:=w.heap.size) (w.alloc (.cells #[.int .i64 (⟨ki,ca,sq,a,b,c⟩:Fr).ki,.int .i64 (⟨ki,ca,sq,a,b,c⟩:Fr).ca,.int .i64 (⟨ki,ca,sq,a,b,c⟩:Fr).sq,.int .i64 (⟨ki,ca,sq,a,b,c⟩:Fr).a,.int .i64 (⟨ki,ca,sq,a,b,c⟩:Fr).b,.int .i64 (⟨ki,ca,sq,a,b,c⟩:Fr).c] 56)) [165,ki,ca,sq/256,sq%256,a,b,c] HB3.out.size (by unfold maxLen;simp);rw[World.size_alloc]at this;exact this
 have HB4:=Hd (HB3.out.alloc HB3.out.size (.cells #[.int .u8 165,.int .u8 ki,.int .u8 ca,.int .u8 (sq/256),.int .u8 (sq%256),.int .u8 a,.int .u8 b,.int .u8 c] 5));generalize (w.alloc (.cells #[.int .i64 (⟨ki,ca,sq,a,b,c⟩:Fr).ki,.int .i64 (⟨ki,ca,sq,a,b,c⟩:Fr).ca,.int .i64 (⟨ki,ca,sq,a,b,c⟩:Fr).sq,.int .i64 (⟨ki,ca,sq,a,b,c⟩:Fr).a,.int .i64 (⟨ki,ca,sq,a,b,c⟩:Fr).b,.int .i64 (⟨ki,ca,sq,a,b,c⟩:Fr).c] 56)).alloc (.cells #[.int .u8 165,.int .u8 ki,.int .u8 ca,.int .u8 (sq/256),.int .u8 (sq%256),.int .u8 a,.int .u8 b,.int .u8 c] 5)=W4 at HO HB4⊢;generalize w.heap.size+1=g at HO⊢;clear HB3;refine (rsum_any _ _ _ (HO.out.rd H8.out)).mono ?_;rintro e W5 ⟨rfl,hW⟩;subst hW;have hn:=FC.crc_lt H8.out
 have HN:Hid (FC.en ⟨ki,ca,sq,a,b,c⟩=[165,ki,ca,sq/256,sq%256,a,b,c]++[FC.crc [165,ki,ca,sq/256,sq%256,a,b,c]/256,FC.crc [165,ki,ca,sq/256,sq%256,a,b,c]%256]):=by
  show FC.en _=_;unfold FC.en FC.h8;simp only[Int.toNat_natCast]
 generalize FC.crc [165,ki,ca,sq/256,sq%256,a,b,c]=n at hn HN⊢
 go_wp2_with (at_builtin;refine wpList_appendB rfl _ _ rfl w.heap.size _ [165,ki,ca,sq/256,sq%256,a,b,c] rfl ?qc1 ⟨_,0,none⟩ 2 [n/256,n%256] rfl ?qc2 ?qc3 ?qc4 ?_)
 case qc1=>exact HO.out.alloc _
 case qc2=>exact((OW.lit (B:=0) _ [n/256,n%256] (Nat.zero_le _) (by unfold maxLen;simp)).rd (FC.Bs.cons (by omega) (FC.Bs.cons (by omega) FC.Bs.nil))).cells
 case qc3=>simp
 case qc4=>simp;have:=HB4.out.size;omega
 intro v' w1 hown hgrow;have HO2:=Hd hown;have HB5:=Hd ((HB4.out.alloc HB4.out.size _).grown hgrow (by simp;have:=HB4.out.size;omega) (by intro k hk;simp[Value.ownBlock]at hk;have:=HO.out.lt g rfl;omega));clear hown hgrow;go_wp2;go_ret;refine⟨v',rfl,?_,HB5.out⟩;rw[HN.out];exact HO2.out
theorem bytes_yes(f:Fr)(w:World)(h:FC.May f):
  Calls Tryz.prog 19 #[.agg #[.int .i64 f.ki,.int .i64 f.ca,.int .i64 f.sq,.int .i64 f.a,.int .i64 f.b,.int .i64 f.c]] w fun e w'=>∃v,e=.returned v∧OW w' w.heap.size v (FC.en f)∧Below w.heap.size w w':=by
 obtain⟨ki,ca,sq,a,b,c⟩:=f;obtain⟨h1,h2,h3,h4,h5,h6,h7,h8,h9,h10,h11,h12⟩:=h;simp only at h1 h2 h3 h4 h5 h6 h7 h8 h9 h10 h11 h12;obtain⟨ki,rfl⟩:=Int.eq_ofNat_of_zero_le (show 0≤ki by omega);obtain⟨ca,rfl⟩:=Int.eq_ofNat_of_zero_le (show 0≤ca by omega);obtain⟨sq,rfl⟩:=Int.eq_ofNat_of_zero_le (show 0≤sq by omega);obtain⟨a,rfl⟩:=Int.eq_ofNat_of_zero_le (show 0≤a by omega);obtain⟨b,rfl⟩:=Int.eq_ofNat_of_zero_le (show 0≤b by omega);obtain⟨c,rfl⟩:=Int.eq_ofNat_of_zero_le (show 0≤c by omega);exact bytes_nat ki ca sq a b c w (by omega) (by omega) (by omega) (by omega) (by omega) (by omega) (by omega)
end Go.Proofs.YtnkelgdnglaafaaGreat.FF
