import Derived.Test.YtnkelgdnglaafaaGreatQ1
import Derived.Test.YtnkelgdnglaafaaGreatR17
import Derived.WalkMore
import Derived.WalkKit
import Derived.ProofKit
import Derived.OpenShut
import Derived.ShutString
import Derived.ChangeArms
import Derived.LaidMore
import Derived.Lib.SmallJoins
import Derived.Shelf.Abstract
set_option maxHeartbeats 8000000
set_option maxRecDepth 100000
namespace Go.Proofs.YtnkelgdnglaafaaGreat.FF
open Go.RowKit
theorem infoFz:(Tryz.prog.info? 56).map (fun i=>(i.zero,i.size,i.bytes))=some (some (.agg #[.int .i64 0,.int .i64 0,.int .i64 0,.int .i64 0,.int .i64 0,.int .i64 0]),6,48):=by kernel_rfl
theorem one_cells{W:World}{b:Nat}{f:Fr}(H:FB W b f):∀j u,(rv [f])[j]?=some u→W.cell? ((⟨b,0,none⟩:Addr).add j)=some u:=fun j u hu=>by
 rw[rv_one1]at hu;rw[Addr.add_mid];exact H.range j u hu
theorem wpList_appendF1{ops:Array Oper}{rest:List Oper}{o:Oper}{a:Act}{w:World}{Q:Exit→Act→World→Prop}(hgd:o.guard=none)(s x:Operand)
  (ho:o.op=.call {callee:=.builtin .append,args:= #[s,x],argTypes:= #[31,31]})
  (B:Nat) (v:Value) (F:List Fr) (hs:a.eval s=v) (hown:FO w B v F) (b c:Nat) (f:Fr) (hx:a.eval x=.slice (some ⟨b,0,none⟩) 1 c) (H:FB w b f)
  (h63:F.length+1≤1000000) (hB:B≤w.heap.size)
  (h:∀v' w',FO w' B v' (F++[f])→w.grownBy w' v.ownBlock→(∀g,v'.ownBlock=some g→v.ownBlock=some g∨g=w.heap.size)→wpList Tryz.prog ops Q rest (a.put o.dst v') w'):wpList Tryz.prog ops Q (o::rest) a w:=by
 obtain⟨i0,hi,hz0,hz1,hz2⟩:=info_parts infoFz;refine wpList_append_lies w hgd s x 31 ho B 56 i0 _ 6 48 Tryz.underlying31 hi hz0 hz1 hz2 rfl (by decide) v F.length (rv F) hs hown ⟨b,0,none⟩ 1 c (rv [f]) hx (by rw[rv_length];rfl) (one_cells H) (rv_one [f]) (by omega) (by unfold maxLen;omega) (by omega) hB w.heap.size rfl ?_;intro g cap w' h1 h2 h3 _;refine h _ w' ?_ h2 (fun k hk=> ?_)
 ·unfold FO;rw[List.length_append,rv_append];exact h1
 ·simp[Value.ownBlock]at hk;subst hk;exact h3
theorem RD.keep'{W W':World}{v:Value}{l:List Nat}(h:RD W v l)(hs:W.heap.size≤W'.heap.size)(hk:l≠[]→∀g,v.ownBlock=some g→g<W.heap.size→W'.heap[g]?=W.heap[g]?):RD W' v l:=by
 obtain⟨hB,a,cap,rfl,hc,hm,h⟩:=h;refine⟨hB,a,cap,rfl,hc,hm,?_⟩;rcases h with h|⟨g,o,rfl,hlt,h⟩
 ·exact .inl h
 ·by_cases hl:l=[]
  ·exact .inl hl
  ·exact .inr ⟨g,o,rfl,Nat.lt_of_lt_of_le hlt hs,fun i y hy=>(World.cell?_of_block (a:=⟨g,o+i,none⟩) (hk hl g rfl hlt)).trans (h i y hy)⟩
theorem RD.take'{W:World}{a:Option Addr}{n cap:Nat}{l:List Nat}(h:RD W (.slice a n cap) l)(k j:Nat)(hk:k≤l.length)(hj:j=k):RD W (.slice a j cap) (l.take k):=by
 subst hj;exact h.take j hk
theorem OW.slice{W:World}{B:Nat}{v:Value}{l:List Nat}(h:OW W B v l):∃a c,v=.slice a l.length c:=by
 rcases h.form with⟨rfl,rfl⟩|⟨g,cap,rfl,_⟩
 ·exact⟨none,0,rfl⟩
 ·exact⟨_,cap,rfl⟩
structure Dc(rest:List Nat)(d:Fr)(q:Nat):Prop where
 df:FC.df (rest.take 10)=d
 de:FC.de (rest.take 10)=q
theorem dec10{W:World}{a:Option Addr}{n cap j:Nat}{rest:List Nat}{d:Fr}{q:Nat}(h:RD W (.slice a n cap) rest)(D:Dc rest d q)(hk:10≤rest.length)(hj:j=10):
  Calls Tryz.prog 53 #[.slice a j cap] W fun e w'=>e=.returned (.tuple #[.agg #[.int .i64 d.ki,.int .i64 d.ca,.int .i64 d.sq,.int .i64 d.a,.int .i64 d.b,.int .i64 d.c],.int .i64 (q:Nat)])∧Below W.heap.size W w':=by
 have:=decode_any _ (rest.take 10) W (h.take' 10 j hk hj);rwa[D.df,D.de]at this
def lenV:Value→Nat
 |.slice _ n _=>n
 |_=>0
structure Fx(w wr:World)(sb:Nat)(u:Obj)(x rest:List Nat)(F:List Fr)(n:Nat)(lv fo:Value):Prop where
 rd:RD wr lv rest
 own:FO wr w.heap.size fo F
 ne:rest≠[]→∀g,lv.ownBlock=some g→fo.ownBlock≠some g
 sb:wr.heap[sb]?=some u
 bel:Below w.heap.size w wr
 eq:FC.fd x=(F++(FC.fd rest).1,n+(FC.fd rest).2.1,(FC.fd rest).2.2)
 cnt:F.length*10+n+rest.length=x.length
theorem Fx.next{w wr W:World}{sb:Nat}{u:Obj}{x rest:List Nat}{F:List Fr}{n:Nat}{lv fo:Value}(h:Fx w wr sb u x rest F n lv fo)(hb:Below wr.heap.size wr W):Fx w W sb u x rest F n lv fo:=
 ⟨h.rd.below' hb,h.own.below' hb,h.ne,(hb.block sb (Array.getElem?_eq_some_iff.1 h.sb).1).trans h.sb,below_class h.bel hb,h.eq,h.cnt⟩
section
variable {w wr W:World} {sb:Nat} {u:Obj} {x rest:List Nat} {F:List Fr} {n:Nat} {fo:Value}
theorem Fx.alloc{lv:Value}(h:Fx w wr sb u x rest F n lv fo)(o:Obj):Fx w (wr.alloc o) sb u x rest F n lv fo:=h.next ((Below.refl _ _).alloc (Nat.le_refl _) o)
theorem Fx.yes{g o cap:Nat}{a':Option Addr}(h:Fx w wr sb u x rest F n (.slice (some ⟨g,o,none⟩) rest.length cap) fo)(h10:¬rest.length<10){d:Fr}(D:Dc rest d 0)(ha:10<rest.length→a'=some ⟨g,o+10,none⟩)(hn:a'≠none)(hsl:sb<w.heap.size)
  {fo':Value} (hf:FO W w.heap.size fo' (F++[d])) (hg:wr.grownBy W fo.ownBlock) (hl:∀g,fo'.ownBlock=some g→fo.ownBlock=some g∨g=wr.heap.size):Fx w W sb u x (rest.drop 10) (F++[d]) n (.slice a' (rest.length-10) (cap-10)) fo':=by
 have hb:Below w.heap.size w W:=h.bel.grown hg h.bel.size (fun k hk=>(h.own.lt k hk).1);have hne:rest≠[]:=fun e=>by rw[e]at h10;simp at h10
 have hr1:=h.rd.keep' hg.size (fun _ k hk hlt=>hg.block k hlt (fun e=>h.ne hne k hk e.symm));have hr2:=hr1.drop (a':=a') 10 (by omega) (fun g' o' e hlt=>by cases e;exact ha hlt) (fun e=>absurd e hn);refine⟨hr2,hf,?_,?_,hb,?_,?_⟩
 ·intro hne' k hk hfk
  have h10':10<rest.length:=by
   apply Classical.byContradiction;intro hc;apply hne';apply List.length_eq_zero_iff.1;rw[List.length_drop];omega
  rw[ha h10']at hk;simp[Value.ownBlock]at hk;subst hk;rcases hl g hfk with e|e
  ·exact h.ne hne g rfl e
  ·have:=h.rd.lt hne;omega
 ·rw[hg.block sb (Nat.lt_of_lt_of_le hsl h.bel.size) (fun e=>by have:=(h.own.lt sb e.symm).1;omega)];exact h.sb
 ·rw[h.eq,FC.fd_yes h10 D.de,D.df];simp
 ·have:=h.cnt;simp only[List.length_append,List.length_cons,List.length_nil,List.length_drop];omega
theorem Fx.no{g o cap:Nat}{a':Option Addr}(h:Fx w wr sb u x rest F n (.slice (some ⟨g,o,none⟩) rest.length cap) fo)(h10:¬rest.length<10)(hd:FC.de (rest.take 10)≠0)(ha:a'=some ⟨g,o+1,none⟩):Fx w wr sb u x (rest.drop 1) F (n+1) (.slice a' (rest.length-1) (cap-1)) fo:=by
 have hr2:=h.rd.drop (a':=a') 1 (by omega) (fun g' o' e hlt=>by cases e;exact ha) (fun e=>by rw[ha]at e;cases e);refine⟨hr2,h.own,?_,h.sb,h.bel,?_,?_⟩
 ·intro _ k hk;rw[ha]at hk;simp[Value.ownBlock]at hk;subst hk;exact h.ne (fun e=>by rw[e]at h10;simp at h10) g rfl
 ·rw[h.eq,FC.fd_no h10 hd];simp only[Prod.mk.injEq,true_and,and_true];omega
 ·have:=h.cnt;rw[List.length_drop];omega
end
theorem feed_at(sb o:Nat)(cs:Array Value)(tt:TypeId)(u v:Value)(l m:List Nat)(w:World)(hsb:w.heap[sb]?=some (.cells cs tt (0,0)))(hso:cs[o]?=some u)(hu:RD w u l)(hv:RD w v m)(hl:l.length≤1000)(hm:m.length≤1000):
  Calls Tryz.prog 37 #[.pointer (some ⟨sb,o,none⟩),v] w fun e w'=>∃fo u',e=.returned (.tuple #[fo,.int .i64 ((FC.fd (l++m)).2.1:Nat)])∧FO w' w.heap.size fo (FC.fd (l++m)).1∧w'.heap[sb]?=some (.cells (cs.setIfInBounds o u') tt (0,0))∧OW w' w.heap.size u' (FC.fd (l++m)).2.2∧Kp (fun k=>k=sb) w w':=by
 have hc0:w.cell? ⟨sb,o,none⟩=some u:=by rw[cell_of_row w sb o _ _ _ hsb];exact hso
 have hslt:sb<w.heap.size:=(Array.getElem?_eq_some_iff.1 hsb).1;have HSB:=Hd hsb;have HU:=Hd hu;have HV:=Hd hv;have hBs:=Hd (hu.bs.append hv.bs);obtain⟨ua,uc,rfl,_,_,_⟩:=hu.form;obtain⟨va,vc,rfl,_,_,_⟩:=hv.form;have HSO:=Hd hso;clear hsb hu hv hso
 go_enter Tryz.func37,Tryz.ntmps37
 go_wp2_with fail
 go_step3
 go_wp2_with fail
 have hb0:Below w.heap.size w (w.alloc (.cells #[.slice ua l.length uc,.slice va m.length vc] 32)):=(Below.refl _ w).alloc (Nat.le_refl _) _;have hc1:(w.alloc (.cells #[.slice ua l.length uc,.slice va m.length vc] 32)).cell? ⟨w.heap.size,0,none⟩=some (.slice ua l.length uc):=by rw[cell_of_row _ _ 0 _ _ _ (heap_alloc_new w (.cells #[.slice ua l.length uc,.slice va m.length vc] 32))];rfl
 have hc2:(w.alloc (.cells #[.slice ua l.length uc,.slice va m.length vc] 32)).cell? ⟨w.heap.size,1,none⟩=some (.slice va m.length vc):=by rw[cell_of_row _ _ 1 _ _ _ (heap_alloc_new w (.cells #[.slice ua l.length uc,.slice va m.length vc] 32))];rfl
 refine (concat_any w.heap.size _ _ l m _ hc1 hc2 (by simp) (HU.out.alloc _) (HV.out.alloc _) hl hm).mono ?_;rintro e W1 ⟨v1,rfl,ho1,hb1⟩
 have HF1:Hid (Fx w W1 sb (.cells cs tt (0,0)) (l++m) (l++m) [] 0 v1 (.slice none 0 0)):=by
  have hb:Below w.heap.size w W1:=below_class hb0 hb1;exact⟨ho1.rd hBs.out,FO.nil _ _,fun _ g hg=>by simp[Value.ownBlock],(hb.block sb hslt).trans HSB.out,hb,by simp,by simp⟩
 have hx:(l++m).length≤2000:=by rw[List.length_append];omega
 clear ho1 hb1 hb0 HU HV hl hm hc0 hc1 hc2;obtain⟨x,hxe⟩:∃x,x=l++m:=⟨_,rfl⟩;rw[←hxe]at HF1 hx hBs;have HXE:=Hd hxe.symm;clear hxe;generalize l.length=ul at*;have HX:=Hd hx;clear hx;go_wp2
 go_step3
 go_wp2
 go_loopw [6,7,8,9,10,27,31] (fun lv fo p _ _ _ _ wr=>∃(rest:List Nat) (F:List Fr) (n:Nat),p=.int .i64 (n:Int)∧Hid (Fx w wr sb (.cells cs tt (0,0)) x rest F n lv fo)) (fun lv _ _ _ _ _ _ _=>lenV lv)
 case atStart=>exact⟨x,[],0,rfl,HF1⟩
 case round=>
  obtain⟨rest,F,n,rfl,HF⟩:=hrel;have hslr:sb<wr.heap.size:=(Array.getElem?_eq_some_iff.1 HF.out.sb).1;obtain⟨a,cap,rfl,hc,hm,ha⟩:=HF.out.rd.form;have HM:=Hd hm;have HHA:=Hd ha;clear hm ha;have hlen:rest.length≤2000:=by have:=HF.out.cnt;have:=HX.out;omega
  by_cases h10:rest.length<10
  ·have hz:(rest.length:Int)<10:=by omega
   have hz2:(rest.length:Int)≤(cap:Int):=by omega
   go_wp2_with fail
   refine (decode_any _ rest _ HF.out.rd).mono ?_;rintro e W2 ⟨rfl,hb2⟩;have HF2:=Hd ((HF.out.next hb2).alloc (.cells #[.int .i64 (FC.df rest).ki,.int .i64 (FC.df rest).ca,.int .i64 (FC.df rest).sq,.int .i64 (FC.df rest).a,.int .i64 (FC.df rest).b,.int .i64 (FC.df rest).c] 56));clear hb2 HF;generalize FC.df rest=d at HF2;generalize FC.de rest=q
   go_wp2_with fail
   refine (clone_any _ rest _ HF2.out.rd (by omega)).mono ?_;rintro e W3 ⟨v3,rfl,ho3,hb3⟩;have HF3:=Hd (HF2.out.next hb3);have HO3:=Hd (ho3.mono HF2.out.bel.size);obtain⟨a3,n3,rfl⟩:=ho3.slice;have c3:W3.cell? ⟨sb,o,none⟩=some (.slice ua ul uc):=by rw[cell_of_row W3 sb o _ _ _ HF3.out.sb];exact HSO.out
   have r3:W3.frozen? ⟨sb,o,none⟩=false:=by simp[World.frozen?,HF3.out.sb]
   clear ho3 hb3 HF2;go_wp2;rw[Exit.noGoto_ret]
   go_ret2
   have hfd:=HF3.out.eq;rw[FC.fd_few h10]at hfd;rw[HXE.out,hfd];refine⟨u7,.slice a3 rest.length n3,?_,?_,?_,?_,?_⟩
   ·simp only[Nat.add_zero];rfl
   ·show FO _ _ _ (F++[]);rw[List.append_nil];exact HF3.out.own.keep fun k hk=>Below.heap_setCell W3 ⟨sb,o,none⟩ _ k (fun e=>by have:=(HF3.out.own.lt k hk).1;have e':k=sb:=e;omega)
   ·exact heap_setCell_same W3 sb o _ _ _ HF3.out.sb
   ·exact HO3.out.keep fun k hk=>Below.heap_setCell W3 ⟨sb,o,none⟩ _ k (fun e=>by have:=(HO3.out.lt k hk).1;have e':k=sb:=e;omega)
   ·exact(Kp.ofBelow _ HF3.out.bel).set sb o _ (fun _=>rfl)
  ·have hz:¬(rest.length:Int)<10:=by omega
   have hz2:(10:Int)≤(cap:Int):=by omega
   rcases HHA.out with hn|⟨g,o,rfl,hg⟩
   ·exfalso;rw[hn]at h10;simp at h10
   clear HHA
   go_wp2_with fail
   all_goals
    obtain⟨d,q,HD⟩:∃d q,Dc rest d q:=⟨_,_,rfl,rfl⟩;refine (dec10 HF.out.rd HD (by omega) (by omega)).mono ?_;rintro e W2 ⟨rfl,hb2⟩;have HF2:=Hd ((HF.out.next hb2).alloc (.cells #[.int .i64 d.ki,.int .i64 d.ca,.int .i64 d.sq,.int .i64 d.a,.int .i64 d.b,.int .i64 d.c] 56));have HV2:=Hd (FB.new W2 d);clear hb2 HF;rcases Nat.eq_zero_or_pos q with hq|hq
    ·subst hq
     have HN2:Hid (FB ((W2.alloc (.cells #[.int .i64 d.ki,.int .i64 d.ca,.int .i64 d.sq,.int .i64 d.a,.int .i64 d.b,.int .i64 d.c] 56)).alloc (.cells #[.int .i64 d.ki,.int .i64 d.ca,.int .i64 d.sq,.int .i64 d.a,.int .i64 d.b,.int .i64 d.c] 56)) (W2.heap.size+1) d):=by
      have:=FB.new (W2.alloc (.cells #[.int .i64 d.ki,.int .i64 d.ca,.int .i64 d.sq,.int .i64 d.a,.int .i64 d.b,.int .i64 d.c] 56)) d;rw[World.size_alloc]at this;exact this
     go_wp2_with (first|(refine wpList_loadF rfl _ rfl W2.heap.size rfl HV2.out ?_)|(at_builtin;refine wpList_appendF1 rfl _ _ rfl w.heap.size _ F rfl (HF2.out.alloc _).own _ _ d rfl HN2.out ?qc1 ?qc2 ?_))
     case qc1=>have:=HF2.out.cnt;have:=HX.out;omega
     case qc2=>exact(HF2.out.alloc _).bel.size
     intro fo' W4 hf4 hg4 hl4;have HF4:=Hd hf4;have HG4:=Hd hg4;have HL4:=Hd hl4;clear hf4 hg4 hl4;go_wp2;refine⟨⟨rest.drop 10,F++[d],n,rfl,(HF2.out.alloc _).yes h10 HD (fun hlt=>by first|rfl|exact if_neg (by omega)) (by first|(intro e;cases e;done)|(split<;>(intro e;cases e;done))) hslt HF4.out HG4.out (by rw[World.size_alloc,World.size_alloc];exact HL4.out)⟩,?_⟩;show rest.length-10<rest.length;omega
    ·have hqz:((q:Int)==0)=false:=by simp;omega
     have hnn:(n:Int)≤2000:=by have:=HF2.out.cnt;have:=HX.out;omega
     go_wp2;refine⟨⟨rest.drop 1,F,n+1,by go_num,HF2.out.no h10 (by rw[HD.de];omega) rfl⟩,?_⟩;show rest.length-1<rest.length;omega
end Go.Proofs.YtnkelgdnglaafaaGreat.FF
namespace Go.Proofs.YtnkelgdnglaafaaGreat.FF
open Go.ChangeShapes Go.WideShapes Go.ChangeAt Go.RowKit
section
variable {H:Type} {enc:TypeId×Value→H} {P:Program} {W:World} {base:Nat} {spare:Nat→Bool} {held:Bool}
end
theorem Tryz.cellsBc:Tryz.prog.cellsOf 5=1:=by kernel_rfl
section
variable {H:Type} {enc:TypeId×Value→H} {W:World} {base:Nat} {spare:Nat→Bool} {held:Bool}
end
theorem cells_all{base:Nat}{w:World}{A:Addr}{n:Nat}{cs:List Value}(h:w.cells? base A n=some cs):∀(j:Nat) (v:Value),cs[j]?=some v→w.cell? (A.add j)=some v:=by
 unfold World.cells? at h;split at h
 ·intro j v hj
  have key:∀(l:List Nat) (cs:List Value),l.mapM (fun i=>w.cell? (A.add i))=some cs→∀(j:Nat) (v:Value),cs[j]?=some v→∃i,l[j]?=some i∧w.cell? (A.add i)=some v:=by
   intro l
   induction l with
   |nil=>intro cs h;simp at h;subst h;intro j v hj;simp at hj
   |cons x r ih=>
    intro cs h;simp only[List.mapM_cons]at h;cases hx:w.cell? (A.add x)with
    |none=>simp[hx]at h
    |some u=>
     simp only[hx,Option.bind_eq_bind,Option.bind_some]at h;cases hr:r.mapM (fun i=>w.cell? (A.add i))with
     |none=>simp[hr]at h
     |some us=>
      simp[hr]at h;subst h;intro j v hj;cases j with
      |zero=>simp at hj;subst hj;exact⟨x,rfl,hx⟩
      |succ j=>
       obtain⟨i,h1,h2⟩:=ih us hr j v (by simpa using hj);exact⟨i,by simpa using h1,h2⟩
  obtain⟨i,h1,h2⟩:=key _ _ h j v hj;rw[List.getElem?_range]at h1
  ·cases h1;exact h2
  ·have:=(List.getElem?_eq_some_iff.1 h1).1;simpa using this
 ·cases h
theorem block_lt{w:World}{b o:Nat}{v:Value}(h:w.cell? ⟨b,o,none⟩=some v):b<w.heap.size:=by
 apply Classical.byContradiction;intro hn;have:w.heap[b]?=none:=Array.getElem?_eq_none (by omega);simp[World.cell?,this]at h
theorem bytes_read{H:Type}{enc:TypeId×Value→H}{w:World}{base:Nat}{spare:Nat→Bool}{held:Bool}{n:Nat}{cs:List Value}{x:DataW H×List MemPlace}(h:DataW.trod enc Tryz.prog w base spare held n 32 cs=some x):
  ∃v l,cs=[v]∧RD w v l:=by
 rcases open_ints Tryz.underlying32 Tryz.underlying5 Tryz.cellsBc h with⟨hcs,_⟩|⟨x,l,c,zs,hcs,_,hl,hm,hz,_,hcell,hwf⟩
 ·exact⟨_,[],hcs,RD.nil _⟩
 ·have hlz:l≤zs.length:=by rw[hz];split<;>omega
  have hb:∀z∈zs,0≤z∧z<256:=fun z hz=>by
   have:=hwf z hz;simp[Lit.wf,IntKind.min,IntKind.max,IntKind.bits,IntKind.signed]at this;omega
  refine⟨_,(zs.take l).map Int.toNat,hcs,?_,?_⟩
  ·intro y hy;obtain⟨z,hz,rfl⟩:=List.mem_map.1 hy;have:=hb z (List.mem_of_mem_take hz);omega
  ·have hlen:((zs.take l).map Int.toNat).length=l:=by rw[List.length_map,List.length_take];omega
   refine⟨some x,c,by rw[hlen],by omega,⟨hm,fun e=>by cases e⟩,?_⟩;rcases Nat.eq_zero_or_pos l with h0|h0
   ·left;apply List.length_eq_zero_iff.1;omega
   ·obtain⟨b,off,rfl,hc'⟩:=ints_at hcell (by omega);refine .inr ⟨b,off,rfl,block_lt (hc' 0 (by omega)),fun i y hy=> ?_⟩;rw[List.getElem?_map,List.getElem?_take]at hy;split at hy
    ·rename_i hi;have hi':i<zs.length:=by omega
     rw[List.getElem?_eq_getElem hi']at hy;simp at hy;have hz0:=hb zs[i] (List.getElem_mem hi');rw[hc' i hi'];have e:zs.getD i 0=zs[i]:=by simp[List.getD,hi']
     rw[e,←hy]
     congr 2
     omega
    ·simp at hy
end Go.Proofs.YtnkelgdnglaafaaGreat.FF
namespace Go.Proofs.YtnkelgdnglaafaaGreat
open Go.RowKit Go.Shelf
structure Ca where
 fl:Int
 ca:Int
 ag:Int
 up:Bool
def cav(y:Ca):List Value:=[.int .i64 y.fl,.int .i64 y.ca,.int .i64 y.ag,.bool y.up]
def ca0:Ca:=⟨0,0,0,false⟩
def RC(D:Nat→Prop)(W:World)(v:Value)(L:List Ca):Prop:=
 ∃a cap,v=.slice a L.length cap∧L.length≤cap∧(L=[]∨∃g o,a=some ⟨g,o,none⟩∧D g∧g<W.heap.size∧∀(i:Nat) y,L[i]?=some y→W.rangeAt g (o+i*4) (cav y))
section
variable {D D':Nat→Prop} {W W':World} {v:Value} {L:List Ca}
theorem RC.keep(h:RC D W v L)(hs:W.heap.size≤W'.heap.size)(hk:∀g,D g→g<W.heap.size→W'.heap[g]?=W.heap[g]?):RC D W' v L:=by
 obtain⟨a,cap,rfl,hc,h⟩:=h;refine⟨a,cap,rfl,hc,?_⟩;rcases h with h|⟨g,o,rfl,hd,hlt,h⟩
 ·exact .inl h
 ·exact .inr ⟨g,o,rfl,hd,Nat.lt_of_lt_of_le hlt hs,fun i y hy j u hu=>(World.cell?_of_block (a:=⟨g,o+i*4+j,none⟩) (hk g hd hlt)).trans (h i y hy j u hu)⟩
theorem RC.below'(h:RC D W v L)(hb:Below W.heap.size W W'):RC D W' v L:=h.keep hb.size fun g _ hlt=>hb.block g hlt
theorem RC.form(h:RC D W v L):∃a cap,v=.slice a L.length cap∧L.length≤cap:=by
 obtain⟨a,cap,h1,h2,_⟩:=h;exact⟨a,cap,h1,h2⟩
theorem RC.at{a:Option Addr}{n cap:Nat}(h:RC D W (.slice a n cap) L){i:Nat}{y:Ca}(hy:L[i]?=some y):∃g o,a=some ⟨g,o,none⟩∧g<W.heap.size∧W.cell? ⟨g,o+i*4,none⟩=some (.int .i64 y.fl)∧W.cell? ⟨g,o+i*4+1,none⟩=some (.int .i64 y.ca)∧W.cell? ⟨g,o+i*4+2,none⟩=some (.int .i64 y.ag)∧W.cell? ⟨g,o+i*4+3,none⟩=some (.bool y.up):=by
 obtain⟨a',cap',e,_,h⟩:=h;cases e;rcases h with h|⟨g,o,rfl,_,hlt,h⟩
 ·rw[h]at hy;simp at hy
 ·have hr:=h i y hy;exact⟨g,o,rfl,hlt,hr 0 _ rfl,hr 1 _ rfl,hr 2 _ rfl,hr 3 _ rfl⟩
end
theorem ixCa(W:World){g o n cap j:Nat}(hj:j<n):(Instr.indexAt 38 (.slice (some ⟨g,o,none⟩) n cap) (.int .i64 (j:Int))).run Tryz.prog W=.ok (.pointer (some ⟨g,o+j*4,none⟩)) W:=by
 rw[run_indexAt_slice W 38 _ n cap .i64 j (by kernel_rfl),if_pos ⟨by omega,by omega⟩,show Tryz.prog.elem 38=47 by kernel_rfl,Tryz.sizeOf47];simp only[Result.andThen_ok,Int.toNat_natCast,Addr.add_mid]
def oldk(p:Ca→Bool)(L:List Ca):Nat→Option (Nat×Ca)
 |0=>none
 |k+1=>match L[k]? with
  |none=>oldk p L k
  |some y=>if p y=true∧(∀x,oldk p L k=some x→x.2.ag<y.ag)then some (k,y)else oldk p L k
section
variable {p:Ca→Bool} {L:List Ca} {k:Nat} {y:Ca}
theorem oldk_not(hy:L[k]?=some y)(h:p y=false):oldk p L (k+1)=oldk p L k:=by
 rw[oldk,hy];simp only;rw[if_neg (fun g=>by rw[h]at g;cases g.1)]
theorem oldk_first(hy:L[k]?=some y)(h:p y=true)(hn:oldk p L k=none):oldk p L (k+1)=some (k,y):=by
 rw[oldk,hy];simp only;rw[if_pos ⟨h,fun x hx=>by rw[hn]at hx;cases hx⟩]
theorem oldk_more{x:Nat×Ca}(hy:L[k]?=some y)(h:p y=true)(hx:oldk p L k=some x)(hl:x.2.ag<y.ag):oldk p L (k+1)=some (k,y):=by
 rw[oldk,hy];simp only;rw[if_pos ⟨h,fun z hz=>by rw[hx]at hz;cases hz;exact hl⟩]
theorem oldk_less{x:Nat×Ca}(hy:L[k]?=some y)(hx:oldk p L k=some x)(hl:¬x.2.ag<y.ag):oldk p L (k+1)=oldk p L k:=by
 rw[oldk,hy];simp only;rw[if_neg (fun g=>hl (g.2 x hx))]
end
def CaB(W:World)(b:Nat)(y:Ca):Prop:=W.heap[b]?=some (.cells (cav y).toArray 47 (0,0))
section
variable {W W':World} {b:Nat} {y:Ca}
theorem CaB.lt(H:CaB W b y):b<W.heap.size:=(Array.getElem?_eq_some_iff.1 H).1
theorem CaB.below'(H:CaB W b y)(hb:Below W.heap.size W W'):CaB W' b y:=(hb.block b H.lt).trans H
theorem CaB.kp{G:Nat→Prop}(H:CaB W b y)(k:Kp G W W')(hG:¬G b):CaB W' b y:=(k.block b H.lt hG).trans H
theorem CaB.new(W:World)(y:Ca):CaB (W.alloc (.cells (cav y).toArray 47)) W.heap.size y:=World.alloc_heap_new W _
theorem CaB.cell(H:CaB W b y)(i:Nat):W.cell? ⟨b,i,none⟩=(cav y)[i]?:=by
 have h:W.heap[b]?=some (.cells (cav y).toArray 47 (0,0)):=H;simp[World.cell?,h]
end
theorem infoCa:(Tryz.prog.info? 47).map (·.size)=some 4:=by kernel_rfl
theorem kp_rowC(w:World)(b:Nat)(cs:Array Value):Kp (fun k=>k=b) w (w.setRow b cs):=⟨rfl,rfl,rfl,by simp[World.setRow],fun k _ hk=>setRow_other w b k cs hk⟩
theorem wpList_storeCa{ops:Array Oper}{rest:List Oper}{op:Oper}{a:Act}{w:World}{Q:Exit→Act→World→Prop}(hgd:op.guard=none)(x y:Operand)(ho:op.op=.store 47 x y)
  (b:Nat) {old:Ca} (z:Ca) (hx:a.eval x=.pointer (some ⟨b,0,none⟩)) (hy:a.eval y=.agg (cav z).toArray) (hL:CaB w b old)
  (hn:∀W',Kp (fun k=>k=b) w W'→CaB W' b z→wpList Tryz.prog ops Q rest (a.put op.dst undef) W'):wpList Tryz.prog ops Q (op::rest) a w:=
 wpList_store_row hgd 47 x y ho b _ hx hy _ _ hL infoCa rfl (by simp[cav,Value.oneCell']) (hn _ (kp_rowC w b _) (setRow_heap w b _ _ _ _ hL))
theorem retCa2{fn:Func}{p t:Tmp}(hf:fn.results= #[.cell p 47,.tmp t]){tmps:Array Value}{w:World}{b:Nat}{y:Ca}{u:Value}(hp:tmps.getD p undef=.pointer (some ⟨b,0,none⟩))(ht:tmps.getD t undef=u)(H:CaB w b y):
  (results fn tmps).run Tryz.prog w=.ok (.tuple #[.agg #[.int .i64 y.fl,.int .i64 y.ca,.int .i64 y.ag,.bool y.up],u]) w:=by
 have hp':tmps[p]?.getD undef=.pointer (some ⟨b,0,none⟩):=by simpa using hp
 have ht':tmps[t]?.getD undef=u:=by simpa using ht
 have H':w.heap[b]?=some (.cells #[.int .i64 y.fl,.int .i64 y.ca,.int .i64 y.ag,.bool y.up] 47 (0,0)):=H;simp[results,hf,hp',ht',asAddr,run_loadVar_row w b 47 47 _ _ _ H' Tryz.underlying47 rfl infoCa]
def PrC(g:Nat)(lb:Array Value)(p:Ca→Bool)(w:World):Prop:=∀(W:World) (x:Ca),Below w.heap.size w W→Calls Tryz.prog g (#[.agg #[.int .i64 x.fl,.int .i64 x.ca,.int .i64 x.ag,.bool x.up]]++lb) W fun e w'=>e=.returned (.bool (p x))∧Below W.heap.size W w'
def ocl(o:Option (Nat×Ca)):Ca:=match o with
 |none=>ca0
 |some x=>x.2
structure Oz(W wr:World)(o:Option (Nat×Ca)):Prop where
 z:CaB wr W.heap.size ca0
 c:CaB wr (W.heap.size+1) (ocl o)
 bel:Below W.heap.size W wr
theorem Oz.next{W wr w':World}{o:Option (Nat×Ca)}(h:Oz W wr o)(hb:Below wr.heap.size wr w'):Oz W w' o:=⟨h.z.below' hb,h.c.below' hb,below_class h.bel hb⟩
theorem oldest_any(D:Nat→Prop)(v:Value)(L:List Ca)(g:Nat)(lb:Array Value)(p:Ca→Bool)(age:Int)(W:World)(eg:∀args w,(callFunc g args).run Tryz.prog w=.ok (.enter g args) w)(h:RC D W v L)(hl:L.length≤200)(hp:PrC g lb p W):
  Calls Tryz.prog 109 #[v,.func (.func g) #[] lb,.int .i64 age] W fun e w'=>e=.returned (.tuple #[.agg #[.int .i64 (ocl (oldk (fun y=>decide (age≤y.ag)&&p y) L L.length)).fl,.int .i64 (ocl (oldk (fun y=>decide (age≤y.ag)&&p y) L L.length)).ca,.int .i64 (ocl (oldk (fun y=>decide (age≤y.ag)&&p y) L L.length)).ag,.bool (ocl (oldk (fun y=>decide (age≤y.ag)&&p y) L L.length)).up],.bool (oldk (fun y=>decide (age≤y.ag)&&p y) L L.length).isSome])∧Below W.heap.size W w':=by
 obtain⟨av,kv,rfl,_⟩:=h.form;have hb0:=((Below.refl W.heap.size W).alloc (Nat.le_refl _) (.cells (cav ca0).toArray 47)).alloc (by simp) (.cells (cav ca0).toArray 47);have h2:=CaB.new (W.alloc (.cells (cav ca0).toArray 47)) ca0;rw[World.size_alloc]at h2;have HO0:Hid (Oz W ((W.alloc (.cells (cav ca0).toArray 47)).alloc (.cells (cav ca0).toArray 47)) none):=⟨(CaB.new W ca0).below' ((Below.refl _ _).alloc (Nat.le_refl _) _),h2,hb0⟩;have HC:=Hd h;have HP:=Hd hp;obtain⟨P,hP⟩:∃P:Ca→Bool,(fun y:Ca=>decide (age≤y.ag)&&p y)=P:=⟨_,rfl⟩;rw[hP];have HPP:Hid (∀y,P y=(decide (age≤y.ag)&&p y)):=fun y=>by rw[←hP]
 obtain⟨r,HR⟩:∃r,Hid (oldk P L L.length=r):=⟨_,Hd rfl⟩;rw[HR.out];clear h hp hb0 h2 hP;change Hid (Oz W ((W.alloc (.cells #[.int .i64 0,.int .i64 0,.int .i64 0,.bool false] 47)).alloc (.cells #[.int .i64 0,.int .i64 0,.int .i64 0,.bool false] 47)) none)at HO0;have hnil:∀W,(binOp .eql 122 (.func (.func g) #[] lb) .nilFunc).run Tryz.prog W=.ok (.bool false) W:=fun W=>by rfl
 go_enter Tryz.func109,Tryz.ntmps109
 go_wp2_with fail
 generalize (W.alloc (.cells #[.int .i64 0,.int .i64 0,.int .i64 0,.bool false] 47)).alloc (.cells #[.int .i64 0,.int .i64 0,.int .i64 0,.bool false] 47)=W1 at HO0⊢
 go_loopw [9,18] (fun fv iv wr=>∃(i:Nat) (o:Option (Nat×Ca)),i≤L.length∧fv=.bool o.isSome∧iv=.int .i64 (i:Int)∧Hid (oldk P L i=o)∧Hid (Oz W wr o)) (fun _ iv _=>L.length-(intOf iv).toNat)
 case atStart=>exact⟨0,none,Nat.zero_le _,rfl,rfl,rfl,HO0⟩
 case round=>
  clear HO0;obtain⟨i,o,hi,rfl,rfl,HK,HO⟩:=hrel;by_cases hlt:i<L.length
  ·have hiz:(i:Int)<(L.length:Int):=by omega
   obtain⟨y,hy⟩:∃y,L[i]?=some y:=⟨_,List.getElem?_eq_getElem hlt⟩;obtain⟨ga,oa,ha,hga,c0,c1,c2,c3⟩:=(HC.out.below' HO.out.bel).at hy;subst ha;have HY:=Hd hy;have hbv:=(Below.refl wr.heap.size wr).alloc (Nat.le_refl _) (.cells #[.int .i64 y.fl,.int .i64 y.ca,.int .i64 y.ag,.bool y.up] 47);have HO1:=Hd (HO.out.next hbv);have HCY:Hid (CaB (wr.alloc (.cells #[.int .i64 y.fl,.int .i64 y.ca,.int .i64 y.ag,.bool y.up] 47)) wr.heap.size y):=CaB.new wr y;have HW1:=Hd (HP.out _ y HO1.out.bel);have HPY:=Hd (HPP.out y);clear hy hga hbv HO;generalize hq:p y=q at HW1 HPY;clear hq;have g0:(wr.alloc (.cells #[.int .i64 y.fl,.int .i64 y.ca,.int .i64 y.ag,.bool y.up] 47)).cell? ⟨wr.heap.size,0,none⟩=some (.int .i64 y.fl):=HCY.out.cell 0;have g1:(wr.alloc (.cells #[.int .i64 y.fl,.int .i64 y.ca,.int .i64 y.ag,.bool y.up] 47)).cell? ⟨wr.heap.size,1,none⟩=some (.int .i64 y.ca):=HCY.out.cell 1;have g2:(wr.alloc (.cells #[.int .i64 y.fl,.int .i64 y.ca,.int .i64 y.ag,.bool y.up] 47)).cell? ⟨wr.heap.size,2,none⟩=some (.int .i64 y.ag):=HCY.out.cell 2;have g3:(wr.alloc (.cells #[.int .i64 y.fl,.int .i64 y.ca,.int .i64 y.ag,.bool y.up] 47)).cell? ⟨wr.heap.size,3,none⟩=some (.bool y.up):=HCY.out.cell 3
   go_wp2_with (go_at_fn g;refine HW1.out.mono ?_)
   rintro e V2 ⟨rfl,hb2⟩;have HO3:=Hd (HO1.out.next hb2);have HCY2:=Hd (HCY.out.below' hb2);have HC3:=Hd HO3.out.c;clear hb2 HW1 HO1 HCY c0 c1 c2 c3 g0 g1 g2 g3;generalize wr.heap.size=yb at HCY2⊢;have f0:V2.cell? ⟨yb,0,none⟩=some (.int .i64 y.fl):=HCY2.out.cell 0;have f1:V2.cell? ⟨yb,1,none⟩=some (.int .i64 y.ca):=HCY2.out.cell 1;have f2:V2.cell? ⟨yb,2,none⟩=some (.int .i64 y.ag):=HCY2.out.cell 2;have f3:V2.cell? ⟨yb,3,none⟩=some (.bool y.up):=HCY2.out.cell 3;have e2:V2.cell? ⟨W.heap.size+1,2,none⟩=some (.int .i64 (ocl o).ag):=HO3.out.c.cell 2;cases q with
   |false=>
    have HK2:Hid (oldk P L (i+1)=o):=by
     show _=_;rw[oldk_not HY.out (by rw[HPY.out,Bool.and_false]),HK.out]
    clear HK HPY HC3 HCY2 f0 f1 f3;go_wp2;go_roundw
    case rel=>exact⟨i+1,o,by omega,rfl,by go_num,HK2,HO3⟩
    case measure=>simp[intOf];omega
   |true=>
    by_cases q1:age≤y.ag
    ·have HAG:Hid (P y=true):=by show _=_;rw[HPY.out,decide_eq_true q1];rfl
     have d1:decide (age≤y.ag)=true:=decide_eq_true q1;clear HPY;cases o with
     |none=>
      have HK2:Hid (oldk P L (i+1)=some (i,y)):=oldk_first HY.out HAG.out HK.out;clear HK HAG
      go_wp2_with (refine wpList_storeCa rfl _ _ rfl (W.heap.size+1) y rfl rfl HC3.out ?_)
      intro V3 hk3 hc3;have HO2:Hid (Oz W V3 (some (i,y))):=⟨HO3.out.z.kp hk3 (by omega),hc3,hk3.below HO3.out.bel HO3.out.bel.size (fun k hk e=>by omega)⟩;clear hk3 hc3 HO3 HC3 HCY2 f0 f1 f2 f3 e2;go_wp2;go_roundw
      case rel=>exact⟨i+1,some (i,y),by omega,rfl,by go_num,HK2,HO2⟩
      case measure=>simp[intOf];omega
     |some x=>
      have e3:V2.cell? ⟨W.heap.size+1,2,none⟩=some (.int .i64 x.2.ag):=e2;clear e2;by_cases q2:x.2.ag<y.ag
      ·have HK2:Hid (oldk P L (i+1)=some (i,y)):=oldk_more HY.out HAG.out HK.out q2;have d2:decide (x.2.ag<y.ag)=true:=decide_eq_true q2;clear HK HAG
       go_wp2_with (refine wpList_storeCa rfl _ _ rfl (W.heap.size+1) y rfl rfl HC3.out ?_)
       intro V3 hk3 hc3;have HO2:Hid (Oz W V3 (some (i,y))):=⟨HO3.out.z.kp hk3 (by omega),hc3,hk3.below HO3.out.bel HO3.out.bel.size (fun k hk e=>by omega)⟩;clear hk3 hc3 HO3 HC3 HCY2 f0 f1 f2 f3 e3;go_wp2;go_roundw
       case rel=>exact⟨i+1,some (i,y),by omega,rfl,by go_num,HK2,HO2⟩
       case measure=>simp[intOf];omega
      ·have HK2:Hid (oldk P L (i+1)=some x):=by
        show _=_;rw[oldk_less HY.out HK.out q2,HK.out]
       have d2:decide (x.2.ag<y.ag)=false:=decide_eq_false q2;clear HK HAG HC3 HCY2;go_wp2;go_roundw
       case rel=>exact⟨i+1,some x,by omega,rfl,by go_num,HK2,HO3⟩
       case measure=>simp[intOf];omega
    ·have d1:decide (age≤y.ag)=false:=decide_eq_false q1
     have HK2:Hid (oldk P L (i+1)=o):=by
      show _=_;rw[oldk_not HY.out (by rw[HPY.out,d1];rfl),HK.out]
     clear HK HPY HC3 HCY2;go_wp2;go_roundw
     case rel=>exact⟨i+1,o,by omega,rfl,by go_num,HK2,HO3⟩
     case measure=>simp[intOf];omega
  ·have hiz:¬(i:Int)<(L.length:Int):=by omega
   have hie:oldk P L L.length=o:=by rw[←HK.out,show i=L.length by omega]
   have hor:o=r:=by rw[←hie,HR.out]
   subst hor;have HZ:=Hd HO.out.z;have f0:wr.cell? ⟨W.heap.size+1,0,none⟩=some (.int .i64 (ocl o).fl):=HO.out.c.cell 0;have f1:wr.cell? ⟨W.heap.size+1,1,none⟩=some (.int .i64 (ocl o).ca):=HO.out.c.cell 1;have f2:wr.cell? ⟨W.heap.size+1,2,none⟩=some (.int .i64 (ocl o).ag):=HO.out.c.cell 2;have f3:wr.cell? ⟨W.heap.size+1,3,none⟩=some (.bool (ocl o).up):=HO.out.c.cell 3;clear hie
   go_wp2_with (refine wpList_storeCa rfl _ _ rfl W.heap.size (ocl o) rfl rfl HZ.out ?_)
   intro W9 hk9 hc9;have HK9:=Hd (And.intro hk9 hc9);clear hk9 hc9 f0 f1 f2 f3;go_wp2;exact bodyPost_ret (retCa2 Tryz.results109 rfl rfl HK9.out.2) rfl ⟨rfl,HK9.out.1.below HO.out.bel HO.out.bel.size (fun k hk e=>by omega)⟩
end Go.Proofs.YtnkelgdnglaafaaGreat
