import Derived.Test.YtlajleogofmkcaaGreatQ13
import Derived.WalkMore
set_option maxHeartbeats 8000000
set_option maxRecDepth 100000
namespace Go.Proofs.YtlajleogofmkcaaGreat.FF
open Go.RowKit
theorem infoFz:(Tryz.prog.info? 73).map (fun i=>(i.zero,i.size,i.bytes))=some (some (.agg #[.int .i64 0,.int .i64 0,.int .i64 0,.int .i64 0,.int .i64 0,.int .i64 0]),6,48):=by kernel_rfl
theorem one_cells{W:World}{b:Nat}{f:Fr}(H:FB W b f):∀j u,(rv [f])[j]?=some u→W.cell? ((⟨b,0,none⟩:Addr).add j)=some u:=fun j u hu=>by
 rw[rv_one1]at hu;rw[Addr.add_mid];exact H.range j u hu
theorem wpList_appendF1{ops:Array Oper}{rest:List Oper}{o:Oper}{a:Act}{w:World}{Q:Exit→Act→World→Prop}(hgd:o.guard=none)(s x:Operand)
  (ho:o.op=.call {callee:=.builtin .append,args:= #[s,x],argTypes:= #[119,119]})
  (B:Nat) (v:Value) (F:List Fr) (hs:a.eval s=v) (hown:FO w B v F) (b c:Nat) (f:Fr) (hx:a.eval x=.slice (some ⟨b,0,none⟩) 1 c) (H:FB w b f)
  (h63:F.length+1≤1000000) (hB:B≤w.heap.size)
  (h:∀v' w',FO w' B v' (F++[f])→w.grownBy w' v.ownBlock→(∀g,v'.ownBlock=some g→v.ownBlock=some g∨g=w.heap.size)→wpList Tryz.prog ops Q rest (a.put o.dst v') w'):wpList Tryz.prog ops Q (o::rest) a w:=by
 obtain⟨i0,hi,hz0,hz1,hz2⟩:=info_parts infoFz;refine wpList_append_lies w hgd s x 119 ho B 73 i0 _ 6 48 Tryz.underlying119 hi hz0 hz1 hz2 rfl (by decide) v F.length (rv F) hs hown ⟨b,0,none⟩ 1 c (rv [f]) hx (by rw[rv_length];rfl) (one_cells H) (rv_one [f]) (by omega) (by unfold maxLen;omega) (by omega) hB w.heap.size rfl ?_;intro g cap w' h1 h2 h3 _;refine h _ w' ?_ h2 (fun k hk=> ?_)
 ·unfold FO;rw[List.length_append,rv_append];exact h1
 ·simp[Value.ownBlock]at hk;subst hk;exact h3
theorem RD.keep'{W W':World}{v:Value}{l:List Nat}(h:RD W v l)(hs:W.heap.size≤W'.heap.size)(hk:l≠[]→∀g,v.ownBlock=some g→g<W.heap.size→W'.heap[g]?=W.heap[g]?):RD W' v l:=by
 obtain⟨hB,a,cap,rfl,hc,hm,h⟩:=h;refine⟨hB,a,cap,rfl,hc,hm,?_⟩;rcases h with h|⟨g,o,rfl,hlt,h⟩
 ·exact .inl h
 ·by_cases hl:l=[]
  ·exact .inl hl
  ·exact .inr ⟨g,o,rfl,Nat.lt_of_lt_of_le hlt hs,fun i y hy=>(World.cell?_of_block (a:=⟨g,o+i,none⟩) (hk hl g rfl hlt)).trans (h i y hy)⟩
theorem RD.take'{W:World}{a:Option Addr}{n cap:Nat}{l:List Nat}(h:RD W (.slice a n cap) l)(k j:Nat)(hk:k≤l.length)(hj:j=k):RD W (.slice a j cap) (l.take k):=by
 subst hj;exact h.take j hk
theorem OW.slice{W:World}{B:Nat}{v:Value}{l:List Nat}(h:OW W B v l):∃a c,v=.slice a l.length c:=by
 rcases h.form with⟨rfl,rfl⟩|⟨g,cap,rfl,_⟩
 ·exact⟨none,0,rfl⟩
 ·exact⟨_,cap,rfl⟩
structure Dc(rest:List Nat)(d:Fr)(q:Nat):Prop where
 df:FC.df (rest.take 10)=d
 de:FC.de (rest.take 10)=q
theorem dec10{W:World}{a:Option Addr}{n cap j:Nat}{rest:List Nat}{d:Fr}{q:Nat}(h:RD W (.slice a n cap) rest)(D:Dc rest d q)(hk:10≤rest.length)(hj:j=10):
  Calls Tryz.prog 96 #[.slice a j cap] W fun e w'=>e=.returned (.tuple #[.agg #[.int .i64 d.ki,.int .i64 d.ca,.int .i64 d.sq,.int .i64 d.a,.int .i64 d.b,.int .i64 d.c],.int .i64 (q:Nat)])∧Below W.heap.size W w':=by
 have:=decode_any _ (rest.take 10) W (h.take' 10 j hk hj);rwa[D.df,D.de]at this
def lenV:Value→Nat
 |.slice _ n _=>n
 |_=>0
structure Fx(w wr:World)(sb:Nat)(u:Obj)(x rest:List Nat)(F:List Fr)(n:Nat)(lv fo:Value):Prop where
 rd:RD wr lv rest
 own:FO wr w.heap.size fo F
 ne:rest≠[]→∀g,lv.ownBlock=some g→fo.ownBlock≠some g
 sb:wr.heap[sb]?=some u
 bel:Below w.heap.size w wr
 eq:FC.fd x=(F++(FC.fd rest).1,n+(FC.fd rest).2.1,(FC.fd rest).2.2)
 cnt:F.length*10+n+rest.length=x.length
theorem Fx.next{w wr W:World}{sb:Nat}{u:Obj}{x rest:List Nat}{F:List Fr}{n:Nat}{lv fo:Value}(h:Fx w wr sb u x rest F n lv fo)(hb:Below wr.heap.size wr W):Fx w W sb u x rest F n lv fo:=
 ⟨h.rd.below' hb,h.own.below' hb,h.ne,(hb.block sb (Array.getElem?_eq_some_iff.1 h.sb).1).trans h.sb,below_class h.bel hb,h.eq,h.cnt⟩
section
variable {w wr W:World} {sb:Nat} {u:Obj} {x rest:List Nat} {F:List Fr} {n:Nat} {fo:Value}
theorem Fx.alloc{lv:Value}(h:Fx w wr sb u x rest F n lv fo)(o:Obj):Fx w (wr.alloc o) sb u x rest F n lv fo:=h.next ((Below.refl _ _).alloc (Nat.le_refl _) o)
theorem Fx.yes{g o cap:Nat}{a':Option Addr}(h:Fx w wr sb u x rest F n (.slice (some ⟨g,o,none⟩) rest.length cap) fo)(h10:¬rest.length<10){d:Fr}(D:Dc rest d 0)(ha:10<rest.length→a'=some ⟨g,o+10,none⟩)(hn:a'≠none)(hsl:sb<w.heap.size)
  {fo':Value} (hf:FO W w.heap.size fo' (F++[d])) (hg:wr.grownBy W fo.ownBlock) (hl:∀g,fo'.ownBlock=some g→fo.ownBlock=some g∨g=wr.heap.size):Fx w W sb u x (rest.drop 10) (F++[d]) n (.slice a' (rest.length-10) (cap-10)) fo':=by
 have hb:Below w.heap.size w W:=h.bel.grown hg h.bel.size (fun k hk=>(h.own.lt k hk).1);have hne:rest≠[]:=fun e=>by rw[e]at h10;simp at h10
 have hr1:=h.rd.keep' hg.size (fun _ k hk hlt=>hg.block k hlt (fun e=>h.ne hne k hk e.symm));have hr2:=hr1.drop (a':=a') 10 (by omega) (fun g' o' e hlt=>by cases e;exact ha hlt) (fun e=>absurd e hn);refine⟨hr2,hf,?_,?_,hb,?_,?_⟩
 ·intro hne' k hk hfk
  have h10':10<rest.length:=by
   apply Classical.byContradiction;intro hc;apply hne';apply List.length_eq_zero_iff.1;rw[List.length_drop];omega
  rw[ha h10']at hk;simp[Value.ownBlock]at hk;subst hk;rcases hl g hfk with e|e
  ·exact h.ne hne g rfl e
  ·have:=h.rd.lt hne;omega
 ·rw[hg.block sb (Nat.lt_of_lt_of_le hsl h.bel.size) (fun e=>by have:=(h.own.lt sb e.symm).1;omega)];exact h.sb
 ·rw[h.eq,FC.fd_yes h10 D.de,D.df];simp
 ·have:=h.cnt;simp only[List.length_append,List.length_cons,List.length_nil,List.length_drop];omega
theorem Fx.no{g o cap:Nat}{a':Option Addr}(h:Fx w wr sb u x rest F n (.slice (some ⟨g,o,none⟩) rest.length cap) fo)(h10:¬rest.length<10)(hd:FC.de (rest.take 10)≠0)(ha:a'=some ⟨g,o+1,none⟩):Fx w wr sb u x (rest.drop 1) F (n+1) (.slice a' (rest.length-1) (cap-1)) fo:=by
 have hr2:=h.rd.drop (a':=a') 1 (by omega) (fun g' o' e hlt=>by cases e;exact ha) (fun e=>by rw[ha]at e;cases e);refine⟨hr2,h.own,?_,h.sb,h.bel,?_,?_⟩
 ·intro _ k hk;rw[ha]at hk;simp[Value.ownBlock]at hk;subst hk;exact h.ne (fun e=>by rw[e]at h10;simp at h10) g rfl
 ·rw[h.eq,FC.fd_no h10 hd];simp only[Prod.mk.injEq,true_and,and_true];omega
 ·have:=h.cnt;rw[List.length_drop];omega
end
theorem feed_at(sb o:Nat)(cs:Array Value)(tt:TypeId)(u v:Value)(l m:List Nat)(w:World)(hsb:w.heap[sb]?=some (.cells cs tt (0,0)))(hso:cs[o]?=some u)(hu:RD w u l)(hv:RD w v m)(hl:l.length≤1000)(hm:m.length≤3000):
  Calls Tryz.prog 72 #[.pointer (some ⟨sb,o,none⟩),v] w fun e w'=>∃fo u',e=.returned (.tuple #[fo,.int .i64 ((FC.fd (l++m)).2.1:Nat)])∧FO w' w.heap.size fo (FC.fd (l++m)).1∧w'.heap[sb]?=some (.cells (cs.setIfInBounds o u') tt (0,0))∧OW w' w.heap.size u' (FC.fd (l++m)).2.2∧Kp (fun k=>k=sb) w w':=by
 have hc0:w.cell? ⟨sb,o,none⟩=some u:=by rw[cell_of_row w sb o _ _ _ hsb];exact hso
 have hslt:sb<w.heap.size:=(Array.getElem?_eq_some_iff.1 hsb).1;have HSB:=Hd hsb;have HU:=Hd hu;have HV:=Hd hv;have hBs:=Hd (hu.bs.append hv.bs);obtain⟨ua,uc,rfl,_,_,_⟩:=hu.form;obtain⟨va,vc,rfl,_,_,_⟩:=hv.form;have HSO:=Hd hso;clear hsb hu hv hso
 go_enter Tryz.func72,Tryz.ntmps72
 go_wp2_with fail
 go_step3
 go_wp2_with fail
 have hb0:Below w.heap.size w (w.alloc (.cells #[.slice ua l.length uc,.slice va m.length vc] 62)):=(Below.refl _ w).alloc (Nat.le_refl _) _;have hc1:(w.alloc (.cells #[.slice ua l.length uc,.slice va m.length vc] 62)).cell? ⟨w.heap.size,0,none⟩=some (.slice ua l.length uc):=by rw[cell_of_row _ _ 0 _ _ _ (heap_alloc_new w (.cells #[.slice ua l.length uc,.slice va m.length vc] 62))];rfl
 have hc2:(w.alloc (.cells #[.slice ua l.length uc,.slice va m.length vc] 62)).cell? ⟨w.heap.size,1,none⟩=some (.slice va m.length vc):=by rw[cell_of_row _ _ 1 _ _ _ (heap_alloc_new w (.cells #[.slice ua l.length uc,.slice va m.length vc] 62))];rfl
 refine (concat_any w.heap.size _ _ l m _ hc1 hc2 (by simp) (HU.out.alloc _) (HV.out.alloc _) hl hm).mono ?_;rintro e W1 ⟨v1,rfl,ho1,hb1⟩
 have HF1:Hid (Fx w W1 sb (.cells cs tt (0,0)) (l++m) (l++m) [] 0 v1 (.slice none 0 0)):=by
  have hb:Below w.heap.size w W1:=below_class hb0 hb1;exact⟨ho1.rd hBs.out,FO.nil _ _,fun _ g hg=>by simp[Value.ownBlock],(hb.block sb hslt).trans HSB.out,hb,by simp,by simp⟩
 have hx:(l++m).length≤4000:=by rw[List.length_append];omega
 clear ho1 hb1 hb0 HU HV hl hm hc0 hc1 hc2;obtain⟨x,hxe⟩:∃x,x=l++m:=⟨_,rfl⟩;rw[←hxe]at HF1 hx hBs;have HXE:=Hd hxe.symm;clear hxe;generalize l.length=ul at*;have HX:=Hd hx;clear hx;go_wp2
 go_step3
 go_wp2
 go_loopw [6,7,8,9,10,27,31] (fun lv fo p _ _ _ _ wr=>∃(rest:List Nat) (F:List Fr) (n:Nat),p=.int .i64 (n:Int)∧Hid (Fx w wr sb (.cells cs tt (0,0)) x rest F n lv fo)) (fun lv _ _ _ _ _ _ _=>lenV lv)
 case atStart=>exact⟨x,[],0,rfl,HF1⟩
 case round=>
  obtain⟨rest,F,n,rfl,HF⟩:=hrel;have hslr:sb<wr.heap.size:=(Array.getElem?_eq_some_iff.1 HF.out.sb).1;obtain⟨a,cap,rfl,hc,hm,ha⟩:=HF.out.rd.form;have HM:=Hd hm;have HHA:=Hd ha;clear hm ha;have hlen:rest.length≤4000:=by have:=HF.out.cnt;have:=HX.out;omega
  by_cases h10:rest.length<10
  ·have hz:(rest.length:Int)<10:=by omega
   have hz2:(rest.length:Int)≤(cap:Int):=by omega
   go_wp2_with fail
   refine (decode_any _ rest _ HF.out.rd).mono ?_;rintro e W2 ⟨rfl,hb2⟩;have HF2:=Hd ((HF.out.next hb2).alloc (.cells #[.int .i64 (FC.df rest).ki,.int .i64 (FC.df rest).ca,.int .i64 (FC.df rest).sq,.int .i64 (FC.df rest).a,.int .i64 (FC.df rest).b,.int .i64 (FC.df rest).c] 73));clear hb2 HF;generalize FC.df rest=d at HF2;generalize FC.de rest=q
   go_wp2_with fail
   refine (clone_any _ rest _ HF2.out.rd (by omega)).mono ?_;rintro e W3 ⟨v3,rfl,ho3,hb3⟩;have HF3:=Hd (HF2.out.next hb3);have HO3:=Hd (ho3.mono HF2.out.bel.size);obtain⟨a3,n3,rfl⟩:=ho3.slice;have c3:W3.cell? ⟨sb,o,none⟩=some (.slice ua ul uc):=by rw[cell_of_row W3 sb o _ _ _ HF3.out.sb];exact HSO.out
   have r3:W3.frozen? ⟨sb,o,none⟩=false:=by simp[World.frozen?,HF3.out.sb]
   clear ho3 hb3 HF2;go_wp2;rw[Exit.noGoto_ret]
   go_ret2
   have hfd:=HF3.out.eq;rw[FC.fd_few h10]at hfd;rw[HXE.out,hfd];refine⟨u7,.slice a3 rest.length n3,?_,?_,?_,?_,?_⟩
   ·simp only[Nat.add_zero];rfl
   ·show FO _ _ _ (F++[]);rw[List.append_nil];exact HF3.out.own.keep fun k hk=>Below.heap_setCell W3 ⟨sb,o,none⟩ _ k (fun e=>by have:=(HF3.out.own.lt k hk).1;have e':k=sb:=e;omega)
   ·exact heap_setCell_same W3 sb o _ _ _ HF3.out.sb
   ·exact HO3.out.keep fun k hk=>Below.heap_setCell W3 ⟨sb,o,none⟩ _ k (fun e=>by have:=(HO3.out.lt k hk).1;have e':k=sb:=e;omega)
   ·exact(Kp.ofBelow _ HF3.out.bel).set sb o _ (fun _=>rfl)
  ·have hz:¬(rest.length:Int)<10:=by omega
   have hz2:(10:Int)≤(cap:Int):=by omega
   rcases HHA.out with hn|⟨g,o,rfl,hg⟩
   ·exfalso;rw[hn]at h10;simp at h10
   clear HHA
   go_wp2_with fail
   all_goals
    obtain⟨d,q,HD⟩:∃d q,Dc rest d q:=⟨_,_,rfl,rfl⟩;refine (dec10 HF.out.rd HD (by omega) (by omega)).mono ?_;rintro e W2 ⟨rfl,hb2⟩;have HF2:=Hd ((HF.out.next hb2).alloc (.cells #[.int .i64 d.ki,.int .i64 d.ca,.int .i64 d.sq,.int .i64 d.a,.int .i64 d.b,.int .i64 d.c] 73));have HV2:=Hd (FB.new W2 d);clear hb2 HF;rcases Nat.eq_zero_or_pos q with hq|hq
    ·subst hq
     have HN2:Hid (FB ((W2.alloc (.cells #[.int .i64 d.ki,.int .i64 d.ca,.int .i64 d.sq,.int .i64 d.a,.int .i64 d.b,.int .i64 d.c] 73)).alloc (.cells #[.int .i64 d.ki,.int .i64 d.ca,.int .i64 d.sq,.int .i64 d.a,.int .i64 d.b,.int .i64 d.c] 73)) (W2.heap.size+1) d):=by
      have:=FB.new (W2.alloc (.cells #[.int .i64 d.ki,.int .i64 d.ca,.int .i64 d.sq,.int .i64 d.a,.int .i64 d.b,.int .i64 d.c] 73)) d;rw[World.size_alloc]at this;exact this
     go_wp2_with (first|(refine wpList_loadF rfl _ rfl W2.heap.size rfl HV2.out ?_)|(at_builtin;refine wpList_appendF1 rfl _ _ rfl w.heap.size _ F rfl (HF2.out.alloc _).own _ _ d rfl HN2.out ?qc1 ?qc2 ?_))
     case qc1=>have:=HF2.out.cnt;have:=HX.out;omega
     case qc2=>exact(HF2.out.alloc _).bel.size
     intro fo' W4 hf4 hg4 hl4;have HF4:=Hd hf4;have HG4:=Hd hg4;have HL4:=Hd hl4;clear hf4 hg4 hl4;go_wp2;refine⟨⟨rest.drop 10,F++[d],n,rfl,(HF2.out.alloc _).yes h10 HD (fun hlt=>by first|rfl|exact if_neg (by omega)) (by first|(intro e;cases e;done)|(split<;>(intro e;cases e;done))) hslt HF4.out HG4.out (by rw[World.size_alloc,World.size_alloc];exact HL4.out)⟩,?_⟩;show rest.length-10<rest.length;omega
    ·have hqz:((q:Int)==0)=false:=by simp;omega
     have hnn:(n:Int)≤4000:=by have:=HF2.out.cnt;have:=HX.out;omega
     go_wp2;refine⟨⟨rest.drop 1,F,n+1,by go_num,HF2.out.no h10 (by rw[HD.de];omega) rfl⟩,?_⟩;show rest.length-1<rest.length;omega
end Go.Proofs.YtlajleogofmkcaaGreat.FF
