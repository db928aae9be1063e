import Derived.Test.YtnkelgdnglaafaaGreatQ25
namespace Go.Proofs.YtnkelgdnglaafaaGreat
section
variable {G:Gs} {n:Int} {c x:CC.Cl} {b:List Nat} {f:FF.Fr}
theorem put_in{F C:Int}{bar:Bool}{L:List CC.Cl}{y:CC.Cl}(h:c∈L):c∈CC.KM.put F C bar L y:=by
 unfold CC.KM.put;split
 ·exact List.mem_append_left _ h
 ·exact h
theorem fra_in(h:c∈G.L):c∈(GM.fra G f).L:=by
 have h1:c∈(GM.tke G f).2.L:=by
  unfold GM.tke GM.rep GM.prs GM.trn
  (repeat' split)<;>first|exact h|exact put_in h
 unfold GM.fra;simp only
 (repeat' split)<;>exact h1
theorem frs_in:∀{F:List FF.Fr} {G:Gs},c∈G.L→c∈(GM.frs G F).L
 |[],_,h=>h
 |f::F,G,h=>@frs_in F (GM.fra G f) (fra_in h)
theorem rdb_in(h:c∈G.L):c∈(GM.rdb G b).L:=by
 unfold GM.rdb;simp only;split<;>exact frs_in h
theorem srvs_in(h:x∈G.L):∀k,x∈(GM.srvs G k).L∨∃(i:Nat) (m:Mb),G.M[i]?=some m∧GM.opn m=true∧CC.KM.srv i m.fl m.su m.sd x=true
 |0=>.inl h
 |k+1=>by
  rcases srvs_in h k with h1|h1
  ·show x∈(GM.srv1 _ k).L∨_;unfold GM.srv1;rw[(GM.srvs_M G k).1];split
   ·exact .inl h1
   ·rename_i m hm;split
    ·rename_i ho;by_cases hs:CC.KM.srv k m.fl m.su m.sd x=true
     ·exact .inr ⟨k,m,hm,ho,hs⟩
     ·exact .inl (List.mem_filter.2 ⟨h1,by simpa using hs⟩)
    ·exact .inl h1
  ·exact .inr h1
theorem tck_in(h:GQ n G)(hc:c∈G.L):(∃y∈(GM.tck G b).2.L,y.fl=c.fl∧y.ca=c.ca∧y.up=c.up∧y.ag=c.ag+1)∨((GM.tck G b).2.rc=false∧∃(i:Nat) (m:Mb),(GM.tck G b).2.M[i]?=some m∧m.lv=true∧m.mo=false∧m.ph=2∧m.fl=c.fl∧(c.ca<0∨c.ca=i)):=by
 have hag:=h.go.gd.age c hc;have hn1:=h.go.n1;have hx:CC.KM.older c∈(GM.pss (GM.rdb {G with N:=[],nd:=0} b)).L:=List.mem_map.2 ⟨c,rdb_in hc,rfl⟩;have hold:(CC.KM.older c).ag=c.ag+1:=by unfold CC.KM.older;simp only;rw[if_pos (by omega)]
 obtain⟨e1,e2,e3,-⟩:=@GM.tck_c G b;rw[e1,e2];have e4:GM.tk3 G b=GM.srv (GM.pss (GM.rdb {G with N:=[],nd:=0} b)):=rfl;generalize GM.pss (GM.rdb {G with N:=[],nd:=0} b)=P at hx e4;rw[e4]at e3⊢;unfold GM.srv at e3⊢;split
 ·exact .inl ⟨_,hx,rfl,rfl,rfl,hold⟩
 ·rename_i hr;rw[if_neg hr,(GM.srvs_M P _).1]at e3;rcases srvs_in hx P.M.length with h1|⟨i,m,hm,ho,hs⟩
  ·exact .inl ⟨_,h1,rfl,rfl,rfl,hold⟩
  ·have hrc:∀k,(GM.srvs P k).rc=P.rc:=fun k=>by
    induction k with
    |zero=>rfl
    |succ k ih=>
     show(GM.srv1 _ k).rc=_;unfold GM.srv1;split
     ·exact ih
     ·split<;>exact ih
   have e5:=congrArg (fun l=>l[i]?) e3;simp only[List.getElem?_map,hm,Option.map_some]at e5;obtain⟨m',hm',he⟩:=Option.map_eq_some_iff.1 e5;have a1:m'.lv=m.lv:=(congrArg Mb.lv he:(GM.cor m').lv=(GM.cor m).lv);have a4:m'.mo=m.mo:=(congrArg Mb.mo he:(GM.cor m').mo=(GM.cor m).mo);have a5:m'.ph=m.ph:=(congrArg Mb.ph he:(GM.cor m').ph=(GM.cor m).ph);have a6:m'.fl=m.fl:=(congrArg Mb.fl he:(GM.cor m').fl=(GM.cor m).fl);unfold GM.opn at ho;simp only[Bool.and_eq_true,Bool.not_eq_true',decide_eq_true_eq]at ho;unfold CC.KM.srv at hs;simp only[Bool.and_eq_true,decide_eq_true_eq]at hs;have hfl:c.fl=m.fl:=hs.1;refine .inr ⟨by rw[hrc];simpa using hr,i,m',hm',a1.trans ho.1,a4.trans ho.2.2.1,a5.trans ho.2.2.2,by rw[a6,hfl],?_⟩;have h2:=hs.2;split at h2
   ·rename_i e;exact .inl (by have e:c.ca= -1:=e;omega)
   ·exact .inr (of_decide_eq_true h2)
theorem tck_st(h:GQ n G)(hn:n<1000)(hb:FF.FC.Bs b)(hl:b.length≤900):(GM.tck G b).2.st=G.st:=by
 rw[show(GM.tck G b).2={GM.tk5 G b with M:=(GM.tck G b).2.M}from(GM.tll_c (G:=GM.tk5 G b) _).1];exact(h.tk5 hn hb hl).2
end
theorem hr_keep{W W2 W3:World}{v:Value}{L:List CC.Cl}(h:CC.RW W2 W.heap.size v L)(k:∀j,W.heap.size≤j→j<W2.heap.size→W3.heap[j]?=W2.heap[j]?):CC.RW W3 W.heap.size v L:=h.keep fun g hg=>k g (h.lt g hg).1 (h.lt g hg).2
theorem _root_.Go.Proofs.YtnkelgdnglaafaaGreat.CC.RW.less{B B':Nat}{W:World}{v:Value}{L:List CC.Cl}(h:CC.RW W B v L)(hB:B'≤B):CC.RW W B' v L:=⟨h.1,h.2.imp id fun⟨g,c,u,h1,h2,h3⟩=>⟨g,c,u,h1,Nat.le_trans hB h2,h3⟩⟩
open Go.RowKit in
theorem row_at{W:World}{B:Nat}{a:Option Addr}{n k i:Nat}{L:List CC.Cl}{c:CC.Cl}(h:CC.RW W B (.slice a n k) L)(hc:L[i]?=some c):∃g,a=some ⟨g,0,none⟩∧W.rangeAt g (i*4) (CC.cv c)∧∀X:World,(Instr.indexAt 38 (.slice a n k) (.int .i64 (i:Int))).run Tryz.prog X=.ok (.pointer (some ⟨g,i*4,none⟩)) X:=by
 have hi:=(List.getElem?_eq_some_iff.1 hc).1;rcases h.form with⟨e1,e2⟩|⟨g,cap,e1,_⟩
 ·rw[e2]at hi;simp at hi
 ·cases e1;have hrg:=h.range hi;rw[(List.getElem?_eq_some_iff.1 hc).2]at hrg;refine⟨g,rfl,hrg,fun X=> ?_⟩;have:=ixCa X (g:=g) (o:=0) (cap:=k) hi;rwa[Nat.zero_add]at this
def mt(c x:CC.Cl):Bool:=((x.fl==c.fl&&x.ca==c.ca)&&x.up==c.up)&&x.ag==c.ag+1
theorem mt_succ{c x:CC.Cl}{L:List CC.Cl}{k:Nat}(h:L[k]?=some x):(L.take (k+1)).any (mt c)=((L.take k).any (mt c)||mt c x):=by
 rw[List.take_add_one,h,List.any_append];simp
theorem mt_in{c:CC.Cl}{L:List CC.Cl}(h:∃y∈L,y.fl=c.fl∧y.ca=c.ca∧y.up=c.up∧y.ag=c.ag+1):L.any (mt c)=true:=by
 obtain⟨y,hy,h1,h2,h3,h4⟩:=h;exact List.any_eq_true.2 ⟨y,hy,by unfold mt;rw[h1,h2,h3,h4];simp⟩
end Go.Proofs.YtnkelgdnglaafaaGreat
