import Derived.Test.YtlajleogofmkcaaGreatQ6
import Derived.OwnWalkIn
import Derived.TacticsInMore
set_option maxHeartbeats 8000000
set_option maxRecDepth 100000
namespace Go.Proofs.YtlajleogofmkcaaGreat
open Go.RowKit Go.Shelf
structure Rvi{α:Type}(M R:List α)(i:Nat):Prop where
 len:R.length=M.length
 out:∀t,t<i∨M.length≤t+i→R[t]?=M.reverse[t]?
 inn:∀t,¬(t<i∨M.length≤t+i)→R[t]?=M[t]?
section
variable {α:Type} {M R:List α} {i:Nat}
theorem Rvi.zero(M:List α):Rvi M M 0:=⟨rfl,fun t h=>by
 have ht:M.length≤t:=by omega
 rw[List.getElem?_eq_none ht,List.getElem?_eq_none (by simpa using ht)],fun _ _=>rfl⟩
theorem Rvi.step(h:Rvi M R i){a b:α}(hi:i+1<M.length-i)(ha:M[i]?=some a)(hb:M[M.length-1-i]?=some b):Rvi M ((R.set i b).set (M.length-1-i) a) (i+1):=by
 have hl:=h.len;refine⟨by rw[List.length_set,List.length_set,hl],fun t ht=> ?_,fun t ht=> ?_⟩
 ·by_cases e1:M.length-1-i=t
  ·subst e1;rw[List.getElem?_set_self (by rw[List.length_set];omega),List.getElem?_reverse (by omega),show M.length-1-(M.length-1-i)=i by omega,ha]
  ·rw[List.getElem?_set_ne e1];by_cases e2:i=t
   ·subst e2;rw[List.getElem?_set_self (by omega),List.getElem?_reverse (by omega),hb]
   ·rw[List.getElem?_set_ne e2];exact h.out t (by omega)
 ·rw[List.getElem?_set_ne (by omega),List.getElem?_set_ne (by omega)];exact h.inn t (by omega)
theorem Rvi.done(h:Rvi M R i)(hi:¬i+1<M.length-i):R=M.reverse:=List.ext_getElem? fun t=>by
 by_cases ht:t<i∨M.length≤t+i
 ·exact h.out t ht
 ·rw[h.inn t ht,List.getElem?_reverse (by omega),show M.length-1-t=t by omega]
theorem Rvi.at(h:Rvi M R i){a:α}(hi:i<M.length-i)(ha:M[i]?=some a):R[i]?=some a:=by rw[h.inn i (by omega),ha]
end
section
variable {s:Sn} {W W':World} {B:Nat} {L:List En}
theorem nrow_set:∀(L:List En) (t:Nat) (e:En),t<L.length→(nrow s L).take (t*136)++e.c s++(nrow s L).drop (t*136+136)=nrow s (L.set t e)
 |[],t,e,h=>by simp at h
 |a::L,0,e,_=>by
  rw[List.set_cons_zero,nrow,nrow,Nat.zero_mul,List.take_zero,List.nil_append,Nat.zero_add,List.drop_left' (En.len s a)]
 |a::L,t+1,e,h=>by
  rw[List.set_cons_succ,nrow,nrow,←nrow_set L t e (by simpa using h)];rw[List.take_append,En.len,List.take_of_length_le (l:=a.c s) (by rw[En.len];omega),show(t+1)*136-136=t*136 by omega,List.drop_append,En.len,show(a.c s).drop ((t+1)*136+136)=[]from List.drop_eq_nil_iff.2 (by rw[En.len];omega),List.nil_append,show(t+1)*136+136-136=t*136+136 by omega];simp only[List.append_assoc]
theorem ON.put{g cap n:Nat}(h:ON s W B (.slice (some ⟨g,0,none⟩) n cap) L){t:Nat}(e:En)(ht:t<L.length):ON s (W.setCells g (t*136) (e.c s)) B (.slice (some ⟨g,0,none⟩) n cap) (L.set t e)∧Kp (fun k=>k=g) W (W.setCells g (t*136) (e.c s))∧(W.setCells g (t*136) (e.c s)).heap.size=W.heap.size:=by
 have hk:∀(vs:List Value) (o:Nat) (w:World),Kp (fun k=>k=g) w (w.setCells g o vs)∧(w.setCells g o vs).heap.size=w.heap.size:=fun vs=>by
  induction vs with
  |nil=>intro o w;exact⟨Kp.refl _ w,rfl⟩
  |cons v vs ih=>
   intro o w;rw[World.setCells];have h2:=ih (o+1) (w.setCell ⟨g,o,none⟩ v);exact⟨((Kp.refl (fun k=>k=g) w).set g o v (fun _=>rfl)).trans h2.1 (fun _ _ h=>h),by rw[h2.2];simp[World.setCell]⟩
 refine⟨?_,hk _ _ _⟩;rcases h.2 with⟨h',_⟩|⟨g',cap',cur,hv,hb,hg,hc,hm,hs,htk⟩
 ·cases h'
 ·cases hv
  have hrow:∀(vs:List Value) (o:Nat) (w:World) (cu:Array Value),w.heap[g]?=some (.cells cu 230 (0,0))→o+vs.length≤cu.size→∃cu':Array Value,(w.setCells g o vs).heap[g]?=some (.cells cu' 230 (0,0))∧cu'.size=cu.size∧cu'.toList=cu.toList.take o++vs++cu.toList.drop (o+vs.length):=fun vs=>by
   induction vs with
   |nil=>intro o w cu hcu _;exact⟨cu,hcu,rfl,by simp⟩
   |cons v vs ih=>
    intro o w cu hcu hle;rw[World.setCells];rw[List.length_cons]at hle;obtain⟨cu',h1,h2,h3⟩:=ih (o+1) (w.setCell ⟨g,o,none⟩ v) (cu.setIfInBounds o v) (heap_setCell_same w g o cu _ v hcu) (by simp;omega);refine⟨cu',h1,by simpa using h2,?_⟩;rw[h3,Array.toList_setIfInBounds,List.length_cons];have ho:o<cu.toList.length:=by rw[Array.length_toList];omega
    rw[List.take_set,List.drop_set_of_lt (by omega),List.take_add_one,List.getElem?_eq_getElem ho];rw[List.set_append_right _ _ (by rw[List.length_take];omega),List.length_take,show o-min o cu.toList.length=0 by omega];simp[Nat.add_assoc,Nat.add_comm 1]
  have hle:t*136+136≤cur.size:=by
   rw[hs];have:(t+1)*136≤cap*136:=Nat.mul_le_mul_right _ (by omega);omega
  obtain⟨cu',h1,h2,h3⟩:=hrow (e.c s) (t*136) W cur hg (by rw[En.len];exact hle);refine⟨by rw[nrow_length],.inr ⟨g,cap,cu',by rw[List.length_set],hb,h1,by rw[List.length_set];exact hc,hm,by rw[h2];exact hs,?_⟩⟩;rw[List.length_set,h3,En.len]
  have ht2:t*136+136≤L.length*136:=by
   have:(t+1)*136≤L.length*136:=Nat.mul_le_mul_right _ (by omega);omega
  rw[←nrow_set L t e ht,←htk];have e1:min (t*136) cur.toList.length=t*136:=by rw[Array.length_toList];omega
  rw[List.take_append,List.take_append,List.take_take,List.length_append,List.length_take,En.len,e1,show min (L.length*136) (t*136)=t*136 by omega];rw[List.take_of_length_le (l:=e.c s) (by rw[En.len];omega),List.take_take,show min (t*136) (L.length*136)=t*136 by omega,List.drop_take]
theorem ON.there{g cap n:Nat}(h:ON s W B (.slice (some ⟨g,0,none⟩) n cap) L){t:Nat}(ht:t<L.length):W.there g (t*136) 136:=fun j hj=>by
 obtain⟨e,he⟩:∃e,L[t]?=some e:=⟨_,List.getElem?_eq_getElem ht⟩;refine⟨?_,h.fr _⟩;obtain⟨v,hv⟩:∃v,(e.c s)[j]?=some v:=⟨_,List.getElem?_eq_getElem (by rw[En.len];exact hj)⟩;rw[h.range he j v hv];rfl
end
theorem ON.store{s:Sn}{W:World}{B:Nat}{L:List En}{g cap n:Nat}(h:ON s W B (.slice (some ⟨g,0,none⟩) n cap) L){t:Nat}(e:En)(ht:t<L.length):∃W',(Instr.storeAt 230 (.pointer (some ⟨g,t*136,none⟩)) (.agg (e.c s).toArray)).run Tryz.prog W=.ok () W'∧ON s W' B (.slice (some ⟨g,0,none⟩) n cap) (L.set t e)∧Kp (fun k=>k=g) W W':=by
 obtain⟨h1,h2,_⟩:=h.put e ht;exact⟨_,run_storeAt_mid W g (t*136) 230 (e.c s).toArray (by rw[List.size_toArray,En.len];exact h.there ht) (by rw[List.size_toArray,En.len];exact infoN) (all_oneCell_toArray (ncl_one _ _ _ _)),h1,h2⟩
theorem ixNo(W:World){g o n cap j:Nat}(hj:j<n):(Instr.indexAt 232 (.slice (some ⟨g,o,none⟩) n cap) (.int .i64 (j:Int))).run Tryz.prog W=.ok (.pointer (some ⟨g,o+j*136,none⟩)) W:=by
 rw[run_indexAt_slice W 232 _ n cap .i64 j (by kernel_rfl),if_pos ⟨by omega,by omega⟩,show Tryz.prog.elem 232=230 by kernel_rfl,Tryz.sizeOf230];simp only[Result.andThen_ok,Int.toNat_natCast,Addr.add_mid]
theorem wpList_ixN{ops:Array Oper}{rest:List Oper}{op:Oper}{a:Act}{w:World}{Q:Exit→Act→World→Prop}(hgd:Region.wanted op (yielded ops a.tmps)=true)(x y:Operand)(ho:op.op=.indexAddr 232 x y)
  {g f n cap j:Nat} (hx:a.eval x=.slice (some ⟨g,f,none⟩) n cap) (hy:a.eval y=.int .i64 (j:Int)) (hj:j<n)
  (h:wpList Tryz.prog ops Q rest (a.put op.dst (.pointer (some ⟨g,f+j*136,none⟩))) w):wpList Tryz.prog ops Q (op::rest) a w:=
 wpList_step fun _ hK=>by
  rw[if_pos hgd];unfold Oper.wp execOp;simp only[ho,Sem.run_bind,Sem.run_pure,Result.andThen_ok,hx,hy,ixNo w hj];exact hK _ _ h
def PthR(s:Sn)(D:Nat→Prop)(W:World):Nat→Option Addr→Int→Nn→Prop
 |0,pa,wt,n=>pa=none∧wt= -1∧n=nd0 s
 |d+1,pa,wt,n=>∃(pa':Option Addr) (wt':Int) (n':Nn) (q:Nat),pa=some ⟨q,0,none⟩∧D q∧NK W q (ncl s pa' wt' n')∧PthR s D W d pa' wt' n'∧
  ((∃w:Nat,wt=(w:Int)∧n=grw n' w∧n'.k<n'.b.length∧n'.st[w]?=some false)∨(wt= -1∧n=nxc n'∧n'.k+1<n'.b.length))
def Pth(s:Sn)(D:Nat→Prop)(W:World)(pa:Option Addr)(wt:Int)(n:Nn)(d:Nat):Prop:=PthR s D W d pa wt n
theorem Pth.root{s:Sn}{D:Nat→Prop}{W:World}:Pth s D W none (-1) (nd0 s) 0:=⟨rfl,rfl,rfl⟩
theorem Pth.grow{s:Sn}{D:Nat→Prop}{W:World}{pa:Option Addr}{wt:Int}{n:Nn}{d q w:Nat}(hd:D q)(hq:NK W q (ncl s pa wt n))(h:Pth s D W pa wt n d)(hk:n.k<n.b.length)(hw:n.st[w]?=some false):Pth s D W (some ⟨q,0,none⟩) (w:Int) (grw n w) (d+1):=
 ⟨pa,wt,n,q,rfl,hd,hq,h,Or.inl ⟨w,rfl,rfl,hk,hw⟩⟩
theorem Pth.next{s:Sn}{D:Nat→Prop}{W:World}{pa:Option Addr}{wt:Int}{n:Nn}{d q:Nat}(hd:D q)(hq:NK W q (ncl s pa wt n))(h:Pth s D W pa wt n d)(hk:n.k+1<n.b.length):Pth s D W (some ⟨q,0,none⟩) (-1) (nxc n) (d+1):=
 ⟨pa,wt,n,q,rfl,hd,hq,h,Or.inr ⟨rfl,rfl,hk⟩⟩
theorem Pth.ways{s:Sn}{D:Nat→Prop}{W:World}{pa:Option Addr}{wt:Int}{n:Nn}{d:Nat}(h:Pth s D W pa wt n d):
  (pa=none∧wt= -1∧n=nd0 s∧d=0)∨
  (∃(pa':Option Addr) (wt':Int) (n':Nn) (d' q w:Nat),pa=some ⟨q,0,none⟩∧wt=(w:Int)∧n=grw n' w∧d=d'+1∧D q∧NK W q (ncl s pa' wt' n')∧Pth s D W pa' wt' n' d'∧n'.k<n'.b.length∧n'.st[w]?=some false)∨
  (∃(pa':Option Addr) (wt':Int) (n':Nn) (d' q:Nat),pa=some ⟨q,0,none⟩∧wt= -1∧n=nxc n'∧d=d'+1∧D q∧NK W q (ncl s pa' wt' n')∧Pth s D W pa' wt' n' d'∧n'.k+1<n'.b.length):=by
 match d,h with
 |0,⟨a,b,c⟩=>exact Or.inl ⟨a,b,c,rfl⟩
 |d+1,⟨pa',wt',n',q,e1,hd,hq,h',Or.inl ⟨w,e2,e3,hk,hw⟩⟩=>exact Or.inr (Or.inl ⟨pa',wt',n',d,q,w,e1,e2,e3,rfl,hd,hq,h',hk,hw⟩)
 |d+1,⟨pa',wt',n',q,e1,hd,hq,h',Or.inr ⟨e2,e3,hk⟩⟩=>exact Or.inr (Or.inr ⟨pa',wt',n',d,q,e1,e2,e3,rfl,hd,hq,h',hk⟩)
theorem Pth.ind{s:Sn}{D:Nat→Prop}{W:World}{P:Option Addr→Int→Nn→Nat→Prop}(h0:P none (-1) (nd0 s) 0)
  (h1:∀(pa:Option Addr) (wt:Int) (n:Nn) (d q w:Nat),D q→NK W q (ncl s pa wt n)→Pth s D W pa wt n d→n.k<n.b.length→n.st[w]?=some false→P pa wt n d→P (some ⟨q,0,none⟩) (w:Int) (grw n w) (d+1))
  (h2:∀(pa:Option Addr) (wt:Int) (n:Nn) (d q:Nat),D q→NK W q (ncl s pa wt n)→Pth s D W pa wt n d→n.k+1<n.b.length→P pa wt n d→P (some ⟨q,0,none⟩) (-1) (nxc n) (d+1)):
  ∀(d:Nat) (pa:Option Addr) (wt:Int) (n:Nn),Pth s D W pa wt n d→P pa wt n d:=by
 intro d
 induction d with
 |zero=>
  intro pa wt n h;obtain⟨rfl,rfl,rfl⟩:=h;exact h0
 |succ d ih=>
  intro pa wt n h;obtain⟨pa',wt',n',q,rfl,hd,hq,h',⟨w,rfl,rfl,hk,hw⟩|⟨rfl,rfl,hk⟩⟩:=h
  ·exact h1 pa' wt' n' d q w hd hq h' hk hw (ih pa' wt' n' h')
  ·exact h2 pa' wt' n' d q hd hq h' hk (ih pa' wt' n' h')
section
variable {s:Sn} {D D':Nat→Prop} {W W':World} {pa:Option Addr} {wt:Int} {n:Nn} {d:Nat}
theorem Pth.keep(h:Pth s D W pa wt n d)(hk:∀g,D g→g<W.heap.size→W'.heap[g]?=W.heap[g]?):Pth s D W' pa wt n d:=by
 refine Pth.ind (P:=fun pa wt n d=>Pth s D W' pa wt n d) ?_ ?_ ?_ d pa wt n h
 ·exact .root
 ·intro _ _ _ _ _ _ hd hq _ hk' hw ih;exact .grow hd (hq.keep (hk _ hd hq.lt)) ih hk' hw
 ·intro _ _ _ _ _ hd hq _ hk' ih;exact .next hd (hq.keep (hk _ hd hq.lt)) ih hk'
theorem Pth.mono(h:Pth s D W pa wt n d)(hD:∀g,D g→g<W.heap.size→D' g):Pth s D' W pa wt n d:=by
 refine Pth.ind (P:=fun pa wt n d=>Pth s D' W pa wt n d) ?_ ?_ ?_ d pa wt n h
 ·exact .root
 ·intro _ _ _ _ _ _ hd hq _ hk' hw ih;exact .grow (hD _ hd hq.lt) hq ih hk' hw
 ·intro _ _ _ _ _ hd hq _ hk' ih;exact .next (hD _ hd hq.lt) hq ih hk'
theorem Pth.below'(h:Pth s D W pa wt n d)(hb:Below W.heap.size W W'):Pth s D W' pa wt n d:=h.keep fun g _ hl=>hb.block g hl
theorem Pth.len(h:Pth s D W pa wt n d):n.b.length=s.cs.length:=by
 refine Pth.ind (P:=fun _ _ n _=>n.b.length=s.cs.length) ?_ ?_ ?_ d pa wt n h
 ·simp[nd0]
 ·intro _ _ _ _ _ _ _ _ _ _ _ ih;unfold grw PM.add;simp only;rw[List.length_set];exact ih
 ·intro _ _ _ _ _ _ _ _ _ ih;exact ih
end
structure Gat(s:Sn)(b p:List (List Int))(m:List (List Int)):Prop where
 pl:p.length=s.cs.length
 bl:b.length=s.cs.length
 ml:m.length=s.cs.length
 eq:∀(c:Nat),c<s.cs.length→p[c]?.getD []++(m[c]?.getD []).reverse=(b[c]?.getD []).reverse
section
variable {s:Sn} {b p m:List (List Int)}
theorem Gat.start(h:b.length=s.cs.length):Gat s b (List.replicate s.cs.length []) b:=⟨by simp,h,h,fun c hc=>by rw[List.getElem?_replicate,if_pos hc];rfl⟩
theorem Gat.add{k:Nat}{w:Int}(h:Gat s b p (PM.add m k w))(hk:k<m.length):Gat s b (PM.add p k w) m:=by
 have hml:m.length=s.cs.length:=by have:=h.ml;unfold PM.add at this;rwa[List.length_set]at this
 refine⟨by unfold PM.add;rw[List.length_set];exact h.pl,h.bl,hml,fun c hc=> ?_⟩;have:=h.eq c hc;rw[←this];unfold PM.add;by_cases e:k=c
 ·subst e;rw[List.getElem?_set_self (by rw[h.pl];omega),List.getElem?_set_self hk];simp
 ·rw[List.getElem?_set_ne e,List.getElem?_set_ne e]
theorem Gat.done(h:Gat s b p (List.replicate s.cs.length [])):p.map List.reverse=b:=List.ext_getElem? fun c=>by
 by_cases hc:c<s.cs.length
 ·have:=h.eq c hc;rw[List.getElem?_replicate,if_pos hc]at this;obtain⟨l,hl⟩:∃l,p[c]?=some l:=⟨_,List.getElem?_eq_getElem (by rw[h.pl];exact hc)⟩;obtain⟨l',hl'⟩:∃l,b[c]?=some l:=⟨_,List.getElem?_eq_getElem (by rw[h.bl];exact hc)⟩;rw[hl,hl']at this;simp at this;rw[List.getElem?_map,hl,hl',this];simp
 ·rw[List.getElem?_eq_none (by rw[List.length_map,h.pl];omega),List.getElem?_eq_none (by rw[h.bl];omega)]
end
section
variable {W W':World} {B g:Nat} {us:List Value} {p:List (List Int)}
theorem OW.turn(h:OW W B g us p){c:Nat}{u:Value}{l l':List Int}(hu:us[c]?=some u)(hl:p[c]?=some l)(hk:Kp (fun k=>u.ownBlock=some k) W W')(ho:OI W' B u l'):OW W' B g us (p.set c l'):=by
 have hcp:c<p.length:=(List.getElem?_eq_some_iff.1 hl).1;refine⟨(hk.block g h.lt (fun e=>h.ne c u hu e)).trans h.hl,by rw[List.length_set];exact h.len,fun d v m hv hm=> ?_,h.bg,h.ne,h.dj⟩;by_cases e:c=d
 ·subst e;rw[List.getElem?_set_self hcp]at hm;cases hm;rw[hu]at hv;cases hv;exact ho
 ·rw[List.getElem?_set_ne e]at hm;exact(h.li d v m hv hm).keep fun k hk'=>hk.block k ((h.li d v m hv hm).lt k hk').2 (fun e'=>e (h.dj c d u v k hu hv e' hk'))
end
structure Lk(D:Nat→Prop)(W wr:World)(s:Sn)(b:List (List Int))(g:Nat)(us:List Value)(p:List (List Int)):Prop where
 ow:OW wr (W.heap.size+1) g us p
 bel:Below W.heap.size W wr
 kb:W.heap.size+1≤wr.heap.size
def Nxt(D:Nat→Prop)(W wr:World)(s:Sn)(b p:List (List Int))(v:Value)(dd:Nat):Prop:=
 (v=.pointer none∧dd=0∧p.map List.reverse=b)∨
 ∃(ab d:Nat) (e:En),v=.pointer (some ⟨ab,0,none⟩)∧dd=d+1∧NK wr ab (e.c s)∧ab<W.heap.size+1∧Pth s D W e.pa e.wt e.nd d∧Gat s b p e.nd.b∧e.nd.k<s.cs.length
theorem Nxt.nil{D:Nat→Prop}{W wr:World}{s:Sn}{b p:List (List Int)}(h:p.map List.reverse=b):Nxt D W wr s b p (.pointer none) 0:=Or.inl ⟨rfl,rfl,h⟩
theorem Nxt.node{D:Nat→Prop}{W wr:World}{s:Sn}{b p:List (List Int)}{ab d:Nat}{e:En}(nk:NK wr ab (e.c s))(hab:ab<W.heap.size+1)(h:Pth s D W e.pa e.wt e.nd d)(g:Gat s b p e.nd.b)(hk:e.nd.k<s.cs.length):Nxt D W wr s b p (.pointer (some ⟨ab,0,none⟩)) (d+1):=
 Or.inr ⟨ab,d,e,rfl,rfl,nk,hab,h,g,hk⟩
section
variable {D:Nat→Prop} {W:World} {tb d:Nat} {s:Sn} {vc vw vb:Value} {e:En}
end
attribute [local go_sem] Oper.semAt_some
structure PI(s:Sn)(Z:World)(B b4:Nat)(v:Value)(L:List En)(pre:List En)(F:Nat→Prop)(A:World):Prop where
 kb:KB Z (fun k=>k=b4∨v.ownBlock=some k) F A
 lt:b4<Z.heap.size
 fl:∀k,F k→k<A.heap.size
 ex:∃u,A.heap[b4]?=some (.cells #[u] 232 (0,0))∧ON s A B u (L++pre)∧(u.ownBlock=v.ownBlock∨∀g,u.ownBlock=some g→Z.heap.size≤g)∧(∀g,u.ownBlock=some g→¬F g)
theorem PI.add{s:Sn}{Z A A2:World}{B b4:Nat}{v u:Value}{L pre:List En}{F G:Nat→Prop}(h:PI s Z B b4 v L pre F A)(hv:∀g,v.ownBlock=some g→g<b4)(hG:∀k,G k→k<Z.heap.size∧k≠b4∧v.ownBlock≠some k)(h1:A.heap[b4]?=some (.cells #[u] 232 (0,0)))(h3:u.ownBlock=v.ownBlock∨∀g,u.ownBlock=some g→Z.heap.size≤g)(h4:∀g,u.ownBlock=some g→¬F g)
  {x:En} {g' n cap:Nat} (o:Obj) (hg:(A.alloc o).grownBy A2 u.ownBlock) (hor:u.ownBlock=some g'∨g'=(A.alloc o).heap.size) (hO:ON s A2 B (.slice (some ⟨g',0,none⟩) n cap) (L++pre++[x])):
  PI s Z B b4 v L (pre++[x]) F (A2.setCell ⟨b4,0,none⟩ (.slice (some ⟨g',0,none⟩) n cap))∧Kept (fun k=>F k∨G k) A (A2.setCell ⟨b4,0,none⟩ (.slice (some ⟨g',0,none⟩) n cap)):=by
 have hlt:=h.lt;have hzs:=h.kb.1.size
 have hub:u.ownBlock≠some b4:=fun e=>by
  rcases h3 with e2|e2
  ·have:=hv b4 (e2.symm.trans e);omega
  ·have:=e2 b4 e;omega
 have hgA:∀k,k<A.heap.size→u.ownBlock≠some k→A2.heap[k]?=A.heap[k]?:=fun k hk hne=>(hg.block k (by simp;omega) (fun e=>hne e.symm)).trans (Below.heap_alloc _ _ _ hk);have hz2:A.heap.size≤A2.heap.size:=by have:=hg.size;simp at this;omega
 have keep:∀k,k≠b4→(A2.setCell ⟨b4,0,none⟩ (.slice (some ⟨g',0,none⟩) n cap)).heap[k]?=A2.heap[k]?:=fun k hk=>Below.heap_setCell A2 ⟨b4,0,none⟩ _ k hk;have hb4:A2.heap[b4]?=some (.cells #[u] 232 (0,0)):=(hgA b4 (by omega) hub).trans h1
 have hg'b:g'≠b4:=fun e=>by
  subst e;rcases hor with e|e
  ·exact hub e
  ·simp at e;omega
 have hkp:Kp (fun k=>k=b4∨u.ownBlock=some k) A (A2.setCell ⟨b4,0,none⟩ (.slice (some ⟨g',0,none⟩) n cap)):=
  (((Kp.refl (fun k=>k=b4∨u.ownBlock=some k) A).alloc o).grown hg (fun k _ e=>.inr e)).set b4 0 _ (fun _=>.inl rfl)
 refine⟨⟨⟨h.kb.1.trans hkp (fun k hk e=> ?_),h.kb.2⟩,hlt,fun k hf=>Nat.lt_of_lt_of_le (h.fl k hf) hkp.size,.slice (some ⟨g',0,none⟩) n cap,?_,?_,?_,?_⟩,Kept.ofKp hkp (fun k hk hf e=> ?_)⟩
 ·rcases e with e|e
  ·exact .inl e
  ·rcases h3 with e2|e2
   ·exact .inr (e2.symm.trans e)
   ·have:=e2 k e;omega
 ·exact blk_set (C:=[u]) hb4 0 _
 ·rw[←List.append_assoc];exact hO.keep fun g hg2=>by cases hg2;exact keep g' hg'b
 ·rcases hor with e|e
  ·rcases h3 with e2|e2
   ·left;rw[←e2,e];rfl
   ·right;intro g hg2;have hgg:g'=g:=by simpa[Value.ownBlock]using hg2
    subst hgg;exact e2 g' e
  ·right;intro g hg2;have hgg:g'=g:=by simpa[Value.ownBlock]using hg2
   subst hgg;simp at e;omega
 ·intro g hg2 hf;have hgg:g'=g:=by simpa[Value.ownBlock]using hg2
  subst hgg;rcases hor with e|e
  ·exact h4 g' e hf
  ·have:=h.fl g' hf;simp at e;omega
 ·rcases hf with hf|hf
  ·rcases e with e|e
   ·rw[e]at hf;exact h.kb.2 b4 hlt hf
   ·exact h4 k e hf
  ·have hk2:=hG k hf;rcases e with e|e
   ·exact hk2.2.1 e
   ·rcases h3 with e2|e2
    ·exact hk2.2.2 (e2.symm.trans e)
    ·have:=e2 k e;omega
theorem PI.fin{s:Sn}{W Z A A3:World}{B q Dd:Nat}{v u:Value}{L M:List En}{F:Nat→Prop}{cs:List Value}(h:PI s Z B W.heap.size v L M F A)(hv:∀g,v.ownBlock=some g→g<W.heap.size)(h3:u.ownBlock=v.ownBlock∨∀g,u.ownBlock=some g→Z.heap.size≤g)(h4:∀g,u.ownBlock=some g→¬F g)
  (hD:Z.heap.size≤Dd) (hF:F Dd) (hk3:Kp (fun k=>u.ownBlock=some k) A A3) (hO:ON s A3 B u (L++M.reverse)) (hq:NK Z q cs) (hqb:W.heap.size<q) (hb:Below W.heap.size W Z):
  NK (A3.putObj Dd (.deferred none)) q cs∧ON s (A3.putObj Dd (.deferred none)) B u (L++M.reverse)∧(u.ownBlock=v.ownBlock∨∀g,u.ownBlock=some g→W.heap.size≤g)∧u.ownBlock≠some q∧Kp (fun k=>v.ownBlock=some k) W (A3.putObj Dd (.deferred none)):=by
 have hqz:=hq.lt;have hzs:=h.kb.1.size;have hws:=hb.size
 have huq:∀k,W.heap.size≤k→k<Z.heap.size→u.ownBlock≠some k:=fun k hk1 hk2 e=>by
  rcases h3 with e2|e2
  ·have:=hv k (e2.symm.trans e);omega
  ·have:=e2 k e;omega
 have hkA:Kp (fun k=>k=W.heap.size∨v.ownBlock=some k) Z (A3.putObj Dd (.deferred none)):=
  ((h.kb.1.trans hk3 (fun k hk e=>by
   rcases h3 with e2|e2
   ·exact .inr (e2.symm.trans e)
   ·have:=e2 k e;omega)).put Dd _ (fun hlt=>by omega))
 refine⟨hq.kp hkA (fun e=> ?_),hO.keep fun g hg=>World.putObj_heap_other (fun e=>h4 g hg (e▸hF)),?_,huq q (by omega) hqz,?_⟩
 ·rcases e with e|e
  ·omega
  ·have:=hv q e;omega
 ·rcases h3 with e|e
  ·exact .inl e
  ·exact .inr fun g hg=>by have:=e g hg;omega
 ·exact(Kp.ofBelow (fun k=>v.ownBlock=some k) hb).trans hkA (fun k hk e=>by
   rcases e with e|e
   ·omega
   ·exact e)
section
variable {D:Nat→Prop} {W:World} {tb B:Nat} {s:Sn} {vc vw vb v:Value} {e:En} {L:List En}
end
end Go.Proofs.YtlajleogofmkcaaGreat
namespace Go.Proofs.YtlajleogofmkcaaGreat
open Go.RowKit Go.Shelf
theorem TR.time{D:Nat→Prop}{W:World}{tb:Nat}{s:Sn}{vc vw vb:Value}(h:TR D W tb s vc vw vb){k j:Nat}{y:Int×Int}(hk:k<s.cs.length)(hy:s.ws[j]?=some y):
  ∃g o cap,vb=.slice (some ⟨g,o,none⟩) s.cs.length cap∧∃g' o' cap',W.cell? ⟨g,o+k,none⟩=some (.slice (some ⟨g',o',none⟩) s.ws.length cap')∧W.cell? ⟨g',o'+j,none⟩=some (.int .i64 (alo s (k+1) y)):=by
 obtain⟨a,cap,rfl,_,_⟩:=h.bh.form;obtain⟨g,o,rfl,u,hu,hri⟩:=h.bh.at (bhd_get s hk);rw[bhd_length];obtain⟨a',cap',rfl,_,_⟩:=hri.form;obtain⟨g',o',rfl,hc⟩:=hri.at (i:=j) (y:=alo s (k+1) y) (by rw[List.getElem?_map,hy];rfl);rw[List.length_map]at hu;exact⟨g,o,cap,rfl,g',o',cap',hu,hc⟩
structure Lq(D:Nat→Prop)(W wr:World)(tb:Nat)(s:Sn)(vc vw vb:Value)(e:En):Prop where
 tr:TR D wr tb s vc vw vb
 nk:NK wr W.heap.size (e.c s)
 bel:Below W.heap.size W wr
theorem Lq.next{D:Nat→Prop}{W wr w':World}{tb:Nat}{s:Sn}{vc vw vb:Value}{e:En}(h:Lq D W wr tb s vc vw vb e)(hb:Below wr.heap.size wr w'):Lq D W w' tb s vc vw vb e:=⟨h.tr.below' hb,h.nk.below' hb,below_class h.bel hb⟩
theorem En.cell1(s:Sn)(e:En):(e.c s)[1]?=some (.int .i64 (e.nd.k:Int)):=rfl
section
variable {D:Nat→Prop} {W:World} {tb:Nat} {s:Sn} {vc vw vb:Value} {e:En}
end
theorem mkBh(n:Nat)(hn:n≤1000)(W:World):(Instr.makeSlice 149 (.int .i64 (n:Int)) (.int .i64 (n:Int))).run Tryz.prog W=.ok (.slice (some ⟨W.heap.size,0,none⟩) n n) (W.alloc (.cells (List.replicate n (Value.slice none 0 0)).toArray 52)):=by
 obtain⟨i,hi,h1,h2,h3⟩:=info_h infoHL
 have:=run_make (P:=Tryz.prog) W 149 52 i _ Tryz.underlying149 hi h1 .i64 .i64 (n:Int) (n:Int) (by omega) (by omega) (by
  have:(i.bytes:Int)*(n:Int)≤24*1000:=Int.mul_le_mul (by omega) (by omega) (by omega) (by omega)
  omega) (by omega)
 rw[this,h2,Int.toNat_natCast,made_one _ rfl,Nat.mul_one]
theorem wpOp_loadRs{ops:Array Oper}{Q:Exit→Act→World→Prop}{i:Nat}{o:Oper}{K:Act→World→Prop}{a:Act}{w:World}(hi:ops[i]?=some o)(hw:Region.wanted o (yielded ops a.tmps)=true)(x:Operand)(ho:o.op=.load 143 x)
  (b f:Nat) (v:Value) (hx:a.eval x=.pointer (some ⟨b,f,none⟩)) (hr:w.cell? ⟨b,f,none⟩=some v) (h:K (a.put o.dst v) w):wpOp Tryz.prog ops Q i K a w:=
 wpOp_val hi hw (by unfold execOp;simp only[ho,Sem.run_bind,Sem.run_pure,Result.andThen_ok,hx,loadRs w b f v hr]) h
theorem wpOp_mkB{ops:Array Oper}{Q:Exit→Act→World→Prop}{i:Nat}{o:Oper}{K:Act→World→Prop}{a:Act}{w:World}(hi:ops[i]?=some o)(hw:Region.wanted o (yielded ops a.tmps)=true)(x y:Operand)(ho:o.op=.makeSlice 149 x y)
  (n:Nat) (hn:n≤1000) (hx:a.eval x=.int .i64 (n:Int)) (hy:a.eval y=.int .i64 (n:Int)) (h:K (a.put o.dst (.slice (some ⟨w.heap.size,0,none⟩) n n)) (w.alloc (.cells (Array.replicate n (Value.slice none 0 0)) 52))):wpOp Tryz.prog ops Q i K a w:=
 wpOp_val hi hw (by unfold execOp;simp only[ho,Sem.run_bind,Sem.run_pure,Result.andThen_ok,hx,hy,mkBh n hn w,List.toArray_replicate]) h
theorem built_tree(s:St)(vc vw:Value)(a:Option Addr)(n c:Nat):Tryz.prog.built 237 [(0,.agg (nv s vc vw).toArray),(1,.slice a n c)]=some (tcl s vc vw (.slice a n c)).toArray:=by kernel_rfl
structure Tn(W wr:World)(s:Sn)(vc vw:Value)(us:List Value)(rows:List (List Int)):Prop where
 nb:NB wr W.heap.size s.st vc vw
 tb:wr.heap[W.heap.size+1+1]?=some (.cells (tcl s.st vc vw (.slice (some ⟨W.heap.size+1,0,none⟩) s.cs.length s.cs.length)).toArray 237 (0,0))
 ow:OW wr (W.heap.size+1) (W.heap.size+1) us rows
 nt:∀(c:Nat) u,us[c]?=some u→u.ownBlock≠some (W.heap.size+1+1)
 bel:Below W.heap.size W wr
section
variable {W wr w':World} {s:Sn} {vc vw:Value} {us:List Value} {rows:List (List Int)}
theorem Tn.next(h:Tn W wr s vc vw us rows)(hb:Below wr.heap.size wr w'):Tn W w' s vc vw us rows:=⟨h.nb.below' hb,(hb.block _ (Array.getElem?_eq_some_iff.1 h.tb).1).trans h.tb,h.ow.next hb,h.nt,below_class h.bel hb⟩
theorem Tn.c15(h:Tn W wr s vc vw us rows):wr.cell? ⟨W.heap.size+1+1,15,none⟩=some (.slice (some ⟨W.heap.size+1,0,none⟩) s.cs.length s.cs.length):=blk_cell h.tb 15
theorem Tn.lay(h:Tn W wr s vc vw us rows){c:Nat}{u':Value}{l:List Int}(hcp:c<rows.length)(hb:Below wr.heap.size wr w')(hf:∀q,u'.ownBlock=some q→wr.heap.size≤q)(ho:OI w' (W.heap.size+1) u' l):Tn W (w'.setCell ⟨W.heap.size+1,c,none⟩ u') s vc vw (us.set c u') (rows.set c l):=by
 have h1:=h.next hb;have htl:=(Array.getElem?_eq_some_iff.1 h.tb).1;have hcl:c<us.length:=by rw[h.ow.len];exact hcp
 refine⟨?_,?_,h.ow.put hcp hb hf ho,fun d v hv=> ?_,h1.bel.setCell (p:=⟨W.heap.size+1,c,none⟩) (by show W.heap.size≤W.heap.size+1;omega) _⟩
 ·unfold NB;rw[Below.heap_setCell w' ⟨W.heap.size+1,c,none⟩ _ _ (by show W.heap.size≠W.heap.size+1;omega)];exact h1.nb
 ·rw[Below.heap_setCell w' ⟨W.heap.size+1,c,none⟩ _ _ (by show W.heap.size+1+1≠W.heap.size+1;omega)];exact h1.tb
 ·by_cases e:c=d
  ·subst e;rw[List.getElem?_set_self hcl]at hv;cases hv;exact fun e=>by have:=hf _ e;omega
  ·rw[List.getElem?_set_ne e]at hv;exact h.nt d v hv
theorem Tn.put(h:Tn W wr s vc vw us rows){c:Nat}{gl n cap:Nat}{l:List Int}(hu:us[c]?=some (.slice (some ⟨gl,0,none⟩) n cap))(hl:rows[c]?=some l)(j:Nat)(v:Int):Tn W (wr.setCell ⟨gl,j,none⟩ (.int .i64 v)) s vc vw us (rows.set c (l.set j v)):=by
 have ou:=h.ow.li c _ l hu hl;have hlt:=ou.lt gl rfl;have hne:gl≠W.heap.size+1+1:=fun e=>h.nt c _ hu (by rw[←e];rfl);have hk:Kp (fun k=>(Value.slice (some ⟨gl,0,none⟩) n cap).ownBlock=some k) wr (wr.setCell ⟨gl,j,none⟩ (.int .i64 v)):=(Kp.refl _ wr).set gl j _ (fun _=>rfl);refine⟨h.nb.kp hk (fun e=> ?_),(hk.block _ (Array.getElem?_eq_some_iff.1 h.tb).1 (fun e=> ?_)).trans h.tb,h.ow.turn hu hl hk (ou.put j v),h.nt,hk.below h.bel h.bel.size (fun i hi e=> ?_)⟩
 ·have e2:gl=W.heap.size:=by simpa[Value.ownBlock]using e
  omega
 ·have e2:gl=W.heap.size+1+1:=by simpa[Value.ownBlock]using e
  exact hne e2
 ·have e2:gl=i:=by simpa[Value.ownBlock]using e
  omega
end
def bhk(s:Sn)(c:Nat):List (List Int):=(bhd s).take c++List.replicate (s.cs.length-c) []
def bhj(s:Sn)(c j:Nat):List Int:=((s.ws.take j).map fun y=>alo s (c+1) y)++List.replicate (s.ws.length-j) 0
theorem bhk_zero(s:Sn):bhk s 0=List.replicate s.cs.length []:=by unfold bhk;simp
theorem bhk_end(s:Sn):bhk s s.cs.length=bhd s:=by
 unfold bhk;rw[List.take_of_length_le (by rw[bhd_length];exact Nat.le_refl _),Nat.sub_self];simp
theorem bhk_length{s:Sn}{c:Nat}(h:c≤s.cs.length):(bhk s c).length=s.cs.length:=by unfold bhk;simp[bhd_length];omega
theorem bhk_succ{s:Sn}{c:Nat}(h:c<s.cs.length):(bhk s c).set c (s.ws.map fun y=>alo s (c+1) y)=bhk s (c+1):=by
 unfold bhk;rw[List.set_append_right _ _ (by rw[List.length_take,bhd_length];omega),List.length_take,bhd_length,show c-min c s.cs.length=0 by omega,show s.cs.length-c=(s.cs.length-(c+1))+1 by omega,List.replicate_succ,List.set_cons_zero,take_snoc (bhd_get s h),List.append_assoc]
 rfl
theorem bhj_zero(s:Sn)(c:Nat):bhj s c 0=List.replicate s.ws.length 0:=by unfold bhj;simp
theorem bhj_end(s:Sn)(c:Nat):bhj s c s.ws.length=s.ws.map fun y=>alo s (c+1) y:=by unfold bhj;simp
def Dw(r0 rb:Nat)(vm vo:Value)(g:Nat):Prop:=(g≠rb∧g≠r0)∧vm.ownBlock≠some g∧vo.ownBlock≠some g
structure Mw(rb:Nat)(vm vo vm' vo':Value)(w w':World):Prop where
 kp:Kp (fun i=>i=rb∨vm.ownBlock=some i∨vo.ownBlock=some i) w w'
 om:vm'.ownBlock=vm.ownBlock∨∀g,vm'.ownBlock=some g→w.heap.size≤g
 oo:vo'.ownBlock=vo.ownBlock∨∀g,vo'.ownBlock=some g→w.heap.size≤g
section
variable {r0 rb:Nat} {vm vo vm' vo':Value} {w w':World}
theorem Mw.below(h:Below w.heap.size w w'):Mw rb vm vo vm vo w w':=⟨Kp.ofBelow _ h,.inl rfl,.inl rfl⟩
theorem Mw.dn(h:Mw rb vm vo vm' vo' w w'){g:Nat}(hg:Dw r0 rb vm vo g)(hlt:g<w.heap.size):Dw r0 rb vm' vo' g:=
 ⟨hg.1,fun e=>by
  rcases h.om with o|o
  ·exact hg.2.1 (o.symm.trans e)
  ·have:=o g e;omega,fun e=>by
  rcases h.oo with o|o
  ·exact hg.2.2 (o.symm.trans e)
  ·have:=o g e;omega⟩
theorem Mw.block(h:Mw rb vm vo vm' vo' w w'){g:Nat}(hg:Dw r0 rb vm vo g)(hlt:g<w.heap.size):w'.heap[g]?=w.heap[g]?:=h.kp.block g hlt (fun e=>e.elim hg.1.1 (fun e=>e.elim hg.2.1 hg.2.2))
theorem Mw.rl(h:Mw rb vm vo vm' vo' w w'){v:Value}{p:List (List Int)}(hp:RL (Dw r0 rb vm vo) w v p):RL (Dw r0 rb vm' vo') w' v p:=
 RL.keep (hp.mono (D':=fun g=>Dw r0 rb vm' vo' g∧Dw r0 rb vm vo g) (fun _ hg hlt _=>⟨h.dn hg hlt,hg⟩)) h.kp.size (fun _ hg hlt=>h.block hg.2 hlt)|>.mono fun _ hg _ _=>hg.1
theorem Mw.tr(h:Mw rb vm vo vm' vo' w w'){tb:Nat}{s:Sn}{vc vw vb:Value}(hp:TR (Dw r0 rb vm vo) w tb s vc vw vb):TR (Dw r0 rb vm' vo') w' tb s vc vw vb:=
 TR.keep (hp.mono (D':=fun g=>Dw r0 rb vm' vo' g∧Dw r0 rb vm vo g) (fun _ hg hlt=>⟨h.dn hg hlt,hg⟩)) h.kp.size (fun _ hg hlt=>h.block hg.2 hlt)|>.mono fun _ hg _=>hg.1
theorem Mw.pth(h:Mw rb vm vo vm' vo' w w'){s:Sn}{pa:Option Addr}{wt:Int}{n:Nn}{d:Nat}(hp:Pth s (Dw r0 rb vm vo) w pa wt n d):Pth s (Dw r0 rb vm' vo') w' pa wt n d:=
 Pth.mono (Pth.keep (hp.mono (D':=fun g=>Dw r0 rb vm' vo' g∧Dw r0 rb vm vo g) (fun _ hg hlt=>⟨h.dn hg hlt,hg⟩)) (fun _ hg hlt=>h.block hg.2 hlt)) fun _ hg _=>hg.1
end
def rcl(vp:Value)(co:Int)(ok:Bool)(n:Int)(pf:Value):List Value:=[vp,.int .i64 co,.bool ok,.int .i64 n,pf]
structure Vi(r0:Nat)(W wr:World)(rb tb:Nat)(s:Sn)(vc vw vb vp vm vo:Value)(x:Sx)(st:List En):Prop where
 rs:wr.heap[rb]?=some (.cells (rcl vp x.cost true 0 (.slice none 0 0)).toArray 152 (0,0))
 rl:RL (Dw r0 rb vm vo) wr vp x.plan
 tr:TR (Dw r0 rb vm vo) wr tb s vc vw vb
 ms:OY wr W.heap.size vm x.marks
 op:ON s wr W.heap.size vo st
 mo:∀g,vm.ownBlock=some g→vo.ownBlock≠some g
 pt:∀e∈st,e.nd.ok s∧∃d,Pth s (Dw r0 rb vm vo) wr e.pa e.wt e.nd d
 kp:Kp (fun k=>k=rb) W wr
 lt:rb<W.heap.size
 l0:r0<W.heap.size
section
variable {W wr w':World} {r0 rb tb:Nat} {s:Sn} {vc vw vb vp vm vo:Value} {x:Sx} {st:List En}
theorem Vi.rlt(h:Vi r0 W wr rb tb s vc vw vb vp vm vo x st):rb<wr.heap.size:=(Array.getElem?_eq_some_iff.1 h.rs).1
theorem Vi.next(h:Vi r0 W wr rb tb s vc vw vb vp vm vo x st)(hb:Below wr.heap.size wr w'):Vi r0 W w' rb tb s vc vw vb vp vm vo x st:=
 ⟨(hb.block rb h.rlt).trans h.rs,h.rl.below' hb,h.tr.below' hb,h.ms.below' hb,h.op.below' hb,h.mo,fun e he=>⟨(h.pt e he).1,(h.pt e he).2.imp fun _ hp=>hp.below' hb⟩,h.kp.thenBelow hb,h.lt,h.l0⟩
theorem Vi.cell(h:Vi r0 W wr rb tb s vc vw vb vp vm vo x st)(i:Nat):wr.cell? ⟨rb,i,none⟩=(rcl vp x.cost true 0 (.slice none 0 0))[i]?:=blk_cell h.rs i
theorem Vi.fr(h:Vi r0 W wr rb tb s vc vw vb vp vm vo x st)(i:Nat):wr.frozen? ⟨rb,i,none⟩=false:=blk_fr h.rs i
theorem Vi.pop{e:En}{g n cap:Nat}(h:Vi r0 W wr rb tb s vc vw vb vp vm (.slice (some ⟨g,0,none⟩) n cap) x (st++[e])):Vi r0 W wr rb tb s vc vw vb vp vm (.slice (some ⟨g,0,none⟩) st.length cap) x st:=
 ⟨h.rs,h.rl,h.tr,h.ms,h.op.pop,h.mo,fun e he=>h.pt e (by simp[he]),h.kp,h.lt,h.l0⟩
theorem Vi.mark(h:Vi r0 W wr rb tb s vc vw vb vp vm vo x st){vm':Value}{m n:Nat}(hg:wr.grownBy w' vm.ownBlock){q:Nat}(hq:vm'.ownBlock=some q)(hor:vm.ownBlock=some q∨q=wr.heap.size)(ho:OY w' W.heap.size vm' (x.marks++[m])):
  Vi r0 W w' rb tb s vc vw vb vp vm' vo ⟨n,x.ended,x.plan,x.cost,x.marks++[m]⟩ st:=by
 have hmr:vm.ownBlock≠some rb:=fun e=>by have:=(h.ms.lt rb e).1;have:=h.lt;omega
 have hmw:Mw rb vm vo vm' vo wr w':=by
  refine⟨(Kp.refl _ wr).grown hg (fun k _ e=>.inr (.inl e)),?_,.inl rfl⟩;rcases hor with e|e
  ·exact .inl (hq.trans e.symm)
  ·refine .inr fun g eg=> ?_;rw[hq]at eg;cases eg;omega
 refine⟨(hg.block rb h.rlt (fun e=>hmr e.symm)).trans h.rs,hmw.rl h.rl,hmw.tr h.tr,ho,h.op.keep fun g hg'=>hg.block g (h.op.lt g hg').2 (fun e=>h.mo g e.symm hg'),fun g eg e2=> ?_,fun e he=>⟨(h.pt e he).1,(h.pt e he).2.imp fun _ hp=>hmw.pth hp⟩,?_,h.lt,h.l0⟩
 ·rw[hq]at eg;cases eg;rcases hor with e|e
  ·exact h.mo q e e2
  ·have:=(h.op.lt q e2).2;omega
 ·exact h.kp.grown hg (fun k hk e=>by have:=(h.ms.lt k e).1;omega)
theorem che_pth{D:Nat→Prop}{wr:World}{e:En}{q d:Nat}(ok:e.nd.ok s)(hq:NK wr q (e.c s))(hd:D q)(h:Pth s D wr e.pa e.wt e.nd d):∀c∈che s e q,c.nd.ok s∧∃d,Pth s D wr c.pa c.wt c.nd d:=fun c hc=>by
 have hmem:∀j,j≤s.ws.length→∀c∈cke s e q j,∃w:Nat,w<j∧e.nd.st[w]?=some false∧mayk s e.nd.k (w:Int)=true∧c=e.grw q w:=by
  intro j
  induction j with
  |zero=>intro _ c hc;simp[cke]at hc
  |succ j ih=>
   intro hj c hc;rw[cke,List.mem_append]at hc;rcases hc with hc|hc
   ·obtain⟨w,h1,h2⟩:=ih (by omega) c hc;exact⟨w,by omega,h2⟩
   ·split at hc
    ·rename_i hh;rw[List.mem_singleton]at hc;exact⟨j,by omega,hh.1,hh.2,hc⟩
    ·cases hc
 unfold che at hc;rw[List.mem_append]at hc;rcases hc with hc|hc
 ·obtain⟨w,h1,h2,h3,rfl⟩:=hmem _ (Nat.le_refl _) c hc;exact⟨ok.grw h1 h2 h3,d+1,.grow hd hq h ok.kl h2⟩
 ·split at hc
  ·rename_i hk;rw[List.mem_singleton]at hc;subst hc;exact⟨ok.nxc (by rw[ok.bl];exact hk),d+1,.next hd hq h (by rw[ok.bl];exact hk)⟩
  ·cases hc
theorem Vi.push(h:Vi r0 W wr rb tb s vc vw vb vp vm vo x st){e:En}{d:Nat}(ok:e.nd.ok s)(hp:Pth s (Dw r0 rb vm vo) wr e.pa e.wt e.nd d){vo':Value}{q:Nat}(h1:wr.heap.size≤q)(h2:NK w' q (e.c s))(h3:ON s w' W.heap.size vo' (st++(che s e q).reverse))(h4:vo'.ownBlock=vo.ownBlock∨∀g,vo'.ownBlock=some g→wr.heap.size≤g)(h5:vo'.ownBlock≠some q)(h6:Kp (fun k=>vo.ownBlock=some k) wr w'):
  Vi r0 W w' rb tb s vc vw vb vp vm vo' x (st++(che s e q).reverse):=by
 have hmr:vm.ownBlock≠some rb:=fun e=>by have:=(h.ms.lt rb e).1;have:=h.lt;omega
 have hor:vo.ownBlock≠some rb:=fun e=>by have:=(h.op.lt rb e).1;have:=h.lt;omega
 have hmw:Mw rb vm vo vm vo' wr w':=⟨h6.mono fun _ _ e=>.inr (.inr e),.inl rfl,h4⟩;have hdq:Dw r0 rb vm vo' q:=⟨⟨by have:=h.rlt;omega,by have:=h.l0;have:=h.kp.size;omega⟩,fun e=>by have:=(h.ms.lt q e).2;omega,h5⟩;refine⟨(h6.block rb h.rlt hor).trans h.rs,hmw.rl h.rl,hmw.tr h.tr,h.ms.keep fun g hg=>h6.block g (h.ms.lt g hg).2 (fun e=>h.mo g hg e),h3,fun g hg e2=> ?_,fun c hc=> ?_,h.kp.trans h6 (fun k hk e=>by have:=(h.op.lt k e).1;omega),h.lt,h.l0⟩
 ·rcases h4 with e|e
  ·exact h.mo g hg (e.symm.trans e2)
  ·have:=e g e2;have:=(h.ms.lt g hg).2;omega
 ·rw[List.mem_append,List.mem_reverse]at hc;rcases hc with hc|hc
  ·exact⟨(h.pt c hc).1,(h.pt c hc).2.imp fun _ hp=>hmw.pth hp⟩
  ·exact che_pth ok h2 hdq (hmw.pth hp) c hc
end
def Tgt(s:Sn)(B:Nat)(x:Sx)(st:List En):Prop:=(st.reverse.map (·.nd)).foldl (vm s B) x=fnd s B∧x.ended=false∧x.marks.length=x.nodes∧x.nodes≤B
section
variable {s:Sn} {B:Nat} {x:Sx} {st:List En} {e:En}
theorem Tgt.top(h:Tgt s B x (st++[e])):(st.reverse.map (·.nd)).foldl (vm s B) (vm s B x e.nd)=fnd s B:=by
 have:=h.1;rw[List.reverse_append,List.reverse_singleton,List.singleton_append,List.map_cons,List.foldl_cons]at this;exact this
theorem Tgt.full(h:Tgt s B x (st++[e]))(ok:e.nd.ok s)(hn:x.marks.length=B):fnd s B=⟨x.nodes,true,x.plan,x.cost,x.marks⟩:=by
 rw[←h.top,vm_full ok h.2.1 (by have:=h.2.2.1;omega)];exact vms_ended rfl _
theorem Tgt.leaf(h:Tgt s B x (st++[e]))(ok:e.nd.ok s)(hn:x.marks.length≠B)(hl:PM.lf e.nd.st=0)(hc:¬RM.cst s.st s.ws s.cs e.nd.b<x.cost):Tgt s B ⟨x.nodes+1,false,x.plan,x.cost,x.marks++[2]⟩ st:=by
 have h2:=h.2.2;refine⟨?_,rfl,by simp;omega,by show x.nodes+1≤B;omega⟩;rw[←h.top,vm_leaf ok h.2.1 (by omega) ((left_nil ok).2 hl) hc]
theorem Tgt.cut(h:Tgt s B x (st++[e]))(ok:e.nd.ok s)(hn:x.marks.length≠B)(hl:PM.lf e.nd.st≠0)(hc:x.cost≤lsv s e.nd.k e.nd.b e.nd.st):Tgt s B ⟨x.nodes+1,false,x.plan,x.cost,x.marks++[0]⟩ st:=by
 have h2:=h.2.2;refine⟨?_,rfl,by simp;omega,by show x.nodes+1≤B;omega⟩;rw[←h.top,vm_cut ok h.2.1 (by omega) (fun e=>hl ((left_nil ok).1 e)) hc]
end
theorem bek_get(n:Int):∀(m k:Nat),k<m→(bek n m)[k]?=some ((n/256^(m-1-k))%256).toNat
 |m+1,0,_=>by show some _=_;rfl
 |m+1,k+1,h=>by
  show(bek n m)[k]?=_;rw[bek_get n m k (by omega),show m+1-1-(k+1)=m-1-k by omega]
structure Rw(w:World)(rb:Nat)(x:Sx)(vp vm:Value)(M:Nat):Prop where
 rs:w.heap[rb]?=some (.cells (rcl vp x.cost (!x.ended) (M:Int) (.slice none 0 0)).toArray 152 (0,0))
 rl:RL (fun _=>True) w vp x.plan
 ms:OY w 0 vm x.marks
section
variable {w w':World} {rb M:Nat} {x:Sx} {vp vm:Value}
theorem Rw.next(h:Rw w rb x vp vm M)(hb:Below w.heap.size w w'):Rw w' rb x vp vm M:=⟨(hb.block rb (Array.getElem?_eq_some_iff.1 h.rs).1).trans h.rs,h.rl.below' hb,h.ms.below' hb⟩
theorem Rw.cell(h:Rw w rb x vp vm M)(i:Nat):w.cell? ⟨rb,i,none⟩=(rcl vp x.cost (!x.ended) (M:Int) (.slice none 0 0))[i]?:=blk_cell h.rs i
end
theorem prove_any{rb M:Nat}{x:Sx}{vp vm:Value}{w:World}(h:Rw w rb x vp vm M)(hc0:0≤x.cost)(hc1:x.cost≤1000000000000)(hpl:x.plan.length≤8)(hll:∀l∈x.plan,l.length≤128∧∀z∈l,0≤z∧z<128)(hml:x.marks.length≤1000000):
  Calls Tryz.prog 109 #[.pointer (some ⟨rb,0,none⟩),vm] w fun e w'=>∃v,e=.returned v∧OY w' w.heap.size v (prf x)∧Below w.heap.size w w':=by
 have HX:=Hd h;have hal:=(Below.refl w.heap.size w).alloc (Nat.le_refl _) (.cells #[.int .u8 0] 5);have HX1:=Hd (h.next hal);have HO1:Hid (OY (w.alloc (.cells #[.int .u8 0] 5)) w.heap.size (.slice (some ⟨w.heap.size,0,none⟩) 1 1) [0]):=OY.lit (B:=w.heap.size) w [0] (Nat.le_refl _) (by unfold maxLen;simp);have HB1:=Hd hal;obtain⟨nd,en,pl,co,ms⟩:=x;obtain⟨av,kv,rfl,_,_⟩:=h.rl.form;obtain⟨cn,rfl⟩:∃c:Nat,co=(c:Int):=⟨co.toNat,by have:0≤co:=hc0;omega⟩;clear h hal;cases en with
 |false=>
  have c2:(w.alloc (.cells #[.int .u8 0] 5)).cell? ⟨rb,2,none⟩=some (.bool true):=HX1.out.cell 2;generalize hW0:w.alloc (.cells #[.int .u8 0] 5)=W0 at HX1 HO1 HB1 c2;have d1:W0.cell? ⟨w.heap.size,0,none⟩=some (.int .u8 0):=HO1.out.cell rfl;have d2:W0.frozen? ⟨w.heap.size,0,none⟩=false:=HO1.out.fr 0;have ho1:OY (W0.setCell ⟨w.heap.size,0,none⟩ (.int .u8 1)) w.heap.size (.slice (some ⟨w.heap.size,0,none⟩) 1 1) [1]:=HO1.out.put 0 1;have hb1:=HB1.out.setCell (p:=⟨w.heap.size,0,none⟩) (Nat.le_refl _) (.int .u8 1);clear HO1 HB1 HX1;have HO1:=Hd ho1;have HB1:=Hd hb1;clear ho1 hb1;generalize hW1:W0.setCell ⟨w.heap.size,0,none⟩ (.int .u8 1)=W1 at HO1 HB1
  go_enter Tryz.func109,Tryz.ntmps109
  go_wp2_with fail
  clear hW0 hW1 c2 d1 d2
  go_loopw [5,6] (fun ov iv wr=>∃k:Nat,k≤8∧iv=.int .i64 (56-8*(k:Int))∧Hid (OY wr w.heap.size ov (1::(bek cn 8).take k))∧Hid (Below w.heap.size w wr)) (fun _ iv _=>(intOf iv+8).toNat)
  case atStart=>exact⟨0,Nat.zero_le _,rfl,HO1,HB1⟩
  case round=>
   clear HO1 HB1;obtain⟨k,hk,rfl,HO,HBC⟩:=hrel;by_cases hk8:k<8
   ·have hkz:(0:Int)≤56-8*(k:Int):=by omega
    have c1:wr.cell? ⟨rb,1,none⟩=some (.int .i64 (cn:Int)):=(HX.out.next HBC.out).cell 1;obtain⟨q,HQ⟩:∃q:Nat,Hid (cn/256^(7-k)=q):=⟨_,Hd rfl⟩
    have hcv:(cn:Int)/2^(56-8*k)%256=((q%256:Nat):Int):=by
     rw[←HQ.out,Int.natCast_emod,Int.natCast_ediv,Int.natCast_pow,show 56-8*k=8*(7-k) by omega,Int.pow_mul]
     rfl
    have HTS:Hid (1::(bek cn 8).take (k+1)=1::(bek cn 8).take k++[q%256]):=by
     show _=_
     rw[take_snoc (bek_get cn 8 k hk8),show 8-1-k=7-k by omega,show(((cn:Int)/256^(7-k))%256).toNat=q%256 by
      rw[←HQ.out,show((cn:Int)/256^(7-k))=((cn/256^(7-k):Nat):Int) by rw[Int.natCast_ediv,Int.natCast_pow];rfl];omega]
     rfl
    have HLN:Hid ((1::(bek cn 8).take k).length≤2000000):=by
     show _≤_;rw[List.length_cons,List.length_take,bek_length];omega
    obtain⟨P2,HP2⟩:∃P,Hid (1::(bek cn 8).take k=P):=⟨_,Hd rfl⟩;rw[HP2.out]at HO HTS HLN;generalize q%256=y at hcv HTS;have HOA:=Hd (HO.out.alloc (.cells #[.int .u8 (y:Int)] 5));have HCX:Hid ((wr.alloc (.cells #[.int .u8 (y:Int)] 5)).cell? ⟨wr.heap.size,0,none⟩=some (.int .u8 (y:Int))):=(OY.lit (B:=0) wr [y] (Nat.zero_le _) (by unfold maxLen;simp)).cell (i:=0) rfl;have HSZ:Hid (w.heap.size≤wr.heap.size):=HBC.out.size;clear HQ
    go_wp2_with (at_builtin;refine wpList_appY rfl _ _ rfl w.heap.size _ P2 rfl HOA.out wr.heap.size 1 y rfl HCX.out HLN.out ?qw ?_)
    case qw=>have:=HSZ.out;simp;omega
    intro g5 c5 W5 ho5 hg5 hat5 hlt5;have HO5:=Hd ho5;rw[←HTS.out]at HO5;have HB5:=Hd ((HBC.out.alloc HSZ.out (.cells #[.int .u8 (y:Int)] 5)).grown hg5 (by have:=HSZ.out;simp;omega) (fun q hq=>(HO.out.lt q hq).1));clear ho5 hg5 hat5 hlt5 HOA HCX HSZ HO HBC c1 HTS HLN;go_wp2;go_roundw
    case rel=>exact⟨k+1,by omega,by go_num,HO5,HB5⟩
    case measure=>simp[intOf];omega
   ·have hkz:¬(0:Int)≤56-8*(k:Int):=by omega
    have hk9:k=8:=by omega
    have hke:decide ((0:Int)≤56-8*(k:Int))=false:=decide_eq_false hkz;have hkd:decide (8*(k:Int)≤56)=false:=decide_eq_false (by omega);have ho2:=HO.out;rw[hk9,List.take_of_length_le (by rw[bek_length];exact Nat.le_refl _)]at ho2;have HO2:=Hd ho2;have HB2:=HBC;clear HO HBC hk9 ho2;obtain⟨P0,HP0⟩:∃P,Hid (1::bek cn 8=P):=⟨_,Hd rfl⟩;have hP0:P0.length≤9:=by rw[←HP0.out,List.length_cons,bek_length];omega
    rw[HP0.out]at HO2;have c0:wr.cell? ⟨rb,0,none⟩=some (.slice av pl.length kv):=(HX.out.next HB2.out).cell 0
    go_wp2_with fail
    clear c0
    go_loopw [5,37] (fun ov cv wr=>∃c:Nat,c≤pl.length∧cv=.int .i64 (c:Int)∧Hid (OY wr w.heap.size ov (P0++prl (pl.take c)))∧Hid (Below w.heap.size w wr)) (fun _ cv _=>pl.length-(intOf cv).toNat)
    case atStart=>exact⟨0,Nat.zero_le _,rfl,by rw[List.take_zero];show Hid (OY _ _ _ (P0++[]));rw[List.append_nil];exact HO2,HB2⟩
    case round=>
     clear HO2 HB2;obtain⟨c,hc,rfl,HO,HBC⟩:=hrel;by_cases hcc:c<pl.length
     ·have hcz:(c:Int)<(pl.length:Int):=by omega
      obtain⟨l,hl⟩:∃l,pl[c]?=some l:=⟨_,List.getElem?_eq_getElem hcc⟩;have hlb:=hll l (List.mem_of_getElem? hl);have hln:l.length≤128:=hlb.1;have HZB:=Hd hlb.2;have HL:=Hd hl;obtain⟨gp,op,rfl,u,hcu,hru⟩:=HX.out.rl.at hl;obtain⟨au,ku,rfl,_,_⟩:=hru.form;have HRU:=Hd hru;have cu:wr.cell? ⟨gp,op+c,none⟩=some (.slice au l.length ku):=(HBC.out.cell (p:=⟨gp,op+c,none⟩) (cell_lt hcu)).trans hcu;have hcv:IntKind.u8.wrap (l.length:Int)=(l.length:Int):=IntWalk.u8_in _ (by omega)
      have HPR:Hid ((prl (pl.take c)).length≤129*8):=by
       show _≤_;have h1:=prl_len (pl.take c) fun l hl=>(hll l (List.mem_of_mem_take hl)).1;rw[List.length_take]at h1;omega
      have HOA:=Hd (HO.out.alloc (.cells #[.int .u8 (l.length:Int)] 5));have HCX:Hid ((wr.alloc (.cells #[.int .u8 (l.length:Int)] 5)).cell? ⟨wr.heap.size,0,none⟩=some (.int .u8 (l.length:Int))):=(OY.lit (B:=0) wr [l.length] (Nat.zero_le _) (by unfold maxLen;simp)).cell (i:=0) rfl;have HSZ:Hid (w.heap.size≤wr.heap.size):=HBC.out.size;obtain⟨P1,HP1⟩:∃P,Hid (P0++prl (pl.take c)=P):=⟨_,Hd rfl⟩;have hP1:P1.length≤2000:=by have:=HPR.out;rw[←HP1.out,List.length_append];omega
      rw[HP1.out]at HO HOA;clear hl hlb hcu hru HPR
      go_wp2_with (at_builtin;refine wpList_appY rfl _ _ rfl w.heap.size _ P1 rfl HOA.out wr.heap.size 1 l.length rfl HCX.out ?qy ?qw ?_)
      case qy=>omega
      case qw=>have:=HSZ.out;simp;omega
      intro g5 c5 W5 ho5 hg5 hat5 hlt5;have HO5:=Hd ho5;have HB5:=Hd ((HBC.out.alloc HSZ.out (.cells #[.int .u8 (l.length:Int)] 5)).grown hg5 (by have:=HSZ.out;simp;omega) (fun q hq=>(HO.out.lt q hq).1));clear ho5 hg5 hat5 hlt5 HOA HCX HSZ HO HBC cu
      go_wp2_with fail
      go_loopw [5,49] (fun ov iv wr=>∃i:Nat,i≤l.length∧iv=.int .i64 (i:Int)∧Hid (OY wr w.heap.size ov (P1++l.length::(l.take i).map Int.toNat))∧Hid (Below w.heap.size w wr)) (fun _ iv _=>l.length-(intOf iv).toNat)
      case atStart=>exact⟨0,Nat.zero_le _,rfl,by rw[List.take_zero];exact HO5,HB5⟩
      case round=>
       clear HO5 HB5;obtain⟨i,hi,rfl,HO,HBC⟩:=hrel;by_cases hil:i<l.length
       ·have hiz:(i:Int)<(l.length:Int):=by omega
        obtain⟨z,hz⟩:∃z,l[i]?=some z:=⟨_,List.getElem?_eq_getElem hil⟩;have hzb:=HZB.out z (List.mem_of_getElem? hz);obtain⟨q,rfl⟩:∃q:Nat,z=(q:Int):=⟨z.toNat,by omega⟩;obtain⟨gi,oi,rfl,hci⟩:=HRU.out.at hz;have ci:wr.cell? ⟨gi,oi+i,none⟩=some (.int .i64 (q:Int)):=(HBC.out.cell (p:=⟨gi,oi+i,none⟩) (cell_lt hci)).trans hci;have hcw:IntKind.u8.wrap (q:Int)=(q:Int):=IntWalk.u8_in _ (by omega)
        have HTS:Hid (P1++l.length::(l.take (i+1)).map Int.toNat=P1++l.length::(l.take i).map Int.toNat++[q]):=by
         show _=_;rw[take_snoc hz,List.map_append];simp
        have HLN:Hid ((P1++l.length::(l.take i).map Int.toNat).length≤2000000):=by
         show _≤_;rw[List.length_append,List.length_cons,List.length_map,List.length_take];omega
        obtain⟨P2,HP2⟩:∃P,Hid (P1++l.length::(l.take i).map Int.toNat=P):=⟨_,Hd rfl⟩;rw[HP2.out]at HO HTS HLN;have HOA:=Hd (HO.out.alloc (.cells #[.int .u8 (q:Int)] 5));have HCX:Hid ((wr.alloc (.cells #[.int .u8 (q:Int)] 5)).cell? ⟨wr.heap.size,0,none⟩=some (.int .u8 (q:Int))):=(OY.lit (B:=0) wr [q] (Nat.zero_le _) (by unfold maxLen;simp)).cell (i:=0) rfl;have HSZ:Hid (w.heap.size≤wr.heap.size):=HBC.out.size;clear hz hzb hci
        go_wp2_with (at_builtin;refine wpList_appY rfl _ _ rfl w.heap.size _ P2 rfl HOA.out wr.heap.size 1 q rfl HCX.out HLN.out ?qw ?_)
        case qw=>have:=HSZ.out;simp;omega
        intro g5 c5 W5 ho5 hg5 hat5 hlt5;have HO5:=Hd ho5;rw[←HTS.out]at HO5;have HB5:=Hd ((HBC.out.alloc HSZ.out (.cells #[.int .u8 (q:Int)] 5)).grown hg5 (by have:=HSZ.out;simp;omega) (fun q hq=>(HO.out.lt q hq).1));clear ho5 hg5 hat5 hlt5 HOA HCX HSZ HO HBC ci HTS HLN;go_wp2;go_roundw
        case rel=>exact⟨i+1,by omega,by go_num,HO5,HB5⟩
        case measure=>simp[intOf];omega
       ·have hiz:¬(i:Int)<(l.length:Int):=by omega
        have HE:Hid (P1++l.length::(l.take i).map Int.toNat=P0++prl (pl.take (c+1))):=by
         show _=_;rw[take_snoc HL.out,prl_snoc,←List.append_assoc,HP1.out,List.take_of_length_le (by omega)]
        rw[HE.out]at HO;go_wp2;go_roundw
        case rel=>exact⟨c+1,by omega,by go_num,HO,HBC⟩
        case measure=>simp[intOf];omega
     ·have hcz:¬(c:Int)<(pl.length:Int):=by omega
      have hce:pl.take c=pl:=List.take_of_length_le (by omega);rw[hce]at HO;have HXW:=Hd (HX.out.next HBC.out);have HSZ:Hid (w.heap.size≤wr.heap.size):=HBC.out.size;have c2:wr.cell? ⟨rb,2,none⟩=some (.bool true):=HXW.out.cell 2
      have HPR:Hid ((P0++prl pl).length+ms.length≤4000000):=by
       show _≤_;have h1:=prl_len pl fun l hl=>(hll l hl).1;have h2:ms.length≤1000000:=hml;rw[List.length_append];omega
      have HMS:=Hd HXW.out.ms;clear hce HXW
      go_wp2_with (at_builtin;refine wpList_appYo rfl _ _ rfl w.heap.size 0 _ _ _ ms rfl HO.out rfl HMS.out HPR.out HSZ.out ?_)
      intro v9 W9 ho9 hg9;have HO9:=Hd ho9;have HB9:=Hd (HBC.out.grown hg9 HSZ.out (fun q hq=>(HO.out.lt q hq).1));clear ho9 hg9 HO HBC c2;go_wp2;go_ret;exact⟨_,rfl,by show OY _ _ _ (1::(bek cn 8++prl pl++ms));rw[←HP0.out]at HO9;simpa using HO9.out,HB9.out⟩
 |true=>
  have c2:(w.alloc (.cells #[.int .u8 0] 5)).cell? ⟨rb,2,none⟩=some (.bool false):=HX1.out.cell 2;generalize hW1:w.alloc (.cells #[.int .u8 0] 5)=W1 at HX1 HO1 HB1 c2
  go_enter Tryz.func109,Tryz.ntmps109
  go_wp2_with fail
  clear hW1 c2 HX1
  go_loopw [5,6] (fun ov iv wr=>∃k:Nat,k≤8∧iv=.int .i64 (56-8*(k:Int))∧Hid (OY wr w.heap.size ov (0::(bek cn 8).take k))∧Hid (Below w.heap.size w wr)) (fun _ iv _=>(intOf iv+8).toNat)
  case atStart=>exact⟨0,Nat.zero_le _,rfl,HO1,HB1⟩
  case round=>
   clear HO1 HB1;obtain⟨k,hk,rfl,HO,HBC⟩:=hrel;by_cases hk8:k<8
   ·have hkz:(0:Int)≤56-8*(k:Int):=by omega
    have c1:wr.cell? ⟨rb,1,none⟩=some (.int .i64 (cn:Int)):=(HX.out.next HBC.out).cell 1;obtain⟨q,HQ⟩:∃q:Nat,Hid (cn/256^(7-k)=q):=⟨_,Hd rfl⟩
    have hcv:(cn:Int)/2^(56-8*k)%256=((q%256:Nat):Int):=by
     rw[←HQ.out,Int.natCast_emod,Int.natCast_ediv,Int.natCast_pow,show 56-8*k=8*(7-k) by omega,Int.pow_mul]
     rfl
    have HTS:Hid (0::(bek cn 8).take (k+1)=0::(bek cn 8).take k++[q%256]):=by
     show _=_
     rw[take_snoc (bek_get cn 8 k hk8),show 8-1-k=7-k by omega,show(((cn:Int)/256^(7-k))%256).toNat=q%256 by
      rw[←HQ.out,show((cn:Int)/256^(7-k))=((cn/256^(7-k):Nat):Int) by rw[Int.natCast_ediv,Int.natCast_pow];rfl];omega]
     rfl
    have HLN:Hid ((0::(bek cn 8).take k).length≤2000000):=by
     show _≤_;rw[List.length_cons,List.length_take,bek_length];omega
    obtain⟨P2,HP2⟩:∃P,Hid (0::(bek cn 8).take k=P):=⟨_,Hd rfl⟩;rw[HP2.out]at HO HTS HLN;generalize q%256=y at hcv HTS;have HOA:=Hd (HO.out.alloc (.cells #[.int .u8 (y:Int)] 5));have HCX:Hid ((wr.alloc (.cells #[.int .u8 (y:Int)] 5)).cell? ⟨wr.heap.size,0,none⟩=some (.int .u8 (y:Int))):=(OY.lit (B:=0) wr [y] (Nat.zero_le _) (by unfold maxLen;simp)).cell (i:=0) rfl;have HSZ:Hid (w.heap.size≤wr.heap.size):=HBC.out.size;clear HQ
    go_wp2_with (at_builtin;refine wpList_appY rfl _ _ rfl w.heap.size _ P2 rfl HOA.out wr.heap.size 1 y rfl HCX.out HLN.out ?qw ?_)
    case qw=>have:=HSZ.out;simp;omega
    intro g5 c5 W5 ho5 hg5 hat5 hlt5;have HO5:=Hd ho5;rw[←HTS.out]at HO5;have HB5:=Hd ((HBC.out.alloc HSZ.out (.cells #[.int .u8 (y:Int)] 5)).grown hg5 (by have:=HSZ.out;simp;omega) (fun q hq=>(HO.out.lt q hq).1));clear ho5 hg5 hat5 hlt5 HOA HCX HSZ HO HBC c1 HTS HLN;go_wp2;go_roundw
    case rel=>exact⟨k+1,by omega,by go_num,HO5,HB5⟩
    case measure=>simp[intOf];omega
   ·have hkz:¬(0:Int)≤56-8*(k:Int):=by omega
    have hk9:k=8:=by omega
    have hke:decide ((0:Int)≤56-8*(k:Int))=false:=decide_eq_false hkz;have hkd:decide (8*(k:Int)≤56)=false:=decide_eq_false (by omega);have ho2:=HO.out;rw[hk9,List.take_of_length_le (by rw[bek_length];exact Nat.le_refl _)]at ho2;have HO2:=Hd ho2;have HB2:=HBC;clear HO HBC hk9 ho2;obtain⟨P0,HP0⟩:∃P,Hid (0::bek cn 8=P):=⟨_,Hd rfl⟩;have hP0:P0.length≤9:=by rw[←HP0.out,List.length_cons,bek_length];omega
    rw[HP0.out]at HO2;have c0:wr.cell? ⟨rb,0,none⟩=some (.slice av pl.length kv):=(HX.out.next HB2.out).cell 0
    go_wp2_with fail
    clear c0
    go_loopw [5,37] (fun ov cv wr=>∃c:Nat,c≤pl.length∧cv=.int .i64 (c:Int)∧Hid (OY wr w.heap.size ov (P0++prl (pl.take c)))∧Hid (Below w.heap.size w wr)) (fun _ cv _=>pl.length-(intOf cv).toNat)
    case atStart=>exact⟨0,Nat.zero_le _,rfl,by rw[List.take_zero];show Hid (OY _ _ _ (P0++[]));rw[List.append_nil];exact HO2,HB2⟩
    case round=>
     clear HO2 HB2;obtain⟨c,hc,rfl,HO,HBC⟩:=hrel;by_cases hcc:c<pl.length
     ·have hcz:(c:Int)<(pl.length:Int):=by omega
      obtain⟨l,hl⟩:∃l,pl[c]?=some l:=⟨_,List.getElem?_eq_getElem hcc⟩;have hlb:=hll l (List.mem_of_getElem? hl);have hln:l.length≤128:=hlb.1;have HZB:=Hd hlb.2;have HL:=Hd hl;obtain⟨gp,op,rfl,u,hcu,hru⟩:=HX.out.rl.at hl;obtain⟨au,ku,rfl,_,_⟩:=hru.form;have HRU:=Hd hru;have cu:wr.cell? ⟨gp,op+c,none⟩=some (.slice au l.length ku):=(HBC.out.cell (p:=⟨gp,op+c,none⟩) (cell_lt hcu)).trans hcu;have hcv:IntKind.u8.wrap (l.length:Int)=(l.length:Int):=IntWalk.u8_in _ (by omega)
      have HPR:Hid ((prl (pl.take c)).length≤129*8):=by
       show _≤_;have h1:=prl_len (pl.take c) fun l hl=>(hll l (List.mem_of_mem_take hl)).1;rw[List.length_take]at h1;omega
      have HOA:=Hd (HO.out.alloc (.cells #[.int .u8 (l.length:Int)] 5));have HCX:Hid ((wr.alloc (.cells #[.int .u8 (l.length:Int)] 5)).cell? ⟨wr.heap.size,0,none⟩=some (.int .u8 (l.length:Int))):=(OY.lit (B:=0) wr [l.length] (Nat.zero_le _) (by unfold maxLen;simp)).cell (i:=0) rfl;have HSZ:Hid (w.heap.size≤wr.heap.size):=HBC.out.size;obtain⟨P1,HP1⟩:∃P,Hid (P0++prl (pl.take c)=P):=⟨_,Hd rfl⟩;have hP1:P1.length≤2000:=by have:=HPR.out;rw[←HP1.out,List.length_append];omega
      rw[HP1.out]at HO HOA;clear hl hlb hcu hru HPR
      go_wp2_with (at_builtin;refine wpList_appY rfl _ _ rfl w.heap.size _ P1 rfl HOA.out wr.heap.size 1 l.length rfl HCX.out ?qy ?qw ?_)
      case qy=>omega
      case qw=>have:=HSZ.out;simp;omega
      intro g5 c5 W5 ho5 hg5 hat5 hlt5;have HO5:=Hd ho5;have HB5:=Hd ((HBC.out.alloc HSZ.out (.cells #[.int .u8 (l.length:Int)] 5)).grown hg5 (by have:=HSZ.out;simp;omega) (fun q hq=>(HO.out.lt q hq).1));clear ho5 hg5 hat5 hlt5 HOA HCX HSZ HO HBC cu
      go_wp2_with fail
      go_loopw [5,49] (fun ov iv wr=>∃i:Nat,i≤l.length∧iv=.int .i64 (i:Int)∧Hid (OY wr w.heap.size ov (P1++l.length::(l.take i).map Int.toNat))∧Hid (Below w.heap.size w wr)) (fun _ iv _=>l.length-(intOf iv).toNat)
      case atStart=>exact⟨0,Nat.zero_le _,rfl,by rw[List.take_zero];exact HO5,HB5⟩
      case round=>
       clear HO5 HB5;obtain⟨i,hi,rfl,HO,HBC⟩:=hrel;by_cases hil:i<l.length
       ·have hiz:(i:Int)<(l.length:Int):=by omega
        obtain⟨z,hz⟩:∃z,l[i]?=some z:=⟨_,List.getElem?_eq_getElem hil⟩;have hzb:=HZB.out z (List.mem_of_getElem? hz);obtain⟨q,rfl⟩:∃q:Nat,z=(q:Int):=⟨z.toNat,by omega⟩;obtain⟨gi,oi,rfl,hci⟩:=HRU.out.at hz;have ci:wr.cell? ⟨gi,oi+i,none⟩=some (.int .i64 (q:Int)):=(HBC.out.cell (p:=⟨gi,oi+i,none⟩) (cell_lt hci)).trans hci;have hcw:IntKind.u8.wrap (q:Int)=(q:Int):=IntWalk.u8_in _ (by omega)
        have HTS:Hid (P1++l.length::(l.take (i+1)).map Int.toNat=P1++l.length::(l.take i).map Int.toNat++[q]):=by
         show _=_;rw[take_snoc hz,List.map_append];simp
        have HLN:Hid ((P1++l.length::(l.take i).map Int.toNat).length≤2000000):=by
         show _≤_;rw[List.length_append,List.length_cons,List.length_map,List.length_take];omega
        obtain⟨P2,HP2⟩:∃P,Hid (P1++l.length::(l.take i).map Int.toNat=P):=⟨_,Hd rfl⟩;rw[HP2.out]at HO HTS HLN;have HOA:=Hd (HO.out.alloc (.cells #[.int .u8 (q:Int)] 5));have HCX:Hid ((wr.alloc (.cells #[.int .u8 (q:Int)] 5)).cell? ⟨wr.heap.size,0,none⟩=some (.int .u8 (q:Int))):=(OY.lit (B:=0) wr [q] (Nat.zero_le _) (by unfold maxLen;simp)).cell (i:=0) rfl;have HSZ:Hid (w.heap.size≤wr.heap.size):=HBC.out.size;clear hz hzb hci
        go_wp2_with (at_builtin;refine wpList_appY rfl _ _ rfl w.heap.size _ P2 rfl HOA.out wr.heap.size 1 q rfl HCX.out HLN.out ?qw ?_)
        case qw=>have:=HSZ.out;simp;omega
        intro g5 c5 W5 ho5 hg5 hat5 hlt5;have HO5:=Hd ho5;rw[←HTS.out]at HO5;have HB5:=Hd ((HBC.out.alloc HSZ.out (.cells #[.int .u8 (q:Int)] 5)).grown hg5 (by have:=HSZ.out;simp;omega) (fun q hq=>(HO.out.lt q hq).1));clear ho5 hg5 hat5 hlt5 HOA HCX HSZ HO HBC ci HTS HLN;go_wp2;go_roundw
        case rel=>exact⟨i+1,by omega,by go_num,HO5,HB5⟩
        case measure=>simp[intOf];omega
       ·have hiz:¬(i:Int)<(l.length:Int):=by omega
        have HE:Hid (P1++l.length::(l.take i).map Int.toNat=P0++prl (pl.take (c+1))):=by
         show _=_;rw[take_snoc HL.out,prl_snoc,←List.append_assoc,HP1.out,List.take_of_length_le (by omega)]
        rw[HE.out]at HO;go_wp2;go_roundw
        case rel=>exact⟨c+1,by omega,by go_num,HO,HBC⟩
        case measure=>simp[intOf];omega
     ·have hcz:¬(c:Int)<(pl.length:Int):=by omega
      have hce:pl.take c=pl:=List.take_of_length_le (by omega);rw[hce]at HO;have HXW:=Hd (HX.out.next HBC.out);have HSZ:Hid (w.heap.size≤wr.heap.size):=HBC.out.size;have c2:wr.cell? ⟨rb,2,none⟩=some (.bool false):=HXW.out.cell 2;clear hce HXW;go_wp2;go_ret;exact⟨_,rfl,by show OY _ _ _ (0::(bek cn 8++prl pl++[]));rw[←HP0.out]at HO;simpa using HO.out,HBC.out⟩
end Go.Proofs.YtlajleogofmkcaaGreat
