import Derived.Test.YtnkelgdnglaafaaGreatQ8
import Derived.OwnWalkIn
import Derived.TacticsInMore
set_option maxHeartbeats 8000000
set_option maxRecDepth 100000
namespace Go.Proofs.YtnkelgdnglaafaaGreat
open Go.RowKit Go.Shelf
theorem wpOp_loadN{ops:Array Oper}{Q:Exit→Act→World→Prop}{i:Nat}{o:Oper}{K:Act→World→Prop}{a:Act}{w:World}(hi:ops[i]?=some o)(hw:Region.wanted o (yielded ops a.tmps)=true)(x:Operand)(ho:o.op=.load 171 x)
  (b f:Nat) (cs:List Value) (hl:cs.length=136) (hx:a.eval x=.pointer (some ⟨b,f,none⟩)) (hr:w.rangeAt b f cs) (h:K (a.put o.dst (.agg cs.toArray)) w):wpOp Tryz.prog ops Q i K a w:=by
 unfold wpOp;rw[hi];simp only;rw[if_pos hw];refine .inl ?_;unfold Oper.wp execOp;simp only[ho,Sem.run_bind,Sem.run_pure,Result.andThen_ok,hx,loadN w b f cs hl hr];exact h
theorem yields_ixN{ops:Array Oper}{o:Oper}{a:Act}(x y:Operand){g f n cap j:Nat}(ho:o.op=.indexAddr 173 x y)(hx:a.eval x=.slice (some ⟨g,f,none⟩) n cap)(hy:a.eval y=.int .i64 (j:Int))(hj:j<n)(hw:Region.wanted o (yielded ops a.tmps)=true):Yields Tryz.prog ops o (.pointer (some ⟨g,f+j*136,none⟩)) a:=
 .inl ⟨hw,fun w=>by unfold execOp;simp only[ho,hx,hy,Sem.run_bind,Sem.run_pure,Result.andThen_ok,ixNo w hj]⟩
section
variable {s:Sn} {W:World} {B g n cap cap':Nat} {L M:List En} {a:Option Addr}
structure Rq(s:Sn)(W wr:World)(B g n cap:Nat)(L M:List En)(i:Nat):Prop where
 on:∃R,Rvi M R i∧ON s wr B (.slice (some ⟨g,0,none⟩) n cap) (L++R)
 kp:Kp (fun k=>k=g) W wr
theorem revN_any(h:ON s W B (.slice (some ⟨g,0,none⟩) n cap) (L++M))(ha:M≠[]→a=some ⟨g,L.length*136,none⟩)(hM:M.length≤1000000):
  Calls Tryz.prog 133 #[.slice a M.length cap'] W fun e w'=>(∃v,e=.returned v)∧ON s w' B (.slice (some ⟨g,0,none⟩) n cap) (L++M.reverse)∧Kp (fun k=>k=g) W w':=by
 have HQ0:Hid (Rq s W W B g n cap L M 0):=⟨⟨M,Rvi.zero M,h⟩,Kp.refl _ W⟩;have HA:=Hd ha;have hw1:IntKind.i64.wrap ((M.length:Int)-1)=(M.length:Int)-1:=IntWalk.i64_in _ (by omega);clear h ha
 go_enter Tryz.func133,Tryz.ntmps133
 go_wp2_with fail
 clear hw1
 go_loopw [2,3] (fun iv jv wr=>∃(i:Nat),2*i≤M.length+1∧iv=.int .i64 (i:Int)∧jv=.int .i64 ((M.length:Int)-1-(i:Int))∧Hid (Rq s W wr B g n cap L M i)) (fun iv _ _=>M.length-(intOf iv).toNat)
 case atStart=>exact⟨0,by omega,rfl,by simp,HQ0⟩
 case round=>
  clear HQ0;obtain⟨i,hi,rfl,rfl,HQ⟩:=hrel;by_cases hlt:i+1<M.length-i
  ·have hz:(i:Int)<(M.length:Int)-1-(i:Int):=by omega
   have hne:M≠[]:=fun e=>by rw[e]at hlt;simp at hlt
   obtain⟨j,hj⟩:∃j:Nat,j=M.length-1-i:=⟨_,rfl⟩;have hjz:(M.length:Int)-1-(i:Int)=(j:Int):=by omega
   rw[hjz]at hz⊢;have e:=HA.out hne;subst e;obtain⟨x,hx⟩:∃x,M[i]?=some x:=⟨_,List.getElem?_eq_getElem (by omega)⟩;obtain⟨y,hy⟩:∃y,M[M.length-1-i]?=some y:=⟨_,List.getElem?_eq_getElem (by omega)⟩;obtain⟨⟨R,hR,hO⟩,hK⟩:=HQ.out;have hjl:j<M.length:=by omega
   have hil:i<M.length:=by omega
   have HO:=Hd hO;have HR:=Hd hR;have HK:=Hd hK;have HXY:=Hd (And.intro hx (And.intro hy (And.intro hj hlt)));have hRx:(L++R)[L.length+i]?=some x:=by rw[List.getElem?_append_right (by omega),Nat.add_sub_cancel_left];exact hR.at (by omega) hx
   have hRy:(L++R)[L.length+j]?=some y:=by rw[List.getElem?_append_right (by omega),Nat.add_sub_cancel_left,hj];exact hR.at' (by omega) hy
   have HGX:Hid (∀w',Below wr.drew.heap.size wr.drew w'→w'.rangeAt g (L.length*136+i*136) (x.c s)):=fun w' hw=>by
    have:=(HO.out.below' ((Below.refl wr.heap.size wr).drew.trans hw)).range hRx;rwa[Nat.add_mul]at this
   have HGY:Hid (∀w',Below wr.drew.heap.size wr.drew w'→w'.rangeAt g (L.length*136+j*136) (y.c s)):=fun w' hw=>by
    have:=(HO.out.below' ((Below.refl wr.heap.size wr).drew.trans hw)).range hRy;rwa[Nat.add_mul]at this
   have HX8:=Hd (En.len s x);have HY8:=Hd (En.len s y);clear hx hy hO hR hK hRx hRy HQ hne hj hjz
   go_wp2_with fail
   have HO2:=Hd (HO.out.below' (Below.refl wr.heap.size wr).drew);have HK2:=Hd (HK.out.thenBelow (Below.refl wr.heap.size wr).drew);have HR1:Hid (wr.drew.rangeAt g (L.length*136+i*136) (x.c s)):=HGX.out _ (Below.refl _ _);have HR2:Hid (wr.drew.rangeAt g (L.length*136+j*136) (y.c s)):=HGY.out _ (Below.refl _ _);have HL1:Hid (L.length+i<(L++R).length):=by show _<_;rw[List.length_append,HR.out.len];omega
   have HE1:Hid (L.length*136+i*136=(L.length+i)*136):=by show _=_;rw[Nat.add_mul]
   refine wp_region_any (by kernel_rfl) ?_;change wpAny _ _ _ _ _ _ _ (World.drew _);refine wpAny_take (i:=0) rfl (by kernel_rfl) (by kernel_rfl) (by kernel_rfl) (fun _ _ _ h=>h) (yields_move _ rfl rfl) ?_;generalize hK:wpAny Tryz.prog _ _ _ _ _=K;go_simp;subst hK;refine wpAny_take (i:=1) rfl (by kernel_rfl) (by kernel_rfl) (by kernel_rfl) (fun _ _ _ h=>h) (yields_move _ rfl rfl) ?_;generalize hK:wpAny Tryz.prog _ _ _ _ _=K;go_simp;subst hK;refine wpAny_take (i:=2) rfl (by kernel_rfl) (by kernel_rfl) (by kernel_rfl) (fun _ _ _ h=>h) (yields_move _ rfl rfl) ?_;generalize hK:wpAny Tryz.prog _ _ _ _ _=K;go_simp;subst hK;refine wpAny_take (i:=3) rfl (by kernel_rfl) (by kernel_rfl) (by kernel_rfl) (fun _ _ _ h=>h) (yields_move _ rfl rfl) ?_;generalize hK:wpAny Tryz.prog _ _ _ _ _=K;go_simp;subst hK;refine wpAny_take (i:=4) rfl (by kernel_rfl) (by kernel_rfl) (by kernel_rfl) (fun _ _ _ h=>h) (yields_move _ rfl rfl) ?_;generalize hK:wpAny Tryz.prog _ _ _ _ _=K;go_simp;subst hK;refine wpAny_take (i:=5) rfl (by kernel_rfl) (by kernel_rfl) (by kernel_rfl) (fun _ _ _ h=>h) (yields_move _ rfl rfl) ?_;generalize hK:wpAny Tryz.prog _ _ _ _ _=K;go_simp;subst hK;refine wpAny_take (i:=6) rfl (by kernel_rfl) (by kernel_rfl) (by kernel_rfl) (fun _ _ _ h=>h) (yields_ixN _ _ rfl rfl rfl hjl rfl) ?_;generalize hK:wpAny Tryz.prog _ _ _ _ _=K;go_simp;subst hK;refine wpAny_take (i:=8) rfl (by kernel_rfl) (by kernel_rfl) (by kernel_rfl) (fun _ _ _ h=>h) (yields_move _ rfl rfl) ?_;generalize hK:wpAny Tryz.prog _ _ _ _ _=K;go_simp;subst hK;refine wpAny_take (i:=9) rfl (by kernel_rfl) (by kernel_rfl) (by kernel_rfl) (fun _ _ _ h=>h) (yields_move _ rfl rfl) ?_;generalize hK:wpAny Tryz.prog _ _ _ _ _=K;go_simp;subst hK;refine wpAny_take (i:=10) rfl (by kernel_rfl) (by kernel_rfl) (by kernel_rfl) (fun _ _ _ h=>h) (yields_ixN _ _ rfl rfl rfl hil rfl) ?_;generalize hK:wpAny Tryz.prog _ _ _ _ _=K;go_simp;subst hK;refine wpAny_all (rs:=[7,11]) (by kernel_rfl) (by simp) (fun ii hii=> ?_);have h7:ii=7∨ii=11:=by simpa using hii
   clear hii;rcases h7 with rfl|rfl
   ·refine wpOp_loadN rfl rfl _ rfl g _ _ HY8.out rfl HR2.out ?_;generalize hK:wpAny Tryz.prog _ _ _ _ _=K;go_simp;subst hK;refine wpAny_seq 11 (by kernel_rfl) (by kernel_rfl) ?_;simp only[List.drop_succ_cons,List.drop_zero];clear HGX HGY HO HK
    go_wp2_with (first|(refine wpList_loadN rfl _ rfl g _ _ HX8.out rfl HR1.out ?_)|(refine wpList_ixN rfl _ _ rfl rfl rfl hil ?_)|(refine wpList_storeR rfl _ _ rfl y HO2.out HL1.out HE1.out rfl rfl ?_))
    intro W3 hO3 hk3;have HL2:Hid (L.length+j<(L++R.set i y).length):=by show _<_;rw[List.length_append,List.length_set,HR.out.len];omega
    have HE2:Hid (L.length*136+j*136=(L.length+j)*136):=by show _=_;rw[Nat.add_mul]
    have HO3:Hid (ON s W3 B (.slice (some ⟨g,0,none⟩) n cap) (L++R.set i y)):=by
     show ON _ _ _ _ _
     first
      |exact hO3
      |(rw[List.set_append_right _ _ (by omega),Nat.add_sub_cancel_left]at hO3;exact hO3)
    have HK3:Hid (Kp (fun k=>k=g) W W3):=HK2.out.trans hk3 (fun _ _ h=>h);clear hO3 hk3 HO2 HK2 HL1 HE1
    go_wp2_with (first|(refine wpList_ixN rfl _ _ rfl rfl rfl hjl ?_)|(refine wpList_storeR rfl _ _ rfl x HO3.out HL2.out HE2.out rfl rfl ?_))
    intro W4 hO4 hk4
    have HQ4:Hid (Rq s W W4 B g n cap L M (i+1)):=by
     have hs:=HR.out.step HXY.out.2.2.2 HXY.out.1 HXY.out.2.1;rw[←HXY.out.2.2.1]at hs;refine⟨⟨_,hs,?_⟩,HK3.out.trans hk4 (fun _ _ h=>h)⟩
     first
      |exact hO4
      |(rw[List.set_append_right _ _ (by omega),Nat.add_sub_cancel_left]at hO4;exact hO4)
    have HJ:=Hd HXY.out.2.2.1;clear hO4 hk4 HO3 HK3 HL2 HE2 HR HXY;go_wp2;go_roundw
    case rel=>exact⟨i+1,by have:=HJ.out;omega,by go_num,by have:=HJ.out;go_num,HQ4⟩
    case measure=>simp[intOf];omega
   ·refine wpOp_loadN rfl rfl _ rfl g _ _ HX8.out rfl HR1.out ?_;generalize hK:wpAny Tryz.prog _ _ _ _ _=K;go_simp;subst hK;refine wpAny_all (rs:=[7]) (by kernel_rfl) (by simp) (fun ii hii=> ?_);have h7:ii=7:=by simpa using hii
    clear hii;subst h7;refine wpOp_loadN rfl rfl _ rfl g _ _ HY8.out rfl HR2.out ?_;generalize hK:wpAny Tryz.prog _ _ _ _ _=K;go_simp;subst hK;refine wpAny_seq 12 (by kernel_rfl) (by kernel_rfl) ?_;simp only[List.drop_succ_cons,List.drop_zero];clear HGX HGY HO HK
    go_wp2_with (first|(refine wpList_loadN rfl _ rfl g _ _ HX8.out rfl HR1.out ?_)|(refine wpList_ixN rfl _ _ rfl rfl rfl hil ?_)|(refine wpList_storeR rfl _ _ rfl y HO2.out HL1.out HE1.out rfl rfl ?_))
    intro W3 hO3 hk3;have HL2:Hid (L.length+j<(L++R.set i y).length):=by show _<_;rw[List.length_append,List.length_set,HR.out.len];omega
    have HE2:Hid (L.length*136+j*136=(L.length+j)*136):=by show _=_;rw[Nat.add_mul]
    have HO3:Hid (ON s W3 B (.slice (some ⟨g,0,none⟩) n cap) (L++R.set i y)):=by
     show ON _ _ _ _ _
     first
      |exact hO3
      |(rw[List.set_append_right _ _ (by omega),Nat.add_sub_cancel_left]at hO3;exact hO3)
    have HK3:Hid (Kp (fun k=>k=g) W W3):=HK2.out.trans hk3 (fun _ _ h=>h);clear hO3 hk3 HO2 HK2 HL1 HE1
    go_wp2_with (first|(refine wpList_ixN rfl _ _ rfl rfl rfl hjl ?_)|(refine wpList_storeR rfl _ _ rfl x HO3.out HL2.out HE2.out rfl rfl ?_))
    intro W4 hO4 hk4
    have HQ4:Hid (Rq s W W4 B g n cap L M (i+1)):=by
     have hs:=HR.out.step HXY.out.2.2.2 HXY.out.1 HXY.out.2.1;rw[←HXY.out.2.2.1]at hs;refine⟨⟨_,hs,?_⟩,HK3.out.trans hk4 (fun _ _ h=>h)⟩
     first
      |exact hO4
      |(rw[List.set_append_right _ _ (by omega),Nat.add_sub_cancel_left]at hO4;exact hO4)
    have HJ:=Hd HXY.out.2.2.1;clear hO4 hk4 HO3 HK3 HL2 HE2 HR HXY;go_wp2;go_roundw
    case rel=>exact⟨i+1,by have:=HJ.out;omega,by go_num,by have:=HJ.out;go_num,HQ4⟩
    case measure=>simp[intOf];omega
  ·have hz:¬(i:Int)<(M.length:Int)-1-(i:Int):=by omega
   obtain⟨⟨R,hR,hO⟩,hK⟩:=HQ.out;have e:=hR.done hlt;subst e;have HE:=Hd (And.intro hO hK);clear hR hO hK HQ;go_wp2
   go_end0
   exact⟨⟨_,rfl⟩,HE.out.1,HE.out.2⟩
end
section
variable {W:World} {B g n cap:Nat} {M:List Int}
theorem revI_any{v:Value}(h:OI W B v M)(hM:M.length≤1000000):
  Calls Tryz.prog 131 #[v] W fun e w'=>(∃v,e=.returned v)∧OI w' B v M.reverse∧Kp (fun k=>v.ownBlock=some k) W w':=by
 obtain⟨ad,cap,rfl⟩:=h.slice
 have HA:Hid (M≠[]→∃g,ad=some ⟨g,0,none⟩):=fun hne=>by
  rcases h.form with⟨_,e⟩|⟨g,c,e,_⟩
  ·exact absurd e hne
  ·cases e;exact⟨g,rfl⟩
 have hw1:IntKind.i64.wrap ((M.length:Int)-1)=(M.length:Int)-1:=IntWalk.i64_in _ (by omega);have HQ0:Hid (∃R,Rvi M R 0∧OI W B (.slice ad M.length cap) R∧Kp (fun k=>(Value.slice ad M.length cap).ownBlock=some k) W W):=⟨M,Rvi.zero M,h,Kp.refl _ W⟩;clear h
 go_enter Tryz.func131,Tryz.ntmps131
 go_wp2_with fail
 clear hw1
 go_loopw [2,3] (fun iv jv wr=>∃(i:Nat),2*i≤M.length+1∧iv=.int .i64 (i:Int)∧jv=.int .i64 ((M.length:Int)-1-(i:Int))∧Hid (∃R,Rvi M R i∧OI wr B (.slice ad M.length cap) R∧Kp (fun k=>(Value.slice ad M.length cap).ownBlock=some k) W wr)) (fun iv _ _=>M.length-(intOf iv).toNat)
 case atStart=>exact⟨0,by omega,rfl,by simp,HQ0⟩
 case round=>
  clear HQ0;obtain⟨i,hi,rfl,rfl,HQ⟩:=hrel;by_cases hlt:i+1<M.length-i
  ·have hz:(i:Int)<(M.length:Int)-1-(i:Int):=by omega
   have hne:M≠[]:=fun e=>by rw[e]at hlt;simp at hlt
   obtain⟨j,hj⟩:∃j:Nat,j=M.length-1-i:=⟨_,rfl⟩;have hjz:(M.length:Int)-1-(i:Int)=(j:Int):=by omega
   rw[hjz]at hz⊢;obtain⟨g,e⟩:=HA.out hne;subst e;obtain⟨x,hx⟩:∃x,M[i]?=some x:=⟨_,List.getElem?_eq_getElem (by omega)⟩;obtain⟨y,hy⟩:∃y,M[M.length-1-i]?=some y:=⟨_,List.getElem?_eq_getElem (by omega)⟩;obtain⟨R,hR,hO,hK⟩:=HQ.out;have hjl:j<M.length:=by omega
   have hil:i<M.length:=by omega
   have hRx:=hR.at (by omega) hx;have hRy:=hR.at' (by omega) hy;rw[←hj]at hRy;have HR:=Hd hR;have HXY:=Hd (And.intro hx (And.intro hy (And.intro hj hlt)));have c1:wr.cell? ⟨g,i,none⟩=some (.int .i64 x):=hO.cell hRx;have f1:=hO.fr i;have c2:wr.cell? ⟨g,j,none⟩=some (.int .i64 y):=hO.cell hRy;have f2:=hO.fr j;have hiz:(i:Int)<(M.length:Int):=by omega
   have hjz2:(j:Int)<(M.length:Int):=by omega
   have hjk0:¬i=j:=by omega
   have hjk1:¬j=i:=by omega
   have HQ4:Hid (∃R,Rvi M R (i+1)∧OI ((wr.setCell ⟨g,i,none⟩ (.int .i64 y)).setCell ⟨g,j,none⟩ (.int .i64 x)).drew B (.slice (some ⟨g,0,none⟩) M.length cap) R∧Kp (fun k=>(Value.slice (some ⟨g,0,none⟩) M.length cap).ownBlock=some k) W ((wr.setCell ⟨g,i,none⟩ (.int .i64 y)).setCell ⟨g,j,none⟩ (.int .i64 x)).drew):=by
    have hs:=hR.step hlt hx hy;rw[←hj]at hs;exact⟨_,hs,(hO.put i y).put j x,((hK.set g i _ (fun _=>rfl)).set g j _ (fun _=>rfl)).drew⟩
   have HJ:=Hd hj;clear hx hy hO hR hK hRx hRy HQ hne hj hjz HR HXY
   go_wp2_with fail
   go_region
   generalize ((wr.setCell ⟨g,i,none⟩ (.int .i64 y)).setCell ⟨g,j,none⟩ (.int .i64 x)).drew=Wn at HQ4⊢;clear c1 c2 f1 f2;go_wp2;go_roundw
   case rel=>exact⟨i+1,by have:=HJ.out;omega,by go_num,by have:=HJ.out;go_num,HQ4⟩
   case measure=>simp[intOf];omega
  ·have hz:¬(i:Int)<(M.length:Int)-1-(i:Int):=by omega
   obtain⟨R,hR,hO,hK⟩:=HQ.out;have e:=hR.done hlt;subst e;have HE:=Hd (And.intro hO hK);clear hR hO hK HQ;go_wp2
   go_end0
   exact⟨⟨_,rfl⟩,HE.out.1,HE.out.2⟩
end
def PthR(s:Sn)(D:Nat→Prop)(W:World):Nat→Option Addr→Int→Nn→Prop
 |0,pa,wt,n=>pa=none∧wt= -1∧n=nd0 s
 |d+1,pa,wt,n=>∃(pa':Option Addr) (wt':Int) (n':Nn) (q:Nat),pa=some ⟨q,0,none⟩∧D q∧NK W q (ncl s pa' wt' n')∧PthR s D W d pa' wt' n'∧
  ((∃w:Nat,wt=(w:Int)∧n=grw n' w∧n'.k<n'.b.length∧n'.st[w]?=some false)∨(wt= -1∧n=nxc n'∧n'.k+1<n'.b.length))
def Pth(s:Sn)(D:Nat→Prop)(W:World)(pa:Option Addr)(wt:Int)(n:Nn)(d:Nat):Prop:=PthR s D W d pa wt n
theorem Pth.root{s:Sn}{D:Nat→Prop}{W:World}:Pth s D W none (-1) (nd0 s) 0:=⟨rfl,rfl,rfl⟩
theorem Pth.grow{s:Sn}{D:Nat→Prop}{W:World}{pa:Option Addr}{wt:Int}{n:Nn}{d q w:Nat}(hd:D q)(hq:NK W q (ncl s pa wt n))(h:Pth s D W pa wt n d)(hk:n.k<n.b.length)(hw:n.st[w]?=some false):Pth s D W (some ⟨q,0,none⟩) (w:Int) (grw n w) (d+1):=
 ⟨pa,wt,n,q,rfl,hd,hq,h,Or.inl ⟨w,rfl,rfl,hk,hw⟩⟩
theorem Pth.next{s:Sn}{D:Nat→Prop}{W:World}{pa:Option Addr}{wt:Int}{n:Nn}{d q:Nat}(hd:D q)(hq:NK W q (ncl s pa wt n))(h:Pth s D W pa wt n d)(hk:n.k+1<n.b.length):Pth s D W (some ⟨q,0,none⟩) (-1) (nxc n) (d+1):=
 ⟨pa,wt,n,q,rfl,hd,hq,h,Or.inr ⟨rfl,rfl,hk⟩⟩
theorem Pth.ways{s:Sn}{D:Nat→Prop}{W:World}{pa:Option Addr}{wt:Int}{n:Nn}{d:Nat}(h:Pth s D W pa wt n d):
  (pa=none∧wt= -1∧n=nd0 s∧d=0)∨
  (∃(pa':Option Addr) (wt':Int) (n':Nn) (d' q w:Nat),pa=some ⟨q,0,none⟩∧wt=(w:Int)∧n=grw n' w∧d=d'+1∧D q∧NK W q (ncl s pa' wt' n')∧Pth s D W pa' wt' n' d'∧n'.k<n'.b.length∧n'.st[w]?=some false)∨
  (∃(pa':Option Addr) (wt':Int) (n':Nn) (d' q:Nat),pa=some ⟨q,0,none⟩∧wt= -1∧n=nxc n'∧d=d'+1∧D q∧NK W q (ncl s pa' wt' n')∧Pth s D W pa' wt' n' d'∧n'.k+1<n'.b.length):=by
 match d,h with
 |0,⟨a,b,c⟩=>exact Or.inl ⟨a,b,c,rfl⟩
 |d+1,⟨pa',wt',n',q,e1,hd,hq,h',Or.inl ⟨w,e2,e3,hk,hw⟩⟩=>exact Or.inr (Or.inl ⟨pa',wt',n',d,q,w,e1,e2,e3,rfl,hd,hq,h',hk,hw⟩)
 |d+1,⟨pa',wt',n',q,e1,hd,hq,h',Or.inr ⟨e2,e3,hk⟩⟩=>exact Or.inr (Or.inr ⟨pa',wt',n',d,q,e1,e2,e3,rfl,hd,hq,h',hk⟩)
theorem Pth.ind{s:Sn}{D:Nat→Prop}{W:World}{P:Option Addr→Int→Nn→Nat→Prop}(h0:P none (-1) (nd0 s) 0)
  (h1:∀(pa:Option Addr) (wt:Int) (n:Nn) (d q w:Nat),D q→NK W q (ncl s pa wt n)→Pth s D W pa wt n d→n.k<n.b.length→n.st[w]?=some false→P pa wt n d→P (some ⟨q,0,none⟩) (w:Int) (grw n w) (d+1))
  (h2:∀(pa:Option Addr) (wt:Int) (n:Nn) (d q:Nat),D q→NK W q (ncl s pa wt n)→Pth s D W pa wt n d→n.k+1<n.b.length→P pa wt n d→P (some ⟨q,0,none⟩) (-1) (nxc n) (d+1)):
  ∀(d:Nat) (pa:Option Addr) (wt:Int) (n:Nn),Pth s D W pa wt n d→P pa wt n d:=by
 intro d
 induction d with
 |zero=>
  intro pa wt n h;obtain⟨rfl,rfl,rfl⟩:=h;exact h0
 |succ d ih=>
  intro pa wt n h;obtain⟨pa',wt',n',q,rfl,hd,hq,h',⟨w,rfl,rfl,hk,hw⟩|⟨rfl,rfl,hk⟩⟩:=h
  ·exact h1 pa' wt' n' d q w hd hq h' hk hw (ih pa' wt' n' h')
  ·exact h2 pa' wt' n' d q hd hq h' hk (ih pa' wt' n' h')
section
variable {s:Sn} {D D':Nat→Prop} {W W':World} {pa:Option Addr} {wt:Int} {n:Nn} {d:Nat}
theorem Pth.keep(h:Pth s D W pa wt n d)(hk:∀g,D g→g<W.heap.size→W'.heap[g]?=W.heap[g]?):Pth s D W' pa wt n d:=by
 refine Pth.ind (P:=fun pa wt n d=>Pth s D W' pa wt n d) ?_ ?_ ?_ d pa wt n h
 ·exact .root
 ·intro _ _ _ _ _ _ hd hq _ hk' hw ih;exact .grow hd (hq.keep (hk _ hd hq.lt)) ih hk' hw
 ·intro _ _ _ _ _ hd hq _ hk' ih;exact .next hd (hq.keep (hk _ hd hq.lt)) ih hk'
theorem Pth.mono(h:Pth s D W pa wt n d)(hD:∀g,D g→g<W.heap.size→D' g):Pth s D' W pa wt n d:=by
 refine Pth.ind (P:=fun pa wt n d=>Pth s D' W pa wt n d) ?_ ?_ ?_ d pa wt n h
 ·exact .root
 ·intro _ _ _ _ _ _ hd hq _ hk' hw ih;exact .grow (hD _ hd hq.lt) hq ih hk' hw
 ·intro _ _ _ _ _ hd hq _ hk' ih;exact .next (hD _ hd hq.lt) hq ih hk'
theorem Pth.below'(h:Pth s D W pa wt n d)(hb:Below W.heap.size W W'):Pth s D W' pa wt n d:=h.keep fun g _ hl=>hb.block g hl
theorem Pth.dm(h:Pth s D W pa wt n d):d+n.m=s.cs.length+s.ws.length:=by
 refine Pth.ind (P:=fun _ _ n d=>d+n.m=s.cs.length+s.ws.length) ?_ ?_ ?_ d pa wt n h
 ·unfold Nn.m nd0 PM.lf;simp
 ·intro _ _ _ _ _ _ _ _ _ _ hw ih;have:=grw_m _ hw;omega
 ·intro _ _ _ _ _ _ _ _ hk' ih;have:=nxc_m _ hk';omega
theorem Pth.len(h:Pth s D W pa wt n d):n.b.length=s.cs.length:=by
 refine Pth.ind (P:=fun _ _ n _=>n.b.length=s.cs.length) ?_ ?_ ?_ d pa wt n h
 ·simp[nd0]
 ·intro _ _ _ _ _ _ _ _ _ _ _ ih;unfold grw PM.add;simp only;rw[List.length_set];exact ih
 ·intro _ _ _ _ _ _ _ _ _ ih;exact ih
def chl(W:World):Nat→Value→Nat
 |0,_=>0
 |f+1,.pointer (some a)=>match W.cell? a with
  |some v=>chl W f v+1
  |none=>1
 |_+1,_=>0
theorem chl_nil(W:World)(f:Nat):chl W f (.pointer none)=0:=by cases f<;>rfl
theorem chl_cell{f q:Nat}{v:Value}(h:W.cell? ⟨q,0,none⟩=some v):chl W (f+1) (.pointer (some ⟨q,0,none⟩))=chl W f v+1:=by
 show(match W.cell? ⟨q,0,none⟩with|some v=>chl W f v+1|none=>1)=_;rw[h]
theorem Pth.chl(h:Pth s D W pa wt n d):∀f,d<f→chl W f (.pointer pa)=d:=by
 refine Pth.ind (P:=fun pa _ _ d=>∀f,d<f→Go.Proofs.YtnkelgdnglaafaaGreat.chl W f (.pointer pa)=d) ?_ ?_ ?_ d pa wt n h
 ·intro f _;exact chl_nil W f
 ·intro _ _ _ _ _ _ _ hq _ _ _ ih f hf;obtain⟨f,rfl⟩:∃f',f=f'+1:=⟨f-1,by omega⟩;rw[chl_cell (hq.cell 0),ih f (by omega)]
 ·intro _ _ _ _ _ _ hq _ _ ih f hf;obtain⟨f,rfl⟩:∃f',f=f'+1:=⟨f-1,by omega⟩;rw[chl_cell (hq.cell 0),ih f (by omega)]
end
structure Gat(s:Sn)(b p:List (List Int))(m:List (List Int)):Prop where
 pl:p.length=s.cs.length
 bl:b.length=s.cs.length
 ml:m.length=s.cs.length
 eq:∀(c:Nat),c<s.cs.length→p[c]?.getD []++(m[c]?.getD []).reverse=(b[c]?.getD []).reverse
section
variable {s:Sn} {b p m:List (List Int)}
theorem Gat.start(h:b.length=s.cs.length):Gat s b (List.replicate s.cs.length []) b:=⟨by simp,h,h,fun c hc=>by rw[List.getElem?_replicate,if_pos hc];rfl⟩
theorem Gat.add{k:Nat}{w:Int}(h:Gat s b p (PM.add m k w))(hk:k<m.length):Gat s b (PM.add p k w) m:=by
 have hml:m.length=s.cs.length:=by have:=h.ml;unfold PM.add at this;rwa[List.length_set]at this
 refine⟨by unfold PM.add;rw[List.length_set];exact h.pl,h.bl,hml,fun c hc=> ?_⟩;have:=h.eq c hc;rw[←this];unfold PM.add;by_cases e:k=c
 ·subst e;rw[List.getElem?_set_self (by rw[h.pl];omega),List.getElem?_set_self hk];simp
 ·rw[List.getElem?_set_ne e,List.getElem?_set_ne e]
theorem Gat.max(h:Gat s b p m){n:Nat}(hb:∀l∈b,l.length≤n):∀l∈p,l.length≤n:=fun l hl=>by
 obtain⟨c,hc⟩:=List.getElem?_of_mem hl;have hcl:c<s.cs.length:=by rw[←h.pl];exact(List.getElem?_eq_some_iff.1 hc).1
 obtain⟨l',hl'⟩:∃l,b[c]?=some l:=⟨_,List.getElem?_eq_getElem (by rw[h.bl];exact hcl)⟩;have h1:=congrArg List.length (h.eq c hcl);rw[hc,hl']at h1;simp at h1;have:=hb l' (List.mem_of_getElem? hl');omega
theorem Gat.done(h:Gat s b p (List.replicate s.cs.length [])):p.map List.reverse=b:=List.ext_getElem? fun c=>by
 by_cases hc:c<s.cs.length
 ·have:=h.eq c hc;rw[List.getElem?_replicate,if_pos hc]at this;obtain⟨l,hl⟩:∃l,p[c]?=some l:=⟨_,List.getElem?_eq_getElem (by rw[h.pl];exact hc)⟩;obtain⟨l',hl'⟩:∃l,b[c]?=some l:=⟨_,List.getElem?_eq_getElem (by rw[h.bl];exact hc)⟩;rw[hl,hl']at this;simp at this;rw[List.getElem?_map,hl,hl',this];simp
 ·rw[List.getElem?_eq_none (by rw[List.length_map,h.pl];omega),List.getElem?_eq_none (by rw[h.bl];omega)]
end
section
variable {W W':World} {B g:Nat} {us:List Value} {p:List (List Int)}
theorem OW.turn(h:OW W B g us p){c:Nat}{u:Value}{l l':List Int}(hu:us[c]?=some u)(hl:p[c]?=some l)(hk:Kp (fun k=>u.ownBlock=some k) W W')(ho:OI W' B u l'):OW W' B g us (p.set c l'):=by
 have hcp:c<p.length:=(List.getElem?_eq_some_iff.1 hl).1;refine⟨(hk.block g h.lt (fun e=>h.ne c u hu e)).trans h.hl,by rw[List.length_set];exact h.len,fun d v m hv hm=> ?_,h.bg,h.ne,h.dj⟩;by_cases e:c=d
 ·subst e;rw[List.getElem?_set_self hcp]at hm;cases hm;rw[hu]at hv;cases hv;exact ho
 ·rw[List.getElem?_set_ne e]at hm;exact(h.li d v m hv hm).keep fun k hk'=>hk.block k ((h.li d v m hv hm).lt k hk').2 (fun e'=>e (h.dj c d u v k hu hv e' hk'))
end
structure Lk(D:Nat→Prop)(W wr:World)(s:Sn)(b:List (List Int))(g:Nat)(us:List Value)(p:List (List Int)):Prop where
 ow:OW wr (W.heap.size+1) g us p
 bel:Below W.heap.size W wr
 kb:W.heap.size+1≤wr.heap.size
def Nxt(D:Nat→Prop)(W wr:World)(s:Sn)(b p:List (List Int))(v:Value)(dd:Nat):Prop:=
 (v=.pointer none∧dd=0∧p.map List.reverse=b)∨
 ∃(ab d:Nat) (e:En),v=.pointer (some ⟨ab,0,none⟩)∧dd=d+1∧NK wr ab (e.c s)∧ab<W.heap.size+1∧Pth s D W e.pa e.wt e.nd d∧Gat s b p e.nd.b∧e.nd.k<s.cs.length
theorem Nxt.nil{D:Nat→Prop}{W wr:World}{s:Sn}{b p:List (List Int)}(h:p.map List.reverse=b):Nxt D W wr s b p (.pointer none) 0:=Or.inl ⟨rfl,rfl,h⟩
theorem Nxt.node{D:Nat→Prop}{W wr:World}{s:Sn}{b p:List (List Int)}{ab d:Nat}{e:En}(nk:NK wr ab (e.c s))(hab:ab<W.heap.size+1)(h:Pth s D W e.pa e.wt e.nd d)(g:Gat s b p e.nd.b)(hk:e.nd.k<s.cs.length):Nxt D W wr s b p (.pointer (some ⟨ab,0,none⟩)) (d+1):=
 Or.inr ⟨ab,d,e,rfl,rfl,nk,hab,h,g,hk⟩
def rvc(p:List (List Int))(c:Nat):List (List Int):=(p.take c).map List.reverse++p.drop c
theorem rvc_zero(p:List (List Int)):rvc p 0=p:=by unfold rvc;simp
theorem rvc_end(p:List (List Int)):rvc p p.length=p.map List.reverse:=by unfold rvc;simp
theorem rvc_length(p:List (List Int))(c:Nat):(rvc p c).length=p.length:=by unfold rvc;simp;omega
theorem rvc_at{p:List (List Int)}{c:Nat}{l:List Int}(h:p[c]?=some l):(rvc p c)[c]?=some l:=by
 have hc:c<p.length:=(List.getElem?_eq_some_iff.1 h).1;unfold rvc;rw[List.getElem?_append_right (by simp;omega),List.length_map,List.length_take,show c-min c p.length=0 by omega,List.getElem?_drop,Nat.add_zero,h]
theorem rvc_succ{p:List (List Int)}{c:Nat}{l:List Int}(h:p[c]?=some l):(rvc p c).set c l.reverse=rvc p (c+1):=by
 have hc:c<p.length:=(List.getElem?_eq_some_iff.1 h).1;unfold rvc;rw[List.set_append_right _ _ (by simp;omega),List.length_map,List.length_take,show c-min c p.length=0 by omega,List.drop_eq_getElem_cons hc,List.set_cons_zero,take_snoc h,List.map_append,List.append_assoc]
 rfl
section
variable {D:Nat→Prop} {W:World} {tb d:Nat} {s:Sn} {vc vw vb:Value} {e:En}
theorem lists_any(ht:TR D W tb s vc vw vb)(hp:Pth s D W e.pa e.wt e.nd d)(ok:e.nd.ok s):
  Calls Tryz.prog 94 #[.pointer (some ⟨tb,0,none⟩),.agg (e.c s).toArray] W fun r w'=>Below W.heap.size W w'∧∃v,r=.returned v∧RL (fun g=>W.heap.size≤g) w' v e.nd.b:=by
 have hb0:=(Below.refl W.heap.size W).alloc (Nat.le_refl _) (.cells (e.c s).toArray 171);have HNK:=Hd (NK.new W (En.len s e));have HB0:=Hd hb0;have HS0:Hid ((W.alloc (.cells (e.c s).toArray 171)).heap.size=W.heap.size+1):=by show _=_;simp
 obtain⟨ac,kc,rfl,_,_⟩:=ht.cs.form;have c13:(W.alloc (.cells (e.c s).toArray 171)).cell? ⟨tb,13,none⟩=some (.slice ac s.cs.length kc):=(ht.below' hb0).c13;obtain⟨n8,hrs⟩:=rgt_rs ht.rg;have hwl:s.ws.length≤128:=hrs.wl;have hcl:s.cs.length≤8:=by have:=hrs.cl;have:=hrs.n8;omega
 have hmk:=mkL s.cs.length (by omega);have HP:=Hd hp;have HOK:=Hd ok;have HLL:=Hd ok.ll;clear ht hp ok hrs hb0
 go_enter Tryz.func94,Tryz.ntmps94
 go_wp2_with fail
 clear c13 hmk;generalize W.alloc (.cells (e.c s).toArray 171)=X at HNK HB0 HS0⊢;have hbY:=(Below.refl X.heap.size X).alloc (Nat.le_refl _) (.cells (Array.replicate s.cs.length (Value.slice none 0 0)) 90)
 have HL0:Hid (Lk D W (X.alloc (.cells (Array.replicate s.cs.length (Value.slice none 0 0)) 90)) s e.nd.b (W.heap.size+1) (List.replicate s.cs.length (Value.slice none 0 0)) (List.replicate s.cs.length [])):=by
  have:=OW.make (B:=W.heap.size+1) X s.cs.length (by rw[HS0.out];exact Nat.le_refl _);rw[List.toArray_replicate,HS0.out]at this;exact⟨this,below_class HB0.out hbY,by simp;have:=HS0.out;omega⟩
 have HN0:Hid (Nxt D W (X.alloc (.cells (Array.replicate s.cs.length (Value.slice none 0 0)) 90)) s e.nd.b (List.replicate s.cs.length []) (.pointer (some ⟨W.heap.size,0,none⟩)) (d+1)):=
  .node (HNK.out.below' hbY) (by omega) HP.out (Gat.start HOK.out.bl) (by have:=HOK.out.kl;have:=HOK.out.bl;omega)
 clear hbY HNK HB0;generalize X.alloc (.cells (Array.replicate s.cs.length (Value.slice none 0 0)) 90)=Y at HL0 HN0⊢;have HDM:=Hd HP.out.dm;clear HP
 go_loopw [6] (fun av wr=>∃(us:List Value) (p:List (List Int)) (dd:Nat),Hid (Nxt D W wr s e.nd.b p av dd)∧Hid (Lk D W wr s e.nd.b (W.heap.size+1) us p)) (fun av wr=>chl wr 1000 av)
 case atStart=>exact⟨_,_,_,HN0,HL0⟩
 case round=>
  clear HN0 HL0;obtain⟨us,p,dd,HN,HL⟩:=hrel;have hn:=HN.out;clear HN;rcases hn with⟨rfl,rfl,hpb⟩|⟨ab,dd,e',rfl,rfl,nk,hab,h,g,hk⟩
  ·skip
   have HPL:Hid (p.length=s.cs.length):=by
    have:=congrArg List.length hpb;rw[List.length_map,HOK.out.bl]at this;exact this
   have HPM:Hid (∀l∈p,l.length≤128):=fun l hl=>by
    have:=HLL.out l.reverse (by rw[←hpb];exact List.mem_map.2 ⟨l,hl,rfl⟩);rwa[List.length_reverse]at this
   have HPB:=Hd hpb;clear hpb;have HR0:Hid (OW wr (W.heap.size+1) (W.heap.size+1) us (rvc p 0)∧Below W.heap.size W wr):=⟨by rw[rvc_zero];exact HL.out.ow,HL.out.bel⟩;clear HL
   go_wp2_with fail
   generalize wr=V at HR0⊢
   go_loopw [48] (fun iv wr=>∃c:Nat,c≤s.cs.length∧iv=.int .i64 (c:Int)∧Hid (OW wr (W.heap.size+1) (W.heap.size+1) us (rvc p c)∧Below W.heap.size W wr)) (fun iv _=>s.cs.length-(intOf iv).toNat)
   case atStart=>exact⟨0,Nat.zero_le _,rfl,HR0⟩
   case round=>
    clear HR0;obtain⟨c,hc,rfl,HR⟩:=hrel;by_cases hlt:c<s.cs.length
    ·have hcz:(c:Int)<(s.cs.length:Int):=by omega
     obtain⟨l,hl⟩:∃l,p[c]?=some l:=⟨_,List.getElem?_eq_getElem (by rw[HPL.out];exact hlt)⟩;have hl2:(rvc p c)[c]?=some l:=rvc_at hl;obtain⟨u,hu⟩:∃u,us[c]?=some u:=⟨_,List.getElem?_eq_getElem (by rw[HR.out.1.len,rvc_length,HPL.out];exact hlt)⟩;have ou:=HR.out.1.li c u l hu hl2;have cu:wr.cell? ⟨W.heap.size+1,c,none⟩=some u:=(blk_cell HR.out.1.hl c).trans hu;have HRV:=Hd (revI_any ou (by have:=HPM.out l (List.mem_of_getElem? hl);omega));have HLU:=Hd (And.intro hl (And.intro hl2 hu))
     have hux:∃a n k,u=.slice a n k:=by
      obtain⟨a,k,h⟩:=ou.slice;exact⟨a,_,k,h⟩
     have HOU:=Hd ou;clear hl hl2 hu ou;obtain⟨au,nu,ku,rfl⟩:=hux
     go_wp2_with fail
     refine HRV.out.mono ?_;rintro r W3 ⟨⟨vr,rfl⟩,ho3,hk3⟩
     have HR3:Hid (OW W3 (W.heap.size+1) (W.heap.size+1) us (rvc p (c+1))∧Below W.heap.size W W3):=by
      refine⟨?_,hk3.below HR.out.2 HR.out.2.size (fun i hi e=>by have:=(HOU.out.lt i e).1;omega)⟩;have:=HR.out.1.turn HLU.out.2.2 HLU.out.2.1 hk3 ho3;rwa[rvc_succ HLU.out.1]at this
     clear ho3 hk3 HRV HR cu HOU HLU;go_wp2;go_roundw
     case rel=>exact⟨c+1,by omega,by go_num,HR3⟩
     case measure=>simp[intOf];omega
    ·have hcz:¬(c:Int)<(s.cs.length:Int):=by omega
     have hce:c=p.length:=by have:=HPL.out;omega
     have hR:=HR.out;rw[hce,rvc_end,HPB.out]at hR;have hlen:=HOK.out.bl
     have HE:Hid (Below W.heap.size W wr∧RL (fun g=>W.heap.size≤g) wr (.slice (some ⟨W.heap.size+1,0,none⟩) s.cs.length s.cs.length) e.nd.b):=by
      refine⟨hR.2,?_⟩;have:=hR.1.rl (D:=fun g=>W.heap.size≤g) fun q hq=>by show _≤q;omega
      rwa[hlen]at this
     clear hR hlen HR hce;go_wp2;go_ret;exact⟨HE.out.1,_,rfl,HE.out.2⟩
  ·obtain⟨pa,wt,nd⟩:=e'
   replace nk:NK wr ab (ncl s pa wt nd):=nk
   replace h:Pth s D W pa wt nd dd:=h
   replace g:Gat s e.nd.b p nd.b:=g
   replace hk:nd.k<s.cs.length:=hk
   have HPT:=Hd (h.below' HL.out.bel);have HDD:Hid (dd<900):=by have:=h.dm;show _<_;omega
   have HCH:Hid (chl wr 1000 (.pointer (some ⟨ab,0,none⟩))=dd+1):=by show _=_;rw[chl_cell (nk.cell 0),HPT.out.chl 999 (by have:=HDD.out;omega)]
   have HAB:=Hd hab;have c0:wr.cell? ⟨ab,0,none⟩=some (.pointer pa):=nk.cell 0;have c1:wr.cell? ⟨ab,1,none⟩=some (.int .i64 (nd.k:Int)):=nk.cell 1;have c2:wr.cell? ⟨ab,2,none⟩=some (.int .i64 wt):=nk.cell 2;have HNK:=Hd nk;have HG:=Hd g;rcases h.ways with⟨rfl,rfl,rfl,rfl⟩|⟨pa',wt',n',d',q',w',rfl,rfl,rfl,rfl,hd,hq,h',hk',hw⟩|⟨pa',wt',n',d',q',rfl,rfl,rfl,rfl,hd,hq,h',hk'⟩<;>clear h
   ·skip
    have HNX:Hid (Nxt D W wr s e.nd.b p (.pointer none) 0):=.nil (Gat.done g);clear nk g hk hab HNK HG;go_wp2;go_roundw
    case rel=>exact⟨us,p,0,HNX,HL⟩
    case measure=>rw[chl_nil,HCH.out];omega
   rotate_left 1
   ·skip
    have HPT':=Hd (h'.below' HL.out.bel);have hq2:=hq.below' HL.out.bel;have HNX:Hid (Nxt D W wr s e.nd.b p (.pointer (some ⟨q',0,none⟩)) (d'+1)):=.node (e:=⟨pa',wt',n'⟩) hq2 (by have:=hq.lt;omega) h' g (by have h5:n'.k+1<s.cs.length:=hk;show n'.k<_;omega);have HCQ:Hid (chl wr 1000 (.pointer (some ⟨q',0,none⟩))=d'+1):=by show _=_;rw[chl_cell (hq2.cell 0),HPT'.out.chl 999 (by have:=HDD.out;omega)]
    clear nk g hk hab HNK HG hq hq2 h' hk' hd;go_wp2;go_roundw
    case rel=>exact⟨us,p,_,HNX,HL⟩
    case measure=>rw[HCQ.out,HCH.out];omega
   ·skip
    have HPT':=Hd (h'.below' HL.out.bel);have hq2:=hq.below' HL.out.bel;have HCQ:Hid (∀W',Below W.heap.size W W'→chl W' 1000 (.pointer (some ⟨q',0,none⟩))=d'+1):=fun W' hb=>by rw[chl_cell ((hq.below' hb).cell 0),(h'.below' hb).chl 999 (by have:=HDD.out;omega)]
    have HNX:Hid (∀W',Below W.heap.size W W'→Nxt D W W' s e.nd.b (PM.add p n'.k (w':Int)) (.pointer (some ⟨q',0,none⟩)) (d'+1)):=fun W' hb=>.node (e:=⟨pa',wt',n'⟩) (hq.below' hb) (by have:=hq.lt;omega) h' (Gat.add (show Gat s e.nd.b p (PM.add n'.b n'.k (w':Int))from g) hk') hk;have hkc:n'.k<s.cs.length:=hk;have hkz:(n'.k:Int)<(s.cs.length:Int):=by omega
    have c1':wr.cell? ⟨ab,1,none⟩=some (.int .i64 (n'.k:Int)):=c1;have HGM:=Hd (g.max HLL.out);have HGL:=Hd g.pl;clear c1 nk g hk hab HG hq hq2 h' hk' hd hw;generalize n'.k=k at*;obtain⟨l,hl⟩:∃l,p[k]?=some l:=⟨_,List.getElem?_eq_getElem (by rw[HGL.out];exact hkc)⟩;obtain⟨u,hu⟩:∃u,us[k]?=some u:=⟨_,List.getElem?_eq_getElem (by rw[HL.out.ow.len,HGL.out];exact hkc)⟩;have hln:l.length≤1000:=by have:=HGM.out l (List.mem_of_getElem? hl);omega
    have ou:=HL.out.ow.li k u l hu hl;obtain⟨au,ku,rfl⟩:=ou.slice;have HLI:=Hd hl;have HU:=Hd hu;have hw0:¬((w':Int)= -1):=by omega
    clear hl hu
    go_wp2_with fail
    have hbd:=(Below.refl wr.heap.size wr).drew;have hal:=hbd.alloc (Nat.le_refl _) (.cells #[.int .i64 (w':Int)] 3);have HOA:=Hd (ou.below' hal);have HQA:=Hd (HL.out.ow.next hal);have HBA:=Hd (below_class HL.out.bel hal);have HCX:Hid ((wr.drew.alloc (.cells #[.int .i64 (w':Int)] 3)).cell? ⟨wr.drew.heap.size,0,none⟩=some (.int .i64 (w':Int))):=(OI.lit (B:=0) wr.drew [(w':Int)] (Nat.zero_le _) (by unfold maxLen;simp)).cell (i:=0) rfl;have ra:=HNK.out.below' hbd;have rb:=HNK.out.below' hal;have k1:wr.drew.cell? ⟨W.heap.size+1,k,none⟩=some (.slice au l.length ku):=(blk_cell (HL.out.ow.next hbd).hl k).trans HU.out;have k2:(wr.drew.alloc (.cells #[.int .i64 (w':Int)] 3)).cell? ⟨W.heap.size+1,k,none⟩=some (.slice au l.length ku):=(blk_cell HQA.out.hl k).trans HU.out;have k4:(wr.alloc (.cells #[.int .i64 (w':Int)] 3)).drew.cell? ⟨W.heap.size+1,k,none⟩=some (.slice au l.length ku):=k2;have k5:(wr.alloc (.cells #[.int .i64 (w':Int)] 3)).cell? ⟨W.heap.size+1,k,none⟩=some (.slice au l.length ku):=k2;have m1:wr.drew.cell? ⟨ab,1,none⟩=some (.int .i64 (k:Int)):=(ra.cell 1).trans ((HNK.out.cell 1).symm.trans c1');have m2:(wr.drew.alloc (.cells #[.int .i64 (w':Int)] 3)).cell? ⟨ab,1,none⟩=some (.int .i64 (k:Int)):=(rb.cell 1).trans ((HNK.out.cell 1).symm.trans c1');have m4:(wr.alloc (.cells #[.int .i64 (w':Int)] 3)).drew.cell? ⟨ab,1,none⟩=some (.int .i64 (k:Int)):=m2;have m5:(wr.alloc (.cells #[.int .i64 (w':Int)] 3)).cell? ⟨ab,1,none⟩=some (.int .i64 (k:Int)):=m2;have n1:wr.drew.cell? ⟨ab,2,none⟩=some (.int .i64 (w':Int)):=ra.cell 2;have hsz:W.heap.size+1≤wr.heap.size:=HL.out.kb;have hne:some (W.heap.size+1)≠(Value.slice au l.length ku).ownBlock:=fun e=>HL.out.ow.ne k _ HU.out e.symm;have hna:some ab≠(Value.slice au l.length ku).ownBlock:=fun e=>by have:=(ou.lt ab e.symm).1;have:=HAB.out;omega
    have HLT:=Hd HNK.out.lt;clear hbd hal ra rb;have HLO:=Hd HL.out;clear HL ou
    go_region_law ((refine step_appI (by rfl) (.tmp 38) (.tmp 43) (by rfl) (W.heap.size+1) (l:=l) (y:=(w':Int)) (by rfl) HOA.out hln (by rfl) HCX.out (by simp;omega) ?_;intro g' cap' W10 ho10 hg10 hat10;have p10:=(hg10.block (W.heap.size+1) HQA.out.lt hne).trans HQA.out.hl;have q1:W10.cell? ⟨W.heap.size+1,k,none⟩=some (.slice au l.length ku):=(blk_cell p10 k).trans HU.out;have q2:W10.frozen? ⟨W.heap.size+1,k,none⟩=false:=blk_fr p10 k;have q3:W10.cell? ⟨ab,1,none⟩=some (.int .i64 (k:Int)):=hg10.cell m2 hna))
    all_goals
     have hadd:=HQA.out.add HU.out HLI.out (x:=(w':Int)) hg10 (q:=g') (u':=.slice (some ⟨g',0,none⟩) (l.length+1) cap') rfl hat10 ho10;have hb10:Below W.heap.size W (W10.setCell ⟨W.heap.size+1,k,none⟩ (.slice (some ⟨g',0,none⟩) (l.length+1) cap')):=(HBA.out.grown hg10 (by simp;omega) (fun j hj=>by have:=(HOA.out.lt j hj).1;omega)).setCell (p:=⟨W.heap.size+1,k,none⟩) (by show _≤W.heap.size+1;omega) (.slice (some ⟨g',0,none⟩) (l.length+1) cap');have hab0:ab≠W.heap.size+1:=by have:=HAB.out;omega
     have z0:(W10.setCell ⟨W.heap.size+1,k,none⟩ (.slice (some ⟨g',0,none⟩) (l.length+1) cap')).cell? ⟨ab,0,none⟩=some (.pointer (some ⟨q',0,none⟩)):=by
      have h1:W10.cell? ⟨ab,0,none⟩=some (.pointer (some ⟨q',0,none⟩)):=hg10.cell ((Below.cell ((Below.refl wr.heap.size wr).drew.alloc (Nat.le_refl _) (.cells #[.int .i64 (w':Int)] 3)) (p:=⟨ab,0,none⟩) HLT.out).trans c0) hna;rw[←h1];exact World.cell?_of_block (a:=⟨ab,0,none⟩) (Below.heap_setCell W10 ⟨W.heap.size+1,k,none⟩ _ ab hab0)
     have HLK:Hid (Lk D W (W10.setCell ⟨W.heap.size+1,k,none⟩ (.slice (some ⟨g',0,none⟩) (l.length+1) cap')) s e.nd.b (W.heap.size+1) (us.set k (.slice (some ⟨g',0,none⟩) (l.length+1) cap')) (PM.add p k (w':Int))):=⟨hadd,hb10,Nat.le_of_lt hadd.lt⟩;have HNX2:=Hd (HNX.out _ hb10);have HCQ2:=Hd (HCQ.out _ hb10);clear hadd hb10 hab0 ho10 hg10 hat10 p10 q1 q2 q3 k1 k2 k4 k5 m1 m2 m4 m5 n1 HOA HQA HBA HCX HLO HNX HCQ hna hne c0 c1' c2 HPT HPT';generalize W10.setCell ⟨W.heap.size+1,k,none⟩ (.slice (some ⟨g',0,none⟩) (l.length+1) cap')=W11 at HLK HNX2 HCQ2 z0⊢;go_wp2;go_roundw
     case rel=>exact⟨_,_,_,HNX2,HLK⟩
     case measure=>rw[HCQ2.out,HCH.out];omega
end
section
variable {F:Fence} {n:Nat} {ops:Array Oper} {rest:List Oper} {op:Oper} {a:Act} {w:World} {Q:Exit→Act→World→Prop}
theorem wpListIn_val(hg:op.guard=none)(hd:∀c,op.op≠.defer c)(hab:op.about Tryz.prog w a.eval=none){v:Value}{w':World}(hrun:(execOp a.eval op).run Tryz.prog w=.ok (.value v) w')
  (h:wpListIn F n Tryz.prog ops Q rest (a.put op.dst v) w'):wpListIn F n Tryz.prog ops Q (op::rest) a w:=by
 refine wpListIn_plain hg fun K hK=> ?_;unfold Oper.wpIn;refine⟨fun f hf=>(by rw[hab]at hf;cases hf),?_⟩;rw[Oper.semAt_plain F _ _ hd,hrun];exact hK _ _ h
theorem wpListIn_skp(hg:op.guard=none)(hd:∀c,op.op≠.defer c)(hab:op.about Tryz.prog w a.eval=none){w':World}(hrun:(execOp a.eval op).run Tryz.prog w=.ok .skip w')
  (h:wpListIn F n Tryz.prog ops Q rest (a.put op.dst undef) w'):wpListIn F n Tryz.prog ops Q (op::rest) a w:=by
 refine wpListIn_plain hg fun K hK=> ?_;unfold Oper.wpIn;refine⟨fun f hf=>(by rw[hab]at hf;cases hf),?_⟩;rw[Oper.semAt_plain F _ _ hd,hrun];exact hK _ _ h
theorem wpListIn_loadN(hgd:op.guard=none)(x:Operand)(ho:op.op=.load 171 x)(b o:Nat)(cs:List Value)(hl:cs.length=136)(hx:a.eval x=.pointer (some ⟨b,o,none⟩))(hr:w.rangeAt b o cs)
  (h:wpListIn F n Tryz.prog ops Q rest (a.put op.dst (.agg cs.toArray)) w):wpListIn F n Tryz.prog ops Q (op::rest) a w:=
 wpListIn_val hgd (by rw[ho];intro c hc;cases hc) (by simp[Oper.about,ho]) (by unfold execOp;simp only[ho,hx,Sem.run_bind,Sem.run_pure,Result.andThen_ok,loadN w b o cs hl hr]) h
theorem wpListIn_allocN(hgd:op.guard=none)(ho:op.op=.alloc 171)
  (h:wpListIn F n Tryz.prog ops Q rest (a.put op.dst (.pointer (some ⟨w.heap.size,0,none⟩))) (w.alloc (.cells zn.toArray 171))):wpListIn F n Tryz.prog ops Q (op::rest) a w:=
 wpListIn_val hgd (by rw[ho];intro c hc;cases hc) (by simp[Oper.about,ho]) (by unfold execOp;simp only[ho,Sem.run_bind,Sem.run_pure,Result.andThen_ok,run_allocN]) h
theorem wpListIn_storeN1(hgd:op.guard=none)(x y:Operand)(ho:op.op=.store 171 x y)(b:Nat){old cs:List Value}(hx:a.eval x=.pointer (some ⟨b,0,none⟩))(hy:a.eval y=.agg cs.toArray)(hL:NK w b old)(hl:cs.length=136)(h1:∀u∈cs,u.oneCell'=true)
  (hn:wpListIn F n Tryz.prog ops Q rest (a.put op.dst undef) (w.setRow b cs.toArray)):wpListIn F n Tryz.prog ops Q (op::rest) a w:=
 wpListIn_skp hgd (by rw[ho];intro c hc;cases hc) (by simp[Oper.about,ho])
  (by
   unfold execOp
   simp only[ho,hx,hy,Instr.storeAt,Instr.sureAddr,Sem.run_bind,Sem.run_pure,Result.andThen_ok,run_storeVar_row (P:=Tryz.prog) w b 171 171 _ _ hL.2 (by rw[List.size_toArray,hl];exact infoN) (by rw[List.size_toArray,List.size_toArray,hl,hL.1]) (all_oneCell_toArray h1)])
  hn
theorem wpListIn_appN(hgd:op.guard=none)(x y:Operand)
  (ho:op.op=.call {callee:=.builtin .append,args:= #[x,y],argTypes:= #[173,173]})
  (s:Sn) (B:Nat) (v:Value) (L:List En) (hs:a.eval x=v) (hown:ON s w B v L) (g c:Nat) (e:En) (hx:a.eval y=.slice (some ⟨g,0,none⟩) 1 c) (hc:w.rangeAt g 0 (e.c s))
  (N:Nat) (hN:L.length=N) (h63:L.length≤200000000) (hB:B≤w.heap.size)
  (h:∀g' cap w',ON s w' B (.slice (some ⟨g',0,none⟩) (N+1) cap) (L++[e])→w.grownBy w' v.ownBlock→(v.ownBlock=some g'∨g'=w.heap.size)→g'<w'.heap.size→wpListIn F n Tryz.prog ops Q rest (a.put op.dst (.slice (some ⟨g',0,none⟩) (N+1) cap)) w'):wpListIn F n Tryz.prog ops Q (op::rest) a w:=by
 subst hN;obtain⟨i0,hi,hz0,hz1,hz2⟩:=info_parts infoNz;obtain⟨g',cap,w',hr,h2,h3,h4,h5⟩:=run_append_lies (P:=Tryz.prog) w 173 op.type B 171 i0 _ 136 192 Tryz.underlying173 hi hz0 hz1 hz2 (by simp[Value.cells,zn_length]) (by decide) v L.length (nrow s L) hown ⟨g,0,none⟩ 1 c (e.c s) (by rw[En.len]) (fun j u hj=>by rw[Addr.add_mid];exact hc j u hj) (ncl_one _ _ _ _) (by omega) (by unfold maxLen;omega) (by omega) hB w.heap.size rfl;refine wpListIn_val hgd (by rw[ho];intro c hc;cases hc) (by simp[Oper.about,ho,resolve,Target.leads,Sem.run_pure]) (v:=.slice (some ⟨g',0,none⟩) (L.length+1) cap) (w':=w') ?_ (h g' cap w' ?_ h3 h4 h5)
 ·unfold execOp;simp only[ho,resolve,invoke,builtin,Sem.run_bind,Sem.run_pure,Result.andThen_ok,List.map_toArray,List.map_cons,List.map_nil,hs,hx,hr]
 ·unfold ON;rw[List.length_append,nrow_append,nrow_one];exact h2
theorem wpListIn_build1N(hg:op.guard=none)(x:Operand)(ho:op.op=.buildSlice 173 1 #[(0,x)])(cs:List Value)(hl:cs.length=136)(hx:a.eval x=.agg cs.toArray)
  (h:wpListIn F n Tryz.prog ops Q rest (a.put op.dst (.slice (some ⟨w.heap.size,0,none⟩) 1 1)) (w.alloc (.cells cs.toArray 171))):wpListIn F n Tryz.prog ops Q (op::rest) a w:=by
 refine wpListIn_val hg (by rw[ho];intro c hc;cases hc) (by simp[Oper.about,ho]) ?_ h;obtain⟨i0,hi,hz0,hz1,hz2⟩:=info_parts infoNz;have hf:=built1N cs hl;unfold Program.builtSlice at hf;rw[hi]at hf;simp only[hz0,hz1]at hf;rw[if_neg (by omega)]at hf;unfold execOp;simp[ho,hx,Instr.buildSlice,run_underlying Tryz.underlying173,sizeOf,typeInfo,zeroValue,hi,hz0,hz1,hf,newRow]
end
attribute [local go_sem] Oper.semAt_some
theorem children_any(tb q:Nat)(w:World):
  Calls Tryz.prog 132 #[.pointer (some ⟨tb,0,none⟩),.pointer (some ⟨q,0,none⟩)] w fun e w'=>e=.returned (.func (.func 155) #[] #[.pointer (some ⟨w.heap.size,0,none⟩),.pointer (some ⟨w.heap.size+1,0,none⟩)])∧w'=(w.alloc (.cells #[.pointer (some ⟨tb,0,none⟩)] 137)).alloc (.cells #[.pointer (some ⟨q,0,none⟩)] 168):=by
 have hmf:∀(fn:Fn) (first cap:Array Value) (w:World),(Instr.makeFunc fn first cap).run Tryz.prog w=.ok (.func fn first cap) w:=fun _ _ _ _=>rfl
 go_enter Tryz.func132,Tryz.ntmps132
 go_wp2;go_ret;exact⟨rfl,rfl⟩
theorem rev_nil(a:Option Addr)(c:Nat)(w:World):
  Calls Tryz.prog 133 #[.slice a 0 c] w fun e w'=>(∃v,e=.returned v)∧w'=w:=by
 go_enter Tryz.func133,Tryz.ntmps133
 go_wp2_with fail
 go_loopw [2,3] (fun iv jv wr=>iv=.int .i64 0∧jv=.int .i64 (-1)∧wr=w) (fun _ _ _=>0)
 case atStart=>exact⟨rfl,rfl,rfl⟩
 case round=>
  obtain⟨rfl,rfl,rfl⟩:=hrel;go_wp2
  go_end0
  exact⟨⟨_,rfl⟩,rfl⟩
def restN(a:Option Addr)(cap j:Nat):Option Addr:=if cap=j then a else a.map fun x=>x.add (j*136)
theorem slice_restN(aa:Option Addr)(La ac n:Nat)(w:World)(hn:n≤La):(Instr.sliceAt 173 (.slice aa La ac) (some (.int .i64 (n:Int))) none none).run Tryz.prog w=.ok (.slice (restN aa ac n) (La-n) (ac-n)) w:=by
 have h1:(n:Int)≤(La:Int):=by omega
 unfold restN;cases aa with
 |none=>simp[go_sem,h1]
 |some x=>
  by_cases e:ac=n
  ·simp[go_sem,h1,e]
  ·simp[go_sem,h1,e]
structure PI(s:Sn)(Z:World)(B b4:Nat)(v:Value)(L:List En)(pre:List En)(F:Nat→Prop)(A:World):Prop where
 kb:KB Z (fun k=>k=b4∨v.ownBlock=some k) F A
 lt:b4<Z.heap.size
 fl:∀k,F k→k<A.heap.size
 ex:∃u,A.heap[b4]?=some (.cells #[u] 173 (0,0))∧ON s A B u (L++pre)∧(u.ownBlock=v.ownBlock∨∀g,u.ownBlock=some g→Z.heap.size≤g)∧(∀g,u.ownBlock=some g→¬F g)
theorem pi_stb(s:Sn)(Z:World)(B b4:Nat)(v:Value)(L:List En):Stb (PI s Z B b4 v L):=fun pre F F' A A' h hk hF=>by
 obtain⟨u,h1,h2,h3,h4⟩:=h.ex;refine⟨h.kb.stb hk hF,h.lt,fun k hf=>(hF k hf).elim (fun e=>Nat.lt_of_lt_of_le (h.fl k e) hk.size) (fun e=>e.2),u,(hk.block b4 (Array.getElem?_eq_some_iff.1 h1).1 (h.kb.2 b4 h.lt)).trans h1,h2.keep fun g hg=>hk.block g (h2.lt g hg).2 (h4 g hg),h3,fun g hg hf=> ?_⟩;rcases hF g hf with e|e
 ·exact h4 g hg e
 ·have:=(h2.lt g hg).2;omega
theorem PI.add{s:Sn}{Z A A2:World}{B b4:Nat}{v u:Value}{L pre:List En}{F G:Nat→Prop}(h:PI s Z B b4 v L pre F A)(hv:∀g,v.ownBlock=some g→g<b4)(hG:∀k,G k→k<Z.heap.size∧k≠b4∧v.ownBlock≠some k)(h1:A.heap[b4]?=some (.cells #[u] 173 (0,0)))(h3:u.ownBlock=v.ownBlock∨∀g,u.ownBlock=some g→Z.heap.size≤g)(h4:∀g,u.ownBlock=some g→¬F g)
  {x:En} {g' n cap:Nat} (o:Obj) (hg:(A.alloc o).grownBy A2 u.ownBlock) (hor:u.ownBlock=some g'∨g'=(A.alloc o).heap.size) (hO:ON s A2 B (.slice (some ⟨g',0,none⟩) n cap) (L++pre++[x])):
  PI s Z B b4 v L (pre++[x]) F (A2.setCell ⟨b4,0,none⟩ (.slice (some ⟨g',0,none⟩) n cap))∧Kept (fun k=>F k∨G k) A (A2.setCell ⟨b4,0,none⟩ (.slice (some ⟨g',0,none⟩) n cap)):=by
 have hlt:=h.lt;have hzs:=h.kb.1.size
 have hub:u.ownBlock≠some b4:=fun e=>by
  rcases h3 with e2|e2
  ·have:=hv b4 (e2.symm.trans e);omega
  ·have:=e2 b4 e;omega
 have hgA:∀k,k<A.heap.size→u.ownBlock≠some k→A2.heap[k]?=A.heap[k]?:=fun k hk hne=>(hg.block k (by simp;omega) (fun e=>hne e.symm)).trans (Below.heap_alloc _ _ _ hk);have hz2:A.heap.size≤A2.heap.size:=by have:=hg.size;simp at this;omega
 have keep:∀k,k≠b4→(A2.setCell ⟨b4,0,none⟩ (.slice (some ⟨g',0,none⟩) n cap)).heap[k]?=A2.heap[k]?:=fun k hk=>Below.heap_setCell A2 ⟨b4,0,none⟩ _ k hk;have hb4:A2.heap[b4]?=some (.cells #[u] 173 (0,0)):=(hgA b4 (by omega) hub).trans h1
 have hg'b:g'≠b4:=fun e=>by
  subst e;rcases hor with e|e
  ·exact hub e
  ·simp at e;omega
 have hkp:Kp (fun k=>k=b4∨u.ownBlock=some k) A (A2.setCell ⟨b4,0,none⟩ (.slice (some ⟨g',0,none⟩) n cap)):=
  (((Kp.refl (fun k=>k=b4∨u.ownBlock=some k) A).alloc o).grown hg (fun k _ e=>.inr e)).set b4 0 _ (fun _=>.inl rfl)
 refine⟨⟨⟨h.kb.1.trans hkp (fun k hk e=> ?_),h.kb.2⟩,hlt,fun k hf=>Nat.lt_of_lt_of_le (h.fl k hf) hkp.size,.slice (some ⟨g',0,none⟩) n cap,?_,?_,?_,?_⟩,Kept.ofKp hkp (fun k hk hf e=> ?_)⟩
 ·rcases e with e|e
  ·exact .inl e
  ·rcases h3 with e2|e2
   ·exact .inr (e2.symm.trans e)
   ·have:=e2 k e;omega
 ·exact blk_set (C:=[u]) hb4 0 _
 ·rw[←List.append_assoc];exact hO.keep fun g hg2=>by cases hg2;exact keep g' hg'b
 ·rcases hor with e|e
  ·rcases h3 with e2|e2
   ·left;rw[←e2,e];rfl
   ·right;intro g hg2;have hgg:g'=g:=by simpa[Value.ownBlock]using hg2
    subst hgg;exact e2 g' e
  ·right;intro g hg2;have hgg:g'=g:=by simpa[Value.ownBlock]using hg2
   subst hgg;simp at e;omega
 ·intro g hg2 hf;have hgg:g'=g:=by simpa[Value.ownBlock]using hg2
  subst hgg;rcases hor with e|e
  ·exact h4 g' e hf
  ·have:=h.fl g' hf;simp at e;omega
 ·rcases hf with hf|hf
  ·rcases e with e|e
   ·rw[e]at hf;exact h.kb.2 b4 hlt hf
   ·exact h4 k e hf
  ·have hk2:=hG k hf;rcases e with e|e
   ·exact hk2.2.1 e
   ·rcases h3 with e2|e2
    ·exact hk2.2.2 (e2.symm.trans e)
    ·have:=e2 k e;omega
theorem PI.fin{s:Sn}{W Z A A3:World}{B q Dd:Nat}{v u:Value}{L M:List En}{F:Nat→Prop}{cs:List Value}(h:PI s Z B W.heap.size v L M F A)(hv:∀g,v.ownBlock=some g→g<W.heap.size)(h3:u.ownBlock=v.ownBlock∨∀g,u.ownBlock=some g→Z.heap.size≤g)(h4:∀g,u.ownBlock=some g→¬F g)
  (hD:Z.heap.size≤Dd) (hF:F Dd) (hk3:Kp (fun k=>u.ownBlock=some k) A A3) (hO:ON s A3 B u (L++M.reverse)) (hq:NK Z q cs) (hqb:W.heap.size<q) (hb:Below W.heap.size W Z):
  NK (A3.putObj Dd (.deferred none)) q cs∧ON s (A3.putObj Dd (.deferred none)) B u (L++M.reverse)∧(u.ownBlock=v.ownBlock∨∀g,u.ownBlock=some g→W.heap.size≤g)∧u.ownBlock≠some q∧Kp (fun k=>v.ownBlock=some k) W (A3.putObj Dd (.deferred none)):=by
 have hqz:=hq.lt;have hzs:=h.kb.1.size;have hws:=hb.size
 have huq:∀k,W.heap.size≤k→k<Z.heap.size→u.ownBlock≠some k:=fun k hk1 hk2 e=>by
  rcases h3 with e2|e2
  ·have:=hv k (e2.symm.trans e);omega
  ·have:=e2 k e;omega
 have hkA:Kp (fun k=>k=W.heap.size∨v.ownBlock=some k) Z (A3.putObj Dd (.deferred none)):=
  ((h.kb.1.trans hk3 (fun k hk e=>by
   rcases h3 with e2|e2
   ·exact .inr (e2.symm.trans e)
   ·have:=e2 k e;omega)).put Dd _ (fun hlt=>by omega))
 refine⟨hq.kp hkA (fun e=> ?_),hO.keep fun g hg=>World.putObj_heap_other (fun e=>h4 g hg (e▸hF)),?_,huq q (by omega) hqz,?_⟩
 ·rcases e with e|e
  ·omega
  ·have:=hv q e;omega
 ·rcases h3 with e|e
  ·exact .inl e
  ·exact .inr fun g hg=>by have:=e g hg;omega
 ·exact(Kp.ofBelow (fun k=>v.ownBlock=some k) hb).trans hkA (fun k hk e=>by
   rcases e with e|e
   ·omega
   ·exact e)
section
variable {D:Nat→Prop} {W:World} {tb B:Nat} {s:Sn} {vc vw vb v:Value} {e:En} {L:List En}
theorem push_any(ht:TR D W tb s vc vw vb)(hv:ON s W B v L)(hD:∀g,v.ownBlock=some g→¬D g)(ok:e.nd.ok s)(hB:B≤W.heap.size)(hL:L.length≤150000000):
  Calls Tryz.prog 96 #[.pointer (some ⟨tb,0,none⟩),v,.agg (e.c s).toArray] W fun r w'=>∃v' q,r=.returned v'∧W.heap.size≤q∧NK w' q (e.c s)∧ON s w' B v' (L++(che s e q).reverse)∧(v'.ownBlock=v.ownBlock∨∀g,v'.ownBlock=some g→W.heap.size≤g)∧v'.ownBlock≠some q∧Kp (fun k=>v.ownBlock=some k) W w':=by
 have hb1:=(Below.refl W.heap.size W).alloc (Nat.le_refl _) (.cells #[v] 173);have hb2:=hb1.alloc (by simp) (.cells (e.c s).toArray 171);have HB2:=Hd hb2
 have HQ2:Hid (NK ((W.alloc (.cells #[v] 173)).alloc (.cells (e.c s).toArray 171)) (W.heap.size+1) (e.c s)):=by
  have:=NK.new (W.alloc (.cells #[v] 173)) (En.len s e);rwa[World.size_alloc]at this
 have HV2:Hid (((W.alloc (.cells #[v] 173)).alloc (.cells (e.c s).toArray 171)).heap[W.heap.size]?=some (.cells #[v] 173 (0,0))):=(Below.heap_alloc _ _ _ (by simp)).trans (World.alloc_heap_new W _);have HZ2:Hid (((W.alloc (.cells #[v] 173)).alloc (.cells (e.c s).toArray 171)).heap.size=W.heap.size+2):=by show _=_;simp
 have d4:((W.alloc (.cells #[v] 173)).alloc (.cells (e.c s).toArray 171)).cell? ⟨W.heap.size,0,none⟩=some v:=by rw[cell_of_row _ _ 0 _ _ _ HV2.out];rfl
 obtain⟨av,cv,hvs⟩:=hv.slice;have HT:=Hd ht;have HV:=Hd hv;have HD:=Hd hD;have HOK:=Hd ok;have HWL:Hid (s.ws.length≤128):=ok.nb.bs.wl;subst hvs;clear hb1 hb2 ht hv hD ok;refine (callsIn_wide (n:=0)).1 ?_;refine callsIn_of_wp_marks Tryz.func96 rfl trivial ?_ rfl;simp only[Tryz.ntmps96,List.size_toArray,List.length_cons,List.length_nil,Nat.reduceAdd,Nat.reduceSub,Array.replicate_succ,Array.replicate_zero,List.push_toArray,List.append_toArray,List.nil_append,List.cons_append];have hwf:∀k,Fence.wide.fn k:=fun _=>trivial
 gi_wp2_with fail
 clear d4;generalize (W.alloc (.cells #[Value.slice av L.length cv] 173)).alloc (.cells (e.c s).toArray 171)=Y at HB2 HQ2 HV2 HZ2⊢;refine⟨rfl,(callsIn_wide.2 (children_any tb (W.heap.size+1) Y)).mono ?_⟩;rintro r W2 ⟨rfl,rfl⟩
 gi_wp2_with fail
 have hc1:=(Below.refl Y.heap.size Y).alloc (Nat.le_refl _) (.cells #[.pointer (some ⟨tb,0,none⟩)] 137);have hc2:=hc1.alloc (by simp) (.cells #[.pointer (some ⟨W.heap.size+1,0,none⟩)] 168);have HT1:Hid (((Y.alloc (.cells #[.pointer (some ⟨tb,0,none⟩)] 137)).alloc (.cells #[.pointer (some ⟨W.heap.size+1,0,none⟩)] 168)).heap[Y.heap.size]?=some (.cells #[.pointer (some ⟨tb,0,none⟩)] 137 (0,0))):=(Below.heap_alloc _ _ _ (by simp)).trans (World.alloc_heap_new Y _)
 have HT2:Hid (((Y.alloc (.cells #[.pointer (some ⟨tb,0,none⟩)] 137)).alloc (.cells #[.pointer (some ⟨W.heap.size+1,0,none⟩)] 168)).heap[Y.heap.size+1]?=some (.cells #[.pointer (some ⟨W.heap.size+1,0,none⟩)] 168 (0,0))):=by
  have:=World.alloc_heap_new (Y.alloc (.cells #[.pointer (some ⟨tb,0,none⟩)] 137)) (.cells #[.pointer (some ⟨W.heap.size+1,0,none⟩)] 168);rwa[World.size_alloc]at this
 have HBZ:=Hd (below_class HB2.out hc2);have HVZ:Hid (((Y.alloc (.cells #[.pointer (some ⟨tb,0,none⟩)] 137)).alloc (.cells #[.pointer (some ⟨W.heap.size+1,0,none⟩)] 168)).heap[W.heap.size]?=some (.cells #[Value.slice av L.length cv] 173 (0,0))):=(hc2.block W.heap.size (by have:=HZ2.out;omega)).trans HV2.out;have HQZ:=Hd (HQ2.out.below' hc2);have HZZ:Hid (((Y.alloc (.cells #[.pointer (some ⟨tb,0,none⟩)] 137)).alloc (.cells #[.pointer (some ⟨W.heap.size+1,0,none⟩)] 168)).heap.size=W.heap.size+4):=by show _=_;simp[HZ2.out]
 rw[HZ2.out]at HT1 HT2⊢;clear hc1 hc2 HB2 HV2 HQ2;generalize (Y.alloc (.cells #[.pointer (some ⟨tb,0,none⟩)] 137)).alloc (.cells #[.pointer (some ⟨W.heap.size+1,0,none⟩)] 168)=Z at HT1 HT2 HBZ HVZ HQZ HZZ⊢;clear HZ2;have hvlt:∀g,(Value.slice av L.length cv).ownBlock=some g→B≤g∧g<W.heap.size:=HV.out.lt;generalize hG0:(fun k=>k<Z.heap.size∧k≠W.heap.size∧(Value.slice av L.length cv).ownBlock≠some k)=G;have hG:∀k,G k→k<Z.heap.size∧k≠W.heap.size∧(Value.slice av L.length cv).ownBlock≠some k:=fun k hk=>by rw[←hG0]at hk;exact hk
 have hG':∀k,k<Z.heap.size→k≠W.heap.size→(Value.slice av L.length cv).ownBlock≠some k→G k:=fun k h1 h2 h3=>by rw[←hG0];exact⟨h1,h2,h3⟩
 clear hG0
 have hcq:Cq Z (W.heap.size+2) (W.heap.size+2+1) tb (W.heap.size+1) s vc vw vb e G:=by
  have hz:=HZZ.out;have hne:∀k,W.heap.size≤k→(Value.slice av L.length cv).ownBlock≠some k:=fun k hk e=>by have:=(hvlt k e).2;omega
  refine⟨HT1.out,HT2.out,?_,HQZ.out,hG' _ (by omega) (by omega) (hne _ (by omega)),hG' _ (by omega) (by omega) (hne _ (by omega)),hG' _ (by omega) (by omega) (hne _ (by omega))⟩;have h1:TR (fun g=>D g∧g<W.heap.size) W tb s vc vw vb:=HT.out.mono fun g hg hl=>⟨hg,hl⟩;refine (h1.below' HBZ.out).mono fun g hg _=>hG' g (by have:=hg.2;omega) (by have:=hg.2;omega) (fun e=>HD.out g e hg.1)
 have hseq:=children_seq s (W.heap.size+2) (W.heap.size+2+1) tb (W.heap.size+1) vc vw vb e G Z hcq HOK.out;have HI0:Hid (PI s Z B W.heap.size (.slice av L.length cv) L [] (fun _=>False) Z):=⟨⟨Kp.refl _ _,fun _ _ h=>h⟩,by have:=HZZ.out;omega,fun _ h=>h.elim,_,HVZ.out,by rw[List.append_nil];exact HV.out.below' HBZ.out,.inl rfl,fun _ _ h=>h⟩;have HG:=Hd hG;have HVL:=Hd hvlt;have eg:∀args w,(callFunc 155 args).run Tryz.prog w=.ok (.enter 155 args) w:=by intro args w;simp[go_sem]
 clear hG hG' hcq hvlt HT1 HT2 HVZ HV HD;generalize hjn:Value.agg (e.c s).toArray=jn;clear hjn
 refine wpIn_rangeFunc_P (gf:=155) (lb:= #[.pointer (some ⟨W.heap.size+2,0,none⟩),.pointer (some ⟨W.heap.size+2+1,0,none⟩)]) rfl eg hseq (Below.refl _ _) (fun x F A args h=>by rw[h];rfl) (fun k hk=>(HG.out k hk).1) (fun k h=>h.elim)
  (PI s Z B W.heap.size (.slice av L.length cv) L) (fun _ _ _ _=>False) (pi_stb _ _ _ _ _ _) (fun _ _ _ _ _ _ h _ _=>h) HI0.out
  (fun x a' A=>∃b8,NK A b8 (x.c s)∧a'={tmps:= #[.pointer (some ⟨tb,0,none⟩),.slice av L.length cv,jn,undef,.pointer (some ⟨W.heap.size,0,none⟩),.pointer (some ⟨W.heap.size+1,0,none⟩),.slice none 0 0,.int .i64 (L.length:Int),.pointer (some ⟨b8,0,none⟩),.slice av L.length cv,.int .i64 (L.length:Int),.pointer (some ⟨tb,0,none⟩),
   .func (.func 155) #[] #[.pointer (some ⟨W.heap.size+2,0,none⟩),.pointer (some ⟨W.heap.size+2+1,0,none⟩)],.agg (x.c s).toArray,undef,undef,undef,undef,undef,undef,undef,undef,undef],defers:=[]}) ?hB ?assign ?body ?done ?stop
 case hB=>
  rintro x a' A A' ⟨b8,h3,h4⟩ _ hk;exact⟨b8,h3.keep (hk b8 h3.lt ⟨_,h3.2,rfl⟩),h4⟩
 case assign=>
  rintro l' x F A args K rfl hK;have HK:=Hd hK;have HZ:=Hd (NK.new A zn_length);have HX8:=Hd (En.len s x);have HX1:Hid (∀u∈x.c s,u.oneCell'=true):=ncl_one _ _ _ _;clear hK hseq;refine wpIn_region_lit ?_;refine wpListIn_allocN rfl rfl ?_;generalize hKK:wpListIn (Fence.wide.inRound l') 0 Tryz.prog _ _ _=KK;go_simp;subst hKK;refine wpListIn_storeN1 rfl _ _ rfl A.heap.size rfl rfl HZ.out HX8.out HX1.out ?_;have hb:=(Below.refl A.heap.size A).alloc (Nat.le_refl _) (.cells zn.toArray 171);refine HK.out _ _ ((kp_row A.heap.size (A.alloc (.cells zn.toArray 171)) (x.c s).toArray).below hb (by simp) (fun i hi e=>by omega)) ⟨A.heap.size,⟨HX8.out,setRow_heap _ _ _ _ _ _ HZ.out.2⟩,rfl⟩
 case body=>
  rintro l' pre x F A a' hsp hI ⟨b8,h8,rfl⟩;have hwf':∀k,(Fence.wide.inRound l').fn k:=fun _=>trivial;obtain⟨u,h1,h2,h3,h4⟩:=hI.ex;obtain⟨au,cu,hu⟩:=h2.slice;subst hu
  have HLN:Hid ((L++pre).length≤200000000):=by
   have h5:=hsp.length_le;have h6:=che_len (e:=e) (q:=W.heap.size+1) HWL.out;rw[List.length_append]at h5;show _≤_;rw[List.length_append];omega
  obtain⟨N,hN⟩:∃N,(L++pre).length=N:=⟨_,rfl⟩;have HNN:=Hd hN;rw[hN]at h1 h2 h3 h4;have hcb:A.cell? ⟨W.heap.size,0,none⟩=some (.slice au N cu):=by rw[cell_of_row _ _ 0 _ _ _ h1];rfl
  have HX8:=Hd (En.len s x);have HN8:=Hd h8;have HI:=Hd hI;have HH:=Hd (And.intro h1 (And.intro h2 (And.intro h3 h4)));have hbA:=(Below.refl A.heap.size A).alloc (Nat.le_refl _) (.cells (x.c s).toArray 171);have HO1:=Hd (h2.below' hbA);have HR1:=Hd (NK.new A (En.len s x)).range
  have HBA:Hid (B≤(A.alloc (.cells (x.c s).toArray 171)).heap.size):=by
   have:=hI.kb.1.size;have:=HZZ.out;show _≤_;simp;omega
  have HVb:Hid (∀g,(Value.slice av L.length cv).ownBlock=some g→g<W.heap.size):=fun g hg=>(HVL.out g hg).2;clear hI h1 h2 h3 h4 h8 hbA hseq HI0 hsp hN
  gi_wp2_with (first|(refine wpListIn_loadN rfl _ rfl b8 0 _ HX8.out rfl HN8.out.range ?_;generalize hKK:wpListIn (Fence.wide.inRound l') 0 Tryz.prog _ _ _=KK;go_simp;subst hKK)|(refine wpListIn_build1N rfl _ rfl _ HX8.out rfl ?_;generalize hKK:wpListIn (Fence.wide.inRound l') 0 Tryz.prog _ _ _=KK;go_simp;subst hKK)|(refine wpListIn_appN rfl _ _ rfl s B _ (L++pre) rfl HO1.out A.heap.size 1 x rfl HR1.out N HNN.out HLN.out HBA.out ?_))
  intro g' cap A2 hO2 hg2 hor2 hlt2;obtain⟨h1,h2,h3,h4⟩:=HH.out;have hz4:W.heap.size<Z.heap.size:=by have:=HZZ.out;omega
  have hub:(Value.slice au N cu).ownBlock≠some W.heap.size:=fun e=>by
   rcases h3 with e2|e2
   ·have:=HVb.out _ (e2.symm.trans e);omega
   ·have:=e2 _ e;omega
  have hb4:A2.heap[W.heap.size]?=some (.cells #[.slice au N cu] 173 (0,0)):=by
   have hzs:=HI.out.kb.1.size;exact((hg2.block W.heap.size (by simp;omega) (fun e=>hub e.symm)).trans (Below.heap_alloc _ _ _ (by omega))).trans h1
  have d4:A2.cell? ⟨W.heap.size,0,none⟩=some (.slice au N cu):=by rw[cell_of_row _ _ 0 _ _ _ hb4];rfl
  have f4:A2.frozen? ⟨W.heap.size,0,none⟩=false:=frozen_of_row _ _ _ _ _ hb4;have HE:=Hd (HI.out.add HVb.out HG.out h1 h3 h4 (x:=x) (.cells (x.c s).toArray 171) hg2 (by simpa using hor2) (n:=N+1) (cap:=cap) (by rw[List.append_assoc];exact hO2));clear hO2 hg2 hor2 hlt2 h1 h2 h3 h4 hub hb4 HH HI hcb HR1 HO1
  gi_wp2
  exact⟨HE.out.2,HE.out.1⟩
 case done=>
  rintro Dd xs F A hD hFD rfl hI hK;obtain⟨u,h1,h2,h3,h4⟩:=hI.ex;obtain⟨au,cu,hu⟩:=h2.slice;subst hu;obtain⟨M,hM⟩:∃M,che s e (W.heap.size+1)=M:=⟨_,rfl⟩;have HMM:=Hd hM;rw[hM]at h1 h2 h3 h4 hI;have hMl:M.length≤129:=by rw[←hM];exact che_len HWL.out
  obtain⟨N,hN⟩:∃N,(L++M).length=N:=⟨_,rfl⟩;have HNN:=Hd hN;have hNl:N=L.length+M.length:=by rw[←hN,List.length_append]
  rw[hN]at h1 h2 h3 h4;have hcb:A.cell? ⟨W.heap.size,0,none⟩=some (.slice au N cu):=by rw[cell_of_row _ _ 0 _ _ _ h1];rfl
  have HI:=Hd hI;have HH:=Hd (And.intro h1 (And.intro h2 (And.intro h3 h4)));have HNL:=Hd hNl;by_cases hM0:M=[]
  ·have hN0:N=L.length:=by rw[hNl,hM0];rfl
   clear hNl;subst hN0;have hO3:ON s A B (.slice au L.length cu) (L++M.reverse):=by rw[hM0]at h2⊢;exact h2
   have HO3:=Hd hO3;clear h1 h2 h3 h4 hI hseq HI0 hM hN hO3;have hsl:∃a c,∀w,(Instr.sliceAt 173 (.slice au L.length cu) (some (.int .i64 (L.length:Int))) none none).run Tryz.prog w=.ok (.slice a 0 c) w:=⟨_,_,fun w=>by rw[slice_restN au L.length cu L.length w (Nat.le_refl _),Nat.sub_self]⟩;obtain⟨asl,csl,hsl⟩:=hsl
   gi_wp2_with fail
   refine⟨rfl,(callsIn_wide.2 (rev_nil asl csl A)).mono ?_⟩;rintro r A3 ⟨⟨vr,rfl⟩,rfl⟩;have hk3:Kp (fun k=>(Value.slice au L.length cu).ownBlock=some k) A3 A3:=Kp.refl _ _;have hO3:=HO3.out
   have hub:(Value.slice au L.length cu).ownBlock≠some W.heap.size:=fun e=>by
    have hz4:W.heap.size<Z.heap.size:=by have:=HZZ.out;omega
    rcases HH.out.2.2.1 with e2|e2
    ·have:=(HVL.out _ (e2.symm.trans e)).2;omega
    ·have:=e2 _ e;omega
   have hcb3:A3.cell? ⟨W.heap.size,0,none⟩=some (.slice au L.length cu):=by
    rw[cell_of_row _ _ 0 _ _ _ ((hk3.block W.heap.size (Array.getElem?_eq_some_iff.1 HH.out.1).1 hub).trans HH.out.1)];rfl
   have HK3:=Hd ((hk3.block Dd (Array.getElem?_eq_some_iff.1 hK).1 (fun e=>HH.out.2.2.2 Dd e hFD)).trans hK);have HE:=Hd (HI.out.fin (fun g hg=>(HVL.out g hg).2) HH.out.2.2.1 HH.out.2.2.2 hD hFD hk3 hO3 HQZ.out (by omega) HBZ.out);rw[←HMM.out]at HE;clear hk3 hO3 hub hcb HH HI hK HMM
   gi_wp2
   refine⟨by simp,.inl ⟨_,_,rfl,run_takeDeferred HK3.out,?_⟩⟩;exact⟨_,results_tmp rfl _ _ _,_,W.heap.size+1,rfl,by omega,HE.out.1,HE.out.2.1,HE.out.2.2.1,HE.out.2.2.2.1,HE.out.2.2.2.2⟩
  ·obtain⟨g,hau⟩:∃g,au=some ⟨g,0,none⟩:=by
    rcases h2.form with⟨_,e2⟩|⟨g,c,e2,_⟩
    ·exact absurd (List.append_eq_nil_iff.1 e2).2 hM0
    ·cases e2;exact⟨g,rfl⟩
   have hcu:N≤cu:=by
    rcases h2.form with⟨_,e2⟩|⟨g,c,e2,_,_,h5,_⟩
    ·exact absurd (List.append_eq_nil_iff.1 e2).2 hM0
    ·cases e2;rw[hN]at h5;exact h5
   have hMp:0<M.length:=List.length_pos_iff.2 hM0;subst hau
   have hsl:∃a c,(M≠[]→a=some ⟨g,L.length*136,none⟩)∧∀w,(Instr.sliceAt 173 (.slice (some ⟨g,0,none⟩) N cu) (some (.int .i64 (L.length:Int))) none none).run Tryz.prog w=.ok (.slice a M.length c) w:=⟨restN (some ⟨g,0,none⟩) cu L.length,cu-L.length,fun _=>by
     unfold restN;rw[if_neg (by omega),Option.map_some,Addr.add_mid,Nat.zero_add],fun w=>by
     rw[slice_restN _ N cu L.length w (by omega),show N-L.length=M.length by omega]⟩
   obtain⟨asl,csl,hasl,hsl⟩:=hsl;have HRV:=Hd (revN_any (cap':=csl) h2 hasl (by omega));clear h1 h2 h3 h4 hI hseq HI0 hM hN hasl hNl hM0 hcu hMp
   gi_wp2_with fail
   refine⟨rfl,(callsIn_wide.2 HRV.out).mono ?_⟩;rintro r A3 ⟨⟨vr,rfl⟩,hO3,hk3'⟩;have hk3:Kp (fun k=>(Value.slice (some ⟨g,0,none⟩) N cu).ownBlock=some k) A A3:=hk3'.mono fun i _ e=>by rw[e];rfl
   clear hk3'
   have hub:(Value.slice (some ⟨g,0,none⟩) N cu).ownBlock≠some W.heap.size:=fun e=>by
    have hz4:W.heap.size<Z.heap.size:=by have:=HZZ.out;omega
    rcases HH.out.2.2.1 with e2|e2
    ·have:=(HVL.out _ (e2.symm.trans e)).2;omega
    ·have:=e2 _ e;omega
   have hcb3:A3.cell? ⟨W.heap.size,0,none⟩=some (.slice (some ⟨g,0,none⟩) N cu):=by
    rw[cell_of_row _ _ 0 _ _ _ ((hk3.block W.heap.size (Array.getElem?_eq_some_iff.1 HH.out.1).1 hub).trans HH.out.1)];rfl
   have HK3:=Hd ((hk3.block Dd (Array.getElem?_eq_some_iff.1 hK).1 (fun e=>HH.out.2.2.2 Dd e hFD)).trans hK);have HE:=Hd (HI.out.fin (fun g hg=>(HVL.out g hg).2) HH.out.2.2.1 HH.out.2.2.2 hD hFD hk3 hO3 HQZ.out (by omega) HBZ.out);rw[←HMM.out]at HE;clear hk3 hO3 hub hcb HH HI hK HMM
   gi_wp2
   refine⟨by simp,.inl ⟨_,_,rfl,run_takeDeferred HK3.out,?_⟩⟩;exact⟨_,results_tmp rfl _ _ _,_,W.heap.size+1,rfl,by omega,HE.out.1,HE.out.2.1,HE.out.2.2.1,HE.out.2.2.2.1,HE.out.2.2.2.2⟩
 case stop=>
  rintro Dd c pre F A hD hFD hSp h hK;exact h.elim
end
end Go.Proofs.YtnkelgdnglaafaaGreat
