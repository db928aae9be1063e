import Derived.Test.YtlajleogofmkcaaGreatRows
import Derived.WalkKit
import Derived.WalkSpells
import Derived.WalkLawsBesides
import Derived.Deep.MidRow
import Derived.Deep.AppendLies
import Derived.Laws.OwnMore
import Derived.Laws.BitsAllLaws
import Derived.OwnWalk
import Derived.StillTailTactics
import Derived.Laws.AppendOwnNone
import Derived.Laws.BytesArg
import Derived.Deep.Quiet
import Derived.Deep.QuietTactic
import Derived.BigQuiet
import Derived.Laws.Tables
import Derived.Laws.CopyOwn
import Derived.Lib.AppendZeros
import Derived.Lib.SliceRun
set_option maxHeartbeats 8000000
set_option maxRecDepth 100000
namespace Go.Proofs.YtlajleogofmkcaaGreat.FF.FC
def dbl(s:Nat):Nat:=if 32768≤s then(2*s-65536)^^^4129 else 2*s
def D(x:BitVec 16):BitVec 16:=(x<<<1)^^^(if x.msb then 4129#16 else 0#16)
theorem dbl_D(x:BitVec 16):dbl x.toNat=(D x).toNat:=by
 unfold dbl D;have h:=x.isLt;have hm:x.msb=decide (32768≤x.toNat):=by rw[BitVec.msb_eq_decide]
 rw[hm,BitVec.toNat_xor,BitVec.toNat_shiftLeft,Nat.shiftLeft_eq];by_cases h1:32768≤x.toNat
 ·rw[if_pos h1];have e:x.toNat*2^1%2^16=2*x.toNat-65536:=by omega
  rw[e];simp[h1]
 ·rw[if_neg h1];have e:x.toNat*2^1%2^16=2*x.toNat:=by omega
  rw[e];simp[h1]
theorem of_bits{a:Nat}(h:a<65536):∃A:BitVec 16,A.toNat=a:=⟨BitVec.ofNat 16 a,by rw[BitVec.toNat_ofNat];omega⟩
theorem dbl_lt{a:Nat}(h:a<65536):dbl a<65536:=by
 obtain⟨A,rfl⟩:=of_bits h;rw[dbl_D];exact(D A).isLt
theorem xor_lt{a b:Nat}(ha:a<65536)(hb:b<65536):a^^^b<65536:=Nat.xor_lt_two_pow (n:=16) ha hb
def dbls:Nat→Nat→Nat
 |0,s=>s
 |k+1,s=>dbl (dbls k s)
theorem dbls_lt{a:Nat}(k:Nat)(h:a<65536):dbls k a<65536:=by
 induction k with
 |zero=>exact h
 |succ k ih=>exact dbl_lt ih
def tk(s x:Nat):Nat:=dbls 8 (s^^^(x*256))
theorem tk_lt{s x:Nat}(hs:s<65536)(hx:x<256):tk s x<65536:=dbls_lt 8 (xor_lt hs (by omega))
def cs(s:Nat)(l:List Nat):Nat:=l.foldl tk s
theorem cs_nil(s:Nat):cs s []=s:=by unfold cs;rw[List.foldl_nil]
theorem cs_cons(s x:Nat)(l:List Nat):cs s (x::l)=cs (tk s x) l:=by unfold cs;rw[List.foldl_cons]
def Bs(l:List Nat):Prop:=∀x∈l,x<256
theorem Bs.nil:Bs []:=by simp[Bs]
theorem Bs.cons{x:Nat}{l:List Nat}(hx:x<256)(h:Bs l):Bs (x::l):=by simpa[Bs]using And.intro hx h
theorem Bs.head{x:Nat}{l:List Nat}(h:Bs (x::l)):x<256:=h x (by simp)
theorem Bs.tail{x:Nat}{l:List Nat}(h:Bs (x::l)):Bs l:=fun y hy=>h y (by simp[hy])
theorem Bs.append{l m:List Nat}(h:Bs l)(k:Bs m):Bs (l++m):=by
 intro x hx;rcases List.mem_append.1 hx with hx|hx
 ·exact h x hx
 ·exact k x hx
theorem Bs.take{l:List Nat}(k:Nat)(h:Bs l):Bs (l.take k):=fun x hx=>h x (List.mem_of_mem_take hx)
theorem Bs.drop{l:List Nat}(k:Nat)(h:Bs l):Bs (l.drop k):=fun x hx=>h x (List.mem_of_mem_drop hx)
theorem Bs.get{l:List Nat}{i x:Nat}(h:Bs l)(hi:l[i]?=some x):x<256:=h x (List.mem_of_getElem? hi)
theorem Bs.set{l:List Nat}{i x:Nat}(h:Bs l)(hx:x<256):Bs (l.set i x):=by
 intro y hy;rcases List.mem_or_eq_of_mem_set hy with hy|rfl
 ·exact h y hy
 ·exact hx
theorem cs_lt{s:Nat}{l:List Nat}(hs:s<65536)(hl:Bs l):cs s l<65536:=by
 induction l generalizing s with
 |nil=>rw[cs_nil];exact hs
 |cons x l ih=>rw[cs_cons];exact ih (tk_lt hs hl.head) hl.tail
theorem cs_append(s:Nat)(l m:List Nat):cs s (l++m)=cs (cs s l) m:=by unfold cs;rw[List.foldl_append]
theorem cs_snoc(s:Nat)(l:List Nat)(x:Nat):cs s (l++[x])=tk (cs s l) x:=by rw[cs_append,cs_cons,cs_nil]
def crc(l:List Nat):Nat:=cs 65535 l
theorem crc_lt{l:List Nat}(hl:Bs l):crc l<65536:=cs_lt (by omega) hl
theorem crc_take{l:List Nat}{k x:Nat}(h:l[k]?=some x):crc (l.take (k+1))=tk (crc (l.take k)) x:=by
 rw[List.take_add_one,h];show crc (_++[x])=_;unfold crc;rw[cs_snoc]
end Go.Proofs.YtlajleogofmkcaaGreat.FF.FC
namespace Go.Proofs.YtlajleogofmkcaaGreat.FF
structure Fr where
 ki:Int
 ca:Int
 sq:Int
 a:Int
 b:Int
 c:Int
namespace FC
structure May(f:Fr):Prop where
 ki1:1≤f.ki
 ki2:f.ki≤3
 ca1:0≤f.ca
 ca2:f.ca≤255
 sq1:0≤f.sq
 sq2:f.sq≤65535
 a1:0≤f.a
 a2:f.a≤255
 b1:0≤f.b
 b2:f.b≤255
 c1:0≤f.c
 c2:f.c≤255
def g(l:List Nat)(i:Nat):Nat:=l[i]?.getD 0
theorem g_lt{l:List Nat}(h:Bs l)(i:Nat):g l i<256:=by
 unfold g;cases e:l[i]? with
 |none=>simp
 |some x=>exact h.get e
def de(l:List Nat):Nat:=if l.length=10∧g l 0=165 then(if crc (l.take 8)=g l 8*256+g l 9 then(if 1≤g l 1∧g l 1≤3 then 0 else 3)else 6)else 3
def dr(l:List Nat):Fr:=⟨g l 1,g l 2,(g l 3*256+g l 4:Nat),g l 5,g l 6,g l 7⟩
def df(l:List Nat):Fr:=if de l=0 then dr l else⟨0,0,0,0,0,0⟩
def h8(f:Fr):List Nat:=[165,f.ki.toNat,f.ca.toNat,f.sq.toNat/256,f.sq.toNat%256,f.a.toNat,f.b.toNat,f.c.toNat]
def en(f:Fr):List Nat:=h8 f++[crc (h8 f)/256,crc (h8 f)%256]
theorem h8_Bs{f:Fr}(h:May f):Bs (h8 f):=by
 have:=h.ki1;have:=h.ki2;have:=h.ca2;have:=h.sq1;have:=h.sq2;have:=h.a2;have:=h.b2;have:=h.c2;unfold h8;refine Bs.cons ?_ (Bs.cons ?_ (Bs.cons ?_ (Bs.cons ?_ (Bs.cons ?_ (Bs.cons ?_ (Bs.cons ?_ (Bs.cons ?_ Bs.nil)))))))
 all_goals omega
theorem en_Bs{f:Fr}(h:May f):Bs (en f):=by
 have:=crc_lt (h8_Bs h);exact(h8_Bs h).append (Bs.cons (by omega) (Bs.cons (by omega) Bs.nil))
theorem en_length(f:Fr):(en f).length=10:=by unfold en h8;simp
theorem en_take(f:Fr):(en f).take 8=h8 f:=by
 unfold en;rw[List.take_append_of_le_length (by unfold h8;simp),List.take_of_length_le (by unfold h8;simp)]
theorem en_g0(f:Fr):g (en f) 0=165:=by unfold en h8 g;simp
theorem en_g1(f:Fr):g (en f) 1=f.ki.toNat:=by unfold en h8 g;simp
theorem en_g2(f:Fr):g (en f) 2=f.ca.toNat:=by unfold en h8 g;simp
theorem en_g3(f:Fr):g (en f) 3=f.sq.toNat/256:=by unfold en h8 g;simp
theorem en_g4(f:Fr):g (en f) 4=f.sq.toNat%256:=by unfold en h8 g;simp
theorem en_g5(f:Fr):g (en f) 5=f.a.toNat:=by unfold en h8 g;simp
theorem en_g6(f:Fr):g (en f) 6=f.b.toNat:=by unfold en h8 g;simp
theorem en_g7(f:Fr):g (en f) 7=f.c.toNat:=by unfold en h8 g;simp
theorem en_g8(f:Fr):g (en f) 8=crc (h8 f)/256:=by unfold en;generalize crc (h8 f)=n;unfold h8 g;simp
theorem en_g9(f:Fr):g (en f) 9=crc (h8 f)%256:=by unfold en;generalize crc (h8 f)=n;unfold h8 g;simp
theorem de_en{f:Fr}(h:May f):de (en f)=0:=by
 have:=h.ki1;have:=h.ki2;unfold de;rw[if_pos ⟨en_length f,en_g0 f⟩,en_take,en_g8,en_g9,en_g1,if_pos (by omega),if_pos (by omega)]
theorem df_en{f:Fr}(h:May f):df (en f)=f:=by
 have:=h.ki1;have:=h.ca1;have:=h.sq1;have:=h.a1;have:=h.b1;have:=h.c1;unfold df;rw[if_pos (de_en h)];unfold dr;rw[en_g1,en_g2,en_g3,en_g4,en_g5,en_g6,en_g7];obtain⟨ki,ca,sq,a,b,c⟩:=f;simp only[Fr.mk.injEq]at*;omega
theorem set_same{l:List Nat}{i x:Nat}(h:l[i]?=some x):l.set i x=l:=by
 apply List.ext_getElem?;intro j;rw[List.getElem?_set];split
 ·rename_i e;subst e;rw[h];simp[(List.getElem?_eq_some_iff.1 h).1]
 ·rfl
def fds:Nat→List Nat→List Fr×Nat×List Nat
 |0,l=>([],0,l)
 |k+1,l=>if l.length<10 then([],0,l)
  else if de (l.take 10)=0 then(df (l.take 10)::(fds k (l.drop 10)).1,(fds k (l.drop 10)).2.1,(fds k (l.drop 10)).2.2)
  else((fds k (l.drop 1)).1,(fds k (l.drop 1)).2.1+1,(fds k (l.drop 1)).2.2)
theorem fds_succ(k:Nat)(l:List Nat):fds (k+1) l=if l.length<10 then([],0,l)else if de (l.take 10)=0 then(df (l.take 10)::(fds k (l.drop 10)).1,(fds k (l.drop 10)).2.1,(fds k (l.drop 10)).2.2)else((fds k (l.drop 1)).1,(fds k (l.drop 1)).2.1+1,(fds k (l.drop 1)).2.2):=rfl
theorem fds_few(k:Nat){l:List Nat}(h:l.length<10):fds k l=([],0,l):=by
 cases k with
 |zero=>rfl
 |succ k=>rw[fds_succ,if_pos h]
theorem fds_more(k:Nat):∀(m:Nat) (l:List Nat),l.length≤k→l.length≤m→fds k l=fds m l:=by
 induction k with
 |zero=>
  intro m l hk _;rw[fds_few 0 (by omega),fds_few m (by omega)]
 |succ k ih=>
  intro m l hk hm;by_cases h:l.length<10
  ·rw[fds_few _ h,fds_few _ h]
  ·cases m with
   |zero=>omega
   |succ m=>
    rw[fds_succ,fds_succ,if_neg h,if_neg h,ih m (l.drop 10) (by rw[List.length_drop];omega) (by rw[List.length_drop];omega),ih m (l.drop 1) (by rw[List.length_drop];omega) (by rw[List.length_drop];omega)]
def fd(l:List Nat):List Fr×Nat×List Nat:=fds l.length l
theorem fd_few{l:List Nat}(h:l.length<10):fd l=([],0,l):=fds_few _ h
theorem fd_yes{l:List Nat}(h:¬l.length<10)(k:de (l.take 10)=0):fd l=(df (l.take 10)::(fd (l.drop 10)).1,(fd (l.drop 10)).2.1,(fd (l.drop 10)).2.2):=by
 unfold fd;rw[fds_more l.length (l.length+1) l (Nat.le_refl _) (Nat.le_succ _),fds_succ,if_neg h,if_pos k,fds_more l.length (l.drop 10).length (l.drop 10) (by rw[List.length_drop];omega) (Nat.le_refl _)]
theorem fd_no{l:List Nat}(h:¬l.length<10)(k:de (l.take 10)≠0):fd l=((fd (l.drop 1)).1,(fd (l.drop 1)).2.1+1,(fd (l.drop 1)).2.2):=by
 unfold fd;rw[fds_more l.length (l.length+1) l (Nat.le_refl _) (Nat.le_succ _),fds_succ,if_neg h,if_neg k,fds_more l.length (l.drop 1).length (l.drop 1) (by rw[List.length_drop];omega) (Nat.le_refl _)]
theorem fd_left(l:List Nat):(fd l).2.2.length<10∧∃k,(fd l).2.2=l.drop k:=by
 induction hn:l.length using Nat.strongRecOn generalizing l with
 |_ n ih=>
 by_cases h:l.length<10
 ·rw[fd_few h];exact⟨h,0,rfl⟩
 ·by_cases k:de (l.take 10)=0
  ·rw[fd_yes h k];obtain⟨h1,j,h2⟩:=ih (l.drop 10).length (by simp only[List.length_drop];omega) _ rfl;exact⟨h1,10+j,by rw[h2,List.drop_drop]⟩
  ·rw[fd_no h k];obtain⟨h1,j,h2⟩:=ih (l.drop 1).length (by simp only[List.length_drop];omega) _ rfl;exact⟨h1,1+j,by rw[h2,List.drop_drop]⟩
theorem fd_Bs{l:List Nat}(h:Bs l):Bs (fd l).2.2:=by
 obtain⟨_,k,e⟩:=fd_left l;rw[e];exact h.drop k
theorem fd_count(l:List Nat):(fd l).1.length*10+(fd l).2.1+(fd l).2.2.length=l.length:=by
 induction hn:l.length using Nat.strongRecOn generalizing l with
 |_ n ih=>
 by_cases h:l.length<10
 ·rw[fd_few h];simpa using hn
 ·by_cases k:de (l.take 10)=0
  ·rw[fd_yes h k];have:=ih (l.drop 10).length (by simp only[List.length_drop];omega) _ rfl;simp only[List.length_drop,List.length_cons]at this⊢;omega
  ·rw[fd_no h k];have:=ih (l.drop 1).length (by simp only[List.length_drop];omega) _ rfl;simp only[List.length_drop]at this⊢;omega
def ens(L:List Fr):List Nat:=L.flatMap en
theorem ens_cons(f:Fr)(L:List Fr):ens (f::L)=en f++ens L:=by simp[ens]
theorem ens_snoc(f:Fr)(L:List Fr):ens (L++[f])=ens L++en f:=by simp[ens]
theorem ens_Bs{L:List Fr}(h:∀f∈L,May f):Bs (ens L):=by
 induction L with
 |nil=>exact Bs.nil
 |cons f L ih=>rw[ens_cons];exact(en_Bs (h f (by simp))).append (ih fun e he=>h e (by simp[he]))
theorem ens_length(L:List Fr):(ens L).length=10*L.length:=by
 induction L with
 |nil=>rfl
 |cons f L ih=>rw[ens_cons,List.length_append,ih,en_length,List.length_cons];omega
theorem fd_ens{L:List Fr}(h:∀f∈L,May f):fd (ens L)=(L,0,[]):=by
 induction L with
 |nil=>rw[fd_few (by simp[ens])];rfl
 |cons f L ih=>
  have ht:(en f++ens L).take 10=en f:=by rw[List.take_append_of_le_length (by rw[en_length];omega),List.take_of_length_le (by rw[en_length];omega)]
  have hd:(en f++ens L).drop 10=ens L:=by rw[List.drop_append_of_le_length (by rw[en_length];omega),List.drop_of_length_le (by rw[en_length];omega)];rfl
  have hm:=h f (by simp);rw[ens_cons,fd_yes (by rw[List.length_append,en_length];omega) (by rw[ht];exact de_en hm),ht,hd,ih (fun e he=>h e (by simp[he])),df_en hm]
end FC
open Go.RowKit
theorem Hd{p:Prop}(h:p):Hid p:=h
theorem ret_int{k:IntKind}{a b:Int}(h:a=b):Ending.returned (.int k a)=.returned (.int k b):=by rw[h]
theorem below_class{W0 w w':World}(h:Below W0.heap.size W0 w)(h':Below w.heap.size w w'):Below W0.heap.size W0 w':=h.trans (h'.mono h.size)
structure Kp(F:Nat→Prop)(w w':World):Prop where
 os:w'.os=w.os
 tape:w'.tape=w.tape
 output:w'.output=w.output
 size:w.heap.size≤w'.heap.size
 block:∀k,k<w.heap.size→¬F k→w'.heap[k]?=w.heap[k]?
section
variable {F G:Nat→Prop} {w w' w'':World}
theorem Kp.refl(F:Nat→Prop)(w:World):Kp F w w:=⟨rfl,rfl,rfl,Nat.le_refl _,fun _ _ _=>rfl⟩
theorem Kp.trans(h:Kp F w w')(k:Kp G w' w'')(hg:∀i,i<w.heap.size→G i→F i):Kp F w w'':=
 ⟨k.os.trans h.os,k.tape.trans h.tape,k.output.trans h.output,Nat.le_trans h.size k.size,fun i hi hf=>(k.block i (Nat.lt_of_lt_of_le hi h.size) (fun hG=>hf (hg i hi hG))).trans (h.block i hi hf)⟩
theorem Kp.mono(h:Kp F w w')(hg:∀i,i<w.heap.size→F i→G i):Kp G w w':=⟨h.os,h.tape,h.output,h.size,fun i hi hf=>h.block i hi (fun hF=>hf (hg i hi hF))⟩
theorem Kp.ofBelow(F:Nat→Prop)(h:Below w.heap.size w w'):Kp F w w':=⟨h.os,h.tape,h.output,h.size,fun i hi _=>h.block i hi⟩
theorem Kp.toBelow{B:Nat}(h:Kp F w w')(hB:B≤w.heap.size)(hF:∀i,i<B→¬F i):Below B w w':=⟨h.os,h.tape,h.output,h.size,fun i hi=>h.block i (by omega) (hF i hi)⟩
theorem Kp.below{B:Nat}{a:World}(h:Kp F w w')(hb:Below B a w)(hB:B≤w.heap.size)(hF:∀i,i<B→¬F i):Below B a w':=hb.trans (h.toBelow hB hF)
theorem Kp.thenBelow(h:Kp F w w')(k:Below w'.heap.size w' w''):Kp F w w'':=h.trans (Kp.ofBelow F k) (fun _ _ h=>h)
theorem Kp.alloc(h:Kp F w w')(o:Obj):Kp F w (w'.alloc o):=h.trans (Kp.ofBelow F ((Below.refl _ _).alloc (Nat.le_refl _) o)) (fun _ _ h=>h)
theorem Kp.drew(h:Kp F w w'):Kp F w w'.drew:=h.trans (Kp.ofBelow F (Below.refl _ _).drew) (fun _ _ h=>h)
theorem Kp.set(h:Kp F w w')(b i:Nat)(u:Value)(hF:b<w.heap.size→F b):Kp F w (w'.setCell ⟨b,i,none⟩ u):=
 h.trans (G:=fun k=>k=b) ⟨rfl,rfl,rfl,by simp[World.setCell],fun k _ hk=>Below.heap_setCell _ _ _ _ hk⟩ (fun k hk e=>by subst e;exact hF hk)
theorem Kp.grown{row:Option Nat}(h:Kp F w w')(hg:w'.grownBy w'' row)(hF:∀k,k<w.heap.size→row=some k→F k):Kp F w w'':=
 h.trans (G:=fun k=>row=some k) ⟨hg.os,hg.tape,hg.output,hg.size,fun k hk hne=>hg.block k hk (fun e=>hne e.symm)⟩ (fun k hk e=>hF k hk e)
end
def bc(l:List Nat):List Value:=l.map fun (n:Nat)=>Value.int .u8 (n:Int)
theorem bc_length(l:List Nat):(bc l).length=l.length:=by unfold bc;rw[List.length_map]
theorem bc_append(l m:List Nat):bc (l++m)=bc l++bc m:=by unfold bc;rw[List.map_append]
theorem bc_get{l:List Nat}{i:Nat}{u:Value}(h:(bc l)[i]?=some u):∃x,l[i]?=some x∧u=.int .u8 (x:Int):=by
 unfold bc at h;rw[List.getElem?_map]at h;cases e:l[i]? with
 |none=>rw[e]at h;simp at h
 |some x=>rw[e]at h;simp at h;exact⟨x,rfl,h.symm⟩
theorem bc_some{l:List Nat}{i x:Nat}(h:l[i]?=some x):(bc l)[i]?=some (.int .u8 (x:Int)):=by
 unfold bc;rw[List.getElem?_map,h];rfl
theorem bc_one(l:List Nat):∀u∈bc l,u.oneCell'=true:=by
 intro u hu;obtain⟨n,_,rfl⟩:=List.mem_map.1 hu
 rfl
def RD(W:World)(v:Value)(l:List Nat):Prop:=
 FC.Bs l∧∃a cap,v=.slice a l.length cap∧l.length≤cap∧(cap≤maxLen∧(a=none→cap=0))∧(l=[]∨∃g o,a=some ⟨g,o,none⟩∧g<W.heap.size∧∀(i:Nat) x,l[i]?=some x→W.cell? ⟨g,o+i,none⟩=some (.int .u8 (x:Int)))
section
variable {W W':World} {v:Value} {l:List Nat}
theorem RD.bs(h:RD W v l):FC.Bs l:=h.1
theorem RD.keep(h:RD W v l)(hs:W.heap.size≤W'.heap.size)(hk:∀g,v.ownBlock=some g→g<W.heap.size→W'.heap[g]?=W.heap[g]?):RD W' v l:=by
 obtain⟨hB,a,cap,rfl,hc,hm,h⟩:=h;refine⟨hB,a,cap,rfl,hc,hm,?_⟩;rcases h with h|⟨g,o,rfl,hlt,h⟩
 ·exact .inl h
 ·exact .inr ⟨g,o,rfl,Nat.lt_of_lt_of_le hlt hs,fun i y hy=>(World.cell?_of_block (a:=⟨g,o+i,none⟩) (hk g rfl hlt)).trans (h i y hy)⟩
theorem RD.below'(h:RD W v l)(hb:Below W.heap.size W W'):RD W' v l:=h.keep hb.size fun g _ hlt=>hb.block g hlt
theorem RD.alloc(h:RD W v l)(o:Obj):RD (W.alloc o) v l:=h.below' ((Below.refl _ _).alloc (Nat.le_refl _) o)
theorem RD.kp{F:Nat→Prop}(h:RD W v l)(k:Kp F W W')(hF:∀g,v.ownBlock=some g→¬F g):RD W' v l:=h.keep k.size fun g hg hlt=>k.block g hlt (hF g hg)
theorem RD.drew(h:RD W v l):RD W.drew v l:=h.below' (Below.refl _ _).drew
theorem RD.nil(W:World):RD W (.slice none 0 0) []:=⟨FC.Bs.nil,none,0,rfl,Nat.zero_le _,⟨Nat.zero_le _,fun _=>rfl⟩,.inl rfl⟩
theorem RD.form(h:RD W v l):∃a cap,v=.slice a l.length cap∧l.length≤cap∧cap≤maxLen∧(l=[]∨∃g o,a=some ⟨g,o,none⟩∧g<W.heap.size):=by
 obtain⟨_,a,cap,h1,h2,hm,h3⟩:=h;refine⟨a,cap,h1,h2,hm.1,?_⟩;rcases h3 with h3|⟨g,o,h3,h4,_⟩
 ·exact .inl h3
 ·exact .inr ⟨g,o,h3,h4⟩
theorem RD.len{a:Option Addr}{n cap:Nat}(h:RD W (.slice a n cap) l):n=l.length∧n≤cap∧cap≤maxLen:=by
 obtain⟨_,a',cap',e,hc,hm,_⟩:=h;cases e;exact⟨rfl,hc,hm.1⟩
theorem RD.nilv{n cap:Nat}(h:RD W (.slice none n cap) l):n=0∧cap=0∧l=[]:=by
 obtain⟨_,a',cap',e,hc,hm,_⟩:=h;cases e;have:=hm.2 rfl;subst this;exact⟨by omega,rfl,List.length_eq_zero_iff.1 (by omega)⟩
theorem RD.cell{g o n cap:Nat}(h:RD W (.slice (some ⟨g,o,none⟩) n cap) l){i x:Nat}(hi:l[i]?=some x):W.cell? ⟨g,o+i,none⟩=some (.int .u8 (x:Int)):=by
 obtain⟨_,a',cap',e,hc,_,h⟩:=h;cases e;rcases h with h|⟨g',o',e,_,h⟩
 ·rw[h]at hi;simp at hi
 ·cases e;exact h i x hi
theorem RD.lt{g o n cap:Nat}(h:RD W (.slice (some ⟨g,o,none⟩) n cap) l)(hl:l≠[]):g<W.heap.size:=by
 obtain⟨_,a',cap',e,hc,_,h⟩:=h;cases e;rcases h with h|⟨g',o',e,hlt,_⟩
 ·exact absurd h hl
 ·cases e;exact hlt
theorem RD.cells{g o n cap:Nat}(h:RD W (.slice (some ⟨g,o,none⟩) n cap) l):∀j u,(bc l)[j]?=some u→W.cell? ((⟨g,o,none⟩:Addr).add j)=some u:=fun j u hu=>by
 obtain⟨x,hx,rfl⟩:=bc_get hu;rw[Addr.add_mid];exact h.cell hx
theorem RD.take{a:Option Addr}{n cap:Nat}(h:RD W (.slice a n cap) l)(k:Nat)(hk:k≤l.length):RD W (.slice a k cap) (l.take k):=by
 obtain⟨hB,a',cap',e,hc,hm,h⟩:=h;cases e;have hl:(l.take k).length=k:=by rw[List.length_take];omega
 refine⟨hB.take k,a,cap,by rw[hl],by omega,hm,?_⟩;rcases h with h|⟨g,o,rfl,hlt,h⟩
 ·left;rw[h];simp
 ·refine .inr ⟨g,o,rfl,hlt,fun i x hx=>h i x ?_⟩;rw[List.getElem?_take]at hx;split at hx
  ·exact hx
  ·cases hx
theorem RD.drop{a a':Option Addr}{n cap:Nat}(h:RD W (.slice a n cap) l)(k:Nat)(hk:k≤l.length)(ha:∀g o,a=some ⟨g,o,none⟩→k<l.length→a'=some ⟨g,o+k,none⟩)(hn:a'=none→a=none):RD W (.slice a' (l.length-k) (cap-k)) (l.drop k):=by
 obtain⟨hB,a0,cap',e,hc,hm,h⟩:=h;cases e;have hl:(l.drop k).length=l.length-k:=by rw[List.length_drop]
 refine⟨hB.drop k,a',cap-k,by rw[hl],by omega,⟨by have:=hm.1;omega,fun e=>by have:=hm.2 (hn e);omega⟩,?_⟩;by_cases hkl:k<l.length
 ·rcases h with h|⟨g,o,rfl,hlt,h⟩
  ·left;rw[h];simp
  ·refine .inr ⟨g,o+k,ha g o rfl hkl,hlt,fun i x hx=> ?_⟩;rw[List.getElem?_drop]at hx;rw[Nat.add_assoc];exact h (k+i) x hx
 ·left;apply List.length_eq_zero_iff.1;omega
end
def OW(W:World)(B:Nat)(v:Value)(l:List Nat):Prop:=W.ownsRow B 5 1 v l.length (bc l)
section
variable {W W':World} {B:Nat} {v:Value} {l:List Nat}
theorem OW.nil(W:World)(B:Nat):OW W B (.slice none 0 0) []:=World.ownsRow_nil W B _ 1
theorem OW.form(h:OW W B v l):(v=.slice none 0 0∧l=[])∨∃g cap,v=.slice (some ⟨g,0,none⟩) l.length cap∧B≤g∧g<W.heap.size∧l.length≤cap∧cap≤maxLen:=by
 rcases h.2 with⟨h1,h2⟩|⟨g,cap,cur,hv,hb,hg,hc,hm,_⟩
 ·exact .inl ⟨h1,List.length_eq_zero_iff.1 h2⟩
 ·exact .inr ⟨g,cap,hv,hb,(Array.getElem?_eq_some_iff.1 hg).1,hc,hm⟩
theorem OW.lt(h:OW W B v l):∀g,v.ownBlock=some g→B≤g∧g<W.heap.size:=World.ownsRow.lt h
theorem OW.keep(h:OW W B v l)(hk:∀g,v.ownBlock=some g→W'.heap[g]?=W.heap[g]?):OW W' B v l:=by
 refine⟨h.1,?_⟩;rcases h.2 with h2|⟨g,cap,cur,hv,hb,hg,r⟩
 ·exact .inl h2
 ·exact .inr ⟨g,cap,cur,hv,hb,(hk g (by rw[hv];rfl)).trans hg,r⟩
theorem OW.below'(h:OW W B v l)(hb:Below W.heap.size W W'):OW W' B v l:=h.keep fun g hg=>hb.block g (h.lt g hg).2
theorem OW.kp{F:Nat→Prop}(h:OW W B v l)(k:Kp F W W')(hF:∀g,v.ownBlock=some g→¬F g):OW W' B v l:=h.keep fun g hg=>k.block g (h.lt g hg).2 (hF g hg)
theorem OW.alloc(h:OW W B v l)(o:Obj):OW (W.alloc o) B v l:=h.below' ((Below.refl _ _).alloc (Nat.le_refl _) o)
theorem OW.mono{B':Nat}(h:OW W B v l)(hB:B'≤B):OW W B' v l:=by
 refine⟨h.1,?_⟩;rcases h.2 with h2|⟨g,cap,cur,hv,hb,r⟩
 ·exact .inl h2
 ·exact .inr ⟨g,cap,cur,hv,Nat.le_trans hB hb,r⟩
theorem OW.cell{g cap n:Nat}(h:OW W B (.slice (some ⟨g,0,none⟩) n cap) l){i x:Nat}(hi:l[i]?=some x):W.cell? ⟨g,i,none⟩=some (.int .u8 (x:Int)):=by
 have:=World.ownsRow.cells h (g:=g) rfl i _ (bc_some hi);rwa[Addr.add_mid,Nat.zero_add]at this
theorem OW.rd(h:OW W B v l)(hB:FC.Bs l):RD W v l:=by
 rcases h.form with⟨rfl,rfl⟩|⟨g,cap,rfl,_,hlt,hc,hm⟩
 ·exact RD.nil _
 ·exact⟨hB,_,cap,rfl,hc,⟨hm,fun e=>by cases e⟩,.inr ⟨g,0,rfl,hlt,fun i x hx=>by rw[Nat.zero_add];exact h.cell hx⟩⟩
theorem OW.len{a:Option Addr}{n cap:Nat}(h:OW W B (.slice a n cap) l):n=l.length:=by
 rcases h.form with⟨h1,h2⟩|⟨g,c,h1,_⟩
 ·cases h1;rw[h2];rfl
 ·cases h1;rfl
theorem OW.fr{g cap n:Nat}(h:OW W B (.slice (some ⟨g,0,none⟩) n cap) l)(j:Nat):W.frozen? ⟨g,j,none⟩=false:=by
 have hn:=h.len;subst hn;exact World.ownsRow.frozenAt h j
theorem bc_set(l:List Nat)(i x:Nat):(bc l).set i (.int .u8 (x:Int))=bc (l.set i x):=by unfold bc;rw[List.map_set]
theorem OW.put{g cap n:Nat}(h:OW W B (.slice (some ⟨g,0,none⟩) n cap) l)(i x:Nat):OW (W.setCell ⟨g,i,none⟩ (.int .u8 (x:Int))) B (.slice (some ⟨g,0,none⟩) n cap) (l.set i x):=by
 have hn:=h.len;subst hn;have:=(World.ownsRow.stored h i (.int .u8 (x:Int))).1;rw[bc_set]at this;unfold OW;rw[List.length_set];exact this
theorem OW.lit(W:World)(l:List Nat)(hB:B≤W.heap.size)(hm:l.length≤maxLen):OW (W.alloc (.cells (bc l).toArray 5)) B (.slice (some ⟨W.heap.size,0,none⟩) l.length l.length) l:=by
 have:=World.ownsRow_lit (e:=5) (size:=1) W (bc l).toArray l.length hB hm (by simp[bc_length]);simpa[OW]using this
end
def fv(f:Fr):List Value:=[.int .i64 f.ki,.int .i64 f.ca,.int .i64 f.sq,.int .i64 f.a,.int .i64 f.b,.int .i64 f.c]
def rv(L:List Fr):List Value:=L.flatMap fv
theorem fv_length(f:Fr):(fv f).length=6:=rfl
theorem rv_length(L:List Fr):(rv L).length=L.length*6:=by
 induction L with
 |nil=>rfl
 |cons c r ih=>show(fv c++rv r).length=_;rw[List.length_append,ih,fv_length,List.length_cons];omega
theorem rv_append(L M:List Fr):rv (L++M)=rv L++rv M:=by unfold rv;rw[List.flatMap_append]
theorem rv_one1(f:Fr):rv [f]=fv f:=by simp[rv]
theorem rv_get{L:List Fr}{i j:Nat}(h:i<L.length)(hj:j<6):(rv L)[i*6+j]?=(fv L[i])[j]?:=by
 induction L generalizing i with
 |nil=>simp at h
 |cons c r ih=>
  show(fv c++rv r)[i*6+j]?=_;cases i with
  |zero=>rw[List.getElem?_append_left (by rw[fv_length];omega)];simp
  |succ i=>
   rw[List.getElem?_append_right (by rw[fv_length];omega),fv_length,show(i+1)*6+j-6=i*6+j by omega,ih (by simpa using h)];simp
theorem fv_one(f:Fr):∀u∈fv f,u.oneCell'=true:=by
 intro u hc;simp only[fv,List.mem_cons,List.not_mem_nil,or_false]at hc;rcases hc with rfl|rfl|rfl|rfl|rfl|rfl<;>rfl
theorem rv_one(L:List Fr):∀u∈rv L,u.oneCell'=true:=by
 intro u hu;obtain⟨c,_,hc⟩:=List.mem_flatMap.1 hu;exact fv_one c u hc
def RF(W:World)(v:Value)(L:List Fr):Prop:=
 ∃a cap,v=.slice a L.length cap∧L.length≤cap∧(L=[]∨∃g o,a=some ⟨g,o,none⟩∧g<W.heap.size∧∀(i:Nat) y,L[i]?=some y→W.rangeAt g (o+i*6) (fv y))
def FO(W:World)(B:Nat)(v:Value)(L:List Fr):Prop:=W.ownsRow B 73 6 v L.length (rv L)
section
variable {W W':World} {B:Nat} {v:Value} {L:List Fr}
theorem rangeAt_block{b o:Nat}{cs:List Value}(h:W.rangeAt b o cs)(hb:W'.heap[b]?=W.heap[b]?):W'.rangeAt b o cs:=fun j u hu=>
 (World.cell?_of_block (a:=⟨b,o+j,none⟩) hb).trans (h j u hu)
theorem RF.keep(h:RF W v L)(hs:W.heap.size≤W'.heap.size)(hk:∀g,v.ownBlock=some g→g<W.heap.size→W'.heap[g]?=W.heap[g]?):RF W' v L:=by
 obtain⟨a,cap,rfl,hc,h⟩:=h;refine⟨a,cap,rfl,hc,?_⟩;rcases h with h|⟨g,o,rfl,hlt,h⟩
 ·exact .inl h
 ·exact .inr ⟨g,o,rfl,Nat.lt_of_lt_of_le hlt hs,fun i y hy=>rangeAt_block (h i y hy) (hk g rfl hlt)⟩
theorem RF.below'(h:RF W v L)(hb:Below W.heap.size W W'):RF W' v L:=h.keep hb.size fun g _ hlt=>hb.block g hlt
theorem RF.kp{F:Nat→Prop}(h:RF W v L)(k:Kp F W W')(hF:∀g,v.ownBlock=some g→¬F g):RF W' v L:=h.keep k.size fun g hg hlt=>k.block g hlt (hF g hg)
theorem RF.form(h:RF W v L):∃a cap,v=.slice a L.length cap∧L.length≤cap:=by
 obtain⟨a,cap,h1,h2,_⟩:=h;exact⟨a,cap,h1,h2⟩
theorem RF.at{a:Option Addr}{n cap:Nat}(h:RF W (.slice a n cap) L){i:Nat}{y:Fr}(hy:L[i]?=some y):∃g o,a=some ⟨g,o,none⟩∧g<W.heap.size∧W.rangeAt g (o+i*6) (fv y):=by
 obtain⟨a',cap',e,_,h⟩:=h;cases e;rcases h with h|⟨g,o,rfl,hlt,h⟩
 ·rw[h]at hy;simp at hy
 ·exact⟨g,o,rfl,hlt,h i y hy⟩
theorem FO.nil(W:World)(B:Nat):FO W B (.slice none 0 0) []:=World.ownsRow_nil W B _ 6
theorem FO.form(h:FO W B v L):(v=.slice none 0 0∧L=[])∨∃g cap,v=.slice (some ⟨g,0,none⟩) L.length cap∧B≤g∧g<W.heap.size∧L.length≤cap:=by
 rcases h.2 with⟨h1,h2⟩|⟨g,cap,cur,hv,hb,hg,hc,_⟩
 ·exact .inl ⟨h1,List.length_eq_zero_iff.1 h2⟩
 ·exact .inr ⟨g,cap,hv,hb,(Array.getElem?_eq_some_iff.1 hg).1,hc⟩
theorem FO.lt(h:FO W B v L):∀g,v.ownBlock=some g→B≤g∧g<W.heap.size:=World.ownsRow.lt h
theorem FO.keep(h:FO W B v L)(hk:∀g,v.ownBlock=some g→W'.heap[g]?=W.heap[g]?):FO W' B v L:=by
 refine⟨h.1,?_⟩;rcases h.2 with h2|⟨g,cap,cur,hv,hb,hg,r⟩
 ·exact .inl h2
 ·exact .inr ⟨g,cap,cur,hv,hb,(hk g (by rw[hv];rfl)).trans hg,r⟩
theorem FO.below'(h:FO W B v L)(hb:Below W.heap.size W W'):FO W' B v L:=h.keep fun g hg=>hb.block g (h.lt g hg).2
theorem FO.kp{F:Nat→Prop}(h:FO W B v L)(k:Kp F W W')(hF:∀g,v.ownBlock=some g→¬F g):FO W' B v L:=h.keep fun g hg=>k.block g (h.lt g hg).2 (hF g hg)
theorem FO.alloc(h:FO W B v L)(o:Obj):FO (W.alloc o) B v L:=h.below' ((Below.refl _ _).alloc (Nat.le_refl _) o)
theorem FO.mono{B':Nat}(h:FO W B v L)(hB:B'≤B):FO W B' v L:=by
 refine⟨h.1,?_⟩;rcases h.2 with h2|⟨g,cap,cur,hv,hb,r⟩
 ·exact .inl h2
 ·exact .inr ⟨g,cap,cur,hv,Nat.le_trans hB hb,r⟩
theorem FO.range{g cap n:Nat}(h:FO W B (.slice (some ⟨g,0,none⟩) n cap) L){i:Nat}(hi:i<L.length):W.rangeAt g (i*6) (fv L[i]):=fun j u hu=>by
 have hj:j<6:=by have:=(List.getElem?_eq_some_iff.1 hu).1;rwa[fv_length]at this
 have:=World.ownsRow.cells h (g:=g) rfl (i*6+j) u (by rw[rv_get hi hj];exact hu);rwa[Addr.add_mid,Nat.zero_add]at this
end
def FB(W:World)(b:Nat)(f:Fr):Prop:=W.heap[b]?=some (.cells #[.int .i64 f.ki,.int .i64 f.ca,.int .i64 f.sq,.int .i64 f.a,.int .i64 f.b,.int .i64 f.c] 73 (0,0))
section
variable {W W':World} {b:Nat} {f:Fr}
theorem FB.lt(H:FB W b f):b<W.heap.size:=(Array.getElem?_eq_some_iff.1 H).1
theorem FB.range(H:FB W b f):W.rangeAt b 0 (fv f):=fun j v hv=>by
 rw[Nat.zero_add,cell_of_row W b j _ _ _ H,←hv];simp[fv]
theorem FB.c0(H:FB W b f):W.cell? ⟨b,0,none⟩=some (.int .i64 f.ki):=H.range 0 _ rfl
theorem FB.c1(H:FB W b f):W.cell? ⟨b,1,none⟩=some (.int .i64 f.ca):=H.range 1 _ rfl
theorem FB.c2(H:FB W b f):W.cell? ⟨b,2,none⟩=some (.int .i64 f.sq):=H.range 2 _ rfl
theorem FB.c3(H:FB W b f):W.cell? ⟨b,3,none⟩=some (.int .i64 f.a):=H.range 3 _ rfl
theorem FB.c4(H:FB W b f):W.cell? ⟨b,4,none⟩=some (.int .i64 f.b):=H.range 4 _ rfl
theorem FB.c5(H:FB W b f):W.cell? ⟨b,5,none⟩=some (.int .i64 f.c):=H.range 5 _ rfl
theorem FB.fr(H:FB W b f)(i:Nat):W.frozen? ⟨b,i,none⟩=false:=by simp[World.frozen?,show W.heap[b]?=_ from H]
theorem FB.below'(H:FB W b f)(hb:Below W.heap.size W W'):FB W' b f:=(hb.block b H.lt).trans H
theorem FB.alloc(H:FB W b f)(o:Obj):FB (W.alloc o) b f:=H.below' ((Below.refl _ _).alloc (Nat.le_refl _) o)
theorem FB.drew(H:FB W b f):FB W.drew b f:=H.below' (Below.refl _ _).drew
theorem FB.new(W:World)(f:Fr):FB (W.alloc (.cells #[.int .i64 f.ki,.int .i64 f.ca,.int .i64 f.sq,.int .i64 f.a,.int .i64 f.b,.int .i64 f.c] 73)) W.heap.size f:=heap_alloc_new W _
theorem FB.kp{G:Nat→Prop}(H:FB W b f)(k:Kp G W W')(hG:¬G b):FB W' b f:=(k.block b H.lt hG).trans H
end
theorem i64_or_nat(a b:Nat)(ha:a<2147483648)(hb:b<2147483648):bits .or .i64 (a:Int) (b:Int)=((a|||b:Nat):Int):=by
 have h:=Nat.or_lt_two_pow (n:=31) ha hb;show IntKind.i64.wrap ((BitVec.ofInt 64 (a:Int)|||BitVec.ofInt 64 (b:Int)).toNat:Nat)=_;rw[BitVec.toNat_or,ofInt_u64 a (by omega),ofInt_u64 b (by omega),IntKind.wrap_i64];omega
theorem doubled_any(s:Nat)(hs:s<65536)(w:World):
  Calls Tryz.prog 69 #[.int .u16 (s:Int)] w fun e w'=>e=.returned (.int .u16 (FC.dbl s:Nat))∧w'=w:=by
 by_cases h:32768≤s
 ·have hz:(32768:Int)≤(s:Int):=by omega
  go_enter Tryz.func69,Tryz.ntmps69
  go_wp2;go_ret;refine⟨ret_int ?_,rfl⟩;have e:IntKind.u16.wrap ((s:Int)*2)=((2*s-65536:Nat):Int):=by rw[IntKind.wrap_u16];omega
  rw[e,show(4129:Int)=((4129:Nat):Int)from rfl,u16_xor_nat _ _ (by omega) (by omega)];unfold FC.dbl;rw[if_pos h]
 ·have hz:¬(32768:Int)≤(s:Int):=by omega
  go_enter Tryz.func69,Tryz.ntmps69
  go_wp2;go_ret;refine⟨ret_int ?_,rfl⟩;unfold FC.dbl;rw[if_neg h];omega
theorem upper_any(n:Nat)(hs:n<65536)(w:World):
  Calls Tryz.prog 50 #[.int .i64 (n:Int)] w fun e w'=>e=.returned (.int .u8 (n/256:Nat))∧w'=w:=by
 go_enter Tryz.func50,Tryz.ntmps50
 go_wp2;go_ret;refine⟨ret_int ?_,rfl⟩;omega
theorem lower_any(n:Nat)(_hs:n<65536)(w:World):
  Calls Tryz.prog 51 #[.int .i64 (n:Int)] w fun e w'=>e=.returned (.int .u8 (n%256:Nat))∧w'=w:=by
 go_enter Tryz.func51,Tryz.ntmps51
 go_wp2;go_ret;refine⟨ret_int ?_,rfl⟩;omega
theorem joined_any(x y:Nat)(hx:x<256)(hy:y<256)(w:World):
  Calls Tryz.prog 132 #[.int .u8 (x:Int),.int .u8 (y:Int)] w fun e w'=>e=.returned (.int .i64 (x*256+y:Nat))∧w'=w:=by
 go_enter Tryz.func132,Tryz.ntmps132
 go_wp2;go_ret;refine⟨ret_int ?_,rfl⟩;rw[show(x:Int)*256=((x*256:Nat):Int) by omega,i64_or_nat _ _ (by omega) (by omega),nat_join 8 (x*256) y (by omega) hy]
theorem sum_any(v:Value)(l:List Nat)(w:World)(h:RD w v l):
  Calls Tryz.prog 52 #[v] w fun e w'=>e=.returned (.int .i64 (FC.crc l:Nat))∧w'=w:=by
 have HR:=Hd h;obtain⟨a,cap,rfl,hc,hm,ha⟩:=h.form;have hB:=Hd h.bs;unfold maxLen at hm;clear h
 go_enter Tryz.func52,Tryz.ntmps52
 go_wp2
 go_loop [3,5,8,17] (fun s _ i _=>∃k:Nat,k≤l.length∧i=.int .i64 k∧s=.int .u16 (FC.crc (l.take k):Nat)) (fun _ _ i _=>l.length-(intOf i).toNat)
 case atStart=>exact⟨0,Nat.zero_le _,rfl,rfl⟩
 case round=>
  obtain⟨k,hk,rfl,rfl⟩:=hrel;have hlt16:=FC.crc_lt (hB.out.take k);generalize hs:FC.crc (l.take k)=s at hlt16;have HS:=Hd hs;clear hs;by_cases hlt:k<l.length
  ·have hkz:(k:Int)<(l.length:Int):=by omega
   obtain⟨x,hx⟩:∃x,l[k]?=some x:=⟨_,List.getElem?_eq_getElem hlt⟩;have hx8:=hB.out.get hx;rcases ha with ha|⟨g,o,rfl,hg⟩
   ·exfalso;rw[ha]at hx;simp at hx
   have hcell:=HR.out.cell hx;have HX:=Hd hx;clear hx;go_wp2
   go_loop [3,17] (fun t i=>∃j:Nat,j≤8∧i=.int .i64 j∧t=.int .u16 (FC.dbls j (s^^^(x*256)):Nat)) (fun _ i=>8-(intOf i).toNat)
   case atStart=>
    refine⟨0,Nat.zero_le _,rfl,?_⟩;rw[show(x:Int)*256=((x*256:Nat):Int) by omega,u16_xor_nat _ _ hlt16 (by omega)]
    rfl
   case round=>
    obtain⟨j,hj,rfl,rfl⟩:=hrel;have hdl:=FC.dbls_lt (a:=s^^^(x*256)) j (FC.xor_lt hlt16 (by omega));by_cases hlt8:j<8
    ·have hjz:(j:Int)<8:=by omega
     go_wp2_with (go_at_call 69;refine (doubled_any _ hdl _).mono ?_;rintro e w' ⟨rfl,rfl⟩)
     go_round
     case rel=>exact⟨j+1,by omega,by go_num,rfl⟩
     case measure=>simp[intOf];omega
    ·have hjz:¬(j:Int)<8:=by omega
     obtain rfl:j=8:=by omega
     have HT:Hid (FC.crc (l.take (k+1))=FC.dbls 8 (s^^^(x*256))):=by
      have:=FC.crc_take HX.out;rw[HS.out]at this;exact this
     go_wp2
     go_round
     case rel=>exact⟨k+1,by omega,by go_num,by rw[HT.out]⟩
     case measure=>simp[intOf];omega
  ·have hkz:¬(k:Int)<(l.length:Int):=by omega
   obtain rfl:k=l.length:=by omega
   go_wp2;go_ret;refine⟨ret_int ?_,rfl⟩;rw[←HS.out,List.take_length]
def inB(lo hi:Int)(zs:List Int):Bool:=zs.all fun z=>decide (lo≤z)&&decide (z≤hi)
theorem inB_iff{lo hi:Int}{zs:List Int}:inB lo hi zs=true↔∀z∈zs,lo≤z∧z≤hi:=by simp[inB]
theorem inB_get{lo hi:Int}{zs:List Int}:inB lo hi zs=true↔∀(i:Nat) z,zs[i]?=some z→lo≤z∧z≤hi:=by
 rw[inB_iff];constructor
 ·intro h i z hz;exact h z (List.mem_of_getElem? hz)
 ·intro h z hz;obtain⟨i,hi⟩:=List.getElem?_of_mem hz;exact h i z hi
theorem fresh_ints(W:World)(t:TypeId)(zs:List Int):∀i z,zs[i]?=some z→(W.alloc (.cells (zs.map (Value.int .i64)).toArray t)).cell? ⟨W.heap.size,i,none⟩=some (.int .i64 z):=fun i z h=>by
 rw[cell_of_row _ _ i _ _ _ (heap_alloc_new W _)];simp[h]
theorem within_any(lo hi:Int)(zs:List Int)(b n:Nat)(w:World)(hn:zs.length=n)(hm:n≤1000)(hc:∀i z,zs[i]?=some z→w.cell? ⟨b,i,none⟩=some (.int .i64 z)):
  Calls Tryz.prog 49 #[.int .i64 lo,.int .i64 hi,.slice (some ⟨b,0,none⟩) n n] w fun e w'=>e=.returned (.bool (inB lo hi zs))∧w'=w:=by
 have HC:=Hd hc;have HN:=Hd hn;clear hc hn
 go_enter Tryz.func49,Tryz.ntmps49
 go_wp2
 go_loop [8,11] (fun _ i=>∃k:Nat,k≤n∧i=.int .i64 k∧Hid (∀(j:Nat) z,j<k→zs[j]?=some z→lo≤z∧z≤hi)) (fun _ i=>n-(intOf i).toNat)
 case atStart=>exact⟨0,Nat.zero_le _,rfl,fun j z hj=>absurd hj (by omega)⟩
 case round=>
  obtain⟨k,hk,rfl,HP⟩:=hrel;by_cases hlt:k<n
  ·have hkz:(k:Int)<(n:Int):=by omega
   obtain⟨x,hx⟩:∃x,zs[k]?=some x:=⟨_,List.getElem?_eq_getElem (by have:=HN.out;omega)⟩;have hcell:=HC.out k x hx;have HX:=Hd hx;clear hx;by_cases h1:x<lo
   ·go_wp2;go_ret;refine⟨?_,rfl⟩
    have:inB lo hi zs=false:=by
     rw[Bool.eq_false_iff];intro h;have:=inB_get.1 h k x HX.out;omega
    rw[this];rfl
   ·by_cases h2:hi<x
    ·go_wp2;go_ret;refine⟨?_,rfl⟩
     have:inB lo hi zs=false:=by
      rw[Bool.eq_false_iff];intro h;have:=inB_get.1 h k x HX.out;omega
     rw[this];rfl
    ·go_wp2
     go_round
     case rel=>
      refine⟨k+1,by omega,by go_num,fun j z hj hz=> ?_⟩;by_cases e:j=k
      ·subst e;rw[HX.out]at hz;cases hz;omega
      ·exact HP.out j z (by omega) hz
     case measure=>simp[intOf];omega
  ·have hkz:¬(k:Int)<(n:Int):=by omega
   go_wp2;go_ret;refine⟨?_,rfl⟩;have:inB lo hi zs=true:=inB_get.2 fun i z hz=>HP.out i z (by have:=(List.getElem?_eq_some_iff.1 hz).1;have:=HN.out;omega) hz;rw[this];rfl
theorem isKind_any(k:Int)(w:World):Calls Tryz.prog 48 #[.int .i64 k] w fun e w'=>e=.returned (.bool (inB 1 3 [k]))∧Below w.heap.size w w':=by
 go_enter Tryz.func48,Tryz.ntmps48
 go_wp2_with fail
 refine (within_any 1 3 [k] w.heap.size 1 _ rfl (by omega) (fresh_ints w 3 [k])).mono ?_;rintro e w' ⟨rfl,rfl⟩;go_wp2;go_ret;exact⟨rfl,(Below.refl _ _).alloc (Nat.le_refl _) _⟩
theorem infoB:(Tryz.prog.info? 5).map (fun i=>(i.zero,i.size,i.bytes))=some (some (.int .u8 0),1,1):=by kernel_rfl
theorem wpList_appendB{ops:Array Oper}{rest:List Oper}{o:Oper}{a:Act}{w:World}{Q:Exit→Act→World→Prop}(hgd:o.guard=none)(s x:Operand)
  (ho:o.op=.call {callee:=.builtin .append,args:= #[s,x],argTypes:= #[62,62]})
  (B:Nat) (v:Value) (l:List Nat) (hs:a.eval s=v) (hown:OW w B v l) (ad:Addr) (c:Nat) (m:List Nat) (hx:a.eval x=.slice (some ad) m.length c) (hc:∀j u,(bc m)[j]?=some u→w.cell? (ad.add j)=some u)
  (h63:l.length+m.length≤100000000) (hB:B≤w.heap.size)
  (h:∀v' w',OW w' B v' (l++m)→w.grownBy w' v.ownBlock→wpList Tryz.prog ops Q rest (a.put o.dst v') w'):wpList Tryz.prog ops Q (o::rest) a w:=by
 obtain⟨i0,hi,hz0,hz1,hz2⟩:=info_parts infoB;refine wpList_append_own w hgd s x 62 ho B 5 i0 _ 1 1 Tryz.underlying62 hi hz0 hz1 hz2 rfl (by decide) v l.length (bc l) hs hown ad m.length c (bc m) hx (by rw[bc_length];omega) hc (bc_one m) (by unfold maxLen;omega) (by omega) hB ?_;intro v' w' h1 h2 _;refine h v' w' ?_ h2;unfold OW;rw[List.length_append,bc_append];exact h1
theorem wpList_appendR{ops:Array Oper}{rest:List Oper}{o:Oper}{a:Act}{w:World}{Q:Exit→Act→World→Prop}(hgd:o.guard=none)(s x:Operand)
  (ho:o.op=.call {callee:=.builtin .append,args:= #[s,x],argTypes:= #[62,62]})
  (B:Nat) (v u:Value) (l m:List Nat) (hs:a.eval s=v) (hown:OW w B v l) (hx:a.eval x=u) (hr:RD w u m)
  (h63:l.length+m.length≤100000000) (hB:B≤w.heap.size)
  (h:∀v' w',OW w' B v' (l++m)→w.grownBy w' v.ownBlock→wpList Tryz.prog ops Q rest (a.put o.dst v') w'):wpList Tryz.prog ops Q (o::rest) a w:=by
 obtain⟨ao,cap,rfl,hc,hm,_⟩:=hr.form;cases ao with
 |none=>
  obtain⟨h0,rfl,rfl⟩:=hr.nilv;obtain⟨i0,hi,_,_,_⟩:=info_parts infoB;refine wpList_append_own_none hgd s x 62 ho B 5 i0 1 Tryz.underlying62 hi v l.length (bc l) hs hown (by rw[hx];rfl) ?_;refine h v w ?_ (World.grownBy.refl w _);rw[List.append_nil];exact hown
 |some ad=>
  refine wpList_appendB hgd s x ho B v l hs hown ad cap m hx (fun j y hy=> ?_) h63 hB h;obtain⟨a',c',e,_,_,hh⟩:=hr.2;cases e;rcases hh with hh|⟨g,o',e,_,hh⟩
  ·rw[hh]at hy;simp[bc]at hy
  ·cases e;obtain⟨z,hz,rfl⟩:=bc_get hy;rw[Addr.add_mid];exact hh j z hz
theorem encode_nat(ki ca sq a b c:Nat)(w:World)(h0:1≤ki)(h1:ki≤3)(h2:ca≤255)(h3:sq≤65535)(h4:a≤255)(h5:b≤255)(h6:c≤255):
  Calls Tryz.prog 37 #[.agg #[.int .i64 (⟨ki,ca,sq,a,b,c⟩:Fr).ki,.int .i64 (⟨ki,ca,sq,a,b,c⟩:Fr).ca,.int .i64 (⟨ki,ca,sq,a,b,c⟩:Fr).sq,.int .i64 (⟨ki,ca,sq,a,b,c⟩:Fr).a,.int .i64 (⟨ki,ca,sq,a,b,c⟩:Fr).b,.int .i64 (⟨ki,ca,sq,a,b,c⟩:Fr).c]] w fun e w'=>∃v,e=.returned (.tuple #[v,.int .i64 0])∧OW w' w.heap.size v (FC.en ⟨ki,ca,sq,a,b,c⟩)∧Below w.heap.size w w':=by
 have H8:Hid (FC.Bs [165,ki,ca,sq/256,sq%256,a,b,c]):=FC.Bs.cons (by omega) (FC.Bs.cons (by omega) (FC.Bs.cons (by omega) (FC.Bs.cons (by omega) (FC.Bs.cons (by omega) (FC.Bs.cons (by omega) (FC.Bs.cons (by omega) (FC.Bs.cons (by omega) FC.Bs.nil)))))));have HF0:=Hd (FB.new w ⟨ki,ca,sq,a,b,c⟩);have HB0:=Hd ((Below.refl w.heap.size w).alloc (Nat.le_refl _) (.cells #[.int .i64 (⟨ki,ca,sq,a,b,c⟩:Fr).ki,.int .i64 (⟨ki,ca,sq,a,b,c⟩:Fr).ca,.int .i64 (⟨ki,ca,sq,a,b,c⟩:Fr).sq,.int .i64 (⟨ki,ca,sq,a,b,c⟩:Fr).a,.int .i64 (⟨ki,ca,sq,a,b,c⟩:Fr).b,.int .i64 (⟨ki,ca,sq,a,b,c⟩:Fr).c] 73));have k1:inB 1 3 [(ki:Int)]=true:=inB_iff.2 (by simp;omega);have k2:inB 0 255 [(ca:Int),a,b,c]=true:=inB_iff.2 (by simp;omega);have k3:inB 0 65535 [(sq:Int)]=true:=inB_iff.2 (by simp;omega)
 go_enter Tryz.func37,Tryz.ntmps37
 go_wp2_with fail
 refine (isKind_any _ _).mono ?_;rintro e W1 ⟨rfl,hb1⟩;have HF1:=Hd (HF0.out.below' hb1);have HB1:=Hd (below_class HB0.out hb1);clear hb1 HF0 HB0;have c1:=HF1.out.c1;have c3:=HF1.out.c3;have c4:=HF1.out.c4;have c5:=HF1.out.c5
 go_wp2_with fail
 refine (within_any 0 255 [(ca:Int),a,b,c] W1.heap.size 4 _ rfl (by omega) (fresh_ints W1 3 _)).mono ?_;rintro e W2 ⟨rfl,hW⟩;have HF2:Hid (FB W2 w.heap.size ⟨ki,ca,sq,a,b,c⟩):=by rw[hW];exact HF1.out.alloc _
 have HB2:Hid (Below w.heap.size w W2):=by rw[hW];exact HB1.out.alloc HB1.out.size _
 clear c1 c3 c4 c5 HF1 HB1 hW;have c2:=HF2.out.c2
 go_wp2_with fail
 refine (within_any 0 65535 [(sq:Int)] W2.heap.size 1 _ rfl (by omega) (fresh_ints W2 3 _)).mono ?_;rintro e W3 ⟨rfl,hW⟩;have HF3:Hid (FB W3 w.heap.size ⟨ki,ca,sq,a,b,c⟩):=by rw[hW];exact HF2.out.alloc _
 have HB3:Hid (Below w.heap.size w W3):=by rw[hW];exact HB2.out.alloc HB2.out.size _
 clear c2 HF2 HB2 hW;have c0:=HF3.out.c0;have c1:=HF3.out.c1;have c2:=HF3.out.c2;have c3:=HF3.out.c3;have c4:=HF3.out.c4;have c5:=HF3.out.c5
 go_wp2_with fail
 refine wp_region_still_tail 21 (by kernel_rfl) (by kernel_rfl) ?_;simp only[List.take_succ_cons,List.take_zero,List.drop_succ_cons,List.drop_zero]
 iterate 8 (unfold wpStill;generalize hK:wpStill _ _ _ _ _=K;go_simp;subst hK)
 unfold wpStill;generalize hK:wpStill _ _ _ _ _=K;go_simp;refine⟨_,upper_any sq (by omega) _,?_⟩;subst hK
 iterate 2 (unfold wpStill;generalize hK:wpStill _ _ _ _ _=K;go_simp;subst hK)
 unfold wpStill;generalize hK:wpStill _ _ _ _ _=K;go_simp;refine⟨_,lower_any sq (by omega) _,?_⟩;subst hK
 iterate 9 (unfold wpStill;generalize hK:wpStill _ _ _ _ _=K;go_simp;subst hK)
 refine wpStill_nil ?_
 go_wp2_with fail
 have HO:Hid (OW (W3.alloc (.cells #[.int .u8 165,.int .u8 ki,.int .u8 ca,.int .u8 (sq/256),.int .u8 (sq%256),.int .u8 a,.int .u8 b,.int .u8 c] 5)).drew w.heap.size (.slice (some ⟨W3.heap.size,0,none⟩) 8 8) [165,ki,ca,sq/256,sq%256,a,b,c]):=
  OW.lit (B:=w.heap.size) W3 [165,ki,ca,sq/256,sq%256,a,b,c] HB3.out.size (by unfold maxLen;simp)
 have HB4:Hid (Below w.heap.size w (W3.alloc (.cells #[.int .u8 165,.int .u8 ki,.int .u8 ca,.int .u8 (sq/256),.int .u8 (sq%256),.int .u8 a,.int .u8 b,.int .u8 c] 5)).drew):=(HB3.out.alloc HB3.out.size _).drew;generalize (W3.alloc (.cells #[.int .u8 165,.int .u8 ki,.int .u8 ca,.int .u8 (sq/256),.int .u8 (sq%256),.int .u8 a,.int .u8 b,.int .u8 c] 5)).drew=W4 at HO HB4⊢;generalize W3.heap.size=g at HO⊢;clear c0 c1 c2 c3 c4 c5 HF3 HB3;refine (sum_any _ _ _ (HO.out.rd H8.out)).mono ?_;rintro e W5 ⟨rfl,hW⟩;subst hW;have hn:=FC.crc_lt H8.out
 have HN:Hid (FC.en ⟨ki,ca,sq,a,b,c⟩=[165,ki,ca,sq/256,sq%256,a,b,c]++[FC.crc [165,ki,ca,sq/256,sq%256,a,b,c]/256,FC.crc [165,ki,ca,sq/256,sq%256,a,b,c]%256]):=by
  show FC.en _=_;unfold FC.en FC.h8;simp only[Int.toNat_natCast]
 generalize FC.crc [165,ki,ca,sq/256,sq%256,a,b,c]=n at hn HN⊢
 go_wp2_with (first|(go_at_call 50;refine (upper_any n hn _).mono ?_;rintro e w' ⟨rfl,rfl⟩)|(go_at_call 51;refine (lower_any n hn _).mono ?_;rintro e w' ⟨rfl,rfl⟩)|(at_builtin;refine wpList_appendB rfl _ _ rfl w.heap.size _ [165,ki,ca,sq/256,sq%256,a,b,c] rfl ?qc1 ⟨_,0,none⟩ 2 [n/256,n%256] rfl ?qc2 ?qc3 ?qc4 ?_))
 case qc1=>exact HO.out.alloc _
 case qc2=>exact((OW.lit (B:=0) _ [n/256,n%256] (Nat.zero_le _) (by unfold maxLen;simp)).rd (FC.Bs.cons (by omega) (FC.Bs.cons (by omega) FC.Bs.nil))).cells
 case qc3=>simp
 case qc4=>simp;have:=HB4.out.size;omega
 intro v' w1 hown hgrow;have HO2:=Hd hown;have HB5:=Hd ((HB4.out.alloc HB4.out.size _).grown hgrow (by simp;have:=HB4.out.size;omega) (by intro k hk;simp[Value.ownBlock]at hk;have:=HO.out.lt g rfl;omega));clear hown hgrow;go_wp2
 go_ret2
 refine⟨v',rfl,?_,HB5.out⟩;rw[HN.out];exact HO2.out
theorem encode_yes(f:Fr)(w:World)(h:FC.May f):
  Calls Tryz.prog 37 #[.agg #[.int .i64 f.ki,.int .i64 f.ca,.int .i64 f.sq,.int .i64 f.a,.int .i64 f.b,.int .i64 f.c]] w fun e w'=>∃v,e=.returned (.tuple #[v,.int .i64 0])∧OW w' w.heap.size v (FC.en f)∧Below w.heap.size w w':=by
 obtain⟨ki,ca,sq,a,b,c⟩:=f;obtain⟨h1,h2,h3,h4,h5,h6,h7,h8,h9,h10,h11,h12⟩:=h;simp only at h1 h2 h3 h4 h5 h6 h7 h8 h9 h10 h11 h12;obtain⟨ki,rfl⟩:=Int.eq_ofNat_of_zero_le (show 0≤ki by omega);obtain⟨ca,rfl⟩:=Int.eq_ofNat_of_zero_le (show 0≤ca by omega);obtain⟨sq,rfl⟩:=Int.eq_ofNat_of_zero_le (show 0≤sq by omega);obtain⟨a,rfl⟩:=Int.eq_ofNat_of_zero_le (show 0≤a by omega);obtain⟨b,rfl⟩:=Int.eq_ofNat_of_zero_le (show 0≤b by omega);obtain⟨c,rfl⟩:=Int.eq_ofNat_of_zero_le (show 0≤c by omega);exact encode_nat ki ca sq a b c w (by omega) (by omega) (by omega) (by omega) (by omega) (by omega) (by omega)
theorem infoF:(Tryz.prog.info? 73).map (·.size)=some 6:=by kernel_rfl
theorem setRow_kp(w:World)(b:Nat)(cs:Array Value):Kp (fun k=>k=b) w (w.setRow b cs):=⟨rfl,rfl,rfl,by simp[World.setRow],fun k _ hk=>setRow_other w b k cs hk⟩
theorem wpList_storeF{ops:Array Oper}{rest:List Oper}{op:Oper}{a:Act}{w:World}{Q:Exit→Act→World→Prop}(hgd:op.guard=none)(x y:Operand)(ho:op.op=.store 73 x y)
  (b:Nat) {f f':Fr} (hx:a.eval x=.pointer (some ⟨b,0,none⟩)) (hy:a.eval y=.agg #[.int .i64 f'.ki,.int .i64 f'.ca,.int .i64 f'.sq,.int .i64 f'.a,.int .i64 f'.b,.int .i64 f'.c]) (H:FB w b f)
  (hn:∀W',FB W' b f'→Kp (fun k=>k=b) w W'→wpList Tryz.prog ops Q rest (a.put op.dst undef) W'):wpList Tryz.prog ops Q (op::rest) a w:=
 wpList_store_row hgd 73 x y ho b _ hx hy _ _ H infoF rfl (by simp[Value.oneCell']) (hn _ (setRow_heap w b _ _ _ _ H) (setRow_kp w b _))
theorem wpList_loadF{ops:Array Oper}{rest:List Oper}{op:Oper}{a:Act}{w:World}{Q:Exit→Act→World→Prop}(hgd:op.guard=none)(x:Operand)(ho:op.op=.load 73 x)
  (b:Nat) {f:Fr} (hx:a.eval x=.pointer (some ⟨b,0,none⟩)) (H:FB w b f)
  (hn:wpList Tryz.prog ops Q rest (a.put op.dst (.agg #[.int .i64 f.ki,.int .i64 f.ca,.int .i64 f.sq,.int .i64 f.a,.int .i64 f.b,.int .i64 f.c])) w):wpList Tryz.prog ops Q (op::rest) a w:=
 wpList_load_row hgd 73 x ho b hx _ _ _ _ H Tryz.underlying73 rfl infoF hn
theorem retF2{fn:Func}{p t:Tmp}(hf:fn.results= #[.cell p 73,.tmp t]){tmps:Array Value}{w:World}{b:Nat}{f:Fr}{u:Value}(hp:tmps.getD p undef=.pointer (some ⟨b,0,none⟩))(ht:tmps.getD t undef=u)(H:FB w b f):
  (results fn tmps).run Tryz.prog w=.ok (.tuple #[.agg #[.int .i64 f.ki,.int .i64 f.ca,.int .i64 f.sq,.int .i64 f.a,.int .i64 f.b,.int .i64 f.c],u]) w:=by
 have hp':tmps[p]?.getD undef=.pointer (some ⟨b,0,none⟩):=by simpa using hp
 have ht':tmps[t]?.getD undef=u:=by simpa using ht
 simp[results,hf,hp',ht',asAddr,run_loadVar_row w b 73 73 _ _ _ H Tryz.underlying73 rfl infoF]
theorem i64_byte{x:Nat}(h:x<256):IntKind.i64.wrap (x:Int)=(x:Int):=by rw[IntKind.wrap_i64];omega
def noF:Fr:=⟨0,0,0,0,0,0⟩
section
variable {x0 x1 x2 x3 x4 x5 x6 x7 x8 x9:Nat}
theorem de_ten:FC.de [x0,x1,x2,x3,x4,x5,x6,x7,x8,x9]=if x0=165 then(if FC.crc [x0,x1,x2,x3,x4,x5,x6,x7]=x8*256+x9 then(if 1≤x1∧x1≤3 then 0 else 3)else 6)else 3:=by
 have e0:FC.g [x0,x1,x2,x3,x4,x5,x6,x7,x8,x9] 0=x0:=rfl;have e1:FC.g [x0,x1,x2,x3,x4,x5,x6,x7,x8,x9] 1=x1:=rfl;have e8:FC.g [x0,x1,x2,x3,x4,x5,x6,x7,x8,x9] 8=x8:=rfl;have e9:FC.g [x0,x1,x2,x3,x4,x5,x6,x7,x8,x9] 9=x9:=rfl;have et:[x0,x1,x2,x3,x4,x5,x6,x7,x8,x9].take 8=[x0,x1,x2,x3,x4,x5,x6,x7]:=rfl;unfold FC.de;rw[e0,e1,e8,e9,et];simp only[show([x0,x1,x2,x3,x4,x5,x6,x7,x8,x9].length=10∧x0=165)↔x0=165 from⟨fun h=>h.2,fun h=>⟨rfl,h⟩⟩]
theorem df_no(h:FC.de [x0,x1,x2,x3,x4,x5,x6,x7,x8,x9]≠0):FC.df [x0,x1,x2,x3,x4,x5,x6,x7,x8,x9]=noF:=by unfold FC.df;rw[if_neg h];rfl
theorem df_yes(h:FC.de [x0,x1,x2,x3,x4,x5,x6,x7,x8,x9]=0):FC.df [x0,x1,x2,x3,x4,x5,x6,x7,x8,x9]=⟨x1,x2,(x3*256+x4:Nat),x5,x6,x7⟩:=by
 unfold FC.df;rw[if_pos h];unfold FC.dr FC.g;simp only[List.getElem?_cons_zero,List.getElem?_cons_succ,Option.getD_some]
end
theorem decode_few(v:Value)(l:List Nat)(w:World)(h:RD w v l)(hl:l.length≠10):
  Calls Tryz.prog 96 #[v] w fun e w'=>e=.returned (.tuple #[.agg #[.int .i64 noF.ki,.int .i64 noF.ca,.int .i64 noF.sq,.int .i64 noF.a,.int .i64 noF.b,.int .i64 noF.c],.int .i64 3])∧Below w.heap.size w w':=by
 obtain⟨a,cap,rfl,hc,hm,_⟩:=h.form;clear h;unfold maxLen at hm;have hz:((l.length:Int) !=10)=true:=by simp;omega
 go_enter Tryz.func96,Tryz.ntmps96
 go_wp2;exact bodyPost_ret (v:=.tuple #[.agg #[.int .i64 noF.ki,.int .i64 noF.ca,.int .i64 noF.sq,.int .i64 noF.a,.int .i64 noF.b,.int .i64 noF.c],.int .i64 3]) (by simp[results,Tryz.results96,go_sem,noF]) rfl ⟨rfl,(Below.refl _ _).alloc (Nat.le_refl _) _⟩
theorem decode_ten(g o cap x0 x1 x2 x3 x4 x5 x6 x7 x8 x9:Nat)(w:World)(h:RD w (.slice (some ⟨g,o,none⟩) 10 cap) [x0,x1,x2,x3,x4,x5,x6,x7,x8,x9]):
  Calls Tryz.prog 96 #[.slice (some ⟨g,o,none⟩) 10 cap] w fun e w'=>e=.returned (.tuple #[.agg #[.int .i64 (FC.df [x0,x1,x2,x3,x4,x5,x6,x7,x8,x9]).ki,.int .i64 (FC.df [x0,x1,x2,x3,x4,x5,x6,x7,x8,x9]).ca,.int .i64 (FC.df [x0,x1,x2,x3,x4,x5,x6,x7,x8,x9]).sq,.int .i64 (FC.df [x0,x1,x2,x3,x4,x5,x6,x7,x8,x9]).a,.int .i64 (FC.df [x0,x1,x2,x3,x4,x5,x6,x7,x8,x9]).b,.int .i64 (FC.df [x0,x1,x2,x3,x4,x5,x6,x7,x8,x9]).c],.int .i64 (FC.de [x0,x1,x2,x3,x4,x5,x6,x7,x8,x9]:Nat)])∧Below w.heap.size w w':=by
 have hcap:=h.len.2.1;have c0:=h.cell (i:=0) rfl;have c1:=h.cell (i:=1) rfl;have c2:=h.cell (i:=2) rfl;have c3:=h.cell (i:=3) rfl;have c4:=h.cell (i:=4) rfl;have c5:=h.cell (i:=5) rfl;have c6:=h.cell (i:=6) rfl;have c7:=h.cell (i:=7) rfl;have c8:=h.cell (i:=8) rfl;have c9:=h.cell (i:=9) rfl;rw[Nat.add_zero]at c0;have HR:=Hd (h.alloc (.cells #[.int .i64 0,.int .i64 0,.int .i64 0,.int .i64 0,.int .i64 0,.int .i64 0] 73));have hg:g<w.heap.size:=h.lt (by simp);have HB:=Hd h.bs;clear h;by_cases h0:x0=165
 ·subst h0
  go_enter Tryz.func96,Tryz.ntmps96
  go_wp2_with fail
  have HN1:Hid (FB (w.alloc (.cells #[.int .i64 0,.int .i64 0,.int .i64 0,.int .i64 0,.int .i64 0,.int .i64 0] 73)) w.heap.size noF):=FB.new w noF;have HB1:=Hd ((Below.refl w.heap.size w).alloc (Nat.le_refl _) (.cells #[.int .i64 0,.int .i64 0,.int .i64 0,.int .i64 0,.int .i64 0,.int .i64 0] 73));have hgb:g≠w.heap.size:=by omega
  generalize w.alloc (.cells #[.int .i64 0,.int .i64 0,.int .i64 0,.int .i64 0,.int .i64 0,.int .i64 0] 73)=W1 at HR HN1 HB1⊢;clear c0 c1 c2 c3 c4 c5 c6 c7 c8 c9;have hc8:(8:Int)≤(cap:Int):=by omega
  have c8:=HR.out.cell (i:=8) rfl;have c9:=HR.out.cell (i:=9) rfl;have b1:x1<256:=HB.out x1 (by simp);have b2:x2<256:=HB.out x2 (by simp);have b3:x3<256:=HB.out x3 (by simp);have b4:x4<256:=HB.out x4 (by simp);have b5:x5<256:=HB.out x5 (by simp);have b6:x6<256:=HB.out x6 (by simp);have b7:x7<256:=HB.out x7 (by simp);have b8:x8<256:=HB.out x8 (by simp);have b9:x9<256:=HB.out x9 (by simp);have HR8:=Hd (HR.out.take 8 (by simp));refine wp_region_still_tail 11 (by kernel_rfl) (by kernel_rfl) ?_;simp only[List.take_succ_cons,List.take_zero,List.drop_succ_cons,List.drop_zero]
  iterate 6 (unfold wpStill;generalize hK:wpStill _ _ _ _ _=K;go_simp;subst hK)
  unfold wpStill;generalize hK:wpStill _ _ _ _ _=K;go_simp;refine⟨_,joined_any x8 x9 b8 b9 _,?_⟩;subst hK
  iterate 2 (unfold wpStill;generalize hK:wpStill _ _ _ _ _=K;go_simp;subst hK)
  unfold wpStill;generalize hK:wpStill _ _ _ _ _=K;go_simp;refine⟨_,sum_any _ _ _ HR8.out.drew,?_⟩;subst hK;unfold wpStill;generalize hK:wpStill _ _ _ _ _=K;go_simp;subst hK;refine wpStill_nil ?_;change wpList Tryz.prog _ _ _ _ W1.drew;have HN2:=Hd HN1.out.drew;have HR2:=Hd HR.out.drew;have HB2:=Hd HB1.out.drew;clear HR HN1 HB1 c8 c9 HR8;generalize W1.drew=W2 at HR2 HN2 HB2⊢;generalize hcr:FC.crc [165,x1,x2,x3,x4,x5,x6,x7]=n;have HC:=Hd hcr;clear hcr;by_cases hs:n=x8*256+x9
  ·have hs1:((x8:Int)*256+(x9:Int) !=(n:Int))=false:=by simp;omega
   have HS:=Hd hs;clear hs;have c1:=HR2.out.cell (i:=1) rfl
   go_wp2_with fail
   refine (isKind_any _ _).mono ?_;rintro e W3 ⟨rfl,hb3⟩;have HN3:=Hd (HN2.out.below' hb3);have HR3:=Hd (HR2.out.below' hb3);have HB3:=Hd (below_class HB2.out hb3);clear hb3 HN2 HR2 HB2 c1;cases hk:inB 1 3 [(x1:Int)]with
   |false=>
    go_wp2_with (refine wpList_storeF rfl _ _ rfl w.heap.size rfl rfl (f':=noF) HN3.out ?_)
    intro W4 hF4 hk4;have HN4:=Hd hF4;have HB4:=Hd (hk4.below HB3.out HB3.out.size (fun i hi e=>by omega));clear hF4 hk4 HN3 HB3;go_wp2
    have e1:FC.de [165,x1,x2,x3,x4,x5,x6,x7,x8,x9]=3:=by
     rw[de_ten,if_pos rfl,if_pos (HC.out.trans HS.out),if_neg];intro h;rw[Bool.eq_false_iff]at hk;exact hk (inB_iff.2 (by simp;omega))
    refine bodyPost_ret (retF2 Tryz.results96 rfl rfl HN4.out) rfl ⟨?_,HB4.out⟩;rw[df_no (by omega),e1];rfl
   |true=>
    have v1:=i64_byte b1;have v2:=i64_byte b2;have v5:=i64_byte b5;have v6:=i64_byte b6;have v7:=i64_byte b7;have c1:=HR3.out.cell (i:=1) rfl;have c2:=HR3.out.cell (i:=2) rfl;have c3:=HR3.out.cell (i:=3) rfl;have c4:=HR3.out.cell (i:=4) rfl;have c5:=HR3.out.cell (i:=5) rfl;have c6:=HR3.out.cell (i:=6) rfl;have c7:=HR3.out.cell (i:=7) rfl
    go_wp2_with fail
    refine wp_region_still_tail 28 (by kernel_rfl) (by kernel_rfl) ?_;simp only[List.take_succ_cons,List.take_zero,List.drop_succ_cons,List.drop_zero]
    iterate 14 (unfold wpStill;generalize hK:wpStill _ _ _ _ _=K;go_simp;subst hK)
    unfold wpStill;generalize hK:wpStill _ _ _ _ _=K;go_simp;refine⟨_,joined_any x3 x4 b3 b4 _,?_⟩;subst hK
    iterate 13 (unfold wpStill;generalize hK:wpStill _ _ _ _ _=K;go_simp;subst hK)
    refine wpStill_nil ?_;change wpList Tryz.prog _ _ _ _ W3.drew;have HN4:=Hd HN3.out.drew;have HB4:=Hd HB3.out.drew;clear HR3 HN3 HB3;generalize W3.drew=W4 at HN4 HB4⊢;refine wpList_storeF rfl _ _ rfl w.heap.size rfl rfl (f':=⟨x1,x2,x3*256+x4,x5,x6,x7⟩) HN4.out ?_;intro W5 hF5 hk5;have HN5:=Hd hF5;have HB5:=Hd (hk5.below HB4.out HB4.out.size (fun i hi e=>by omega));clear hF5 hk5 HN4 HB4;go_wp2
    have e1:FC.de [165,x1,x2,x3,x4,x5,x6,x7,x8,x9]=0:=by
     rw[de_ten,if_pos rfl,if_pos (HC.out.trans HS.out),if_pos];have:=inB_iff.1 hk;simp at this;omega
    refine bodyPost_ret (retF2 Tryz.results96 rfl rfl HN5.out) rfl ⟨?_,HB5.out⟩;rw[df_yes e1,e1];rfl
  ·have hs1:((x8:Int)*256+(x9:Int) !=(n:Int))=true:=by simp;omega
   have HS:=Hd hs;clear hs
   go_wp2_with (refine wpList_storeF rfl _ _ rfl w.heap.size rfl rfl (f':=noF) HN2.out ?_)
   intro W3 hF3 hk3;have HN3:=Hd hF3;have HB3:=Hd (hk3.below HB2.out HB2.out.size (fun i hi e=>by omega));clear hF3 hk3 HN2 HB2;go_wp2
   have e1:FC.de [165,x1,x2,x3,x4,x5,x6,x7,x8,x9]=6:=by
    rw[de_ten,if_pos rfl,if_neg (fun e=>HS.out (HC.out.symm.trans e))]
   refine bodyPost_ret (retF2 Tryz.results96 rfl rfl HN3.out) rfl ⟨?_,HB3.out⟩;rw[df_no (by omega),e1];rfl
 ·have hz:((x0:Int) !=165)=true:=by simp;omega
  go_enter Tryz.func96,Tryz.ntmps96
  go_wp2;have e1:FC.de [x0,x1,x2,x3,x4,x5,x6,x7,x8,x9]=3:=by unfold FC.de;rw[if_neg (fun e=>h0 e.2)]
  have e2:FC.df [x0,x1,x2,x3,x4,x5,x6,x7,x8,x9]=noF:=by unfold FC.df;rw[e1];rfl
  rw[e1,e2];exact bodyPost_ret (v:=.tuple #[.agg #[.int .i64 noF.ki,.int .i64 noF.ca,.int .i64 noF.sq,.int .i64 noF.a,.int .i64 noF.b,.int .i64 noF.c],.int .i64 3]) (by simp[results,Tryz.results96,go_sem,noF]) rfl ⟨rfl,(Below.refl _ _).alloc (Nat.le_refl _) _⟩
theorem list10{l:List Nat}(h:l.length=10):∃x0 x1 x2 x3 x4 x5 x6 x7 x8 x9,l=[x0,x1,x2,x3,x4,x5,x6,x7,x8,x9]:=by
 match l,h with
 |[x0,x1,x2,x3,x4,x5,x6,x7,x8,x9],_=>exact⟨x0,x1,x2,x3,x4,x5,x6,x7,x8,x9,rfl⟩
theorem de_few{l:List Nat}(h:l.length≠10):FC.de l=3:=by unfold FC.de;rw[if_neg (fun e=>h e.1)]
theorem df_few{l:List Nat}(h:l.length≠10):FC.df l=noF:=by unfold FC.df;rw[de_few h];rfl
theorem decode_any(v:Value)(l:List Nat)(w:World)(h:RD w v l):
  Calls Tryz.prog 96 #[v] w fun e w'=>e=.returned (.tuple #[.agg #[.int .i64 (FC.df l).ki,.int .i64 (FC.df l).ca,.int .i64 (FC.df l).sq,.int .i64 (FC.df l).a,.int .i64 (FC.df l).b,.int .i64 (FC.df l).c],.int .i64 (FC.de l:Nat)])∧Below w.heap.size w w':=by
 by_cases hl:l.length=10
 ·obtain⟨a,cap,rfl,hc,hm,ha⟩:=h.form;obtain⟨x0,x1,x2,x3,x4,x5,x6,x7,x8,x9,rfl⟩:=list10 hl;rcases ha with ha|⟨g,o,rfl,_⟩
  ·cases ha
  ·exact decode_ten g o cap x0 x1 x2 x3 x4 x5 x6 x7 x8 x9 w h
 ·rw[de_few hl,df_few hl];exact decode_few v l w h hl
theorem loadF(w:World)(b o:Nat)(f:Fr)(h:w.rangeAt b o (fv f)):(Instr.loadAt 73 (.pointer (some ⟨b,o,none⟩))).run Tryz.prog w=.ok (.agg #[.int .i64 f.ki,.int .i64 f.ca,.int .i64 f.sq,.int .i64 f.a,.int .i64 f.b,.int .i64 f.c]) w:=
 run_loadAt_mid (P:=Tryz.prog) w b o 73 (fv f) _ h Tryz.underlying73 rfl infoF
theorem made_grown{W W':World}{o:Obj}{v:Value}(hg:(W.alloc o).grownBy W' v.ownBlock)(hv:v.ownBlock=some W.heap.size):Below W.heap.size W W':=
 ((Below.refl _ W).alloc (Nat.le_refl _) o).grown hg (by simp) (by intro k hk;rw[hv]at hk;cases hk;exact Nat.le_refl _)
theorem Below.heap_grow{w:World}(cs:Array Value)(t:TypeId):Below w.heap.size w (w.drew.alloc (.cells cs t)):=((Below.refl w.heap.size w).drew).alloc (Nat.le_refl _) _
structure GR(w:World)(n c:Nat)(W1:World):Prop where
 run:(Builtin.append_ #[62,3] 62 #[.slice none 0 0,.int .i64 (n:Int)]).run Tryz.prog w=.ok (.slice (some ⟨w.heap.size,0,none⟩) n c) W1
theorem grow_any(n:Nat)(hn:n≤1000000)(w:World):
  Calls Tryz.prog 131 #[.slice none 0 0,.int .i64 (n:Int)] w fun e w'=>∃v,e=.returned v∧OW w' w.heap.size v []∧Below w.heap.size w w':=by
 obtain⟨i0,hi,hz0,hz1,hz2⟩:=info_parts infoB;rcases Nat.eq_zero_or_pos n with rfl|hp
 ·go_enter Tryz.func131,Tryz.ntmps131
  go_wp2;go_ret;exact⟨_,rfl,OW.nil _ _,Below.refl _ _⟩
 ·have hnz:(0:Int)<(n:Int):=by omega
  have happ:=Lib.run_append_nil_zeros (P:=Tryz.prog) w 62 3 62 5 i0 (.int .u8 0) .i64 .i64 Tryz.underlying62 Tryz.underlying3 hi hz0 n hp (by omega) (by omega) (by rw[hz2];omega);have hge:=grownCap_ge w n 0 5;have hle:=grownCap_le_maxLen w n 0 5 (by unfold maxLen;omega);generalize grownCap w n 0 5=c at happ hge hle
  obtain⟨W1,HA,hO,hB⟩:∃W1,GR w n c W1∧OW W1 w.heap.size (.slice (some ⟨w.heap.size,0,none⟩) 0 c) []∧Below w.heap.size w W1:=by
   refine⟨_,⟨happ⟩,?_,Below.heap_grow _ _⟩;refine World.ownsRow_made w.drew _ c (Nat.le_refl _) hle ?_;rw[Array.size_append,size_zeroCells,size_zeroCells];show n*1+(c-n)*1=c*1;omega
  have HO:=Hd hO;have HB:=Hd hB;have hn2:(n:Int)≤1000000:=by omega
  clear hle hge hn hi hz0 hz1 hz2 happ hO hB hp
  go_enter Tryz.func131,Tryz.ntmps131
  go_wp2_with (at_builtin;refine Lib.wpList_append_run _ rfl _ _ _ _ rfl _ _ rfl rfl _ _ HA.run ?_)
  go_ret;exact⟨_,rfl,HO.out,HB.out⟩
theorem clone_any(v:Value)(l:List Nat)(w:World)(h:RD w v l)(hl:l.length≤1000):
  Calls Tryz.prog 70 #[v] w fun e w'=>∃v',e=.returned v'∧OW w' w.heap.size v' l∧Below w.heap.size w w':=by
 have q30:∀(w:World) (a:Option Addr) (n c n' c':Nat),(binOp .eql 62 (.slice a n c) (.slice none n' c')).run Tryz.prog w=.ok (.bool a.isNone) w:=fun w a n c n' c'=>Lib.run_eql_slice_nil w _ _ a n c n' c' Tryz.underlying62;have HR:=Hd h;obtain⟨a,cap,rfl,hc,hm,_⟩:=h.form;cases a with
 |none=>
  obtain⟨_,rfl,rfl⟩:=h.nilv;clear h
  go_enter Tryz.func70,Tryz.ntmps70
  go_wp2;go_ret;exact⟨_,rfl,OW.nil _ _,Below.refl _ _⟩
 |some ad=>
  clear h
  go_enter Tryz.func70,Tryz.ntmps70
  go_wp2_with (at_builtin;refine wpList_appendR rfl _ _ rfl w.heap.size _ _ [] l rfl ?qc1 rfl ?qc2 ?qc3 ?qc4 ?_)
  case qc1=>exact OW.lit (B:=w.heap.size) w [] (Nat.le_refl _) (Nat.zero_le _)
  case qc2=>exact HR.out.alloc _
  case qc3=>simp;omega
  case qc4=>simp
  intro v2 W2 ho2 hg2;have hb2:=made_grown hg2 rfl;have HO:=Hd ho2;have HB:=Hd hb2;clear ho2 hg2 hb2;go_wp2;go_ret;exact⟨v2,rfl,HO.out,HB.out⟩
theorem concat_any(g:Nat)(u v:Value)(l m:List Nat)(w:World)(h0:w.cell? ⟨g,0,none⟩=some u)(h1:w.cell? ⟨g,1,none⟩=some v)(hg:g<w.heap.size)(hu:RD w u l)(hv:RD w v m)(hl:l.length≤1000)(hm:m.length≤3000):
  Calls Tryz.prog 95 #[.slice (some ⟨g,0,none⟩) 2 2] w fun e w'=>∃v',e=.returned v'∧OW w' w.heap.size v' (l++m)∧Below w.heap.size w w':=by
 have HU:=Hd hu;have HV:=Hd hv;obtain⟨a,c,rfl,_,_,_⟩:=hu.form;obtain⟨b,d,rfl,_,_,_⟩:=hv.form;clear hu hv
 go_enter Tryz.func95,Tryz.ntmps95
 go_wp2;refine wp_loop_rounds 3 ?_;rw[rounds_succ];go_wp2;rw[rounds_succ];go_wp2;rw[rounds_succ]
 go_wp2_with fail
 have hgr:=grow_any (l.length+m.length) (by omega) w;rw[Int.natCast_add]at hgr;refine hgr.mono ?_;rintro e W1 ⟨v1,rfl,ho1,hb1⟩;have HO1:=Hd ho1;have HB1:=Hd hb1;have k0:W1.cell? ⟨g,0,none⟩=some (.slice a l.length c):=(hb1.cell (p:=⟨g,0,none⟩) hg).trans h0;clear hgr ho1 hb1;go_wp2;refine wp_loop_rounds 3 ?_;rw[rounds_succ]
 go_wp2_with (at_builtin;refine wpList_appendR rfl _ _ rfl w.heap.size _ _ [] l rfl HO1.out rfl (HU.out.below' HB1.out) (by simp;omega) HB1.out.size ?_)
 intro v2 W2 ho2 hg2;have hb2:=HB1.out.grown hg2 HB1.out.size (fun k hk=>(HO1.out.lt k hk).1);have HO2:=Hd ho2;have HB2:=Hd hb2;have k1:W2.cell? ⟨g,1,none⟩=some (.slice b m.length d):=(hb2.cell (p:=⟨g,1,none⟩) hg).trans h1;clear ho2 hg2 hb2 HO1 HB1 k0;go_wp2;rw[rounds_succ]
 go_wp2_with (at_builtin;refine wpList_appendR rfl _ _ rfl w.heap.size _ _ l m rfl HO2.out rfl (HV.out.below' HB2.out) (by omega) HB2.out.size ?_)
 intro v3 W3 ho3 hg3;have hb3:=HB2.out.grown hg3 HB2.out.size (fun k hk=>(HO2.out.lt k hk).1);have HO3:=Hd ho3;have HB3:=Hd hb3;clear ho3 hg3 hb3 HO2 HB2 k1;go_wp2;rw[rounds_succ];go_wp2;go_ret;exact⟨v3,rfl,HO3.out,HB3.out⟩
end Go.Proofs.YtlajleogofmkcaaGreat.FF
