import Derived.Test.YtnkelgdnglaafaaGreatR25
import Derived.Deep.MidRow
set_option maxHeartbeats 8000000
set_option maxRecDepth 100000
namespace Go.Proofs.YtnkelgdnglaafaaGreat
theorem prs_nil{s:St}{ws:List (Int×Int)}:∀(cs:List (Int×Int)) (p:List (List Int)),(∀l∈p,l=[])→RM.prs s ws cs p=[]
 |r::cs,l::p,h=>by
  show RM.pr1 s ws r l++RM.prs s ws cs p=[];rw[prs_nil cs p (fun l hl=>h l (List.mem_cons_of_mem _ hl)),h l (List.mem_cons_self ..)]
  rfl
 |[],p,_=>by cases p<;>rfl
 |_::_,[],_=>rfl
theorem cst_nil{s:Sn}{p:List (List Int)}(h:∀l∈p,l=[]):RM.cst s.st s.ws s.cs p=0:=by
 unfold RM.cst;rw[prs_nil _ _ h]
 rfl
theorem ffp_nil{s:Sn}(h:s.ws=[]):∀l∈ffp s s.ws.length,l=[]:=fun l hl=>by
 rw[h]at hl;exact List.eq_of_mem_replicate (show l∈List.replicate s.cs.length []from hl)
def fxn(s:Sn):Sx:=⟨1,false,List.replicate s.cs.length [],0,[2]⟩
section
variable {s:Sn} {B:Nat}
theorem cars_nil(hr:rgt s=true):1≤s.cs.length∧s.cs.length≤8:=by
 obtain⟨n8,hrs⟩:=rgt_rs hr;have h1:=hrs.cl;have h2:=hrs.n8;have h3:=hrs.n1;omega
theorem rep_nil(n:Nat):∀l∈List.replicate n ([]:List Int),l=[]:=fun _ hl=>List.eq_of_mem_replicate hl
theorem fnd_nil(hr:rgt s=true)(hws:s.ws=[])(hB:1≤B):fnd s B=fxn s:=by
 obtain⟨h1,_⟩:=cars_nil hr;obtain⟨f,hf⟩:∃f,s.cs.length+s.ws.length=f+1:=⟨s.cs.length+s.ws.length-1,by omega⟩;have hl:lfs s (List.replicate s.ws.length false)=[]:=by unfold lfs;rw[hws];rfl
 have h0:(root s).cost=0:=cst_nil (ffp_nil hws)
 have hp:(root s).plan=List.replicate s.cs.length []:=by
  show ffp s s.ws.length=_;rw[hws];rfl
 unfold fnd;rw[hf];show vst s B (vis s B f) 0 _ _ (root s)=_;unfold vst;rw[if_neg (by simp[root]),if_neg (by show¬(0=B);omega),if_pos hl,cst_nil (rep_nil _),h0,if_neg (by decide),hp]
 rfl
end
namespace GM
def Df(G:Gs):Prop:=G.L=[]∧G.rc=false∧(∀x∈G.sc,x≠165)∧∀m∈G.M,cor m=z
theorem sev_deaf{m:Mb}(h:cor m=z):sev m=sev z:=(show sev m=sev (cor m)from rfl).trans (by rw[h])
theorem wk_deaf{m:Mb}(h:cor m=z):wk m=false:=(show wk m=wk (cor m)from rfl).trans (by rw[h];rfl)
theorem opn_deaf{m:Mb}(h:cor m=z):opn m=false:=(show opn m=opn (cor m)from rfl).trans (by rw[h];rfl)
theorem psm_deaf{m:Mb}(h:cor m=z)(k:Int):cor (psm k m)=z:=(show cor (psm k m)=psm k (cor m)from rfl).trans (by rw[h];rfl)
section
variable {G:Gs} {n:Int} {b:List Nat}
theorem Df.new{s:St}:Df (G0 s):=⟨rfl,rfl,fun x hx=>(by cases hx),fun m hm=>by obtain rfl:=List.eq_of_mem_replicate hm;rfl⟩
theorem srvs_deaf(h:∀m∈G.M,cor m=z):∀k,srvs G k=G
 |0=>rfl
 |k+1=>by
  show srv1 (srvs G k) k=G;rw[srvs_deaf h k];unfold srv1;split
  ·rfl
  ·rename_i m hm;rw[if_neg (by rw[opn_deaf (h m (List.mem_of_getElem? hm))];decide)]
theorem tk3_deaf(h:Df G)(hj:∀x∈b,x≠165):(tk3 G b).L=[]∧(tk3 G b).rc=false∧(∀x∈(tk3 G b).sc,x≠165)∧(∀m∈(tk3 G b).M,cor m=z)∧(∀p∈(tk3 G b).N,p.1=1∨p=(5,0))∧(tk3 G b).N.length≤1∧(tk3 G b).nd=0:=by
 obtain⟨h1,h2,h3,h4⟩:=h;have hJ:∀x∈G.sc++b,x≠165:=fun x hx=>(List.mem_append.1 hx).elim (h3 x) (hj x);have e:=FF.FC.fd_lone hJ;have⟨_,k,hk⟩:=FF.FC.fd_left (G.sc++b);have hsc:∀x∈(FF.FC.fd (G.sc++b)).2.2,x≠165:=fun x hx=>hJ x (List.mem_of_mem_drop (hk▸hx))
 have hM:∀m∈G.M.map (psm G.st.sil),cor m=z:=fun m hm=>by
  obtain⟨y,hy,rfl⟩:=List.mem_map.1 hm;exact psm_deaf (h4 y hy) _
 have er:rdb {G with N:=[],nd:=0} b=(if 0<(FF.FC.fd (G.sc++b)).2.1 then nte {G with N:=[],nd:=0,sc:=(FF.FC.fd (G.sc++b)).2.2} 1 (FF.FC.fd (G.sc++b)).2.1 else {G with N:=[],nd:=0,sc:=(FF.FC.fd (G.sc++b)).2.2}):=by
  unfold rdb;simp only;rw[e.1];rfl
 have et:tk3 G b=pss (rdb {G with N:=[],nd:=0} b):=by
  unfold tk3;have hr:(pss (rdb {G with N:=[],nd:=0} b)).rc=false:=by rw[er];split<;>exact h2
  have hm:∀m∈(pss (rdb {G with N:=[],nd:=0} b)).M,cor m=z:=by rw[er];split<;>exact hM
  unfold srv;rw[if_neg (by rw[hr];decide)];exact srvs_deaf hm _
 rw[et,er];split
 ·refine⟨by show G.L.map _=_;rw[h1];rfl,h2,hsc,hM,fun p hp=> ?_,Nat.le_refl _,rfl⟩;obtain rfl:=List.mem_singleton.1 hp;exact .inl rfl
 ·exact⟨by show G.L.map _=_;rw[h1];rfl,h2,hsc,hM,fun p hp=>(by cases hp),Nat.zero_le _,rfl⟩
theorem tck_deaf(h:GQ n G)(hn:n<1000)(hb:FF.FC.Bs b)(hl:b.length≤900)(hd:Df G)(hj:∀x∈b,x≠165):
  Df (tck G b).2∧(∀c∈(tck G b).1,c=(false,-1))∧(∀p∈(tck G b).2.N,p.1=1∨p=(5,0))∧(tck G b).2.N.length≤2∧(tck G b).2.nd≤1∧(tck G b).2.st=G.st∧((tck G b).1.length:Int)=G.st.ca:=by
 obtain⟨k1,k2,k3,k4,k5,k6,k7⟩:=tk3_deaf hd hj;obtain⟨q3,-,s3,-⟩:=h.tk3 hn hb hl;have q5:=h.tk5 hn hb hl;obtain⟨t1,t2,t3,t4,t5,-⟩:=@tck_c G b;obtain⟨e2,-⟩:=tll_c (G:=tk5 G b) (tk5 G b).M.length
 have hsc:(tck G b).2.sc=(tk4 (tk3 G b)).sc:=by
  have:(tck G b).2=_:=e2;rw[this];rfl
 have hst:(tck G b).2.st=G.st:=by
  have:(tck G b).2=_:=e2;rw[this];exact q5.2
 have hcor:∀{A B:List Mb},A.map cor=B.map cor→(∀m∈B,cor m=z)→∀m∈A,cor m=z:=fun {A B} e hB m hm=>by
  have h1:cor m∈B.map cor:=e▸List.mem_map_of_mem hm;obtain⟨y,hy,hy2⟩:=List.mem_map.1 h1;rw[←hy2];exact hB y hy
 have h5:∀m∈(tk5 G b).M,cor m=z:=hcor (show(tk5 G b).M.map cor=(tk3 G b).M.map cor from(tk4_c (G:=tk3 G b)).2.2.2) k4
 have h4:(tk4 (tk3 G b)).sc=(tk3 G b).sc∧(∀p∈(tk4 (tk3 G b)).N,p.1=1∨p=(5,0))∧(tk4 (tk3 G b)).N.length≤2∧(tk4 (tk3 G b)).nd≤1:=by
  have hw:(snp (tk3 G b)).ws=[]:=by show(wnt _ (tk3 G b).L).map _=_;rw[k1];rfl
  have hf:=fnd_nil (B:=(tk3 G b).st.bud.toNat) (snp_rgt q3.go) hw (by have:=q3.go.rt.bud1;omega);unfold tk4;split
  ·have hp:pln (tk3 G b)=plh (tk3 G b) (fxn (snp (tk3 G b))):=by
    rw[pln_eq,hf,if_neg (by rw[k1];simp)]
   show(pln (tk3 G b)).sc=_∧(∀p∈(pln (tk3 G b)).N,_)∧(pln (tk3 G b)).N.length≤2∧(pln (tk3 G b)).nd≤1;rw[hp];refine⟨rfl,fun p hp=> ?_,?_,Int.le_refl _⟩
   ·rcases List.mem_append.1 (show p∈(tk3 G b).N++[(5,0)]from hp)with h|h
    ·exact k5 p h
    ·exact .inr (List.mem_singleton.1 h)
   ·show((tk3 G b).N++[(5,0)]).length≤2;rw[List.length_append];have:[((5:Int),(0:Int))].length=1:=rfl;omega
  ·exact⟨rfl,k5,by omega,by omega⟩
 refine⟨⟨t1.trans k1,t2.trans k2,by rw[hsc,h4.1];exact k3,hcor t3 k4⟩,fun c hc=> ?_,t4▸h4.2.1,t4▸h4.2.2.1,t5▸h4.2.2.2,hst,?_⟩;rotate_left
 ·have hlen:=tll_len (G:=tk5 G b) (Nat.le_refl _);have hml:=q5.1.go.ml;rw[q5.2]at hml;rw[←hml];exact congrArg _ hlen
 obtain⟨i,hi⟩:=List.getElem?_of_mem hc;have hlt:=(List.getElem?_eq_some_iff.1 hi).1;have hlen:=tll_len (G:=tk5 G b) (Nat.le_refl _);have hlt2:i<(tk5 G b).M.length:=hlen▸hlt;obtain⟨m,hm⟩:∃m,(tk5 G b).M[i]?=some m:=⟨_,List.getElem?_eq_getElem hlt2⟩;have ha:=tll_at hlt2 hm (Nat.le_refl _);have:some c=some (cmd (tk5 G b) i m).1:=hi.symm.trans ha;cases this;unfold cmd;rw[if_neg (by rw[wk_deaf (h5 m (List.mem_of_getElem? hm))];simp)]
end
end GM
def jnk(l:List Nat):List Nat:=l.filter fun x=>decide (x≠165)
theorem jnk_no{l:List Nat}:∀x∈jnk l,x≠165:=fun _ hx=>of_decide_eq_true (List.mem_filter.1 hx).2
theorem jnk_len(l:List Nat):(jnk l).length≤l.length:=List.length_filter_le _ _
theorem jnk_succ{l:List Nat}{k x:Nat}(h:l[k]?=some x):jnk (l.take (k+1))=if x=165 then jnk (l.take k)else jnk (l.take k)++[x]:=by
 unfold jnk;rw[List.take_add_one,h,Option.toList_some,List.filter_append];split
 ·rename_i e;subst e;simp
 ·rename_i e;simp[e]
open Go.RowKit
structure Sd(W wr:World)(s:St)(B sb gb j:Nat)(G:Gs):Prop where
 g:Gg B wr gb j G
 st:G.st=s
 df:GM.Df G
 ss:SB wr sb s
 bel:Below W.heap.size W wr
theorem Sd.next{W wr w2:World}{s:St}{B sb gb j:Nat}{G:Gs}(h:Sd W wr s B sb gb j G)(hb:Below wr.heap.size wr w2):Sd W w2 s B sb gb j G:=⟨h.g.below hb,h.st,h.df,h.ss.below' hb,below_class h.bel hb⟩
theorem hv_keep{W W2:World}{v:Value}{ps:List (List Nat)}(h:RPg FF.RD W v ps)(hb:Below W.heap.size W W2):RPg FF.RD W2 v ps:=by
 obtain⟨a,cap,e,hc,h⟩:=h;refine⟨a,cap,e,hc,h.imp id fun⟨g,o,e,hl,h⟩=>⟨g,o,e,Nat.lt_of_lt_of_le hl hb.size,fun i l hi=> ?_⟩⟩;obtain⟨u,h1,h2⟩:=h i l hi;exact⟨u,(hb.cell (p:=⟨g,o+i,none⟩) hl).trans h1,h2.below' hb⟩
theorem see_deaf{M:List Mb}(h:∀m∈M,GM.cor m=GM.z)(c:Int):(sev (GM.see M c)).toArray= #[.bool false,.bool false,.bool false,.bool false,.bool false,.int .i64 0,.int .i64 0,.int .i64 0]:=by
 have:sev (GM.see M c)=sev GM.z:=by
  unfold GM.see;split
  ·cases hm:M[c.toNat]? with
   |none=>rfl
   |some m=>exact GM.sev_deaf (h m (List.mem_of_getElem? hm))
  ·rfl
 rw[this];rfl
theorem GroupDeaf_any(s:St)(v1:Value)(ps:List (List Nat))(W:World)(hv:RPg FF.RD W v1 ps):
  Calls Tryz.prog 5 #[.agg (sv s).toArray,v1] W fun e w'=>e=.returned (.bool true)∧Below W.heap.size W w':=by
 have HHV:=hv;obtain⟨a1,c1,rfl,-⟩:=hv.form;have HV:=Hd hv;have HS:=Hd (SB.new W s);have HB:=Hd ((Below.refl W.heap.size W).alloc (Nat.le_refl _) (.cells (sv s).toArray 23));clear hv
 go_enter Tryz.func5,Tryz.ntmps5
 go_wp2_with fail
 generalize W.alloc (.cells (sv s).toArray 23)=X at HS HB⊢;refine (speaks15_any X).mono ?_;rintro e X1 ⟨rfl,hb1⟩;have HS1:=Hd (HS.out.below' hb1);have HB1:=Hd (below_class HB.out hb1);clear hb1 HS HB
 go_wp2_with (refine wpList_load23 rfl _ rfl W.heap.size s rfl HS1.out ?_)
 by_cases r:SM.Rt s
 ·refine (gg_new r X1).mono ?_;rintro e X2 ⟨gb,rfl,hg2,hb2⟩;obtain⟨B,hB⟩:∃B,X1.heap.size=B:=⟨_,rfl⟩;rw[hB]at hg2;have HLT:Hid (W.heap.size<B):=hB▸HS1.out.lt;have HG2:=Hd hg2;have HS2:=Hd (HS1.out.below' hb2);have HB2:=Hd (below_class HB1.out hb2);clear hg2 hb2 hB HS1 HB1
  go_wp2_with (refine wpList_load23 rfl _ rfl W.heap.size s rfl HS2.out ?_)
  have HR:=Hd (rright_any s X2);rw[rightB_true r]at HR;refine HR.out.mono ?_;rintro e X3 ⟨rfl,hb3⟩;have HG3:Hid (Sd W X3 s B W.heap.size gb 0 (G0 s)):=⟨HG2.out.below hb3,rfl,GM.Df.new,HS2.out.below' hb3,below_class HB2.out hb3⟩;clear hb3 HR HS2 HG2 HB2;have HHY:=Hd (Heavy_any s _ ps X3 (hv_keep HHV HG3.out.bel));clear HHV
  go_wp2_with (refine wpList_load23g rfl _ rfl W.heap.size s rfl HG3.out.ss ?_)
  refine HHY.out.mono ?_;rintro e X4 ⟨hy,rfl,hsm,hb4⟩;have HG4:=Hd (HG3.out.next hb4);clear hb4 HHY HG3;cases hy
  ·obtain⟨-,q2,q3⟩:=hsm rfl;have HP:=Hd q3;clear hsm q3
   go_wp2_with fail
   go_loopw [41] (fun iv wr=>∃(j:Nat) (G:Gs),j≤ps.length∧iv=.int .i64 (j:Int)∧Hid (Sd W wr s B W.heap.size gb j G)) (fun iv _=>ps.length-(intOf iv).toNat)
   case atStart=>exact⟨0,_,Nat.zero_le _,rfl,HG4⟩
   case round=>
    clear HG4
    rename World=>wr
    obtain⟨j,G,hj,rfl,HG⟩:=hrel;by_cases hlt:j<ps.length
    ·have hz:(j:Int)<(ps.length:Int):=by omega
     obtain⟨l,hl⟩:∃l,ps[j]?=some l:=⟨_,List.getElem?_eq_getElem hlt⟩;have hll:=HP.out l (List.mem_of_getElem? hl);obtain⟨g,o,rfl,u,hcu,hru⟩:=HV.out.at HG.out.bel hl;have hru2:=hru.below' HG.out.bel;obtain⟨hBs,ao,ko,rfl,hko,-,hbytes⟩:=hru2;have hix:∀W:World,_:=fun W=>ixJ (g:=g) (o:=o) (cap:=c1) W hlt;have hj1:j+1≤ps.length:=hlt;have HO0:Hid (FF.OW (wr.alloc (.cells #[] 5)) wr.heap.size (.slice (some ⟨wr.heap.size,0,none⟩) 0 0) (jnk (l.take 0))):=World.ownsRow_made wr #[] 0 (Nat.le_refl _) (Nat.zero_le _) (by simp);have HB0:=Hd ((Below.refl wr.heap.size wr).alloc (Nat.le_refl _) (.cells #[] 5));have HBY:=Hd hbytes;have HBS:=Hd hBs;clear hl hru hbytes hBs
     go_wp2_with fail
     clear hix hcu;generalize wr.alloc (.cells #[] 5)=Y0 at HO0 HB0⊢
     go_loopw [9,48] (fun ov iv w2=>∃k:Nat,k≤l.length∧iv=.int .i64 (k:Int)∧Hid (FF.OW w2 wr.heap.size ov (jnk (l.take k)))∧Hid (Below wr.heap.size wr w2)) (fun _ iv _=>l.length-(intOf iv).toNat)
     case atStart=>exact⟨0,Nat.zero_le _,rfl,HO0,HB0⟩
     case round=>
      clear HO0 HB0
      rename World=>w2
      obtain⟨k,hk,rfl,HO,HB⟩:=hrel;by_cases hlk:k<l.length
      ·have hkz:(k:Int)<(l.length:Int):=by omega
       obtain⟨x,hx⟩:∃x,l[k]?=some x:=⟨_,List.getElem?_eq_getElem hlk⟩
       obtain⟨g2,o2,rfl,hcx⟩:∃g2 o2,ao=some ⟨g2,o2,none⟩∧w2.cell? ⟨g2,o2+k,none⟩=some (.int .u8 (x:Int)):=by
        rcases HBY.out with h|⟨g2,o2,e,h1,h2⟩
        ·rw[h]at hlk;simp at hlk
        ·exact⟨g2,o2,e,(HB.out.cell (p:=⟨g2,o2+k,none⟩) h1).trans (h2 k x hx)⟩
       have hix:∀W:World,_:=fun W=>ixU (g:=g2) (o:=o2) (cap:=ko) W hlk;have hxs:=HBS.out x (List.mem_of_getElem? hx);have hjs:=jnk_succ hx;have hjl:=jnk_len (l.take k);rw[List.length_take]at hjl;have hk1:k+1≤l.length:=hlk;by_cases h165:x=165
       ·have d:((x:Int) !=165)=false:=by subst h165;rfl
        rw[if_pos h165]at hjs;rw[←hjs]at HO;clear hx hjs h165;go_wp2;go_roundw
        case rel=>exact⟨k+1,hk1,by go_num,HO,HB⟩
        case measure=>simp[intOf];omega
       ·have d:((x:Int) !=165)=true:=by simp;omega
        rw[if_neg h165]at hjs;have HJS:=Hd hjs;have HOA:=Hd (HO.out.alloc (.cells #[.int .u8 (x:Int)] 5));have HXR:Hid (FF.RD (w2.alloc (.cells #[.int .u8 (x:Int)] 5)) (.slice (some ⟨w2.heap.size,0,none⟩) 1 1) [x]):=FF.OW.rd (FF.OW.lit w2 [x] (B:=0) (Nat.zero_le _) (by rw[List.length_singleton];decide)) (fun y hy=>by rw[List.mem_singleton.1 hy];exact hxs);have HBA:=Hd (HB.out.alloc HB.out.size (.cells #[.int .u8 (x:Int)] 5));clear hx hjs HO HB
        go_wp2_with (at_builtin;refine FF.wpList_appendR rfl _ _ rfl wr.heap.size _ _ (jnk (l.take k)) [x] rfl HOA.out rfl HXR.out (by rw[List.length_singleton];omega) HBA.out.size ?_)
        intro v4 W4 ho4 hg4;have HO4:Hid (FF.OW W4 wr.heap.size v4 (jnk (l.take (k+1)))):=by rw[HJS.out];exact ho4
        have HB4:=Hd (HBA.out.grown hg4 HBA.out.size fun g hg=>(HOA.out.lt g hg).1);clear ho4 hg4 HOA HXR HBA;go_wp2;go_roundw
        case rel=>exact⟨k+1,hk1,by go_num,HO4,HB4⟩
        case measure=>simp[intOf];omega
      ·have hkz:¬(k:Int)<(l.length:Int):=by omega
       have e1:k=l.length:=by omega
       rw[e1,List.take_length]at HO;clear e1;have hjl:=jnk_len l;have HJB:Hid (FF.FC.Bs (jnk l)):=fun y hy=>HBS.out y (List.mem_filter.1 hy).1;have HT:=Hd (gg_tick HG.out.g (by omega) HB.out (HO.out.rd HJB.out) (by omega) fun g hg=>(HO.out.lt g hg).1);have HD:=Hd (GM.tck_deaf HG.out.g.q (by omega) HJB.out (by omega) HG.out.df jnk_no);have HSS:=Hd (HG.out.ss.below' HB.out);have HBB:=Hd (below_class HG.out.bel HB.out);have HST:=Hd HG.out.st;clear HO HB HBY HBS HJB HG
       go_wp2_with fail
       refine HT.out.mono ?_;rintro e W5 ⟨g5,k5,rfl,hk5,hg5,hcr,hlg,hb5,-⟩;rw[HST.out]at hk5;obtain⟨G2,hG2⟩:∃x,(GM.tck G (jnk l)).2=x:=⟨_,rfl⟩;obtain⟨cs,hcs⟩:∃x,(GM.tck G (jnk l)).1=x:=⟨_,rfl⟩;rw[hG2]at hg5 HD;rw[hcs]at hcr HD;have hdn:((k5:Int) !=s.ca)=false:=by simpa using hk5
       have HCR:=Hd hcr;have HSG:Hid (Sd W W5 s B W.heap.size gb (j+1) G2):=⟨by rw[Int.natCast_add];exact hg5,HD.out.2.2.2.2.2.1.trans HST.out,HD.out.1,HSS.out.below hb5 HLT.out,HBB.out.trans (hb5.mono (Nat.le_of_lt HLT.out))⟩;have hcl:cs.length=k5:=by have:=HD.out.2.2.2.2.2.2;rw[HST.out]at this;omega
       have HLL:=Hd HD.out.1.1;have HRC:=Hd HD.out.1.2.1;have HMM:=Hd HD.out.1.2.2.2;have hc8:=r.ca2;have hk8:k5≤8:=by omega
       have hn2:G2.N.length≤2:=HD.out.2.2.2.1;have p1:¬1<G2.nd:=by have:=HD.out.2.2.2.2.1;omega
       clear hg5 hcr hlg hb5 hG2 hcs HT HSS HBB HST
       go_wp2_with fail
       go_loopw [64] (fun nv w6=>∃n:Nat,n≤k5∧nv=.int .i64 (n:Int)∧Hid (Below W5.heap.size W5 w6)) (fun nv _=>k5-(intOf nv).toNat)
       case atStart=>exact⟨0,Nat.zero_le _,rfl,Hd (Below.refl _ _)⟩
       case round=>
        rename World=>w6
        obtain⟨n,hn,rfl,HB⟩:=hrel;by_cases hln:n<k5
        ·have hnz:(n:Int)<(k5:Int):=by omega
         obtain⟨c,hc⟩:∃c,cs[n]?=some c:=⟨_,List.getElem?_eq_getElem (by omega)⟩;obtain rfl:=HD.out.2.1 c (List.mem_of_getElem? hc);obtain⟨t0,t1⟩:=cms_get hc;have hcw:w6.heap[g5]?=some (.cells (cms cs).toArray 41 (0,0)):=(HB.out.block _ HCR.out.lt).trans HCR.out;have e0:w6.cell? ⟨g5,n*2,none⟩=some (.bool false):=by simp[World.cell?,hcw];exact t0
         have e1:w6.cell? ⟨g5,n*2+1,none⟩=some (.int .i64 (-1)):=by simp[World.cell?,hcw];exact t1
         have hix:∀W:World,_:=fun W=>ixCm (g:=g5) W hln;have HX1:=Hd (below_class HB.out ((Below.refl w6.heap.size w6).alloc (Nat.le_refl _) (.cells #[.bool false,.int .i64 (-1)] 41)));have HCB:=Hd (World.alloc_heap_new w6 (.cells #[.bool false,.int .i64 (-1)] 41));have hn1:n+1≤k5:=hln;clear hc t0 t1 hcw HB
         go_upto_region 22 with (fail)
         clear e0 e1 hix;generalize w6.alloc (.cells #[.bool false,.int .i64 (-1)] 41)=V1 at HX1 HCB⊢;generalize w6.heap.size=cb at HCB⊢;have y0:V1.cell? ⟨cb,0,none⟩=some (.bool false):=blk_cell HCB.out 0;have y1:V1.cell? ⟨cb,1,none⟩=some (.int .i64 (-1)):=blk_cell HCB.out 1;go_wp2;go_roundw
         case rel=>exact⟨n+1,hn1,by go_num,HX1⟩
         case measure=>simp[intOf];omega
        ·have hnz:¬(n:Int)<(k5:Int):=by omega
         have HSG6:=Hd (HSG.out.next HB.out);clear HB HSG
         go_wp2_with fail
         go_loopw [15] (fun nv w7=>∃n:Nat,(n:Int)≤s.ca∧nv=.int .i64 (n:Int)∧Hid (Below w6.heap.size w6 w7)) (fun nv _=>s.ca.toNat-(intOf nv).toNat)
         case atStart=>exact⟨0,by have:=r.ca1;omega,rfl,Hd (Below.refl _ _)⟩
         case round=>
          rename World=>w7
          obtain⟨n,hn,rfl,HB⟩:=hrel;have cN:w7.cell? ⟨W.heap.size,1,none⟩=some (.int .i64 s.ca):=(HSG6.out.next HB.out).ss.cell 1;by_cases hnz:(n:Int)<s.ca
          ·have hsn:=gg_seen (HSG6.out.next HB.out).g n;rw[see_deaf HMM.out]at hsn;have HSN:=Hd hsn;clear hsn
           go_wp2_with fail
           refine HSN.out.mono ?_;rintro e V1 ⟨rfl,hb2⟩;have HB2:=Hd (below_class HB.out hb2);clear hb2 HSN cN HB;go_wp2;go_roundw
           case rel=>exact⟨n+1,by omega,by go_num,HB2⟩
           case measure=>simp[intOf];omega
          ·have HSG7:=Hd (HSG6.out.next HB.out);have HNT:=Hd (gg_notes HSG7.out.g (by have:=HD.out.2.2.2.1;omega));clear HB HSG6
           go_wp2_with fail
           refine HNT.out.mono ?_;rintro e W8 ⟨v8,rfl,ho8,hb8⟩
           obtain⟨a8,k8,rfl⟩:∃a k,v8=.slice a G2.N.length k:=by
            rcases ho8.form with⟨e,e2⟩|⟨g,cap,e,-⟩
            ·exact⟨none,0,by rw[e,e2];rfl⟩
            ·exact⟨_,_,e⟩
           have HO8:=Hd ho8;have HSG8:=Hd (HSG7.out.next hb8);clear ho8 hb8 HNT HSG7 cN
           go_wp2_with fail
           go_loopw [86] (fun nv w9=>∃n:Nat,n≤G2.N.length∧nv=.int .i64 (n:Int)∧Hid (Below W8.heap.size W8 w9)) (fun nv _=>G2.N.length-(intOf nv).toNat)
           case atStart=>exact⟨0,Nat.zero_le _,rfl,Hd (Below.refl _ _)⟩
           case round=>
            rename World=>w9
            obtain⟨i,hi,rfl,HB⟩:=hrel;by_cases hli:i<G2.N.length
            ·have hiz:(i:Int)<(G2.N.length:Int):=by omega
             obtain⟨⟨ya,yb⟩,hy⟩:∃y,G2.N[i]?=some y:=⟨_,List.getElem?_eq_getElem hli⟩;have hyk:=HD.out.2.2.1 _ (List.mem_of_getElem? hy)
             obtain⟨gn,rfl⟩:∃g,a8=some ⟨g,0,none⟩:=by
              rcases HO8.out.form with⟨-,e⟩|⟨g,cap,e,-⟩
              ·rw[e]at hli;simp at hli
              ·cases e;exact⟨g,rfl⟩
             have e0:=(HO8.out.below' HB.out).cell0 hy;have e1:=(HO8.out.below' HB.out).cell1 hy;have hix:∀W:World,_:=fun W=>ixNt (g:=gn) (cap:=k8) W hli;have HX1:=Hd (below_class HB.out ((Below.refl w9.heap.size w9).alloc (Nat.le_refl _) (.cells #[.int .i64 ya,.int .i64 yb] 53)));have HCB:=Hd (World.alloc_heap_new w9 (.cells #[.int .i64 ya,.int .i64 yb] 53));have hi1:i+1≤G2.N.length:=hli;clear hy HB
             go_upto_region 33 with (fail)
             clear e0 e1 hix;generalize w9.alloc (.cells #[.int .i64 ya,.int .i64 yb] 53)=V1 at HX1 HCB⊢;generalize w9.heap.size=cb at HCB⊢;have y0:V1.cell? ⟨cb,0,none⟩=some (.int .i64 ya):=blk_cell HCB.out 0;have y1:V1.cell? ⟨cb,1,none⟩=some (.int .i64 yb):=blk_cell HCB.out 1;by_cases h1:ya=1
             ·subst h1;clear hyk;go_wp2;go_roundw
              case rel=>exact⟨i+1,hi1,by go_num,HX1⟩
              case measure=>simp[intOf];omega
             ·have h2:=hyk.resolve_left h1;cases h2;clear hyk h1;go_wp2;go_roundw
              case rel=>exact⟨i+1,hi1,by go_num,HX1⟩
              case measure=>simp[intOf];omega
            ·have hiz:¬(i:Int)<(G2.N.length:Int):=by omega
             have HSG9:=Hd (HSG8.out.next HB.out);clear HB HSG8 HO8
             go_upto_region 36 with (fail)
             have c1:w9.cell? ⟨W.heap.size,1,none⟩=some (.int .i64 s.ca):=HSG9.out.ss.cell 1;have HC:=Hd (gg_calls HSG9.out.g)
             go_wp2_with fail
             refine HC.out.mono ?_;rintro e w2 ⟨v2,rfl,hr2,hb2⟩;obtain⟨a2,n2,k2,rfl⟩:=hr2.slice;have hn0:n2=0:=by rw[hr2.len,HLL.out];rfl
             subst hn0;have HSG2:=Hd (HSG9.out.next hb2);have HR:=Hd (gg_recall HSG2.out.g);rw[HRC.out]at HR;clear hr2 hb2 HC HSG9 c1
             go_wp2_with fail
             refine HR.out.mono ?_;rintro e w3 ⟨rfl,rfl⟩;have HND:=Hd (gg_nodes HSG2.out.g);clear HR
             go_wp2_with fail
             refine HND.out.mono ?_;rintro e w4 ⟨rfl,rfl⟩;clear HND;clear HRC HLL HMM;go_wp2;go_roundw
             case rel=>exact⟨j+1,G2,hj1,by go_num,HSG2⟩
             case measure=>simp[intOf];omega
    ·have hz:¬(j:Int)<(ps.length:Int):=by omega
     have HBB:=Hd HG.out.bel;go_wp2;go_ret;exact⟨rfl,HBB.out⟩
  ·clear hsm;go_wp2;go_ret;exact⟨rfl,HG4.out.bel⟩
 ·refine (gnew_no s r X1).mono ?_;rintro e X2 ⟨rfl,hb2⟩;have HS2:=Hd (HS1.out.below' hb2);have HB2:=Hd (below_class HB1.out hb2);clear hb2 HS1 HB1
  go_wp2_with (refine wpList_load23 rfl _ rfl W.heap.size s rfl HS2.out ?_)
  have HR:=Hd (rright_any s X2);rw[rightB_false r]at HR;refine HR.out.mono ?_;rintro e X3 ⟨rfl,hb3⟩;have HB3:=Hd (below_class HB2.out hb3);clear hb3 HR HS2 HB2;go_wp2;go_ret;exact⟨rfl,HB3.out⟩
end Go.Proofs.YtnkelgdnglaafaaGreat
