import Derived.Test.YtlajleogofmkcaaGreatQ9
import Derived.Test.YtlajleogofmkcaaGreatQ11
set_option maxHeartbeats 8000000
set_option maxRecDepth 100000
namespace Go.Proofs.YtlajleogofmkcaaGreat
open Go.RowKit Go.Shelf
section
variable {D D':Nat→Prop} {W:World} {tb:Nat} {s:Sn} {vc vw vt vp:Value} {p:List (List Int)}
theorem kcost_nil(hws:s.ws=[])(ht:TC D W tb s vc vw vt)(hp:RL D' W vp p)(hf:Fs s p)(hll:∀l∈p,l.length≤1000):
  Calls Tryz.prog 151 #[.pointer (some ⟨tb,0,none⟩),vp] W fun e w'=>e=.returned (.int .i64 (RM.cst s.st s.ws s.cs p))∧Below W.heap.size W w':=by
 obtain⟨n8,hrs⟩:=rgt_rs ht.rg;have hpl:p.length=s.cs.length:=hf.pc.symm;have hp0:0<p.length:=by have:=hrs.cl;have:=hrs.n1;omega
 have hp8:p.length≤8:=by have:=hrs.cl;have:=hrs.n8;omega
 obtain⟨ap,kp,rfl,_,_⟩:=hp.form;have HT:=Hd ht;have HP:=Hd hp;have HF:=Hd hf;have HWS:=Hd hws;have HLL:=Hd hll;have HFI:=Hd (kfirst_any ht);have HN0:Hid (nd0 s=⟨0,cutp p 0 0,List.replicate s.ws.length false⟩):=by show _=_;rw[cut_zero hp0,hpl];rfl
 have HK0:=Hd (nd0_ok ht.rg);obtain⟨CT,HCT⟩:∃c,Hid (RM.cst s.st s.ws s.cs p=c):=⟨_,Hd rfl⟩;rw[HCT.out];clear ht hp hf hrs hll hpl hws
 go_enter Tryz.func151,Tryz.ntmps151
 go_wp2_with fail
 refine HFI.out.mono ?_;rintro r W1 ⟨g,rfl,hg,hr,hb⟩;have HB1:=Hd hb;have HR1:=Hd hr;have HKN:=Hd (KN.new W1 zk_length);have HBA:=Hd ((Below.refl W1.heap.size W1).alloc (Nat.le_refl _) (.cells zk.toArray 286));have HLN:=Hd (kc_length s (nd0 s) g);have HON:Hid (∀u∈kc s (nd0 s) g,u.oneCell'=true):=knc_one _ _ _ _ _ _;clear hg hr hb HFI
 go_wp2_with (first|(refine wpList_allocK rfl rfl ?_)|(refine wpList_storeK rfl _ _ rfl W1.heap.size rfl rfl HKN.out HLN.out HON.out ?_))
 intro W2 hk2 hn2;have hrl:=HR1.out.lt;have hbs:=HB1.out.size
 have HC0:Hid (Cz W W2 s W1.heap.size p 0):=by
  refine⟨fun _=>⟨0,List.replicate s.ws.length false,?_⟩,fun h=>by omega⟩;rw[←HN0.out];exact⟨⟨g,hn2,(HR1.out.below' HBA.out).kp hk2 (by omega),by omega⟩,HK0.out,hk2.below (below_class HB1.out HBA.out) (by simp;omega) (fun i hi e=>by omega),hbs⟩
 clear hk2 hn2 HKN HBA HLN HON HR1 HB1 hrl hbs HK0 HN0;generalize W1.heap.size=q at HC0⊢
 go_wp2_with fail
 go_loopw [14] (fun cv wr=>∃c:Nat,c≤p.length∧cv=.int .i64 (c:Int)∧Hid (Cz W wr s q p c)) (fun cv _=>p.length-(intOf cv).toNat)
 case atStart=>exact⟨0,Nat.zero_le _,rfl,HC0⟩
 case round=>
  clear HC0;obtain⟨c,hc,rfl,HC⟩:=hrel;by_cases hlt:c<p.length
  ·have hcz:(c:Int)<(p.length:Int):=by omega
   obtain⟨k,st,hcn⟩:=HC.out.more hlt;have HCN:=Hd hcn;obtain⟨l,hl⟩:∃l,p[c]?=some l:=⟨_,List.getElem?_eq_getElem hlt⟩;obtain⟨gp,op,hap,u,hu,hri⟩:=(HP.out.below' hcn.bel).at hl;subst hap;obtain⟨al,kl,rfl,_,_⟩:=hri.form;have HRI:Hid (RI D' wr (.slice al l.length kl) l):=hri;have hll:l.length≤1000:=HLL.out l (List.mem_of_getElem? hl);have HL:=Hd hl;obtain⟨c0,f0⟩:=hcn.c0;have HIN:Hid (Cn W (wr.setCell ⟨q,0,none⟩ (.int .i64 (c:Int))) s q (c:Int) ⟨c,cutp p c 0,st⟩):=hcn.put (c:Int);have hql:=hcn.lt;have HKQ:Hid (Kp (fun i=>i=q) wr (wr.setCell ⟨q,0,none⟩ (.int .i64 (c:Int)))):=(Kp.refl (fun i=>i=q) wr).set _ _ _ (fun _=>rfl)
   have HRD:Hid (RI (fun g=>g<W.heap.size) W (.slice al l.length kl) l):=by
    obtain⟨g2,o2,e2,u2,hu2,hri2⟩:=HP.out.at hl;cases e2
    have:u2=.slice al l.length kl:=by
     have h1:=(Below.cell hcn.bel (World.block_lt_of_cell? W _ hu2)).trans hu2;rw[hu]at h1;cases h1;rfl
    subst this;exact hri2.mono fun g _ h _=>h
   clear hcn HC hl hri HRI
   go_wp2_with fail
   clear hu c0 f0;generalize wr.setCell ⟨q,0,none⟩ (.int .i64 (c:Int))=W3 at HIN HKQ⊢;clear HCN HKQ
   go_loopw [23] (fun jv wr=>∃(j:Nat) (st:List Bool),j≤l.length∧jv=.int .i64 (j:Int)∧Hid (Cn W wr s q (c:Int) ⟨c,cutp p c j,st⟩)) (fun jv _=>l.length-(intOf jv).toNat)
   case atStart=>exact⟨0,st,Nat.zero_le _,rfl,HIN⟩
   case round=>
    clear HIN;obtain⟨j,st,hj,rfl,HIN⟩:=hrel;by_cases hjl:j<l.length
    ·exact absurd hjl (by rw[emp_nil HWS.out HF.out.fr l (List.mem_of_getElem? HL.out)];simp)
    ·have hjz:¬(j:Int)<(l.length:Int):=by omega
     have hje:j=l.length:=by omega
     rw[hje]at HIN;have HC2:=Hd (Cz.next HIN.out HL.out);clear hje HIN;go_wp2;go_roundw
     case rel=>exact⟨c+1,by omega,by go_num,HC2⟩
     case measure=>simp[intOf];omega
  ·have hcz:¬(c:Int)<(p.length:Int):=by omega
   obtain⟨h2,hb⟩:=HC.out.done (by omega);rw[HCT.out]at h2;have HB:=Hd hb;clear hb HC;go_wp2;go_ret;exact⟨rfl,HB.out⟩
end
section
variable {s:Sn} {c:Int}
theorem klook_nil(W:World)(mb:Nat)(n:Nn)(tb g:Nat)(vc vw vt:Value)(r:List Nat)(h:Lin W mb s n tb g vc vw vt (2::r)):
  Calls Tryz.prog 196 #[.pointer (some ⟨tb,0,none⟩),.agg (kc s n g).toArray,.int .i64 c,.pointer (some ⟨mb,0,none⟩)] W fun e w'=>Lop (cvm s c n (2::r)) mb W e w':=by
 have HV0:=Hd (Vz.new h);have HTK:=Hd (ktake_yes HV0.out.li.rr (n:=1) (by simp));have HEQ:=Hd (cvm_eq (c:=c) (r:=r) h.ok 2);have HLF:=Hd (left_nil h.ok);obtain⟨o,HO⟩:∃o,Hid (cvm s c n (2::r)=o):=⟨_,Hd rfl⟩;rw[HO.out]at HEQ⊢;clear h
 go_enter Tryz.func196,Tryz.ntmps196
 go_wp2_with fail
 refine HTK.out.mono ?_;rintro e W2 ⟨a,rfl,hy,hr,hk⟩;have HV2:Hid (Vz W W2 mb s n tb g vc vw vt r):=HV0.out.look hk hr;obtain⟨gb,ob,rfl,hcb⟩:=hy.at (i:=0) (x:=2) rfl;have cb:W2.cell? ⟨gb,ob,none⟩=some (.int .u8 2):=hcb;clear hy hr hk HTK HV0 hcb;have c3:W2.cell? ⟨W.heap.size,3,none⟩=some (.int .i64 ((PM.lf n.st:Nat):Int)):=HV2.out.nd.cell 3;have c2:W2.cell? ⟨W.heap.size,2,none⟩=some (.int .i64 (RM.cst s.st s.ws s.cs n.b)):=HV2.out.nd.cell 2;by_cases hz:PM.lf n.st=0
 ·have hls:=lsv_leaf (k:=n.k) (b:=n.b) (HLF.out.2 hz);obtain⟨L,HLL⟩:∃L,Hid (RM.cst s.st s.ws s.cs n.b=L):=⟨_,Hd rfl⟩;rw[HLL.out]at c2 hls;have hlf:=HLF.out.2 hz
  have HR:Hid (o=if c≤L then some r else none):=by
   show _=_;rw[HEQ.out,hls,if_neg (by simp[hlf]),if_pos (by simp)]
  rw[hz]at c3;clear hz hls hlf;by_cases hle:c≤L
  ·have HR2:Hid (o=some r):=by show _=_;rw[HR.out,if_pos hle]
   have hle':decide (c≤L)=true:=decide_eq_true hle;clear HR hle;go_wp2;go_ret;exact⟨HV2.out.kp,.inl ⟨r,HR2.out,rfl,HV2.out.li.rr⟩⟩
  ·have HR2:Hid (o=none):=by show _=_;rw[HR.out,if_neg hle]
   have hle':decide (c≤L)=false:=decide_eq_false hle;clear HR hle;go_wp2;go_ret;exact⟨HV2.out.kp,.inr ⟨HR2.out,rfl⟩⟩
 ·have HR:Hid (o=none):=by
   show _=_;rw[HEQ.out,if_pos (.inr (.inr ⟨by simp,fun h=>hz (HLF.out.1 h)⟩))]
  have hz':(((PM.lf n.st:Nat):Int)==0)=false:=by simp;omega
  clear hz;go_wp2;go_ret;exact⟨HV2.out.kp,.inr ⟨HR.out,rfl⟩⟩
theorem mrk_cvmN(s:Sn)(c:Int)(r:List Nat):mrk s c r=(cvm s c (nd0 s) r==some []):=by
 have e:(nd0 s).m=s.cs.length+s.ws.length:=by
  unfold Nn.m nd0 PM.lf;simp
 unfold mrk cvm;rw[e];rfl
theorem kshows_nil{D D':Nat→Prop}{W:World}{tb:Nat}{vc vw vt v:Value}{r:List Nat}(h2:r=[2])(ht:TC D W tb s vc vw vt)(hr:RY D' W v r):
  Calls Tryz.prog 152 #[.pointer (some ⟨tb,0,none⟩),.int .i64 c,.agg #[v]] W fun e w'=>e=.returned (.bool (mrk s c r))∧Below W.heap.size W w':=by
 subst h2;have hb0:=(Below.refl W.heap.size W).alloc (Nat.le_refl _) (.cells #[v] 240);have HT:=Hd ((ht.mono (D':=fun i=>i≠W.heap.size) fun g _ hl=>by omega).below' hb0);have HRR:Hid (RR (W.alloc (.cells #[v] 240)) W.heap.size [2]):=⟨v,RB.new W v,(hr.mono fun g _ hl _=>by omega).below' hb0⟩;have HFI:=Hd (kfirst_any HT.out);have HB0:=Hd hb0;have HK0:=Hd (nd0_ok ht.rg);have HMK:=Hd (mrk_cvmN s c [2]);obtain⟨bm,HBM⟩:∃b,Hid (mrk s c [2]=b):=⟨_,Hd rfl⟩;rw[HBM.out]at HMK⊢;clear ht hr hb0
 go_enter Tryz.func152,Tryz.ntmps152
 go_wp2_with fail
 refine HFI.out.mono ?_;rintro e W2 ⟨g,rfl,hg,hrow,hb2⟩;have hmb:=HRR.out.lt;have HLI:Hid (Lin W2 W.heap.size s (nd0 s) tb g vc vw vt [2]):=⟨HT.out.below' hb2,HK0.out,hrow,by omega,HRR.out.below' hb2⟩;have HLC:=Hd (klook_nil (c:=c) W2 W.heap.size (nd0 s) tb g vc vw vt [] HLI.out);have HB2:=Hd (below_class HB0.out hb2);clear hg hrow hb2 hmb HT HRR HFI HLI HB0
 go_wp2_with fail
 refine HLC.out.mono ?_;rintro e W3 ⟨hk3,ho⟩;have HB3:=Hd (hk3.below HB2.out HB2.out.size (fun i hi e=>by omega));clear hk3 HLC HB2;rcases ho with⟨r2,h1,rfl,h2⟩|⟨h1,rfl⟩
 ·obtain⟨v2,h3,h4⟩:=h2.bl;obtain⟨a2,k2,rfl,_,_,_⟩:=h4.form;have c0:=h3.cell;cases r2 with
  |nil=>
   have HR:Hid (true=bm):=by show _=_;rw[HMK.out,h1];rfl
   clear h1 h2 h3 h4;go_wp2;go_ret;exact⟨ret_bool HR.out,HB3.out⟩
  |cons x r3=>
   have HR:Hid (false=bm):=by show _=_;rw[HMK.out,h1];rfl
   have q:(((r3.length:Nat):Int)+1==0)=false:=by simp;omega
   clear h1 h2 h3 h4;go_wp2;go_ret;exact⟨ret_bool HR.out,HB3.out⟩
 ·have HR:Hid (false=bm):=by show _=_;rw[HMK.out,h1];rfl
  clear h1;go_wp2;go_ret;exact⟨ret_bool HR.out,HB3.out⟩
end
theorem loadPw(w:World)(b o:Nat)(v:Value)(h:w.cell? ⟨b,o,none⟩=some v):(Instr.loadAt 150 (.pointer (some ⟨b,o,none⟩))).run Tryz.prog w=.ok v w:=by simp[go_sem,h]
theorem quiet_loadPw{C:World→Prop}{K:Act→Prop}{o:Oper}{a:Act}(x:Operand)(b k:Nat){v:Value}(ho:o.op=.load 150 x)(hx:a.eval x=.pointer (some ⟨b,k,none⟩))(hr:∀w,C w→w.cell? ⟨b,k,none⟩=some v)
  (h:K (a.put o.dst v)):o.quiet Tryz.prog a C K:=
 quiet_val _ (fun w hw=>by unfold execOp;simp only[ho,hx,Sem.run_bind,Sem.run_pure,Result.andThen_ok,loadPw w b k v (hr w hw)]) h
structure Ch(w W:World)(s:Sn)(vc vw:Value):Prop where
 nb:NB W w.heap.size s.st vc vw
 z:JB W (w.heap.size+1) false 0 (.slice none 0 0)
 bel:Below w.heap.size w W
theorem Ch.next{w W W':World}{s:Sn}{vc vw:Value}(h:Ch w W s vc vw)(hb:Below W.heap.size W W'):Ch w W' s vc vw:=⟨h.nb.below' hb,h.z.below' hb,below_class h.bel hb⟩
theorem Ch.lt{w W:World}{s:Sn}{vc vw:Value}(h:Ch w W s vc vw):w.heap.size+2≤W.heap.size:=h.z.lt
theorem Ch.new(w:World)(s:Sn)(vc vw:Value):Ch w ((w.alloc (.cells (nv s.st vc vw).toArray 146)).alloc (.cells #[.bool false,.int .i64 0,.slice none 0 0] 192)) s vc vw:=by
 have h2:=JB.new (w.alloc (.cells (nv s.st vc vw).toArray 146)) false 0 (.slice none 0 0);rw[World.size_alloc]at h2;exact⟨(NB.new w s.st vc vw).below' ((Below.refl _ _).alloc (Nat.le_refl _) _),h2,((Below.refl w.heap.size w).alloc (Nat.le_refl _) _).alloc (by simp) _⟩
theorem ckw_form{s:Sn}{b:List Nat}(hr:rgt s=true)(h:rdc s.cs.length b=none):ckw s b=(3,clm0):=by
 unfold ckw;rw[if_pos hr,h]
theorem ckw_read{s:Sn}{b:List Nat}{x:Clm}{a:Nat}(hr:rgt s=true)(h:rdc s.cs.length b=some (x,a)):ckw s b=if fsb s x.plan=true then
    (if RM.cst s.st s.ws s.cs x.plan=x.cost then
     (if x.best=true∧mrk s x.cost (b.drop a)=false then(10,clm0)else(0,x))else(10,clm0))else(9,clm0):=by
 unfold ckw;rw[if_pos hr,h]
theorem check_nil(s:Sn)(D:Nat→Prop)(vc vw v:Value)(b:List Nat)(w:World)(hc:R2 D w vc s.cs)(hw:R2 D w vw s.ws)(hb:RY D w v b)(hws:s.ws=[])(h2:∀x a,rdc s.cs.length b=some (x,a)→x.best=true→b.drop a=[2]):
  Calls Tryz.prog 111 #[.agg (nv s.st vc vw).toArray,v] w fun e w'=>CkP s b w e w':=by
 have HC0:=Hd (Ch.new w s vc vw);have HRI:=Hd (snapRight_any s (fun _=>True) vc vw _ ((hc.mono fun _ _ _ _=>trivial).below' HC0.out.bel) ((hw.mono fun _ _ _ _=>trivial).below' HC0.out.bel));have HC:=Hd (hc.mono (D':=fun g=>g<w.heap.size) fun g _ h _=>h);have HW:=Hd (hw.mono (D':=fun g=>g<w.heap.size) fun g _ h _=>h);have HY:=Hd (hb.mono (D':=fun g=>g<w.heap.size) fun g _ h _=>h);have HB0:=Hd HC0.out.nb;obtain⟨av,kv,rfl,_,_,_⟩:=hb.form;obtain⟨ac,kc',rfl,_,_⟩:=hc.form;have HWS:=Hd hws;have H22:=Hd h2;clear hc hw hb hws h2
 go_enter Tryz.func111,Tryz.ntmps111
 go_wp2_with (refine wpList_load27g rfl _ rfl w.heap.size s.st _ _ rfl HB0.out ?_)
 refine HRI.out.mono ?_;rintro e W1 ⟨rfl,hb1⟩;have HC1:=Hd (HC0.out.next hb1);clear hb1 HC0 HB0 HRI;cases hr:rgt s with
 |false=>
  have HCK:Hid (ckw s b=(1,clm0)):=by show _=_;unfold ckw;rw[hr];rfl
  have HZ1:=Hd HC1.out.z;clear hr
  go_wp2_with (refine wpList_storeJ rfl _ _ rfl (w.heap.size+1) rfl rfl HZ1.out ?_)
  intro W9 hk9 hg9;have HG9:=Hd hg9;have HB9:=Hd (hk9.below HC1.out.bel HC1.out.bel.size (fun i hi e=>by omega));clear hk9 hg9 HZ1 HC1;go_wp2;exact bodyPost_ret (retJ2 Tryz.results111 rfl rfl HG9.out) rfl (CkP.no HCK.out HB9.out)
 |true=>
  have HR:=Hd hr;obtain⟨n8,hrs⟩:=rgt_rs hr;have hN:s.cs.length≤8:=by have:=hrs.cl;have:=hrs.n8;omega
  have hw1:=HC1.out.lt;clear hr hrs;have hb2:=(Below.refl W1.heap.size W1).alloc (Nat.le_refl _) (.cells #[.slice av b.length kv] 240);have HC2:=Hd (HC1.out.next hb2);have HRR:Hid (RR (W1.alloc (.cells #[.slice av b.length kv] 240)) W1.heap.size b):=⟨_,RB.new W1 _,((HY.out.below' HC1.out.bel).mono fun g hg _ _=>by omega).below' hb2⟩;have c13:(W1.alloc (.cells #[.slice av b.length kv] 240)).cell? ⟨w.heap.size,13,none⟩=some (.slice ac s.cs.length kc'):=HC2.out.nb.cell 13;have HRD:=Hd (kclaim_any HRR.out hN);clear hb2
  go_wp2_with fail
  clear c13;have hmb:=HRR.out.lt;generalize W1.alloc (.cells #[.slice av b.length kv] 240)=W2 at HC2 HRR HRD hmb⊢;have hmb1:w.heap.size+2≤W1.heap.size:=hw1;generalize W1.heap.size=mb at HRR HRD hmb hmb1⊢;clear hw1 HC1 HRR;refine HRD.out.mono ?_;rintro e W3 ⟨hk3,ho⟩;have HC3:Hid (Ch w W3 s (.slice ac s.cs.length kc') vw):=⟨(hk3.block _ HC2.out.nb.lt (by omega)).trans HC2.out.nb,HC2.out.z.kp hk3 (by omega),hk3.below HC2.out.bel HC2.out.bel.size (fun i hi e=>by omega)⟩;have hs23:=hk3.size;clear hk3 HRD HC2;rcases ho with⟨hno,ok,co,a1,n1,c1,rfl⟩|⟨c,a,vp,hyes,rfl,hpl,hrr⟩
  ·have HCK:=Hd (ckw_form HR.out hno);have HJ:=Hd (JB.new W3 false 0 (.slice none 0 0));have HBJ:=Hd ((Below.refl W3.heap.size W3).alloc (Nat.le_refl _) (.cells #[.bool false,.int .i64 0,.slice none 0 0] 192));have hw3:=HC3.out.lt;clear hno
   go_wp2_with (refine wpList_storeJ rfl _ _ rfl W3.heap.size rfl rfl HJ.out ?_)
   intro W4 hk4 hg4;have hb4:=hk4.below HBJ.out HBJ.out.size (fun i hi e=>by omega);have HC4:=Hd (HC3.out.next hb4);have HZ4:=Hd HC4.out.z;clear hk4 hg4 hb4 HJ HBJ HC3
   go_wp2_with (refine wpList_storeJ rfl _ _ rfl (w.heap.size+1) rfl rfl HZ4.out ?_)
   intro W9 hk9 hg9;have HG9:=Hd hg9;have HB9:=Hd (hk9.below HC4.out.bel HC4.out.bel.size (fun i hi e=>by omega));clear hk9 hg9 HZ4 HC4;go_wp2;exact bodyPost_ret (retJ2 Tryz.results111 rfl rfl HG9.out) rfl (CkP.no HCK.out HB9.out)
  ·obtain⟨h9,hrk⟩:=rdc_some hyes;obtain⟨bst,co,p⟩:=c;have HLL:Hid (∀l∈p,l.length≤255):=rdk_len HY.out.1 hrk;have HPN:=Hd (rdk_form h9 hrk).1;have HCR:=Hd (ckw_read HR.out hyes);have H23:=Hd (H22.out _ _ hyes);dsimp only at HLL HPN HCR hpl⊢;obtain⟨ap,kp,rfl,_,_⟩:=hpl.form;have HPL:Hid (RL (fun g=>W2.heap.size≤g) W3 (.slice ap p.length kp) p):=hpl;have HRR:=Hd hrr;have HJ:=Hd (JB.new W3 false 0 (.slice none 0 0));have HBJ:=Hd ((Below.refl W3.heap.size W3).alloc (Nat.le_refl _) (.cells #[.bool false,.int .i64 0,.slice none 0 0] 192));have hw3:=HC3.out.lt;clear hyes hrk hpl hrr h9
   go_wp2_with (refine wpList_storeJ rfl _ _ rfl W3.heap.size rfl rfl HJ.out ?_)
   intro W4 hk4 hg4;have hb4:=hk4.below HBJ.out HBJ.out.size (fun i hi e=>by omega);have HC4:=Hd (HC3.out.next hb4);have HJ4:=Hd hg4;have HPL4:=Hd (HPL.out.below' hb4);have HRR4:=Hd (HRR.out.below' hb4);have hmc:mb<W3.heap.size:=by omega
   clear hk4 hg4 hb4 HJ HBJ HC3 HPL HRR;generalize W3.heap.size=cb at HJ4 hw3 hmc⊢;have HF:=Hd (feasible_any s (fun _=>True) (.slice ac s.cs.length kc') vw (.slice ap p.length kp) p W4 ((HC.out.below' HC4.out.bel).mono fun _ _ _ _=>trivial) ((HW.out.below' HC4.out.bel).mono fun _ _ _ _=>trivial) (HPL4.out.mono fun _ _ _ _=>trivial) (by have:=HPN.out;omega) (fun l hl=>by have:=HLL.out l hl;omega));have c2:W4.cell? ⟨cb,2,none⟩=some (.slice ap p.length kp):=HJ4.out.cell 2;have HN4:=Hd HC4.out.nb
   go_wp2_with (refine wpList_load27g rfl _ rfl w.heap.size s.st _ _ rfl HN4.out ?_)
   refine HF.out.mono ?_;rintro e W5 ⟨rfl,hb5⟩;have HC5:=Hd (HC4.out.next hb5);have HJ5:=Hd (HJ4.out.below' hb5);have HPL5:=Hd (HPL4.out.below' hb5);have HRR5:=Hd (HRR4.out.below' hb5);clear hb5 c2 HF HC4 HJ4 HPL4 HRR4 HN4;cases hf:fsb s p with
   |false=>
    have HCK:Hid (ckw s b=(9,clm0)):=by show _=_;rw[HCR.out,hf];rfl
    have HZ5:=Hd HC5.out.z;clear hf
    go_wp2_with (refine wpList_storeJ rfl _ _ rfl (w.heap.size+1) rfl rfl HZ5.out ?_)
    intro W9 hk9 hg9;have HG9:=Hd hg9;have HB9:=Hd (hk9.below HC5.out.bel HC5.out.bel.size (fun i hi e=>by omega));clear hk9 hg9 HZ5 HC5;go_wp2;exact bodyPost_ret (retJ2 Tryz.results111 rfl rfl HG9.out) rfl (CkP.no HCK.out HB9.out)
   |true=>
    have HFS:=Hd (fsb_fs hf);rw[hf,if_pos rfl]at HCR;have HNT:=Hd (knewTree_any (HC.out.below' HC5.out.bel) (HW.out.below' HC5.out.bel) HR.out);have HN5:=Hd HC5.out.nb;clear hf
    go_wp2_with (refine wpList_load27g rfl _ rfl w.heap.size s.st _ _ rfl HN5.out ?_)
    refine HNT.out.mono ?_;rintro e W6 ⟨hb6,tb,vt,rfl,htc⟩;have HC6:=Hd (HC5.out.next hb6);have HJ6:=Hd (HJ5.out.below' hb6);have HPL6:=Hd (HPL5.out.below' hb6);have HRR6:=Hd (HRR5.out.below' hb6);have HTC:=Hd htc;clear hb6 htc HNT HC5 HJ5 HPL5 HRR5 HN5;obtain⟨ct,HCT⟩:∃c,Hid (RM.cst s.st s.ws s.cs p=c):=⟨_,Hd rfl⟩;rw[HCT.out]at HCR;have H2:Hid (∀w',Below W6.heap.size W6 w'→w'.cell? ⟨cb,2,none⟩=some (.slice ap p.length kp)):=fun w' hw=>(HJ6.out.below' hw).cell 2;have H1:Hid (∀w',Below W6.heap.size W6 w'→w'.cell? ⟨cb,1,none⟩=some (.int .i64 co)):=fun w' hw=>(HJ6.out.below' hw).cell 1
    have HCO:Hid (∀w',Below W6.heap.size W6 w'→Calls Tryz.prog 151 #[.pointer (some ⟨tb,0,none⟩),.slice ap p.length kp] w' fun e w''=>e=.returned (.int .i64 ct)∧Below w'.heap.size w' w''):=fun w' hw=>by
     have h:=kcost_nil HWS.out (HTC.out.below' hw) (HPL6.out.below' hw) HFS.out (fun l hl=>by have:=HLL.out l hl;omega);rw[HCT.out]at h;exact h
    go_wp2_with fail
    refine wp_region_quiet (C:=fun w'=>Below W6.heap.size W6 w') (by kernel_rfl) (by kernel_rfl) ((Below.refl _ _).drew) ?_;simp only[]
    iterate 2 (unfold wpQuiet;generalize hK:wpQuiet _ _ _ _ _=K;go_simp;refine⟨_,fun _ _=>rfl,?_⟩;subst hK)
    unfold wpQuiet;generalize hK:wpQuiet _ _ _ _ _=K;rw[if_pos (by go_simp)];refine quiet_loadPw _ _ _ rfl rfl H2.out ?_;go_simp;subst hK;unfold wpQuiet;generalize hK:wpQuiet _ _ _ _ _=K;go_simp;refine⟨_,fun w' hw=>(HCO.out w' hw).mono fun e w'' hh=>⟨hh.1,below_class hw hh.2⟩,?_⟩;subst hK;unfold wpQuiet;generalize hK:wpQuiet _ _ _ _ _=K;go_simp;refine⟨_,fun _ _=>rfl,?_⟩;subst hK;unfold wpQuiet;generalize hK:wpQuiet _ _ _ _ _=K;rw[if_pos (by go_simp)];refine quiet_load3 _ _ _ rfl rfl H1.out ?_;go_simp;subst hK;unfold wpQuiet;generalize hK:wpQuiet _ _ _ _ _=K;go_simp;refine⟨_,fun _ _=>rfl,?_⟩;subst hK;refine wpQuiet_nil ?_;intro W7 hb7;have HC7:=Hd (HC6.out.next hb7);have HJ7:=Hd (HJ6.out.below' hb7);have HPL7:=Hd (HPL6.out.below' hb7);have HRR7:=Hd (HRR6.out.below' hb7);have HTC7:=Hd (HTC.out.below' hb7);have HZ7:=Hd HC7.out.z;clear hb7 H1 H2 HCO HC6 HJ6 HPL6 HRR6 HTC;by_cases hct:ct=co
    ·subst hct;rw[if_pos rfl]at HCR;have c0:W7.cell? ⟨cb,0,none⟩=some (.bool bst):=HJ7.out.cell 0;cases bst with
     |false=>
      have HCK:Hid (ckw s b=(0,⟨false,ct,p⟩)):=by show _=_;rw[HCR.out,if_neg (by simp)]
      go_wp2_with (first|(refine wpList_loadJ rfl _ rfl cb rfl HJ7.out ?_)|(refine wpList_storeJ rfl _ _ rfl (w.heap.size+1) rfl rfl HZ7.out ?_))
      intro W9 hk9 hg9;have HG9:=Hd hg9;have HB9:=Hd (hk9.below HC7.out.bel HC7.out.bel.size (fun i hi e=>by omega));have HRL9:Hid (RL (fun g=>w.heap.size≤g) W9 (.slice ap p.length kp) p):=(HPL7.out.keep hk9.size fun g hg hlt=>hk9.block g hlt (fun e=>by omega)).mono fun g hg _ _=>by omega
      clear hk9 hg9 HZ7 HC7 HJ7 HPL7;go_wp2;exact bodyPost_ret (retJ2 Tryz.results111 rfl rfl HG9.out) rfl (CkP.yes HCK.out HB9.out HRL9.out)
     |true=>
      have c1:W7.cell? ⟨cb,1,none⟩=some (.int .i64 ct):=HJ7.out.cell 1;obtain⟨vr,hrb,hry⟩:=HRR7.out.bl;have cr:=hrb.cell;obtain⟨ar,kr,rfl,_,_,_⟩:=hry.form;have HSH:=Hd (kshows_nil (c:=ct) (H23.out rfl) HTC7.out hry);obtain⟨bm,HBM⟩:∃m,Hid (mrk s ct (b.drop a)=m):=⟨_,Hd rfl⟩;rw[HBM.out]at HSH HCR;clear hrb hry;generalize (b.drop a).length=ln at cr HSH
      go_wp2_with fail
      refine HSH.out.mono ?_;rintro e W8 ⟨rfl,hb8⟩;have HC8:=Hd (HC7.out.next hb8);have HJ8:=Hd (HJ7.out.below' hb8);have HPL8:=Hd (HPL7.out.below' hb8);have HZ8:=Hd HC8.out.z;clear hb8 HSH c0 c1 cr HC7 HJ7 HPL7 HZ7 HRR7 HTC7;cases bm with
      |true=>
       have HCK:Hid (ckw s b=(0,⟨true,ct,p⟩)):=by show _=_;rw[HCR.out,if_neg (by simp)]
       go_wp2_with (first|(refine wpList_loadJ rfl _ rfl cb rfl HJ8.out ?_)|(refine wpList_storeJ rfl _ _ rfl (w.heap.size+1) rfl rfl HZ8.out ?_))
       intro W9 hk9 hg9;have HG9:=Hd hg9;have HB9:=Hd (hk9.below HC8.out.bel HC8.out.bel.size (fun i hi e=>by omega));have HRL9:Hid (RL (fun g=>w.heap.size≤g) W9 (.slice ap p.length kp) p):=(HPL8.out.keep hk9.size fun g hg hlt=>hk9.block g hlt (fun e=>by omega)).mono fun g hg _ _=>by omega
       clear hk9 hg9 HZ8 HC8 HJ8 HPL8;go_wp2;exact bodyPost_ret (retJ2 Tryz.results111 rfl rfl HG9.out) rfl (CkP.yes HCK.out HB9.out HRL9.out)
      |false=>
       have HCK:Hid (ckw s b=(10,clm0)):=by show _=_;rw[HCR.out,if_pos (by simp)]
       go_wp2_with (refine wpList_storeJ rfl _ _ rfl (w.heap.size+1) rfl rfl HZ8.out ?_)
       intro W9 hk9 hg9;have HG9:=Hd hg9;have HB9:=Hd (hk9.below HC8.out.bel HC8.out.bel.size (fun i hi e=>by omega));clear hk9 hg9 HZ8 HC8;go_wp2;exact bodyPost_ret (retJ2 Tryz.results111 rfl rfl HG9.out) rfl (CkP.no HCK.out HB9.out)
    ·have hcz:(ct !=co)=true:=by simpa using hct
     have HCK:Hid (ckw s b=(10,clm0)):=by show _=_;rw[HCR.out,if_neg hct]
     go_wp2_with (refine wpList_storeJ rfl _ _ rfl (w.heap.size+1) rfl rfl HZ7.out ?_)
     intro W9 hk9 hg9;have HG9:=Hd hg9;have HB9:=Hd (hk9.below HC7.out.bel HC7.out.bel.size (fun i hi e=>by omega));clear hk9 hg9 HZ7 HC7;go_wp2;exact bodyPost_ret (retJ2 Tryz.results111 rfl rfl HG9.out) rfl (CkP.no HCK.out HB9.out)
section
variable {s:Sn} {B:Nat}
def nby(n:Nat):List Nat:=1::(List.replicate 8 0++List.replicate n 0++[2])
theorem prl_nil:∀n,prl (List.replicate n [])=List.replicate n 0
 |0=>rfl
 |n+1=>by
  rw[List.replicate_succ,List.replicate_succ];show(0::[])++prl (List.replicate n [])=_;rw[prl_nil n];rfl
theorem prf_nil:prf (fxn s)=nby s.cs.length:=by
 unfold prf fxn nby;simp only;rw[prl_nil,if_neg (by simp),if_neg (by simp)]
 rfl
theorem rdc_nil{n:Nat}(h1:1≤n)(h8:n≤8):rdc n (nby n)=some (⟨true,0,List.replicate n []⟩,9+n)∧(nby n).drop (9+n)=[2]:=by
 have:n=1∨n=2∨n=3∨n=4∨n=5∨n=6∨n=7∨n=8:=by omega
 rcases this with rfl|rfl|rfl|rfl|rfl|rfl|rfl|rfl<;>exact⟨rfl,rfl⟩
theorem mrk_nil(hr:rgt s=true)(hws:s.ws=[]):mrk s 0 [2]=true:=by
 obtain⟨h1,_⟩:=cars_nil hr;obtain⟨f,hf⟩:∃f,s.cs.length+s.ws.length=f+1:=⟨s.cs.length+s.ws.length-1,by omega⟩;have hl:lfs s (List.replicate s.ws.length false)=[]:=by unfold lfs;rw[hws];rfl
 have e:cvi s 0 (f+1) 0 (List.replicate s.cs.length []) (List.replicate s.ws.length false) [2]=some []:=by
  show cvs s 0 (cvi s 0 f) 0 _ _ [2]=_;unfold cvs;simp only;rw[lsv_leaf hl,cst_nil (rep_nil _),hl];simp
 unfold mrk;rw[hf,e]
 rfl
theorem fsb_nil(hr:rgt s=true)(hws:s.ws=[]):fsb s (List.replicate s.cs.length [])=true:=by
 have h:=Pw.zero s;have h0:s.ws.length=0:=by rw[hws];rfl
 rw[←h0]at h;exact h.fsb hr
theorem ckw_nil(hr:rgt s=true)(hws:s.ws=[]):ckw s (nby s.cs.length)=(0,⟨true,0,List.replicate s.cs.length []⟩):=by
 obtain⟨h1,h8⟩:=cars_nil hr;obtain⟨h2,h3⟩:=rdc_nil h1 h8;unfold ckw;rw[if_pos hr,h2];simp only;rw[if_pos (fsb_nil hr hws),if_pos (cst_nil (rep_nil _)),h3,mrk_nil hr hws,if_neg (by simp)]
end
section
variable {D:Nat→Prop} {w:World} {s:Sn} {vc vw:Value}
theorem nby_byt(n:Nat):Byt (nby n):=fun x hx=>by
 unfold nby at hx;simp at hx;omega
theorem check0{v:Value}(hws:s.ws=[])(hc:R2 D w vc s.cs)(hw:R2 D w vw s.ws)(hr:rgt s=true)(hb:RY D w v (nby s.cs.length)):
  Calls Tryz.prog 111 #[.agg (nv s.st vc vw).toArray,v] w fun e w'=>Below w.heap.size w w'∧∃vp,e=.returned (.tuple #[.agg #[.bool true,.int .i64 0,vp],.int .i64 0])∧RL (fun g=>w.heap.size≤g) w' vp (List.replicate s.cs.length []):=by
 obtain⟨h1,h8⟩:=cars_nil hr;refine (check_nil s D vc vw v (nby s.cs.length) w hc hw hb hws (fun x a hx _=> ?_)).mono fun e w' h=> ?_
 ·obtain⟨h2,h3⟩:=rdc_nil h1 h8;rw[h2]at hx;cases hx;exact h3
 ·have h2:=h.out;rw[ckw_nil hr hws]at h2;exact⟨h.bel,h2⟩
end
end Go.Proofs.YtlajleogofmkcaaGreat
