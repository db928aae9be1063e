import Derived.Test.YtnkelgdnglaafaaGreatQ28
set_option maxHeartbeats 8000000
set_option maxRecDepth 100000
namespace Go.Proofs.YtnkelgdnglaafaaGreat
open Go.RowKit
theorem GroupKeeps_any(s:St)(v1:Value)(ps:List (List FF.Fr))(W:World)(hv:RPg FF.RF W v1 ps)(hp:∀l∈ps,l.length≤2000000):
  Calls Tryz.prog 4 #[.agg (sv s).toArray,v1] W fun e w'=>e=.returned (.bool true)∧Below W.heap.size W w':=by
 obtain⟨a1,c1,rfl,-⟩:=hv.form;have HV:=Hd hv;have HP:=Hd hp;have HS:=Hd (SB.new W s);have HB:=Hd ((Below.refl W.heap.size W).alloc (Nat.le_refl _) (.cells (sv s).toArray 23));clear hv hp
 go_enter Tryz.func4,Tryz.ntmps4
 go_wp2_with fail
 generalize W.alloc (.cells (sv s).toArray 23)=X at HS HB⊢;refine (speaks15_any X).mono ?_;rintro e X1 ⟨rfl,hb1⟩;have HS1:=Hd (HS.out.below' hb1);have HB1:=Hd (below_class HB.out hb1);clear hb1 HS HB
 go_wp2_with (refine wpList_load23 rfl _ rfl W.heap.size s rfl HS1.out ?_)
 by_cases r:SM.Rt s
 ·refine (gg_new r X1).mono ?_;rintro e X2 ⟨gb,rfl,hg2,hb2⟩;obtain⟨B,hB⟩:∃B,X1.heap.size=B:=⟨_,rfl⟩;rw[hB]at hg2;have HLT:Hid (W.heap.size<B):=hB▸HS1.out.lt;have HG2:=Hd hg2;have HS2:=Hd (HS1.out.below' hb2);have HB2:=Hd (below_class HB1.out hb2);clear hg2 hb2 hB HS1 HB1
  go_wp2_with (refine wpList_load23 rfl _ rfl W.heap.size s rfl HS2.out ?_)
  have HR:=Hd (rright_any s X2);rw[rightB_true r]at HR;refine HR.out.mono ?_;rintro e X3 ⟨rfl,hb3⟩;have HG3:Hid (Sg W X3 s B W.heap.size gb 0):=⟨⟨_,HG2.out.below hb3,rfl⟩,HS2.out.below' hb3,below_class HB2.out hb3⟩;clear hb3 HR HS2 HG2 HB2;have c11:X3.cell? ⟨W.heap.size,11,none⟩=some (.int .i64 s.bud):=HG3.out.ss.cell 11;by_cases q:s.bud≤2500∧(ps.length:Int)≤120
  ·obtain⟨q1,q2⟩:=q;have p1:¬2500<s.bud:=by omega
   have p2:¬120<(ps.length:Int):=by omega
   go_wp2_with fail
   clear c11
   go_loopw [49] (fun iv wr=>∃j:Nat,j≤ps.length∧iv=.int .i64 (j:Int)∧Hid (Sg W wr s B W.heap.size gb j)) (fun iv _=>ps.length-(intOf iv).toNat)
   case atStart=>exact⟨0,Nat.zero_le _,rfl,HG3⟩
   case round=>
    clear HG3;obtain⟨j,hj,rfl,HG⟩:=hrel;by_cases hlt:j<ps.length
    ·have hz:(j:Int)<(ps.length:Int):=by omega
     obtain⟨l,hl⟩:∃l,ps[j]?=some l:=⟨_,List.getElem?_eq_getElem hlt⟩;have HLL:=Hd (HP.out l (List.mem_of_getElem? hl));obtain⟨g,o,rfl,u,hcu,hru⟩:=HV.out.at HG.out.bel hl;have hru2:=hru.keep HG.out.bel.size fun g _ hlt=>HG.out.bel.block g hlt;have HRF:=Hd (show FF.RF wr u l from hru2);obtain⟨ao,ko,rfl,-⟩:=hru2;have hix:∀W:World,_:=fun W=>ixT (g:=g) (o:=o) (cap:=c1) W hlt;have HBY:=Hd (gbytes_any HRF.out HLL.out);have hj1:j+1≤ps.length:=hlt;clear hl hru HLL
     go_wp2_with fail
     clear hix hcu;refine HBY.out.mono ?_;rintro e W4 ⟨hb4,⟨rfl,-⟩|⟨u4,rfl,hmay,ho4⟩⟩
     ·have HBB:=Hd (below_class HG.out.bel hb4);clear hb4 HBY;go_wp2;go_ret;exact⟨rfl,HBB.out⟩
     ·by_cases q40:(l.length:Int)≤40
      ·have p40:¬40<(l.length:Int):=by omega
       obtain⟨G,hgg,hst⟩:=HG.out.ex;have HC:=Hd (gg_calls (hgg.below hb4));have HOB:=Hd (ho4.rd (FF.FC.ens_Bs hmay));have HOL:Hid (∀g,u4.ownBlock=some g→wr.heap.size≤g):=fun g hg=>(ho4.lt g hg).1;have hlb:(FF.FC.ens l).length≤900:=by rw[FF.FC.ens_length];omega
       have HGG:=Hd hgg;have HB4:=Hd hb4;clear hgg hb4 ho4 hmay HBY
       go_wp2_with fail
       refine HC.out.mono ?_;rintro e W5 ⟨v5,rfl,hr5,hb5⟩;obtain⟨a5,n5,k5,rfl⟩:=hr5.slice;obtain rfl:=hr5.len;have hb45:=below_class HB4.out hb5;have HR5:=Hd (hr5.less HB4.out.size);have HT:=Hd (gg_tick HGG.out (by omega) hb45 (HOB.out.below' hb5) hlb HOL.out);have HIN:Hid (∀c∈G.L,(∃y∈(GM.tck G (FF.FC.ens l)).2.L,y.fl=c.fl∧y.ca=c.ca∧y.up=c.up∧y.ag=c.ag+1)∨((GM.tck G (FF.FC.ens l)).2.rc=false∧∃(i:Nat) (m:Mb),(GM.tck G (FF.FC.ens l)).2.M[i]?=some m∧m.lv=true∧m.mo=false∧m.ph=2∧m.fl=c.fl∧(c.ca<0∨c.ca=i))):=fun c hc=>tck_in HGG.out.q hc;have HAG:Hid (∀c∈G.L,0≤c.ag∧c.ag≤1000):=fun c hc=>by have:=HGG.out.q.go.gd.age c hc;have:=HGG.out.q.go.n1;omega
       have HLL:Hid (G.L.length≤128):=HGG.out.q.go.gd.len;have HS5:=Hd (HG.out.ss.below' hb45);have HB5:=Hd (below_class HG.out.bel hb45);have HST:Hid (G.st=s):=hst;have HND:=Hd (tck_st HGG.out.q (by omega) HOB.out.bs hlb);clear hst hlb hr5 hb5 hb45 HC HOB HOL HGG HB4
       go_wp2_with fail
       refine HT.out.mono ?_;rintro e W6 ⟨g6,k6,rfl,-,hg6,-,-,hb6,hkp⟩;obtain⟨G2,hG2⟩:∃x,(GM.tck G (FF.FC.ens l)).2=x:=⟨_,rfl⟩;rw[hG2]at hg6 HIN HND;have HR6:=Hd (hr_keep HR5.out hkp);have HG6:=Hd hg6;have HC6:=Hd (gg_calls hg6);have HSG6:Hid (Sg W W6 s B W.heap.size gb (j+1)):=⟨⟨G2,by rw[Int.natCast_add];exact hg6,HND.out.trans HST.out⟩,HS5.out.below hb6 HLT.out,HB5.out.trans (hb6.mono (Nat.le_of_lt HLT.out))⟩;have HST2:Hid (G2.st=s):=HND.out.trans HST.out;clear hg6 hb6 hkp hG2 HT HG HRF HR5 HS5 HB5 HND
       go_wp2_with fail
       refine HC6.out.mono ?_;rintro e W7 ⟨v7,rfl,hr7,hb7⟩;obtain⟨a7,n7,k7,rfl⟩:=hr7.slice;obtain rfl:=hr7.len;have HR7:=Hd hr7;have HR67:=Hd (HR6.out.below' hb7);have HSG7:=Hd (HSG6.out.next hb7);have HG7:=Hd (HG6.out.below hb7);have HL7:Hid (G2.L.length≤128):=HG6.out.q.go.gd.len;have hl5:=HLL.out;have hl7:=HL7.out;clear hr7 hb7 HC6 HR6 HSG6 HG6 HLL HL7
       go_wp2_with fail
       go_loopw [74] (fun iv Wr=>∃i:Nat,i≤G.L.length∧iv=.int .i64 (i:Int)∧Hid (Below W7.heap.size W7 Wr)) (fun iv _=>G.L.length-(intOf iv).toNat)
       case atStart=>exact⟨0,Nat.zero_le _,rfl,Hd (Below.refl _ _)⟩
       case round=>
        rename World=>Wr
        obtain⟨i,hi,rfl,HB⟩:=hrel;by_cases hli:i<G.L.length
        ·have hiz:(i:Int)<(G.L.length:Int):=by omega
         obtain⟨c,hc⟩:∃c,G.L[i]?=some c:=⟨_,List.getElem?_eq_getElem hli⟩;have hcm:=List.mem_of_getElem? hc;have hag:=HAG.out c hcm;have HINc:=Hd (HIN.out c hcm);obtain⟨gc,rfl,hrg,hix⟩:=row_at (HR67.out.below' HB.out) hc;have HRG:=Hd hrg;have HCB:=Hd (CC.CB.new Wr c);have HX1:=Hd (below_class HB.out ((Below.refl Wr.heap.size Wr).alloc (Nat.le_refl _) (.cells #[.int .i64 c.fl,.int .i64 c.ca,.int .i64 c.ag,.bool c.up] 47)));have hi1:i+1≤G.L.length:=hli;clear hc hcm hrg HB
         go_wp2_with (refine wpList_loadKo rfl _ rfl gc (i*4) rfl HRG.out ?_)
         clear hix HRG;generalize Wr.alloc (.cells #[.int .i64 c.fl,.int .i64 c.ca,.int .i64 c.ag,.bool c.up] 47)=V1 at HCB HX1⊢;generalize Wr.heap.size=cb at HCB⊢;have HT0:Hid (false=(G2.L.take 0).any (mt c)):=rfl
         go_loopw [15,80] (fun tv mv w3=>∃(k:Nat) (t:Bool),k≤G2.L.length∧tv=.bool t∧mv=.int .i64 (k:Int)∧Hid (t=(G2.L.take k).any (mt c))∧Hid (Below V1.heap.size V1 w3)) (fun _ mv _=>G2.L.length-(intOf mv).toNat)
         case atStart=>exact⟨0,false,Nat.zero_le _,rfl,rfl,HT0,Hd (Below.refl _ _)⟩
         case round=>
          clear HT0
          rename World=>w3
          obtain⟨k,t,hk,rfl,rfl,HTK,HB3⟩:=hrel;by_cases hlk:k<G2.L.length
          ·have hkz:(k:Int)<(G2.L.length:Int):=by omega
           obtain⟨x,hx⟩:∃x,G2.L[k]?=some x:=⟨_,List.getElem?_eq_getElem hlk⟩;obtain⟨gx,rfl,hrg,hix⟩:=row_at (HR7.out.below' (below_class HX1.out HB3.out)) hx;have HRG:=Hd hrg;have HMS:=Hd (mt_succ (c:=c) hx);have hal:=(Below.refl w3.heap.size w3).alloc (Nat.le_refl _) (.cells #[.int .i64 x.fl,.int .i64 x.ca,.int .i64 x.ag,.bool x.up] 47);have HB4:=Hd (below_class HB3.out hal);have hxb:=CC.CB.new w3 x;have hcb:=HCB.out.below' (below_class HB3.out hal);have x0:=hxb.c0;have x1:=hxb.c1;have x2:=hxb.c2;have x3:=hxb.c3;have c0:=hcb.c0;have c1:=hcb.c1;have c2:=hcb.c2;have c3:=hcb.c3;have hk1:k+1≤G2.L.length:=hlk;clear hx hrg hal hxb hcb HB3
           go_upto_region 24 with (refine wpList_loadKo rfl _ rfl gx (k*4) rfl HRG.out ?_)
           clear hix HRG;generalize w3.alloc (.cells #[.int .i64 x.fl,.int .i64 x.ca,.int .i64 x.ag,.bool x.up] 47)=V2 at HB4 x0 x1 x2 x3 c0 c1 c2 c3⊢;generalize w3.heap.size=xb at x0 x1 x2 x3⊢;rw[←HTK.out]at HMS;cases t
           ·by_cases h1:x.fl=c.fl
            ·have d1:(x.fl==c.fl)=true:=by simpa using h1
             by_cases h2:x.ca=c.ca
             ·have d2:(x.ca==c.ca)=true:=by simpa using h2
              by_cases h3:x.up=c.up
              ·have d3:(x.up==c.up)=true:=by simpa using h3
               by_cases h4:x.ag=c.ag+1
               ·have d4:(x.ag==c.ag+1)=true:=by simpa using h4
                have HN:Hid (true=(G2.L.take (k+1)).any (mt c)):=by show _=_;rw[HMS.out];unfold mt;rw[d1,d2,d3,d4];rfl
                clear h1 h2 h3 h4 HMS HTK;go_wp2;go_roundw
                case rel=>exact⟨k+1,true,hk1,rfl,by go_num,HN,HB4⟩
                case measure=>simp[intOf];omega
               ·have d4:(x.ag==c.ag+1)=false:=by simpa using h4
                have HN:Hid (false=(G2.L.take (k+1)).any (mt c)):=by show _=_;rw[HMS.out];unfold mt;rw[d1,d2,d3,d4];rfl
                clear h1 h2 h3 h4 HMS HTK;go_wp2;go_roundw
                case rel=>exact⟨k+1,false,hk1,rfl,by go_num,HN,HB4⟩
                case measure=>simp[intOf];omega
              ·have d3:(x.up==c.up)=false:=by simpa using h3
               have HN:Hid (false=(G2.L.take (k+1)).any (mt c)):=by show _=_;rw[HMS.out];unfold mt;rw[d1,d2,d3];rfl
               clear h1 h2 h3 HMS HTK;go_wp2;go_roundw
               case rel=>exact⟨k+1,false,hk1,rfl,by go_num,HN,HB4⟩
               case measure=>simp[intOf];omega
             ·have d2:(x.ca==c.ca)=false:=by simpa using h2
              have HN:Hid (false=(G2.L.take (k+1)).any (mt c)):=by show _=_;rw[HMS.out];unfold mt;rw[d1,d2];rfl
              clear h1 h2 HMS HTK;go_wp2;go_roundw
              case rel=>exact⟨k+1,false,hk1,rfl,by go_num,HN,HB4⟩
              case measure=>simp[intOf];omega
            ·have d1:(x.fl==c.fl)=false:=by simpa using h1
             have HN:Hid (false=(G2.L.take (k+1)).any (mt c)):=by show _=_;rw[HMS.out];unfold mt;rw[d1];rfl
             clear h1 HMS HTK;go_wp2;go_roundw
             case rel=>exact⟨k+1,false,hk1,rfl,by go_num,HN,HB4⟩
             case measure=>simp[intOf];omega
           ·have HN:Hid (true=(G2.L.take (k+1)).any (mt c)):=by show _=_;rw[HMS.out];rfl
            clear HMS HTK;go_wp2;go_roundw
            case rel=>exact⟨k+1,true,hk1,rfl,by go_num,HN,HB4⟩
            case measure=>simp[intOf];omega
          ·have hkz:¬(k:Int)<(G2.L.length:Int):=by omega
           have e1:k=G2.L.length:=by omega
           rw[e1,List.take_length]at HTK;clear e1;have HBX:=Hd (below_class HX1.out HB3.out);cases t
           ·obtain⟨hrc,wi,m,hm,l1,l2,l3,l4,l5⟩:=HINc.out.resolve_left (fun h=>by have h1:=mt_in h;rw[←HTK.out]at h1;cases h1);have hca:=HG7.out.q.go.ml;rw[HST2.out]at hca;have hwi:(wi:Int)<s.ca:=by have:=(List.getElem?_eq_some_iff.1 hm).1;omega
            have hc8:=r.ca2;have HM:=Hd hm;have HLM:=Hd (show m.lv=true∧m.mo=false∧m.ph=2∧m.fl=c.fl∧(c.ca<0∨c.ca=(wi:Int))from⟨l1,l2,l3,l4,l5⟩);have HCB3:=Hd (HCB.out.below' HB3.out);clear HTK HINc hm l1 l2 l3 l4 l5 hca HX1 HB3 HCB
            go_wp2_with fail
            go_loopw [18,19] (fun ov nv w4=>∃(k:Nat) (o:Bool),(k:Int)≤s.ca∧ov=.bool o∧nv=.int .i64 (k:Int)∧Hid (wi<k→o=true)∧Hid (Below w3.heap.size w3 w4)) (fun _ nv _=>s.ca.toNat-(intOf nv).toNat)
            case atStart=>exact⟨0,false,by omega,rfl,rfl,Hd (fun h=>absurd h (Nat.not_lt_zero _)),Hd (Below.refl _ _)⟩
            case round=>
             rename World=>w4
             obtain⟨k,o,hk,rfl,rfl,HO,HB4⟩:=hrel;have HBY:=Hd (below_class HBX.out HB4.out);have cN:w4.cell? ⟨W.heap.size,1,none⟩=some (.int .i64 s.ca):=(HSG7.out.next HBY.out).ss.cell 1;by_cases hkz:(k:Int)<s.ca
             ·go_wp2_with fail
              clear cN;have hsn:=gg_seen (HG7.out.below HBY.out) k;obtain⟨m',hm'⟩:∃x,GM.see G2.M (k:Int)=x:=⟨_,rfl⟩;rw[hm']at hsn;have HW:Hid (k=wi→m'=m):=fun e=>by rw[←hm',e];exact see_at HM.out
              refine hsn.mono ?_;rintro e V1 ⟨rfl,hb2⟩;rw[show(sev m').toArray= #[.bool m'.lv,.bool m'.ou,.bool m'.mo,.bool m'.fa,.bool m'.ov,.int .i64 m'.fl,.int .i64 m'.tg,.int .i64 m'.ph]from rfl];have hal:=(Below.refl V1.heap.size V1).alloc (Nat.le_refl _) (.cells #[.bool m'.lv,.bool m'.ou,.bool m'.mo,.bool m'.fa,.bool m'.ov,.int .i64 m'.fl,.int .i64 m'.tg,.int .i64 m'.ph] 43);have HXB:=Hd (World.alloc_heap_new V1 (.cells #[.bool m'.lv,.bool m'.ou,.bool m'.mo,.bool m'.fa,.bool m'.ov,.int .i64 m'.fl,.int .i64 m'.tg,.int .i64 m'.ph] 43));have HB5:=Hd (below_class (below_class HB4.out hb2) hal);clear hsn hm' hb2 hal HB4 HBY
              go_upto_region 32 with (fail)
              generalize V1.alloc (.cells #[.bool m'.lv,.bool m'.ou,.bool m'.mo,.bool m'.fa,.bool m'.ov,.int .i64 m'.fl,.int .i64 m'.tg,.int .i64 m'.ph] 43)=V2 at HXB HB5⊢;generalize V1.heap.size=xb at HXB⊢;have hcb:=HCB3.out.below' HB5.out;have q0:=hcb.c0;have q1:=hcb.c1;have y0:V2.cell? ⟨xb,0,none⟩=some (.bool m'.lv):=blk_cell HXB.out 0;have y2:V2.cell? ⟨xb,2,none⟩=some (.bool m'.mo):=blk_cell HXB.out 2;have y5:V2.cell? ⟨xb,5,none⟩=some (.int .i64 m'.fl):=blk_cell HXB.out 5;have y7:V2.cell? ⟨xb,7,none⟩=some (.int .i64 m'.ph):=blk_cell HXB.out 7;clear hcb HXB;cases o
              ·have hkw:¬wi<k:=fun h=>by cases HO.out h
               by_cases e:k=wi
               ·have he:=HW.out e;subst e;subst he;obtain⟨l1,l2,l3,l4,l5⟩:=HLM.out;rw[l1]at y0;rw[l2]at y2;rw[l3]at y7;rw[l4]at y5;have d0:(c.fl==c.fl)=true:=by simp
                clear l1 l2 l3 l4 HLM HM HW HO;by_cases l6:c.ca<0
                ·clear l5;go_wp2;go_roundw
                 case rel=>exact⟨k+1,true,by omega,rfl,by go_num,Hd (fun _=>rfl),HB5⟩
                 case measure=>simp[intOf];omega
                ·have l7:c.ca=(k:Int):=by omega
                 have d1:(c.ca==(k:Int))=true:=by simpa using l7
                 clear l5 l7;go_wp2;go_roundw
                 case rel=>exact⟨k+1,true,by omega,rfl,by go_num,Hd (fun _=>rfl),HB5⟩
                 case measure=>simp[intOf];omega
               ·have hkw2:¬wi<k+1:=by omega
                obtain⟨mlv,h1⟩:∃x,m'.lv=x:=⟨_,rfl⟩;obtain⟨mmo,h2⟩:∃x,m'.mo=x:=⟨_,rfl⟩;obtain⟨mfl,h3⟩:∃x,m'.fl=x:=⟨_,rfl⟩;obtain⟨mph,h4⟩:∃x,m'.ph=x:=⟨_,rfl⟩;rw[h1]at y0;rw[h2]at y2;rw[h3]at y5;rw[h4]at y7;clear h1 h2 h3 h4 HLM HM HW HO e;cases mlv;rotate_left;cases mmo;cases e1:(mph==2);rotate_left;cases e2:(mfl==c.fl);rotate_left;by_cases e3:c.ca<0;rotate_left;cases e4:(c.ca==(k:Int))
                all_goals
                 go_wp2;go_roundw
                 case rel=>exact⟨k+1,_,by omega,rfl,by go_num,Hd (fun h=>absurd h hkw2),HB5⟩
                 case measure=>simp[intOf];omega
              ·go_wp2;go_roundw
               case rel=>exact⟨k+1,true,by omega,rfl,by go_num,Hd (fun _=>rfl),HB5⟩
               case measure=>simp[intOf];omega
             ·obtain rfl:o=true:=HO.out (by omega);have HRC:=Hd (gg_recall (HG7.out.below HBY.out));rw[hrc]at HRC
              go_wp2_with fail
              refine HRC.out.mono ?_;rintro e w5 ⟨rfl,rfl⟩;clear HRC;go_wp2;go_roundw
              case rel=>exact⟨i+1,hi1,by go_num,HBY⟩
              case measure=>simp[intOf];omega
           ·clear HTK HX1 HB3 HINc;go_wp2;go_roundw
            case rel=>exact⟨i+1,hi1,by go_num,HBX⟩
            case measure=>simp[intOf];omega
        ·have hiz:¬(i:Int)<(G.L.length:Int):=by omega
         have HSG8:=Hd (HSG7.out.next HB.out);clear HB;go_wp2;go_roundw
         case rel=>exact⟨j+1,hj1,by go_num,HSG8⟩
         case measure=>simp[intOf];omega
      ·have HBB:=Hd (below_class HG.out.bel hb4);have p40:40<(l.length:Int):=by omega
       clear hb4 ho4 hmay HBY;go_wp2;go_ret;exact⟨rfl,HBB.out⟩
    ·have hz:¬(j:Int)<(ps.length:Int):=by omega
     have HBB:=Hd HG.out.bel;go_wp2;go_ret;exact⟨rfl,HBB.out⟩
  ·go_wp2_with fail
   all_goals first
    |(exfalso;omega)
    |(go_ret;exact⟨rfl,HG3.out.bel⟩)
 ·refine (gnew_no s r X1).mono ?_;rintro e X2 ⟨rfl,hb2⟩;have HS2:=Hd (HS1.out.below' hb2);have HB2:=Hd (below_class HB1.out hb2);clear hb2 HS1 HB1
  go_wp2_with (refine wpList_load23 rfl _ rfl W.heap.size s rfl HS2.out ?_)
  have HR:=Hd (rright_any s X2);rw[rightB_false r]at HR;refine HR.out.mono ?_;rintro e X3 ⟨rfl,hb3⟩;have HB3:=Hd (below_class HB2.out hb3);clear hb3 HR HS2 HB2;go_wp2;go_ret;exact⟨rfl,HB3.out⟩
end Go.Proofs.YtnkelgdnglaafaaGreat
