import Derived.Test.YtnkelgdnglaafaaGreatQ25
namespace Go.Proofs.YtnkelgdnglaafaaGreat
def CmOk(G:Gs)(m:Mb)(c:Bool×Int):Prop:=c=(false,-1)∨((m.lv=true∧m.ou=false∧m.fa=false∧m.mo=false∧m.ph=0)∧((∃f,c=(false,f)∧0≤f∧f<G.st.fl∧m.fl≠f∧(G.rc=true→f=0))∨(c=(true,-1)∧(G.rc=true→m.fl=0))))
section
variable {G:Gs} {n:Int} {i:Nat} {m:Mb} {x:CC.Cl} {b:List Nat}
theorem wts_fl{L:List CC.Cl}(h:GM.wts L x=true):∃y∈L,y.fl=x.fl:=by
 obtain⟨y,hy,h1⟩:=List.any_eq_true.1 h;have:=(CC.KM.same_iff _ _).1 h1;exact⟨y,hy,by rw[←this];rfl⟩
theorem gol_fl(h:GM.gol G i m=some x):∃y∈G.L,y.fl=x.fl:=by
 unfold GM.gol at h;split at h
 ·rename_i z hz;cases h;obtain⟨-,h1,-⟩:=oldk_at (i:=z.1) (z:=z.2) hz;rw[List.getElem?_map]at h1;obtain⟨y,hy,e⟩:=Option.map_eq_some_iff.1 h1;exact⟨y,List.mem_of_getElem? hy,by rw[←e];rfl⟩
 ·have:=List.find?_some h;rw[Bool.and_eq_true]at this;exact wts_fl this.2
theorem snd_ok(hm:GM.wk m=true∧GM.idl m=true){f:Int}(f0:0≤f)(f1:f<G.st.fl)(hr:G.rc=true→f=0)(u d:Bool):CmOk G m (GM.snd m f u d).1:=by
 obtain⟨h1,h2⟩:=hm;unfold GM.wk at h1;unfold GM.idl at h2;simp only[Bool.and_eq_true,Bool.not_eq_true',decide_eq_true_eq]at h1 h2;refine .inr ⟨⟨h1.1,h1.2.1,h1.2.2,h2.1,h2.2⟩,?_⟩;unfold GM.snd;split
 ·rename_i e;exact .inl ⟨f,rfl,f0,f1,e,hr⟩
 ·rename_i e;exact .inr ⟨rfl,fun h=>by rw[Decidable.not_not.1 e];exact hr h⟩
theorem cmd_ok(h:GO n G):CmOk G m (GM.cmd G i m).1:=by
 have hf:=h.rt.fl1;unfold GM.cmd;split
 ·rename_i hw;split
  ·exact snd_ok hw (Int.le_refl _) (by omega) (fun _=>rfl) _ _
  ·rename_i hr;split
   ·exact .inl rfl
   ·rename_i x hx;obtain⟨y,hy,e⟩:=gol_fl hx;have hy2:=h.gd.rng y hy;split
    ·exact snd_ok hw (by omega) (by omega) (fun e=>absurd e hr) _ _
    ·exact snd_ok hw (by omega) (by omega) (fun e=>absurd e hr) _ _
 ·exact .inl rfl
theorem CmOk.cor{m':Mb}{c:Bool×Int}{G':Gs}(h:CmOk G m c)(e:GM.cor m'=GM.cor m)(h1:G'.st=G.st)(h2:G'.rc=G.rc):CmOk G' m' c:=by
 have a1:m'.lv=m.lv:=(congrArg Mb.lv e:(GM.cor m').lv=(GM.cor m).lv);have a2:m'.ou=m.ou:=(congrArg Mb.ou e:(GM.cor m').ou=(GM.cor m).ou);have a3:m'.fa=m.fa:=(congrArg Mb.fa e:(GM.cor m').fa=(GM.cor m).fa);have a4:m'.mo=m.mo:=(congrArg Mb.mo e:(GM.cor m').mo=(GM.cor m).mo);have a5:m'.ph=m.ph:=(congrArg Mb.ph e:(GM.cor m').ph=(GM.cor m).ph);have a6:m'.fl=m.fl:=(congrArg Mb.fl e:(GM.cor m').fl=(GM.cor m).fl);unfold CmOk;rw[a1,a2,a3,a4,a5,a6,h1,h2];exact h
theorem tck_ok(h:GQ n G)(hn:n<1000)(hb:FF.FC.Bs b)(hl:b.length≤900)(hi:(i:Int)<G.st.ca):∃m c,(GM.tck G b).2.M[i]?=some m∧(GM.tck G b).1[i]?=some c∧CmOk (GM.tck G b).2 m c:=by
 have q5:=h.tk5 hn hb hl;have ml:=q5.1.go.ml;rw[q5.2]at ml;obtain⟨m5,h5⟩:∃m,(GM.tk5 G b).M[i]?=some m:=⟨_,List.getElem?_eq_getElem (by omega)⟩;have h1:=GM.tll_c (G:=GM.tk5 G b) (GM.tk5 G b).M.length;have e2:(GM.tck G b).2={GM.tk5 G b with M:=(GM.tck G b).2.M}:=h1.1;have e3:=congrArg (fun l=>l[i]?) (show(GM.tck G b).2.M.map GM.cor=(GM.tk5 G b).M.map GM.cor from h1.2);simp only[List.getElem?_map,h5,Option.map_some]at e3;obtain⟨m,hm,he⟩:=Option.map_eq_some_iff.1 e3;exact⟨m,_,hm,GM.tll_at (by omega) h5 (Nat.le_refl _),(cmd_ok q5.1.go).cor he (by rw[e2]) (by rw[e2])⟩
theorem tke_d{f:FF.Fr}:(GM.tke G f).2.nd=G.nd:=by
 unfold GM.tke GM.rep GM.prs GM.trn
 (repeat' split)<;>rfl
theorem frs_d:∀{F:List FF.Fr} {G:Gs},(GM.frs G F).nd=G.nd
 |[],_=>rfl
 |f::F,G=>(@frs_d F (GM.fra G f)).trans (by
  have h:=@tke_d G f;unfold GM.fra;simp only
  (repeat' split)<;>exact h)
theorem srvs_d:∀i,(GM.srvs G i).nd=G.nd
 |0=>rfl
 |i+1=>by
  have h:=srvs_d i;show(GM.srv1 _ i).nd=_;unfold GM.srv1;split
  ·exact h
  ·split<;>exact h
theorem tk3_d:(GM.tk3 G b).nd=0:=by
 have h:(GM.rdb {G with N:=[],nd:=0} b).nd=0:=by
  unfold GM.rdb;simp only;split<;>exact frs_d
 unfold GM.tk3 GM.srv;split
 ·exact h
 ·exact(srvs_d _).trans h
theorem tck_nd(h:GQ n G)(hn:n<1000)(hb:FF.FC.Bs b)(hl:b.length≤900):(GM.tck G b).2.nd≤G.st.bud∧(GM.tck G b).2.st=G.st:=by
 obtain⟨q3,-,s3,-⟩:=h.tk3 hn hb hl;have q5:=h.tk5 hn hb hl;have e2:(GM.tck G b).2={GM.tk5 G b with M:=(GM.tck G b).2.M}:=(GM.tll_c (G:=GM.tk5 G b) _).1;refine⟨?_,by rw[e2];exact q5.2⟩;rw[GM.tck_c.2.2.2.2.1];have hb1:=h.go.rt.bud1;unfold GM.tk4;split
 ·show(GM.pln (GM.tk3 G b)).nd≤_;have hf:=fnd_bd (B:=(GM.tk3 G b).st.bud.toNat) (snp_rgt q3.go)
  have:(GM.pln (GM.tk3 G b)).nd=((fnd (GM.snp (GM.tk3 G b)) (GM.tk3 G b).st.bud.toNat).marks.length:Nat):=by
   rw[pln_eq];split<;>rfl
  rw[this,hf.2.2.2.1];have h9:=hf.2.2.2.2;have h8:(GM.tk3 G b).st.bud=G.st.bud:=by rw[s3]
  omega
 ·rw[tk3_d];omega
end
end Go.Proofs.YtnkelgdnglaafaaGreat
