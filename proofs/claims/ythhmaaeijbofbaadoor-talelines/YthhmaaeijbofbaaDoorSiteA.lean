/- Sites, and which are right. No program is named here. -/
import Derived.Test.YthhmaaeijbofbaaDoorRows
namespace Go.Proofs.YthhmaaeijbofbaaDoor

theorem ret_int {k : IntKind} {a b : Int} (h : a = b) : Ending.returned (.int k a) = .returned (.int k b) := by rw [h]

/-- a site's numbers -/
structure St where
  fl : Int
  ca : Int
  sta : Int
  ste : Int
  sto : Int
  opn : Int
  wai : Int
  clo : Int
  nud : Int
  age : Int
  sil : Int
  bud : Int
  per : Int

namespace SM

/-- a site that is right -/
structure Rt (s : St) : Prop where
  fl1 : 2 ≤ s.fl
  fl2 : s.fl ≤ 64
  ca1 : 1 ≤ s.ca
  ca2 : s.ca ≤ 8
  sta1 : 0 ≤ s.sta
  sta2 : s.sta ≤ 1000
  ste1 : 1 ≤ s.ste
  ste2 : s.ste ≤ 1000
  sto1 : 0 ≤ s.sto
  sto2 : s.sto ≤ 1000
  opn1 : 1 ≤ s.opn
  opn2 : s.opn ≤ 1000
  wai1 : 1 ≤ s.wai
  wai2 : s.wai ≤ 1000
  clo1 : 1 ≤ s.clo
  clo2 : s.clo ≤ 1000
  nud1 : 0 ≤ s.nud
  nud2 : s.nud ≤ 10
  age1 : 1 ≤ s.age
  age2 : s.age ≤ 1000000
  sil1 : 1 ≤ s.sil
  sil2 : s.sil ≤ 1000000
  bud1 : 1 ≤ s.bud
  bud2 : s.bud ≤ 1000000
  per1 : 1 ≤ s.per
  per2 : s.per ≤ 1000

end SM
end Go.Proofs.YthhmaaeijbofbaaDoor
