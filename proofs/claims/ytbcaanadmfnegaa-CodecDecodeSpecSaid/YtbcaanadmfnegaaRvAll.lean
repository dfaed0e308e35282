/- Contract of the reference's Reader: Value, at each depth. -/
import Derived.Test.YtbcaanadmfnegaaRvInt
import Derived.Test.YtbcaanadmfnegaaRvText
import Derived.Test.YtbcaanadmfnegaaRvList2
namespace Go.Proofs.Ytbcaanadmfnegaa
open Go.RowKit

theorem rvalue_step (d : Nat) (IH : ∀ d', d = d' + 1 → VOkR d') (hd : d ≤ 16) : VOkR d := by
  intro r n c p B A xs w h hb hB hn hc hp
  by_cases hpn : p = n
  · exact rv_nil d r n c p B A xs w h hb hB hn hc hpn
  · have hlt : p < xs.length := by have := hb.1; omega
    obtain ⟨b, hbx⟩ : ∃ b, xs[p]? = some b := ⟨_, List.getElem?_eq_getElem hlt⟩
    by_cases e1 : b.toNat = 1
    · exact rv_int d r n c p B A xs w h hb hB hn hc b hbx e1
    · by_cases e2 : b.toNat = 2
      · exact rv_text d r n c p B A xs w h hb hB hn hc b hbx e2
      · by_cases e3 : b.toNat = 3
        · exact rv_list d r n c p B A xs w h hb hB hn hc b hbx e3 IH hd
        · exact rv_other d r n c p B A xs w h hb hB hn hc b hbx e1 e2 e3
theorem rvalue_any : ∀ (d : Nat), d ≤ 16 → VOkR d
  | 0, hd => rvalue_step 0 (fun d' h => by omega) hd
  | d + 1, hd => rvalue_step (d + 1) (fun d' h => by
      have e : d' = d := by omega
      subst e
      exact rvalue_any d' (by omega)) hd
end Go.Proofs.Ytbcaanadmfnegaa
