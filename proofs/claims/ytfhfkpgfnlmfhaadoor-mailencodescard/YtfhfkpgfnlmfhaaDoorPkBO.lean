/- A text of the base. -/
import Derived.Test.YtfhfkpgfnlmfhaaDoorPkBD
import Derived.Test.YtfhfkpgfnlmfhaaDoorPkBN
import Derived.Test.YtfhfkpgfnlmfhaaDoorPkBB
/- The document's Sound of any message; the walk of MailEncodes. -/
namespace Go.Proofs.YtfhfkpgfnlmfhaaDoor
open Go.RowKit

theorem rsound_any (w : World) (p : Ml) (l : Lm) (hc : -9223372036854775808 ≤ p.client ∧ p.client ≤ 9223372036854775807) : Calls Tryd.prog 9 #[.agg (mcc p l)] w fun e w' => e = .returned (.bool (snd p)) ∧ Kept [] w w' := by
  by_cases hb : p.kind < 1 ∨ 8 < p.kind ∨ p.shard < 0 ∨ 64 ≤ p.shard
  · exact rsound_0 w p l hb
  · have h0 : 0 ≤ p.shard := by omega
    have h1 : p.shard < 64 := by omega
    have hk : p.kind = 1 ∨ p.kind = 2 ∨ p.kind = 3 ∨ (4 ≤ p.kind ∧ p.kind ≤ 8) := by omega
    rcases hk with hk | hk | hk | ⟨hk, hk8⟩
    · exact rsound_1 w p l hk h0 h1 hc.1 hc.2
    · exact rsound_2 w p l hk h0 h1 hc.1 hc.2
    · exact rsound_3 w p l hk h0 h1 hc.1 hc.2
    · exact rsound_4 w p l hk hk8 h0 h1 hc.1 hc.2
theorem encodes_any {W w : World} {p : Ml} {l : Lm} (hi : MailIn W p l) (hm : MW w p l) (ht : Tab w) : Calls Tryd.prog 3 #[.agg (mcc p l)] w fun e w' => e = .returned (.bool true) ∧ Kept [] w w' :=
  encodes_walk hm ht (fun o ho => by
    have h := hi.k2 o ho
    omega) (fun X => rsound_any X p l hi.cl)
end Go.Proofs.YtfhfkpgfnlmfhaaDoor
