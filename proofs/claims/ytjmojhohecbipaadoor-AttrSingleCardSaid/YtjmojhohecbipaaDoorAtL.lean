/- Layer 10: the document's long, whole. -/
import Derived.Test.YtjmojhohecbipaaDoorAtF
import Derived.Test.YtjmojhohecbipaaDoorAtG
import Derived.Test.YtjmojhohecbipaaDoorAtH
set_option linter.unusedVariables false
namespace Go.Proofs.YtjmojhohecbipaaDoor.A10
open Go.RowKit Sgr

theorem long_any (L : List (List Int)) (A : Option Addr) (n c k : Nat) (w : World) (hT : TabL w A L) (hn : n = L.length) (hl : n ≤ 9223372036854775807) (hk : k < n) :
    Calls Tryd.prog 24 #[.slice A n c, .int .i64 k] w (LongPost w (longV (L.getD k []) (L.drop (k + 1)))) := by
  have bo : ∀ (x : Int), fitsB x = true ∨ fitsB x = false := fun x => by cases fitsB x <;> simp
  unfold longV
  by_cases hp : 1 < (L.getD k []).length
  · rw [if_pos hp]
    by_cases e5 : partV (L.getD k []) 1 = 5
    · by_cases h2 : 2 < (L.getD k []).length
      · exact long_five L A n c k w hT hn hl hk hp e5 h2
      · exact long_short5 L A n c k w hT hn hl hk hp e5 h2
    by_cases e2 : partV (L.getD k []) 1 = 2
    · by_cases h4 : 4 < (L.getD k []).length
      · by_cases h5 : 5 < (L.getD k []).length
        · rcases bo (partV (L.getD k []) 3) with ha | ha
          · rcases bo (partV (L.getD k []) 4) with hb | hb
            · rcases bo (partV (L.getD k []) 5) with hc | hc
              · exact long_rgb3_3 L A n c k w hT hn hl hk hp e2 h4 h5 ha hb hc
              · exact long_rgb3_2 L A n c k w hT hn hl hk hp e2 h4 h5 ha hb hc
            · exact long_rgb3_1 L A n c k w hT hn hl hk hp e2 h4 h5 ha hb
          · exact long_rgb3_0 L A n c k w hT hn hl hk hp e2 h4 h5 ha
        · rcases bo (partV (L.getD k []) 2) with ha | ha
          · rcases bo (partV (L.getD k []) 3) with hb | hb
            · rcases bo (partV (L.getD k []) 4) with hc | hc
              · exact long_rgb2_3 L A n c k w hT hn hl hk hp e2 h4 h5 ha hb hc
              · exact long_rgb2_2 L A n c k w hT hn hl hk hp e2 h4 h5 ha hb hc
            · exact long_rgb2_1 L A n c k w hT hn hl hk hp e2 h4 h5 ha hb
          · exact long_rgb2_0 L A n c k w hT hn hl hk hp e2 h4 h5 ha
      · exact long_few2 L A n c k w hT hn hl hk hp e2 h4
    · exact long_other L A n c k w hT hn hl hk hp e5 e2
  · rw [if_neg hp]
    by_cases h1 : n ≤ k + 1
    · exact behind_none L A n c k w hT hn hl hk hp (by omega) h1
    by_cases e5 : headV (L.drop (k + 1)) 0 = 5
    · by_cases h2 : n ≤ k + 2
      · exact behind_five_few L A n c k w hT hn hl hk hp (by omega) h2 e5
      · rcases bo (headV (L.drop (k + 1)) 1) with ha | ha
        · exact behind_five_yes L A n c k w hT hn hl hk hp (by omega) e5 ha
        · exact behind_five_no L A n c k w hT hn hl hk hp (by omega) e5 ha
    by_cases e2 : headV (L.drop (k + 1)) 0 = 2
    · by_cases h4 : n < k + 5
      · exact behind_two_few L A n c k w hT hn hl hk hp (by omega) h4 e2
      · rcases bo (headV (L.drop (k + 1)) 1) with ha | ha
        · rcases bo (headV (L.drop (k + 1)) 2) with hb | hb
          · rcases bo (headV (L.drop (k + 1)) 3) with hc | hc
            · exact behind_two_3 L A n c k w hT hn hl hk hp (by omega) e2 ha hb hc
            · exact behind_two_2 L A n c k w hT hn hl hk hp (by omega) e2 ha hb hc
          · exact behind_two_1 L A n c k w hT hn hl hk hp (by omega) e2 ha hb
        · exact behind_two_0 L A n c k w hT hn hl hk hp (by omega) e2 ha
    · exact behind_other L A n c k w hT hn hl hk hp (by omega) e5 e2
end Go.Proofs.YtjmojhohecbipaaDoor.A10
