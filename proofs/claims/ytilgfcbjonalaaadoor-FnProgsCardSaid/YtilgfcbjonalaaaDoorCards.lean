/-
  DERIVED. GIVEN WITH THE SEED: THE CARDS: each row of YtilgfcbjonalaaaDoorRows.lean that lists a variable, with what it lists TIED to the program's text (the seventh form; the later family's looks); each row that meets fmt, with fmt's text TOLD by the authors' own Lean function (tested against real Go, not proved from fmt's source: count such statements apart). THE CARD IS WHAT COUNTS. Prove the row's statement (the work); the ties are given (YtilgfcbjonalaaaDoorTie.lean); close each card by the builder's one call (the guide's Derived/Test/ToyasCard.lean, 'card_holds'). Laid BY PROGRAM, IN A SANDBOX (cutbox-door.mjs). By AI agents, Wed Nov 11 2026. No macro, syntax, notation, axiom, sorry.
-/
import Derived.Test.YtilgfcbjonalaaaDoorRows
import GoSem.ClaimSeven
namespace Go.Proofs.YtilgfcbjonalaaaDoor
namespace Rows

/-- THE TIED CARD OF 'laws.FnProgs'. -/
def fnProgsCard : Claim7 := { stood := { row := fnProgsRow, standIns := [], harness := (true, "943f878d5a44243abea7a9875cf76f319c85646568b95a06ee32d8cc2912391a"), looks := true }, kinds := [], alts := [], laidByText := true, laidKinds := [.data, .data, .data], laidTests := true, laidLooks := .later }
def FnProgsCardSaid : Prop := Claim7.holds Tryd.pinned (.plain (OpenSpec.ofChange fnProgsSpec)) fnProgsCard

/-- THE TIED CARD OF 'laws.FnWords'. -/
def fnWordsCard : Claim7 := { stood := { row := fnWordsRow, standIns := [], harness := (true, "943f878d5a44243abea7a9875cf76f319c85646568b95a06ee32d8cc2912391a"), looks := true }, kinds := [], alts := [], laidByText := true, laidKinds := [.data, .data, .data, .sentinel], laidTests := true, laidLooks := .later }
def FnWordsCardSaid : Prop := Claim7.holds Tryd.pinned (.plain (OpenSpec.ofChange fnWordsSpec)) fnWordsCard

/-- THE TIED CARD OF 'laws.FnExactParseAct'. -/
def fnExactParseActCard : Claim7 := { stood := { row := fnExactParseActRow, standIns := [], harness := (true, "943f878d5a44243abea7a9875cf76f319c85646568b95a06ee32d8cc2912391a"), looks := true }, kinds := [], alts := [], laidByText := true, laidKinds := [.data, .data, .data], laidTests := true, laidLooks := .later }
def FnExactParseActCardSaid : Prop := Claim7.holds Tryd.pinned (.plain (OpenSpec.ofChange fnExactParseActSpec)) fnExactParseActCard

/-- THE TIED CARD OF 'laws.FnExactParseProg'. -/
def fnExactParseProgCard : Claim7 := { stood := { row := fnExactParseProgRow, standIns := [], harness := (true, "943f878d5a44243abea7a9875cf76f319c85646568b95a06ee32d8cc2912391a"), looks := true }, kinds := [], alts := [], laidByText := true, laidKinds := [.data, .data, .data], laidTests := true, laidLooks := .later }
def FnExactParseProgCardSaid : Prop := Claim7.holds Tryd.pinned (.plain (OpenSpec.ofChange fnExactParseProgSpec)) fnExactParseProgCard

/-- THE TIED CARD OF 'laws.FnExactNextWord'. -/
def fnExactNextWordCard : Claim7 := { stood := { row := fnExactNextWordRow, standIns := [], harness := (true, "943f878d5a44243abea7a9875cf76f319c85646568b95a06ee32d8cc2912391a"), looks := true }, kinds := [], alts := [], laidByText := true, laidKinds := [.sentinel], laidTests := true, laidLooks := .later }
def FnExactNextWordCardSaid : Prop := Claim7.holds Tryd.pinned (.plain (OpenSpec.ofChange fnExactNextWordSpec)) fnExactNextWordCard

/-- THE SECOND FORM's CARD OF 'laws.FnProgs'. -/
def fnProgsUptoCard : Claim7 := { stood := { row := fnProgsUptoRow, standIns := [], harness := (true, "943f878d5a44243abea7a9875cf76f319c85646568b95a06ee32d8cc2912391a"), looks := true }, kinds := [], alts := [], laidByText := true, laidKinds := [.data, .data, .data], laidTests := true, laidLooks := .later }
def FnProgsUptoCardSaid : Prop := Claim7.holds Tryd.pinned (.plain (OpenSpec.upto fnProgsSpec)) fnProgsUptoCard

/-- THE SECOND FORM's CARD OF 'laws.FnWords'. -/
def fnWordsUptoCard : Claim7 := { stood := { row := fnWordsUptoRow, standIns := [], harness := (true, "943f878d5a44243abea7a9875cf76f319c85646568b95a06ee32d8cc2912391a"), looks := true }, kinds := [], alts := [], laidByText := true, laidKinds := [.data, .data, .data, .sentinel], laidTests := true, laidLooks := .later }
def FnWordsUptoCardSaid : Prop := Claim7.holds Tryd.pinned (.plain (OpenSpec.upto fnWordsSpec)) fnWordsUptoCard

/-- THE SECOND FORM's CARD OF 'laws.FnExactParseAct'. -/
def fnExactParseActUptoCard : Claim7 := { stood := { row := fnExactParseActUptoRow, standIns := [], harness := (true, "943f878d5a44243abea7a9875cf76f319c85646568b95a06ee32d8cc2912391a"), looks := true }, kinds := [], alts := [], laidByText := true, laidKinds := [.data, .data, .data], laidTests := true, laidLooks := .later }
def FnExactParseActUptoCardSaid : Prop := Claim7.holds Tryd.pinned (.plain (OpenSpec.upto fnExactParseActSpec)) fnExactParseActUptoCard

/-- THE SECOND FORM's CARD OF 'laws.FnExactParseProg'. -/
def fnExactParseProgUptoCard : Claim7 := { stood := { row := fnExactParseProgUptoRow, standIns := [], harness := (true, "943f878d5a44243abea7a9875cf76f319c85646568b95a06ee32d8cc2912391a"), looks := true }, kinds := [], alts := [], laidByText := true, laidKinds := [.data, .data, .data], laidTests := true, laidLooks := .later }
def FnExactParseProgUptoCardSaid : Prop := Claim7.holds Tryd.pinned (.plain (OpenSpec.upto fnExactParseProgSpec)) fnExactParseProgUptoCard

/-- THE SECOND FORM's CARD OF 'laws.FnExactNextWord'. -/
def fnExactNextWordUptoCard : Claim7 := { stood := { row := fnExactNextWordUptoRow, standIns := [], harness := (true, "943f878d5a44243abea7a9875cf76f319c85646568b95a06ee32d8cc2912391a"), looks := true }, kinds := [], alts := [], laidByText := true, laidKinds := [.sentinel], laidTests := true, laidLooks := .later }
def FnExactNextWordUptoCardSaid : Prop := Claim7.holds Tryd.pinned (.plain (OpenSpec.upto fnExactNextWordSpec)) fnExactNextWordUptoCard
end Rows
end Go.Proofs.YtilgfcbjonalaaaDoor
