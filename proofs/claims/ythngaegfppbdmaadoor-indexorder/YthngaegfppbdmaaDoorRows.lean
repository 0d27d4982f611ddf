/-
  NARROWER THAN 'FOR EVERY INPUT', by the rows' own cells (each row's printed sentence says how): LeafCodes: laid · LeafBack: laid · LeafPlaces: laid · LeafTurns: laid · LeafOrder: laid · IndexTells: laid · IndexBack: laid · IndexKeeps: laid · IndexOrder: laid · IndexSizes: laid · IndexApart: laid.
  DERIVED. THE GIVEN ROWS OF THIS SEAT. 11 by the template 'for every input the law returns true; each argument reads behind the call as it read before'; 0 by the template 'total and deterministic' (their statements: YthngaegfppbdmaaDoorTotals.lean).
  GIVEN WITH THE SEED: the statements are not yours to turn. If you find one false, say at which input.
  Laid BY PROGRAM, IN A SANDBOX (cutbox-rows.mjs): the forced cells as the released guide's own fill.sh prints them over the translation 69dcc93719c2327f… (all of the seat's roots in one cut). By AI agents, Wed Nov 11 2026. No macro, syntax, notation, axiom, sorry.
-/
import Derived.Test.YthngaegfppbdmaaDoorChecked
import GoSem.Claim
import GoSem.ClaimJoined
import GoSem.ClaimMapViews
import Derived.JoinedTies
import Derived.KernelRfl
namespace Go.Proofs.YthngaegfppbdmaaDoor
/- THE CELL 'sum', in the pinned program and in every row, IS THE sha256 OF THE DUMP (.gsa) THAT YthngaegfppbdmaaDoorProg.lean LOADS. Nothing in Lean hashes anything: it is a label: what it is worth is what the hold of that sum in a sandbox is worth. -/
noncomputable def Tryd.pinned : Pinned := { name := "ythngaegfppbdmaadoor", sum := "69dcc93719c2327f20f67981c59aafd882fa9df32f5846034413688b0ff7ef52", checked := Tryd.checked }
namespace Rows
def none {H : Type} : Left H := { results := [], args := [] }

/- WHAT THE LISTED PACKAGE-LEVEL VARIABLES READ AS WHEN THE CALL BEGINS. Each datum BY PROGRAM (the guide's laid-datum.mjs) off the statement by which the dump's own 'gosem.cut.vars' lays the variable. In a bare row this is a premise. The card (YthngaegfppbdmaaDoorCards.lean) ties it to the program's text. -/
def laid_codex_sha_first {H : Type} : DataW H := .agg [.lit (.int .u32 1779033703), .lit (.int .u32 3144134277), .lit (.int .u32 1013904242), .lit (.int .u32 2773480762), .lit (.int .u32 1359893119), .lit (.int .u32 2600822924), .lit (.int .u32 528734635), .lit (.int .u32 1541459225)]
def laid_codex_sha_roots {H : Type} : DataW H := .agg [.lit (.int .u32 1116352408), .lit (.int .u32 1899447441), .lit (.int .u32 3049323471), .lit (.int .u32 3921009573), .lit (.int .u32 961987163), .lit (.int .u32 1508970993), .lit (.int .u32 2453635748), .lit (.int .u32 2870763221), .lit (.int .u32 3624381080), .lit (.int .u32 310598401), .lit (.int .u32 607225278), .lit (.int .u32 1426881987), .lit (.int .u32 1925078388), .lit (.int .u32 2162078206), .lit (.int .u32 2614888103), .lit (.int .u32 3248222580), .lit (.int .u32 3835390401), .lit (.int .u32 4022224774), .lit (.int .u32 264347078), .lit (.int .u32 604807628), .lit (.int .u32 770255983), .lit (.int .u32 1249150122), .lit (.int .u32 1555081692), .lit (.int .u32 1996064986), .lit (.int .u32 2554220882), .lit (.int .u32 2821834349), .lit (.int .u32 2952996808), .lit (.int .u32 3210313671), .lit (.int .u32 3336571891), .lit (.int .u32 3584528711), .lit (.int .u32 113926993), .lit (.int .u32 338241895), .lit (.int .u32 666307205), .lit (.int .u32 773529912), .lit (.int .u32 1294757372), .lit (.int .u32 1396182291), .lit (.int .u32 1695183700), .lit (.int .u32 1986661051), .lit (.int .u32 2177026350), .lit (.int .u32 2456956037), .lit (.int .u32 2730485921), .lit (.int .u32 2820302411), .lit (.int .u32 3259730800), .lit (.int .u32 3345764771), .lit (.int .u32 3516065817), .lit (.int .u32 3600352804), .lit (.int .u32 4094571909), .lit (.int .u32 275423344), .lit (.int .u32 430227734), .lit (.int .u32 506948616), .lit (.int .u32 659060556), .lit (.int .u32 883997877), .lit (.int .u32 958139571), .lit (.int .u32 1322822218), .lit (.int .u32 1537002063), .lit (.int .u32 1747873779), .lit (.int .u32 1955562222), .lit (.int .u32 2024104815), .lit (.int .u32 2227730452), .lit (.int .u32 2361852424), .lit (.int .u32 2428436474), .lit (.int .u32 2756734187), .lit (.int .u32 3204031479), .lit (.int .u32 3329325298)]

/-- 'codexlaw05.LeafCodes': WHATEVER THE INPUT: true; the input reads as it did. -/
def leafCodesSpec : ChangeSpec := { name := "leafCodes", fn := fun _ => fun
  | [d1, d2, d3] => { results := [.lit (.bool true)], args := [d1, d2, d3] }
  | _ => none }
def leafCodesRow : OpenClaim := { program := "ythngaegfppbdmaadoor", sum := "69dcc93719c2327f20f67981c59aafd882fa9df32f5846034413688b0ff7ef52", func := "codex/codexlaw05.LeafCodes", spec := "leafCodes", inPlace := ["internal/bytealg.Compare"], unfollowed := true, recurses := true, named := ["codex/sha.first", "codex/sha.roots"], apart := false, laid := [("codex/sha.first", laid_codex_sha_first), ("codex/sha.roots", laid_codex_sha_roots)] }
def LeafCodesSaid : Prop := leafCodesRow.holds Tryd.pinned (OpenSpec.ofChange leafCodesSpec)

/-- ITS FALSE NEIGHBOUR: 'it returns false'. Refute it at one input. -/
def leafCodesWrong : ChangeSpec := { name := "leafCodes", fn := fun _ => fun
  | [d1, d2, d3] => { results := [.lit (.bool false)], args := [d1, d2, d3] }
  | _ => none }
def LeafCodesWrongFalsely : Prop := leafCodesRow.holds Tryd.pinned (OpenSpec.ofChange leafCodesWrong)

/-- 'codexlaw05.LeafBack': WHATEVER THE INPUT: true; the input reads as it did. -/
def leafBackSpec : ChangeSpec := { name := "leafBack", fn := fun _ => fun
  | [d1, d2, d3] => { results := [.lit (.bool true)], args := [d1, d2, d3] }
  | _ => none }
def leafBackRow : OpenClaim := { program := "ythngaegfppbdmaadoor", sum := "69dcc93719c2327f20f67981c59aafd882fa9df32f5846034413688b0ff7ef52", func := "codex/codexlaw05.LeafBack", spec := "leafBack", inPlace := ["internal/bytealg.Compare"], unfollowed := true, recurses := true, named := ["codex/sha.first", "codex/sha.roots"], apart := false, laid := [("codex/sha.first", laid_codex_sha_first), ("codex/sha.roots", laid_codex_sha_roots)] }
def LeafBackSaid : Prop := leafBackRow.holds Tryd.pinned (OpenSpec.ofChange leafBackSpec)

/-- ITS FALSE NEIGHBOUR: 'it returns false'. Refute it at one input. -/
def leafBackWrong : ChangeSpec := { name := "leafBack", fn := fun _ => fun
  | [d1, d2, d3] => { results := [.lit (.bool false)], args := [d1, d2, d3] }
  | _ => none }
def LeafBackWrongFalsely : Prop := leafBackRow.holds Tryd.pinned (OpenSpec.ofChange leafBackWrong)

/-- 'codexlaw05.LeafPlaces': WHATEVER THE INPUT: true; the input reads as it did. -/
def leafPlacesSpec : ChangeSpec := { name := "leafPlaces", fn := fun _ => fun
  | [d1, d2] => { results := [.lit (.bool true)], args := [d1, d2] }
  | _ => none }
def leafPlacesRow : OpenClaim := { program := "ythngaegfppbdmaadoor", sum := "69dcc93719c2327f20f67981c59aafd882fa9df32f5846034413688b0ff7ef52", func := "codex/codexlaw05.LeafPlaces", spec := "leafPlaces", inPlace := ["internal/bytealg.Compare"], unfollowed := true, recurses := true, named := ["codex/sha.first", "codex/sha.roots"], apart := false, laid := [("codex/sha.first", laid_codex_sha_first), ("codex/sha.roots", laid_codex_sha_roots)] }
def LeafPlacesSaid : Prop := leafPlacesRow.holds Tryd.pinned (OpenSpec.ofChange leafPlacesSpec)

/-- ITS FALSE NEIGHBOUR: 'it returns false'. Refute it at one input. -/
def leafPlacesWrong : ChangeSpec := { name := "leafPlaces", fn := fun _ => fun
  | [d1, d2] => { results := [.lit (.bool false)], args := [d1, d2] }
  | _ => none }
def LeafPlacesWrongFalsely : Prop := leafPlacesRow.holds Tryd.pinned (OpenSpec.ofChange leafPlacesWrong)

/-- 'codexlaw05.LeafTurns': WHATEVER THE INPUT: true; the input reads as it did. -/
def leafTurnsSpec : ChangeSpec := { name := "leafTurns", fn := fun _ => fun
  | [d1, d2, d3] => { results := [.lit (.bool true)], args := [d1, d2, d3] }
  | _ => none }
def leafTurnsRow : OpenClaim := { program := "ythngaegfppbdmaadoor", sum := "69dcc93719c2327f20f67981c59aafd882fa9df32f5846034413688b0ff7ef52", func := "codex/codexlaw05.LeafTurns", spec := "leafTurns", inPlace := ["internal/bytealg.Compare"], unfollowed := true, recurses := true, named := ["codex/sha.first", "codex/sha.roots"], apart := false, laid := [("codex/sha.first", laid_codex_sha_first), ("codex/sha.roots", laid_codex_sha_roots)] }
def LeafTurnsSaid : Prop := leafTurnsRow.holds Tryd.pinned (OpenSpec.ofChange leafTurnsSpec)

/-- ITS FALSE NEIGHBOUR: 'it returns false'. Refute it at one input. -/
def leafTurnsWrong : ChangeSpec := { name := "leafTurns", fn := fun _ => fun
  | [d1, d2, d3] => { results := [.lit (.bool false)], args := [d1, d2, d3] }
  | _ => none }
def LeafTurnsWrongFalsely : Prop := leafTurnsRow.holds Tryd.pinned (OpenSpec.ofChange leafTurnsWrong)

/-- 'codexlaw05.LeafOrder': WHATEVER THE INPUT: true; the input reads as it did. -/
def leafOrderSpec : ChangeSpec := { name := "leafOrder", fn := fun _ => fun
  | [d] => { results := [.lit (.bool true)], args := [d] }
  | _ => none }
def leafOrderRow : OpenClaim := { program := "ythngaegfppbdmaadoor", sum := "69dcc93719c2327f20f67981c59aafd882fa9df32f5846034413688b0ff7ef52", func := "codex/codexlaw05.LeafOrder", spec := "leafOrder", inPlace := ["internal/bytealg.Compare"], unfollowed := true, recurses := true, named := ["codex/sha.first", "codex/sha.roots"], apart := false, laid := [("codex/sha.first", laid_codex_sha_first), ("codex/sha.roots", laid_codex_sha_roots)] }
def LeafOrderSaid : Prop := leafOrderRow.holds Tryd.pinned (OpenSpec.ofChange leafOrderSpec)

/-- ITS FALSE NEIGHBOUR: 'it returns false'. Refute it at one input. -/
def leafOrderWrong : ChangeSpec := { name := "leafOrder", fn := fun _ => fun
  | [d] => { results := [.lit (.bool false)], args := [d] }
  | _ => none }
def LeafOrderWrongFalsely : Prop := leafOrderRow.holds Tryd.pinned (OpenSpec.ofChange leafOrderWrong)

/-- 'codexlaw06.IndexTells': WHATEVER THE INPUT: true; the input reads as it did. -/
def indexTellsSpec : ChangeSpec := { name := "indexTells", fn := fun _ => fun
  | [d1, d2, d3] => { results := [.lit (.bool true)], args := [d1, d2, d3] }
  | _ => none }
def indexTellsRow : OpenClaim := { program := "ythngaegfppbdmaadoor", sum := "69dcc93719c2327f20f67981c59aafd882fa9df32f5846034413688b0ff7ef52", func := "codex/codexlaw06.IndexTells", spec := "indexTells", inPlace := ["internal/bytealg.Compare"], unfollowed := true, recurses := true, named := ["codex/sha.first", "codex/sha.roots"], apart := false, laid := [("codex/sha.first", laid_codex_sha_first), ("codex/sha.roots", laid_codex_sha_roots)] }
def IndexTellsSaid : Prop := indexTellsRow.holds Tryd.pinned (OpenSpec.ofChange indexTellsSpec)

/-- ITS FALSE NEIGHBOUR: 'it returns false'. Refute it at one input. -/
def indexTellsWrong : ChangeSpec := { name := "indexTells", fn := fun _ => fun
  | [d1, d2, d3] => { results := [.lit (.bool false)], args := [d1, d2, d3] }
  | _ => none }
def IndexTellsWrongFalsely : Prop := indexTellsRow.holds Tryd.pinned (OpenSpec.ofChange indexTellsWrong)

/-- 'codexlaw06.IndexBack': WHATEVER THE INPUT: true; the input reads as it did. -/
def indexBackSpec : ChangeSpec := { name := "indexBack", fn := fun _ => fun
  | [d1, d2] => { results := [.lit (.bool true)], args := [d1, d2] }
  | _ => none }
def indexBackRow : OpenClaim := { program := "ythngaegfppbdmaadoor", sum := "69dcc93719c2327f20f67981c59aafd882fa9df32f5846034413688b0ff7ef52", func := "codex/codexlaw06.IndexBack", spec := "indexBack", inPlace := ["internal/bytealg.Compare"], unfollowed := true, recurses := true, named := ["codex/sha.first", "codex/sha.roots"], apart := false, laid := [("codex/sha.first", laid_codex_sha_first), ("codex/sha.roots", laid_codex_sha_roots)] }
def IndexBackSaid : Prop := indexBackRow.holds Tryd.pinned (OpenSpec.ofChange indexBackSpec)

/-- ITS FALSE NEIGHBOUR: 'it returns false'. Refute it at one input. -/
def indexBackWrong : ChangeSpec := { name := "indexBack", fn := fun _ => fun
  | [d1, d2] => { results := [.lit (.bool false)], args := [d1, d2] }
  | _ => none }
def IndexBackWrongFalsely : Prop := indexBackRow.holds Tryd.pinned (OpenSpec.ofChange indexBackWrong)

/-- 'codexlaw06.IndexKeeps': WHATEVER THE INPUT: true; the input reads as it did. -/
def indexKeepsSpec : ChangeSpec := { name := "indexKeeps", fn := fun _ => fun
  | [d1, d2] => { results := [.lit (.bool true)], args := [d1, d2] }
  | _ => none }
def indexKeepsRow : OpenClaim := { program := "ythngaegfppbdmaadoor", sum := "69dcc93719c2327f20f67981c59aafd882fa9df32f5846034413688b0ff7ef52", func := "codex/codexlaw06.IndexKeeps", spec := "indexKeeps", inPlace := ["internal/bytealg.Compare"], unfollowed := true, recurses := true, named := ["codex/sha.first", "codex/sha.roots"], apart := false, laid := [("codex/sha.first", laid_codex_sha_first), ("codex/sha.roots", laid_codex_sha_roots)] }
def IndexKeepsSaid : Prop := indexKeepsRow.holds Tryd.pinned (OpenSpec.ofChange indexKeepsSpec)

/-- ITS FALSE NEIGHBOUR: 'it returns false'. Refute it at one input. -/
def indexKeepsWrong : ChangeSpec := { name := "indexKeeps", fn := fun _ => fun
  | [d1, d2] => { results := [.lit (.bool false)], args := [d1, d2] }
  | _ => none }
def IndexKeepsWrongFalsely : Prop := indexKeepsRow.holds Tryd.pinned (OpenSpec.ofChange indexKeepsWrong)

/-- 'codexlaw06.IndexOrder': WHATEVER THE INPUT: true; the input reads as it did. -/
def indexOrderSpec : ChangeSpec := { name := "indexOrder", fn := fun _ => fun
  | [d1, d2] => { results := [.lit (.bool true)], args := [d1, d2] }
  | _ => none }
def indexOrderRow : OpenClaim := { program := "ythngaegfppbdmaadoor", sum := "69dcc93719c2327f20f67981c59aafd882fa9df32f5846034413688b0ff7ef52", func := "codex/codexlaw06.IndexOrder", spec := "indexOrder", inPlace := ["internal/bytealg.Compare"], unfollowed := true, recurses := true, named := ["codex/sha.first", "codex/sha.roots"], apart := false, laid := [("codex/sha.first", laid_codex_sha_first), ("codex/sha.roots", laid_codex_sha_roots)] }
def IndexOrderSaid : Prop := indexOrderRow.holds Tryd.pinned (OpenSpec.ofChange indexOrderSpec)

/-- ITS FALSE NEIGHBOUR: 'it returns false'. Refute it at one input. -/
def indexOrderWrong : ChangeSpec := { name := "indexOrder", fn := fun _ => fun
  | [d1, d2] => { results := [.lit (.bool false)], args := [d1, d2] }
  | _ => none }
def IndexOrderWrongFalsely : Prop := indexOrderRow.holds Tryd.pinned (OpenSpec.ofChange indexOrderWrong)

/-- 'codexlaw06.IndexSizes': WHATEVER THE INPUT: true; the input reads as it did. -/
def indexSizesSpec : ChangeSpec := { name := "indexSizes", fn := fun _ => fun
  | [d] => { results := [.lit (.bool true)], args := [d] }
  | _ => none }
def indexSizesRow : OpenClaim := { program := "ythngaegfppbdmaadoor", sum := "69dcc93719c2327f20f67981c59aafd882fa9df32f5846034413688b0ff7ef52", func := "codex/codexlaw06.IndexSizes", spec := "indexSizes", inPlace := ["internal/bytealg.Compare"], unfollowed := true, recurses := true, named := ["codex/sha.first", "codex/sha.roots"], apart := false, laid := [("codex/sha.first", laid_codex_sha_first), ("codex/sha.roots", laid_codex_sha_roots)] }
def IndexSizesSaid : Prop := indexSizesRow.holds Tryd.pinned (OpenSpec.ofChange indexSizesSpec)

/-- ITS FALSE NEIGHBOUR: 'it returns false'. Refute it at one input. -/
def indexSizesWrong : ChangeSpec := { name := "indexSizes", fn := fun _ => fun
  | [d] => { results := [.lit (.bool false)], args := [d] }
  | _ => none }
def IndexSizesWrongFalsely : Prop := indexSizesRow.holds Tryd.pinned (OpenSpec.ofChange indexSizesWrong)

/-- 'codexlaw06.IndexApart': WHATEVER THE INPUT: true; the input reads as it did. -/
def indexApartSpec : ChangeSpec := { name := "indexApart", fn := fun _ => fun
  | [d1, d2] => { results := [.lit (.bool true)], args := [d1, d2] }
  | _ => none }
def indexApartRow : OpenClaim := { program := "ythngaegfppbdmaadoor", sum := "69dcc93719c2327f20f67981c59aafd882fa9df32f5846034413688b0ff7ef52", func := "codex/codexlaw06.IndexApart", spec := "indexApart", inPlace := ["internal/bytealg.Compare"], unfollowed := true, recurses := true, named := ["codex/sha.first", "codex/sha.roots"], apart := false, laid := [("codex/sha.first", laid_codex_sha_first), ("codex/sha.roots", laid_codex_sha_roots)] }
def IndexApartSaid : Prop := indexApartRow.holds Tryd.pinned (OpenSpec.ofChange indexApartSpec)

/-- ITS FALSE NEIGHBOUR: 'it returns false'. Refute it at one input. -/
def indexApartWrong : ChangeSpec := { name := "indexApart", fn := fun _ => fun
  | [d1, d2] => { results := [.lit (.bool false)], args := [d1, d2] }
  | _ => none }
def IndexApartWrongFalsely : Prop := indexApartRow.holds Tryd.pinned (OpenSpec.ofChange indexApartWrong)

/- THE SECOND FORM. 'bulk': how many values and letters a reading holds, each counted each time it is reached (what is shared counts as often as it is met; a slice's spare places count too). A statement '..UptoSaid' is the law's where the arguments, and the package variables that the reading takes, are together of bulk at most 1048576: NARROWER than '..Said'. Prove '..Said' where nothing that the law and all that it calls make is longer than what came in: it says more and counts as full. Else prove '..UptoSaid'. A law counts once. -/
mutual
def uptoBulk {H : Type} : DataW H → Nat
  | .lit (.string bytes) => bytes.length + 1
  | .lit _ => 1
  | .nil => 1
  | .ptr d => uptoBulk d + 1
  | .slice elems spare => uptoBulkAll elems + uptoBulkAll spare + 1
  | .agg parts => uptoBulkAll parts + 1
  | .iface _ d => uptoBulk d + 1
  | .map entries => uptoBulkEntries entries + 1
  | .held _ => 1
def uptoBulkAll {H : Type} : List (DataW H) → Nat
  | [] => 0
  | d :: r => uptoBulk d + uptoBulkAll r
def uptoBulkEntries {H : Type} : List (Lit × DataW H) → Nat
  | [] => 0
  | x :: r => uptoBulkEntry x + uptoBulkEntries r
def uptoBulkEntry {H : Type} : Lit × DataW H → Nat
  | (.string bytes, d) => bytes.length + uptoBulk d + 1
  | (_, d) => uptoBulk d + 1
 end
def uptoSmall : (H : Type) → List (DataW H) → Bool := fun _ ds => decide (uptoBulkAll ds ≤ 1048576)
def OpenSpec.upto (s : _root_.Go.ChangeSpec) : _root_.Go.OpenSpec := { _root_.Go.OpenSpec.ofChange s with cond := some uptoSmall }

/-- 'codexlaw05.LeafCodes', WHERE WHAT IT READS IS OF BULK AT MOST 1048576: true; the input reads as it did. -/
def leafCodesUptoRow : OpenClaim := { program := "ythngaegfppbdmaadoor", sum := "69dcc93719c2327f20f67981c59aafd882fa9df32f5846034413688b0ff7ef52", func := "codex/codexlaw05.LeafCodes", spec := "leafCodes", inPlace := ["internal/bytealg.Compare"], unfollowed := true, recurses := true, named := ["codex/sha.first", "codex/sha.roots"], apart := false, laid := [("codex/sha.first", laid_codex_sha_first), ("codex/sha.roots", laid_codex_sha_roots)], narrowed := true }
def LeafCodesUptoSaid : Prop := leafCodesUptoRow.holds Tryd.pinned (OpenSpec.upto leafCodesSpec)

/-- 'codexlaw05.LeafBack', WHERE WHAT IT READS IS OF BULK AT MOST 1048576: true; the input reads as it did. -/
def leafBackUptoRow : OpenClaim := { program := "ythngaegfppbdmaadoor", sum := "69dcc93719c2327f20f67981c59aafd882fa9df32f5846034413688b0ff7ef52", func := "codex/codexlaw05.LeafBack", spec := "leafBack", inPlace := ["internal/bytealg.Compare"], unfollowed := true, recurses := true, named := ["codex/sha.first", "codex/sha.roots"], apart := false, laid := [("codex/sha.first", laid_codex_sha_first), ("codex/sha.roots", laid_codex_sha_roots)], narrowed := true }
def LeafBackUptoSaid : Prop := leafBackUptoRow.holds Tryd.pinned (OpenSpec.upto leafBackSpec)

/-- 'codexlaw05.LeafPlaces', WHERE WHAT IT READS IS OF BULK AT MOST 1048576: true; the input reads as it did. -/
def leafPlacesUptoRow : OpenClaim := { program := "ythngaegfppbdmaadoor", sum := "69dcc93719c2327f20f67981c59aafd882fa9df32f5846034413688b0ff7ef52", func := "codex/codexlaw05.LeafPlaces", spec := "leafPlaces", inPlace := ["internal/bytealg.Compare"], unfollowed := true, recurses := true, named := ["codex/sha.first", "codex/sha.roots"], apart := false, laid := [("codex/sha.first", laid_codex_sha_first), ("codex/sha.roots", laid_codex_sha_roots)], narrowed := true }
def LeafPlacesUptoSaid : Prop := leafPlacesUptoRow.holds Tryd.pinned (OpenSpec.upto leafPlacesSpec)

/-- 'codexlaw05.LeafTurns', WHERE WHAT IT READS IS OF BULK AT MOST 1048576: true; the input reads as it did. -/
def leafTurnsUptoRow : OpenClaim := { program := "ythngaegfppbdmaadoor", sum := "69dcc93719c2327f20f67981c59aafd882fa9df32f5846034413688b0ff7ef52", func := "codex/codexlaw05.LeafTurns", spec := "leafTurns", inPlace := ["internal/bytealg.Compare"], unfollowed := true, recurses := true, named := ["codex/sha.first", "codex/sha.roots"], apart := false, laid := [("codex/sha.first", laid_codex_sha_first), ("codex/sha.roots", laid_codex_sha_roots)], narrowed := true }
def LeafTurnsUptoSaid : Prop := leafTurnsUptoRow.holds Tryd.pinned (OpenSpec.upto leafTurnsSpec)

/-- 'codexlaw05.LeafOrder', WHERE WHAT IT READS IS OF BULK AT MOST 1048576: true; the input reads as it did. -/
def leafOrderUptoRow : OpenClaim := { program := "ythngaegfppbdmaadoor", sum := "69dcc93719c2327f20f67981c59aafd882fa9df32f5846034413688b0ff7ef52", func := "codex/codexlaw05.LeafOrder", spec := "leafOrder", inPlace := ["internal/bytealg.Compare"], unfollowed := true, recurses := true, named := ["codex/sha.first", "codex/sha.roots"], apart := false, laid := [("codex/sha.first", laid_codex_sha_first), ("codex/sha.roots", laid_codex_sha_roots)], narrowed := true }
def LeafOrderUptoSaid : Prop := leafOrderUptoRow.holds Tryd.pinned (OpenSpec.upto leafOrderSpec)

/-- 'codexlaw06.IndexTells', WHERE WHAT IT READS IS OF BULK AT MOST 1048576: true; the input reads as it did. -/
def indexTellsUptoRow : OpenClaim := { program := "ythngaegfppbdmaadoor", sum := "69dcc93719c2327f20f67981c59aafd882fa9df32f5846034413688b0ff7ef52", func := "codex/codexlaw06.IndexTells", spec := "indexTells", inPlace := ["internal/bytealg.Compare"], unfollowed := true, recurses := true, named := ["codex/sha.first", "codex/sha.roots"], apart := false, laid := [("codex/sha.first", laid_codex_sha_first), ("codex/sha.roots", laid_codex_sha_roots)], narrowed := true }
def IndexTellsUptoSaid : Prop := indexTellsUptoRow.holds Tryd.pinned (OpenSpec.upto indexTellsSpec)

/-- 'codexlaw06.IndexBack', WHERE WHAT IT READS IS OF BULK AT MOST 1048576: true; the input reads as it did. -/
def indexBackUptoRow : OpenClaim := { program := "ythngaegfppbdmaadoor", sum := "69dcc93719c2327f20f67981c59aafd882fa9df32f5846034413688b0ff7ef52", func := "codex/codexlaw06.IndexBack", spec := "indexBack", inPlace := ["internal/bytealg.Compare"], unfollowed := true, recurses := true, named := ["codex/sha.first", "codex/sha.roots"], apart := false, laid := [("codex/sha.first", laid_codex_sha_first), ("codex/sha.roots", laid_codex_sha_roots)], narrowed := true }
def IndexBackUptoSaid : Prop := indexBackUptoRow.holds Tryd.pinned (OpenSpec.upto indexBackSpec)

/-- 'codexlaw06.IndexKeeps', WHERE WHAT IT READS IS OF BULK AT MOST 1048576: true; the input reads as it did. -/
def indexKeepsUptoRow : OpenClaim := { program := "ythngaegfppbdmaadoor", sum := "69dcc93719c2327f20f67981c59aafd882fa9df32f5846034413688b0ff7ef52", func := "codex/codexlaw06.IndexKeeps", spec := "indexKeeps", inPlace := ["internal/bytealg.Compare"], unfollowed := true, recurses := true, named := ["codex/sha.first", "codex/sha.roots"], apart := false, laid := [("codex/sha.first", laid_codex_sha_first), ("codex/sha.roots", laid_codex_sha_roots)], narrowed := true }
def IndexKeepsUptoSaid : Prop := indexKeepsUptoRow.holds Tryd.pinned (OpenSpec.upto indexKeepsSpec)

/-- 'codexlaw06.IndexOrder', WHERE WHAT IT READS IS OF BULK AT MOST 1048576: true; the input reads as it did. -/
def indexOrderUptoRow : OpenClaim := { program := "ythngaegfppbdmaadoor", sum := "69dcc93719c2327f20f67981c59aafd882fa9df32f5846034413688b0ff7ef52", func := "codex/codexlaw06.IndexOrder", spec := "indexOrder", inPlace := ["internal/bytealg.Compare"], unfollowed := true, recurses := true, named := ["codex/sha.first", "codex/sha.roots"], apart := false, laid := [("codex/sha.first", laid_codex_sha_first), ("codex/sha.roots", laid_codex_sha_roots)], narrowed := true }
def IndexOrderUptoSaid : Prop := indexOrderUptoRow.holds Tryd.pinned (OpenSpec.upto indexOrderSpec)

/-- 'codexlaw06.IndexSizes', WHERE WHAT IT READS IS OF BULK AT MOST 1048576: true; the input reads as it did. -/
def indexSizesUptoRow : OpenClaim := { program := "ythngaegfppbdmaadoor", sum := "69dcc93719c2327f20f67981c59aafd882fa9df32f5846034413688b0ff7ef52", func := "codex/codexlaw06.IndexSizes", spec := "indexSizes", inPlace := ["internal/bytealg.Compare"], unfollowed := true, recurses := true, named := ["codex/sha.first", "codex/sha.roots"], apart := false, laid := [("codex/sha.first", laid_codex_sha_first), ("codex/sha.roots", laid_codex_sha_roots)], narrowed := true }
def IndexSizesUptoSaid : Prop := indexSizesUptoRow.holds Tryd.pinned (OpenSpec.upto indexSizesSpec)

/-- 'codexlaw06.IndexApart', WHERE WHAT IT READS IS OF BULK AT MOST 1048576: true; the input reads as it did. -/
def indexApartUptoRow : OpenClaim := { program := "ythngaegfppbdmaadoor", sum := "69dcc93719c2327f20f67981c59aafd882fa9df32f5846034413688b0ff7ef52", func := "codex/codexlaw06.IndexApart", spec := "indexApart", inPlace := ["internal/bytealg.Compare"], unfollowed := true, recurses := true, named := ["codex/sha.first", "codex/sha.roots"], apart := false, laid := [("codex/sha.first", laid_codex_sha_first), ("codex/sha.roots", laid_codex_sha_roots)], narrowed := true }
def IndexApartUptoSaid : Prop := indexApartUptoRow.holds Tryd.pinned (OpenSpec.upto indexApartSpec)

end Rows
end Go.Proofs.YthngaegfppbdmaaDoor
