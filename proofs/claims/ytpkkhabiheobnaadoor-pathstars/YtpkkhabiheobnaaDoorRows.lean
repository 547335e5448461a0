/-
  NARROWER THAN 'FOR EVERY INPUT', by the rows' own cells (each row's printed sentence says how): Names: laid · PathCleans: laid · PathStays: laid · PathMatches: laid · PathStars: laid.
  DERIVED. THE GIVEN ROWS OF THIS SEAT. 5 by the template 'for every input the law returns true; each argument reads behind the call as it read before'; 0 by the template 'total and deterministic' (their statements: YtpkkhabiheobnaaDoorTotals.lean).
  GIVEN WITH THE SEED: the statements are not yours to turn. If you find one false, say at which input.
  Laid BY PROGRAM, IN A SANDBOX (cutbox-rows.mjs): the forced cells as the released guide's own fill.sh prints them over the translation ae9cf0dd39ca291f… (all of the seat's roots in one cut). By AI agents, Wed Nov 11 2026. No macro, syntax, notation, axiom, sorry.
-/
import Derived.Test.YtpkkhabiheobnaaDoorChecked
import GoSem.PinnedTables
import GoSem.Claim
import GoSem.ClaimJoined
import GoSem.ClaimMapViews
import Derived.JoinedTies
import Derived.KernelRfl
namespace Go.Proofs.YtpkkhabiheobnaaDoor
/- THE CELL 'sum', in the pinned program and in every row, IS THE sha256 OF THE DUMP (.gsa) THAT YtpkkhabiheobnaaDoorProg.lean LOADS. Nothing in Lean hashes anything: it is a label: what it is worth is what the hold of that sum in a sandbox is worth. -/
noncomputable def Tryd.pinned : Pinned := { name := "ytpkkhabiheobnaadoor", sum := "ae9cf0dd39ca291f51a25a02df7ab7487e2f8e6770ea0d5a0cee1dd6bbed385f", checked := Tryd.checked }
namespace Rows
def none {H : Type} : Left H := { results := [], args := [] }

/- WHAT THE LISTED PACKAGE-LEVEL VARIABLES READ AS WHEN THE CALL BEGINS. Each datum BY PROGRAM (the guide's laid-datum.mjs) off the statement by which the dump's own 'gosem.cut.vars' lays the variable. In a bare row this is a premise. The card (YtpkkhabiheobnaaDoorCards.lean) ties it to the program's text. -/
def laid_errors_errorType {H : Type} : DataW H := .iface "internal/reflectlite.rtype" (.agg [.ptr (.lit (.string [101, 114, 114, 111, 114]))])
def laid_kilnfield_api_ErrText {H : Type} : DataW H := .iface "*errors.errorString" (.ptr (.agg [.lit (.string [107, 105, 108, 110, 102, 105, 101, 108, 100, 58, 32, 116, 101, 120, 116])]))
def laid_kilnfield_api_ErrBound {H : Type} : DataW H := .iface "*errors.errorString" (.ptr (.agg [.lit (.string [107, 105, 108, 110, 102, 105, 101, 108, 100, 58, 32, 98, 111, 117, 110, 100])]))
def laid_kilnfield_api_ErrShape {H : Type} : DataW H := .iface "*errors.errorString" (.ptr (.agg [.lit (.string [107, 105, 108, 110, 102, 105, 101, 108, 100, 58, 32, 115, 104, 97, 112, 101])]))
def laid_kilnfield_api_ErrName {H : Type} : DataW H := .iface "*errors.errorString" (.ptr (.agg [.lit (.string [107, 105, 108, 110, 102, 105, 101, 108, 100, 58, 32, 110, 97, 109, 101])]))
def laid_kilnfield_api_ErrKind {H : Type} : DataW H := .iface "*errors.errorString" (.ptr (.agg [.lit (.string [107, 105, 108, 110, 102, 105, 101, 108, 100, 58, 32, 107, 105, 110, 100])]))
def laid_kilnfield_api_ErrNone {H : Type} : DataW H := .iface "*errors.errorString" (.ptr (.agg [.lit (.string [107, 105, 108, 110, 102, 105, 101, 108, 100, 58, 32, 110, 111, 110, 101])]))
def laid_kilnfield_api_ErrExist {H : Type} : DataW H := .iface "*errors.errorString" (.ptr (.agg [.lit (.string [107, 105, 108, 110, 102, 105, 101, 108, 100, 58, 32, 101, 120, 105, 115, 116])]))
def laid_kilnfield_api_ErrFull {H : Type} : DataW H := .iface "*errors.errorString" (.ptr (.agg [.lit (.string [107, 105, 108, 110, 102, 105, 101, 108, 100, 58, 32, 102, 117, 108, 108])]))
def laid_kilnfield_api_ErrCycle {H : Type} : DataW H := .iface "*errors.errorString" (.ptr (.agg [.lit (.string [107, 105, 108, 110, 102, 105, 101, 108, 100, 58, 32, 99, 121, 99, 108, 101])]))
def laid_kilnfield_api_ErrLong {H : Type} : DataW H := .iface "*errors.errorString" (.ptr (.agg [.lit (.string [107, 105, 108, 110, 102, 105, 101, 108, 100, 58, 32, 108, 111, 110, 103])]))
def laid_kilnfield_api_ErrTurn {H : Type} : DataW H := .iface "*errors.errorString" (.ptr (.agg [.lit (.string [107, 105, 108, 110, 102, 105, 101, 108, 100, 58, 32, 116, 117, 114, 110])]))
def laid_kilnfield_api_ErrDone {H : Type} : DataW H := .iface "*errors.errorString" (.ptr (.agg [.lit (.string [107, 105, 108, 110, 102, 105, 101, 108, 100, 58, 32, 100, 111, 110, 101])]))
def laid_unicode_utf8_acceptRanges {H : Type} : DataW H := .agg [.agg [.lit (.int .u8 128), .lit (.int .u8 191)], .agg [.lit (.int .u8 160), .lit (.int .u8 191)], .agg [.lit (.int .u8 128), .lit (.int .u8 159)], .agg [.lit (.int .u8 144), .lit (.int .u8 191)], .agg [.lit (.int .u8 128), .lit (.int .u8 143)], .agg [.lit (.int .u8 0), .lit (.int .u8 0)], .agg [.lit (.int .u8 0), .lit (.int .u8 0)], .agg [.lit (.int .u8 0), .lit (.int .u8 0)], .agg [.lit (.int .u8 0), .lit (.int .u8 0)], .agg [.lit (.int .u8 0), .lit (.int .u8 0)], .agg [.lit (.int .u8 0), .lit (.int .u8 0)], .agg [.lit (.int .u8 0), .lit (.int .u8 0)], .agg [.lit (.int .u8 0), .lit (.int .u8 0)], .agg [.lit (.int .u8 0), .lit (.int .u8 0)], .agg [.lit (.int .u8 0), .lit (.int .u8 0)], .agg [.lit (.int .u8 0), .lit (.int .u8 0)]]
/-- One of Go's own tables, pinned by name: the form's constant. -/
def laid_unicode_utf8_first : DataW Unit := Go.Pinned.utf8First

/-- 'kilnfieldlaw1.Names': WHATEVER THE INPUT: true; the input reads as it did. -/
def namesSpec : ChangeSpec := { name := "names", fn := fun _ => fun
  | [] => { results := [.lit (.bool true)], args := [] }
  | _ => none }
def namesRow : OpenClaim := { program := "ytpkkhabiheobnaadoor", sum := "ae9cf0dd39ca291f51a25a02df7ab7487e2f8e6770ea0d5a0cee1dd6bbed385f", func := "kilnfield/kilnfieldlaw1.Names", spec := "names", inPlace := ["internal/reflectlite.ValueOf", "(internal/reflectlite.Value).Type", "(internal/reflectlite.Value).IsNil", "internal/reflectlite.TypeOf", "(internal/reflectlite.Value).Elem", "(internal/reflectlite.Value).Set"], unfollowed := true, recurses := true, named := ["kilnfield/api.ErrText", "kilnfield/api.ErrBound", "kilnfield/api.ErrShape", "kilnfield/api.ErrName", "kilnfield/api.ErrKind", "kilnfield/api.ErrNone", "kilnfield/api.ErrExist", "kilnfield/api.ErrFull", "kilnfield/api.ErrCycle", "kilnfield/api.ErrLong", "kilnfield/api.ErrTurn", "kilnfield/api.ErrDone", "errors.errorType"], apart := false, laid := [("errors.errorType", laid_errors_errorType), ("kilnfield/api.ErrText", laid_kilnfield_api_ErrText), ("kilnfield/api.ErrBound", laid_kilnfield_api_ErrBound), ("kilnfield/api.ErrShape", laid_kilnfield_api_ErrShape), ("kilnfield/api.ErrName", laid_kilnfield_api_ErrName), ("kilnfield/api.ErrKind", laid_kilnfield_api_ErrKind), ("kilnfield/api.ErrNone", laid_kilnfield_api_ErrNone), ("kilnfield/api.ErrExist", laid_kilnfield_api_ErrExist), ("kilnfield/api.ErrFull", laid_kilnfield_api_ErrFull), ("kilnfield/api.ErrCycle", laid_kilnfield_api_ErrCycle), ("kilnfield/api.ErrLong", laid_kilnfield_api_ErrLong), ("kilnfield/api.ErrTurn", laid_kilnfield_api_ErrTurn), ("kilnfield/api.ErrDone", laid_kilnfield_api_ErrDone)] }
def NamesSaid : Prop := namesRow.holds Tryd.pinned (OpenSpec.ofChange namesSpec)

/-- ITS FALSE NEIGHBOUR: 'it returns false'. Refute it at one input. -/
def namesWrong : ChangeSpec := { name := "names", fn := fun _ => fun
  | [] => { results := [.lit (.bool false)], args := [] }
  | _ => none }
def NamesWrongFalsely : Prop := namesRow.holds Tryd.pinned (OpenSpec.ofChange namesWrong)

/-- 'kilnfieldlaw1.PathCleans': WHATEVER THE INPUT: true; the input reads as it did. -/
def pathCleansSpec : ChangeSpec := { name := "pathCleans", fn := fun _ => fun
  | [d1, d2] => { results := [.lit (.bool true)], args := [d1, d2] }
  | _ => none }
def pathCleansRow : OpenClaim := { program := "ytpkkhabiheobnaadoor", sum := "ae9cf0dd39ca291f51a25a02df7ab7487e2f8e6770ea0d5a0cee1dd6bbed385f", func := "kilnfield/kilnfieldlaw1.PathCleans", spec := "pathCleans", inPlace := ["internal/bytealg.IndexByteString", "internal/bytealg.IndexString", "internal/abi.NoEscape", "internal/bytealg.MakeNoZero", "internal/reflectlite.ValueOf", "(internal/reflectlite.Value).Type", "(internal/reflectlite.Value).IsNil", "internal/reflectlite.TypeOf", "(internal/reflectlite.Value).Elem", "(internal/reflectlite.Value).Set"], unfollowed := true, recurses := true, named := ["kilnfield/api.ErrBound", "kilnfield/api.ErrShape", "kilnfield/api.ErrNone", "internal/bytealg.MaxLen", "kilnfield/api.ErrName", "kilnfield/api.ErrText", "kilnfield/api.ErrKind", "kilnfield/api.ErrExist", "kilnfield/api.ErrFull", "kilnfield/api.ErrCycle", "kilnfield/api.ErrLong", "kilnfield/api.ErrTurn", "kilnfield/api.ErrDone", "errors.errorType"], apart := false, laid := [("errors.errorType", laid_errors_errorType), ("kilnfield/api.ErrText", laid_kilnfield_api_ErrText), ("kilnfield/api.ErrBound", laid_kilnfield_api_ErrBound), ("kilnfield/api.ErrShape", laid_kilnfield_api_ErrShape), ("kilnfield/api.ErrName", laid_kilnfield_api_ErrName), ("kilnfield/api.ErrKind", laid_kilnfield_api_ErrKind), ("kilnfield/api.ErrNone", laid_kilnfield_api_ErrNone), ("kilnfield/api.ErrExist", laid_kilnfield_api_ErrExist), ("kilnfield/api.ErrFull", laid_kilnfield_api_ErrFull), ("kilnfield/api.ErrCycle", laid_kilnfield_api_ErrCycle), ("kilnfield/api.ErrLong", laid_kilnfield_api_ErrLong), ("kilnfield/api.ErrTurn", laid_kilnfield_api_ErrTurn), ("kilnfield/api.ErrDone", laid_kilnfield_api_ErrDone)] }
def PathCleansSaid : Prop := pathCleansRow.holds Tryd.pinned (OpenSpec.ofChange pathCleansSpec)

/-- ITS FALSE NEIGHBOUR: 'it returns false'. Refute it at one input. -/
def pathCleansWrong : ChangeSpec := { name := "pathCleans", fn := fun _ => fun
  | [d1, d2] => { results := [.lit (.bool false)], args := [d1, d2] }
  | _ => none }
def PathCleansWrongFalsely : Prop := pathCleansRow.holds Tryd.pinned (OpenSpec.ofChange pathCleansWrong)

/-- 'kilnfieldlaw1.PathStays': WHATEVER THE INPUT: true; the input reads as it did. -/
def pathStaysSpec : ChangeSpec := { name := "pathStays", fn := fun _ => fun
  | [d] => { results := [.lit (.bool true)], args := [d] }
  | _ => none }
def pathStaysRow : OpenClaim := { program := "ytpkkhabiheobnaadoor", sum := "ae9cf0dd39ca291f51a25a02df7ab7487e2f8e6770ea0d5a0cee1dd6bbed385f", func := "kilnfield/kilnfieldlaw1.PathStays", spec := "pathStays", inPlace := ["internal/bytealg.IndexByteString", "internal/bytealg.IndexString", "internal/abi.NoEscape", "internal/bytealg.MakeNoZero"], unfollowed := true, recurses := true, named := ["kilnfield/api.ErrBound", "kilnfield/api.ErrShape", "kilnfield/api.ErrNone", "internal/bytealg.MaxLen", "kilnfield/api.ErrName"], apart := false, laid := [("kilnfield/api.ErrBound", laid_kilnfield_api_ErrBound), ("kilnfield/api.ErrShape", laid_kilnfield_api_ErrShape), ("kilnfield/api.ErrName", laid_kilnfield_api_ErrName), ("kilnfield/api.ErrNone", laid_kilnfield_api_ErrNone)] }
def PathStaysSaid : Prop := pathStaysRow.holds Tryd.pinned (OpenSpec.ofChange pathStaysSpec)

/-- ITS FALSE NEIGHBOUR: 'it returns false'. Refute it at one input. -/
def pathStaysWrong : ChangeSpec := { name := "pathStays", fn := fun _ => fun
  | [d] => { results := [.lit (.bool false)], args := [d] }
  | _ => none }
def PathStaysWrongFalsely : Prop := pathStaysRow.holds Tryd.pinned (OpenSpec.ofChange pathStaysWrong)

/-- 'kilnfieldlaw1.PathMatches': WHATEVER THE INPUT: true; the input reads as it did. -/
def pathMatchesSpec : ChangeSpec := { name := "pathMatches", fn := fun _ => fun
  | [d1, d2] => { results := [.lit (.bool true)], args := [d1, d2] }
  | _ => none }
def pathMatchesRow : OpenClaim := { program := "ytpkkhabiheobnaadoor", sum := "ae9cf0dd39ca291f51a25a02df7ab7487e2f8e6770ea0d5a0cee1dd6bbed385f", func := "kilnfield/kilnfieldlaw1.PathMatches", spec := "pathMatches", inPlace := ["internal/bytealg.IndexByteString", "internal/bytealg.IndexString", "internal/abi.NoEscape", "internal/bytealg.MakeNoZero", "internal/bytealg.CountString", "internal/reflectlite.ValueOf", "(internal/reflectlite.Value).Type", "(internal/reflectlite.Value).IsNil", "internal/reflectlite.TypeOf", "(internal/reflectlite.Value).Elem", "(internal/reflectlite.Value).Set"], unfollowed := true, recurses := true, named := ["kilnfield/api.ErrBound", "kilnfield/api.ErrShape", "kilnfield/api.ErrNone", "internal/bytealg.MaxLen", "kilnfield/api.ErrName", "unicode/utf8.first", "unicode/utf8.acceptRanges", "kilnfield/api.ErrText", "kilnfield/api.ErrKind", "kilnfield/api.ErrExist", "kilnfield/api.ErrFull", "kilnfield/api.ErrCycle", "kilnfield/api.ErrLong", "kilnfield/api.ErrTurn", "kilnfield/api.ErrDone", "errors.errorType"], apart := false, laid := [("unicode/utf8.acceptRanges", laid_unicode_utf8_acceptRanges), ("errors.errorType", laid_errors_errorType), ("kilnfield/api.ErrText", laid_kilnfield_api_ErrText), ("kilnfield/api.ErrBound", laid_kilnfield_api_ErrBound), ("kilnfield/api.ErrShape", laid_kilnfield_api_ErrShape), ("kilnfield/api.ErrName", laid_kilnfield_api_ErrName), ("kilnfield/api.ErrKind", laid_kilnfield_api_ErrKind), ("kilnfield/api.ErrNone", laid_kilnfield_api_ErrNone), ("kilnfield/api.ErrExist", laid_kilnfield_api_ErrExist), ("kilnfield/api.ErrFull", laid_kilnfield_api_ErrFull), ("kilnfield/api.ErrCycle", laid_kilnfield_api_ErrCycle), ("kilnfield/api.ErrLong", laid_kilnfield_api_ErrLong), ("kilnfield/api.ErrTurn", laid_kilnfield_api_ErrTurn), ("kilnfield/api.ErrDone", laid_kilnfield_api_ErrDone), ("unicode/utf8.first", laid_unicode_utf8_first)] }
def PathMatchesSaid : Prop := pathMatchesRow.holds Tryd.pinned (OpenSpec.ofChange pathMatchesSpec)

/-- ITS FALSE NEIGHBOUR: 'it returns false'. Refute it at one input. -/
def pathMatchesWrong : ChangeSpec := { name := "pathMatches", fn := fun _ => fun
  | [d1, d2] => { results := [.lit (.bool false)], args := [d1, d2] }
  | _ => none }
def PathMatchesWrongFalsely : Prop := pathMatchesRow.holds Tryd.pinned (OpenSpec.ofChange pathMatchesWrong)

/-- 'kilnfieldlaw1.PathStars': WHATEVER THE INPUT: true; the input reads as it did. -/
def pathStarsSpec : ChangeSpec := { name := "pathStars", fn := fun _ => fun
  | [d] => { results := [.lit (.bool true)], args := [d] }
  | _ => none }
def pathStarsRow : OpenClaim := { program := "ytpkkhabiheobnaadoor", sum := "ae9cf0dd39ca291f51a25a02df7ab7487e2f8e6770ea0d5a0cee1dd6bbed385f", func := "kilnfield/kilnfieldlaw1.PathStars", spec := "pathStars", inPlace := ["internal/bytealg.IndexByteString", "internal/bytealg.IndexString", "internal/abi.NoEscape", "internal/bytealg.MakeNoZero", "internal/bytealg.CountString"], unfollowed := true, recurses := true, named := ["kilnfield/api.ErrBound", "kilnfield/api.ErrShape", "kilnfield/api.ErrNone", "internal/bytealg.MaxLen", "kilnfield/api.ErrName", "unicode/utf8.first", "unicode/utf8.acceptRanges"], apart := false, laid := [("unicode/utf8.acceptRanges", laid_unicode_utf8_acceptRanges), ("kilnfield/api.ErrBound", laid_kilnfield_api_ErrBound), ("kilnfield/api.ErrShape", laid_kilnfield_api_ErrShape), ("kilnfield/api.ErrName", laid_kilnfield_api_ErrName), ("kilnfield/api.ErrNone", laid_kilnfield_api_ErrNone), ("unicode/utf8.first", laid_unicode_utf8_first)] }
def PathStarsSaid : Prop := pathStarsRow.holds Tryd.pinned (OpenSpec.ofChange pathStarsSpec)

/-- ITS FALSE NEIGHBOUR: 'it returns false'. Refute it at one input. -/
def pathStarsWrong : ChangeSpec := { name := "pathStars", fn := fun _ => fun
  | [d] => { results := [.lit (.bool false)], args := [d] }
  | _ => none }
def PathStarsWrongFalsely : Prop := pathStarsRow.holds Tryd.pinned (OpenSpec.ofChange pathStarsWrong)

/- THE SECOND FORM. 'bulk': how many values and letters a reading holds, each counted each time it is reached (what is shared counts as often as it is met; a slice's spare places count too). A statement '..UptoSaid' is the law's where the arguments, and the package variables that the reading takes, are together of bulk at most 1048576: NARROWER than '..Said'. Prove '..Said' where nothing that the law and all that it calls make is longer than what came in: it says more and counts as full. Else prove '..UptoSaid'. A law counts once. -/
mutual
def uptoBulk {H : Type} : DataW H → Nat
  | .lit (.string bytes) => bytes.length + 1
  | .lit _ => 1
  | .nil => 1
  | .ptr d => uptoBulk d + 1
  | .slice elems spare => uptoBulkAll elems + uptoBulkAll spare + 1
  | .agg parts => uptoBulkAll parts + 1
  | .iface _ d => uptoBulk d + 1
  | .map entries => uptoBulkEntries entries + 1
  | .held _ => 1
def uptoBulkAll {H : Type} : List (DataW H) → Nat
  | [] => 0
  | d :: r => uptoBulk d + uptoBulkAll r
def uptoBulkEntries {H : Type} : List (Lit × DataW H) → Nat
  | [] => 0
  | x :: r => uptoBulkEntry x + uptoBulkEntries r
def uptoBulkEntry {H : Type} : Lit × DataW H → Nat
  | (.string bytes, d) => bytes.length + uptoBulk d + 1
  | (_, d) => uptoBulk d + 1
 end
def uptoSmall : (H : Type) → List (DataW H) → Bool := fun _ ds => decide (uptoBulkAll ds ≤ 1048576)
def OpenSpec.upto (s : _root_.Go.ChangeSpec) : _root_.Go.OpenSpec := { _root_.Go.OpenSpec.ofChange s with cond := some uptoSmall }

/-- 'kilnfieldlaw1.Names', WHERE WHAT IT READS IS OF BULK AT MOST 1048576: true; the input reads as it did. -/
def namesUptoRow : OpenClaim := { program := "ytpkkhabiheobnaadoor", sum := "ae9cf0dd39ca291f51a25a02df7ab7487e2f8e6770ea0d5a0cee1dd6bbed385f", func := "kilnfield/kilnfieldlaw1.Names", spec := "names", inPlace := ["internal/reflectlite.ValueOf", "(internal/reflectlite.Value).Type", "(internal/reflectlite.Value).IsNil", "internal/reflectlite.TypeOf", "(internal/reflectlite.Value).Elem", "(internal/reflectlite.Value).Set"], unfollowed := true, recurses := true, named := ["kilnfield/api.ErrText", "kilnfield/api.ErrBound", "kilnfield/api.ErrShape", "kilnfield/api.ErrName", "kilnfield/api.ErrKind", "kilnfield/api.ErrNone", "kilnfield/api.ErrExist", "kilnfield/api.ErrFull", "kilnfield/api.ErrCycle", "kilnfield/api.ErrLong", "kilnfield/api.ErrTurn", "kilnfield/api.ErrDone", "errors.errorType"], apart := false, laid := [("errors.errorType", laid_errors_errorType), ("kilnfield/api.ErrText", laid_kilnfield_api_ErrText), ("kilnfield/api.ErrBound", laid_kilnfield_api_ErrBound), ("kilnfield/api.ErrShape", laid_kilnfield_api_ErrShape), ("kilnfield/api.ErrName", laid_kilnfield_api_ErrName), ("kilnfield/api.ErrKind", laid_kilnfield_api_ErrKind), ("kilnfield/api.ErrNone", laid_kilnfield_api_ErrNone), ("kilnfield/api.ErrExist", laid_kilnfield_api_ErrExist), ("kilnfield/api.ErrFull", laid_kilnfield_api_ErrFull), ("kilnfield/api.ErrCycle", laid_kilnfield_api_ErrCycle), ("kilnfield/api.ErrLong", laid_kilnfield_api_ErrLong), ("kilnfield/api.ErrTurn", laid_kilnfield_api_ErrTurn), ("kilnfield/api.ErrDone", laid_kilnfield_api_ErrDone)], narrowed := true }
def NamesUptoSaid : Prop := namesUptoRow.holds Tryd.pinned (OpenSpec.upto namesSpec)

/-- 'kilnfieldlaw1.PathCleans', WHERE WHAT IT READS IS OF BULK AT MOST 1048576: true; the input reads as it did. -/
def pathCleansUptoRow : OpenClaim := { program := "ytpkkhabiheobnaadoor", sum := "ae9cf0dd39ca291f51a25a02df7ab7487e2f8e6770ea0d5a0cee1dd6bbed385f", func := "kilnfield/kilnfieldlaw1.PathCleans", spec := "pathCleans", inPlace := ["internal/bytealg.IndexByteString", "internal/bytealg.IndexString", "internal/abi.NoEscape", "internal/bytealg.MakeNoZero", "internal/reflectlite.ValueOf", "(internal/reflectlite.Value).Type", "(internal/reflectlite.Value).IsNil", "internal/reflectlite.TypeOf", "(internal/reflectlite.Value).Elem", "(internal/reflectlite.Value).Set"], unfollowed := true, recurses := true, named := ["kilnfield/api.ErrBound", "kilnfield/api.ErrShape", "kilnfield/api.ErrNone", "internal/bytealg.MaxLen", "kilnfield/api.ErrName", "kilnfield/api.ErrText", "kilnfield/api.ErrKind", "kilnfield/api.ErrExist", "kilnfield/api.ErrFull", "kilnfield/api.ErrCycle", "kilnfield/api.ErrLong", "kilnfield/api.ErrTurn", "kilnfield/api.ErrDone", "errors.errorType"], apart := false, laid := [("errors.errorType", laid_errors_errorType), ("kilnfield/api.ErrText", laid_kilnfield_api_ErrText), ("kilnfield/api.ErrBound", laid_kilnfield_api_ErrBound), ("kilnfield/api.ErrShape", laid_kilnfield_api_ErrShape), ("kilnfield/api.ErrName", laid_kilnfield_api_ErrName), ("kilnfield/api.ErrKind", laid_kilnfield_api_ErrKind), ("kilnfield/api.ErrNone", laid_kilnfield_api_ErrNone), ("kilnfield/api.ErrExist", laid_kilnfield_api_ErrExist), ("kilnfield/api.ErrFull", laid_kilnfield_api_ErrFull), ("kilnfield/api.ErrCycle", laid_kilnfield_api_ErrCycle), ("kilnfield/api.ErrLong", laid_kilnfield_api_ErrLong), ("kilnfield/api.ErrTurn", laid_kilnfield_api_ErrTurn), ("kilnfield/api.ErrDone", laid_kilnfield_api_ErrDone)], narrowed := true }
def PathCleansUptoSaid : Prop := pathCleansUptoRow.holds Tryd.pinned (OpenSpec.upto pathCleansSpec)

/-- 'kilnfieldlaw1.PathStays', WHERE WHAT IT READS IS OF BULK AT MOST 1048576: true; the input reads as it did. -/
def pathStaysUptoRow : OpenClaim := { program := "ytpkkhabiheobnaadoor", sum := "ae9cf0dd39ca291f51a25a02df7ab7487e2f8e6770ea0d5a0cee1dd6bbed385f", func := "kilnfield/kilnfieldlaw1.PathStays", spec := "pathStays", inPlace := ["internal/bytealg.IndexByteString", "internal/bytealg.IndexString", "internal/abi.NoEscape", "internal/bytealg.MakeNoZero"], unfollowed := true, recurses := true, named := ["kilnfield/api.ErrBound", "kilnfield/api.ErrShape", "kilnfield/api.ErrNone", "internal/bytealg.MaxLen", "kilnfield/api.ErrName"], apart := false, laid := [("kilnfield/api.ErrBound", laid_kilnfield_api_ErrBound), ("kilnfield/api.ErrShape", laid_kilnfield_api_ErrShape), ("kilnfield/api.ErrName", laid_kilnfield_api_ErrName), ("kilnfield/api.ErrNone", laid_kilnfield_api_ErrNone)], narrowed := true }
def PathStaysUptoSaid : Prop := pathStaysUptoRow.holds Tryd.pinned (OpenSpec.upto pathStaysSpec)

/-- 'kilnfieldlaw1.PathMatches', WHERE WHAT IT READS IS OF BULK AT MOST 1048576: true; the input reads as it did. -/
def pathMatchesUptoRow : OpenClaim := { program := "ytpkkhabiheobnaadoor", sum := "ae9cf0dd39ca291f51a25a02df7ab7487e2f8e6770ea0d5a0cee1dd6bbed385f", func := "kilnfield/kilnfieldlaw1.PathMatches", spec := "pathMatches", inPlace := ["internal/bytealg.IndexByteString", "internal/bytealg.IndexString", "internal/abi.NoEscape", "internal/bytealg.MakeNoZero", "internal/bytealg.CountString", "internal/reflectlite.ValueOf", "(internal/reflectlite.Value).Type", "(internal/reflectlite.Value).IsNil", "internal/reflectlite.TypeOf", "(internal/reflectlite.Value).Elem", "(internal/reflectlite.Value).Set"], unfollowed := true, recurses := true, named := ["kilnfield/api.ErrBound", "kilnfield/api.ErrShape", "kilnfield/api.ErrNone", "internal/bytealg.MaxLen", "kilnfield/api.ErrName", "unicode/utf8.first", "unicode/utf8.acceptRanges", "kilnfield/api.ErrText", "kilnfield/api.ErrKind", "kilnfield/api.ErrExist", "kilnfield/api.ErrFull", "kilnfield/api.ErrCycle", "kilnfield/api.ErrLong", "kilnfield/api.ErrTurn", "kilnfield/api.ErrDone", "errors.errorType"], apart := false, laid := [("unicode/utf8.acceptRanges", laid_unicode_utf8_acceptRanges), ("errors.errorType", laid_errors_errorType), ("kilnfield/api.ErrText", laid_kilnfield_api_ErrText), ("kilnfield/api.ErrBound", laid_kilnfield_api_ErrBound), ("kilnfield/api.ErrShape", laid_kilnfield_api_ErrShape), ("kilnfield/api.ErrName", laid_kilnfield_api_ErrName), ("kilnfield/api.ErrKind", laid_kilnfield_api_ErrKind), ("kilnfield/api.ErrNone", laid_kilnfield_api_ErrNone), ("kilnfield/api.ErrExist", laid_kilnfield_api_ErrExist), ("kilnfield/api.ErrFull", laid_kilnfield_api_ErrFull), ("kilnfield/api.ErrCycle", laid_kilnfield_api_ErrCycle), ("kilnfield/api.ErrLong", laid_kilnfield_api_ErrLong), ("kilnfield/api.ErrTurn", laid_kilnfield_api_ErrTurn), ("kilnfield/api.ErrDone", laid_kilnfield_api_ErrDone), ("unicode/utf8.first", laid_unicode_utf8_first)], narrowed := true }
def PathMatchesUptoSaid : Prop := pathMatchesUptoRow.holds Tryd.pinned (OpenSpec.upto pathMatchesSpec)

/-- 'kilnfieldlaw1.PathStars', WHERE WHAT IT READS IS OF BULK AT MOST 1048576: true; the input reads as it did. -/
def pathStarsUptoRow : OpenClaim := { program := "ytpkkhabiheobnaadoor", sum := "ae9cf0dd39ca291f51a25a02df7ab7487e2f8e6770ea0d5a0cee1dd6bbed385f", func := "kilnfield/kilnfieldlaw1.PathStars", spec := "pathStars", inPlace := ["internal/bytealg.IndexByteString", "internal/bytealg.IndexString", "internal/abi.NoEscape", "internal/bytealg.MakeNoZero", "internal/bytealg.CountString"], unfollowed := true, recurses := true, named := ["kilnfield/api.ErrBound", "kilnfield/api.ErrShape", "kilnfield/api.ErrNone", "internal/bytealg.MaxLen", "kilnfield/api.ErrName", "unicode/utf8.first", "unicode/utf8.acceptRanges"], apart := false, laid := [("unicode/utf8.acceptRanges", laid_unicode_utf8_acceptRanges), ("kilnfield/api.ErrBound", laid_kilnfield_api_ErrBound), ("kilnfield/api.ErrShape", laid_kilnfield_api_ErrShape), ("kilnfield/api.ErrName", laid_kilnfield_api_ErrName), ("kilnfield/api.ErrNone", laid_kilnfield_api_ErrNone), ("unicode/utf8.first", laid_unicode_utf8_first)], narrowed := true }
def PathStarsUptoSaid : Prop := pathStarsUptoRow.holds Tryd.pinned (OpenSpec.upto pathStarsSpec)

end Rows
end Go.Proofs.YtpkkhabiheobnaaDoor
