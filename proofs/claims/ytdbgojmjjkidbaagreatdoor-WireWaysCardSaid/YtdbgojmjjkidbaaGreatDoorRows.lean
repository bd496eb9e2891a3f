/-
  NARROWER THAN 'FOR EVERY INPUT', by the rows' own cells (each row's printed sentence says how): WireActs: laid · WireTells: laid · WireWays: laid · WireNone: laid · WireRows: laid.
  DERIVED. THE GIVEN ROWS OF THIS SEAT. 5 by the template 'for every input the law returns true; each argument reads behind the call as it read before'; 0 by the template 'total and deterministic' (their statements: YtdbgojmjjkidbaaGreatDoorTotals.lean).
  GIVEN WITH THE SEED: the statements are not yours to turn. If you find one false, say at which input.
  Laid BY PROGRAM, IN A SANDBOX (cutbox-rows.mjs): the forced cells as the released guide's own fill.sh prints them over the translation 15f66c70a38d2e0a… (all of the seat's roots in one cut). By AI agents, Wed Nov 11 2026. No macro, syntax, notation, axiom, sorry.
-/
import Derived.Test.YtdbgojmjjkidbaaGreatDoorChecked
import GoSem.PinnedTables
import GoSem.Claim
import GoSem.ClaimJoined
import GoSem.ClaimMapViews
import Derived.JoinedTies
import Derived.KernelRfl
namespace Go.Proofs.YtdbgojmjjkidbaaGreatDoor
/- THE CELL 'sum', in the pinned program and in every row, IS THE sha256 OF THE DUMP (.gsa) THAT YtdbgojmjjkidbaaGreatDoorProg.lean LOADS. Nothing in Lean hashes anything: it is a label: what it is worth is what the hold of that sum in a sandbox is worth. -/
noncomputable def Tryz.pinned : Pinned := { name := "ytdbgojmjjkidbaagreatdoor", sum := "15f66c70a38d2e0ad334cd316631402c8a6e218802aa61e75d377bc954fc99e1", checked := Tryz.checked }
namespace Rows
def none {H : Type} : Left H := { results := [], args := [] }

/- WHAT THE LISTED PACKAGE-LEVEL VARIABLES READ AS WHEN THE CALL BEGINS. Each datum BY PROGRAM (the guide's laid-datum.mjs) off the statement by which the dump's own 'gosem.cut.vars' lays the variable. In a bare row this is a premise. The card (YtdbgojmjjkidbaaGreatDoorCards.lean) ties it to the program's text. -/
def laid_staith_word_widths {H : Type} : DataW H := .agg [.lit (.int .i64 1), .lit (.int .i64 2), .lit (.int .i64 4), .lit (.int .i64 8)]
def laid_unicode_utf8_acceptRanges {H : Type} : DataW H := .agg [.agg [.lit (.int .u8 128), .lit (.int .u8 191)], .agg [.lit (.int .u8 160), .lit (.int .u8 191)], .agg [.lit (.int .u8 128), .lit (.int .u8 159)], .agg [.lit (.int .u8 144), .lit (.int .u8 191)], .agg [.lit (.int .u8 128), .lit (.int .u8 143)], .agg [.lit (.int .u8 0), .lit (.int .u8 0)], .agg [.lit (.int .u8 0), .lit (.int .u8 0)], .agg [.lit (.int .u8 0), .lit (.int .u8 0)], .agg [.lit (.int .u8 0), .lit (.int .u8 0)], .agg [.lit (.int .u8 0), .lit (.int .u8 0)], .agg [.lit (.int .u8 0), .lit (.int .u8 0)], .agg [.lit (.int .u8 0), .lit (.int .u8 0)], .agg [.lit (.int .u8 0), .lit (.int .u8 0)], .agg [.lit (.int .u8 0), .lit (.int .u8 0)], .agg [.lit (.int .u8 0), .lit (.int .u8 0)], .agg [.lit (.int .u8 0), .lit (.int .u8 0)]]
def laid_staith_packet_kinds {H : Type} : DataW H := .agg [.agg [.lit (.int .i64 1), .lit (.string [104, 101, 108, 108, 111]), .lit (.string [101])], .agg [.lit (.int .i64 2), .lit (.string [119, 101, 108, 99, 111, 109, 101]), .lit (.string [97])], .agg [.lit (.int .i64 3), .lit (.string [100, 97, 116, 97]), .lit (.string [101, 110, 109])], .agg [.lit (.int .i64 4), .lit (.string [97, 99, 107]), .lit (.string [101, 110, 107])]]
/-- One of Go's own tables, pinned by name: the form's constant. -/
def laid_unicode_utf8_first : DataW Unit := Go.Pinned.utf8First

/-- 'staithlaw22.WireActs': WHATEVER THE INPUT: true; the input reads as it did. -/
def wireActsSpec : ChangeSpec := { name := "wireActs", fn := fun _ => fun
  | [d1, d2] => { results := [.lit (.bool true)], args := [d1, d2] }
  | _ => none }
def wireActsRow : OpenClaim := { program := "ytdbgojmjjkidbaagreatdoor", sum := "15f66c70a38d2e0ad334cd316631402c8a6e218802aa61e75d377bc954fc99e1", func := "staith/staithlaw22.WireActs", spec := "wireActs", inPlace := ["internal/bytealg.CountString", "internal/bytealg.IndexByteString", "internal/bytealg.IndexString"], unfollowed := true, recurses := true, named := ["staith/packet.kinds", "internal/bytealg.MaxLen", "unicode/utf8.first", "unicode/utf8.acceptRanges", "staith/word.widths"], plainKeys := false, apart := false, laid := [("staith/word.widths", laid_staith_word_widths), ("unicode/utf8.acceptRanges", laid_unicode_utf8_acceptRanges), ("staith/packet.kinds", laid_staith_packet_kinds), ("unicode/utf8.first", laid_unicode_utf8_first)] }
def WireActsSaid : Prop := wireActsRow.holds Tryz.pinned (OpenSpec.ofChange wireActsSpec)

/-- ITS FALSE NEIGHBOUR: 'it returns false'. Refute it at one input. -/
def wireActsWrong : ChangeSpec := { name := "wireActs", fn := fun _ => fun
  | [d1, d2] => { results := [.lit (.bool false)], args := [d1, d2] }
  | _ => none }
def WireActsWrongFalsely : Prop := wireActsRow.holds Tryz.pinned (OpenSpec.ofChange wireActsWrong)

/-- 'staithlaw22.WireTells': WHATEVER THE INPUT: true; the input reads as it did. -/
def wireTellsSpec : ChangeSpec := { name := "wireTells", fn := fun _ => fun
  | [d1, d2, d3] => { results := [.lit (.bool true)], args := [d1, d2, d3] }
  | _ => none }
def wireTellsRow : OpenClaim := { program := "ytdbgojmjjkidbaagreatdoor", sum := "15f66c70a38d2e0ad334cd316631402c8a6e218802aa61e75d377bc954fc99e1", func := "staith/staithlaw22.WireTells", spec := "wireTells", inPlace := ["internal/bytealg.CountString", "internal/bytealg.IndexByteString", "internal/bytealg.IndexString"], unfollowed := true, recurses := true, named := ["staith/packet.kinds", "internal/bytealg.MaxLen", "unicode/utf8.first", "unicode/utf8.acceptRanges", "staith/word.widths"], plainKeys := false, apart := false, laid := [("staith/word.widths", laid_staith_word_widths), ("unicode/utf8.acceptRanges", laid_unicode_utf8_acceptRanges), ("staith/packet.kinds", laid_staith_packet_kinds), ("unicode/utf8.first", laid_unicode_utf8_first)] }
def WireTellsSaid : Prop := wireTellsRow.holds Tryz.pinned (OpenSpec.ofChange wireTellsSpec)

/-- ITS FALSE NEIGHBOUR: 'it returns false'. Refute it at one input. -/
def wireTellsWrong : ChangeSpec := { name := "wireTells", fn := fun _ => fun
  | [d1, d2, d3] => { results := [.lit (.bool false)], args := [d1, d2, d3] }
  | _ => none }
def WireTellsWrongFalsely : Prop := wireTellsRow.holds Tryz.pinned (OpenSpec.ofChange wireTellsWrong)

/-- 'staithlaw22.WireWays': WHATEVER THE INPUT: true; the input reads as it did. -/
def wireWaysSpec : ChangeSpec := { name := "wireWays", fn := fun _ => fun
  | [d1, d2] => { results := [.lit (.bool true)], args := [d1, d2] }
  | _ => none }
def wireWaysRow : OpenClaim := { program := "ytdbgojmjjkidbaagreatdoor", sum := "15f66c70a38d2e0ad334cd316631402c8a6e218802aa61e75d377bc954fc99e1", func := "staith/staithlaw22.WireWays", spec := "wireWays", inPlace := ["internal/bytealg.CountString", "internal/bytealg.IndexByteString", "internal/bytealg.IndexString"], unfollowed := true, recurses := true, named := ["staith/packet.kinds", "internal/bytealg.MaxLen", "unicode/utf8.first", "unicode/utf8.acceptRanges", "staith/word.widths"], plainKeys := false, apart := false, laid := [("staith/word.widths", laid_staith_word_widths), ("unicode/utf8.acceptRanges", laid_unicode_utf8_acceptRanges), ("staith/packet.kinds", laid_staith_packet_kinds), ("unicode/utf8.first", laid_unicode_utf8_first)] }
def WireWaysSaid : Prop := wireWaysRow.holds Tryz.pinned (OpenSpec.ofChange wireWaysSpec)

/-- ITS FALSE NEIGHBOUR: 'it returns false'. Refute it at one input. -/
def wireWaysWrong : ChangeSpec := { name := "wireWays", fn := fun _ => fun
  | [d1, d2] => { results := [.lit (.bool false)], args := [d1, d2] }
  | _ => none }
def WireWaysWrongFalsely : Prop := wireWaysRow.holds Tryz.pinned (OpenSpec.ofChange wireWaysWrong)

/-- 'staithlaw22.WireNone': WHATEVER THE INPUT: true; the input reads as it did. -/
def wireNoneSpec : ChangeSpec := { name := "wireNone", fn := fun _ => fun
  | [d] => { results := [.lit (.bool true)], args := [d] }
  | _ => none }
def wireNoneRow : OpenClaim := { program := "ytdbgojmjjkidbaagreatdoor", sum := "15f66c70a38d2e0ad334cd316631402c8a6e218802aa61e75d377bc954fc99e1", func := "staith/staithlaw22.WireNone", spec := "wireNone", inPlace := ["internal/bytealg.CountString", "internal/bytealg.IndexByteString", "internal/bytealg.IndexString"], unfollowed := true, recurses := true, named := ["staith/word.widths", "internal/bytealg.MaxLen", "unicode/utf8.first", "unicode/utf8.acceptRanges", "staith/packet.kinds"], plainKeys := false, apart := false, laid := [("staith/word.widths", laid_staith_word_widths), ("unicode/utf8.acceptRanges", laid_unicode_utf8_acceptRanges), ("staith/packet.kinds", laid_staith_packet_kinds), ("unicode/utf8.first", laid_unicode_utf8_first)] }
def WireNoneSaid : Prop := wireNoneRow.holds Tryz.pinned (OpenSpec.ofChange wireNoneSpec)

/-- ITS FALSE NEIGHBOUR: 'it returns false'. Refute it at one input. -/
def wireNoneWrong : ChangeSpec := { name := "wireNone", fn := fun _ => fun
  | [d] => { results := [.lit (.bool false)], args := [d] }
  | _ => none }
def WireNoneWrongFalsely : Prop := wireNoneRow.holds Tryz.pinned (OpenSpec.ofChange wireNoneWrong)

/-- 'staithlaw22.WireRows': WHATEVER THE INPUT: true; the input reads as it did. -/
def wireRowsSpec : ChangeSpec := { name := "wireRows", fn := fun _ => fun
  | [d1, d2] => { results := [.lit (.bool true)], args := [d1, d2] }
  | _ => none }
def wireRowsRow : OpenClaim := { program := "ytdbgojmjjkidbaagreatdoor", sum := "15f66c70a38d2e0ad334cd316631402c8a6e218802aa61e75d377bc954fc99e1", func := "staith/staithlaw22.WireRows", spec := "wireRows", inPlace := ["internal/bytealg.CountString", "internal/bytealg.IndexByteString", "internal/bytealg.IndexString"], unfollowed := true, recurses := true, named := ["staith/packet.kinds", "internal/bytealg.MaxLen", "unicode/utf8.first", "unicode/utf8.acceptRanges", "staith/word.widths"], plainKeys := false, apart := false, laid := [("staith/word.widths", laid_staith_word_widths), ("unicode/utf8.acceptRanges", laid_unicode_utf8_acceptRanges), ("staith/packet.kinds", laid_staith_packet_kinds), ("unicode/utf8.first", laid_unicode_utf8_first)] }
def WireRowsSaid : Prop := wireRowsRow.holds Tryz.pinned (OpenSpec.ofChange wireRowsSpec)

/-- ITS FALSE NEIGHBOUR: 'it returns false'. Refute it at one input. -/
def wireRowsWrong : ChangeSpec := { name := "wireRows", fn := fun _ => fun
  | [d1, d2] => { results := [.lit (.bool false)], args := [d1, d2] }
  | _ => none }
def WireRowsWrongFalsely : Prop := wireRowsRow.holds Tryz.pinned (OpenSpec.ofChange wireRowsWrong)

/- THE SECOND FORM. 'bulk': how many values and letters a reading holds, each counted each time it is reached (what is shared counts as often as it is met; a slice's spare places count too). A statement '..UptoSaid' is the law's where the arguments, and the package variables that the reading takes, are together of bulk at most 1048576: NARROWER than '..Said'. Prove '..Said' where nothing that the law and all that it calls make is longer than what came in: it says more and counts as full. Else prove '..UptoSaid'. A law counts once. -/
mutual
def uptoBulk {H : Type} : DataW H → Nat
  | .lit (.string bytes) => bytes.length + 1
  | .lit _ => 1
  | .nil => 1
  | .ptr d => uptoBulk d + 1
  | .slice elems spare => uptoBulkAll elems + uptoBulkAll spare + 1
  | .agg parts => uptoBulkAll parts + 1
  | .iface _ d => uptoBulk d + 1
  | .map entries => uptoBulkEntries entries + 1
  | .held _ => 1
def uptoBulkAll {H : Type} : List (DataW H) → Nat
  | [] => 0
  | d :: r => uptoBulk d + uptoBulkAll r
def uptoBulkEntries {H : Type} : List (Lit × DataW H) → Nat
  | [] => 0
  | x :: r => uptoBulkEntry x + uptoBulkEntries r
def uptoBulkEntry {H : Type} : Lit × DataW H → Nat
  | (.string bytes, d) => bytes.length + uptoBulk d + 1
  | (_, d) => uptoBulk d + 1
 end
def uptoSmall : (H : Type) → List (DataW H) → Bool := fun _ ds => decide (uptoBulkAll ds ≤ 1048576)
def OpenSpec.upto (s : _root_.Go.ChangeSpec) : _root_.Go.OpenSpec := { _root_.Go.OpenSpec.ofChange s with cond := some uptoSmall }

/-- 'staithlaw22.WireActs', WHERE WHAT IT READS IS OF BULK AT MOST 1048576: true; the input reads as it did. -/
def wireActsUptoRow : OpenClaim := { program := "ytdbgojmjjkidbaagreatdoor", sum := "15f66c70a38d2e0ad334cd316631402c8a6e218802aa61e75d377bc954fc99e1", func := "staith/staithlaw22.WireActs", spec := "wireActs", inPlace := ["internal/bytealg.CountString", "internal/bytealg.IndexByteString", "internal/bytealg.IndexString"], unfollowed := true, recurses := true, named := ["staith/packet.kinds", "internal/bytealg.MaxLen", "unicode/utf8.first", "unicode/utf8.acceptRanges", "staith/word.widths"], plainKeys := false, apart := false, laid := [("staith/word.widths", laid_staith_word_widths), ("unicode/utf8.acceptRanges", laid_unicode_utf8_acceptRanges), ("staith/packet.kinds", laid_staith_packet_kinds), ("unicode/utf8.first", laid_unicode_utf8_first)], narrowed := true }
def WireActsUptoSaid : Prop := wireActsUptoRow.holds Tryz.pinned (OpenSpec.upto wireActsSpec)

/-- 'staithlaw22.WireTells', WHERE WHAT IT READS IS OF BULK AT MOST 1048576: true; the input reads as it did. -/
def wireTellsUptoRow : OpenClaim := { program := "ytdbgojmjjkidbaagreatdoor", sum := "15f66c70a38d2e0ad334cd316631402c8a6e218802aa61e75d377bc954fc99e1", func := "staith/staithlaw22.WireTells", spec := "wireTells", inPlace := ["internal/bytealg.CountString", "internal/bytealg.IndexByteString", "internal/bytealg.IndexString"], unfollowed := true, recurses := true, named := ["staith/packet.kinds", "internal/bytealg.MaxLen", "unicode/utf8.first", "unicode/utf8.acceptRanges", "staith/word.widths"], plainKeys := false, apart := false, laid := [("staith/word.widths", laid_staith_word_widths), ("unicode/utf8.acceptRanges", laid_unicode_utf8_acceptRanges), ("staith/packet.kinds", laid_staith_packet_kinds), ("unicode/utf8.first", laid_unicode_utf8_first)], narrowed := true }
def WireTellsUptoSaid : Prop := wireTellsUptoRow.holds Tryz.pinned (OpenSpec.upto wireTellsSpec)

/-- 'staithlaw22.WireWays', WHERE WHAT IT READS IS OF BULK AT MOST 1048576: true; the input reads as it did. -/
def wireWaysUptoRow : OpenClaim := { program := "ytdbgojmjjkidbaagreatdoor", sum := "15f66c70a38d2e0ad334cd316631402c8a6e218802aa61e75d377bc954fc99e1", func := "staith/staithlaw22.WireWays", spec := "wireWays", inPlace := ["internal/bytealg.CountString", "internal/bytealg.IndexByteString", "internal/bytealg.IndexString"], unfollowed := true, recurses := true, named := ["staith/packet.kinds", "internal/bytealg.MaxLen", "unicode/utf8.first", "unicode/utf8.acceptRanges", "staith/word.widths"], plainKeys := false, apart := false, laid := [("staith/word.widths", laid_staith_word_widths), ("unicode/utf8.acceptRanges", laid_unicode_utf8_acceptRanges), ("staith/packet.kinds", laid_staith_packet_kinds), ("unicode/utf8.first", laid_unicode_utf8_first)], narrowed := true }
def WireWaysUptoSaid : Prop := wireWaysUptoRow.holds Tryz.pinned (OpenSpec.upto wireWaysSpec)

/-- 'staithlaw22.WireNone', WHERE WHAT IT READS IS OF BULK AT MOST 1048576: true; the input reads as it did. -/
def wireNoneUptoRow : OpenClaim := { program := "ytdbgojmjjkidbaagreatdoor", sum := "15f66c70a38d2e0ad334cd316631402c8a6e218802aa61e75d377bc954fc99e1", func := "staith/staithlaw22.WireNone", spec := "wireNone", inPlace := ["internal/bytealg.CountString", "internal/bytealg.IndexByteString", "internal/bytealg.IndexString"], unfollowed := true, recurses := true, named := ["staith/word.widths", "internal/bytealg.MaxLen", "unicode/utf8.first", "unicode/utf8.acceptRanges", "staith/packet.kinds"], plainKeys := false, apart := false, laid := [("staith/word.widths", laid_staith_word_widths), ("unicode/utf8.acceptRanges", laid_unicode_utf8_acceptRanges), ("staith/packet.kinds", laid_staith_packet_kinds), ("unicode/utf8.first", laid_unicode_utf8_first)], narrowed := true }
def WireNoneUptoSaid : Prop := wireNoneUptoRow.holds Tryz.pinned (OpenSpec.upto wireNoneSpec)

/-- 'staithlaw22.WireRows', WHERE WHAT IT READS IS OF BULK AT MOST 1048576: true; the input reads as it did. -/
def wireRowsUptoRow : OpenClaim := { program := "ytdbgojmjjkidbaagreatdoor", sum := "15f66c70a38d2e0ad334cd316631402c8a6e218802aa61e75d377bc954fc99e1", func := "staith/staithlaw22.WireRows", spec := "wireRows", inPlace := ["internal/bytealg.CountString", "internal/bytealg.IndexByteString", "internal/bytealg.IndexString"], unfollowed := true, recurses := true, named := ["staith/packet.kinds", "internal/bytealg.MaxLen", "unicode/utf8.first", "unicode/utf8.acceptRanges", "staith/word.widths"], plainKeys := false, apart := false, laid := [("staith/word.widths", laid_staith_word_widths), ("unicode/utf8.acceptRanges", laid_unicode_utf8_acceptRanges), ("staith/packet.kinds", laid_staith_packet_kinds), ("unicode/utf8.first", laid_unicode_utf8_first)], narrowed := true }
def WireRowsUptoSaid : Prop := wireRowsUptoRow.holds Tryz.pinned (OpenSpec.upto wireRowsSpec)

end Rows
end Go.Proofs.YtdbgojmjjkidbaaGreatDoor
