/-
  WHAT THE ROWS' LIST OF TABLES GIVES (words): the table of white space; a world that holds the tables.
-/
import Derived.Test.YthdggnkpncoikaaDoorRows
import Derived.Test.YthdggnkpncoikaaDoorTie
import Derived.Test.YthdggnkpncoikaaDoorFldS
import Derived.Test.YthdggnkpncoikaaDoorNumP
import Derived.Test.YthdggnkpncoikaaDoorShelf
import Derived.ProofKit
import Derived.OpenShut
import Derived.LaidMore
import Derived.Lay
import Derived.Lib.LaidTab
import Derived.Deep.DeepHandedRow
import Derived.SevenTiedAt
import Derived.Stop.Joined
import Derived.Deep.DeepWitnessRowRef
import Derived.Deep.DeepLaidRun
import Derived.Lib.LaidU8
namespace Go.Proofs.YthdggnkpncoikaaDoor
open Go.ChangeShapes Go.WideShapes Go.ChangeAt Go.RowKit

/-- what every row of words lists -/
noncomputable def laidW : List (String × DataW Unit) := [("unicode/utf8.acceptRanges", Rows.laid_unicode_utf8_acceptRanges), ("unicode.White_Space", Rows.laid_unicode_White_Space), ("strings.asciiSpace", Rows.laid_strings_asciiSpace), ("unicode/utf8.first", Rows.laid_unicode_utf8_first)]
theorem ownW : ownKnob Tryd.prog.godebug = none := by kernel_rfl
theorem laid_tailW {P : Program} {x : String × DataW Unit} {r : List (String × DataW Unit)} {w : World} (h : laidMet P (x :: r) w) : laidMet P r w := by
  obtain ⟨ps, ⟨g, t, cs, fuel, p, q, hg, ht, hv, hd, hr, rfl⟩, hn, hp⟩ := h
  exact ⟨q, hr, (List.nodup_append.1 hn).2.1, fun b off hq => hp b off (List.mem_append_right _ hq)⟩
theorem asc_data : Rows.laid_strings_asciiSpace (H := Unit) = Lib.tabData .u8 Lib.asciiSpaceTab := by kernel_rfl
theorem asc_tabIs {W : World} (h : laidMetH Tryd.prog laidW W) : Lib.TabIs Tryd.prog W "strings.asciiSpace" .u8 Lib.asciiSpaceTab := by
  rw [MakeChecks.laidMetH_plain _ _ _ (by kernel_rfl)] at h
  have h2 := laid_tailW (laid_tailW h)
  rw [asc_data] at h2
  exact Lib.tabIs_of_head (g := 0) (by kernel_rfl) (t := ((Tryd.prog.globals[0]?).map (·.type)).get (by kernel_rfl)) (by kernel_rfl) (e := 5) (n := Lib.asciiSpaceTab.length) (by kernel_rfl) (by kernel_rfl) (by kernel_rfl) (by kernel_rfl) h2
theorem asc_get (c : Nat) (h : c < 256) : Lib.asciiSpaceTab.getD c 0 = if Lib.isSp (UInt8.ofNat c) then 1 else 0 := by
  unfold Lib.asciiSpaceTab
  rw [List.getD_eq_getElem?_getD, List.getElem?_map, List.getElem?_range h]
  rfl
theorem asc_tab {W : World} (h : laidMetH Tryd.prog laidW W) : AscS W := fun c hc => by
  have := (asc_tabIs h).cell (g := 0) (by kernel_rfl) c (by rw [Lib.asciiSpaceTab_length]; exact hc)
  rw [asc_get c hc] at this
  exact this
theorem maxW {W : World} (h : W.ShapedOpen Tryd.prog) : MaxW W := Tryd.laysM143.s1_3 W h
/-- the witness: the settled world with two blocks more (unicode.White_Space's ranges and its table), the four variables holding what their initialisers lay -/
noncomputable def worldW (os : Os) : World :=
  let N := (World.settled Tryd.prog os).heap.size
  let w0 := World.holding Tryd.prog os ⟨#[.cells (Lib.whiteT.map fun (z : Nat) => Value.int .u16 (z : Int)).toArray 157, .cells #[.slice (some ⟨N, 0, none⟩) 7 7, .slice none 0 0, .int .i64 2] 155], #[], []⟩
  let put (h : Array Obj) (g : Nat) (cs : Array Value) : Array Obj := h.modify g fun
    | .cells _ t frozen => .cells cs t frozen
    | o => o
  { w0 with heap := put (put (put (put w0.heap 0 (Lib.asciiSpaceTab.map fun z => Value.int .u8 z).toArray) 3 (Lib.firstTab.map fun z => Value.int .u8 z).toArray)
      4 ((List.range 16).flatMap fun i => [Value.int .u8 (Lib.accLo i), Value.int .u8 (Lib.accHi i)]).toArray) 1 #[.pointer (some ⟨N + 1, 0, none⟩)] }
theorem laidW_witness (os : Os) (args : Array Value) : laidMetH Tryd.prog laidW ((worldW os).forCall (fun _ _ => 0) ⟨#[], args, []⟩).memory := by
  rw [MakeChecks.laidMetH_plain _ _ _ (by kernel_rfl)]
  exact laidMet_of_run3 10 (by kernel_rfl) (by kernel_rfl) (by kernel_rfl)
end Go.Proofs.YthdggnkpncoikaaDoor
