/-
  PURE FACTS for WordsAll (layer 5, words): the map's keys are the words, sorted.
-/
import Derived.Test.YthdggnkpncoikaaDoorAllP
namespace Go.Proofs.YthdggnkpncoikaaDoor
open Go.Maps Go.Sort
set_option maxRecDepth 100000
theorem keys_perm : (strKeys (resD fun _ => true)).isPerm wdS = true := by decide +kernel
theorem wdS_pair : List.Pairwise (fun a b => leB a b = true) wdS := by decide +kernel
theorem sorted_keys (ss : List (List UInt8)) (h : ss.Perm (strKeys (resD fun _ => true))) : ss.mergeSort (fun x y => decide (x ≤ y)) = wdS := by
  have h1 : ss.Perm wdS := h.trans (List.isPerm_iff.1 keys_perm)
  have h2 := mergeSort_of_perm h1
  exact h2.trans (List.mergeSort_of_pairwise wdS_pair)
theorem map_size : Maps.size (resD fun _ => true) = 262 := by decide +kernel
end Go.Proofs.YthdggnkpncoikaaDoor
