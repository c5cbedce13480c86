/-
  What the rows' listed variable gives: the numbers of the rounds, at the world of a call.
-/
import Derived.Test.YtpnifmghbfajiaaDoorRowP
import Derived.Test.YtpnifmghbfajiaaDoorLaidTab
import Derived.Test.YtpnifmghbfajiaaDoorTie
import Derived.Test.YtpnifmghbfajiaaDoorShaK
import Derived.SevenTiedAt
namespace Go.Proofs.YtpnifmghbfajiaaDoor
open Go.ChangeShapes Go.WideShapes Go.ChangeAt Go.RowKit

theorem ks_laid : (Rows.laid_oubliette_sha_cubeRoots : DataW Unit) = Lib.tabData .u32 (ksU.map fun (n : Nat) => (n : Int)) := by kernel_rfl
theorem ks_of {W : World} {ps : List MemPlace} (h : DataW.LaidVars Tryd.prog W [("oubliette/sha.cubeRoots", Rows.laid_oubliette_sha_cubeRoots)] ps) : KsAt W := by
  rw [ks_laid] at h
  have ht := tabIs_mem (g := 0) (t := 26) (e := 22) (n := 64) (by kernel_rfl) (by kernel_rfl) (by kernel_rfl) Tryd.underlying22 (by kernel_rfl) (by kernel_rfl) _ ps h (List.mem_singleton.2 rfl)
  intro i hi
  have hc := ht.cell (g := 0) (by kernel_rfl) i (by rw [List.length_map]; exact hi)
  rw [hc, List.getD_eq_getElem?_getD, List.getElem?_map, List.getElem?_eq_getElem (show i < ksU.length from hi)]
  rfl

end Go.Proofs.YtpnifmghbfajiaaDoor
