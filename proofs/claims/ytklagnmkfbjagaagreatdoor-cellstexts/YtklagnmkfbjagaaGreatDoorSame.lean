/- The faces of a dimension. What the map of faces tells and what the reference tells are the same. -/
import Derived.Test.YtklagnmkfbjagaaGreatDoorMath2
import Derived.Test.YtklagnmkfbjagaaGreatDoorKept
import Derived.Test.YtklagnmkfbjagaaGreatDoorMathV
namespace Go.Proofs.YtklagnmkfbjagaaGreatDoor

/-- The faces of a dimension. -/
def ofDim (all : List (List Int)) (dim : Int) : List (List Int) := all.filter (fun x => decide ((x.length : Int) - 1 = dim))
theorem ofDim_length (all : List (List Int)) (dim : Int) : (ofDim all dim).length ≤ all.length := List.length_filter_le _ _
theorem ofDim_succ {all : List (List Int)} {k : Nat} (hk : k < all.length) (dim : Int) : ofDim (all.take (k + 1)) dim = ofDim (all.take k) dim ++ (if ((all[k]?.getD []).length : Int) - 1 = dim then [all[k]?.getD []] else []) := by
  unfold ofDim
  rw [List.take_add_one, List.getElem?_eq_getElem hk, List.filter_append, Option.getD_some]
  congr 1
  by_cases h : (all[k].length : Int) - 1 = dim <;> simp [h]

end Go.Proofs.YtklagnmkfbjagaaGreatDoor

namespace Go.Proofs.YtklagnmkfbjagaaGreatDoor
open Go.RowKit Go.Sort

theorem told_same {l : List (List Int)} {ts ss : List (List UInt8)} {all : List (List Int)} (hok : ∀ x ∈ l, SetOk x) (hts : ts.map ints = l.map srt) (hn : ss.Nodup) (hm : ∀ x, x ∈ ss ↔ FaceOf ts x ∧ ¬ InnerOf ts x)
    (hal : IsAll (l.map srt) all) : (srtS ss).map ints = facetsI all := by
  refine facets_same (ts := ts) (fun t ht => ?_) (by rw [hts]; exact hal) hn hm
  have : ints t ∈ l.map srt := by rw [← hts]; exact List.mem_map.2 ⟨t, ht, rfl⟩
  obtain ⟨x, hx, e⟩ := List.mem_map.1 this
  rw [← e]
  exact srt_rising (hok x hx).2.1
theorem over_told {l : List (List Int)} {ts : List (List UInt8)} (hts : ts.map ints = l.map srt) (h : Over (l.map srt)) : Over ts := over_ints.1 (by rw [hts]; exact h)
theorem over_back {l : List (List Int)} {ts : List (List UInt8)} (hts : ts.map ints = l.map srt) (h : Over ts) : Over (l.map srt) := by rw [← hts]; exact over_ints.2 h

end Go.Proofs.YtklagnmkfbjagaaGreatDoor
