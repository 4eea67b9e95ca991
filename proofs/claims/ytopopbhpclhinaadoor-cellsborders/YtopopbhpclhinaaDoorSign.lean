/- What the calls have in common that make a complex of texts. What sign answers. -/
import Derived.Test.YtopopbhpclhinaaDoorPartsMath
import Derived.Test.YtopopbhpclhinaaDoorBuilt
import Derived.Test.YtopopbhpclhinaaDoorCode
import Derived.Test.YtopopbhpclhinaaDoorMathV
import Derived.WalkKit
namespace Go.Proofs.YtopopbhpclhinaaDoor
open Go.RowKit Go.Shelf Go.Sort Go.Maps Go.Deep

theorem isFacets_of {g g' L : List (List Int)} (h : ∀ x, FaceOf g x ↔ FaceOf g' x) (hL : IsFacets g L) : IsFacets g' L where
  order := hL.order
  mem := fun x => by
    rw [hL.mem, inner_face, inner_face, h]
    simp only [h]

/-- What a call answers that makes a complex: an error, or the facets of one. -/
def PartG (a : Nat → Addr) (bad : Nat → Prop) (good : List (List Int) → Prop) (w : World) (e : Ending) (w' : World) : Prop :=
  Below w.heap.size w w' ∧ ((∃ i, bad i ∧ e = .returned (.tuple #[.agg #[.slice none 0 0], .iface 176 (.pointer (some (a i)))])) ∨
    ∃ v L, good L ∧ e = .returned (.tuple #[.agg #[v], .nilIface]) ∧ OwnRows w.heap.size w' v L)

/-- Two variables, laid one behind the other. -/
theorem two_boxes (w : World) (v u : Value) (t t' : TypeId) : (((w.alloc (.cells #[v] t)).alloc (.cells #[u] t')).cell? ⟨w.heap.size, 0, none⟩ = some v ∧ ((w.alloc (.cells #[v] t)).alloc (.cells #[u] t')).frozen? ⟨w.heap.size, 0, none⟩ = false) ∧
    (((w.alloc (.cells #[v] t)).alloc (.cells #[u] t')).cell? ⟨w.heap.size + 1, 0, none⟩ = some u ∧ ((w.alloc (.cells #[v] t)).alloc (.cells #[u] t')).frozen? ⟨w.heap.size + 1, 0, none⟩ = false) := by
  refine ⟨box_alloc _ (box_new w v t), ?_⟩
  have := box_new (w.alloc (.cells #[v] t)) u t'
  rwa [World.size_alloc] at this
theorem two_below (w : World) (v u : Value) (t t' : TypeId) : Below w.heap.size w ((w.alloc (.cells #[v] t)).alloc (.cells #[u] t')) := ((Below.refl _ w).alloc (Nat.le_refl _) _).alloc (by simp) _
theorem two_size (w : World) (o o' : Obj) : ((w.alloc o).alloc o').heap.size = w.heap.size + 2 := by simp

/-- Texts that lie somewhere are built. -/
theorem built_values {a : Nat → Addr} {s : Nat → ByteArray} (W : World) (av : Option Addr) (n cv : Nat) (fs : List (List UInt8)) (hn : fs.length = n) (h6 : fs.length ≤ 100000) (hf : ∀ x ∈ fs, 0 < x.length ∧ x.length ≤ 1000) (hs : Strs W (.slice av n cv) fs) (hE : Errs a s W) :
    Calls Tryd.prog 35 #[.func (.func 75) #[] #[.pointer (some ⟨W.heap.size, 0, none⟩)]] (W.alloc (.cells #[.slice av n cv] 63)) fun e w' => BuiltSays a fs (W.alloc (.cells #[.slice av n cv] 63)) e w' := by
  obtain ⟨xs, hxs⟩ := faces_of fs hf
  have hxl : xs.length = fs.length := by rw [← hxs]; simp
  have hb := built_ 75 _ xs _ (hE.below ((Below.refl _ W).alloc (Nat.le_refl _) (.cells #[.slice av n cv] 63))) (enters_of Tryd.func75 (by kernel_rfl) rfl) (values_any W av n cv xs (by omega) (by omega) (by rw [hxs]; exact hs))
  rw [hxs] at hb
  exact hb

theorem sub_over {l all : List (List Int)} {fs : List (List UInt8)} (g : Good l all) (h : ∀ t ∈ fs.map ints, t ∈ all) : ¬ Over fs := fun ho => g.notOver h (over_ints.2 ho)

theorem three_size (w : World) (o o' o'' : Obj) : (((w.alloc o).alloc o').alloc o'').heap.size = w.heap.size + 3 := by simp
theorem three_boxes (w : World) (v u z : Value) (t t' t'' : TypeId) : (((w.alloc (.cells #[v] t)).alloc (.cells #[u] t')).alloc (.cells #[z] t'')).cell? ⟨w.heap.size, 0, none⟩ = some v ∧
    (((w.alloc (.cells #[v] t)).alloc (.cells #[u] t')).alloc (.cells #[z] t'')).cell? ⟨w.heap.size + 1, 0, none⟩ = some u ∧
    ((((w.alloc (.cells #[v] t)).alloc (.cells #[u] t')).alloc (.cells #[z] t'')).cell? ⟨w.heap.size + 1 + 1, 0, none⟩ = some z ∧ (((w.alloc (.cells #[v] t)).alloc (.cells #[u] t')).alloc (.cells #[z] t'')).frozen? ⟨w.heap.size + 1 + 1, 0, none⟩ = false) := by
  have h2 := two_boxes w v u t t'
  refine ⟨(box_alloc _ h2.1).1, (box_alloc _ h2.2).1, ?_⟩
  have := box_new ((w.alloc (.cells #[v] t)).alloc (.cells #[u] t')) z t''
  rwa [World.size_alloc, World.size_alloc] at this
theorem three_below (w : World) (v u z : Value) (t t' t'' : TypeId) : Below w.heap.size w (((w.alloc (.cells #[v] t)).alloc (.cells #[u] t')).alloc (.cells #[z] t'')) := (two_below w v u t t').alloc (by simp; omega) _

end Go.Proofs.YtopopbhpclhinaaDoor

namespace Go.Proofs.YtopopbhpclhinaaDoor
open Go.RowKit

theorem sign_ (d : Nat) (w : World) (hd : d ≤ 1000) : Calls Tryd.prog 44 #[.int .i64 d] w fun e w' => e = .returned (.int .i64 (sg d)) ∧ w' = w := by
  have hs : sg d = 1 - 2 * ((d : Int) % 2) := by unfold sg; omega
  rw [hs]
  go_enter Tryd.func44, Tryd.ntmps44
  go_wp2
  go_ret
  exact ⟨by rfl, by rfl⟩

end Go.Proofs.YtopopbhpclhinaaDoor
