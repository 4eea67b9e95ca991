/- What facets answers: the faces that are parts of no greater one, in order. -/
import Derived.Test.YtopopbhpclhinaaDoorKept
import Derived.Maps.OwnOps
namespace Go.Proofs.YtopopbhpclhinaaDoor
open Go.RowKit Go.Sort Go.Maps

theorem outer_ (b : Nat) (F : List (List UInt8)) (G : List UInt8 → Prop) (x : List UInt8) (Bx : Nat) (q : Bool) (w : World) (hP : PileAt w b F G) (hB : w.cell? ⟨Bx, 0, none⟩ = some (.map (some b))) (hx : x ∈ F) (hl : x.length ≤ 1000) (hq : q = true ↔ ¬ G x) :
    Calls Tryd.prog 74 #[encStr x, .pointer (some ⟨Bx, 0, none⟩)] w fun e w' => e = .returned (.bool q) ∧ w' = w := by
  obtain ⟨D, d1, -, -, d4⟩ := hP
  have hkey := key_of x (by unfold maxLen; omega)
  have h4 := d4 x hx
  have HV : Hid (∀ c : Int, D.atKey (.string x) (.lit (.int .i64 0)) = .lit (.int .i64 c) → (c == 0) = q) := fun c hc => by
    cases q with
    | true =>
      rw [h4.2 (hq.1 rfl)] at hc
      cases hc; rfl
    | false =>
      have hg : G x := Classical.byContradiction (fun h => by have := hq.2 h; cases this)
      rw [h4.1 hg] at hc
      cases hc; rfl
  clear d4 h4 hq
  go_enter Tryd.func74, Tryd.ntmps74
  go_wp2_with (first
    | (at_lookup; refine wpList_lookup_own_int _ rfl _ _ 60 rfl 9 3 .i64 law_string Tryd.underlying60 Tryd.underlying3 (zero_int _) b _ _ rfl d1 _ _ rfl hkey ?_; intro c hat hwc)
    | go_in)
  go_ret
  exact ⟨by rw [← HV.out c hat]; rfl, rfl⟩

/-- What facets answers. -/
def FacetsSays (F : List (List UInt8)) (G : List UInt8 → Prop) (w : World) (e : Ending) (w' : World) : Prop :=
  ∃ v ss, e = .returned v ∧ StrsIn (fun b => w.heap.size ≤ b) w' v (srtS ss) ∧ ss.Nodup ∧ (∀ x, x ∈ ss ↔ x ∈ F ∧ ¬ G x) ∧ Below w.heap.size w w'

open Classical in
set_option maxRecDepth 100000 in
theorem facets_ (b : Nat) (F : List (List UInt8)) (G : List UInt8 → Prop) (w : World) (hP : PileAt w b F G) (hF : F.length ≤ 100000) (hx : ∀ x ∈ F, x.length ≤ 1000) :
    Calls Tryd.prog 52 #[.map (some b)] w fun e w' => FacetsSays F G w e w' := by
  have hP1 := hP.below ((Below.refl _ w).alloc (Nat.le_refl _) (.cells #[.map (some b)] 60))
  have hbox := box_new w (.map (some b)) 60
  have hkept := kept_ b F G 74 #[.pointer (some ⟨w.heap.size, 0, none⟩)] (fun x => decide (¬ G x)) (w.alloc (.cells #[.map (some b)] 60)) hP1 hF hx (enters_of Tryd.func74 (by kernel_rfl) rfl)
    (fun x hxF W hW => outer_ b F G x w.heap.size _ W (hP1.below hW) ((hW.cell (p := ⟨w.heap.size, 0, none⟩) (by simp)).trans hbox.1) hxF (hx x hxF) (by simp))
  clear hP1
  have hb := hbox.1
  clear hbox
  go_enter Tryd.func52, Tryd.ntmps52
  go_wp2_with fail
  refine hkept.mono ?_
  rintro e w2 ⟨v, ss, rfl, h1, h2, h3, h4⟩
  go_wp2
  go_ret
  refine ⟨_, ss, rfl, h1.mono (fun b _ h => by simp at h; omega), h2, fun x => by rw [h3]; simp, ((Below.refl _ w).alloc (Nat.le_refl _) _).trans (h4.mono (by simp))⟩

end Go.Proofs.YtopopbhpclhinaaDoor
