/- What the reference's Made, ComplexError and the statements' Little answer, where Closed answers as it should. -/
import Derived.Test.YtopopbhpclhinaaDoorClosedDefs
import Derived.Test.YtopopbhpclhinaaDoorFacetsOf
import Derived.Test.YtopopbhpclhinaaDoorFew
namespace Go.Proofs.YtopopbhpclhinaaDoor
open Go.RowKit Go.Sort

/-- What Made answers. -/
def MadeSays (l : List (List Int)) (w : World) (e : Ending) (w' : World) : Prop :=
  Below w.heap.size w w' ∧
    ((¬ (∀ x ∈ l, SetOk x) ∧ e = .returned (.tuple #[.slice none 0 0, .int .i64 4])) ∨
     ((∀ x ∈ l, SetOk x) ∧ Over (l.map srt) ∧ e = .returned (.tuple #[.slice none 0 0, .int .i64 2])) ∨
     ((∀ x ∈ l, SetOk x) ∧ ¬ Over (l.map srt) ∧ ∃ v all, e = .returned (.tuple #[v, .int .i64 0]) ∧ Rows w' v (facetsI all) ∧ IsAll (l.map srt) all ∧ all.length ≤ 600))

theorem all_short {ts all : List (List Int)} (h : IsAll ts all) (hn : ¬ Over ts) : ∀ x ∈ all, x.length ≤ 7 := fun x hx => by
  obtain ⟨_, t, ht, hs⟩ := (h.mem x).1 hx
  have := hs.length_le
  rcases Nat.lt_or_ge 7 t.length with h7 | h7
  · exact absurd (.inl ⟨t, ht, h7⟩) hn
  · omega

set_option maxRecDepth 100000 in
theorem made_ (CL : ClosedHolds) (vl : Value) (l : List (List Int)) (w : World) (hl : Rows w vl l) (hll : l.length ≤ 100000) (hle : ∀ x ∈ l, x.length ≤ 1000) :
    Calls Tryd.prog 15 #[vl] w fun e w' => MadeSays l w e w' := by
  have hcl := CL vl l w hl hll hle
  clear CL hl
  go_enter Tryd.func15, Tryd.ntmps15
  go_wp2_with fail
  refine hcl.mono ?_
  rintro e w2 ⟨hB, ⟨hno, rfl⟩ | ⟨hok, hov, rfl⟩ | ⟨hok, hov, v, all, rfl, hr, hal, h6⟩⟩
  · clear hcl
    go_wp2
    go_ret2
    exact ⟨hB, .inl ⟨hno, rfl⟩⟩
  · clear hcl
    go_wp2
    go_ret2
    exact ⟨hB, .inr (.inl ⟨hok, hov, rfl⟩)⟩
  · have hsh := all_short hal hov
    have hfo := facets_of v all w2 hr (by omega) (fun x hx => by have := hsh x hx; omega)
    have H : Hid ((∀ x ∈ l, SetOk x) ∧ ¬ Over (l.map srt) ∧ IsAll (l.map srt) all) := ⟨hok, hov, hal⟩
    clear hcl hok hov hal hsh hr
    go_wp2_with fail
    refine hfo.mono ?_
    rintro e w3 ⟨v3, rfl, h3, hB3⟩
    clear hfo
    go_wp2
    go_ret2
    exact ⟨hB.trans (hB3.mono hB.size), .inr (.inr ⟨H.out.1, H.out.2.1, v3, all, rfl, h3, H.out.2.2, h6⟩)⟩

/-- What ComplexError answers. -/
def ErrorSays (l : List (List Int)) (w : World) (e : Ending) (w' : World) : Prop :=
  Below w.heap.size w w' ∧
    ((¬ (∀ x ∈ l, SetOk x) ∧ e = .returned (.int .i64 4)) ∨ ((∀ x ∈ l, SetOk x) ∧ Over (l.map srt) ∧ e = .returned (.int .i64 2)) ∨
     ((∀ x ∈ l, SetOk x) ∧ ¬ Over (l.map srt) ∧ ∃ all, IsAll (l.map srt) all ∧ ((¬ l = facetsI all ∧ e = .returned (.int .i64 3)) ∨ (l = facetsI all ∧ e = .returned (.int .i64 0)))))

set_option maxRecDepth 100000 in
theorem complex_error (CL : ClosedHolds) (vl : Value) (l : List (List Int)) (w : World) (hl : Rows w vl l) (hll : l.length ≤ 100000) (hle : ∀ x ∈ l, x.length ≤ 1000) :
    Calls Tryd.prog 8 #[vl] w fun e w' => ErrorSays l w e w' := by
  have hma := made_ CL vl l w hl hll hle
  have HR : Hid (Rows w vl l) := hl
  clear CL hl
  go_enter Tryd.func8, Tryd.ntmps8
  go_wp2_with fail
  refine hma.mono ?_
  rintro e w2 ⟨hB, ⟨hno, rfl⟩ | ⟨hok, hov, rfl⟩ | ⟨hok, hov, v, all, rfl, hr, hal, h6⟩⟩
  · clear hma
    go_wp2
    go_ret
    exact ⟨hB, .inl ⟨hno, rfl⟩⟩
  · clear hma
    go_wp2
    go_ret
    exact ⟨hB, .inr (.inl ⟨hok, hov, rfl⟩)⟩
  · have hsl := same_lists vl v l (facetsI all) w2 (HR.out.below hB) hr (by omega) (fun x hx => by have := hle x hx; omega)
    have H : Hid ((∀ x ∈ l, SetOk x) ∧ ¬ Over (l.map srt) ∧ IsAll (l.map srt) all) := ⟨hok, hov, hal⟩
    clear hma hok hov hal hr
    by_cases hq : l = facetsI all
    · rw [decide_eq_true hq] at hsl
      have HQ : Hid (l = facetsI all) := hq
      clear hq
      go_wp2_with (go_at_call 30; refine hsl.mono ?_; rintro e w3 ⟨rfl, q, rfl⟩)
      go_ret
      exact ⟨hB.trans ⟨rfl, rfl, rfl, Nat.le_refl _, fun _ _ => rfl⟩, .inr (.inr ⟨H.out.1, H.out.2.1, all, H.out.2.2, .inr ⟨HQ.out, rfl⟩⟩)⟩
    · rw [decide_eq_false hq] at hsl
      have HQ : Hid (¬ l = facetsI all) := hq
      clear hq
      go_wp2_with (go_at_call 30; refine hsl.mono ?_; rintro e w3 ⟨rfl, q, rfl⟩)
      go_ret
      exact ⟨hB.trans ⟨rfl, rfl, rfl, Nat.le_refl _, fun _ _ => rfl⟩, .inr (.inr ⟨H.out.1, H.out.2.1, all, H.out.2.2, .inl ⟨HQ.out, rfl⟩⟩)⟩

set_option maxRecDepth 100000 in
theorem little_ (CL : ClosedHolds) (vl : Value) (l : List (List Int)) (m : Int) (w : World) (hl : Rows w vl l) :
    Calls Tryd.prog 7 #[vl, .int .i64 m] w fun e w' => ∃ q : Bool, e = .returned (.bool q) ∧ Below w.heap.size w w' ∧ (q = true → l.length ≤ 40 ∧ ∀ x ∈ l, x.length ≤ 12) := by
  have hfw := few_ vl l w hl
  have HR : Hid (Rows w vl l) := hl
  have HC : Hid ClosedHolds := CL
  clear CL hl
  go_enter Tryd.func7, Tryd.ntmps7
  go_wp2_with fail
  refine hfw.mono ?_
  rintro e w2 ⟨q, rfl, rfl, hq⟩
  cases q with
  | false =>
    clear hfw hq
    go_wp2
    go_ret
    exact ⟨false, rfl, Below.refl _ _, fun h => by cases h⟩
  | true =>
    have hb := hq rfl
    have hcl := HC.out vl l w2 HR.out (by omega) (fun x hx => by have := hb.2 x hx; omega)
    have HB : Hid (l.length ≤ 40 ∧ ∀ x ∈ l, x.length ≤ 12) := hb
    clear hfw hq hb
    go_wp2_with fail
    refine hcl.mono ?_
    rintro e w3 ⟨hB, ⟨hno, rfl⟩ | ⟨hok, hov, rfl⟩ | ⟨hok, hov, v, all, rfl, hr, hal, h6⟩⟩
    · clear hcl
      go_wp2
      go_ret
      exact ⟨_, rfl, hB, fun _ => HB.out⟩
    · clear hcl
      go_wp2
      go_ret
      exact ⟨_, rfl, hB, fun _ => HB.out⟩
    · obtain ⟨ar, cr, rfl, -, -⟩ := hr.open_
      clear hcl hr hal hok hov
      go_wp2
      go_ret
      exact ⟨_, rfl, hB, fun _ => HB.out⟩

end Go.Proofs.YtopopbhpclhinaaDoor
