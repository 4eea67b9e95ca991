/- What the reference's Made answers, where Closed answers as it should. What the statements' Few answers: true only of few sets of few numbers each; nothing is written. What the reference's Made, ComplexError and the statements' Little answer, where Closed answers as it should. -/
import Derived.Test.YtmndhclmhjmbpaaGreatDoorClosedDefs
import Derived.Test.YtmndhclmhjmbpaaGreatDoorFacetsOf
import Derived.Test.YtmndhclmhjmbpaaGreatDoorRefC
namespace Go.Proofs.YtmndhclmhjmbpaaGreatDoor
open Go.RowKit Go.Sort

/-- What Made answers. -/
def MadeSays (l : List (List Int)) (w : World) (e : Ending) (w' : World) : Prop :=
  Below w.heap.size w w' ∧
    ((¬ (∀ x ∈ l, SetOk x) ∧ e = .returned (.tuple #[.slice none 0 0, .int .i64 4])) ∨
     ((∀ x ∈ l, SetOk x) ∧ Over (l.map srt) ∧ e = .returned (.tuple #[.slice none 0 0, .int .i64 2])) ∨
     ((∀ x ∈ l, SetOk x) ∧ ¬ Over (l.map srt) ∧ ∃ v all, e = .returned (.tuple #[v, .int .i64 0]) ∧ Rows w' v (facetsI all) ∧ IsAll (l.map srt) all ∧ all.length ≤ 600))

theorem all_short {ts all : List (List Int)} (h : IsAll ts all) (hn : ¬ Over ts) : ∀ x ∈ all, x.length ≤ 7 := fun x hx => by
  obtain ⟨_, t, ht, hs⟩ := (h.mem x).1 hx
  have := hs.length_le
  rcases Nat.lt_or_ge 7 t.length with h7 | h7
  · exact absurd (.inl ⟨t, ht, h7⟩) hn
  · omega

set_option maxRecDepth 100000 in
theorem made_ (CL : ClosedHolds) (vl : Value) (l : List (List Int)) (w : World) (hl : Rows w vl l) (hll : l.length ≤ 100000) (hle : ∀ x ∈ l, x.length ≤ 1000) :
    Calls Tryz.prog 39 #[vl] w fun e w' => MadeSays l w e w' := by
  have hcl := CL vl l w hl hll hle
  clear CL hl
  go_enter Tryz.func39, Tryz.ntmps39
  go_wp2_with fail
  refine hcl.mono ?_
  rintro e w2 ⟨hB, ⟨hno, rfl⟩ | ⟨hok, hov, rfl⟩ | ⟨hok, hov, v, all, rfl, hr0, hal, h6⟩⟩
  · clear hcl
    go_wp2
    go_ret2
    exact ⟨hB, .inl ⟨hno, rfl⟩⟩
  · clear hcl
    go_wp2
    go_ret2
    exact ⟨hB, .inr (.inl ⟨hok, hov, rfl⟩)⟩
  · have hr := hr0.any
    have hsh := all_short hal hov
    have hfo := facets_of v all w2 hr (by omega) (fun x hx => by have := hsh x hx; omega)
    have H : Hid ((∀ x ∈ l, SetOk x) ∧ ¬ Over (l.map srt) ∧ IsAll (l.map srt) all) := ⟨hok, hov, hal⟩
    clear hcl hok hov hal hsh hr
    go_wp2_with fail
    refine hfo.mono ?_
    rintro e w3 ⟨v3, rfl, h3, hB3⟩
    clear hfo
    go_wp2
    go_ret2
    exact ⟨hB.trans (hB3.mono hB.size), .inr (.inr ⟨H.out.1, H.out.2.1, v3, all, rfl, h3, H.out.2.2, h6⟩)⟩

end Go.Proofs.YtmndhclmhjmbpaaGreatDoor

namespace Go.Proofs.YtmndhclmhjmbpaaGreatDoor
open Go.RowKit Go.Sort

theorem take_all {l : List (List Int)} {k m : Nat} (hk : k < l.length) (h : ∀ x ∈ l.take k, x.length ≤ m) (hx : (l[k]?.getD []).length ≤ m) : ∀ x ∈ l.take (k + 1), x.length ≤ m := by
  rw [List.getElem?_eq_getElem hk, Option.getD_some] at hx
  rw [List.take_add_one, List.getElem?_eq_getElem hk]
  intro x hm
  rcases List.mem_append.1 hm with a | a
  · exact h x a
  · simp at a; subst a; exact hx

set_option maxRecDepth 100000 in
theorem few_ (vl : Value) (l : List (List Int)) (w : World) (hl : Rows w vl l) :
    Calls Tryz.prog 26 #[vl] w fun e w' => ∃ q : Bool, e = .returned (.bool q) ∧ w' = w ∧ (q = true → l.length ≤ 40 ∧ ∀ x ∈ l, x.length ≤ 12) := by
  obtain ⟨a, ca, rfl, -, ha⟩ := hl.open_
  by_cases h40 : 40 < l.length
  · clear ha
    go_enter Tryz.func26, Tryz.ntmps26
    go_wp2
    go_ret
    exact ⟨false, rfl, rfl, fun h => by cases h⟩
  · go_enter Tryz.func26, Tryz.ntmps26
    go_wp2
    go_loopw [3, 4] (fun v p W => ∃ k n : Nat, k ≤ l.length ∧ p = .int .i64 k ∧ v = .int .i64 n ∧ n ≤ 12 * k ∧ W = w ∧ ∀ x ∈ l.take k, x.length ≤ 12) (fun _ p _ => l.length - (intOf p).toNat)
    case atStart => exact ⟨0, 0, by omega, rfl, rfl, by omega, rfl, by simp⟩
    case round =>
      obtain ⟨k, n, hk, rfl, rfl, hn, rfl, hall⟩ := hrel
      have HA : Hid (∀ x ∈ l.take k, x.length ≤ 12) := hall
      clear hall
      by_cases hlt : k < l.length
      · obtain ⟨b, o, rfl, -, -, c⟩ := ha (by omega)
        obtain ⟨a1, p1, g1, i1⟩ := c k hlt
        obtain ⟨x, hxe⟩ : ∃ x, l[k]?.getD [] = x := ⟨_, rfl⟩
        rw [hxe] at g1
        have HX : Hid (l[k]?.getD [] = x) := hxe
        clear c i1 hxe ha
        by_cases h12 : 12 < x.length
        · go_wp2
          go_ret
          exact ⟨false, rfl, rfl, fun h => by cases h⟩
        · go_wp2
          go_roundw
          case rel => exact ⟨k + 1, n + x.length, by omega, by go_num, by go_num, by omega, (by first | trivial | rfl), take_all hlt HA.out (by rw [HX.out]; omega)⟩
          case measure => simp [intOf]; omega
      · obtain rfl : k = l.length := by omega
        have hall := HA.out
        rw [List.take_length] at hall
        have HF : Hid (∀ x ∈ l, x.length ≤ 12) := hall
        clear ha hall
        go_wp2
        go_ret
        exact ⟨_, rfl, rfl, fun _ => ⟨by omega, HF.out⟩⟩

end Go.Proofs.YtmndhclmhjmbpaaGreatDoor

namespace Go.Proofs.YtmndhclmhjmbpaaGreatDoor
open Go.RowKit Go.Sort

/-- What ComplexError answers. -/
def ErrorSays (l : List (List Int)) (w : World) (e : Ending) (w' : World) : Prop :=
  Below w.heap.size w w' ∧
    ((¬ (∀ x ∈ l, SetOk x) ∧ e = .returned (.int .i64 4)) ∨ ((∀ x ∈ l, SetOk x) ∧ Over (l.map srt) ∧ e = .returned (.int .i64 2)) ∨
     ((∀ x ∈ l, SetOk x) ∧ ¬ Over (l.map srt) ∧ ∃ all, IsAll (l.map srt) all ∧ ((¬ l = facetsI all ∧ e = .returned (.int .i64 3)) ∨ (l = facetsI all ∧ e = .returned (.int .i64 0)))))

set_option maxRecDepth 100000 in
theorem complex_error (CL : ClosedHolds) (vl : Value) (l : List (List Int)) (w : World) (hl : Rows w vl l) (hll : l.length ≤ 100000) (hle : ∀ x ∈ l, x.length ≤ 1000) :
    Calls Tryz.prog 15 #[vl] w fun e w' => ErrorSays l w e w' := by
  have hma := made_ CL vl l w hl hll hle
  have HR : Hid (Rows w vl l) := hl
  clear CL hl
  go_enter Tryz.func15, Tryz.ntmps15
  go_wp2_with fail
  refine hma.mono ?_
  rintro e w2 ⟨hB, ⟨hno, rfl⟩ | ⟨hok, hov, rfl⟩ | ⟨hok, hov, v, all, rfl, hr0, hal, h6⟩⟩
  · clear hma
    go_wp2
    go_ret
    exact ⟨hB, .inl ⟨hno, rfl⟩⟩
  · clear hma
    go_wp2
    go_ret
    exact ⟨hB, .inr (.inl ⟨hok, hov, rfl⟩)⟩
  · have hr := hr0.any
    have hsl := same_lists vl v l (facetsI all) w2 (HR.out.below hB) hr (by omega) (fun x hx => by have := hle x hx; omega)
    have H : Hid ((∀ x ∈ l, SetOk x) ∧ ¬ Over (l.map srt) ∧ IsAll (l.map srt) all) := ⟨hok, hov, hal⟩
    clear hma hok hov hal hr
    by_cases hq : l = facetsI all
    · rw [decide_eq_true hq] at hsl
      have HQ : Hid (l = facetsI all) := hq
      clear hq
      go_wp2_with (go_at_call 22; refine hsl.mono ?_; rintro e w3 ⟨rfl, q, rfl⟩)
      go_ret
      exact ⟨hB.trans ⟨rfl, rfl, rfl, Nat.le_refl _, fun _ _ => rfl⟩, .inr (.inr ⟨H.out.1, H.out.2.1, all, H.out.2.2, .inr ⟨HQ.out, rfl⟩⟩)⟩
    · rw [decide_eq_false hq] at hsl
      have HQ : Hid (¬ l = facetsI all) := hq
      clear hq
      go_wp2_with (go_at_call 22; refine hsl.mono ?_; rintro e w3 ⟨rfl, q, rfl⟩)
      go_ret
      exact ⟨hB.trans ⟨rfl, rfl, rfl, Nat.le_refl _, fun _ _ => rfl⟩, .inr (.inr ⟨H.out.1, H.out.2.1, all, H.out.2.2, .inl ⟨HQ.out, rfl⟩⟩)⟩

set_option maxRecDepth 100000 in
theorem little_ (CL : ClosedHolds) (vl : Value) (l : List (List Int)) (m : Int) (w : World) (hl : Rows w vl l) :
    Calls Tryz.prog 6 #[vl, .int .i64 m] w fun e w' => ∃ q : Bool, e = .returned (.bool q) ∧ Below w.heap.size w w' ∧ (q = true → l.length ≤ 40 ∧ ∀ x ∈ l, x.length ≤ 12) := by
  have hfw := few_ vl l w hl
  have HR : Hid (Rows w vl l) := hl
  have HC : Hid ClosedHolds := CL
  clear CL hl
  go_enter Tryz.func6, Tryz.ntmps6
  go_wp2_with fail
  refine hfw.mono ?_
  rintro e w2 ⟨q, rfl, rfl, hq⟩
  cases q with
  | false =>
    clear hfw hq
    go_wp2
    go_ret
    exact ⟨false, rfl, Below.refl _ _, fun h => by cases h⟩
  | true =>
    have hb := hq rfl
    have hcl := HC.out vl l w2 HR.out (by omega) (fun x hx => by have := hb.2 x hx; omega)
    have HB : Hid (l.length ≤ 40 ∧ ∀ x ∈ l, x.length ≤ 12) := hb
    clear hfw hq hb
    go_wp2_with fail
    refine hcl.mono ?_
    rintro e w3 ⟨hB, ⟨hno, rfl⟩ | ⟨hok, hov, rfl⟩ | ⟨hok, hov, v, all, rfl, hr0, hal, h6⟩⟩
    · clear hcl
      go_wp2
      go_ret
      exact ⟨_, rfl, hB, fun _ => HB.out⟩
    · clear hcl
      go_wp2
      go_ret
      exact ⟨_, rfl, hB, fun _ => HB.out⟩
    · have hr := hr0.any
      obtain ⟨ar, cr, rfl, -, -⟩ := hr.open_
      clear hcl hr hal hok hov
      go_wp2
      go_ret
      exact ⟨_, rfl, hB, fun _ => HB.out⟩

end Go.Proofs.YtmndhclmhjmbpaaGreatDoor
