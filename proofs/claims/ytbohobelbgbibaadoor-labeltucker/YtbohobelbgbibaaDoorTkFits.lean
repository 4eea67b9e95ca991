/- The rim, and whether a label fits, by the program. -/
import Derived.Test.YtbohobelbgbibaaDoorTkPlace
import Derived.Test.YtbohobelbgbibaaDoorLabFull
import Derived.Test.YtbohobelbgbibaaDoorTuckMath
namespace Go.Proofs.YtbohobelbgbibaaDoor
open Go.RowKit Go.Sort

set_option maxRecDepth 100000 in
set_option maxHeartbeats 1000000 in
theorem rim_ (n p : Nat) (h1 : 1 ≤ n) (hn : n ≤ 6) (hp : p ≤ 1000) (w : World) : Calls Tryd.prog 54 #[.int .i64 (n : Int), .int .i64 (p : Int)] w fun e w' => e = .returned (.bool (rimB4 n p)) ∧ ∃ q, w' = w.drewN q := by
  have hpl := place_ n p hn hp w
  unfold rimB4
  have l1 : p % sdN n ≤ p := Nat.mod_le _ _
  have l2 : p / sdN n ≤ p := Nat.div_le_self _ _
  obtain ⟨r, hr⟩ : ∃ r, p % sdN n = r := ⟨_, rfl⟩
  obtain ⟨q, hq⟩ : ∃ q, p / sdN n = q := ⟨_, rfl⟩
  rw [hr] at l1 hpl ⊢
  rw [hq] at l2 hpl ⊢
  clear hr hq
  by_cases c1 : r = 0
  · have b1 : (((r : Int) - (n : Int)) == -(n : Int)) = true := by rw [beq_iff_eq]; omega
    rw [show ((r == 0) || ((r == 2 * n) || ((q == 0) || (q == 2 * n)))) = true by simp [c1]]
    go_enter Tryd.func54, Tryd.ntmps54
    go_wp2_with (first
      | (go_at_call 55; refine hpl.mono ?_; rintro e V ⟨rfl, hV⟩; have HV := Hid.mk' hV; clear hV hpl)
      | fail)
    go_ret
    exact ⟨rfl, HV.out⟩
  · have c1' : (r == 0) = false := beq_false_of_ne c1
    by_cases c2 : r = 2 * n
    · have b1 : (((r : Int) - (n : Int)) == -(n : Int)) = false := beq_false_of_ne (by omega)
      have b2 : (((r : Int) - (n : Int)) == (n : Int)) = true := by rw [beq_iff_eq]; omega
      rw [show ((r == 0) || ((r == 2 * n) || ((q == 0) || (q == 2 * n)))) = true by simp [c2]]
      go_enter Tryd.func54, Tryd.ntmps54
      go_wp2_with (first
        | (go_at_call 55; refine hpl.mono ?_; rintro e V ⟨rfl, hV⟩; have HV := Hid.mk' hV; clear hV hpl)
        | fail)
      go_ret
      exact ⟨rfl, HV.out⟩
    · by_cases c3 : q = 0
      · have b1 : (((r : Int) - (n : Int)) == -(n : Int)) = false := beq_false_of_ne (by omega)
        have b2 : (((r : Int) - (n : Int)) == (n : Int)) = false := beq_false_of_ne (by omega)
        have b3 : (((q : Int) - (n : Int)) == -(n : Int)) = true := by rw [beq_iff_eq]; omega
        rw [show ((r == 0) || ((r == 2 * n) || ((q == 0) || (q == 2 * n)))) = true by simp [c3]]
        go_enter Tryd.func54, Tryd.ntmps54
        go_wp2_with (first
          | (go_at_call 55; refine hpl.mono ?_; rintro e V ⟨rfl, hV⟩; have HV := Hid.mk' hV; clear hV hpl)
          | fail)
        go_ret
        exact ⟨rfl, HV.out⟩
      · by_cases c4 : q = 2 * n
        · have b1 : (((r : Int) - (n : Int)) == -(n : Int)) = false := beq_false_of_ne (by omega)
          have b2 : (((r : Int) - (n : Int)) == (n : Int)) = false := beq_false_of_ne (by omega)
          have b3 : (((q : Int) - (n : Int)) == -(n : Int)) = false := beq_false_of_ne (by omega)
          have b4 : (((q : Int) - (n : Int)) == (n : Int)) = true := by rw [beq_iff_eq]; omega
          rw [show ((r == 0) || ((r == 2 * n) || ((q == 0) || (q == 2 * n)))) = true by simp [c4]]
          go_enter Tryd.func54, Tryd.ntmps54
          go_wp2_with (first
            | (go_at_call 55; refine hpl.mono ?_; rintro e V ⟨rfl, hV⟩; have HV := Hid.mk' hV; clear hV hpl)
            | fail)
          go_ret
          refine ⟨?_, HV.out⟩
          show Ending.returned (Value.bool _) = _
          simp <;> omega
        · have b1 : (((r : Int) - (n : Int)) == -(n : Int)) = false := beq_false_of_ne (by omega)
          have b2 : (((r : Int) - (n : Int)) == (n : Int)) = false := beq_false_of_ne (by omega)
          have b3 : (((q : Int) - (n : Int)) == -(n : Int)) = false := beq_false_of_ne (by omega)
          have b4 : (((q : Int) - (n : Int)) == (n : Int)) = false := beq_false_of_ne (by omega)
          rw [show ((r == 0) || ((r == 2 * n) || ((q == 0) || (q == 2 * n)))) = false by simp [c1, c2, c3, c4]]
          go_enter Tryd.func54, Tryd.ntmps54
          go_wp2_with (first
            | (go_at_call 55; refine hpl.mono ?_; rintro e V ⟨rfl, hV⟩; have HV := Hid.mk' hV; clear hV hpl)
            | fail)
          go_ret
          refine ⟨?_, HV.out⟩
          show Ending.returned (Value.bool _) = _
          simp

/-- Does a label fit at its place? -/
def fitsP (n : Nat) (ls : List Int) (p : Nat) : Prop := lab4 (labA ls p) ∧ (rimB4 n p = true → labA ls (ls.length - 1 - p) = -labA ls p)

set_option maxRecDepth 100000 in
set_option maxHeartbeats 2000000 in
theorem fits_ {ls : List Int} (n p : Nat) (h1 : 1 ≤ n) (hn : n ≤ 6) (vl : Value) (w : World) (hl : Ints w vl ls) (hp : p < ls.length) (h9 : ls.length ≤ 1000) : Calls Tryd.prog 38 #[.int .i64 (n : Int), vl, .int .i64 (p : Int)] w fun e w' => ∃ b : Bool, e = .returned (.bool b) ∧ (b = true ↔ fitsP n ls p) ∧ ∃ q, w' = w.drewN q := by
  have hrim : ∀ q, Calls Tryd.prog 54 #[.int .i64 (n : Int), .int .i64 (p : Int)] (w.drewN q) fun e w' => e = .returned (.bool (rimB4 n p)) ∧ ∃ r, w' = w.drewN r := fun q => (rim_ n p h1 hn (by omega) (w.drewN q)).mono fun e w' h => ⟨h.1, by obtain ⟨r, hr⟩ := h.2; exact ⟨q + r, by rw [hr]; simp [World.drewN, Nat.add_assoc]⟩⟩
  obtain ⟨al, cl, rfl, -, hx⟩ := hl.open_
  obtain ⟨bl, ol, rfl, -, -, hcl⟩ := hx (by omega)
  have c1 := hcl p hp
  have c2 := hcl (ls.length - 1 - p) (by omega)
  unfold fitsP labA
  obtain ⟨v, hv⟩ : ∃ v, ls[p]?.getD 0 = v := ⟨_, rfl⟩
  obtain ⟨u, hu⟩ : ∃ u, ls[ls.length - 1 - p]?.getD 0 = u := ⟨_, rfl⟩
  rw [hv] at c1 ⊢
  rw [hu] at c2 ⊢
  obtain ⟨m, hm⟩ : ∃ m, ls.length = m := ⟨_, rfl⟩
  rw [hm] at c2 hp h9 ⊢
  obtain ⟨o, ho⟩ : ∃ o, m - 1 - p = o := ⟨_, rfl⟩
  rw [ho] at c2
  have eo : (m : Int) - 1 - (p : Int) = (o : Int) := by omega
  have z0 : (0 : Int) ≤ (p : Int) := by omega
  have z1 : (p : Int) < (m : Int) := by omega
  have z2 : (0 : Int) ≤ (o : Int) := by omega
  have z3 : (o : Int) < (m : Int) := by omega
  obtain ⟨rb, hrb⟩ : ∃ b, rimB4 n p = b := ⟨_, rfl⟩
  rw [hrb] at hrim ⊢
  clear hl hx hcl hv hu hm ho hrb
  by_cases v1 : v = 1
  · subst v1
    cases rb with
    | false =>
      go_enter Tryd.func38, Tryd.ntmps38
      go_upto_region 6 with fail
      go_quiet (exact hrim _)
      go_wp2_with fail
      go_ret
      exact ⟨true, rfl, by simp [lab4], _, rfl⟩
    | true =>
      by_cases hu : u = -1
      · subst hu
        go_enter Tryd.func38, Tryd.ntmps38
        go_upto_region 6 with fail
        go_quiet (exact hrim _)
        go_wp2_with fail
        go_ret
        exact ⟨true, rfl, by simp [lab4], _, rfl⟩
      · have hu' : (u == -1) = false := beq_false_of_ne hu
        go_enter Tryd.func38, Tryd.ntmps38
        go_upto_region 6 with fail
        go_quiet (exact hrim _)
        go_wp2_with fail
        go_ret
        exact ⟨false, rfl, by simp [lab4, hu], _, rfl⟩
  · by_cases v2 : v = -1
    · subst v2
      cases rb with
      | false =>
        go_enter Tryd.func38, Tryd.ntmps38
        go_upto_region 6 with fail
        go_quiet (exact hrim _)
        go_wp2_with fail
        go_ret
        exact ⟨true, rfl, by simp [lab4], _, rfl⟩
      | true =>
        by_cases hu : u = 1
        · subst hu
          go_enter Tryd.func38, Tryd.ntmps38
          go_upto_region 6 with fail
          go_quiet (exact hrim _)
          go_wp2_with fail
          go_ret
          exact ⟨true, rfl, by simp [lab4], _, rfl⟩
        · have hu' : (u == 1) = false := beq_false_of_ne hu
          go_enter Tryd.func38, Tryd.ntmps38
          go_upto_region 6 with fail
          go_quiet (exact hrim _)
          go_wp2_with fail
          go_ret
          exact ⟨false, rfl, by simp [lab4, hu], _, rfl⟩
    · by_cases v3 : v = 2
      · subst v3
        cases rb with
        | false =>
          go_enter Tryd.func38, Tryd.ntmps38
          go_upto_region 6 with fail
          go_quiet (exact hrim _)
          go_wp2_with fail
          go_ret
          exact ⟨true, rfl, by simp [lab4], _, rfl⟩
        | true =>
          by_cases hu : u = -2
          · subst hu
            go_enter Tryd.func38, Tryd.ntmps38
            go_upto_region 6 with fail
            go_quiet (exact hrim _)
            go_wp2_with fail
            go_ret
            exact ⟨true, rfl, by simp [lab4], _, rfl⟩
          · have hu' : (u == -2) = false := beq_false_of_ne hu
            go_enter Tryd.func38, Tryd.ntmps38
            go_upto_region 6 with fail
            go_quiet (exact hrim _)
            go_wp2_with fail
            go_ret
            exact ⟨false, rfl, by simp [lab4, hu], _, rfl⟩
      · by_cases v4 : v = -2
        · subst v4
          cases rb with
          | false =>
            go_enter Tryd.func38, Tryd.ntmps38
            go_upto_region 6 with fail
            go_quiet (exact hrim _)
            go_wp2_with fail
            go_ret
            exact ⟨true, rfl, by simp [lab4], _, rfl⟩
          | true =>
            by_cases hu : u = 2
            · subst hu
              go_enter Tryd.func38, Tryd.ntmps38
              go_upto_region 6 with fail
              go_quiet (exact hrim _)
              go_wp2_with fail
              go_ret
              exact ⟨true, rfl, by simp [lab4], _, rfl⟩
            · have hu' : (u == 2) = false := beq_false_of_ne hu
              go_enter Tryd.func38, Tryd.ntmps38
              go_upto_region 6 with fail
              go_quiet (exact hrim _)
              go_wp2_with fail
              go_ret
              exact ⟨false, rfl, by simp [lab4, hu], _, rfl⟩
        · have w1 : (v == 1) = false := beq_false_of_ne v1
          have w2 : (v == -1) = false := beq_false_of_ne v2
          have w3 : (v == 2) = false := beq_false_of_ne v3
          have w4 : (v == -2) = false := beq_false_of_ne v4
          go_enter Tryd.func38, Tryd.ntmps38
          go_wp2_with fail
          go_ret
          exact ⟨false, rfl, by simp [lab4, v1, v2, v3, v4], 0, rfl⟩

end Go.Proofs.YtbohobelbgbibaaDoor
