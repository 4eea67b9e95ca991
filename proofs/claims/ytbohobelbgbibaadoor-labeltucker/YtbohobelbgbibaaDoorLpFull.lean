/- Small and full triangles, by the program. -/
import Derived.Test.YtbohobelbgbibaaDoorLpSmall
import Derived.Test.YtbohobelbgbibaaDoorLpCheck2
namespace Go.Proofs.YtbohobelbgbibaaDoor
open Go.RowKit Go.Sort

set_option maxRecDepth 100000 in
theorem smallX_ok (n : Nat) (h1 : 1 ≤ n) (h2 : n ≤ 12) (w : World) :
    Calls Tryd.prog 8 #[.int .i64 (n : Int)] w fun e w' => ∃ v, e = .returned (.tuple #[v, .nilIface]) ∧ TriRow w.heap.size w' v (triesL n) ∧ Below w.heap.size w w' := by
  have hp := parts_ok n h1 h2 w
  have hs := small_ n h1 h2 w
  go_enter Tryd.func8, Tryd.ntmps8
  go_wp2_with (first
    | (go_at_call 25; refine hp.mono ?_; rintro e w ⟨rfl, rfl⟩; clear hp)
    | (go_at_call 26; refine hs.mono ?_; rintro e W1 ⟨v, rfl, hr, hb⟩; have H1 := Hid.mk' (And.intro hr hb); obtain ⟨av, cv, rfl⟩ := hr.form; clear hr hb hs)
    | fail)
  go_ret2
  exact ⟨_, rfl, H1.out⟩

set_option maxRecDepth 100000 in
theorem smallX_bad {a : Nat → Addr} {sx : Nat → ByteArray} (n : Int) (hb : n < 1 ∨ 12 < n) (w : World) (hE : Errs a sx w) :
    Calls Tryd.prog 8 #[.int .i64 n] w fun e w' => e = .returned (.tuple #[.slice none 0 0, erV (a 1)]) ∧ w' = w := by
  have hp := parts_bad n hb w hE
  unfold erV at hp ⊢
  clear hE
  go_enter Tryd.func8, Tryd.ntmps8
  go_wp2_with (first
    | (go_at_call 25; refine hp.mono ?_; rintro e w ⟨rfl, rfl⟩; clear hp)
    | fail)
  go_ret2
  exact ⟨rfl, rfl⟩

theorem fullB_three (x y z : Int) : ((x != y) && ((y != z) && (x != z))) = (if x = y then false else if x = z then false else (y != z)) := by
  by_cases h1 : x = y
  · rw [if_pos h1, h1]; simp
  · rw [if_neg h1, bne_iff_ne.2 h1, Bool.true_and]
    by_cases h2 : x = z
    · rw [if_pos h2, h2]; simp
    · rw [if_neg h2, bne_iff_ne.2 h2, Bool.and_true]

set_option maxRecDepth 100000 in
set_option maxHeartbeats 1000000 in
theorem full_ {ls : List Int} (a b c : Nat) (vl : Value) (w : World) (hl : Ints w vl ls) (ha : a < ls.length) (hb : b < ls.length) (hc : c < ls.length) :
    Calls Tryd.prog 31 #[vl, aggT ((a : Int), (b : Int), (c : Int))] w fun e w' => e = .returned (.bool (fullB ls a b c)) ∧ Below w.heap.size w w' := by
  unfold aggT
  dsimp only
  obtain ⟨al, cl, rfl, -, hx1⟩ := hl.open_
  obtain ⟨bl, ol, rfl, -, -, hcl⟩ := hx1 (by omega)
  have l0 := hcl a ha
  have l1 := hcl b hb
  have l2 := hcl c hc
  unfold fullB
  obtain ⟨x, hx⟩ : ∃ p, labA ls a = p := ⟨_, rfl⟩
  obtain ⟨y, hy⟩ : ∃ p, labA ls b = p := ⟨_, rfl⟩
  obtain ⟨z, hz⟩ : ∃ p, labA ls c = p := ⟨_, rfl⟩
  rw [show ls[a]?.getD 0 = x from hx] at l0
  rw [show ls[b]?.getD 0 = y from hy] at l1
  rw [show ls[c]?.getD 0 = z from hz] at l2
  rw [hx, hy, hz, fullB_three]
  obtain ⟨m, hm⟩ : ∃ m, ls.length = m := ⟨_, rfl⟩
  rw [hm] at ha hb hc ⊢
  obtain ⟨b0, b1, b2, hB, -⟩ := box3 w (.int .i64 (a : Int)) (.int .i64 (b : Int)) (.int .i64 (c : Int)) 36
  obtain ⟨W2, hW2⟩ : ∃ W2, w.alloc (.cells #[.int .i64 (a : Int), .int .i64 (b : Int), .int .i64 (c : Int)] 36) = W2 := ⟨_, rfl⟩
  rw [hW2] at b0 b1 b2 hB
  have l0' := (hB.cell (p := ⟨bl, ol + a, none⟩) (cell_lt l0)).trans l0
  have l1' := (hB.cell (p := ⟨bl, ol + b, none⟩) (cell_lt l1)).trans l1
  have l2' := (hB.cell (p := ⟨bl, ol + c, none⟩) (cell_lt l2)).trans l2
  have HG : Hid (w.alloc (.cells #[.int .i64 (a : Int), .int .i64 (b : Int), .int .i64 (c : Int)] 36) = W2 ∧ ∀ q, Below w.heap.size w (W2.drewN q)) := ⟨hW2, fun q => hB.trans ((drewN_below W2 q).mono hB.size)⟩
  have z0 : (0 : Int) ≤ (a : Int) := by omega
  have z1 : (a : Int) < (m : Int) := by omega
  have z2 : (0 : Int) ≤ (b : Int) := by omega
  have z3 : (b : Int) < (m : Int) := by omega
  have z4 : (0 : Int) ≤ (c : Int) := by omega
  have z5 : (c : Int) < (m : Int) := by omega
  clear hl hx1 hcl hx hy hz hm hB hW2 l0 l1 l2
  by_cases xy : x = y
  · subst xy
    rw [if_pos rfl]
    go_enter Tryd.func31, Tryd.ntmps31
    go_upto_region 1 with fail
    rw [HG.out.1]
    go_quiet (fail)
    go_wp2_with fail
    go_ret
    exact ⟨rfl, HG.out.2 _⟩
  · rw [if_neg xy]
    have e1 : (x != y) = true := by simp [xy]
    have e1' : (x == y) = false := by simp [xy]
    by_cases xz : x = z
    · subst xz
      rw [if_pos rfl]
      go_enter Tryd.func31, Tryd.ntmps31
      go_upto_region 1 with fail
      rw [HG.out.1]
      go_quiet (fail)
      go_wp2_with fail
      go_ret
      exact ⟨rfl, HG.out.2 _⟩
    · rw [if_neg xz]
      have e2 : (x != z) = true := by simp [xz]
      have e2' : (x == z) = false := by simp [xz]
      go_enter Tryd.func31, Tryd.ntmps31
      go_upto_region 1 with fail
      rw [HG.out.1]
      go_quiet (fail)
      go_wp2_with fail
      go_ret
      exact ⟨rfl, HG.out.2 _⟩

end Go.Proofs.YtbohobelbgbibaaDoor
