/- The walk of Names: it answers true wherever the eight errors of package api and errors.errorType hold what the program's text lays there; nothing that was there is turned. -/
import Derived.Test.YtccjajmfkgifmaaDoorCode
import Derived.Deep.RegionHeld3
namespace Go.Proofs.YtccjajmfkgifmaaDoor
open Go.RowKit Go.Extern.Stop Go.Stop Go.Extern

theorem coded_nil (w : World) : Calls Tryd.prog 6 #[.nilIface, .int .i64 0] w fun e w' => e = .returned (.bool true) ∧ w' = w := by
  go_enter Tryd.func6, Tryd.ntmps6
  go_wp2_with (go_at_call 5; refine (code_nil _).mono ?_; rintro e w' ⟨rfl, rfl⟩)
  go_ret
  exact ⟨rfl, rfl⟩
theorem coded_es {a : Nat → Addr} {s : Nat → ByteArray} (w : World) (hE : Errs a s w) (i : Nat) (hi : i < 8) :
    Calls Tryd.prog 6 #[.iface 40 (.pointer (some (a i))), .int .i64 ((i : Int) + 1)] w fun e w' => e = .returned (.bool true) ∧ Below w.heap.size w w' := by
  have hb : ∀ k, k < 8 → (a i = a k ↔ k = i) := fun k hk => ⟨fun h => by
    rcases Nat.decEq k i with h' | h'
    · exact absurd h.symm (hE.apart k i hk hi h')
    · exact h', fun h => by rw [h]⟩
  have hc := code_es w hE (a i) i (Nat.le_of_lt hi) hb (hE.row i hi)
  rw [codeOf_lt hi] at hc
  clear hb
  go_enter Tryd.func6, Tryd.ntmps6
  go_wp2_with (go_at_call 5; refine hc.mono ?_; rintro e w' ⟨rfl, hw⟩)
  go_ret
  exact ⟨rfl, hw⟩
theorem error_es (b : Addr) (t : ByteArray) (w : World) (h : w.cell? b = some (.string t)) : Calls Tryd.prog 37 #[.pointer (some b)] w fun e w' => e = .returned (.string t) ∧ w' = w := by
  go_enter Tryd.func37, Tryd.ntmps37
  go_wp2
  go_ret
  exact ⟨rfl, rfl⟩
theorem new_es (t : ByteArray) (w : World) : Calls Tryd.prog 7 #[.string t] w fun e w' => e = .returned (.iface 40 (.pointer (some ⟨w.heap.size, 0, none⟩))) ∧ w' = w.alloc (.cells #[.string t] 42) := by
  go_enter Tryd.func7, Tryd.ntmps7
  go_wp2
  go_ret
  exact ⟨rfl, rfl⟩

/-- SameInts of two rows that hold the same numbers. -/
theorem same_ints (b1 b2 n c1 c2 : Nat) (l : List Int) (w : World) (hm : n ≤ 1000000)
    (h1 : ∀ k, k < n → w.cell? ⟨b1, k, none⟩ = some (.int .i64 (l.getD k 0))) (h2 : ∀ k, k < n → w.cell? ⟨b2, k, none⟩ = some (.int .i64 (l.getD k 0))) :
    Calls Tryd.prog 4 #[.slice (some ⟨b1, 0, none⟩) n c1, .slice (some ⟨b2, 0, none⟩) n c2] w fun e w' => e = .returned (.bool true) ∧ ∃ q, w' = w.drewN q := by
  go_enter Tryd.func4, Tryd.ntmps4
  go_wp2
  go_loopw [5] (fun v W => ∃ k q : Nat, k ≤ n ∧ v = .int .i64 k ∧ W = w.drewN q) (fun v _ => n - (intOf v).toNat)
  case atStart => exact ⟨0, 0, by omega, rfl, rfl⟩
  case round =>
    obtain ⟨k, q, hk, rfl, rfl⟩ := hrel
    by_cases hlt : k < n
    · have g1 := h1 k hlt
      have g2 := h2 k hlt
      clear h1 h2
      go_wp2_with fail
      go_quiet (fail)
      go_wp2
      go_roundw
      case rel => exact ⟨k + 1, _, by omega, by go_num, rfl⟩
      case measure => simp [intOf]; omega
    · clear h1 h2
      go_wp2
      go_ret
      exact ⟨rfl, q, rfl⟩

theorem Errs.of_heap {a : Nat → Addr} {s : Nat → ByteArray} {w w' : World} (h : Errs a s w) (e : w'.heap = w.heap) : Errs a s w' where
  typ := by have := h.typ; simp only [World.cell?, e] at this ⊢; exact this
  glob := fun k hk => by have := h.glob k hk; simp only [World.cell?, e] at this ⊢; exact this
  row := fun k hk => by rw [e]; exact h.row k hk
  text := fun k hk => by have := h.text k hk; simp only [World.cell?, e] at this ⊢; exact this
  apart := h.apart

/-- The 21 numbers of package api. -/
def nums : List Int := [60, 1048576, 4611686018427387904, 99, 600, 6, 20000, 24, 120, 60, 12, 400, 400, 5000, 4, 4096, 12, 12, 400, 12, 16]
/-- The eight short texts. -/
def shorts : List ByteArray := [⟨#[116, 101, 120, 116]⟩, ⟨#[98, 111, 117, 110, 100]⟩, ⟨#[115, 104, 97, 112, 101]⟩, ⟨#[102, 97, 99, 101]⟩, ⟨#[110, 97, 109, 101]⟩, ⟨#[110, 111, 110, 101]⟩, ⟨#[111, 114, 100, 101, 114]⟩, ⟨#[107, 105, 110, 100]⟩]
theorem rowN {α : Type} (f : α → Value) (l : List α) (d : α) (k : Nat) (hk : k < l.length) : (l.map f).toArray[k]? = some (f (l.getD k d)) := by
  simp [hk]
theorem short_le (k : Nat) : (shorts.getD k ⟨#[]⟩).size ≤ 5 := by
  match k with
  | 0 | 1 | 2 | 3 | 4 | 5 | 6 | 7 => decide
  | n + 8 => exact Nat.zero_le _
theorem method_error (b : Addr) (w : World) : (method 201 40 (.pointer (some b)) "Error").run Tryd.prog w = .ok (37, .pointer (some b)) w := by kernel_rfl
theorem nil_ahead (b : Addr) (w : World) : (nilAhead 201 40 (.pointer (some b)) "Error").run Tryd.prog w = .ok (some false) w := by kernel_rfl

theorem round_below {w4 wr w5 w6 : World} (h1 : Below w4.heap.size w4 wr) (h2 : Below wr.heap.size wr w5) (h3 : Below w5.drew.heap.size w5.drew w6) : Below w4.heap.size w4 w6 :=
  h1.trans ((h2.drew.trans (h3.mono h2.size)).mono h1.size)

set_option maxHeartbeats 2000000 in
theorem names_true {a : Nat → Addr} {s : Nat → ByteArray} (w : World) (hE : Errs a s w) (hs : ∀ k, k < 8 → s k = ⟨#[104, 97, 110, 100, 108, 101, 98, 111, 100, 121, 58, 32]⟩ ++ shorts.getD k ⟨#[]⟩) :
    Calls Tryd.prog 3 #[] w fun e w' => e = .returned (.bool true) ∧ Below w.heap.size w w' := by
  have h1 : ∀ k, k < 21 → ((w.alloc (.cells (nums.map (Value.int .i64)).toArray 3)).alloc (.cells (nums.map (Value.int .i64)).toArray 3)).cell? ⟨w.heap.size, k, none⟩ = some (.int .i64 (nums.getD k 0)) := fun k hk => by
    rw [World.cell?_alloc_lt _ _ _ (by simp), World.cell?_alloc_new, rowN (Value.int .i64) nums 0 k hk]
  have h2 : ∀ k, k < 21 → ((w.alloc (.cells (nums.map (Value.int .i64)).toArray 3)).alloc (.cells (nums.map (Value.int .i64)).toArray 3)).cell? ⟨w.heap.size + 1, k, none⟩ = some (.int .i64 (nums.getD k 0)) := fun k hk => by
    rw [World.cell?_alloc_at _ _ _ _ (by simp), rowN (Value.int .i64) nums 0 k hk]
  have hS := same_ints w.heap.size (w.heap.size + 1) 21 21 21 nums _ (by decide) h1 h2
  have hB0 : Below w.heap.size w ((w.alloc (.cells (nums.map (Value.int .i64)).toArray 3)).alloc (.cells (nums.map (Value.int .i64)).toArray 3)) := ((Below.refl _ _).alloc (Nat.le_refl _) _).alloc (by simp) _
  clear h1 h2
  go_enter Tryd.func3, Tryd.ntmps3
  go_wp2_with fail
  refine hS.mono ?_
  rintro e w3 ⟨rfl, q, hw3⟩
  have hB3 : Below w.heap.size w w3 := by
    rw [hw3]; exact hB0.trans ⟨rfl, rfl, rfl, Nat.le_refl _, fun _ _ => rfl⟩
  clear hw3 hB0 hS
  have hE3 := hE.below hB3
  have g0 := hE3.glob 0 (by decide)
  have g1 := hE3.glob 1 (by decide)
  have g2 := hE3.glob 2 (by decide)
  have g3 := hE3.glob 3 (by decide)
  have g4 := hE3.glob 4 (by decide)
  have g5 := hE3.glob 5 (by decide)
  have g6 := hE3.glob 6 (by decide)
  have g7 := hE3.glob 7 (by decide)
  go_wp2_with fail
  have hB4 := hB3.trans ((((Below.refl w3.heap.size w3).alloc (Nat.le_refl _) (.cells #[.iface 40 (.pointer (some (a 0))), .iface 40 (.pointer (some (a 1))), .iface 40 (.pointer (some (a 2))), .iface 40 (.pointer (some (a 3))), .iface 40 (.pointer (some (a 4))), .iface 40 (.pointer (some (a 5))), .iface 40 (.pointer (some (a 6))), .iface 40 (.pointer (some (a 7)))] 25)).alloc (by simp) (.cells #[.string ⟨#[116, 101, 120, 116]⟩, .string ⟨#[98, 111, 117, 110, 100]⟩, .string ⟨#[115, 104, 97, 112, 101]⟩, .string ⟨#[102, 97, 99, 101]⟩, .string ⟨#[110, 97, 109, 101]⟩, .string ⟨#[110, 111, 110, 101]⟩, .string ⟨#[111, 114, 100, 101, 114]⟩, .string ⟨#[107, 105, 110, 100]⟩] 9)).mono hB3.size)
  have he4 : ∀ k, k < 8 → ((w3.alloc (.cells #[.iface 40 (.pointer (some (a 0))), .iface 40 (.pointer (some (a 1))), .iface 40 (.pointer (some (a 2))), .iface 40 (.pointer (some (a 3))), .iface 40 (.pointer (some (a 4))), .iface 40 (.pointer (some (a 5))), .iface 40 (.pointer (some (a 6))), .iface 40 (.pointer (some (a 7)))] 25)).alloc (.cells #[.string ⟨#[116, 101, 120, 116]⟩, .string ⟨#[98, 111, 117, 110, 100]⟩, .string ⟨#[115, 104, 97, 112, 101]⟩, .string ⟨#[102, 97, 99, 101]⟩, .string ⟨#[110, 97, 109, 101]⟩, .string ⟨#[110, 111, 110, 101]⟩, .string ⟨#[111, 114, 100, 101, 114]⟩, .string ⟨#[107, 105, 110, 100]⟩] 9)).cell? ⟨w3.heap.size, k, none⟩ = some (.iface 40 (.pointer (some (a k)))) := fun k hk => by
    rw [World.cell?_alloc_lt _ _ _ (by simp)]; exact row8 a w3 k hk
  have ht4 : ∀ k, k < 8 → ((w3.alloc (.cells #[.iface 40 (.pointer (some (a 0))), .iface 40 (.pointer (some (a 1))), .iface 40 (.pointer (some (a 2))), .iface 40 (.pointer (some (a 3))), .iface 40 (.pointer (some (a 4))), .iface 40 (.pointer (some (a 5))), .iface 40 (.pointer (some (a 6))), .iface 40 (.pointer (some (a 7)))] 25)).alloc (.cells #[.string ⟨#[116, 101, 120, 116]⟩, .string ⟨#[98, 111, 117, 110, 100]⟩, .string ⟨#[115, 104, 97, 112, 101]⟩, .string ⟨#[102, 97, 99, 101]⟩, .string ⟨#[110, 97, 109, 101]⟩, .string ⟨#[110, 111, 110, 101]⟩, .string ⟨#[111, 114, 100, 101, 114]⟩, .string ⟨#[107, 105, 110, 100]⟩] 9)).cell? ⟨w3.heap.size + 1, k, none⟩ = some (.string (shorts.getD k ⟨#[]⟩)) := fun k hk => by
    rw [World.cell?_alloc_at _ _ _ _ (by simp)]; exact rowN Value.string shorts ⟨#[]⟩ k hk
  have hz4 : w3.heap.size + 1 < ((w3.alloc (.cells #[.iface 40 (.pointer (some (a 0))), .iface 40 (.pointer (some (a 1))), .iface 40 (.pointer (some (a 2))), .iface 40 (.pointer (some (a 3))), .iface 40 (.pointer (some (a 4))), .iface 40 (.pointer (some (a 5))), .iface 40 (.pointer (some (a 6))), .iface 40 (.pointer (some (a 7)))] 25)).alloc (.cells #[.string ⟨#[116, 101, 120, 116]⟩, .string ⟨#[98, 111, 117, 110, 100]⟩, .string ⟨#[115, 104, 97, 112, 101]⟩, .string ⟨#[102, 97, 99, 101]⟩, .string ⟨#[110, 97, 109, 101]⟩, .string ⟨#[110, 111, 110, 101]⟩, .string ⟨#[111, 114, 100, 101, 114]⟩, .string ⟨#[107, 105, 110, 100]⟩] 9)).heap.size := by simp
  generalize (w3.alloc (.cells #[.iface 40 (.pointer (some (a 0))), .iface 40 (.pointer (some (a 1))), .iface 40 (.pointer (some (a 2))), .iface 40 (.pointer (some (a 3))), .iface 40 (.pointer (some (a 4))), .iface 40 (.pointer (some (a 5))), .iface 40 (.pointer (some (a 6))), .iface 40 (.pointer (some (a 7)))] 25)).alloc (.cells #[.string ⟨#[116, 101, 120, 116]⟩, .string ⟨#[98, 111, 117, 110, 100]⟩, .string ⟨#[115, 104, 97, 112, 101]⟩, .string ⟨#[102, 97, 99, 101]⟩, .string ⟨#[110, 97, 109, 101]⟩, .string ⟨#[110, 111, 110, 101]⟩, .string ⟨#[111, 114, 100, 101, 114]⟩, .string ⟨#[107, 105, 110, 100]⟩] 9) = w4 at hB4 he4 ht4 hz4 ⊢
  have hE4 := hE.below hB4
  clear g0 g1 g2 g3 g4 g5 g6 g7 hE3
  go_loopw [5] (fun v W => ∃ k : Nat, k ≤ 8 ∧ v = .int .i64 k ∧ Below w4.heap.size w4 W) (fun v _ => 8 - (intOf v).toNat)
  case atStart => exact ⟨0, by omega, rfl, Below.refl _ _⟩
  case round =>
    obtain ⟨k, hk, rfl, hBr⟩ := hrel
    by_cases hlt : k < 8
    · have hEr := hE4.below hBr
      have hek : wr.cell? ⟨w3.heap.size, k, none⟩ = some (.iface 40 (.pointer (some (a k)))) := by rw [hBr.cell (by simp; omega)]; exact he4 k hlt
      have htk : wr.cell? ⟨w3.heap.size + 1, k, none⟩ = some (.string (shorts.getD k ⟨#[]⟩)) := by rw [hBr.cell (by simp; omega)]; exact ht4 k hlt
      have hxk := hEr.text k hlt
      rw [hs k hlt] at hxk
      clear he4 ht4 hs
      have hEb := hEr.below ((Below.refl _ _).alloc (Nat.le_refl _) (.cells #[.int .i64 7, .iface 40 (.pointer (some (a k)))] 32))
      have hF := code_fault _ hEb wr.heap.size k hlt 7 (by simp) (by simp)
      go_wp2_with fail
      refine hF.mono ?_
      rintro e w5 ⟨rfl, hB5⟩
      have hB5' : Below wr.heap.size wr w5 := ((Below.refl _ _).alloc (Nat.le_refl _) _).trans (hB5.mono (by simp))
      clear hB5 hF hEb
      have hE5 := hEr.below hB5'
      have hek5 : w5.cell? ⟨w3.heap.size, k, none⟩ = some (.iface 40 (.pointer (some (a k)))) := by rw [hB5'.cell (cell_lt hek)]; exact hek
      have htk5 : w5.cell? ⟨w3.heap.size + 1, k, none⟩ = some (.string (shorts.getD k ⟨#[]⟩)) := by rw [hB5'.cell (cell_lt htk)]; exact htk
      have hxk5 : w5.cell? (a k) = some (.string (⟨#[104, 97, 110, 100, 108, 101, 98, 111, 100, 121, 58, 32]⟩ ++ shorts.getD k ⟨#[]⟩)) := by rw [hB5'.cell (cell_lt hxk)]; exact hxk
      clear hek htk hxk
      have htz : (shorts.getD k ⟨#[]⟩).size ≤ 5 := short_le k
      generalize shorts.getD k ⟨#[]⟩ = tk at htk5 hxk5 htz
      have hwr : IntKind.i64.wrap ((k : Int) + 1) = (k : Int) + 1 := by rw [IntKind.wrap_i64]; omega
      have hadd : ∀ W, (Op.stringOp .add ⟨#[104, 97, 110, 100, 108, 101, 98, 111, 100, 121, 58, 32]⟩ tk).run Tryd.prog W = .ok (.string (⟨#[104, 97, 110, 100, 108, 101, 98, 111, 100, 121, 58, 32]⟩ ++ tk)) W := fun W => run_string_add_sum W _ _ (by show 12 + tk.size ≤ _; omega)
      have mE := method_error
      have nA := nil_ahead
      go_wp2_with fail
      go_region_held3 (fun W => W.cell? ⟨w3.heap.size, k, none⟩ = some (.iface 40 (.pointer (some (a k)))) ∧ W.cell? ⟨w3.heap.size + 1, k, none⟩ = some (.string tk)) (go_keep) (first
        | (go_at_call 37; refine (error_es (a k) (⟨#[104, 97, 110, 100, 108, 101, 98, 111, 100, 121, 58, 32]⟩ ++ tk) _ ?_).mono ?_; exact hxk5; rintro e w' ⟨rfl, rfl⟩)
        | (go_at_call 6; refine (coded_es (a := a) (s := s) _ ?_ k hlt).mono ?_; exact hE5.of_heap rfl; rintro e w6 ⟨rfl, hB6⟩; have hek6 : w6.cell? ⟨w3.heap.size, k, none⟩ = some (.iface 40 (.pointer (some (a k)))) := (hB6.cell (cell_lt hek5)).trans hek5; have htk6 : w6.cell? ⟨w3.heap.size + 1, k, none⟩ = some (.string tk) := (hB6.cell (cell_lt htk5)).trans htk5))
      all_goals
        go_wp2
        go_roundw
        case rel => exact ⟨k + 1, by omega, by go_num, round_below hBr hB5' hB6⟩
        case measure => simp [intOf]; omega
    · clear he4 ht4 hs
      have hEr := hE4.below hBr
      have hEn : Errs a s (wr.alloc (.cells #[.string ⟨#[97, 110, 111, 116, 104, 101, 114, 32, 111, 110, 101]⟩] 42)) := hEr.below ((Below.refl _ _).alloc (Nat.le_refl _) _)
      have hC := code_es _ hEn ⟨wr.heap.size, 0, none⟩ 8 (by decide) (fun j hj => ⟨fun h => by
        obtain ⟨cs, t, e⟩ := hEr.row j hj
        have := row_lt e
        rw [← h] at this
        exact absurd this (Nat.lt_irrefl _), fun h => by omega⟩) ⟨_, _, by show (wr.heap.push _)[wr.heap.size]? = _; rw [Array.getElem?_push, if_pos rfl]⟩
      rw [codeOf_8 (by decide)] at hC
      go_wp2_with fail
      refine (new_es _ _).mono ?_
      rintro e w' ⟨rfl, rfl⟩
      go_wp2_with fail
      refine hC.mono ?_
      rintro e w7 ⟨rfl, hB7⟩
      go_wp2_with (go_at_call 6; refine (coded_nil _).mono ?_; rintro e w' ⟨rfl, rfl⟩)
      go_ret
      exact ⟨rfl, (hB4.trans (hBr.mono hB4.size)).trans ((((Below.refl _ _).alloc (Nat.le_refl _) _).trans (hB7.mono (by simp))).mono (Nat.le_trans hB4.size hBr.size))⟩
end Go.Proofs.YtccjajmfkgifmaaDoor
