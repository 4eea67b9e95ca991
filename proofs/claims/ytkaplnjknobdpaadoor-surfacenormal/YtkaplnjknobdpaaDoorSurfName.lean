/- What nameOf, isName, letters and Valid answer, of one word. -/
import Derived.Test.YtkaplnjknobdpaaDoorSurfUf
import Derived.Test.YtkaplnjknobdpaaDoorCode
namespace Go.Proofs.YtkaplnjknobdpaaDoor
open Go.RowKit Go.Sort

set_option maxRecDepth 100000 in
theorem name_of (l : Int) (h1 : -1000 ≤ l) (h2 : l ≤ 1000) (w : World) :
    Calls Tryd.prog 19 #[.int .i64 l] w fun e w' => e = .returned (.int .i64 (l.natAbs : Int)) ∧ w' = w := by
  by_cases h : l < -l
  · have h' : l < 0 := by omega
    have e : (l.natAbs : Int) = -l := by omega
    rw [e]
    go_enter Tryd.func19, Tryd.ntmps19
    go_wp2_with fail
    go_ret
    exact ⟨rfl, rfl⟩
  · have e : (l.natAbs : Int) = l := by omega
    rw [e]
    go_enter Tryd.func19, Tryd.ntmps19
    go_wp2_with fail
    go_ret
    exact ⟨rfl, rfl⟩

set_option maxRecDepth 100000 in
theorem is_name (k : Nat) (h1 : 1 ≤ k) (h2 : k ≤ 60) (w : World) :
    Calls Tryd.prog 20 #[.int .i64 (k : Int)] w fun e w' => e = .returned (.bool true) ∧ w' = w := by
  have z1 : (1 : Int) ≤ (k : Int) := by omega
  have z2 : (k : Int) ≤ 60 := by omega
  go_enter Tryd.func20, Tryd.ntmps20
  go_wp2_with fail
  go_ret
  exact ⟨rfl, rfl⟩

/-- One word, in a slice. -/
theorem one_word {S : Nat → Prop} {W : World} {v : Value} {ws : List Int} (h : RowsIn S W v [ws]) : ∃ g o cap a c, v = .slice (some ⟨g, o, none⟩) 1 cap ∧ W.cell? ⟨g, o, none⟩ = some (.slice a ws.length c) ∧ IntsIn S W (.slice a ws.length c) ws := by
  obtain ⟨a, cap, rfl, _, hx⟩ := h.open_
  obtain ⟨b, off, rfl, _, _, hk⟩ := hx (by simp)
  obtain ⟨a', cap', h1, h2⟩ := hk 0 (by simp)
  exact ⟨b, off, cap, a', cap', rfl, h1, h2⟩

set_option maxRecDepth 100000 in
set_option maxHeartbeats 1000000 in
theorem letters_ {ws : List Int} (v : Value) (w : World) (h : Rows w v [ws]) (hl : ws.length ≤ 120) :
    Calls Tryd.prog 18 #[v] w fun e w' => e = .returned (.int .i64 (ws.length : Int)) ∧ w' = w := by
  obtain ⟨g, o, cap, a, c, rfl, hc, -⟩ := one_word h
  obtain ⟨n, hn⟩ : ∃ n, ws.length = n := ⟨_, rfl⟩
  rw [hn] at hc hl ⊢
  clear h hn
  have hcc : w.cell? ⟨g, o + 0, none⟩ = some (.slice a n c) := hc
  have h120 : (n : Int) ≤ 120 := by omega
  have hbd : decide ((120 : Int) < (n : Int)) = false := decide_eq_false (by omega)
  go_enter Tryd.func18, Tryd.ntmps18
  go_wp2_with fail
  go_loopw [3, 8] (fun p q W => ((p = .int .i64 0 ∧ q = .int .i64 0) ∨ (p = .int .i64 (n : Int) ∧ q = .int .i64 1)) ∧ W = w) (fun _ q _ => 1 - (intOf q).toNat)
  case atStart => exact ⟨.inl ⟨rfl, rfl⟩, rfl⟩
  case round =>
    obtain ⟨⟨rfl, rfl⟩ | ⟨rfl, rfl⟩, rfl⟩ := hrel
    · go_wp2_with fail
      go_roundw
      case rel => exact ⟨.inr ⟨by go_num, rfl⟩, trivial⟩
      case measure => simp [intOf]
    · go_wp2_with fail
      go_ret
      exact ⟨rfl, rfl⟩

end Go.Proofs.YtkaplnjknobdpaaDoor
