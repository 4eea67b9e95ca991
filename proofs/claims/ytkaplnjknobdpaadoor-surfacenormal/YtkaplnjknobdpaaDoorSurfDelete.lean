/- What slices.DeleteFunc answers of the table of edges: the rows that are not empty. -/
import Derived.Test.YtkaplnjknobdpaaDoorSurfEdges
import Derived.Lib.SliceRun
import Derived.Lib.LazyBuf
namespace Go.Proofs.YtkaplnjknobdpaaDoor
open Go.RowKit Go.Sort

theorem grown_cells (w : World) (b : Nat) : ∀ (vs : List Value) (o : Nat), w.grownBy (w.setCells b o vs) (some b)
  | [], _ => ⟨rfl, rfl, rfl, Nat.le_refl _, fun _ _ _ => rfl⟩
  | v :: vs, o => by
    have h1 := grown_at w ⟨b, o, none⟩ v
    have h2 := grown_cells (w.setCell ⟨b, o, none⟩ v) b vs (o + 1)
    exact ⟨h2.os.trans h1.os, h2.tape.trans h1.tape, h2.output.trans h1.output, Nat.le_trans h1.size h2.size, fun k hk hne => (h2.block k (Nat.lt_of_lt_of_le hk h1.size) hne).trans (h1.block k hk hne)⟩

/-- The numbers below j whose row is not empty. -/
def kpS (N : Nat → Nat) (j : Nat) : List Nat := (List.range j).filter fun x => decide (N x ≠ 0)
theorem kp_yes {N : Nat → Nat} {j : Nat} (h : N j ≠ 0) : kpS N (j + 1) = kpS N j ++ [j] := by unfold kpS; rw [List.range_succ, List.filter_append]; simp [h]
theorem kp_no {N : Nat → Nat} {j : Nat} (h : N j = 0) : kpS N (j + 1) = kpS N j := by unfold kpS; rw [List.range_succ, List.filter_append]; simp [h]
theorem kp_lt {N : Nat → Nat} (h : N 0 = 0) : ∀ {j : Nat}, 1 ≤ j → (kpS N j).length < j
  | 0, h1 => by omega
  | 1, _ => by rw [kp_no h]; simp [kpS]
  | j + 2, _ => by
    have ih := kp_lt (N := N) h (j := j + 1) (by omega)
    by_cases e : N (j + 1) = 0
    · rw [kp_no e]; omega
    · rw [kp_yes e, List.length_append]; simp; omega

set_option maxRecDepth 100000 in
theorem is_empty (a : Option Addr) (n c : Nat) (w : World) (hn : n ≤ 1000) :
    Calls Tryd.prog 45 #[.slice a n c] w fun e w' => e = .returned (.bool (decide (n = 0))) ∧ w' = w := by
  by_cases h : n = 0
  · subst h
    rw [decide_eq_true rfl]
    go_enter Tryd.func45, Tryd.ntmps45
    go_wp2_with fail
    go_ret
    exact ⟨rfl, rfl⟩
  · rw [decide_eq_false h]
    have hb : ((n : Int) == 0) = false := beq_false_of_ne (by omega)
    go_enter Tryd.func45, Tryd.ntmps45
    go_wp2_with fail
    go_ret
    exact ⟨rfl, rfl⟩

set_option maxRecDepth 100000 in
theorem index_zero (G : Nat) (a : Option Addr) (c : Nat) (w : World) (h : w.cell? ⟨G, 0, none⟩ = some (.slice a 0 c)) :
    Calls Tryd.prog 57 #[.slice (some ⟨G, 0, none⟩) 61 61, .func (.func 45) #[] #[]] w fun e w' => e = .returned (.int .i64 0) ∧ w' = w := by
  have he := is_empty a 0 c
  rw [decide_eq_true rfl] at he
  go_enter Tryd.func57, Tryd.ntmps57
  go_wp2_with fail
  go_loopw [8] (fun q W => q = .int .i64 0 ∧ W = w) (fun _ _ => 0)
  case atStart => exact ⟨rfl, rfl⟩
  case round =>
    obtain ⟨rfl, rfl⟩ := hrel
    go_wp2_with (first
      | (refine (he _ (by omega)).mono ?_; rintro e V ⟨rfl, rfl⟩)
      | fail)
    go_ret
    exact ⟨rfl, rfl⟩

theorem Tryd.zeross : Tryd.t87.zero = some (.slice none 0 0) := by kernel_rfl

/-- What DeleteFunc leaves: the rows that are not empty, in their order. -/
def DelSays (G : Nat) (A : Nat → Option Addr) (N C : Nat → Nat) (w : World) (e : Ending) (w' : World) : Prop :=
  e = .returned (.slice (some ⟨G, 0, none⟩) (kpS N 61).length 61) ∧ KeepBut w w' G G ∧ ∀ x (hx : x < (kpS N 61).length), w'.cell? ⟨G, x, none⟩ = some (.slice (A (kpS N 61)[x]) (N (kpS N 61)[x]) (C (kpS N 61)[x]))

set_option maxRecDepth 100000 in
set_option maxHeartbeats 2000000 in
theorem delete_ (G : Nat) (A : Nat → Option Addr) (N C : Nat → Nat) (w : World) (h : w.rowIs G 87 61 (fun j => .slice (A j) (N j) (C j))) (h0 : N 0 = 0) (hN : ∀ j, N j ≤ 1000) :
    Calls Tryd.prog 44 #[.slice (some ⟨G, 0, none⟩) 61 61, .func (.func 45) #[] #[]] w fun e w' => DelSays G A N C w e w' := by
  have hix := index_zero G (A 0) (C 0) w (by have := h.cell (i := 0) (by decide); rwa [h0] at this)
  have HR : Hid (w.rowIs G 87 61 (fun j => .slice (A j) (N j) (C j)) ∧ N 0 = 0 ∧ ∀ j, N j ≤ 1000) := ⟨h, h0, hN⟩
  clear h h0 hN
  go_enter Tryd.func44, Tryd.ntmps44
  go_wp2_with (first
    | (go_at_call 57; refine hix.mono ?_; rintro e V ⟨rfl, rfl⟩; clear hix)
    | fail)
  go_loopw [5, 6] (fun p q W => ∃ j : Nat, ∃ f : Nat → Value, 1 ≤ j ∧ j ≤ 61 ∧ p = .int .i64 ((kpS N j).length : Nat) ∧ q = .int .i64 j ∧ Hid (W.rowIs G 87 61 f ∧ KeepBut V W G G ∧ (∀ x (hx : x < (kpS N j).length), f x = .slice (A (kpS N j)[x]) (N (kpS N j)[x]) (C (kpS N j)[x])) ∧ ∀ x, j ≤ x → x < 61 → f x = .slice (A x) (N x) (C x))) (fun _ q _ => 61 - (intOf q).toNat)
  case atStart => exact ⟨1, _, by omega, by omega, by rw [kp_no HR.out.2.1]; rfl, rfl, HR.out.1, KeepBut.refl _ _ _, fun x hx => by rw [kp_no HR.out.2.1] at hx; simp [kpS] at hx, fun x _ _ => rfl⟩
  case round =>
    obtain ⟨j, f, hj1, hj, rfl, rfl, HK⟩ := hrel
    have hlt := kp_lt HR.out.2.1 hj1
    by_cases hjn : j < 61
    · have z0 : (0 : Int) ≤ (j : Int) := by omega
      have z1 : (j : Int) < 61 := by omega
      have cj := HK.out.1.cell hjn
      rw [HK.out.2.2.2 j (Nat.le_refl _) hjn] at cj
      have he := is_empty (A j) (N j) (C j) wr (HR.out.2.2 j)
      obtain ⟨i, hi⟩ : ∃ i, (kpS N j).length = i := ⟨_, rfl⟩
      have HI : Hid ((kpS N j).length = i) := hi
      rw [hi] at hlt ⊢
      clear hi
      by_cases e : N j = 0
      · rw [decide_eq_true e, e] at he
        rw [e] at cj
        have HE : Hid (N j = 0) := e
        clear e
        go_wp2_with (first
          | (refine he.mono ?_; rintro e V ⟨rfl, rfl⟩; clear he)
          | fail)
        go_roundw
        case rel => exact ⟨j + 1, f, by omega, by omega, by rw [kp_no HE.out, HI.out], by go_num, by rw [kp_no HE.out]; exact ⟨HK.out.1, HK.out.2.1, HK.out.2.2.1, fun x hx => HK.out.2.2.2 x (by omega)⟩⟩
        case measure => simp [intOf]; omega
      · rw [decide_eq_false e] at he
        have ci := HK.out.1.cell (i := i) (by omega)
        have fi := HK.out.1.frozen i
        have y0 : (0 : Int) ≤ (i : Int) := by omega
        have y1 : (i : Int) < 61 := by omega
        go_wp2_with (first
          | (refine he.mono ?_; rintro e V ⟨rfl, rfl⟩; clear he)
          | fail)
        go_roundw
        case rel =>
          refine ⟨j + 1, _, by omega, by omega, by rw [kp_yes e, List.length_append, HI.out]; go_num, by go_num, HK.out.1.set i _, HK.out.2.1.on (grown_at _ _ _) (fun b e => by cases e; exact .inl rfl), fun x hx => ?_, fun x hx hx2 => ?_⟩
          · have hx' : x < i + 1 := by rw [kp_yes e, List.length_append, HI.out] at hx; exact hx
            by_cases hxi : x = i
            · rw [if_pos hxi]
              have : (kpS N (j + 1))[x]'hx = j := by
                have h1 : (kpS N (j + 1))[x]? = some j := by rw [kp_yes e, List.getElem?_append_right (by rw [HI.out]; omega), HI.out, hxi, Nat.sub_self]; rfl
                exact Option.some.inj ((List.getElem?_eq_getElem hx).symm.trans h1)
              rw [this]
            · rw [if_neg hxi]
              have hx2 : x < (kpS N j).length := by rw [HI.out]; omega
              have : (kpS N (j + 1))[x]'hx = (kpS N j)[x]'hx2 := by
                have h1 : (kpS N (j + 1))[x]? = some ((kpS N j)[x]'hx2) := by rw [kp_yes e, List.getElem?_append_left hx2, List.getElem?_eq_getElem hx2]
                exact Option.some.inj ((List.getElem?_eq_getElem hx).symm.trans h1)
              rw [this]
              exact HK.out.2.2.1 x hx2
          · rw [if_neg (by omega)]
            exact HK.out.2.2.2 x (by omega) hx2
        case measure => simp [intOf]; omega
    · obtain rfl : j = 61 := by omega
      obtain ⟨i, hi⟩ : ∃ i, (kpS N 61).length = i := ⟨_, rfl⟩
      have HI : Hid ((kpS N 61).length = i) := hi
      rw [hi] at hlt ⊢
      clear hi
      have hv : ∀ w, (zeroValue 87).run Tryd.prog w = .ok (.slice none 0 0) w := fun w => by simp [zeroValue, go_sem, Tryd.zeross]
      have hcl : ∀ ty, (Builtin.clear_ #[62] ty #[.slice (some ⟨G, i, none⟩) (61 - i) (61 - i)]).run Tryd.prog wr = .ok (.tuple #[]) (wr.setCells G i (List.replicate (61 - i) (.slice none 0 0))) := fun ty => Lib.run_clear_slice wr _ _ ty _ Tryd.underlying62 hv rfl rfl G i _ _ (by omega) (fun t ht => by rw [HK.out.1.cell (i := i + t) (by omega)]; rfl) (fun t ht => HK.out.1.frozen _)
      have y0 : (0 : Int) ≤ (i : Int) := by omega
      have y1 : (i : Int) ≤ 61 := by omega
      have HCL : Hid (DelSays G A N C V (.returned (.slice (some ⟨G, 0, none⟩) i 61)) (wr.setCells G i (List.replicate (61 - i) (.slice none 0 0)))) := by
        refine ⟨by rw [HI.out], ?_, fun x hx => ?_⟩
        · exact HK.out.2.1.on (grown_cells _ _ _ _) (fun b e => by cases e; exact .inl rfl)
        · have h1 := Go.rowIs_setCells (List.replicate (61 - i) (.slice none 0 0)) i wr f HK.out.1
          have hx' : x < i := by rw [← HI.out]; exact hx
          rw [h1.cell (i := x) (by omega), if_neg (by omega), HK.out.2.2.1 x hx]
      clear HK
      go_wp2_with fail
      go_ret
      exact HCL.out

end Go.Proofs.YtkaplnjknobdpaaDoor
