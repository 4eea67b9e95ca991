/- What the reference's Sorted answers: the numbers, rising, each once, in new memory, and whether each was there once. -/
import Derived.Test.YthmjdfjchhohgaaGreatDoorRefC
namespace Go.Proofs.YthmjdfjchhohgaaGreatDoor
open Go.RowKit Go.Sort

theorem ins_rising {out : List Int} {j : Nat} {x : Int} (h : Rising out) (hj : j ≤ out.length) (hlo : ∀ t, t < j → out[t]?.getD 0 < x) (hhi : j < out.length → x < out[j]?.getD 0) : Rising (out.take j ++ ([x] ++ out.drop j)) := by
  have hsp := List.pairwise_append.1 (show Rising (out.take j ++ out.drop j) by rw [List.take_append_drop]; exact h)
  have h1 : ∀ a ∈ out.take j, a < x := fun a ha => by
    obtain ⟨t, ht, e⟩ := List.getElem_of_mem ha
    have ht' : t < j ∧ t < out.length := by simp at ht; omega
    have := hlo t ht'.1
    rw [List.getElem_take] at e
    simpa [ht'.2, e] using this
  have h2 : ∀ b ∈ out.drop j, x < b := fun b hb => by
    obtain ⟨t, ht, e⟩ := List.getElem_of_mem hb
    have hjl : j < out.length := by simp at ht; omega
    have h3 := hhi hjl
    simp [hjl] at h3
    cases t with
    | zero => simp at e; omega
    | succ t =>
      have h4 := (List.pairwise_iff_getElem.1 h) j (j + (t + 1)) hjl (by simp at ht; omega) (by omega)
      rw [List.getElem_drop] at e
      omega
  rw [Rising, List.pairwise_append]
  refine ⟨hsp.1, List.pairwise_append.2 ⟨by simp, hsp.2.1, fun a ha b hb => ?_⟩, fun a ha b hb => ?_⟩
  · simp at ha; subst ha; exact h2 b hb
  · rcases List.mem_append.1 hb with hb | hb
    · simp at hb; subst hb; exact h1 a ha
    · exact Int.lt_trans (h1 a ha) (h2 b hb)

theorem ins_mem {out : List Int} {j : Nat} {x : Int} (v : Int) : v ∈ out.take j ++ ([x] ++ out.drop j) ↔ v ∈ out ∨ v = x := by
  have : v ∈ out ↔ v ∈ out.take j ∨ v ∈ out.drop j := by rw [← List.mem_append, List.take_append_drop]
  rw [this]
  simp only [List.mem_append, List.mem_singleton]
  constructor
  · rintro (h | h | h)
    · exact .inl (.inl h)
    · exact .inr h
    · exact .inl (.inr h)
  · rintro ((h | h) | h)
    · exact .inl h
    · exact .inr (.inr h)
    · exact .inr (.inl h)

theorem take_mem {xs : List Int} {k : Nat} (hk : k < xs.length) (v : Int) : v ∈ xs.take (k + 1) ↔ v ∈ xs.take k ∨ v = xs[k]?.getD 0 := by
  rw [List.take_add_one, List.mem_append]
  simp only [List.getElem?_eq_getElem hk, Option.toList, Option.getD_some, List.mem_singleton]

theorem take_nodup {xs : List Int} {k : Nat} (hk : k < xs.length) : (xs.take (k + 1)).Nodup ↔ (xs.take k).Nodup ∧ xs[k]?.getD 0 ∉ xs.take k := by
  rw [List.take_add_one, List.nodup_append]
  simp only [List.getElem?_eq_getElem hk, Option.toList, Option.getD_some]
  constructor
  · rintro ⟨h1, _, h3⟩
    exact ⟨h1, fun hm => h3 _ hm _ (by simp) rfl⟩
  · rintro ⟨h1, h2⟩
    exact ⟨h1, by simp, fun a ha b hb e => by simp at hb; subst hb; subst e; exact h2 ha⟩

theorem not_in_of_gap {out : List Int} {j : Nat} {x : Int} (h : Rising out) (hlo : ∀ t, t < j → out[t]?.getD 0 < x) (hhi : j < out.length → x < out[j]?.getD 0) : x ∉ out := fun hm => by
  obtain ⟨t, ht, e⟩ := List.getElem_of_mem hm
  by_cases h1 : t < j
  · have := hlo t h1
    simp [ht, e] at this
  · have h2 := hhi (by omega)
    rw [List.getElem?_eq_getElem (by omega), Option.getD_some] at h2
    by_cases h3 : t = j
    · subst h3; omega
    · have := (List.pairwise_iff_getElem.1 h) j t (by omega) ht (by omega)
      omega

theorem one_take {cs : List Value} (h : ∀ c ∈ cs, c.oneCell' = true) (j : Nat) : ∀ c ∈ cs.take j, c.oneCell' = true := fun c hc => h c (List.mem_of_mem_take hc)
theorem one_drop {cs : List Value} (h : ∀ c ∈ cs, c.oneCell' = true) (j : Nat) : ∀ c ∈ cs.drop j, c.oneCell' = true := fun c hc => h c (List.mem_of_mem_drop hc)

/-- The number is there already. -/
theorem sorted_dup {xs out : List Int} {k j : Nat} {x : Int} (hk : k < xs.length) (hm : ∀ v, v ∈ out ↔ v ∈ xs.take k) (hx : xs[k]?.getD 0 = x) (hj : j < out.length) (hy : out[j]?.getD 0 = x) :
    (∀ v, v ∈ out ↔ v ∈ xs.take (k + 1)) ∧ decide (xs.take (k + 1)).Nodup = false := by
  have hin : x ∈ out := by
    simp [hj] at hy
    exact List.mem_of_getElem hy
  refine ⟨fun v => ?_, decide_eq_false (fun h => ?_)⟩
  · rw [take_mem hk, hx, ← hm]
    constructor
    · exact .inl
    · rintro (h | h)
      · exact h
      · subst h; exact hin
  · have := ((take_nodup hk).1 h).2
    rw [hx, ← hm] at this
    exact this hin

/-- The number is new. -/
theorem sorted_new {xs out : List Int} {k j : Nat} {x : Int} (hk : k < xs.length) (hr : Rising out) (hm : ∀ v, v ∈ out ↔ v ∈ xs.take k) (hx : xs[k]?.getD 0 = x) (hlo : ∀ t, t < j → out[t]?.getD 0 < x) (hhi : j < out.length → x < out[j]?.getD 0) :
    (∀ v, v ∈ out.take j ++ ([x] ++ out.drop j) ↔ v ∈ xs.take (k + 1)) ∧ decide (xs.take (k + 1)).Nodup = decide (xs.take k).Nodup := by
  have hnin := not_in_of_gap hr hlo hhi
  refine ⟨fun v => ?_, ?_⟩
  · rw [ins_mem, take_mem hk, hx, hm]
  · have : (xs.take (k + 1)).Nodup ↔ (xs.take k).Nodup := by
      rw [take_nodup hk, hx, ← hm]
      exact ⟨fun h => h.1, fun h => ⟨h, hnin⟩⟩
    simp only [this]

/-- The row that three appends have made reads as the list with the number put in. -/
theorem ins_ints {w : World} {base n : Nat} {v : Value} {out : List Int} {j : Nat} {x : Int} (h : w.ownsRow base 3 1 v n (([] ++ (out.map (Value.int .i64)).take j) ++ [Value.int .i64 x] ++ (out.map (Value.int .i64)).drop j)) : IntsIn (fun b => base ≤ b) w v (out.take j ++ ([x] ++ out.drop j)) := by
  have := slice_of_owns (S := fun b => base ≤ b) h (fun _ h _ => h)
  simpa [IntsIn, List.map_take, List.map_drop] using this

theorem below_two {W1 w2 w3 : World} {v1 : Value} {e : TypeId} {n : Nat} {xs : List Value} {o : Obj} (hg1 : W1.grownBy w2 none) (hown1 : w2.ownsRow W1.heap.size e 1 v1 n xs) (hg2 : (w2.alloc o).grownBy w3 v1.ownBlock) : Below W1.heap.size W1 w3 :=
  (((Below.refl W1.heap.size W1).grown hg1 (Nat.le_refl _) (fun k h => by cases h)).alloc hg1.size o).grown hg2 (by have := hg1.size; simp; omega) (fun j hj => (hown1.lt j hj).1)
theorem below_three {W1 w3 w4 : World} {v2 : Value} {e : TypeId} {n : Nat} {xs : List Value} (h : Below W1.heap.size W1 w3) (hown2 : w3.ownsRow W1.heap.size e 1 v2 n xs) (hg3 : w3.grownBy w4 v2.ownBlock) : Below W1.heap.size W1 w4 :=
  h.grown hg3 h.size (fun j hj => (hown2.lt j hj).1)

set_option maxRecDepth 100000 in
set_option maxHeartbeats 1000000 in
theorem sorted_ (vl : Value) (xs : List Int) (w : World) (hl : Ints w vl xs) (hx : xs.length ≤ 1000) :
    Calls Tryz.prog 40 #[vl] w fun e w' => ∃ v out, e = .returned (.tuple #[v, .bool (decide xs.Nodup)]) ∧ IntsIn (fun b => w.heap.size ≤ b) w' v out ∧ Rising out ∧ (∀ x, x ∈ out ↔ x ∈ xs) ∧ out.length ≤ xs.length ∧ Below w.heap.size w w' := by
  obtain ⟨i0, hi, hz0, hz1, hz2⟩ := info_parts Tryz.info3
  obtain ⟨a, ca, rfl, -, ha⟩ := hl.open_
  go_enter Tryz.func40, Tryz.ntmps40
  go_wp2
  go_loopw [4, 5, 6] (fun v o i wr => ∃ (k : Nat) (out : List Int), k ≤ xs.length ∧ i = .int .i64 k ∧ o = .bool (decide (xs.take k).Nodup) ∧ IntsIn (fun b => w.heap.size ≤ b) wr v out ∧ Rising out ∧ (∀ x, x ∈ out ↔ x ∈ xs.take k) ∧ out.length ≤ k ∧ Below w.heap.size w wr)
    (fun _ _ i _ => xs.length - (intOf i).toNat)
  case atStart => exact ⟨0, [], by omega, rfl, by simp, SliceIn.nil _ _, by simp, by simp, by simp, Below.refl _ _⟩
  case round =>
    obtain ⟨k, out, hk, rfl, rfl, hout, hr, hm, hol, hB⟩ := hrel
    have HR : Hid (Rising out) := hr
    have HM : Hid (∀ x, x ∈ out ↔ x ∈ xs.take k) := hm
    have HO : Hid (IntsIn (fun b => w.heap.size ≤ b) wr _ out) := hout
    clear hr hm
    by_cases hlt : k < xs.length
    · obtain ⟨b1, o1, rfl, -, hb1, c1⟩ := ha (by omega)
      have g1 : wr.cell? ⟨b1, o1 + k, none⟩ = _ := (hB.cell (p := ⟨b1, o1 + k, none⟩) hb1).trans (c1 k hlt)
      clear c1 ha
      obtain ⟨x, hxe⟩ : ∃ x, xs[k]?.getD 0 = x := ⟨_, rfl⟩
      rw [hxe] at g1
      have HX : Hid (xs[k]?.getD 0 = x) := hxe
      clear hxe
      obtain ⟨a2, ca2, rfl, hca2, ho⟩ := hout.open_
      clear hout
      obtain ⟨wo, hwo⟩ : ∃ W, W = wr := ⟨_, rfl⟩
      subst hwo
      go_wp2
      go_loopw [7] (fun p W => ∃ j q : Nat, j ≤ out.length ∧ p = .int .i64 j ∧ W = wo.drewN q ∧ ∀ t, t < j → out[t]?.getD 0 < x) (fun p _ => out.length - (intOf p).toNat)
      case atStart => exact ⟨0, 0, by omega, rfl, rfl, fun t ht => by omega⟩
      case round =>
        obtain ⟨j, q, hj, rfl, hw, hlo⟩ := hrel
        have HW : Hid (wr = wo.drewN q) := hw
        have HLO : Hid (∀ t, t < j → out[t]?.getD 0 < x) := hlo
        have gx : wr.cell? ⟨b1, o1 + k, none⟩ = some (.int .i64 x) := by rw [hw]; exact g1
        clear hlo
        by_cases hjl : j < out.length
        · obtain ⟨b2, o2, rfl, -, hb2, c2⟩ := ho (by omega)
          have gy : wr.cell? ⟨b2, o2 + j, none⟩ = some (.int .i64 (out[j]?.getD 0)) := by rw [hw]; exact c2 j hjl
          clear c2 ho hw
          obtain ⟨y, hye⟩ : ∃ y, out[j]?.getD 0 = y := ⟨_, rfl⟩
          rw [hye] at gy
          have HY : Hid (out[j]?.getD 0 = y) := hye
          clear hye
          by_cases hyx : y < x
          · go_wp2_with fail
            go_quiet (fail)
            go_wp2
            go_roundw
            case rel => exact ⟨j + 1, q + nq, by omega, by go_num, by rw [HW.out, World.drewN_drewN], fun t ht => by
              by_cases e : t = j
              · subst e; rw [HY.out]; exact hyx
              · exact HLO.out t (by omega)⟩
            case measure => simp [intOf]; omega
          · by_cases hxy : y = x
            · subst hxy
              go_wp2_with fail
              go_quiet (fail)
              go_wp2_with fail
              go_quiet (fail)
              go_wp2
              go_roundw
              case rel =>
                obtain ⟨d1, d2⟩ := sorted_dup hlt HM.out HX.out hjl HY.out
                exact ⟨k + 1, out, by omega, by go_num, by rw [d2], by rw [HW.out]; exact HO.out, HR.out, d1, by omega, by rw [HW.out]; exact hB.trans ⟨rfl, rfl, rfl, Nat.le_refl _, fun _ _ => rfl⟩⟩
              case measure => simp [intOf]; omega
            · have hne : (y == x) = false := by simpa using hxy
              have HNE : Hid (¬ y = x) := hxy
              clear hxy
              go_wp2_with fail
              go_quiet (fail)
              go_wp2_with fail
              go_quiet (fail)
              generalize hW1 : World.drewN (World.drewN wr _) _ = W1
              have i2 : Ints W1 (.slice (some ⟨b2, o2, none⟩) out.length ca2) out := by rw [← hW1, HW.out]; exact HO.out.any
              have g2 : W1.cell? ⟨b1, o1 + k, none⟩ = some (.int .i64 x) := by rw [← hW1]; exact gx
              have hB1 : Below w.heap.size w W1 := by rw [← hW1, HW.out]; exact hB.trans ⟨rfl, rfl, rfl, Nat.le_refl _, fun _ _ => rfl⟩
              clear hW1
              go_wp2_with (first
                | (at_builtin; refine wpList_append_slice rfl (.tmp 47) (.tmp 50) 23 rfl W1.heap.size 3 i0 (.int .i64 0) 8 Tryz.underlying23 hi hz0 hz1 hz2 rfl (.slice none 0 0) 0 [] rfl (World.ownsRow_nil _ _ _ _) _ ((out.map (Value.int .i64)).take j) rfl (i2.upto (by simp; omega)) (one_take (ints_one _) _) (by simp; omega) (by unfold maxLen; simp; omega) (Nat.le_refl _) ?_; intro v1 w2 hown1 hg1 hl1; have g3 : w2.cell? ⟨b1, o1 + k, none⟩ = some (.int .i64 x) := (((Below.refl W1.heap.size W1).grown hg1 (Nat.le_refl _) (fun k h => by cases h)).cell (p := ⟨b1, o1 + k, none⟩) (cell_lt g2)).trans g2)
                | (at_builtin; refine wpList_append_slice rfl (.tmp 52) (.tmp 57) 23 rfl W1.heap.size 3 i0 (.int .i64 0) 8 Tryz.underlying23 hi hz0 hz1 hz2 rfl _ _ _ rfl (hown1.alloc _) _ [.int .i64 x] rfl (slice_one _ _ _) (ints_one [x]) (by simp; omega) (by unfold maxLen; simp; omega) (by have := hg1.size; simp; omega) ?_; intro v2 w3 hown2 hg2 hl2; have hB3 := below_two hg1 hown1 hg2; have i4 := i2.below hB3)
                | (at_builtin; refine wpList_append_slice rfl (.tmp 59) (.tmp 62) 23 rfl W1.heap.size 3 i0 (.int .i64 0) 8 Tryz.underlying23 hi hz0 hz1 hz2 rfl _ _ _ rfl hown2 _ ((out.map (Value.int .i64)).drop j) rfl (by first | exact i4.behind (by simp; omega) | exact i4.behind_at (by simp; omega) | exact i4.behind_some (by simp; omega)) (one_drop (ints_one _) _) (by simp; omega) (by unfold maxLen; simp; omega) hB3.size ?_; intro v3 w4 hown3 hg3 hl3; have hB4 := below_three hB3 hown2 hg3)
                | go_in)
              clear i2 i4 hown1 hown2 hg1 hg2 hg3 hl1 hl2 hl3 hB3 g2 g3
              go_roundw
              case rel =>
                have hhi : j < out.length → x < out[j]?.getD 0 := fun _ => by rw [HY.out]; have := HNE.out; omega
                obtain ⟨d1, d2⟩ := sorted_new hlt HR.out HM.out HX.out HLO.out hhi
                exact ⟨k + 1, out.take j ++ ([x] ++ out.drop j), by omega, by go_num, by rw [d2], (ins_ints hown3).mono (fun b _ h => Nat.le_trans hB1.size h), ins_rising HR.out hj HLO.out hhi, d1, by simp; omega, hB1.trans (hB4.mono hB1.size)⟩
              case measure => simp [intOf]; omega
        · clear ho hw
          go_wp2_with fail
          go_quiet (fail)
          go_wp2_with fail
          go_quiet (fail)
          generalize hW1 : World.drewN (World.drewN wr _) _ = W1
          have i2 : Ints W1 (.slice a2 out.length ca2) out := by rw [← hW1, HW.out]; exact HO.out.any
          have g2 : W1.cell? ⟨b1, o1 + k, none⟩ = some (.int .i64 x) := by rw [← hW1]; exact gx
          have hB1 : Below w.heap.size w W1 := by rw [← hW1, HW.out]; exact hB.trans ⟨rfl, rfl, rfl, Nat.le_refl _, fun _ _ => rfl⟩
          clear hW1
          go_wp2_with (first
            | (at_builtin; refine wpList_append_slice rfl (.tmp 47) (.tmp 50) 23 rfl W1.heap.size 3 i0 (.int .i64 0) 8 Tryz.underlying23 hi hz0 hz1 hz2 rfl (.slice none 0 0) 0 [] rfl (World.ownsRow_nil _ _ _ _) _ ((out.map (Value.int .i64)).take j) rfl (i2.upto (by simp; omega)) (one_take (ints_one _) _) (by simp; omega) (by unfold maxLen; simp; omega) (Nat.le_refl _) ?_; intro v1 w2 hown1 hg1 hl1; have g3 : w2.cell? ⟨b1, o1 + k, none⟩ = some (.int .i64 x) := (((Below.refl W1.heap.size W1).grown hg1 (Nat.le_refl _) (fun k h => by cases h)).cell (p := ⟨b1, o1 + k, none⟩) (cell_lt g2)).trans g2)
            | (at_builtin; refine wpList_append_slice rfl (.tmp 52) (.tmp 57) 23 rfl W1.heap.size 3 i0 (.int .i64 0) 8 Tryz.underlying23 hi hz0 hz1 hz2 rfl _ _ _ rfl (hown1.alloc _) _ [.int .i64 x] rfl (slice_one _ _ _) (ints_one [x]) (by simp; omega) (by unfold maxLen; simp; omega) (by have := hg1.size; simp; omega) ?_; intro v2 w3 hown2 hg2 hl2; have hB3 := below_two hg1 hown1 hg2; have i4 := i2.below hB3)
            | (at_builtin; refine wpList_append_slice rfl (.tmp 59) (.tmp 62) 23 rfl W1.heap.size 3 i0 (.int .i64 0) 8 Tryz.underlying23 hi hz0 hz1 hz2 rfl _ _ _ rfl hown2 _ ((out.map (Value.int .i64)).drop j) rfl (by first | exact i4.behind (by simp; omega) | exact i4.behind_at (by simp; omega) | exact i4.behind_some (by simp; omega)) (one_drop (ints_one _) _) (by simp; omega) (by unfold maxLen; simp; omega) hB3.size ?_; intro v3 w4 hown3 hg3 hl3; have hB4 := below_three hB3 hown2 hg3)
            | go_in)
          clear i2 i4 hown1 hown2 hg1 hg2 hg3 hl1 hl2 hl3 hB3 g2 g3
          go_roundw
          case rel =>
            have hhi : j < out.length → x < out[j]?.getD 0 := fun h => absurd h hjl
            obtain ⟨d1, d2⟩ := sorted_new hlt HR.out HM.out HX.out HLO.out hhi
            exact ⟨k + 1, out.take j ++ ([x] ++ out.drop j), by omega, by go_num, by rw [d2], (ins_ints hown3).mono (fun b _ h => Nat.le_trans hB1.size h), ins_rising HR.out hj HLO.out hhi, d1, by simp; omega, hB1.trans (hB4.mono hB1.size)⟩
          case measure => simp [intOf]; omega
    · clear ha
      go_wp2
      go_ret2
      have e : xs.take k = xs := List.take_of_length_le (by omega)
      have hm := HM.out
      rw [e] at hm ⊢
      exact ⟨_, out, rfl, HO.out, HR.out, hm, by omega, hB⟩

end Go.Proofs.YthmjdfjchhohgaaGreatDoor
