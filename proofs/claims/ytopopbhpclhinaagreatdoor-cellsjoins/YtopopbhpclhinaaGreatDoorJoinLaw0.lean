/- What the calls on two complexes and the statements' helpers answer, in one way. -/
import Derived.Test.YtopopbhpclhinaaGreatDoorConeCalls
import Derived.Test.YtopopbhpclhinaaGreatDoorRefJoin2
import Derived.Test.YtopopbhpclhinaaGreatDoorIndexOf
namespace Go.Proofs.YtopopbhpclhinaaGreatDoor
open Go.RowKit Go.Sort Go.Maps Go.Deep

/-- What is told of two complexes ahead: an error's value and number, or all faces of both. -/
def GState (a : Nat → Addr) (l m p q : List (List Int)) (ve : Value) (n : Int) : Prop :=
  (∃ i : Nat, JErr l m i ∧ ve = .iface 145 (.pointer (some (a i))) ∧ n = (i : Int) + 1) ∨ ((Good l p ∧ Good m q) ∧ ve = .nilIface ∧ n = 0)
theorem JErr.lt {l m : List (List Int)} {i : Nat} (h : JErr l m i) : i < 8 := by
  rcases h with h | ⟨_, h⟩
  · exact h.lt
  · exact h.lt
theorem jerr_not {l m p q : List (List Int)} {i : Nat} (h : JErr l m i) (g : Good l p ∧ Good m q) : False := by
  rcases h with h | ⟨_, h⟩
  · exact bad_good h g.1
  · exact bad_good h g.2
theorem jerr_one {l m : List (List Int)} {i j : Nat} (h : JErr l m i) (h' : JErr l m j) : i = j := by
  rcases h with h | ⟨⟨p, g⟩, h⟩ <;> rcases h' with h' | ⟨⟨p', g'⟩, h'⟩
  · exact bad_one h h'
  · exact (bad_good h g').elim
  · exact (bad_good h' g).elim
  · exact bad_one h h'
theorem GState.state {a : Nat → Addr} {l m p q : List (List Int)} {ve : Value} {n : Int} (h : GState a l m p q ve n) : SState a ve n := by
  rcases h with ⟨i, hi, h1, h2⟩ | ⟨_, h1, h2⟩
  · exact .inl ⟨i, hi.lt, h1, h2⟩
  · exact .inr ⟨h1, h2⟩
theorem GState.nonneg {a : Nat → Addr} {l m p q : List (List Int)} {ve : Value} {n : Int} (h : GState a l m p q ve n) : 0 ≤ n := by
  rcases h with ⟨i, _, _, rfl⟩ | ⟨_, _, rfl⟩ <;> omega

/-- What a call on two complexes answers, the verdict told. -/
def TwoK (base : Nat) (g : List (List Int)) (ve : Value) (n : Int) (w : World) (e : Ending) (w' : World) : Prop :=
  ∃ v L, e = .returned (.tuple #[.agg #[v], ve]) ∧ OwnRows base w' v L ∧ Below w.heap.size w w' ∧ (IsZero n → IsFacets g L) ∧ (¬ IsZero n → v = .slice none 0 0)
theorem two_k {a : Nat → Addr} {l m p q : List (List Int)} {sets : List (List Int) → List (List Int) → List (List Int)} {ve0 ve : Value} {n0 n : Int} {w w' : World} {e : Ending} (st : GState a l m p q ve0 n0) (hE : EndS a ve0 n0 (sets p q) ve n) (h : TwoG a l m sets w e w') : TwoK w.heap.size (sets p q) ve n w e w' := by
  obtain ⟨hB, ⟨j, hj, rfl⟩ | ⟨p', q', hg, hc⟩⟩ := h
  · rcases st with ⟨i, hi, rfl, rfl⟩ | ⟨g, rfl, rfl⟩
    · rcases hE with ⟨_, rfl, rfl⟩ | ⟨h0, _⟩
      · rw [jerr_one hi hj]; exact ⟨_, [], rfl, OwnRows.nil _ _, hB, fun h => absurd h (by unfold IsZero; omega), fun _ => rfl⟩
      · omega
    · exact (jerr_not hj g).elim
  · rcases st with ⟨i, hi, rfl, rfl⟩ | ⟨g, rfl, rfl⟩
    · exact (jerr_not hi hg).elim
    · obtain rfl := good_one g.1 hg.1
      obtain rfl := good_one g.2 hg.2
      rcases hE with ⟨h0, _⟩ | ⟨_, hv⟩
      · omega
      · rcases hc with ⟨hn, rfl⟩ | ⟨hn, ho, rfl⟩ | ⟨hn, ho, v, L, hL, rfl, hown⟩
        · rcases hv with ⟨_, rfl, rfl⟩ | ⟨h1, _⟩ | ⟨h1, _⟩
          · exact ⟨_, [], rfl, OwnRows.nil _ _, hB, fun h => absurd h (by unfold IsZero; omega), fun _ => rfl⟩
          · exact absurd h1 hn
          · exact absurd h1 hn
        · rcases hv with ⟨h1, _⟩ | ⟨_, _, rfl, rfl⟩ | ⟨_, h1, _⟩
          · exact absurd hn h1
          · exact ⟨_, [], rfl, OwnRows.nil _ _, hB, fun h => absurd h (by unfold IsZero; omega), fun _ => rfl⟩
          · exact absurd ho h1
        · rcases hv with ⟨h1, _⟩ | ⟨_, h1, _⟩ | ⟨_, _, rfl, rfl⟩
          · exact absurd hn h1
          · exact absurd h1 ho
          · exact ⟨v, L, rfl, hown, hB, fun _ => hL, fun h => absurd rfl h⟩
theorem meet_two {a : Nat → Addr} {l m : List (List Int)} {w w' : World} {e : Ending} (h : PartG a (JErr l m) (fun L => ∃ p q, Good l p ∧ Good m q ∧ IsFacets (bothI p q) L) w e w') : TwoG a l m bothI w e w' := by
  obtain ⟨hB, ⟨i, hi, rfl⟩ | ⟨v, L, ⟨p, q, g1, g2, hL⟩, rfl, hown⟩⟩ := h
  · exact ⟨hB, .inl ⟨i, hi, rfl⟩⟩
  · have hs : ∀ x ∈ bothI p q, x ∈ p := fun x hx => (List.mem_filter.1 hx).1
    exact ⟨hB, .inr ⟨p, q, ⟨g1, g2⟩, .inr (.inr ⟨fun x hx => (face_ok_of g1 (hs x hx)).1, g1.notOver hs, v, L, hL, rfl, hown⟩)⟩⟩

set_option maxRecDepth 100000 in
theorem made_v (CL : ClosedHolds) {a : Nat → Addr} {g : List (List Int)} {ve0 ve : Value} {n0 n : Int} (h : EndS a ve0 n0 g ve n) (vl : Value) (w : World) (hl : Rows w vl g) (hr : ∀ x ∈ g, Rising x) (hll : g.length ≤ 100000) (hle : ∀ x ∈ g, x.length ≤ 1000) :
    Calls Tryz.prog 10 #[vl, .int .i64 n0] w fun e w' => ∃ v, e = .returned (.tuple #[v, .int .i64 n]) ∧ Below w.heap.size w w' ∧ (IsZero n → ∃ L, Rows w' v L ∧ IsFacets g L ∧ L.length ≤ 1000000 ∧ ∀ x ∈ L, x.length ≤ 1000000) := by
  rcases h with ⟨h0, rfl, rfl⟩ | ⟨rfl, hv⟩
  · refine (made_err vl n w h0).mono ?_
    rintro e w' ⟨rfl, rfl⟩
    exact ⟨_, rfl, Below.refl _ _, fun e => absurd e (by unfold IsZero; omega)⟩
  · have hma := made_ CL vl g w hl hll hle
    have HV : Hid (Verdict a g ve n) := hv
    have HR : Hid (∀ x ∈ g, Rising x) := hr
    clear hl CL hv hr
    go_enter Tryz.func10, Tryz.ntmps10
    go_wp2_with fail
    refine hma.mono ?_
    clear hma
    rintro e w2 ⟨hB, ⟨hno, rfl⟩ | ⟨hok, hov, rfl⟩ | ⟨hok, hov, v, all', rfl, hra, hal, h6⟩⟩
    · rcases HV.out with ⟨_, -, hn⟩ | ⟨h1, _⟩ | ⟨h1, _⟩
      · have HN : Hid (n = 4) := hn
        clear hno hn
        go_wp2
        go_ret2
        exact ⟨_, by rw [HN.out]; rfl, hB, fun e => absurd e (by unfold IsZero; rw [HN.out]; omega)⟩
      · exact absurd h1 hno
      · exact absurd h1 hno
    · rw [map_srt HR.out] at hov
      rcases HV.out with ⟨h1, _⟩ | ⟨_, _, -, hn⟩ | ⟨_, h1, _⟩
      · exact absurd hok h1
      · have HN : Hid (n = 2) := hn
        clear hok hov hn
        go_wp2
        go_ret2
        exact ⟨_, by rw [HN.out]; rfl, hB, fun e => absurd e (by unfold IsZero; rw [HN.out]; omega)⟩
      · exact absurd hov h1
    · rw [map_srt HR.out] at hov hal
      rcases HV.out with ⟨h1, _⟩ | ⟨_, h1, _⟩ | ⟨_, _, -, hn⟩
      · exact absurd hok h1
      · exact absurd h1 hov
      · have HN : Hid (n = 0) := hn
        have HRR : Hid (Rows w2 v (facetsI all')) := hra
        have HAL : Hid (IsAll g all') := hal
        have HSH : Hid (∀ x ∈ all', x.length ≤ 7) := all_short hal hov
        clear hok hov hra hal hn
        go_wp2
        go_ret2
        refine ⟨_, by rw [HN.out]; rfl, hB, fun _ => ⟨_, HRR.out, facets_made HR.out HAL.out, ?_, fun x hx => ?_⟩⟩
        · have : (facetsI all').length ≤ all'.length := List.length_filter_le _ _
          omega
        · have := HSH.out x (List.mem_filter.1 hx).1
          omega

set_option maxRecDepth 100000 in
theorem little_few (CL : ClosedHolds) (vl : Value) (l : List (List Int)) (m : Nat) (w : World) (hl : Rows w vl l) :
    Calls Tryz.prog 5 #[vl, .int .i64 m] w fun e w' => ∃ q : Bool, e = .returned (.bool q) ∧ Below w.heap.size w w' ∧ (q = true → l.length ≤ 40 ∧ (∀ x ∈ l, x.length ≤ 12) ∧ ∀ all, Good l all → all.length ≤ m) := by
  have hfw := few_ vl l w hl
  have HR : Hid (Rows w vl l) := hl
  have HC : Hid ClosedHolds := CL
  clear CL hl
  go_enter Tryz.func5, Tryz.ntmps5
  go_wp2_with fail
  refine hfw.mono ?_
  rintro e w2 ⟨q, rfl, rfl, hq⟩
  cases q with
  | false =>
    clear hfw hq
    go_wp2
    go_ret
    exact ⟨false, rfl, Below.refl _ _, fun h => by cases h⟩
  | true =>
    have hb := hq rfl
    have hcl := HC.out vl l w2 HR.out (by omega) (fun x hx => by have := hb.2 x hx; omega)
    have HB : Hid (l.length ≤ 40 ∧ ∀ x ∈ l, x.length ≤ 12) := hb
    clear hfw hq hb
    go_wp2_with fail
    refine hcl.mono ?_
    rintro e w3 ⟨hB, ⟨hno, rfl⟩ | ⟨hok, hov, rfl⟩ | ⟨hok, hov, v, all, rfl, hr, hal, h6⟩⟩
    · have HN : Hid (¬ ∀ x ∈ l, SetOk x) := hno
      clear hcl hno
      go_wp2
      go_ret
      exact ⟨_, rfl, hB, fun _ => ⟨HB.out.1, HB.out.2, fun all g => absurd g.ok HN.out⟩⟩
    · have HN : Hid (Over (l.map srt)) := hov
      clear hcl hok hov
      go_wp2
      go_ret
      exact ⟨_, rfl, hB, fun _ => ⟨HB.out.1, HB.out.2, fun all g => absurd HN.out g.few⟩⟩
    · obtain ⟨ar, cr, rfl, -, -⟩ := hr.open_
      have HN : Hid (IsAll (l.map srt) all) := hal
      clear hcl hr hal hok hov
      by_cases hm : all.length ≤ m
      · go_wp2
        go_ret
        exact ⟨_, rfl, hB, fun _ => ⟨HB.out.1, HB.out.2, fun all' g => by rw [all_one g.isAll HN.out]; exact hm⟩⟩
      · have hmb : decide ((all.length : Int) ≤ (m : Int)) = false := decide_eq_false (by omega)
        go_wp2
        go_ret
        exact ⟨false, by simp, hB, fun h => by cases h⟩

/-- A variable that holds a value. -/
def BoxAt (B : Nat) (W : World) (v : Value) : Prop := W.cell? ⟨B, 0, none⟩ = some v ∧ W.frozen? ⟨B, 0, none⟩ = false
theorem BoxAt.lt {B : Nat} {W : World} {v : Value} (h : BoxAt B W v) : B < W.heap.size := cell_lt h.1
theorem BoxAt.below {B : Nat} {W W' : World} {v : Value} (h : BoxAt B W v) (hB : Below W.heap.size W W') : BoxAt B W' v :=
  ⟨(hB.cell (p := ⟨B, 0, none⟩) h.lt).trans h.1, (hB.frozen (p := ⟨B, 0, none⟩) h.lt).trans h.2⟩
theorem BoxAt.set {B : Nat} {W : World} {v : Value} (h : BoxAt B W v) (u : Value) : BoxAt B (W.setCell ⟨B, 0, none⟩ u) u :=
  ⟨World.cell?_setCell_same' _ _ _ (by rw [h.1]; rfl), by rw [World.frozen?_setCell]; exact h.2⟩

theorem union_short {a b p q : List (List Int)} (ga : Good a p) (gb : Good b q) : ∀ x ∈ p ++ q, x.length ≤ 7 := fun x hx => by
  rcases List.mem_append.1 hx with h | h
  · exact ga.short x h
  · exact gb.short x h
theorem union_rising {a b p q : List (List Int)} (ga : Good a p) (gb : Good b q) : ∀ x ∈ p ++ q, Rising x := fun x hx => by
  rcases List.mem_append.1 hx with h | h
  · exact ga.rising x h
  · exact gb.rising x h
theorem join_short {a b p q : List (List Int)} (ga : Good a p) (gb : Good b q) : ∀ x ∈ joinS p q, x.length ≤ 14 := fun x hx => by
  rcases step_mem.1 hx with h | h | ⟨y, hy, z, hz, rfl⟩
  · have := ga.short x h; omega
  · obtain ⟨y, hy, rfl⟩ := List.mem_map.1 h
    rw [raise_len]; have := gb.short y hy; omega
  · obtain ⟨y', hy', rfl⟩ := List.mem_map.1 hz
    rw [List.length_append, raise_len]
    have := ga.short y hy
    have := gb.short y' hy'
    omega
theorem join_length {p q : List (List Int)} (hp : p.length ≤ 40) (hq : q.length ≤ 40) : (joinS p q).length ≤ 2000 := by
  have h := stepTo_len p (q.map (raise (topV p + 1))) p.length
  rw [stepTo_all, List.length_map] at h
  have h3 : p.length * q.length ≤ 40 * 40 := Nat.mul_le_mul hp hq
  unfold joinS
  omega
theorem both_succ {p q : List (List Int)} {k : Nat} (hk : k < p.length) : bothI (p.take (k + 1)) q = bothI (p.take k) q ++ (if p[k]?.getD [] ∈ q then [p[k]?.getD []] else []) := by
  unfold bothI
  rw [List.take_add_one, List.getElem?_eq_getElem hk, List.filter_append, Option.getD_some]
  congr 1
  by_cases h : p[k] ∈ q <;> simp [h]

end Go.Proofs.YtopopbhpclhinaaGreatDoor
