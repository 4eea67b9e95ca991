/- The way through doors: each triangle once. No Go here. -/
import Derived.Test.YtcciinaeplppiaaDoorLabThru
namespace Go.Proofs.YtcciinaeplppiaaDoor

def DR (n : Nat) (ls : List Int) (r e : List Int) : Prop := r ∈ smallL n ∧ e ∈ doorsL ls r
def placeA (n : Nat) (out : List Int) (k : Nat) : List Int := rowA (smallL n) (out[k]?.getD 0)
/-- While one goes through. -/
structure WayInv (n : Nat) (ls e0 e : List Int) (out : List Int) (frm : Int) : Prop where
  rng : ∀ i ∈ out, 0 ≤ i ∧ i < ((smallL n).length : Int)
  way : ∃ d : Nat → List Int, d 0 = e0 ∧ d out.length = e ∧ Way (DR n ls) out.length (placeA n out) d ∧ (0 < out.length → e ∈ doorsL ls (placeA n out (out.length - 1)) ∧ e ≠ d (out.length - 1))
  frm : (out = [] ∧ frm = -1) ∨ (0 < out.length ∧ out[out.length - 1]? = some frm)
  ok : DoorOk ls e
theorem WayInv.start {n : Nat} {ls e0 : List Int} (h : DoorOk ls e0) : WayInv n ls e0 e0 [] (-1) := ⟨fun i hi => (by cases hi), ⟨fun _ => e0, rfl, rfl, ⟨fun k hk => (by simp at hk), fun k hk => (by simp at hk), fun k hk => (by simp at hk), fun k hk => (by simp at hk)⟩, fun h => (by simp at h)⟩, .inl ⟨rfl, rfl⟩, h⟩
theorem rowA_mem {T : List (List Int)} {i : Int} (h0 : 0 ≤ i) (h1 : i < (T.length : Int)) : rowA T i ∈ T := by
  unfold rowA
  have : i.toNat < T.length := by omega
  rw [List.getElem?_eq_getElem this]
  exact List.getElem_mem _
theorem rowA_inj {n : Nat} (hn : n ≤ 12) {i j : Int} (hi0 : 0 ≤ i) (hi : i < ((smallL n).length : Int)) (hj0 : 0 ≤ j) (hj : j < ((smallL n).length : Int)) (e : rowA (smallL n) i = rowA (smallL n) j) : i = j := by
  unfold rowA at e
  have h1 : i.toNat < (smallL n).length := by omega
  have h2 : j.toNat < (smallL n).length := by omega
  rw [List.getElem?_eq_getElem h1, List.getElem?_eq_getElem h2] at e
  have := (List.getElem_inj (small_nodup hn)).1 e
  omega
theorem nextTo_is {T : List (List Int)} {e : List Int} {frm : Int} : ∀ {k : Nat}, nextTo T e frm k = -1 ∨ (0 ≤ nextTo T e frm k ∧ nextTo T e frm k < (k : Int) ∧ partB e (rowA T (nextTo T e frm k)) = true ∧ nextTo T e frm k ≠ frm)
  | 0 => .inl rfl
  | k + 1 => by
    rw [nextTo]
    split
    · rename_i h
      rw [Bool.and_eq_true, bne_iff_ne] at h
      refine .inr ⟨by omega, by omega, ?_, h.2⟩
      unfold rowA
      rw [Int.toNat_natCast]
      exact h.1
    · rcases nextTo_is (T := T) (e := e) (frm := frm) (k := k) with h | h
      · exact .inl h
      · exact .inr ⟨h.1, by omega, h.2.2⟩
theorem otherTo_is {ds : List (List Int)} {e : List Int} : ∀ {k : Nat}, k ≤ ds.length → otherTo ds e k = [] ∨ (otherTo ds e k ∈ ds ∧ otherTo ds e k ≠ e)
  | 0, _ => .inl rfl
  | k + 1, hk => by
    rw [otherTo]
    split
    · exact otherTo_is (by omega)
    · rename_i h
      refine .inr ⟨?_, h⟩
      rw [List.getElem?_eq_getElem (show k < ds.length by omega)]
      exact List.getElem_mem _
theorem placeA_old {n : Nat} {out : List Int} {i : Int} {k : Nat} (h : k < out.length) : placeA n (out ++ [i]) k = placeA n out k := by
  unfold placeA
  rw [List.getElem?_append_left h]
theorem placeA_new (n : Nat) (out : List Int) (i : Int) : placeA n (out ++ [i]) out.length = rowA (smallL n) i := by
  unfold placeA
  rw [List.getElem?_append_right (Nat.le_refl _), Nat.sub_self]; rfl

/-- One triangle more: its place in the way. -/
theorem WayInv.step {n : Nat} (hn : n ≤ 12) {ls e0 e out : List Int} {frm nx : Int} (h : WayInv n ls e0 e out frm) (h0 : 0 ≤ nx) (h1 : nx < ((smallL n).length : Int)) (hp : partB e (rowA (smallL n) nx) = true) (hne : nx ≠ frm) :
    (∀ i ∈ out ++ [nx], 0 ≤ i ∧ i < ((smallL n).length : Int)) ∧ ∃ d : Nat → List Int, d 0 = e0 ∧ d out.length = e ∧ Way (DR n ls) (out.length + 1) (placeA n (out ++ [nx])) d := by
  have hr : ∀ i ∈ out ++ [nx], 0 ≤ i ∧ i < ((smallL n).length : Int) := fun i hi => by
    rcases List.mem_append.1 hi with hi | hi
    · exact h.rng i hi
    · rw [List.mem_singleton.1 hi]; exact ⟨h0, h1⟩
  refine ⟨hr, ?_⟩
  obtain ⟨d, hd0, hdm, hw, hl⟩ := h.way
  have hmem := rowA_mem h0 h1
  have hdoor : e ∈ doorsL ls (rowA (smallL n) nx) := (mem_doors (smallL_of hmem)).2 ⟨h.ok, hp⟩
  refine ⟨d, hd0, hdm, ⟨fun k hk => ?_, fun k hk => ?_, fun k hk => ?_, fun k hk => ?_⟩⟩
  · by_cases e1 : k < out.length
    · rw [placeA_old e1]; exact hw.into k e1
    · obtain rfl : k = out.length := by omega
      rw [placeA_new, hdm]; exact ⟨hmem, hdoor⟩
  · by_cases e1 : k + 1 < out.length
    · rw [placeA_old (by omega)]; exact hw.out k e1
    · have e2 : out.length = k + 1 := by omega
      have hk2 := hl (by omega)
      rw [e2, Nat.add_sub_cancel] at hk2
      rw [placeA_old (by omega), ← e2, hdm]
      exact ⟨(hw.into k (by omega)).1, hk2.1⟩
  · by_cases e1 : k + 1 < out.length
    · exact hw.turn k e1
    · have e2 : out.length = k + 1 := by omega
      have hk2 := hl (by omega)
      rw [e2, Nat.add_sub_cancel] at hk2
      rw [← e2, hdm]
      exact hk2.2
  · by_cases e1 : k + 1 < out.length
    · rw [placeA_old e1, placeA_old (by omega)]; exact hw.on k e1
    · have e2 : out.length = k + 1 := by omega
      rw [← e2, placeA_new, placeA_old (by omega)]
      rcases h.frm with ⟨f1, _⟩ | ⟨_, f2⟩
      · rw [f1] at e2; simp at e2
      · rw [e2, Nat.add_sub_cancel] at f2
        unfold placeA
        rw [f2, Option.getD_some]
        intro e3
        have hf := h.rng frm (List.mem_of_getElem? f2)
        exact hne (rowA_inj hn h0 h1 hf.1 hf.2 e3)
theorem WayInv.next {n : Nat} (hn : n ≤ 12) {ls e0 e out o : List Int} {frm nx : Int} (h : WayInv n ls e0 e out frm) (h0 : 0 ≤ nx) (h1 : nx < ((smallL n).length : Int)) (hp : partB e (rowA (smallL n) nx) = true) (hne : nx ≠ frm) (ho : o ∈ doorsL ls (rowA (smallL n) nx)) (hoe : o ≠ e) : WayInv n ls e0 o (out ++ [nx]) nx := by
  obtain ⟨hr, d, hd0, hdm, hw⟩ := h.step hn h0 h1 hp hne
  have hlen : (out ++ [nx]).length = out.length + 1 := by simp
  refine ⟨hr, ⟨fun k => if k = out.length + 1 then o else d k, ?_, ?_, ?_, fun _ => ?_⟩, .inr ⟨by omega, ?_⟩, ((mem_doors (smallL_of (rowA_mem h0 h1))).1 ho).1⟩
  · show (if 0 = out.length + 1 then o else d 0) = e0
    rw [if_neg (by omega)]; exact hd0
  · rw [hlen]; simp
  · rw [hlen]
    have ed : ∀ k, k < out.length + 1 → (if k = out.length + 1 then o else d k) = d k := fun k hk => if_neg (by omega)
    exact ⟨fun k hk => by show DR n ls _ (if k = out.length + 1 then o else d k); rw [ed k hk]; exact hw.into k hk, fun k hk => by show DR n ls _ (if k + 1 = out.length + 1 then o else d (k + 1)); rw [ed (k + 1) hk]; exact hw.out k hk, fun k hk => by show (if k + 1 = out.length + 1 then o else d (k + 1)) ≠ (if k = out.length + 1 then o else d k); rw [ed (k + 1) hk, ed k (by omega)]; exact hw.turn k hk, hw.on⟩
  · rw [hlen, Nat.add_sub_cancel, placeA_new]
    refine ⟨ho, ?_⟩
    show o ≠ (if out.length = out.length + 1 then o else d out.length)
    rw [if_neg (by omega), hdm]; exact hoe
  · rw [hlen, Nat.add_sub_cancel, List.getElem?_append_right (Nat.le_refl _), Nat.sub_self]; rfl
theorem ints_few {out : List Int} {L : Nat} (hnd : out.Nodup) (hr : ∀ i ∈ out, 0 ≤ i ∧ i < (L : Int)) : out.length ≤ L := by
  have h1 : (out.map Int.toNat).Nodup := by
    rw [List.nodup_iff_pairwise_ne] at *
    rw [List.pairwise_map]
    refine List.Pairwise.imp_of_mem ?_ hnd
    intro a b ha hb hab e
    have := hr a ha
    have := hr b hb
    omega
  have h2 := nodup_le h1 (Y := List.range L) (fun x hx => by
    obtain ⟨a, ha, rfl⟩ := List.mem_map.1 hx
    have := hr a ha
    exact List.mem_range.2 (by omega))
  rwa [List.length_map, List.length_range] at h2
/-- So many triangles there are at most on the way. -/
theorem WayInv.few {n : Nat} (hn : n ≤ 12) {ls e0 e out : List Int} {frm nx : Int} (h : WayInv n ls e0 e out frm) (hb : ∀ r s, r ∈ smallL n → s ∈ smallL n → partB e0 r = true → partB e0 s = true → r = s) (h0 : 0 ≤ nx) (h1 : nx < ((smallL n).length : Int)) (hp : partB e (rowA (smallL n) nx) = true) (hne : nx ≠ frm) : out.length + 1 ≤ (smallL n).length := by
  obtain ⟨hr, d, hd0, hdm, hw⟩ := h.step hn h0 h1 hp hne
  have tri : ∀ {r e}, DR n ls r e → TriOf (spotsL n) r := fun h => smallL_of h.1
  have once := way_once (D := DR n ls) (fun i a b c ha hb hc => doors_two (tri ha) ha.2 hb.2 hc.2) (fun e i j k hi hj hk => door_in hn (tri hi) (tri hj) (tri hk) hi.2 hj.2 hk.2) hw (fun j hj => by
    have h2 := hw.into 0 (by omega)
    exact hb j _ hj.1 h2.1 (by rw [← hd0]; exact ((mem_doors (tri hj)).1 hj.2).2) (by rw [← hd0]; exact ((mem_doors (tri h2)).1 h2.2).2))
  have hlen : (out ++ [nx]).length = out.length + 1 := by simp
  have hnd : (out ++ [nx]).Nodup := by
    rw [List.nodup_iff_pairwise_ne, List.pairwise_iff_getElem]
    intro i j hi hj hij e2
    rw [hlen] at hj
    refine once j hj i hij ?_
    unfold placeA
    rw [List.getElem?_eq_getElem hi, List.getElem?_eq_getElem (by rw [hlen]; exact hj), e2]
  have := ints_few hnd hr
  rwa [hlen] at this

end Go.Proofs.YtcciinaeplppiaaDoor
