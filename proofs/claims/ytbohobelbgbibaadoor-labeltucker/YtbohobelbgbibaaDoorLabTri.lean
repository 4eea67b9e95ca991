/- Small triangles: their corners are near each other; a side lies in two of them at most; a triangle has two doors at most. No Go here. -/
import Derived.Test.YtbohobelbgbibaaDoorLabGeo
namespace Go.Proofs.YtbohobelbgbibaaDoor

def spA (l : List Spt) (a : Nat) : Spt := l[a]?.getD (0, 0, 0)
/-- What a small triangle is. -/
def TriOf (l : List Spt) (r : List Int) : Prop := ∃ a b c : Nat, r = [(a : Int), (b : Int), (c : Int)] ∧ a < b ∧ b < c ∧ c < l.length ∧ nearN (spA l a) (spA l b) = true ∧ nearN (spA l a) (spA l c) = true ∧ nearN (spA l b) (spA l c) = true
theorem mem_smallA (l : List Spt) {m : Nat} (_hm : m ≤ l.length) {r : List Int} (h : r ∈ smallA l m) : TriOf l r := by
  unfold smallA smallB smallC at h
  obtain ⟨p, hp, h⟩ := List.mem_flatMap.1 h
  obtain ⟨q, hq, h⟩ := List.mem_flatMap.1 h
  split at h
  · rename_i hpq
    split at h
    · rename_i hn
      obtain ⟨c, hc, rfl⟩ := List.mem_map.1 h
      have h1 := List.mem_range.1 (List.mem_filter.1 hc).1
      have h2 := (List.mem_filter.1 hc).2
      rw [Bool.and_eq_true, Bool.and_eq_true] at h2
      exact ⟨p, q, c, rfl, hpq, of_decide_eq_true h2.1, h1, hn, h2.2.1, h2.2.2⟩
    · cases h
  · cases h
theorem smallL_of {n : Nat} {r : List Int} (h : r ∈ smallL n) : TriOf (spotsL n) r := mem_smallA _ (Nat.le_refl _) h
/-- Three numbers, rising, two of them given in their order. -/
def ins (x y z : Nat) : List Int := if z < x then [(z : Int), (x : Int), (y : Int)] else if z < y then [(x : Int), (z : Int), (y : Int)] else [(x : Int), (y : Int), (z : Int)]
theorem edge_third {l : List Spt} {r : List Int} (h : TriOf l r) {x y : Nat} (hxy : x < y) (hx : (x : Int) ∈ r) (hy : (y : Int) ∈ r) : ∃ z, r = ins x y z ∧ z < l.length ∧ y < l.length ∧ nearN (spA l x) (spA l y) = true ∧ nearN (spA l x) (spA l z) = true ∧ nearN (spA l y) (spA l z) = true := by
  obtain ⟨a, b, c, rfl, h1, h2, h3, n1, n2, n3⟩ := h
  simp only [List.mem_cons, List.not_mem_nil, or_false] at hx hy
  have e : ∀ {u v : Nat}, (u : Int) = (v : Int) → u = v := fun h => by omega
  rcases hx with hx | hx | hx <;> rcases hy with hy | hy | hy <;> (have ex := e hx; have ey := e hy; subst ex; subst ey) <;> first
    | omega
    | exact ⟨c, by unfold ins; rw [if_neg (by omega), if_neg (by omega)], by omega, by omega, n1, n2, n3⟩
    | exact ⟨b, by unfold ins; rw [if_neg (by omega), if_pos (by omega)], by omega, by omega, n2, n1, by rw [near_comm]; exact n3⟩
    | exact ⟨a, by unfold ins; rw [if_pos (by omega)], by omega, by omega, n3, by rw [near_comm]; exact n1, by rw [near_comm]; exact n2⟩
theorem spA_mem {n a : Nat} (h : a < (spotsL n).length) : spA (spotsL n) a ∈ spotsL n := by
  unfold spA
  rw [List.getElem?_eq_getElem h]
  exact List.getElem_mem _
theorem spA_inj {n a b : Nat} (hn : n ≤ 12) (ha : a < (spotsL n).length) (hb : b < (spotsL n).length) (e : spA (spotsL n) a = spA (spotsL n) b) : a = b := by
  unfold spA at e
  rw [List.getElem?_eq_getElem ha, List.getElem?_eq_getElem hb] at e
  exact (List.getElem_inj (spots_nodup n hn)).1 e
/-- A side lies in two small triangles at most. -/
theorem edge_two {n : Nat} (hn : n ≤ 12) {x y : Nat} (hxy : x < y) {r s t : List Int} (hr : TriOf (spotsL n) r) (hs : TriOf (spotsL n) s) (ht : TriOf (spotsL n) t) (xr : (x : Int) ∈ r) (yr : (y : Int) ∈ r) (xs : (x : Int) ∈ s) (ys : (y : Int) ∈ s) (xt : (x : Int) ∈ t) (yt : (y : Int) ∈ t) : r = s ∨ s = t ∨ r = t := by
  obtain ⟨a, rfl, ha, hy, p1, p2, p3⟩ := edge_third hr hxy xr yr
  obtain ⟨b, rfl, hb, -, q1, q2, q3⟩ := edge_third hs hxy xs ys
  obtain ⟨c, rfl, hc, -, r1, r2, r3⟩ := edge_third ht hxy xt yt
  have hx : x < (spotsL n).length := by omega
  have sm : ∀ {a}, a < (spotsL n).length → sumS (spA (spotsL n) a) = n := fun h => spots_sum (spA_mem h)
  rcases two_thirds p1 p2 p3 q2 q3 r2 r3 (by rw [sm hx, sm hy]) (by rw [sm hx, sm ha]) (by rw [sm hx, sm hb]) (by rw [sm hx, sm hc]) with e | e | e
  · exact .inl (by rw [spA_inj hn ha hb e])
  · exact .inr (.inl (by rw [spA_inj hn hb hc e]))
  · exact .inr (.inr (by rw [spA_inj hn ha hc e]))

end Go.Proofs.YtbohobelbgbibaaDoor
