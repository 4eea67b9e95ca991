/- Products: the texts of all stairs over two complexes' facets tell the product's faces. -/
import Derived.Test.YtkmecdgnoemimaaDoorStairs
import Derived.Test.YtkmecdgnoemimaaDoorProductMath2
namespace Go.Proofs.YtkmecdgnoemimaaDoor

theorem range_len {V : List Int} (hV : Rising V) : ∀ {a : Int} {k : Nat}, (∀ v ∈ V, a ≤ v ∧ v < a + k) → V.length ≤ k := by
  induction V with
  | nil => intros; simp
  | cons x V ih =>
    intro a k h
    have h' := List.pairwise_cons.1 hV
    have hx := h x (by simp)
    have := ih h'.2 (a := x + 1) (k := k - 1) (fun v hv => by
      have h1 := h'.1 v hv
      have h2 := h v (by simp [hv])
      omega)
    rw [List.length_cons]
    omega

/-- Bytes as numbers. -/
abbrev nats (x : List UInt8) : List Nat := x.map UInt8.toNat
theorem step_code {wide : Nat} {a b : UInt8} (h : a.toNat * wide + b.toNat < 256) : ((stepB wide a b).toNat : Int) = code wide (a.toNat, b.toNat) := by
  unfold stepB code
  rw [UInt8.toNat_add, UInt8.toNat_mul, UInt8.toNat_ofNat']
  have e : (a.toNat * (wide % 2 ^ 8)) % 2 ^ 8 = (a.toNat * wide) % 2 ^ 8 := by rw [Nat.mul_mod, Nat.mod_mod, ← Nat.mul_mod]
  rw [e]
  have h1 : a.toNat * wide < 256 := by omega
  congr 1
  rw [Nat.mod_eq_of_lt (show a.toNat * wide < 2 ^ 8 from h1), Nat.mod_eq_of_lt h]
theorem climb_ints {wide : Nat} : ∀ (n : Nat) (f g : List UInt8), (∀ a ∈ f, ∀ b ∈ g, a.toNat * wide + b.toNat < 256) → (climbU wide n f g).map ints = (stairs n (nats f) (nats g)).map (fun t => t.map (code wide))
  | 0, _, _, _ => rfl
  | _ + 1, [], _, _ => rfl
  | _ + 1, _ :: _, [], _ => rfl
  | n + 1, a :: f, b :: g, h => by
    have hc := step_code (h a (by simp) b (by simp))
    simp only [climbU, stairs, List.map_cons, List.map_eq_nil_iff]
    by_cases hb : f = [] ∧ g = []
    · rw [if_pos hb, if_pos hb]
      simp [ints, hc]
    · rw [if_neg hb, if_neg hb]
      have e : ∀ L : List (List UInt8), (L.map (fun t => stepB wide a b :: t)).map ints = (L.map ints).map (fun t => code wide (a.toNat, b.toNat) :: t) := fun L => by
        rw [List.map_map, List.map_map]
        refine List.map_congr_left (fun t _ => ?_)
        simp [ints, hc]
      have e' : ∀ L : List (List (Nat × Nat)), (L.map (fun t => (a.toNat, b.toNat) :: t)).map (fun t => t.map (code wide)) = (L.map (fun t => t.map (code wide))).map (fun t => code wide (a.toNat, b.toNat) :: t) := fun L => by
        rw [List.map_map, List.map_map]
        refine List.map_congr_left (fun t _ => ?_)
        simp
      have h1 : (if f = [] then [] else climbU wide n f (b :: g)).map ints = (if f = [] then [] else stairs n (nats f) (b.toNat :: nats g)).map (fun t => t.map (code wide)) := by
        by_cases hf : f = []
        · rw [if_pos hf, if_pos hf]; rfl
        · rw [if_neg hf, if_neg hf]
          exact climb_ints n f (b :: g) (fun x hx y hy => h x (by simp [hx]) y hy)
      have h2 : (if g = [] then [] else climbU wide n (a :: f) g).map ints = (if g = [] then [] else stairs n (a.toNat :: nats f) (nats g)).map (fun t => t.map (code wide)) := by
        by_cases hg : g = []
        · rw [if_pos hg, if_pos hg]; rfl
        · rw [if_neg hg, if_neg hg]
          exact climb_ints n (a :: f) g (fun x hx y hy => h x hx y (by simp [hy]))
      rw [e, e', List.map_append (f := ints), h1, h2, ← List.map_append (f := fun t : List (Nat × Nat) => t.map (code wide))]
theorem climb_sizes {wide : Nat} : ∀ (n : Nat) (f g : List UInt8), ∀ t ∈ climbU wide n f g, 0 < t.length ∧ t.length ≤ n
  | 0, _, _, t, h => by simp [climbU] at h
  | _ + 1, [], _, t, h => by simp [climbU] at h
  | _ + 1, _ :: _, [], t, h => by simp [climbU] at h
  | n + 1, a :: f, b :: g, t, h => by
    simp only [climbU] at h
    split at h
    · simp at h; subst h; simp
    · obtain ⟨t', ht', rfl⟩ := List.mem_map.1 h
      rcases List.mem_append.1 ht' with h1 | h1
      · split at h1
        · cases h1
        · have := climb_sizes n _ _ _ h1; simp; omega
      · split at h1
        · cases h1
        · have := climb_sizes n _ _ _ h1; simp; omega
theorem stairs_sizes {wide : Nat} {f g : List (List UInt8)} : ∀ t ∈ stairsU wide f g, 0 < t.length ∧ t.length ≤ 1000 := fun t ht => by
  unfold stairsU at ht
  obtain ⟨x, _, ht⟩ := List.mem_flatMap.1 ht
  obtain ⟨y, _, ht⟩ := List.mem_flatMap.1 ht
  have := climb_sizes 20 x y t ht
  omega
theorem stairs_ints {wide : Nat} : ∀ {first second : List (List UInt8)}, (∀ f ∈ first, ∀ g ∈ second, ∀ a ∈ f, ∀ b ∈ g, a.toNat * wide + b.toNat < 256) →
    (stairsU wide first second).map ints = (first.map nats).flatMap (fun f => (second.map nats).flatMap (fun g => (stairs 20 f g).map (fun t => t.map (code wide)))) := by
  intro first second h
  unfold stairsU
  rw [List.map_flatMap, List.flatMap_map]
  have cong : ∀ {α β : Type} {l : List α} {u v : α → List β}, (∀ x ∈ l, u x = v x) → l.flatMap u = l.flatMap v := by
    intro α β l u v h
    induction l with
    | nil => rfl
    | cons x l ih => rw [List.flatMap_cons, List.flatMap_cons, h x (by simp), ih (fun y hy => h y (by simp [hy]))]
  refine cong (fun f hf => ?_)
  rw [List.map_flatMap, List.flatMap_map]
  exact cong (fun g hg => climb_ints 20 f g (h f hf g hg))

/-- Where a vertex stands. -/
theorem place_at {V : List Int} {vs : List (List UInt8)} (hl : V.length ≤ 100) (hvs : vs.map ints = V.map (fun v => [v])) {c : UInt8} (hc : (c.toNat : Int) ∈ V) : (placeK vs vs.length c).toNat < V.length ∧ vAt V (placeK vs vs.length c).toNat = (c.toNat : Int) := by
  have hlen : vs.length = V.length := by have := congrArg List.length hvs; simpa using this
  have hin : [c] ∈ vs := by
    have : [(c.toNat : Int)] ∈ vs.map ints := by rw [hvs]; exact List.mem_map.2 ⟨_, hc, rfl⟩
    obtain ⟨x, hx, e⟩ := List.mem_map.1 this
    have : x = [c] := ints_inj (by rw [e]; rfl)
    rwa [← this]
  have hi := List.idxOf_lt_length_iff.2 hin
  unfold placeK
  rw [List.take_length, if_pos hin, UInt8.toNat_ofNat', Nat.mod_eq_of_lt (by omega)]
  refine ⟨by omega, ?_⟩
  have h1 : (vs.map ints)[vs.idxOf [c]]? = some [(c.toNat : Int)] := by
    rw [List.getElem?_map, List.getElem?_eq_getElem hi, List.getElem_idxOf]; rfl
  rw [hvs, List.getElem?_map] at h1
  unfold vAt
  cases e : V[vs.idxOf [c]]? with
  | none => rw [e] at h1; cases h1
  | some v =>
    rw [e] at h1
    simpa using h1
theorem placed_texts {V : List Int} {F : List (List Int)} {vs fs : List (List UInt8)} (hV : Rising V) (hl : V.length ≤ 100) (hvs : vs.map ints = V.map (fun v => [v]))
    (hfs : ∀ x ∈ fs, (Rising (ints x) ∧ x ≠ []) ∧ x.length ≤ 7 ∧ ∀ c ∈ x, (c.toNat : Int) ∈ V) (hF : ∀ t, t ∈ fs.map ints ↔ t ∈ F) : PlacedL V F ((fs.map (placeU vs)).map nats) := by
  have hmap : ∀ x ∈ fs, (nats (placeU vs x)).map (vAt V) = ints x := fun x hx => by
    unfold nats placeU ints
    rw [List.map_map, List.map_map]
    exact List.map_congr_left (fun c hc => (place_at hl hvs ((hfs x hx).2.2 c hc)).2)
  constructor
  · intro y hy
    obtain ⟨z, hz, rfl⟩ := List.mem_map.1 hy
    obtain ⟨x, hx, rfl⟩ := List.mem_map.1 hz
    have hx' := hfs x hx
    have hlt : ∀ i ∈ nats (placeU vs x), i < V.length := fun i hi => by
      obtain ⟨d, hd, rfl⟩ := List.mem_map.1 hi
      obtain ⟨c, hc, rfl⟩ := List.mem_map.1 hd
      exact (place_at hl hvs (hx'.2.2 c hc)).1
    refine ⟨?_, ?_, by simp [placeU]; exact hx'.2.1, hlt, ?_⟩
    · have h1 : ((nats (placeU vs x)).map (vAt V)).Pairwise (· < ·) := by rw [hmap x hx]; exact hx'.1.1
      rw [List.pairwise_map] at h1
      refine h1.imp_of_mem (fun {a b} ha hb hab => ?_)
      rcases Nat.lt_trichotomy a b with e | e | e
      · exact e
      · rw [e] at hab; omega
      · have := vAt_lt hV e (hlt a ha); omega
    · simp [placeU, hx'.1.2]
    · rw [hmap x hx]; exact (hF _).1 (List.mem_map.2 ⟨x, hx, rfl⟩)
  · intro f hf
    obtain ⟨x, hx, rfl⟩ := List.mem_map.1 ((hF f).2 hf)
    exact ⟨_, List.mem_map.2 ⟨_, List.mem_map.2 ⟨x, hx, rfl⟩, rfl⟩, hmap x hx⟩

/-- All of it: the texts of all stairs tell the product's faces. -/
theorem texts_faces {V W : List Int} {p q F G : List (List Int)} {vs ws fs gs : List (List UInt8)} (hV : Rising V) (hW : Rising W) (hVl : V.length ≤ 100) (hWl : W.length ≤ 100) (hm : V.length * W.length ≤ 100)
    (hvs : vs.map ints = V.map (fun v => [v])) (hws : ws.map ints = W.map (fun v => [v]))
    (hfs : ∀ x ∈ fs, (Rising (ints x) ∧ x ≠ []) ∧ x.length ≤ 7 ∧ ∀ c ∈ x, (c.toNat : Int) ∈ V) (hgs : ∀ x ∈ gs, (Rising (ints x) ∧ x ≠ []) ∧ x.length ≤ 7 ∧ ∀ c ∈ x, (c.toNat : Int) ∈ W)
    (hF : ∀ t, t ∈ fs.map ints ↔ t ∈ F) (hG : ∀ t, t ∈ gs.map ints ↔ t ∈ G) (hFp : ∀ x ∈ F, x ∈ p) (hGq : ∀ x ∈ G, x ∈ q) (hpf : ∀ x ∈ p, ∃ t ∈ F, x.Sublist t) (hqg : ∀ x ∈ q, ∃ t ∈ G, x.Sublist t) (y : List Int) :
    FaceOf ((stairsU W.length (fs.map (placeU vs)) (gs.map (placeU ws))).map ints) y ↔ ProdFace V W p q y := by
  have pf := placed_texts hV hVl hvs hfs hF
  have pg := placed_texts hW hWl hws hgs hG
  rw [stairs_ints, stairs_faces hV hW pf pg hFp hGq hpf hqg]
  intro f hf g hg a ha b hb
  have h1 := (pf.1 (nats f) (List.mem_map.2 ⟨f, hf, rfl⟩)).2.2.2.1 a.toNat (List.mem_map.2 ⟨a, ha, rfl⟩)
  have h2 := (pg.1 (nats g) (List.mem_map.2 ⟨g, hg, rfl⟩)).2.2.2.1 b.toNat (List.mem_map.2 ⟨b, hb, rfl⟩)
  have h3 : (a.toNat + 1) * W.length ≤ V.length * W.length := Nat.mul_le_mul_right _ h1
  rw [Nat.succ_mul] at h3
  omega

end Go.Proofs.YtkmecdgnoemimaaDoor
