/- Indices by heights, without a program: the highest vertex of a face; what the faces with one highest vertex count is 1 less what is lower in its link; all together is EULER's number. -/
import Derived.Test.YthmjdfjchhohgaaGreatDoorFar
import Derived.Test.YthmjdfjchhohgaaGreatDoorRefJoin
namespace Go.Proofs.YthmjdfjchhohgaaGreatDoor
open Go.Sort

/-- The height of a vertex. -/
def hiF (V h : List Int) (v : Int) : Int := if v ∈ V then (h[V.idxOf v]?).getD 0 else 0
/-- The first of the highest vertices. -/
def topF (ht : Int → Int) : Int → List Int → Int
  | m, [] => m
  | m, v :: f => topF ht (if ht v - ht m > 0 then v else m) f
def topOf (ht : Int → Int) (f : List Int) : Int := topF ht (f.headD 0) f.tail
theorem topF_mem (ht : Int → Int) : ∀ (f : List Int) (m : Int), topF ht m f ∈ m :: f ∧ ∀ v ∈ m :: f, ht v ≤ ht (topF ht m f)
  | [], m => ⟨List.mem_cons_self, fun v hv => by rw [List.mem_singleton.1 hv]; exact Int.le_refl _⟩
  | x :: f, m => by
    obtain ⟨h1, h2⟩ := topF_mem ht f (if ht x - ht m > 0 then x else m)
    by_cases hc : ht x - ht m > 0
    · simp only [topF, if_pos hc] at h1 h2 ⊢
      refine ⟨List.mem_cons_of_mem _ h1, fun v hv => ?_⟩
      rcases List.mem_cons.1 hv with rfl | hv
      · have := h2 x List.mem_cons_self; omega
      · exact h2 v hv
    · simp only [topF, if_neg hc] at h1 h2 ⊢
      refine ⟨?_, fun v hv => ?_⟩
      · rcases List.mem_cons.1 h1 with h | h
        · rw [h]; exact List.mem_cons_self
        · exact List.mem_cons_of_mem _ (List.mem_cons_of_mem _ h)
      · rcases List.mem_cons.1 hv with rfl | hv
        · exact h2 v List.mem_cons_self
        · rcases List.mem_cons.1 hv with rfl | hv
          · have := h2 m List.mem_cons_self; omega
          · exact h2 v (List.mem_cons_of_mem _ hv)
theorem topOf_mem (ht : Int → Int) {f : List Int} (hf : f ≠ []) : topOf ht f ∈ f ∧ ∀ v ∈ f, ht v ≤ ht (topOf ht f) := by
  cases f with
  | nil => exact absurd rfl hf
  | cons x f => exact topF_mem ht f x
theorem topOf_one {ht : Int → Int} {V f : List Int} (hi : ∀ u ∈ V, ∀ v ∈ V, ht u = ht v → u = v) (hV : ∀ v ∈ f, v ∈ V) {t : Int} (ht1 : t ∈ f) (ht2 : ∀ v ∈ f, ht v ≤ ht t) : topOf ht f = t := by
  obtain ⟨h1, h2⟩ := topOf_mem ht (List.ne_nil_of_mem ht1)
  exact hi _ (hV _ h1) _ (hV _ ht1) (Int.le_antisymm (ht2 _ h1) (h2 _ ht1))

theorem topF_snoc (ht : Int → Int) (x : Int) : ∀ (l : List Int) (m : Int), topF ht m (l ++ [x]) = if ht x - ht (topF ht m l) > 0 then x else topF ht m l
  | [], _ => rfl
  | _ :: l, _ => topF_snoc ht x l _
/-- The highest of the first k + 1 vertices. -/
def topTo (ht : Int → Int) (f : List Int) (k : Nat) : Int := topF ht (f.headD 0) ((f.take (k + 1)).tail)
theorem topTo_zero (ht : Int → Int) (f : List Int) : topTo ht f 0 = f.headD 0 := by cases f <;> rfl
theorem topTo_succ (ht : Int → Int) {f : List Int} {k : Nat} (hk : k + 1 < f.length) : topTo ht f (k + 1) = if ht (f[k + 1]?.getD 0) - ht (topTo ht f k) > 0 then f[k + 1]?.getD 0 else topTo ht f k := by
  cases f with
  | nil => simp at hk
  | cons x f =>
    have hk' : k < f.length := by simpa using hk
    have e1 : (x :: f)[k + 1]?.getD 0 = f[k] := by simp [hk']
    have e2 : topTo ht (x :: f) (k + 1) = topF ht x (f.take k ++ [f[k]]) := by
      show topF ht x (f.take (k + 1)) = _
      rw [List.take_add_one, List.getElem?_eq_getElem hk']
      rfl
    have e3 : topTo ht (x :: f) k = topF ht x (f.take k) := rfl
    rw [e1, e2, e3, topF_snoc]
theorem topTo_all (ht : Int → Int) {f : List Int} {k : Nat} (hk : f.length ≤ k + 1) : topTo ht f k = topOf ht f := by
  unfold topTo topOf
  rw [List.take_of_length_le hk]
theorem topTo_mem (ht : Int → Int) {f : List Int} (hf : f ≠ []) (k : Nat) : topTo ht f k ∈ f := by
  cases f with
  | nil => exact absurd rfl hf
  | cons x f =>
    have h := (topF_mem ht (f.take k) x).1
    show topF ht x (f.take k) ∈ x :: f
    rcases List.mem_cons.1 h with h | h
    · rw [h]; exact List.mem_cons_self
    · exact List.mem_cons_of_mem _ (List.mem_of_mem_take h)

theorem hiF_at {V h : List Int} (hV : V.Nodup) {i : Nat} (hi : i < V.length) : hiF V h (V[i]) = (h[i]?).getD 0 := by
  unfold hiF
  rw [if_pos (List.getElem_mem hi), hV.idxOf_getElem i hi]
theorem hiF_inj {V h : List Int} (hl : h.length = V.length) (hd : h.Nodup) : ∀ u ∈ V, ∀ v ∈ V, hiF V h u = hiF V h v → u = v := by
  intro u hu v hv e
  have hu' := List.idxOf_lt_length_of_mem hu
  have hv' := List.idxOf_lt_length_of_mem hv
  unfold hiF at e
  rw [if_pos hu, if_pos hv, List.getElem?_eq_getElem (by omega), List.getElem?_eq_getElem (by omega), Option.getD_some, Option.getD_some] at e
  have e2 : V.idxOf u = V.idxOf v := by
    have k1 := hd.idxOf_getElem (V.idxOf u) (by omega)
    have k2 := hd.idxOf_getElem (V.idxOf v) (by omega)
    rw [e] at k1
    exact k1.symm.trans k2
  have e3 : V[V.idxOf u] = V[V.idxOf v] := by congr 1
  rwa [List.getElem_idxOf, List.getElem_idxOf] at e3

theorem hiF_step {V h : List Int} (hV : V.Nodup) {i : Nat} (hi : i < V.length) (k : Int) : hiF (V.take (i + 1)) h k = if k = V[i]?.getD 0 then (h[i]?).getD 0 else hiF (V.take i) h k := by
  rw [List.getElem?_eq_getElem hi, Option.getD_some]
  by_cases e : k = V[i]
  · have hN : (V.take (i + 1)).Nodup := hV.sublist (List.take_sublist _ _)
    have h1 := hiF_at (h := h) hN (i := i) (by rw [List.length_take]; omega)
    rw [List.getElem_take] at h1
    rw [if_pos e, e, h1]
  · rw [if_neg e]
    unfold hiF
    have h1 : V.take (i + 1) = V.take i ++ [V[i]] := by rw [List.take_add_one, List.getElem?_eq_getElem hi]; rfl
    rw [h1]
    by_cases hk : k ∈ V.take i
    · rw [if_pos hk, if_pos (List.mem_append_left _ hk), ← h1]
      obtain ⟨j, hj, rfl⟩ := List.getElem_of_mem hk
      have hN : (V.take (i + 1)).Nodup := hV.sublist (List.take_sublist _ _)
      have hN' : (V.take i).Nodup := hV.sublist (List.take_sublist _ _)
      have hj' : j < (V.take (i + 1)).length := by rw [List.length_take] at hj ⊢; omega
      have k1 := hN.idxOf_getElem j hj'
      have k2 := hN'.idxOf_getElem j hj
      rw [List.getElem_take] at k1 k2 ⊢
      rw [k1, k2]
    · rw [if_neg hk, if_neg (fun hc => (List.mem_append.1 hc).elim hk (fun h => e (List.mem_singleton.1 h)))]
theorem hiF_nil (h : List Int) (k : Int) : hiF [] h k = 0 := by unfold hiF; rw [if_neg (fun hc => by cases hc)]

/-- What the faces whose highest vertex is v count. -/
def idxN (L : List (List Int)) (ht : Int → Int) (v : Int) : Int := eulerOf (L.filter (fun f => decide (topOf ht f = v)))
/-- What is lower in a vertex's link. -/
def lowL (all : List (List Int)) (ht : Int → Int) (v : Int) : List (List Int) := (linkI all [v]).filter (fun s => s.all (fun u => decide (ht u < ht v)))

theorem euler_erase {v : Int} : ∀ {F : List (List Int)}, (∀ f ∈ F, v ∈ f) → eulerOf (F.map (fun f => f.erase v)) = - eulerOf F
  | [], _ => rfl
  | f :: F, h => by
    have h1 : v ∈ f := h f List.mem_cons_self
    have h2 := List.length_erase_of_mem h1
    have h3 := List.length_pos_of_mem h1
    simp only [List.map_cons, eulerOf, euler_erase (F := F) (fun g hg => h g (List.mem_cons_of_mem _ hg)), h2]
    split <;> split <;> omega
theorem erase_memI {v u : Int} {f : List Int} (h : Rising f) : u ∈ f.erase v ↔ u ≠ v ∧ u ∈ f := by
  rw [(rising_nodup h).mem_erase_iff]

theorem idx_low {l all : List (List Int)} (g : Good l all) {ht : Int → Int} (hi : ∀ u ∈ vertI all, ∀ v ∈ vertI all, ht u = ht v → u = v) {v : Int} (hv : v ∈ vertI all) : idxN all ht v = 1 - eulerOf (lowL all ht v) := by
  have hone : ∀ x ∈ all, ∀ u ∈ x, u ∈ vertI all := fun x hx u hu => vertI_mem.2 (g.sub hx (List.singleton_sublist.2 hu) (by simp))
  obtain ⟨F, hF⟩ : ∃ F, all.filter (fun f => decide (topOf ht f = v)) = F := ⟨_, rfl⟩
  have hm : ∀ f, f ∈ F ↔ f ∈ all ∧ topOf ht f = v := fun f => by rw [← hF, List.mem_filter, decide_eq_true_eq]
  have hne : ∀ f ∈ all, f ≠ [] := fun f hf => ((face_ok_of g hf).1).1
  have hvF : ∀ f ∈ F, v ∈ f := fun f hf => by
    obtain ⟨h1, h2⟩ := (hm f).1 hf
    rw [← h2]; exact (topOf_mem ht (hne f h1)).1
  have hN : F.Nodup := hF ▸ (order_nodup g.isAll.order).filter _
  have hp : (F.map (fun f => f.erase v)).Perm ([] :: lowL all ht v) := by
    refine (List.perm_ext_iff_of_nodup ?_ ?_).2 fun x => ?_
    · refine List.Pairwise.map _ (S := fun a b => a ≠ b) (R := fun a b => a ≠ b ∧ a ∈ F ∧ b ∈ F) ?_ ?_
      · rintro a b ⟨hab, ha, hb⟩ e
        refine hab (rising_told (g.rising a ((hm a).1 ha).1) (g.rising b ((hm b).1 hb).1) fun u => ?_)
        by_cases hu : u = v
        · subst hu; exact ⟨fun _ => hvF b hb, fun _ => hvF a ha⟩
        · have e1 := erase_memI (v := v) (u := u) (g.rising a ((hm a).1 ha).1)
          have e2 := erase_memI (v := v) (u := u) (g.rising b ((hm b).1 hb).1)
          rw [e] at e1
          rw [e2] at e1
          exact ⟨fun h => (e1.2 ⟨hu, h⟩).2, fun h => (e1.1 ⟨hu, h⟩).2⟩
      · exact (List.Pairwise.and_mem (R := fun a b => a ≠ b)).1 hN |>.imp fun ⟨h1, h2, h3⟩ => ⟨h3, h1, h2⟩
    · refine List.nodup_cons.2 ⟨fun h => ?_, ((order_nodup g.isAll.order).filter _).filter _⟩
      have h1 := (List.mem_filter.1 (List.mem_filter.1 h).1).2
      simp [linkB] at h1
    · rw [List.mem_map, List.mem_cons]
      constructor
      · rintro ⟨f, hf, rfl⟩
        obtain ⟨h1, h2⟩ := (hm f).1 hf
        have hr := g.rising f h1
        have hvf := hvF f hf
        by_cases h0 : f.erase v = []
        · exact .inl h0
        · refine .inr (List.mem_filter.2 ⟨List.mem_filter.2 ⟨g.sub h1 List.erase_sublist h0, ?_⟩, List.all_eq_true.2 fun u hu => decide_eq_true ?_⟩)
          · unfold linkB
            rw [decide_eq_true h0, decide_eq_true (minus_self.2 fun u hu hc => ((erase_memI hr).1 hu).1 (List.mem_singleton.1 hc)), Bool.true_and, Bool.true_and, uniB_iff]
            refine ⟨f, h1, fun u => ⟨fun hu => ?_, fun hu => ?_⟩⟩
            · by_cases e : u = v
              · exact .inr (List.mem_singleton.2 e)
              · exact .inl ((erase_memI hr).2 ⟨e, hu⟩)
            · rcases hu with hu | hu
              · exact ((erase_memI hr).1 hu).2
              · rw [List.mem_singleton.1 hu]; exact hvf
          · obtain ⟨h3, h4⟩ := (erase_memI hr).1 hu
            have h5 := (topOf_mem ht (hne f h1)).2 u h4
            rw [h2] at h5
            rcases Int.lt_or_eq_of_le h5 with h6 | h6
            · exact h6
            · exact absurd (hi _ (hone f h1 u h4) _ hv h6) h3
      · rintro (rfl | hx)
        · refine ⟨[v], (hm _).2 ⟨vertI_mem.1 hv, rfl⟩, by simp⟩
        · obtain ⟨h1, h2⟩ := List.mem_filter.1 hx
          obtain ⟨h3, h4⟩ := List.mem_filter.1 h1
          unfold linkB at h4
          simp only [Bool.and_eq_true, decide_eq_true_eq] at h4
          obtain ⟨⟨h5, h6⟩, h7⟩ := h4
          obtain ⟨o, ho, hom⟩ := uniB_iff.1 h7
          have hvo : v ∈ o := (hom v).2 (.inr (List.mem_singleton.2 rfl))
          have hvx : v ∉ x := fun hc => minus_self.1 h6 v hc (List.mem_singleton.2 rfl)
          have hlt : ∀ u ∈ x, ht u < ht v := fun u hu => of_decide_eq_true (List.all_eq_true.1 h2 u hu)
          refine ⟨o, (hm o).2 ⟨ho, topOf_one hi (hone o ho) hvo fun u hu => ?_⟩, ?_⟩
          · rcases (hom u).1 hu with hu | hu
            · exact Int.le_of_lt (hlt u hu)
            · rw [List.mem_singleton.1 hu]; exact Int.le_refl _
          · refine rising_told ((g.rising o ho).sublist List.erase_sublist) (g.rising x h3) fun u => ?_
            rw [erase_memI (g.rising o ho), hom]
            constructor
            · rintro ⟨h8, h9 | h9⟩
              · exact h9
              · exact absurd (List.mem_singleton.1 h9) h8
            · exact fun h9 => ⟨fun e => hvx (e ▸ h9), .inl h9⟩
  have h1 := eulerOf_perm hp
  rw [euler_erase hvF] at h1
  unfold idxN
  rw [hF]
  simp only [eulerOf, List.length_nil] at h1
  rw [if_neg (by decide)] at h1
  omega

/-- All faces together: each has one highest vertex. -/
theorem idx_sum {V : List Int} (hV : V.Nodup) {ht : Int → Int} : ∀ {L : List (List Int)}, (∀ f ∈ L, topOf ht f ∈ V) → (V.map (idxN L ht)).sum = eulerOf L
  | [], _ => by
    have : ∀ W : List Int, (W.map (idxN [] ht)).sum = 0 := by
      intro W
      induction W with
      | nil => rfl
      | cons x W ih => simp only [List.map_cons, List.sum_cons, ih]; rfl
    exact this V
  | f :: L, h => by
    have hs := idx_sum hV (L := L) (fun g hg => h g (List.mem_cons_of_mem _ hg))
    have hc : ∀ v, idxN (f :: L) ht v = (if topOf ht f = v then (if f.length % 2 = 1 then (1 : Int) else -1) else 0) + idxN L ht v := fun v => by
      unfold idxN
      by_cases e : topOf ht f = v
      · rw [List.filter_cons_of_pos (by simpa using e), if_pos e]; rfl
      · rw [List.filter_cons_of_neg (by simpa using e), if_neg e]; omega
    have key : ∀ W : List Int, W.Nodup → (W.map (idxN (f :: L) ht)).sum = (if topOf ht f ∈ W then (if f.length % 2 = 1 then (1 : Int) else -1) else 0) + (W.map (idxN L ht)).sum := by
      intro W hW
      induction W with
      | nil => simp
      | cons x W ih =>
        obtain ⟨h1, h2⟩ := List.nodup_cons.1 hW
        simp only [List.map_cons, List.sum_cons, hc x, ih h2]
        by_cases e : topOf ht f = x
        · subst e
          rw [if_pos rfl, if_neg h1, if_pos List.mem_cons_self]; omega
        · rw [if_neg e]
          by_cases e2 : topOf ht f ∈ W
          · rw [if_pos e2, if_pos (List.mem_cons_of_mem _ e2)]; omega
          · rw [if_neg e2, if_neg (fun hc => (List.mem_cons.1 hc).elim e e2)]; omega
    rw [key V hV, if_pos (h f List.mem_cons_self), hs]
    rfl
theorem idxN_perm {L M : List (List Int)} (h : L.Perm M) (ht : Int → Int) (v : Int) : idxN L ht v = idxN M ht v := eulerOf_perm (h.filter _)
theorem idxN_snoc (L : List (List Int)) (f : List Int) (ht : Int → Int) (v : Int) : idxN (L ++ [f]) ht v = idxN L ht v + (if topOf ht f = v then (if f.length % 2 = 1 then (1 : Int) else -1) else 0) := by
  unfold idxN
  rw [List.filter_append]
  by_cases e : topOf ht f = v
  · rw [List.filter_cons_of_pos (by simpa using e), List.filter_nil, eulerOf_snoc, if_pos e]
  · rw [List.filter_cons_of_neg (by simpa using e), List.filter_nil, List.append_nil, if_neg e]; omega
theorem idxN_small (L : List (List Int)) (ht : Int → Int) (v : Int) : -(L.length : Int) ≤ idxN L ht v ∧ idxN L ht v ≤ L.length := by
  have h1 := eulerOf_small (L.filter (fun f => decide (topOf ht f = v)))
  have h2 := List.length_filter_le (fun f => decide (topOf ht f = v)) L
  unfold idxN
  omega

end Go.Proofs.YthmjdfjchhohgaaGreatDoor
