/- Numbers of faces with signs: of joins, products, unions; what is told as facets is a complex; a link's link is the link of both. -/
import Derived.Test.YtkmecdgnoemimaaDoorEulerMath
import Derived.Test.YtkmecdgnoemimaaDoorBuilt
import Derived.Test.YtkmecdgnoemimaaDoorProductGood
namespace Go.Proofs.YtkmecdgnoemimaaDoor
open Go.RowKit Go.Sort

/-- All parts of a list. -/
def subsL {α : Type} : List α → List (List α)
  | [] => [[]]
  | a :: l => subsL l ++ (subsL l).map (fun t => a :: t)
theorem subs_mem {α : Type} {l x : List α} : x ∈ subsL l ↔ x.Sublist l := by
  induction l generalizing x with
  | nil => simp [subsL]
  | cons a l ih =>
    simp only [subsL]
    rw [List.mem_append, List.mem_map, List.sublist_cons_iff]
    simp only [ih]
    constructor
    · rintro (h | ⟨t, ht, rfl⟩)
      · exact .inl h
      · exact .inr ⟨t, rfl, ht⟩
    · rintro (h | ⟨t, rfl, ht⟩)
      · exact .inl h
      · exact .inr ⟨t, ht, rfl⟩
/-- Each text once. -/
def onceL : List (List UInt8) → List (List UInt8)
  | [] => []
  | x :: l => if x ∈ onceL l then onceL l else x :: onceL l
theorem once_mem {l : List (List UInt8)} {x : List UInt8} : x ∈ onceL l ↔ x ∈ l := by
  induction l with
  | nil => simp [onceL]
  | cons y l ih =>
    simp only [onceL]
    split
    · rename_i h
      rw [ih, List.mem_cons]
      exact ⟨.inr, fun e => e.elim (fun e => by subst e; exact ih.1 h) id⟩
    · rw [List.mem_cons, List.mem_cons, ih]
theorem once_nodup (l : List (List UInt8)) : (onceL l).Nodup := by
  induction l with
  | nil => exact List.Pairwise.nil
  | cons y l ih =>
    simp only [onceL]
    split
    · exact ih
    · rename_i h
      exact List.nodup_cons.2 ⟨h, ih⟩
theorem texts_ex {g : List (List Int)} (hok : ∀ t ∈ g, SetOk t) : ∃ ts : List (List UInt8), ts.map ints = g := by
  refine ⟨g.map (fun x => x.map (fun v => UInt8.ofNat v.toNat)), ?_⟩
  rw [List.map_map]
  refine (List.map_congr_left (fun x hx => ?_)).trans (List.map_id g)
  show ints (x.map (fun v => UInt8.ofNat v.toNat)) = x
  unfold ints
  rw [List.map_map]
  refine (List.map_congr_left (fun v hv => ?_)).trans (List.map_id x)
  have := (hok x hx).2.2 v hv
  simp only [Function.comp, UInt8.toNat_ofNat', id]
  omega
theorem all_ex {g : List (List Int)} (hok : ∀ t ∈ g, SetOk t) : ∃ all, IsAll g all := by
  obtain ⟨ts, rfl⟩ := texts_ex hok
  refine ⟨(srtS (onceL ((ts.flatMap subsL).filter (fun x => decide (x ≠ []))))).map ints, sorted_order (once_nodup _), fun y => ?_⟩
  have key : ∀ x, x ∈ srtS (onceL ((ts.flatMap subsL).filter (fun x => decide (x ≠ [])))) ↔ FaceOf ts x := fun x => by
    have e1 : x ∈ srtS (onceL ((ts.flatMap subsL).filter (fun x => decide (x ≠ [])))) ↔ x ∈ onceL ((ts.flatMap subsL).filter (fun x => decide (x ≠ []))) := (List.mergeSort_perm _ _).mem_iff
    rw [e1, once_mem, List.mem_filter, List.mem_flatMap, decide_eq_true_eq, and_comm]
    simp only [subs_mem]
    exact Iff.rfl
  rw [List.mem_map]
  constructor
  · rintro ⟨x, hx, rfl⟩; exact face_ints.2 ((key x).1 hx)
  · intro h
    obtain ⟨x, rfl⟩ := face_from h
    exact ⟨x, (key x).2 (face_ints.1 h), rfl⟩

theorem facet_over {g all : List (List Int)} (hr : ∀ t ∈ g, Rising t) (hal : IsAll g all) (hs : ∀ x ∈ all, x.length ≤ 7) : ∀ (n : Nat) (x : List Int), x ∈ all → 7 - x.length ≤ n → ∃ t ∈ facetsI all, x.Sublist t := by
  intro n
  induction n with
  | zero =>
    intro x hx hn
    refine ⟨x, (facets_mem hr hal x).2 ⟨(hal.mem x).1 hx, fun h => ?_⟩, List.Sublist.refl _⟩
    obtain ⟨_, y, hy, _, hl⟩ := inner_face.1 h
    have := hs y ((hal.mem y).2 hy)
    have := hs x hx
    omega
  | succ n ih =>
    intro x hx hn
    rcases Classical.em (InnerOf g x) with h | h
    · obtain ⟨_, y, hy, hxy, hl⟩ := inner_face.1 h
      obtain ⟨t, ht, hyt⟩ := ih y ((hal.mem y).2 hy) (by omega)
      exact ⟨t, ht, hxy.trans hyt⟩
    · exact ⟨x, (facets_mem hr hal x).2 ⟨(hal.mem x).1 hx, h⟩, List.Sublist.refl _⟩
theorem face_set {g : List (List Int)} (hok : ∀ t ∈ g, SetOk t) {x : List Int} (h : FaceOf g x) : SetOk x := by
  obtain ⟨h1, t, ht, hs⟩ := h
  have h2 := hok t ht
  exact ⟨h1, h2.2.1.sublist hs, fun v hv => h2.2.2 v (hs.subset hv)⟩
/-- What is told as the facets of sets is a complex. -/
theorem good_of {g L all : List (List Int)} (hr : ∀ t ∈ g, Rising t) (hok : ∀ t ∈ g, SetOk t) (hov : ¬ Over g) (hL : IsFacets g L) (hal : IsAll g all) : Good L all := by
  have hLe : L = facetsI all := facets_one (fun _ => Iff.rfl) hL (facets_made hr hal)
  have hf : ∀ y, FaceOf L y ↔ FaceOf g y := fun y => by
    constructor
    · rintro ⟨h1, t, ht, hs⟩
      obtain ⟨_, u, hu, htu⟩ := ((hL.mem t).1 ht).1
      exact ⟨h1, u, hu, hs.trans htu⟩
    · intro h
      obtain ⟨t, ht, hs⟩ := facet_over hr hal (all_short hal hov) 7 y ((hal.mem y).2 h) (by omega)
      exact ⟨h.1, t, by rw [hLe]; exact ht, hs⟩
  have hLr : L.map srt = L := map_srt (fun x hx => face_rising hr ((hL.mem x).1 hx).1)
  refine ⟨fun x hx => face_set hok ((hL.mem x).1 hx).1, ?_, ?_, hLe.symm⟩
  · rw [hLr]; exact fun h => hov ((over_same hf).1 h)
  · rw [hLr]; exact ⟨hal.order, fun x => by rw [hal.mem, hf]⟩
theorem good_ex {g L : List (List Int)} (hr : ∀ t ∈ g, Rising t) (hok : ∀ t ∈ g, SetOk t) (hov : ¬ Over g) (hL : IsFacets g L) : ∃ all, Good L all ∧ IsAll g all := by
  obtain ⟨all, hal⟩ := all_ex hok
  exact ⟨all, good_of hr hok hov hL hal, hal⟩

/-- A list of all faces, each once, has their number. -/
theorem euler_told {g all l : List (List Int)} (hal : IsAll g all) (hn : l.Nodup) (hm : ∀ y, FaceOf g y ↔ y ∈ l) : eulerOf all = eulerOf l :=
  eulerOf_perm ((List.perm_ext_iff_of_nodup (order_nodup hal.order) hn).2 (fun y => by rw [hal.mem, hm]))

theorem low_all {T : Int} {x : List Int} (h : ∀ v ∈ x, v ≤ T) : x.filter (fun v => decide (v ≤ T)) = x := List.filter_eq_self.2 (fun v hv => decide_eq_true (h v hv))
theorem low_none {T : Int} {x : List Int} (h : ∀ v ∈ x, T < v) : x.filter (fun v => decide (v ≤ T)) = [] := List.filter_eq_nil_iff.2 (fun v hv => by have := h v hv; simp; omega)
theorem step_nodup {f g : List (List Int)} {T : Int} (hf : f.Nodup) (hg : g.Nodup) (h1 : ∀ x ∈ f, x ≠ [] ∧ ∀ v ∈ x, v ≤ T) (h2 : ∀ y ∈ g, y ≠ [] ∧ ∀ v ∈ y, T < v) : (stepI f g).Nodup := by
  have hcat : ∀ x ∈ f, ∀ y ∈ g, (x ++ y).filter (fun v => decide (v ≤ T)) = x := fun x hx y hy => by
    rw [List.filter_append, low_all (h1 x hx).2, low_none (h2 y hy).2, List.append_nil]
  unfold stepI List.Nodup
  rw [List.pairwise_append, List.pairwise_append]
  refine ⟨⟨hf, hg, ?_⟩, ?_, ?_⟩
  · rintro x hx y hy rfl
    have e1 := low_all (h1 x hx).2
    rw [low_none (h2 x hy).2] at e1
    exact (h1 x hx).1 e1.symm
  · rw [List.pairwise_flatMap]
    refine ⟨fun x hx => ?_, hf.imp_of_mem ?_⟩
    · rw [List.pairwise_map]
      exact hg.imp (fun h e => h (List.append_cancel_left e))
    · intro x x' hx hx' hne z hz z' hz' e
      obtain ⟨y, hy, rfl⟩ := List.mem_map.1 hz
      obtain ⟨y', hy', rfl⟩ := List.mem_map.1 hz'
      have := hcat x hx y hy
      rw [e, hcat x' hx' y' hy'] at this
      exact hne this.symm
  · intro a ha z hz e
    obtain ⟨x, hx, hz⟩ := List.mem_flatMap.1 hz
    obtain ⟨y, hy, rfl⟩ := List.mem_map.1 hz
    subst e
    rcases List.mem_append.1 ha with ha | ha
    · have := hcat x hx y hy
      rw [low_all (h1 _ ha).2] at this
      exact (h2 y hy).1 (List.append_right_eq_self.1 this)
    · have := hcat x hx y hy
      rw [low_none (h2 _ ha).2] at this
      exact (h1 x hx).1 this.symm
theorem step_sum (f g : List (List Int)) : eulerOf (stepI f g) = eulerOf f + eulerOf g - eulerOf f * eulerOf g := by
  unfold stepI
  rw [eulerOf_append, eulerOf_append, eulerOf_flat (c := -eulerOf g) (fun x _ => by rw [eulerOf_after, Int.mul_neg]), Int.mul_neg]
  omega
theorem raise_inj {up : Int} {x y : List Int} (h : raise up x = raise up y) : x = y := by
  unfold raise at h
  exact (List.map_inj_right (fun a b e => by omega)).1 h
theorem join_euler {a b p q all : List (List Int)} (ga : Good a p) (gb : Good b q) (hal : IsAll (joinS p q) all) : eulerOf all = eulerOf p + eulerOf q - eulerOf p * eulerOf q := by
  have hq : eulerOf (q.map (raise (topV p + 1))) = eulerOf q := eulerOf_map (fun x _ => by unfold raise; simp)
  have hge := topV_ge (l := p)
  rw [euler_told hal (l := joinS p q) ?_ ?_]
  · unfold joinS
    rw [step_sum, hq]
  · refine step_nodup (T := topV p) (order_nodup ga.isAll.order) ?_ (fun x hx => ⟨(face_ok_of ga hx).1.1, fun v hv => topV_max ga.rising hx hv⟩) (fun y hy => ?_)
    · unfold List.Nodup
      rw [List.pairwise_map]
      exact (order_nodup gb.isAll.order).imp (fun h e => h (raise_inj e))
    · obtain ⟨z, hz, rfl⟩ := List.mem_map.1 hy
      refine ⟨fun e => (face_ok_of gb hz).1.1 (by simpa [raise] using e), fun v hv => ?_⟩
      obtain ⟨u, hu, rfl⟩ := List.mem_map.1 hv
      have := gb.nonneg z hz u hu
      omega
  · intro y
    have hqf : ∀ y, FaceOf (q.map (raise (topV p + 1))) y ↔ y ∈ q.map (raise (topV p + 1)) := fun y => by
      constructor
      · rintro ⟨h1, t, ht, hs⟩
        obtain ⟨z, hz, rfl⟩ := List.mem_map.1 ht
        obtain ⟨x, rfl, hx⟩ := sub_raise hs
        exact List.mem_map.2 ⟨x, gb.sub hz hx (fun e => h1 (by rw [e]; rfl)), rfl⟩
      · intro h
        obtain ⟨z, hz, rfl⟩ := List.mem_map.1 h
        exact ⟨fun e => (face_ok_of gb hz).1.1 (by simpa [raise] using e), _, h, List.Sublist.refl _⟩
    unfold joinS
    rw [step_faces, step_mem, all_faces ga, hqf]
    simp only [all_faces ga, hqf]
    refine or_congr Iff.rfl (or_congr Iff.rfl ⟨?_, ?_⟩)
    · rintro ⟨u, v, rfl, hu, hv⟩; exact ⟨u, hu, v, hv, rfl⟩
    · rintro ⟨u, hu, v, hv, rfl⟩; exact ⟨u, v, rfl, hu, hv⟩

theorem Good.verts {l p : List (List Int)} (g : Good l p) : Verts p (vertI p) :=
  ⟨g.whole, fun _ hf => (face_ok_of g hf).1.1, order_nodup g.isAll.order, g.vrise, fun _ hf v hv => vertI_mem.2 (g.sub hf (List.singleton_sublist.2 hv) (by simp))⟩
theorem prod_euler {a b p q all : List (List Int)} (ga : Good a p) (gb : Good b q) (hal : IsAll (prodS p q) all) : eulerOf all = eulerOf p * eulerOf q := by
  rw [← grow_sum ga.verts gb.verts]
  exact euler_told hal (growAll_nodup ga.whole gb.whole) (fun y => by unfold prodS; rw [growAll_faces ga.whole gb.whole, mem_growAll ga.whole gb.whole])

theorem euler_filter {α : Type} (P : List α → Bool) (l : List (List α)) : eulerOf (l.filter P) + eulerOf (l.filter (fun x => !P x)) = eulerOf l := by
  induction l with
  | nil => rfl
  | cons x l ih =>
    cases h : P x
    · simp only [List.filter_cons, h, Bool.not_false, if_true, Bool.false_eq_true, if_false, eulerOf_cons]; omega
    · simp only [List.filter_cons, h, Bool.not_true, if_true, Bool.false_eq_true, if_false, eulerOf_cons]; omega
theorem union_euler {a b p q all all2 : List (List Int)} (ga : Good a p) (gb : Good b q) (h1 : IsAll (p ++ q) all) (h2 : IsAll (bothI p q) all2) : eulerOf all + eulerOf all2 = eulerOf p + eulerOf q := by
  have hq := euler_filter (fun x => decide (x ∈ p)) q
  have e1 : eulerOf all = eulerOf (p ++ q.filter (fun x => !decide (x ∈ p))) := by
    refine euler_told h1 ?_ (fun y => ?_)
    · unfold List.Nodup
      rw [List.pairwise_append]
      refine ⟨order_nodup ga.isAll.order, (order_nodup gb.isAll.order).sublist List.filter_sublist, ?_⟩
      rintro x hx y hy rfl
      have := (List.mem_filter.1 hy).2
      simp at this
      exact this hx
    · rw [face_append, all_faces ga, all_faces gb, List.mem_append, List.mem_filter]
      constructor
      · rintro (h | h)
        · exact .inl h
        · by_cases hp : y ∈ p
          · exact .inl hp
          · exact .inr ⟨h, by simp [hp]⟩
      · rintro (h | h)
        · exact .inl h
        · exact .inr h.1
  have e2 : eulerOf all2 = eulerOf (q.filter (fun x => decide (x ∈ p))) := by
    refine euler_told h2 ((order_nodup gb.isAll.order).sublist List.filter_sublist) (fun y => ?_)
    rw [List.mem_filter, decide_eq_true_eq]
    constructor
    · rintro ⟨hn, t, ht, hs⟩
      obtain ⟨t1, t2⟩ := List.mem_filter.1 ht
      exact ⟨gb.sub (of_decide_eq_true t2) hs hn, ga.sub t1 hs hn⟩
    · rintro ⟨hy1, hy2⟩
      exact ⟨(face_ok_of ga hy2).1.1, y, List.mem_filter.2 ⟨hy2, decide_eq_true hy1⟩, List.Sublist.refl _⟩
  rw [eulerOf_append] at e1
  omega

theorem link_face {l p : List (List Int)} {f : List Int} (g : Good l p) (y : List Int) : FaceOf (linkI p f) y ↔ y ≠ [] ∧ (∀ v ∈ y, v ∉ f) ∧ y ∈ p ∧ ∃ o ∈ p, ∀ v, v ∈ o ↔ v ∈ y ∨ v ∈ f := by
  constructor
  · rintro ⟨h1, x, hx, hs⟩
    obtain ⟨b1, b2⟩ := List.mem_filter.1 hx
    unfold linkB at b2
    simp only [Bool.and_eq_true, decide_eq_true_eq] at b2
    obtain ⟨⟨b3, b4⟩, b5⟩ := b2
    obtain ⟨o, ho, hm⟩ := uniB_iff.1 b5
    have hxf := minus_self.1 b4
    refine ⟨h1, fun v hv => hxf v (hs.subset hv), g.sub b1 hs h1, o.filter (fun v => y.contains v || f.contains v), g.sub ho List.filter_sublist (fun e => ?_), fun v => ?_⟩
    · obtain ⟨v, hv⟩ := List.exists_mem_of_ne_nil _ h1
      have : v ∈ o.filter (fun v => y.contains v || f.contains v) := List.mem_filter.2 ⟨(hm v).2 (.inl (hs.subset hv)), by simp [hv]⟩
      rw [e] at this; cases this
    · rw [List.mem_filter]
      simp only [Bool.or_eq_true, List.contains_iff_mem]
      exact ⟨fun hv => hv.2, fun hv => ⟨(hm v).2 (hv.imp (fun a => hs.subset a) id), hv⟩⟩
  · rintro ⟨h1, h2, h3, o, ho, hm⟩
    refine ⟨h1, y, List.mem_filter.2 ⟨h3, ?_⟩, List.Sublist.refl _⟩
    unfold linkB
    rw [decide_eq_true h1, decide_eq_true (minus_self.2 h2), Bool.true_and, Bool.true_and, uniB_iff]
    exact ⟨o, ho, hm⟩
theorem link_good {l p L : List (List Int)} {f : List Int} (g : Good l p) (hL : IsFacets (linkI p f) L) : ∃ all, Good L all ∧ IsAll (linkI p f) all := by
  have hs : ∀ t ∈ linkI p f, t ∈ p := fun t ht => (List.mem_filter.1 ht).1
  exact good_ex (fun t ht => g.rising t (hs t ht)) (fun t ht => (face_ok_of g (hs t ht)).1) (g.notOver hs) hL
/-- The vertex and the face together are a face. -/
theorem link_out {l p all1 : List (List Int)} {f out : List Int} {v : Int} (g : Good l p) (h1 : IsAll (linkI p f) all1) (hv : [v] ∈ all1) (hr : Rising out) (hm : ∀ x, x ∈ out ↔ x ∈ f ∨ x ∈ [v]) : out ∈ p := by
  obtain ⟨_, _, _, o, ho, ho2⟩ := (link_face g _).1 ((h1.mem _).1 hv)
  rw [rising_told hr (g.rising o ho) (fun x => by rw [hm, ho2, or_comm])]
  exact ho
theorem link_link {l p L all1 : List (List Int)} {f out : List Int} {v : Int} (g : Good l p) (h1 : IsAll (linkI p f) all1) (g1 : Good L all1) (hv : [v] ∈ all1) (hm : ∀ x, x ∈ out ↔ x ∈ f ∨ x ∈ [v]) (y : List Int) :
    FaceOf (linkI all1 [v]) y ↔ FaceOf (linkI p out) y := by
  have hvf := (link_face g _).1 ((h1.mem _).1 hv)
  rw [link_face g1, link_face g]
  constructor
  · rintro ⟨a1, a2, a3, o, ho, hom⟩
    obtain ⟨b1, b2, b3, o1, ho1, hom1⟩ := (link_face g _).1 ((h1.mem _).1 a3)
    obtain ⟨c1, c2, c3, o2, ho2, hom2⟩ := (link_face g _).1 ((h1.mem _).1 ho)
    refine ⟨a1, fun x hx hxo => ?_, b3, o2, ho2, fun x => ?_⟩
    · rcases (hm x).1 hxo with h | h
      · exact b2 x hx h
      · exact a2 x hx h
    · rw [hom2, hom, hm, or_assoc, or_comm (a := x ∈ [v])]
  · rintro ⟨a1, a2, a3, o2, ho2, hom2⟩
    have hyf : ∀ x ∈ y, x ∉ f := fun x hx h => a2 x hx ((hm x).2 (.inl h))
    have hyv : ∀ x ∈ y, x ∉ [v] := fun x hx h => a2 x hx ((hm x).2 (.inr h))
    have key : ∀ (z : List Int), Rising z → z ≠ [] → (∀ x ∈ z, x ∈ y ∨ x ∈ [v]) → z ∈ all1 := fun z hz hn hzm => by
      have hsub : ∀ x ∈ z, x ∈ o2 := fun x hx => (hom2 x).2 ((hzm x hx).imp id (fun h => (hm x).2 (.inr h)))
      refine (h1.mem z).2 ((link_face g z).2 ⟨hn, fun x hx => ?_, g.sub ho2 (rising_sub hz (g.rising o2 ho2) hsub) hn, o2.filter (fun x => z.contains x || f.contains x), g.sub ho2 List.filter_sublist (fun e => ?_), fun x => ?_⟩)
      · rcases hzm x hx with h | h
        · exact hyf x h
        · exact hvf.2.1 x h
      · obtain ⟨x, hx⟩ := List.exists_mem_of_ne_nil _ hn
        have : x ∈ o2.filter (fun x => z.contains x || f.contains x) := List.mem_filter.2 ⟨hsub x hx, by simp [hx]⟩
        rw [e] at this; cases this
      · rw [List.mem_filter]
        simp only [Bool.or_eq_true, List.contains_iff_mem]
        exact ⟨fun h => h.2, fun h => ⟨h.elim (hsub x) (fun h' => (hom2 x).2 (.inr ((hm x).2 (.inl h')))), h⟩⟩
    refine ⟨a1, hyv, key y (g.rising y a3) a1 (fun x hx => .inl hx), o2.filter (fun x => y.contains x || [v].contains x), key _ ((g.rising o2 ho2).sublist List.filter_sublist) (fun e => ?_) (fun x hx => ?_), fun x => ?_⟩
    · obtain ⟨x, hx⟩ := List.exists_mem_of_ne_nil _ a1
      have : x ∈ o2.filter (fun x => y.contains x || [v].contains x) := List.mem_filter.2 ⟨(hom2 x).2 (.inl hx), by simp [hx]⟩
      rw [e] at this; cases this
    · have := (List.mem_filter.1 hx).2
      simpa only [Bool.or_eq_true, List.contains_iff_mem] using this
    · rw [List.mem_filter]
      simp only [Bool.or_eq_true, List.contains_iff_mem]
      exact ⟨fun h => h.2, fun h => ⟨(hom2 x).2 (h.imp id (fun h' => (hm x).2 (.inr h'))), h⟩⟩

end Go.Proofs.YtkmecdgnoemimaaDoor
