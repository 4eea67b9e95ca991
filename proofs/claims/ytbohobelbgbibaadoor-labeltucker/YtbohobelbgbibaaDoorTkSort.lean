/- Rows of pairs: compared, sorted. -/
import Derived.Test.YtbohobelbgbibaaDoorLpSort
import Derived.Test.YtbohobelbgbibaaDoorTkCompact
namespace Go.Proofs.YtbohobelbgbibaaDoor
open Go.RowKit Go.Sort Go.Lib

def t2L (a : T2) : List Int := [a.1, a.2]
def enc2 (a : T2) : List Value := [.int .i64 a.1, .int .i64 a.2]
theorem t2_len (x : T2) : (enc2 x).length = 2 := rfl
/-- The order of pairs. -/
def cmp2 (a b : T2) : Int := cmpL (t2L a) (t2L b)
def lt2 (a b : T2) : Prop := a.1 < b.1 ∨ (a.1 = b.1 ∧ a.2 < b.2)
instance (a b : T2) : Decidable (lt2 a b) := by unfold lt2; exact inferInstance
theorem cmp2_lt (a b : T2) : cmp2 a b < 0 ↔ lt2 a b := by
  obtain ⟨a1, a2⟩ := a
  obtain ⟨b1, b2⟩ := b
  simp only [cmp2, t2L, cmpL, cmpI, lt2]
  repeat' split
  all_goals first | omega | (rename_i h; exact absurd h (by omega))
theorem swo2 : SWO (ltOf cmp2) where
  irrefl x := by
    unfold ltOf
    rw [decide_eq_false]
    rw [cmp2_lt]; unfold lt2; omega
  trans x y z h1 h2 := by
    unfold ltOf at *
    rw [decide_eq_true_eq, cmp2_lt] at *
    unfold lt2 at *; omega
  ntrans x y z h1 h2 := by
    unfold ltOf at *
    rw [decide_eq_false_iff_not, cmp2_lt] at *
    unfold lt2 at *; omega

set_option maxRecDepth 100000 in
set_option maxHeartbeats 1000000 in
theorem closure2_ (x y : T2) (w : World) : Calls Tryd.prog 42 #[.agg #[.int .i64 x.1, .int .i64 x.2], .agg #[.int .i64 y.1, .int .i64 y.2]] w fun e w' => e = .returned (.int .i64 (cmp2 x y)) ∧ ∃ q os', w' = grow (w.drewN q) os' := by
  have HG : Hid (∀ q, ∃ os', ((w.alloc (.cells #[.int .i64 x.1, .int .i64 x.2] 55)).alloc (.cells #[.int .i64 y.1, .int .i64 y.2] 55)).drewN q = grow (w.drewN q) os') := fun q => ⟨_, by rw [alloc_eq_grow, alloc_eq_grow, grow_grow]; rfl⟩
  have hcall : ∀ q, Calls Tryd.prog 43 #[.slice (some ⟨w.heap.size, 0, none⟩) 2 2, .slice (some ⟨w.heap.size + 1, 0, none⟩) 2 2] (((w.alloc (.cells #[.int .i64 x.1, .int .i64 x.2] 55)).alloc (.cells #[.int .i64 y.1, .int .i64 y.2] 55)).drewN q) fun e w' => e = .returned (.int .i64 (cmp2 x y)) ∧ ∃ n, w' = ((w.alloc (.cells #[.int .i64 x.1, .int .i64 x.2] 55)).alloc (.cells #[.int .i64 y.1, .int .i64 y.2] 55)).drewN n := fun q => by
    have h1 : Ints (((w.alloc (.cells #[.int .i64 x.1, .int .i64 x.2] 55)).alloc (.cells #[.int .i64 y.1, .int .i64 y.2] 55)).drewN q) (.slice (some ⟨w.heap.size, 0, none⟩) 2 2) (t2L x) := by
      refine ⟨_, 2, rfl, ⟨Nat.le_refl _, fun h => by cases h⟩, fun _ => ⟨_, 0, rfl, trivial, fun k u hu => ?_⟩⟩
      have h := cells_new w [.int .i64 x.1, .int .i64 x.2] 55 k u hu
      rw [Addr.add_lit] at h
      exact (World.cell?_alloc_lt _ _ ⟨w.heap.size, 0 + k, none⟩ (by simp)).trans h
    have h2 : Ints (((w.alloc (.cells #[.int .i64 x.1, .int .i64 x.2] 55)).alloc (.cells #[.int .i64 y.1, .int .i64 y.2] 55)).drewN q) (.slice (some ⟨w.heap.size + 1, 0, none⟩) 2 2) (t2L y) := by
      refine ⟨_, 2, rfl, ⟨Nat.le_refl _, fun h => by cases h⟩, fun _ => ⟨_, 0, rfl, trivial, fun k u hu => ?_⟩⟩
      have h := cells_new (w.alloc (.cells #[.int .i64 x.1, .int .i64 x.2] 55)) [.int .i64 y.1, .int .i64 y.2] 55 k u hu
      rw [Addr.add_lit, World.size_alloc] at h
      exact h
    exact (compare_ _ _ _ h1 h2 rfl (by simp [t2L]) (by simp [t2L])).mono fun e w' h => ⟨h.1, q, h.2⟩
  go_enter Tryd.func42, Tryd.ntmps42
  go_wp2_with fail
  go_quiet (exact hcall _)
  go_wp2_with fail
  go_ret
  exact ⟨rfl, _, HG.out _⟩

def DuoRow (base : Nat) (W : World) (v : Value) (l : List T2) : Prop := W.ownsRow base 55 2 v l.length (l.flatMap enc2)
/-- slices.SortFunc at pairs: the same ones, rising. -/
theorem sort2_ {l : List T2} {base : Nat} {v : Value} (w : World) (h : DuoRow base w v l) (h0 : 0 < l.length) (h9 : l.length ≤ 100000) :
    Calls Tryd.prog 41 #[v, .func (.func 42) #[] #[]] w fun e w' => e = .returned (.tuple #[]) ∧ ∃ l', List.Perm l' l ∧ l'.Pairwise (fun a b => ¬ lt2 b a) ∧ DuoRow base w' v l' ∧ w.grownBy w' v.ownBlock := by
  rcases h.2 with ⟨rfl, hn⟩ | ⟨g, cap, cur, rfl, hbase, hg, h1, h2, h3, h4⟩
  · omega
  have eg : ∀ args w, (callFunc 42 args).run Tryd.prog w = .ok (.enter 42 args) w := enters_of Tryd.func42 (by kernel_rfl) rfl
  have hH : HoldsK enc2 2 w g 0 l.toArray := by
    unfold HoldsK
    rw [flatK_list t2_len]
    refine holds_id hg ?_
    have : (l.flatMap enc2).length = l.length * 2 := flat_len t2_len l
    rw [this]; exact h4
  have hc := Tryd.slices_SortFunc_f41 (α := T2) 2 Tryd.isAgg55 Tryd.sizeOf55 enc2 t2_len (fun x u hu => by
    simp only [enc2, List.mem_cons, List.not_mem_nil, or_false] at hu
    rcases hu with rfl | rfl <;> rfl) cmp2 swo2 42 #[] g 0 cap l.toArray w eg (fun m os dk _ x y => closure2_ x y _) hH (Array.getElem?_eq_some_iff.1 hg).1 (by simp; omega)
  rw [List.size_toArray] at hc
  refine hc.mono fun e w' hh => ?_
  obtain ⟨he, d', n, os, hp, hs, rfl⟩ := hh
  have hd : d'.size = l.length := by rw [hp.1]; simp
  have e1 : d' = d'.toList.toArray := by simp
  refine ⟨he, d'.toList, ?_, ?_, ?_, ?_⟩
  · have h5 := hp.2.2
    have x1 : (d'.extract 0 l.length).toList = d'.toList := by rw [← hd, Array.extract_size]
    have x2 : (l.toArray.extract 0 l.length).toList = l := by
      have : l.length = l.toArray.size := by simp
      rw [this, Array.extract_size]
    rwa [x1, x2] at h5
  · rw [List.pairwise_iff_getElem]
    intro i j hi hj hij
    have hj' : j < d'.size := by simpa using hj
    have h6 := hs i j (Nat.zero_le _) hij (by omega)
    unfold ltOf at h6
    rw [decide_eq_false_iff_not, cmp2_lt, getElem!_pos d' j hj', getElem!_pos d' i (by omega)] at h6
    simpa using h6
  · unfold DuoRow
    rw [e1]
    have hl' : d'.toList.length = l.length := by simpa using hd
    have := owns_put (enc := enc2) t2_len (n := n) (os := os) hl' hbase hg h1 h2 h3
    rw [hl']
    exact this
  · unfold sortWorldK putRowK
    exact grownBy_put _
/-- A row of pairs of one's own, cell by cell. -/
theorem DuoRow.at {base : Nat} {W : World} {v : Value} {l : List T2} (h : DuoRow base W v l) (h0 : 0 < l.length) : ∃ g cap, v = .slice (some ⟨g, 0, none⟩) l.length cap ∧ base ≤ g ∧ g < W.heap.size ∧ l.length ≤ cap ∧ DuoAt W g l.length (fun j => l[j]?.getD default) := by
  rcases h.2 with ⟨rfl, hn⟩ | ⟨g, cap, cur, rfl, hbase, hg, h1, h2, h3, h4⟩
  · omega
  refine ⟨g, cap, rfl, hbase, (Array.getElem?_eq_some_iff.1 hg).1, h1, fun j hj => ?_⟩
  have hx : ∀ i, i < 2 → W.cell? ⟨g, j * 2 + i, none⟩ = (enc2 (l[j]?.getD default))[i]? := fun i hi => by
    have h5 := flat_get t2_len l (j * 2 + i) (by omega)
    rw [show (j * 2 + i) / 2 = j by omega, show (j * 2 + i) % 2 = i by omega, ← h4, List.getElem?_take_of_lt (by omega), Array.getElem?_toList] at h5
    simp only [World.cell?, hg]
    simp only [Option.isSome_none, Bool.false_eq_true, if_false]
    exact h5
  exact ⟨hx 0 (by omega), hx 1 (by omega), by simp [World.frozen?, hg], by simp [World.frozen?, hg]⟩

end Go.Proofs.YtbohobelbgbibaaDoor
