/- Spots are sorted by their heights. -/
import Derived.Test.YtmndhclmhjmbpaaGreatDoorShelfS
import Derived.Sort.Grow
import Derived.BigQuiet
namespace Go.Proofs.YtmndhclmhjmbpaaGreatDoor
open Go.RowKit Go.Sort Go.Lib

theorem flat_len {α : Type} {enc : α → List Value} {k : Nat} (hk : ∀ x, (enc x).length = k) (l : List α) : (l.flatMap enc).length = l.length * k := by
  induction l with
  | nil => simp
  | cons x l ih => rw [List.flatMap_cons, List.length_append, ih, hk, List.length_cons, Nat.succ_mul]; omega
theorem flat_get {α : Type} [Inhabited α] {enc : α → List Value} {k : Nat} (hk : ∀ x, (enc x).length = k) : ∀ (l : List α) (j : Nat), j < l.length * k → (l.flatMap enc)[j]? = (enc (l[j / k]?.getD default))[j % k]?
  | [], j, h => by simp at h
  | x :: l, j, h => by
    have h0 : 0 < k := by
      rcases Nat.eq_zero_or_pos k with e | e
      · subst e; simp at h
      · exact e
    rw [List.flatMap_cons]
    by_cases hj : j < k
    · rw [List.getElem?_append_left (by rw [hk]; exact hj), Nat.div_eq_of_lt hj, Nat.mod_eq_of_lt hj]; rfl
    · rw [List.getElem?_append_right (by rw [hk]; omega), hk]
      have h2 : j - k < l.length * k := by rw [List.length_cons, Nat.succ_mul] at h; omega
      rw [flat_get hk l (j - k) h2]
      have e1 : j / k = (j - k) / k + 1 := by
        rw [← Nat.add_div_right _ h0, Nat.sub_add_cancel (by omega)]
      have e2 : j % k = (j - k) % k := by
        rw [← Nat.add_mod_right (j - k) k, Nat.sub_add_cancel (by omega)]
      rw [e1, e2]; rfl
theorem flatK_list {α : Type} [Inhabited α] {enc : α → List Value} {k : Nat} (hk : ∀ x, (enc x).length = k) (l : List α) : flatK enc k l.toArray = (l.flatMap enc).toArray := by
  apply Array.ext
  · rw [size_flatK]; simp only [List.size_toArray]; rw [flat_len hk]
  · intro i h1 h2
    have h3 : i < l.toArray.size * k := by rw [size_flatK] at h1; exact h1
    have h4 := get_flatK enc k l.toArray i h3
    rw [getElem!_pos _ i h1] at h4
    rw [h4]
    have h5 := flat_get hk l i (by simpa using h3)
    have hm : i % k < k := Nat.mod_lt _ (by
      rcases Nat.eq_zero_or_pos k with e | e
      · subst e; simp at h3
      · exact e)
    have hd : i / k < l.length := by
      have h3' : i < l.length * k := by simpa using h3
      exact Nat.div_lt_of_lt_mul (by rw [Nat.mul_comm]; exact h3')
    have e1 : l.toArray[i / k]! = l[i / k]?.getD default := by
      rw [getElem!_pos _ _ (by simpa using hd), List.getElem?_eq_getElem hd]; simp
    rw [e1]
    rw [getElem!_pos _ _ (by rw [hk]; exact hm)]
    have h2' : i < (l.flatMap enc).length := by simpa using h2
    rw [List.getElem?_eq_getElem h2', List.getElem?_eq_getElem (by rw [hk]; exact hm)] at h5
    have := Option.some.inj h5
    simp only [List.getElem_toArray]
    exact this.symm
theorem holds_id {w : World} {g : Nat} {cur : Array Value} {e : TypeId} {xs : List Value} (hb : w.heap[g]? = some (.cells cur e (0, 0))) (ht : cur.toList.take xs.length = xs) : Holds id w g 0 xs.toArray := by
  intro j hj
  have hj' : j < xs.length := by simpa using hj
  refine ⟨?_, by simp [World.frozen?, hb]⟩
  have h1 : (cur.toList.take xs.length)[j]? = xs[j]? := by rw [ht]
  rw [List.getElem?_take_of_lt hj'] at h1
  simp only [World.cell?, hb, Nat.zero_add]
  simp only [Option.isSome_none, Bool.false_eq_true, if_false]
  rw [← Array.getElem?_toList, h1]
  simp [hj']
theorem heap_put {w : World} {g n : Nat} {os : Array Obj} {cur : Array Value} {e : TypeId} {fr : Nat × Nat} (d : Array Value) (hb : w.heap[g]? = some (.cells cur e fr)) :
    (grow (putRow id (Sort.ahead w n) g 0 d) os).heap[g]? = some (.cells (putCells id 0 d cur) e fr) := by
  have hg : g < w.heap.size := (Array.getElem?_eq_some_iff.1 hb).1
  rw [heap_grow_old _ _ (by simpa using hg)]
  simp [putRow, mapBlock, Sort.ahead, Array.getElem?_modify, hb, onCells]
theorem grownBy_put {w : World} {g n : Nat} {os : Array Obj} (d : Array Value) : w.grownBy (grow (putRow id (Sort.ahead w n) g 0 d) os) (some g) := by
  refine ⟨rfl, rfl, rfl, by simp, fun k hk hne => ?_⟩
  rw [heap_grow_old _ _ (by simpa using hk)]
  have : g ≠ k := fun e => hne (by rw [e])
  simp [putRow, mapBlock, Sort.ahead, Array.getElem?_modify, this]
theorem take_put (cur : Array Value) (ts : List Value) (h : ts.length ≤ cur.size) : (putCells id 0 ts.toArray cur).toList.take ts.length = ts := by
  apply List.ext_getElem?
  intro j
  by_cases hj : j < ts.length
  · rw [List.getElem?_take_of_lt hj, Array.getElem?_toList]
    simp [putCells, hj, show j < cur.size by omega]
  · rw [List.getElem?_take_eq_none (by omega), List.getElem?_eq_none (by omega)]
/-- A row of the call's own behind a sort. -/
theorem owns_put {α : Type} [Inhabited α] {enc : α → List Value} {k : Nat} (hk : ∀ x, (enc x).length = k) {w : World} {base g cap n : Nat} {e : TypeId} {os : Array Obj} {cur : Array Value} {l l' : List α} (hl : l'.length = l.length) (hbase : base ≤ g) (hb : w.heap[g]? = some (.cells cur e (0, 0)))
    (h1 : l.length ≤ cap) (h2 : cap ≤ maxLen) (h3 : cur.size = cap * k) :
    (sortWorldK enc k w g 0 n l'.toArray os).ownsRow base e k (.slice (some ⟨g, 0, none⟩) l.length cap) l.length (l'.flatMap enc) := by
  unfold sortWorldK putRowK
  rw [flatK_list hk]
  refine ⟨by rw [flat_len hk, hl], .inr ⟨g, cap, _, rfl, hbase, heap_put _ hb, h1, h2, by simp [putCells, h3], ?_⟩⟩
  have e1 : l.length * k = (l'.flatMap enc).length := by rw [flat_len hk, hl]
  rw [e1]
  refine take_put cur _ ?_
  rw [flat_len hk, hl, h3]
  exact Nat.mul_le_mul_right _ h1


def cmpI (x y : Int) : Int := if x < y then -1 else if y < x then 1 else 0
set_option maxRecDepth 100000 in
theorem isNaN_ (x : Int) (w : World) : Calls Tryz.prog 126 #[.int .i64 x] w fun e w' => e = .returned (.bool false) ∧ w' = w := by
  go_enter Tryz.func126, Tryz.ntmps126
  go_wp2_with fail
  go_ret
  exact ⟨rfl, rfl⟩

set_option maxRecDepth 100000 in
theorem compareI_ (x y : Int) (w : World) : Calls Tryz.prog 110 #[.int .i64 x, .int .i64 y] w fun e w' => e = .returned (.int .i64 (cmpI x y)) ∧ w' = w := by
  have h1 := isNaN_ x w
  have h2 := isNaN_ y w
  unfold cmpI
  by_cases a : x < y
  · rw [if_pos a]
    go_enter Tryz.func110, Tryz.ntmps110
    go_wp2_with (first
      | (go_at_call 126; first | (refine h1.mono ?_; rintro e V ⟨rfl, rfl⟩; clear h1) | (refine h2.mono ?_; rintro e V ⟨rfl, rfl⟩; clear h2))
      | fail)
    go_ret
    exact ⟨rfl, rfl⟩
  · rw [if_neg a]
    by_cases b : y < x
    · rw [if_pos b]
      go_enter Tryz.func110, Tryz.ntmps110
      go_wp2_with (first
        | (go_at_call 126; first | (refine h1.mono ?_; rintro e V ⟨rfl, rfl⟩; clear h1) | (refine h2.mono ?_; rintro e V ⟨rfl, rfl⟩; clear h2))
        | fail)
      go_ret
      exact ⟨rfl, rfl⟩
    · rw [if_neg b]
      obtain rfl : x = y := by omega
      go_enter Tryz.func110, Tryz.ntmps110
      go_wp2_with (first
        | (go_at_call 126; first | (refine h1.mono ?_; rintro e V ⟨rfl, rfl⟩) | (refine h2.mono ?_; rintro e V ⟨rfl, rfl⟩))
        | fail)
      go_ret
      exact ⟨rfl, rfl⟩


/-- A spot: a vertex and its height. -/
def encP (a : Duo) : List Value := [.int .i64 a.1, .int .i64 a.2]
def cmpP (a b : Duo) : Int := cmpI a.2 b.2
theorem p2_len (x : Duo) : (encP x).length = 2 := rfl
theorem cmpP_lt {a b : Duo} : cmpP a b < 0 ↔ a.2 < b.2 := by
  unfold cmpP cmpI
  split
  · constructor <;> intro <;> omega
  · split <;> constructor <;> intro <;> omega
theorem swoP : SWO (ltOf cmpP) where
  irrefl x := by
    unfold ltOf
    rw [decide_eq_false]
    rw [cmpP_lt]; omega
  trans x y z h1 h2 := by
    unfold ltOf at *
    rw [decide_eq_true_eq, cmpP_lt] at *
    omega
  ntrans x y z h1 h2 := by
    unfold ltOf at *
    rw [decide_eq_false_iff_not, cmpP_lt] at *
    omega

set_option maxRecDepth 100000 in
theorem by_height (x y : Duo) (w : World) : Calls Tryz.prog 109 #[.agg #[.int .i64 x.1, .int .i64 x.2], .agg #[.int .i64 y.1, .int .i64 y.2]] w fun e w' => e = .returned (.int .i64 (cmpP x y)) ∧ ∃ q os', w' = grow (w.drewN q) os' := by
  have HG : Hid (∃ os', ((w.alloc (.cells #[.int .i64 x.1, .int .i64 x.2] 160)).alloc (.cells #[.int .i64 y.1, .int .i64 y.2] 160)) = grow (w.drewN 0) os') := ⟨_, by rw [alloc_eq_grow, alloc_eq_grow, grow_grow]; rfl⟩
  have hc := fun W => compareI_ x.2 y.2 W
  obtain ⟨C, hC⟩ : ∃ C, cmpI x.2 y.2 = C := ⟨_, rfl⟩
  rw [hC] at hc
  show Calls _ _ _ _ fun e w' => e = .returned (.int .i64 (cmpI x.2 y.2)) ∧ _
  rw [hC]
  clear hC
  obtain ⟨x1, x2⟩ := x
  obtain ⟨y1, y2⟩ := y
  go_enter Tryz.func109, Tryz.ntmps109
  go_wp2_with fail
  refine (hc _).mono ?_
  clear hc
  rintro e V ⟨rfl, rfl⟩
  go_wp2_with fail
  go_ret
  exact ⟨rfl, 0, HG.out⟩

/-- slices.SortFunc at spots: the same ones, rising. -/
theorem sort_spots {l : List Duo} {base : Nat} {v : Value} (w : World) (h : DuoRow base 160 w v l) (h0 : 0 < l.length) (h9 : l.length ≤ 100000) :
    Calls Tryz.prog 108 #[v, .func (.func 109) #[] #[]] w fun e w' => e = .returned (.tuple #[]) ∧ ∃ l', List.Perm l' l ∧ l'.Pairwise (fun a b => a.2 ≤ b.2) ∧ DuoRow base 160 w' v l' ∧ w.grownBy w' v.ownBlock := by
  rcases h.2 with ⟨rfl, hn⟩ | ⟨g, cap, cur, rfl, hbase, hg, h1, h2, h3, h4⟩
  · omega
  have eg : ∀ args w, (callFunc 109 args).run Tryz.prog w = .ok (.enter 109 args) w := enters_of Tryz.func109 (by kernel_rfl) rfl
  have hH : HoldsK encP 2 w g 0 l.toArray := by
    unfold HoldsK
    rw [flatK_list p2_len]
    refine holds_id hg ?_
    have : (l.flatMap encP).length = l.length * 2 := flat_len p2_len l
    rw [this]; exact h4
  have hc := Tryz.slices_SortFunc (α := Duo) 2 Tryz.isAgg160 Tryz.sizeOf160 encP p2_len (fun x u hu => by
    simp only [encP, List.mem_cons, List.not_mem_nil, or_false] at hu
    rcases hu with rfl | rfl <;> rfl) cmpP swoP 109 #[] g 0 cap l.toArray w eg (fun m os dk _ x y => by_height x y _) hH (Array.getElem?_eq_some_iff.1 hg).1 (by simp; omega)
  rw [List.size_toArray] at hc
  refine hc.mono fun e w' hh => ?_
  obtain ⟨he, d', n, os, hp, hs, rfl⟩ := hh
  have hd : d'.size = l.length := by rw [hp.1]; simp
  have e1 : d' = d'.toList.toArray := by simp
  refine ⟨he, d'.toList, ?_, ?_, ?_, ?_⟩
  · have h5 := hp.2.2
    have x1 : (d'.extract 0 l.length).toList = d'.toList := by rw [← hd, Array.extract_size]
    have x2 : (l.toArray.extract 0 l.length).toList = l := by
      have : l.length = l.toArray.size := by simp
      rw [this, Array.extract_size]
    rwa [x1, x2] at h5
  · rw [List.pairwise_iff_getElem]
    intro i j hi hj hij
    have hj' : j < d'.size := by simpa using hj
    have h6 := hs i j (Nat.zero_le _) hij (by omega)
    unfold ltOf at h6
    rw [decide_eq_false_iff_not, cmpP_lt, getElem!_pos d' j hj', getElem!_pos d' i (by omega)] at h6
    have h7 : d'[i].2 ≤ d'[j].2 := by omega
    simpa using h7
  · unfold DuoRow
    rw [e1]
    have hl' : d'.toList.length = l.length := by simpa using hd
    have := owns_put (enc := encP) p2_len (n := n) (os := os) hl' hbase hg h1 h2 h3
    rw [hl']
    exact this
  · unfold sortWorldK putRowK
    exact grownBy_put _

end Go.Proofs.YtmndhclmhjmbpaaGreatDoor
