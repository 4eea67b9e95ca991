/- What the statements' is answers of a complex and an error that are as they should be: true. An error's value and number, and what the statements' helpers answer of them. A text with each byte raised. Joins: which sets are wrong; what texts are raised and put together; the verdict on any sets. -/
import Derived.Test.YtopopbhpclhinaaGreatDoorOpen
import Derived.Test.YtopopbhpclhinaaGreatDoorPartsBase
import Derived.Test.YtopopbhpclhinaaGreatDoorMath2
import Derived.Test.YtopopbhpclhinaaGreatDoorJoinMath
namespace Go.Proofs.YtopopbhpclhinaaGreatDoor
open Go.RowKit Go.Sort

set_option maxRecDepth 100000 in
theorem is_err {a : Nat → Addr} {s : Nat → ByteArray} (i : Nat) (hi : i < 8) (vw : Value) (w : World) (hE : Errs a s w) :
    Calls Tryz.prog 12 #[.agg #[.slice none 0 0], .iface 145 (.pointer (some (a i))), vw, .int .i64 ((i : Int) + 1)] w fun e w' => e = .returned (.bool true) ∧ Below w.heap.size w w' := by
  have hBa : Below w.heap.size w (w.alloc (.cells #[.slice none 0 0] 29)) := (Below.refl _ w).alloc (Nat.le_refl _) _
  have hco := coded_es (w.alloc (.cells #[.slice none 0 0] 29)) (hE.below hBa) i hi ((i : Int) + 1)
  rw [decide_eq_true rfl] at hco
  have hbox := (box_new w (.slice none 0 0) 29).1
  have hpos : (0 : Int) < (i : Int) + 1 := by omega
  go_enter Tryz.func12, Tryz.ntmps12
  go_wp2_with (go_at_call 32; refine hco.mono ?_; rintro e w2 ⟨rfl, hB2⟩; have hc2 : w2.cell? ⟨w.heap.size, 0, none⟩ = some (.slice none 0 0) := (hB2.cell (p := ⟨w.heap.size, 0, none⟩) (by simp)).trans hbox)
  go_ret
  exact ⟨rfl, hBa.trans (hB2.mono hBa.size)⟩

set_option maxRecDepth 100000 in
theorem is_ok (vc vw : Value) (xs : List (List Int)) (w : World) (hc : Rows w vc xs) (hw : Rows w vw xs) (hl : xs.length ≤ 1000000) (hm : ∀ x ∈ xs, x.length ≤ 1000000) :
    Calls Tryz.prog 12 #[.agg #[vc], .nilIface, vw, .int .i64 0] w fun e w' => e = .returned (.bool true) ∧ Below w.heap.size w w' := by
  obtain ⟨ac, cc, rfl, -, -⟩ := hc.open_
  have hBa : Below w.heap.size w (w.alloc (.cells #[.slice ac xs.length cc] 29)) := (Below.refl _ w).alloc (Nat.le_refl _) _
  have hsl := same_lists _ vw xs xs (w.alloc (.cells #[.slice ac xs.length cc] 29)) (hc.below hBa) (hw.below hBa) hl hm
  rw [decide_eq_true rfl] at hsl
  have hbox := (box_new w (.slice ac xs.length cc) 29).1
  clear hc hw
  go_enter Tryz.func12, Tryz.ntmps12
  go_wp2_with (go_at_call 19; refine hsl.mono ?_; rintro e w2 ⟨rfl, q, rfl⟩)
  go_ret
  exact ⟨rfl, hBa.trans ⟨rfl, rfl, rfl, Nat.le_refl _, fun _ _ => rfl⟩⟩

end Go.Proofs.YtopopbhpclhinaaGreatDoor

namespace Go.Proofs.YtopopbhpclhinaaGreatDoor
open Go.RowKit Go.Sort Go.Maps Go.Deep

/-- What ComplexError answers, with the error's value. -/
theorem error_k2 (CL : ClosedHolds) (a : Nat → Addr) (vl : Value) (l : List (List Int)) (w : World) (hl : Rows w vl l) (hll : l.length ≤ 100000) (hle : ∀ x ∈ l, x.length ≤ 1000) :
    Calls Tryz.prog 6 #[vl] w fun e w' => Below w.heap.size w w' ∧ ∃ ve n all, Kind a l ve n all ∧ e = .returned (.int .i64 n) ∧ (((n == 0) = false ∧ 0 < n ∧ all = [] ∧ ∃ i : Nat, BadAt l i ∧ ve = .iface 145 (.pointer (some (a i))) ∧ n = (i : Int) + 1) ∨ (n = 0 ∧ Good l all)) := by
  refine (error_g CL vl l w hl hll hle).mono ?_
  rintro e w' ⟨hB, ⟨i, hb, rfl⟩ | ⟨all, g, rfl⟩⟩
  · exact ⟨hB, _, _, [], .inl ⟨i, hb, rfl, rfl, rfl⟩, rfl, .inl ⟨beq_false_of_ne (by omega), by omega, rfl, i, hb, rfl, rfl⟩⟩
  · exact ⟨hB, _, _, all, .inr ⟨g, rfl, rfl⟩, rfl, .inr ⟨rfl, g⟩⟩

/-- The number tells no error. -/
def IsZero (n : Int) : Prop := n = 0
/-- An error's value and number. -/
def SState (a : Nat → Addr) (ve : Value) (n : Int) : Prop := (∃ i : Nat, i < 8 ∧ ve = .iface 145 (.pointer (some (a i))) ∧ n = (i : Int) + 1) ∨ (ve = .nilIface ∧ n = 0)

/-- is answers true of an answer that is as wanted. -/
theorem is_k {a : Nat → Addr} {s : Nat → ByteArray} {ve vc vw : Value} {n : Int} (st : SState a ve n) {g L : List (List Int)} (w : World)
    (hv : ¬ IsZero n → vc = .slice none 0 0) (hc : Rows w vc L) (hL : IsZero n → IsFacets g L) (hw : IsZero n → ∃ L', Rows w vw L' ∧ IsFacets g L' ∧ L'.length ≤ 1000000 ∧ ∀ x ∈ L', x.length ≤ 1000000) (hE : Errs a s w) :
    Calls Tryz.prog 12 #[.agg #[vc], ve, vw, .int .i64 n] w fun e w' => e = .returned (.bool true) ∧ Below w.heap.size w w' := by
  rcases st with ⟨i, hi, rfl, rfl⟩ | ⟨rfl, rfl⟩
  · rw [hv (by unfold IsZero; omega)]
    exact is_err i hi vw w hE
  · obtain ⟨L', h1, h2, h3⟩ := hw rfl
    have e := facets_one (fun _ => Iff.rfl) (hL rfl) h2
    subst e
    exact is_ok vc vw L w hc h1 h3.1 h3.2

/-- An error's number is handed on. -/
theorem made_err (vl : Value) (n : Int) (w : World) (hn : 0 < n) : Calls Tryz.prog 10 #[vl, .int .i64 n] w fun e w' => e = .returned (.tuple #[.slice none 0 0, .int .i64 n]) ∧ w' = w := by
  go_enter Tryz.func10, Tryz.ntmps10
  go_wp2
  go_ret2
  exact ⟨rfl, rfl⟩

end Go.Proofs.YtopopbhpclhinaaGreatDoor

namespace Go.Proofs.YtopopbhpclhinaaGreatDoor

/-- A text with each byte raised. -/
def raiseU (up : Nat) (t : List UInt8) : List UInt8 := t.map (fun b => b + UInt8.ofNat up)
theorem raiseU_length (up : Nat) (t : List UInt8) : (raiseU up t).length = t.length := by simp [raiseU]

end Go.Proofs.YtopopbhpclhinaaGreatDoor

namespace Go.Proofs.YtopopbhpclhinaaGreatDoor
open Go.RowKit Go.Sort

theorem good_nil : Good [] [] where
  ok := fun x hx => by cases hx
  few := by
    rintro (⟨t, ht, _⟩ | ⟨X, _, hl, hx⟩)
    · cases ht
    · cases X with
      | nil => simp at hl
      | cons x X => obtain ⟨_, t, ht, _⟩ := hx x (by simp); cases ht
  isAll := ⟨List.Pairwise.nil, fun x => ⟨fun h => by simp at h, fun h => by obtain ⟨_, t, ht, _⟩ := h; simp at ht⟩⟩
  same := rfl

theorem Good.nonneg {l p : List (List Int)} (g : Good l p) : ∀ x ∈ p, ∀ v ∈ x, 0 ≤ v := fun _ hx v hv => ((face_ok_of g hx).1.2.2 v hv).1
theorem Good.top {l p : List (List Int)} (g : Good l p) : topV p ≤ 99 := by
  rcases topV_in g.nonneg with h | ⟨x, hx, hv⟩
  · omega
  · exact ((face_ok_of g hx).1.2.2 _ hv).2
/-- The join's sets. -/
def joinS (p q : List (List Int)) : List (List Int) := stepI p (q.map (raise (topV p + 1)))

theorem cat_rising {x y : List Int} (hx : Rising x) (hy : Rising y) (h : ∀ u ∈ x, ∀ v ∈ y, u < v) : Rising (x ++ y) := List.pairwise_append.2 ⟨hx, hy, h⟩
theorem join_low {a b p q : List (List Int)} (ga : Good a p) (gb : Good b q) {x y : List Int} (hx : x ∈ p) (hy : y ∈ q) : ∀ u ∈ x, ∀ v ∈ raise (topV p + 1) y, u < v := by
  intro u hu v hv
  obtain ⟨v', hv', rfl⟩ := List.mem_map.1 hv
  have h1 := topV_max ga.rising hx hu
  have h2 := gb.nonneg y hy v' hv'
  omega
theorem join_rising {a b p q : List (List Int)} (ga : Good a p) (gb : Good b q) : ∀ t ∈ joinS p q, Rising t := by
  intro t ht
  rcases step_mem.1 ht with h | h | ⟨x, hx, z, hz, rfl⟩
  · exact ga.rising t h
  · obtain ⟨y, hy, rfl⟩ := List.mem_map.1 h
    exact raise_rising (gb.rising y hy)
  · obtain ⟨y, hy, rfl⟩ := List.mem_map.1 hz
    exact cat_rising (ga.rising x hx) (raise_rising (gb.rising y hy)) (join_low ga gb hx hy)
theorem raise_ok {b q : List (List Int)} (gb : Good b q) {up : Int} (h0 : 0 ≤ up) (h : up + topV q ≤ 99) {y : List Int} (hy : y ∈ q) : SetOk (raise up y) := by
  have hf := face_ok_of gb hy
  refine ⟨fun e => hf.1.1 (by simpa [raise] using e), (raise_rising hf.2).imp (fun h => Int.ne_of_lt h), fun v hv => ?_⟩
  obtain ⟨v', hv', rfl⟩ := List.mem_map.1 hv
  have h1 := topV_max gb.rising hy hv'
  have h2 := (hf.1.2.2 v' hv').1
  omega
theorem join_ok {a b p q : List (List Int)} (ga : Good a p) (gb : Good b q) : (∀ t ∈ joinS p q, SetOk t) ↔ topV p + 1 + topV q ≤ 99 := by
  have hup : 0 ≤ topV p + 1 := by have := topV_ge (l := p); omega
  constructor
  · intro h
    rcases topV_in gb.nonneg with e | ⟨x, hx, hv⟩
    · have := ga.top; omega
    · have h1 := h (raise (topV p + 1) x) (step_mem.2 (.inr (.inl (List.mem_map.2 ⟨x, hx, rfl⟩))))
      have h2 := h1.2.2 (topV q + (topV p + 1)) (List.mem_map.2 ⟨_, hv, rfl⟩)
      omega
  · intro h t ht
    rcases step_mem.1 ht with h' | h' | ⟨x, hx, z, hz, rfl⟩
    · exact (face_ok_of ga h').1
    · obtain ⟨y, hy, rfl⟩ := List.mem_map.1 h'
      exact raise_ok gb hup h hy
    · obtain ⟨y, hy, rfl⟩ := List.mem_map.1 hz
      have h1 := (face_ok_of ga hx).1
      have h2 := raise_ok gb hup h hy
      refine ⟨fun e => h1.1 (List.append_eq_nil_iff.1 e).1, (cat_rising (ga.rising x hx) (raise_rising (gb.rising y hy)) (join_low ga gb hx hy)).imp (fun h => Int.ne_of_lt h), fun v hv => ?_⟩
      rcases List.mem_append.1 hv with hv | hv
      · exact h1.2.2 v hv
      · exact h2.2.2 v hv

theorem raiseU_ints {up : Nat} {t : List UInt8} (h : ∀ v ∈ ints t, v + up ≤ 255) : ints (raiseU up t) = raise up (ints t) := by
  unfold raiseU raise ints
  rw [List.map_map, List.map_map]
  refine List.map_congr_left (fun b hb => ?_)
  have h1 := h (b.toNat : Int) (List.mem_map.2 ⟨b, hb, rfl⟩)
  simp only [Function.comp, UInt8.toNat_add, UInt8.toNat_ofNat']
  have : (b.toNat + up % 2 ^ 8) % 2 ^ 8 = b.toNat + up := by omega
  rw [this]; simp
/-- Texts of one of each. -/
def stepU (f g : List (List UInt8)) : List (List UInt8) := f ++ g ++ f.flatMap (fun x => g.map (fun y => x ++ y))
theorem ints_append (x y : List UInt8) : ints (x ++ y) = ints x ++ ints y := by simp [ints]
theorem stepU_ints (f g : List (List UInt8)) : (stepU f g).map ints = stepI (f.map ints) (g.map ints) := by
  unfold stepU stepI
  rw [List.map_append, List.map_append]
  congr 1
  induction f with
  | nil => rfl
  | cons x f ih =>
    simp only [List.flatMap_cons, List.map_append, List.map_cons, List.map_map] at ih ⊢
    rw [ih]
    congr 1
    refine List.map_congr_left (fun y _ => ?_)
    simp [Function.comp, ints_append]

/-- The verdict on sets that rise. -/
def Verdict (a : Nat → Addr) (g : List (List Int)) (ve : Value) (n : Int) : Prop :=
  (¬ (∀ x ∈ g, SetOk x) ∧ ve = .iface 145 (.pointer (some (a 3))) ∧ n = 4) ∨
  ((∀ x ∈ g, SetOk x) ∧ Over g ∧ ve = .iface 145 (.pointer (some (a 1))) ∧ n = 2) ∨
  ((∀ x ∈ g, SetOk x) ∧ ¬ Over g ∧ ve = .nilIface ∧ n = 0)
/-- The same behind an error that was there ahead. -/
def EndS (a : Nat → Addr) (ve0 : Value) (n0 : Int) (g : List (List Int)) (ve : Value) (n : Int) : Prop := (0 < n0 ∧ ve = ve0 ∧ n = n0) ∨ (n0 = 0 ∧ Verdict a g ve n)
open Classical in
theorem end_ex (a : Nat → Addr) (ve0 : Value) {n0 : Int} (h0 : 0 ≤ n0) (g : List (List Int)) : ∃ ve n, EndS a ve0 n0 g ve n := by
  by_cases h : n0 = 0
  · by_cases h1 : ∀ x ∈ g, SetOk x
    · by_cases h2 : Over g
      · exact ⟨_, _, .inr ⟨h, .inr (.inl ⟨h1, h2, rfl, rfl⟩)⟩⟩
      · exact ⟨_, _, .inr ⟨h, .inr (.inr ⟨h1, h2, rfl, rfl⟩)⟩⟩
    · exact ⟨_, _, .inr ⟨h, .inl ⟨h1, rfl, rfl⟩⟩⟩
  · exact ⟨_, _, .inl ⟨by omega, rfl, rfl⟩⟩
theorem EndS.state {a : Nat → Addr} {ve0 ve : Value} {n0 n : Int} {g : List (List Int)} (h : EndS a ve0 n0 g ve n) (s0 : SState a ve0 n0) : SState a ve n := by
  rcases h with ⟨h0, rfl, rfl⟩ | ⟨rfl, ⟨_, rfl, rfl⟩ | ⟨_, _, rfl, rfl⟩ | ⟨_, _, rfl, rfl⟩⟩
  · exact s0
  · exact .inl ⟨3, by omega, rfl, rfl⟩
  · exact .inl ⟨1, by omega, rfl, rfl⟩
  · exact .inr ⟨rfl, rfl⟩

end Go.Proofs.YtopopbhpclhinaaGreatDoor
