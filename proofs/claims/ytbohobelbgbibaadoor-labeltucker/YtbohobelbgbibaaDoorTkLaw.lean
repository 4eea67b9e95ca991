/- LabelTucker answers true of whatever size and labels. -/
import Derived.Test.YtbohobelbgbibaaDoorTkBridge
import Derived.Test.YtbohobelbgbibaaDoorTkFault
import Derived.Test.YtbohobelbgbibaaDoorFaulted4
import Derived.Deep.DeepCutAuto
namespace Go.Proofs.YtbohobelbgbibaaDoor
open Go.RowKit Go.Sort

/-- Labels that may stand on a square. -/
def SqGood (n : Int) (ls : List Int) : Prop := (1 ≤ n ∧ n ≤ 6) ∧ ls.length = sdN n.toNat * sdN n.toNat ∧ ∀ j, j < ls.length → fitsP n.toNat ls j
theorem SqIs.one {n : Int} {ls : List Int} {c p c' p' : Int} (h : SqIs n ls c p) (h' : SqIs n ls c' p') : c = c' ∧ p = p' := by
  rcases h with ⟨g, rfl, rfl⟩ | ⟨g, ⟨g2, rfl, rfl⟩ | ⟨g2, ⟨i, g3, g4, g5, rfl, rfl⟩ | ⟨g3, rfl, rfl⟩⟩⟩ <;>
    rcases h' with ⟨k, rfl, rfl⟩ | ⟨k, ⟨k2, rfl, rfl⟩ | ⟨k2, ⟨i', k3, k4, k5, rfl, rfl⟩ | ⟨k3, rfl, rfl⟩⟩⟩
  all_goals first
    | exact ⟨rfl, rfl⟩
    | (exfalso; omega)
    | (exfalso; exact g2 k2)
    | (exfalso; exact k2 g2)
    | (exfalso; exact g5 (k3 _ g3))
    | (exfalso; exact k5 (g3 _ k3))
    | (refine ⟨rfl, ?_⟩
       have : i = i' := by
         rcases Nat.lt_trichotomy i i' with h | h | h
         · exact absurd (k4 i h) g5
         · exact h
         · exact absurd (g4 i' h) k5
       rw [this])
theorem SqIs.bad {n : Int} {ls : List Int} {c p : Int} (h : SqIs n ls c p) (hg : ¬ SqGood n ls) : 0 < c := by
  rcases h with ⟨g, rfl, rfl⟩ | ⟨g, ⟨g2, rfl, rfl⟩ | ⟨g2, ⟨i, g3, g4, g5, rfl, rfl⟩ | ⟨g3, rfl, rfl⟩⟩⟩
  · omega
  · omega
  · omega
  · exact absurd ⟨g, g2, g3⟩ hg
/-- What the reference says of labels of a square. -/
theorem sq_all {ls : List Int} (n : Int) (vl : Value) (w : World) (hl : Ints w vl ls) (hr : ∀ q, q < ls.length → (-9223372036854775808 ≤ labA ls q ∧ labA ls q ≤ 9223372036854775807)) :
    Calls Tryd.prog 23 #[.int .i64 n, vl] w fun e w' => ∃ c p, e = .returned (.agg #[.int .i64 c, .int .i64 p]) ∧ SqIs n ls c p ∧ Below w.heap.size w w' := by
  by_cases hn : n < 1 ∨ 6 < n
  · exact (sq_bound n vl w hl hn).mono fun e w' h => ⟨2, -1, h.1, .inl ⟨hn, rfl, rfl⟩, h.2⟩
  · have hn2 : 1 ≤ n ∧ n ≤ 6 := by omega
    obtain ⟨m, rfl⟩ : ∃ m : Nat, n = (m : Int) := ⟨n.toNat, by omega⟩
    by_cases hs : ls.length = sdN m * sdN m
    · exact (sq_rest m (by omega) (by omega) vl w hl hs hr).mono fun e w' h => by
        rcases h with ⟨hb, ⟨i, h1, h2, h3, h4⟩ | ⟨h1, h2⟩⟩
        · exact ⟨8, i, h1, .inr ⟨hn2, .inr ⟨hs, .inl ⟨i, h2, h3, h4, rfl, rfl⟩⟩⟩, hb⟩
        · exact ⟨0, -1, h1, .inr ⟨hn2, .inr ⟨hs, .inr ⟨h2, rfl, rfl⟩⟩⟩, hb⟩
    · exact (sq_shape m (by omega) (by omega) vl w hl hs).mono fun e w' h => ⟨3, -1, h.1, .inr ⟨hn2, .inl ⟨hs, rfl, rfl⟩⟩, h.2⟩
theorem sq_good {ls : List Int} (n : Int) (vl : Value) (w : World) (hl : Ints w vl ls) (hr : ∀ q, q < ls.length → (-9223372036854775808 ≤ labA ls q ∧ labA ls q ≤ 9223372036854775807)) (hg : SqGood n ls) :
    Calls Tryd.prog 23 #[.int .i64 n, vl] w fun e w' => e = .returned (.agg #[.int .i64 0, .int .i64 (-1)]) ∧ Below w.heap.size w w' :=
  (sq_all n vl w hl hr).mono fun e w' h => by
    obtain ⟨c, p, h1, h2, h3⟩ := h
    obtain ⟨rfl, rfl⟩ := h2.one (.inr ⟨hg.1, .inr ⟨hg.2.1, .inr ⟨hg.2.2, rfl, rfl⟩⟩⟩)
    exact ⟨h1, h3⟩
/-- An error that fits the labels' fault. -/
def SqErr (a : Nat → Addr) (w : World) (n : Int) (ls : List Int) (ve : Value) : Prop := ∃ c p, SqIs n ls c p ∧ ErrAt a w ve c p ∧ 0 < c
theorem SqErr.below {a : Nat → Addr} {w w' : World} {n : Int} {ls : List Int} {ve : Value} (h : SqErr a w n ls ve) (hB : Below w.heap.size w w') : SqErr a w' n ls ve := by
  obtain ⟨c, p, h1, h2, h3⟩ := h
  exact ⟨c, p, h1, h2.below hB, h3⟩
set_option maxRecDepth 100000 in
theorem sq_faulted_es {a : Nat → Addr} {t : Nat → ByteArray} {i : Nat} (w : World) (hE : Errs a t w) (hi : i < 8) :
    Calls Tryd.prog 16 #[erV (a i), .agg #[.int .i64 ((i : Int) + 1), .int .i64 (-1)]] w fun e w' => e = .returned (.bool true) ∧ Below w.heap.size w w' := by
  unfold erV
  have hBa : Below w.heap.size w (w.alloc (.cells #[.int .i64 ((i : Int) + 1), .int .i64 (-1)] 38)) := (Below.refl _ w).alloc (Nat.le_refl _) _
  have hb := fault_cells w (.int .i64 ((i : Int) + 1)) (.int .i64 (-1)) 38
  have hne : ∀ k, k < 8 → (a i = a k ↔ k = i) := fun k hk => ⟨fun h => by
    rcases Nat.decEq k i with h' | h'
    · exact absurd h (hE.apart i k hi hk (fun e => h' e.symm))
    · exact h', fun h => by rw [h]⟩
  have hco := code_es (w.alloc (.cells #[.int .i64 ((i : Int) + 1), .int .i64 (-1)] 38)) (hE.below hBa) (a i) i (by omega) hne ((hE.below hBa).row i hi)
  rw [show codeOf i = (i : Int) + 1 by unfold codeOf; rw [if_pos hi]] at hco
  clear hE hne
  go_enter Tryd.func16, Tryd.ntmps16
  go_wp2_with fail
  refine hco.mono ?_
  clear hco
  rintro e w2 ⟨rfl, hB2⟩
  have c0 := (hB2.cell (p := ⟨w.heap.size, 0, none⟩) (by simp)).trans hb.1
  have c1 : w2.cell? ⟨w.heap.size, 1, none⟩ = some (.int .i64 (-1)) := (hB2.cell (p := ⟨w.heap.size, 0 + 1, none⟩) (by simp)).trans hb.2
  have hn : (((i : Int) + 1) == 0) = false := beq_false_of_ne (by omega)
  have HB2 : Hid (Below w.heap.size w w2) := hBa.trans (hB2.mono (by simp))
  clear hB2 hb
  go_wp2
  go_ret
  exact ⟨rfl, HB2.out⟩
theorem sq_faulted {a : Nat → Addr} {sx : Nat → ByteArray} {n : Int} {ls : List Int} {ve : Value} {c p : Int} (w : World) (hE : Errs a sx w) (h : SqErr a w n ls ve) (hf : SqIs n ls c p) :
    Calls Tryd.prog 16 #[ve, .agg #[.int .i64 c, .int .i64 p]] w fun e w' => e = .returned (.bool true) ∧ Below w.heap.size w w' := by
  obtain ⟨c', p', h1, h2, h3⟩ := h
  obtain ⟨rfl, rfl⟩ := hf.one h1
  rcases h2 with ⟨rfl, _⟩ | ⟨i, hi, rfl, rfl, rfl⟩ | ⟨i, hi, rfl, hfa⟩
  · omega
  · exact sq_faulted_es w hE hi
  · exact faulted_at w hE hfa hi
theorem SqErr.form {a : Nat → Addr} {w : World} {n : Int} {ls : List Int} {ve : Value} (h : SqErr a w n ls ve) : ∃ t q, ve = .iface t (.pointer (some q)) := by
  obtain ⟨c, p, h1, h2, h3⟩ := h
  rcases h2 with ⟨rfl, _⟩ | ⟨i, hi, rfl, rfl, rfl⟩ | ⟨i, hi, rfl, q, rfl, _⟩
  · omega
  · exact ⟨_, _, rfl⟩
  · exact ⟨_, _, rfl⟩
theorem opp_bad {a : Nat → Addr} {sx : Nat → ByteArray} {ls : List Int} (n : Int) (vl : Value) (w : World) (hE : Errs a sx w) (hl : Ints w vl ls) (h9 : ls.length ≤ 1000) (hg : ¬ SqGood n ls) :
    Calls Tryd.prog 22 #[.int .i64 n, vl] w fun e w' => ∃ t q, e = .returned (.tuple #[.slice none 0 0, .iface t (.pointer (some q))]) ∧ SqErr a w' n ls (.iface t (.pointer (some q))) ∧ Below w.heap.size w w' := by
  suffices h : Calls Tryd.prog 22 #[.int .i64 n, vl] w fun e w' => ∃ ve, e = .returned (.tuple #[.slice none 0 0, ve]) ∧ SqErr a w' n ls ve ∧ Below w.heap.size w w' by
    refine h.mono fun e w' h => ?_
    obtain ⟨ve, h1, h2, h3⟩ := h
    obtain ⟨t, q, rfl⟩ := h2.form
    exact ⟨t, q, h1, h2, h3⟩
  by_cases hn : n < 1 ∨ 6 < n
  · exact (opp_bound n vl w hE hl hn).mono fun e w' h => ⟨_, h.1, ⟨2, -1, .inl ⟨hn, rfl, rfl⟩, .inr (.inl ⟨1, by omega, rfl, rfl, rfl⟩), by omega⟩, h.2⟩
  · have hn2 : 1 ≤ n ∧ n ≤ 6 := by omega
    obtain ⟨m, rfl⟩ : ∃ m : Nat, n = (m : Int) := ⟨n.toNat, by omega⟩
    by_cases hs : ls.length = sdN m * sdN m
    · exact (opp_rest (a := a) m (by omega) (by omega) vl w hE.kind hl hs (opp_some (by omega) (by omega) hs)).mono fun e w' h => by
        rcases h with ⟨hb, ⟨ve, i, h1, h2, h3, h4, h5⟩ | ⟨h1, _⟩⟩
        · exact ⟨ve, h1, ⟨8, i, .inr ⟨hn2, .inr ⟨hs, .inl ⟨i, h2, h3, h4, rfl, rfl⟩⟩⟩, .inr (.inr ⟨7, by omega, rfl, h5⟩), by omega⟩, hb⟩
        · exact absurd ⟨hn2, hs, h1⟩ hg
    · exact (opp_shape m (by omega) (by omega) vl w hE hl hs h9).mono fun e w' h => ⟨_, h.1, ⟨3, -1, .inr ⟨hn2, .inl ⟨hs, rfl, rfl⟩⟩, .inr (.inl ⟨2, by omega, rfl, rfl, rfl⟩), by omega⟩, h.2⟩
theorem opp_good {q : Addr} {ls : List Int} (n : Nat) (vl : Value) (w : World) (hE : KindAt q w) (hl : Ints w vl ls) (hg : SqGood (n : Int) ls) :
    Calls Tryd.prog 22 #[.int .i64 (n : Int), vl] w fun e w' => ∃ g cap, e = .returned (.tuple #[.slice (some ⟨g, 0, none⟩) (pairsA n ls ls.length).length cap, .nilIface]) ∧ (∀ j x, (pairsA n ls ls.length)[j]? = some x → w'.cell? ⟨g, j * 2, none⟩ = some (.int .i64 x.1) ∧ w'.cell? ⟨g, j * 2 + 1, none⟩ = some (.int .i64 x.2)) ∧ Below w.heap.size w w' := by
  have h1 := hg.1
  have hs : ls.length = sdN n * sdN n := hg.2.1
  exact (opp_rest (a := fun _ => q) n (by omega) (by omega) vl w hE hl hs (opp_some (by omega) (by omega) hs)).mono fun e w' h => by
    rcases h with ⟨hb, ⟨ve, i, k1, k2, k3, k4, k5⟩ | ⟨_, g, cap, l', k1, k2, k3, k4⟩⟩
    · exact absurd (hg.2.2 i k2) k4
    · rw [ded_pairs (by omega) (by omega) hs k2 k3] at k1 k4
      exact ⟨g, cap, k1, k4, hb⟩
theorem pairs_pos {n : Nat} {ls : List Int} (hg : SqGood (n : Int) ls) : 0 < (pairsA n ls ls.length).length := by
  have h1 := hg.1
  have hs : ls.length = sdN n * sdN n := hg.2.1
  have h2 := opp_some (by omega) (by omega) hs hg.2.2
  obtain ⟨x, hx⟩ := List.exists_mem_of_length_pos h2
  exact List.length_pos_of_mem ((opp_mem (by omega) (by omega) hs x).1 hx)

set_option maxRecDepth 100000 in
theorem tucker_big {ls : List Int} (n : Int) (vl : Value) (w : World) (hl : Ints w vl ls) (h9 : 300 < ls.length) :
    Calls Tryd.prog 5 #[.int .i64 n, vl] w fun e w' => e = .returned (.bool true) ∧ Below w.heap.size w w' := by
  have hco := corner_ w
  obtain ⟨al, cl, rfl, -, -⟩ := hl.open_
  obtain ⟨m, hm⟩ : ∃ m, ls.length = m := ⟨_, rfl⟩
  rw [hm] at h9 ⊢
  clear hl hm
  go_enter Tryd.func5, Tryd.ntmps5
  go_wp2_with (first
    | (go_at_call 6; refine hco.mono ?_; rintro e V1 ⟨rfl, hb⟩; have HB := Hid.mk' hb; clear hb hco)
    | fail)
  go_ret
  exact ⟨rfl, HB.out⟩

end Go.Proofs.YtbohobelbgbibaaDoor
