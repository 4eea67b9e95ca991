/- Marks that spread over a piece: a look through all squares, and what is left when nothing is new. -/
import Derived.Test.YtjaoiaajplgboaaDoorCubeSpread
namespace Go.Proofs.YtjaoiaajplgboaaDoor
open Go.RowKit Go.Sort

open Classical in
/-- How many of a list are so. -/
noncomputable def cntN (P : Sq → Prop) (l : List Sq) : Nat := l.countP fun s => decide (P s)
open Classical in
theorem cntN_pos {P : Sq → Prop} (l : List Sq) {s : Sq} (h : P s) : cntN P (l ++ [s]) = cntN P l + 1 := by
  unfold cntN; rw [List.countP_append, List.countP_singleton, if_pos (decide_eq_true h)]
open Classical in
theorem cntN_neg {P : Sq → Prop} (l : List Sq) {s : Sq} (h : ¬ P s) : cntN P (l ++ [s]) = cntN P l := by
  unfold cntN; rw [List.countP_append, List.countP_singleton, if_neg (by simp [h]), Nat.add_zero]
theorem cntN_le (P : Sq → Prop) (l : List Sq) : cntN P l ≤ l.length := List.countP_le_length

/-- All marks so far. -/
structure MarkMid (B : Nat) (W : World) (g : Nat) (rb : Nat → Nat) (w h : Nat) (K : Sq → Prop) (R : Sq → Sq → Prop) (P : Sq → Prop) (d : List Sq) (next cnt : Nat) (f : Sq → Int) : Prop where
  grid : GridAt B W g rb w h f
  pos : ∀ b, 0 ≤ f b
  most : ∀ b, f b ≤ (next : Int)
  met : ∀ b, InSq w h b → (0 < f b ↔ Met K R d b)
  cnt : cnt = cntN P (starts K R [] d)

theorem MarkMid.keep {B : Nat} {W W' : World} {g : Nat} {rb : Nat → Nat} {w h : Nat} {K : Sq → Prop} {R : Sq → Sq → Prop} {P : Sq → Prop} {d : List Sq} {next cnt : Nat} {f : Sq → Int} (H : MarkMid B W g rb w h K R P d next cnt f) (hB : Below W.heap.size W W') : MarkMid B W' g rb w h K R P d next cnt f :=
  ⟨H.grid.keep hB, H.pos, H.most, H.met, H.cnt⟩

theorem MarkMid.skip {B : Nat} {W : World} {g : Nat} {rb : Nat → Nat} {w h : Nat} {K : Sq → Prop} {R : Sq → Sq → Prop} {P : Sq → Prop} {d : List Sq} {next cnt : Nat} {f : Sq → Int} (H : MarkMid B W g rb w h K R P d next cnt f) {s : Sq} (hn : ¬ New K R d s) : MarkMid B W g rb w h K R P (d ++ [s]) next cnt f :=
  ⟨H.grid, H.pos, H.most, fun b hb => by rw [H.met b hb, met_skip hn], by rw [starts_skip hn]; exact H.cnt⟩

/-- One piece's marks under way. -/
structure ScanMid (B : Nat) (W : World) (g : Nat) (rb : Nat → Nat) (w h : Nat) (R : Sq → Sq → Prop) (M : Sq → Prop) (s : Sq) (N : Int) (d : List Sq) (f0 f : Sq → Int) (again : Bool) : Prop where
  grid : GridAt B W g rb w h f
  pos : ∀ b, 0 ≤ f b
  most : ∀ b, f b ≤ N
  marked : Marked R M s N (InSq w h) f
  scan : Scan R N (sqTo w h) d f0 f again

theorem ScanMid.skip {B : Nat} {W : World} {g : Nat} {rb : Nat → Nat} {w h : Nat} {R : Sq → Sq → Prop} {M : Sq → Prop} {s : Sq} {N : Int} {d : List Sq} {f0 f : Sq → Int} {again : Bool} (H : ScanMid B W g rb w h R M s N d f0 f again) {a : Sq} (ha : f a ≠ N) : ScanMid B W g rb w h R M s N (d ++ [a]) f0 f again :=
  ⟨H.grid, H.pos, H.most, H.marked, ⟨fun hq b hb hf => by
    rcases List.mem_append.1 hb with hb | hb
    · exact H.scan.same hq b hb hf
    · cases List.mem_singleton.1 hb; exact absurd hf ha, H.scan.fewer, H.scan.most⟩⟩

theorem ScanMid.spread {B : Nat} {W W' : World} {g : Nat} {rb : Nat → Nat} {w h : Nat} {R : Sq → Sq → Prop} {M : Sq → Prop} {s : Sq} {N : Int} {d : List Sq} {f0 f f' : Sq → Int} {again q : Bool} (H : ScanMid B W g rb w h R M s N d f0 f again) (hN : 0 < N) (hap : ∀ b, Reach R s b → ¬ M b) (hRI : ∀ a b, R a b → InSq w h b)
    {a : Sq} (ha : InSq w h a) (hfa : f a = N) (hG : GridAt B W' g rb w h f') (hS : SpreadTo R a N f f' q) (hR : ∀ b, R a b → 0 < f' b) : ScanMid B W' g rb w h R M s N (d ++ [a]) f0 f' (again || q) := by
  have hra : Reach R s a := H.marked.reach a ha hfa
  have hz : ∀ c, f' c = 0 → f c = 0 := fun c hc => by
    rcases hS.1 c with e | ⟨_, e, _⟩
    · rw [← e]; exact hc
    · exact e
  have hle : bare (sqTo w h) f' ≤ bare (sqTo w h) f := countP_le_of fun c _ hc => by simp only [decide_eq_true_eq] at hc ⊢; exact hz c hc
  have hM : Marked R M s N (InSq w h) f' := by
    refine ⟨?_, fun c hc hf => ?_, fun c hc => ?_⟩
    · rcases hS.1 s with e | ⟨_, _, e⟩
      · rw [e]; exact H.marked.start
      · exact e
    · rcases hS.1 c with e | ⟨e, _, _⟩
      · exact H.marked.reach c hc (by rw [← e]; exact hf)
      · exact hra.step e
    · rcases hS.1 c with e | ⟨_, _, e⟩
      · rw [e]; exact H.marked.old c hc
      · rw [e]; exact ⟨fun _ => .inr rfl, fun _ => hN⟩
  have hfa' : ∀ b, R a b → f' b = N := fun b hb => by
    rcases (hM.old b (hRI a b hb)).1 (hR b hb) with h | h
    · exact absurd h (hap b (hra.step hb))
    · exact h
  refine ⟨hG, fun b => ?_, fun b => ?_, hM, ⟨fun hq b hb hf => ?_, fun hq => ?_, Nat.le_trans hle H.scan.most⟩⟩
  · rcases hS.1 b with e | ⟨_, _, e⟩
    · rw [e]; exact H.pos b
    · rw [e]; omega
  · rcases hS.1 b with e | ⟨_, _, e⟩
    · rw [e]; exact H.most b
    · rw [e]; exact Int.le_refl _
  · simp only [Bool.or_eq_false_iff] at hq
    rcases List.mem_append.1 hb with hb | hb
    · have he := hS.2.1 hq.2
      intro c hc
      rw [he c]
      exact H.scan.same hq.1 b hb (by rw [← he b]; exact hf) c hc
    · cases List.mem_singleton.1 hb
      exact hfa'
  · simp only [Bool.or_eq_true] at hq
    rcases hq with hq | hq
    · exact Nat.lt_of_le_of_lt hle (H.scan.fewer hq)
    · obtain ⟨b, hb, h0, h1⟩ := hS.2.2 hq
      have : bare (sqTo w h) f' < bare (sqTo w h) f := countP_lt_of (fun c _ hc => by simp only [decide_eq_true_eq] at hc ⊢; exact hz c hc) ⟨b, mem_sqTo.2 (hRI a b hb), by simpa using h0, by simp; omega⟩
      exact Nat.lt_of_lt_of_le this H.scan.most

/-- A look begins. -/
theorem scan_begin {B : Nat} {W : World} {g : Nat} {rb : Nat → Nat} {w h : Nat} {R : Sq → Sq → Prop} {M : Sq → Prop} {s : Sq} {N : Int} {d : List Sq} {f0 f : Sq → Int} {again : Bool} (H : ScanMid B W g rb w h R M s N d f0 f again) : ScanMid B W g rb w h R M s N [] f f false :=
  ⟨H.grid, H.pos, H.most, H.marked, ⟨fun _ b hb => (by cases hb), fun h => (by cases h), Nat.le_refl _⟩⟩

open Classical in
/-- How many squares have no mark, off the memory. -/
noncomputable def bareW (rb : Nat → Nat) (w h : Nat) (W : World) : Nat := (sqTo w h).countP fun a => decide (W.cell? ⟨rb a.2.toNat, a.1.toNat, none⟩ = some (.int .i64 0))

theorem bare_of {B : Nat} {W : World} {g : Nat} {rb : Nat → Nat} {w h : Nat} {f : Sq → Int} (H : GridAt B W g rb w h f) : bareW rb w h W = bare (sqTo w h) f := by
  unfold bareW bare
  refine List.countP_congr fun a ha => ?_
  obtain ⟨x, y, rfl, hx, hy⟩ := sq_nat' (mem_sqTo.1 ha)
  simp only [Int.toNat_natCast]
  simp only [decide_eq_true_eq, (H.mark hx hy).1]
  simp

/-- A new piece begins. -/
theorem mark_first {B : Nat} {W W' : World} {g : Nat} {rb : Nat → Nat} {w h : Nat} {K : Sq → Prop} {R : Sq → Sq → Prop} {P : Sq → Prop} {d : List Sq} {next cnt : Nat} {f : Sq → Int} (H : MarkMid B W g rb w h K R P d next cnt f) {s : Sq} (hG : GridAt B W' g rb w h (putM f s ((next : Int) + 1))) :
    ScanMid B W' g rb w h R (Met K R d) s ((next : Int) + 1) [] (putM f s ((next : Int) + 1)) (putM f s ((next : Int) + 1)) false := by
  refine ⟨hG, fun b => ?_, fun b => ?_, marked_first (by omega) (fun a _ => by have := H.most a; omega) (fun a ha => H.met a ha), ⟨fun _ b hb => (by cases hb), fun h => (by cases h), Nat.le_refl _⟩⟩
  · unfold putM; split
    · omega
    · exact H.pos b
  · unfold putM; split
    · omega
    · have := H.most b; omega

/-- A piece is marked whole. -/
theorem mark_end {B : Nat} {W W' : World} {g : Nat} {rb : Nat → Nat} {w h : Nat} {K : Sq → Prop} {R : Sq → Sq → Prop} {P : Sq → Prop} {d : List Sq} {next cnt cnt' : Nat} {f f0 f' : Sq → Int} (_H : MarkMid B W g rb w h K R P d next cnt f) {s : Sq} (hs : New K R d s) (hsI : InSq w h s) (hRI : ∀ a b, R a b → InSq w h b)
    (S : ScanMid B W' g rb w h R (Met K R d) s ((next : Int) + 1) (sqTo w h) f0 f' false) (hc : cnt' = cntN P (starts K R [] d ++ [s])) : (∀ b, InSq w h b → (f' b = (next : Int) + 1 ↔ Reach R s b)) ∧ MarkMid B W' g rb w h K R P (d ++ [s]) (next + 1) cnt' f' := by
  have hk : ∀ b, InSq w h b → (f' b = (next : Int) + 1 ↔ Reach R s b) := fun b hb => marked_end S.marked hsI hRI (fun a ha hf b hb => S.scan.same rfl a (mem_sqTo.2 ha) hf b hb) b hb
  refine ⟨hk, S.grid, S.pos, fun b => by have := S.most b; omega, fun b hb => ?_, by rw [starts_new hs]; exact hc⟩
  rw [S.marked.old b hb, met_new hs.1, hk b hb]

end Go.Proofs.YtjaoiaajplgboaaDoor
