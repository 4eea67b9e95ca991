/- Pairs that are joined, one behind the other: mates, where a face leads to, circles of pairs and of faces are one. No program is spoken of. A field in memory: a shape with the mates of its faces; up. hasCircle's closure: a walk in depth, by its own variable. -/
import Derived.Test.YtnnkmkhamipfiaaGreatDoorMorseSums
import Derived.Test.YtnnkmkhamipfiaaGreatDoorTab
namespace Go.Proofs.YtnnkmkhamipfiaaGreatDoor

/-- Nothing is joined; one more pair is. -/
def noMate (_ : Nat) : Int := -1
def joinP (w : Nat → Int) (p : Duo) : Nat → Int := fun k => if k = p.2.toNat then p.1 else if k = p.1.toNat then p.2 else w k
def matesBy (w : Nat → Int) (ps : List Duo) : Nat → Int := ps.foldl joinP w
/-- A pair that can be joined; pairs that can, one behind the other. -/
def GoodJ (n : Nat) (u : Nat → Nat → Bool) (w : Nat → Int) (p : Duo) : Prop := ∃ a b : Nat, p = ((a : Int), (b : Int)) ∧ a < n ∧ b < n ∧ u a b = true ∧ w a = -1 ∧ w b = -1
def Joins (n : Nat) (u : Nat → Nat → Bool) : (Nat → Int) → List Duo → Prop
  | _, [] => True
  | w, p :: ps => GoodJ n u w p ∧ Joins n u (joinP w p) ps
theorem joins_snoc {n : Nat} {u : Nat → Nat → Bool} : ∀ {ps : List Duo} {w : Nat → Int} {p : Duo}, Joins n u w (ps ++ [p]) ↔ Joins n u w ps ∧ GoodJ n u (matesBy w ps) p
  | [], w, p => by simp [Joins, matesBy]
  | q :: ps, w, p => by
    rw [List.cons_append]
    unfold Joins
    rw [joins_snoc, and_assoc]
    rfl
theorem mates_snoc {w : Nat → Int} {ps : List Duo} {p : Duo} : matesBy w (ps ++ [p]) = joinP (matesBy w ps) p := by unfold matesBy; rw [List.foldl_append]; rfl
theorem joins_or (n : Nat) (u : Nat → Nat → Bool) : ∀ (ps : List Duo) (w : Nat → Int), Joins n u w ps ∨ ∃ k, ∃ h : k < ps.length, Joins n u w (ps.take k) ∧ ¬ GoodJ n u (matesBy w (ps.take k)) ps[k]
  | [], _ => .inl trivial
  | p :: ps, w => by
    by_cases h : GoodJ n u w p
    · rcases joins_or n u ps (joinP w p) with h1 | ⟨k, hk, h1, h2⟩
      · exact .inl ⟨h, h1⟩
      · exact .inr ⟨k + 1, Nat.succ_lt_succ hk, ⟨h, h1⟩, h2⟩
    · exact .inr ⟨0, Nat.succ_pos _, trivial, h⟩

/-- What is known of the mates of pairs that were joined. -/
structure MateInv (n : Nat) (u : Nat → Nat → Bool) (ps : List Duo) (w : Nat → Int) : Prop where
  ok : ∀ (i : Nat) (p : Duo), ps[i]? = some p → ∃ a b : Nat, p = ((a : Int), (b : Int)) ∧ a < n ∧ b < n ∧ u a b = true ∧ w a = (b : Int) ∧ w b = (a : Int)
  src : ∀ a, w a ≠ -1 → ∃ (i : Nat) (p : Duo), ps[i]? = some p ∧ (p.1 = (a : Int) ∨ p.2 = (a : Int))
  inj : ∀ (i k : Nat) (p q : Duo), ps[i]? = some p → ps[k]? = some q → p.1 = q.1 → i = k
theorem inv_none (n : Nat) (u : Nat → Nat → Bool) : MateInv n u [] noMate := ⟨fun i p h => by simp at h, fun a h => absurd rfl h, fun i k p q h => by simp at h⟩
theorem inv_snoc {n : Nat} {u : Nat → Nat → Bool} (hu : ∀ a b, u a b = true → a < b) {ps : List Duo} {w : Nat → Int} (h : MateInv n u ps w) {p : Duo} (hp : GoodJ n u w p) : MateInv n u (ps ++ [p]) (joinP w p) := by
  obtain ⟨a, b, rfl, ha, hb, hab, hwa, hwb⟩ := hp
  have hlt := hu a b hab
  have hne : a ≠ b := by omega
  have hget : ∀ (i : Nat) (q : Duo), (ps ++ [((a : Int), (b : Int))])[i]? = some q → ps[i]? = some q ∨ (i = ps.length ∧ q = ((a : Int), (b : Int))) := by
    intro i q hq
    rcases Nat.lt_or_ge i ps.length with h1 | h1
    · rw [List.getElem?_append_left h1] at hq; exact .inl hq
    · rw [List.getElem?_append_right h1] at hq
      cases hk : i - ps.length with
      | zero => rw [hk] at hq; exact .inr ⟨by omega, (Option.some.inj hq).symm⟩
      | succ m => rw [hk] at hq; cases hq
  have hold : ∀ c, w c ≠ -1 → joinP w ((a : Int), (b : Int)) c = w c := by
    intro c hc
    have h1 : c ≠ b := fun e => hc (e ▸ hwb)
    have h2 : c ≠ a := fun e => hc (e ▸ hwa)
    simp [joinP, h1, h2]
  have hja : joinP w ((a : Int), (b : Int)) a = (b : Int) := by simp [joinP, hne]
  have hjb : joinP w ((a : Int), (b : Int)) b = (a : Int) := by simp [joinP]
  refine ⟨fun i q hq => ?_, fun c hc => ?_, fun i k q r hq hr e => ?_⟩
  · rcases hget i q hq with h1 | ⟨_, rfl⟩
    · obtain ⟨x, y, rfl, h2, h3, h4, h5, h6⟩ := h.ok i q h1
      exact ⟨x, y, rfl, h2, h3, h4, (hold x (by rw [h5]; omega)).trans h5, (hold y (by rw [h6]; omega)).trans h6⟩
    · exact ⟨a, b, rfl, ha, hb, hab, hja, hjb⟩
  · by_cases h1 : c = b
    · exact ⟨ps.length, ((a : Int), (b : Int)), by simp, .inr (by rw [h1])⟩
    · by_cases h2 : c = a
      · exact ⟨ps.length, ((a : Int), (b : Int)), by simp, .inl (by rw [h2])⟩
      · have h3 : w c ≠ -1 := by simpa [joinP, h1, h2] using hc
        obtain ⟨i, q, hq, h4⟩ := h.src c h3
        exact ⟨i, q, by rw [List.getElem?_append_left (List.getElem?_eq_some_iff.1 hq).1]; exact hq, h4⟩
  · have hno : ∀ (i : Nat) (q : Duo), ps[i]? = some q → q.1 ≠ (a : Int) := by
      intro i q hq e
      obtain ⟨x, y, rfl, h2, h3, h4, h5, h6⟩ := h.ok i q hq
      have : x = a := by simp only at e; omega
      rw [this, hwa] at h5; omega
    rcases hget i q hq with h1 | ⟨rfl, rfl⟩
    · rcases hget k r hr with h2 | ⟨rfl, rfl⟩
      · exact h.inj i k q r h1 h2 e
      · exact absurd e (hno i q h1)
    · rcases hget k r hr with h2 | ⟨rfl, rfl⟩
      · exact absurd e.symm (hno k r h2)
      · rfl
theorem inv_more {n : Nat} {u : Nat → Nat → Bool} (hu : ∀ a b, u a b = true → a < b) : ∀ (qs ps : List Duo) (w : Nat → Int), MateInv n u ps w → Joins n u w qs → MateInv n u (ps ++ qs) (matesBy w qs)
  | [], ps, w, h, _ => by rw [List.append_nil]; exact h
  | q :: qs, ps, w, h, hj => by
    have := inv_more hu qs (ps ++ [q]) (joinP w q) (inv_snoc hu h hj.1) hj.2
    rw [List.append_assoc] at this
    exact this
theorem inv_of {n : Nat} {u : Nat → Nat → Bool} (hu : ∀ a b, u a b = true → a < b) {ps : List Duo} (h : Joins n u noMate ps) : MateInv n u ps (matesBy noMate ps) := inv_more hu ps [] noMate (inv_none n u) h

/-- From the first face of a pair up to the second. -/
def upW (w : Nat → Int) (a : Nat) : Option Nat := if (a : Int) < w a then some (w a).toNat else none
theorem up_iff {n : Nat} {u : Nat → Nat → Bool} (hu : ∀ a b, u a b = true → a < b) {ps : List Duo} {w : Nat → Int} (h : MateInv n u ps w) {a b : Nat} : upW w a = some b ↔ ∃ i : Nat, ps[i]? = some ((a : Int), (b : Int)) := by
  unfold upW
  constructor
  · intro e
    by_cases hlt : (a : Int) < w a
    · rw [if_pos hlt] at e
      have eb := Option.some.inj e
      obtain ⟨i, p, hp, h1⟩ := h.src a (by omega)
      obtain ⟨x, y, rfl, h2, h3, h4, h5, h6⟩ := h.ok i p hp
      rcases h1 with h1 | h1
      · simp only at h1
        have : x = a := by omega
        subst this
        have : y = b := by omega
        subst this
        exact ⟨i, hp⟩
      · simp only at h1
        have : y = a := by omega
        subst this
        have := hu x y h4
        omega
    · rw [if_neg hlt] at e; cases e
  · rintro ⟨i, hp⟩
    obtain ⟨x, y, e, h2, h3, h4, h5, h6⟩ := h.ok i _ hp
    have e1 := congrArg Prod.fst e
    have e2 := congrArg Prod.snd e
    simp only at e1 e2
    have e3 : a = x := by omega
    have e4 : b = y := by omega
    subst e3; subst e4
    have := hu a b h4
    rw [if_pos (by omega), h5]
    simp

theorem mate_up {n : Nat} {u : Nat → Nat → Bool} (hu : ∀ a b, u a b = true → a < b) {ps : List Duo} {w : Nat → Int} (h : MateInv n u ps w) {f : Nat} (hf : (f : Int) < w f) : f < n ∧ w f < (n : Int) ∧ u f (w f).toNat = true := by
  have e : upW w f = some (w f).toNat := by unfold upW; rw [if_pos hf]
  obtain ⟨i, hi⟩ := (up_iff hu h).1 e
  obtain ⟨x, y, e1, h1, h2, h3, h4, h5⟩ := h.ok i _ hi
  have a1 := congrArg Prod.fst e1
  have a2 := congrArg Prod.snd e1
  simp only at a1 a2
  have e3 : f = x := by omega
  have e4 : (w f).toNat = y := by omega
  rw [e4, e3]
  refine ⟨h1, ?_, h3⟩
  rw [h4]; omega

/-- From one pair to another one. -/
def OnP (u : Nat → Nat → Bool) (ps : List Duo) (i k : Nat) : Prop := k ≠ i ∧ ∃ p q : Duo, ps[i]? = some p ∧ ps[k]? = some q ∧ u q.1.toNat p.2.toNat = true
theorem on_lt {u : Nat → Nat → Bool} {ps : List Duo} {i k : Nat} (h : OnP u ps i k) : i < ps.length ∧ k < ps.length := by
  obtain ⟨_, p, q, h1, h2, _⟩ := h
  exact ⟨(List.getElem?_eq_some_iff.1 h1).1, (List.getElem?_eq_some_iff.1 h2).1⟩

def downs (n : Nat) (u : Nat → Nat → Bool) (b : Nat) : List Nat := (List.range n).filter fun x => u x b
theorem lead_on {n : Nat} {u : Nat → Nat → Bool} (hu : ∀ a b, u a b = true → a < b) {ps : List Duo} {w : Nat → Int} (h : MateInv n u ps w) {i k : Nat} {p q : Duo} (hp : ps[i]? = some p) (hq : ps[k]? = some q) : OnP u ps i k ↔ Leads (upW w) (downs n u) p.1.toNat q.1.toNat := by
  obtain ⟨a, b, rfl, h1, h2, h3, h4, h5⟩ := h.ok i p hp
  obtain ⟨c, d, rfl, g1, g2, g3, g4, g5⟩ := h.ok k q hq
  constructor
  · rintro ⟨hki, p', q', hp', hq', hx⟩
    rw [hp] at hp'; rw [hq] at hq'
    cases hp'; cases hq'
    refine ⟨b, (up_iff hu h).2 ⟨i, by simpa using hp⟩, List.mem_filter.2 ⟨List.mem_range.2 (by simpa using g1), by simpa using hx⟩, fun e => hki (h.inj k i _ _ hq hp (by simp only [Int.toNat_natCast] at e; simp only [e]))⟩
  · rintro ⟨b', hb', hx, hne⟩
    obtain ⟨j, hj⟩ := (up_iff hu h).1 hb'
    have hji := h.inj j i _ _ hj hp (by simp)
    subst hji
    rw [hp] at hj
    have e2 := congrArg Prod.snd (Option.some.inj hj)
    simp only at e2
    have : b = b' := by omega
    subst this
    refine ⟨fun e => hne ?_, _, _, hp, hq, by simpa using (List.mem_filter.1 hx).2⟩
    subst e
    rw [hp] at hq
    cases hq
    rfl
theorem rank_up {n : Nat} {u : Nat → Nat → Bool} (hu : ∀ a b, u a b = true → a < b) {ps : List Duo} {w : Nat → Int} (h : MateInv n u ps w) {N : Nat} (hr : RankedN (OnP u ps) N) : RankedN (Leads (upW w) (downs n u)) (N + 1) := by
  classical
  obtain ⟨ρ, h1, h2⟩ := hr
  have hval : ∀ (i : Nat) (p : Duo), ps[i]? = some p → (if hx : ∃ j : Nat, ∃ q : Duo, ps[j]? = some q ∧ q.1.toNat = p.1.toNat then ρ hx.choose + 1 else 0) = ρ i + 1 := by
    intro i p hp
    have hx : ∃ j : Nat, ∃ q : Duo, ps[j]? = some q ∧ q.1.toNat = p.1.toNat := ⟨i, p, hp, rfl⟩
    rw [dif_pos hx]
    obtain ⟨q, hq, e⟩ := hx.choose_spec
    obtain ⟨a, b, rfl, _⟩ := h.ok i p hp
    obtain ⟨c, d, rfl, _⟩ := h.ok _ q hq
    rw [h.inj _ i _ _ hq hp (by simp only at e ⊢; omega)]
  refine ⟨fun x => if hx : ∃ j : Nat, ∃ q : Duo, ps[j]? = some q ∧ q.1.toNat = x then ρ hx.choose + 1 else 0, fun x => ?_, fun a x hax => ?_⟩
  · by_cases hx : ∃ j : Nat, ∃ q : Duo, ps[j]? = some q ∧ q.1.toNat = x
    · simp only [dif_pos hx]; have := h1 hx.choose; omega
    · simp only [dif_neg hx]; omega
  · obtain ⟨b, hb, hx, hne⟩ := hax
    obtain ⟨i, hi⟩ := (up_iff hu h).1 hb
    have h3 := hval i _ hi
    simp only [Int.toNat_natCast] at h3
    simp only
    rw [h3]
    by_cases hq : ∃ j : Nat, ∃ q : Duo, ps[j]? = some q ∧ q.1.toNat = x
    · obtain ⟨k, q, hk, e⟩ := hq
      have h4 := hval k q hk
      rw [e] at h4
      rw [h4]
      have := h2 i k ((lead_on hu h hi hk).2 (by rw [e]; exact ⟨b, by simpa using hb, hx, by simpa using hne⟩))
      omega
    · rw [dif_neg hq]; omega
theorem rank_down {n : Nat} {u : Nat → Nat → Bool} (hu : ∀ a b, u a b = true → a < b) {ps : List Duo} {w : Nat → Int} (h : MateInv n u ps w) {N : Nat} (hr : RankedN (Leads (upW w) (downs n u)) N) : RankedN (OnP u ps) N := by
  obtain ⟨ρ, h1, h2⟩ := hr
  refine ⟨fun i => ρ (ps[i]?.getD (0, 0)).1.toNat, fun i => h1 _, fun i k hik => ?_⟩
  obtain ⟨hki, p, q, hp, hq, hx⟩ := hik
  simp only [hp, hq, Option.getD_some]
  exact h2 _ _ ((lead_on hu h hp hq).1 ⟨hki, p, q, hp, hq, hx⟩)

end Go.Proofs.YtnnkmkhamipfiaaGreatDoor

namespace Go.Proofs.YtnnkmkhamipfiaaGreatDoor
open Go.RowKit Go.Sort

def fieldV (n : Nat) (ad aS ao : Option Addr) (cd cs co gm : Nat) : Value := .agg #[.slice ad n cd, .slice aS n cs, .slice ao n co, .slice (some ⟨gm, 0, none⟩) n n]
/-- The four cells of a field in a variable. -/
theorem field_cells (w : World) (a b c d : Value) (t : TypeId) : ∀ j u, [a, b, c, d][j]? = some u → (w.alloc (.cells #[a, b, c, d] t)).cell? ⟨w.heap.size, j, none⟩ = some u := fun j u hu => by
  have := cells_new w [a, b, c, d] t j u hu
  rwa [Addr.add_lit, Nat.zero_add] at this

set_option maxRecDepth 100000 in
theorem up_ (f n : Nat) (mt : Nat → Int) (gm : Nat) (ad aS ao : Option Addr) (cd cs co : Nat) (w : World) (hr : w.rowIs gm 3 n (fun i => .int .i64 (mt i))) (hf : f < n) (_hn : n ≤ 600) :
    Calls Tryz.prog 69 #[fieldV n ad aS ao cd cs co gm, .int .i64 (f : Int)] w fun e w' => e = .returned (.tuple #[.int .i64 (mt f), .bool (decide ((f : Int) < mt f))]) ∧ Below w.heap.size w w' := by
  have hBa : Below w.heap.size w (w.alloc (.cells #[.slice ad n cd, .slice aS n cs, .slice ao n co, .slice (some ⟨gm, 0, none⟩) n n] 81)) := (Below.refl _ w).alloc (Nat.le_refl _) _
  have hce := field_cells w (.slice ad n cd) (.slice aS n cs) (.slice ao n co) (.slice (some ⟨gm, 0, none⟩) n n) 81
  have c3 := hce 3 _ rfl
  have hm := (World.cell?_alloc_lt w (.cells #[.slice ad n cd, .slice aS n cs, .slice ao n co, .slice (some ⟨gm, 0, none⟩) n n] 81) ⟨gm, f, none⟩ hr.lt).trans (hr.cell (i := f) hf)
  obtain ⟨x, hx⟩ : ∃ x : Int, mt f = x := ⟨_, rfl⟩
  rw [hx] at hm ⊢
  unfold fieldV
  clear hr hce hx
  go_enter Tryz.func69, Tryz.ntmps69
  go_wp2_with fail
  go_ret2
  exact ⟨rfl, hBa⟩

end Go.Proofs.YtnnkmkhamipfiaaGreatDoor

namespace Go.Proofs.YtnnkmkhamipfiaaGreatDoor
open Go.RowKit Go.Sort

abbrev undL (L : List (List Int)) (a b : Nat) : Bool := decide (a < L.length) && underB (faceAt L a) (faceAt L b)
abbrev leadL (L : List (List Int)) (mt : Nat → Int) : Nat → Nat → Prop := Leads (upW mt) (downs L.length (undL L))
abbrev actL (mt : Nat → Int) (f : Nat) : Prop := (f : Int) < mt f
theorem sid_downs (L : List (List Int)) (b : Nat) : sidD L allD b = downs L.length (undL L) b := by
  unfold sidD downs
  refine List.filter_congr fun x hx => ?_
  rw [List.mem_range] at hx
  simp [allD, hx]
theorem und_less {L : List (List Int)} (h : FaceList L) : ∀ x y, undL L x y = true → x < y := by
  intro x y e
  simp only [undL, Bool.and_eq_true, decide_eq_true_eq] at e
  obtain ⟨h1, h2⟩ := e
  unfold underB at h2
  simp only [Bool.and_eq_true, decide_eq_true_eq] at h2
  rcases Nat.lt_or_ge y L.length with hy | hy
  · exact faceAt_lt h.order h1 hy (by omega)
  · omega

/-- What the closure finds behind its pointers. -/
structure CirIn (B : Nat) (L : List (List Int)) (mt : Nat → Int) (ad aS ao : Option Addr) (cd cs co gm gs fb sb cb : Nat) (st : Nat → Nat) (W : World) : Prop where
  fc : ∀ j u, [Value.slice ad L.length cd, .slice aS L.length cs, .slice ao L.length co, .slice (some ⟨gm, 0, none⟩) L.length L.length][j]? = some u → W.cell? ⟨fb, j, none⟩ = some u
  s0 : W.cell? ⟨sb, 0, none⟩ = some (.slice (some ⟨gs, 0, none⟩) L.length L.length)
  c0 : W.cell? ⟨cb, 0, none⟩ = some (.func (.func 97) #[] #[.pointer (some ⟨fb, 0, none⟩), .pointer (some ⟨sb, 0, none⟩), .pointer (some ⟨cb, 0, none⟩)])
  sides : SidesIn (fun b => b < B) W (.slice aS L.length cs) L
  mates : W.rowIs gm 3 L.length (fun i => .int .i64 (mt i))
  state : W.rowIs gs 3 L.length (fun i => .int .i64 ((st i : Nat) : Int))
  own : B ≤ gs
  ne : gs ≠ fb ∧ gs ≠ sb ∧ gs ≠ cb ∧ gs ≠ gm

section
variable {B : Nat} {L : List (List Int)} {mt : Nat → Int} {ad aS ao : Option Addr} {cd cs co gm gs fb sb cb : Nat} {st : Nat → Nat} {W W' : World}
theorem CirIn.kept (h : CirIn B L mt ad aS ao cd cs co gm gs fb sb cb st W) (hK : KeepBut W W' gs gs) {st' : Nat → Nat} (hs : W'.rowIs gs 3 L.length (fun i => .int .i64 ((st' i : Nat) : Int))) : CirIn B L mt ad aS ao cd cs co gm gs fb sb cb st' W' :=
  ⟨fun j u hu => (hK.cell (p := ⟨fb, j, none⟩) (cell_lt (h.fc j u hu)) h.ne.1.symm h.ne.1.symm).trans (h.fc j u hu), (hK.cell (p := ⟨sb, 0, none⟩) (cell_lt h.s0) h.ne.2.1.symm h.ne.2.1.symm).trans h.s0, (hK.cell (p := ⟨cb, 0, none⟩) (cell_lt h.c0) h.ne.2.2.1.symm h.ne.2.2.1.symm).trans h.c0,
    h.sides.keep hK.size fun b hb hS => hK.block b hb (fun e => by have hS : b < B := hS; have := h.own; omega) (fun e => by have hS : b < B := hS; have := h.own; omega),
    h.mates.of_block (hK.block gm h.mates.lt h.ne.2.2.2.symm h.ne.2.2.2.symm), hs, h.own, h.ne⟩
theorem CirIn.below (h : CirIn B L mt ad aS ao cd cs co gm gs fb sb cb st W) (hB : Below W.heap.size W W') : CirIn B L mt ad aS ao cd cs co gm gs fb sb cb st W' := h.kept ((KeepBut.refl W gs gs).below hB) (h.state.of_block (hB.block gs h.state.lt))
theorem CirIn.set (h : CirIn B L mt ad aS ao cd cs co gm gs fb sb cb st W) (f v : Nat) : CirIn B L mt ad aS ao cd cs co gm gs fb sb cb (putN st f v) (W.setCell ⟨gs, f, none⟩ (.int .i64 (v : Int))) ∧ KeepBut W (W.setCell ⟨gs, f, none⟩ (.int .i64 (v : Int))) gs gs := by
  have hk : KeepBut W (W.setCell ⟨gs, f, none⟩ (.int .i64 (v : Int))) gs gs := (KeepBut.refl W gs gs).on (grown_one W ⟨gs, f, none⟩ _) (fun b e => by cases e; exact .inl rfl)
  exact ⟨h.kept hk ((h.state.set f (.int .i64 (v : Int))).congr fun j _ => by unfold putN; split <;> rfl), hk⟩
end

/-- What a call answers and leaves. -/
def ClosesSays (B : Nat) (L : List (List Int)) (mt : Nat → Int) (ad aS ao : Option Addr) (cd cs co gm gs fb sb cb : Nat) (st : Nat → Nat) (f : Nat) (w : World) (e : Ending) (w' : World) : Prop :=
  KeepBut w w' gs gs ∧ ((e = .returned (.bool true) ∧ ∃ c, Relation.TransGen (leadL L mt) c c) ∨
    (e = .returned (.bool false) ∧ ∃ st' N, CirIn B L mt ad aS ao cd cs co gm gs fb sb cb st' w' ∧ Later st st' ∧ DoneDown (leadL L mt) (actL mt) st' N ∧ (∀ g, st' g ≤ 2) ∧ (actL mt f → st' f = 2)))

set_option maxRecDepth 100000 in
set_option maxHeartbeats 8000000 in
theorem closes_ {B : Nat} {L : List (List Int)} {mt : Nat → Int} {ad aS ao : Option Addr} {cd cs co gm gs fb sb cb : Nat} (hL6 : L.length ≤ 600) (hmt : ∀ f, f < L.length → (f : Int) < mt f → mt f < (L.length : Int)) :
    ∀ (m : Nat) (st : Nat → Nat) (N f : Nat) (w : World), CirIn B L mt ad aS ao cd cs co gm gs fb sb cb st w → f < L.length → freshN st L.length ≤ m → DoneDown (leadL L mt) (actL mt) st N → (∀ g, st g ≤ 2) → (∀ g, st g = 1 → Relation.TransGen (leadL L mt) g f) →
      Calls Tryz.prog 97 #[.int .i64 (f : Int), .pointer (some ⟨fb, 0, none⟩), .pointer (some ⟨sb, 0, none⟩), .pointer (some ⟨cb, 0, none⟩)] w fun e w' => ClosesSays B L mt ad aS ao cd cs co gm gs fb sb cb st f w e w' := by
  intro m
  induction m using Nat.strongRecOn with
  | ind m ih =>
  intro st N f w h hf hfr hD h2 hW
  have HIH : Hid (∀ y, y < m → ∀ (st : Nat → Nat) (N f : Nat) (w : World), CirIn B L mt ad aS ao cd cs co gm gs fb sb cb st w → f < L.length → freshN st L.length ≤ y → DoneDown (leadL L mt) (actL mt) st N → (∀ g, st g ≤ 2) → (∀ g, st g = 1 → Relation.TransGen (leadL L mt) g f) →
      Calls Tryz.prog 97 #[.int .i64 (f : Int), .pointer (some ⟨fb, 0, none⟩), .pointer (some ⟨sb, 0, none⟩), .pointer (some ⟨cb, 0, none⟩)] w fun e w' => ClosesSays B L mt ad aS ao cd cs co gm gs fb sb cb st f w e w') := ih
  have HH : Hid (CirIn B L mt ad aS ao cd cs co gm gs fb sb cb st w ∧ freshN st L.length ≤ m ∧ DoneDown (leadL L mt) (actL mt) st N ∧ (∀ g, st g ≤ 2) ∧ (∀ g, st g = 1 → Relation.TransGen (leadL L mt) g f)) := ⟨h, hfr, hD, h2, hW⟩
  have HMT : Hid (∀ f, f < L.length → (f : Int) < mt f → mt f < (L.length : Int)) := hmt
  obtain ⟨n, hn⟩ : ∃ n, L.length = n := ⟨_, rfl⟩
  have HNN : Hid (L.length = n) := hn
  have c0 := h.fc 0 _ rfl
  have c1 := h.fc 1 _ rfl
  have c2 := h.fc 2 _ rfl
  have c3 := h.fc 3 _ rfl
  have s0 := h.s0
  have k0 := h.c0
  have hup := up_ f L.length mt gm ad aS ao cd cs co w h.mates hf hL6
  have hst := h.state.cell (i := f) hf
  unfold fieldV at hup
  obtain ⟨x, hx⟩ : ∃ x : Int, mt f = x := ⟨_, rfl⟩
  obtain ⟨sv, hsv⟩ : ∃ sv : Nat, st f = sv := ⟨_, rfl⟩
  have HXS : Hid (mt f = x ∧ st f = sv) := ⟨hx, hsv⟩
  rw [hn] at c0 c1 c2 c3 s0 hup hL6 hf
  rw [hx] at hup
  rw [hsv] at hst
  have hsvl : sv ≤ 2 := by rw [← hsv]; exact h2 f
  have hlw : fb < w.heap.size ∧ sb < w.heap.size ∧ cb < w.heap.size ∧ gs < w.heap.size := ⟨cell_lt c0, cell_lt s0, cell_lt k0, h.state.lt⟩
  clear ih h hfr hD h2 hW hmt hn hx hsv
  go_enter Tryz.func97, Tryz.ntmps97
  go_wp2_with fail
  refine hup.mono ?_
  clear hup
  rintro e V ⟨rfl, hV⟩
  have HV : Hid (Below w.heap.size w V) := hV
  have HCV : Hid (CirIn B L mt ad aS ao cd cs co gm gs fb sb cb st V) := HH.out.1.below hV
  have d1 := (hV.cell (p := ⟨fb, 1, none⟩) hlw.1).trans c1
  have d0 := (hV.cell (p := ⟨sb, 0, none⟩) hlw.2.1).trans s0
  have dk := (hV.cell (p := ⟨cb, 0, none⟩) hlw.2.2.1).trans k0
  have dst := (hV.cell (p := ⟨gs, f, none⟩) hlw.2.2.2).trans hst
  have dsf := HCV.out.state.frozen f
  have hVs := hV.size
  clear hV c0 c1 c2 c3 s0 k0 hst
  by_cases hfx : (f : Int) < x
  · rw [decide_eq_true hfx]
    obtain ⟨b, rfl⟩ : ∃ b : Nat, x = (b : Int) := ⟨x.toNat, by omega⟩
    have hbn : b < n := by have := HMT.out f (by rw [HNN.out]; exact hf) (by rw [HXS.out.1]; exact hfx); rw [HXS.out.1, HNN.out] at this; omega
    have hc : sv = 2 ∨ sv = 1 ∨ sv = 0 := by omega
    rcases hc with rfl | rfl | rfl
    · go_wp2_with fail
      go_ret
      exact ⟨(KeepBut.refl w gs gs).below HV.out, .inr ⟨rfl, st, N, HCV.out, Later.refl st, HH.out.2.2.1, HH.out.2.2.2.1, fun _ => HXS.out.2⟩⟩
    · go_wp2_with fail
      go_ret
      exact ⟨(KeepBut.refl w gs gs).below HV.out, .inl ⟨rfl, f, HH.out.2.2.2.2 f HXS.out.2⟩⟩
    · have hset := HCV.out.set f 1
      rw [Int.natCast_one] at hset
      have HST : Hid (∀ st', Later (putN st f 1) st' → ∀ g, st' g = 1 → Relation.TransGen (leadL L mt) g f ∨ g = f) := fun st' hl g hg => by
        have h1 := (hl.way g).1 hg
        by_cases e : g = f
        · exact .inr e
        · simp only [putN, e, if_false] at h1; exact .inl (HH.out.2.2.2.2 g h1)
      obtain ⟨vs, ⟨a', c', ea, -, hax⟩, hvl, hvs⟩ := HCV.out.sides
      rw [hvl, HNN.out] at ea hax
      cases ea
      obtain ⟨bs, os, rfl, hbB, hcx⟩ := hax (by omega)
      obtain ⟨u, hu⟩ : ∃ u, vs[b]? = some u := ⟨_, List.getElem?_eq_getElem (by rw [hvl, HNN.out]; exact hbn)⟩
      have su := hcx b u hu
      obtain ⟨a1, p1, rfl, hd1⟩ := hvs b u hu
      obtain ⟨k, hk⟩ : ∃ k, (sidesI L b).length = k := ⟨_, rfl⟩
      have hkL : (sidD L allD b).length = k := by rw [← hk]; simp [sidesI]
      have HKL : Hid ((sidD L allD b).length = k) := hkL
      rw [hk] at su
      have hk6 : k ≤ 600 := by rw [← hkL]; refine Nat.le_trans (List.length_filter_le _ _) ?_; rw [List.length_range, HNN.out]; exact hL6
      have hbsB : bs < B := hbB
      have hown := HCV.out.own
      have hne := HCV.out.ne
      have HD1 : Hid (0 < k → ∃ g o, a1 = some ⟨g, o, none⟩ ∧ g < B ∧ g < V.heap.size ∧ ∀ k (hk : k < (sidesI L b).length), V.cell? ⟨g, o + k * 2, none⟩ = some (.int .i64 (sidesI L b)[k].1) ∧ V.cell? ⟨g, o + (k * 2 + 1), none⟩ = some (.int .i64 (sidesI L b)[k].2)) := fun h0 => hd1 (by rw [hk]; exact h0)
      have c1' : (V.setCell ⟨gs, f, none⟩ (.int .i64 1)).cell? ⟨fb, 1, none⟩ = some (.slice (some ⟨bs, os, none⟩) n cs) := (World.cell?_setCell_other V _ _ _ (addr_ne (.inl (by omega)))).trans d1
      have su' : (V.setCell ⟨gs, f, none⟩ (.int .i64 1)).cell? ⟨bs, os + b, none⟩ = some (.slice a1 k p1) := (World.cell?_setCell_other V _ _ _ (addr_ne (.inl (by omega)))).trans su
      have z0 : (0 : Int) ≤ (b : Int) := by omega
      have z1 : (b : Int) < (n : Int) := by omega
      have HS1 : Hid (CirIn B L mt ad (some ⟨bs, os, none⟩) ao cd cs co gm gs fb sb cb (putN st f 1) (V.setCell ⟨gs, f, none⟩ (.int .i64 1)) ∧ KeepBut V (V.setCell ⟨gs, f, none⟩ (.int .i64 1)) gs gs ∧ DoneDown (leadL L mt) (actL mt) (putN st f 1) N ∧ (∀ g, putN st f 1 g ≤ 2)) :=
        ⟨hset.1, hset.2, done_way HH.out.2.2.1 HXS.out.2, fun g => by unfold putN; split; exact Nat.le_succ 1; exact HH.out.2.2.2.1 g⟩
      have HFR : Hid (freshN (putN st f 1) L.length < m) := by
        have h1 := fresh_put (st := st) (f := f) (n := L.length) (by rw [HNN.out]; exact hf) HXS.out.2
        have h2 := HH.out.2.1
        show freshN (putN st f 1) L.length < m
        omega
      clear hax hvs hcx hd1 hkL hk hu hvl hset d1 su
      go_wp2_with fail
      obtain ⟨V1, hV1⟩ : ∃ V1, V.setCell ⟨gs, f, none⟩ (.int .i64 1) = V1 := ⟨_, rfl⟩
      rw [hV1] at HS1 c1' su'
      try rw [hV1]
      clear hV1 dst
      go_loopw [40] (fun p W => ∃ j : Nat, j ≤ k ∧ p = .int .i64 j ∧ ∃ st' N', Hid (CirIn B L mt ad (some ⟨bs, os, none⟩) ao cd cs co gm gs fb sb cb st' W ∧ KeepBut V W gs gs ∧ Later (putN st f 1) st' ∧ DoneDown (leadL L mt) (actL mt) st' N' ∧ (∀ g, st' g ≤ 2) ∧ ∀ q x, q < j → (sidD L allD b)[q]? = some x → x ≠ f → actL mt x → st' x = 2)) (fun p _ => k - (intOf p).toNat)
      case atStart => exact ⟨0, by omega, rfl, putN st f 1, N, HS1.out.1, HS1.out.2.1, Later.refl _, HS1.out.2.2.1, HS1.out.2.2.2, fun q x hq => by omega⟩
      case round =>
        obtain ⟨j, hj, rfl, st', N', HJ⟩ := hrel
        by_cases hjk : j < k
        · obtain ⟨g, o, rfl, hgB, hgX, hcell⟩ := HD1.out (by omega)
          obtain ⟨x, hx⟩ : ∃ x, (sidD L allD b)[j]? = some x := ⟨_, List.getElem?_eq_getElem (by rw [HKL.out]; exact hjk)⟩
          have hsl : j < (sidesI L b).length := by simp only [sidesI, List.length_map]; rw [HKL.out]; exact hjk
          have hs := hcell j hsl
          have hse : (sidesI L b)[j] = sideP L b x := by
            have : (sidesI L b)[j]? = some (sideP L b x) := by unfold sidesI; rw [List.getElem?_map, hx]; rfl
            rw [List.getElem?_eq_getElem hsl] at this; exact Option.some.inj this
          rw [hse] at hs
          obtain ⟨sg1, hsg⟩ : ∃ sg1, (sideP L b x).2 = sg1 := ⟨_, rfl⟩
          rw [show (sideP L b x).1 = (x : Int) from rfl, hsg] at hs
          have hxm := List.mem_iff_getElem?.2 ⟨j, hx⟩
          have hxn : x < n := by
            have := (List.mem_filter.1 hxm).1
            rw [List.mem_range, HNN.out] at this; exact this
          have s0 := (HJ.out.2.1.cell (p := ⟨g, o + j * 2, none⟩) hgX (by simp only; omega) (by simp only; omega)).trans hs.1
          have s1 : wr.cell? ⟨g, o + j * 2 + 1, none⟩ = some (.int .i64 sg1) := (HJ.out.2.1.cell (p := ⟨g, o + (j * 2 + 1), none⟩) hgX (by simp only; omega) (by simp only; omega)).trans hs.2
          have HXM : Hid (x ∈ sidD L allD b ∧ (sidD L allD b)[j]? = some x) := ⟨hxm, hx⟩
          have h2 := two_box wr (.int .i64 (x : Int)) (.int .i64 sg1) 124
          have h2a := h2.1
          have hkl : cb < wr.heap.size := cell_lt HJ.out.1.c0
          have dk2 : ∀ o, (wr.alloc o).cell? ⟨cb, 0, none⟩ = some (.func (.func 97) #[] #[.pointer (some ⟨fb, 0, none⟩), .pointer (some ⟨sb, 0, none⟩), .pointer (some ⟨cb, 0, none⟩)]) := fun o => (World.cell?_alloc_lt wr o ⟨cb, 0, none⟩ hkl).trans HJ.out.1.c0
          have z2 : (j : Int) < (k : Int) := by omega
          clear hcell hs hse hsg h2 hx hxm dk d0
          by_cases hxf : x = f
          · subst hxf
            go_wp2_with fail
            go_roundw
            case rel =>
              refine ⟨j + 1, by omega, by go_num, st', N', HJ.out.1.below ((Below.refl _ wr).alloc (Nat.le_refl _) _), HJ.out.2.1.below ((Below.refl _ wr).alloc (Nat.le_refl _) _), HJ.out.2.2.1, HJ.out.2.2.2.1, HJ.out.2.2.2.2.1, fun q y hq hy hne2 ha => ?_⟩
              rcases Nat.lt_or_ge q j with h | h
              · exact HJ.out.2.2.2.2.2 q y h hy hne2 ha
              · obtain rfl : q = j := by omega
                rw [HXM.out.2] at hy; exact absurd (Option.some.inj hy).symm hne2
            case measure => simp [intOf]; omega
          · have hxf' : ((x : Int) != (f : Int)) = true := bne_iff_ne.2 (by omega)
            have hled : leadL L mt f x := ⟨b, by unfold upW; rw [HXS.out.1, if_pos (by omega)]; simp, by rw [← sid_downs]; exact HXM.out.1, hxf⟩
            have hcall := fun o => HIH.out _ HFR.out st' N' x (wr.alloc o) (HJ.out.1.below ((Below.refl _ wr).alloc (Nat.le_refl _) o)) (by rw [HNN.out]; exact hxn) (HJ.out.2.2.1.freshN _) HJ.out.2.2.2.1 HJ.out.2.2.2.2.1 (fun g hg => by
              rcases HST.out st' HJ.out.2.2.1 g hg with h | rfl
              · exact .tail h hled
              · exact .single hled)
            have HLED : Hid (leadL L mt f x ∧ x ≠ f) := ⟨hled, hxf⟩
            clear hled hxf
            go_wp2_with (go_at_call 97; refine (hcall _).mono ?_; clear hcall; rintro e W2 ⟨hK2, ⟨rfl, hcyc⟩ | ⟨rfl, st2, N2, hC2, hL2, hD2, hb2, ha2⟩⟩)
            · go_ret
              exact ⟨((KeepBut.refl w gs gs).below HV.out).trans (HJ.out.2.1.trans (((KeepBut.refl wr gs gs).below ((Below.refl _ wr).alloc (Nat.le_refl _) _)).trans hK2)), .inl ⟨rfl, hcyc⟩⟩
            · refine ⟨⟨j + 1, by omega, by go_num, st2, N2, hC2, HJ.out.2.1.trans (((KeepBut.refl wr gs gs).below ((Below.refl _ wr).alloc (Nat.le_refl _) _)).trans hK2), HJ.out.2.2.1.trans hL2, hD2, hb2, fun q y hq hy hne2 ha => ?_⟩, by simp [intOf]; omega⟩
              rcases Nat.lt_or_ge q j with h | h
              · exact hL2.done y (HJ.out.2.2.2.2.2 q y h hy hne2 ha)
              · obtain rfl : q = j := by omega
                rw [HXM.out.2] at hy
                obtain rfl : x = y := Option.some.inj hy
                exact ha2 ha
        · obtain rfl : j = k := by omega
          have e0 := HJ.out.1.s0
          rw [HNN.out] at e0
          have e1 := HJ.out.1.state.cell (i := f) (by rw [HNN.out]; exact hf)
          have e2 := HJ.out.1.state.frozen f
          have hfin := HJ.out.1.set f 2
          rw [show ((2 : Nat) : Int) = 2 from rfl] at hfin
          have HF : Hid (CirIn B L mt ad (some ⟨bs, os, none⟩) ao cd cs co gm gs fb sb cb (putN st' f 2) (wr.setCell ⟨gs, f, none⟩ (.int .i64 2)) ∧ KeepBut wr (wr.setCell ⟨gs, f, none⟩ (.int .i64 2)) gs gs) := hfin
          clear hfin d0 dk
          go_wp2_with fail
          go_ret
          refine ⟨((KeepBut.refl w gs gs).below HV.out).trans (HJ.out.2.1.trans HF.out.2), .inr ⟨rfl, putN st' f 2, N' + 1, HF.out.1, later_done HXS.out.2 HJ.out.2.2.1, done_put HJ.out.2.2.2.1 ((HJ.out.2.2.1.way f).2 (by simp [putN])) fun x hx ha => ?_, fun g => ?_, fun _ => by simp [putN]⟩⟩
          · obtain ⟨b', hb', hx1, hx2⟩ := hx
            unfold upW at hb'
            rw [HXS.out.1, if_pos hfx] at hb'
            obtain rfl : b = b' := by simpa using hb'
            rw [← sid_downs] at hx1
            obtain ⟨q, hq⟩ := List.mem_iff_getElem?.1 hx1
            exact HJ.out.2.2.2.2.2 q x (by rw [← HKL.out]; exact (List.getElem?_eq_some_iff.1 hq).1) hq hx2 ha
          · unfold putN
            split
            · exact Nat.le_refl 2
            · exact HJ.out.2.2.2.2.1 g
  · rw [decide_eq_false hfx]
    go_wp2_with fail
    go_ret
    exact ⟨(KeepBut.refl w gs gs).below HV.out, .inr ⟨rfl, st, N, HCV.out, Later.refl st, HH.out.2.2.1, HH.out.2.2.2.1, fun h => by unfold actL at h; rw [HXS.out.1] at h; omega⟩⟩

end Go.Proofs.YtnnkmkhamipfiaaGreatDoor
