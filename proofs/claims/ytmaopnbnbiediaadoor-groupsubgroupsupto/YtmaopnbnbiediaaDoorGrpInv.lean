/- Ranges of what stands in the rows; how often pairs are made the same. No Go here. What holds of opened cosets at all times. No Go here. -/
import Derived.Test.YtmaopnbnbiediaaDoorGrpTake
namespace Go.Proofs.YtmaopnbnbiediaaDoor

/-- Each place of the rows leads nowhere, or to a coset. -/
def Rng (R : List (List Int)) : Prop := ∀ c x, ent R c x = -1 ∨ (0 ≤ ent R c x ∧ ent R c x < (R.length : Int))
def PairsIn (N : Nat) (ps : List (Int × Int)) : Prop := ∀ p ∈ ps, (0 ≤ p.1 ∧ p.1 < (N : Int)) ∧ (0 ≤ p.2 ∧ p.2 < (N : Int))

theorem takeP_pairs {a b k : Nat} {R : List (List Int)} : ∀ p ∈ (takeP a b k R).2, ∃ x, x < k ∧ p = (ent R a x, ent R b x) ∧ ent R a x ≠ -1 ∧ ent R b x ≠ -1 := by
  induction k with
  | zero => intro p hp; cases hp
  | succ k ih =>
    intro p hp
    by_cases e1 : ent R b k = -1
    · rw [takeP_skip e1] at hp
      obtain ⟨x, h1, h2⟩ := ih p hp
      exact ⟨x, by omega, h2⟩
    · by_cases e2 : ent R a k = -1
      · rw [takeP_put e1 e2] at hp
        obtain ⟨x, h1, h2⟩ := ih p hp
        exact ⟨x, by omega, h2⟩
      · rw [takeP_pair e1 e2] at hp
        rcases List.mem_append.1 hp with hp | hp
        · obtain ⟨x, h1, h2⟩ := ih p hp
          exact ⟨x, by omega, h2⟩
        · exact ⟨k, by omega, List.mem_singleton.1 hp, e2, e1⟩
/-- Each pair that both lead to is told. -/
theorem takeP_told {a b k : Nat} {R : List (List Int)} {x : Nat} (hx : x < k) (h1 : ent R a x ≠ -1) (h2 : ent R b x ≠ -1) : (ent R a x, ent R b x) ∈ (takeP a b k R).2 := by
  induction k with
  | zero => omega
  | succ k ih =>
    by_cases e1 : ent R b k = -1
    · rw [takeP_skip e1]
      exact ih (Nat.lt_of_le_of_ne (by omega) fun e => h2 (by rw [e]; exact e1))
    · by_cases e2 : ent R a k = -1
      · rw [takeP_put e1 e2]
        exact ih (Nat.lt_of_le_of_ne (by omega) fun e => h1 (by rw [e]; exact e2))
      · rw [takeP_pair e1 e2]
        refine List.mem_append.2 ?_
        rcases Nat.lt_or_ge x k with h | h
        · exact .inl (ih h)
        · obtain rfl : x = k := by omega
          exact .inr (List.mem_singleton.2 rfl)
theorem Rng.take {n : Nat} {R : List (List Int)} (hw : Wide n R) (h : Rng R) {a b : Nat} (ha : a < R.length) : Rng (takeP a b (2 * n) R).1 := by
  intro c x
  rw [takeP_len, takeP_ent hw ha _ (Nat.le_refl _)]
  split
  · exact h b x
  · exact h c x
theorem Rng.pairs {R : List (List Int)} (h : Rng R) {a b k : Nat} : PairsIn R.length (takeP a b k R).2 := by
  intro p hp
  obtain ⟨x, _, rfl, h1, h2⟩ := takeP_pairs p hp
  exact ⟨(h a x).resolve_left h1, (h b x).resolve_left h2⟩

theorem countLe {α : Type} {p q : α → Bool} : ∀ {l : List α}, (∀ a ∈ l, p a = true → q a = true) → l.countP p ≤ l.countP q
  | [], _ => Nat.le_refl _
  | a :: l, h => by
    have ih := countLe (l := l) fun b hb => h b (List.mem_cons_of_mem _ hb)
    have ha := h a (List.mem_cons_self ..)
    rw [List.countP_cons, List.countP_cons]
    by_cases hp : p a = true
    · rw [if_pos hp, if_pos (ha hp)]; omega
    · rw [if_neg hp]; omega
theorem countLt {α : Type} {p q : α → Bool} : ∀ {l : List α}, (∀ a ∈ l, p a = true → q a = true) → (∃ b ∈ l, q b = true ∧ p b = false) → l.countP p < l.countP q
  | [], _, ⟨b, hb, _⟩ => by cases hb
  | a :: l, h, ⟨b, hb, hq, hp⟩ => by
    rw [List.countP_cons, List.countP_cons]
    have hl : ∀ b ∈ l, p b = true → q b = true := fun b hb => h b (List.mem_cons_of_mem _ hb)
    rcases List.mem_cons.1 hb with rfl | hb
    · rw [if_neg (by simp [hp]), if_pos hq]
      have := countLe hl
      omega
    · have := countLt hl ⟨b, hb, hq, hp⟩
      have ha := h a (List.mem_cons_self ..)
      by_cases hpa : p a = true
      · rw [if_pos hpa, if_pos (ha hpa)]; omega
      · rw [if_neg hpa]; omega

/-- A coset less stands for itself. -/
theorem roots_lt {N : Nat} {cls : Nat → Nat} (hc : Cls cls) {p : Nat × Nat} (h1 : p.1 < N) (h2 : p.2 < N) (hne : cls p.1 ≠ cls p.2) : rootsN N (joinC cls p) < rootsN N cls := by
  have l1 := hc.le p.1
  have l2 := hc.le p.2
  have i1 := hc.idem p.1
  have i2 := hc.idem p.2
  have hM : cls (max (cls p.1) (cls p.2)) = max (cls p.1) (cls p.2) := by rcases Nat.le_total (cls p.1) (cls p.2) with hl | hl <;> simp [Nat.max_eq_left, Nat.max_eq_right, hl, i1, i2]
  refine countLt (fun i _ hi => ?_) ⟨max (cls p.1) (cls p.2), List.mem_range.2 (by omega), by rw [beq_iff_eq]; exact hM, ?_⟩
  · rw [beq_iff_eq] at hi ⊢
    unfold joinC at hi
    split at hi
    · have := hc.le i
      omega
    · exact hi
  · refine beq_false_of_ne ?_
    rw [joinC_max _ hM]
    omega
theorem roots_le (N : Nat) (cls : Nat → Nat) : rootsN N cls ≤ N := by
  unfold rootsN
  have := List.countP_le_length (p := fun i => cls i == i) (l := List.range N)
  rwa [List.length_range] at this

theorem uniteF_nil (n m : Nat) (s : Cos) : uniteF n m s [] = s := by cases m <;> rfl
theorem uniteF_skip {n m : Nat} {s : Cos} {ps : List (Int × Int)} {p : Int × Int} (h : s.cls p.1.toNat = s.cls p.2.toNat) : uniteF n (m + 1) s (ps ++ [p]) = uniteF n m s ps := by
  rw [uniteF]
  simp only [List.getLast?_append, List.getLast?_singleton, Option.some_or, List.dropLast_concat]
  rw [if_pos h]
theorem uniteF_take {n m : Nat} {s : Cos} {ps : List (Int × Int)} {p : Int × Int} (h : s.cls p.1.toNat ≠ s.cls p.2.toNat) : uniteF n (m + 1) s (ps ++ [p]) =
    uniteF n m ⟨(takeP (min (s.cls p.1.toNat) (s.cls p.2.toNat)) (max (s.cls p.1.toNat) (s.cls p.2.toNat)) (2 * n) s.R).1, joinC s.cls (p.1.toNat, p.2.toNat)⟩ (ps ++ (takeP (min (s.cls p.1.toNat) (s.cls p.2.toNat)) (max (s.cls p.1.toNat) (s.cls p.2.toNat)) (2 * n) s.R).2) := by
  rw [uniteF]
  simp only [List.getLast?_append, List.getLast?_singleton, Option.some_or, List.dropLast_concat]
  rw [if_neg h]

end Go.Proofs.YtmaopnbnbiediaaDoor

namespace Go.Proofs.YtmaopnbnbiediaaDoor

structure CInv (n : Nat) (s : Cos) : Prop where
  wide : Wide n s.R
  rng : Rng s.R
  cls : Cls s.cls
  far : ∀ i, s.R.length ≤ i → s.cls i = i
  pos : 0 < s.R.length
  few : s.R.length ≤ 5000

theorem CInv.cls_lt {n : Nat} {s : Cos} (h : CInv n s) {i : Nat} (hi : i < s.R.length) : s.cls i < s.R.length := Nat.lt_of_le_of_lt (h.cls.le i) hi

/-- What stands in the rows when a coset is opened. -/
theorem ent_open {n : Nat} {s : Cos} (h : CInv n s) {a x : Nat} (ha : a < s.R.length) (hx : x < 2 * n) (c y : Nat) :
    ent (putE (putE (s.R ++ [newRow n]) a x (s.R.length : Int)) s.R.length (backN x) (a : Int)) c y = if c = s.R.length ∧ y = backN x then (a : Int) else if c = a ∧ y = x then (s.R.length : Int) else if c < s.R.length then ent s.R c y else -1 := by
  have hw := wide_app h.wide
  have hl : (s.R ++ [newRow n]).length = s.R.length + 1 := by simp
  rw [ent_put (putE_wide hw _ _ _) (by rw [putE_len, hl]; omega) (back_lt hx), ent_put hw (by rw [hl]; omega) hx, ent_app]
  split
  · rfl
  · split
    · rfl
    · split
      · rfl
      · split
        · exact ent_new n y
        · rfl
theorem open_len (n : Nat) (s : Cos) (a x : Nat) (u v : Int) : (putE (putE (s.R ++ [newRow n]) a x u) s.R.length (backN x) v).length = s.R.length + 1 := by rw [putE_len, putE_len]; simp

theorem stepP_old {n : Nat} {s : Cos} {c x : Nat} (h : ent s.R (s.cls c) x ≠ -1) : stepP n s c x = some ((ent s.R (s.cls c) x).toNat, s) := by unfold stepP; rw [if_pos h]
theorem stepP_cases {n : Nat} {s s' : Cos} {c x t : Nat} (h : stepP n s c x = some (t, s')) : (s' = s ∧ ent s.R (s.cls c) x ≠ -1 ∧ t = (ent s.R (s.cls c) x).toNat) ∨
    (ent s.R (s.cls c) x = -1 ∧ t = s.R.length ∧ s.R.length ≠ 5000 ∧ s' = ⟨putE (putE (s.R ++ [newRow n]) (s.cls c) x s.R.length) s.R.length (backN x) (s.cls c), s.cls⟩) := by
  unfold stepP at h
  by_cases e : ent s.R (s.cls c) x ≠ -1
  · rw [if_pos e] at h
    cases h
    exact .inl ⟨rfl, e, rfl⟩
  · rw [if_neg e] at h
    by_cases e2 : s.R.length = 5000
    · rw [if_pos e2] at h; cases h
    · rw [if_neg e2] at h
      cases h
      exact .inr ⟨Classical.not_not.1 e, rfl, e2, rfl⟩
theorem CInv.step {n : Nat} {s s' : Cos} {c x t : Nat} (h : CInv n s) (hc : c < s.R.length) (hx : x < 2 * n) (e : stepP n s c x = some (t, s')) : CInv n s' ∧ t < s'.R.length ∧ s.R.length ≤ s'.R.length := by
  rcases stepP_cases e with ⟨rfl, h1, rfl⟩ | ⟨h1, rfl, h5, rfl⟩
  · have := (h.rng (s'.cls c) x).resolve_left h1
    exact ⟨h, by omega, Nat.le_refl _⟩
  · have ha := h.cls_lt hc
    have hl : (Cos.R ⟨putE (putE (s.R ++ [newRow n]) (s.cls c) x s.R.length) s.R.length (backN x) (s.cls c), s.cls⟩).length = s.R.length + 1 := open_len n s _ _ _ _
    refine ⟨⟨putE_wide (putE_wide (wide_app h.wide) _ _ _) _ _ _, ?_, h.cls, fun i hi => h.far i (by rw [hl] at hi; omega), by rw [hl]; omega, by rw [hl]; have := h.few; omega⟩, by rw [hl]; omega, by rw [hl]; omega⟩
    intro d y
    rw [hl]
    show ent (putE (putE (s.R ++ [newRow n]) (s.cls c) x s.R.length) s.R.length (backN x) (s.cls c)) d y = -1 ∨ _ ∧ _
    rw [ent_open h ha hx]
    split
    · right; omega
    · split
      · right; omega
      · split
        · rcases h.rng d y with h2 | h2
          · exact .inl h2
          · right; omega
        · exact .inl rfl

/-- Pairs are made the same: what is kept. -/
theorem CInv.uniteF {n : Nat} : ∀ (m : Nat) {s : Cos} {ps : List (Int × Int)}, CInv n s → PairsIn s.R.length ps → CInv n (uniteF n m s ps) ∧ (uniteF n m s ps).R.length = s.R.length
  | 0, s, ps, h, _ => ⟨h, rfl⟩
  | m + 1, s, ps, h, hp => by
    rcases List.eq_nil_or_concat ps with e | ⟨qs, p, e⟩
    · subst e
      rw [uniteF_nil]
      exact ⟨h, rfl⟩
    · rw [List.concat_eq_append] at e
      subst e
      have hq : PairsIn s.R.length qs := fun p hp' => hp p (List.mem_append.2 (.inl hp'))
      have hpp := hp p (List.mem_append.2 (.inr (List.mem_singleton.2 rfl)))
      by_cases e : s.cls p.1.toNat = s.cls p.2.toNat
      · rw [uniteF_skip e]
        exact CInv.uniteF m h hq
      · rw [uniteF_take e]
        have h1 : p.1.toNat < s.R.length := by omega
        have h2 : p.2.toNat < s.R.length := by omega
        have l1 := h.cls_lt h1
        have l2 := h.cls_lt h2
        have hlen := takeP_len (min (s.cls p.1.toNat) (s.cls p.2.toNat)) (max (s.cls p.1.toNat) (s.cls p.2.toNat)) (2 * n) s.R
        have hi : CInv n ⟨(takeP (min (s.cls p.1.toNat) (s.cls p.2.toNat)) (max (s.cls p.1.toNat) (s.cls p.2.toNat)) (2 * n) s.R).1, joinC s.cls (p.1.toNat, p.2.toNat)⟩ := by
          refine ⟨takeP_wide h.wide _ _ _, h.rng.take h.wide (by omega), h.cls.join _, fun i hi => ?_, by rw [show (Cos.R ⟨(takeP (min (s.cls p.1.toNat) (s.cls p.2.toNat)) (max (s.cls p.1.toNat) (s.cls p.2.toNat)) (2 * n) s.R).1, joinC s.cls (p.1.toNat, p.2.toNat)⟩) = (takeP (min (s.cls p.1.toNat) (s.cls p.2.toNat)) (max (s.cls p.1.toNat) (s.cls p.2.toNat)) (2 * n) s.R).1 from rfl, hlen]; exact h.pos, by rw [show (Cos.R ⟨(takeP (min (s.cls p.1.toNat) (s.cls p.2.toNat)) (max (s.cls p.1.toNat) (s.cls p.2.toNat)) (2 * n) s.R).1, joinC s.cls (p.1.toNat, p.2.toNat)⟩) = (takeP (min (s.cls p.1.toNat) (s.cls p.2.toNat)) (max (s.cls p.1.toNat) (s.cls p.2.toNat)) (2 * n) s.R).1 from rfl, hlen]; exact h.few⟩
          exact join_far h.cls h.far (p := (p.1.toNat, p.2.toNat)) h1 h2 i (by rw [← hlen]; exact hi)
        have := CInv.uniteF m hi (ps := qs ++ (takeP (min (s.cls p.1.toNat) (s.cls p.2.toNat)) (max (s.cls p.1.toNat) (s.cls p.2.toNat)) (2 * n) s.R).2) (by
          rw [show (Cos.R ⟨(takeP (min (s.cls p.1.toNat) (s.cls p.2.toNat)) (max (s.cls p.1.toNat) (s.cls p.2.toNat)) (2 * n) s.R).1, joinC s.cls (p.1.toNat, p.2.toNat)⟩).length = s.R.length from hlen]
          intro r hr
          rcases List.mem_append.1 hr with hr | hr
          · exact hq r hr
          · exact h.rng.pairs r hr)
        exact ⟨this.1, this.2.trans hlen⟩
theorem CInv.unite {n : Nat} {s : Cos} (h : CInv n s) {a b : Nat} (ha : a < s.R.length) (hb : b < s.R.length) : CInv n (uniteP n s a b) ∧ (uniteP n s a b).R.length = s.R.length :=
  CInv.uniteF _ h (fun p hp => by
    obtain rfl := List.mem_singleton.1 hp
    exact ⟨by omega, by omega⟩)
def LettersIn (n : Nat) (w : List Int) : Prop := ∀ l ∈ w, l ≠ 0 ∧ -(n : Int) ≤ l ∧ l ≤ n
theorem CInv.walk {n : Nat} : ∀ {w : List Int} {s s' : Cos} {c t : Nat}, CInv n s → c < s.R.length → LettersIn n w → walkP n s c w = some (t, s') → CInv n s' ∧ t < s'.R.length ∧ s.R.length ≤ s'.R.length
  | [], s, s', c, t, h, hc, _, e => by cases e; exact ⟨h, hc, Nat.le_refl _⟩
  | l :: w, s, s', c, t, h, hc, hw, e => by
    have hl := hw l (List.mem_cons_self ..)
    unfold walkP at e
    cases e1 : stepP n s c (colN l) with
    | none => rw [e1] at e; cases e
    | some r =>
      obtain ⟨u, s1⟩ := r
      rw [e1] at e
      obtain ⟨h1, h2, h3⟩ := h.step hc (col_lt hl.1 hl.2.1 hl.2.2) e1
      obtain ⟨k1, k2, k3⟩ := CInv.walk h1 h2 (fun l' hl' => hw l' (List.mem_cons_of_mem _ hl')) e
      exact ⟨k1, k2, by omega⟩
theorem CInv.trace {n : Nat} {w : List Int} {s s' : Cos} {c : Nat} (h : CInv n s) (hc : c < s.R.length) (hw : LettersIn n w) (e : traceP n s c w = some s') : CInv n s' ∧ s.R.length ≤ s'.R.length := by
  unfold traceP at e
  cases e1 : walkP n s c w with
  | none => rw [e1] at e; cases e
  | some r =>
    obtain ⟨t, s1⟩ := r
    rw [e1] at e
    cases e
    obtain ⟨h1, h2, h3⟩ := h.walk hc hw e1
    obtain ⟨k1, k2⟩ := h1.unite (a := c) (b := t) (by omega) h2
    exact ⟨k1, by rw [k2]; exact h3⟩
theorem CInv.traceAll {n : Nat} : ∀ {ws : List (List Int)} {s s' : Cos} {c : Nat}, CInv n s → c < s.R.length → (∀ w ∈ ws, LettersIn n w) → traceAllP n s c ws = some s' → CInv n s' ∧ s.R.length ≤ s'.R.length
  | [], s, s', c, h, hc, _, e => by cases e; exact ⟨h, Nat.le_refl _⟩
  | w :: ws, s, s', c, h, hc, hw, e => by
    unfold traceAllP at e
    cases e1 : traceP n s c w with
    | none => rw [e1] at e; cases e
    | some s1 =>
      rw [e1] at e
      obtain ⟨h1, h2⟩ := h.trace hc (hw w (List.mem_cons_self ..)) e1
      obtain ⟨k1, k2⟩ := CInv.traceAll h1 (by omega) (fun w' hw' => hw w' (List.mem_cons_of_mem _ hw')) e
      exact ⟨k1, by omega⟩
theorem CInv.openL {n : Nat} : ∀ {xs : List Nat} {s s' : Cos} {c : Nat}, CInv n s → c < s.R.length → (∀ x ∈ xs, x < 2 * n) → openL n s c xs = some s' → CInv n s' ∧ s.R.length ≤ s'.R.length
  | [], s, s', c, h, hc, _, e => by cases e; exact ⟨h, Nat.le_refl _⟩
  | x :: xs, s, s', c, h, hc, hw, e => by
    unfold Go.Proofs.YtmaopnbnbiediaaDoor.openL at e
    cases e1 : stepP n s c x with
    | none => rw [e1] at e; cases e
    | some r =>
      obtain ⟨t, s1⟩ := r
      rw [e1] at e
      obtain ⟨h1, _, h2⟩ := h.step hc (hw x (List.mem_cons_self ..)) e1
      obtain ⟨k1, k2⟩ := CInv.openL h1 (by omega) (fun w' hw' => hw w' (List.mem_cons_of_mem _ hw')) e
      exact ⟨k1, by omega⟩
theorem CInv.work {n : Nat} {rels : List (List Int)} {s s' : Cos} {k : Nat} (h : CInv n s) (hk : k < s.R.length) (hw : ∀ w ∈ rels, LettersIn n w) (e : workP n rels s k = some s') : CInv n s' ∧ s.R.length ≤ s'.R.length := by
  unfold workP at e
  cases e1 : traceAllP n s k rels with
  | none => rw [e1] at e; cases e
  | some s1 =>
    rw [e1] at e
    obtain ⟨h1, h2⟩ := h.traceAll hk hw e1
    obtain ⟨k1, k2⟩ := h1.openL (by omega) (fun x hx => List.mem_range.1 hx) e
    exact ⟨k1, by omega⟩
theorem beginP_inv (n : Nat) : CInv n (beginP n) := by
  refine ⟨fun r hr => ?_, fun c x => ?_, Cls.id, fun i _ => rfl, Nat.zero_lt_one, by show 1 ≤ 5000; omega⟩
  · rw [List.mem_singleton.1 hr]; simp [newRow]
  · left
    show ent ([] ++ [newRow n]) c x = -1
    rw [ent_app, if_neg (by simp)]
    split
    · exact ent_new n x
    · rfl

end Go.Proofs.YtmaopnbnbiediaaDoor
