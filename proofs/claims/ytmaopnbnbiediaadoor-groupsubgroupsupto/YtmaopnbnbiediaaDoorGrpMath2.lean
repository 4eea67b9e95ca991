/- Words that were traced lead back; at the end nothing leads nowhere. No Go here. -/
import Derived.Test.YtmaopnbnbiediaaDoorGrpMath
namespace Go.Proofs.YtmaopnbnbiediaaDoor

/-- Where a word leads. -/
def goes (s : Cos) : Nat → List Int → Option Nat
  | c, [] => some (s.cls c)
  | c, l :: ls => if ent s.R (s.cls c) (colN l) = -1 then none else goes s (ent s.R (s.cls c) (colN l)).toNat ls
def Closes (s : Cos) (c : Nat) (w : List Int) : Prop := goes s c w = some (s.cls c)
def FullAt (n : Nat) (s : Cos) (c : Nat) : Prop := ∀ x, x < 2 * n → ent s.R (s.cls c) x ≠ -1

theorem goes_cons {s : Cos} {c b : Nat} {l : Int} {ls : List Int} (h : ent s.R (s.cls c) (colN l) = (b : Int)) : goes s c (l :: ls) = goes s b ls := by
  rw [goes, h, if_neg (by omega), Int.toNat_natCast]
theorem goes_congr {s : Cos} {c c' : Nat} (h : s.cls c = s.cls c') (w : List Int) : goes s c w = goes s c' w := by
  cases w with
  | nil => rw [goes, goes, h]
  | cons l ls => rw [goes, goes, h]
theorem goes_mor {n : Nat} {s s' : Cos} (hI : CInv n s) (hM : Mor n s s') : ∀ {w : List Int} {c d : Nat}, LettersIn n w → goes s c w = some d → goes s' c w = some (s'.cls d)
  | [], c, d, _, e => by
    rw [goes] at e
    cases e
    rw [goes]
    exact congrArg some (hM.cls _ _ (hI.cls.idem c).symm)
  | l :: ls, c, d, hl, e => by
    have hlm := hl l (List.mem_cons_self ..)
    by_cases e1 : ent s.R (s.cls c) (colN l) = -1
    · rw [goes, if_pos e1] at e; cases e
    · obtain ⟨b, hb, _⟩ := hI.nat e1
      rw [goes_cons hb] at e
      obtain ⟨b', h1, h2⟩ := hM.go c (colN l) b (col_lt hlm.1 hlm.2.1 hlm.2.2) hb
      rw [goes_cons h1, goes_congr h2]
      exact goes_mor hI hM (fun l' hl' => hl l' (List.mem_cons_of_mem _ hl')) e
theorem Closes.mor {n : Nat} {s s' : Cos} (hI : CInv n s) (hM : Mor n s s') {c : Nat} {w : List Int} (hw : LettersIn n w) (h : Closes s c w) : Closes s' c w := by
  have := goes_mor hI hM hw h
  unfold Closes
  rw [this]
  exact congrArg some (hM.cls _ _ (hI.cls.idem c))
theorem FullAt.mor {n : Nat} {s s' : Cos} (hI : CInv n s) (hM : Mor n s s') {c : Nat} (h : FullAt n s c) : FullAt n s' c := fun x hx => by
  obtain ⟨b, hb, _⟩ := hI.nat (h x hx)
  obtain ⟨b', h1, _⟩ := hM.go c x b hx hb
  rw [h1]; omega

theorem walk_math {n : Nat} : ∀ {w : List Int} {s s' : Cos} {c t : Nat}, CInv n s → Back n s → c < s.R.length → LettersIn n w → walkP n s c w = some (t, s') → Mor n s s' ∧ Back n s' ∧ goes s' c w = some (s'.cls t)
  | [], s, s', c, t, h, hB, hc, _, e => by cases e; exact ⟨Mor.refl _ _, hB, rfl⟩
  | l :: w, s, s', c, t, h, hB, hc, hw, e => by
    have hl := hw l (List.mem_cons_self ..)
    have hx := col_lt (n := n) hl.1 hl.2.1 hl.2.2
    unfold walkP at e
    cases e1 : stepP n s c (colN l) with
    | none => rw [e1] at e; cases e
    | some r =>
      obtain ⟨u, s1⟩ := r
      rw [e1] at e
      obtain ⟨h1, h2, h3⟩ := h.step hc hx e1
      obtain ⟨k1, k2, k3⟩ := step_math h hB hc hx e1
      obtain ⟨m1, m2, m3⟩ := walk_math h1 k2 h2 (fun l' hl' => hw l' (List.mem_cons_of_mem _ hl')) e
      refine ⟨k1.trans m1, m2, ?_⟩
      obtain ⟨u', q1, q2⟩ := m1.go c (colN l) u hx k3
      rw [goes_cons q1, goes_congr q2]
      exact m3
theorem trace_math {n : Nat} {w : List Int} {s s' : Cos} {c : Nat} (h : CInv n s) (hB : Back n s) (hc : c < s.R.length) (hw : LettersIn n w) (e : traceP n s c w = some s') : Mor n s s' ∧ Back n s' ∧ Closes s' c w := by
  unfold traceP at e
  cases e1 : walkP n s c w with
  | none => rw [e1] at e; cases e
  | some r =>
    obtain ⟨t, s1⟩ := r
    rw [e1] at e
    cases e
    obtain ⟨h1, h2, h3⟩ := h.walk hc hw e1
    obtain ⟨k1, k2, k3⟩ := walk_math h hB hc hw e1
    obtain ⟨m1, m2, m3⟩ := unite_math h1 k2 (a := c) (b := t) (by omega) h2
    refine ⟨k1.trans m1, m2, ?_⟩
    have := goes_mor h1 m1 hw k3
    unfold Closes
    rw [this, m3]
    exact congrArg some (m1.cls _ _ (h1.cls.idem t))
theorem traceAll_math {n : Nat} : ∀ {ws : List (List Int)} {s s' : Cos} {c : Nat}, CInv n s → Back n s → c < s.R.length → (∀ w ∈ ws, LettersIn n w) → traceAllP n s c ws = some s' → Mor n s s' ∧ Back n s' ∧ ∀ w ∈ ws, Closes s' c w
  | [], s, s', c, h, hB, hc, _, e => by cases e; exact ⟨Mor.refl _ _, hB, fun w hw => (by cases hw)⟩
  | w :: ws, s, s', c, h, hB, hc, hw, e => by
    unfold traceAllP at e
    cases e1 : traceP n s c w with
    | none => rw [e1] at e; cases e
    | some s1 =>
      rw [e1] at e
      have hw0 := hw w (List.mem_cons_self ..)
      obtain ⟨h1, h2⟩ := h.trace hc hw0 e1
      obtain ⟨k1, k2, k3⟩ := trace_math h hB hc hw0 e1
      obtain ⟨m1, m2, m3⟩ := traceAll_math h1 k2 (by omega) (fun w' hw' => hw w' (List.mem_cons_of_mem _ hw')) e
      refine ⟨k1.trans m1, m2, fun v hv => ?_⟩
      rcases List.mem_cons.1 hv with rfl | hv
      · exact k3.mor h1 m1 hw0
      · exact m3 v hv
theorem openL_math {n : Nat} : ∀ {xs : List Nat} {s s' : Cos} {c : Nat}, CInv n s → Back n s → c < s.R.length → (∀ x ∈ xs, x < 2 * n) → openL n s c xs = some s' → Mor n s s' ∧ Back n s' ∧ ∀ x ∈ xs, ent s'.R (s'.cls c) x ≠ -1
  | [], s, s', c, h, hB, hc, _, e => by cases e; exact ⟨Mor.refl _ _, hB, fun w hw => (by cases hw)⟩
  | x :: xs, s, s', c, h, hB, hc, hw, e => by
    unfold openL at e
    cases e1 : stepP n s c x with
    | none => rw [e1] at e; cases e
    | some r =>
      obtain ⟨t, s1⟩ := r
      rw [e1] at e
      have hx := hw x (List.mem_cons_self ..)
      obtain ⟨h1, h3, h2⟩ := h.step hc hx e1
      obtain ⟨k1, k2, k3⟩ := step_math h hB hc hx e1
      obtain ⟨m1, m2, m3⟩ := openL_math h1 k2 (by omega) (fun w' hw' => hw w' (List.mem_cons_of_mem _ hw')) e
      refine ⟨k1.trans m1, m2, fun y hy => ?_⟩
      rcases List.mem_cons.1 hy with rfl | hy
      · obtain ⟨b, q1, _⟩ := m1.go c y t hx k3
        rw [q1]; omega
      · exact m3 y hy

/-- What is done at a coset. -/
def DoneAt (n : Nat) (rels : List (List Int)) (s : Cos) (k : Nat) : Prop := (∀ r ∈ rels, Closes s k r) ∧ FullAt n s k
theorem DoneAt.mor {n : Nat} {rels : List (List Int)} {s s' : Cos} {k : Nat} (hI : CInv n s) (hM : Mor n s s') (hr : ∀ r ∈ rels, LettersIn n r) (h : DoneAt n rels s k) : DoneAt n rels s' k := ⟨fun r hr' => (h.1 r hr').mor hI hM (hr r hr'), h.2.mor hI hM⟩
theorem work_math {n : Nat} {rels : List (List Int)} {s s' : Cos} {k : Nat} (h : CInv n s) (hB : Back n s) (hk : k < s.R.length) (hr : ∀ r ∈ rels, LettersIn n r) (e : workP n rels s k = some s') : Mor n s s' ∧ Back n s' ∧ DoneAt n rels s' k := by
  unfold workP at e
  cases e1 : traceAllP n s k rels with
  | none => rw [e1] at e; cases e
  | some s1 =>
    rw [e1] at e
    obtain ⟨h1, h2⟩ := h.traceAll hk hr e1
    obtain ⟨k1, k2, k3⟩ := traceAll_math h hB hk hr e1
    obtain ⟨m1, m2, m3⟩ := openL_math h1 k2 (by omega) (fun x hx => List.mem_range.1 hx) e
    exact ⟨k1.trans m1, m2, fun r hr' => (k3 r hr').mor h1 m1 (hr r hr'), fun x hx => m3 x (List.mem_range.2 hx)⟩
theorem fill_math {n : Nat} {rels : List (List Int)} (hr : ∀ r ∈ rels, LettersIn n r) : ∀ {m k : Nat} {s s' : Cos}, CInv n s → Back n s → k + m = 5001 → (∀ j, j < k → j < s.R.length → DoneAt n rels s j) → fillF n rels m k s = some s' → CInv n s' ∧ Mor n s s' ∧ Back n s' ∧ ∀ j, j < s'.R.length → DoneAt n rels s' j
  | 0, k, s, s', h, hB, hkm, hd, e => by
    cases e
    have := h.few
    exact ⟨h, Mor.refl _ _, hB, fun j hj => hd j (by omega) hj⟩
  | m + 1, k, s, s', h, hB, hkm, hd, e => by
    unfold fillF at e
    by_cases hk : k < s.R.length
    · rw [if_pos hk] at e
      by_cases e0 : s.cls k = k
      · rw [if_pos e0] at e
        cases e1 : workP n rels s k with
        | none => rw [e1] at e; cases e
        | some s1 =>
          rw [e1] at e
          obtain ⟨h1, h2⟩ := h.work hk hr e1
          obtain ⟨k1, k2, k3⟩ := work_math h hB hk hr e1
          obtain ⟨m1, m2, m3⟩ := fill_math hr h1 k2 (by omega) (fun j hj hjl => by
            rcases Nat.lt_or_ge j k with hl | hl
            · exact (hd j hl (by omega)).mor h k1 hr
            · obtain rfl : j = k := by omega
              exact k3) e
          exact ⟨m1, k1.trans m2, m3⟩
      · rw [if_neg e0] at e
        refine fill_math hr h hB (by omega) (fun j hj hjl => ?_) e
        rcases Nat.lt_or_ge j k with hl | hl
        · exact hd j hl hjl
        · obtain rfl : j = k := by omega
          have hle := h.cls.le j
          have hd2 := hd (s.cls j) (by omega) (by omega)
          have hid := h.cls.idem j
          refine ⟨fun r hr' => ?_, fun x hx => ?_⟩
          · have := hd2.1 r hr'
            unfold Closes at this ⊢
            rw [goes_congr hid, hid] at this
            exact this
          · have := hd2.2 x hx
            rw [hid] at this
            exact this
    · rw [if_neg hk] at e
      cases e
      exact ⟨h, Mor.refl _ _, hB, fun j hj => hd j (by omega) hj⟩
theorem begin_back (n : Nat) : Back n (beginP n) := fun a x b _ e => by
  have h : ent (beginP n).R ((beginP n).cls a) x = -1 := by
    show ent ([] ++ [newRow n]) a x = -1
    rw [ent_app, if_neg (by simp)]
    split
    · exact ent_new n x
    · rfl
  rw [h] at e; omega

/-- What the cosets are when they are found. -/
structure Found (n : Nat) (rels words : List (List Int)) (s : Cos) : Prop where
  inv : CInv n s
  back : Back n s
  done : ∀ j, j < s.R.length → DoneAt n rels s j
  words : ∀ w ∈ words, Closes s 0 w
theorem cosets_math {n : Nat} {rels words : List (List Int)} {s : Cos} (hr : ∀ r ∈ rels, LettersIn n r) (hw : ∀ w ∈ words, LettersIn n w) (e : cosetsP n rels words = some s) : Found n rels words s := by
  unfold cosetsP at e
  have h0 := beginP_inv n
  cases e1 : traceAllP n (beginP n) 0 words with
  | none => rw [e1] at e; cases e
  | some s1 =>
    rw [e1] at e
    obtain ⟨h1, _⟩ := h0.traceAll h0.pos hw e1
    obtain ⟨k1, k2, k3⟩ := traceAll_math h0 (begin_back n) h0.pos hw e1
    obtain ⟨m1, m2, m3, m4⟩ := fill_math hr h1 k2 (by omega) (fun j hj => by omega) e
    exact ⟨m1, m3, m4, fun w hw' => (k3 w hw').mor h1 m2 (hw w hw')⟩
theorem Found.full {n : Nat} {rels words : List (List Int)} {s : Cos} (h : Found n rels words s) : ∀ a, a < s.R.length → s.cls a = a → ∀ x, x < 2 * n → ent s.R a x ≠ -1 := fun a ha hr x hx => by
  have := (h.done a ha).2 x hx
  rwa [hr] at this

end Go.Proofs.YtmaopnbnbiediaaDoor
