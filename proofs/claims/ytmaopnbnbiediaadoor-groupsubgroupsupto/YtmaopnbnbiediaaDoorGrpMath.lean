/- What is found is a table: letters lead back, words that were traced lead back to where they began. No Go here. -/
import Derived.Test.YtmaopnbnbiediaaDoorGrpInv
namespace Go.Proofs.YtmaopnbnbiediaaDoor

/-- What led somewhere leads there on. -/
structure Mor (n : Nat) (s s' : Cos) : Prop where
  go : ∀ (c x b : Nat), x < 2 * n → ent s.R (s.cls c) x = (b : Int) → ∃ b' : Nat, ent s'.R (s'.cls c) x = (b' : Int) ∧ s'.cls b' = s'.cls b
  cls : ∀ i j, s.cls i = s.cls j → s'.cls i = s'.cls j
/-- Letters lead back. -/
def Back (n : Nat) (s : Cos) : Prop := ∀ (a x b : Nat), x < 2 * n → ent s.R (s.cls a) x = (b : Int) → ∃ d : Nat, ent s.R (s.cls b) (backN x) = (d : Int) ∧ s.cls d = s.cls a

theorem Mor.refl (n : Nat) (s : Cos) : Mor n s s := ⟨fun _ _ b _ e => ⟨b, e, rfl⟩, fun _ _ e => e⟩
theorem Mor.trans {n : Nat} {s s' s'' : Cos} (h : Mor n s s') (k : Mor n s' s'') : Mor n s s'' := ⟨fun c x b hx e => by
  obtain ⟨b', e1, e2⟩ := h.go c x b hx e
  obtain ⟨b'', e3, e4⟩ := k.go c x b' hx e1
  exact ⟨b'', e3, e4.trans (k.cls _ _ e2)⟩, fun i j e => k.cls i j (h.cls i j e)⟩
theorem ent_far (R : List (List Int)) {c : Nat} (h : R.length ≤ c) (x : Nat) : ent R c x = -1 := by
  unfold ent
  rw [List.getElem?_eq_none h]; rfl
theorem CInv.nat {n : Nat} {s : Cos} (h : CInv n s) {c x : Nat} (e : ent s.R c x ≠ -1) : ∃ b : Nat, ent s.R c x = (b : Int) ∧ b < s.R.length := by
  have := (h.rng c x).resolve_left e
  exact ⟨(ent s.R c x).toNat, by omega, by omega⟩
theorem CInv.lt_of {n : Nat} {s : Cos} (h : CInv n s) {c x b : Nat} (e : ent s.R c x = (b : Int)) : c < s.R.length ∧ b < s.R.length := by
  constructor
  · rcases Nat.lt_or_ge c s.R.length with hc | hc
    · exact hc
    · rw [ent_far _ hc] at e; omega
  · have := h.rng c x
    omega

theorem step_math {n : Nat} {s s' : Cos} {c x t : Nat} (h : CInv n s) (hB : Back n s) (hc : c < s.R.length) (hx : x < 2 * n) (e : stepP n s c x = some (t, s')) : Mor n s s' ∧ Back n s' ∧ ent s'.R (s'.cls c) x = (t : Int) := by
  rcases stepP_cases e with ⟨rfl, h1, rfl⟩ | ⟨h1, rfl, h5, rfl⟩
  · obtain ⟨b, hb, _⟩ := h.nat h1
    exact ⟨Mor.refl _ _, hB, by rw [hb, Int.toNat_natCast]⟩
  · have ha := h.cls_lt hc
    obtain ⟨a0, ha0⟩ : ∃ a0, s.cls c = a0 := ⟨_, rfl⟩
    rw [ha0] at ha h1
    have hid : s.cls a0 = a0 := by rw [← ha0]; exact h.cls.idem c
    have hfN := h.far s.R.length (Nat.le_refl _)
    have hE : ∀ d y, ent (Cos.R ⟨putE (putE (s.R ++ [newRow n]) (s.cls c) x s.R.length) s.R.length (backN x) (s.cls c), s.cls⟩) d y = if d = s.R.length ∧ y = backN x then (a0 : Int) else if d = a0 ∧ y = x then (s.R.length : Int) else if d < s.R.length then ent s.R d y else -1 := fun d y => by
      rw [ha0]; exact ent_open h ha hx d y
    have hold : ∀ d y (b : Nat), ent s.R d y = (b : Int) → ent (Cos.R ⟨putE (putE (s.R ++ [newRow n]) (s.cls c) x s.R.length) s.R.length (backN x) (s.cls c), s.cls⟩) d y = (b : Int) := fun d y b hb => by
      have hd := (h.lt_of hb).1
      rw [hE, if_neg (by omega), if_neg (fun e => by rw [e.1, e.2, h1] at hb; omega), if_pos hd]
      exact hb
    refine ⟨⟨fun d y b _ hb => ⟨b, hold _ _ _ hb, rfl⟩, fun _ _ e => e⟩, fun a y b hy hb => ?_, ?_⟩
    · show ∃ d : Nat, ent _ (s.cls b) (backN y) = (d : Int) ∧ s.cls d = s.cls a
      have hb' : ent (Cos.R ⟨putE (putE (s.R ++ [newRow n]) (s.cls c) x s.R.length) s.R.length (backN x) (s.cls c), s.cls⟩) (s.cls a) y = (b : Int) := hb
      rw [hE] at hb'
      by_cases k1 : s.cls a = s.R.length ∧ y = backN x
      · rw [if_pos k1] at hb'
        have : a0 = b := by omega
        subst this
        refine ⟨s.R.length, ?_, by rw [hfN, k1.1]⟩
        rw [hid, k1.2, back_back, hE, if_neg (by omega), if_pos ⟨rfl, rfl⟩]
      · rw [if_neg k1] at hb'
        by_cases k2 : s.cls a = a0 ∧ y = x
        · rw [if_pos k2] at hb'
          have : s.R.length = b := by omega
          subst this
          refine ⟨a0, ?_, by rw [hid, k2.1]⟩
          rw [hfN, k2.2, hE, if_pos ⟨rfl, rfl⟩]
        · rw [if_neg k2] at hb'
          by_cases k3 : s.cls a < s.R.length
          · rw [if_pos k3] at hb'
            obtain ⟨d, hd1, hd2⟩ := hB a y b hy hb'
            exact ⟨d, hold _ _ _ hd1, hd2⟩
          · rw [if_neg k3] at hb'; omega
    · show ent _ (s.cls c) x = _
      rw [hE, ha0, if_neg (by omega), if_pos ⟨rfl, rfl⟩]

/-- A function that is the same of what is the same, and of pairs that must be. -/
def Resp (F cls : Nat → Nat) (ps : List (Int × Int)) : Prop := (∀ i, F (cls i) = F i) ∧ ∀ p ∈ ps, F p.1.toNat = F p.2.toNat
def MorF (n : Nat) (F : Nat → Nat) (s s' : Cos) : Prop := ∀ (c x b : Nat), x < 2 * n → ent s.R (s.cls c) x = (b : Int) → ∃ b' : Nat, ent s'.R (s'.cls c) x = (b' : Int) ∧ F b' = F b
def BackF (n : Nat) (F : Nat → Nat) (s : Cos) : Prop := ∀ (a x b : Nat), x < 2 * n → ent s.R (s.cls a) x = (b : Int) → ∃ d : Nat, ent s.R (s.cls b) (backN x) = (d : Int) ∧ F d = F a

/-- One takes over: what is kept. -/
theorem take_math {n : Nat} {s : Cos} (h : CInv n s) {F : Nat → Nat} {p : Nat × Nat} (h1 : p.1 < s.R.length) (h2 : p.2 < s.R.length) (hne : s.cls p.1 ≠ s.cls p.2)
    (hF : Resp F (joinC s.cls p) (takeP (min (s.cls p.1) (s.cls p.2)) (max (s.cls p.1) (s.cls p.2)) (2 * n) s.R).2) :
    MorF n F s ⟨(takeP (min (s.cls p.1) (s.cls p.2)) (max (s.cls p.1) (s.cls p.2)) (2 * n) s.R).1, joinC s.cls p⟩ ∧ (BackF n F s → BackF n F ⟨(takeP (min (s.cls p.1) (s.cls p.2)) (max (s.cls p.1) (s.cls p.2)) (2 * n) s.R).1, joinC s.cls p⟩) := by
  have l1 := h.cls_lt h1
  have l2 := h.cls_lt h2
  have i1 := h.cls.idem p.1
  have i2 := h.cls.idem p.2
  obtain ⟨a, ha⟩ : ∃ a, min (s.cls p.1) (s.cls p.2) = a := ⟨_, rfl⟩
  obtain ⟨b, hb⟩ : ∃ b, max (s.cls p.1) (s.cls p.2) = b := ⟨_, rfl⟩
  have hra : s.cls a = a := by rw [← ha]; rcases Nat.le_total (s.cls p.1) (s.cls p.2) with hl | hl <;> simp [Nat.min_eq_left, Nat.min_eq_right, hl, i1, i2]
  have hrb : s.cls b = b := by rw [← hb]; rcases Nat.le_total (s.cls p.1) (s.cls p.2) with hl | hl <;> simp [Nat.max_eq_left, Nat.max_eq_right, hl, i1, i2]
  have haN : a < s.R.length := by omega
  have hab : a ≠ b := by omega
  have hj : ∀ i, joinC s.cls p i = if s.cls i = b then a else s.cls i := fun i => by unfold joinC; rw [ha, hb]
  rw [ha, hb] at hF ⊢
  have hE : ∀ c x, ent (takeP a b (2 * n) s.R).1 c x = if c = a ∧ x < 2 * n ∧ ent s.R a x = -1 then ent s.R b x else ent s.R c x := takeP_ent h.wide haN (2 * n) (Nat.le_refl _)
  have hFab : F b = F a := by
    have := hF.1 b
    rw [hj, if_pos hrb] at this
    exact this.symm
  have hM : MorF n F s ⟨(takeP a b (2 * n) s.R).1, joinC s.cls p⟩ := fun c x q hx hq => by
    show ∃ b' : Nat, ent (takeP a b (2 * n) s.R).1 (joinC s.cls p c) x = (b' : Int) ∧ F b' = F q
    rw [hj, hE]
    by_cases e : s.cls c = b
    · rw [if_pos e]
      rw [e] at hq
      by_cases e2 : ent s.R a x = -1
      · rw [if_pos ⟨rfl, hx, e2⟩]
        exact ⟨q, hq, rfl⟩
      · rw [if_neg (fun k => e2 k.2.2)]
        obtain ⟨q', hq', _⟩ := h.nat e2
        refine ⟨q', hq', ?_⟩
        have := hF.2 _ (takeP_told hx e2 (by rw [hq]; omega))
        rw [hq', hq] at this
        simpa using this
    · rw [if_neg e]
      by_cases e2 : s.cls c = a ∧ x < 2 * n ∧ ent s.R a x = -1
      · rw [e2.1, e2.2.2] at hq; omega
      · rw [if_neg e2]
        exact ⟨q, hq, rfl⟩
  refine ⟨hM, fun hB c x q hx hq => ?_⟩
  have hq' : ent (takeP a b (2 * n) s.R).1 (joinC s.cls p c) x = (q : Int) := hq
  have hFc := hF.1 c
  have key : ∃ c', ent s.R (s.cls c') x = (q : Int) ∧ F c' = F c := by
    rw [hE] at hq'
    by_cases e : joinC s.cls p c = a ∧ x < 2 * n ∧ ent s.R a x = -1
    · rw [if_pos e] at hq'
      exact ⟨b, by rw [hrb]; exact hq', by rw [hFab, ← hFc, e.1]⟩
    · rw [if_neg e] at hq'
      refine ⟨joinC s.cls p c, ?_, hFc⟩
      have : s.cls (joinC s.cls p c) = joinC s.cls p c := by
        rw [hj]
        split
        · exact hra
        · exact h.cls.idem c
      rw [this]; exact hq'
  obtain ⟨c', hc1, hc2⟩ := key
  obtain ⟨d0, hd1, hd2⟩ := hB c' x q hx hc1
  obtain ⟨d, hd3, hd4⟩ := hM q (backN x) d0 (back_lt hx) hd1
  exact ⟨d, hd3, hd4.trans (hd2.trans hc2)⟩

theorem unite_resp {n : Nat} : ∀ (m : Nat) {s : Cos} {ps : List (Int × Int)}, CInv n s → PairsIn s.R.length ps → rootsN s.R.length s.cls * (2 * n + 1) + ps.length ≤ m → Resp (uniteF n m s ps).cls s.cls ps ∧ MorF n (uniteF n m s ps).cls s (uniteF n m s ps) ∧ (BackF n (uniteF n m s ps).cls s → BackF n (uniteF n m s ps).cls (uniteF n m s ps))
  | m, s, ps, h, hp, hf => by
    rcases List.eq_nil_or_concat ps with e | ⟨qs, p, e⟩
    · subst e
      rw [uniteF_nil]
      exact ⟨⟨fun i => h.cls.idem i, fun p hp => (by cases hp)⟩, fun _ _ b _ e => ⟨b, e, rfl⟩, id⟩
    · rw [List.concat_eq_append] at e
      subst e
      rw [List.length_append, List.length_singleton] at hf
      obtain ⟨m', rfl⟩ : ∃ m', m = m' + 1 := ⟨m - 1, by omega⟩
      have hq : PairsIn s.R.length qs := fun p hp' => hp p (List.mem_append.2 (.inl hp'))
      have hpp := hp p (List.mem_append.2 (.inr (List.mem_singleton.2 rfl)))
      have h1 : p.1.toNat < s.R.length := by omega
      have h2 : p.2.toNat < s.R.length := by omega
      by_cases e : s.cls p.1.toNat = s.cls p.2.toNat
      · rw [uniteF_skip e]
        obtain ⟨k1, k2⟩ := unite_resp m' h hq (by omega)
        refine ⟨⟨k1.1, fun r hr => ?_⟩, k2⟩
        rcases List.mem_append.1 hr with hr | hr
        · exact k1.2 r hr
        · obtain rfl := List.mem_singleton.1 hr
          rw [← k1.1, e, k1.1]
      · rw [uniteF_take e]
        have hlen := takeP_len (min (s.cls p.1.toNat) (s.cls p.2.toNat)) (max (s.cls p.1.toNat) (s.cls p.2.toNat)) (2 * n) s.R
        have htm := takeP_more (min (s.cls p.1.toNat) (s.cls p.2.toNat)) (max (s.cls p.1.toNat) (s.cls p.2.toNat)) (2 * n) s.R
        have hi := (CInv.uniteF 1 h (ps := [p]) (fun r hr => hp r (List.mem_append.2 (.inr hr)))).1
        have hu1 : uniteF n 1 s [p] = ⟨(takeP (min (s.cls p.1.toNat) (s.cls p.2.toNat)) (max (s.cls p.1.toNat) (s.cls p.2.toNat)) (2 * n) s.R).1, joinC s.cls (p.1.toNat, p.2.toNat)⟩ := by
          have := uniteF_take (n := n) (m := 0) (s := s) (ps := []) (p := p) e
          exact this
        rw [hu1] at hi
        have hrl := roots_lt (N := s.R.length) h.cls (p := (p.1.toNat, p.2.toNat)) h1 h2 e
        have hrm := Nat.mul_le_mul_right (2 * n + 1) hrl
        rw [Nat.succ_mul] at hrm
        obtain ⟨k1, k2, k3⟩ := unite_resp m' hi (ps := qs ++ (takeP (min (s.cls p.1.toNat) (s.cls p.2.toNat)) (max (s.cls p.1.toNat) (s.cls p.2.toNat)) (2 * n) s.R).2) (by
          rw [show (Cos.R ⟨(takeP (min (s.cls p.1.toNat) (s.cls p.2.toNat)) (max (s.cls p.1.toNat) (s.cls p.2.toNat)) (2 * n) s.R).1, joinC s.cls (p.1.toNat, p.2.toNat)⟩).length = s.R.length from hlen]
          intro r hr
          rcases List.mem_append.1 hr with hr | hr
          · exact hq r hr
          · exact h.rng.pairs r hr) (by
          rw [show (Cos.R ⟨(takeP (min (s.cls p.1.toNat) (s.cls p.2.toNat)) (max (s.cls p.1.toNat) (s.cls p.2.toNat)) (2 * n) s.R).1, joinC s.cls (p.1.toNat, p.2.toNat)⟩).length = s.R.length from hlen, List.length_append]
          show rootsN s.R.length (joinC s.cls (p.1.toNat, p.2.toNat)) * (2 * n + 1) + _ ≤ m'
          omega)
        obtain ⟨U, hU⟩ : ∃ U, uniteF n m' ⟨(takeP (min (s.cls p.1.toNat) (s.cls p.2.toNat)) (max (s.cls p.1.toNat) (s.cls p.2.toNat)) (2 * n) s.R).1, joinC s.cls (p.1.toNat, p.2.toNat)⟩ (qs ++ (takeP (min (s.cls p.1.toNat) (s.cls p.2.toNat)) (max (s.cls p.1.toNat) (s.cls p.2.toNat)) (2 * n) s.R).2) = U := ⟨_, rfl⟩
        rw [hU] at k1 k2 k3 ⊢
        have hcl : ∀ i, U.cls (s.cls i) = U.cls i := fun i => by
          have e1 := k1.1 (s.cls i)
          have e2 := k1.1 i
          rw [show (Cos.cls ⟨(takeP (min (s.cls p.1.toNat) (s.cls p.2.toNat)) (max (s.cls p.1.toNat) (s.cls p.2.toNat)) (2 * n) s.R).1, joinC s.cls (p.1.toNat, p.2.toNat)⟩) = joinC s.cls (p.1.toNat, p.2.toNat) from rfl] at e1 e2
          rw [← e1, ← e2, joinC_keeps (p.1.toNat, p.2.toNat) (h.cls.idem i)]
        obtain ⟨t1, t2⟩ := take_math h (F := U.cls) (p := (p.1.toNat, p.2.toNat)) h1 h2 e ⟨k1.1, fun r hr => k1.2 r (List.mem_append.2 (.inr hr))⟩
        refine ⟨⟨hcl, fun r hr => ?_⟩, fun c x b hx hb => ?_, fun hB => k3 (t2 hB)⟩
        · rcases List.mem_append.1 hr with hr | hr
          · exact k1.2 r (List.mem_append.2 (.inl hr))
          · obtain rfl := List.mem_singleton.1 hr
            have e1 := k1.1 r.1.toNat
            have e2 := k1.1 r.2.toNat
            rw [← e1, ← e2]
            exact congrArg _ (joinC_joins (cls := s.cls) (r.1.toNat, r.2.toNat))
        · obtain ⟨b', e1, e2⟩ := t1 c x b hx hb
          obtain ⟨b'', e3, e4⟩ := k2 c x b' hx e1
          exact ⟨b'', e3, e4.trans e2⟩

theorem unite_math {n : Nat} {s : Cos} (h : CInv n s) (hB : Back n s) {a b : Nat} (ha : a < s.R.length) (hb : b < s.R.length) : Mor n s (uniteP n s a b) ∧ Back n (uniteP n s a b) ∧ (uniteP n s a b).cls a = (uniteP n s a b).cls b := by
  have h1 := Nat.mul_le_mul_right (2 * n + 1) (roots_le s.R.length s.cls)
  obtain ⟨k1, k2, k3⟩ := unite_resp (n := n) (s.R.length * (2 * n + 1) + 1) h (ps := [((a : Int), (b : Int))]) (fun p hp => by
    obtain rfl := List.mem_singleton.1 hp
    exact ⟨by omega, by omega⟩) (by rw [List.length_singleton]; omega)
  have e1 : uniteF n (s.R.length * (2 * n + 1) + 1) s [((a : Int), (b : Int))] = uniteP n s a b := rfl
  rw [e1] at k1 k2 k3
  refine ⟨⟨k2, fun i j e => by rw [← k1.1 i, ← k1.1 j, e]⟩, k3 fun c x q hx hq => ?_, by simpa using k1.2 _ (List.mem_singleton.2 rfl)⟩
  obtain ⟨d, hd1, hd2⟩ := hB c x q hx hq
  exact ⟨d, hd1, by rw [← k1.1 d, ← k1.1 c, hd2]⟩

end Go.Proofs.YtmaopnbnbiediaaDoor
