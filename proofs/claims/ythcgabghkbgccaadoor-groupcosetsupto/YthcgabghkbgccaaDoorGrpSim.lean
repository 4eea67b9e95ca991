/- Cosets as they are found by going through all rows until nothing more follows: the same come to be the same as by taking over. No Go here. -/
import Derived.Test.YthcgabghkbgccaaDoorGrpMath2
namespace Go.Proofs.YthcgabghkbgccaaDoor

/-- Nothing more follows at a place of the rows. -/
def ClosedAt (t : Cos) (i x : Nat) : Prop := ∀ p : Nat, ent t.R i x = (p : Int) →
  (∃ q : Nat, ent t.R (t.cls i) x = (q : Int) ∧ t.cls q = t.cls p) ∧ ∃ d : Nat, ent t.R (t.cls p) (backN x) = (d : Int) ∧ t.cls d = t.cls i
def CloseR (n : Nat) (t : Cos) : Prop := ∀ i x, i < t.R.length → x < 2 * n → ClosedAt t i x
/-- What leads, from each row, leads on. -/
structure MorR (n : Nat) (t u : Cos) : Prop where
  go : ∀ (i x p : Nat), x < 2 * n → ent t.R i x = (p : Int) → ∃ q : Nat, ent u.R (u.cls i) x = (q : Int) ∧ u.cls q = u.cls p
  cls : ∀ i j, t.cls i = t.cls j → u.cls i = u.cls j
/-- Rows keep what they hold, classes what they have. -/
structure Keeps (t u : Cos) : Prop where
  ent : ∀ (i x p : Nat), ent t.R i x = (p : Int) → ent u.R i x = (p : Int)
  cls : ∀ i j, t.cls i = t.cls j → u.cls i = u.cls j
theorem Keeps.refl (t : Cos) : Keeps t t := ⟨fun _ _ _ e => e, fun _ _ e => e⟩
theorem Keeps.trans {t u v : Cos} (h : Keeps t u) (k : Keeps u v) : Keeps t v := ⟨fun i x p e => k.ent i x p (h.ent i x p e), fun i j e => k.cls i j (h.cls i j e)⟩

/-- One thing that follows. -/
inductive MoveR (n : Nat) (t : Cos) : Cos → Prop
  | carry (i k x p : Nat) (hx : x < 2 * n) (hk : k < t.R.length) (h : t.cls k = t.cls i) (e : ent t.R i x = (p : Int)) (z : ent t.R k x = -1) : MoveR n t ⟨putE t.R k x (p : Int), t.cls⟩
  | both (i k x p q : Nat) (hx : x < 2 * n) (h : t.cls k = t.cls i) (e : ent t.R i x = (p : Int)) (z : ent t.R k x = (q : Int)) (hne : t.cls q ≠ t.cls p) : MoveR n t ⟨t.R, joinC t.cls (q, p)⟩
  | back (i k x p : Nat) (hx : x < 2 * n) (hk : k < t.R.length) (h : t.cls k = t.cls i) (e : ent t.R i x = (p : Int)) (z : ent t.R (t.cls p) (backN x) = -1) : MoveR n t ⟨putE t.R (t.cls p) (backN x) (k : Int), t.cls⟩
  | home (i x p d : Nat) (hx : x < 2 * n) (e : ent t.R i x = (p : Int)) (z : ent t.R (t.cls p) (backN x) = (d : Int)) (hne : t.cls d ≠ t.cls i) : MoveR n t ⟨t.R, joinC t.cls (d, i)⟩

/-- How many places lead nowhere. -/
def holesN (n : Nat) (R : List (List Int)) : Nat := (List.range (R.length * (2 * n))).countP fun j => ent R (j / (2 * n)) (j % (2 * n)) == -1
def leftN (n : Nat) (t : Cos) : Nat := rootsN t.R.length t.cls + holesN n t.R
theorem holes_put {n : Nat} {R : List (List Int)} (hw : Wide n R) {c x : Nat} (hc : c < R.length) (hx : x < 2 * n) (h : ent R c x = -1) {v : Int} (hv : 0 ≤ v) : holesN n (putE R c x v) < holesN n R := by
  unfold holesN
  rw [putE_len]
  have hlt : c * (2 * n) + x < R.length * (2 * n) := by
    have := Nat.mul_le_mul_right (2 * n) (show c + 1 ≤ R.length from hc)
    rw [Nat.succ_mul] at this
    omega
  have hd : (c * (2 * n) + x) / (2 * n) = c := by
    rw [Nat.mul_comm, Nat.mul_add_div (by omega), Nat.div_eq_of_lt hx, Nat.add_zero]
  have hm : (c * (2 * n) + x) % (2 * n) = x := by
    rw [Nat.mul_comm, Nat.mul_add_mod, Nat.mod_eq_of_lt hx]
  refine countLt (fun j _ hj => ?_) ⟨c * (2 * n) + x, List.mem_range.2 hlt, ?_, ?_⟩
  · rw [beq_iff_eq] at hj ⊢
    rw [ent_put hw hc hx] at hj
    split at hj
    · omega
    · exact hj
  · rw [beq_iff_eq, hd, hm]; exact h
  · refine beq_false_of_ne ?_
    rw [hd, hm, ent_put hw hc hx, if_pos ⟨rfl, rfl⟩]
    omega

/-- A function that is the same of what is the same and of a pair, of what is joined. -/
theorem join_same {α : Type} {cls : Nat → Nat} (hc : Cls cls) {F : Nat → α} (hF : ∀ i j, cls i = cls j → F i = F j) {p : Nat × Nat} (hp : F p.1 = F p.2) : ∀ i j, joinC cls p i = joinC cls p j → F i = F j := by
  have h0 : ∀ i, F (cls i) = F i := fun i => hF _ _ (hc.idem i)
  have h1 : ∀ i, F (joinC cls p i) = F i := fun i => by
    have e1 := h0 p.1
    have e2 := h0 p.2
    unfold joinC
    split
    · rename_i e
      rw [← h0 i, e]
      rcases Nat.le_total (cls p.1) (cls p.2) with hl | hl
      · rw [Nat.min_eq_left hl, Nat.max_eq_right hl, e1, e2, hp]
      · rw [Nat.min_eq_right hl, Nat.max_eq_left hl, e1, e2, hp]
    · exact h0 i
  exact fun i j e => by rw [← h1 i, ← h1 j, e]

theorem MoveR.inv {n : Nat} {t t' : Cos} (h : CInv n t) (m : MoveR n t t') : CInv n t' ∧ t'.R.length = t.R.length ∧ leftN n t' < leftN n t := by
  have put : ∀ {c x v : Nat}, c < t.R.length → x < 2 * n → v < t.R.length → ent t.R c x = -1 → CInv n ⟨putE t.R c x (v : Int), t.cls⟩ ∧ (putE t.R c x (v : Int)).length = t.R.length ∧ leftN n ⟨putE t.R c x (v : Int), t.cls⟩ < leftN n t := fun {c x v} hc hx hv hz => by
    have el := putE_len t.R c x (v : Int)
    refine ⟨⟨putE_wide h.wide _ _ _, fun d y => ?_, h.cls, fun i hi => h.far i (by rw [← el]; exact hi), by rw [show (Cos.R ⟨putE t.R c x (v : Int), t.cls⟩).length = _ from el]; exact h.pos, by rw [show (Cos.R ⟨putE t.R c x (v : Int), t.cls⟩).length = _ from el]; exact h.few⟩, el, ?_⟩
    · show ent (putE t.R c x (v : Int)) d y = -1 ∨ _ ∧ _
      rw [show (Cos.R ⟨putE t.R c x (v : Int), t.cls⟩).length = _ from el]
      show ent (putE t.R c x (v : Int)) d y = -1 ∨ 0 ≤ ent (putE t.R c x (v : Int)) d y ∧ ent (putE t.R c x (v : Int)) d y < _
      rw [ent_put h.wide hc hx]
      split
      · right; omega
      · exact h.rng d y
    · unfold leftN
      show rootsN (putE t.R c x (v : Int)).length t.cls + holesN n (putE t.R c x (v : Int)) < _
      rw [el]
      have := holes_put h.wide hc hx hz (v := (v : Int)) (by omega)
      omega
  have join : ∀ {a b : Nat}, a < t.R.length → b < t.R.length → t.cls a ≠ t.cls b → CInv n ⟨t.R, joinC t.cls (a, b)⟩ ∧ t.R.length = t.R.length ∧ leftN n ⟨t.R, joinC t.cls (a, b)⟩ < leftN n t := fun {a b} ha hb hne => by
    refine ⟨⟨h.wide, h.rng, h.cls.join _, join_far h.cls h.far (p := (a, b)) ha hb, h.pos, h.few⟩, rfl, ?_⟩
    unfold leftN
    have := roots_lt (N := t.R.length) h.cls (p := (a, b)) ha hb hne
    show rootsN t.R.length (joinC t.cls (a, b)) + holesN n t.R < _
    omega
  cases m with
  | carry i k x p hx hk hc e z => exact put hk hx (h.lt_of e).2 z
  | both i k x p q hx hc e z hne => exact join (h.lt_of z).2 (h.lt_of e).2 hne
  | back i k x p hx hk hc e z => exact put (h.cls_lt (h.lt_of e).2) (back_lt hx) hk z
  | home i x p d hx e z hne => exact join (h.lt_of z).2 (h.lt_of e).1 hne

theorem MoveR.keeps {n : Nat} {t t' : Cos} (h : CInv n t) (m : MoveR n t t') : Keeps t t' := by
  have put : ∀ {c x : Nat} {v : Int}, c < t.R.length → x < 2 * n → ent t.R c x = -1 → Keeps t ⟨putE t.R c x v, t.cls⟩ := fun {c x v} hc hx hz => ⟨fun d y p e => by
    show ent (putE t.R c x v) d y = _
    rw [ent_put h.wide hc hx, if_neg (fun k => by rw [k.1, k.2, hz] at e; omega)]
    exact e, fun _ _ e => e⟩
  cases m with
  | carry i k x p hx hk hc e z => exact put hk hx z
  | both i k x p q hx hc e z hne => exact ⟨fun _ _ _ e => e, fun _ _ e => joinC_keeps _ e⟩
  | back i k x p hx hk hc e z => exact put (h.cls_lt (h.lt_of e).2) (back_lt hx) z
  | home i x p d hx e z hne => exact ⟨fun _ _ _ e => e, fun _ _ e => joinC_keeps _ e⟩

/-- What respects all that is there respects what follows. -/
theorem MoveR.mor {n : Nat} {t t' u : Cos} (h : CInv n t) (_hu : CInv n u) (hb : Back n u) (k : MorR n t u) (m : MoveR n t t') : MorR n t' u := by
  have hid : ∀ i, u.cls (t.cls i) = u.cls i := fun i => k.cls _ _ (h.cls.idem i)
  have nat1 : ∀ {a b : Nat}, (a : Int) = (b : Int) → a = b := fun e => by omega
  cases m with
  | carry i k' x p hx hk hc e z =>
    refine ⟨fun j y q hy ej => ?_, k.cls⟩
    have ej' : ent (putE t.R k' x (p : Int)) j y = (q : Int) := ej
    rw [ent_put h.wide hk hx] at ej'
    by_cases c : j = k' ∧ y = x
    · rw [if_pos c] at ej'
      obtain ⟨rfl, rfl⟩ := c
      obtain rfl := nat1 ej'
      obtain ⟨r, h1, h2⟩ := k.go i y p hy e
      exact ⟨r, by rw [k.cls _ _ hc]; exact h1, h2⟩
    · rw [if_neg c] at ej'
      exact k.go j y q hy ej'
  | both i k' x p q hx hc e z hne =>
    refine ⟨k.go, join_same h.cls k.cls (p := (q, p)) ?_⟩
    obtain ⟨r1, h1, h2⟩ := k.go i x p hx e
    obtain ⟨r2, h3, h4⟩ := k.go k' x q hx z
    rw [k.cls _ _ hc, h1] at h3
    obtain rfl := nat1 h3
    exact h4.symm.trans h2
  | back i k' x p hx hk hc e z =>
    refine ⟨fun j y q hy ej => ?_, k.cls⟩
    have ej' : ent (putE t.R (t.cls p) (backN x) (k' : Int)) j y = (q : Int) := ej
    rw [ent_put h.wide (h.cls_lt (h.lt_of e).2) (back_lt hx)] at ej'
    by_cases c : j = t.cls p ∧ y = backN x
    · rw [if_pos c] at ej'
      obtain ⟨rfl, rfl⟩ := c
      obtain rfl := nat1 ej'
      obtain ⟨r, h1, h2⟩ := k.go i x p hx e
      obtain ⟨d, h3, h4⟩ := hb i x r hx h1
      exact ⟨d, by rw [hid, ← h2]; exact h3, by rw [h4]; exact (k.cls _ _ hc).symm⟩
    · rw [if_neg c] at ej'
      exact k.go j y q hy ej'
  | home i x p d hx e z hne =>
    refine ⟨k.go, join_same h.cls k.cls (p := (d, i)) ?_⟩
    obtain ⟨r, h1, h2⟩ := k.go i x p hx e
    obtain ⟨d', h3, h4⟩ := hb i x r hx h1
    obtain ⟨r2, h5, h6⟩ := k.go (t.cls p) (backN x) d (back_lt hx) z
    rw [hid, ← h2, h3] at h5
    obtain rfl := nat1 h5
    exact h6.symm.trans h4

/-- Things that follow, one after another. -/
inductive Moves (n : Nat) (t : Cos) : Cos → Prop
  | refl : Moves n t t
  | step {u v : Cos} : Moves n t u → MoveR n u v → Moves n t v
theorem Moves.trans {n : Nat} {t u v : Cos} (h : Moves n t u) (k : Moves n u v) : Moves n t v := by
  induction k with
  | refl => exact h
  | step _ m ih => exact ih.step m
theorem Moves.inv {n : Nat} {t t' : Cos} (h : CInv n t) (m : Moves n t t') : CInv n t' ∧ t'.R.length = t.R.length ∧ leftN n t' ≤ leftN n t ∧ Keeps t t' := by
  induction m with
  | refl => exact ⟨h, rfl, Nat.le_refl _, Keeps.refl t⟩
  | step _ m ih =>
    obtain ⟨h1, h2, h3, h4⟩ := ih
    obtain ⟨k1, k2, k3⟩ := m.inv h1
    exact ⟨k1, k2.trans h2, by omega, h4.trans (m.keeps h1)⟩
theorem Moves.mor {n : Nat} {t t' u : Cos} (h : CInv n t) (hu : CInv n u) (hb : Back n u) (k : MorR n t u) (m : Moves n t t') : MorR n t' u := by
  induction m with
  | refl => exact k
  | step m' m ih => exact m.mor (m'.inv h).1 hu hb ih

/-- One takes over: what leads there leads on in what respects the pair. -/
theorem take_emb {n : Nat} {s u : Cos} (h : CInv n s) (hM : Mor n s u) {p : Nat × Nat} (h1 : p.1 < s.R.length) (h2 : p.2 < s.R.length) (hp : u.cls p.1 = u.cls p.2) :
    Mor n ⟨(takeP (min (s.cls p.1) (s.cls p.2)) (max (s.cls p.1) (s.cls p.2)) (2 * n) s.R).1, joinC s.cls p⟩ u ∧ ∀ r ∈ (takeP (min (s.cls p.1) (s.cls p.2)) (max (s.cls p.1) (s.cls p.2)) (2 * n) s.R).2, u.cls r.1.toNat = u.cls r.2.toNat := by
  have l1 := h.cls_lt h1
  have l2 := h.cls_lt h2
  have i1 := h.cls.idem p.1
  have i2 := h.cls.idem p.2
  have hid : ∀ i, u.cls (s.cls i) = u.cls i := fun i => hM.cls _ _ (h.cls.idem i)
  have f1 := hid p.1
  have f2 := hid p.2
  obtain ⟨a, ha⟩ : ∃ a, min (s.cls p.1) (s.cls p.2) = a := ⟨_, rfl⟩
  obtain ⟨b, hb⟩ : ∃ b, max (s.cls p.1) (s.cls p.2) = b := ⟨_, rfl⟩
  have hab : u.cls a = u.cls b := by
    rw [← ha, ← hb]
    rcases Nat.le_total (s.cls p.1) (s.cls p.2) with hl | hl
    · rw [Nat.min_eq_left hl, Nat.max_eq_right hl, f1, f2, hp]
    · rw [Nat.min_eq_right hl, Nat.max_eq_left hl, f1, f2, hp]
  have hra : s.cls a = a := by rw [← ha]; rcases Nat.le_total (s.cls p.1) (s.cls p.2) with hl | hl <;> simp [Nat.min_eq_left, Nat.min_eq_right, hl, i1, i2]
  have hrb : s.cls b = b := by rw [← hb]; rcases Nat.le_total (s.cls p.1) (s.cls p.2) with hl | hl <;> simp [Nat.max_eq_left, Nat.max_eq_right, hl, i1, i2]
  have haN : a < s.R.length := by omega
  have hj : ∀ i, joinC s.cls p i = if s.cls i = b then a else s.cls i := fun i => by unfold joinC; rw [ha, hb]
  have hFj : ∀ i, u.cls (joinC s.cls p i) = u.cls i := fun i => by
    rw [hj]
    by_cases e : s.cls i = b
    · rw [if_pos e, hab, ← e, hid]
    · rw [if_neg e, hid]
  rw [ha, hb]
  have hE : ∀ c x, ent (takeP a b (2 * n) s.R).1 c x = if c = a ∧ x < 2 * n ∧ ent s.R a x = -1 then ent s.R b x else ent s.R c x := takeP_ent h.wide haN (2 * n) (Nat.le_refl _)
  have key : ∀ c x (q : Nat), ent (takeP a b (2 * n) s.R).1 (joinC s.cls p c) x = (q : Int) → ∃ c', ent s.R (s.cls c') x = (q : Int) ∧ u.cls c' = u.cls c := fun c x q hq => by
    rw [hE] at hq
    by_cases e : joinC s.cls p c = a ∧ x < 2 * n ∧ ent s.R a x = -1
    · rw [if_pos e] at hq
      exact ⟨b, by rw [hrb]; exact hq, by rw [← hab, ← e.1, hFj]⟩
    · rw [if_neg e] at hq
      refine ⟨joinC s.cls p c, ?_, hFj c⟩
      have : s.cls (joinC s.cls p c) = joinC s.cls p c := by
        rw [hj]
        split
        · exact hra
        · exact h.cls.idem c
      rw [this]; exact hq
  refine ⟨⟨fun c x q hx hq => ?_, join_same h.cls hM.cls hp⟩, fun r hr => ?_⟩
  · obtain ⟨c', k1, k2⟩ := key c x q hq
    obtain ⟨b', k3, k4⟩ := hM.go c' x q hx k1
    exact ⟨b', by rw [← k2]; exact k3, k4⟩
  · obtain ⟨x, hx, rfl, e1, e2⟩ := takeP_pairs r hr
    obtain ⟨v1, hv1, _⟩ := h.nat e1
    obtain ⟨v2, hv2, _⟩ := h.nat e2
    obtain ⟨b1, k1, k2⟩ := hM.go a x v1 hx (by rw [hra]; exact hv1)
    obtain ⟨b2, k3, k4⟩ := hM.go b x v2 hx (by rw [hrb]; exact hv2)
    rw [← hab, k1] at k3
    have : b1 = b2 := by omega
    subst this
    show u.cls (ent s.R a x).toNat = u.cls (ent s.R b x).toNat
    rw [hv1, hv2, Int.toNat_natCast, Int.toNat_natCast]
    exact k2.symm.trans k4
theorem unite_emb {n : Nat} {u : Cos} : ∀ (m : Nat) {s : Cos} {ps : List (Int × Int)}, CInv n s → PairsIn s.R.length ps → Mor n s u → (∀ p ∈ ps, u.cls p.1.toNat = u.cls p.2.toNat) → Mor n (uniteF n m s ps) u
  | 0, s, ps, _, _, hF, _ => hF
  | m + 1, s, ps, h, hp, hF, hps => by
    rcases List.eq_nil_or_concat ps with e | ⟨qs, p, e⟩
    · subst e
      rw [uniteF_nil]
      exact hF
    · rw [List.concat_eq_append] at e
      subst e
      have hq : PairsIn s.R.length qs := fun p hp' => hp p (List.mem_append.2 (.inl hp'))
      have hpp := hp p (List.mem_append.2 (.inr (List.mem_singleton.2 rfl)))
      have hqs : ∀ p ∈ qs, u.cls p.1.toNat = u.cls p.2.toNat := fun p hp' => hps p (List.mem_append.2 (.inl hp'))
      have h1 : p.1.toNat < s.R.length := by omega
      have h2 : p.2.toNat < s.R.length := by omega
      by_cases e : s.cls p.1.toNat = s.cls p.2.toNat
      · rw [uniteF_skip e]
        exact unite_emb m h hq hF hqs
      · rw [uniteF_take e]
        obtain ⟨k1, k2⟩ := take_emb h hF (p := (p.1.toNat, p.2.toNat)) h1 h2 (hps p (List.mem_append.2 (.inr (List.mem_singleton.2 rfl))))
        have hi := (CInv.uniteF 1 h (ps := [p]) (fun r hr => hp r (List.mem_append.2 (.inr hr)))).1
        have hu1 : uniteF n 1 s [p] = ⟨(takeP (min (s.cls p.1.toNat) (s.cls p.2.toNat)) (max (s.cls p.1.toNat) (s.cls p.2.toNat)) (2 * n) s.R).1, joinC s.cls (p.1.toNat, p.2.toNat)⟩ := uniteF_take (n := n) (m := 0) (s := s) (ps := []) (p := p) e
        rw [hu1] at hi
        have hlen := takeP_len (min (s.cls p.1.toNat) (s.cls p.2.toNat)) (max (s.cls p.1.toNat) (s.cls p.2.toNat)) (2 * n) s.R
        refine unite_emb m hi (fun r hr => ?_) k1 (fun r hr => ?_)
        · rw [show (Cos.R ⟨(takeP (min (s.cls p.1.toNat) (s.cls p.2.toNat)) (max (s.cls p.1.toNat) (s.cls p.2.toNat)) (2 * n) s.R).1, joinC s.cls (p.1.toNat, p.2.toNat)⟩).length = s.R.length from hlen]
          rcases List.mem_append.1 hr with hr | hr
          · exact hq r hr
          · exact h.rng.pairs r hr
        · rcases List.mem_append.1 hr with hr | hr
          · exact hqs r hr
          · exact k2 r hr

/-- Cosets as they are opened, and as rows are gone through: the same. -/
structure Pair (n : Nat) (s t : Cos) : Prop where
  si : CInv n s
  sb : Back n s
  ti : CInv n t
  tc : CloseR n t
  st : Mor n s t
  ts : Mor n t s
  len : s.R.length = t.R.length
theorem Pair.cls_eq {n : Nat} {s t : Cos} (h : Pair n s t) : s.cls = t.cls := funext fun i => by
  have h1 := h.st.cls _ _ (h.si.cls.idem i)
  have h2 := h.ts.cls _ _ (h.ti.cls.idem i)
  have h3 := h.si.cls.le (t.cls i)
  have h4 := h.ti.cls.le (s.cls i)
  omega
theorem MorR.mor {n : Nat} {t u : Cos} (h : CInv n t) (k : MorR n t u) : Mor n t u := ⟨fun c x b hx e => by
  obtain ⟨q, h1, h2⟩ := k.go (t.cls c) x b hx e
  exact ⟨q, by rw [k.cls _ _ (h.cls.idem c)] at h1; exact h1, h2⟩, k.cls⟩
theorem Keeps.mor {n : Nat} {t u : Cos} (h : CInv n t) (hl : u.R.length = t.R.length) (hc : CloseR n u) (k : Keeps t u) : Mor n t u := ⟨fun c x b hx e => by
  have e' := k.ent _ _ _ e
  obtain ⟨⟨q, h1, h2⟩, _⟩ := hc (t.cls c) x (by rw [hl]; exact (h.lt_of e).1) hx b e'
  exact ⟨q, by rw [k.cls _ _ (h.cls.idem c)] at h1; exact h1, h2⟩, k.cls⟩

/-- Two become one: the same. -/
theorem Pair.same {n : Nat} {s t t' : Cos} (h : Pair n s t) {a b : Nat} (ha : a < s.R.length) (hb : b < s.R.length) (hi : CInv n t') (hl : t'.R.length = t.R.length) (hc : CloseR n t') (hk : Keeps t t') (hab : t'.cls a = t'.cls b)
    (hm : ∀ u, CInv n u → Back n u → MorR n t u → u.cls a = u.cls b → MorR n t' u) : Pair n (uniteP n s a b) t' := by
  obtain ⟨u1, u2⟩ := h.si.unite ha hb
  obtain ⟨m1, m2, m3⟩ := unite_math h.si h.sb ha hb
  refine ⟨u1, m2, hi, hc, ?_, ?_, by rw [u2, h.len, hl]⟩
  · exact unite_emb _ h.si (fun p hp => by
      obtain rfl := List.mem_singleton.1 hp
      exact ⟨by omega, by omega⟩) (h.st.trans (hk.mor h.ti hl hc)) (fun p hp => by
      obtain rfl := List.mem_singleton.1 hp
      simpa using hab)
  · refine (hm _ u1 m2 ⟨fun i x p hx e => ?_, fun i j e => m1.cls _ _ (h.ts.cls _ _ e)⟩ m3).mor hi
    obtain ⟨⟨q, h1, h2⟩, _⟩ := h.tc i x (h.ti.lt_of e).1 hx p e
    obtain ⟨b1, h3, h4⟩ := h.ts.go i x q hx h1
    obtain ⟨b2, h5, h6⟩ := m1.go i x b1 hx h3
    exact ⟨b2, h5, h6.trans ((m1.cls _ _ h4).trans (m1.cls _ _ (h.ts.cls _ _ h2)))⟩
theorem Pair.same_moves {n : Nat} {s t t' : Cos} (h : Pair n s t) {a b a' b' : Nat} (ha : a < s.R.length) (hb : b < s.R.length) (ha' : a' < t.R.length) (hb' : b' < t.R.length) (ea : t.cls a' = t.cls a) (eb : t.cls b' = t.cls b) (_hne : t.cls a' ≠ t.cls b') (hm : Moves n ⟨t.R, joinC t.cls (a', b')⟩ t') (hc : CloseR n t') : Pair n (uniteP n s a b) t' := by
  have hi0 : CInv n ⟨t.R, joinC t.cls (a', b')⟩ := ⟨h.ti.wide, h.ti.rng, h.ti.cls.join _, join_far h.ti.cls h.ti.far (p := (a', b')) ha' hb', h.ti.pos, h.ti.few⟩
  obtain ⟨k1, k2, _, k4⟩ := hm.inv hi0
  have k5 : Keeps t t' := Keeps.trans (u := ⟨t.R, joinC t.cls (a', b')⟩) ⟨fun _ _ _ e => e, fun _ _ e => joinC_keeps _ e⟩ k4
  refine h.same ha hb k1 k2 hc k5 ?_ (fun u hu hbu hM huab => hm.mor hi0 hu hbu ⟨hM.go, join_same h.ti.cls hM.cls (p := (a', b')) ?_⟩)
  · have := k4.cls _ _ (joinC_joins (cls := t.cls) (a', b'))
    rw [← k5.cls _ _ ea, ← k5.cls _ _ eb]
    exact this
  · show u.cls a' = u.cls b'
    rw [hM.cls _ _ ea, hM.cls _ _ eb]
    exact huab
theorem Pair.same_none {n : Nat} {s t : Cos} (h : Pair n s t) {a b : Nat} (ha : a < s.R.length) (hb : b < s.R.length) (he : t.cls a = t.cls b) : Pair n (uniteP n s a b) t :=
  h.same ha hb h.ti rfl h.tc (Keeps.refl t) he (fun _ _ _ hM _ => hM)

/-- One step along a column, as rows are gone through. -/
def stepR (n : Nat) (t : Cos) (a x : Nat) : Nat × Cos :=
  if ent t.R (t.cls a) x ≠ -1 then (t.cls (ent t.R (t.cls a) x).toNat, t)
  else (t.R.length, ⟨putE (putE (t.R ++ [newRow n]) (t.cls a) x t.R.length) t.R.length (backN x) (t.cls a), t.cls⟩)
theorem open_mor {n : Nat} {s t : Cos} (hs : CInv n s) (ht : CInv n t) (hM : Mor n s t) (hl : s.R.length = t.R.length) (hc : s.cls = t.cls) {a x : Nat} (ha : a < t.R.length) (hx : x < 2 * n) (_hz : ent t.R a x = -1) :
    Mor n ⟨putE (putE (s.R ++ [newRow n]) a x s.R.length) s.R.length (backN x) a, s.cls⟩ ⟨putE (putE (t.R ++ [newRow n]) a x t.R.length) t.R.length (backN x) a, t.cls⟩ := by
  refine ⟨fun d y b hy e => ?_, hM.cls⟩
  have e' : ent (putE (putE (s.R ++ [newRow n]) a x s.R.length) s.R.length (backN x) a) (s.cls d) y = (b : Int) := e
  show ∃ b' : Nat, ent (putE (putE (t.R ++ [newRow n]) a x t.R.length) t.R.length (backN x) a) (t.cls d) y = (b' : Int) ∧ t.cls b' = t.cls b
  rw [ent_open hs (by rw [hl]; exact ha) hx, hc, hl] at e'
  rw [ent_open ht ha hx]
  by_cases c1 : t.cls d = t.R.length ∧ y = backN x
  · rw [if_pos c1] at e' ⊢
    exact ⟨b, e', rfl⟩
  · rw [if_neg c1] at e' ⊢
    by_cases c2 : t.cls d = a ∧ y = x
    · rw [if_pos c2] at e' ⊢
      exact ⟨b, e', rfl⟩
    · rw [if_neg c2] at e' ⊢
      by_cases c3 : t.cls d < t.R.length
      · rw [if_pos c3] at e' ⊢
        exact hM.go d y b hy (by rw [hc]; exact e')
      · rw [if_neg c3] at e'; omega
theorem open_close {n : Nat} {t : Cos} (ht : CInv n t) (hc : CloseR n t) {a x : Nat} (ha : a < t.R.length) (hra : t.cls a = a) (hx : x < 2 * n) (hz : ent t.R a x = -1) : CloseR n ⟨putE (putE (t.R ++ [newRow n]) a x t.R.length) t.R.length (backN x) a, t.cls⟩ := by
  intro i y hi hy p e
  have hfN := ht.far t.R.length (Nat.le_refl _)
  have e' : ent (putE (putE (t.R ++ [newRow n]) a x t.R.length) t.R.length (backN x) a) i y = (p : Int) := e
  show (∃ q : Nat, ent (putE (putE (t.R ++ [newRow n]) a x t.R.length) t.R.length (backN x) a) (t.cls i) y = (q : Int) ∧ t.cls q = t.cls p) ∧ ∃ d : Nat, ent (putE (putE (t.R ++ [newRow n]) a x t.R.length) t.R.length (backN x) a) (t.cls p) (backN y) = (d : Int) ∧ t.cls d = t.cls i
  have hold : ∀ d y (b : Nat), ent t.R d y = (b : Int) → ent (putE (putE (t.R ++ [newRow n]) a x t.R.length) t.R.length (backN x) a) d y = (b : Int) := fun d y b hb => by
    have hd := (ht.lt_of hb).1
    rw [ent_open ht ha hx, if_neg (by omega), if_neg (fun e => by rw [e.1, e.2, hz] at hb; omega), if_pos hd]
    exact hb
  rw [ent_open ht ha hx] at e'
  by_cases c1 : i = t.R.length ∧ y = backN x
  · rw [if_pos c1] at e'
    obtain ⟨rfl, rfl⟩ := c1
    have : a = p := by omega
    subst this
    refine ⟨⟨a, ?_, rfl⟩, t.R.length, ?_, rfl⟩
    · rw [hfN, ent_open ht ha hx, if_pos ⟨rfl, rfl⟩]
    · rw [hra, back_back, ent_open ht ha hx, if_neg (by omega), if_pos ⟨rfl, rfl⟩]
  · rw [if_neg c1] at e'
    by_cases c2 : i = a ∧ y = x
    · rw [if_pos c2] at e'
      obtain ⟨rfl, rfl⟩ := c2
      have : t.R.length = p := by omega
      subst this
      refine ⟨⟨t.R.length, ?_, rfl⟩, i, ?_, rfl⟩
      · rw [hra, ent_open ht ha hx, if_neg (by omega), if_pos ⟨rfl, rfl⟩]
      · rw [hfN, ent_open ht ha hx, if_pos ⟨rfl, rfl⟩]
    · rw [if_neg c2] at e'
      by_cases c3 : i < t.R.length
      · rw [if_pos c3] at e'
        obtain ⟨⟨q, h1, h2⟩, d, h3, h4⟩ := hc i y c3 hy p e'
        exact ⟨⟨q, hold _ _ _ h1, h2⟩, d, hold _ _ _ h3, h4⟩
      · rw [if_neg c3] at e'; omega
/-- A step: the same. -/
theorem Pair.step {n : Nat} {s t : Cos} (h : Pair n s t) {c c' x : Nat} (hc : c < s.R.length) (hc' : c' < t.R.length) (hcc : t.cls c' = t.cls c) (hx : x < 2 * n) (h5 : t.R.length < 5000) :
    ∃ u s', stepP n s c x = some (u, s') ∧ Pair n s' (stepR n t c' x).2 ∧ s'.cls u = s'.cls (stepR n t c' x).1 ∧ (stepR n t c' x).1 < (stepR n t c' x).2.R.length ∧ s'.cls = s.cls ∧ s.R.length ≤ s'.R.length ∧ s'.R.length ≤ s.R.length + 1 ∧ u < s'.R.length := by
  have hcls := h.cls_eq
  by_cases e : ent t.R (t.cls c') x = -1
  · have e2 : ent s.R (s.cls c) x = -1 := by
      rcases Classical.em (ent s.R (s.cls c) x = -1) with k | k
      · exact k
      · obtain ⟨b, hb, _⟩ := h.si.nat k
        obtain ⟨b', hb', _⟩ := h.st.go c x b hx hb
        rw [← hcc, e] at hb'; omega
    have hstep : stepP n s c x = some (s.R.length, ⟨putE (putE (s.R ++ [newRow n]) (s.cls c) x s.R.length) s.R.length (backN x) (s.cls c), s.cls⟩) := by
      unfold stepP
      rw [if_neg (fun k => k e2), if_neg (by have := h.len; omega)]
    have hstepT : stepP n t c' x = some (t.R.length, ⟨putE (putE (t.R ++ [newRow n]) (t.cls c') x t.R.length) t.R.length (backN x) (t.cls c'), t.cls⟩) := by
      unfold stepP
      rw [if_neg (fun k => k e), if_neg (by omega)]
    have hR : stepR n t c' x = (t.R.length, ⟨putE (putE (t.R ++ [newRow n]) (t.cls c') x t.R.length) t.R.length (backN x) (t.cls c'), t.cls⟩) := by
      unfold stepR
      rw [if_neg (fun k => k e)]
    obtain ⟨s1, s2, s3⟩ := h.si.step hc hx hstep
    obtain ⟨t1, t2, t3⟩ := h.ti.step hc' hx hstepT
    obtain ⟨_, b2, _⟩ := step_math h.si h.sb hc hx hstep
    have hra := h.ti.cls.idem c'
    have hal := h.ti.cls_lt hc'
    have hls : (Cos.R ⟨putE (putE (s.R ++ [newRow n]) (s.cls c) x s.R.length) s.R.length (backN x) (s.cls c), s.cls⟩).length = s.R.length + 1 := open_len n s _ _ _ _
    have hlt : (Cos.R ⟨putE (putE (t.R ++ [newRow n]) (t.cls c') x t.R.length) t.R.length (backN x) (t.cls c'), t.cls⟩).length = t.R.length + 1 := open_len n t _ _ _ _
    have hsc : s.cls c = t.cls c' := by rw [hcls, hcc]
    refine ⟨_, _, hstep, ?_, ?_, ?_, rfl, ?_, ?_, ?_⟩
    · rw [hR]
      refine ⟨s1, b2, t1, open_close h.ti h.tc hal hra hx e, ?_, ?_, by rw [hls, hlt, h.len]⟩
      · rw [hsc]; exact open_mor h.si h.ti h.st h.len hcls hal hx e
      · rw [hsc]; exact open_mor h.ti h.si h.ts h.len.symm hcls.symm (by rw [h.len]; exact hal) hx (by rw [← hsc]; exact e2)
    · rw [hR]; show s.cls s.R.length = s.cls t.R.length; rw [h.len]
    · rw [hR]; exact t2
    · exact s3
    · rw [hls]; exact Nat.le_refl _
    · exact s2
  · obtain ⟨b, hb, hbl⟩ := h.ti.nat e
    obtain ⟨b', hb', hb2⟩ := h.ts.go c' x b hx hb
    rw [hcls, hcc, ← hcls] at hb'
    have hstep := stepP_old (n := n) (s := s) (c := c) (x := x) (by rw [hb']; omega)
    have hR : stepR n t c' x = (t.cls b, t) := by
      unfold stepR
      rw [if_pos e, hb, Int.toNat_natCast]
    rw [hb', Int.toNat_natCast] at hstep
    refine ⟨_, _, hstep, by rw [hR]; exact h, ?_, by rw [hR]; exact h.ti.cls_lt hbl, rfl, Nat.le_refl _, by omega, (h.si.lt_of hb').2⟩
    rw [hR]
    show s.cls b' = s.cls (t.cls b)
    rw [hb2, hcls, h.ti.cls.idem]

/-- What is told of both is the same. -/
theorem Pair.lead {n : Nat} {s t : Cos} (h : Pair n s t) {a x : Nat} (hra : s.cls a = a) (hx : x < 2 * n) (hs : ent s.R a x ≠ -1) : ent t.R a x ≠ -1 ∧ t.cls (ent t.R a x).toNat = s.cls (ent s.R a x).toNat := by
  have hcls := h.cls_eq
  obtain ⟨b, hb, _⟩ := h.si.nat hs
  obtain ⟨b', h1, h2⟩ := h.st.go a x b hx (by rw [hra]; exact hb)
  rw [← hcls, hra] at h1
  rw [h1, hb, Int.toNat_natCast, Int.toNat_natCast]
  exact ⟨by omega, by rw [h2, hcls]⟩

end Go.Proofs.YthcgabghkbgccaaDoor
