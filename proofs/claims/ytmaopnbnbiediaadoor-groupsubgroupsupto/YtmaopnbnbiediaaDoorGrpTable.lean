/- The table that is told is a table of cosets, numbered as it must be. No Go here. -/
import Derived.Test.YtmaopnbnbiediaaDoorGrpMath2
import Derived.Test.YtmaopnbnbiediaaDoorGrpTold
namespace Go.Proofs.YtmaopnbnbiediaaDoor

def scanR : Nat → List Int → Option Nat
  | nx, [] => some nx
  | nx, v :: vs => if (nx : Int) < v then none else if v = (nx : Int) then scanR (nx + 1) vs else scanR nx vs
def scanT : Nat → Nat → List (List Int) → Option Nat
  | _, nx, [] => some nx
  | i, nx, r :: rs => if nx ≤ i then none else match scanR nx r with
    | none => none
    | some nx' => scanT (i + 1) nx' rs
theorem scanR_app (v : Int) : ∀ (r : List Int) (nx nx' : Nat), scanR nx r = some nx' → scanR nx (r ++ [v]) = if (nx' : Int) < v then none else if v = (nx' : Int) then some (nx' + 1) else some nx'
  | [], nx, nx', h => by
    cases h
    show scanR nx [v] = _
    unfold scanR
    split
    · rfl
    · split
      · rfl
      · rfl
  | u :: r, nx, nx', h => by
    unfold scanR at h
    show scanR nx (u :: (r ++ [v])) = _
    rw [scanR]
    split at h
    · cases h
    · rename_i e
      rw [if_neg e]
      split at h
      · rename_i e2
        rw [if_pos e2]
        exact scanR_app v r _ _ h
      · rename_i e2
        rw [if_neg e2]
        exact scanR_app v r _ _ h
theorem scanT_app (r : List Int) : ∀ (rs : List (List Int)) (i nx nx' : Nat), scanT i nx rs = some nx' → scanT i nx (rs ++ [r]) = if nx' ≤ i + rs.length then none else scanR nx' r
  | [], i, nx, nx', h => by
    cases h
    show scanT i nx [r] = _
    rw [scanT]
    by_cases e : nx ≤ i
    · rw [if_pos e, if_pos (by simpa using e)]
    · rw [if_neg e, if_neg (by simpa using e)]
      cases scanR nx r <;> rfl
  | q :: rs, i, nx, nx', h => by
    unfold scanT at h
    show scanT i nx (q :: (rs ++ [r])) = _
    rw [scanT]
    split at h
    · cases h
    · rename_i e
      rw [if_neg e]
      cases e2 : scanR nx q with
      | none => rw [e2] at h; cases h
      | some n2 =>
        rw [e2] at h
        have := scanT_app r rs (i + 1) n2 nx' h
        show scanT (i + 1) n2 (rs ++ [r]) = _
        rw [this, List.length_cons, show i + 1 + rs.length = i + (rs.length + 1) by omega]
theorem rowK_scan (s : Cos) (a : Nat) : ∀ (k : Nat) (ord : List Nat), scanR ord.length (rowK s a k ord).2 = some (rowK s a k ord).1.length
  | 0, ord => rfl
  | k + 1, ord => by
    have ih := rowK_scan s a k ord
    obtain ⟨t, ht⟩ : ∃ t, s.cls (ent s.R a k).toNat = t := ⟨_, rfl⟩
    by_cases e : t ∈ (rowK s a k ord).1
    · rw [rowK_in ht e]
      have hid : (rowK s a k ord).1.idxOf t < (rowK s a k ord).1.length := List.idxOf_lt_length_iff.2 e
      show scanR ord.length ((rowK s a k ord).2 ++ [_]) = _
      rw [scanR_app _ _ _ _ ih, if_neg (by omega), if_neg (by omega)]
    · rw [rowK_out ht e]
      show scanR ord.length ((rowK s a k ord).2 ++ [_]) = _
      rw [scanR_app _ _ _ _ ih, if_neg (by omega), if_pos rfl]
      simp
/-- What a row of the table says. -/
def RowSays (n : Nat) (s : Cos) (ord : List Nat) (a : Nat) (r : List Int) : Prop := r.length = 2 * n ∧ ∀ x, x < 2 * n → ∃ v : Nat, r[x]? = some (v : Int) ∧ ord[v]? = some (s.cls (ent s.R a x).toNat)
theorem rowK_says (s : Cos) (a : Nat) : ∀ (k : Nat) (ord : List Nat) (x : Nat), x < k → ∃ v : Nat, (rowK s a k ord).2[x]? = some (v : Int) ∧ (rowK s a k ord).1[v]? = some (s.cls (ent s.R a x).toNat)
  | 0, ord, x, hx => by omega
  | k + 1, ord, x, hx => by
    obtain ⟨t, ht⟩ : ∃ t, s.cls (ent s.R a k).toNat = t := ⟨_, rfl⟩
    have hl := rowK_len s a k ord
    by_cases e : t ∈ (rowK s a k ord).1
    · rw [rowK_in ht e]
      by_cases hk : x < k
      · obtain ⟨v, h1, h2⟩ := rowK_says s a k ord x hk
        exact ⟨v, by rw [List.getElem?_append_left (by omega)]; exact h1, h2⟩
      · obtain rfl : x = k := by omega
        refine ⟨(rowK s a x ord).1.idxOf t, by rw [List.getElem?_append_right (by omega), hl, Nat.sub_self]; rfl, ?_⟩
        rw [ht]
        have hid : (rowK s a x ord).1.idxOf t < (rowK s a x ord).1.length := List.idxOf_lt_length_iff.2 e
        rw [List.getElem?_eq_getElem hid]
        exact congrArg some (List.getElem_idxOf hid)
    · rw [rowK_out ht e]
      by_cases hk : x < k
      · obtain ⟨v, h1, h2⟩ := rowK_says s a k ord x hk
        refine ⟨v, by rw [List.getElem?_append_left (by omega)]; exact h1, ?_⟩
        have hv : v < (rowK s a k ord).1.length := (List.getElem?_eq_some_iff.1 h2).1
        rw [List.getElem?_append_left hv]; exact h2
      · obtain rfl : x = k := by omega
        refine ⟨(rowK s a x ord).1.length, by rw [List.getElem?_append_right (by omega), hl, Nat.sub_self]; rfl, ?_⟩
        rw [List.getElem?_append_right (Nat.le_refl _), Nat.sub_self, ht]; rfl
theorem RowSays.more {n : Nat} {s : Cos} {ord ord' : List Nat} {a : Nat} {r : List Int} (h : RowSays n s ord a r) (hp : ord <+: ord') : RowSays n s ord' a r := by
  refine ⟨h.1, fun x hx => ?_⟩
  obtain ⟨v, h1, h2⟩ := h.2 x hx
  obtain ⟨q, rfl⟩ := hp
  have hv : v < ord.length := (List.getElem?_eq_some_iff.1 h2).1
  exact ⟨v, h1, by rw [List.getElem?_append_left hv]; exact h2⟩

/-- The table with its order. -/
structure OrdTab (n : Nat) (s : Cos) (ord : List Nat) (T : List (List Int)) : Prop where
  ok : OrdOk s ord
  zero : ord[0]? = some 0
  rows : ∀ (i a : Nat) (r : List Int), ord[i]? = some a → T[i]? = some r → RowSays n s ord a r
  scan : scanT 0 1 T = some ord.length
theorem told_math {n : Nat} {s : Cos} (hI : CInv n s) (hF : ∀ a, a < s.R.length → s.cls a = a → ∀ x, x < 2 * n → ent s.R a x ≠ -1) : ∀ (m i : Nat) (ord : List Nat) (out : List (List Int)), i + m = s.R.length + 1 → out.length = i → i ≤ ord.length → OrdTab n s ord out → ∃ ord', OrdTab n s ord' (toldF n s m i ord out) ∧ (toldF n s m i ord out).length = ord'.length
  | 0, i, ord, out, hm, hl, hi, h => by
    have := h.ok.few
    omega
  | m + 1, i, ord, out, hm, hl, hi, h => by
    by_cases hio : i < ord.length
    · obtain ⟨a, ha⟩ : ∃ a, ord[i]? = some a := ⟨_, List.getElem?_eq_getElem hio⟩
      have ham : a ∈ ord := List.mem_of_getElem? ha
      have hok := rowK_ok hI a h.ok (hF a (h.ok.lt a ham) (h.ok.root a ham)) (2 * n) (Nat.le_refl _)
      rw [toldF_step ha]
      have hle := hok.2.length_le
      refine told_math hI hF m (i + 1) _ _ (by omega) (by simp [hl]) (by omega) ⟨hok.1, ?_, fun j b r hj hr => ?_, ?_⟩
      · obtain ⟨q, hq⟩ := hok.2
        rw [← hq, List.getElem?_append_left (by omega)]
        exact h.zero
      · rcases Nat.lt_or_ge j i with hji | hji
        · rw [List.getElem?_append_left (by omega)] at hr
          obtain ⟨q, hq⟩ := hok.2
          rw [← hq, List.getElem?_append_left (by omega)] at hj
          exact (h.rows j b r hj hr).more hok.2
        · obtain rfl : j = i := by
            have := (List.getElem?_eq_some_iff.1 hr).1
            simp at this
            omega
          rw [List.getElem?_append_right (by omega), hl, Nat.sub_self] at hr
          obtain ⟨q, hq⟩ := hok.2
          rw [← hq, List.getElem?_append_left hio, ha] at hj
          obtain rfl := Option.some.inj hj
          have hr' : (rowK s a (2 * n) ord).2 = r := Option.some.inj hr
          rw [← hr']
          exact ⟨rowK_len s a (2 * n) ord, fun x hx => rowK_says s a (2 * n) ord x hx⟩
      · rw [scanT_app _ _ _ _ _ h.scan, if_neg (by omega)]
        exact rowK_scan s a (2 * n) ord
    · rw [toldF_end (by omega)]
      exact ⟨ord, h, by omega⟩

def tAt (T : List (List Int)) (i x : Nat) : Int := (T[i]?.getD [])[x]?.getD 0
def leadsP (T : List (List Int)) : Nat → List Int → Nat
  | i, [] => i
  | i, l :: ls => leadsP T (tAt T i (colN l)).toNat ls
/-- What is asked of a table of cosets. -/
structure TabOk (n : Nat) (rels words : List (List Int)) (T : List (List Int)) : Prop where
  pos : 0 < T.length
  wide : ∀ r ∈ T, r.length = 2 * n
  rng : ∀ i x, i < T.length → x < 2 * n → ∃ v : Nat, tAt T i x = (v : Int) ∧ v < T.length
  back : ∀ i x, i < T.length → x < 2 * n → tAt T (tAt T i x).toNat (backN x) = (i : Int)
  scan : scanT 0 1 T = some T.length
  holds : ∀ i, i < T.length → ∀ r ∈ rels, leadsP T i r = i
  words : ∀ w ∈ words, leadsP T 0 w = 0

theorem nodup_at {l : List Nat} (h : l.Nodup) {i j : Nat} {a : Nat} (hi : l[i]? = some a) (hj : l[j]? = some a) : i = j := by
  have h1 := (List.getElem?_eq_some_iff.1 hi)
  have h2 := (List.getElem?_eq_some_iff.1 hj)
  obtain ⟨k1, e1⟩ := h1
  obtain ⟨k2, e2⟩ := h2
  exact (List.getElem_inj h).1 (e1.trans e2.symm)

theorem tab_ok {n : Nat} {rels words : List (List Int)} {s : Cos} (hr : ∀ r ∈ rels, LettersIn n r) (hw : ∀ w ∈ words, LettersIn n w) (h : Found n rels words s) : TabOk n rels words (toldP n s) := by
  obtain ⟨ord, hO, hlen⟩ := told_math h.inv h.full (s.R.length + 1) 0 [0] [] (by omega) rfl (by simp) ⟨⟨by simp, fun a ha => by rw [List.mem_singleton.1 ha]; exact h.inv.pos, fun a ha => by rw [List.mem_singleton.1 ha]; have := h.inv.cls.le 0; omega⟩, rfl, fun i a r _ hr => by simp at hr, rfl⟩
  have e0 : toldF n s (s.R.length + 1) 0 [0] [] = toldP n s := rfl
  rw [e0] at hO hlen
  obtain ⟨T, hT⟩ : ∃ T, toldP n s = T := ⟨_, rfl⟩
  rw [hT] at hO hlen ⊢
  have hrow : ∀ i, i < T.length → ∃ a r, ord[i]? = some a ∧ T[i]? = some r ∧ RowSays n s ord a r ∧ s.cls a = a ∧ a < s.R.length := fun i hi => by
    have h1 : ord[i]? = some ord[i] := List.getElem?_eq_getElem (by omega)
    have h2 : T[i]? = some T[i] := List.getElem?_eq_getElem hi
    exact ⟨_, _, h1, h2, hO.rows i _ _ h1 h2, hO.ok.root _ (List.getElem_mem _), hO.ok.lt _ (List.getElem_mem _)⟩
  have hent : ∀ i a x, i < T.length → x < 2 * n → ord[i]? = some a → ∃ v : Nat, tAt T i x = (v : Int) ∧ ord[v]? = some (s.cls (ent s.R a x).toNat) := fun i a x hi hx ha => by
    obtain ⟨a', r, h1, h2, h3, _⟩ := hrow i hi
    rw [ha] at h1
    obtain rfl := Option.some.inj h1
    obtain ⟨v, k1, k2⟩ := h3.2 x hx
    exact ⟨v, by unfold tAt; rw [h2, Option.getD_some, k1]; rfl, k2⟩
  have hlead : ∀ (w : List Int) (i c d : Nat), LettersIn n w → i < T.length → ord[i]? = some c → goes s c w = some d → ord[leadsP T i w]? = some d := fun w => by
    induction w with
    | nil =>
      intro i c d _ hi hc hg
      rw [goes] at hg
      obtain ⟨a', r, h1, h2, h3, h4, _⟩ := hrow i hi
      rw [hc] at h1
      obtain rfl := Option.some.inj h1
      rw [h4] at hg
      rw [← hg]
      exact hc
    | cons l ls ih =>
      intro i c d hl hi hc hg
      have hlm := hl l (List.mem_cons_self ..)
      have hx := col_lt (n := n) hlm.1 hlm.2.1 hlm.2.2
      obtain ⟨a', r, h1, h2, h3, h4, _⟩ := hrow i hi
      rw [hc] at h1
      obtain rfl := Option.some.inj h1
      by_cases e1 : ent s.R (s.cls c) (colN l) = -1
      · rw [goes, if_pos e1] at hg; cases hg
      · obtain ⟨b, hb, _⟩ := h.inv.nat e1
        rw [goes_cons hb] at hg
        obtain ⟨v, k1, k2⟩ := hent i c (colN l) hi hx hc
        rw [h4] at hb
        rw [hb, Int.toNat_natCast] at k2
        have hv : v < T.length := by rw [hlen]; exact (List.getElem?_eq_some_iff.1 k2).1
        show ord[leadsP T (tAt T i (colN l)).toNat ls]? = some d
        rw [k1, Int.toNat_natCast]
        exact ih v (s.cls b) d (fun l' hl' => hl l' (List.mem_cons_of_mem _ hl')) hv k2 (by rw [goes_congr (h.inv.cls.idem b)]; exact hg)
  have hpos : 0 < T.length := by rw [hlen]; exact (List.getElem?_eq_some_iff.1 hO.zero).1
  refine ⟨hpos, fun r hr' => ?_, fun i x hi hx => ?_, fun i x hi hx => ?_, by rw [hO.scan, hlen], fun i hi r hr' => ?_, fun w hw' => ?_⟩
  · obtain ⟨i, hi, e⟩ := List.mem_iff_getElem.1 hr'
    obtain ⟨a, r2, h1, h2, h3, _⟩ := hrow i hi
    rw [List.getElem?_eq_getElem hi, e] at h2
    rw [Option.some.inj h2]
    exact h3.1
  · obtain ⟨a, r, h1, h2, h3, _⟩ := hrow i hi
    obtain ⟨v, k1, k2⟩ := hent i a x hi hx h1
    exact ⟨v, k1, by rw [hlen]; exact (List.getElem?_eq_some_iff.1 k2).1⟩
  · obtain ⟨a, r, h1, h2, h3, h4, h5⟩ := hrow i hi
    obtain ⟨v, k1, k2⟩ := hent i a x hi hx h1
    have hv : v < T.length := by rw [hlen]; exact (List.getElem?_eq_some_iff.1 k2).1
    obtain ⟨b, hb, _⟩ := h.inv.nat (h.full a h5 h4 x hx)
    rw [hb, Int.toNat_natCast] at k2
    obtain ⟨v', k3, k4⟩ := hent v (s.cls b) (backN x) hv (back_lt hx) k2
    obtain ⟨d, hd1, hd2⟩ := h.back a x b hx (by rw [h4]; exact hb)
    rw [hd1, Int.toNat_natCast, hd2, h4] at k4
    rw [k1, Int.toNat_natCast, k3, nodup_at hO.ok.nodup k4 h1]
  · obtain ⟨a, q, h1, h2, h3, h4, h5⟩ := hrow i hi
    have hc := (h.done a h5).1 r hr'
    have := hlead r i a (s.cls a) (hr r hr') hi h1 hc
    rw [h4] at this
    exact nodup_at hO.ok.nodup this h1
  · have hc := h.words w hw'
    have := hlead w 0 0 (s.cls 0) (hw w hw') hpos hO.zero hc
    have h0 : s.cls 0 = 0 := by have := h.inv.cls.le 0; omega
    rw [h0] at this
    exact nodup_at hO.ok.nodup this hO.zero

end Go.Proofs.YtmaopnbnbiediaaDoor
