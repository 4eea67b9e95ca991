/- What the reference's Put answers: the sorted list of faces with one more, in new memory or the very same. -/
import Derived.Test.YthmjdfjchhohgaaGreatDoorSorted
namespace Go.Proofs.YthmjdfjchhohgaaGreatDoor
open Go.RowKit Go.Sort

theorem order_at {l : List (List Int)} (h : Order l) {i j : Nat} (hi : i < j) (hj : j < l.length) : ahead (l[i]?.getD []) (l[j]?.getD []) = true := by
  have hi' : i < l.length := by omega
  have := (List.pairwise_iff_getElem.1 h) i j hi' hj hi
  simpa [hi', hj] using this

theorem ins_order {l : List (List Int)} {f : List Int} {j : Nat} (h : Order l) (hj : j ≤ l.length) (hlo : ∀ t, t < j → ahead (l[t]?.getD []) f = true) (hhi : ∀ t, j ≤ t → t < l.length → ahead (l[t]?.getD []) f = false) (hne : j < l.length → ¬ l[j]?.getD [] = f) :
    Order (l.take j ++ ([f] ++ l.drop j)) := by
  have hsp := List.pairwise_append.1 (show Order (l.take j ++ l.drop j) by rw [List.take_append_drop]; exact h)
  have h1 : ∀ a ∈ l.take j, ahead a f = true := fun a ha => by
    obtain ⟨t, ht, e⟩ := List.getElem_of_mem ha
    have ht' : t < j ∧ t < l.length := by simp at ht; omega
    have := hlo t ht'.1
    rw [List.getElem_take] at e
    simpa [ht'.2, e] using this
  have h2 : ∀ b ∈ l.drop j, ahead f b = true := fun b hb => by
    obtain ⟨t, ht, e⟩ := List.getElem_of_mem hb
    have hjl : j < l.length := by simp at ht; omega
    have h0 : ahead f (l[j]?.getD []) = true := by
      rcases ahead_total (l[j]?.getD []) f (hne hjl) with h3 | h3
      · rw [hhi j (Nat.le_refl _) hjl] at h3; cases h3
      · exact h3
    cases t with
    | zero =>
      rw [List.getElem_drop] at e
      simp only [Nat.add_zero] at e
      simpa [hjl, e] using h0
    | succ t =>
      have hlt : j + (t + 1) < l.length := by simp at ht; omega
      have h4 := order_at h (show j < j + (t + 1) by omega) hlt
      rw [List.getElem_drop] at e
      have := ahead_trans _ _ _ h0 h4
      simpa [hlt, e] using this
  rw [Order, List.pairwise_append]
  refine ⟨hsp.1, List.pairwise_append.2 ⟨by simp, hsp.2.1, fun a ha b hb => ?_⟩, fun a ha b hb => ?_⟩
  · simp at ha; subst ha; exact h2 b hb
  · rcases List.mem_append.1 hb with hb | hb
    · simp at hb; subst hb; exact h1 a ha
    · exact ahead_trans _ _ _ (h1 a ha) (h2 b hb)

theorem ins_mem' {α : Type} {out : List α} {j : Nat} {x : α} (v : α) : v ∈ out.take j ++ ([x] ++ out.drop j) ↔ v ∈ out ∨ v = x := by
  have : v ∈ out ↔ v ∈ out.take j ∨ v ∈ out.drop j := by rw [← List.mem_append, List.take_append_drop]
  rw [this]
  simp only [List.mem_append, List.mem_singleton]
  constructor
  · rintro (h | h | h)
    · exact .inl (.inl h)
    · exact .inr h
    · exact .inl (.inr h)
  · rintro ((h | h) | h)
    · exact .inl h
    · exact .inr (.inr h)
    · exact .inr (.inl h)

theorem IntsIn.one {S : Nat → Prop} {w : World} {v : Value} {xs : List Int} (h : IntsIn S w v xs) : v.oneCell' = true := by
  obtain ⟨a, cap, rfl, _⟩ := h
  rfl

/-- Rows, one of which is put among them, in new memory. -/
theorem rows_ins {S : Nat → Prop} {w w' : World} {vs : List Value} {l : List (List Int)} {vf v : Value} {f : List Int} {j base n : Nat} (hB : Below w.heap.size w w') (hl : vs.length = l.length) (hr : ∀ (k : Nat) (u : Value) (x : List Int), vs[k]? = some u → l[k]? = some x → IntsIn S w u x) (hf : IntsIn S w vf f) (hj : j ≤ l.length) (hS : ∀ b, base ≤ b → S b)
    (hown : w'.ownsRow base 23 1 v n (([] ++ vs.take j) ++ [vf] ++ vs.drop j)) : RowsIn S w' v (l.take j ++ ([f] ++ l.drop j)) := by
  have hs := slice_of_owns (S := S) hown (fun b h _ => hS b h)
  refine ⟨vs.take j ++ ([vf] ++ vs.drop j), by simpa using hs, by simp [hl], fun k u x hu hx => ?_⟩
  have hlt : (vs.take j).length = j := by simp; omega
  have hlt' : (l.take j).length = j := by simp; omega
  rw [List.getElem?_append] at hu hx
  rw [hlt] at hu
  rw [hlt'] at hx
  split at hu
  · rename_i hk
    rw [if_pos hk] at hx
    rw [List.getElem?_take, if_pos hk] at hu hx
    exact (hr k u x hu hx).below hB
  · rename_i hk
    rw [if_neg hk] at hx
    rw [List.getElem?_append] at hu hx
    simp only [List.length_singleton] at hu hx
    split at hu
    · rename_i hk2
      rw [if_pos hk2] at hx
      have : k - j = 0 := by omega
      rw [this] at hu hx
      simp at hu hx
      subst hu; subst hx
      exact hf.below hB
    · rename_i hk2
      rw [if_neg hk2] at hx
      rw [List.getElem?_drop] at hu hx
      exact (hr _ u x hu hx).below hB

theorem half_int (lo hi : Nat) : ((lo : Int) + hi).tdiv 2 = (((lo + hi) / 2 : Nat) : Int) := by
  rw [← Int.natCast_add, Int.tdiv_eq_ediv_of_nonneg (by omega)]
  omega

/-- What Put answers. -/
def PutSays (base : Nat) (l : List (List Int)) (f : List Int) (w : World) (e : Ending) (w' : World) : Prop :=
  ∃ v r, e = .returned v ∧ RowsIn (fun bl => base ≤ bl) w' v r ∧ Order r ∧ (∀ x, x ∈ r ↔ x ∈ l ∨ x = f) ∧ Below w.heap.size w w'
theorem PutSays.mk {base : Nat} {l : List (List Int)} {f : List Int} {w w' : World} {e : Ending} (v : Value) (r : List (List Int)) (h1 : e = .returned v) (h2 : RowsIn (fun bl => base ≤ bl) w' v r) (h3 : Order r) (h4 : ∀ x, x ∈ r ↔ x ∈ l ∨ x = f) (h5 : Below w.heap.size w w') : PutSays base l f w e w' := ⟨v, r, h1, h2, h3, h4, h5⟩

set_option maxRecDepth 100000 in
set_option maxHeartbeats 1000000 in
theorem put_ {base : Nat} (vl vf : Value) (l : List (List Int)) (f : List Int) (w : World) (hbase : base ≤ w.heap.size) (hl : RowsIn (fun bl => base ≤ bl) w vl l) (hf : IntsIn (fun bl => base ≤ bl) w vf f) (ho : Order l) (hll : l.length ≤ 1000) (hle : ∀ x ∈ l, x.length ≤ 1000) :
    Calls Tryz.prog 41 #[vl, vf] w fun e w' => PutSays base l f w e w' := by
  obtain ⟨i0, hi, hz0, hz1, hz2⟩ := info_parts Tryz.info23
  have HL : Hid (RowsIn (fun bl => base ≤ bl) w vl l) := hl
  have HO : Hid (Order l) := ho
  have HE : Hid (∀ x ∈ l, x.length ≤ 1000) := hle
  have HF : Hid (IntsIn (fun bl => base ≤ bl) w vf f) := hf
  obtain ⟨a, ca, rfl, hca, ha⟩ := hl.open_
  obtain ⟨af, cf, rfl, -, -⟩ := hf.open_
  clear ho hle hf
  go_enter Tryz.func41, Tryz.ntmps41
  go_wp2
  go_loopw [5, 6] (fun p q W => ∃ lo hi n : Nat, lo ≤ hi ∧ hi ≤ l.length ∧ p = .int .i64 lo ∧ q = .int .i64 hi ∧ W = w.drewN n ∧ (∀ t, t < lo → ahead (l[t]?.getD []) f = true) ∧ (∀ t, hi ≤ t → t < l.length → ahead (l[t]?.getD []) f = false))
    (fun p q _ => (intOf q).toNat - (intOf p).toNat)
  case atStart => exact ⟨0, l.length, 0, by omega, by omega, rfl, rfl, rfl, fun t ht => by omega, fun t h1 h2 => by omega⟩
  case round =>
    obtain ⟨lo, hi', n, hlh, hhl, rfl, rfl, hw, hlo, hhi⟩ := hrel
    have HW : Hid (wr = w.drewN n) := hw
    have HLO : Hid (∀ t, t < lo → ahead (l[t]?.getD []) f = true) := hlo
    have HHI : Hid (∀ t, hi' ≤ t → t < l.length → ahead (l[t]?.getD []) f = false) := hhi
    clear hlo hhi
    by_cases hlt : lo < hi'
    · obtain ⟨b, o, rfl, -, -, c⟩ := ha (by omega)
      have hm := half_int lo hi'
      obtain ⟨m, hme⟩ : ∃ m, (lo + hi') / 2 = m := ⟨_, rfl⟩
      have hm1 : lo ≤ m := by omega
      have hm2 : m < hi' := by omega
      rw [hme] at hm
      obtain ⟨a1, p1, g1, i1⟩ := c m (by omega)
      have hlen : (l[m]?.getD []).length ≤ 1000 := HE.out _ (by rw [List.getElem?_eq_getElem (by omega)]; simp)
      obtain ⟨x, hxe⟩ : ∃ x, l[m]?.getD [] = x := ⟨_, rfl⟩
      rw [hxe] at g1 i1 hlen
      have HX : Hid (l[m]?.getD [] = x) := hxe
      have g2 : wr.cell? ⟨b, o + m, none⟩ = some (.slice a1 x.length p1) := by rw [hw]; exact g1
      have hc := ahead_ _ _ x f wr (by rw [hw]; exact i1.any) (by rw [hw]; exact HF.out.any) (by omega)
      obtain ⟨c0, hce⟩ : ∃ c, ahead x f = c := ⟨_, rfl⟩
      rw [hce] at hc
      have HC : Hid (ahead x f = c0) := hce
      clear hce hxe g1 i1 c ha hme hw hl
      cases c0 with
      | true =>
        go_wp2_with (go_at_call 70; refine hc.mono ?_; rintro e w' ⟨rfl, q2, rfl⟩)
        go_roundw
        case rel => exact ⟨m + 1, hi', n + q2, by omega, by omega, by go_num, rfl, by rw [HW.out, World.drewN_drewN], fun t ht => by
          by_cases e : t = m
          · subst e; rw [HX.out]; exact HC.out
          · by_cases e2 : t < lo
            · exact HLO.out t e2
            · have := order_at HO.out (show t < m by omega) (by omega)
              rw [HX.out] at this
              exact ahead_trans _ _ _ this HC.out, HHI.out⟩
        case measure => simp [intOf]; omega
      | false =>
        go_wp2_with (go_at_call 70; refine hc.mono ?_; rintro e w' ⟨rfl, q2, rfl⟩)
        go_roundw
        case rel => exact ⟨lo, m, n + q2, by omega, by omega, rfl, by go_num, by rw [HW.out, World.drewN_drewN], HLO.out, fun t h1 h2 => by
          by_cases e : t = m
          · subst e; rw [HX.out]; exact HC.out
          · have := order_at HO.out (show m < t by omega) h2
            rw [HX.out] at this
            cases hh : ahead (l[t]?.getD []) f with
            | false => rfl
            | true => rw [ahead_trans _ _ _ this hh] at HC; exact HC.out⟩
        case measure => simp [intOf]; omega
    · obtain rfl : lo = hi' := by omega
      by_cases hll2 : lo < l.length
      · obtain ⟨b, o, rfl, -, -, c⟩ := ha (by omega)
        obtain ⟨a1, p1, g1, i1⟩ := c lo hll2
        have hlen : (l[lo]?.getD []).length ≤ 1000 := HE.out _ (by rw [List.getElem?_eq_getElem hll2]; simp)
        obtain ⟨x, hxe⟩ : ∃ x, l[lo]?.getD [] = x := ⟨_, rfl⟩
        rw [hxe] at g1 i1 hlen
        have HX : Hid (l[lo]?.getD [] = x) := hxe
        have g2 : wr.cell? ⟨b, o + lo, none⟩ = some (.slice a1 x.length p1) := by rw [hw]; exact g1
        have hc := same_ints _ _ x f wr (by rw [hw]; exact i1.any) (by rw [hw]; exact HF.out.any) (by omega)
        obtain ⟨c0, hce⟩ : ∃ c, decide (x = f) = c := ⟨_, rfl⟩
        rw [hce] at hc
        have HC : Hid (decide (x = f) = c0) := hce
        clear hce hxe g1 i1 c ha hw hl
        cases c0 with
        | true =>
          go_wp2_with (go_at_call 12; refine hc.mono ?_; rintro e w' ⟨rfl, q2, rfl⟩)
          go_ret
          have hin : f ∈ l := by
            have h1 := HX.out
            rw [of_decide_eq_true HC.out, List.getElem?_eq_getElem hll2, Option.getD_some] at h1
            exact List.mem_of_getElem h1
          refine .mk _ l rfl ?_ HO.out (fun x => ⟨.inl, fun h => h.elim id (fun e => e ▸ hin)⟩) ?_
          · rw [HW.out, World.drewN_drewN]; exact HL.out
          · rw [HW.out, World.drewN_drewN]; exact ⟨rfl, rfl, rfl, Nat.le_refl _, fun _ _ => rfl⟩
        | false =>
          have hBq : ∀ q2 W1, W1 = wr.drewN q2 → Below w.heap.size w W1 := fun q2 W1 h => by rw [h, HW.out, World.drewN_drewN]; exact ⟨rfl, rfl, rfl, Nat.le_refl _, fun _ _ => rfl⟩
          obtain ⟨vs, hs0, hvl, hvr⟩ := HL.out
          have hs := SliceIn.mono (S' := anyBlock) hs0 (fun _ _ _ => trivial)
          have hvone : ∀ c ∈ vs, c.oneCell' = true := fun c hc => by
            obtain ⟨t, ht, e⟩ := List.getElem_of_mem hc
            exact (hvr t c (l[t]'(by omega)) (by rw [List.getElem?_eq_getElem ht, e]) (List.getElem?_eq_getElem (by omega))).one
          have HVR : Hid (∀ (k : Nat) (u : Value) (x : List Int), vs[k]? = some u → l[k]? = some x → IntsIn (fun bl => base ≤ bl) w u x) := hvr
          clear hvr
          go_wp2_with (first
            | (go_at_call 12; refine hc.mono ?_; rintro e W1 ⟨rfl, q2, hW1⟩; have hB1 := hBq q2 W1 hW1; clear hW1; have hs1 := hs.below hB1)
                      | (at_builtin; refine wpList_append_slice rfl (.tmp 42) (.tmp 45) 22 rfl W1.heap.size 23 i0 (.slice none 0 0) 24 Tryz.underlying22 hi hz0 hz1 hz2 rfl (.slice none 0 0) 0 [] rfl (World.ownsRow_nil _ _ _ _) _ (vs.take lo) rfl (hs1.upto (by omega)) (one_take hvone _) (by simp; omega) (by unfold maxLen; simp; omega) (Nat.le_refl _) ?_; intro v1 w2 hown1 hg1 hl1)
            | (at_builtin; refine wpList_append_slice rfl (.tmp 47) (.tmp 49) 22 rfl W1.heap.size 23 i0 (.slice none 0 0) 24 Tryz.underlying22 hi hz0 hz1 hz2 rfl _ _ _ rfl (hown1.alloc _) _ [.slice af f.length cf] rfl (slice_one _ _ _) (by simp [Value.oneCell']) (by simp; omega) (by unfold maxLen; simp; omega) (by have := hg1.size; simp; omega) ?_; intro v2 w3 hown2 hg2 hl2; have hB3 := below_two hg1 hown1 hg2; have i4 := hs1.below hB3)
            | (at_builtin; refine wpList_append_slice rfl (.tmp 51) (.tmp 54) 22 rfl W1.heap.size 23 i0 (.slice none 0 0) 24 Tryz.underlying22 hi hz0 hz1 hz2 rfl _ _ _ rfl hown2 _ (vs.drop lo) rfl (by first | exact i4.behind (by omega) | exact i4.behind_at (by omega) | exact i4.behind_some (by omega)) (one_drop hvone _) (by simp; omega) (by unfold maxLen; simp; omega) hB3.size ?_; intro v3 w4 hown3 hg3 hl3; have hB4 := below_three hB3 hown2 hg3)
            | go_in)
          go_ret
          have hBw : Below w.heap.size w w4 := hB1.trans (hB4.mono hB1.size)
          exact .mk _ (l.take lo ++ ([f] ++ l.drop lo)) rfl (rows_ins hBw hvl HVR.out HF.out (by omega) (fun b h => Nat.le_trans hbase (Nat.le_trans hB1.size h)) hown3) (ins_order HO.out (by omega) HLO.out HHI.out (fun _ => by rw [HX.out]; exact of_decide_eq_false HC.out)) (fun x => ins_mem' x) hBw
      · obtain ⟨W1, hW1⟩ : ∃ W, W = wr := ⟨_, rfl⟩
        have hB1 : Below w.heap.size w W1 := by rw [hW1, hw]; exact ⟨rfl, rfl, rfl, Nat.le_refl _, fun _ _ => rfl⟩
        subst hW1
        clear ha hw hl
        obtain ⟨vs, hs0, hvl, hvr⟩ := HL.out
        have hs := SliceIn.mono (S' := anyBlock) hs0 (fun _ _ _ => trivial)
        have hvone : ∀ c ∈ vs, c.oneCell' = true := fun c hc => by
          obtain ⟨t, ht, e⟩ := List.getElem_of_mem hc
          exact (hvr t c (l[t]'(by omega)) (by rw [List.getElem?_eq_getElem ht, e]) (List.getElem?_eq_getElem (by omega))).one
        have HVR : Hid (∀ (k : Nat) (u : Value) (x : List Int), vs[k]? = some u → l[k]? = some x → IntsIn (fun bl => base ≤ bl) w u x) := hvr
        clear hvr
        have hs1 := hs.below hB1
        have hdn : vs.drop lo = [] := List.drop_of_length_le (by omega)
        by_cases hcl : ca = lo
        · subst hcl
          have HE2 : Hid (∀ W, SliceIn anyBlock W (.slice a 0 0) (vs.drop ca)) := fun W => SliceIn.empty (fun _ => rfl) rfl hdn
          clear hdn
          go_wp2_with (first
            | (at_builtin; refine wpList_append_slice rfl (.tmp 42) (.tmp 45) 22 rfl W1.heap.size 23 i0 (.slice none 0 0) 24 Tryz.underlying22 hi hz0 hz1 hz2 rfl (.slice none 0 0) 0 [] rfl (World.ownsRow_nil _ _ _ _) _ (vs.take ca) rfl (hs1.upto (by omega)) (one_take hvone _) (by simp; omega) (by unfold maxLen; simp; omega) (Nat.le_refl _) ?_; intro v1 w2 hown1 hg1 hl1)
            | (at_builtin; refine wpList_append_slice rfl (.tmp 47) (.tmp 49) 22 rfl W1.heap.size 23 i0 (.slice none 0 0) 24 Tryz.underlying22 hi hz0 hz1 hz2 rfl _ _ _ rfl (hown1.alloc _) _ [.slice af f.length cf] rfl (slice_one _ _ _) (by simp [Value.oneCell']) (by simp; omega) (by unfold maxLen; simp; omega) (by have := hg1.size; simp; omega) ?_; intro v2 w3 hown2 hg2 hl2; have hB3 := below_two hg1 hown1 hg2)
            | (at_builtin; refine wpList_append_slice rfl (.tmp 51) (.tmp 54) 22 rfl W1.heap.size 23 i0 (.slice none 0 0) 24 Tryz.underlying22 hi hz0 hz1 hz2 rfl _ _ _ rfl hown2 _ (vs.drop ca) rfl (HE2.out _) (one_drop hvone _) (by simp; omega) (by unfold maxLen; simp; omega) hB3.size ?_; intro v3 w4 hown3 hg3 hl3; have hB4 := below_three hB3 hown2 hg3)
            | go_in)
          go_ret
          have hBw : Below w.heap.size w w4 := hB1.trans (hB4.mono hB1.size)
          exact .mk _ (l.take ca ++ ([f] ++ l.drop ca)) rfl (rows_ins hBw hvl HVR.out HF.out (by omega) (fun b h => Nat.le_trans hbase (Nat.le_trans hB1.size h)) hown3) (ins_order HO.out (by omega) HLO.out HHI.out (fun h => absurd h hll2)) (fun x => ins_mem' x) hBw
        · have HE2 : Hid (∀ W, SliceIn anyBlock W (.slice (Option.map (fun x => x.add lo) a) (l.length - lo) (ca - lo)) (vs.drop lo)) := fun W => SliceIn.empty (fun h => by
            have := hca.2 (by simpa using h)
            omega) (by omega) hdn
          clear hdn
          go_wp2_with (first
            | (at_builtin; refine wpList_append_slice rfl (.tmp 42) (.tmp 45) 22 rfl W1.heap.size 23 i0 (.slice none 0 0) 24 Tryz.underlying22 hi hz0 hz1 hz2 rfl (.slice none 0 0) 0 [] rfl (World.ownsRow_nil _ _ _ _) _ (vs.take lo) rfl (hs1.upto (by omega)) (one_take hvone _) (by simp; omega) (by unfold maxLen; simp; omega) (Nat.le_refl _) ?_; intro v1 w2 hown1 hg1 hl1)
            | (at_builtin; refine wpList_append_slice rfl (.tmp 47) (.tmp 49) 22 rfl W1.heap.size 23 i0 (.slice none 0 0) 24 Tryz.underlying22 hi hz0 hz1 hz2 rfl _ _ _ rfl (hown1.alloc _) _ [.slice af f.length cf] rfl (slice_one _ _ _) (by simp [Value.oneCell']) (by simp; omega) (by unfold maxLen; simp; omega) (by have := hg1.size; simp; omega) ?_; intro v2 w3 hown2 hg2 hl2; have hB3 := below_two hg1 hown1 hg2)
            | (at_builtin; refine wpList_append_slice rfl (.tmp 51) (.tmp 54) 22 rfl W1.heap.size 23 i0 (.slice none 0 0) 24 Tryz.underlying22 hi hz0 hz1 hz2 rfl _ _ _ rfl hown2 _ (vs.drop lo) rfl (HE2.out _) (one_drop hvone _) (by simp; omega) (by unfold maxLen; simp; omega) hB3.size ?_; intro v3 w4 hown3 hg3 hl3; have hB4 := below_three hB3 hown2 hg3)
            | go_in)
          go_ret
          have hBw : Below w.heap.size w w4 := hB1.trans (hB4.mono hB1.size)
          exact .mk _ (l.take lo ++ ([f] ++ l.drop lo)) rfl (rows_ins hBw hvl HVR.out HF.out (by omega) (fun b h => Nat.le_trans hbase (Nat.le_trans hB1.size h)) hown3) (ins_order HO.out (by omega) HLO.out HHI.out (fun h => absurd h hll2)) (fun x => ins_mem' x) hBw

end Go.Proofs.YthmjdfjchhohgaaGreatDoor
